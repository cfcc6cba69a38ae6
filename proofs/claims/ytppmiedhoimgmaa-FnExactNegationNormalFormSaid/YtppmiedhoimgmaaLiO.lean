/- A literal as a formula, its atom in blocks of the call's own, the program's: a contract. No condition. -/
import Derived.Test.YtppmiedhoimgmaaNnM
import Derived.Test.YtppmiedhoimgmaaToF
namespace Go.Proofs.Ytppmiedhoimgmaa
open Go.RowKit
set_option linter.unusedVariables false
set_option linter.unusedSimpArgs false

def LitO (p : Bool) (a : Tm) (S : Nat → Prop) (w : World) (e : Ending) (w' : World) : Prop :=
  ∃ va vp, e = .returned (.agg #[.int .i64 (litG p a).op, .string (litG p a).atom.name, va, .string (litG p a).var, vp]) ∧ FOwn w' (fun k => S k ∨ Fresh w w' k) (litG p a) va vp ∧ Below w.heap.size w w'

set_option maxRecDepth 100000 in
set_option maxHeartbeats 4000000 in
theorem litOwn_any (p : Bool) (a : Tm) (S : Nat → Prop) (w : World) (va : Value) (ho : TmO w S va a.args) (hS : ∀ k, S k → k < w.heap.size) :
    Calls Try.prog 151 #[.agg #[.bool p, .string a.name, va]] w (LitO p a S w) := by
  obtain ⟨pa, ca, rfl⟩ := ho.read.is_slice
  have HO := Lib.hid ho
  have HS := Lib.hid hS
  obtain ⟨WA, hWA⟩ : ∃ W, W = (w.alloc (.cells #[.bool p, .string a.name, .slice pa a.args.length ca] 164)).alloc (.cells #[.int .i64 0, .string ⟨#[]⟩, .slice none 0 0, .string ⟨#[]⟩, .slice none 0 0] 68) := ⟨_, rfl⟩
  have HTA : Hid (Thr WA w.heap.size (.bool p) (.string a.name) (.slice pa a.args.length ca)) := Lib.hid (by rw [hWA]; exact (thr_new w _ _ _ 164 _ rfl).alloc _)
  obtain ⟨d0, d1, d2, d3⟩ := HTA.out
  rw [hWA] at d0 d1 d2 d3
  clear ho hS hWA
  cases p with
  | true =>
    go_enter Try.func151, Try.ntmps151
    go_wp2
    clear d0 d1 d2 d3
    obtain ⟨W7, hW7⟩ : ∃ W7, W7 = ((w.alloc (.cells #[.bool true, .string a.name, .slice pa a.args.length ca] 164)).alloc (.cells #[.int .i64 3, .string a.name, .slice pa a.args.length ca, .string ⟨#[]⟩, .slice none 0 0] 68)).alloc (.cells #[.int .i64 3, .string a.name, .slice pa a.args.length ca, .string ⟨#[]⟩, .slice none 0 0] 68) := ⟨_, rfl⟩
    rw [← hW7]
    have HB7 : Hid (Below w.heap.size w W7) := Lib.hid (by rw [hW7]; exact (((Below.refl w.heap.size w).alloc (Nat.le_refl _) _).alloc (by simp) _).alloc (by simp; omega) _)
    have HR7 : Hid (FivB W7 (w.heap.size + 1) (.int .i64 3) (.string a.name) (.slice pa a.args.length ca) (.string ⟨#[]⟩) (.slice none 0 0)) := Lib.hid (by rw [hW7]; exact ((fivB_new _ (.int .i64 3) (.string a.name) (.slice pa a.args.length ca) (.string ⟨#[]⟩) (.slice none 0 0) 68 (w.heap.size + 1) (by simp)).alloc _))
    clear hW7
    obtain ⟨r0, r1, r2, r3, r4, r5⟩ := HR7.out
    refine bodyPost_ret (v := .agg #[.int .i64 3, .string a.name, .slice pa a.args.length ca, .string ⟨#[]⟩, .slice none 0 0]) (by simp [results, Try.results151, go_sem, r0, r1, r2, r3, r4]) rfl ⟨.slice pa a.args.length ca, .slice none 0 0, rfl, ?_, HB7.out⟩
    exact (fown_at (a := a) (HO.out.frame fun k hk => HB7.out.block k (HS.out k hk)) _ rfl).mono fun k hk => .inl hk
  | false =>
    go_enter Try.func151, Try.ntmps151
    go_wp2
    clear d0 d1 d2 d3
    obtain ⟨W7, hW7⟩ : ∃ W7, W7 = (((w.alloc (.cells #[.bool false, .string a.name, .slice pa a.args.length ca] 164)).alloc (.cells #[.int .i64 4, .string ⟨#[]⟩, .slice none 0 0, .string ⟨#[]⟩, .slice (some ⟨w.heap.size + 1 + 1 + 1, 0, none⟩) 1 1] 68)).alloc (.cells #[.int .i64 3, .string a.name, .slice pa a.args.length ca, .string ⟨#[]⟩, .slice none 0 0] 68)).alloc (.cells #[.int .i64 3, .string a.name, .slice pa a.args.length ca, .string ⟨#[]⟩, .slice none 0 0] 68) := ⟨_, rfl⟩
    rw [← hW7]
    have HB7 : Hid (Below w.heap.size w W7) := Lib.hid (by rw [hW7]; exact ((((Below.refl w.heap.size w).alloc (Nat.le_refl _) _).alloc (by simp) _).alloc (by simp; omega) _).alloc (by simp; omega) _)
    have HR7 : Hid (FivB W7 (w.heap.size + 1) (.int .i64 4) (.string ⟨#[]⟩) (.slice none 0 0) (.string ⟨#[]⟩) (.slice (some ⟨w.heap.size + 1 + 1 + 1, 0, none⟩) 1 1)) := Lib.hid (by rw [hW7]; exact ((fivB_new _ (.int .i64 4) (.string ⟨#[]⟩) (.slice none 0 0) (.string ⟨#[]⟩) (.slice (some ⟨w.heap.size + 1 + 1 + 1, 0, none⟩) 1 1) 68 (w.heap.size + 1) (by simp)).alloc _).alloc _)
    have HG7 : Hid (FivB W7 (w.heap.size + 1 + 1 + 1) (.int .i64 3) (.string a.name) (.slice pa a.args.length ca) (.string ⟨#[]⟩) (.slice none 0 0)) := Lib.hid (by rw [hW7]; exact fivB_new _ _ _ _ _ _ _ _ (by simp))
    have hz7 : W7.heap.size = w.heap.size + 1 + 1 + 1 + 1 := by rw [hW7]; simp
    clear hW7
    obtain ⟨r0, r1, r2, r3, r4, r5⟩ := HR7.out
    refine bodyPost_ret (v := .agg #[.int .i64 4, .string ⟨#[]⟩, .slice none 0 0, .string ⟨#[]⟩, .slice (some ⟨w.heap.size + 1 + 1 + 1, 0, none⟩) 1 1]) (by simp [results, Try.results151, go_sem, r0, r1, r2, r3, r4]) rfl ⟨.slice none 0 0, .slice (some ⟨w.heap.size + 1 + 1 + 1, 0, none⟩) 1 1, rfl, ?_, HB7.out⟩
    exact fown_un (t := atG a) (fown_at (a := a) (HO.out.frame fun k hk => HB7.out.block k (HS.out k hk)) _ rfl) HG7.out.fiv HG7.out.2.2.2.2.2 (fun h => by have := HS.out _ h; omega) (fun k hk => .inl hk) (.inr ⟨by omega, by omega⟩) (Nat.le_refl _)
end Go.Proofs.Ytppmiedhoimgmaa
