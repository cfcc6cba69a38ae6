/- The model's negation and pairs of formulas, and what the forms of a valid formula say of its negation normal form: contracts and facts. No condition. -/
import Derived.Test.YtppmiedhoimgmaaNnM
import Derived.Test.YtppmiedhoimgmaaToF
namespace Go.Proofs.Ytppmiedhoimgmaa
open Go.RowKit
set_option linter.unusedVariables false
set_option linter.unusedSimpArgs false

theorem bz {s : ByteArray} (h : s.size = 0) : s = ⟨#[]⟩ := by
  have e : s.data.size = 0 := h
  cases s with
  | mk d => cases d with
    | mk l => simp at e; subst e; rfl
theorem form_ops {t : Fm} (h : formB t = true) : t.op = 1 ∨ t.op = 2 ∨ t.op = 3 ∨ t.op = 4 ∨ t.op = 5 ∨ t.op = 6 ∨ t.op = 7 ∨ t.op = 8 ∨ t.op = 9 := by
  unfold formB at h
  split at h
  · omega
  split at h
  · omega
  split at h
  · omega
  split at h
  · omega
  split at h
  · omega
  · cases h
theorem form12 {t : Fm} (h : formB t = true) (ho : t.op = 1 ∨ t.op = 2) : t.var = ⟨#[]⟩ ∧ t.parts = [] := by
  unfold formB at h
  rw [if_pos ho] at h
  simp only [Bool.and_eq_true, decide_eq_true_eq] at h
  exact ⟨bz h.2.1, List.length_eq_zero_iff.1 h.2.2⟩
theorem word_nnf {t : Fm} {k r : Int} {g : Bool} (h : t.var = ⟨#[]⟩ ∧ t.parts = []) (ho : t.op = k) (hr : nop k g = r) (h3 : k ≠ 3 := by decide) (h4 : k ≠ 4 := by decide) : t.nnf g = .node r zT ⟨#[]⟩ [] := by
  rw [nnf_else (by omega) (by omega), h.1, h.2, ho, hr]; rfl
theorem form3_eq {t : Fm} (h : formB t = true) (ho : t.op = 3) : t = atG t.atom := by
  unfold formB at h
  rw [if_neg (by omega), if_pos ho] at h
  simp only [Bool.and_eq_true, decide_eq_true_eq] at h
  cases t with
  | node o a v l =>
    have h1 : v = ⟨#[]⟩ := bz h.2.1
    have h2 : l = [] := List.length_eq_zero_iff.1 h.2.2
    have h3 : o = 3 := ho
    subst h1; subst h2; subst h3; rfl
theorem form57 {t : Fm} (h : formB t = true) (ho : 5 ≤ t.op ∧ t.op ≤ 7) : ∃ x y, t.parts = [x, y] ∧ t.var = ⟨#[]⟩ := by
  unfold formB at h
  rw [if_neg (by omega), if_neg (by omega), if_neg (by omega), if_pos (by omega)] at h
  simp only [Bool.and_eq_true, decide_eq_true_eq] at h
  have h2 := h.2.2
  match hp : t.parts, h2 with
  | [x, y], _ => exact ⟨x, y, rfl, bz h.2.1⟩
  | [], h2 => simp at h2
  | [_], h2 => simp at h2
  | _ :: _ :: _ :: _, h2 => simp at h2
theorem form89 {t : Fm} (h : formB t = true) (ho : 8 ≤ t.op ∧ t.op ≤ 9) : ∃ x, t.parts = [x] := by
  unfold formB at h
  rw [if_neg (by omega), if_neg (by omega), if_neg (by omega), if_neg (by omega), if_pos (by omega)] at h
  simp only [Bool.and_eq_true, decide_eq_true_eq] at h
  exact List.length_eq_one_iff.1 h.2.2
theorem bin_nnf {t x y : Fm} {o : Int} {g q0 q1 : Bool} (hs : t.parts = [x, y]) (hv : t.var = ⟨#[]⟩) (ho : 5 ≤ t.op ∧ t.op ≤ 7) (h0 : polB t.op g 0 = q0) (h1 : polB t.op g 1 = q1) (hr : nop t.op g = o) : t.nnf g = .node o zT ⟨#[]⟩ [x.nnf q0, y.nnf q1] := by
  rw [nnf_else (by omega) (by omega), hs, hv, hr]
  simp only [Fm.nnfL, Nat.zero_add, h0, h1]
theorem un_nnf {t x : Fm} {o : Int} {g q0 : Bool} (hs : t.parts = [x]) (ho : 8 ≤ t.op ∧ t.op ≤ 9) (h0 : polB t.op g 0 = q0) (hr : nop t.op g = o) : t.nnf g = .node o zT t.var [x.nnf q0] := by
  rw [nnf_else (by omega) (by omega), hs, hr]
  simp only [Fm.nnfL, h0]

def UnO (o : Int) (v : ByteArray) (l : List Fm) (S : Nat → Prop) (w : World) (e : Ending) (w' : World) : Prop :=
  ∃ vp, e = .returned (.agg #[.int .i64 o, .string ⟨#[]⟩, .slice none 0 0, .string v, vp]) ∧ FOwn w' (fun k => S k ∨ Fresh w w' k) (.node o zT v l) (.slice none 0 0) vp ∧ Below w.heap.size w w'

theorem ten_cells (w : World) (x0 x1 x2 x3 x4 y0 y1 y2 y3 y4 : Value) (T : TypeId) (b : Nat) (hb : b = w.heap.size) : Fiv (w.alloc (.cells #[x0, x1, x2, x3, x4, y0, y1, y2, y3, y4] T)) b 0 x0 x1 x2 x3 x4 ∧ Fiv (w.alloc (.cells #[x0, x1, x2, x3, x4, y0, y1, y2, y3, y4] T)) b 5 y0 y1 y2 y3 y4 ∧ ∀ j, (w.alloc (.cells #[x0, x1, x2, x3, x4, y0, y1, y2, y3, y4] T)).frozen? ⟨b, j, none⟩ = false := by
  refine ⟨⟨?_, ?_, ?_, ?_, ?_⟩, ⟨?_, ?_, ?_, ?_, ?_⟩, fun j => World.frozen?_alloc_at _ _ _ _ hb⟩
  all_goals rw [World.cell?_alloc_at _ _ _ _ hb]; rfl

set_option maxRecDepth 100000 in
set_option maxHeartbeats 4000000 in
theorem not_any (t : Fm) (S : Nat → Prop) (w : World) (va vp : Value) (ho : FOwn w S t va vp) (hS : ∀ k, S k → k < w.heap.size) :
    Calls Try.prog 149 #[.agg #[.int .i64 t.op, .string t.atom.name, va, .string t.var, vp]] w (UnO 4 ⟨#[]⟩ [t] S w) := by
  obtain ⟨pa, ca, pp, cp, rfl, rfl⟩ := ho.read.open
  have HO := Lib.hid ho
  have HS := Lib.hid hS
  obtain ⟨d0, d1, d2, d3, d4, d5⟩ := (fivB_new w (.int .i64 t.op) (.string t.atom.name) (.slice pa t.atom.args.length ca) (.string t.var) (.slice pp t.parts.length cp) 68 _ rfl).alloc (.cells #[.int .i64 0, .string ⟨#[]⟩, .slice none 0 0, .string ⟨#[]⟩, .slice none 0 0] 68)
  clear ho hS
  go_enter Try.func149, Try.ntmps149
  go_wp2
  clear d0 d1 d2 d3 d4 d5
  obtain ⟨W7, hW7⟩ : ∃ W7, W7 = ((w.alloc (.cells #[.int .i64 t.op, .string t.atom.name, .slice pa t.atom.args.length ca, .string t.var, .slice pp t.parts.length cp] 68)).alloc (.cells #[.int .i64 4, .string ⟨#[]⟩, .slice none 0 0, .string ⟨#[]⟩, .slice (some ⟨w.heap.size + 1 + 1, 0, none⟩) 1 1] 68)).alloc (.cells #[.int .i64 t.op, .string t.atom.name, .slice pa t.atom.args.length ca, .string t.var, .slice pp t.parts.length cp] 68) := ⟨_, rfl⟩
  rw [← hW7]
  have HB7 : Hid (Below w.heap.size w W7) := Lib.hid (by rw [hW7]; exact (((Below.refl w.heap.size w).alloc (Nat.le_refl _) _).alloc (by simp) _).alloc (by simp; omega) _)
  have HR7 : Hid (FivB W7 (w.heap.size + 1) (.int .i64 4) (.string ⟨#[]⟩) (.slice none 0 0) (.string ⟨#[]⟩) (.slice (some ⟨w.heap.size + 1 + 1, 0, none⟩) 1 1)) := Lib.hid (by rw [hW7]; exact (fivB_new _ _ _ _ _ _ _ (w.heap.size + 1) (by simp)).alloc _)
  have HG7 : Hid (FivB W7 (w.heap.size + 1 + 1) (.int .i64 t.op) (.string t.atom.name) (.slice pa t.atom.args.length ca) (.string t.var) (.slice pp t.parts.length cp)) := Lib.hid (by rw [hW7]; exact fivB_new _ _ _ _ _ _ _ _ (by simp))
  have hz7 : W7.heap.size = w.heap.size + 1 + 1 + 1 := by rw [hW7]; simp
  clear hW7
  obtain ⟨r0, r1, r2, r3, r4, r5⟩ := HR7.out
  refine bodyPost_ret (v := .agg #[.int .i64 4, .string ⟨#[]⟩, .slice none 0 0, .string ⟨#[]⟩, .slice (some ⟨w.heap.size + 1 + 1, 0, none⟩) 1 1]) (by simp [results, Try.results149, go_sem, r0, r1, r2, r3, r4]) rfl ⟨.slice (some ⟨w.heap.size + 1 + 1, 0, none⟩) 1 1, rfl, ?_, HB7.out⟩
  exact fown_un (HO.out.frame fun k hk => HB7.out.block k (HS.out k hk)) HG7.out.fiv HG7.out.2.2.2.2.2 (fun h => by have := HS.out _ h; omega) (fun k hk => .inl hk) (.inr ⟨by omega, by omega⟩) (Nat.le_refl _)

set_option maxRecDepth 100000 in
set_option maxHeartbeats 4000000 in
theorem pair_any (o : Int) (a b : Fm) (SA SB : Nat → Prop) (w : World) (va vp vb vq : Value) (ha : FOwn w SA a va vp) (hb : FOwn w SB b vb vq) (hd : ∀ k, SA k → SB k → False) (hA : ∀ k, SA k → k < w.heap.size) (hB : ∀ k, SB k → k < w.heap.size) :
    Calls Try.prog 150 #[.int .i64 o, .agg #[.int .i64 a.op, .string a.atom.name, va, .string a.var, vp], .agg #[.int .i64 b.op, .string b.atom.name, vb, .string b.var, vq]] w (UnO o ⟨#[]⟩ [a, b] (fun k => SA k ∨ SB k) w) := by
  obtain ⟨pa, ca, pp, cp, rfl, rfl⟩ := ha.read.open
  obtain ⟨qa, da, qp, dp, rfl, rfl⟩ := hb.read.open
  have HA := Lib.hid ha
  have HB := Lib.hid hb
  have HSA := Lib.hid hA
  have HSB := Lib.hid hB
  have HD := Lib.hid hd
  obtain ⟨d0, d1, d2, d3, d4, d5⟩ := ((fivB_new w (.int .i64 a.op) (.string a.atom.name) (.slice pa a.atom.args.length ca) (.string a.var) (.slice pp a.parts.length cp) 68 _ rfl).alloc (.cells #[.int .i64 b.op, .string b.atom.name, .slice qa b.atom.args.length da, .string b.var, .slice qp b.parts.length dp] 68)).alloc (.cells #[.int .i64 0, .string ⟨#[]⟩, .slice none 0 0, .string ⟨#[]⟩, .slice none 0 0] 68)
  obtain ⟨e0, e1, e2, e3, e4, e5⟩ := (fivB_new (w.alloc (.cells #[.int .i64 a.op, .string a.atom.name, .slice pa a.atom.args.length ca, .string a.var, .slice pp a.parts.length cp] 68)) (.int .i64 b.op) (.string b.atom.name) (.slice qa b.atom.args.length da) (.string b.var) (.slice qp b.parts.length dp) 68 (w.heap.size + 1) (by simp)).alloc (.cells #[.int .i64 0, .string ⟨#[]⟩, .slice none 0 0, .string ⟨#[]⟩, .slice none 0 0] 68)
  clear ha hb hA hB hd
  go_enter Try.func150, Try.ntmps150
  go_wp2
  clear d0 d1 d2 d3 d4 d5 e0 e1 e2 e3 e4 e5
  obtain ⟨W7, hW7⟩ : ∃ W7, W7 = (((w.alloc (.cells #[.int .i64 a.op, .string a.atom.name, .slice pa a.atom.args.length ca, .string a.var, .slice pp a.parts.length cp] 68)).alloc (.cells #[.int .i64 b.op, .string b.atom.name, .slice qa b.atom.args.length da, .string b.var, .slice qp b.parts.length dp] 68)).alloc (.cells #[.int .i64 o, .string ⟨#[]⟩, .slice none 0 0, .string ⟨#[]⟩, .slice (some ⟨w.heap.size + 1 + 1 + 1, 0, none⟩) 2 2] 68)).alloc (.cells #[.int .i64 a.op, .string a.atom.name, .slice pa a.atom.args.length ca, .string a.var, .slice pp a.parts.length cp, .int .i64 b.op, .string b.atom.name, .slice qa b.atom.args.length da, .string b.var, .slice qp b.parts.length dp] 68) := ⟨_, rfl⟩
  rw [← hW7]
  have HB7 : Hid (Below w.heap.size w W7) := Lib.hid (by rw [hW7]; exact ((((Below.refl w.heap.size w).alloc (Nat.le_refl _) _).alloc (by simp) _).alloc (by simp; omega) _).alloc (by simp; omega) _)
  have HR7 : Hid (FivB W7 (w.heap.size + 1 + 1) (.int .i64 o) (.string ⟨#[]⟩) (.slice none 0 0) (.string ⟨#[]⟩) (.slice (some ⟨w.heap.size + 1 + 1 + 1, 0, none⟩) 2 2)) := Lib.hid (by rw [hW7]; exact (fivB_new _ _ _ _ _ _ _ (w.heap.size + 1 + 1) (by simp)).alloc _)
  have HG7 := Lib.hid (ten_cells ((((w.alloc (.cells #[.int .i64 a.op, .string a.atom.name, .slice pa a.atom.args.length ca, .string a.var, .slice pp a.parts.length cp] 68)).alloc (.cells #[.int .i64 b.op, .string b.atom.name, .slice qa b.atom.args.length da, .string b.var, .slice qp b.parts.length dp] 68)).alloc (.cells #[.int .i64 o, .string ⟨#[]⟩, .slice none 0 0, .string ⟨#[]⟩, .slice (some ⟨w.heap.size + 1 + 1 + 1, 0, none⟩) 2 2] 68))) (.int .i64 a.op) (.string a.atom.name) (.slice pa a.atom.args.length ca) (.string a.var) (.slice pp a.parts.length cp) (.int .i64 b.op) (.string b.atom.name) (.slice qa b.atom.args.length da) (.string b.var) (.slice qp b.parts.length dp) 68 (w.heap.size + 1 + 1 + 1) (by simp))
  rw [← hW7] at HG7
  have hz7 : W7.heap.size = w.heap.size + 1 + 1 + 1 + 1 := by rw [hW7]; simp
  clear hW7
  obtain ⟨r0, r1, r2, r3, r4, r5⟩ := HR7.out
  refine bodyPost_ret (v := .agg #[.int .i64 o, .string ⟨#[]⟩, .slice none 0 0, .string ⟨#[]⟩, .slice (some ⟨w.heap.size + 1 + 1 + 1, 0, none⟩) 2 2]) (by simp [results, Try.results150, go_sem, r0, r1, r2, r3, r4]) rfl ⟨.slice (some ⟨w.heap.size + 1 + 1 + 1, 0, none⟩) 2 2, rfl, ?_, HB7.out⟩
  exact fown_bin (HA.out.frame fun k hk => HB7.out.block k (HSA.out k hk)) (HB.out.frame fun k hk => HB7.out.block k (HSB.out k hk)) HD.out HG7.out.1 HG7.out.2.1 HG7.out.2.2 (fun h => by have := HSA.out _ h; omega) (fun h => by have := HSB.out _ h; omega) (fun k hk => .inl (.inl hk)) (fun k hk => .inl (.inr hk)) (.inr ⟨by omega, by omega⟩) (Nat.le_refl _)
end Go.Proofs.Ytppmiedhoimgmaa
