/- The model's Positions: a contract, for terms of at most 1048576 names' bytes and arguments. -/
import Derived.Test.YtojlijbmjmigjaaPosS
import Derived.Test.YtojlijbmjmigjaaSubI
namespace Go.Proofs.Ytojlijbmjmigjaa
open Go.RowKit
set_option linter.unusedVariables false

/-- What the positions of a term are. -/
def posA (t : Tm) : List (List Int) := if anyB t = true then posT [] t else []

def PosEnd (t : Tm) (w : World) (e : Ending) (w' : World) : Prop := ∃ v, e = .returned (.tuple #[v, .bool (anyB t)]) ∧ Acc w' w.heap.size v (posA t) ∧ Below w.heap.size w w'

theorem fits_iff {t : Tm} : fitsB t = true ↔ t.sz ≤ 30 ∧ t.dp ≤ 8 := by simp [fitsB]

theorem Acc.none_ (w : World) (base : Nat) (hb : base ≤ w.heap.size) : Acc (w.alloc (.cells #[] 43)) base (.slice (some ⟨w.heap.size, 0, none⟩) 0 0) [] :=
  ⟨[], _, World.ownsRow_lit w #[] 0 hb (by decide) (by simp), Rws.nil _ _, fun g hg k hk => absurd hk (Nat.not_lt_zero _)⟩

theorem pos_nil (w : World) (o : Obj) : PosV (w.alloc o) (.slice (some ⟨w.heap.size, 0, none⟩) 0 0) [] := ⟨_, 0, rfl, by simp, fun k x h => by simp at h⟩

set_option maxRecDepth 100000 in
set_option maxHeartbeats 1000000 in
theorem specPos_any (t : Tm) (w : World) (va : Value) (hv : TmS w va t.args) (hw : t.wt ≤ 1048576) :
    Calls Try.prog 44 #[.agg #[.string t.name, va]] w (PosEnd t w) := by
  obtain ⟨a, c, rfl⟩ := hv.is_slice
  have HV := Lib.hid hv
  have H2 := Lib.hid (two_new w (.string t.name) (.slice a t.args.length c) 29 _ rfl)
  have HB := Lib.hid ((Below.refl w.heap.size w).alloc (Nat.le_refl _) (.cells #[.string t.name, .slice a t.args.length c] 29))
  clear hv
  go_enter Try.func44, Try.ntmps44
  go_wp2_with fail
  refine (l2Any_any t _ _ (HV.out.kept HB.out) hw).mono ?_
  rintro e w1 ⟨rfl, hb⟩
  have HB1 := Lib.hid (carry_below HB.out (Nat.le_refl _) hb)
  obtain ⟨b0, b1, b2⟩ := H2.out.kept hb
  have hz1 : w.heap.size ≤ w1.heap.size := HB1.out.size
  clear hb
  cases hf : anyB t with
  | false =>
    have HE : Hid (PosEnd t w (.returned (.tuple #[.slice (some ⟨w1.heap.size, 0, none⟩) 0 0, .bool false])) (w1.alloc (.cells #[] 43))) := Lib.hid ⟨_, by rw [hf], by simp only [posA, hf]; exact Acc.none_ w1 _ hz1, HB1.out.alloc hz1 _⟩
    clear hf
    go_wp2
    go_ret2
    exact HE.out
  | true =>
    have hd : ([] : List Int).length + t.dp ≤ 1048576 := by
      have h2 := (fits_iff.1 (anyB_fits hf)).2
      simp; omega
    have C1 := Lib.hid (walk_any t [] (w1.alloc (.cells #[] 3)) _ _ (HV.out.kept (HB1.out.alloc hz1 _)) (pos_nil w1 (.cells #[] 3)) hw hd)
    have HA : Hid (posA t = posT [] t) := Lib.hid (by simp [posA, hf])
    have HAB := Lib.hid hf
    clear hf hd
    go_wp2_with (go_at_call 84; refine C1.out.mono ?_; rintro e w2 ⟨v2, rfl, hacc, hb⟩; have HE : Hid (PosEnd t w (.returned (.tuple #[v2, .bool true])) w2) := Lib.hid ⟨_, by rw [HAB.out], by rw [HA.out]; exact hacc.mono (by simp; omega), carry_below (HB1.out.alloc hz1 _) (Nat.le_refl _) hb⟩; clear hacc hb)
    go_ret2
    exact HE.out

end Go.Proofs.Ytojlijbmjmigjaa
