/- The model's TermVariables: a contract. -/
import Derived.Test.YtcijmhhajbgknaaInto
import Derived.Test.YtcijmhhajbgknaaSpecV
namespace Go.Proofs.Ytcijmhhajbgknaa
open Go.RowKit
set_option linter.unusedVariables false

theorem into_any (t : Tm) : IntoT t := Tm.ind (P := IntoT) (fun t ih => into_of t ih) t

theorem lv_nil (w : World) : LV (w.alloc (.cells #[] 9)) (.slice (some ⟨w.heap.size, 0, none⟩) 0 0) [] :=
  ⟨w.heap.size, 0, rfl, Nat.le_refl _, by simp, fun i hi => by simp at hi⟩

theorem vars_any (t : Tm) (w : World) (va : Value) (hv : TmS w va t.args) (hw : t.wt ≤ 1048576) (hz : t.sz ≤ 1048576) :
    Calls Try.prog 70 #[.agg #[.string t.name, va]] w (IntoEnd t [] w) := by
  obtain ⟨a, c, rfl⟩ := hv.is_slice
  have hB1 := (Below.refl w.heap.size w).alloc (Nat.le_refl _) (.cells #[.string t.name, .slice a t.args.length c] 24)
  have hB2 := hB1.alloc hB1.size (.cells #[] 9)
  have HB2 := Lib.hid hB2
  have HV := Lib.hid (hv.kept hB2)
  have HL := Lib.hid (lv_nil (w.alloc (.cells #[.string t.name, .slice a t.args.length c] 24)))
  have h2 := two_new w (.string t.name) (.slice a t.args.length c) 24 _ rfl
  have HC := Lib.hid (into_any t _ _ _ _ HV.out HL.out hw (by simpa using hz))
  have e : (w.alloc (.cells #[.string t.name, .slice a t.args.length c] 24)).heap.size = w.heap.size + 1 := by simp
  rw [e] at HC
  obtain ⟨b0, b1, b2⟩ := h2.alloc (.cells #[] 9)
  clear hB1 hB2 hv h2 e
  go_enter Try.func70, Try.ntmps70
  go_wp2_with fail
  refine HC.out.mono ?_
  rintro e w2 ⟨v2, rfl, hv2, hb2⟩
  have HR : Hid (IntoEnd t [] w (.returned v2) w2) := Lib.hid ⟨_, rfl, hv2, carry_below HB2.out (Nat.le_refl _) hb2⟩
  obtain ⟨b3, c3, rfl, _⟩ := hv2
  go_wp2
  go_ret
  exact HR.out

def varsL (t : Tm) : List ByteArray := if anyB t then t.into [] else []
def SVEnd (t : Tm) (w : World) (e : Ending) (w' : World) : Prop := ∃ v, e = .returned (.tuple #[v, .bool (anyB t)]) ∧ LV w' v (varsL t) ∧ Below w.heap.size w w'

theorem specVars_any (t : Tm) (w : World) (va : Value) (hv : TmS w va t.args) (hw : t.wt ≤ 1048576) :
    Calls Try.prog 32 #[.agg #[.string t.name, va]] w (SVEnd t w) := by
  obtain ⟨a, c, rfl⟩ := hv.is_slice
  have HB1 := Lib.hid ((Below.refl w.heap.size w).alloc (Nat.le_refl _) (.cells #[.string t.name, .slice a t.args.length c] 24))
  have HV := Lib.hid (hv.kept HB1.out)
  have H2 := Lib.hid (two_new w (.string t.name) (.slice a t.args.length c) 24 _ rfl)
  have CA := Lib.hid (l2Any_any t _ _ HV.out hw)
  obtain ⟨b0, b1, b2⟩ := H2.out
  clear hv
  cases ha : anyB t with
  | false =>
    rw [ha] at CA
    have HL : Hid (varsL t = []) := Lib.hid (by simp [varsL, ha])
    have HA := Lib.hid ha
    clear ha
    go_enter Try.func32, Try.ntmps32
    go_wp2_with fail
    refine CA.out.mono ?_
    rintro e w2 ⟨rfl, hb⟩
    have HB2 := Lib.hid (carry_below HB1.out (Nat.le_refl _) hb)
    have HR : Hid (SVEnd t w (.returned (.tuple #[.slice (some ⟨w2.heap.size, 0, none⟩) 0 0, .bool false])) (w2.alloc (.cells #[] 9))) := Lib.hid ⟨_, by rw [HA.out], by rw [HL.out]; exact lv_nil w2, HB2.out.alloc HB2.out.size _⟩
    clear hb
    go_wp2
    go_ret2
    exact HR.out
  | true =>
    rw [ha] at CA
    have HL : Hid (varsL t = t.into []) := Lib.hid (by simp [varsL, ha])
    have hz : t.sz ≤ 1048576 := by
      have hft : t.sz ≤ 30 ∧ t.dp ≤ 8 := by simpa [fitsB] using anyB_fits ha
      omega
    have HA := Lib.hid ha
    clear ha
    go_enter Try.func32, Try.ntmps32
    go_wp2_with fail
    refine CA.out.mono ?_
    rintro e w2 ⟨rfl, hb⟩
    have HB2 := Lib.hid (carry_below HB1.out (Nat.le_refl _) hb)
    have HV2 := Lib.hid (HV.out.kept hb)
    obtain ⟨c0, c1, c2⟩ := H2.out.kept hb
    clear hb b0 b1 b2
    go_wp2_with fail
    refine (vars_any t _ _ HV2.out hw hz).mono ?_
    rintro e w3 ⟨v3, rfl, hv3, hb⟩
    have HR : Hid (SVEnd t w (.returned (.tuple #[v3, .bool true])) w3) := Lib.hid ⟨_, by rw [HA.out], by rw [HL.out]; exact hv3, carry_below HB2.out (Nat.le_refl _) hb⟩
    obtain ⟨b3, c3, rfl, _⟩ := hv3
    clear hb
    go_wp2
    go_ret2
    exact HR.out

end Go.Proofs.Ytcijmhhajbgknaa
