/- The model's TermVariables: a contract. -/
import Derived.Test.YtohalpafmcobpaaInto
import Derived.Test.YtohalpafmcobpaaSpecV
namespace Go.Proofs.Ytohalpafmcobpaa
open Go.RowKit
set_option linter.unusedVariables false

theorem into_any (t : Tm) : IntoT t := Tm.ind (P := IntoT) (fun t ih => into_of t ih) t

theorem lv_nil (w : World) : LV (w.alloc (.cells #[] 9)) (.slice (some ⟨w.heap.size, 0, none⟩) 0 0) [] :=
  ⟨w.heap.size, 0, rfl, Nat.le_refl _, by simp, fun i hi => by simp at hi⟩

theorem vars_any (t : Tm) (w : World) (va : Value) (hv : TmS w va t.args) (hw : t.wt ≤ 1048576) (hz : t.sz ≤ 1048576) :
    Calls Try.prog 119 #[.agg #[.string t.name, va]] w (IntoEnd t [] w) := by
  obtain ⟨a, c, rfl⟩ := hv.is_slice
  have hB1 := (Below.refl w.heap.size w).alloc (Nat.le_refl _) (.cells #[.string t.name, .slice a t.args.length c] 49)
  have hB2 := hB1.alloc hB1.size (.cells #[] 9)
  have HB2 := Lib.hid hB2
  have HV := Lib.hid (hv.kept hB2)
  have HL := Lib.hid (lv_nil (w.alloc (.cells #[.string t.name, .slice a t.args.length c] 49)))
  have h2 := two_new w (.string t.name) (.slice a t.args.length c) 49 _ rfl
  have HC := Lib.hid (into_any t _ _ _ _ HV.out HL.out hw (by simpa using hz))
  have e : (w.alloc (.cells #[.string t.name, .slice a t.args.length c] 49)).heap.size = w.heap.size + 1 := by simp
  rw [e] at HC
  obtain ⟨b0, b1, b2⟩ := h2.alloc (.cells #[] 9)
  clear hB1 hB2 hv h2 e
  go_enter Try.func119, Try.ntmps119
  go_wp2_with fail
  refine HC.out.mono ?_
  rintro e w2 ⟨v2, rfl, hv2, hb2⟩
  have HR : Hid (IntoEnd t [] w (.returned v2) w2) := Lib.hid ⟨_, rfl, hv2, carry_below HB2.out (Nat.le_refl _) hb2⟩
  obtain ⟨b3, c3, rfl, _⟩ := hv2
  go_wp2
  go_ret
  exact HR.out

def varsL (t : Tm) : List ByteArray := if anyB t then t.into [] else []
def SVEnd (t : Tm) (w : World) (e : Ending) (w' : World) : Prop := ∃ v, e = .returned (.tuple #[v, .bool (anyB t)]) ∧ LV w' v (varsL t) ∧ Below w.heap.size w w'

end Go.Proofs.Ytohalpafmcobpaa
