/- The order of literals, the model's and the program's: contracts, for literals of at most 1048576 names' bytes and arguments. -/
import Derived.Test.YtgpmdfhepanahaaGreatClM
import Derived.Test.YtgpmdfhepanahaaGreatOrdS
import Derived.Test.YtgpmdfhepanahaaGreatOrdI
namespace Go.Proofs.YtgpmdfhepanahaaGreat
open Go.RowKit
set_option linter.unusedVariables false

set_option maxHeartbeats 4000000 in
theorem l7Lit_any (a b : Lt) (w : World) (va vb : Value) (ha : TmS w va a.tm.args) (hb : TmS w vb b.tm.args) (hwa : a.tm.wt ≤ 1048576) (hwb : b.tm.wt ≤ 1048576) :
    Calls Tryz.prog 81 #[.agg #[.bool a.var, .string a.tm.name, va], .agg #[.bool b.var, .string b.tm.name, vb]] w (Ans (.int .i64 (ordLt a b)) w) := by
  obtain ⟨pa, ca, rfl⟩ := ha.is_slice
  obtain ⟨pb, cb, rfl⟩ := hb.is_slice
  have HB := Lib.hid (((Below.refl w.heap.size w).alloc (Nat.le_refl _) (.cells #[.bool a.var, .string a.tm.name, .slice pa a.tm.args.length ca] 86)).alloc (by simp) (.cells #[.bool b.var, .string b.tm.name, .slice pb b.tm.args.length cb] 86))
  have A2 := Lib.hid ((thr_new w (.bool a.var) (.string a.tm.name) (.slice pa a.tm.args.length ca) 86 _ rfl).alloc (.cells #[.bool b.var, .string b.tm.name, .slice pb b.tm.args.length cb] 86))
  have B2 := Lib.hid (thr_new (w.alloc (.cells #[.bool a.var, .string a.tm.name, .slice pa a.tm.args.length ca] 86)) (.bool b.var) (.string b.tm.name) (.slice pb b.tm.args.length cb) 86 (w.heap.size + 1) (by simp))
  have HCE := Lib.hid (l2Compare_any a.tm b.tm _ _ _ (ha.kept HB.out) (hb.kept HB.out) hwa hwb)
  have HR := Lib.hid (ordT_range a.tm b.tm)
  obtain ⟨z, hz⟩ : ∃ z, z = ordT a.tm b.tm := ⟨_, rfl⟩
  have HE : Hid (ordLt a b = if z ≠ 0 then z else if !a.var && b.var then -1 else if a.var && !b.var then 1 else 0) := Lib.hid (by rw [hz]; rfl)
  rw [← hz] at HCE HR
  obtain ⟨y, hy⟩ : ∃ y, y = ordLt a b := ⟨_, rfl⟩
  have HE : Hid (y = if z ≠ 0 then z else if !a.var && b.var then -1 else if a.var && !b.var then 1 else 0) := Lib.hid (by rw [hy]; exact HE.out)
  rw [← hy]
  clear ha hb hz hy
  generalize a.var = p at *
  generalize b.var = q at *
  cases p <;> cases q
  all_goals
    obtain ⟨a0, a1, a2, a3⟩ := A2.out
    obtain ⟨b0, b1, b2, b3⟩ := B2.out
    go_enter Tryz.func81, Tryz.ntmps81
    go_wp2_with fail
    refine HCE.out.mono ?_
    rintro e w1 ⟨rfl, hb⟩
    have HB1 := Lib.hid (carry_below HB.out (Nat.le_refl _) hb)
    have A3 := Lib.hid (A2.out.kept hb)
    have B3 := Lib.hid (B2.out.kept hb)
    clear a0 a1 a2 a3 b0 b1 b2 b3 hb
    obtain ⟨a0, a1, a2, a3⟩ := A3.out
    obtain ⟨b0, b1, b2, b3⟩ := B3.out
    by_cases h0 : z = 0
    · subst h0
      have HY := Lib.hid HE.out
      clear HE
      go_wp2
      go_ret
      exact ⟨ret_int (by rw [HY.out]; rfl), HB1.out⟩
    · have hne : (z != 0) = true := by simpa using h0
      have HH := Lib.hid h0
      clear h0
      go_wp2
      go_ret
      exact ⟨ret_int (by rw [HE.out, if_pos HH.out]), HB1.out⟩

set_option maxHeartbeats 4000000 in
theorem isLess_any (a b : Lt) (w : World) (va vb : Value) (ha : TmS w va a.tm.args) (hb : TmS w vb b.tm.args) (hwa : a.tm.wt ≤ 1048576) (hwb : b.tm.wt ≤ 1048576) :
    Calls Tryz.prog 116 #[.agg #[.bool a.var, .string a.tm.name, va], .agg #[.bool b.var, .string b.tm.name, vb]] w (Ans (.bool (lessLt a b)) w) := by
  obtain ⟨pa, ca, rfl⟩ := ha.is_slice
  obtain ⟨pb, cb, rfl⟩ := hb.is_slice
  have HB := Lib.hid (((Below.refl w.heap.size w).alloc (Nat.le_refl _) (.cells #[.bool a.var, .string a.tm.name, .slice pa a.tm.args.length ca] 86)).alloc (by simp) (.cells #[.bool b.var, .string b.tm.name, .slice pb b.tm.args.length cb] 86))
  have A2 := Lib.hid ((thr_new w (.bool a.var) (.string a.tm.name) (.slice pa a.tm.args.length ca) 86 _ rfl).alloc (.cells #[.bool b.var, .string b.tm.name, .slice pb b.tm.args.length cb] 86))
  have B2 := Lib.hid (thr_new (w.alloc (.cells #[.bool a.var, .string a.tm.name, .slice pa a.tm.args.length ca] 86)) (.bool b.var) (.string b.tm.name) (.slice pb b.tm.args.length cb) 86 (w.heap.size + 1) (by simp))
  have HCE := Lib.hid (compareExpr_any a.tm b.tm _ _ _ (ha.kept HB.out) (hb.kept HB.out) hwa hwb)
  have HR := Lib.hid (ordT_range a.tm b.tm)
  obtain ⟨z, hz⟩ : ∃ z, z = ordT a.tm b.tm := ⟨_, rfl⟩
  have HE : Hid (lessLt a b = (decide (z < 0) || (decide (z = 0) && (!a.var && b.var)))) := Lib.hid (by rw [hz]; rfl)
  rw [← hz] at HCE HR
  rw [HE.out]
  clear ha hb hz HE
  generalize a.var = p at *
  generalize b.var = q at *
  obtain ⟨a0, a1, a2, a3⟩ := A2.out
  obtain ⟨b0, b1, b2, b3⟩ := B2.out
  go_enter Tryz.func116, Tryz.ntmps116
  go_wp2_with fail
  refine HCE.out.mono ?_
  rintro e w1 ⟨rfl, hb⟩
  have HB1 := Lib.hid (carry_below HB.out (Nat.le_refl _) hb)
  have A3 := Lib.hid (A2.out.kept hb)
  have B3 := Lib.hid (B2.out.kept hb)
  clear a0 a1 a2 a3 b0 b1 b2 b3 hb
  obtain ⟨a0, a1, a2, a3⟩ := A3.out
  obtain ⟨b0, b1, b2, b3⟩ := B3.out
  by_cases h0 : z = 0
  · subst h0
    cases p <;> cases q <;> (go_wp2; go_ret; exact ⟨rfl, HB1.out⟩)
  · by_cases h1 : z < 0
    · have HF : Hid ((decide (z < 0) || (decide (z = 0) && (!p && q))) = true) := Lib.hid (by simp [h1])
      clear h0
      go_wp2
      go_ret
      exact ⟨ret_bool HF.out.symm, HB1.out⟩
    · have HF : Hid ((decide (z < 0) || (decide (z = 0) && (!p && q))) = false) := Lib.hid (by simp [h1, h0])
      have hne : (z == 0) = false := by simpa using h0
      have hd : decide (z < 0) = false := by simpa using h1
      have HH := Lib.hid hd
      clear h0 h1
      go_wp2
      go_ret
      first | exact ⟨ret_bool HF.out.symm, HB1.out⟩ | exact ⟨ret_bool (by rw [HF.out, HH.out]), HB1.out⟩

end Go.Proofs.YtgpmdfhepanahaaGreat
