/- Validity of a literal and of a clause, comparison of literals: both sides' contracts, for at most 1048576 names' bytes, literals and arguments. -/
import Derived.Test.YtmlenhjhkpgcnaaClS
import Derived.Test.YtmlenhjhkpgcnaaClP
import Derived.Test.YtmlenhjhkpgcnaaOrdX
namespace Go.Proofs.Ytmlenhjhkpgcnaa
open Go.RowKit
set_option linter.unusedVariables false

set_option maxHeartbeats 1000000 in
theorem specVLit_any (p : Bool) (t : Tm) (w : World) (va : Value) (hv : TmS w va t.args) (hw : t.wt ≤ 1048576) :
    Calls Try.prog 15 #[.agg #[.bool p, .string t.name, va]] w (Ans (.bool (atomB t)) w) := by
  obtain ⟨pa, ca, rfl⟩ := hv.is_slice
  have HV := Lib.hid hv
  have HB := Lib.hid ((Below.refl w.heap.size w).alloc (Nat.le_refl _) (.cells #[.bool p, .string t.name, .slice pa t.args.length ca] 33))
  clear hv
  go_enter Try.func15, Try.ntmps15
  go_wp2_with fail
  refine (l2Atom_any t _ _ (HV.out.kept HB.out) hw).mono ?_
  rintro e w1 ⟨rfl, hb⟩
  have HB1 := Lib.hid (carry_below HB.out (Nat.le_refl _) hb)
  clear hb
  go_wp2
  go_ret
  exact ⟨rfl, HB1.out⟩

set_option maxHeartbeats 1000000 in
theorem implVLit_any (p : Bool) (t : Tm) (w : World) (va : Value) (hv : TmS w va t.args) (hw : t.wt ≤ 1048576) :
    Calls Try.prog 17 #[.agg #[.bool p, .string t.name, va]] w (Ans (.bool (atomB t)) w) := by
  obtain ⟨pa, ca, rfl⟩ := hv.is_slice
  have HV := Lib.hid hv
  have HB := Lib.hid ((Below.refl w.heap.size w).alloc (Nat.le_refl _) (.cells #[.bool p, .string t.name, .slice pa t.args.length ca] 33))
  clear hv
  go_enter Try.func17, Try.ntmps17
  go_wp2_with fail
  refine (isLiteral_any p t _ _ (HV.out.kept HB.out) hw).mono ?_
  rintro e w1 ⟨rfl, hb⟩
  have HB1 := Lib.hid (carry_below HB.out (Nat.le_refl _) hb)
  clear hb
  go_wp2
  go_ret
  exact ⟨rfl, HB1.out⟩

set_option maxHeartbeats 1000000 in
theorem specVCl_any (l : List Lt) (w : World) (v : Value) (hv : LtS w v l) (hw : wtC l ≤ 1048576) :
    Calls Try.prog 20 #[.agg #[v]] w (Ans (.bool (goodC l)) w) := by
  obtain ⟨pa, ca, rfl⟩ := hv.is_slice
  have HV := Lib.hid hv
  have HB := Lib.hid ((Below.refl w.heap.size w).alloc (Nat.le_refl _) (.cells #[.slice pa l.length ca] 44))
  clear hv
  go_enter Try.func20, Try.ntmps20
  go_wp2_with fail
  refine (l7Good_any l _ _ (HV.out.kept HB.out) hw).mono ?_
  rintro e w1 ⟨rfl, hb⟩
  have HB1 := Lib.hid (carry_below HB.out (Nat.le_refl _) hb)
  clear hb
  go_wp2
  go_ret
  exact ⟨rfl, HB1.out⟩

set_option maxHeartbeats 1000000 in
theorem implVCl_any (l : List Lt) (w : World) (v : Value) (hv : LtS w v l) (hw : wtC l ≤ 1048576) :
    Calls Try.prog 22 #[.agg #[v]] w (Ans (.bool (goodC l)) w) := by
  obtain ⟨pa, ca, rfl⟩ := hv.is_slice
  have HV := Lib.hid hv
  have HB := Lib.hid ((Below.refl w.heap.size w).alloc (Nat.le_refl _) (.cells #[.slice pa l.length ca] 44))
  clear hv
  go_enter Try.func22, Try.ntmps22
  go_wp2_with fail
  refine (isClause_any l _ _ (HV.out.kept HB.out) hw).mono ?_
  rintro e w1 ⟨rfl, hb⟩
  have HB1 := Lib.hid (carry_below HB.out (Nat.le_refl _) hb)
  clear hb
  go_wp2
  go_ret
  exact ⟨rfl, HB1.out⟩

/-- CompareLiterals' answer. -/
def cmpLA (a b : Lt) : Int := if atomB a.tm = true ∧ atomB b.tm = true then ordLt a b else 0
def cmpLB (a b : Lt) : Bool := atomB a.tm && atomB b.tm

set_option maxHeartbeats 2000000 in
theorem specCmpL_any (a b : Lt) (w : World) (va vb : Value) (hva : TmS w va a.tm.args) (hvb : TmS w vb b.tm.args) (hwa : a.tm.wt ≤ 1048576) (hwb : b.tm.wt ≤ 1048576) :
    Calls Try.prog 24 #[.agg #[.bool a.var, .string a.tm.name, va], .agg #[.bool b.var, .string b.tm.name, vb]] w (Ans (.tuple #[.int .i64 (cmpLA a b), .bool (cmpLB a b)]) w) := by
  obtain ⟨pa, ca, rfl⟩ := hva.is_slice
  obtain ⟨pb, cb, rfl⟩ := hvb.is_slice
  have HVA := Lib.hid hva
  have HVB := Lib.hid hvb
  have H2A := Lib.hid ((thr_new w (.bool a.var) (.string a.tm.name) (.slice pa a.tm.args.length ca) 33 _ rfl).alloc (.cells #[.bool b.var, .string b.tm.name, .slice pb b.tm.args.length cb] 33))
  have H2B := Lib.hid (thr_new (w.alloc (.cells #[.bool a.var, .string a.tm.name, .slice pa a.tm.args.length ca] 33)) (.bool b.var) (.string b.tm.name) (.slice pb b.tm.args.length cb) 33 (w.heap.size + 1) (by simp))
  have HB := Lib.hid (((Below.refl w.heap.size w).alloc (Nat.le_refl _) (.cells #[.bool a.var, .string a.tm.name, .slice pa a.tm.args.length ca] 33)).alloc (by simp) (.cells #[.bool b.var, .string b.tm.name, .slice pb b.tm.args.length cb] 33))
  clear hva hvb
  go_enter Try.func24, Try.ntmps24
  go_wp2_with fail
  refine (l2Atom_any a.tm _ _ (HVA.out.kept HB.out) hwa).mono ?_
  rintro e w1 ⟨rfl, hb⟩
  have HB1 := Lib.hid (carry_below HB.out (Nat.le_refl _) hb)
  have H2A1 := Lib.hid (H2A.out.kept hb)
  have H2B1 := Lib.hid (H2B.out.kept hb)
  obtain ⟨a0, a1, a2, a3⟩ := H2A.out.kept hb
  obtain ⟨b0, b1, b2, b3⟩ := H2B.out.kept hb
  clear hb
  cases hf : atomB a.tm with
  | false =>
    have HF : Hid (cmpLA a b = 0) := Lib.hid (if_neg (by rintro ⟨h1, h2⟩; rw [hf] at h1; cases h1))
    have HFF : Hid (cmpLB a b = false) := Lib.hid (by simp [cmpLB, hf])
    clear hf
    go_wp2
    go_ret2
    exact ⟨ret_pair HF.out.symm HFF.out.symm, HB1.out⟩
  | true =>
    have HFA := Lib.hid hf
    clear hf
    go_wp2_with fail
    refine (l2Atom_any b.tm _ _ (HVB.out.kept HB1.out) hwb).mono ?_
    rintro e w2 ⟨rfl, hb⟩
    have HB2 := Lib.hid (carry_below HB1.out (Nat.le_refl _) hb)
    obtain ⟨a0, a1, a2, a3⟩ := H2A1.out.kept hb
    obtain ⟨b0, b1, b2, b3⟩ := H2B1.out.kept hb
    clear hb
    cases hf : atomB b.tm with
    | false =>
      have HF : Hid (cmpLA a b = 0) := Lib.hid (if_neg (by rintro ⟨h1, h2⟩; rw [hf] at h2; cases h2))
      have HFF : Hid (cmpLB a b = false) := Lib.hid (by simp [cmpLB, hf])
      clear hf
      go_wp2
      go_ret2
      exact ⟨ret_pair HF.out.symm HFF.out.symm, HB2.out⟩
    | true =>
      have HF : Hid (cmpLA a b = ordLt a b) := Lib.hid (if_pos ⟨HFA.out, hf⟩)
      have HFF : Hid (cmpLB a b = true) := Lib.hid (by rw [cmpLB, HFA.out, hf]; rfl)
      clear hf
      go_wp2_with fail
      refine (l7Lit_any a b _ _ _ (HVA.out.kept HB2.out) (HVB.out.kept HB2.out) hwa hwb).mono ?_
      rintro e w3 ⟨rfl, hb⟩
      have HB3 := Lib.hid (carry_below HB2.out (Nat.le_refl _) hb)
      clear hb
      go_wp2
      go_ret2
      exact ⟨ret_pair HF.out.symm HFF.out.symm, HB3.out⟩

theorem less_lt {a b : Lt} (h : lessLt a b = true) : ordLt a b = -1 := by
  have h1 := less_ord a b
  have h2 := ordLt_range a b
  rw [h] at h1
  have h3 : ¬ (0 ≤ ordLt a b) := by simpa using h1.symm
  omega
theorem less_no {a b : Lt} (h : lessLt a b = false) : 0 ≤ ordLt a b := by
  have h1 := less_ord a b
  rw [h] at h1
  simpa using h1.symm


set_option maxHeartbeats 2000000 in
theorem compareL_any (a b : Lt) (w : World) (va vb : Value) (hva : TmS w va a.tm.args) (hvb : TmS w vb b.tm.args) (hwa : a.tm.wt ≤ 1048576) (hwb : b.tm.wt ≤ 1048576) :
    Calls Try.prog 66 #[.agg #[.bool a.var, .string a.tm.name, va], .agg #[.bool b.var, .string b.tm.name, vb]] w (Ans (.int .i64 (ordLt a b)) w) := by
  obtain ⟨pa, ca, rfl⟩ := hva.is_slice
  obtain ⟨pb, cb, rfl⟩ := hvb.is_slice
  have HVA := Lib.hid hva
  have HVB := Lib.hid hvb
  have H2A := Lib.hid ((thr_new w (.bool a.var) (.string a.tm.name) (.slice pa a.tm.args.length ca) 33 _ rfl).alloc (.cells #[.bool b.var, .string b.tm.name, .slice pb b.tm.args.length cb] 33))
  have H2B := Lib.hid (thr_new (w.alloc (.cells #[.bool a.var, .string a.tm.name, .slice pa a.tm.args.length ca] 33)) (.bool b.var) (.string b.tm.name) (.slice pb b.tm.args.length cb) 33 (w.heap.size + 1) (by simp))
  have HB := Lib.hid (((Below.refl w.heap.size w).alloc (Nat.le_refl _) (.cells #[.bool a.var, .string a.tm.name, .slice pa a.tm.args.length ca] 33)).alloc (by simp) (.cells #[.bool b.var, .string b.tm.name, .slice pb b.tm.args.length cb] 33))
  clear hva hvb
  go_enter Try.func66, Try.ntmps66
  go_wp2_with fail
  refine (isLess_any a b _ _ _ (HVA.out.kept HB.out) (HVB.out.kept HB.out) hwa hwb).mono ?_
  rintro e w1 ⟨rfl, hb⟩
  have HB1 := Lib.hid (carry_below HB.out (Nat.le_refl _) hb)
  have H2A1 := Lib.hid (H2A.out.kept hb)
  have H2B1 := Lib.hid (H2B.out.kept hb)
  obtain ⟨a0, a1, a2, a3⟩ := H2A.out.kept hb
  obtain ⟨b0, b1, b2, b3⟩ := H2B.out.kept hb
  clear hb
  cases hf : lessLt a b with
  | true =>
    have HF := Lib.hid (less_lt hf)
    clear hf
    go_wp2
    go_ret
    exact ⟨ret_int HF.out.symm, HB1.out⟩
  | false =>
    have HFA := Lib.hid hf
    clear hf
    go_wp2_with fail
    refine (isLess_any b a _ _ _ (HVB.out.kept HB1.out) (HVA.out.kept HB1.out) hwb hwa).mono ?_
    rintro e w2 ⟨rfl, hb⟩
    have HB2 := Lib.hid (carry_below HB1.out (Nat.le_refl _) hb)
    clear hb
    cases hf : lessLt b a with
    | true =>
      have HF : Hid (ordLt a b = 1) := Lib.hid (by have h := less_lt hf; have h2 := ordLt_flip a b; omega)
      clear hf
      go_wp2
      go_ret
      exact ⟨ret_int HF.out.symm, HB2.out⟩
    | false =>
      have HF : Hid (ordLt a b = 0) := Lib.hid (by have h := less_no hf; have h2 := less_no HFA.out; have h3 := ordLt_flip a b; omega)
      clear hf
      go_wp2
      go_ret
      exact ⟨ret_int HF.out.symm, HB2.out⟩

set_option maxHeartbeats 2000000 in
theorem implCmpL_any (a b : Lt) (w : World) (va vb : Value) (hva : TmS w va a.tm.args) (hvb : TmS w vb b.tm.args) (hwa : a.tm.wt ≤ 1048576) (hwb : b.tm.wt ≤ 1048576) :
    Calls Try.prog 25 #[.agg #[.bool a.var, .string a.tm.name, va], .agg #[.bool b.var, .string b.tm.name, vb]] w (Ans (.tuple #[.int .i64 (cmpLA a b), .bool (cmpLB a b)]) w) := by
  obtain ⟨pa, ca, rfl⟩ := hva.is_slice
  obtain ⟨pb, cb, rfl⟩ := hvb.is_slice
  have HVA := Lib.hid hva
  have HVB := Lib.hid hvb
  have H2A := Lib.hid ((thr_new w (.bool a.var) (.string a.tm.name) (.slice pa a.tm.args.length ca) 33 _ rfl).alloc (.cells #[.bool b.var, .string b.tm.name, .slice pb b.tm.args.length cb] 33))
  have H2B := Lib.hid (thr_new (w.alloc (.cells #[.bool a.var, .string a.tm.name, .slice pa a.tm.args.length ca] 33)) (.bool b.var) (.string b.tm.name) (.slice pb b.tm.args.length cb) 33 (w.heap.size + 1) (by simp))
  have HB := Lib.hid (((Below.refl w.heap.size w).alloc (Nat.le_refl _) (.cells #[.bool a.var, .string a.tm.name, .slice pa a.tm.args.length ca] 33)).alloc (by simp) (.cells #[.bool b.var, .string b.tm.name, .slice pb b.tm.args.length cb] 33))
  clear hva hvb
  go_enter Try.func25, Try.ntmps25
  go_wp2_with fail
  refine (implVLit_any a.var a.tm _ _ (HVA.out.kept HB.out) hwa).mono ?_
  rintro e w1 ⟨rfl, hb⟩
  have HB1 := Lib.hid (carry_below HB.out (Nat.le_refl _) hb)
  have H2A1 := Lib.hid (H2A.out.kept hb)
  have H2B1 := Lib.hid (H2B.out.kept hb)
  obtain ⟨a0, a1, a2, a3⟩ := H2A.out.kept hb
  obtain ⟨b0, b1, b2, b3⟩ := H2B.out.kept hb
  clear hb
  cases hf : atomB a.tm with
  | false =>
    have HF : Hid (cmpLA a b = 0) := Lib.hid (if_neg (by rintro ⟨h1, h2⟩; rw [hf] at h1; cases h1))
    have HFF : Hid (cmpLB a b = false) := Lib.hid (by simp [cmpLB, hf])
    clear hf
    go_wp2
    go_ret2
    exact ⟨ret_pair HF.out.symm HFF.out.symm, HB1.out⟩
  | true =>
    have HFA := Lib.hid hf
    clear hf
    go_wp2_with fail
    refine (implVLit_any b.var b.tm _ _ (HVB.out.kept HB1.out) hwb).mono ?_
    rintro e w2 ⟨rfl, hb⟩
    have HB2 := Lib.hid (carry_below HB1.out (Nat.le_refl _) hb)
    obtain ⟨a0, a1, a2, a3⟩ := H2A1.out.kept hb
    obtain ⟨b0, b1, b2, b3⟩ := H2B1.out.kept hb
    clear hb
    cases hf : atomB b.tm with
    | false =>
      have HF : Hid (cmpLA a b = 0) := Lib.hid (if_neg (by rintro ⟨h1, h2⟩; rw [hf] at h2; cases h2))
      have HFF : Hid (cmpLB a b = false) := Lib.hid (by simp [cmpLB, hf])
      clear hf
      go_wp2
      go_ret2
      exact ⟨ret_pair HF.out.symm HFF.out.symm, HB2.out⟩
    | true =>
      have HF : Hid (cmpLA a b = ordLt a b) := Lib.hid (if_pos ⟨HFA.out, hf⟩)
      have HFF : Hid (cmpLB a b = true) := Lib.hid (by rw [cmpLB, HFA.out, hf]; rfl)
      clear hf
      go_wp2_with fail
      refine (compareL_any a b _ _ _ (HVA.out.kept HB2.out) (HVB.out.kept HB2.out) hwa hwb).mono ?_
      rintro e w3 ⟨rfl, hb⟩
      have HB3 := Lib.hid (carry_below HB2.out (Nat.le_refl _) hb)
      clear hb
      go_wp2
      go_ret2
      exact ⟨ret_pair HF.out.symm HFF.out.symm, HB3.out⟩

end Go.Proofs.Ytmlenhjhkpgcnaa
