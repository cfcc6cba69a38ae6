/- Validity and text of a list of literals, as functions: facts on them. No condition. -/
import Derived.Test.YtgpmdfhepanahaaGreatLt
import Derived.Test.YtgpmdfhepanahaaGreatLit
import Derived.Test.YtgpmdfhepanahaaGreatOrd
import Derived.Test.YtgpmdfhepanahaaGreatLitF
namespace Go.Proofs.YtgpmdfhepanahaaGreat
open Go.RowKit
set_option linter.unusedVariables false

/-- The order of literals. -/
def ordLt (a b : Lt) : Int := if ordT a.tm b.tm ≠ 0 then ordT a.tm b.tm else if !a.var && b.var then -1 else if a.var && !b.var then 1 else 0
def lessLt (a b : Lt) : Bool := decide (ordT a.tm b.tm < 0) || (decide (ordT a.tm b.tm = 0) && (!a.var && b.var))
theorem less_ord (a b : Lt) : lessLt a b = !decide (0 ≤ ordLt a b) := by
  unfold lessLt ordLt
  by_cases h : ordT a.tm b.tm = 0
  · rw [h]
    cases a.var <;> cases b.var <;> simp
  · rw [if_pos h]
    by_cases h2 : ordT a.tm b.tm < 0
    · simp [h2]
    · simp [h, h2]; omega
theorem ordLt_range (a b : Lt) : -1 ≤ ordLt a b ∧ ordLt a b ≤ 1 := by
  have h := ordT_range a.tm b.tm
  unfold ordLt
  split
  · exact h
  · split
    · omega
    · split <;> omega

def okL (l : List Lt) (k : Nat) (d : Lt) : Bool :=
  atomB d.tm && (match k with
    | 0 => true
    | j + 1 => match l[j]? with
      | some p => lessLt p d
      | none => true)
def okLS (l : List Lt) (k : Nat) : Bool := (List.range k).all fun j => match l[j]? with
  | some d => okL l j d
  | none => true
theorem okLS_next {l : List Lt} {k : Nat} {d : Lt} (h : l[k]? = some d) : okLS l (k + 1) = (okLS l k && okL l k d) := by
  unfold okLS
  rw [List.range_succ, List.all_append]
  simp [h]
theorem okLS_no {l : List Lt} {k : Nat} {d : Lt} (h : l[k]? = some d) (ho : okL l k d = false) : okLS l l.length = false := by
  unfold okLS
  rw [List.all_eq_false]
  refine ⟨k, List.mem_range.2 (List.getElem?_eq_some_iff.1 h).1, ?_⟩
  simp [h, ho]
def goodC (l : List Lt) : Bool := decide (l.length ≤ 8) && okLS l l.length
theorem goodC_len {l : List Lt} (h : 8 < l.length) : goodC l = false := by unfold goodC; rw [decide_eq_false (by omega)]; rfl
theorem goodC_ok {l : List Lt} (h : l.length ≤ 8) : goodC l = okLS l l.length := by unfold goodC; rw [decide_eq_true h]; rfl
theorem goodC_no {l : List Lt} (h : okLS l l.length = false) : goodC l = false := by unfold goodC; rw [h]; simp
theorem okLS_at {l : List Lt} (h : okLS l l.length = true) {k : Nat} {d : Lt} (hk : l[k]? = some d) : okL l k d = true := by
  cases ho : okL l k d with
  | true => rfl
  | false => rw [okLS_no hk ho] at h; cases h
theorem goodC_atom {l : List Lt} (h : goodC l = true) {k : Nat} {d : Lt} (hk : l[k]? = some d) : atomB d.tm = true := by
  unfold goodC at h
  rw [Bool.and_eq_true] at h
  have h2 := okLS_at h.2 hk
  unfold okL at h2
  rw [Bool.and_eq_true] at h2
  exact h2.1
theorem okL_a {l : List Lt} {k : Nat} {d : Lt} (h : atomB d.tm = false) : okL l k d = false := by unfold okL; rw [h]; rfl
theorem okL_l {l : List Lt} {k : Nat} {p d : Lt} (hp : l[k]? = some p) (h : lessLt p d = false) : okL l (k + 1) d = false := by unfold okL; simp [hp, h]
theorem okL_0 {l : List Lt} {d : Lt} (h1 : atomB d.tm = true) : okL l 0 d = true := by unfold okL; simp [h1]
theorem okL_1 {l : List Lt} {k : Nat} {p d : Lt} (h1 : atomB d.tm = true) (hp : l[k]? = some p) (h : lessLt p d = true) : okL l (k + 1) d = true := by unfold okL; simp [h1, hp, h]
theorem limC_of_wt {l : List Lt} {m : Nat} (h : wtC l ≤ m) : limC m l :=
  ⟨Nat.le_trans (wtC_len l) h, fun d hd => Tm.lim_of_wt d.tm m (Nat.le_trans (wtC_tm hd) h)⟩

/-- The text of a literal, and of a list of them. -/
def ltTxt (d : Lt) : List UInt8 := litTxt d.var d.tm
def clC : List Lt → List UInt8
  | [] => []
  | d :: r => 32 :: 124 :: 32 :: (ltTxt d ++ clC r)
def clT : List Lt → List UInt8
  | [] => []
  | d :: r => ltTxt d ++ clC r
theorem clC_append (a b : List Lt) : clC (a ++ b) = clC a ++ clC b := by
  induction a with
  | nil => rfl
  | cons d r ih => simp [clC, ih]
theorem clT_next {l : List Lt} {k : Nat} {d : Lt} (h : l[k]? = some d) (hk : 0 < k) : clT (l.take (k + 1)) = clT (l.take k) ++ 32 :: 124 :: 32 :: ltTxt d := by
  rw [take_next h]
  cases hl : l.take k with
  | nil =>
    have h1 := (List.getElem?_eq_some_iff.1 h).1
    have h2 : (l.take k).length = 0 := by rw [hl]; rfl
    rw [List.length_take] at h2
    omega
  | cons a r =>
    show ltTxt a ++ clC (r ++ [d]) = _
    rw [clC_append]
    simp [clT, clC]
theorem clT_first {l : List Lt} {d : Lt} (h : l[0]? = some d) : clT (l.take 1) = ltTxt d := by
  rw [take_next h]; simp [clT, clC]
theorem clT_all {l : List Lt} {k : Nat} (h : l.length ≤ k) : clT (l.take k) = clT l := by rw [List.take_of_length_le h]

theorem clT_len_append (a b : List Lt) : (clT a).length ≤ (clT (a ++ b)).length := by
  cases a with
  | nil => simp [clT]
  | cons t r => simp only [clT, List.cons_append, clC_append, List.length_append]; omega
theorem clT_len_take (l : List Lt) (k : Nat) : (clT (l.take k)).length ≤ (clT l).length := by
  have h := clT_len_append (l.take k) (l.drop k)
  rw [List.take_append_drop] at h
  exact h
theorem jn_len4 (sep : List UInt8) (hs : sep.length ≤ 4) : ∀ l : List Tm, sumL (fun t => t.txt.length + sep.length) l ≤ 3 * sumL Tm.wt l + 4 * l.length
  | [] => by simp [sumL]
  | t :: r => by
    have h := jn_len4 sep hs r
    have h2 := t.txt_wt
    simp only [sumL, List.length_cons]; omega
theorem txtX_len4 (s : List UInt8) (hs : s.length ≤ 4) (t : Tm) : (txtX s t).length ≤ 4 * t.wt := by
  unfold txtX
  split
  · have h1 := jn_len_le s t.args
    have h2 := jn_len4 s hs t.args
    have h3 := t.wt_eq
    omega
  · have := t.txt_wt; omega
theorem ltTxt_len (d : Lt) : (ltTxt d).length ≤ 4 * d.tm.wt + 1 := by
  have h1 := txtX_len4 eqSign (by decide) d.tm
  have h2 := txtX_len4 neSign (by decide) d.tm
  unfold ltTxt litTxt
  split
  · omega
  · split
    · omega
    · simp only [List.length_cons]; omega
theorem clC_len : ∀ l : List Lt, (clC l).length ≤ 4 * sumC Lt.wt l + 4 * l.length
  | [] => by simp [clC]
  | d :: r => by have h := clC_len r; have h2 := ltTxt_len d; simp only [clC, sumC, Lt.wt, List.length_append, List.length_cons] at *; omega
theorem clT_len (l : List Lt) : (clT l).length ≤ 4 * wtC l := by
  cases l with
  | nil => simp [clT]
  | cons d r => have h := clC_len r; have h2 := ltTxt_len d; unfold wtC; simp only [clT, sumC, Lt.wt, List.length_append, List.length_cons] at *; omega

/-- A valid atom's text is not empty. -/
theorem txtX_ne (s : List UInt8) (hs : s ≠ []) (t : Tm) (h : atomB t = true) : txtX s t ≠ [] := by
  unfold txtX
  unfold atomB at h
  split
  · rename_i he
    rw [if_pos he] at h
    simp only [Bool.and_eq_true, decide_eq_true_iff] at h
    have hl := h.1
    match hh : t.args, hl with
    | [x, y], _ =>
      rw [jn_two]
      cases s with
      | nil => exact absurd rfl hs
      | cons a r => simp
  · rename_i he
    rw [if_neg he] at h
    simp only [Bool.and_eq_true] at h
    have hz : 0 < t.name.size := by
      apply Decidable.byContradiction
      intro hn
      rw [symB_short (by omega)] at h
      cases h.1
    rw [t.txt_eq]
    intro hc
    have hc2 := (List.append_eq_nil_iff.1 hc).1
    have hc3 : t.name.data.toList.length = t.name.size := Array.length_toList
    rw [hc2] at hc3
    simp at hc3; omega
theorem ltTxt_ne {d : Lt} (h : atomB d.tm = true) : ltTxt d ≠ [] := by
  unfold ltTxt litTxt
  split
  · exact txtX_ne _ (by decide) _ h
  · split
    · exact txtX_ne _ (by decide) _ h
    · simp
def falseTxt : ByteArray := ⟨#[36, 102, 97, 108, 115, 101]⟩
def fmtC (l : List Lt) : ByteArray := if goodC l then (if l.length = 0 then falseTxt else bs (clT l)) else bs []
theorem fmtC_yes {l : List Lt} (h : goodC l = true) (h0 : 0 < l.length) : fmtC l = bs (clT l) := by unfold fmtC; rw [if_pos h, if_neg (by omega)]
theorem fmtC_nil {l : List Lt} (h : goodC l = true) (h0 : l.length = 0) : fmtC l = falseTxt := by unfold fmtC; rw [if_pos h, if_pos h0]
theorem fmtC_no {l : List Lt} (h : goodC l = false) : fmtC l = bs [] := by unfold fmtC; rw [if_neg (by rw [h]; simp)]
theorem clT_ne {l : List Lt} (h : goodC l = true) (h0 : 0 < l.length) : clT l ≠ [] := by
  cases l with
  | nil => simp at h0
  | cons d r =>
    have := ltTxt_ne (goodC_atom h (k := 0) (d := d) rfl)
    intro hc
    exact this (List.append_eq_nil_iff.1 hc).1

end Go.Proofs.YtgpmdfhepanahaaGreat
