/- The formulas nested in a formula, each behind its parts, and negation normal form: lists and tests. No condition. -/
import Derived.Test.YtppmiedhoimgmaaFw
namespace Go.Proofs.Ytppmiedhoimgmaa
open Go.RowKit
set_option linter.unusedVariables false

mutual
/-- The formulas in a formula, each behind its own parts. -/
def Fm.pst : Fm → List Fm
  | .node o a v l => Fm.pstL l ++ [.node o a v l]
def Fm.pstL : List Fm → List Fm
  | [] => []
  | t :: r => Fm.pst t ++ Fm.pstL r
end
theorem Fm.pst_eq (t : Fm) : t.pst = Fm.pstL t.parts ++ [t] := by
  cases t with
  | node o a v l => rw [Fm.pst]; rfl
theorem Fm.pstL_append : ∀ a b : List Fm, Fm.pstL (a ++ b) = Fm.pstL a ++ Fm.pstL b
  | [], b => by simp [Fm.pstL]
  | t :: r, b => by simp [Fm.pstL, Fm.pstL_append r b]
theorem Fm.pstL_next {l : List Fm} {k : Nat} {t : Fm} (h : l[k]? = some t) : Fm.pstL (l.take (k + 1)) = Fm.pstL (l.take k) ++ t.pst := by
  rw [take_next h, Fm.pstL_append]; simp [Fm.pstL]
theorem Fm.pstL_len (l : List Fm) (k : Nat) : (Fm.pstL (l.take k)).length ≤ (Fm.pstL l).length := by
  have h := Fm.pstL_append (l.take k) (l.drop k)
  rw [List.take_append_drop] at h
  rw [h, List.length_append]; omega
theorem Fm.pstL_mem : ∀ {l : List Fm} {t y : Fm}, t ∈ l → y ∈ t.pst → y ∈ Fm.pstL l
  | [], _, _, h, _ => by cases h
  | a :: r, t, y, h, hy => by
    rw [Fm.pstL, List.mem_append]
    rcases List.mem_cons.1 h with rfl | h
    · exact .inl hy
    · exact .inr (Fm.pstL_mem h hy)
theorem Fm.pst_self (t : Fm) : t ∈ t.pst := by rw [t.pst_eq]; simp
theorem Fm.pst_part {t s y : Fm} (h : s ∈ t.parts) (hy : y ∈ s.pst) : y ∈ t.pst := by
  rw [t.pst_eq, List.mem_append]; exact .inl (Fm.pstL_mem h hy)
theorem Fm.pstL_out : ∀ {l : List Fm} {y : Fm}, y ∈ Fm.pstL l → ∃ t ∈ l, y ∈ t.pst
  | [], _, h => by cases h
  | a :: r, y, h => by
    rw [Fm.pstL, List.mem_append] at h
    rcases h with h | h
    · exact ⟨a, List.mem_cons_self, h⟩
    · obtain ⟨t, ht, hy⟩ := Fm.pstL_out h
      exact ⟨t, List.mem_cons_of_mem _ ht, hy⟩
theorem Fm.pst_len : ∀ t : Fm, t.pst.length = t.sz := Fm.ind fun t ih => by
  rw [t.pst_eq, t.sz_eq, List.length_append]
  have : ∀ l : List Fm, (∀ s ∈ l, s.pst.length = s.sz) → (Fm.pstL l).length = sumG Fm.sz l := by
    intro l
    induction l with
    | nil => intro _; simp [Fm.pstL, sumG]
    | cons a r ih2 =>
      intro h
      rw [Fm.pstL, List.length_append, h a List.mem_cons_self, ih2 fun s hs => h s (List.mem_cons_of_mem _ hs)]
      simp [sumG]
  rw [this _ ih]; simp; omega
theorem Fm.pst_forms : ∀ t : Fm, t.formsB = true → ∀ s ∈ t.pst, s.formsB = true := Fm.ind fun t ih h s hs => by
  rw [t.pst_eq, List.mem_append] at hs
  rcases hs with hs | hs
  · obtain ⟨p, hp, hy⟩ := Fm.pstL_out hs
    exact ih p hp ((forms_parts h).2 p hp) s hy
  · rw [List.mem_singleton.1 hs]; exact h
theorem Fm.pst_wt : ∀ t : Fm, ∀ s ∈ t.pst, s.wt ≤ t.wt := Fm.ind fun t ih s hs => by
  rw [t.pst_eq, List.mem_append] at hs
  rcases hs with hs | hs
  · obtain ⟨p, hp, hy⟩ := Fm.pstL_out hs
    exact Nat.le_trans (ih p hp s hy) (Fm.wt_part hp)
  · rw [List.mem_singleton.1 hs]; exact Nat.le_refl _

/-- The first part is an atom. -/
def hdA (t : Fm) : Bool := match t.parts with
  | [] => false
  | s :: _ => decide (s.op = 3)
/-- What a formula itself must keep to be in negation normal form. -/
def nn1 (t : Fm) : Bool := !decide (t.op = 7) && (!decide (t.op = 4) || hdA t)
/-- Negation normal form. -/
def Fm.isN (t : Fm) : Bool := t.pst.all nn1
theorem Fm.isN_eq (t : Fm) : t.isN = (nn1 t && t.parts.all Fm.isN) := by
  have hL : ∀ l : List Fm, (Fm.pstL l).all nn1 = l.all Fm.isN := by
    intro l
    induction l with
    | nil => simp [Fm.pstL]
    | cons a r ih => rw [Fm.pstL, List.all_append, ih]; rfl
  unfold Fm.isN
  rw [t.pst_eq, List.all_append, hL]
  simp [Bool.and_comm]
  rfl
theorem isN_no {t s : Fm} (h : s ∈ t.pst) (hs : nn1 s = false) : t.isN = false := by
  unfold Fm.isN; rw [List.all_eq_false]; exact ⟨s, h, by simp [hs]⟩
theorem isN_yes {t : Fm} (h : ∀ s ∈ t.pst, nn1 s = true) : t.isN = true := by
  unfold Fm.isN; rw [List.all_eq_true]; exact h
/-- One part, for a negation. -/
theorem form4 {t : Fm} (h : formB t = true) (h4 : t.op = 4) : ∃ s, t.parts = [s] := by
  unfold formB at h
  rw [if_neg (by omega), if_neg (by omega), if_pos h4] at h
  simp only [Bool.and_eq_true, decide_eq_true_eq] at h
  exact List.length_eq_one_iff.1 h.2.2
/-- The four ways in which a formula is or is not in negation normal form at its root. -/
theorem nn1_ways {t : Fm} (h : formB t = true) : (t.op = 7 ∧ nn1 t = false) ∨ (t.op ≠ 7 ∧ t.op ≠ 4 ∧ nn1 t = true) ∨ (t.op = 4 ∧ ∃ s, t.parts = [s] ∧ s.op = 3 ∧ nn1 t = true) ∨ (t.op = 4 ∧ ∃ s, t.parts = [s] ∧ s.op ≠ 3 ∧ nn1 t = false) := by
  by_cases h7 : t.op = 7
  · exact .inl ⟨h7, by simp [nn1, h7]⟩
  · by_cases h4 : t.op = 4
    · obtain ⟨s, hs⟩ := form4 h h4
      by_cases h3 : s.op = 3
      · exact .inr (.inr (.inl ⟨h4, s, hs, h3, by simp [nn1, h4, hdA, hs, h3]⟩))
      · exact .inr (.inr (.inr ⟨h4, s, hs, h3, by simp [nn1, h4, hdA, hs, h3]⟩))
    · exact .inr (.inl ⟨h7, h4, by simp [nn1, h7, h4]⟩)
/-- What IsNegationNormal answers. -/
def inR (t : Fm) : Bool := fgoodB t && t.isN
end Go.Proofs.Ytppmiedhoimgmaa
