/- The text of a list of bindings, as a plain list of bytes, and how it grows binding by binding. No condition. -/
import Derived.Test.YtmfdglbldogfaaaDoorSubM
import Derived.Test.YtmfdglbldogfaaaDoorTxt
namespace Go.Proofs.YtmfdglbldogfaaaDoor
open Go.RowKit
set_option linter.unusedVariables false

def bdTxt (d : Bd) : List UInt8 := d.var.data.toList ++ 58 :: 61 :: d.tm.txt
/-- The texts of the bindings, each with the separator ahead of it. -/
def sbC : List Bd → List UInt8
  | [] => []
  | d :: r => 59 :: (bdTxt d ++ sbC r)
/-- The text of a list of bindings. -/
def sbT : List Bd → List UInt8
  | [] => []
  | d :: r => bdTxt d ++ sbC r

theorem sbC_append (a b : List Bd) : sbC (a ++ b) = sbC a ++ sbC b := by
  induction a with
  | nil => simp [sbC]
  | cons t r ih => simp [sbC, ih]

theorem sbT_next {l : List Bd} {k : Nat} {d : Bd} (h : l[k]? = some d) (hk : 0 < k) : sbT (l.take (k + 1)) = sbT (l.take k) ++ 59 :: bdTxt d := by
  rw [take_next h]
  cases l with
  | nil => cases h
  | cons s r =>
    cases k with
    | zero => omega
    | succ k => simp [sbT, sbC_append, sbC]

theorem sbT_first {l : List Bd} {d : Bd} (h : l[0]? = some d) : sbT (l.take 1) = bdTxt d := by
  rw [show (1 : Nat) = 0 + 1 from rfl, take_next h]; simp [sbT, sbC]

theorem sbT_all {l : List Bd} {k : Nat} (h : l.length ≤ k) : sbT (l.take k) = sbT l := by rw [List.take_of_length_le h]

theorem sbT_len_append (a b : List Bd) : (sbT a).length ≤ (sbT (a ++ b)).length := by
  cases a with
  | nil => simp [sbT]
  | cons t r => simp only [sbT, List.cons_append, sbC_append, List.length_append]; omega
theorem sbT_len_take (l : List Bd) (k : Nat) : (sbT (l.take k)).length ≤ (sbT l).length := by
  have h := sbT_len_append (l.take k) (l.drop k)
  rw [List.take_append_drop] at h
  exact h

theorem bdTxt_len (d : Bd) : (bdTxt d).length ≤ 3 * d.wt + 2 := by
  have h := d.tm.txt_wt
  have hn : d.var.data.toList.length = d.var.size := by rw [Array.length_toList]; rfl
  unfold bdTxt Bd.wt
  simp only [List.length_append, List.length_cons]
  omega

theorem sbC_len : ∀ l : List Bd, (sbC l).length ≤ 3 * sumB Bd.wt l + 3 * l.length
  | [] => by simp [sbC]
  | d :: r => by have h := sbC_len r; have h2 := bdTxt_len d; simp only [sbC, sumB, List.length_append, List.length_cons]; omega
theorem sbT_len (l : List Bd) : (sbT l).length ≤ 3 * wtB l := by
  cases l with
  | nil => simp [sbT]
  | cons d r => have h := sbC_len r; have h2 := bdTxt_len d; unfold wtB; simp only [sbT, sumB, List.length_append, List.length_cons]; omega

/-- What FormatSubstitution answers first. -/
def fmtB (l : List Bd) : ByteArray := if goodS l then bs (sbT l) else bs []
theorem fmtB_yes {l : List Bd} (h : goodS l = true) : fmtB l = bs (sbT l) := by simp [fmtB, h]
theorem fmtB_no {l : List Bd} (h : goodS l = false) : fmtB l = bs [] := by simp [fmtB, h]

/-- One binding's text behind what is there. -/
theorem sb_put {p : ByteArray} {l0 : List UInt8} (h : p = bs l0) (d : Bd) : p ++ d.var ++ ⟨#[58, 61]⟩ ++ bs d.tm.txt = bs (l0 ++ bdTxt d) := by
  rw [h, ← bs_of d.var]
  show bs l0 ++ bs d.var.data.toList ++ bs [58, 61] ++ bs d.tm.txt = _
  rw [bs_append, bs_append, bs_append, bdTxt]
  simp

end Go.Proofs.YtmfdglbldogfaaaDoor
