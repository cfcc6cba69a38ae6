/- Whether a list of bindings is a renaming, as a Bool: facts on it. No condition. -/
import Derived.Test.YtnkonhdnccolhaaSubM
namespace Go.Proofs.Ytnkonhdnccolhaa
open Go.RowKit
set_option linter.unusedVariables false

/-- None of the first k bindings has this term's name. -/
def newS (l : List Bd) (d : Bd) (k : Nat) : Bool := (List.range k).all fun j => match l[j]? with
  | some p => !sameB p.tm.name d.tm.name
  | none => true
theorem newS_next {l : List Bd} {d p : Bd} {k : Nat} (h : l[k]? = some p) : newS l d (k + 1) = (newS l d k && !sameB p.tm.name d.tm.name) := by
  unfold newS
  rw [List.range_succ, List.all_append]
  simp [h]
theorem newS_no {l : List Bd} {d p : Bd} {k m : Nat} (h : l[k]? = some p) (hm : k < m) (ho : sameB p.tm.name d.tm.name = true) : newS l d m = false := by
  unfold newS
  rw [List.all_eq_false]
  exact ⟨k, List.mem_range.2 hm, by simp [h, ho]⟩

def renAt (l : List Bd) (k : Nat) (d : Bd) : Bool := varB d.tm.name && newS l d k
def renS (l : List Bd) (k : Nat) : Bool := (List.range k).all fun j => match l[j]? with
  | some d => renAt l j d
  | none => true
theorem renS_next {l : List Bd} {k : Nat} {d : Bd} (h : l[k]? = some d) : renS l (k + 1) = (renS l k && renAt l k d) := by
  unfold renS
  rw [List.range_succ, List.all_append]
  simp [h]
theorem renS_no {l : List Bd} {k : Nat} {d : Bd} (h : l[k]? = some d) (ho : renAt l k d = false) : renS l l.length = false := by
  unfold renS
  rw [List.all_eq_false]
  refine ⟨k, List.mem_range.2 (List.getElem?_eq_some_iff.1 h).1, ?_⟩
  simp [h, ho]
theorem renAt_v {l : List Bd} {k : Nat} {d : Bd} (h : varB d.tm.name = false) : renAt l k d = false := by unfold renAt; rw [h]; rfl
theorem renAt_n {l : List Bd} {k : Nat} {d : Bd} (h : newS l d k = false) : renAt l k d = false := by unfold renAt; rw [h]; simp
theorem renAt_y {l : List Bd} {k : Nat} {d : Bd} (h : varB d.tm.name = true) (h' : newS l d k = true) : renAt l k d = true := by unfold renAt; rw [h, h']; rfl

/-- What IsRenaming says first. -/
def ren (l : List Bd) : Bool := goodS l && renS l l.length
theorem ren_bad {l : List Bd} (h : goodS l = false) : ren l = false := by unfold ren; rw [h]; rfl
theorem ren_good {l : List Bd} (h : goodS l = true) : ren l = renS l l.length := by unfold ren; rw [h]; rfl

end Go.Proofs.Ytnkonhdnccolhaa
