/- Whether a list of bindings is idempotent, as a Bool: facts on it. No condition. -/
import Derived.Test.YtnkonhdnccolhaaSubM
import Derived.Test.YtnkonhdnccolhaaVarQ
namespace Go.Proofs.Ytnkonhdnccolhaa
open Go.RowKit
set_option linter.unusedVariables false

/-- A variable of this name is bound. -/
def boundB (l : List Bd) (nm : ByteArray) : Bool := l.any fun d => decide (d.var = nm)
theorem bound_iff {l : List Bd} {nm : ByteArray} : boundB l nm = true ↔ ∃ d ∈ l, d.var = nm := by
  unfold boundB
  rw [List.any_eq_true]
  constructor
  · rintro ⟨d, hd, h⟩; exact ⟨d, hd, of_decide_eq_true h⟩
  · rintro ⟨d, hd, h⟩; exact ⟨d, hd, decide_eq_true h⟩
theorem bound_no {l : List Bd} {nm : ByteArray} : boundB l nm = false ↔ ∀ d ∈ l, d.var ≠ nm := by
  rw [← Bool.not_eq_true, bound_iff]
  constructor
  · intro h d hd e; exact h ⟨d, hd, e⟩
  · rintro h ⟨d, hd, e⟩; exact h d hd e

/-- None of the first k names is bound. -/
def freeS (l : List Bd) (ss : List ByteArray) (k : Nat) : Bool := (ss.take k).all fun x => !boundB l x
theorem freeS_next {l : List Bd} {ss : List ByteArray} {k : Nat} {x : ByteArray} (h : ss[k]? = some x) : freeS l ss (k + 1) = (freeS l ss k && !boundB l x) := by
  unfold freeS
  rw [List.take_add_one, h, List.all_append]
  simp
theorem freeS_no {l : List Bd} {ss : List ByteArray} {k : Nat} {x : ByteArray} (h : ss[k]? = some x) (hb : boundB l x = true) : freeS l ss ss.length = false := by
  unfold freeS
  rw [List.take_length, List.all_eq_false]
  exact ⟨x, List.mem_of_getElem? h, by simp [hb]⟩

def ideAt (l : List Bd) (d : Bd) : Bool := freeS l (d.tm.into []) (d.tm.into []).length
def ideS (l : List Bd) (k : Nat) : Bool := (l.take k).all (ideAt l)
theorem ideS_next {l : List Bd} {k : Nat} {d : Bd} (h : l[k]? = some d) : ideS l (k + 1) = (ideS l k && ideAt l d) := by
  unfold ideS
  rw [List.take_add_one, h, List.all_append]
  simp
theorem ideS_no {l : List Bd} {k : Nat} {d : Bd} (h : l[k]? = some d) (ho : ideAt l d = false) : ideS l l.length = false := by
  unfold ideS
  rw [List.take_length, List.all_eq_false]
  exact ⟨d, List.mem_of_getElem? h, by simp [ho]⟩

def ide (l : List Bd) : Bool := goodS l && ideS l l.length
theorem ide_bad {l : List Bd} (h : goodS l = false) : ide l = false := by unfold ide; rw [h]; rfl
theorem ide_good {l : List Bd} (h : goodS l = true) : ide l = ideS l l.length := by unfold ide; rw [h]; rfl

/-- The names of the nodes say the same, as the bound names are variables' names. -/
theorem ide_nds {l : List Bd} {k : Nat} {d : Bd} (h : goodS l = true) (hd : l[k]? = some d) : ideAt l d = (d.tm.nds.map Tm.name).all fun x => !boundB l x := by
  have hg := okAt_good (goodS_at h hd)
  unfold ideAt freeS
  rw [List.take_length, Bool.eq_iff_iff, List.all_eq_true, List.all_eq_true]
  constructor
  · intro hh x hx
    obtain ⟨s, hs, e⟩ := List.mem_map.1 hx
    cases hb : boundB l x with
    | false => rfl
    | true =>
      obtain ⟨p, hp, e2⟩ := bound_iff.1 hb
      obtain ⟨j, hj⟩ := List.getElem?_of_mem hp
      have hv := okAt_var (goodS_at h hj)
      have := hh x ((into_mem hg x).2 ⟨s, hs, by rw [e, ← e2]; exact hv, e⟩)
      rw [hb] at this; exact this
  · intro hh x hx
    obtain ⟨s, hs, _, e⟩ := (into_mem hg x).1 hx
    exact hh x (List.mem_map.2 ⟨s, hs, e⟩)

end Go.Proofs.Ytnkonhdnccolhaa
