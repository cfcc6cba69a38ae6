/- IsRenaming, the program's: a contract, for bindings of at most 1048576 names' bytes, bindings and arguments. -/
import Derived.Test.YtnkonhdnccolhaaSubP
import Derived.Test.YtnkonhdnccolhaaRenM
import Derived.Test.YtnkonhdnccolhaaShelf
import Derived.OwnWalk
import Derived.RangeFuncBox
import Derived.Lib.SlicesS
namespace Go.Proofs.Ytnkonhdnccolhaa
open Go.RowKit
set_option linter.unusedVariables false

theorem ret_bbI {a b c d : Bool} (h : a = b) (k : c = d) : Ending.returned (.tuple #[.bool a, .bool c]) = .returned (.tuple #[.bool b, .bool d]) := by rw [h, k]
theorem infoStrR : (Try.prog.info? 9).map (fun i => (i.zero, i.size, i.bytes)) = some (some (.string ByteArray.empty), 1, 16) := by kernel_rfl

theorem contains_new (l : List Bd) (d : Bd) (k : Nat) (hk : k ≤ l.length) : Lib.containsS ((l.take k).map fun x => x.tm.name) d.tm.name = !newS l d k := by
  cases h : newS l d k with
  | false =>
    show _ = true
    rw [Lib.containsS_iff]
    unfold newS at h
    rw [List.all_eq_false] at h
    obtain ⟨j, hj, hn⟩ := h
    have hjk := List.mem_range.1 hj
    obtain ⟨p, hp⟩ : ∃ p, l[j]? = some p := ⟨_, List.getElem?_eq_getElem (by omega)⟩
    simp only [hp, Bool.not_eq_true', Bool.not_eq_false] at hn
    have e : p.tm.name = d.tm.name := toList_inj (eq_of_beq hn)
    rw [← e]
    exact List.mem_map.2 ⟨p, List.mem_of_getElem? (by rw [List.getElem?_take, if_pos hjk]; exact hp), rfl⟩
  | true =>
    show _ = false
    rw [← Bool.not_eq_true, Lib.containsS_iff]
    intro hm
    obtain ⟨p, hp, e⟩ := List.mem_map.1 hm
    obtain ⟨j, hj⟩ := List.getElem?_of_mem hp
    rw [List.getElem?_take] at hj
    split at hj
    · rename_i hjk
      rw [newS_no hj hjk (by unfold sameB; rw [e]; simp)] at h
      cases h
    · cases hj

def NRow (B : Nat) (wr : World) (l : List Bd) (k : Nat) (v : Value) : Prop := wr.ownsRow B 9 1 v k ((l.take k).map fun d => Value.string d.tm.name)

theorem NRow.shape {B : Nat} {wr : World} {l : List Bd} {k : Nat} {v : Value} (h : NRow B wr l k v) : ∃ a c, v = .slice a k c := by
  rcases h.2 with ⟨rfl, h0⟩ | ⟨g, cap, cur, rfl, _⟩
  · exact ⟨none, 0, by rw [h0]⟩
  · exact ⟨_, cap, rfl⟩

end Go.Proofs.Ytnkonhdnccolhaa
