/- RestrictSubstitution, the model's: a contract, for bindings of at most 1048576 names' bytes, bindings and arguments, and at most 1048576 names. -/
import Derived.Test.YtnkonhdnccolhaaRestO
namespace Go.Proofs.Ytnkonhdnccolhaa
open Go.RowKit
set_option linter.unusedVariables false

/-- Bindings of the call's own, and whether there are any. -/
def BdOkEnd (r : List Bd) (ok : Bool) (w : World) (e : Ending) (w' : World) : Prop :=
  ∃ va, e = .returned (.tuple #[.agg #[va], .bool ok]) ∧ BdO w' (Fresh w w') va r ∧ Below w.heap.size w w'
theorem BdOkEnd.no {r : List Bd} {ok : Bool} {w w' : World} (hr : r = []) (hok : ok = false) (hb : Below w.heap.size w w') :
    BdOkEnd r ok w (.returned (.tuple #[.agg #[.slice none 0 0], .bool false])) w' := by
  subst hr; subst hok
  exact ⟨.slice none 0 0, rfl, .inl ⟨_, _, rfl, rfl⟩, hb⟩

theorem one_grown {w w' : World} {row : Option Nat} (hg : w.grownBy w' row) {b : Nat} {x : Value} (h : Oner w b x) (hne : some b ≠ row) : Oner w' b x :=
  ⟨hg.cell h.1 hne, fun j => (World.frozen?_of_block (w := w) (a := ⟨b, j, none⟩) (hg.block b (World.block_lt_of_cell? w ⟨b, 0, none⟩ h.1) hne)).trans (h.2 j)⟩
theorem BdO.parts {w : World} {S : Nat → Prop} {v : Value} {l : List Bd} (h : BdO w S v l) :
    ∃ (a : Option Addr) (c g : Nat) (f : Nat → Value) (Ss : Nat → Nat → Prop), v = .slice a l.length c ∧
      (∀ (i : Nat) (d : Bd), l[i]? = some d → a = some ⟨g, 0, none⟩ ∧ S g ∧ w.cell? ⟨g, i * 3, none⟩ = some (.string d.var) ∧ w.cell? ⟨g, i * 3 + 1, none⟩ = some (.string d.tm.name) ∧ w.cell? ⟨g, i * 3 + 2, none⟩ = some (f i) ∧ TmO w (Ss i) (f i) d.tm.args) ∧
      (∀ i k, i < l.length → Ss i k → S k ∧ k ≠ g) ∧ (∀ i j k, i < l.length → j < l.length → i ≠ j → Ss i k → Ss j k → False) := by
  rcases h with ⟨a, c, rfl, rfl⟩ | ⟨g, c, f, Ss, rfl, hp, hS, hc, hz, hat, hsub, hdis⟩
  · exact ⟨a, c, 0, fun _ => .slice none 0 0, fun _ _ => False, rfl, fun i d h => (by cases h), fun i k h => absurd h (Nat.not_lt_zero _), fun i j k h => absurd h (Nat.not_lt_zero _)⟩
  · exact ⟨_, c, g, f, Ss, rfl, fun i d hd => ⟨rfl, hS, (hat i d hd).1, (hat i d hd).2.1, (hat i d hd).2.2.1, (hat i d hd).2.2.2⟩, hsub, hdis⟩

end Go.Proofs.Ytnkonhdnccolhaa
