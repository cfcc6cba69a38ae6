/- Slices of strings as the walks see them, and the laws' own helpers over such slices (equality, copy, size): contracts. A slice has at most the length that any slice has. -/
import Derived.Test.YtnkonhdnccolhaaBaseF
import Derived.Laws.OwnMore
import Derived.BigQuiet
import Derived.Deep.QuietTactic
import Derived.ProofKit
namespace Go.Proofs.Ytnkonhdnccolhaa
open Go.RowKit

/-- Equality of two lists of strings, as a Bool. -/
def eqSs (a b : List ByteArray) : Bool := decide (a = b)

theorem eqSs_self (a : List ByteArray) : eqSs a a = true := by simp [eqSs]

/-- What a copying loop has written after k rounds. -/
def CopyRel (g : Nat) (ss : List ByteArray) (k : Nat) (wr : World) : Prop :=
  ∃ xs, wr.ownsRow g 9 1 (.slice (some ⟨g, 0, none⟩) ss.length ss.length) ss.length xs ∧ ∀ j, j < k → xs[j]? = some (.string (ss.getD j ByteArray.empty))

/-- What the size helper answers: below 0, or the slice has at most 'left' elements. -/
def SzRes (ss : List ByteArray) (e : Ending) : Prop := e = .returned (.int .i64 (-1)) ∨ ∃ r : Int, 0 ≤ r ∧ r ≤ 1048576 ∧ ss.length ≤ 1048576 ∧ (∀ j, j < ss.length → (ss.getD j ByteArray.empty).size ≤ 1048576) ∧ e = .returned (.int .i64 r)

end Go.Proofs.Ytnkonhdnccolhaa
