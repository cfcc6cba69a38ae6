/- The program's SubtermAt, and the node of a term in memory at a position: contracts. -/
import Derived.Test.YtdpeanpmjhpblaaGreatSub
namespace Go.Proofs.YtdpeanpmjhpblaaGreat
open Go.RowKit
set_option linter.unusedVariables false

/-- A node of a term lies at this place. -/
def NodeAt (w : World) (b o : Nat) (s : Tm) : Prop := ∃ va, w.cell? ⟨b, o, none⟩ = some (.string s.name) ∧ w.cell? ⟨b, o + 1, none⟩ = some va ∧ TmS w va s.args

/-- A position leads from one place to another. -/
inductive PathTo (w : World) : Nat → Nat → List Int → Nat → Nat → Prop where
  | here (b o : Nat) : PathTo w b o [] b o
  | step (b o g off n c i : Nat) (r : List Int) (b' o' : Nat) (hc : w.cell? ⟨b, o + 1, none⟩ = some (.slice (some ⟨g, off, none⟩) n c)) (hi : i < n) (h : PathTo w g (off + i * 2) r b' o') : PathTo w b o ((i : Int) :: r) b' o'

theorem PathTo.snoc {w : World} {b o b1 o1 : Nat} {p : List Int} (h : PathTo w b o p b1 o1) {g off n c i : Nat} (hc : w.cell? ⟨b1, o1 + 1, none⟩ = some (.slice (some ⟨g, off, none⟩) n c)) (hi : i < n) : PathTo w b o (p ++ [(i : Int)]) g (off + i * 2) := by
  induction h with
  | here b o => exact .step b o g off n c i [] _ _ hc hi (.here _ _)
  | step b o g' off' n' c' i' r b' o' hc' hi' h' ih => exact .step b o g' off' n' c' i' _ _ _ hc' hi' (ih hc)

/-- What nodeAt answers. -/
def NodeEnd (w : World) (b o : Nat) (t : Tm) (p : List Int) (e : Ending) (w' : World) : Prop :=
  w = w' ∧ ((subAt p t = none ∧ e = .returned (.pointer none)) ∨ ∃ s b' o', subAt p t = some s ∧ e = .returned (.pointer (some ⟨b', o', none⟩)) ∧ PathTo w b o p b' o' ∧ NodeAt w b' o' s)

end Go.Proofs.YtdpeanpmjhpblaaGreat
