/- The model's Positions: a contract, for terms of at most 1048576 names' bytes and arguments. -/
import Derived.Test.YtppmiedhoimgmaaPosS
import Derived.Test.YtppmiedhoimgmaaSubI
namespace Go.Proofs.Ytppmiedhoimgmaa
open Go.RowKit
set_option linter.unusedVariables false

/-- What the positions of a term are. -/
def posA (t : Tm) : List (List Int) := if anyB t = true then posT [] t else []

def PosEnd (t : Tm) (w : World) (e : Ending) (w' : World) : Prop := ∃ v, e = .returned (.tuple #[v, .bool (anyB t)]) ∧ Acc w' w.heap.size v (posA t) ∧ Below w.heap.size w w'

theorem fits_iff {t : Tm} : fitsB t = true ↔ t.sz ≤ 30 ∧ t.dp ≤ 8 := by simp [fitsB]

theorem Acc.none_ (w : World) (base : Nat) (hb : base ≤ w.heap.size) : Acc (w.alloc (.cells #[] 36)) base (.slice (some ⟨w.heap.size, 0, none⟩) 0 0) [] :=
  ⟨[], _, World.ownsRow_lit w #[] 0 hb (by decide) (by simp), Rws.nil _ _, fun g hg k hk => absurd hk (Nat.not_lt_zero _)⟩

theorem pos_nil (w : World) (o : Obj) : PosV (w.alloc o) (.slice (some ⟨w.heap.size, 0, none⟩) 0 0) [] := ⟨_, 0, rfl, by simp, fun k x h => by simp at h⟩

end Go.Proofs.Ytppmiedhoimgmaa
