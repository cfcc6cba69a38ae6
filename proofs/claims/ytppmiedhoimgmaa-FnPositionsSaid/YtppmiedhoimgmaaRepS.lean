/- ReplaceAt, the model's and the program's: contracts, for terms of at most 1048576 names' bytes and arguments. -/
import Derived.Test.YtppmiedhoimgmaaWith
namespace Go.Proofs.Ytppmiedhoimgmaa
open Go.RowKit
set_option linter.unusedVariables false

def repA (t : Tm) (p : List Int) (s : Tm) : Option Tm :=
  if anyB t = true ∧ goodB s = true ∧ (subAt p t).isSome = true ∧ anyB (withAt p t s) = true then some (withAt p t s) else none
theorem repA_yes {t s : Tm} {p : List Int} (h1 : anyB t = true) (h2 : goodB s = true) (h3 : (subAt p t).isSome = true) (h4 : anyB (withAt p t s) = true) : repA t p s = some (withAt p t s) := by
  unfold repA; rw [if_pos ⟨h1, h2, h3, h4⟩]
theorem repA_no {t s : Tm} {p : List Int} (h : ¬ (anyB t = true ∧ goodB s = true ∧ (subAt p t).isSome = true ∧ anyB (withAt p t s) = true)) : repA t p s = none := by
  unfold repA; rw [if_neg h]
def repR (t : Tm) (p : List Int) (s : Tm) : Tm := (repA t p s).getD noTm
theorem repR_wt (t : Tm) (p : List Int) (s : Tm) : (repR t p s).wt ≤ t.wt + s.wt := by
  unfold repR repA
  split
  · exact withAt_wt p t s
  · have e : noTm.wt = 0 := by decide
    show noTm.wt ≤ _; omega

end Go.Proofs.Ytppmiedhoimgmaa
