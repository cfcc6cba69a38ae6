/-
  DERIVED. GIVEN WITH THE SEED: THE CARDS: each row of YtmfdglbldogfaaaDoorRows.lean that lists a variable, with what it lists TIED to the program's text (the seventh form; the later family's looks); each row that meets fmt, with fmt's text TOLD by the authors' own Lean function (tested against real Go, not proved from fmt's source: count such statements apart). THE CARD IS WHAT COUNTS. Prove the row's statement (the work); the ties are given (YtmfdglbldogfaaaDoorTie.lean); close each card by the builder's one call (the guide's Derived/Test/ToyasCard.lean, 'card_holds'). Laid BY PROGRAM, IN A SANDBOX (cutbox-door.mjs). By AI agents, Wed Nov 11 2026. No macro, syntax, notation, axiom, sorry.
-/
import Derived.Test.YtmfdglbldogfaaaDoorRows
import GoSem.ClaimSeven
namespace Go.Proofs.YtmfdglbldogfaaaDoor
namespace Rows

/-- THE TIED CARD OF 'laws.FnExactFormatSubstitution'. -/
def fnExactFormatSubstitutionCard : Claim7 := { stood := { row := fnExactFormatSubstitutionRow, standIns := [], harness := (true, "1f39f6f7a93c91c858bffe7e5b19c8338d371b0ae90352dbd186fee26b5b7c28"), looks := false }, kinds := [], alts := [], laidByText := true, laidKinds := [.sentinel], laidTests := true, laidLooks := .later }
def FnExactFormatSubstitutionCardSaid : Prop := Claim7.holds Tryd.pinned (.plain (OpenSpec.ofChange fnExactFormatSubstitutionSpec)) fnExactFormatSubstitutionCard

/-- THE SECOND FORM's CARD OF 'laws.FnExactFormatSubstitution'. -/
def fnExactFormatSubstitutionUptoCard : Claim7 := { stood := { row := fnExactFormatSubstitutionUptoRow, standIns := [], harness := (true, "1f39f6f7a93c91c858bffe7e5b19c8338d371b0ae90352dbd186fee26b5b7c28"), looks := false }, kinds := [], alts := [], laidByText := true, laidKinds := [.sentinel], laidTests := true, laidLooks := .later }
def FnExactFormatSubstitutionUptoCardSaid : Prop := Claim7.holds Tryd.pinned (.plain (OpenSpec.upto fnExactFormatSubstitutionSpec)) fnExactFormatSubstitutionUptoCard
end Rows
end Go.Proofs.YtmfdglbldogfaaaDoor
