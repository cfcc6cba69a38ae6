/-
  DERIVED. GIVEN WITH THE SEED: THE CARDS: each row of YtmfdglbldogfaabDoorRows.lean that lists a variable, with what it lists TIED to the program's text (the seventh form; the later family's looks); each row that meets fmt, with fmt's text TOLD by the authors' own Lean function (tested against real Go, not proved from fmt's source: count such statements apart). THE CARD IS WHAT COUNTS. Prove the row's statement (the work); the ties are given (YtmfdglbldogfaabDoorTie.lean); close each card by the builder's one call (the guide's Derived/Test/ToyasCard.lean, 'card_holds'). Laid BY PROGRAM, IN A SANDBOX (cutbox-door.mjs). By AI agents, Wed Nov 11 2026. No macro, syntax, notation, axiom, sorry.
-/
import Derived.Test.YtmfdglbldogfaabDoorRows
import GoSem.ClaimSeven
namespace Go.Proofs.YtmfdglbldogfaabDoor
namespace Rows

/-- THE TIED CARD OF 'laws.FnExactFormatClause'. -/
def fnExactFormatClauseCard : Claim7 := { stood := { row := fnExactFormatClauseRow, standIns := [], harness := (true, "a483e2c416fc8aecb73ed5bde97d6a05ba944809f0cbca571af85642b7872ece"), looks := false }, kinds := [], alts := [], laidByText := true, laidKinds := [.sentinel], laidTests := true, laidLooks := .later }
def FnExactFormatClauseCardSaid : Prop := Claim7.holds Tryd.pinned (.plain (OpenSpec.ofChange fnExactFormatClauseSpec)) fnExactFormatClauseCard

/-- THE TIED CARD OF 'laws.FnExactParseClause'. -/
def fnExactParseClauseCard : Claim7 := { stood := { row := fnExactParseClauseRow, standIns := [], harness := (true, "a483e2c416fc8aecb73ed5bde97d6a05ba944809f0cbca571af85642b7872ece"), looks := false }, kinds := [], alts := [], laidByText := true, laidKinds := [.data, .pinned], laidTests := true, laidLooks := .later }
def FnExactParseClauseCardSaid : Prop := Claim7.holds Tryd.pinned (.plain (OpenSpec.ofChange fnExactParseClauseSpec)) fnExactParseClauseCard

/-- THE SECOND FORM's CARD OF 'laws.FnExactFormatClause'. -/
def fnExactFormatClauseUptoCard : Claim7 := { stood := { row := fnExactFormatClauseUptoRow, standIns := [], harness := (true, "a483e2c416fc8aecb73ed5bde97d6a05ba944809f0cbca571af85642b7872ece"), looks := false }, kinds := [], alts := [], laidByText := true, laidKinds := [.sentinel], laidTests := true, laidLooks := .later }
def FnExactFormatClauseUptoCardSaid : Prop := Claim7.holds Tryd.pinned (.plain (OpenSpec.upto fnExactFormatClauseSpec)) fnExactFormatClauseUptoCard

/-- THE SECOND FORM's CARD OF 'laws.FnExactParseClause'. -/
def fnExactParseClauseUptoCard : Claim7 := { stood := { row := fnExactParseClauseUptoRow, standIns := [], harness := (true, "a483e2c416fc8aecb73ed5bde97d6a05ba944809f0cbca571af85642b7872ece"), looks := false }, kinds := [], alts := [], laidByText := true, laidKinds := [.data, .pinned], laidTests := true, laidLooks := .later }
def FnExactParseClauseUptoCardSaid : Prop := Claim7.holds Tryd.pinned (.plain (OpenSpec.upto fnExactParseClauseSpec)) fnExactParseClauseUptoCard
end Rows
end Go.Proofs.YtmfdglbldogfaabDoor
