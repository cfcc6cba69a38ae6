/-
  DERIVED. GIVEN WITH THE SEED: THE CARDS: each row of YtcijmhhajbgknaaDoorRows.lean that lists a variable, with what it lists TIED to the program's text (the seventh form; the later family's looks); each row that meets fmt, with fmt's text TOLD by the authors' own Lean function (tested against real Go, not proved from fmt's source: count such statements apart). THE CARD IS WHAT COUNTS. Prove the row's statement (the work); the ties are given (YtcijmhhajbgknaaDoorTie.lean); close each card by the builder's one call (the guide's Derived/Test/ToyasCard.lean, 'card_holds'). Laid BY PROGRAM, IN A SANDBOX (cutbox-door.mjs). By AI agents, Wed Nov 11 2026. No macro, syntax, notation, axiom, sorry.
-/
import Derived.Test.YtcijmhhajbgknaaDoorRows
import GoSem.ClaimSeven
namespace Go.Proofs.YtcijmhhajbgknaaDoor
namespace Rows

/-- THE TIED CARD OF 'laws.FnExactFormatTerm'. -/
def fnExactFormatTermCard : Claim7 := { stood := { row := fnExactFormatTermRow, standIns := [], harness := (true, "826c427aa5eb903207fe6db151db4ed61b54c87464a0bdfd12aa567f63797484"), looks := true }, kinds := [], alts := [], laidByText := true, laidKinds := [.sentinel], laidTests := true, laidLooks := .later }
def FnExactFormatTermCardSaid : Prop := Claim7.holds Tryd.pinned (.plain (OpenSpec.ofChange fnExactFormatTermSpec)) fnExactFormatTermCard

/-- THE TIED CARD OF 'laws.FnExactFormatLiteral'. -/
def fnExactFormatLiteralCard : Claim7 := { stood := { row := fnExactFormatLiteralRow, standIns := [], harness := (true, "826c427aa5eb903207fe6db151db4ed61b54c87464a0bdfd12aa567f63797484"), looks := true }, kinds := [], alts := [], laidByText := true, laidKinds := [.sentinel], laidTests := true, laidLooks := .later }
def FnExactFormatLiteralCardSaid : Prop := Claim7.holds Tryd.pinned (.plain (OpenSpec.ofChange fnExactFormatLiteralSpec)) fnExactFormatLiteralCard

/-- THE TIED CARD OF 'laws.FnExactFormatClause'. -/
def fnExactFormatClauseCard : Claim7 := { stood := { row := fnExactFormatClauseRow, standIns := [], harness := (true, "826c427aa5eb903207fe6db151db4ed61b54c87464a0bdfd12aa567f63797484"), looks := true }, kinds := [], alts := [], laidByText := true, laidKinds := [.sentinel], laidTests := true, laidLooks := .later }
def FnExactFormatClauseCardSaid : Prop := Claim7.holds Tryd.pinned (.plain (OpenSpec.ofChange fnExactFormatClauseSpec)) fnExactFormatClauseCard

/-- THE TIED CARD OF 'laws.FnExactParseClause'. -/
def fnExactParseClauseCard : Claim7 := { stood := { row := fnExactParseClauseRow, standIns := [], harness := (true, "826c427aa5eb903207fe6db151db4ed61b54c87464a0bdfd12aa567f63797484"), looks := true }, kinds := [], alts := [], laidByText := true, laidKinds := [.data, .pinned], laidTests := true, laidLooks := .later }
def FnExactParseClauseCardSaid : Prop := Claim7.holds Tryd.pinned (.plain (OpenSpec.ofChange fnExactParseClauseSpec)) fnExactParseClauseCard

/-- THE TIED CARD OF 'laws.FnExactFormatPosition'. -/
def fnExactFormatPositionCard : Claim7 := { stood := { row := fnExactFormatPositionRow, standIns := [], harness := (true, "826c427aa5eb903207fe6db151db4ed61b54c87464a0bdfd12aa567f63797484"), looks := true }, kinds := [], alts := [], laidByText := true, laidKinds := [.data, .data, .data], laidTests := true, laidLooks := .later }
def FnExactFormatPositionCardSaid : Prop := Claim7.holds Tryd.pinned (.plain (OpenSpec.ofChange fnExactFormatPositionSpec)) fnExactFormatPositionCard

/-- THE TIED CARD OF 'laws.FnExactParsePosition'. -/
def fnExactParsePositionCard : Claim7 := { stood := { row := fnExactParsePositionRow, standIns := [], harness := (true, "826c427aa5eb903207fe6db151db4ed61b54c87464a0bdfd12aa567f63797484"), looks := true }, kinds := [], alts := [], laidByText := true, laidKinds := [.data, .data, .data, .sentinel, .sentinel], laidTests := true, laidLooks := .later }
def FnExactParsePositionCardSaid : Prop := Claim7.holds Tryd.pinned (.plain (OpenSpec.ofChange fnExactParsePositionSpec)) fnExactParsePositionCard

/-- THE SECOND FORM's CARD OF 'laws.FnExactFormatTerm'. -/
def fnExactFormatTermUptoCard : Claim7 := { stood := { row := fnExactFormatTermUptoRow, standIns := [], harness := (true, "826c427aa5eb903207fe6db151db4ed61b54c87464a0bdfd12aa567f63797484"), looks := true }, kinds := [], alts := [], laidByText := true, laidKinds := [.sentinel], laidTests := true, laidLooks := .later }
def FnExactFormatTermUptoCardSaid : Prop := Claim7.holds Tryd.pinned (.plain (OpenSpec.upto fnExactFormatTermSpec)) fnExactFormatTermUptoCard

/-- THE SECOND FORM's CARD OF 'laws.FnExactFormatLiteral'. -/
def fnExactFormatLiteralUptoCard : Claim7 := { stood := { row := fnExactFormatLiteralUptoRow, standIns := [], harness := (true, "826c427aa5eb903207fe6db151db4ed61b54c87464a0bdfd12aa567f63797484"), looks := true }, kinds := [], alts := [], laidByText := true, laidKinds := [.sentinel], laidTests := true, laidLooks := .later }
def FnExactFormatLiteralUptoCardSaid : Prop := Claim7.holds Tryd.pinned (.plain (OpenSpec.upto fnExactFormatLiteralSpec)) fnExactFormatLiteralUptoCard

/-- THE SECOND FORM's CARD OF 'laws.FnExactFormatClause'. -/
def fnExactFormatClauseUptoCard : Claim7 := { stood := { row := fnExactFormatClauseUptoRow, standIns := [], harness := (true, "826c427aa5eb903207fe6db151db4ed61b54c87464a0bdfd12aa567f63797484"), looks := true }, kinds := [], alts := [], laidByText := true, laidKinds := [.sentinel], laidTests := true, laidLooks := .later }
def FnExactFormatClauseUptoCardSaid : Prop := Claim7.holds Tryd.pinned (.plain (OpenSpec.upto fnExactFormatClauseSpec)) fnExactFormatClauseUptoCard

/-- THE SECOND FORM's CARD OF 'laws.FnExactParseClause'. -/
def fnExactParseClauseUptoCard : Claim7 := { stood := { row := fnExactParseClauseUptoRow, standIns := [], harness := (true, "826c427aa5eb903207fe6db151db4ed61b54c87464a0bdfd12aa567f63797484"), looks := true }, kinds := [], alts := [], laidByText := true, laidKinds := [.data, .pinned], laidTests := true, laidLooks := .later }
def FnExactParseClauseUptoCardSaid : Prop := Claim7.holds Tryd.pinned (.plain (OpenSpec.upto fnExactParseClauseSpec)) fnExactParseClauseUptoCard

/-- THE SECOND FORM's CARD OF 'laws.FnExactFormatPosition'. -/
def fnExactFormatPositionUptoCard : Claim7 := { stood := { row := fnExactFormatPositionUptoRow, standIns := [], harness := (true, "826c427aa5eb903207fe6db151db4ed61b54c87464a0bdfd12aa567f63797484"), looks := true }, kinds := [], alts := [], laidByText := true, laidKinds := [.data, .data, .data], laidTests := true, laidLooks := .later }
def FnExactFormatPositionUptoCardSaid : Prop := Claim7.holds Tryd.pinned (.plain (OpenSpec.upto fnExactFormatPositionSpec)) fnExactFormatPositionUptoCard

/-- THE SECOND FORM's CARD OF 'laws.FnExactParsePosition'. -/
def fnExactParsePositionUptoCard : Claim7 := { stood := { row := fnExactParsePositionUptoRow, standIns := [], harness := (true, "826c427aa5eb903207fe6db151db4ed61b54c87464a0bdfd12aa567f63797484"), looks := true }, kinds := [], alts := [], laidByText := true, laidKinds := [.data, .data, .data, .sentinel, .sentinel], laidTests := true, laidLooks := .later }
def FnExactParsePositionUptoCardSaid : Prop := Claim7.holds Tryd.pinned (.plain (OpenSpec.upto fnExactParsePositionSpec)) fnExactParsePositionUptoCard
end Rows
end Go.Proofs.YtcijmhhajbgknaaDoor
