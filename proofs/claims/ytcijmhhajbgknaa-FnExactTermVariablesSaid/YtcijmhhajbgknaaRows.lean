/-
  NARROWER THAN 'FOR EVERY INPUT', by the rows' own cells (each row's printed sentence says how): FnExactReplaceAt: loops · FnExactCountSymbol: loops · FnExactTermVariables: loops · FnExactEqualTerms: loops.
  DERIVED. THE GIVEN ROWS OF THIS SEAT. 8 by the template 'for every input the law returns true; each argument reads behind the call as it read before'; 0 by the template 'total and deterministic' (their statements: YtcijmhhajbgknaaTotals.lean).
  GIVEN WITH THE SEED: the statements are not yours to turn. If you find one false, say at which input.
  Laid BY PROGRAM, IN A SANDBOX (cutbox-rows.mjs): the forced cells as the released guide's own fill.sh prints them over the translation ea4fb966cc427808… (all of the seat's roots in one cut). By AI agents, Wed Nov 11 2026. No macro, syntax, notation, axiom, sorry.
-/
import Derived.Test.YtcijmhhajbgknaaChecked
import GoSem.Claim
import GoSem.ClaimJoined
import GoSem.ClaimMapViews
import Derived.JoinedTies
import Derived.KernelRfl
namespace Go.Proofs.Ytcijmhhajbgknaa
/- THE CELL 'sum', in the pinned program and in every row, IS THE sha256 OF THE DUMP (.gsa) THAT YtcijmhhajbgknaaProg.lean LOADS. Nothing in Lean hashes anything: it is a label: what it is worth is what the hold of that sum in a sandbox is worth. -/
noncomputable def Try.pinned : Pinned := { name := "ytcijmhhajbgknaa", sum := "ea4fb966cc427808559b9f583203c9b8a33998206fd246f3420679ae9cb990f3", checked := Try.checked }
namespace Rows
def none {H : Type} : Left H := { results := [], args := [] }

/-- 'laws.FnExactParseTerm': WHATEVER THE INPUT: true; the input reads as it did. -/
def fnExactParseTermSpec : ChangeSpec := { name := "fnExactParseTerm", fn := fun _ => fun
  | [d] => { results := [.lit (.bool true)], args := [d] }
  | _ => none }
def fnExactParseTermRow : OpenClaim := { program := "ytcijmhhajbgknaa", sum := "ea4fb966cc427808559b9f583203c9b8a33998206fd246f3420679ae9cb990f3", func := "loop.example/g00892/laws.FnExactParseTerm", spec := "fnExactParseTerm", inPlace := ["internal/bytealg.IndexByteString", "internal/bytealg.IndexString"], recurses := true, named := ["internal/bytealg.MaxLen"], plainKeys := false, apart := false }
def FnExactParseTermSaid : Prop := fnExactParseTermRow.holds Try.pinned (OpenSpec.ofChange fnExactParseTermSpec)

/-- ITS FALSE NEIGHBOUR: 'it returns false'. Refute it at one input. -/
def fnExactParseTermWrong : ChangeSpec := { name := "fnExactParseTerm", fn := fun _ => fun
  | [d] => { results := [.lit (.bool false)], args := [d] }
  | _ => none }
def FnExactParseTermWrongFalsely : Prop := fnExactParseTermRow.holds Try.pinned (OpenSpec.ofChange fnExactParseTermWrong)

/-- 'laws.FnExactParseAtom': WHATEVER THE INPUT: true; the input reads as it did. -/
def fnExactParseAtomSpec : ChangeSpec := { name := "fnExactParseAtom", fn := fun _ => fun
  | [d] => { results := [.lit (.bool true)], args := [d] }
  | _ => none }
def fnExactParseAtomRow : OpenClaim := { program := "ytcijmhhajbgknaa", sum := "ea4fb966cc427808559b9f583203c9b8a33998206fd246f3420679ae9cb990f3", func := "loop.example/g00892/laws.FnExactParseAtom", spec := "fnExactParseAtom", inPlace := ["internal/bytealg.IndexByteString", "internal/bytealg.IndexString"], recurses := true, named := ["internal/bytealg.MaxLen"], plainKeys := false, apart := false }
def FnExactParseAtomSaid : Prop := fnExactParseAtomRow.holds Try.pinned (OpenSpec.ofChange fnExactParseAtomSpec)

/-- ITS FALSE NEIGHBOUR: 'it returns false'. Refute it at one input. -/
def fnExactParseAtomWrong : ChangeSpec := { name := "fnExactParseAtom", fn := fun _ => fun
  | [d] => { results := [.lit (.bool false)], args := [d] }
  | _ => none }
def FnExactParseAtomWrongFalsely : Prop := fnExactParseAtomRow.holds Try.pinned (OpenSpec.ofChange fnExactParseAtomWrong)

/-- 'laws.FnExactParseLiteral': WHATEVER THE INPUT: true; the input reads as it did. -/
def fnExactParseLiteralSpec : ChangeSpec := { name := "fnExactParseLiteral", fn := fun _ => fun
  | [d] => { results := [.lit (.bool true)], args := [d] }
  | _ => none }
def fnExactParseLiteralRow : OpenClaim := { program := "ytcijmhhajbgknaa", sum := "ea4fb966cc427808559b9f583203c9b8a33998206fd246f3420679ae9cb990f3", func := "loop.example/g00892/laws.FnExactParseLiteral", spec := "fnExactParseLiteral", inPlace := ["internal/bytealg.IndexByteString", "internal/bytealg.IndexString"], recurses := true, named := ["internal/bytealg.MaxLen"], plainKeys := false, apart := false }
def FnExactParseLiteralSaid : Prop := fnExactParseLiteralRow.holds Try.pinned (OpenSpec.ofChange fnExactParseLiteralSpec)

/-- ITS FALSE NEIGHBOUR: 'it returns false'. Refute it at one input. -/
def fnExactParseLiteralWrong : ChangeSpec := { name := "fnExactParseLiteral", fn := fun _ => fun
  | [d] => { results := [.lit (.bool false)], args := [d] }
  | _ => none }
def FnExactParseLiteralWrongFalsely : Prop := fnExactParseLiteralRow.holds Try.pinned (OpenSpec.ofChange fnExactParseLiteralWrong)

/-- 'laws.FnExactReplaceAt': WHATEVER THE INPUT: true; the input reads as it did. -/
def fnExactReplaceAtSpec : ChangeSpec := { name := "fnExactReplaceAt", fn := fun _ => fun
  | [d1, d2, d3] => { results := [.lit (.bool true)], args := [d1, d2, d3] }
  | _ => none }
def fnExactReplaceAtRow : OpenClaim := { program := "ytcijmhhajbgknaa", sum := "ea4fb966cc427808559b9f583203c9b8a33998206fd246f3420679ae9cb990f3", func := "loop.example/g00892/laws.FnExactReplaceAt", spec := "fnExactReplaceAt", inPlace := ["internal/bytealg.IndexByteString", "internal/bytealg.IndexString"], recurses := true, named := ["internal/bytealg.MaxLen"], loops := true, plainKeys := false, apart := false }
def FnExactReplaceAtSaid : Prop := fnExactReplaceAtRow.holds Try.pinned (OpenSpec.ofChange fnExactReplaceAtSpec)

/-- ITS FALSE NEIGHBOUR: 'it returns false'. Refute it at one input. -/
def fnExactReplaceAtWrong : ChangeSpec := { name := "fnExactReplaceAt", fn := fun _ => fun
  | [d1, d2, d3] => { results := [.lit (.bool false)], args := [d1, d2, d3] }
  | _ => none }
def FnExactReplaceAtWrongFalsely : Prop := fnExactReplaceAtRow.holds Try.pinned (OpenSpec.ofChange fnExactReplaceAtWrong)

/-- 'laws.FnExactCountSymbol': WHATEVER THE INPUT: true; the input reads as it did. -/
def fnExactCountSymbolSpec : ChangeSpec := { name := "fnExactCountSymbol", fn := fun _ => fun
  | [d1, d2] => { results := [.lit (.bool true)], args := [d1, d2] }
  | _ => none }
def fnExactCountSymbolRow : OpenClaim := { program := "ytcijmhhajbgknaa", sum := "ea4fb966cc427808559b9f583203c9b8a33998206fd246f3420679ae9cb990f3", func := "loop.example/g00892/laws.FnExactCountSymbol", spec := "fnExactCountSymbol", inPlace := ["internal/bytealg.IndexByteString", "internal/bytealg.IndexString"], unfollowed := true, recurses := true, named := ["internal/bytealg.MaxLen"], loops := true, plainKeys := false, apart := false }
def FnExactCountSymbolSaid : Prop := fnExactCountSymbolRow.holds Try.pinned (OpenSpec.ofChange fnExactCountSymbolSpec)

/-- ITS FALSE NEIGHBOUR: 'it returns false'. Refute it at one input. -/
def fnExactCountSymbolWrong : ChangeSpec := { name := "fnExactCountSymbol", fn := fun _ => fun
  | [d1, d2] => { results := [.lit (.bool false)], args := [d1, d2] }
  | _ => none }
def FnExactCountSymbolWrongFalsely : Prop := fnExactCountSymbolRow.holds Try.pinned (OpenSpec.ofChange fnExactCountSymbolWrong)

/-- 'laws.FnExactTermVariables': WHATEVER THE INPUT: true; the input reads as it did. -/
def fnExactTermVariablesSpec : ChangeSpec := { name := "fnExactTermVariables", fn := fun _ => fun
  | [d] => { results := [.lit (.bool true)], args := [d] }
  | _ => none }
def fnExactTermVariablesRow : OpenClaim := { program := "ytcijmhhajbgknaa", sum := "ea4fb966cc427808559b9f583203c9b8a33998206fd246f3420679ae9cb990f3", func := "loop.example/g00892/laws.FnExactTermVariables", spec := "fnExactTermVariables", inPlace := ["internal/bytealg.IndexByteString", "internal/bytealg.IndexString"], unfollowed := true, recurses := true, named := ["internal/bytealg.MaxLen"], loops := true, plainKeys := false, apart := false }
def FnExactTermVariablesSaid : Prop := fnExactTermVariablesRow.holds Try.pinned (OpenSpec.ofChange fnExactTermVariablesSpec)

/-- ITS FALSE NEIGHBOUR: 'it returns false'. Refute it at one input. -/
def fnExactTermVariablesWrong : ChangeSpec := { name := "fnExactTermVariables", fn := fun _ => fun
  | [d] => { results := [.lit (.bool false)], args := [d] }
  | _ => none }
def FnExactTermVariablesWrongFalsely : Prop := fnExactTermVariablesRow.holds Try.pinned (OpenSpec.ofChange fnExactTermVariablesWrong)

/-- 'laws.FnExactEqualTerms': WHATEVER THE INPUT: true; the input reads as it did. -/
def fnExactEqualTermsSpec : ChangeSpec := { name := "fnExactEqualTerms", fn := fun _ => fun
  | [d1, d2] => { results := [.lit (.bool true)], args := [d1, d2] }
  | _ => none }
def fnExactEqualTermsRow : OpenClaim := { program := "ytcijmhhajbgknaa", sum := "ea4fb966cc427808559b9f583203c9b8a33998206fd246f3420679ae9cb990f3", func := "loop.example/g00892/laws.FnExactEqualTerms", spec := "fnExactEqualTerms", unfollowed := true, recurses := true, loops := true, plainKeys := false, apart := false }
def FnExactEqualTermsSaid : Prop := fnExactEqualTermsRow.holds Try.pinned (OpenSpec.ofChange fnExactEqualTermsSpec)

/-- ITS FALSE NEIGHBOUR: 'it returns false'. Refute it at one input. -/
def fnExactEqualTermsWrong : ChangeSpec := { name := "fnExactEqualTerms", fn := fun _ => fun
  | [d1, d2] => { results := [.lit (.bool false)], args := [d1, d2] }
  | _ => none }
def FnExactEqualTermsWrongFalsely : Prop := fnExactEqualTermsRow.holds Try.pinned (OpenSpec.ofChange fnExactEqualTermsWrong)

/-- 'laws.FnPositions': WHATEVER THE INPUT: true; the input reads as it did. -/
def fnPositionsSpec : ChangeSpec := { name := "fnPositions", fn := fun _ => fun
  | [d] => { results := [.lit (.bool true)], args := [d] }
  | _ => none }
def fnPositionsRow : OpenClaim := { program := "ytcijmhhajbgknaa", sum := "ea4fb966cc427808559b9f583203c9b8a33998206fd246f3420679ae9cb990f3", func := "loop.example/g00892/laws.FnPositions", spec := "fnPositions", inPlace := ["internal/bytealg.IndexByteString", "internal/bytealg.IndexString"], recurses := true, named := ["internal/bytealg.MaxLen"], plainKeys := false, apart := false }
def FnPositionsSaid : Prop := fnPositionsRow.holds Try.pinned (OpenSpec.ofChange fnPositionsSpec)

/-- ITS FALSE NEIGHBOUR: 'it returns false'. Refute it at one input. -/
def fnPositionsWrong : ChangeSpec := { name := "fnPositions", fn := fun _ => fun
  | [d] => { results := [.lit (.bool false)], args := [d] }
  | _ => none }
def FnPositionsWrongFalsely : Prop := fnPositionsRow.holds Try.pinned (OpenSpec.ofChange fnPositionsWrong)

/- THE SECOND FORM. 'bulk': how many values and letters a reading holds, each counted each time it is reached (what is shared counts as often as it is met; a slice's spare places count too). A statement '..UptoSaid' is the law's where the arguments, and the package variables that the reading takes, are together of bulk at most 1048576: NARROWER than '..Said'. Prove '..Said' where nothing that the law and all that it calls make is longer than what came in: it says more and counts as full. Else prove '..UptoSaid'. A law counts once. -/
mutual
def uptoBulk {H : Type} : DataW H → Nat
  | .lit (.string bytes) => bytes.length + 1
  | .lit _ => 1
  | .nil => 1
  | .ptr d => uptoBulk d + 1
  | .slice elems spare => uptoBulkAll elems + uptoBulkAll spare + 1
  | .agg parts => uptoBulkAll parts + 1
  | .iface _ d => uptoBulk d + 1
  | .map entries => uptoBulkEntries entries + 1
  | .held _ => 1
def uptoBulkAll {H : Type} : List (DataW H) → Nat
  | [] => 0
  | d :: r => uptoBulk d + uptoBulkAll r
def uptoBulkEntries {H : Type} : List (Lit × DataW H) → Nat
  | [] => 0
  | x :: r => uptoBulkEntry x + uptoBulkEntries r
def uptoBulkEntry {H : Type} : Lit × DataW H → Nat
  | (.string bytes, d) => bytes.length + uptoBulk d + 1
  | (_, d) => uptoBulk d + 1
 end
def uptoSmall : (H : Type) → List (DataW H) → Bool := fun _ ds => decide (uptoBulkAll ds ≤ 1048576)
def OpenSpec.upto (s : _root_.Go.ChangeSpec) : _root_.Go.OpenSpec := { _root_.Go.OpenSpec.ofChange s with cond := some uptoSmall }

/-- 'laws.FnExactParseTerm', WHERE WHAT IT READS IS OF BULK AT MOST 1048576: true; the input reads as it did. -/
def fnExactParseTermUptoRow : OpenClaim := { program := "ytcijmhhajbgknaa", sum := "ea4fb966cc427808559b9f583203c9b8a33998206fd246f3420679ae9cb990f3", func := "loop.example/g00892/laws.FnExactParseTerm", spec := "fnExactParseTerm", inPlace := ["internal/bytealg.IndexByteString", "internal/bytealg.IndexString"], recurses := true, named := ["internal/bytealg.MaxLen"], plainKeys := false, apart := false, narrowed := true }
def FnExactParseTermUptoSaid : Prop := fnExactParseTermUptoRow.holds Try.pinned (OpenSpec.upto fnExactParseTermSpec)

/-- 'laws.FnExactParseAtom', WHERE WHAT IT READS IS OF BULK AT MOST 1048576: true; the input reads as it did. -/
def fnExactParseAtomUptoRow : OpenClaim := { program := "ytcijmhhajbgknaa", sum := "ea4fb966cc427808559b9f583203c9b8a33998206fd246f3420679ae9cb990f3", func := "loop.example/g00892/laws.FnExactParseAtom", spec := "fnExactParseAtom", inPlace := ["internal/bytealg.IndexByteString", "internal/bytealg.IndexString"], recurses := true, named := ["internal/bytealg.MaxLen"], plainKeys := false, apart := false, narrowed := true }
def FnExactParseAtomUptoSaid : Prop := fnExactParseAtomUptoRow.holds Try.pinned (OpenSpec.upto fnExactParseAtomSpec)

/-- 'laws.FnExactParseLiteral', WHERE WHAT IT READS IS OF BULK AT MOST 1048576: true; the input reads as it did. -/
def fnExactParseLiteralUptoRow : OpenClaim := { program := "ytcijmhhajbgknaa", sum := "ea4fb966cc427808559b9f583203c9b8a33998206fd246f3420679ae9cb990f3", func := "loop.example/g00892/laws.FnExactParseLiteral", spec := "fnExactParseLiteral", inPlace := ["internal/bytealg.IndexByteString", "internal/bytealg.IndexString"], recurses := true, named := ["internal/bytealg.MaxLen"], plainKeys := false, apart := false, narrowed := true }
def FnExactParseLiteralUptoSaid : Prop := fnExactParseLiteralUptoRow.holds Try.pinned (OpenSpec.upto fnExactParseLiteralSpec)

/-- 'laws.FnExactReplaceAt', WHERE WHAT IT READS IS OF BULK AT MOST 1048576: true; the input reads as it did. -/
def fnExactReplaceAtUptoRow : OpenClaim := { program := "ytcijmhhajbgknaa", sum := "ea4fb966cc427808559b9f583203c9b8a33998206fd246f3420679ae9cb990f3", func := "loop.example/g00892/laws.FnExactReplaceAt", spec := "fnExactReplaceAt", inPlace := ["internal/bytealg.IndexByteString", "internal/bytealg.IndexString"], recurses := true, named := ["internal/bytealg.MaxLen"], loops := true, plainKeys := false, apart := false, narrowed := true }
def FnExactReplaceAtUptoSaid : Prop := fnExactReplaceAtUptoRow.holds Try.pinned (OpenSpec.upto fnExactReplaceAtSpec)

/-- 'laws.FnExactCountSymbol', WHERE WHAT IT READS IS OF BULK AT MOST 1048576: true; the input reads as it did. -/
def fnExactCountSymbolUptoRow : OpenClaim := { program := "ytcijmhhajbgknaa", sum := "ea4fb966cc427808559b9f583203c9b8a33998206fd246f3420679ae9cb990f3", func := "loop.example/g00892/laws.FnExactCountSymbol", spec := "fnExactCountSymbol", inPlace := ["internal/bytealg.IndexByteString", "internal/bytealg.IndexString"], unfollowed := true, recurses := true, named := ["internal/bytealg.MaxLen"], loops := true, plainKeys := false, apart := false, narrowed := true }
def FnExactCountSymbolUptoSaid : Prop := fnExactCountSymbolUptoRow.holds Try.pinned (OpenSpec.upto fnExactCountSymbolSpec)

/-- 'laws.FnExactTermVariables', WHERE WHAT IT READS IS OF BULK AT MOST 1048576: true; the input reads as it did. -/
def fnExactTermVariablesUptoRow : OpenClaim := { program := "ytcijmhhajbgknaa", sum := "ea4fb966cc427808559b9f583203c9b8a33998206fd246f3420679ae9cb990f3", func := "loop.example/g00892/laws.FnExactTermVariables", spec := "fnExactTermVariables", inPlace := ["internal/bytealg.IndexByteString", "internal/bytealg.IndexString"], unfollowed := true, recurses := true, named := ["internal/bytealg.MaxLen"], loops := true, plainKeys := false, apart := false, narrowed := true }
def FnExactTermVariablesUptoSaid : Prop := fnExactTermVariablesUptoRow.holds Try.pinned (OpenSpec.upto fnExactTermVariablesSpec)

/-- 'laws.FnExactEqualTerms', WHERE WHAT IT READS IS OF BULK AT MOST 1048576: true; the input reads as it did. -/
def fnExactEqualTermsUptoRow : OpenClaim := { program := "ytcijmhhajbgknaa", sum := "ea4fb966cc427808559b9f583203c9b8a33998206fd246f3420679ae9cb990f3", func := "loop.example/g00892/laws.FnExactEqualTerms", spec := "fnExactEqualTerms", unfollowed := true, recurses := true, loops := true, plainKeys := false, apart := false, narrowed := true }
def FnExactEqualTermsUptoSaid : Prop := fnExactEqualTermsUptoRow.holds Try.pinned (OpenSpec.upto fnExactEqualTermsSpec)

/-- 'laws.FnPositions', WHERE WHAT IT READS IS OF BULK AT MOST 1048576: true; the input reads as it did. -/
def fnPositionsUptoRow : OpenClaim := { program := "ytcijmhhajbgknaa", sum := "ea4fb966cc427808559b9f583203c9b8a33998206fd246f3420679ae9cb990f3", func := "loop.example/g00892/laws.FnPositions", spec := "fnPositions", inPlace := ["internal/bytealg.IndexByteString", "internal/bytealg.IndexString"], recurses := true, named := ["internal/bytealg.MaxLen"], plainKeys := false, apart := false, narrowed := true }
def FnPositionsUptoSaid : Prop := fnPositionsUptoRow.holds Try.pinned (OpenSpec.upto fnPositionsSpec)

end Rows
end Go.Proofs.Ytcijmhhajbgknaa
