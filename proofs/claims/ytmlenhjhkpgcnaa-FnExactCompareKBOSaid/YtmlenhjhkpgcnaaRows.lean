/-
  NARROWER THAN 'FOR EVERY INPUT', by the rows' own cells (each row's printed sentence says how): FnExactIsValidLiteral: loops · FnExactIsValidClause: loops · FnExactCompareLiterals: loops · FnExactMakeClause: loops · FnExactIsTautology: loops · FnExactClauseVariables: loops · FnExactClauseWeight: loops · FnExactCompareKBO: loops.
  DERIVED. THE GIVEN ROWS OF THIS SEAT. 11 by the template 'for every input the law returns true; each argument reads behind the call as it read before'; 0 by the template 'total and deterministic' (their statements: YtmlenhjhkpgcnaaTotals.lean).
  GIVEN WITH THE SEED: the statements are not yours to turn. If you find one false, say at which input.
  Laid BY PROGRAM, IN A SANDBOX (cutbox-rows.mjs): the forced cells as the released guide's own fill.sh prints them over the translation c65e64d57e5bf618… (all of the seat's roots in one cut). By AI agents, Wed Nov 11 2026. No macro, syntax, notation, axiom, sorry.
-/
import Derived.Test.YtmlenhjhkpgcnaaChecked
import GoSem.Claim
import GoSem.ClaimJoined
import GoSem.ClaimMapViews
import Derived.JoinedTies
import Derived.KernelRfl
namespace Go.Proofs.Ytmlenhjhkpgcnaa
/- THE CELL 'sum', in the pinned program and in every row, IS THE sha256 OF THE DUMP (.gsa) THAT YtmlenhjhkpgcnaaProg.lean LOADS. Nothing in Lean hashes anything: it is a label: what it is worth is what the hold of that sum in a sandbox is worth. -/
noncomputable def Try.pinned : Pinned := { name := "ytmlenhjhkpgcnaa", sum := "c65e64d57e5bf618ab3f76053c767a61b18af7238b035b108ced9c5b2308ca26", checked := Try.checked }
namespace Rows
def none {H : Type} : Left H := { results := [], args := [] }

/-- 'laws.FnExactIsValidLiteral': WHATEVER THE INPUT: true; the input reads as it did. -/
def fnExactIsValidLiteralSpec : ChangeSpec := { name := "fnExactIsValidLiteral", fn := fun _ => fun
  | [d] => { results := [.lit (.bool true)], args := [d] }
  | _ => none }
def fnExactIsValidLiteralRow : OpenClaim := { program := "ytmlenhjhkpgcnaa", sum := "c65e64d57e5bf618ab3f76053c767a61b18af7238b035b108ced9c5b2308ca26", func := "loop.example/g00892/laws.FnExactIsValidLiteral", spec := "fnExactIsValidLiteral", inPlace := ["internal/bytealg.IndexByteString", "internal/bytealg.IndexString"], recurses := true, named := ["internal/bytealg.MaxLen"], loops := true, apart := false }
def FnExactIsValidLiteralSaid : Prop := fnExactIsValidLiteralRow.holds Try.pinned (OpenSpec.ofChange fnExactIsValidLiteralSpec)

/-- ITS FALSE NEIGHBOUR: 'it returns false'. Refute it at one input. -/
def fnExactIsValidLiteralWrong : ChangeSpec := { name := "fnExactIsValidLiteral", fn := fun _ => fun
  | [d] => { results := [.lit (.bool false)], args := [d] }
  | _ => none }
def FnExactIsValidLiteralWrongFalsely : Prop := fnExactIsValidLiteralRow.holds Try.pinned (OpenSpec.ofChange fnExactIsValidLiteralWrong)

/-- 'laws.FnExactIsValidClause': WHATEVER THE INPUT: true; the input reads as it did. -/
def fnExactIsValidClauseSpec : ChangeSpec := { name := "fnExactIsValidClause", fn := fun _ => fun
  | [d] => { results := [.lit (.bool true)], args := [d] }
  | _ => none }
def fnExactIsValidClauseRow : OpenClaim := { program := "ytmlenhjhkpgcnaa", sum := "c65e64d57e5bf618ab3f76053c767a61b18af7238b035b108ced9c5b2308ca26", func := "loop.example/g00892/laws.FnExactIsValidClause", spec := "fnExactIsValidClause", inPlace := ["internal/bytealg.IndexByteString", "internal/bytealg.IndexString", "internal/bytealg.abigen_runtime_cmpstring"], unfollowed := true, recurses := true, named := ["internal/bytealg.MaxLen"], loops := true, apart := false }
def FnExactIsValidClauseSaid : Prop := fnExactIsValidClauseRow.holds Try.pinned (OpenSpec.ofChange fnExactIsValidClauseSpec)

/-- ITS FALSE NEIGHBOUR: 'it returns false'. Refute it at one input. -/
def fnExactIsValidClauseWrong : ChangeSpec := { name := "fnExactIsValidClause", fn := fun _ => fun
  | [d] => { results := [.lit (.bool false)], args := [d] }
  | _ => none }
def FnExactIsValidClauseWrongFalsely : Prop := fnExactIsValidClauseRow.holds Try.pinned (OpenSpec.ofChange fnExactIsValidClauseWrong)

/-- 'laws.FnExactCompareLiterals': WHATEVER THE INPUT: true; the input reads as it did. -/
def fnExactCompareLiteralsSpec : ChangeSpec := { name := "fnExactCompareLiterals", fn := fun _ => fun
  | [d1, d2] => { results := [.lit (.bool true)], args := [d1, d2] }
  | _ => none }
def fnExactCompareLiteralsRow : OpenClaim := { program := "ytmlenhjhkpgcnaa", sum := "c65e64d57e5bf618ab3f76053c767a61b18af7238b035b108ced9c5b2308ca26", func := "loop.example/g00892/laws.FnExactCompareLiterals", spec := "fnExactCompareLiterals", inPlace := ["internal/bytealg.IndexByteString", "internal/bytealg.IndexString", "internal/bytealg.abigen_runtime_cmpstring"], unfollowed := true, recurses := true, named := ["internal/bytealg.MaxLen"], loops := true, apart := false }
def FnExactCompareLiteralsSaid : Prop := fnExactCompareLiteralsRow.holds Try.pinned (OpenSpec.ofChange fnExactCompareLiteralsSpec)

/-- ITS FALSE NEIGHBOUR: 'it returns false'. Refute it at one input. -/
def fnExactCompareLiteralsWrong : ChangeSpec := { name := "fnExactCompareLiterals", fn := fun _ => fun
  | [d1, d2] => { results := [.lit (.bool false)], args := [d1, d2] }
  | _ => none }
def FnExactCompareLiteralsWrongFalsely : Prop := fnExactCompareLiteralsRow.holds Try.pinned (OpenSpec.ofChange fnExactCompareLiteralsWrong)

/-- 'laws.FnExactMakeClause': WHATEVER THE INPUT: true; the input reads as it did. -/
def fnExactMakeClauseSpec : ChangeSpec := { name := "fnExactMakeClause", fn := fun _ => fun
  | [d] => { results := [.lit (.bool true)], args := [d] }
  | _ => none }
def fnExactMakeClauseRow : OpenClaim := { program := "ytmlenhjhkpgcnaa", sum := "c65e64d57e5bf618ab3f76053c767a61b18af7238b035b108ced9c5b2308ca26", func := "loop.example/g00892/laws.FnExactMakeClause", spec := "fnExactMakeClause", inPlace := ["internal/bytealg.IndexByteString", "internal/bytealg.IndexString", "internal/bytealg.abigen_runtime_cmpstring", "slices.overlaps[loop.example/g00892/impl.Literal]"], unfollowed := true, recurses := true, named := ["internal/bytealg.MaxLen"], loops := true, apart := false }
def FnExactMakeClauseSaid : Prop := fnExactMakeClauseRow.holds Try.pinned (OpenSpec.ofChange fnExactMakeClauseSpec)

/-- ITS FALSE NEIGHBOUR: 'it returns false'. Refute it at one input. -/
def fnExactMakeClauseWrong : ChangeSpec := { name := "fnExactMakeClause", fn := fun _ => fun
  | [d] => { results := [.lit (.bool false)], args := [d] }
  | _ => none }
def FnExactMakeClauseWrongFalsely : Prop := fnExactMakeClauseRow.holds Try.pinned (OpenSpec.ofChange fnExactMakeClauseWrong)

/-- 'laws.FnExactIsTautology': WHATEVER THE INPUT: true; the input reads as it did. -/
def fnExactIsTautologySpec : ChangeSpec := { name := "fnExactIsTautology", fn := fun _ => fun
  | [d] => { results := [.lit (.bool true)], args := [d] }
  | _ => none }
def fnExactIsTautologyRow : OpenClaim := { program := "ytmlenhjhkpgcnaa", sum := "c65e64d57e5bf618ab3f76053c767a61b18af7238b035b108ced9c5b2308ca26", func := "loop.example/g00892/laws.FnExactIsTautology", spec := "fnExactIsTautology", inPlace := ["internal/bytealg.IndexByteString", "internal/bytealg.IndexString", "internal/bytealg.abigen_runtime_cmpstring"], unfollowed := true, recurses := true, named := ["internal/bytealg.MaxLen"], loops := true, apart := false }
def FnExactIsTautologySaid : Prop := fnExactIsTautologyRow.holds Try.pinned (OpenSpec.ofChange fnExactIsTautologySpec)

/-- ITS FALSE NEIGHBOUR: 'it returns false'. Refute it at one input. -/
def fnExactIsTautologyWrong : ChangeSpec := { name := "fnExactIsTautology", fn := fun _ => fun
  | [d] => { results := [.lit (.bool false)], args := [d] }
  | _ => none }
def FnExactIsTautologyWrongFalsely : Prop := fnExactIsTautologyRow.holds Try.pinned (OpenSpec.ofChange fnExactIsTautologyWrong)

/-- 'laws.FnExactClauseVariables': WHATEVER THE INPUT: true; the input reads as it did. -/
def fnExactClauseVariablesSpec : ChangeSpec := { name := "fnExactClauseVariables", fn := fun _ => fun
  | [d] => { results := [.lit (.bool true)], args := [d] }
  | _ => none }
def fnExactClauseVariablesRow : OpenClaim := { program := "ytmlenhjhkpgcnaa", sum := "c65e64d57e5bf618ab3f76053c767a61b18af7238b035b108ced9c5b2308ca26", func := "loop.example/g00892/laws.FnExactClauseVariables", spec := "fnExactClauseVariables", inPlace := ["internal/bytealg.IndexByteString", "internal/bytealg.IndexString", "internal/bytealg.abigen_runtime_cmpstring"], unfollowed := true, recurses := true, named := ["internal/bytealg.MaxLen"], loops := true, apart := false }
def FnExactClauseVariablesSaid : Prop := fnExactClauseVariablesRow.holds Try.pinned (OpenSpec.ofChange fnExactClauseVariablesSpec)

/-- ITS FALSE NEIGHBOUR: 'it returns false'. Refute it at one input. -/
def fnExactClauseVariablesWrong : ChangeSpec := { name := "fnExactClauseVariables", fn := fun _ => fun
  | [d] => { results := [.lit (.bool false)], args := [d] }
  | _ => none }
def FnExactClauseVariablesWrongFalsely : Prop := fnExactClauseVariablesRow.holds Try.pinned (OpenSpec.ofChange fnExactClauseVariablesWrong)

/-- 'laws.FnExactClauseWeight': WHATEVER THE INPUT: true; the input reads as it did. -/
def fnExactClauseWeightSpec : ChangeSpec := { name := "fnExactClauseWeight", fn := fun _ => fun
  | [d] => { results := [.lit (.bool true)], args := [d] }
  | _ => none }
def fnExactClauseWeightRow : OpenClaim := { program := "ytmlenhjhkpgcnaa", sum := "c65e64d57e5bf618ab3f76053c767a61b18af7238b035b108ced9c5b2308ca26", func := "loop.example/g00892/laws.FnExactClauseWeight", spec := "fnExactClauseWeight", inPlace := ["internal/bytealg.IndexByteString", "internal/bytealg.IndexString", "internal/bytealg.abigen_runtime_cmpstring"], unfollowed := true, recurses := true, named := ["internal/bytealg.MaxLen"], loops := true, apart := false }
def FnExactClauseWeightSaid : Prop := fnExactClauseWeightRow.holds Try.pinned (OpenSpec.ofChange fnExactClauseWeightSpec)

/-- ITS FALSE NEIGHBOUR: 'it returns false'. Refute it at one input. -/
def fnExactClauseWeightWrong : ChangeSpec := { name := "fnExactClauseWeight", fn := fun _ => fun
  | [d] => { results := [.lit (.bool false)], args := [d] }
  | _ => none }
def FnExactClauseWeightWrongFalsely : Prop := fnExactClauseWeightRow.holds Try.pinned (OpenSpec.ofChange fnExactClauseWeightWrong)

/-- 'laws.FnExactCompareKBO': WHATEVER THE INPUT: true; the input reads as it did. -/
def fnExactCompareKBOSpec : ChangeSpec := { name := "fnExactCompareKBO", fn := fun _ => fun
  | [d1, d2, d3] => { results := [.lit (.bool true)], args := [d1, d2, d3] }
  | _ => none }
def fnExactCompareKBORow : OpenClaim := { program := "ytmlenhjhkpgcnaa", sum := "c65e64d57e5bf618ab3f76053c767a61b18af7238b035b108ced9c5b2308ca26", func := "loop.example/g00892/laws.FnExactCompareKBO", spec := "fnExactCompareKBO", inPlace := ["internal/bytealg.IndexByteString", "internal/bytealg.IndexString"], unfollowed := true, recurses := true, named := ["internal/bytealg.MaxLen"], loops := true, apart := false }
def FnExactCompareKBOSaid : Prop := fnExactCompareKBORow.holds Try.pinned (OpenSpec.ofChange fnExactCompareKBOSpec)

/-- ITS FALSE NEIGHBOUR: 'it returns false'. Refute it at one input. -/
def fnExactCompareKBOWrong : ChangeSpec := { name := "fnExactCompareKBO", fn := fun _ => fun
  | [d1, d2, d3] => { results := [.lit (.bool false)], args := [d1, d2, d3] }
  | _ => none }
def FnExactCompareKBOWrongFalsely : Prop := fnExactCompareKBORow.holds Try.pinned (OpenSpec.ofChange fnExactCompareKBOWrong)

/-- 'laws.FnExactParseTerm': WHATEVER THE INPUT: true; the input reads as it did. -/
def fnExactParseTermSpec : ChangeSpec := { name := "fnExactParseTerm", fn := fun _ => fun
  | [d] => { results := [.lit (.bool true)], args := [d] }
  | _ => none }
def fnExactParseTermRow : OpenClaim := { program := "ytmlenhjhkpgcnaa", sum := "c65e64d57e5bf618ab3f76053c767a61b18af7238b035b108ced9c5b2308ca26", func := "loop.example/g00892/laws.FnExactParseTerm", spec := "fnExactParseTerm", inPlace := ["internal/bytealg.IndexByteString", "internal/bytealg.IndexString"], recurses := true, named := ["internal/bytealg.MaxLen"], apart := false }
def FnExactParseTermSaid : Prop := fnExactParseTermRow.holds Try.pinned (OpenSpec.ofChange fnExactParseTermSpec)

/-- ITS FALSE NEIGHBOUR: 'it returns false'. Refute it at one input. -/
def fnExactParseTermWrong : ChangeSpec := { name := "fnExactParseTerm", fn := fun _ => fun
  | [d] => { results := [.lit (.bool false)], args := [d] }
  | _ => none }
def FnExactParseTermWrongFalsely : Prop := fnExactParseTermRow.holds Try.pinned (OpenSpec.ofChange fnExactParseTermWrong)

/-- 'laws.FnExactParseAtom': WHATEVER THE INPUT: true; the input reads as it did. -/
def fnExactParseAtomSpec : ChangeSpec := { name := "fnExactParseAtom", fn := fun _ => fun
  | [d] => { results := [.lit (.bool true)], args := [d] }
  | _ => none }
def fnExactParseAtomRow : OpenClaim := { program := "ytmlenhjhkpgcnaa", sum := "c65e64d57e5bf618ab3f76053c767a61b18af7238b035b108ced9c5b2308ca26", func := "loop.example/g00892/laws.FnExactParseAtom", spec := "fnExactParseAtom", inPlace := ["internal/bytealg.IndexByteString", "internal/bytealg.IndexString"], recurses := true, named := ["internal/bytealg.MaxLen"], apart := false }
def FnExactParseAtomSaid : Prop := fnExactParseAtomRow.holds Try.pinned (OpenSpec.ofChange fnExactParseAtomSpec)

/-- ITS FALSE NEIGHBOUR: 'it returns false'. Refute it at one input. -/
def fnExactParseAtomWrong : ChangeSpec := { name := "fnExactParseAtom", fn := fun _ => fun
  | [d] => { results := [.lit (.bool false)], args := [d] }
  | _ => none }
def FnExactParseAtomWrongFalsely : Prop := fnExactParseAtomRow.holds Try.pinned (OpenSpec.ofChange fnExactParseAtomWrong)

/-- 'laws.FnExactParseLiteral': WHATEVER THE INPUT: true; the input reads as it did. -/
def fnExactParseLiteralSpec : ChangeSpec := { name := "fnExactParseLiteral", fn := fun _ => fun
  | [d] => { results := [.lit (.bool true)], args := [d] }
  | _ => none }
def fnExactParseLiteralRow : OpenClaim := { program := "ytmlenhjhkpgcnaa", sum := "c65e64d57e5bf618ab3f76053c767a61b18af7238b035b108ced9c5b2308ca26", func := "loop.example/g00892/laws.FnExactParseLiteral", spec := "fnExactParseLiteral", inPlace := ["internal/bytealg.IndexByteString", "internal/bytealg.IndexString"], recurses := true, named := ["internal/bytealg.MaxLen"], apart := false }
def FnExactParseLiteralSaid : Prop := fnExactParseLiteralRow.holds Try.pinned (OpenSpec.ofChange fnExactParseLiteralSpec)

/-- ITS FALSE NEIGHBOUR: 'it returns false'. Refute it at one input. -/
def fnExactParseLiteralWrong : ChangeSpec := { name := "fnExactParseLiteral", fn := fun _ => fun
  | [d] => { results := [.lit (.bool false)], args := [d] }
  | _ => none }
def FnExactParseLiteralWrongFalsely : Prop := fnExactParseLiteralRow.holds Try.pinned (OpenSpec.ofChange fnExactParseLiteralWrong)

/- THE SECOND FORM. 'bulk': how many values and letters a reading holds, each counted each time it is reached (what is shared counts as often as it is met; a slice's spare places count too). A statement '..UptoSaid' is the law's where the arguments, and the package variables that the reading takes, are together of bulk at most 1048576: NARROWER than '..Said'. Prove '..Said' where nothing that the law and all that it calls make is longer than what came in: it says more and counts as full. Else prove '..UptoSaid'. A law counts once. -/
mutual
def uptoBulk {H : Type} : DataW H → Nat
  | .lit (.string bytes) => bytes.length + 1
  | .lit _ => 1
  | .nil => 1
  | .ptr d => uptoBulk d + 1
  | .slice elems spare => uptoBulkAll elems + uptoBulkAll spare + 1
  | .agg parts => uptoBulkAll parts + 1
  | .iface _ d => uptoBulk d + 1
  | .map entries => uptoBulkEntries entries + 1
  | .held _ => 1
def uptoBulkAll {H : Type} : List (DataW H) → Nat
  | [] => 0
  | d :: r => uptoBulk d + uptoBulkAll r
def uptoBulkEntries {H : Type} : List (Lit × DataW H) → Nat
  | [] => 0
  | x :: r => uptoBulkEntry x + uptoBulkEntries r
def uptoBulkEntry {H : Type} : Lit × DataW H → Nat
  | (.string bytes, d) => bytes.length + uptoBulk d + 1
  | (_, d) => uptoBulk d + 1
 end
def uptoSmall : (H : Type) → List (DataW H) → Bool := fun _ ds => decide (uptoBulkAll ds ≤ 1048576)
def OpenSpec.upto (s : _root_.Go.ChangeSpec) : _root_.Go.OpenSpec := { _root_.Go.OpenSpec.ofChange s with cond := some uptoSmall }

/-- 'laws.FnExactIsValidLiteral', WHERE WHAT IT READS IS OF BULK AT MOST 1048576: true; the input reads as it did. -/
def fnExactIsValidLiteralUptoRow : OpenClaim := { program := "ytmlenhjhkpgcnaa", sum := "c65e64d57e5bf618ab3f76053c767a61b18af7238b035b108ced9c5b2308ca26", func := "loop.example/g00892/laws.FnExactIsValidLiteral", spec := "fnExactIsValidLiteral", inPlace := ["internal/bytealg.IndexByteString", "internal/bytealg.IndexString"], recurses := true, named := ["internal/bytealg.MaxLen"], loops := true, apart := false, narrowed := true }
def FnExactIsValidLiteralUptoSaid : Prop := fnExactIsValidLiteralUptoRow.holds Try.pinned (OpenSpec.upto fnExactIsValidLiteralSpec)

/-- 'laws.FnExactIsValidClause', WHERE WHAT IT READS IS OF BULK AT MOST 1048576: true; the input reads as it did. -/
def fnExactIsValidClauseUptoRow : OpenClaim := { program := "ytmlenhjhkpgcnaa", sum := "c65e64d57e5bf618ab3f76053c767a61b18af7238b035b108ced9c5b2308ca26", func := "loop.example/g00892/laws.FnExactIsValidClause", spec := "fnExactIsValidClause", inPlace := ["internal/bytealg.IndexByteString", "internal/bytealg.IndexString", "internal/bytealg.abigen_runtime_cmpstring"], unfollowed := true, recurses := true, named := ["internal/bytealg.MaxLen"], loops := true, apart := false, narrowed := true }
def FnExactIsValidClauseUptoSaid : Prop := fnExactIsValidClauseUptoRow.holds Try.pinned (OpenSpec.upto fnExactIsValidClauseSpec)

/-- 'laws.FnExactCompareLiterals', WHERE WHAT IT READS IS OF BULK AT MOST 1048576: true; the input reads as it did. -/
def fnExactCompareLiteralsUptoRow : OpenClaim := { program := "ytmlenhjhkpgcnaa", sum := "c65e64d57e5bf618ab3f76053c767a61b18af7238b035b108ced9c5b2308ca26", func := "loop.example/g00892/laws.FnExactCompareLiterals", spec := "fnExactCompareLiterals", inPlace := ["internal/bytealg.IndexByteString", "internal/bytealg.IndexString", "internal/bytealg.abigen_runtime_cmpstring"], unfollowed := true, recurses := true, named := ["internal/bytealg.MaxLen"], loops := true, apart := false, narrowed := true }
def FnExactCompareLiteralsUptoSaid : Prop := fnExactCompareLiteralsUptoRow.holds Try.pinned (OpenSpec.upto fnExactCompareLiteralsSpec)

/-- 'laws.FnExactMakeClause', WHERE WHAT IT READS IS OF BULK AT MOST 1048576: true; the input reads as it did. -/
def fnExactMakeClauseUptoRow : OpenClaim := { program := "ytmlenhjhkpgcnaa", sum := "c65e64d57e5bf618ab3f76053c767a61b18af7238b035b108ced9c5b2308ca26", func := "loop.example/g00892/laws.FnExactMakeClause", spec := "fnExactMakeClause", inPlace := ["internal/bytealg.IndexByteString", "internal/bytealg.IndexString", "internal/bytealg.abigen_runtime_cmpstring", "slices.overlaps[loop.example/g00892/impl.Literal]"], unfollowed := true, recurses := true, named := ["internal/bytealg.MaxLen"], loops := true, apart := false, narrowed := true }
def FnExactMakeClauseUptoSaid : Prop := fnExactMakeClauseUptoRow.holds Try.pinned (OpenSpec.upto fnExactMakeClauseSpec)

/-- 'laws.FnExactIsTautology', WHERE WHAT IT READS IS OF BULK AT MOST 1048576: true; the input reads as it did. -/
def fnExactIsTautologyUptoRow : OpenClaim := { program := "ytmlenhjhkpgcnaa", sum := "c65e64d57e5bf618ab3f76053c767a61b18af7238b035b108ced9c5b2308ca26", func := "loop.example/g00892/laws.FnExactIsTautology", spec := "fnExactIsTautology", inPlace := ["internal/bytealg.IndexByteString", "internal/bytealg.IndexString", "internal/bytealg.abigen_runtime_cmpstring"], unfollowed := true, recurses := true, named := ["internal/bytealg.MaxLen"], loops := true, apart := false, narrowed := true }
def FnExactIsTautologyUptoSaid : Prop := fnExactIsTautologyUptoRow.holds Try.pinned (OpenSpec.upto fnExactIsTautologySpec)

/-- 'laws.FnExactClauseVariables', WHERE WHAT IT READS IS OF BULK AT MOST 1048576: true; the input reads as it did. -/
def fnExactClauseVariablesUptoRow : OpenClaim := { program := "ytmlenhjhkpgcnaa", sum := "c65e64d57e5bf618ab3f76053c767a61b18af7238b035b108ced9c5b2308ca26", func := "loop.example/g00892/laws.FnExactClauseVariables", spec := "fnExactClauseVariables", inPlace := ["internal/bytealg.IndexByteString", "internal/bytealg.IndexString", "internal/bytealg.abigen_runtime_cmpstring"], unfollowed := true, recurses := true, named := ["internal/bytealg.MaxLen"], loops := true, apart := false, narrowed := true }
def FnExactClauseVariablesUptoSaid : Prop := fnExactClauseVariablesUptoRow.holds Try.pinned (OpenSpec.upto fnExactClauseVariablesSpec)

/-- 'laws.FnExactClauseWeight', WHERE WHAT IT READS IS OF BULK AT MOST 1048576: true; the input reads as it did. -/
def fnExactClauseWeightUptoRow : OpenClaim := { program := "ytmlenhjhkpgcnaa", sum := "c65e64d57e5bf618ab3f76053c767a61b18af7238b035b108ced9c5b2308ca26", func := "loop.example/g00892/laws.FnExactClauseWeight", spec := "fnExactClauseWeight", inPlace := ["internal/bytealg.IndexByteString", "internal/bytealg.IndexString", "internal/bytealg.abigen_runtime_cmpstring"], unfollowed := true, recurses := true, named := ["internal/bytealg.MaxLen"], loops := true, apart := false, narrowed := true }
def FnExactClauseWeightUptoSaid : Prop := fnExactClauseWeightUptoRow.holds Try.pinned (OpenSpec.upto fnExactClauseWeightSpec)

/-- 'laws.FnExactCompareKBO', WHERE WHAT IT READS IS OF BULK AT MOST 1048576: true; the input reads as it did. -/
def fnExactCompareKBOUptoRow : OpenClaim := { program := "ytmlenhjhkpgcnaa", sum := "c65e64d57e5bf618ab3f76053c767a61b18af7238b035b108ced9c5b2308ca26", func := "loop.example/g00892/laws.FnExactCompareKBO", spec := "fnExactCompareKBO", inPlace := ["internal/bytealg.IndexByteString", "internal/bytealg.IndexString"], unfollowed := true, recurses := true, named := ["internal/bytealg.MaxLen"], loops := true, apart := false, narrowed := true }
def FnExactCompareKBOUptoSaid : Prop := fnExactCompareKBOUptoRow.holds Try.pinned (OpenSpec.upto fnExactCompareKBOSpec)

/-- 'laws.FnExactParseTerm', WHERE WHAT IT READS IS OF BULK AT MOST 1048576: true; the input reads as it did. -/
def fnExactParseTermUptoRow : OpenClaim := { program := "ytmlenhjhkpgcnaa", sum := "c65e64d57e5bf618ab3f76053c767a61b18af7238b035b108ced9c5b2308ca26", func := "loop.example/g00892/laws.FnExactParseTerm", spec := "fnExactParseTerm", inPlace := ["internal/bytealg.IndexByteString", "internal/bytealg.IndexString"], recurses := true, named := ["internal/bytealg.MaxLen"], apart := false, narrowed := true }
def FnExactParseTermUptoSaid : Prop := fnExactParseTermUptoRow.holds Try.pinned (OpenSpec.upto fnExactParseTermSpec)

/-- 'laws.FnExactParseAtom', WHERE WHAT IT READS IS OF BULK AT MOST 1048576: true; the input reads as it did. -/
def fnExactParseAtomUptoRow : OpenClaim := { program := "ytmlenhjhkpgcnaa", sum := "c65e64d57e5bf618ab3f76053c767a61b18af7238b035b108ced9c5b2308ca26", func := "loop.example/g00892/laws.FnExactParseAtom", spec := "fnExactParseAtom", inPlace := ["internal/bytealg.IndexByteString", "internal/bytealg.IndexString"], recurses := true, named := ["internal/bytealg.MaxLen"], apart := false, narrowed := true }
def FnExactParseAtomUptoSaid : Prop := fnExactParseAtomUptoRow.holds Try.pinned (OpenSpec.upto fnExactParseAtomSpec)

/-- 'laws.FnExactParseLiteral', WHERE WHAT IT READS IS OF BULK AT MOST 1048576: true; the input reads as it did. -/
def fnExactParseLiteralUptoRow : OpenClaim := { program := "ytmlenhjhkpgcnaa", sum := "c65e64d57e5bf618ab3f76053c767a61b18af7238b035b108ced9c5b2308ca26", func := "loop.example/g00892/laws.FnExactParseLiteral", spec := "fnExactParseLiteral", inPlace := ["internal/bytealg.IndexByteString", "internal/bytealg.IndexString"], recurses := true, named := ["internal/bytealg.MaxLen"], apart := false, narrowed := true }
def FnExactParseLiteralUptoSaid : Prop := fnExactParseLiteralUptoRow.holds Try.pinned (OpenSpec.upto fnExactParseLiteralSpec)

end Rows
end Go.Proofs.Ytmlenhjhkpgcnaa
