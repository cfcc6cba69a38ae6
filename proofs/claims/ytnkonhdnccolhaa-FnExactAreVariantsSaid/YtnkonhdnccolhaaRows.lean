/-
  NARROWER THAN 'FOR EVERY INPUT', by the rows' own cells (each row's printed sentence says how): FnExactIsUnifier: loops · FnExactDisagreement: loops · FnExactOccursIn: loops · FnExactComposeSubstitutions: loops · FnExactMatchTerms: loops · FnExactIsInstance: loops · FnExactAreVariants: loops.
  DERIVED. THE GIVEN ROWS OF THIS SEAT. 13 by the template 'for every input the law returns true; each argument reads behind the call as it read before'; 0 by the template 'total and deterministic' (their statements: YtnkonhdnccolhaaTotals.lean).
  GIVEN WITH THE SEED: the statements are not yours to turn. If you find one false, say at which input.
  Laid BY PROGRAM, IN A SANDBOX (cutbox-rows.mjs): the forced cells as the released guide's own fill.sh prints them over the translation ad6acbc72941e4d1… (all of the seat's roots in one cut). By AI agents, Wed Nov 11 2026. No macro, syntax, notation, axiom, sorry.
-/
import Derived.Test.YtnkonhdnccolhaaChecked
import GoSem.Claim
import GoSem.ClaimJoined
import GoSem.ClaimMapViews
import Derived.JoinedTies
import Derived.KernelRfl
namespace Go.Proofs.Ytnkonhdnccolhaa
/- THE CELL 'sum', in the pinned program and in every row, IS THE sha256 OF THE DUMP (.gsa) THAT YtnkonhdnccolhaaProg.lean LOADS. Nothing in Lean hashes anything: it is a label: what it is worth is what the hold of that sum in a sandbox is worth. -/
noncomputable def Try.pinned : Pinned := { name := "ytnkonhdnccolhaa", sum := "ad6acbc72941e4d121a82ce29a167f8d7caa371a86e8cff464c395612fad753e", checked := Try.checked }
namespace Rows
def none {H : Type} : Left H := { results := [], args := [] }

/-- 'laws.FnExactIsUnifier': WHATEVER THE INPUT: true; the input reads as it did. -/
def fnExactIsUnifierSpec : ChangeSpec := { name := "fnExactIsUnifier", fn := fun _ => fun
  | [d1, d2, d3] => { results := [.lit (.bool true)], args := [d1, d2, d3] }
  | _ => none }
def fnExactIsUnifierRow : OpenClaim := { program := "ytnkonhdnccolhaa", sum := "ad6acbc72941e4d121a82ce29a167f8d7caa371a86e8cff464c395612fad753e", func := "loop.example/g00892/laws.FnExactIsUnifier", spec := "fnExactIsUnifier", inPlace := ["internal/bytealg.IndexByteString", "internal/bytealg.IndexString", "internal/bytealg.abigen_runtime_cmpstring"], unfollowed := true, recurses := true, named := ["internal/bytealg.MaxLen"], loops := true, plainKeys := false, apart := false }
def FnExactIsUnifierSaid : Prop := fnExactIsUnifierRow.holds Try.pinned (OpenSpec.ofChange fnExactIsUnifierSpec)

/-- ITS FALSE NEIGHBOUR: 'it returns false'. Refute it at one input. -/
def fnExactIsUnifierWrong : ChangeSpec := { name := "fnExactIsUnifier", fn := fun _ => fun
  | [d1, d2, d3] => { results := [.lit (.bool false)], args := [d1, d2, d3] }
  | _ => none }
def FnExactIsUnifierWrongFalsely : Prop := fnExactIsUnifierRow.holds Try.pinned (OpenSpec.ofChange fnExactIsUnifierWrong)

/-- 'laws.FnExactDisagreement': WHATEVER THE INPUT: true; the input reads as it did. -/
def fnExactDisagreementSpec : ChangeSpec := { name := "fnExactDisagreement", fn := fun _ => fun
  | [d1, d2] => { results := [.lit (.bool true)], args := [d1, d2] }
  | _ => none }
def fnExactDisagreementRow : OpenClaim := { program := "ytnkonhdnccolhaa", sum := "ad6acbc72941e4d121a82ce29a167f8d7caa371a86e8cff464c395612fad753e", func := "loop.example/g00892/laws.FnExactDisagreement", spec := "fnExactDisagreement", inPlace := ["internal/bytealg.IndexByteString", "internal/bytealg.IndexString"], recurses := true, named := ["internal/bytealg.MaxLen"], loops := true, plainKeys := false, apart := false }
def FnExactDisagreementSaid : Prop := fnExactDisagreementRow.holds Try.pinned (OpenSpec.ofChange fnExactDisagreementSpec)

/-- ITS FALSE NEIGHBOUR: 'it returns false'. Refute it at one input. -/
def fnExactDisagreementWrong : ChangeSpec := { name := "fnExactDisagreement", fn := fun _ => fun
  | [d1, d2] => { results := [.lit (.bool false)], args := [d1, d2] }
  | _ => none }
def FnExactDisagreementWrongFalsely : Prop := fnExactDisagreementRow.holds Try.pinned (OpenSpec.ofChange fnExactDisagreementWrong)

/-- 'laws.FnExactOccursIn': WHATEVER THE INPUT: true; the input reads as it did. -/
def fnExactOccursInSpec : ChangeSpec := { name := "fnExactOccursIn", fn := fun _ => fun
  | [d1, d2] => { results := [.lit (.bool true)], args := [d1, d2] }
  | _ => none }
def fnExactOccursInRow : OpenClaim := { program := "ytnkonhdnccolhaa", sum := "ad6acbc72941e4d121a82ce29a167f8d7caa371a86e8cff464c395612fad753e", func := "loop.example/g00892/laws.FnExactOccursIn", spec := "fnExactOccursIn", inPlace := ["internal/bytealg.IndexByteString", "internal/bytealg.IndexString"], unfollowed := true, recurses := true, named := ["internal/bytealg.MaxLen"], loops := true, plainKeys := false, apart := false }
def FnExactOccursInSaid : Prop := fnExactOccursInRow.holds Try.pinned (OpenSpec.ofChange fnExactOccursInSpec)

/-- ITS FALSE NEIGHBOUR: 'it returns false'. Refute it at one input. -/
def fnExactOccursInWrong : ChangeSpec := { name := "fnExactOccursIn", fn := fun _ => fun
  | [d1, d2] => { results := [.lit (.bool false)], args := [d1, d2] }
  | _ => none }
def FnExactOccursInWrongFalsely : Prop := fnExactOccursInRow.holds Try.pinned (OpenSpec.ofChange fnExactOccursInWrong)

/-- 'laws.FnExactComposeSubstitutions': WHATEVER THE INPUT: true; the input reads as it did. -/
def fnExactComposeSubstitutionsSpec : ChangeSpec := { name := "fnExactComposeSubstitutions", fn := fun _ => fun
  | [d1, d2] => { results := [.lit (.bool true)], args := [d1, d2] }
  | _ => none }
def fnExactComposeSubstitutionsRow : OpenClaim := { program := "ytnkonhdnccolhaa", sum := "ad6acbc72941e4d121a82ce29a167f8d7caa371a86e8cff464c395612fad753e", func := "loop.example/g00892/laws.FnExactComposeSubstitutions", spec := "fnExactComposeSubstitutions", inPlace := ["internal/bytealg.IndexByteString", "internal/bytealg.IndexString", "internal/bytealg.abigen_runtime_cmpstring", "slices.overlaps[loop.example/g00892/impl.Binding]"], unfollowed := true, recurses := true, named := ["internal/bytealg.MaxLen"], loops := true, plainKeys := false, apart := false }
def FnExactComposeSubstitutionsSaid : Prop := fnExactComposeSubstitutionsRow.holds Try.pinned (OpenSpec.ofChange fnExactComposeSubstitutionsSpec)

/-- ITS FALSE NEIGHBOUR: 'it returns false'. Refute it at one input. -/
def fnExactComposeSubstitutionsWrong : ChangeSpec := { name := "fnExactComposeSubstitutions", fn := fun _ => fun
  | [d1, d2] => { results := [.lit (.bool false)], args := [d1, d2] }
  | _ => none }
def FnExactComposeSubstitutionsWrongFalsely : Prop := fnExactComposeSubstitutionsRow.holds Try.pinned (OpenSpec.ofChange fnExactComposeSubstitutionsWrong)

/-- 'laws.FnExactMatchTerms': WHATEVER THE INPUT: true; the input reads as it did. -/
def fnExactMatchTermsSpec : ChangeSpec := { name := "fnExactMatchTerms", fn := fun _ => fun
  | [d1, d2] => { results := [.lit (.bool true)], args := [d1, d2] }
  | _ => none }
def fnExactMatchTermsRow : OpenClaim := { program := "ytnkonhdnccolhaa", sum := "ad6acbc72941e4d121a82ce29a167f8d7caa371a86e8cff464c395612fad753e", func := "loop.example/g00892/laws.FnExactMatchTerms", spec := "fnExactMatchTerms", inPlace := ["internal/bytealg.IndexByteString", "internal/bytealg.IndexString", "internal/bytealg.abigen_runtime_cmpstring", "slices.overlaps[loop.example/g00892/impl.Binding]"], unfollowed := true, recurses := true, named := ["internal/bytealg.MaxLen"], loops := true, plainKeys := false, apart := false }
def FnExactMatchTermsSaid : Prop := fnExactMatchTermsRow.holds Try.pinned (OpenSpec.ofChange fnExactMatchTermsSpec)

/-- ITS FALSE NEIGHBOUR: 'it returns false'. Refute it at one input. -/
def fnExactMatchTermsWrong : ChangeSpec := { name := "fnExactMatchTerms", fn := fun _ => fun
  | [d1, d2] => { results := [.lit (.bool false)], args := [d1, d2] }
  | _ => none }
def FnExactMatchTermsWrongFalsely : Prop := fnExactMatchTermsRow.holds Try.pinned (OpenSpec.ofChange fnExactMatchTermsWrong)

/-- 'laws.FnExactIsInstance': WHATEVER THE INPUT: true; the input reads as it did. -/
def fnExactIsInstanceSpec : ChangeSpec := { name := "fnExactIsInstance", fn := fun _ => fun
  | [d1, d2] => { results := [.lit (.bool true)], args := [d1, d2] }
  | _ => none }
def fnExactIsInstanceRow : OpenClaim := { program := "ytnkonhdnccolhaa", sum := "ad6acbc72941e4d121a82ce29a167f8d7caa371a86e8cff464c395612fad753e", func := "loop.example/g00892/laws.FnExactIsInstance", spec := "fnExactIsInstance", inPlace := ["internal/bytealg.IndexByteString", "internal/bytealg.IndexString", "internal/bytealg.abigen_runtime_cmpstring", "slices.overlaps[loop.example/g00892/impl.Binding]"], unfollowed := true, recurses := true, named := ["internal/bytealg.MaxLen"], loops := true, plainKeys := false, apart := false }
def FnExactIsInstanceSaid : Prop := fnExactIsInstanceRow.holds Try.pinned (OpenSpec.ofChange fnExactIsInstanceSpec)

/-- ITS FALSE NEIGHBOUR: 'it returns false'. Refute it at one input. -/
def fnExactIsInstanceWrong : ChangeSpec := { name := "fnExactIsInstance", fn := fun _ => fun
  | [d1, d2] => { results := [.lit (.bool false)], args := [d1, d2] }
  | _ => none }
def FnExactIsInstanceWrongFalsely : Prop := fnExactIsInstanceRow.holds Try.pinned (OpenSpec.ofChange fnExactIsInstanceWrong)

/-- 'laws.FnExactAreVariants': WHATEVER THE INPUT: true; the input reads as it did. -/
def fnExactAreVariantsSpec : ChangeSpec := { name := "fnExactAreVariants", fn := fun _ => fun
  | [d1, d2] => { results := [.lit (.bool true)], args := [d1, d2] }
  | _ => none }
def fnExactAreVariantsRow : OpenClaim := { program := "ytnkonhdnccolhaa", sum := "ad6acbc72941e4d121a82ce29a167f8d7caa371a86e8cff464c395612fad753e", func := "loop.example/g00892/laws.FnExactAreVariants", spec := "fnExactAreVariants", inPlace := ["internal/bytealg.IndexByteString", "internal/bytealg.IndexString", "internal/bytealg.abigen_runtime_cmpstring", "slices.overlaps[loop.example/g00892/impl.Binding]"], unfollowed := true, recurses := true, named := ["internal/bytealg.MaxLen"], loops := true, plainKeys := false, apart := false }
def FnExactAreVariantsSaid : Prop := fnExactAreVariantsRow.holds Try.pinned (OpenSpec.ofChange fnExactAreVariantsSpec)

/-- ITS FALSE NEIGHBOUR: 'it returns false'. Refute it at one input. -/
def fnExactAreVariantsWrong : ChangeSpec := { name := "fnExactAreVariants", fn := fun _ => fun
  | [d1, d2] => { results := [.lit (.bool false)], args := [d1, d2] }
  | _ => none }
def FnExactAreVariantsWrongFalsely : Prop := fnExactAreVariantsRow.holds Try.pinned (OpenSpec.ofChange fnExactAreVariantsWrong)

/-- 'laws.FnExactParseTerm': WHATEVER THE INPUT: true; the input reads as it did. -/
def fnExactParseTermSpec : ChangeSpec := { name := "fnExactParseTerm", fn := fun _ => fun
  | [d] => { results := [.lit (.bool true)], args := [d] }
  | _ => none }
def fnExactParseTermRow : OpenClaim := { program := "ytnkonhdnccolhaa", sum := "ad6acbc72941e4d121a82ce29a167f8d7caa371a86e8cff464c395612fad753e", func := "loop.example/g00892/laws.FnExactParseTerm", spec := "fnExactParseTerm", inPlace := ["internal/bytealg.IndexByteString", "internal/bytealg.IndexString"], recurses := true, named := ["internal/bytealg.MaxLen"], plainKeys := false, apart := false }
def FnExactParseTermSaid : Prop := fnExactParseTermRow.holds Try.pinned (OpenSpec.ofChange fnExactParseTermSpec)

/-- ITS FALSE NEIGHBOUR: 'it returns false'. Refute it at one input. -/
def fnExactParseTermWrong : ChangeSpec := { name := "fnExactParseTerm", fn := fun _ => fun
  | [d] => { results := [.lit (.bool false)], args := [d] }
  | _ => none }
def FnExactParseTermWrongFalsely : Prop := fnExactParseTermRow.holds Try.pinned (OpenSpec.ofChange fnExactParseTermWrong)

/-- 'laws.FnExactParseAtom': WHATEVER THE INPUT: true; the input reads as it did. -/
def fnExactParseAtomSpec : ChangeSpec := { name := "fnExactParseAtom", fn := fun _ => fun
  | [d] => { results := [.lit (.bool true)], args := [d] }
  | _ => none }
def fnExactParseAtomRow : OpenClaim := { program := "ytnkonhdnccolhaa", sum := "ad6acbc72941e4d121a82ce29a167f8d7caa371a86e8cff464c395612fad753e", func := "loop.example/g00892/laws.FnExactParseAtom", spec := "fnExactParseAtom", inPlace := ["internal/bytealg.IndexByteString", "internal/bytealg.IndexString"], recurses := true, named := ["internal/bytealg.MaxLen"], plainKeys := false, apart := false }
def FnExactParseAtomSaid : Prop := fnExactParseAtomRow.holds Try.pinned (OpenSpec.ofChange fnExactParseAtomSpec)

/-- ITS FALSE NEIGHBOUR: 'it returns false'. Refute it at one input. -/
def fnExactParseAtomWrong : ChangeSpec := { name := "fnExactParseAtom", fn := fun _ => fun
  | [d] => { results := [.lit (.bool false)], args := [d] }
  | _ => none }
def FnExactParseAtomWrongFalsely : Prop := fnExactParseAtomRow.holds Try.pinned (OpenSpec.ofChange fnExactParseAtomWrong)

/-- 'laws.FnExactParseLiteral': WHATEVER THE INPUT: true; the input reads as it did. -/
def fnExactParseLiteralSpec : ChangeSpec := { name := "fnExactParseLiteral", fn := fun _ => fun
  | [d] => { results := [.lit (.bool true)], args := [d] }
  | _ => none }
def fnExactParseLiteralRow : OpenClaim := { program := "ytnkonhdnccolhaa", sum := "ad6acbc72941e4d121a82ce29a167f8d7caa371a86e8cff464c395612fad753e", func := "loop.example/g00892/laws.FnExactParseLiteral", spec := "fnExactParseLiteral", inPlace := ["internal/bytealg.IndexByteString", "internal/bytealg.IndexString"], recurses := true, named := ["internal/bytealg.MaxLen"], plainKeys := false, apart := false }
def FnExactParseLiteralSaid : Prop := fnExactParseLiteralRow.holds Try.pinned (OpenSpec.ofChange fnExactParseLiteralSpec)

/-- ITS FALSE NEIGHBOUR: 'it returns false'. Refute it at one input. -/
def fnExactParseLiteralWrong : ChangeSpec := { name := "fnExactParseLiteral", fn := fun _ => fun
  | [d] => { results := [.lit (.bool false)], args := [d] }
  | _ => none }
def FnExactParseLiteralWrongFalsely : Prop := fnExactParseLiteralRow.holds Try.pinned (OpenSpec.ofChange fnExactParseLiteralWrong)

/-- 'laws.FnCompose': WHATEVER THE INPUT: true; the input reads as it did. -/
def fnComposeSpec : ChangeSpec := { name := "fnCompose", fn := fun _ => fun
  | [d] => { results := [.lit (.bool true)], args := [d] }
  | _ => none }
def fnComposeRow : OpenClaim := { program := "ytnkonhdnccolhaa", sum := "ad6acbc72941e4d121a82ce29a167f8d7caa371a86e8cff464c395612fad753e", func := "loop.example/g00892/laws.FnCompose", spec := "fnCompose", inPlace := ["internal/bytealg.IndexByteString", "internal/bytealg.IndexString", "internal/bytealg.abigen_runtime_cmpstring", "slices.overlaps[loop.example/g00892/impl.Binding]"], unfollowed := true, recurses := true, named := ["internal/bytealg.MaxLen"], plainKeys := false, apart := false }
def FnComposeSaid : Prop := fnComposeRow.holds Try.pinned (OpenSpec.ofChange fnComposeSpec)

/-- ITS FALSE NEIGHBOUR: 'it returns false'. Refute it at one input. -/
def fnComposeWrong : ChangeSpec := { name := "fnCompose", fn := fun _ => fun
  | [d] => { results := [.lit (.bool false)], args := [d] }
  | _ => none }
def FnComposeWrongFalsely : Prop := fnComposeRow.holds Try.pinned (OpenSpec.ofChange fnComposeWrong)

/-- 'laws.FnPositions': WHATEVER THE INPUT: true; the input reads as it did. -/
def fnPositionsSpec : ChangeSpec := { name := "fnPositions", fn := fun _ => fun
  | [d] => { results := [.lit (.bool true)], args := [d] }
  | _ => none }
def fnPositionsRow : OpenClaim := { program := "ytnkonhdnccolhaa", sum := "ad6acbc72941e4d121a82ce29a167f8d7caa371a86e8cff464c395612fad753e", func := "loop.example/g00892/laws.FnPositions", spec := "fnPositions", inPlace := ["internal/bytealg.IndexByteString", "internal/bytealg.IndexString"], recurses := true, named := ["internal/bytealg.MaxLen"], plainKeys := false, apart := false }
def FnPositionsSaid : Prop := fnPositionsRow.holds Try.pinned (OpenSpec.ofChange fnPositionsSpec)

/-- ITS FALSE NEIGHBOUR: 'it returns false'. Refute it at one input. -/
def fnPositionsWrong : ChangeSpec := { name := "fnPositions", fn := fun _ => fun
  | [d] => { results := [.lit (.bool false)], args := [d] }
  | _ => none }
def FnPositionsWrongFalsely : Prop := fnPositionsRow.holds Try.pinned (OpenSpec.ofChange fnPositionsWrong)

/-- 'laws.FnTermOrder': WHATEVER THE INPUT: true; the input reads as it did. -/
def fnTermOrderSpec : ChangeSpec := { name := "fnTermOrder", fn := fun _ => fun
  | [d] => { results := [.lit (.bool true)], args := [d] }
  | _ => none }
def fnTermOrderRow : OpenClaim := { program := "ytnkonhdnccolhaa", sum := "ad6acbc72941e4d121a82ce29a167f8d7caa371a86e8cff464c395612fad753e", func := "loop.example/g00892/laws.FnTermOrder", spec := "fnTermOrder", inPlace := ["internal/bytealg.IndexByteString", "internal/bytealg.IndexString", "internal/bytealg.abigen_runtime_cmpstring"], unfollowed := true, recurses := true, named := ["internal/bytealg.MaxLen"], plainKeys := false, apart := false }
def FnTermOrderSaid : Prop := fnTermOrderRow.holds Try.pinned (OpenSpec.ofChange fnTermOrderSpec)

/-- ITS FALSE NEIGHBOUR: 'it returns false'. Refute it at one input. -/
def fnTermOrderWrong : ChangeSpec := { name := "fnTermOrder", fn := fun _ => fun
  | [d] => { results := [.lit (.bool false)], args := [d] }
  | _ => none }
def FnTermOrderWrongFalsely : Prop := fnTermOrderRow.holds Try.pinned (OpenSpec.ofChange fnTermOrderWrong)

/- THE SECOND FORM. 'bulk': how many values and letters a reading holds, each counted each time it is reached (what is shared counts as often as it is met; a slice's spare places count too). A statement '..UptoSaid' is the law's where the arguments, and the package variables that the reading takes, are together of bulk at most 1048576: NARROWER than '..Said'. Prove '..Said' where nothing that the law and all that it calls make is longer than what came in: it says more and counts as full. Else prove '..UptoSaid'. A law counts once. -/
mutual
def uptoBulk {H : Type} : DataW H → Nat
  | .lit (.string bytes) => bytes.length + 1
  | .lit _ => 1
  | .nil => 1
  | .ptr d => uptoBulk d + 1
  | .slice elems spare => uptoBulkAll elems + uptoBulkAll spare + 1
  | .agg parts => uptoBulkAll parts + 1
  | .iface _ d => uptoBulk d + 1
  | .map entries => uptoBulkEntries entries + 1
  | .held _ => 1
def uptoBulkAll {H : Type} : List (DataW H) → Nat
  | [] => 0
  | d :: r => uptoBulk d + uptoBulkAll r
def uptoBulkEntries {H : Type} : List (Lit × DataW H) → Nat
  | [] => 0
  | x :: r => uptoBulkEntry x + uptoBulkEntries r
def uptoBulkEntry {H : Type} : Lit × DataW H → Nat
  | (.string bytes, d) => bytes.length + uptoBulk d + 1
  | (_, d) => uptoBulk d + 1
 end
def uptoSmall : (H : Type) → List (DataW H) → Bool := fun _ ds => decide (uptoBulkAll ds ≤ 1048576)
def OpenSpec.upto (s : _root_.Go.ChangeSpec) : _root_.Go.OpenSpec := { _root_.Go.OpenSpec.ofChange s with cond := some uptoSmall }

/-- 'laws.FnExactIsUnifier', WHERE WHAT IT READS IS OF BULK AT MOST 1048576: true; the input reads as it did. -/
def fnExactIsUnifierUptoRow : OpenClaim := { program := "ytnkonhdnccolhaa", sum := "ad6acbc72941e4d121a82ce29a167f8d7caa371a86e8cff464c395612fad753e", func := "loop.example/g00892/laws.FnExactIsUnifier", spec := "fnExactIsUnifier", inPlace := ["internal/bytealg.IndexByteString", "internal/bytealg.IndexString", "internal/bytealg.abigen_runtime_cmpstring"], unfollowed := true, recurses := true, named := ["internal/bytealg.MaxLen"], loops := true, plainKeys := false, apart := false, narrowed := true }
def FnExactIsUnifierUptoSaid : Prop := fnExactIsUnifierUptoRow.holds Try.pinned (OpenSpec.upto fnExactIsUnifierSpec)

/-- 'laws.FnExactDisagreement', WHERE WHAT IT READS IS OF BULK AT MOST 1048576: true; the input reads as it did. -/
def fnExactDisagreementUptoRow : OpenClaim := { program := "ytnkonhdnccolhaa", sum := "ad6acbc72941e4d121a82ce29a167f8d7caa371a86e8cff464c395612fad753e", func := "loop.example/g00892/laws.FnExactDisagreement", spec := "fnExactDisagreement", inPlace := ["internal/bytealg.IndexByteString", "internal/bytealg.IndexString"], recurses := true, named := ["internal/bytealg.MaxLen"], loops := true, plainKeys := false, apart := false, narrowed := true }
def FnExactDisagreementUptoSaid : Prop := fnExactDisagreementUptoRow.holds Try.pinned (OpenSpec.upto fnExactDisagreementSpec)

/-- 'laws.FnExactOccursIn', WHERE WHAT IT READS IS OF BULK AT MOST 1048576: true; the input reads as it did. -/
def fnExactOccursInUptoRow : OpenClaim := { program := "ytnkonhdnccolhaa", sum := "ad6acbc72941e4d121a82ce29a167f8d7caa371a86e8cff464c395612fad753e", func := "loop.example/g00892/laws.FnExactOccursIn", spec := "fnExactOccursIn", inPlace := ["internal/bytealg.IndexByteString", "internal/bytealg.IndexString"], unfollowed := true, recurses := true, named := ["internal/bytealg.MaxLen"], loops := true, plainKeys := false, apart := false, narrowed := true }
def FnExactOccursInUptoSaid : Prop := fnExactOccursInUptoRow.holds Try.pinned (OpenSpec.upto fnExactOccursInSpec)

/-- 'laws.FnExactComposeSubstitutions', WHERE WHAT IT READS IS OF BULK AT MOST 1048576: true; the input reads as it did. -/
def fnExactComposeSubstitutionsUptoRow : OpenClaim := { program := "ytnkonhdnccolhaa", sum := "ad6acbc72941e4d121a82ce29a167f8d7caa371a86e8cff464c395612fad753e", func := "loop.example/g00892/laws.FnExactComposeSubstitutions", spec := "fnExactComposeSubstitutions", inPlace := ["internal/bytealg.IndexByteString", "internal/bytealg.IndexString", "internal/bytealg.abigen_runtime_cmpstring", "slices.overlaps[loop.example/g00892/impl.Binding]"], unfollowed := true, recurses := true, named := ["internal/bytealg.MaxLen"], loops := true, plainKeys := false, apart := false, narrowed := true }
def FnExactComposeSubstitutionsUptoSaid : Prop := fnExactComposeSubstitutionsUptoRow.holds Try.pinned (OpenSpec.upto fnExactComposeSubstitutionsSpec)

/-- 'laws.FnExactMatchTerms', WHERE WHAT IT READS IS OF BULK AT MOST 1048576: true; the input reads as it did. -/
def fnExactMatchTermsUptoRow : OpenClaim := { program := "ytnkonhdnccolhaa", sum := "ad6acbc72941e4d121a82ce29a167f8d7caa371a86e8cff464c395612fad753e", func := "loop.example/g00892/laws.FnExactMatchTerms", spec := "fnExactMatchTerms", inPlace := ["internal/bytealg.IndexByteString", "internal/bytealg.IndexString", "internal/bytealg.abigen_runtime_cmpstring", "slices.overlaps[loop.example/g00892/impl.Binding]"], unfollowed := true, recurses := true, named := ["internal/bytealg.MaxLen"], loops := true, plainKeys := false, apart := false, narrowed := true }
def FnExactMatchTermsUptoSaid : Prop := fnExactMatchTermsUptoRow.holds Try.pinned (OpenSpec.upto fnExactMatchTermsSpec)

/-- 'laws.FnExactIsInstance', WHERE WHAT IT READS IS OF BULK AT MOST 1048576: true; the input reads as it did. -/
def fnExactIsInstanceUptoRow : OpenClaim := { program := "ytnkonhdnccolhaa", sum := "ad6acbc72941e4d121a82ce29a167f8d7caa371a86e8cff464c395612fad753e", func := "loop.example/g00892/laws.FnExactIsInstance", spec := "fnExactIsInstance", inPlace := ["internal/bytealg.IndexByteString", "internal/bytealg.IndexString", "internal/bytealg.abigen_runtime_cmpstring", "slices.overlaps[loop.example/g00892/impl.Binding]"], unfollowed := true, recurses := true, named := ["internal/bytealg.MaxLen"], loops := true, plainKeys := false, apart := false, narrowed := true }
def FnExactIsInstanceUptoSaid : Prop := fnExactIsInstanceUptoRow.holds Try.pinned (OpenSpec.upto fnExactIsInstanceSpec)

/-- 'laws.FnExactAreVariants', WHERE WHAT IT READS IS OF BULK AT MOST 1048576: true; the input reads as it did. -/
def fnExactAreVariantsUptoRow : OpenClaim := { program := "ytnkonhdnccolhaa", sum := "ad6acbc72941e4d121a82ce29a167f8d7caa371a86e8cff464c395612fad753e", func := "loop.example/g00892/laws.FnExactAreVariants", spec := "fnExactAreVariants", inPlace := ["internal/bytealg.IndexByteString", "internal/bytealg.IndexString", "internal/bytealg.abigen_runtime_cmpstring", "slices.overlaps[loop.example/g00892/impl.Binding]"], unfollowed := true, recurses := true, named := ["internal/bytealg.MaxLen"], loops := true, plainKeys := false, apart := false, narrowed := true }
def FnExactAreVariantsUptoSaid : Prop := fnExactAreVariantsUptoRow.holds Try.pinned (OpenSpec.upto fnExactAreVariantsSpec)

/-- 'laws.FnExactParseTerm', WHERE WHAT IT READS IS OF BULK AT MOST 1048576: true; the input reads as it did. -/
def fnExactParseTermUptoRow : OpenClaim := { program := "ytnkonhdnccolhaa", sum := "ad6acbc72941e4d121a82ce29a167f8d7caa371a86e8cff464c395612fad753e", func := "loop.example/g00892/laws.FnExactParseTerm", spec := "fnExactParseTerm", inPlace := ["internal/bytealg.IndexByteString", "internal/bytealg.IndexString"], recurses := true, named := ["internal/bytealg.MaxLen"], plainKeys := false, apart := false, narrowed := true }
def FnExactParseTermUptoSaid : Prop := fnExactParseTermUptoRow.holds Try.pinned (OpenSpec.upto fnExactParseTermSpec)

/-- 'laws.FnExactParseAtom', WHERE WHAT IT READS IS OF BULK AT MOST 1048576: true; the input reads as it did. -/
def fnExactParseAtomUptoRow : OpenClaim := { program := "ytnkonhdnccolhaa", sum := "ad6acbc72941e4d121a82ce29a167f8d7caa371a86e8cff464c395612fad753e", func := "loop.example/g00892/laws.FnExactParseAtom", spec := "fnExactParseAtom", inPlace := ["internal/bytealg.IndexByteString", "internal/bytealg.IndexString"], recurses := true, named := ["internal/bytealg.MaxLen"], plainKeys := false, apart := false, narrowed := true }
def FnExactParseAtomUptoSaid : Prop := fnExactParseAtomUptoRow.holds Try.pinned (OpenSpec.upto fnExactParseAtomSpec)

/-- 'laws.FnExactParseLiteral', WHERE WHAT IT READS IS OF BULK AT MOST 1048576: true; the input reads as it did. -/
def fnExactParseLiteralUptoRow : OpenClaim := { program := "ytnkonhdnccolhaa", sum := "ad6acbc72941e4d121a82ce29a167f8d7caa371a86e8cff464c395612fad753e", func := "loop.example/g00892/laws.FnExactParseLiteral", spec := "fnExactParseLiteral", inPlace := ["internal/bytealg.IndexByteString", "internal/bytealg.IndexString"], recurses := true, named := ["internal/bytealg.MaxLen"], plainKeys := false, apart := false, narrowed := true }
def FnExactParseLiteralUptoSaid : Prop := fnExactParseLiteralUptoRow.holds Try.pinned (OpenSpec.upto fnExactParseLiteralSpec)

/-- 'laws.FnCompose', WHERE WHAT IT READS IS OF BULK AT MOST 1048576: true; the input reads as it did. -/
def fnComposeUptoRow : OpenClaim := { program := "ytnkonhdnccolhaa", sum := "ad6acbc72941e4d121a82ce29a167f8d7caa371a86e8cff464c395612fad753e", func := "loop.example/g00892/laws.FnCompose", spec := "fnCompose", inPlace := ["internal/bytealg.IndexByteString", "internal/bytealg.IndexString", "internal/bytealg.abigen_runtime_cmpstring", "slices.overlaps[loop.example/g00892/impl.Binding]"], unfollowed := true, recurses := true, named := ["internal/bytealg.MaxLen"], plainKeys := false, apart := false, narrowed := true }
def FnComposeUptoSaid : Prop := fnComposeUptoRow.holds Try.pinned (OpenSpec.upto fnComposeSpec)

/-- 'laws.FnPositions', WHERE WHAT IT READS IS OF BULK AT MOST 1048576: true; the input reads as it did. -/
def fnPositionsUptoRow : OpenClaim := { program := "ytnkonhdnccolhaa", sum := "ad6acbc72941e4d121a82ce29a167f8d7caa371a86e8cff464c395612fad753e", func := "loop.example/g00892/laws.FnPositions", spec := "fnPositions", inPlace := ["internal/bytealg.IndexByteString", "internal/bytealg.IndexString"], recurses := true, named := ["internal/bytealg.MaxLen"], plainKeys := false, apart := false, narrowed := true }
def FnPositionsUptoSaid : Prop := fnPositionsUptoRow.holds Try.pinned (OpenSpec.upto fnPositionsSpec)

/-- 'laws.FnTermOrder', WHERE WHAT IT READS IS OF BULK AT MOST 1048576: true; the input reads as it did. -/
def fnTermOrderUptoRow : OpenClaim := { program := "ytnkonhdnccolhaa", sum := "ad6acbc72941e4d121a82ce29a167f8d7caa371a86e8cff464c395612fad753e", func := "loop.example/g00892/laws.FnTermOrder", spec := "fnTermOrder", inPlace := ["internal/bytealg.IndexByteString", "internal/bytealg.IndexString", "internal/bytealg.abigen_runtime_cmpstring"], unfollowed := true, recurses := true, named := ["internal/bytealg.MaxLen"], plainKeys := false, apart := false, narrowed := true }
def FnTermOrderUptoSaid : Prop := fnTermOrderUptoRow.holds Try.pinned (OpenSpec.upto fnTermOrderSpec)

end Rows
end Go.Proofs.Ytnkonhdnccolhaa
