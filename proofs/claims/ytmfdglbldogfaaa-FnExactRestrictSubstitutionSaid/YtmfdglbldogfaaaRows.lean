/-
  NARROWER THAN 'FOR EVERY INPUT', by the rows' own cells (each row's printed sentence says how): FnExactIsValidSubstitution: loops · FnExactApplySubstitution: loops · FnExactComposeSubstitutions: loops · FnExactRestrictSubstitution: loops · FnExactIsIdempotent: loops · FnExactIsRenaming: loops · FnExactMatchTerms: loops · FnExactIsInstance: loops · FnExactAreVariants: loops · FnExactEqualTerms: loops.
  DERIVED. THE GIVEN ROWS OF THIS SEAT. 13 by the template 'for every input the law returns true; each argument reads behind the call as it read before'; 0 by the template 'total and deterministic' (their statements: YtmfdglbldogfaaaTotals.lean).
  GIVEN WITH THE SEED: the statements are not yours to turn. If you find one false, say at which input.
  Laid BY PROGRAM, IN A SANDBOX (cutbox-rows.mjs): the forced cells as the released guide's own fill.sh prints them over the translation 7d9e402b6e9cd686… (all of the seat's roots in one cut). By AI agents, Wed Nov 11 2026. No macro, syntax, notation, axiom, sorry.
-/
import Derived.Test.YtmfdglbldogfaaaChecked
import GoSem.Claim
import GoSem.ClaimJoined
import GoSem.ClaimMapViews
import Derived.JoinedTies
import Derived.KernelRfl
namespace Go.Proofs.Ytmfdglbldogfaaa
/- THE CELL 'sum', in the pinned program and in every row, IS THE sha256 OF THE DUMP (.gsa) THAT YtmfdglbldogfaaaProg.lean LOADS. Nothing in Lean hashes anything: it is a label: what it is worth is what the hold of that sum in a sandbox is worth. -/
noncomputable def Try.pinned : Pinned := { name := "ytmfdglbldogfaaa", sum := "7d9e402b6e9cd686629003ce3a112f638edc6deff702f57e70fe74e63c40ecfb", checked := Try.checked }
namespace Rows
def none {H : Type} : Left H := { results := [], args := [] }

/-- 'laws.FnExactIsValidSubstitution': WHATEVER THE INPUT: true; the input reads as it did. -/
def fnExactIsValidSubstitutionSpec : ChangeSpec := { name := "fnExactIsValidSubstitution", fn := fun _ => fun
  | [d] => { results := [.lit (.bool true)], args := [d] }
  | _ => none }
def fnExactIsValidSubstitutionRow : OpenClaim := { program := "ytmfdglbldogfaaa", sum := "7d9e402b6e9cd686629003ce3a112f638edc6deff702f57e70fe74e63c40ecfb", func := "loop.example/g00892/laws.FnExactIsValidSubstitution", spec := "fnExactIsValidSubstitution", inPlace := ["internal/bytealg.IndexByteString", "internal/bytealg.IndexString"], recurses := true, named := ["internal/bytealg.MaxLen"], loops := true, plainKeys := false, apart := false }
def FnExactIsValidSubstitutionSaid : Prop := fnExactIsValidSubstitutionRow.holds Try.pinned (OpenSpec.ofChange fnExactIsValidSubstitutionSpec)

/-- ITS FALSE NEIGHBOUR: 'it returns false'. Refute it at one input. -/
def fnExactIsValidSubstitutionWrong : ChangeSpec := { name := "fnExactIsValidSubstitution", fn := fun _ => fun
  | [d] => { results := [.lit (.bool false)], args := [d] }
  | _ => none }
def FnExactIsValidSubstitutionWrongFalsely : Prop := fnExactIsValidSubstitutionRow.holds Try.pinned (OpenSpec.ofChange fnExactIsValidSubstitutionWrong)

/-- 'laws.FnExactApplySubstitution': WHATEVER THE INPUT: true; the input reads as it did. -/
def fnExactApplySubstitutionSpec : ChangeSpec := { name := "fnExactApplySubstitution", fn := fun _ => fun
  | [d1, d2] => { results := [.lit (.bool true)], args := [d1, d2] }
  | _ => none }
def fnExactApplySubstitutionRow : OpenClaim := { program := "ytmfdglbldogfaaa", sum := "7d9e402b6e9cd686629003ce3a112f638edc6deff702f57e70fe74e63c40ecfb", func := "loop.example/g00892/laws.FnExactApplySubstitution", spec := "fnExactApplySubstitution", inPlace := ["internal/bytealg.IndexByteString", "internal/bytealg.IndexString", "internal/bytealg.abigen_runtime_cmpstring"], unfollowed := true, recurses := true, named := ["internal/bytealg.MaxLen"], loops := true, plainKeys := false, apart := false }
def FnExactApplySubstitutionSaid : Prop := fnExactApplySubstitutionRow.holds Try.pinned (OpenSpec.ofChange fnExactApplySubstitutionSpec)

/-- ITS FALSE NEIGHBOUR: 'it returns false'. Refute it at one input. -/
def fnExactApplySubstitutionWrong : ChangeSpec := { name := "fnExactApplySubstitution", fn := fun _ => fun
  | [d1, d2] => { results := [.lit (.bool false)], args := [d1, d2] }
  | _ => none }
def FnExactApplySubstitutionWrongFalsely : Prop := fnExactApplySubstitutionRow.holds Try.pinned (OpenSpec.ofChange fnExactApplySubstitutionWrong)

/-- 'laws.FnExactComposeSubstitutions': WHATEVER THE INPUT: true; the input reads as it did. -/
def fnExactComposeSubstitutionsSpec : ChangeSpec := { name := "fnExactComposeSubstitutions", fn := fun _ => fun
  | [d1, d2] => { results := [.lit (.bool true)], args := [d1, d2] }
  | _ => none }
def fnExactComposeSubstitutionsRow : OpenClaim := { program := "ytmfdglbldogfaaa", sum := "7d9e402b6e9cd686629003ce3a112f638edc6deff702f57e70fe74e63c40ecfb", func := "loop.example/g00892/laws.FnExactComposeSubstitutions", spec := "fnExactComposeSubstitutions", inPlace := ["internal/bytealg.IndexByteString", "internal/bytealg.IndexString", "internal/bytealg.abigen_runtime_cmpstring", "slices.overlaps[loop.example/g00892/impl.Binding]"], unfollowed := true, recurses := true, named := ["internal/bytealg.MaxLen"], loops := true, plainKeys := false, apart := false }
def FnExactComposeSubstitutionsSaid : Prop := fnExactComposeSubstitutionsRow.holds Try.pinned (OpenSpec.ofChange fnExactComposeSubstitutionsSpec)

/-- ITS FALSE NEIGHBOUR: 'it returns false'. Refute it at one input. -/
def fnExactComposeSubstitutionsWrong : ChangeSpec := { name := "fnExactComposeSubstitutions", fn := fun _ => fun
  | [d1, d2] => { results := [.lit (.bool false)], args := [d1, d2] }
  | _ => none }
def FnExactComposeSubstitutionsWrongFalsely : Prop := fnExactComposeSubstitutionsRow.holds Try.pinned (OpenSpec.ofChange fnExactComposeSubstitutionsWrong)

/-- 'laws.FnExactRestrictSubstitution': WHATEVER THE INPUT: true; the input reads as it did. -/
def fnExactRestrictSubstitutionSpec : ChangeSpec := { name := "fnExactRestrictSubstitution", fn := fun _ => fun
  | [d1, d2] => { results := [.lit (.bool true)], args := [d1, d2] }
  | _ => none }
def fnExactRestrictSubstitutionRow : OpenClaim := { program := "ytmfdglbldogfaaa", sum := "7d9e402b6e9cd686629003ce3a112f638edc6deff702f57e70fe74e63c40ecfb", func := "loop.example/g00892/laws.FnExactRestrictSubstitution", spec := "fnExactRestrictSubstitution", inPlace := ["internal/bytealg.IndexByteString", "internal/bytealg.IndexString"], recurses := true, named := ["internal/bytealg.MaxLen"], loops := true, plainKeys := false, apart := false }
def FnExactRestrictSubstitutionSaid : Prop := fnExactRestrictSubstitutionRow.holds Try.pinned (OpenSpec.ofChange fnExactRestrictSubstitutionSpec)

/-- ITS FALSE NEIGHBOUR: 'it returns false'. Refute it at one input. -/
def fnExactRestrictSubstitutionWrong : ChangeSpec := { name := "fnExactRestrictSubstitution", fn := fun _ => fun
  | [d1, d2] => { results := [.lit (.bool false)], args := [d1, d2] }
  | _ => none }
def FnExactRestrictSubstitutionWrongFalsely : Prop := fnExactRestrictSubstitutionRow.holds Try.pinned (OpenSpec.ofChange fnExactRestrictSubstitutionWrong)

/-- 'laws.FnExactIsIdempotent': WHATEVER THE INPUT: true; the input reads as it did. -/
def fnExactIsIdempotentSpec : ChangeSpec := { name := "fnExactIsIdempotent", fn := fun _ => fun
  | [d] => { results := [.lit (.bool true)], args := [d] }
  | _ => none }
def fnExactIsIdempotentRow : OpenClaim := { program := "ytmfdglbldogfaaa", sum := "7d9e402b6e9cd686629003ce3a112f638edc6deff702f57e70fe74e63c40ecfb", func := "loop.example/g00892/laws.FnExactIsIdempotent", spec := "fnExactIsIdempotent", inPlace := ["internal/bytealg.IndexByteString", "internal/bytealg.IndexString", "internal/bytealg.abigen_runtime_cmpstring"], unfollowed := true, recurses := true, named := ["internal/bytealg.MaxLen"], loops := true, plainKeys := false, apart := false }
def FnExactIsIdempotentSaid : Prop := fnExactIsIdempotentRow.holds Try.pinned (OpenSpec.ofChange fnExactIsIdempotentSpec)

/-- ITS FALSE NEIGHBOUR: 'it returns false'. Refute it at one input. -/
def fnExactIsIdempotentWrong : ChangeSpec := { name := "fnExactIsIdempotent", fn := fun _ => fun
  | [d] => { results := [.lit (.bool false)], args := [d] }
  | _ => none }
def FnExactIsIdempotentWrongFalsely : Prop := fnExactIsIdempotentRow.holds Try.pinned (OpenSpec.ofChange fnExactIsIdempotentWrong)

/-- 'laws.FnExactIsRenaming': WHATEVER THE INPUT: true; the input reads as it did. -/
def fnExactIsRenamingSpec : ChangeSpec := { name := "fnExactIsRenaming", fn := fun _ => fun
  | [d] => { results := [.lit (.bool true)], args := [d] }
  | _ => none }
def fnExactIsRenamingRow : OpenClaim := { program := "ytmfdglbldogfaaa", sum := "7d9e402b6e9cd686629003ce3a112f638edc6deff702f57e70fe74e63c40ecfb", func := "loop.example/g00892/laws.FnExactIsRenaming", spec := "fnExactIsRenaming", inPlace := ["internal/bytealg.IndexByteString", "internal/bytealg.IndexString"], recurses := true, named := ["internal/bytealg.MaxLen"], loops := true, plainKeys := false, apart := false }
def FnExactIsRenamingSaid : Prop := fnExactIsRenamingRow.holds Try.pinned (OpenSpec.ofChange fnExactIsRenamingSpec)

/-- ITS FALSE NEIGHBOUR: 'it returns false'. Refute it at one input. -/
def fnExactIsRenamingWrong : ChangeSpec := { name := "fnExactIsRenaming", fn := fun _ => fun
  | [d] => { results := [.lit (.bool false)], args := [d] }
  | _ => none }
def FnExactIsRenamingWrongFalsely : Prop := fnExactIsRenamingRow.holds Try.pinned (OpenSpec.ofChange fnExactIsRenamingWrong)

/-- 'laws.FnExactMatchTerms': WHATEVER THE INPUT: true; the input reads as it did. -/
def fnExactMatchTermsSpec : ChangeSpec := { name := "fnExactMatchTerms", fn := fun _ => fun
  | [d1, d2] => { results := [.lit (.bool true)], args := [d1, d2] }
  | _ => none }
def fnExactMatchTermsRow : OpenClaim := { program := "ytmfdglbldogfaaa", sum := "7d9e402b6e9cd686629003ce3a112f638edc6deff702f57e70fe74e63c40ecfb", func := "loop.example/g00892/laws.FnExactMatchTerms", spec := "fnExactMatchTerms", inPlace := ["internal/bytealg.IndexByteString", "internal/bytealg.IndexString", "internal/bytealg.abigen_runtime_cmpstring", "slices.overlaps[loop.example/g00892/impl.Binding]"], unfollowed := true, recurses := true, named := ["internal/bytealg.MaxLen"], loops := true, plainKeys := false, apart := false }
def FnExactMatchTermsSaid : Prop := fnExactMatchTermsRow.holds Try.pinned (OpenSpec.ofChange fnExactMatchTermsSpec)

/-- ITS FALSE NEIGHBOUR: 'it returns false'. Refute it at one input. -/
def fnExactMatchTermsWrong : ChangeSpec := { name := "fnExactMatchTerms", fn := fun _ => fun
  | [d1, d2] => { results := [.lit (.bool false)], args := [d1, d2] }
  | _ => none }
def FnExactMatchTermsWrongFalsely : Prop := fnExactMatchTermsRow.holds Try.pinned (OpenSpec.ofChange fnExactMatchTermsWrong)

/-- 'laws.FnExactIsInstance': WHATEVER THE INPUT: true; the input reads as it did. -/
def fnExactIsInstanceSpec : ChangeSpec := { name := "fnExactIsInstance", fn := fun _ => fun
  | [d1, d2] => { results := [.lit (.bool true)], args := [d1, d2] }
  | _ => none }
def fnExactIsInstanceRow : OpenClaim := { program := "ytmfdglbldogfaaa", sum := "7d9e402b6e9cd686629003ce3a112f638edc6deff702f57e70fe74e63c40ecfb", func := "loop.example/g00892/laws.FnExactIsInstance", spec := "fnExactIsInstance", inPlace := ["internal/bytealg.IndexByteString", "internal/bytealg.IndexString", "internal/bytealg.abigen_runtime_cmpstring", "slices.overlaps[loop.example/g00892/impl.Binding]"], unfollowed := true, recurses := true, named := ["internal/bytealg.MaxLen"], loops := true, plainKeys := false, apart := false }
def FnExactIsInstanceSaid : Prop := fnExactIsInstanceRow.holds Try.pinned (OpenSpec.ofChange fnExactIsInstanceSpec)

/-- ITS FALSE NEIGHBOUR: 'it returns false'. Refute it at one input. -/
def fnExactIsInstanceWrong : ChangeSpec := { name := "fnExactIsInstance", fn := fun _ => fun
  | [d1, d2] => { results := [.lit (.bool false)], args := [d1, d2] }
  | _ => none }
def FnExactIsInstanceWrongFalsely : Prop := fnExactIsInstanceRow.holds Try.pinned (OpenSpec.ofChange fnExactIsInstanceWrong)

/-- 'laws.FnExactAreVariants': WHATEVER THE INPUT: true; the input reads as it did. -/
def fnExactAreVariantsSpec : ChangeSpec := { name := "fnExactAreVariants", fn := fun _ => fun
  | [d1, d2] => { results := [.lit (.bool true)], args := [d1, d2] }
  | _ => none }
def fnExactAreVariantsRow : OpenClaim := { program := "ytmfdglbldogfaaa", sum := "7d9e402b6e9cd686629003ce3a112f638edc6deff702f57e70fe74e63c40ecfb", func := "loop.example/g00892/laws.FnExactAreVariants", spec := "fnExactAreVariants", inPlace := ["internal/bytealg.IndexByteString", "internal/bytealg.IndexString", "internal/bytealg.abigen_runtime_cmpstring", "slices.overlaps[loop.example/g00892/impl.Binding]"], unfollowed := true, recurses := true, named := ["internal/bytealg.MaxLen"], loops := true, plainKeys := false, apart := false }
def FnExactAreVariantsSaid : Prop := fnExactAreVariantsRow.holds Try.pinned (OpenSpec.ofChange fnExactAreVariantsSpec)

/-- ITS FALSE NEIGHBOUR: 'it returns false'. Refute it at one input. -/
def fnExactAreVariantsWrong : ChangeSpec := { name := "fnExactAreVariants", fn := fun _ => fun
  | [d1, d2] => { results := [.lit (.bool false)], args := [d1, d2] }
  | _ => none }
def FnExactAreVariantsWrongFalsely : Prop := fnExactAreVariantsRow.holds Try.pinned (OpenSpec.ofChange fnExactAreVariantsWrong)

/-- 'laws.FnCompose': WHATEVER THE INPUT: true; the input reads as it did. -/
def fnComposeSpec : ChangeSpec := { name := "fnCompose", fn := fun _ => fun
  | [d] => { results := [.lit (.bool true)], args := [d] }
  | _ => none }
def fnComposeRow : OpenClaim := { program := "ytmfdglbldogfaaa", sum := "7d9e402b6e9cd686629003ce3a112f638edc6deff702f57e70fe74e63c40ecfb", func := "loop.example/g00892/laws.FnCompose", spec := "fnCompose", inPlace := ["internal/bytealg.IndexByteString", "internal/bytealg.IndexString", "internal/bytealg.abigen_runtime_cmpstring", "slices.overlaps[loop.example/g00892/impl.Binding]"], unfollowed := true, recurses := true, named := ["internal/bytealg.MaxLen"], plainKeys := false, apart := false }
def FnComposeSaid : Prop := fnComposeRow.holds Try.pinned (OpenSpec.ofChange fnComposeSpec)

/-- ITS FALSE NEIGHBOUR: 'it returns false'. Refute it at one input. -/
def fnComposeWrong : ChangeSpec := { name := "fnCompose", fn := fun _ => fun
  | [d] => { results := [.lit (.bool false)], args := [d] }
  | _ => none }
def FnComposeWrongFalsely : Prop := fnComposeRow.holds Try.pinned (OpenSpec.ofChange fnComposeWrong)

/-- 'laws.FnExactEqualTerms': WHATEVER THE INPUT: true; the input reads as it did. -/
def fnExactEqualTermsSpec : ChangeSpec := { name := "fnExactEqualTerms", fn := fun _ => fun
  | [d1, d2] => { results := [.lit (.bool true)], args := [d1, d2] }
  | _ => none }
def fnExactEqualTermsRow : OpenClaim := { program := "ytmfdglbldogfaaa", sum := "7d9e402b6e9cd686629003ce3a112f638edc6deff702f57e70fe74e63c40ecfb", func := "loop.example/g00892/laws.FnExactEqualTerms", spec := "fnExactEqualTerms", unfollowed := true, recurses := true, loops := true, plainKeys := false, apart := false }
def FnExactEqualTermsSaid : Prop := fnExactEqualTermsRow.holds Try.pinned (OpenSpec.ofChange fnExactEqualTermsSpec)

/-- ITS FALSE NEIGHBOUR: 'it returns false'. Refute it at one input. -/
def fnExactEqualTermsWrong : ChangeSpec := { name := "fnExactEqualTerms", fn := fun _ => fun
  | [d1, d2] => { results := [.lit (.bool false)], args := [d1, d2] }
  | _ => none }
def FnExactEqualTermsWrongFalsely : Prop := fnExactEqualTermsRow.holds Try.pinned (OpenSpec.ofChange fnExactEqualTermsWrong)

/-- 'laws.FnPositions': WHATEVER THE INPUT: true; the input reads as it did. -/
def fnPositionsSpec : ChangeSpec := { name := "fnPositions", fn := fun _ => fun
  | [d] => { results := [.lit (.bool true)], args := [d] }
  | _ => none }
def fnPositionsRow : OpenClaim := { program := "ytmfdglbldogfaaa", sum := "7d9e402b6e9cd686629003ce3a112f638edc6deff702f57e70fe74e63c40ecfb", func := "loop.example/g00892/laws.FnPositions", spec := "fnPositions", inPlace := ["internal/bytealg.IndexByteString", "internal/bytealg.IndexString"], recurses := true, named := ["internal/bytealg.MaxLen"], plainKeys := false, apart := false }
def FnPositionsSaid : Prop := fnPositionsRow.holds Try.pinned (OpenSpec.ofChange fnPositionsSpec)

/-- ITS FALSE NEIGHBOUR: 'it returns false'. Refute it at one input. -/
def fnPositionsWrong : ChangeSpec := { name := "fnPositions", fn := fun _ => fun
  | [d] => { results := [.lit (.bool false)], args := [d] }
  | _ => none }
def FnPositionsWrongFalsely : Prop := fnPositionsRow.holds Try.pinned (OpenSpec.ofChange fnPositionsWrong)

/-- 'laws.FnExactParseTerm': WHATEVER THE INPUT: true; the input reads as it did. -/
def fnExactParseTermSpec : ChangeSpec := { name := "fnExactParseTerm", fn := fun _ => fun
  | [d] => { results := [.lit (.bool true)], args := [d] }
  | _ => none }
def fnExactParseTermRow : OpenClaim := { program := "ytmfdglbldogfaaa", sum := "7d9e402b6e9cd686629003ce3a112f638edc6deff702f57e70fe74e63c40ecfb", func := "loop.example/g00892/laws.FnExactParseTerm", spec := "fnExactParseTerm", inPlace := ["internal/bytealg.IndexByteString", "internal/bytealg.IndexString"], recurses := true, named := ["internal/bytealg.MaxLen"], plainKeys := false, apart := false }
def FnExactParseTermSaid : Prop := fnExactParseTermRow.holds Try.pinned (OpenSpec.ofChange fnExactParseTermSpec)

/-- ITS FALSE NEIGHBOUR: 'it returns false'. Refute it at one input. -/
def fnExactParseTermWrong : ChangeSpec := { name := "fnExactParseTerm", fn := fun _ => fun
  | [d] => { results := [.lit (.bool false)], args := [d] }
  | _ => none }
def FnExactParseTermWrongFalsely : Prop := fnExactParseTermRow.holds Try.pinned (OpenSpec.ofChange fnExactParseTermWrong)

/- THE SECOND FORM. 'bulk': how many values and letters a reading holds, each counted each time it is reached (what is shared counts as often as it is met; a slice's spare places count too). A statement '..UptoSaid' is the law's where the arguments, and the package variables that the reading takes, are together of bulk at most 1048576: NARROWER than '..Said'. Prove '..Said' where nothing that the law and all that it calls make is longer than what came in: it says more and counts as full. Else prove '..UptoSaid'. A law counts once. -/
mutual
def uptoBulk {H : Type} : DataW H → Nat
  | .lit (.string bytes) => bytes.length + 1
  | .lit _ => 1
  | .nil => 1
  | .ptr d => uptoBulk d + 1
  | .slice elems spare => uptoBulkAll elems + uptoBulkAll spare + 1
  | .agg parts => uptoBulkAll parts + 1
  | .iface _ d => uptoBulk d + 1
  | .map entries => uptoBulkEntries entries + 1
  | .held _ => 1
def uptoBulkAll {H : Type} : List (DataW H) → Nat
  | [] => 0
  | d :: r => uptoBulk d + uptoBulkAll r
def uptoBulkEntries {H : Type} : List (Lit × DataW H) → Nat
  | [] => 0
  | x :: r => uptoBulkEntry x + uptoBulkEntries r
def uptoBulkEntry {H : Type} : Lit × DataW H → Nat
  | (.string bytes, d) => bytes.length + uptoBulk d + 1
  | (_, d) => uptoBulk d + 1
 end
def uptoSmall : (H : Type) → List (DataW H) → Bool := fun _ ds => decide (uptoBulkAll ds ≤ 1048576)
def OpenSpec.upto (s : _root_.Go.ChangeSpec) : _root_.Go.OpenSpec := { _root_.Go.OpenSpec.ofChange s with cond := some uptoSmall }

/-- 'laws.FnExactIsValidSubstitution', WHERE WHAT IT READS IS OF BULK AT MOST 1048576: true; the input reads as it did. -/
def fnExactIsValidSubstitutionUptoRow : OpenClaim := { program := "ytmfdglbldogfaaa", sum := "7d9e402b6e9cd686629003ce3a112f638edc6deff702f57e70fe74e63c40ecfb", func := "loop.example/g00892/laws.FnExactIsValidSubstitution", spec := "fnExactIsValidSubstitution", inPlace := ["internal/bytealg.IndexByteString", "internal/bytealg.IndexString"], recurses := true, named := ["internal/bytealg.MaxLen"], loops := true, plainKeys := false, apart := false, narrowed := true }
def FnExactIsValidSubstitutionUptoSaid : Prop := fnExactIsValidSubstitutionUptoRow.holds Try.pinned (OpenSpec.upto fnExactIsValidSubstitutionSpec)

/-- 'laws.FnExactApplySubstitution', WHERE WHAT IT READS IS OF BULK AT MOST 1048576: true; the input reads as it did. -/
def fnExactApplySubstitutionUptoRow : OpenClaim := { program := "ytmfdglbldogfaaa", sum := "7d9e402b6e9cd686629003ce3a112f638edc6deff702f57e70fe74e63c40ecfb", func := "loop.example/g00892/laws.FnExactApplySubstitution", spec := "fnExactApplySubstitution", inPlace := ["internal/bytealg.IndexByteString", "internal/bytealg.IndexString", "internal/bytealg.abigen_runtime_cmpstring"], unfollowed := true, recurses := true, named := ["internal/bytealg.MaxLen"], loops := true, plainKeys := false, apart := false, narrowed := true }
def FnExactApplySubstitutionUptoSaid : Prop := fnExactApplySubstitutionUptoRow.holds Try.pinned (OpenSpec.upto fnExactApplySubstitutionSpec)

/-- 'laws.FnExactComposeSubstitutions', WHERE WHAT IT READS IS OF BULK AT MOST 1048576: true; the input reads as it did. -/
def fnExactComposeSubstitutionsUptoRow : OpenClaim := { program := "ytmfdglbldogfaaa", sum := "7d9e402b6e9cd686629003ce3a112f638edc6deff702f57e70fe74e63c40ecfb", func := "loop.example/g00892/laws.FnExactComposeSubstitutions", spec := "fnExactComposeSubstitutions", inPlace := ["internal/bytealg.IndexByteString", "internal/bytealg.IndexString", "internal/bytealg.abigen_runtime_cmpstring", "slices.overlaps[loop.example/g00892/impl.Binding]"], unfollowed := true, recurses := true, named := ["internal/bytealg.MaxLen"], loops := true, plainKeys := false, apart := false, narrowed := true }
def FnExactComposeSubstitutionsUptoSaid : Prop := fnExactComposeSubstitutionsUptoRow.holds Try.pinned (OpenSpec.upto fnExactComposeSubstitutionsSpec)

/-- 'laws.FnExactRestrictSubstitution', WHERE WHAT IT READS IS OF BULK AT MOST 1048576: true; the input reads as it did. -/
def fnExactRestrictSubstitutionUptoRow : OpenClaim := { program := "ytmfdglbldogfaaa", sum := "7d9e402b6e9cd686629003ce3a112f638edc6deff702f57e70fe74e63c40ecfb", func := "loop.example/g00892/laws.FnExactRestrictSubstitution", spec := "fnExactRestrictSubstitution", inPlace := ["internal/bytealg.IndexByteString", "internal/bytealg.IndexString"], recurses := true, named := ["internal/bytealg.MaxLen"], loops := true, plainKeys := false, apart := false, narrowed := true }
def FnExactRestrictSubstitutionUptoSaid : Prop := fnExactRestrictSubstitutionUptoRow.holds Try.pinned (OpenSpec.upto fnExactRestrictSubstitutionSpec)

/-- 'laws.FnExactIsIdempotent', WHERE WHAT IT READS IS OF BULK AT MOST 1048576: true; the input reads as it did. -/
def fnExactIsIdempotentUptoRow : OpenClaim := { program := "ytmfdglbldogfaaa", sum := "7d9e402b6e9cd686629003ce3a112f638edc6deff702f57e70fe74e63c40ecfb", func := "loop.example/g00892/laws.FnExactIsIdempotent", spec := "fnExactIsIdempotent", inPlace := ["internal/bytealg.IndexByteString", "internal/bytealg.IndexString", "internal/bytealg.abigen_runtime_cmpstring"], unfollowed := true, recurses := true, named := ["internal/bytealg.MaxLen"], loops := true, plainKeys := false, apart := false, narrowed := true }
def FnExactIsIdempotentUptoSaid : Prop := fnExactIsIdempotentUptoRow.holds Try.pinned (OpenSpec.upto fnExactIsIdempotentSpec)

/-- 'laws.FnExactIsRenaming', WHERE WHAT IT READS IS OF BULK AT MOST 1048576: true; the input reads as it did. -/
def fnExactIsRenamingUptoRow : OpenClaim := { program := "ytmfdglbldogfaaa", sum := "7d9e402b6e9cd686629003ce3a112f638edc6deff702f57e70fe74e63c40ecfb", func := "loop.example/g00892/laws.FnExactIsRenaming", spec := "fnExactIsRenaming", inPlace := ["internal/bytealg.IndexByteString", "internal/bytealg.IndexString"], recurses := true, named := ["internal/bytealg.MaxLen"], loops := true, plainKeys := false, apart := false, narrowed := true }
def FnExactIsRenamingUptoSaid : Prop := fnExactIsRenamingUptoRow.holds Try.pinned (OpenSpec.upto fnExactIsRenamingSpec)

/-- 'laws.FnExactMatchTerms', WHERE WHAT IT READS IS OF BULK AT MOST 1048576: true; the input reads as it did. -/
def fnExactMatchTermsUptoRow : OpenClaim := { program := "ytmfdglbldogfaaa", sum := "7d9e402b6e9cd686629003ce3a112f638edc6deff702f57e70fe74e63c40ecfb", func := "loop.example/g00892/laws.FnExactMatchTerms", spec := "fnExactMatchTerms", inPlace := ["internal/bytealg.IndexByteString", "internal/bytealg.IndexString", "internal/bytealg.abigen_runtime_cmpstring", "slices.overlaps[loop.example/g00892/impl.Binding]"], unfollowed := true, recurses := true, named := ["internal/bytealg.MaxLen"], loops := true, plainKeys := false, apart := false, narrowed := true }
def FnExactMatchTermsUptoSaid : Prop := fnExactMatchTermsUptoRow.holds Try.pinned (OpenSpec.upto fnExactMatchTermsSpec)

/-- 'laws.FnExactIsInstance', WHERE WHAT IT READS IS OF BULK AT MOST 1048576: true; the input reads as it did. -/
def fnExactIsInstanceUptoRow : OpenClaim := { program := "ytmfdglbldogfaaa", sum := "7d9e402b6e9cd686629003ce3a112f638edc6deff702f57e70fe74e63c40ecfb", func := "loop.example/g00892/laws.FnExactIsInstance", spec := "fnExactIsInstance", inPlace := ["internal/bytealg.IndexByteString", "internal/bytealg.IndexString", "internal/bytealg.abigen_runtime_cmpstring", "slices.overlaps[loop.example/g00892/impl.Binding]"], unfollowed := true, recurses := true, named := ["internal/bytealg.MaxLen"], loops := true, plainKeys := false, apart := false, narrowed := true }
def FnExactIsInstanceUptoSaid : Prop := fnExactIsInstanceUptoRow.holds Try.pinned (OpenSpec.upto fnExactIsInstanceSpec)

/-- 'laws.FnExactAreVariants', WHERE WHAT IT READS IS OF BULK AT MOST 1048576: true; the input reads as it did. -/
def fnExactAreVariantsUptoRow : OpenClaim := { program := "ytmfdglbldogfaaa", sum := "7d9e402b6e9cd686629003ce3a112f638edc6deff702f57e70fe74e63c40ecfb", func := "loop.example/g00892/laws.FnExactAreVariants", spec := "fnExactAreVariants", inPlace := ["internal/bytealg.IndexByteString", "internal/bytealg.IndexString", "internal/bytealg.abigen_runtime_cmpstring", "slices.overlaps[loop.example/g00892/impl.Binding]"], unfollowed := true, recurses := true, named := ["internal/bytealg.MaxLen"], loops := true, plainKeys := false, apart := false, narrowed := true }
def FnExactAreVariantsUptoSaid : Prop := fnExactAreVariantsUptoRow.holds Try.pinned (OpenSpec.upto fnExactAreVariantsSpec)

/-- 'laws.FnCompose', WHERE WHAT IT READS IS OF BULK AT MOST 1048576: true; the input reads as it did. -/
def fnComposeUptoRow : OpenClaim := { program := "ytmfdglbldogfaaa", sum := "7d9e402b6e9cd686629003ce3a112f638edc6deff702f57e70fe74e63c40ecfb", func := "loop.example/g00892/laws.FnCompose", spec := "fnCompose", inPlace := ["internal/bytealg.IndexByteString", "internal/bytealg.IndexString", "internal/bytealg.abigen_runtime_cmpstring", "slices.overlaps[loop.example/g00892/impl.Binding]"], unfollowed := true, recurses := true, named := ["internal/bytealg.MaxLen"], plainKeys := false, apart := false, narrowed := true }
def FnComposeUptoSaid : Prop := fnComposeUptoRow.holds Try.pinned (OpenSpec.upto fnComposeSpec)

/-- 'laws.FnExactEqualTerms', WHERE WHAT IT READS IS OF BULK AT MOST 1048576: true; the input reads as it did. -/
def fnExactEqualTermsUptoRow : OpenClaim := { program := "ytmfdglbldogfaaa", sum := "7d9e402b6e9cd686629003ce3a112f638edc6deff702f57e70fe74e63c40ecfb", func := "loop.example/g00892/laws.FnExactEqualTerms", spec := "fnExactEqualTerms", unfollowed := true, recurses := true, loops := true, plainKeys := false, apart := false, narrowed := true }
def FnExactEqualTermsUptoSaid : Prop := fnExactEqualTermsUptoRow.holds Try.pinned (OpenSpec.upto fnExactEqualTermsSpec)

/-- 'laws.FnPositions', WHERE WHAT IT READS IS OF BULK AT MOST 1048576: true; the input reads as it did. -/
def fnPositionsUptoRow : OpenClaim := { program := "ytmfdglbldogfaaa", sum := "7d9e402b6e9cd686629003ce3a112f638edc6deff702f57e70fe74e63c40ecfb", func := "loop.example/g00892/laws.FnPositions", spec := "fnPositions", inPlace := ["internal/bytealg.IndexByteString", "internal/bytealg.IndexString"], recurses := true, named := ["internal/bytealg.MaxLen"], plainKeys := false, apart := false, narrowed := true }
def FnPositionsUptoSaid : Prop := fnPositionsUptoRow.holds Try.pinned (OpenSpec.upto fnPositionsSpec)

/-- 'laws.FnExactParseTerm', WHERE WHAT IT READS IS OF BULK AT MOST 1048576: true; the input reads as it did. -/
def fnExactParseTermUptoRow : OpenClaim := { program := "ytmfdglbldogfaaa", sum := "7d9e402b6e9cd686629003ce3a112f638edc6deff702f57e70fe74e63c40ecfb", func := "loop.example/g00892/laws.FnExactParseTerm", spec := "fnExactParseTerm", inPlace := ["internal/bytealg.IndexByteString", "internal/bytealg.IndexString"], recurses := true, named := ["internal/bytealg.MaxLen"], plainKeys := false, apart := false, narrowed := true }
def FnExactParseTermUptoSaid : Prop := fnExactParseTermUptoRow.holds Try.pinned (OpenSpec.upto fnExactParseTermSpec)

end Rows
end Go.Proofs.Ytmfdglbldogfaaa
