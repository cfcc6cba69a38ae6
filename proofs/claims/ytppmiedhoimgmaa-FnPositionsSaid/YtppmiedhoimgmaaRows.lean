/-
  NARROWER THAN 'FOR EVERY INPUT', by the rows' own cells (each row's printed sentence says how): FnExactSubstituteFormula: loops · FnExactNegationNormalForm: loops · FnExactIsNegationNormal: loops.
  DERIVED. THE GIVEN ROWS OF THIS SEAT. 6 by the template 'for every input the law returns true; each argument reads behind the call as it read before'; 0 by the template 'total and deterministic' (their statements: YtppmiedhoimgmaaTotals.lean).
  GIVEN WITH THE SEED: the statements are not yours to turn. If you find one false, say at which input.
  Laid BY PROGRAM, IN A SANDBOX (cutbox-rows.mjs): the forced cells as the released guide's own fill.sh prints them over the translation d147663d14fc4011… (all of the seat's roots in one cut). By AI agents, Wed Nov 11 2026. No macro, syntax, notation, axiom, sorry.
-/
import Derived.Test.YtppmiedhoimgmaaChecked
import GoSem.Claim
import GoSem.ClaimJoined
import GoSem.ClaimMapViews
import Derived.JoinedTies
import Derived.KernelRfl
namespace Go.Proofs.Ytppmiedhoimgmaa
/- THE CELL 'sum', in the pinned program and in every row, IS THE sha256 OF THE DUMP (.gsa) THAT YtppmiedhoimgmaaProg.lean LOADS. Nothing in Lean hashes anything: it is a label: what it is worth is what the hold of that sum in a sandbox is worth. -/
noncomputable def Try.pinned : Pinned := { name := "ytppmiedhoimgmaa", sum := "d147663d14fc40116756cca24b3ce40feecd8fd2bfea6fd04dec867793e8e4ce", checked := Try.checked }
namespace Rows
def none {H : Type} : Left H := { results := [], args := [] }

/-- 'laws.FnPositions': WHATEVER THE INPUT: true; the input reads as it did. -/
def fnPositionsSpec : ChangeSpec := { name := "fnPositions", fn := fun _ => fun
  | [d] => { results := [.lit (.bool true)], args := [d] }
  | _ => none }
def fnPositionsRow : OpenClaim := { program := "ytppmiedhoimgmaa", sum := "d147663d14fc40116756cca24b3ce40feecd8fd2bfea6fd04dec867793e8e4ce", func := "loop.example/g00892/laws.FnPositions", spec := "fnPositions", inPlace := ["internal/bytealg.IndexByteString", "internal/bytealg.IndexString"], recurses := true, named := ["internal/bytealg.MaxLen"], apart := false }
def FnPositionsSaid : Prop := fnPositionsRow.holds Try.pinned (OpenSpec.ofChange fnPositionsSpec)

/-- ITS FALSE NEIGHBOUR: 'it returns false'. Refute it at one input. -/
def fnPositionsWrong : ChangeSpec := { name := "fnPositions", fn := fun _ => fun
  | [d] => { results := [.lit (.bool false)], args := [d] }
  | _ => none }
def FnPositionsWrongFalsely : Prop := fnPositionsRow.holds Try.pinned (OpenSpec.ofChange fnPositionsWrong)

/-- 'laws.FnCompose': WHATEVER THE INPUT: true; the input reads as it did. -/
def fnComposeSpec : ChangeSpec := { name := "fnCompose", fn := fun _ => fun
  | [d] => { results := [.lit (.bool true)], args := [d] }
  | _ => none }
def fnComposeRow : OpenClaim := { program := "ytppmiedhoimgmaa", sum := "d147663d14fc40116756cca24b3ce40feecd8fd2bfea6fd04dec867793e8e4ce", func := "loop.example/g00892/laws.FnCompose", spec := "fnCompose", inPlace := ["internal/bytealg.IndexByteString", "internal/bytealg.IndexString", "internal/bytealg.abigen_runtime_cmpstring", "slices.overlaps[loop.example/g00892/impl.Binding]"], unfollowed := true, recurses := true, named := ["internal/bytealg.MaxLen"], apart := false }
def FnComposeSaid : Prop := fnComposeRow.holds Try.pinned (OpenSpec.ofChange fnComposeSpec)

/-- ITS FALSE NEIGHBOUR: 'it returns false'. Refute it at one input. -/
def fnComposeWrong : ChangeSpec := { name := "fnCompose", fn := fun _ => fun
  | [d] => { results := [.lit (.bool false)], args := [d] }
  | _ => none }
def FnComposeWrongFalsely : Prop := fnComposeRow.holds Try.pinned (OpenSpec.ofChange fnComposeWrong)

/-- 'laws.FnMatch': WHATEVER THE INPUT: true; the input reads as it did. -/
def fnMatchSpec : ChangeSpec := { name := "fnMatch", fn := fun _ => fun
  | [d] => { results := [.lit (.bool true)], args := [d] }
  | _ => none }
def fnMatchRow : OpenClaim := { program := "ytppmiedhoimgmaa", sum := "d147663d14fc40116756cca24b3ce40feecd8fd2bfea6fd04dec867793e8e4ce", func := "loop.example/g00892/laws.FnMatch", spec := "fnMatch", inPlace := ["internal/bytealg.IndexByteString", "internal/bytealg.IndexString", "internal/bytealg.abigen_runtime_cmpstring", "slices.overlaps[loop.example/g00892/impl.Binding]"], unfollowed := true, recurses := true, named := ["internal/bytealg.MaxLen"], apart := false }
def FnMatchSaid : Prop := fnMatchRow.holds Try.pinned (OpenSpec.ofChange fnMatchSpec)

/-- ITS FALSE NEIGHBOUR: 'it returns false'. Refute it at one input. -/
def fnMatchWrong : ChangeSpec := { name := "fnMatch", fn := fun _ => fun
  | [d] => { results := [.lit (.bool false)], args := [d] }
  | _ => none }
def FnMatchWrongFalsely : Prop := fnMatchRow.holds Try.pinned (OpenSpec.ofChange fnMatchWrong)

/-- 'laws.FnExactSubstituteFormula': WHATEVER THE INPUT: true; the input reads as it did. -/
def fnExactSubstituteFormulaSpec : ChangeSpec := { name := "fnExactSubstituteFormula", fn := fun _ => fun
  | [d1, d2, d3] => { results := [.lit (.bool true)], args := [d1, d2, d3] }
  | _ => none }
def fnExactSubstituteFormulaRow : OpenClaim := { program := "ytppmiedhoimgmaa", sum := "d147663d14fc40116756cca24b3ce40feecd8fd2bfea6fd04dec867793e8e4ce", func := "loop.example/g00892/laws.FnExactSubstituteFormula", spec := "fnExactSubstituteFormula", inPlace := ["internal/bytealg.IndexByteString", "internal/bytealg.IndexString", "internal/bytealg.abigen_runtime_cmpstring"], unfollowed := true, recurses := true, named := ["internal/bytealg.MaxLen"], loops := true, apart := false }
def FnExactSubstituteFormulaSaid : Prop := fnExactSubstituteFormulaRow.holds Try.pinned (OpenSpec.ofChange fnExactSubstituteFormulaSpec)

/-- ITS FALSE NEIGHBOUR: 'it returns false'. Refute it at one input. -/
def fnExactSubstituteFormulaWrong : ChangeSpec := { name := "fnExactSubstituteFormula", fn := fun _ => fun
  | [d1, d2, d3] => { results := [.lit (.bool false)], args := [d1, d2, d3] }
  | _ => none }
def FnExactSubstituteFormulaWrongFalsely : Prop := fnExactSubstituteFormulaRow.holds Try.pinned (OpenSpec.ofChange fnExactSubstituteFormulaWrong)

/-- 'laws.FnExactNegationNormalForm': WHATEVER THE INPUT: true; the input reads as it did. -/
def fnExactNegationNormalFormSpec : ChangeSpec := { name := "fnExactNegationNormalForm", fn := fun _ => fun
  | [d] => { results := [.lit (.bool true)], args := [d] }
  | _ => none }
def fnExactNegationNormalFormRow : OpenClaim := { program := "ytppmiedhoimgmaa", sum := "d147663d14fc40116756cca24b3ce40feecd8fd2bfea6fd04dec867793e8e4ce", func := "loop.example/g00892/laws.FnExactNegationNormalForm", spec := "fnExactNegationNormalForm", inPlace := ["internal/bytealg.IndexByteString", "internal/bytealg.IndexString"], recurses := true, named := ["internal/bytealg.MaxLen"], loops := true, apart := false }
def FnExactNegationNormalFormSaid : Prop := fnExactNegationNormalFormRow.holds Try.pinned (OpenSpec.ofChange fnExactNegationNormalFormSpec)

/-- ITS FALSE NEIGHBOUR: 'it returns false'. Refute it at one input. -/
def fnExactNegationNormalFormWrong : ChangeSpec := { name := "fnExactNegationNormalForm", fn := fun _ => fun
  | [d] => { results := [.lit (.bool false)], args := [d] }
  | _ => none }
def FnExactNegationNormalFormWrongFalsely : Prop := fnExactNegationNormalFormRow.holds Try.pinned (OpenSpec.ofChange fnExactNegationNormalFormWrong)

/-- 'laws.FnExactIsNegationNormal': WHATEVER THE INPUT: true; the input reads as it did. -/
def fnExactIsNegationNormalSpec : ChangeSpec := { name := "fnExactIsNegationNormal", fn := fun _ => fun
  | [d] => { results := [.lit (.bool true)], args := [d] }
  | _ => none }
def fnExactIsNegationNormalRow : OpenClaim := { program := "ytppmiedhoimgmaa", sum := "d147663d14fc40116756cca24b3ce40feecd8fd2bfea6fd04dec867793e8e4ce", func := "loop.example/g00892/laws.FnExactIsNegationNormal", spec := "fnExactIsNegationNormal", inPlace := ["internal/bytealg.IndexByteString", "internal/bytealg.IndexString"], unfollowed := true, recurses := true, named := ["internal/bytealg.MaxLen"], loops := true, apart := false }
def FnExactIsNegationNormalSaid : Prop := fnExactIsNegationNormalRow.holds Try.pinned (OpenSpec.ofChange fnExactIsNegationNormalSpec)

/-- ITS FALSE NEIGHBOUR: 'it returns false'. Refute it at one input. -/
def fnExactIsNegationNormalWrong : ChangeSpec := { name := "fnExactIsNegationNormal", fn := fun _ => fun
  | [d] => { results := [.lit (.bool false)], args := [d] }
  | _ => none }
def FnExactIsNegationNormalWrongFalsely : Prop := fnExactIsNegationNormalRow.holds Try.pinned (OpenSpec.ofChange fnExactIsNegationNormalWrong)

/- THE SECOND FORM. 'bulk': how many values and letters a reading holds, each counted each time it is reached (what is shared counts as often as it is met; a slice's spare places count too). A statement '..UptoSaid' is the law's where the arguments, and the package variables that the reading takes, are together of bulk at most 1048576: NARROWER than '..Said'. Prove '..Said' where nothing that the law and all that it calls make is longer than what came in: it says more and counts as full. Else prove '..UptoSaid'. A law counts once. -/
mutual
def uptoBulk {H : Type} : DataW H → Nat
  | .lit (.string bytes) => bytes.length + 1
  | .lit _ => 1
  | .nil => 1
  | .ptr d => uptoBulk d + 1
  | .slice elems spare => uptoBulkAll elems + uptoBulkAll spare + 1
  | .agg parts => uptoBulkAll parts + 1
  | .iface _ d => uptoBulk d + 1
  | .map entries => uptoBulkEntries entries + 1
  | .held _ => 1
def uptoBulkAll {H : Type} : List (DataW H) → Nat
  | [] => 0
  | d :: r => uptoBulk d + uptoBulkAll r
def uptoBulkEntries {H : Type} : List (Lit × DataW H) → Nat
  | [] => 0
  | x :: r => uptoBulkEntry x + uptoBulkEntries r
def uptoBulkEntry {H : Type} : Lit × DataW H → Nat
  | (.string bytes, d) => bytes.length + uptoBulk d + 1
  | (_, d) => uptoBulk d + 1
 end
def uptoSmall : (H : Type) → List (DataW H) → Bool := fun _ ds => decide (uptoBulkAll ds ≤ 1048576)
def OpenSpec.upto (s : _root_.Go.ChangeSpec) : _root_.Go.OpenSpec := { _root_.Go.OpenSpec.ofChange s with cond := some uptoSmall }

/-- 'laws.FnPositions', WHERE WHAT IT READS IS OF BULK AT MOST 1048576: true; the input reads as it did. -/
def fnPositionsUptoRow : OpenClaim := { program := "ytppmiedhoimgmaa", sum := "d147663d14fc40116756cca24b3ce40feecd8fd2bfea6fd04dec867793e8e4ce", func := "loop.example/g00892/laws.FnPositions", spec := "fnPositions", inPlace := ["internal/bytealg.IndexByteString", "internal/bytealg.IndexString"], recurses := true, named := ["internal/bytealg.MaxLen"], apart := false, narrowed := true }
def FnPositionsUptoSaid : Prop := fnPositionsUptoRow.holds Try.pinned (OpenSpec.upto fnPositionsSpec)

/-- 'laws.FnCompose', WHERE WHAT IT READS IS OF BULK AT MOST 1048576: true; the input reads as it did. -/
def fnComposeUptoRow : OpenClaim := { program := "ytppmiedhoimgmaa", sum := "d147663d14fc40116756cca24b3ce40feecd8fd2bfea6fd04dec867793e8e4ce", func := "loop.example/g00892/laws.FnCompose", spec := "fnCompose", inPlace := ["internal/bytealg.IndexByteString", "internal/bytealg.IndexString", "internal/bytealg.abigen_runtime_cmpstring", "slices.overlaps[loop.example/g00892/impl.Binding]"], unfollowed := true, recurses := true, named := ["internal/bytealg.MaxLen"], apart := false, narrowed := true }
def FnComposeUptoSaid : Prop := fnComposeUptoRow.holds Try.pinned (OpenSpec.upto fnComposeSpec)

/-- 'laws.FnMatch', WHERE WHAT IT READS IS OF BULK AT MOST 1048576: true; the input reads as it did. -/
def fnMatchUptoRow : OpenClaim := { program := "ytppmiedhoimgmaa", sum := "d147663d14fc40116756cca24b3ce40feecd8fd2bfea6fd04dec867793e8e4ce", func := "loop.example/g00892/laws.FnMatch", spec := "fnMatch", inPlace := ["internal/bytealg.IndexByteString", "internal/bytealg.IndexString", "internal/bytealg.abigen_runtime_cmpstring", "slices.overlaps[loop.example/g00892/impl.Binding]"], unfollowed := true, recurses := true, named := ["internal/bytealg.MaxLen"], apart := false, narrowed := true }
def FnMatchUptoSaid : Prop := fnMatchUptoRow.holds Try.pinned (OpenSpec.upto fnMatchSpec)

/-- 'laws.FnExactSubstituteFormula', WHERE WHAT IT READS IS OF BULK AT MOST 1048576: true; the input reads as it did. -/
def fnExactSubstituteFormulaUptoRow : OpenClaim := { program := "ytppmiedhoimgmaa", sum := "d147663d14fc40116756cca24b3ce40feecd8fd2bfea6fd04dec867793e8e4ce", func := "loop.example/g00892/laws.FnExactSubstituteFormula", spec := "fnExactSubstituteFormula", inPlace := ["internal/bytealg.IndexByteString", "internal/bytealg.IndexString", "internal/bytealg.abigen_runtime_cmpstring"], unfollowed := true, recurses := true, named := ["internal/bytealg.MaxLen"], loops := true, apart := false, narrowed := true }
def FnExactSubstituteFormulaUptoSaid : Prop := fnExactSubstituteFormulaUptoRow.holds Try.pinned (OpenSpec.upto fnExactSubstituteFormulaSpec)

/-- 'laws.FnExactNegationNormalForm', WHERE WHAT IT READS IS OF BULK AT MOST 1048576: true; the input reads as it did. -/
def fnExactNegationNormalFormUptoRow : OpenClaim := { program := "ytppmiedhoimgmaa", sum := "d147663d14fc40116756cca24b3ce40feecd8fd2bfea6fd04dec867793e8e4ce", func := "loop.example/g00892/laws.FnExactNegationNormalForm", spec := "fnExactNegationNormalForm", inPlace := ["internal/bytealg.IndexByteString", "internal/bytealg.IndexString"], recurses := true, named := ["internal/bytealg.MaxLen"], loops := true, apart := false, narrowed := true }
def FnExactNegationNormalFormUptoSaid : Prop := fnExactNegationNormalFormUptoRow.holds Try.pinned (OpenSpec.upto fnExactNegationNormalFormSpec)

/-- 'laws.FnExactIsNegationNormal', WHERE WHAT IT READS IS OF BULK AT MOST 1048576: true; the input reads as it did. -/
def fnExactIsNegationNormalUptoRow : OpenClaim := { program := "ytppmiedhoimgmaa", sum := "d147663d14fc40116756cca24b3ce40feecd8fd2bfea6fd04dec867793e8e4ce", func := "loop.example/g00892/laws.FnExactIsNegationNormal", spec := "fnExactIsNegationNormal", inPlace := ["internal/bytealg.IndexByteString", "internal/bytealg.IndexString"], unfollowed := true, recurses := true, named := ["internal/bytealg.MaxLen"], loops := true, apart := false, narrowed := true }
def FnExactIsNegationNormalUptoSaid : Prop := fnExactIsNegationNormalUptoRow.holds Try.pinned (OpenSpec.upto fnExactIsNegationNormalSpec)

end Rows
end Go.Proofs.Ytppmiedhoimgmaa
