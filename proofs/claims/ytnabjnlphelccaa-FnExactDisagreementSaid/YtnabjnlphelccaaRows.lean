/-
  NARROWER THAN 'FOR EVERY INPUT', by the rows' own cells (each row's printed sentence says how): FnExactDisagreement: loops · FnExactTermWeight: loops · FnExactCompareKBO: loops · FnExactCompareLPO: loops · FnExactCompareMultisets: loops · FnExactOrientEquation: loops · FnExactFirstNotDecreasing: loops.
  DERIVED. THE GIVEN ROWS OF THIS SEAT. 9 by the template 'for every input the law returns true; each argument reads behind the call as it read before'; 0 by the template 'total and deterministic' (their statements: YtnabjnlphelccaaTotals.lean).
  GIVEN WITH THE SEED: the statements are not yours to turn. If you find one false, say at which input.
  Laid BY PROGRAM, IN A SANDBOX (cutbox-rows.mjs): the forced cells as the released guide's own fill.sh prints them over the translation 7dffc055f351dc5c… (all of the seat's roots in one cut). By AI agents, Wed Nov 11 2026. No macro, syntax, notation, axiom, sorry.
-/
import Derived.Test.YtnabjnlphelccaaChecked
import GoSem.Claim
import GoSem.ClaimJoined
import GoSem.ClaimMapViews
import Derived.JoinedTies
import Derived.KernelRfl
namespace Go.Proofs.Ytnabjnlphelccaa
/- THE CELL 'sum', in the pinned program and in every row, IS THE sha256 OF THE DUMP (.gsa) THAT YtnabjnlphelccaaProg.lean LOADS. Nothing in Lean hashes anything: it is a label: what it is worth is what the hold of that sum in a sandbox is worth. -/
noncomputable def Try.pinned : Pinned := { name := "ytnabjnlphelccaa", sum := "7dffc055f351dc5cbf7deb4d459586c9c3d1a31827b08158c538534e9c2a8d82", checked := Try.checked }
namespace Rows
def none {H : Type} : Left H := { results := [], args := [] }

/-- 'laws.FnOriented': WHATEVER THE INPUT: true; the input reads as it did. -/
def fnOrientedSpec : ChangeSpec := { name := "fnOriented", fn := fun _ => fun
  | [d] => { results := [.lit (.bool true)], args := [d] }
  | _ => none }
def fnOrientedRow : OpenClaim := { program := "ytnabjnlphelccaa", sum := "7dffc055f351dc5cbf7deb4d459586c9c3d1a31827b08158c538534e9c2a8d82", func := "loop.example/g00892/laws.FnOriented", spec := "fnOriented", inPlace := ["internal/bytealg.IndexByteString", "internal/bytealg.IndexString"], unfollowed := true, recurses := true, named := ["internal/bytealg.MaxLen"], apart := false }
def FnOrientedSaid : Prop := fnOrientedRow.holds Try.pinned (OpenSpec.ofChange fnOrientedSpec)

/-- ITS FALSE NEIGHBOUR: 'it returns false'. Refute it at one input. -/
def fnOrientedWrong : ChangeSpec := { name := "fnOriented", fn := fun _ => fun
  | [d] => { results := [.lit (.bool false)], args := [d] }
  | _ => none }
def FnOrientedWrongFalsely : Prop := fnOrientedRow.holds Try.pinned (OpenSpec.ofChange fnOrientedWrong)

/-- 'laws.FnExactDisagreement': WHATEVER THE INPUT: true; the input reads as it did. -/
def fnExactDisagreementSpec : ChangeSpec := { name := "fnExactDisagreement", fn := fun _ => fun
  | [d1, d2] => { results := [.lit (.bool true)], args := [d1, d2] }
  | _ => none }
def fnExactDisagreementRow : OpenClaim := { program := "ytnabjnlphelccaa", sum := "7dffc055f351dc5cbf7deb4d459586c9c3d1a31827b08158c538534e9c2a8d82", func := "loop.example/g00892/laws.FnExactDisagreement", spec := "fnExactDisagreement", inPlace := ["internal/bytealg.IndexByteString", "internal/bytealg.IndexString"], recurses := true, named := ["internal/bytealg.MaxLen"], loops := true, apart := false }
def FnExactDisagreementSaid : Prop := fnExactDisagreementRow.holds Try.pinned (OpenSpec.ofChange fnExactDisagreementSpec)

/-- ITS FALSE NEIGHBOUR: 'it returns false'. Refute it at one input. -/
def fnExactDisagreementWrong : ChangeSpec := { name := "fnExactDisagreement", fn := fun _ => fun
  | [d1, d2] => { results := [.lit (.bool false)], args := [d1, d2] }
  | _ => none }
def FnExactDisagreementWrongFalsely : Prop := fnExactDisagreementRow.holds Try.pinned (OpenSpec.ofChange fnExactDisagreementWrong)

/-- 'laws.FnExactIsValidOrdering': WHATEVER THE INPUT: true; the input reads as it did. -/
def fnExactIsValidOrderingSpec : ChangeSpec := { name := "fnExactIsValidOrdering", fn := fun _ => fun
  | [d] => { results := [.lit (.bool true)], args := [d] }
  | _ => none }
def fnExactIsValidOrderingRow : OpenClaim := { program := "ytnabjnlphelccaa", sum := "7dffc055f351dc5cbf7deb4d459586c9c3d1a31827b08158c538534e9c2a8d82", func := "loop.example/g00892/laws.FnExactIsValidOrdering", spec := "fnExactIsValidOrdering", apart := false }
def FnExactIsValidOrderingSaid : Prop := fnExactIsValidOrderingRow.holds Try.pinned (OpenSpec.ofChange fnExactIsValidOrderingSpec)

/-- ITS FALSE NEIGHBOUR: 'it returns false'. Refute it at one input. -/
def fnExactIsValidOrderingWrong : ChangeSpec := { name := "fnExactIsValidOrdering", fn := fun _ => fun
  | [d] => { results := [.lit (.bool false)], args := [d] }
  | _ => none }
def FnExactIsValidOrderingWrongFalsely : Prop := fnExactIsValidOrderingRow.holds Try.pinned (OpenSpec.ofChange fnExactIsValidOrderingWrong)

/-- 'laws.FnExactTermWeight': WHATEVER THE INPUT: true; the input reads as it did. -/
def fnExactTermWeightSpec : ChangeSpec := { name := "fnExactTermWeight", fn := fun _ => fun
  | [d1, d2] => { results := [.lit (.bool true)], args := [d1, d2] }
  | _ => none }
def fnExactTermWeightRow : OpenClaim := { program := "ytnabjnlphelccaa", sum := "7dffc055f351dc5cbf7deb4d459586c9c3d1a31827b08158c538534e9c2a8d82", func := "loop.example/g00892/laws.FnExactTermWeight", spec := "fnExactTermWeight", inPlace := ["internal/bytealg.IndexByteString", "internal/bytealg.IndexString"], unfollowed := true, recurses := true, named := ["internal/bytealg.MaxLen"], loops := true, apart := false }
def FnExactTermWeightSaid : Prop := fnExactTermWeightRow.holds Try.pinned (OpenSpec.ofChange fnExactTermWeightSpec)

/-- ITS FALSE NEIGHBOUR: 'it returns false'. Refute it at one input. -/
def fnExactTermWeightWrong : ChangeSpec := { name := "fnExactTermWeight", fn := fun _ => fun
  | [d1, d2] => { results := [.lit (.bool false)], args := [d1, d2] }
  | _ => none }
def FnExactTermWeightWrongFalsely : Prop := fnExactTermWeightRow.holds Try.pinned (OpenSpec.ofChange fnExactTermWeightWrong)

/-- 'laws.FnExactCompareKBO': WHATEVER THE INPUT: true; the input reads as it did. -/
def fnExactCompareKBOSpec : ChangeSpec := { name := "fnExactCompareKBO", fn := fun _ => fun
  | [d1, d2, d3] => { results := [.lit (.bool true)], args := [d1, d2, d3] }
  | _ => none }
def fnExactCompareKBORow : OpenClaim := { program := "ytnabjnlphelccaa", sum := "7dffc055f351dc5cbf7deb4d459586c9c3d1a31827b08158c538534e9c2a8d82", func := "loop.example/g00892/laws.FnExactCompareKBO", spec := "fnExactCompareKBO", inPlace := ["internal/bytealg.IndexByteString", "internal/bytealg.IndexString"], unfollowed := true, recurses := true, named := ["internal/bytealg.MaxLen"], loops := true, apart := false }
def FnExactCompareKBOSaid : Prop := fnExactCompareKBORow.holds Try.pinned (OpenSpec.ofChange fnExactCompareKBOSpec)

/-- ITS FALSE NEIGHBOUR: 'it returns false'. Refute it at one input. -/
def fnExactCompareKBOWrong : ChangeSpec := { name := "fnExactCompareKBO", fn := fun _ => fun
  | [d1, d2, d3] => { results := [.lit (.bool false)], args := [d1, d2, d3] }
  | _ => none }
def FnExactCompareKBOWrongFalsely : Prop := fnExactCompareKBORow.holds Try.pinned (OpenSpec.ofChange fnExactCompareKBOWrong)

/-- 'laws.FnExactCompareLPO': WHATEVER THE INPUT: true; the input reads as it did. -/
def fnExactCompareLPOSpec : ChangeSpec := { name := "fnExactCompareLPO", fn := fun _ => fun
  | [d1, d2, d3] => { results := [.lit (.bool true)], args := [d1, d2, d3] }
  | _ => none }
def fnExactCompareLPORow : OpenClaim := { program := "ytnabjnlphelccaa", sum := "7dffc055f351dc5cbf7deb4d459586c9c3d1a31827b08158c538534e9c2a8d82", func := "loop.example/g00892/laws.FnExactCompareLPO", spec := "fnExactCompareLPO", inPlace := ["internal/bytealg.IndexByteString", "internal/bytealg.IndexString"], unfollowed := true, recurses := true, named := ["internal/bytealg.MaxLen"], loops := true, apart := false }
def FnExactCompareLPOSaid : Prop := fnExactCompareLPORow.holds Try.pinned (OpenSpec.ofChange fnExactCompareLPOSpec)

/-- ITS FALSE NEIGHBOUR: 'it returns false'. Refute it at one input. -/
def fnExactCompareLPOWrong : ChangeSpec := { name := "fnExactCompareLPO", fn := fun _ => fun
  | [d1, d2, d3] => { results := [.lit (.bool false)], args := [d1, d2, d3] }
  | _ => none }
def FnExactCompareLPOWrongFalsely : Prop := fnExactCompareLPORow.holds Try.pinned (OpenSpec.ofChange fnExactCompareLPOWrong)

/-- 'laws.FnExactCompareMultisets': WHATEVER THE INPUT: true; the input reads as it did. -/
def fnExactCompareMultisetsSpec : ChangeSpec := { name := "fnExactCompareMultisets", fn := fun _ => fun
  | [d1, d2, d3] => { results := [.lit (.bool true)], args := [d1, d2, d3] }
  | _ => none }
def fnExactCompareMultisetsRow : OpenClaim := { program := "ytnabjnlphelccaa", sum := "7dffc055f351dc5cbf7deb4d459586c9c3d1a31827b08158c538534e9c2a8d82", func := "loop.example/g00892/laws.FnExactCompareMultisets", spec := "fnExactCompareMultisets", inPlace := ["internal/bytealg.IndexByteString", "internal/bytealg.IndexString"], unfollowed := true, recurses := true, named := ["internal/bytealg.MaxLen"], loops := true, apart := false }
def FnExactCompareMultisetsSaid : Prop := fnExactCompareMultisetsRow.holds Try.pinned (OpenSpec.ofChange fnExactCompareMultisetsSpec)

/-- ITS FALSE NEIGHBOUR: 'it returns false'. Refute it at one input. -/
def fnExactCompareMultisetsWrong : ChangeSpec := { name := "fnExactCompareMultisets", fn := fun _ => fun
  | [d1, d2, d3] => { results := [.lit (.bool false)], args := [d1, d2, d3] }
  | _ => none }
def FnExactCompareMultisetsWrongFalsely : Prop := fnExactCompareMultisetsRow.holds Try.pinned (OpenSpec.ofChange fnExactCompareMultisetsWrong)

/-- 'laws.FnExactOrientEquation': WHATEVER THE INPUT: true; the input reads as it did. -/
def fnExactOrientEquationSpec : ChangeSpec := { name := "fnExactOrientEquation", fn := fun _ => fun
  | [d1, d2] => { results := [.lit (.bool true)], args := [d1, d2] }
  | _ => none }
def fnExactOrientEquationRow : OpenClaim := { program := "ytnabjnlphelccaa", sum := "7dffc055f351dc5cbf7deb4d459586c9c3d1a31827b08158c538534e9c2a8d82", func := "loop.example/g00892/laws.FnExactOrientEquation", spec := "fnExactOrientEquation", inPlace := ["internal/bytealg.IndexByteString", "internal/bytealg.IndexString"], unfollowed := true, recurses := true, named := ["internal/bytealg.MaxLen"], loops := true, apart := false }
def FnExactOrientEquationSaid : Prop := fnExactOrientEquationRow.holds Try.pinned (OpenSpec.ofChange fnExactOrientEquationSpec)

/-- ITS FALSE NEIGHBOUR: 'it returns false'. Refute it at one input. -/
def fnExactOrientEquationWrong : ChangeSpec := { name := "fnExactOrientEquation", fn := fun _ => fun
  | [d1, d2] => { results := [.lit (.bool false)], args := [d1, d2] }
  | _ => none }
def FnExactOrientEquationWrongFalsely : Prop := fnExactOrientEquationRow.holds Try.pinned (OpenSpec.ofChange fnExactOrientEquationWrong)

/-- 'laws.FnExactFirstNotDecreasing': WHATEVER THE INPUT: true; the input reads as it did. -/
def fnExactFirstNotDecreasingSpec : ChangeSpec := { name := "fnExactFirstNotDecreasing", fn := fun _ => fun
  | [d1, d2] => { results := [.lit (.bool true)], args := [d1, d2] }
  | _ => none }
def fnExactFirstNotDecreasingRow : OpenClaim := { program := "ytnabjnlphelccaa", sum := "7dffc055f351dc5cbf7deb4d459586c9c3d1a31827b08158c538534e9c2a8d82", func := "loop.example/g00892/laws.FnExactFirstNotDecreasing", spec := "fnExactFirstNotDecreasing", inPlace := ["internal/bytealg.IndexByteString", "internal/bytealg.IndexString"], unfollowed := true, recurses := true, named := ["internal/bytealg.MaxLen"], loops := true, apart := false }
def FnExactFirstNotDecreasingSaid : Prop := fnExactFirstNotDecreasingRow.holds Try.pinned (OpenSpec.ofChange fnExactFirstNotDecreasingSpec)

/-- ITS FALSE NEIGHBOUR: 'it returns false'. Refute it at one input. -/
def fnExactFirstNotDecreasingWrong : ChangeSpec := { name := "fnExactFirstNotDecreasing", fn := fun _ => fun
  | [d1, d2] => { results := [.lit (.bool false)], args := [d1, d2] }
  | _ => none }
def FnExactFirstNotDecreasingWrongFalsely : Prop := fnExactFirstNotDecreasingRow.holds Try.pinned (OpenSpec.ofChange fnExactFirstNotDecreasingWrong)

/- THE SECOND FORM. 'bulk': how many values and letters a reading holds, each counted each time it is reached (what is shared counts as often as it is met; a slice's spare places count too). A statement '..UptoSaid' is the law's where the arguments, and the package variables that the reading takes, are together of bulk at most 1048576: NARROWER than '..Said'. Prove '..Said' where nothing that the law and all that it calls make is longer than what came in: it says more and counts as full. Else prove '..UptoSaid'. A law counts once. -/
mutual
def uptoBulk {H : Type} : DataW H → Nat
  | .lit (.string bytes) => bytes.length + 1
  | .lit _ => 1
  | .nil => 1
  | .ptr d => uptoBulk d + 1
  | .slice elems spare => uptoBulkAll elems + uptoBulkAll spare + 1
  | .agg parts => uptoBulkAll parts + 1
  | .iface _ d => uptoBulk d + 1
  | .map entries => uptoBulkEntries entries + 1
  | .held _ => 1
def uptoBulkAll {H : Type} : List (DataW H) → Nat
  | [] => 0
  | d :: r => uptoBulk d + uptoBulkAll r
def uptoBulkEntries {H : Type} : List (Lit × DataW H) → Nat
  | [] => 0
  | x :: r => uptoBulkEntry x + uptoBulkEntries r
def uptoBulkEntry {H : Type} : Lit × DataW H → Nat
  | (.string bytes, d) => bytes.length + uptoBulk d + 1
  | (_, d) => uptoBulk d + 1
 end
def uptoSmall : (H : Type) → List (DataW H) → Bool := fun _ ds => decide (uptoBulkAll ds ≤ 1048576)
def OpenSpec.upto (s : _root_.Go.ChangeSpec) : _root_.Go.OpenSpec := { _root_.Go.OpenSpec.ofChange s with cond := some uptoSmall }

/-- 'laws.FnOriented', WHERE WHAT IT READS IS OF BULK AT MOST 1048576: true; the input reads as it did. -/
def fnOrientedUptoRow : OpenClaim := { program := "ytnabjnlphelccaa", sum := "7dffc055f351dc5cbf7deb4d459586c9c3d1a31827b08158c538534e9c2a8d82", func := "loop.example/g00892/laws.FnOriented", spec := "fnOriented", inPlace := ["internal/bytealg.IndexByteString", "internal/bytealg.IndexString"], unfollowed := true, recurses := true, named := ["internal/bytealg.MaxLen"], apart := false, narrowed := true }
def FnOrientedUptoSaid : Prop := fnOrientedUptoRow.holds Try.pinned (OpenSpec.upto fnOrientedSpec)

/-- 'laws.FnExactDisagreement', WHERE WHAT IT READS IS OF BULK AT MOST 1048576: true; the input reads as it did. -/
def fnExactDisagreementUptoRow : OpenClaim := { program := "ytnabjnlphelccaa", sum := "7dffc055f351dc5cbf7deb4d459586c9c3d1a31827b08158c538534e9c2a8d82", func := "loop.example/g00892/laws.FnExactDisagreement", spec := "fnExactDisagreement", inPlace := ["internal/bytealg.IndexByteString", "internal/bytealg.IndexString"], recurses := true, named := ["internal/bytealg.MaxLen"], loops := true, apart := false, narrowed := true }
def FnExactDisagreementUptoSaid : Prop := fnExactDisagreementUptoRow.holds Try.pinned (OpenSpec.upto fnExactDisagreementSpec)

/-- 'laws.FnExactIsValidOrdering', WHERE WHAT IT READS IS OF BULK AT MOST 1048576: true; the input reads as it did. -/
def fnExactIsValidOrderingUptoRow : OpenClaim := { program := "ytnabjnlphelccaa", sum := "7dffc055f351dc5cbf7deb4d459586c9c3d1a31827b08158c538534e9c2a8d82", func := "loop.example/g00892/laws.FnExactIsValidOrdering", spec := "fnExactIsValidOrdering", apart := false, narrowed := true }
def FnExactIsValidOrderingUptoSaid : Prop := fnExactIsValidOrderingUptoRow.holds Try.pinned (OpenSpec.upto fnExactIsValidOrderingSpec)

/-- 'laws.FnExactTermWeight', WHERE WHAT IT READS IS OF BULK AT MOST 1048576: true; the input reads as it did. -/
def fnExactTermWeightUptoRow : OpenClaim := { program := "ytnabjnlphelccaa", sum := "7dffc055f351dc5cbf7deb4d459586c9c3d1a31827b08158c538534e9c2a8d82", func := "loop.example/g00892/laws.FnExactTermWeight", spec := "fnExactTermWeight", inPlace := ["internal/bytealg.IndexByteString", "internal/bytealg.IndexString"], unfollowed := true, recurses := true, named := ["internal/bytealg.MaxLen"], loops := true, apart := false, narrowed := true }
def FnExactTermWeightUptoSaid : Prop := fnExactTermWeightUptoRow.holds Try.pinned (OpenSpec.upto fnExactTermWeightSpec)

/-- 'laws.FnExactCompareKBO', WHERE WHAT IT READS IS OF BULK AT MOST 1048576: true; the input reads as it did. -/
def fnExactCompareKBOUptoRow : OpenClaim := { program := "ytnabjnlphelccaa", sum := "7dffc055f351dc5cbf7deb4d459586c9c3d1a31827b08158c538534e9c2a8d82", func := "loop.example/g00892/laws.FnExactCompareKBO", spec := "fnExactCompareKBO", inPlace := ["internal/bytealg.IndexByteString", "internal/bytealg.IndexString"], unfollowed := true, recurses := true, named := ["internal/bytealg.MaxLen"], loops := true, apart := false, narrowed := true }
def FnExactCompareKBOUptoSaid : Prop := fnExactCompareKBOUptoRow.holds Try.pinned (OpenSpec.upto fnExactCompareKBOSpec)

/-- 'laws.FnExactCompareLPO', WHERE WHAT IT READS IS OF BULK AT MOST 1048576: true; the input reads as it did. -/
def fnExactCompareLPOUptoRow : OpenClaim := { program := "ytnabjnlphelccaa", sum := "7dffc055f351dc5cbf7deb4d459586c9c3d1a31827b08158c538534e9c2a8d82", func := "loop.example/g00892/laws.FnExactCompareLPO", spec := "fnExactCompareLPO", inPlace := ["internal/bytealg.IndexByteString", "internal/bytealg.IndexString"], unfollowed := true, recurses := true, named := ["internal/bytealg.MaxLen"], loops := true, apart := false, narrowed := true }
def FnExactCompareLPOUptoSaid : Prop := fnExactCompareLPOUptoRow.holds Try.pinned (OpenSpec.upto fnExactCompareLPOSpec)

/-- 'laws.FnExactCompareMultisets', WHERE WHAT IT READS IS OF BULK AT MOST 1048576: true; the input reads as it did. -/
def fnExactCompareMultisetsUptoRow : OpenClaim := { program := "ytnabjnlphelccaa", sum := "7dffc055f351dc5cbf7deb4d459586c9c3d1a31827b08158c538534e9c2a8d82", func := "loop.example/g00892/laws.FnExactCompareMultisets", spec := "fnExactCompareMultisets", inPlace := ["internal/bytealg.IndexByteString", "internal/bytealg.IndexString"], unfollowed := true, recurses := true, named := ["internal/bytealg.MaxLen"], loops := true, apart := false, narrowed := true }
def FnExactCompareMultisetsUptoSaid : Prop := fnExactCompareMultisetsUptoRow.holds Try.pinned (OpenSpec.upto fnExactCompareMultisetsSpec)

/-- 'laws.FnExactOrientEquation', WHERE WHAT IT READS IS OF BULK AT MOST 1048576: true; the input reads as it did. -/
def fnExactOrientEquationUptoRow : OpenClaim := { program := "ytnabjnlphelccaa", sum := "7dffc055f351dc5cbf7deb4d459586c9c3d1a31827b08158c538534e9c2a8d82", func := "loop.example/g00892/laws.FnExactOrientEquation", spec := "fnExactOrientEquation", inPlace := ["internal/bytealg.IndexByteString", "internal/bytealg.IndexString"], unfollowed := true, recurses := true, named := ["internal/bytealg.MaxLen"], loops := true, apart := false, narrowed := true }
def FnExactOrientEquationUptoSaid : Prop := fnExactOrientEquationUptoRow.holds Try.pinned (OpenSpec.upto fnExactOrientEquationSpec)

/-- 'laws.FnExactFirstNotDecreasing', WHERE WHAT IT READS IS OF BULK AT MOST 1048576: true; the input reads as it did. -/
def fnExactFirstNotDecreasingUptoRow : OpenClaim := { program := "ytnabjnlphelccaa", sum := "7dffc055f351dc5cbf7deb4d459586c9c3d1a31827b08158c538534e9c2a8d82", func := "loop.example/g00892/laws.FnExactFirstNotDecreasing", spec := "fnExactFirstNotDecreasing", inPlace := ["internal/bytealg.IndexByteString", "internal/bytealg.IndexString"], unfollowed := true, recurses := true, named := ["internal/bytealg.MaxLen"], loops := true, apart := false, narrowed := true }
def FnExactFirstNotDecreasingUptoSaid : Prop := fnExactFirstNotDecreasingUptoRow.holds Try.pinned (OpenSpec.upto fnExactFirstNotDecreasingSpec)

end Rows
end Go.Proofs.Ytnabjnlphelccaa
