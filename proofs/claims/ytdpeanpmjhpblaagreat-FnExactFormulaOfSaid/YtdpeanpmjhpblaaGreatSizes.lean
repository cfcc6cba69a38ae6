/- TermSize and TermDepth, the program's and the model's: contracts, for terms of at most 1048576 names' bytes and arguments. -/
import Derived.Test.YtdpeanpmjhpblaaGreatImplV2
namespace Go.Proofs.YtdpeanpmjhpblaaGreat
open Go.RowKit
set_option linter.unusedVariables false

def sizeA (t : Tm) : Int := if anyB t then t.sz else 0
def depthA (t : Tm) : Int := if anyB t then t.dp else 0
theorem sizeA_yes {t : Tm} (h : anyB t = true) : sizeA t = t.sz := by simp [sizeA, h]
theorem sizeA_no {t : Tm} (h : anyB t = false) : sizeA t = 0 := by simp [sizeA, h]
theorem depthA_yes {t : Tm} (h : anyB t = true) : depthA t = t.dp := by simp [depthA, h]
theorem depthA_no {t : Tm} (h : anyB t = false) : depthA t = 0 := by simp [depthA, h]

theorem ret_pair {a b : Int} {p q : Bool} (h : a = b) (k : p = q) : Ending.returned (.tuple #[.int .i64 a, .bool p]) = .returned (.tuple #[.int .i64 b, .bool q]) := by rw [h, k]

end Go.Proofs.YtdpeanpmjhpblaaGreat
