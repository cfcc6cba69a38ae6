/- An argument that is a slice of integers, opened. No condition. -/
import Derived.Test.YtdpeanpmjhpblaaInts
import Derived.ProofKit
import Derived.ChangeSlices
namespace Go.Proofs.Ytdpeanpmjhpblaa
open Go.RowKit Go.ChangeShapes Go.WideShapes
set_option linter.unusedVariables false

section
variable {H : Type} {enc : TypeId × Value → H} {w : World} {base : Nat} {sp : Nat → Bool} {hd : Bool}

end
end Go.Proofs.Ytdpeanpmjhpblaa
