/- The model's copy of a substitution, and RestrictSubstitution, the model's: contracts, for bindings of at most 1048576 names' bytes, bindings and arguments, and at most 1048576 names. -/
import Derived.Test.YtnkonhdnccolhaaOwnB
import Derived.Test.YtnkonhdnccolhaaRestM
import Derived.Test.YtnkonhdnccolhaaToB
namespace Go.Proofs.Ytnkonhdnccolhaa
open Go.RowKit
set_option linter.unusedVariables false

end Go.Proofs.Ytnkonhdnccolhaa
