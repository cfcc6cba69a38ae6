/- FormatLiteral, the model's and the program's: contracts, for atoms of at most 1048576 names' bytes and arguments. -/
import Derived.Test.YtgpmdfhepanahaaGreatLit
namespace Go.Proofs.YtgpmdfhepanahaaGreat
open Go.RowKit
set_option linter.unusedVariables false

theorem atom_ways {t : Tm} (h : atomB t = true) : (isEqB t.name = true ∧ ∃ x y, t.args = [x, y] ∧ x.nodesB = true ∧ y.nodesB = true) ∨ (isEqB t.name = false ∧ t.nodesB = true) := any_ways (atom_any h)

end Go.Proofs.YtgpmdfhepanahaaGreat
