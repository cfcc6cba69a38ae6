/- FormatTerm of the program: a contract, for terms of at most 1048576 names' bytes and arguments. -/
import Derived.Test.YtohalpafmcobpaaGreatWr
import Derived.Test.YtohalpafmcobpaaGreatSizes
namespace Go.Proofs.YtohalpafmcobpaaGreat
open Go.RowKit
set_option linter.unusedVariables false

theorem txtX_len (t : Tm) (hw : t.wt ≤ 1048576) (ha : anyB t = true) (sign : List UInt8) (hs : sign.length ≤ 10) : (txtX sign t).length ≤ 100000000 := by
  cases he : isEqB t.name with
  | false => rw [txtX_no he]; have := t.txt_wt; omega
  | true =>
    rw [txtX_eq he]
    have h2 := jn_len_le sign t.args
    have h3 := sumL_le_of (f := fun s : Tm => s.txt.length + sign.length) (g := fun s => 3 * s.wt + 10) (l := t.args) (fun s hs => by have := s.txt_wt; omega)
    have h4 := sumL_lin t.args
    have h5 := t.wt_eq
    omega

end Go.Proofs.YtohalpafmcobpaaGreat
