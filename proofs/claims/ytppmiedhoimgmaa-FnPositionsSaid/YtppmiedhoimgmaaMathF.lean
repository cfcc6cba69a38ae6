/- Plain facts on lists of bytes and integers that the walks use: the checksum of a list of bytes. No condition. -/
import Derived.Test.YtppmiedhoimgmaaOpenI
import Derived.Test.YtppmiedhoimgmaaFmtS
import Derived.Test.YtppmiedhoimgmaaName
namespace Go.Proofs.Ytppmiedhoimgmaa

theorem take_snoc (s : ByteArray) (k : Nat) (h : k < s.size) : s.data.toList.take (k + 1) = s.data.toList.take k ++ [s[k]] := by
  rw [List.take_succ_eq_append_getElem (by simpa using h)]; rfl

theorem take_all (s : ByteArray) (k : Nat) (h : s.size ≤ k) : s.data.toList.take k = s.data.toList := by
  rw [List.take_of_length_le]; simpa using h

end Go.Proofs.Ytppmiedhoimgmaa
