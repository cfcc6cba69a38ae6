/- The two functions that compute the checksum, the program's and the model's, give the same number for every string: contracts. No condition beyond the length that any string has. -/
import Derived.Test.YtocenggbdnchfaaDoorRows
import Derived.Test.YtocenggbdnchfaaDoorMath
import Derived.WalkKit
import Derived.WalkSpells
import Derived.WalkLawsBesides
import Derived.Lib.Hide
namespace Go.Proofs.YtocenggbdnchfaaDoor
open Go.RowKit

theorem ret_int {k : IntKind} {a b : Int} (h : a = b) : Ending.returned (.int k a) = .returned (.int k b) := by rw [h]

set_option maxHeartbeats 400000 in
theorem l1Sum_any (s : ByteArray) (w : World) (hs : s.size ≤ maxLen) :
    Calls Tryd.prog 42 #[.string s] w fun e w' => e = .returned (.int .i64 (sumL s.data.toList)) ∧ w = w' := by
  unfold maxLen at hs
  go_enter Tryd.func42, Tryd.ntmps42
  go_wp2
  go_loop [3, 4] (fun n i => ∃ k : Nat, k ≤ s.size ∧ i = .int .i64 k ∧ n = .int .i64 (sumL (s.data.toList.take k))) (fun _ i => s.size - (intOf i).toNat)
  case atStart => exact ⟨0, Nat.zero_le _, rfl, rfl⟩
  case round =>
    obtain ⟨k, hk, rfl, rfl⟩ := hrel
    obtain ⟨hd1, hd2⟩ := sumL_bd (s.data.toList.take k)
    by_cases hlt : k < s.size
    · have HS : Hid (sumL (s.data.toList.take (k + 1)) = (41 * sumL (s.data.toList.take k) + (s[k].toNat : Int) + 1) % 999979) := by rw [take_snoc s k hlt]; exact sumL_snoc _ _
      have hby : (s[k].toNat : Int) ≤ 255 := by have := s[k].toNat_lt; omega
      go_wp2
      go_round
      case rel => exact ⟨k + 1, by omega, by go_num, by rw [HS.out]⟩
      case measure => simp [intOf]; omega
    · have HT : Hid (s.data.toList.take k = s.data.toList) := take_all s k (by omega)
      go_wp2
      go_ret
      exact ⟨ret_int (by rw [HT.out]), rfl⟩

/-- The model's Checksum: its two results. -/
def sumOk (s : ByteArray) : Bool := decide ((s.size : Int) ≤ 4000)
def sumN (s : ByteArray) : Int := if sumOk s then sumL s.data.toList else 0

set_option maxHeartbeats 400000 in
theorem implSum_any (s : ByteArray) (w : World) (hs : s.size ≤ maxLen) :
    Calls Tryd.prog 31 #[.string s] w fun e w' => e = .returned (.tuple #[.int .i64 (sumN s), .bool (sumOk s)]) ∧ w = w' := by
  unfold maxLen at hs
  by_cases h : (4000 : Int) < s.size
  · go_enter Tryd.func31, Tryd.ntmps31
    go_wp2
    go_ret2
    have e : sumOk s = false := by simp [sumOk]; omega
    exact ⟨by simp [sumN, e], rfl⟩
  · have e : Hid (sumOk s = true) := Lib.hid (by simp [sumOk]; omega)
    go_enter Tryd.func31, Tryd.ntmps31
    go_wp2
    go_loop [4, 11] (fun n i => ∃ k : Nat, k ≤ s.size ∧ i = .int .i64 k ∧ n = .int .i64 (sumL (s.data.toList.take k))) (fun _ i => s.size - (intOf i).toNat)
    case atStart => exact ⟨0, Nat.zero_le _, rfl, rfl⟩
    case round =>
      obtain ⟨k, hk, rfl, rfl⟩ := hrel
      obtain ⟨hd1, hd2⟩ := sumL_bd (s.data.toList.take k)
      by_cases hlt : k < s.size
      · have HS : Hid (sumL (s.data.toList.take (k + 1)) = (41 * sumL (s.data.toList.take k) + (s[k].toNat : Int) + 1) % 999979) := by rw [take_snoc s k hlt]; exact sumL_snoc _ _
        have hby : (s[k].toNat : Int) ≤ 255 := by have := s[k].toNat_lt; omega
        go_wp2
        go_round
        case rel => exact ⟨k + 1, by omega, by go_num, by rw [HS.out]⟩
        case measure => simp [intOf]; omega
      · have HT : Hid (s.data.toList.take k = s.data.toList) := take_all s k (by omega)
        go_wp2
        go_ret2
        exact ⟨by rw [HT.out]; simp [sumN, e.out], rfl⟩

end Go.Proofs.YtocenggbdnchfaaDoor
