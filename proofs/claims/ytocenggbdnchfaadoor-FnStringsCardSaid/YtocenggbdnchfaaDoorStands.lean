/- The model's test whether a byte stands in a string: a contract for every string. No condition beyond the length that any string has. -/
import Derived.Test.YtocenggbdnchfaaDoorRows
import Derived.Test.YtocenggbdnchfaaDoorMath
import Derived.WalkKit
import Derived.WalkSpells
import Derived.WalkLawsBesides
import Derived.Lib.Hide
import Derived.Deep.QuietTactic
namespace Go.Proofs.YtocenggbdnchfaaDoor
open Go.RowKit

/-- Whether a byte stands in a list. -/
def hasB (c : UInt8) (l : List UInt8) : Bool := decide (c ∈ l)

theorem ret_bool {a b : Bool} (h : a = b) : Ending.returned (.bool a) = .returned (.bool b) := by rw [h]
theorem byte_eq {a b : UInt8} (h : a = b) : ((a.toNat : Int) == (b.toNat : Int)) = true := by simp [h]
theorem byte_ne {a b : UInt8} (h : a ≠ b) : ((a.toNat : Int) == (b.toNat : Int)) = false := by
  simp only [beq_eq_false_iff_ne, ne_eq]
  intro e
  exact h (UInt8.toNat_inj.1 (by omega))

theorem getElem_toList (s : ByteArray) (k : Nat) (h : k < s.size) : s.data.toList[k]'(by simpa using h) = s[k] := rfl

theorem quiet_left {P : Program} {f : FuncId} {args : Array Value} {w : World} {n : Nat} {v : Value}
    (h : Calls P f args (w.drewN n) fun e w' => e = .returned v ∧ w.drewN n = w') : Calls P f args (w.drewN n) fun e w'' => e = .returned v ∧ ∃ m, w'' = w.drewN m :=
  h.mono fun _ _ ⟨he, hm⟩ => ⟨he, n, hm.symm⟩

set_option maxHeartbeats 400000 in
theorem l1Stands_any (s : ByteArray) (c : UInt8) (w : World) (hs : s.size ≤ maxLen) :
    Calls Tryd.prog 33 #[.string s, .int .u8 (c.toNat : Int)] w fun e w' => e = .returned (.bool (hasB c s.data.toList)) ∧ w = w' := by
  unfold maxLen at hs
  go_enter Tryd.func33, Tryd.ntmps33
  go_wp2
  go_loop [5] (fun i => ∃ k : Nat, k ≤ s.size ∧ i = .int .i64 k ∧ c ∉ s.data.toList.take k) (fun i => s.size - (intOf i).toNat)
  case atStart => exact ⟨0, Nat.zero_le _, rfl, by simp⟩
  case round =>
    obtain ⟨k, hk, rfl, hno0⟩ := hrel
    have hno : Hid (c ∉ s.data.toList.take k) := Lib.hid hno0
    clear hno0
    by_cases hlt : k < s.size
    · have HS : Hid (s.data.toList.take (k + 1) = s.data.toList.take k ++ [s[k]]) := Lib.hid (take_snoc s k hlt)
      by_cases he : s[k] = c
      · have ht := byte_eq he
        have hmem : Hid (c ∈ s.data.toList) := Lib.hid (by
          have := List.getElem_mem (l := s.data.toList) (n := k) (by simpa using hlt)
          rw [getElem_toList s k hlt, he] at this; exact this)
        clear he
        go_wp2
        go_ret
        exact ⟨ret_bool (by simp [hasB, hmem.out]), rfl⟩
      · have ht := byte_ne he
        have he' : Hid (s[k] ≠ c) := Lib.hid he
        clear he
        go_wp2
        go_round
        case rel => exact ⟨k + 1, by omega, by go_num, by rw [HS.out]; intro h; rcases List.mem_append.1 h with h | h; exact hno.out h; exact he'.out (List.mem_singleton.1 h).symm⟩
        case measure => simp [intOf]; omega
    · have HT : Hid (s.data.toList.take k = s.data.toList) := Lib.hid (take_all s k (by omega))
      go_wp2
      go_ret
      exact ⟨ret_bool (by have := hno.out; rw [HT.out] at this; simp [hasB, this]), rfl⟩

end Go.Proofs.YtocenggbdnchfaaDoor
