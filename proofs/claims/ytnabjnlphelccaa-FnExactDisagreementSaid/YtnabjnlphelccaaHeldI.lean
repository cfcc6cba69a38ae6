/- A marked slice of integers looked at again: a contract. -/
import Derived.Test.YtnabjnlphelccaaOwnI
namespace Go.Proofs.Ytnabjnlphelccaa
open Go.RowKit
set_option linter.unusedVariables false

set_option maxHeartbeats 1000000 in
theorem heldIntS_any (k n : Nat) (v : Value) (w : World) (hv : IntsV w v (mkI k n)) (hn : n ≤ 1048576) (hk : k + n ≤ 100000000) :
    Calls Try.prog 27 #[v, .int .i64 k] w fun e w' => e = .returned (.int .i64 (k + n : Nat)) ∧ Below w.heap.size w w' := by
  obtain ⟨a, c, rfl, hc⟩ := hv
  rw [mkI_len]
  have HC := Lib.hid hc
  clear hc
  go_enter Try.func27, Try.ntmps27
  go_wp2
  go_loopw [1, 5] (fun kk i wr => ∃ j q : Nat, j ≤ n ∧ i = .int .i64 j ∧ kk = .int .i64 q ∧ q = k + j ∧ Below w.heap.size w wr) (fun _ i _ => n - (intOf i).toNat)
  case atStart => exact ⟨0, k, Nat.zero_le _, rfl, rfl, rfl, Below.refl _ _⟩
  case round =>
    obtain ⟨j, q, hj, rfl, rfl, hq, hbel⟩ := hrel
    have HB := Lib.hid hbel
    have HQ := Lib.hid hq
    clear hbel
    by_cases hlt : j < n
    · obtain ⟨b, off, rfl, hx⟩ := HC.out j _ (mkI_at hlt)
      have c0 := carry_cell hx HB.out
      rw [← hq] at c0
      have hqb : q ≤ 100000000 := by omega
      clear hx hq
      go_wp2
      go_roundw
      case rel => exact ⟨j + 1, q + 1, by omega, by go_num, by go_num, by have := HQ.out; omega, HB.out⟩
      case measure => simp [intOf]; omega
    · have hje : j = n := by omega
      have HEE : Hid (Ending.returned (.int .i64 q) = .returned (.int .i64 (k + n : Nat))) := Lib.hid (by rw [HQ.out, hje])
      clear hje hq
      go_wp2
      go_ret
      exact ⟨HEE.out, HB.out⟩

end Go.Proofs.Ytnabjnlphelccaa
