/- The model's decimal text of an integer is its numeral: a contract for every integer between -10^15 and 10^15. -/
import Derived.Test.YtcijmhhajbgknaaDoorBaseF
import Derived.BigQuiet
import Derived.Lib.ItoaNum
import Derived.IntWalk
namespace Go.Proofs.YtcijmhhajbgknaaDoor
open Go.RowKit

def digs : ByteArray := ⟨#[48, 49, 50, 51, 52, 53, 54, 55, 56, 57]⟩
theorem digs_piece : ∀ n, n < 10 → digs.extract n (n + 1) = ⟨#[UInt8.ofNat (48 + n)]⟩ := by decide

theorem decDigits_le (u : Nat) : (Lib.decDigits u).length ≤ u + 1 := by
  induction u using Nat.strongRecOn with
  | _ u ih =>
    rw [Lib.decDigits]
    split
    · simp
    · have := ih (u / 10) (by omega)
      simp only [List.length_append, List.length_singleton]; omega

theorem num_glue {n r : Nat} {t : ByteArray} (h : ¬ n < 10) (ht : t = ⟨(Lib.decDigits (n / 10)).toArray⟩) (hr : r = n % 10) : t ++ ⟨#[48 + UInt8.ofNat r]⟩ = ⟨(Lib.decDigits n).toArray⟩ := by
  subst ht hr
  rw [Lib.decDigits.eq_def n, dif_neg h]
  apply ByteArray.ext
  simp

set_option maxHeartbeats 1000000 in
theorem numNat_any (k : Nat) : ∀ (n : Nat) (w : World), n ≤ k → n ≤ 1000000000000000 →
    Calls Tryd.prog 92 #[.int .i64 (n : Int)] w fun e w' => e = .returned (.string ⟨(Lib.decDigits n).toArray⟩) ∧ Drawn w w' := by
  induction k with
  | zero =>
    intro n w hk hm
    have hn : n < 10 := by omega
    go_enter Tryd.func92, Tryd.ntmps92
    go_wp2_with fail
    go_ret
    exact ⟨ret_str ((digs_piece n hn).trans (by rw [Lib.decDigits_one hn])), 0, rfl⟩
  | succ k ih =>
    intro n w hk hm
    by_cases hn : n < 10
    · go_enter Tryd.func92, Tryd.ntmps92
      go_wp2_with fail
      go_ret
      exact ⟨ret_str ((digs_piece n hn).trans (by rw [Lib.decDigits_one hn])), 0, rfl⟩
    · have IH0 : ∀ W : World, Calls Tryd.prog 92 #[.int .i64 ((n : Int) / 10)] W fun e w' => e = .returned (.string ⟨(Lib.decDigits (n / 10)).toArray⟩) ∧ ∃ m, w' = W.drewN m := fun W => ih (n / 10) W (by omega) (by omega)
      have IH := hide IH0
      clear IH0 ih
      obtain ⟨r, hr⟩ : ∃ r, r = n % 10 := ⟨_, rfl⟩
      have hr10 : r < 10 := by omega
      have e1 : IntKind.i64.wrap ((n : Int) / 10) = (n : Int) / 10 := IntWalk.i64_in _ (by omega)
      have e2 : (n : Int).tmod 10 = (r : Int) := by rw [Int.tmod_eq_emod_of_nonneg (by omega)]; omega
      have e2' : (n : Int) % 10 = (r : Int) := by omega
      have e3 : IntKind.i64.wrap ((r : Int) + 1) = (r : Int) + 1 := IntWalk.i64_in _ (by omega)
      have e4 : ((r : Int) + 1).toNat = r + 1 := by omega
      have hsl : ∀ W : World, (Instr.slice 9 (.string ⟨#[48, 49, 50, 51, 52, 53, 54, 55, 56, 57]⟩) (some (.int .i64 (r : Int))) (some (.int .i64 ((r : Int) + 1))) none).run Tryd.prog W = .ok (.string ⟨#[UInt8.ofNat (48 + r)]⟩) W := fun W => by
        have h := run_slice_string (P := Tryd.prog) W 9 digs .i64 .i64 (r : Int) ((r : Int) + 1) Tryd.underlying9 (by omega) (by omega) (by show (r : Int) + 1 ≤ 10; omega)
        rw [e4, Int.toNat_natCast, digs_piece r hr10] at h
        exact h
      obtain ⟨t, ht⟩ : ∃ t : ByteArray, t = ⟨(Lib.decDigits (n / 10)).toArray⟩ := ⟨_, rfl⟩
      have htz : t.size ≤ n / 10 + 1 := by rw [ht]; exact decDigits_le _
      rw [← ht] at IH
      have HT : Hid (t = ⟨(Lib.decDigits (n / 10)).toArray⟩) := Lib.hid ht
      clear ht
      have HR : Hid (r = n % 10) := Lib.hid hr
      clear hr
      go_enter Tryd.func92, Tryd.ntmps92
      go_wp2_with fail
      go_quiet ((go_at_call 92; exact Calls.quiet_of (unhide IH _)))
      go_wp2_with fail
      go_ret
      exact ⟨ret_str (num_glue hn HT.out HR.out), nq, rfl⟩

theorem num_any (n : Int) (w : World) (h0 : -1000000000000000 ≤ n) (h1 : n ≤ 1000000000000000) :
    Calls Tryd.prog 92 #[.int .i64 n] w fun e w' => e = .returned (.string ⟨(Lib.itoa n).toArray⟩) ∧ Drawn w w' := by
  by_cases hn : n < 0
  · obtain ⟨m, hm⟩ : ∃ m : Nat, (m : Int) = -n := ⟨(-n).toNat, by omega⟩
    have CN := hide (numNat_any m m w (Nat.le_refl _) (by omega))
    have hm2 : n.natAbs = m := by omega
    obtain ⟨t, ht⟩ : ∃ t : ByteArray, t = ⟨(Lib.decDigits m).toArray⟩ := ⟨_, rfl⟩
    have htz : t.size ≤ 1000000000000001 := by rw [ht]; have := decDigits_le m; show (Lib.decDigits m).length ≤ _; omega
    have HE : Hid ((ByteArray.mk #[45]) ++ t = ⟨(Lib.itoa n).toArray⟩) := Lib.hid (by
      rw [ht]; apply ByteArray.ext; simp [Lib.itoa, hn, hm2])
    rw [← ht] at CN
    rw [hm] at CN
    clear ht hm hm2
    go_enter Tryd.func92, Tryd.ntmps92
    go_wp2_with (go_at_call 92; refine (unhide CN).mono ?_; rintro e w' ⟨rfl, hd⟩)
    go_ret
    exact ⟨ret_str HE.out, by assumption⟩
  · obtain ⟨m, rfl⟩ : ∃ m : Nat, n = (m : Int) := ⟨n.toNat, by omega⟩
    have e : Lib.itoa (m : Int) = Lib.decDigits m := by simp [Lib.itoa]
    rw [e]
    exact numNat_any m m w (Nat.le_refl _) (by omega)

/-- What both FormatInt functions answer. -/
def fB (n : Int) : Bool := decide (-999999 ≤ n ∧ n ≤ 999999)
def fT (n : Int) : ByteArray := if fB n then ⟨(Lib.itoa n).toArray⟩ else ⟨#[]⟩
def fEnd (n : Int) : Ending := .returned (.tuple #[.string (fT n), .bool (fB n)])
theorem fEnd_no {n : Int} (h : n < -999999 ∨ 999999 < n) : Ending.returned (.tuple #[.string ⟨#[]⟩, .bool false]) = fEnd n := by
  have e : fB n = false := by simp [fB]; omega
  simp [fEnd, fT, e]
theorem fEnd_yes {n : Int} (h0 : -999999 ≤ n) (h1 : n ≤ 999999) : Ending.returned (.tuple #[.string ⟨(Lib.itoa n).toArray⟩, .bool true]) = fEnd n := by
  have e : fB n = true := by simp [fB]; omega
  simp [fEnd, fT, e]

theorem l1In_any (x a b : Int) (w : World) :
    Calls Tryd.prog 91 #[.int .i64 x, .int .i64 a, .int .i64 b] w fun e w' => e = .returned (.bool (decide (a ≤ x ∧ x ≤ b))) ∧ w = w' := by
  by_cases h0 : a ≤ x
  · by_cases h1 : x ≤ b
    · go_enter Tryd.func91, Tryd.ntmps91
      go_wp2
      go_ret
      exact ⟨ret_bool (by simp [h0, h1]), rfl⟩
    · go_enter Tryd.func91, Tryd.ntmps91
      go_wp2
      go_ret
      exact ⟨ret_bool (by simp; omega), rfl⟩
  · go_enter Tryd.func91, Tryd.ntmps91
    go_wp2
    go_ret
    exact ⟨ret_bool (by simp; omega), rfl⟩
theorem l1In_yes (x a b : Int) (w : World) (h : a ≤ x ∧ x ≤ b) : Calls Tryd.prog 91 #[.int .i64 x, .int .i64 a, .int .i64 b] w fun e w' => e = .returned (.bool true) ∧ w = w' := by
  have c := l1In_any x a b w
  rwa [decide_eq_true h] at c
theorem l1In_no (x a b : Int) (w : World) (h : ¬ (a ≤ x ∧ x ≤ b)) : Calls Tryd.prog 91 #[.int .i64 x, .int .i64 a, .int .i64 b] w fun e w' => e = .returned (.bool false) ∧ w = w' := by
  have c := l1In_any x a b w
  rwa [decide_eq_false h] at c

end Go.Proofs.YtcijmhhajbgknaaDoor
