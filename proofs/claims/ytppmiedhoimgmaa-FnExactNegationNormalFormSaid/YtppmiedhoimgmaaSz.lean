/- The laws' size helper over terms: a contract, for every term whose names and lists are no longer than any string and slice are. -/
import Derived.Test.YtppmiedhoimgmaaTmW
namespace Go.Proofs.Ytppmiedhoimgmaa
open Go.RowKit
set_option linter.unusedVariables false

/-- What the size helper answers: what is left, or -1. -/
def szR (left : Int) (x : Nat) : Int := if left < x then -1 else left - x

theorem szR_low {left : Int} {x : Nat} (h : left < x) : szR left x = -1 := by unfold szR; rw [if_pos h]
theorem szR_ok {left : Int} {x : Nat} (h : (x : Int) ≤ left) : szR left x = left - x := by unfold szR; rw [if_neg (by omega)]

def SzT (t : Tm) : Prop := ∀ (w : World) (va : Value) (left : Int), TmS w va t.args → t.lim 9223372036854775807 → 0 ≤ left → left ≤ 1048576 →
  Calls Try.prog 34 #[.agg #[.string t.name, va], .int .i64 left] w fun e w' => e = .returned (.int .i64 (szR left t.wt)) ∧ Below w.heap.size w w'

def SzL (l : List Tm) : Prop := ∀ (w : World) (v : Value) (left : Int), TmS w v l → l.length ≤ 9223372036854775807 → Tm.limL 9223372036854775807 l → 0 ≤ left → left ≤ 1048576 →
  Calls Try.prog 84 #[v, .int .i64 left] w fun e w' => e = .returned (.int .i64 (szR left (l.length + sumL Tm.wt l))) ∧ Below w.heap.size w w'

theorem szR_cases (left : Int) (x : Nat) : (left < x ∧ szR left x = -1) ∨ ((x : Int) ≤ left ∧ szR left x = left - x) := by
  by_cases h : left < x
  · exact .inl ⟨h, szR_low h⟩
  · exact .inr ⟨by omega, szR_ok (by omega)⟩

set_option maxHeartbeats 400000 in
theorem szTerm_of (t : Tm) (h : SzL t.args) : SzT t := by
  intro w va left hv hlim h0 h1
  obtain ⟨hz, hl, hs⟩ := Tm.lim_eq.1 hlim
  have HL : Hid (Tm.limL 9223372036854775807 t.args) := Lib.hid (Tm.limL_mem.2 hs)
  have HV : Hid (TmS w va t.args) := Lib.hid hv
  have H : Hid (SzL t.args) := Lib.hid h
  have HW := Lib.hid t.wt_eq
  clear hv hs hlim h
  by_cases hneg : left - t.name.size < 0
  · have HE : Hid (szR left t.wt = -1) := Lib.hid (szR_low (by have := HW.out; omega))
    go_enter Try.func34, Try.ntmps34
    go_wp2_with fail
    go_ret
    exact ⟨ret_int (by have := HE.out; omega), (Below.refl _ _).alloc (Nat.le_refl _) _⟩
  · go_enter Try.func34, Try.ntmps34
    go_wp2_with fail
    refine (H.out _ va (left - t.name.size) (HV.out.alloc _) hl HL.out (by omega) (by omega)).mono ?_
    rintro e w' ⟨rfl, hb⟩
    have HB : Hid (Below w.heap.size w w') := Lib.hid (carry_below ((Below.refl _ _).alloc (Nat.le_refl _) _) (Nat.le_refl _) hb)
    have hcell : w'.cell? ⟨w.heap.size, 1, none⟩ = (w.alloc (Obj.cells #[Value.string t.name, va] 60)).cell? ⟨w.heap.size, 1, none⟩ := hb.cell (by simp)
    clear hb
    rcases szR_cases (left - t.name.size) (t.args.length + sumL Tm.wt t.args) with ⟨c1, c2⟩ | ⟨c1, c2⟩
    · rw [c2]
      have HE : Hid (szR left t.wt = -1) := Lib.hid (szR_low (by have := HW.out; omega))
      clear c2
      go_wp2
      go_ret
      exact ⟨ret_int (by have := HE.out; omega), HB.out⟩
    · rw [c2]
      have HE : Hid (szR left t.wt = left - t.name.size - ((t.args.length + sumL Tm.wt t.args : Nat) : Int)) := Lib.hid (by rw [szR_ok (by have := HW.out; omega)]; have := HW.out; omega)
      clear c2
      go_wp2
      go_ret
      exact ⟨ret_int (by have := HE.out; omega), HB.out⟩

set_option maxHeartbeats 400000 in
theorem szTermS_of (l : List Tm) (h : ∀ t ∈ l, SzT t) : SzL l := by
  intro w v left hv hn hlim h0 h1
  have H : Hid (∀ t ∈ l, SzT t) := Lib.hid h
  have HL : Hid (∀ t ∈ l, t.lim 9223372036854775807) := Lib.hid (Tm.limL_mem.1 hlim)
  clear h hlim
  rcases hv.parts with ⟨a, c, rfl, rfl⟩ | ⟨b, off, c, rfl, hp, hat⟩
  · have HE : Hid (szR left (([] : List Tm).length + sumL Tm.wt []) = left) := Lib.hid (by rw [szR_ok] <;> simp [sumL]; omega)
    clear hv
    go_enter Try.func84, Try.ntmps84
    go_wp2
    refine wp_loop_rounds 1 ?_
    rw [rounds_succ]
    go_wp2
    go_ret
    exact ⟨ret_int HE.out.symm, Below.refl _ _⟩
  · have HA : Hid (∀ k t, l[k]? = some t → TmAt w b off k t) := Lib.hid hat
    clear hat hv
    by_cases hneg : left - l.length < 0
    · have HE : Hid (szR left (l.length + sumL Tm.wt l) = -1) := Lib.hid (szR_low (by omega))
      go_enter Try.func84, Try.ntmps84
      go_wp2
      go_ret
      exact ⟨ret_int (by have := HE.out; omega), Below.refl _ _⟩
    · go_enter Try.func84, Try.ntmps84
      go_wp2
      go_loopw [1, 5] (fun lv i wr => ∃ (k : Nat) (r : Int), k ≤ l.length ∧ i = .int .i64 k ∧ 0 ≤ r ∧ r ≤ 1048576 ∧ r + sumL Tm.wt (l.take k) = left - l.length ∧ lv = .int .i64 r ∧ Below w.heap.size w wr) (fun _ i _ => l.length - (intOf i).toNat)
      case atStart => exact ⟨0, _, Nat.zero_le _, rfl, by omega, by omega, by simp [sumL], rfl, Below.refl _ _⟩
      case round =>
        obtain ⟨k, r, hk, rfl, hr0, hr1, hsum, rfl, hb⟩ := hrel
        have HB : Hid (Below w.heap.size w wr) := Lib.hid hb
        have HS : Hid (r + sumL Tm.wt (l.take k) = left - l.length) := Lib.hid hsum
        clear hb hsum
        by_cases hlt : k < l.length
        · obtain ⟨t, ht⟩ : ∃ t, l[k]? = some t := ⟨_, List.getElem?_eq_getElem hlt⟩
          obtain ⟨va, hc0, hc1, hva⟩ := HA.out k t ht
          have hc0' := carry_cell hc0 (by exact HB.out)
          have hc1' := carry_cell hc1 (by exact HB.out)
          have HV : Hid (TmS wr va t.args) := Lib.hid (hva.kept HB.out)
          have HM : Hid (sumL Tm.wt (l.take (k + 1)) = sumL Tm.wt (l.take k) + t.wt) := Lib.hid (sumL_next ht)
          have HM2 : Hid (sumL Tm.wt (l.take (k + 1)) ≤ sumL Tm.wt l) := Lib.hid (sumL_take _ _ _)
          have HT : Hid (t ∈ l) := Lib.hid (mem_of_at ht)
          clear ht hc0 hc1 hva
          go_wp2_with fail
          refine (H.out t HT.out _ va r HV.out (HL.out t HT.out) hr0 hr1).mono ?_
          rintro e w' ⟨rfl, hb⟩
          have HB2 : Hid (Below w.heap.size w w') := Lib.hid (carry_below HB.out (Nat.le_refl _) hb)
          clear hb
          rcases szR_cases r t.wt with ⟨c1, c2⟩ | ⟨c1, c2⟩
          · rw [c2]
            have HE : Hid (szR left (l.length + sumL Tm.wt l) = -1) := Lib.hid (szR_low (by have := HM.out; have := HM2.out; have := HS.out; omega))
            clear c2
            go_wp2
            go_ret
            exact ⟨ret_int (by have := HE.out; omega), HB2.out⟩
          · rw [c2]
            clear c2
            go_wp2
            go_roundw
            case rel => exact ⟨k + 1, _, by omega, by go_num, by omega, by omega, by have := HM.out; have := HS.out; omega, rfl, HB2.out⟩
            case measure => simp [intOf]; omega
        · have HE : Hid (szR left (l.length + sumL Tm.wt l) = r) := Lib.hid (by
            have e := HS.out
            rw [sumL_all (by omega)] at e
            rw [szR_ok (by omega)]; omega)
          go_wp2
          go_ret
          exact ⟨ret_int (by have := HE.out; omega), HB.out⟩

theorem szTerm_any (t : Tm) : SzT t := Tm.ind (P := SzT) (fun t ih => szTerm_of t (szTermS_of t.args ih)) t

end Go.Proofs.Ytppmiedhoimgmaa
