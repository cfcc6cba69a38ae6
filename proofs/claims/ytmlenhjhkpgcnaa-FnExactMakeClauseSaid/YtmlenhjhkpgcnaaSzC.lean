/- The laws' size helper over substitutions: contracts, for every list of bindings whose names and lists are no longer than any string and slice are. -/
import Derived.Test.YtmlenhjhkpgcnaaLt
import Derived.Test.YtmlenhjhkpgcnaaLit
namespace Go.Proofs.Ytmlenhjhkpgcnaa
open Go.RowKit
set_option linter.unusedVariables false

set_option maxHeartbeats 400000 in
theorem szLiteralS_any (l : List Lt) (w : World) (v : Value) (left : Int) (hv : LtS w v l) (hlim : limC 9223372036854775807 l) (h0 : 0 ≤ left) (h1 : left ≤ 1048576) :
    Calls Try.prog 26 #[v, .int .i64 left] w fun e w' => e = .returned (.int .i64 (szR left (wtC l))) ∧ Below w.heap.size w w' := by
  have hn := hlim.1
  have HL := Lib.hid hlim.2
  have HW : Hid (wtC l = l.length + sumC Lt.wt l) := Lib.hid rfl
  clear hlim
  rcases hv with ⟨a, c, rfl, rfl⟩ | ⟨b, off, c, rfl, hp, hat⟩
  · have HE : Hid (szR left (wtC []) = left) := Lib.hid (by rw [szR_ok] <;> simp [wtC, sumC]; omega)
    go_enter Try.func26, Try.ntmps26
    go_wp2
    refine wp_loop_rounds 1 ?_
    rw [rounds_succ]
    go_wp2
    go_ret
    exact ⟨ret_int HE.out.symm, Below.refl _ _⟩
  · have HA := Lib.hid hat
    clear hat
    by_cases hneg : left - l.length < 0
    · have HE : Hid (szR left (wtC l) = -1) := Lib.hid (szR_low (by have := HW.out; omega))
      go_enter Try.func26, Try.ntmps26
      go_wp2
      go_ret
      exact ⟨ret_int (by have := HE.out; omega), Below.refl _ _⟩
    · go_enter Try.func26, Try.ntmps26
      go_wp2
      go_loopw [1, 5] (fun lv i wr => ∃ (k : Nat) (r : Int), k ≤ l.length ∧ i = .int .i64 k ∧ 0 ≤ r ∧ r ≤ 1048576 ∧ r + sumC Lt.wt (l.take k) = left - l.length ∧ lv = .int .i64 r ∧ Below w.heap.size w wr) (fun _ i _ => l.length - (intOf i).toNat)
      case atStart => exact ⟨0, _, Nat.zero_le _, rfl, by omega, by omega, by simp [sumC], rfl, Below.refl _ _⟩
      case round =>
        obtain ⟨k, r, hk, rfl, hr0, hr1, hsum, rfl, hb⟩ := hrel
        have HB := Lib.hid hb
        have HS := Lib.hid hsum
        clear hb hsum
        by_cases hlt : k < l.length
        · obtain ⟨t, ht⟩ : ∃ t, l[k]? = some t := ⟨_, List.getElem?_eq_getElem hlt⟩
          obtain ⟨va, hc0, hc1, hc2, hva⟩ := HA.out k t ht
          have hc0' := carry_cell hc0 (by exact HB.out)
          have hc1' := carry_cell hc1 (by exact HB.out)
          have hc2' := carry_cell hc2 (by exact HB.out)
          have HV := Lib.hid (hva.kept HB.out)
          have HM := Lib.hid (sumC_next (f := Lt.wt) ht)
          have HM2 := Lib.hid (sumC_take Lt.wt l (k + 1))
          have HT := Lib.hid (mem_of_at ht)
          clear ht hc0 hc1 hc2 hva
          go_wp2_with fail
          refine (szLiteral_any t.var t.tm _ va r HV.out (HL.out t HT.out) hr0 hr1).mono ?_
          rintro e w' ⟨rfl, hb⟩
          have HB2 := Lib.hid (carry_below HB.out (Nat.le_refl _) hb)
          clear hb
          rw [show Tm.wt t.tm = Lt.wt t from rfl]
          rcases szR_cases r t.wt with ⟨c1, c2⟩ | ⟨c1, c2⟩
          · rw [c2]
            have HE : Hid (szR left (wtC l) = -1) := Lib.hid (szR_low (by have := HM.out; have := HM2.out; have := HS.out; have := HW.out; omega))
            clear c2
            go_wp2
            go_ret
            exact ⟨ret_int (by have := HE.out; omega), HB2.out⟩
          · rw [c2]
            clear c2
            go_wp2
            go_roundw
            case rel => exact ⟨k + 1, _, by omega, by go_num, by omega, by omega, by have := HM.out; have := HS.out; omega, rfl, HB2.out⟩
            case measure => simp [intOf]; omega
        · have HE : Hid (szR left (wtC l) = r) := Lib.hid (by
            have e := HS.out
            rw [sumC_all (by omega)] at e
            rw [szR_ok (by have := HW.out; omega)]; have := HW.out; omega)
          go_wp2
          go_ret
          exact ⟨ret_int (by have := HE.out; omega), HB.out⟩

set_option maxHeartbeats 400000 in
theorem szClause_any (l : List Lt) (w : World) (v : Value) (left : Int) (hv : LtS w v l) (hlim : limC 9223372036854775807 l) (h0 : 0 ≤ left) (h1 : left ≤ 1048576) :
    Calls Try.prog 19 #[.agg #[v], .int .i64 left] w fun e w' => e = .returned (.int .i64 (szR left (wtC l))) ∧ Below w.heap.size w w' := by
  obtain ⟨pa, ca, rfl⟩ := hv.is_slice
  have HV := Lib.hid hv
  have HL := Lib.hid hlim
  have HB := Lib.hid ((Below.refl w.heap.size w).alloc (Nat.le_refl _) (.cells #[.slice pa l.length ca] 39))
  clear hv hlim
  go_enter Try.func19, Try.ntmps19
  go_wp2_with fail
  refine (szLiteralS_any l _ _ left (HV.out.kept HB.out) HL.out h0 h1).mono ?_
  rintro e w1 ⟨rfl, hb⟩
  have HB1 := Lib.hid (carry_below HB.out (Nat.le_refl _) hb)
  clear hb
  rcases szR_cases left (wtC l) with ⟨c1, c2⟩ | ⟨c1, c2⟩
  · have HC := Lib.hid c2
    rw [c2]
    clear c2
    go_wp2
    go_ret
    exact ⟨ret_int HC.out.symm, HB1.out⟩
  · have HC := Lib.hid c2
    rw [c2]
    clear c2
    have hn : ¬ left - (wtC l : Int) < 0 := by omega
    go_wp2
    go_ret
    exact ⟨ret_int HC.out.symm, HB1.out⟩

end Go.Proofs.Ytmlenhjhkpgcnaa
