/- The laws' size helper over formulas: a contract, for every formula whose names and lists are no longer than any string and slice are. -/
import Derived.Test.YtppmiedhoimgmaaSz
import Derived.Test.YtppmiedhoimgmaaFmW
namespace Go.Proofs.Ytppmiedhoimgmaa
open Go.RowKit
set_option linter.unusedVariables false

def SzFm (t : Fm) : Prop := ∀ (w : World) (va vp : Value) (left : Int), TmS w va t.atom.args → FmS w vp t.parts → t.lim 9223372036854775807 → 0 ≤ left → left ≤ 1048576 →
  Calls Try.prog 33 #[.agg #[.int .i64 t.op, .string t.atom.name, va, .string t.var, vp], .int .i64 left] w fun e w' => e = .returned (.int .i64 (szR left t.wt)) ∧ Below w.heap.size w w'

def SzFs (l : List Fm) : Prop := ∀ (w : World) (v : Value) (left : Int), FmS w v l → l.length ≤ 9223372036854775807 → Fm.limL 9223372036854775807 l → 0 ≤ left → left ≤ 1048576 →
  Calls Try.prog 83 #[v, .int .i64 left] w fun e w' => e = .returned (.int .i64 (szR left (l.length + sumG Fm.wt l))) ∧ Below w.heap.size w w'

set_option maxHeartbeats 400000 in
theorem szFormula_of (t : Fm) (h : SzFs t.parts) : SzFm t := by
  intro w va vp left hv hp hlim h0 h1
  obtain ⟨ha, hz, hl, hs⟩ := Fm.lim_eq.1 hlim
  have HL := Lib.hid (Fm.limL_mem.2 hs)
  have HA := Lib.hid ha
  have HV := Lib.hid hv
  have HP := Lib.hid hp
  have H := Lib.hid h
  have HW := Lib.hid t.wt_eq
  have HX := Lib.hid (fivB_new w (.int .i64 t.op) (.string t.atom.name) va (.string t.var) vp 63 _ rfl)
  have HB := Lib.hid ((Below.refl w.heap.size w).alloc (Nat.le_refl _) (.cells #[.int .i64 t.op, .string t.atom.name, va, .string t.var, vp] 63))
  clear hv hp hs hlim h ha
  go_enter Try.func33, Try.ntmps33
  go_wp2_with fail
  refine (szTerm_any t.atom _ _ left (HV.out.alloc _) HA.out h0 h1).mono ?_
  rintro e w1 ⟨rfl, hb⟩
  have HB1 := Lib.hid (carry_below HB.out (Nat.le_refl _) hb)
  have HX1 := Lib.hid (HX.out.kept hb)
  obtain ⟨a0, a1, a2, a3, a4, a5⟩ := HX.out.kept hb
  clear hb
  rcases szR_cases left t.atom.wt with ⟨c1, c2⟩ | ⟨c1, c2⟩
  · rw [c2]
    have HE : Hid (szR left t.wt = -1) := Lib.hid (szR_low (by have := HW.out; omega))
    clear c2
    go_wp2
    go_ret
    exact ⟨ret_int (by have := HE.out; omega), HB1.out⟩
  · rw [c2]
    clear c2
    by_cases hneg : left - t.atom.wt - t.var.size < 0
    · have HE : Hid (szR left t.wt = -1) := Lib.hid (szR_low (by have := HW.out; omega))
      go_wp2
      go_ret
      exact ⟨ret_int (by have := HE.out; omega), HB1.out⟩
    · go_wp2_with fail
      refine (H.out _ vp (left - t.atom.wt - t.var.size) (HP.out.kept HB1.out) hl HL.out (by omega) (by omega)).mono ?_
      rintro e w2 ⟨rfl, hb⟩
      have HB2 := Lib.hid (carry_below HB1.out (Nat.le_refl _) hb)
      clear hb
      rcases szR_cases (left - t.atom.wt - t.var.size) (t.parts.length + sumG Fm.wt t.parts) with ⟨d1, d2⟩ | ⟨d1, d2⟩
      · rw [d2]
        have HE : Hid (szR left t.wt = -1) := Lib.hid (szR_low (by have := HW.out; omega))
        clear d2
        go_wp2
        go_ret
        exact ⟨ret_int (by have := HE.out; omega), HB2.out⟩
      · rw [d2]
        have HE : Hid (szR left t.wt = left - t.atom.wt - t.var.size - ((t.parts.length + sumG Fm.wt t.parts : Nat) : Int)) := Lib.hid (by rw [szR_ok (by have := HW.out; omega)]; have := HW.out; omega)
        clear d2
        go_wp2
        go_ret
        exact ⟨ret_int (by have := HE.out; omega), HB2.out⟩

set_option maxHeartbeats 400000 in
theorem szFormulaS_of (l : List Fm) (h : ∀ t ∈ l, SzFm t) : SzFs l := by
  intro w v left hv hn hlim h0 h1
  have H := Lib.hid h
  have HL := Lib.hid (Fm.limL_mem.1 hlim)
  clear h hlim
  rcases hv.partsOf with ⟨a, c, rfl, rfl⟩ | ⟨b, off, c, rfl, hp, hat⟩
  · have HE : Hid (szR left (([] : List Fm).length + sumG Fm.wt []) = left) := Lib.hid (by rw [szR_ok] <;> simp [sumG]; omega)
    clear hv
    go_enter Try.func83, Try.ntmps83
    go_wp2
    refine wp_loop_rounds 1 ?_
    rw [rounds_succ]
    go_wp2
    go_ret
    exact ⟨ret_int HE.out.symm, Below.refl _ _⟩
  · have HA := Lib.hid hat
    clear hat hv
    by_cases hneg : left - l.length < 0
    · have HE : Hid (szR left (l.length + sumG Fm.wt l) = -1) := Lib.hid (szR_low (by omega))
      go_enter Try.func83, Try.ntmps83
      go_wp2
      go_ret
      exact ⟨ret_int (by have := HE.out; omega), Below.refl _ _⟩
    · go_enter Try.func83, Try.ntmps83
      go_wp2
      go_loopw [1, 5] (fun lv i wr => ∃ (k : Nat) (r : Int), k ≤ l.length ∧ i = .int .i64 k ∧ 0 ≤ r ∧ r ≤ 1048576 ∧ r + sumG Fm.wt (l.take k) = left - l.length ∧ lv = .int .i64 r ∧ Below w.heap.size w wr) (fun _ i _ => l.length - (intOf i).toNat)
      case atStart => exact ⟨0, _, Nat.zero_le _, rfl, by omega, by omega, by simp [sumG], rfl, Below.refl _ _⟩
      case round =>
        obtain ⟨k, r, hk, rfl, hr0, hr1, hsum, rfl, hb⟩ := hrel
        have HB := Lib.hid hb
        have HS := Lib.hid hsum
        clear hb hsum
        by_cases hlt : k < l.length
        · obtain ⟨t, ht⟩ : ∃ t, l[k]? = some t := ⟨_, List.getElem?_eq_getElem hlt⟩
          obtain ⟨va, vp, hc, hva, hvp⟩ := HA.out k t ht
          obtain ⟨x0, x1, x2, x3, x4⟩ := hc.kept HB.out
          have HV := Lib.hid (hva.kept HB.out)
          have HP := Lib.hid (hvp.kept HB.out)
          have HM := Lib.hid (sumG_next (f := Fm.wt) ht)
          have HM2 := Lib.hid (sumG_take Fm.wt l (k + 1))
          have HT := Lib.hid (mem_of_at ht)
          clear ht hc hva hvp
          go_wp2_with fail
          refine (H.out t HT.out _ va vp r HV.out HP.out (HL.out t HT.out) hr0 hr1).mono ?_
          rintro e w' ⟨rfl, hb⟩
          have HB2 := Lib.hid (carry_below HB.out (Nat.le_refl _) hb)
          clear hb
          rcases szR_cases r t.wt with ⟨c1, c2⟩ | ⟨c1, c2⟩
          · rw [c2]
            have HE : Hid (szR left (l.length + sumG Fm.wt l) = -1) := Lib.hid (szR_low (by have := HM.out; have := HM2.out; have := HS.out; omega))
            clear c2
            go_wp2
            go_ret
            exact ⟨ret_int (by have := HE.out; omega), HB2.out⟩
          · rw [c2]
            clear c2
            go_wp2
            go_roundw
            case rel => exact ⟨k + 1, _, by omega, by go_num, by omega, by omega, by have := HM.out; have := HS.out; omega, rfl, HB2.out⟩
            case measure => simp [intOf]; omega
        · have HE : Hid (szR left (l.length + sumG Fm.wt l) = r) := Lib.hid (by
            have e := HS.out
            rw [sumG_all (by omega)] at e
            rw [szR_ok (by omega)]; omega)
          go_wp2
          go_ret
          exact ⟨ret_int (by have := HE.out; omega), HB.out⟩

theorem szFormula_any (t : Fm) : SzFm t := Fm.ind (P := SzFm) (fun t ih => szFormula_of t (szFormulaS_of t.parts ih)) t

theorem szFmV_any (t : Fm) (w : World) (va vp : Value) (left : Int) (h : FmV w va vp t) (hl : t.lim 9223372036854775807) (h0 : 0 ≤ left) (h1 : left ≤ 1048576) :
    Calls Try.prog 33 #[.agg #[.int .i64 t.op, .string t.atom.name, va, .string t.var, vp], .int .i64 left] w fun e w' => e = .returned (.int .i64 (szR left t.wt)) ∧ Below w.heap.size w w' :=
  szFormula_any t w va vp left h.1 h.2 hl h0 h1

end Go.Proofs.Ytppmiedhoimgmaa
