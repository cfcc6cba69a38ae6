/- IsValidOrdering, the program's: a contract, for orderings of at most 1048576 names' bytes and elements. -/
import Derived.Test.YtnabjnlphelccaaOgS
namespace Go.Proofs.Ytnabjnlphelccaa
open Go.RowKit
set_option linter.unusedVariables false

theorem contains_same (a : Option Addr) (c : Nat) (ss : List ByteArray) (x : ByteArray) (w : World) (hv : StrG w a ss) (hn : ss.length ≤ 1048576) :
    Calls Try.prog 74 #[.slice a ss.length c, .string x] w fun e w' => e = .returned (.bool (Lib.containsS ss x)) ∧ w' = w := by
  by_cases h0 : ss.length = 0
  · have e := List.length_eq_zero_iff.1 h0
    subst e
    exact Try.slices_Contains_string_empty a c x w
  · obtain ⟨b, off, rfl, _⟩ := hv 0 _ (List.getElem?_eq_getElem (by omega))
    have h := Try.slices_Contains_string b off ss.length c ss x w (Nat.le_refl _) (by omega) (fun i hi => by
      obtain ⟨b', off', e, hc⟩ := hv i _ (List.getElem?_eq_getElem hi)
      injection e with e
      injection e with e1 e2
      subst e1 e2
      rw [hc, getD_eq hi])
    rw [List.take_length] at h
    exact h

set_option maxHeartbeats 4000000 in
theorem implVOrd_any (o : Od) (w : World) (sv wv : Value) (hv : OdV w sv wv o) (hw : o.wt ≤ 1048576) :
    Calls Try.prog 31 #[.agg #[sv, wv, .int .i64 o.va]] w (Ans (.bool o.good) w) := by
  obtain ⟨sa, sc, wa, wc, rfl, rfl⟩ := hv.open
  have HV := Lib.hid hv
  have hsl : o.sy.length ≤ 1048576 := Nat.le_trans o.wt_sy hw
  have hwl : o.ws.length ≤ 1048576 := Nat.le_trans o.wt_ws hw
  have HST := Lib.hid (fun s (hs : s ∈ o.sy) => Nat.le_trans (Od.wt_str hs) hw)
  have HB := Lib.hid ((Below.refl w.heap.size w).alloc (Nat.le_refl _) (.cells #[.slice sa o.sy.length sc, .slice wa o.ws.length wc, .int .i64 o.va] 27))
  have H3 := Lib.hid (thr_new w (.slice sa o.sy.length sc) (.slice wa o.ws.length wc) (.int .i64 o.va) 27 _ rfl)
  obtain ⟨b0, b1, b2, b3⟩ := H3.out
  have HH : Hid (o.heads = (inB (o.sy.length : Int) 1 12 && decide (o.ws.length = o.sy.length) && inB o.va 1 100)) := Lib.hid rfl
  clear hv hw
  by_cases g1 : o.sy.length < 1
  · have HE : Hid (o.good = false) := Lib.hid (Od.good_head (by rw [HH.out, inB_no (by omega)]; rfl))
    clear HH
    go_enter Try.func31, Try.ntmps31
    go_wp2
    go_ret
    exact ⟨ret_bool HE.out.symm, HB.out⟩
  by_cases g2 : 12 < o.sy.length
  · have HE : Hid (o.good = false) := Lib.hid (Od.good_head (by rw [HH.out, inB_no (by omega)]; rfl))
    clear HH
    go_enter Try.func31, Try.ntmps31
    go_wp2
    go_ret
    exact ⟨ret_bool HE.out.symm, HB.out⟩
  by_cases g3 : o.ws.length = o.sy.length
  case neg =>
    have g3' : ((o.ws.length : Int) != (o.sy.length : Int)) = true := int_ne (by omega)
    have HE : Hid (o.good = false) := Lib.hid (Od.good_head (by rw [HH.out, decide_eq_false g3, Bool.and_false, Bool.false_and]))
    clear HH g3
    go_enter Try.func31, Try.ntmps31
    go_wp2
    go_ret
    exact ⟨ret_bool HE.out.symm, HB.out⟩
  have g3' : ((o.ws.length : Int) != (o.sy.length : Int)) = false := int_eq (by omega)
  by_cases g4 : o.va < 1
  · have HE : Hid (o.good = false) := Lib.hid (Od.good_head (by rw [HH.out, inB_no (x := o.va) (by omega), Bool.and_false]))
    clear HH g3
    go_enter Try.func31, Try.ntmps31
    go_wp2
    go_ret
    exact ⟨ret_bool HE.out.symm, HB.out⟩
  by_cases g5 : 100 < o.va
  · have HE : Hid (o.good = false) := Lib.hid (Od.good_head (by rw [HH.out, inB_no (x := o.va) (by omega), Bool.and_false]))
    clear HH g3
    go_enter Try.func31, Try.ntmps31
    go_wp2
    go_ret
    exact ⟨ret_bool HE.out.symm, HB.out⟩
  have HHD : Hid (o.heads = true) := Lib.hid (by rw [HH.out, inB_yes (by omega), decide_eq_true g3, inB_yes (by omega)]; rfl)
  have HG3 := Lib.hid g3
  clear HH g3
  go_enter Try.func31, Try.ntmps31
  go_wp2
  clear g3'
  go_loopw [3, 4, 35] (fun i3 i4 i wr => ∃ k : Nat, k ≤ o.sy.length ∧ i = .int .i64 k ∧ (∀ j, j < k → o.step j = true) ∧ Thr wr w.heap.size (.slice sa o.sy.length sc) (.slice wa o.ws.length wc) (.int .i64 o.va) ∧ Below w.heap.size w wr) (fun _ _ i _ => o.sy.length - (intOf i).toNat)
  case atStart => exact ⟨0, Nat.zero_le _, rfl, fun j hj => absurd hj (Nat.not_lt_zero _), H3.out, HB.out⟩
  case round =>
    obtain ⟨k, hk, rfl, hq, h3, hb⟩ := hrel
    have HQ := Lib.hid hq
    have HR3 := Lib.hid h3
    have HBR := Lib.hid hb
    clear hq b0 b1 b2 b3
    obtain ⟨b0, b1, b2, b3⟩ := h3
    by_cases hlt : k < o.sy.length
    · obtain ⟨s, hs⟩ : ∃ s, o.sy[k]? = some s := ⟨_, List.getElem?_eq_getElem hlt⟩
      obtain ⟨x, hx⟩ : ∃ x, o.ws[k]? = some x := ⟨_, List.getElem?_eq_getElem (by have := HG3.out; omega)⟩
      have HSG := Lib.hid ((StrG.of HV.out.st).below hb)
      obtain ⟨sb, so, rfl, hc⟩ := HSG.out k s hs
      obtain ⟨wb, wo, rfl, hd⟩ := (IntG.of HV.out.is).below hb k x hx
      have hsz : s.size ≤ maxLen := by have := HST.out s (mem_of_at hs); unfold maxLen; omega
      have HSE := Lib.hid (Od.step_eq hs hx)
      have CS := Lib.hid (isSym_any s wr hsz)
      have hlk : (o.sy.take k).length = k := by rw [List.length_take]; omega
      have CN := Lib.hid (contains_same (some ⟨sb, so, none⟩) sc (o.sy.take k) s wr (fun j y hj => HSG.out j y (by
        rw [List.getElem?_take] at hj; split at hj; exact hj; cases hj)) (by rw [List.length_take]; omega))
      rw [hlk] at CN
      have hwk : k < o.ws.length := by have := HG3.out; omega
      have hkc : k ≤ sc := by have := HV.out.cp _ _ _ rfl; omega
      clear hb hs hx hlk
      cases e1 : symB s with
      | false =>
        rw [e1] at CS
        have HE : Hid (o.good = false) := Lib.hid (Od.good_no hlt (by rw [HSE.out, e1]; rfl))
        clear e1
        go_wp2_with fail
        refine CS.out.mono ?_
        rintro e w1 ⟨rfl, rfl⟩
        go_wp2
        go_ret
        exact ⟨ret_bool HE.out.symm, HBR.out⟩
      | true =>
        rw [e1] at CS
        have HE1 := Lib.hid e1
        clear e1
        go_wp2_with fail
        refine CS.out.mono ?_
        rintro e w1 ⟨rfl, rfl⟩
        cases e2 : Lib.containsS (o.sy.take k) s with
        | true =>
          rw [e2] at CN
          have HE : Hid (o.good = false) := Lib.hid (Od.good_no hlt (by rw [HSE.out, e2]; simp))
          clear e2
          go_wp2_with fail
          refine CN.out.mono ?_
          rintro e w1 ⟨rfl, rfl⟩
          go_wp2
          go_ret
          exact ⟨ret_bool HE.out.symm, HBR.out⟩
        | false =>
          rw [e2] at CN
          have HE2 := Lib.hid e2
          clear e2
          go_wp2_with fail
          refine CN.out.mono ?_
          rintro e w1 ⟨rfl, rfl⟩
          clear CS CN
          by_cases e3 : o.va ≤ x ∧ x ≤ 100
          · have HN : Hid (∀ j, j < k + 1 → o.step j = true) := Lib.hid (fun j hj => by
              by_cases e : j = k
              · rw [e, HSE.out, HE1.out, HE2.out, inB_yes e3]; rfl
              · exact HQ.out j (by omega))
            obtain ⟨e31, e32⟩ := e3
            have f1 : decide (x < o.va) = false := decide_eq_false (by omega)
            have f2 : ¬ 100 < x := by omega
            clear e31
            go_wp2
            go_quiet (fail)
            have HB2 : Hid (Below w.heap.size w (w1.drewN nq)) := Lib.hid (⟨HBR.out.os, HBR.out.tape, HBR.out.output, HBR.out.size, HBR.out.block⟩)
            have HR32 : Hid (Thr (w1.drewN nq) w.heap.size (.slice (some ⟨sb, so, none⟩) o.sy.length sc) (.slice (some ⟨wb, wo, none⟩) o.ws.length wc) (.int .i64 o.va)) := Lib.hid (HR3.out.kept ⟨rfl, rfl, rfl, Nat.le_refl _, fun _ _ => rfl⟩)
            go_wp2
            go_roundw
            case rel => exact ⟨k + 1, by omega, by go_num, HN.out, HR32.out, HB2.out⟩
            case measure => simp [intOf]; omega
          · have HE : Hid (o.good = false) := Lib.hid (Od.good_no hlt (by rw [HSE.out, inB_no e3, Bool.and_false]))
            by_cases f0 : x < o.va
            · have f1 : decide (x < o.va) = true := decide_eq_true f0
              clear e3
              go_wp2
              go_quiet (fail)
              have HB2 : Hid (Below w.heap.size w (w1.drewN nq)) := Lib.hid (⟨HBR.out.os, HBR.out.tape, HBR.out.output, HBR.out.size, HBR.out.block⟩)
              go_wp2
              go_ret
              exact ⟨ret_bool HE.out.symm, HB2.out⟩
            · have f1 : decide (x < o.va) = false := decide_eq_false f0
              have f2 : 100 < x := by omega
              clear e3
              go_wp2
              go_quiet (fail)
              have HB2 : Hid (Below w.heap.size w (w1.drewN nq)) := Lib.hid (⟨HBR.out.os, HBR.out.tape, HBR.out.output, HBR.out.size, HBR.out.block⟩)
              go_wp2
              go_ret
              exact ⟨ret_bool HE.out.symm, HB2.out⟩
    · have HE : Hid (o.good = true) := Lib.hid (Od.good_steps HHD.out (fun i hi => HQ.out i (by omega)))
      go_wp2
      go_ret
      exact ⟨ret_bool HE.out.symm, HBR.out⟩

end Go.Proofs.Ytnabjnlphelccaa
