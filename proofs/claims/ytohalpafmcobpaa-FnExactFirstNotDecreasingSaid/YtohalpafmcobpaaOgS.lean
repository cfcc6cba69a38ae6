/- Orderings, the model's side: validity, rank, covered terms, weight: contracts, for orderings and terms of at most 1048576 names' bytes and elements. -/
import Derived.Test.YtohalpafmcobpaaOgM
import Derived.Test.YtohalpafmcobpaaSizes
import Derived.Test.YtohalpafmcobpaaCnt
namespace Go.Proofs.Ytohalpafmcobpaa
open Go.RowKit
set_option linter.unusedVariables false

theorem Od.wt_sy (o : Od) : o.sy.length ≤ o.wt := by unfold Od.wt; omega
theorem Od.wt_ws (o : Od) : o.ws.length ≤ o.wt := by unfold Od.wt; omega
theorem Od.wt_str {o : Od} {s : ByteArray} (h : s ∈ o.sy) : s.size ≤ o.wt := by have := sumS_mem h; unfold Od.wt; omega

theorem getD_at {l : List ByteArray} {k : Nat} {s : ByteArray} (h : l[k]? = some s) : l.getD k ByteArray.empty = s := by rw [List.getD_eq_getElem?_getD, h]; rfl
theorem getD_atI {l : List Int} {k : Nat} {s : Int} (h : l[k]? = some s) : l.getD k 0 = s := by rw [List.getD_eq_getElem?_getD, h]; rfl
theorem Od.step_eq {o : Od} {k : Nat} {s : ByteArray} {x : Int} (h : o.sy[k]? = some s) (h' : o.ws[k]? = some x) : o.step k = (symB s && !Lib.containsS (o.sy.take k) s && inB x o.va 100) := by
  unfold Od.step; rw [getD_at h, getD_atI h']

theorem str_eqO {s x : ByteArray} (h : s = x) : (s.toList == x.toList) = true := by rw [h]; simp
theorem str_neO {s x : ByteArray} (h : s ≠ x) : (s.toList == x.toList) = false := by
  rw [beq_eq_false_iff_ne]; intro e; exact h (toList_inj e)
theorem contains_yes {ss : List ByteArray} {x : ByteArray} {k : Nat} (h : ss[k]? = some x) : Lib.containsS ss x = true := (Lib.containsS_iff _ _).2 (List.mem_of_getElem? h)
theorem contains_no {ss : List ByteArray} {x : ByteArray} (h : ∀ j, j < ss.length → ss[j]? ≠ some x) : Lib.containsS ss x = false := by
  rw [← Bool.not_eq_true, Lib.containsS_iff]
  intro hm
  obtain ⟨j, hj⟩ := List.mem_iff_getElem?.1 hm
  exact h j (List.getElem?_eq_some_iff.1 hj).1 hj

set_option maxHeartbeats 1000000 in
theorem l2In_same (a : Option Addr) (c : Nat) (ss : List ByteArray) (x : ByteArray) (w : World) (hv : StrG w a ss) (hn : ss.length ≤ 1048576) :
    Calls Try.prog 77 #[.slice a ss.length c, .string x] w fun e w' => e = .returned (.bool (Lib.containsS ss x)) ∧ w = w' := by
  have HV := Lib.hid hv
  clear hv
  go_enter Try.func77, Try.ntmps77
  go_wp2
  go_loop [5] (fun i => ∃ k : Nat, k ≤ ss.length ∧ i = .int .i64 k ∧ (∀ j, j < k → ss[j]? ≠ some x)) (fun i => ss.length - (intOf i).toNat)
  case atStart => exact ⟨0, Nat.zero_le _, rfl, fun j hj => absurd hj (Nat.not_lt_zero _)⟩
  case round =>
    obtain ⟨k, hk, rfl, hq⟩ := hrel
    have HQ := Lib.hid hq
    clear hq
    by_cases hlt : k < ss.length
    · obtain ⟨s, hs⟩ : ∃ s, ss[k]? = some s := ⟨_, List.getElem?_eq_getElem hlt⟩
      obtain ⟨b, off, rfl, hc⟩ := HV.out k s hs
      have HS := Lib.hid hs
      clear hs
      by_cases he : s = x
      · have hq : (s.toList == x.toList) = true := str_eqO he
        have HF : Hid (Lib.containsS ss x = true) := Lib.hid (contains_yes (by rw [HS.out, he]))
        clear he
        go_wp2
        go_ret
        exact ⟨ret_bool HF.out.symm, rfl⟩
      · have hq : (s.toList == x.toList) = false := str_neO he
        have HF : Hid (∀ j, j < k + 1 → ss[j]? ≠ some x) := Lib.hid (fun j hj => by
          by_cases e : j = k
          · rw [e, HS.out]; intro h; injection h with h; exact he h
          · exact HQ.out j (by omega))
        clear he
        go_wp2
        go_round
        case rel => exact ⟨k + 1, by omega, by go_num, HF.out⟩
        case measure => simp [intOf]; omega
    · have HF : Hid (Lib.containsS ss x = false) := Lib.hid (contains_no (fun j hj => HQ.out j (by omega)))
      go_wp2
      go_ret
      exact ⟨ret_bool HF.out.symm, rfl⟩

set_option maxHeartbeats 2000000 in
theorem l6Good_any (o : Od) (w : World) (sv wv : Value) (hv : OdV w sv wv o) (hw : o.wt ≤ 1048576) :
    Calls Try.prog 35 #[.agg #[sv, wv, .int .i64 o.va]] w (Ans (.bool o.good) w) := by
  obtain ⟨sa, sc, wa, wc, rfl, rfl⟩ := hv.open
  have HV := Lib.hid hv
  have hsl : o.sy.length ≤ 1048576 := Nat.le_trans o.wt_sy hw
  have hwl : o.ws.length ≤ 1048576 := Nat.le_trans o.wt_ws hw
  have HST := Lib.hid (fun s (hs : s ∈ o.sy) => Nat.le_trans (Od.wt_str hs) hw)
  have HB := Lib.hid ((Below.refl w.heap.size w).alloc (Nat.le_refl _) (.cells #[.slice sa o.sy.length sc, .slice wa o.ws.length wc, .int .i64 o.va] 31))
  have H3 := Lib.hid (thr_new w (.slice sa o.sy.length sc) (.slice wa o.ws.length wc) (.int .i64 o.va) 31 _ rfl)
  obtain ⟨b0, b1, b2, b3⟩ := H3.out
  have C1 := Lib.hid (in_any (o.sy.length : Int) 1 12)
  have C2 := Lib.hid (in_any o.va 1 100)
  have HH : Hid (o.heads = (inB (o.sy.length : Int) 1 12 && decide (o.ws.length = o.sy.length) && inB o.va 1 100)) := Lib.hid rfl
  clear hv hw
  cases h1 : inB (o.sy.length : Int) 1 12 with
  | false =>
    rw [h1] at C1
    have HE : Hid (o.good = false) := Lib.hid (Od.good_head (by rw [HH.out, h1]; rfl))
    clear h1
    go_enter Try.func35, Try.ntmps35
    go_wp2_with fail
    refine (C1.out _).mono ?_
    rintro e w1 ⟨rfl, rfl⟩
    go_wp2
    go_ret
    exact ⟨ret_bool HE.out.symm, HB.out⟩
  | true =>
    have HN1 := Lib.hid (inB_iff.1 h1)
    by_cases h2 : o.ws.length = o.sy.length
    · have h2' : ((o.ws.length : Int) != (o.sy.length : Int)) = false := int_eq (by omega)
      cases h3 : inB o.va 1 100 with
      | false =>
        rw [h1] at C1
        rw [h3] at C2
        have HE : Hid (o.good = false) := Lib.hid (Od.good_head (by rw [HH.out, h3, Bool.and_false]))
        clear h1 h2 h3
        go_enter Try.func35, Try.ntmps35
        go_wp2_with fail
        refine (C1.out _).mono ?_
        rintro e w1 ⟨rfl, rfl⟩
        go_wp2_with fail
        refine (C2.out _).mono ?_
        rintro e w1 ⟨rfl, rfl⟩
        go_wp2
        go_ret
        exact ⟨ret_bool HE.out.symm, HB.out⟩
      | true =>
        have HHD : Hid (o.heads = true) := Lib.hid (by rw [HH.out, h1, h3, decide_eq_true h2]; rfl)
        rw [h1] at C1
        rw [h3] at C2
        have HN2 := Lib.hid h2
        have HN3 := Lib.hid (inB_iff.1 h3)
        clear h1 h2 h3
        go_enter Try.func35, Try.ntmps35
        go_wp2_with fail
        refine (C1.out _).mono ?_
        rintro e w1 ⟨rfl, rfl⟩
        go_wp2_with fail
        refine (C2.out _).mono ?_
        rintro e w1 ⟨rfl, rfl⟩
        clear C1 C2 h2'
        go_wp2
        go_loopw [3] (fun i wr => ∃ k : Nat, k ≤ o.sy.length ∧ i = .int .i64 k ∧ (∀ j, j < k → o.step j = true) ∧ Thr wr w.heap.size (.slice sa o.sy.length sc) (.slice wa o.ws.length wc) (.int .i64 o.va) ∧ Below w.heap.size w wr) (fun i _ => o.sy.length - (intOf i).toNat)
        case atStart => exact ⟨0, Nat.zero_le _, rfl, fun j hj => absurd hj (Nat.not_lt_zero _), H3.out, HB.out⟩
        case round =>
          obtain ⟨k, hk, rfl, hq, h3, hb⟩ := hrel
          have HQ := Lib.hid hq
          have HR3 := Lib.hid h3
          have HBR := Lib.hid hb
          clear hq b0 b1 b2 b3
          obtain ⟨b0, b1, b2, b3⟩ := h3
          by_cases hlt : k < o.sy.length
          · obtain ⟨s, hs⟩ : ∃ s, o.sy[k]? = some s := ⟨_, List.getElem?_eq_getElem hlt⟩
            obtain ⟨x, hx⟩ : ∃ x, o.ws[k]? = some x := ⟨_, List.getElem?_eq_getElem (by have := HN2.out; omega)⟩
            have HSG := Lib.hid ((StrG.of HV.out.st).below hb)
            obtain ⟨sb, so, rfl, hc⟩ := HSG.out k s hs
            obtain ⟨wb, wo, rfl, hd⟩ := (IntG.of HV.out.is).below hb k x hx
            have hsz : s.size ≤ maxLen := by have := HST.out s (mem_of_at hs); unfold maxLen; omega
            have HSE := Lib.hid (Od.step_eq hs hx)
            have CS := Lib.hid (fun W => l2Symbol_any s W hsz)
            have CN := Lib.hid (fun n => l2In_same (some ⟨sb, so, none⟩) sc (o.sy.take k) s (wr.drewN n) (fun j y hj => HSG.out j y (by
              rw [List.getElem?_take] at hj; split at hj; exact hj; cases hj)) (by rw [List.length_take]; omega))
            have hlk : (o.sy.take k).length = k := by rw [List.length_take]; omega
            rw [hlk] at CN
            have CI := Lib.hid (in_any x o.va 100)
            have hwk : k < o.ws.length := by have := HN2.out; omega
            have hkc : k ≤ sc := by have := HV.out.cp _ _ _ rfl; omega
            clear hb hs hx hlk
            cases e1 : symB s with
            | false =>
              rw [e1] at CS
              have HE : Hid (o.good = false) := Lib.hid (Od.good_no hlt (by rw [HSE.out, e1]; rfl))
              clear e1
              go_wp2
              go_quiet ((first | (go_at_call 76; exact quiet_left (CS.out _)) | (go_at_call 77; exact quiet_left (CN.out _)) | (go_at_call 75; exact quiet_left (CI.out _))))
              have HB2 : Hid (Below w.heap.size w (wr.drewN nq)) := Lib.hid (⟨HBR.out.os, HBR.out.tape, HBR.out.output, HBR.out.size, HBR.out.block⟩)
              go_wp2
              go_ret
              exact ⟨ret_bool HE.out.symm, HB2.out⟩
            | true =>
              rw [e1] at CS
              have HE1 := Lib.hid e1
              clear e1
              cases e2 : Lib.containsS (o.sy.take k) s with
              | true =>
                rw [e2] at CN
                have HE : Hid (o.good = false) := Lib.hid (Od.good_no hlt (by rw [HSE.out, e2]; simp))
                clear e2
                go_wp2
                go_quiet ((first | (go_at_call 76; exact quiet_left (CS.out _)) | (go_at_call 77; exact quiet_left (CN.out _)) | (go_at_call 75; exact quiet_left (CI.out _))))
                have HB2 : Hid (Below w.heap.size w (wr.drewN nq)) := Lib.hid (⟨HBR.out.os, HBR.out.tape, HBR.out.output, HBR.out.size, HBR.out.block⟩)
                go_wp2
                go_ret
                exact ⟨ret_bool HE.out.symm, HB2.out⟩
              | false =>
                rw [e2] at CN
                have HE2 := Lib.hid e2
                clear e2
                cases e3 : inB x o.va 100 with
                | false =>
                  rw [e3] at CI
                  have HE : Hid (o.good = false) := Lib.hid (Od.good_no hlt (by rw [HSE.out, e3, Bool.and_false]))
                  clear e3
                  go_wp2
                  go_quiet ((first | (go_at_call 76; exact quiet_left (CS.out _)) | (go_at_call 77; exact quiet_left (CN.out _)) | (go_at_call 75; exact quiet_left (CI.out _))))
                  have HB2 : Hid (Below w.heap.size w (wr.drewN nq)) := Lib.hid (⟨HBR.out.os, HBR.out.tape, HBR.out.output, HBR.out.size, HBR.out.block⟩)
                  go_wp2
                  go_ret
                  exact ⟨ret_bool HE.out.symm, HB2.out⟩
                | true =>
                  rw [e3] at CI
                  have HN : Hid (∀ j, j < k + 1 → o.step j = true) := Lib.hid (fun j hj => by
                    by_cases e : j = k
                    · rw [e, HSE.out, HE1.out, HE2.out, e3]; rfl
                    · exact HQ.out j (by omega))
                  clear e3
                  go_wp2
                  go_quiet ((first | (go_at_call 76; exact quiet_left (CS.out _)) | (go_at_call 77; exact quiet_left (CN.out _)) | (go_at_call 75; exact quiet_left (CI.out _))))
                  have HB2 : Hid (Below w.heap.size w (wr.drewN nq)) := Lib.hid (⟨HBR.out.os, HBR.out.tape, HBR.out.output, HBR.out.size, HBR.out.block⟩)
                  have HR32 : Hid (Thr (wr.drewN nq) w.heap.size (.slice (some ⟨sb, so, none⟩) o.sy.length sc) (.slice (some ⟨wb, wo, none⟩) o.ws.length wc) (.int .i64 o.va)) := Lib.hid (HR3.out.kept ⟨rfl, rfl, rfl, Nat.le_refl _, fun _ _ => rfl⟩)
                  go_wp2
                  go_roundw
                  case rel => exact ⟨k + 1, by omega, by go_num, HN.out, HR32.out, HB2.out⟩
                  case measure => simp [intOf]; omega
          · have HE : Hid (o.good = true) := Lib.hid (Od.good_steps HHD.out (fun i hi => HQ.out i (by omega)))
            go_wp2
            go_ret
            exact ⟨ret_bool HE.out.symm, HBR.out⟩
    · have h2' : ((o.ws.length : Int) != (o.sy.length : Int)) = true := int_ne (by omega)
      rw [h1] at C1
      have HE : Hid (o.good = false) := Lib.hid (Od.good_head (by rw [HH.out, decide_eq_false h2, Bool.and_false, Bool.false_and]))
      clear h1 h2
      go_enter Try.func35, Try.ntmps35
      go_wp2_with fail
      refine (C1.out _).mono ?_
      rintro e w1 ⟨rfl, rfl⟩
      go_wp2
      go_ret
      exact ⟨ret_bool HE.out.symm, HB.out⟩

set_option maxHeartbeats 1000000 in
theorem l6Rank_any (o : Od) (nm : ByteArray) (w : World) (sv wv : Value) (hv : OdV w sv wv o) (hw : o.wt ≤ 1048576) :
    Calls Try.prog 127 #[.agg #[sv, wv, .int .i64 o.va], .string nm] w (Ans (.int .i64 (rk o.sy nm)) w) := by
  obtain ⟨sa, sc, wa, wc, rfl, rfl⟩ := hv.open
  have HV := Lib.hid (StrG.of hv.st)
  have hsl : o.sy.length ≤ 1048576 := Nat.le_trans o.wt_sy hw
  have HB := Lib.hid ((Below.refl w.heap.size w).alloc (Nat.le_refl _) (.cells #[.slice sa o.sy.length sc, .slice wa o.ws.length wc, .int .i64 o.va] 31))
  have H3 := Lib.hid (thr_new w (.slice sa o.sy.length sc) (.slice wa o.ws.length wc) (.int .i64 o.va) 31 _ rfl)
  obtain ⟨b0, b1, b2, b3⟩ := H3.out
  clear hv hw
  go_enter Try.func127, Try.ntmps127
  go_wp2
  go_loopw [5] (fun i wr => ∃ k : Nat, k ≤ o.sy.length ∧ i = .int .i64 k ∧ (∀ j, j < k → o.sy[j]? ≠ some nm) ∧ Thr wr w.heap.size (.slice sa o.sy.length sc) (.slice wa o.ws.length wc) (.int .i64 o.va) ∧ Below w.heap.size w wr) (fun i _ => o.sy.length - (intOf i).toNat)
  case atStart => exact ⟨0, Nat.zero_le _, rfl, fun j hj => absurd hj (Nat.not_lt_zero _), H3.out, HB.out⟩
  case round =>
    obtain ⟨k, hk, rfl, hq, h3, hb⟩ := hrel
    have HQ := Lib.hid hq
    have HR3 := Lib.hid h3
    have HBR := Lib.hid hb
    clear hq b0 b1 b2 b3
    obtain ⟨b0, b1, b2, b3⟩ := h3
    by_cases hlt : k < o.sy.length
    · obtain ⟨s, hs⟩ : ∃ s, o.sy[k]? = some s := ⟨_, List.getElem?_eq_getElem hlt⟩
      obtain ⟨sb, so, rfl, hc⟩ := HV.out.below hb k s hs
      have HS := Lib.hid hs
      clear hb hs
      rcases name_ways s nm with ⟨hn, he⟩ | ⟨hn, he⟩
      · have HE : Hid (rk o.sy nm = (k : Int)) := Lib.hid (rk_at (by rw [HS.out, hn]) HQ.out)
        clear hn
        go_wp2
        go_ret
        exact ⟨ret_int HE.out.symm, HBR.out⟩
      · have HN : Hid (∀ j, j < k + 1 → o.sy[j]? ≠ some nm) := Lib.hid (fun j hj => by
          by_cases e : j = k
          · rw [e, HS.out]; intro h; injection h with h; exact hn h
          · exact HQ.out j (by omega))
        clear hn
        go_wp2
        go_roundw
        case rel => exact ⟨k + 1, by omega, by go_num, HN.out, HR3.out, HBR.out⟩
        case measure => simp [intOf]; omega
    · have HE : Hid (rk o.sy nm = -1) := Lib.hid (rk_none (fun j hj => HQ.out j (by omega)))
      go_wp2
      go_ret
      exact ⟨ret_int HE.out.symm, HBR.out⟩

end Go.Proofs.Ytohalpafmcobpaa
