/- Several texts in one: each says what it proves. No condition but theirs. -/
import Derived.Test.YtohalpafmcobpaaGreatOgG
import Derived.Test.YtohalpafmcobpaaGreatMkG
import Derived.Test.YtohalpafmcobpaaGreatName
/- IsValidOrdering, the program's: a contract, for orderings of at most 1048576 names' bytes and elements. -/
namespace Go.Proofs.YtohalpafmcobpaaGreat
open Go.RowKit
set_option linter.unusedVariables false

theorem contains_same (a : Option Addr) (c : Nat) (ss : List ByteArray) (x : ByteArray) (w : World) (hv : StrG w a ss) (hn : ss.length ≤ 1048576) :
    Calls Tryz.prog 96 #[.slice a ss.length c, .string x] w fun e w' => e = .returned (.bool (Lib.containsS ss x)) ∧ w' = w := by
  by_cases h0 : ss.length = 0
  · have e := List.length_eq_zero_iff.1 h0
    subst e
    exact Tryz.slices_Contains_string_empty a c x w
  · obtain ⟨b, off, rfl, _⟩ := hv 0 _ (List.getElem?_eq_getElem (by omega))
    have h := Tryz.slices_Contains_string b off ss.length c ss x w (Nat.le_refl _) (by omega) (fun i hi => by
      obtain ⟨b', off', e, hc⟩ := hv i _ (List.getElem?_eq_getElem hi)
      injection e with e
      injection e with e1 e2
      subst e1 e2
      rw [hc, getD_eq hi])
    rw [List.take_length] at h
    exact h

set_option maxHeartbeats 4000000 in
theorem implVOrd_any (o : Od) (w : World) (sv wv : Value) (hv : OdV w sv wv o) (hw : o.wt ≤ 1048576) :
    Calls Tryz.prog 83 #[.agg #[sv, wv, .int .i64 o.va]] w (Ans (.bool o.good) w) := by
  obtain ⟨sa, sc, wa, wc, rfl, rfl⟩ := hv.open
  have HV := Lib.hid hv
  have hsl : o.sy.length ≤ 1048576 := Nat.le_trans o.wt_sy hw
  have hwl : o.ws.length ≤ 1048576 := Nat.le_trans o.wt_ws hw
  have HST := Lib.hid (fun s (hs : s ∈ o.sy) => Nat.le_trans (Od.wt_str hs) hw)
  have HB := Lib.hid ((Below.refl w.heap.size w).alloc (Nat.le_refl _) (.cells #[.slice sa o.sy.length sc, .slice wa o.ws.length wc, .int .i64 o.va] 35))
  have H3 := Lib.hid (thr_new w (.slice sa o.sy.length sc) (.slice wa o.ws.length wc) (.int .i64 o.va) 35 _ rfl)
  obtain ⟨b0, b1, b2, b3⟩ := H3.out
  have HH : Hid (o.heads = (inB (o.sy.length : Int) 1 12 && decide (o.ws.length = o.sy.length) && inB o.va 1 100)) := Lib.hid rfl
  clear hv hw
  by_cases g1 : o.sy.length < 1
  · have HE : Hid (o.good = false) := Lib.hid (Od.good_head (by rw [HH.out, inB_no (by omega)]; rfl))
    clear HH
    go_enter Tryz.func83, Tryz.ntmps83
    go_wp2
    go_ret
    exact ⟨ret_bool HE.out.symm, HB.out⟩
  by_cases g2 : 12 < o.sy.length
  · have HE : Hid (o.good = false) := Lib.hid (Od.good_head (by rw [HH.out, inB_no (by omega)]; rfl))
    clear HH
    go_enter Tryz.func83, Tryz.ntmps83
    go_wp2
    go_ret
    exact ⟨ret_bool HE.out.symm, HB.out⟩
  by_cases g3 : o.ws.length = o.sy.length
  case neg =>
    have g3' : ((o.ws.length : Int) != (o.sy.length : Int)) = true := int_ne (by omega)
    have HE : Hid (o.good = false) := Lib.hid (Od.good_head (by rw [HH.out, decide_eq_false g3, Bool.and_false, Bool.false_and]))
    clear HH g3
    go_enter Tryz.func83, Tryz.ntmps83
    go_wp2
    go_ret
    exact ⟨ret_bool HE.out.symm, HB.out⟩
  have g3' : ((o.ws.length : Int) != (o.sy.length : Int)) = false := int_eq (by omega)
  by_cases g4 : o.va < 1
  · have HE : Hid (o.good = false) := Lib.hid (Od.good_head (by rw [HH.out, inB_no (x := o.va) (by omega), Bool.and_false]))
    clear HH g3
    go_enter Tryz.func83, Tryz.ntmps83
    go_wp2
    go_ret
    exact ⟨ret_bool HE.out.symm, HB.out⟩
  by_cases g5 : 100 < o.va
  · have HE : Hid (o.good = false) := Lib.hid (Od.good_head (by rw [HH.out, inB_no (x := o.va) (by omega), Bool.and_false]))
    clear HH g3
    go_enter Tryz.func83, Tryz.ntmps83
    go_wp2
    go_ret
    exact ⟨ret_bool HE.out.symm, HB.out⟩
  have HHD : Hid (o.heads = true) := Lib.hid (by rw [HH.out, inB_yes (by omega), decide_eq_true g3, inB_yes (by omega)]; rfl)
  have HG3 := Lib.hid g3
  clear HH g3
  go_enter Tryz.func83, Tryz.ntmps83
  go_wp2
  clear g3'
  go_loopw [3, 4, 35] (fun i3 i4 i wr => ∃ k : Nat, k ≤ o.sy.length ∧ i = .int .i64 k ∧ (∀ j, j < k → o.step j = true) ∧ Thr wr w.heap.size (.slice sa o.sy.length sc) (.slice wa o.ws.length wc) (.int .i64 o.va) ∧ Below w.heap.size w wr) (fun _ _ i _ => o.sy.length - (intOf i).toNat)
  case atStart => exact ⟨0, Nat.zero_le _, rfl, fun j hj => absurd hj (Nat.not_lt_zero _), H3.out, HB.out⟩
  case round =>
    obtain ⟨k, hk, rfl, hq, h3, hb⟩ := hrel
    have HQ := Lib.hid hq
    have HR3 := Lib.hid h3
    have HBR := Lib.hid hb
    clear hq b0 b1 b2 b3
    obtain ⟨b0, b1, b2, b3⟩ := h3
    by_cases hlt : k < o.sy.length
    · obtain ⟨s, hs⟩ : ∃ s, o.sy[k]? = some s := ⟨_, List.getElem?_eq_getElem hlt⟩
      obtain ⟨x, hx⟩ : ∃ x, o.ws[k]? = some x := ⟨_, List.getElem?_eq_getElem (by have := HG3.out; omega)⟩
      have HSG := Lib.hid ((StrG.of HV.out.st).below hb)
      obtain ⟨sb, so, rfl, hc⟩ := HSG.out k s hs
      obtain ⟨wb, wo, rfl, hd⟩ := (IntG.of HV.out.is).below hb k x hx
      have hsz : s.size ≤ maxLen := by have := HST.out s (mem_of_at hs); unfold maxLen; omega
      have HSE := Lib.hid (Od.step_eq hs hx)
      have CS := Lib.hid (isSym_any s wr hsz)
      have hlk : (o.sy.take k).length = k := by rw [List.length_take]; omega
      have CN := Lib.hid (contains_same (some ⟨sb, so, none⟩) sc (o.sy.take k) s wr (fun j y hj => HSG.out j y (by
        rw [List.getElem?_take] at hj; split at hj; exact hj; cases hj)) (by rw [List.length_take]; omega))
      rw [hlk] at CN
      have hwk : k < o.ws.length := by have := HG3.out; omega
      have hkc : k ≤ sc := by have := HV.out.cp _ _ _ rfl; omega
      clear hb hs hx hlk
      cases e1 : symB s with
      | false =>
        rw [e1] at CS
        have HE : Hid (o.good = false) := Lib.hid (Od.good_no hlt (by rw [HSE.out, e1]; rfl))
        clear e1
        go_wp2_with fail
        refine CS.out.mono ?_
        rintro e w1 ⟨rfl, rfl⟩
        go_wp2
        go_ret
        exact ⟨ret_bool HE.out.symm, HBR.out⟩
      | true =>
        rw [e1] at CS
        have HE1 := Lib.hid e1
        clear e1
        go_wp2_with fail
        refine CS.out.mono ?_
        rintro e w1 ⟨rfl, rfl⟩
        cases e2 : Lib.containsS (o.sy.take k) s with
        | true =>
          rw [e2] at CN
          have HE : Hid (o.good = false) := Lib.hid (Od.good_no hlt (by rw [HSE.out, e2]; simp))
          clear e2
          go_wp2_with fail
          refine CN.out.mono ?_
          rintro e w1 ⟨rfl, rfl⟩
          go_wp2
          go_ret
          exact ⟨ret_bool HE.out.symm, HBR.out⟩
        | false =>
          rw [e2] at CN
          have HE2 := Lib.hid e2
          clear e2
          go_wp2_with fail
          refine CN.out.mono ?_
          rintro e w1 ⟨rfl, rfl⟩
          clear CS CN
          by_cases e3 : o.va ≤ x ∧ x ≤ 100
          · have HN : Hid (∀ j, j < k + 1 → o.step j = true) := Lib.hid (fun j hj => by
              by_cases e : j = k
              · rw [e, HSE.out, HE1.out, HE2.out, inB_yes e3]; rfl
              · exact HQ.out j (by omega))
            obtain ⟨e31, e32⟩ := e3
            have f1 : decide (x < o.va) = false := decide_eq_false (by omega)
            have f2 : ¬ 100 < x := by omega
            clear e31
            go_wp2
            go_quiet (fail)
            have HB2 : Hid (Below w.heap.size w (w1.drewN nq)) := Lib.hid (⟨HBR.out.os, HBR.out.tape, HBR.out.output, HBR.out.size, HBR.out.block⟩)
            have HR32 : Hid (Thr (w1.drewN nq) w.heap.size (.slice (some ⟨sb, so, none⟩) o.sy.length sc) (.slice (some ⟨wb, wo, none⟩) o.ws.length wc) (.int .i64 o.va)) := Lib.hid (HR3.out.kept ⟨rfl, rfl, rfl, Nat.le_refl _, fun _ _ => rfl⟩)
            go_wp2
            go_roundw
            case rel => exact ⟨k + 1, by omega, by go_num, HN.out, HR32.out, HB2.out⟩
            case measure => simp [intOf]; omega
          · have HE : Hid (o.good = false) := Lib.hid (Od.good_no hlt (by rw [HSE.out, inB_no e3, Bool.and_false]))
            by_cases f0 : x < o.va
            · have f1 : decide (x < o.va) = true := decide_eq_true f0
              clear e3
              go_wp2
              go_quiet (fail)
              have HB2 : Hid (Below w.heap.size w (w1.drewN nq)) := Lib.hid (⟨HBR.out.os, HBR.out.tape, HBR.out.output, HBR.out.size, HBR.out.block⟩)
              go_wp2
              go_ret
              exact ⟨ret_bool HE.out.symm, HB2.out⟩
            · have f1 : decide (x < o.va) = false := decide_eq_false f0
              have f2 : 100 < x := by omega
              clear e3
              go_wp2
              go_quiet (fail)
              have HB2 : Hid (Below w.heap.size w (w1.drewN nq)) := Lib.hid (⟨HBR.out.os, HBR.out.tape, HBR.out.output, HBR.out.size, HBR.out.block⟩)
              go_wp2
              go_ret
              exact ⟨ret_bool HE.out.symm, HB2.out⟩
    · have HE : Hid (o.good = true) := Lib.hid (Od.good_steps HHD.out (fun i hi => HQ.out i (by omega)))
      go_wp2
      go_ret
      exact ⟨ret_bool HE.out.symm, HBR.out⟩

end Go.Proofs.YtohalpafmcobpaaGreat

/- The program's test that an ordering covers expressions: a contract, for orderings and lists of terms of at most 1048576 names' bytes and elements. -/
namespace Go.Proofs.YtohalpafmcobpaaGreat
open Go.RowKit Go.Shelf
set_option linter.unusedVariables false

attribute [local go_sem] Oper.semAt_some

/-- A node that the program's test lets pass. -/
def Od.nodeP (o : Od) (s : Tm) : Bool := !symB s.name || Lib.containsS o.sy s.name
def Od.covN (o : Od) (t : Tm) : Bool := t.nds.all o.nodeP
def Od.covP (o : Od) (ts : List Tm) : Bool := o.good && (ts.all anyB && ts.all o.covN)
theorem Od.covP_bad {o : Od} {ts : List Tm} (h : o.good = false) : o.covP ts = false := by unfold Od.covP; rw [h]; rfl
theorem Od.covP_not {o : Od} {ts : List Tm} (h : ts.all anyB = false) : o.covP ts = false := by unfold Od.covP; rw [h, Bool.false_and, Bool.and_false]
theorem Od.covP_good {o : Od} {ts : List Tm} (h : o.good = true) (h' : ts.all anyB = true) : o.covP ts = ts.all o.covN := by unfold Od.covP; rw [h, h', Bool.true_and, Bool.true_and]
theorem Od.covN_no {o : Od} {t s : Tm} (hs : s ∈ t.nds) (h : o.nodeP s = false) : o.covN t = false := by
  unfold Od.covN; rw [List.all_eq_false]; exact ⟨s, hs, by rw [h]; simp⟩
theorem Od.covN_yes {o : Od} {t : Tm} (h : ∀ s ∈ t.nds, o.nodeP s = true) : o.covN t = true := by
  unfold Od.covN; rw [List.all_eq_true]; exact h

theorem nds_name_le : ∀ t : Tm, ∀ s ∈ t.nds, s.name.size ≤ t.wt := Tm.ind fun t ih s hs => by
  rw [t.nds_eq] at hs
  rcases List.mem_cons.1 hs with rfl | hs
  · exact Tm.wt_name _
  · have : ∀ l : List Tm, (∀ x ∈ l, x ∈ t.args) → s ∈ Tm.ndsL l → s.name.size ≤ t.wt := by
      intro l
      induction l with
      | nil => intro _ h; simp [Tm.ndsL] at h
      | cons a r ih2 =>
        intro hl h
        rw [Tm.ndsL, List.mem_append] at h
        rcases h with h | h
        · exact Nat.le_trans (ih a (hl a List.mem_cons_self) s h) (Tm.wt_arg (hl a List.mem_cons_self))
        · exact ih2 (fun x hx => hl x (List.mem_cons_of_mem _ hx)) h
    exact this t.args (fun x hx => hx) hs

theorem word_big6 (s : ByteArray) (w : World) (h1 : 6 < s.size) :
    Calls Tryz.prog 150 #[.string s, .int .i64 6] w fun e w' => e = .returned (.bool false) ∧ w = w' := by
  go_enter Tryz.func150, Tryz.ntmps150
  go_wp2
  go_ret
  exact ⟨rfl, rfl⟩
theorem isSym_all (s : ByteArray) (w : World) :
    Calls Tryz.prog 120 #[.string s] w fun e w' => e = .returned (.bool (symB s)) ∧ w = w' := by
  by_cases h : 6 < s.size
  · have C := Lib.hid (word_big6 s w h)
    have H : Hid (symB s = false) := Lib.hid (symB_short (by omega))
    clear h
    go_enter Tryz.func120, Tryz.ntmps120
    go_wp2_with fail
    refine C.out.mono ?_
    rintro e w' ⟨rfl, rfl⟩
    go_wp2
    go_ret
    exact ⟨ret_bool H.out.symm, rfl⟩
  · exact isSym_any s w (by unfold maxLen; omega)

/-- The result's cell, at the function's end. -/
structure FinC (w : World) (x : Bool) (W : World) : Prop where
  c1 : W.cell? ⟨w.heap.size + 1, 0, none⟩ = some (.bool x)
  bel : Below w.heap.size w W
theorem FinC.put {w : World} {x : Bool} {W : World} {D : Nat} (h : FinC w x W) (hB : w.heap.size ≤ D) (hD : W.heap[D]? = some (.deferred (some []))) : FinC w x (W.putObj D (.deferred none)) :=
  ⟨cell_kept h.c1 (grownBy_putObj' W D _) (fun r e => by cases e; exact ⟨_, hD, rfl⟩), h.bel.trans (belowK_b (w := w) (Nat.le_refl _) W D _ _ hB hD rfl rfl)⟩
theorem FinC.set {w W : World} {x x' : Bool} (h1 : W.cell? ⟨w.heap.size + 1, 0, none⟩ = some (.bool x')) (hb : Below w.heap.size w W) :
    FinC w x (W.setCell ⟨w.heap.size + 1, 0, none⟩ (.bool x)) :=
  ⟨World.cell?_setCell_same _ _ _ h1, hb.setCell (by simp) _⟩
def FinCO (w : World) (x : Bool) (Ds : List Nat) (W : World) : Prop := FinC w x W ∧ Open (w.heap.size + 2) W Ds
theorem finCO_own (w : World) (x : Bool) (Ds : List Nat) (B : Nat) (hw : w.heap.size ≤ B) (hD : ∀ D ∈ Ds, D < B) : OwnFrom B (fun (_ : List Nd) W => FinCO w x Ds W) := fun s X Y row hs hg hr =>
  ⟨⟨cell_kept hs.1.c1 hg (fun r e => (hr r e).2), hs.1.bel.grown hg (Nat.le_trans (Nat.le_refl _) hs.1.bel.size) (fun k e => Nat.le_trans hw (hr k e).1)⟩,
    hs.2.1, fun D hd => ⟨(hs.2.2 D hd).1, (hg.block D (hs.2.lt hd) (fun e => by have := (hr D e.symm).1; have := hD D hd; omega)).trans (hs.2.2 D hd).2⟩⟩

set_option maxRecDepth 100000 in
set_option maxHeartbeats 8000000 in
theorem covers_in (o : Od) (ts : List Tm) (w : World) (sv wv v : Value) (hv : OdV w sv wv o) (ht : TmS w v ts) (ho : o.wt ≤ 1048576) (hl : ts.length ≤ 1000000) (hw : ∀ s ∈ ts, s.wt ≤ 1048576) :
    CallsIn Fence.wide 9 Tryz.prog 82 #[.agg #[sv, wv, .int .i64 o.va], v] w (Ans (.bool (o.covP ts)) w) := by
  obtain ⟨sa, sc, wa, wc, rfl, rfl⟩ := hv.open
  obtain ⟨a, c, rfl⟩ := ht.is_slice
  have hdd : ∀ k : Nat, (Fence.wide.depth.isSome = true → 1 ≤ k) := fun k h => by cases h
  have HV := Lib.hid hv
  have HT := Lib.hid ht
  have HW := Lib.hid hw
  have HO := Lib.hid ho
  have hsl : o.sy.length ≤ 1048576 := Nat.le_trans o.wt_sy ho
  obtain ⟨w0, hw0⟩ : ∃ w0, (w.alloc (.cells #[.slice sa o.sy.length sc, .slice wa o.ws.length wc, .int .i64 o.va] 35)).alloc (.cells #[.bool false] 4) = w0 := ⟨_, rfl⟩
  have HB0 : Hid (Below w.heap.size w w0) := Lib.hid (by rw [← hw0]; exact ((Below.refl w.heap.size w).alloc (Nat.le_refl _) _).alloc (by simp) _)
  have H10 : Hid (Thr w0 w.heap.size (.slice sa o.sy.length sc) (.slice wa o.ws.length wc) (.int .i64 o.va)) := Lib.hid (by rw [← hw0]; exact (thr_new w _ _ _ _ _ rfl).alloc _)
  have H20 : Hid (Oner w0 (w.heap.size + 1) (.bool false)) := Lib.hid (by rw [← hw0]; exact oner_new _ (.bool false) 4 (w.heap.size + 1) (by simp))
  have hz0 : w0.heap.size = w.heap.size + 2 := by rw [← hw0]; simp
  clear hv ht hw ho
  refine callsIn_of_wp_marks Tryz.func82 rfl trivial ?_ rfl
  simp only [Tryz.ntmps82, List.size_toArray, List.length_cons, List.length_nil, Nat.reduceAdd, Nat.reduceSub, Array.replicate_succ, Array.replicate_zero, List.push_toArray, List.append_toArray, List.nil_append, List.cons_append]
  obtain ⟨b0, b1, b2, b3⟩ := H10.out
  gi_wp2
  refine ⟨trivial, ?_⟩
  refine (callsIn_wide.2 (implVOrd_any o _ _ _ (HV.out.kept HB0.out) HO.out)).mono ?_
  rintro e w1 ⟨rfl, hb⟩
  have HB1 := Lib.hid (carry_below HB0.out (Nat.le_refl _) hb)
  have H11 := Lib.hid (H10.out.kept hb)
  have H21 := Lib.hid (H20.out.kept hb)
  have hz1 : w.heap.size + 2 ≤ w1.heap.size := by have := hb.size; omega
  clear hb b0 b1 b2 b3 hw0
  obtain ⟨b0, b1, b2, b3⟩ := H11.out
  obtain ⟨c0, c1⟩ := H21.out
  cases hg : o.good with
  | false =>
    have HF : Hid (o.covP ts = false) := Lib.hid (Od.covP_bad hg)
    clear hg
    have HFB : Hid (FinC w false (w1.setCell ⟨w.heap.size + 1, 0, none⟩ (.bool false))) := Lib.hid (FinC.set c0 HB1.out)
    gi_wp2
    refine ⟨trivial, ?_⟩
    gi_wp2
    refine leaves_open (FinC w false) (w.heap.size + 2) (fun W D h hB hD => h.put (by omega) hD) (fun W h => ?_) [] _ (Open.nil _ _) HFB.out
    obtain ⟨r1, rb⟩ := h
    exact ⟨.bool false, by simp [results, Tryz.results82, go_sem, r1], ret_bool HF.out.symm, rb⟩
  | true =>
    have HG := Lib.hid hg
    clear hg
    gi_wp2
    refine ⟨trivial, ?_⟩
    refine (callsIn_wide.2 (areExpr_any ts _ _ (HT.out.kept HB1.out) hl HW.out)).mono ?_
    rintro e w1x ⟨rfl, hb⟩
    have HB1x := Lib.hid (carry_below HB1.out (Nat.le_refl _) hb)
    have H11x := Lib.hid (H11.out.kept hb)
    have H21x := Lib.hid (H21.out.kept hb)
    have hz1x : w.heap.size + 2 ≤ w1x.heap.size := by have := hb.size; omega
    clear hb b0 b1 b2 b3 c0 c1 HB1 H11 H21 hz1
    obtain ⟨b0, b1, b2, b3⟩ := H11x.out
    obtain ⟨c0, c1⟩ := H21x.out
    cases he : ts.all anyB with
    | false =>
      have HF : Hid (o.covP ts = false) := Lib.hid (Od.covP_not he)
      clear he
      have HFB : Hid (FinC w false (w1x.setCell ⟨w.heap.size + 1, 0, none⟩ (.bool false))) := Lib.hid (FinC.set c0 HB1x.out)
      gi_wp2
      refine leaves_open (FinC w false) (w.heap.size + 2) (fun W D h hB hD => h.put (by omega) hD) (fun W h => ?_) [] _ (Open.nil _ _) HFB.out
      obtain ⟨r1, rb⟩ := h
      exact ⟨.bool false, by simp [results, Tryz.results82, go_sem, r1], ret_bool HF.out.symm, rb⟩
    | true =>
      have HF : Hid (o.covP ts = ts.all o.covN) := Lib.hid (Od.covP_good HG.out he)
      have HE := Lib.hid (fun t (h : t ∈ ts) => List.all_eq_true.1 he t h)
      clear he
      gi_wp2
      refine wpIn_loop (fun a' wr => ∃ (k : Nat) (Ds : List Nat) (u6 u19 u20 u21 u22 u23 u36 : Value), a' = { tmps := #[.agg #[.slice sa o.sy.length sc, .slice wa o.ws.length wc, .int .i64 o.va], .slice a ts.length c, .pointer (some ⟨w.heap.size, 0, none⟩), undef, .pointer (some ⟨w.heap.size + 1, 0, none⟩), undef, u6, undef, .agg #[.slice sa o.sy.length sc, .slice wa o.ws.length wc, .int .i64 o.va], .bool true, .bool false, .bool false, .slice a ts.length c, .bool true, .bool false, .bool false, .slice a ts.length c, .int .i64 ts.length, .int .i64 k, u19, u20, u21, u22, u23, undef, undef, undef, undef, undef, undef, undef, undef, undef, undef, undef, undef, u36], defers := Ds.map mkD } ∧
        k ≤ ts.length ∧ (ts.take k).all o.covN = true ∧ Thr wr w.heap.size (.slice sa o.sy.length sc) (.slice wa o.ws.length wc) (.int .i64 o.va) ∧ Oner wr (w.heap.size + 1) (.bool false) ∧ Below w.heap.size w wr ∧ Open (w.heap.size + 2) wr Ds) (fun a' _ => ts.length - (intOf (a'.tmps.getD 18 undef)).toNat) ⟨0, [], undef, undef, undef, undef, undef, undef, undef, rfl, Nat.zero_le _, by simp, H11x.out, H21x.out, HB1x.out, Open.nil _ _⟩ ?_
      rintro _ wr ⟨k, Ds, u6, u19, u20, u21, u22, u23, u36, rfl, hk, hq, h1, h2, hbel, hop⟩
      have HQ := Lib.hid hq
      have H1 := Lib.hid h1
      have H2 := Lib.hid h2
      have HB := Lib.hid hbel
      have HOP := Lib.hid hop
      have hzr : w.heap.size + 1 < wr.heap.size := World.block_lt_of_cell? wr _ h2.1
      clear b0 b1 b2 b3 c0 c1 hq h1 h2 hbel hop HB1x H11x H21x hz1x
      by_cases hlt : k < ts.length
      · obtain ⟨t, hd⟩ : ∃ t, ts[k]? = some t := ⟨_, List.getElem?_eq_getElem hlt⟩
        obtain ⟨b, off, rfl, vb, c0, c1, hvb⟩ := HT.out.get hd
        obtain ⟨pb, qb, rfl⟩ := hvb.is_slice
        have HVB := Lib.hid (hvb.kept HB.out)
        have e0 := carry_cell c0 HB.out
        have e1 := carry_cell c1 HB.out
        have HD := Lib.hid hd
        have HDW : Hid (t.wt ≤ 1048576) := Lib.hid (HW.out t (mem_of_at hd))
        have hsz : t.sz ≤ 30 := by
          have h := anyB_fits (HE.out t (mem_of_at hd))
          simp [fitsB] at h; exact h.1
        clear hd c0 c1 hvb
        obtain ⟨w2, hw2⟩ : ∃ w2, wr.alloc (.cells #[.string t.name, .slice pb t.args.length qb] 39) = w2 := ⟨_, rfl⟩
        have t2 : Two w2 wr.heap.size (.string t.name) (.slice pb t.args.length qb) := by rw [← hw2]; exact two_new _ _ _ _ _ rfl
        have HB2 : Hid (Below wr.heap.size wr w2) := Lib.hid (by rw [← hw2]; exact (Below.refl _ _).alloc (Nat.le_refl _) _)
        obtain ⟨g0, g1, g2⟩ := t2
        gi_wp2
        refine ⟨trivial, ?_⟩
        refine (callsIn_wide.2 (nodesOf_any t _ _ (HVB.out.kept HB2.out))).mono ?_
        rintro e w3 ⟨rfl, rfl⟩
        have hlim : t.lim 9223372036854775806 := Tm.lim_of_wt t _ (by have := HDW.out; omega)
        have hN : t.nds.length ≤ 30 := by rw [Tm.nds_len]; exact hsz
        obtain ⟨W0, hW0⟩ : ∃ W0, w2.alloc (.cells #[.string t.name, .slice pb t.args.length qb] 39) = W0 := ⟨_, rfl⟩
        have X5 : Hid (Two W0 w2.heap.size (.string t.name) (.slice pb t.args.length qb)) := Lib.hid (by rw [← hW0]; exact two_new _ _ _ _ _ rfl)
        have HB3 : Hid (Below wr.heap.size wr W0) := Lib.hid (by rw [← hW0]; exact HB2.out.alloc HB2.out.size _)
        have HB4 : Hid (Below w.heap.size w W0) := Lib.hid (HB.out.trans (HB3.out.mono HB.out.size))
        have hwz : w.heap.size + 1 < W0.heap.size := by have := HB3.out.size; omega
        have h1 := H1.out.kept HB3.out
        have h2 := H2.out.kept HB3.out
        have HOP3 := Lib.hid (HOP.out.kept HB3.out)
        have HVW := Lib.hid (HV.out.kept HB4.out)
        have HVT := Lib.hid (HVB.out.kept HB3.out)
        rw [hW0]
        clear hW0 g0 g1 g2 hw2 e0 e1
        gi_wp2
        refine wpIn_rangeFunc_ownH rfl (by omega) (gf := 148) (lb := #[.pointer (some ⟨w2.heap.size, 0, none⟩)]) rfl trivial (enters_of Tryz.func148 (by kernel_rfl) rfl)
          (nodesM_stops (9 - 1) w2.heap.size W0 t _ hlim HVT.out W0 (Below.refl _ _) (Nat.le_refl _) X5.out) (fun h k => h.trans k) (KpT.book (Nat.le_refl _)) (Below.refl _ _) (fun _ => rfl)
          (fun pre W => (∀ y ∈ pre, o.nodeP y.tm = true) ∧ Below W0.heap.size W0 W)
          (fun cc pre W => cc = .ret ∧ (∃ y ∈ pre, o.nodeP y.tm = false) ∧ FinCO w false Ds W)
          (OwnFrom.and (ownFrom_pure _ _) (ownFrom_below (Nat.le_refl _) (Nat.le_refl _)))
          (fun cc => OwnFrom.and (ownFrom_pure _ (fun _ => cc = .ret)) (OwnFrom.and (ownFrom_pure _ _) (finCO_own w false Ds _ (by omega) (fun D hD => HOP3.out.lt hD))))
          ⟨fun y hy => (by cases hy), Below.refl _ _⟩
          (fun x a' W => ∃ (Bx : Nat) (y6 y19 y20 y21 y22 y23 : Value), NdBox W Bx x ∧ a' = { tmps := #[.agg #[.slice sa o.sy.length sc, .slice wa o.ws.length wc, .int .i64 o.va], .slice (some ⟨b, off, none⟩) ts.length c, .pointer (some ⟨w.heap.size, 0, none⟩), undef, .pointer (some ⟨w.heap.size + 1, 0, none⟩), undef, y6, .pointer (some ⟨Bx, 0, none⟩), .agg #[.slice sa o.sy.length sc, .slice wa o.ws.length wc, .int .i64 o.va], .bool true, .bool false, .bool false, .slice (some ⟨b, off, none⟩) ts.length c, .bool true, .bool false, .bool false, .slice (some ⟨b, off, none⟩) ts.length c, .int .i64 ts.length, .int .i64 k, y19, y20, y21, y22, y23, .agg #[.string x.tm.name, .slice x.a x.tm.args.length x.c], undef, undef, undef, undef, undef, undef, undef, undef, undef, undef, undef, u36], defers := [] })
          (fun x a' _ X Y row hs hg hr => by obtain ⟨Bx, y6, y19, y20, y21, y22, y23, h2, h3⟩ := hs; exact ⟨Bx, y6, y19, y20, y21, y22, y23, ndBox_own Bx (fun _ => x) () X Y row h2 hg (fun r e => (hr r e).2), h3⟩)
          ?assign ?body ?done ?stop
        case assign =>
          rintro ll pre x W K ⟨hp, hB1⟩ hK
          simp only [Nd.enc]
          gi_wp2
          exact hK _ _ ((KeepsOthers.alloc _ _).from _) ((KpT.refl _ W).alloc hB1.size _) ⟨hp, hB1.alloc hB1.size _⟩ ⟨W.heap.size, _, _, _, _, _, _, NdBox.new W x, rfl⟩
        case body =>
          rintro ll pre x a' W hl ⟨r, hr⟩ ⟨hp, hB1⟩ ⟨Bx, y6, y19, y20, y21, y22, y23, hbx, rfl⟩ hlt2
          obtain ⟨x0, x1⟩ := hbx.cells
          obtain ⟨k0, k1, k2, k3⟩ := h1.kept hB1
          have HNP : Hid (o.nodeP x.tm = (!symB x.tm.name || Lib.containsS o.sy x.tm.name)) := Lib.hid rfl
          have CS := Lib.hid (isSym_all x.tm.name W)
          have CN := Lib.hid (contains_same sa sc o.sy x.tm.name W (StrG.of (HVW.out.kept hB1).st) hsl)
          have HP := Lib.hid hp
          have HB1 := Lib.hid hB1
          have m2 := h2.kept hB1
          have HOPW := Lib.hid (HOP3.out.kept hB1)
          have HGO := Lib.hid (fun (h : o.nodeP x.tm = true) y (hy : y ∈ pre ++ [x]) => show o.nodeP y.tm = true from by
            rcases List.mem_append.1 hy with hy | hy
            · exact HP.out y hy
            · rw [List.mem_singleton.1 hy]; exact h)
          clear hp hB1
          cases es : symB x.tm.name with
          | false =>
            rw [es] at CS
            have HX := Lib.hid (HGO.out (by rw [HNP.out, es]; rfl))
            clear es
            gi_wp2
            refine ⟨trivial, ?_⟩
            refine (callsIn_wide.2 CS.out).mono ?_
            rintro e w4 ⟨rfl, rfl⟩
            gi_wp2
            refine ⟨trivial, ?_⟩
            gi_wp2
            exact ⟨KeepsFrom.refl _ _, KpT.refl _ _, HX.out, HB1.out⟩
          | true =>
            rw [es] at CS
            have HNP2 : Hid (o.nodeP x.tm = Lib.containsS o.sy x.tm.name) := Lib.hid (by rw [HNP.out, es]; rfl)
            clear es
            gi_wp2
            refine ⟨trivial, ?_⟩
            refine (callsIn_wide.2 CS.out).mono ?_
            rintro e w4 ⟨rfl, rfl⟩
            gi_wp2
            refine ⟨trivial, ?_⟩
            refine (callsIn_wide.2 CN.out).mono ?_
            rintro e w5 ⟨rfl, rfl⟩
            cases ec : Lib.containsS o.sy x.tm.name with
            | true =>
              have HX := Lib.hid (HGO.out (by rw [HNP2.out, ec]))
              clear ec
              gi_wp2
              exact ⟨KeepsFrom.refl _ _, KpT.refl _ _, HX.out, HB1.out⟩
            | false =>
              have HX : Hid (∃ y ∈ pre ++ [x], o.nodeP y.tm = false) := Lib.hid ⟨x, by simp, by rw [HNP2.out, ec]⟩
              obtain ⟨q2, q3⟩ := m2
              have HFO : Hid (FinC w false (w5.setCell ⟨w.heap.size + 1, 0, none⟩ (.bool false))) := Lib.hid (FinC.set q2 (HB4.out.trans (HB1.out.mono HB4.out.size)))
              have HOPX : Hid (Open (w.heap.size + 2) (w5.setCell ⟨w.heap.size + 1, 0, none⟩ (.bool false)) Ds) := Lib.hid (HOPW.out.set (by simp) _)
              have HKF : Hid (KeepsFrom W0.heap.size w5 (w5.setCell ⟨w.heap.size + 1, 0, none⟩ (.bool false))) := Lib.hid ((KeepsOthers.setCell _ _ _).from _)
              clear ec
              gi_wp2
              exact ⟨HKF.out, rfl, HX.out, HFO.out, HOPX.out⟩
        case done =>
          rintro D xs W hD hS ⟨hp, hB1⟩ hK
          have HN : Hid ((ts.take (k + 1)).all o.covN = true) := Lib.hid (by
            rw [all_next HD.out, HQ.out, Bool.true_and]
            refine Od.covN_yes fun s hs => ?_
            rw [← hS] at hs
            obtain ⟨y, hy, rfl⟩ := List.mem_map.1 hs
            exact hp y hy)
          have m1 := h1.kept hB1
          have m2 := h2.kept hB1
          have HBW : Hid (Below w.heap.size w W) := Lib.hid (HB4.out.trans (hB1.mono HB4.out.size))
          have HOPN : Hid (Open (w.heap.size + 2) W (D :: Ds)) := Lib.hid ((HOP3.out.kept hB1).cons (by omega) hK (fun e => by have := HOP3.out.lt e; omega))
          clear hp hB1 hS
          gi_wp2
          refine ⟨⟨k + 1, D :: Ds, _, _, _, _, _, _, _, rfl, by omega, HN.out, m1, m2, HBW.out, HOPN.out⟩, ?_⟩
          simp [intOf]; omega
        case stop =>
          rintro D cc pre W hD hS ⟨rfl, hx, hfo⟩ hK
          have HF2 : Hid (o.covP ts = false) := Lib.hid (by
            obtain ⟨y, hy, hyb⟩ := hx
            rw [HF.out]
            exact all_no HD.out (Od.covN_no (hS y hy) hyb))
          have HFO := Lib.hid hfo.1
          have HOPN : Hid (Open (w.heap.size + 2) W (D :: Ds)) := Lib.hid (hfo.2.cons (by omega) hK (fun e => by have := HOP3.out.lt e; omega))
          clear hx hfo hS
          gi_wp2
          refine leaves_open (FinC w false) (w.heap.size + 2) (fun W D h hB hD => h.put (by omega) hD) (fun W h => ?_) (D :: Ds) _ HOPN.out HFO.out
          obtain ⟨r1, rb⟩ := h
          exact ⟨.bool false, by simp [results, Tryz.results82, go_sem, r1], ret_bool HF2.out.symm, rb⟩
      · have hke : k = ts.length := by omega
        subst hke
        have HF2 : Hid (o.covP ts = true) := Lib.hid (by
          have e := HQ.out
          rw [List.take_length] at e
          exact HF.out.trans e)
        have HFO : Hid (FinC w true (wr.setCell ⟨w.heap.size + 1, 0, none⟩ (.bool true))) := Lib.hid (FinC.set H2.out.1 HB.out)
        have HOPX : Hid (Open (w.heap.size + 2) (wr.setCell ⟨w.heap.size + 1, 0, none⟩ (.bool true)) Ds) := Lib.hid (HOP.out.set (by simp) _)
        obtain ⟨q2, q3⟩ := H2.out
        gi_wp2
        refine leaves_open (FinC w true) (w.heap.size + 2) (fun W D h hB hD => h.put (by omega) hD) (fun W h => ?_) Ds _ HOPX.out HFO.out
        obtain ⟨r1, rb⟩ := h
        exact ⟨.bool true, by simp [results, Tryz.results82, go_sem, r1], ret_bool HF2.out.symm, rb⟩

theorem covers_any (o : Od) (ts : List Tm) (w : World) (sv wv v : Value) (hv : OdV w sv wv o) (ht : TmS w v ts) (ho : o.wt ≤ 1048576) (hl : ts.length ≤ 1000000) (hw : ∀ s ∈ ts, s.wt ≤ 1048576) :
    Calls Tryz.prog 82 #[.agg #[sv, wv, .int .i64 o.va], v] w (Ans (.bool (o.covP ts)) w) := callsIn_wide.1 (covers_in o ts w sv wv v hv ht ho hl hw)

end Go.Proofs.YtohalpafmcobpaaGreat

/- The program's weight of a term, its test that an ordering covers terms, TermWeight: contracts, for orderings and terms of at most 1048576 names' bytes and elements. -/
namespace Go.Proofs.YtohalpafmcobpaaGreat
open Go.RowKit Go.Shelf
set_option linter.unusedVariables false

attribute [local go_sem] Oper.semAt_some

theorem rk_le {l : List ByteArray} {nm : ByteArray} {j : Nat} (h : l[j]? = some nm) : rk l nm ≤ j := by
  unfold rk
  cases e : l.findIdx? (fun s => decide (s = nm)) with
  | none => simp <;> omega
  | some k =>
    obtain ⟨h1, h2, h3⟩ := List.findIdx?_eq_some_iff_getElem.1 e
    simp
    rcases Nat.lt_or_ge j k with hj | hj
    · have := h3 j hj
      have hlt := (List.getElem?_eq_some_iff.1 h).1
      rw [List.getElem?_eq_getElem hlt] at h
      injection h with h
      simp [h] at this
    · exact hj

theorem idx_same (a : Option Addr) (c : Nat) (ss : List ByteArray) (x : ByteArray) (w : World) (hv : StrG w a ss) (hn : ss.length ≤ 1048576) :
    Calls Tryz.prog 132 #[.slice a ss.length c, .string x] w fun e w' => e = .returned (.int .i64 (rk ss x)) ∧ w = w' := by
  have he : Lib.idxOfS ss x = rk ss x := by
    rcases rk_ways ss x with ⟨h1, h2⟩ | ⟨k, h1, h2, h3⟩
    · have := Lib.idxOfS_miss ss ss.length x (fun j hj e => h1 (by rw [getD_eq hj] at e; rw [← e]; exact List.getElem_mem hj))
      rw [List.take_length] at this
      rw [this, h2]
    · have hf : ∀ j, j < k → ss.getD j ByteArray.empty ≠ x := by
        intro j hj e
        rw [getD_eq (show j < ss.length by omega)] at e
        have e2 : ss[j]? = some x := by rw [List.getElem?_eq_getElem (by omega), e]
        have := rk_le e2
        omega
      have := Lib.idxOfS_hit ss ss.length k x h2 (Nat.le_refl _) (getD_at h3) hf
      rw [List.take_length] at this
      rw [this, h1]
  by_cases h0 : ss.length = 0
  · have e := List.length_eq_zero_iff.1 h0
    subst e
    refine (Tryz.slices_Index_string_empty a c x w).mono ?_
    rintro e w' ⟨rfl, rfl⟩
    exact ⟨by rw [he], rfl⟩
  · obtain ⟨b, off, rfl, _⟩ := hv 0 _ (List.getElem?_eq_getElem (by omega))
    have h := Tryz.slices_Index_string b off ss.length c ss x w (Nat.le_refl _) (by omega) (fun i hi => by
      obtain ⟨b', off', e, hc⟩ := hv i _ (List.getElem?_eq_getElem hi)
      injection e with e
      injection e with e1 e2
      subst e1 e2
      rw [hc, getD_eq hi])
    rw [List.take_length, he] at h
    refine h.mono ?_
    rintro e w' ⟨rfl, rfl⟩
    exact ⟨rfl, rfl⟩

theorem isEq_any (t : Tm) (w : World) (va : Value) (hv : TmS w va t.args) :
    Calls Tryz.prog 125 #[.agg #[.string t.name, va]] w (Ans (.bool (isEqB t.name)) w) := by
  obtain ⟨a, c, rfl⟩ := hv.is_slice
  have HB := Lib.hid ((Below.refl w.heap.size w).alloc (Nat.le_refl _) (.cells #[.string t.name, .slice a t.args.length c] 39))
  clear hv
  cases h : isEqB t.name with
  | true =>
    have hq : (t.name.toList == [61]) = true := h
    have HE := Lib.hid h
    clear h
    go_enter Tryz.func125, Tryz.ntmps125
    go_wp2
    go_ret
    exact ⟨rfl, HB.out⟩
  | false =>
    have hq : (t.name.toList == [61]) = false := h
    have HE := Lib.hid h
    clear h
    go_enter Tryz.func125, Tryz.ntmps125
    go_wp2
    go_ret
    exact ⟨rfl, HB.out⟩

/-- What a search for the first term of a list with a property answers. -/
def IdxT (p : Tm → Bool) (l : List Tm) (w : World) (e : Ending) (w' : World) : Prop :=
  ∃ i : Int, e = .returned (.int .i64 i) ∧ ((i = -1 ∧ ∀ d ∈ l, p d = false) ∨ ∃ k : Nat, i = k ∧ k < l.length ∧ (∀ j d, j < k → l[j]? = some d → p d = false) ∧ ∀ d, l[k]? = some d → p d = true) ∧ Below w.heap.size w w'

set_option maxHeartbeats 2000000 in
theorem idxEq_any (p : Tm → Bool) (l : List Tm) (w : World) (v : Value) (hv : TmS w v l) (hl : l.length ≤ 1048576)
    (hc : ∀ (t : Tm) (W : World) (va : Value), t ∈ l → Below w.heap.size w W → TmS W va t.args → Calls Tryz.prog 125 #[.agg #[.string t.name, va]] W (Ans (.bool (p t)) W)) :
    Calls Tryz.prog 153 #[v, .func (.func 125) #[] #[]] w (IdxT p l w) := by
  obtain ⟨a, c, rfl⟩ := hv.is_slice
  have HV := Lib.hid hv
  have HC := Lib.hid hc
  clear hv hc
  go_enter Tryz.func153, Tryz.ntmps153
  go_wp2
  go_loopw [8] (fun i wr => ∃ k : Nat, k ≤ l.length ∧ i = .int .i64 k ∧ (∀ j d, j < k → l[j]? = some d → p d = false) ∧ Below w.heap.size w wr) (fun i _ => l.length - (intOf i).toNat)
  case atStart => exact ⟨0, Nat.zero_le _, rfl, fun j d hj => absurd hj (Nat.not_lt_zero _), Below.refl _ _⟩
  case round =>
    obtain ⟨k, hk, rfl, hq, hbel⟩ := hrel
    have HQ := Lib.hid hq
    have HB := Lib.hid hbel
    clear hq hbel
    by_cases hlt : k < l.length
    · obtain ⟨d, hd⟩ : ∃ d, l[k]? = some d := ⟨_, List.getElem?_eq_getElem hlt⟩
      obtain ⟨b, off, rfl, va, c0, c1, hva⟩ := HV.out.get hd
      obtain ⟨pa, ca, rfl⟩ := hva.is_slice
      have c0' := carry_cell c0 HB.out
      have c1' := carry_cell c1 HB.out
      have HD := Lib.hid hd
      have CT := HC.out d wr _ (mem_of_at hd) HB.out (hva.kept HB.out)
      obtain ⟨q, hq⟩ : ∃ q, q = p d := ⟨_, rfl⟩
      rw [← hq] at CT
      have CT := Lib.hid CT
      have HQD := Lib.hid hq
      clear hd hva c0 c1 hq
      go_wp2_with fail
      refine CT.out.mono ?_
      rintro e w2 ⟨rfl, hb⟩
      have HB2 := Lib.hid (carry_below HB.out (Nat.le_refl _) hb)
      clear hb
      cases q with
      | true =>
        have HE : Hid (IdxT p l w (.returned (.int .i64 k)) w2) := Lib.hid ⟨k, rfl, .inr ⟨k, rfl, hlt, HQ.out, fun x hx => by rw [HD.out] at hx; injection hx with hx; rw [← hx]; exact HQD.out.symm⟩, HB2.out⟩
        go_wp2
        go_ret
        exact HE.out
      | false =>
        have HN : Hid (∀ j x, j < k + 1 → l[j]? = some x → p x = false) := Lib.hid (fun j x hj hx => by
          by_cases e : j = k
          · subst e; rw [HD.out] at hx; injection hx with hx; rw [← hx]; exact HQD.out.symm
          · exact HQ.out j x (by omega) hx)
        go_wp2
        go_roundw
        case rel => exact ⟨k + 1, by omega, by go_num, HN.out, HB2.out⟩
        case measure => simp [intOf]; omega
    · have hke : k = l.length := by omega
      have HE : Hid (IdxT p l w (.returned (.int .i64 (-1))) wr) := Lib.hid ⟨-1, rfl, .inl ⟨rfl, fun d hd => by
        obtain ⟨j, hj⟩ := List.getElem?_of_mem hd
        exact HQ.out j d (by rw [hke]; exact (List.getElem?_eq_some_iff.1 hj).1) hj⟩, HB.out⟩
      go_wp2
      go_ret
      exact HE.out

theorem idxT_any {p : Tm → Bool} {l : List Tm} {w w' : World} {e : Ending} (h : IdxT p l w e w') : ∃ i : Int, e = .returned (.int .i64 i) ∧ decide (0 ≤ i) = l.any p ∧ Below w.heap.size w w' := by
  obtain ⟨i, rfl, ⟨rfl, h⟩ | ⟨k, rfl, hk, h1, h2⟩, hb⟩ := h
  · refine ⟨_, rfl, ?_, hb⟩
    have : l.any p = false := by rw [List.any_eq_false]; intro x hx; rw [h x hx]; simp
    rw [this]; decide
  · refine ⟨_, rfl, ?_, hb⟩
    have : l.any p = true := by rw [List.any_eq_true]; exact ⟨l[k], List.getElem_mem hk, h2 _ (List.getElem?_eq_getElem hk)⟩
    rw [this]; simp

theorem conEq_any (l : List Tm) (w : World) (v : Value) (hv : TmS w v l) (hl : l.length ≤ 1048576) :
    Calls Tryz.prog 157 #[v, .func (.func 125) #[] #[]] w (Ans (.bool (l.any fun t => isEqB t.name)) w) := by
  obtain ⟨a, c, rfl⟩ := hv.is_slice
  have CI := Lib.hid (idxEq_any (fun t => isEqB t.name) l w _ hv hl (fun t W va _ _ h => isEq_any t W va h))
  clear hv
  go_enter Tryz.func157, Tryz.ntmps157
  go_wp2_with fail
  refine CI.out.mono ?_
  intro e w1 h
  obtain ⟨i, rfl, hi, hb⟩ := idxT_any h
  have HI := Lib.hid hi
  have HB := Lib.hid hb
  clear h hi hb
  go_wp2
  go_ret
  exact ⟨ret_bool HI.out, HB.out⟩

/-! ### Valid terms: the two sides' tests are one -/

theorem nodesB_nds : ∀ t : Tm, t.nodesB = true → ∀ s ∈ t.nds, varB s.name = true ∨ symB s.name = true := Tm.ind fun t ih h s hs => by
  have hroot : varB t.name = true ∨ symB t.name = true := by
    cases hv : varB t.name with
    | true => exact .inl rfl
    | false => rw [Tm.nodesB_sym hv, Bool.and_eq_true] at h; exact .inr h.1
  have hargs : ∀ x ∈ t.args, x.nodesB = true := by
    intro x hx
    cases hv : varB t.name with
    | true => rw [Tm.nodesB_var hv, List.isEmpty_iff] at h; rw [h] at hx; cases hx
    | false =>
      rw [Tm.nodesB_sym hv, Bool.and_eq_true, Bool.and_eq_true, List.all_eq_true] at h
      exact h.2.2 x hx
  rw [t.nds_eq] at hs
  rcases List.mem_cons.1 hs with rfl | hs
  · exact hroot
  · have : ∀ l : List Tm, (∀ x ∈ l, x ∈ t.args) → s ∈ Tm.ndsL l → varB s.name = true ∨ symB s.name = true := by
      intro l
      induction l with
      | nil => intro _ h; simp [Tm.ndsL] at h
      | cons a r ih2 =>
        intro hl h
        rw [Tm.ndsL, List.mem_append] at h
        rcases h with h | h
        · exact ih a (hl a List.mem_cons_self) (hargs a (hl a List.mem_cons_self)) s h
        · exact ih2 (fun x hx => hl x (List.mem_cons_of_mem _ hx)) h
    exact this t.args (fun x hx => hx) hs
theorem goodB_nds {t : Tm} (h : goodB t = true) : ∀ s ∈ t.nds, varB s.name = true ∨ symB s.name = true := by
  unfold goodB at h
  rw [Bool.and_eq_true] at h
  exact nodesB_nds t h.2
theorem isEq_not {s : ByteArray} (h : isEqB s = true) : varB s = false ∧ symB s = false := by
  have e : s = ⟨#[61]⟩ := toList_inj (by unfold isEqB at h; rw [beq_iff_eq] at h; rw [h, ByteArray.toList_eq])
  subst e
  exact ⟨by decide +kernel, by decide +kernel⟩
theorem nodes_cov {o : Od} {l : List Tm} (h : ∀ s ∈ l, varB s.name = true ∨ symB s.name = true) : l.all o.nodeP = l.all o.nodeC := by
  induction l with
  | nil => rfl
  | cons s r ih =>
    rw [List.all_cons, List.all_cons, ih (fun x hx => h x (List.mem_cons_of_mem _ hx))]
    congr 1
    unfold Od.nodeP Od.nodeC
    rcases h s List.mem_cons_self with h1 | h1
    · rw [h1, var_not_sym h1]; rfl
    · have h2 : varB s.name = false := by
        cases hv : varB s.name with
        | false => rfl
        | true => rw [var_not_sym hv] at h1; cases h1
      rw [h1, h2, Bool.not_true, Bool.false_or, Bool.false_or, Bool.eq_iff_iff, Lib.containsS_iff, decide_eq_true_iff, rk_has]
theorem cov_one (o : Od) (t : Tm) : (anyB t && (o.covN t && !isEqB t.name)) = (goodB t && o.cov t) := by
  cases hg : goodB t with
  | true =>
    have ha : anyB t = true := by unfold anyB; rw [hg]; rfl
    have he : isEqB t.name = false := by
      cases e : isEqB t.name with
      | false => rfl
      | true =>
        have h1 := isEq_not e
        rcases goodB_nds hg t (by rw [t.nds_eq]; exact List.mem_cons_self) with h | h
        · rw [h1.1] at h; cases h
        · rw [h1.2] at h; cases h
    have hc : o.covN t = o.cov t := nodes_cov (goodB_nds hg)
    rw [ha, he, hc]; simp
  | false =>
    cases he : isEqB t.name with
    | true => simp
    | false =>
      have ha : anyB t = false := by unfold anyB atomB; rw [he, hg]; simp
      rw [ha]; rfl
/-- Every term of a list is valid and covered, and the ordering is valid. -/
def Od.okTs (o : Od) (ts : List Tm) : Bool := o.good && ts.all fun t => goodB t && o.cov t
theorem okTs_eq (o : Od) (ts : List Tm) : (o.covP ts && !(ts.any fun t => isEqB t.name)) = o.okTs ts := by
  unfold Od.covP Od.okTs
  rw [Bool.and_assoc]
  congr 1
  induction ts with
  | nil => rfl
  | cons t r ih =>
    rw [List.all_cons, List.all_cons, List.all_cons, List.any_cons, ← ih, ← cov_one o t]
    cases anyB t <;> cases o.covN t <;> cases isEqB t.name <;> simp

end Go.Proofs.YtohalpafmcobpaaGreat

/- The program's test of a variable's name, for every string. No condition. -/
namespace Go.Proofs.YtohalpafmcobpaaGreat
open Go.RowKit
set_option linter.unusedVariables false

theorem word_big (s : ByteArray) (w : World) (h1 : 4 < s.size) :
    Calls Tryz.prog 150 #[.string s, .int .i64 4] w fun e w' => e = .returned (.bool false) ∧ w = w' := by
  go_enter Tryz.func150, Tryz.ntmps150
  go_wp2
  go_ret
  exact ⟨rfl, rfl⟩
theorem isVar_all (s : ByteArray) (w : World) :
    Calls Tryz.prog 131 #[.string s] w fun e w' => e = .returned (.bool (varB s)) ∧ w = w' := by
  by_cases h : 4 < s.size
  · have C := Lib.hid (word_big s w h)
    have H : Hid (varB s = false) := Lib.hid (varB_short (by omega))
    clear h
    go_enter Tryz.func131, Tryz.ntmps131
    go_wp2_with fail
    refine C.out.mono ?_
    rintro e w' ⟨rfl, rfl⟩
    go_wp2
    go_ret
    exact ⟨ret_bool H.out.symm, rfl⟩
  · exact isVar_any s w (by unfold maxLen; omega)

end Go.Proofs.YtohalpafmcobpaaGreat

/- The program's weight of a term, TermWeight: contracts, for orderings and terms of at most 1048576 names' bytes and elements. -/
namespace Go.Proofs.YtohalpafmcobpaaGreat
open Go.RowKit Go.Shelf
set_option linter.unusedVariables false

attribute [local go_sem] Oper.semAt_some

theorem Od.wN_var {o : Od} {s : Tm} (h : varB s.name = true) : o.wN s = o.va := by unfold Od.wN; rw [h]; rfl
theorem Od.wN_no {o : Od} {s : Tm} (h : varB s.name = false) (h' : rk o.sy s.name = -1) : o.wN s = 0 := by unfold Od.wN; rw [h, h']; rfl
theorem Od.wN_at {o : Od} {s : Tm} {k : Nat} {x : Int} (h : varB s.name = false) (h' : rk o.sy s.name = k) (hx : o.ws[k]? = some x) : o.wN s = x := by
  unfold Od.wN; rw [h, h', if_neg (by simp), if_pos (by omega), Int.toNat_natCast, getD_atI hx]
theorem Od.wNs_snoc (o : Od) (l : List Tm) (s : Tm) : o.wNs (l ++ [s]) = o.wNs l + o.wN s := by rw [Od.wNs_append]; simp [Od.wNs]

set_option maxRecDepth 100000 in
set_option maxHeartbeats 8000000 in
theorem weightOf_in (o : Od) (t : Tm) (w : World) (sv wv va : Value) (hv : OdV w sv wv o) (ht : TmS w va t.args) (ho : o.wt ≤ 1048576) (hf : o.Fine) (hw : t.wt ≤ 1048576) (hz : t.sz ≤ 30) :
    CallsIn Fence.wide 9 Tryz.prog 184 #[.agg #[sv, wv, .int .i64 o.va], .agg #[.string t.name, va]] w (Ans (.int .i64 (o.wT t)) w) := by
  obtain ⟨sa, sc, wa, wc, rfl, rfl⟩ := hv.open
  obtain ⟨a, c, rfl⟩ := ht.is_slice
  have hdd : ∀ k : Nat, (Fence.wide.depth.isSome = true → 1 ≤ k) := fun k h => by cases h
  have hsl : o.sy.length ≤ 1048576 := Nat.le_trans o.wt_sy ho
  have HF := Lib.hid hf
  have hva := And.intro hf.v1 hf.v2
  obtain ⟨wB, hwB⟩ : ∃ wB, (w.alloc (.cells #[.slice sa o.sy.length sc, .slice wa o.ws.length wc, .int .i64 o.va] 35)).alloc (.cells #[.string t.name, .slice a t.args.length c] 39) = wB := ⟨_, rfl⟩
  have HB : Hid (Below w.heap.size w wB) := Lib.hid (by rw [← hwB]; exact ((Below.refl w.heap.size w).alloc (Nat.le_refl _) _).alloc (by simp) _)
  have H3 : Hid (Thr wB w.heap.size (.slice sa o.sy.length sc) (.slice wa o.ws.length wc) (.int .i64 o.va)) := Lib.hid (by rw [← hwB]; exact (thr_new w _ _ _ _ _ rfl).alloc _)
  have H2 : Hid (Two wB (w.heap.size + 1) (.string t.name) (.slice a t.args.length c)) := Lib.hid (by rw [← hwB]; exact two_new _ _ _ 39 (w.heap.size + 1) (by simp))
  have HV := Lib.hid (hv.kept HB.out)
  have HT := Lib.hid (ht.kept HB.out)
  have C5 := Lib.hid ((Boxed.new wB 3 (.int .i64 0)).alloc (.cells #[.string t.name, .slice a t.args.length c] 39))
  have X5 := Lib.hid (two_new (wB.alloc (.cells #[.int .i64 0] 3)) (.string t.name) (.slice a t.args.length c) 39 (wB.heap.size + 1) (by simp))
  have B6 := Lib.hid (((Below.refl wB.heap.size wB).alloc (Nat.le_refl _) (.cells #[.int .i64 0] 3)).alloc (by simp) (.cells #[.string t.name, .slice a t.args.length c] 39))
  have HTA := Lib.hid (HT.out.alloc (.cells #[.int .i64 0] 3))
  obtain ⟨d0, d1, d2⟩ := H2.out.alloc (.cells #[.int .i64 0] 3)
  clear hv ht hf
  refine callsIn_of_wp_marks Tryz.func184 rfl trivial ?_ rfl
  simp only [Tryz.ntmps184, List.size_toArray, List.length_cons, List.length_nil, Nat.reduceAdd, Nat.reduceSub, Array.replicate_succ, Array.replicate_zero, List.push_toArray, List.append_toArray, List.nil_append, List.cons_append]
  gi_wp2
  refine ⟨trivial, ?_⟩
  refine (callsIn_wide.2 (nodesOf_any t _ _ HTA.out)).mono ?_
  rintro e w2 ⟨rfl, rfl⟩
  obtain ⟨W0, hW0⟩ : ∃ W0, (wB.alloc (.cells #[.int .i64 0] 3)).alloc (.cells #[.string t.name, .slice a t.args.length c] 39) = W0 := ⟨_, rfl⟩
  have hW0s : W0.heap.size = wB.heap.size + 2 := by rw [← hW0]; simp
  rw [hW0] at C5 X5 B6 ⊢
  clear hW0 d0 d1 d2 hwB
  gi_wp2
  have hlim : t.lim 9223372036854775806 := Tm.lim_of_wt t _ (by omega)
  have hN : t.nds.length ≤ 30 := by rw [Tm.nds_len]; exact hz
  refine wpIn_rangeFunc_ownH rfl (by omega) (gf := 148) (lb := #[.pointer (some ⟨wB.heap.size + 1, 0, none⟩)]) rfl trivial (enters_of Tryz.func148 (by kernel_rfl) rfl)
    (nodes_stops (9 - 1) (wB.heap.size + 1) wB t _ hlim HT.out W0 B6.out (by omega) X5.out) (fun h k => h.trans k) (KpT.book (by omega)) (Below.refl _ _) (fun _ => rfl)
    (fun pre W => Boxed W wB.heap.size 3 (.int .i64 (o.wNs (pre.map Nd.tm))) ∧ Below wB.heap.size wB W)
    (fun _ _ _ => False)
    (OwnFrom.and (Own.from (boxed_own _ _ _) _) (ownFrom_below (Nat.le_refl _) (by omega)))
    (fun _ _ _ _ _ hs _ _ => hs)
    ⟨by simpa [Od.wNs] using C5.out, B6.out⟩
    (fun x a' W => ∃ Bx, NdBox W Bx x ∧ a' = { tmps := #[.agg #[.slice sa o.sy.length sc, .slice wa o.ws.length wc, .int .i64 o.va], .agg #[.string t.name, .slice a t.args.length c], .pointer (some ⟨w.heap.size, 0, none⟩), .pointer (some ⟨w.heap.size + 1, 0, none⟩), .int .i64 0, .pointer (some ⟨wB.heap.size, 0, none⟩), .pointer (some ⟨Bx, 0, none⟩), undef, .agg #[.string t.name, .slice a t.args.length c], .func (.func 148) #[] #[.pointer (some ⟨wB.heap.size + 1, 0, none⟩)], .agg #[.string x.tm.name, .slice x.a x.tm.args.length x.c], undef, undef, undef, undef, undef, undef, undef, undef, undef, undef, undef, undef, undef, undef, undef, undef, undef, undef, undef, undef, undef, undef], defers := [] })
    (fun x a' _ X Y row hs hg hr => by obtain ⟨Bx, h2, h3⟩ := hs; exact ⟨Bx, ndBox_own Bx (fun _ => x) () X Y row h2 hg (fun r e => (hr r e).2), h3⟩)
    ?assign ?body ?done ?stop
  case assign =>
    rintro l pre x W K ⟨bC, hB1⟩ hK
    simp only [Nd.enc]
    gi_wp2
    exact hK _ _ ((KeepsOthers.alloc _ _).from _) ((KpT.refl _ W).alloc hB1.size _) ⟨bC.alloc _, hB1.alloc hB1.size _⟩ ⟨W.heap.size, NdBox.new W x, rfl⟩
  case body =>
    rintro l pre x a' W hl ⟨r, hr⟩ ⟨bC, hB1⟩ ⟨Bx, hbx, rfl⟩ hlt
    obtain ⟨x0, x1⟩ := hbx.cells
    have k0 := bC.cell
    have k1 := bC.frozen
    obtain ⟨g0, g1, g2, g3⟩ := H3.out.kept hB1
    have hsum := HF.out.wNs_le (pre.map Nd.tm)
    rw [List.length_map] at hsum
    have hwx := HF.out.wN_le x.tm
    have HSN := Lib.hid (show o.wNs ((pre ++ [x]).map Nd.tm) = o.wNs (pre.map Nd.tm) + o.wN x.tm by rw [List.map_append]; exact o.wNs_snoc _ _)
    have CV := Lib.hid (isVar_all x.tm.name W)
    have CN := Lib.hid (idx_same sa sc o.sy x.tm.name W (StrG.of (HV.out.kept hB1).st) hsl)
    obtain ⟨S, hS⟩ : ∃ S, o.wNs (pre.map Nd.tm) = S := ⟨_, rfl⟩
    rw [hS] at bC k0 hsum HSN
    clear hS
    have fin : ∀ u : Int, u = o.wNs ((pre ++ [x]).map Nd.tm) → KeepsFrom W0.heap.size W (W.setCell ⟨wB.heap.size, 0, none⟩ (.int .i64 u)) ∧ KpT wB.heap.size W (W.setCell ⟨wB.heap.size, 0, none⟩ (.int .i64 u)) ∧ (Boxed (W.setCell ⟨wB.heap.size, 0, none⟩ (.int .i64 u)) wB.heap.size 3 (.int .i64 (o.wNs ((pre ++ [x]).map Nd.tm))) ∧ Below wB.heap.size wB (W.setCell ⟨wB.heap.size, 0, none⟩ (.int .i64 u))) := fun u hu =>
      ⟨(KeepsOthers.setCell _ _ _).from _, ⟨(Below.refl _ W).setCell (p := ⟨wB.heap.size, 0, none⟩) (by simp) _, KeepTm.grown (grownBy_setCell' W wB.heap.size _) (fun r e aa fz hr => by
          cases e
          rw [show W.heap[wB.heap.size]? = _ from bC] at hr
          cases hr)⟩, ⟨by rw [← hu]; exact bC.set _, hB1.setCell (p := ⟨wB.heap.size, 0, none⟩) (by simp) _⟩⟩
    have FIN := Lib.hid fin
    have HV1 := Lib.hid (HV.out.kept hB1)
    have HBC := Lib.hid bC
    have HB1 := Lib.hid hB1
    clear fin bC hB1
    cases hb : varB x.tm.name with
    | true =>
      rw [hb] at CV
      have HE : Hid (S + o.va = o.wNs ((pre ++ [x]).map Nd.tm)) := Lib.hid (by rw [HSN.out, Od.wN_var hb])
      clear hb
      gi_wp2
      refine ⟨trivial, ?_⟩
      refine (callsIn_wide.2 CV.out).mono ?_
      rintro e w4 ⟨rfl, rfl⟩
      gi_wp2
      exact FIN.out _ HE.out
    | false =>
      rw [hb] at CV
      rcases rk_ways o.sy x.tm.name with ⟨r1, r2⟩ | ⟨q, r1, r2, r3⟩
      · have HE : Hid (o.wNs ((pre ++ [x]).map Nd.tm) = S) := Lib.hid (by rw [HSN.out, Od.wN_no hb r2]; omega)
        rw [r2] at CN
        clear hb r1 r2
        gi_wp2
        refine ⟨trivial, ?_⟩
        refine (callsIn_wide.2 CV.out).mono ?_
        rintro e w4 ⟨rfl, rfl⟩
        gi_wp2
        refine ⟨trivial, ?_⟩
        refine (callsIn_wide.2 CN.out).mono ?_
        rintro e w5 ⟨rfl, rfl⟩
        gi_wp2
        exact ⟨KeepsFrom.refl _ _, KpT.refl _ _, by rw [HE.out]; exact HBC.out, HB1.out⟩
      · have hqw : q < o.ws.length := by have := HF.out.wn; omega
        obtain ⟨y, hy⟩ : ∃ y, o.ws[q]? = some y := ⟨_, List.getElem?_eq_getElem hqw⟩
        obtain ⟨yb, yo, rfl, hyc⟩ := (IntG.of HV1.out.is) q y hy
        have HE : Hid (S + y = o.wNs ((pre ++ [x]).map Nd.tm)) := Lib.hid (by rw [HSN.out, Od.wN_at hb r1 hy])
        have hyw := HF.out.weight hy
        rw [r1] at CN
        clear hb r1 r3 hy
        gi_wp2
        refine ⟨trivial, ?_⟩
        refine (callsIn_wide.2 CV.out).mono ?_
        rintro e w4 ⟨rfl, rfl⟩
        gi_wp2
        refine ⟨trivial, ?_⟩
        refine (callsIn_wide.2 CN.out).mono ?_
        rintro e w5 ⟨rfl, rfl⟩
        gi_wp2
        have hqq := FIN.out (IntKind.i64.wrap (S + y)) (by rw [IntWalk.i64_in _ (by omega)]; exact HE.out)
        have HQQ := Lib.hid hqq
        clear hqq
        gi_region
        all_goals gi_wp2
        all_goals have hq := HQQ.out
        all_goals exact ⟨hq.1.trans (KeepsFrom.of_grownBy (row := none) ⟨rfl, rfl, rfl, Nat.le_refl _, fun _ _ _ => rfl⟩ (fun j e => by cases e)), ⟨hq.2.1.1.drew, KeepTm.drew hq.2.1.2⟩, hq.2.2.1, hq.2.2.2.drew⟩
  case done =>
    rintro D xs W hD hS ⟨bC, hB1⟩ hK
    have k0 := bC.cell
    have HE : Hid (o.wNs (xs.map Nd.tm) = o.wT t) := Lib.hid (by rw [hS]; rfl)
    gi_wp2
    refine ⟨by simp, .inl ⟨_, _, rfl, run_takeDeferred hK, ?_⟩⟩
    refine ⟨_, results_tmp rfl _ _ _, ?_, HB.out.trans ((hB1.trans (belowK_b (w := wB) (Nat.le_refl _) W D _ _ (by omega) hK rfl rfl)).mono HB.out.size)⟩
    first | exact ret_int HE.out | exact rfl
  case stop =>
    rintro D c pre W _ _ h _
    exact h.elim

theorem weightOf_any (o : Od) (t : Tm) (w : World) (sv wv va : Value) (hv : OdV w sv wv o) (ht : TmS w va t.args) (ho : o.wt ≤ 1048576) (hf : o.Fine) (hw : t.wt ≤ 1048576) (hz : t.sz ≤ 30) :
    Calls Tryz.prog 184 #[.agg #[sv, wv, .int .i64 o.va], .agg #[.string t.name, va]] w (Ans (.int .i64 (o.wT t)) w) := callsIn_wide.1 (weightOf_in o t w sv wv va hv ht ho hf hw hz)

theorem okTs_one (o : Od) (t : Tm) : o.okTs [t] = o.okT t := by unfold Od.okTs Od.okT; simp

end Go.Proofs.YtohalpafmcobpaaGreat
