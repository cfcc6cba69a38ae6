/- The program's weight of a term, TermWeight: contracts, for orderings and terms of at most 1048576 names' bytes and elements. -/
import Derived.Test.YtnabjnlphelccaaOgV
import Derived.Test.YtnabjnlphelccaaVarA
namespace Go.Proofs.Ytnabjnlphelccaa
open Go.RowKit Go.Shelf
set_option linter.unusedVariables false

attribute [local go_sem] Oper.semAt_some

theorem Od.wN_var {o : Od} {s : Tm} (h : varB s.name = true) : o.wN s = o.va := by unfold Od.wN; rw [h]; rfl
theorem Od.wN_no {o : Od} {s : Tm} (h : varB s.name = false) (h' : rk o.sy s.name = -1) : o.wN s = 0 := by unfold Od.wN; rw [h, h']; rfl
theorem Od.wN_at {o : Od} {s : Tm} {k : Nat} {x : Int} (h : varB s.name = false) (h' : rk o.sy s.name = k) (hx : o.ws[k]? = some x) : o.wN s = x := by
  unfold Od.wN; rw [h, h', if_neg (by simp), if_pos (by omega), Int.toNat_natCast, getD_atI hx]
theorem Od.wNs_snoc (o : Od) (l : List Tm) (s : Tm) : o.wNs (l ++ [s]) = o.wNs l + o.wN s := by rw [Od.wNs_append]; simp [Od.wNs]

set_option maxRecDepth 100000 in
set_option maxHeartbeats 8000000 in
theorem weightOf_in (o : Od) (t : Tm) (w : World) (sv wv va : Value) (hv : OdV w sv wv o) (ht : TmS w va t.args) (ho : o.wt ≤ 1048576) (hf : o.Fine) (hw : t.wt ≤ 1048576) (hz : t.sz ≤ 30) :
    CallsIn Fence.wide 9 Try.prog 78 #[.agg #[sv, wv, .int .i64 o.va], .agg #[.string t.name, va]] w (Ans (.int .i64 (o.wT t)) w) := by
  obtain ⟨sa, sc, wa, wc, rfl, rfl⟩ := hv.open
  obtain ⟨a, c, rfl⟩ := ht.is_slice
  have hdd : ∀ k : Nat, (Fence.wide.depth.isSome = true → 1 ≤ k) := fun k h => by cases h
  have hsl : o.sy.length ≤ 1048576 := Nat.le_trans o.wt_sy ho
  have HF := Lib.hid hf
  have hva := And.intro hf.v1 hf.v2
  obtain ⟨wB, hwB⟩ : ∃ wB, (w.alloc (.cells #[.slice sa o.sy.length sc, .slice wa o.ws.length wc, .int .i64 o.va] 27)).alloc (.cells #[.string t.name, .slice a t.args.length c] 30) = wB := ⟨_, rfl⟩
  have HB : Hid (Below w.heap.size w wB) := Lib.hid (by rw [← hwB]; exact ((Below.refl w.heap.size w).alloc (Nat.le_refl _) _).alloc (by simp) _)
  have H3 : Hid (Thr wB w.heap.size (.slice sa o.sy.length sc) (.slice wa o.ws.length wc) (.int .i64 o.va)) := Lib.hid (by rw [← hwB]; exact (thr_new w _ _ _ _ _ rfl).alloc _)
  have H2 : Hid (Two wB (w.heap.size + 1) (.string t.name) (.slice a t.args.length c)) := Lib.hid (by rw [← hwB]; exact two_new _ _ _ 30 (w.heap.size + 1) (by simp))
  have HV := Lib.hid (hv.kept HB.out)
  have HT := Lib.hid (ht.kept HB.out)
  have C5 := Lib.hid ((Boxed.new wB 3 (.int .i64 0)).alloc (.cells #[.string t.name, .slice a t.args.length c] 30))
  have X5 := Lib.hid (two_new (wB.alloc (.cells #[.int .i64 0] 3)) (.string t.name) (.slice a t.args.length c) 30 (wB.heap.size + 1) (by simp))
  have B6 := Lib.hid (((Below.refl wB.heap.size wB).alloc (Nat.le_refl _) (.cells #[.int .i64 0] 3)).alloc (by simp) (.cells #[.string t.name, .slice a t.args.length c] 30))
  have HTA := Lib.hid (HT.out.alloc (.cells #[.int .i64 0] 3))
  obtain ⟨d0, d1, d2⟩ := H2.out.alloc (.cells #[.int .i64 0] 3)
  clear hv ht hf
  refine callsIn_of_wp_marks Try.func78 rfl trivial ?_ rfl
  simp only [Try.ntmps78, List.size_toArray, List.length_cons, List.length_nil, Nat.reduceAdd, Nat.reduceSub, Array.replicate_succ, Array.replicate_zero, List.push_toArray, List.append_toArray, List.nil_append, List.cons_append]
  gi_wp2
  refine ⟨trivial, ?_⟩
  refine (callsIn_wide.2 (nodesOf_any t _ _ HTA.out)).mono ?_
  rintro e w2 ⟨rfl, rfl⟩
  obtain ⟨W0, hW0⟩ : ∃ W0, (wB.alloc (.cells #[.int .i64 0] 3)).alloc (.cells #[.string t.name, .slice a t.args.length c] 30) = W0 := ⟨_, rfl⟩
  have hW0s : W0.heap.size = wB.heap.size + 2 := by rw [← hW0]; simp
  rw [hW0] at C5 X5 B6 ⊢
  clear hW0 d0 d1 d2 hwB
  gi_wp2
  have hlim : t.lim 9223372036854775806 := Tm.lim_of_wt t _ (by omega)
  have hN : t.nds.length ≤ 30 := by rw [Tm.nds_len]; exact hz
  refine wpIn_rangeFunc_ownH rfl (by omega) (gf := 133) (lb := #[.pointer (some ⟨wB.heap.size + 1, 0, none⟩)]) rfl trivial (enters_of Try.func133 (by kernel_rfl) rfl)
    (nodes_stops (9 - 1) (wB.heap.size + 1) wB t _ hlim HT.out W0 B6.out (by omega) X5.out) (fun h k => h.trans k) (KpT.book (by omega)) (Below.refl _ _) (fun _ => rfl)
    (fun pre W => Boxed W wB.heap.size 3 (.int .i64 (o.wNs (pre.map Nd.tm))) ∧ Below wB.heap.size wB W)
    (fun _ _ _ => False)
    (OwnFrom.and (Own.from (boxed_own _ _ _) _) (ownFrom_below (Nat.le_refl _) (by omega)))
    (fun _ _ _ _ _ hs _ _ => hs)
    ⟨by simpa [Od.wNs] using C5.out, B6.out⟩
    (fun x a' W => ∃ Bx, NdBox W Bx x ∧ a' = { tmps := #[.agg #[.slice sa o.sy.length sc, .slice wa o.ws.length wc, .int .i64 o.va], .agg #[.string t.name, .slice a t.args.length c], .pointer (some ⟨w.heap.size, 0, none⟩), .pointer (some ⟨w.heap.size + 1, 0, none⟩), .int .i64 0, .pointer (some ⟨wB.heap.size, 0, none⟩), .pointer (some ⟨Bx, 0, none⟩), undef, .agg #[.string t.name, .slice a t.args.length c], .func (.func 133) #[] #[.pointer (some ⟨wB.heap.size + 1, 0, none⟩)], .agg #[.string x.tm.name, .slice x.a x.tm.args.length x.c], undef, undef, undef, undef, undef, undef, undef, undef, undef, undef, undef, undef, undef, undef, undef, undef, undef, undef, undef, undef, undef, undef], defers := [] })
    (fun x a' _ X Y row hs hg hr => by obtain ⟨Bx, h2, h3⟩ := hs; exact ⟨Bx, ndBox_own Bx (fun _ => x) () X Y row h2 hg (fun r e => (hr r e).2), h3⟩)
    ?assign ?body ?done ?stop
  case assign =>
    rintro l pre x W K ⟨bC, hB1⟩ hK
    simp only [Nd.enc]
    gi_wp2
    exact hK _ _ ((KeepsOthers.alloc _ _).from _) ((KpT.refl _ W).alloc hB1.size _) ⟨bC.alloc _, hB1.alloc hB1.size _⟩ ⟨W.heap.size, NdBox.new W x, rfl⟩
  case body =>
    rintro l pre x a' W hl ⟨r, hr⟩ ⟨bC, hB1⟩ ⟨Bx, hbx, rfl⟩ hlt
    obtain ⟨x0, x1⟩ := hbx.cells
    have k0 := bC.cell
    have k1 := bC.frozen
    obtain ⟨g0, g1, g2, g3⟩ := H3.out.kept hB1
    have hsum := HF.out.wNs_le (pre.map Nd.tm)
    rw [List.length_map] at hsum
    have hwx := HF.out.wN_le x.tm
    have HSN := Lib.hid (show o.wNs ((pre ++ [x]).map Nd.tm) = o.wNs (pre.map Nd.tm) + o.wN x.tm by rw [List.map_append]; exact o.wNs_snoc _ _)
    have CV := Lib.hid (isVar_all x.tm.name W)
    have CN := Lib.hid (idx_same sa sc o.sy x.tm.name W (StrG.of (HV.out.kept hB1).st) hsl)
    obtain ⟨S, hS⟩ : ∃ S, o.wNs (pre.map Nd.tm) = S := ⟨_, rfl⟩
    rw [hS] at bC k0 hsum HSN
    clear hS
    have fin : ∀ u : Int, u = o.wNs ((pre ++ [x]).map Nd.tm) → KeepsFrom W0.heap.size W (W.setCell ⟨wB.heap.size, 0, none⟩ (.int .i64 u)) ∧ KpT wB.heap.size W (W.setCell ⟨wB.heap.size, 0, none⟩ (.int .i64 u)) ∧ (Boxed (W.setCell ⟨wB.heap.size, 0, none⟩ (.int .i64 u)) wB.heap.size 3 (.int .i64 (o.wNs ((pre ++ [x]).map Nd.tm))) ∧ Below wB.heap.size wB (W.setCell ⟨wB.heap.size, 0, none⟩ (.int .i64 u))) := fun u hu =>
      ⟨(KeepsOthers.setCell _ _ _).from _, ⟨(Below.refl _ W).setCell (p := ⟨wB.heap.size, 0, none⟩) (by simp) _, KeepTm.grown (grownBy_setCell' W wB.heap.size _) (fun r e aa fz hr => by
          cases e
          rw [show W.heap[wB.heap.size]? = _ from bC] at hr
          cases hr)⟩, ⟨by rw [← hu]; exact bC.set _, hB1.setCell (p := ⟨wB.heap.size, 0, none⟩) (by simp) _⟩⟩
    have FIN := Lib.hid fin
    have HV1 := Lib.hid (HV.out.kept hB1)
    have HBC := Lib.hid bC
    have HB1 := Lib.hid hB1
    clear fin bC hB1
    cases hb : varB x.tm.name with
    | true =>
      rw [hb] at CV
      have HE : Hid (S + o.va = o.wNs ((pre ++ [x]).map Nd.tm)) := Lib.hid (by rw [HSN.out, Od.wN_var hb])
      clear hb
      gi_wp2
      refine ⟨trivial, ?_⟩
      refine (callsIn_wide.2 CV.out).mono ?_
      rintro e w4 ⟨rfl, rfl⟩
      gi_wp2
      exact FIN.out _ HE.out
    | false =>
      rw [hb] at CV
      rcases rk_ways o.sy x.tm.name with ⟨r1, r2⟩ | ⟨q, r1, r2, r3⟩
      · have HE : Hid (o.wNs ((pre ++ [x]).map Nd.tm) = S) := Lib.hid (by rw [HSN.out, Od.wN_no hb r2]; omega)
        rw [r2] at CN
        clear hb r1 r2
        gi_wp2
        refine ⟨trivial, ?_⟩
        refine (callsIn_wide.2 CV.out).mono ?_
        rintro e w4 ⟨rfl, rfl⟩
        gi_wp2
        refine ⟨trivial, ?_⟩
        refine (callsIn_wide.2 CN.out).mono ?_
        rintro e w5 ⟨rfl, rfl⟩
        gi_wp2
        exact ⟨KeepsFrom.refl _ _, KpT.refl _ _, by rw [HE.out]; exact HBC.out, HB1.out⟩
      · have hqw : q < o.ws.length := by have := HF.out.wn; omega
        obtain ⟨y, hy⟩ : ∃ y, o.ws[q]? = some y := ⟨_, List.getElem?_eq_getElem hqw⟩
        obtain ⟨yb, yo, rfl, hyc⟩ := (IntG.of HV1.out.is) q y hy
        have HE : Hid (S + y = o.wNs ((pre ++ [x]).map Nd.tm)) := Lib.hid (by rw [HSN.out, Od.wN_at hb r1 hy])
        have hyw := HF.out.weight hy
        rw [r1] at CN
        clear hb r1 r3 hy
        gi_wp2
        refine ⟨trivial, ?_⟩
        refine (callsIn_wide.2 CV.out).mono ?_
        rintro e w4 ⟨rfl, rfl⟩
        gi_wp2
        refine ⟨trivial, ?_⟩
        refine (callsIn_wide.2 CN.out).mono ?_
        rintro e w5 ⟨rfl, rfl⟩
        gi_wp2
        have hqq := FIN.out (IntKind.i64.wrap (S + y)) (by rw [IntWalk.i64_in _ (by omega)]; exact HE.out)
        have HQQ := Lib.hid hqq
        clear hqq
        gi_region
        all_goals gi_wp2
        all_goals have hq := HQQ.out
        all_goals exact ⟨hq.1.trans (KeepsFrom.of_grownBy (row := none) ⟨rfl, rfl, rfl, Nat.le_refl _, fun _ _ _ => rfl⟩ (fun j e => by cases e)), ⟨hq.2.1.1.drew, KeepTm.drew hq.2.1.2⟩, hq.2.2.1, hq.2.2.2.drew⟩
  case done =>
    rintro D xs W hD hS ⟨bC, hB1⟩ hK
    have k0 := bC.cell
    have HE : Hid (o.wNs (xs.map Nd.tm) = o.wT t) := Lib.hid (by rw [hS]; rfl)
    gi_wp2
    refine ⟨by simp, .inl ⟨_, _, rfl, run_takeDeferred hK, ?_⟩⟩
    refine ⟨_, results_tmp rfl _ _ _, ?_, HB.out.trans ((hB1.trans (belowK_b (w := wB) (Nat.le_refl _) W D _ _ (by omega) hK rfl rfl)).mono HB.out.size)⟩
    first | exact ret_int HE.out | exact rfl
  case stop =>
    rintro D c pre W _ _ h _
    exact h.elim

theorem weightOf_any (o : Od) (t : Tm) (w : World) (sv wv va : Value) (hv : OdV w sv wv o) (ht : TmS w va t.args) (ho : o.wt ≤ 1048576) (hf : o.Fine) (hw : t.wt ≤ 1048576) (hz : t.sz ≤ 30) :
    Calls Try.prog 78 #[.agg #[sv, wv, .int .i64 o.va], .agg #[.string t.name, va]] w (Ans (.int .i64 (o.wT t)) w) := callsIn_wide.1 (weightOf_in o t w sv wv va hv ht ho hf hw hz)

theorem okTs_one (o : Od) (t : Tm) : o.okTs [t] = o.okT t := by unfold Od.okTs Od.okT; simp

set_option maxHeartbeats 1000000 in
theorem implWeight_any (o : Od) (ho : o.wt ≤ 1048576) (t : Tm) (w : World) (sv wv va : Value) (hv : OdV w sv wv o) (ht : TmS w va t.args) (hw : t.wt ≤ 1048576) :
    Calls Try.prog 34 #[.agg #[sv, wv, .int .i64 o.va], .agg #[.string t.name, va]] w (Ans (.tuple #[.int .i64 (o.wR t), .bool (o.okT t)]) w) := by
  obtain ⟨sa, sc, wa, wc, rfl, rfl⟩ := hv.open
  obtain ⟨a, c, rfl⟩ := ht.is_slice
  obtain ⟨w1, hw1⟩ : ∃ w1, (w.alloc (.cells #[.slice sa o.sy.length sc, .slice wa o.ws.length wc, .int .i64 o.va] 27)).alloc (.cells #[.string t.name, .slice a t.args.length c] 30) = w1 := ⟨_, rfl⟩
  have HB : Hid (Below w.heap.size w w1) := Lib.hid (by rw [← hw1]; exact ((Below.refl w.heap.size w).alloc (Nat.le_refl _) _).alloc (by simp) _)
  have H3 : Hid (OdB w1 w.heap.size (.slice sa o.sy.length sc) (.slice wa o.ws.length wc) o) := Lib.hid (by rw [← hw1]; exact (thr_new w _ _ _ _ _ rfl).alloc _)
  have H2 : Hid (Two w1 (w.heap.size + 1) (.string t.name) (.slice a t.args.length c)) := Lib.hid (by rw [← hw1]; exact two_new _ _ _ 30 (w.heap.size + 1) (by simp))
  obtain ⟨w2, hw2⟩ : ∃ w2, w1.alloc (.cells #[.string t.name, .slice a t.args.length c] 30) = w2 := ⟨_, rfl⟩
  have HB2 : Hid (Below w.heap.size w w2) := Lib.hid (by rw [← hw2]; exact HB.out.alloc HB.out.size _)
  have H32 : Hid (OdB w2 w.heap.size (.slice sa o.sy.length sc) (.slice wa o.ws.length wc) o) := Lib.hid (by rw [← hw2]; exact H3.out.alloc _)
  have H22 : Hid (Two w2 (w.heap.size + 1) (.string t.name) (.slice a t.args.length c)) := Lib.hid (by rw [← hw2]; exact H2.out.alloc _)
  have L2 : Hid (Two w2 w1.heap.size (.string t.name) (.slice a t.args.length c)) := Lib.hid (by rw [← hw2]; exact two_new _ _ _ _ _ rfl)
  have CG := covT_any o [t] w2 _ _ _ (hv.kept HB2.out) (tmS_one (ht.kept HB2.out) w1.heap.size 1 L2.out.1 L2.out.2.1) ho (by simp) (fun s hs => by rw [List.mem_singleton.1 hs]; exact hw)
  rw [okTs_one] at CG
  have HCG := Lib.hid CG
  have CW := Lib.hid (fun (hf : o.Fine) (hz : t.sz ≤ 30) W (hW : Below w.heap.size w W) => weightOf_any o t W _ _ _ (hv.kept hW) (ht.kept hW) ho hf hw hz)
  have HR : Hid (o.wR t = if o.okT t then o.wT t else 0) := Lib.hid rfl
  have HO : Hid (o.okT t = (o.good && (goodB t && o.cov t))) := Lib.hid rfl
  clear hv ht CG
  obtain ⟨b0, b1, b2, b3⟩ := H3.out
  obtain ⟨d0, d1, d2⟩ := H2.out
  go_enter Try.func34, Try.ntmps34
  go_wp2_with fail
  refine HCG.out.mono ?_
  rintro e w3 ⟨rfl, hb⟩
  have HB3 := Lib.hid (carry_below HB2.out (Nat.le_refl _) hb)
  have H33 := Lib.hid (H32.out.kept hb)
  have H23 := Lib.hid (H22.out.kept hb)
  clear hb b0 b1 b2 b3 d0 d1 d2 hw1 hw2
  obtain ⟨b0, b1, b2, b3⟩ := H33.out
  obtain ⟨d0, d1, d2⟩ := H23.out
  cases hg : o.okT t with
  | false =>
    have HG := Lib.hid hg
    have HR2 : Hid (o.wR t = 0) := Lib.hid (by rw [HR.out, hg]; rfl)
    clear hg
    go_wp2
    go_ret2
    exact ⟨ret_pair HR2.out.symm HG.out.symm, HB3.out⟩
  | true =>
    have HG := Lib.hid hg
    have HR2 : Hid (o.wR t = o.wT t) := Lib.hid (by rw [HR.out, hg]; rfl)
    have hgc := hg
    rw [HO.out, Bool.and_eq_true, Bool.and_eq_true] at hgc
    have CW2 := Lib.hid (CW.out (Od.good_fine hgc.1) (by
      have e := hgc.2.1
      unfold goodB fitsB at e
      simp only [Bool.and_eq_true, decide_eq_true_eq] at e
      exact e.1.1))
    clear hg hgc CW
    go_wp2_with fail
    refine (CW2.out _ HB3.out).mono ?_
    rintro e w4 ⟨rfl, hb⟩
    have HB4 := Lib.hid (carry_below HB3.out (Nat.le_refl _) hb)
    clear hb
    go_wp2
    go_ret2
    exact ⟨ret_pair HR2.out.symm HG.out.symm, HB4.out⟩

end Go.Proofs.Ytnabjnlphelccaa
