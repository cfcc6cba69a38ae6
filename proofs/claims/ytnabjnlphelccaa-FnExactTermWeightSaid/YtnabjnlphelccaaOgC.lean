/- The program's test that an ordering covers expressions: a contract, for orderings and lists of terms of at most 1048576 names' bytes and elements. -/
import Derived.Test.YtnabjnlphelccaaOgI
import Derived.Test.YtnabjnlphelccaaMrk
namespace Go.Proofs.Ytnabjnlphelccaa
open Go.RowKit Go.Shelf
set_option linter.unusedVariables false

attribute [local go_sem] Oper.semAt_some

/-- A node that the program's test lets pass. -/
def Od.nodeP (o : Od) (s : Tm) : Bool := !symB s.name || Lib.containsS o.sy s.name
def Od.covN (o : Od) (t : Tm) : Bool := t.nds.all o.nodeP
def Od.covP (o : Od) (ts : List Tm) : Bool := o.good && (ts.all anyB && ts.all o.covN)
theorem Od.covP_bad {o : Od} {ts : List Tm} (h : o.good = false) : o.covP ts = false := by unfold Od.covP; rw [h]; rfl
theorem Od.covP_not {o : Od} {ts : List Tm} (h : ts.all anyB = false) : o.covP ts = false := by unfold Od.covP; rw [h, Bool.false_and, Bool.and_false]
theorem Od.covP_good {o : Od} {ts : List Tm} (h : o.good = true) (h' : ts.all anyB = true) : o.covP ts = ts.all o.covN := by unfold Od.covP; rw [h, h', Bool.true_and, Bool.true_and]
theorem Od.covN_no {o : Od} {t s : Tm} (hs : s ∈ t.nds) (h : o.nodeP s = false) : o.covN t = false := by
  unfold Od.covN; rw [List.all_eq_false]; exact ⟨s, hs, by rw [h]; simp⟩
theorem Od.covN_yes {o : Od} {t : Tm} (h : ∀ s ∈ t.nds, o.nodeP s = true) : o.covN t = true := by
  unfold Od.covN; rw [List.all_eq_true]; exact h

theorem nds_name_le : ∀ t : Tm, ∀ s ∈ t.nds, s.name.size ≤ t.wt := Tm.ind fun t ih s hs => by
  rw [t.nds_eq] at hs
  rcases List.mem_cons.1 hs with rfl | hs
  · exact Tm.wt_name _
  · have : ∀ l : List Tm, (∀ x ∈ l, x ∈ t.args) → s ∈ Tm.ndsL l → s.name.size ≤ t.wt := by
      intro l
      induction l with
      | nil => intro _ h; simp [Tm.ndsL] at h
      | cons a r ih2 =>
        intro hl h
        rw [Tm.ndsL, List.mem_append] at h
        rcases h with h | h
        · exact Nat.le_trans (ih a (hl a List.mem_cons_self) s h) (Tm.wt_arg (hl a List.mem_cons_self))
        · exact ih2 (fun x hx => hl x (List.mem_cons_of_mem _ hx)) h
    exact this t.args (fun x hx => hx) hs

theorem word_big6 (s : ByteArray) (w : World) (h1 : 6 < s.size) :
    Calls Try.prog 118 #[.string s, .int .i64 6] w fun e w' => e = .returned (.bool false) ∧ w = w' := by
  go_enter Try.func118, Try.ntmps118
  go_wp2
  go_ret
  exact ⟨rfl, rfl⟩
theorem isSym_all (s : ByteArray) (w : World) :
    Calls Try.prog 73 #[.string s] w fun e w' => e = .returned (.bool (symB s)) ∧ w = w' := by
  by_cases h : 6 < s.size
  · have C := Lib.hid (word_big6 s w h)
    have H : Hid (symB s = false) := Lib.hid (symB_short (by omega))
    clear h
    go_enter Try.func73, Try.ntmps73
    go_wp2_with fail
    refine C.out.mono ?_
    rintro e w' ⟨rfl, rfl⟩
    go_wp2
    go_ret
    exact ⟨ret_bool H.out.symm, rfl⟩
  · exact isSym_any s w (by unfold maxLen; omega)

/-- The result's cell, at the function's end. -/
structure FinC (w : World) (x : Bool) (W : World) : Prop where
  c1 : W.cell? ⟨w.heap.size + 1, 0, none⟩ = some (.bool x)
  bel : Below w.heap.size w W
theorem FinC.put {w : World} {x : Bool} {W : World} {D : Nat} (h : FinC w x W) (hB : w.heap.size ≤ D) (hD : W.heap[D]? = some (.deferred (some []))) : FinC w x (W.putObj D (.deferred none)) :=
  ⟨cell_kept h.c1 (grownBy_putObj' W D _) (fun r e => by cases e; exact ⟨_, hD, rfl⟩), h.bel.trans (belowK_b (w := w) (Nat.le_refl _) W D _ _ hB hD rfl rfl)⟩
theorem FinC.set {w W : World} {x x' : Bool} (h1 : W.cell? ⟨w.heap.size + 1, 0, none⟩ = some (.bool x')) (hb : Below w.heap.size w W) :
    FinC w x (W.setCell ⟨w.heap.size + 1, 0, none⟩ (.bool x)) :=
  ⟨World.cell?_setCell_same _ _ _ h1, hb.setCell (by simp) _⟩
def FinCO (w : World) (x : Bool) (Ds : List Nat) (W : World) : Prop := FinC w x W ∧ Open (w.heap.size + 2) W Ds
theorem finCO_own (w : World) (x : Bool) (Ds : List Nat) (B : Nat) (hw : w.heap.size ≤ B) (hD : ∀ D ∈ Ds, D < B) : OwnFrom B (fun (_ : List Nd) W => FinCO w x Ds W) := fun s X Y row hs hg hr =>
  ⟨⟨cell_kept hs.1.c1 hg (fun r e => (hr r e).2), hs.1.bel.grown hg (Nat.le_trans (Nat.le_refl _) hs.1.bel.size) (fun k e => Nat.le_trans hw (hr k e).1)⟩,
    hs.2.1, fun D hd => ⟨(hs.2.2 D hd).1, (hg.block D (hs.2.lt hd) (fun e => by have := (hr D e.symm).1; have := hD D hd; omega)).trans (hs.2.2 D hd).2⟩⟩

set_option maxRecDepth 100000 in
set_option maxHeartbeats 8000000 in
theorem covers_in (o : Od) (ts : List Tm) (w : World) (sv wv v : Value) (hv : OdV w sv wv o) (ht : TmS w v ts) (ho : o.wt ≤ 1048576) (hl : ts.length ≤ 1000000) (hw : ∀ s ∈ ts, s.wt ≤ 1048576) :
    CallsIn Fence.wide 9 Try.prog 51 #[.agg #[sv, wv, .int .i64 o.va], v] w (Ans (.bool (o.covP ts)) w) := by
  obtain ⟨sa, sc, wa, wc, rfl, rfl⟩ := hv.open
  obtain ⟨a, c, rfl⟩ := ht.is_slice
  have hdd : ∀ k : Nat, (Fence.wide.depth.isSome = true → 1 ≤ k) := fun k h => by cases h
  have HV := Lib.hid hv
  have HT := Lib.hid ht
  have HW := Lib.hid hw
  have HO := Lib.hid ho
  have hsl : o.sy.length ≤ 1048576 := Nat.le_trans o.wt_sy ho
  obtain ⟨w0, hw0⟩ : ∃ w0, (w.alloc (.cells #[.slice sa o.sy.length sc, .slice wa o.ws.length wc, .int .i64 o.va] 27)).alloc (.cells #[.bool false] 4) = w0 := ⟨_, rfl⟩
  have HB0 : Hid (Below w.heap.size w w0) := Lib.hid (by rw [← hw0]; exact ((Below.refl w.heap.size w).alloc (Nat.le_refl _) _).alloc (by simp) _)
  have H10 : Hid (Thr w0 w.heap.size (.slice sa o.sy.length sc) (.slice wa o.ws.length wc) (.int .i64 o.va)) := Lib.hid (by rw [← hw0]; exact (thr_new w _ _ _ _ _ rfl).alloc _)
  have H20 : Hid (Oner w0 (w.heap.size + 1) (.bool false)) := Lib.hid (by rw [← hw0]; exact oner_new _ (.bool false) 4 (w.heap.size + 1) (by simp))
  have hz0 : w0.heap.size = w.heap.size + 2 := by rw [← hw0]; simp
  clear hv ht hw ho
  refine callsIn_of_wp_marks Try.func51 rfl trivial ?_ rfl
  simp only [Try.ntmps51, List.size_toArray, List.length_cons, List.length_nil, Nat.reduceAdd, Nat.reduceSub, Array.replicate_succ, Array.replicate_zero, List.push_toArray, List.append_toArray, List.nil_append, List.cons_append]
  obtain ⟨b0, b1, b2, b3⟩ := H10.out
  gi_wp2
  refine ⟨trivial, ?_⟩
  refine (callsIn_wide.2 (implVOrd_any o _ _ _ (HV.out.kept HB0.out) HO.out)).mono ?_
  rintro e w1 ⟨rfl, hb⟩
  have HB1 := Lib.hid (carry_below HB0.out (Nat.le_refl _) hb)
  have H11 := Lib.hid (H10.out.kept hb)
  have H21 := Lib.hid (H20.out.kept hb)
  have hz1 : w.heap.size + 2 ≤ w1.heap.size := by have := hb.size; omega
  clear hb b0 b1 b2 b3 hw0
  obtain ⟨b0, b1, b2, b3⟩ := H11.out
  obtain ⟨c0, c1⟩ := H21.out
  cases hg : o.good with
  | false =>
    have HF : Hid (o.covP ts = false) := Lib.hid (Od.covP_bad hg)
    clear hg
    have HFB : Hid (FinC w false (w1.setCell ⟨w.heap.size + 1, 0, none⟩ (.bool false))) := Lib.hid (FinC.set c0 HB1.out)
    gi_wp2
    refine ⟨trivial, ?_⟩
    gi_wp2
    refine leaves_open (FinC w false) (w.heap.size + 2) (fun W D h hB hD => h.put (by omega) hD) (fun W h => ?_) [] _ (Open.nil _ _) HFB.out
    obtain ⟨r1, rb⟩ := h
    exact ⟨.bool false, by simp [results, Try.results51, go_sem, r1], ret_bool HF.out.symm, rb⟩
  | true =>
    have HG := Lib.hid hg
    clear hg
    gi_wp2
    refine ⟨trivial, ?_⟩
    refine (callsIn_wide.2 (areExpr_any ts _ _ (HT.out.kept HB1.out) hl HW.out)).mono ?_
    rintro e w1x ⟨rfl, hb⟩
    have HB1x := Lib.hid (carry_below HB1.out (Nat.le_refl _) hb)
    have H11x := Lib.hid (H11.out.kept hb)
    have H21x := Lib.hid (H21.out.kept hb)
    have hz1x : w.heap.size + 2 ≤ w1x.heap.size := by have := hb.size; omega
    clear hb b0 b1 b2 b3 c0 c1 HB1 H11 H21 hz1
    obtain ⟨b0, b1, b2, b3⟩ := H11x.out
    obtain ⟨c0, c1⟩ := H21x.out
    cases he : ts.all anyB with
    | false =>
      have HF : Hid (o.covP ts = false) := Lib.hid (Od.covP_not he)
      clear he
      have HFB : Hid (FinC w false (w1x.setCell ⟨w.heap.size + 1, 0, none⟩ (.bool false))) := Lib.hid (FinC.set c0 HB1x.out)
      gi_wp2
      refine leaves_open (FinC w false) (w.heap.size + 2) (fun W D h hB hD => h.put (by omega) hD) (fun W h => ?_) [] _ (Open.nil _ _) HFB.out
      obtain ⟨r1, rb⟩ := h
      exact ⟨.bool false, by simp [results, Try.results51, go_sem, r1], ret_bool HF.out.symm, rb⟩
    | true =>
      have HF : Hid (o.covP ts = ts.all o.covN) := Lib.hid (Od.covP_good HG.out he)
      have HE := Lib.hid (fun t (h : t ∈ ts) => List.all_eq_true.1 he t h)
      clear he
      gi_wp2
      refine wpIn_loop (fun a' wr => ∃ (k : Nat) (Ds : List Nat) (u6 u19 u20 u21 u22 u23 u36 : Value), a' = { tmps := #[.agg #[.slice sa o.sy.length sc, .slice wa o.ws.length wc, .int .i64 o.va], .slice a ts.length c, .pointer (some ⟨w.heap.size, 0, none⟩), undef, .pointer (some ⟨w.heap.size + 1, 0, none⟩), undef, u6, undef, .agg #[.slice sa o.sy.length sc, .slice wa o.ws.length wc, .int .i64 o.va], .bool true, .bool false, .bool false, .slice a ts.length c, .bool true, .bool false, .bool false, .slice a ts.length c, .int .i64 ts.length, .int .i64 k, u19, u20, u21, u22, u23, undef, undef, undef, undef, undef, undef, undef, undef, undef, undef, undef, undef, u36], defers := Ds.map mkD } ∧
        k ≤ ts.length ∧ (ts.take k).all o.covN = true ∧ Thr wr w.heap.size (.slice sa o.sy.length sc) (.slice wa o.ws.length wc) (.int .i64 o.va) ∧ Oner wr (w.heap.size + 1) (.bool false) ∧ Below w.heap.size w wr ∧ Open (w.heap.size + 2) wr Ds) (fun a' _ => ts.length - (intOf (a'.tmps.getD 18 undef)).toNat) ⟨0, [], undef, undef, undef, undef, undef, undef, undef, rfl, Nat.zero_le _, by simp, H11x.out, H21x.out, HB1x.out, Open.nil _ _⟩ ?_
      rintro _ wr ⟨k, Ds, u6, u19, u20, u21, u22, u23, u36, rfl, hk, hq, h1, h2, hbel, hop⟩
      have HQ := Lib.hid hq
      have H1 := Lib.hid h1
      have H2 := Lib.hid h2
      have HB := Lib.hid hbel
      have HOP := Lib.hid hop
      have hzr : w.heap.size + 1 < wr.heap.size := World.block_lt_of_cell? wr _ h2.1
      clear b0 b1 b2 b3 c0 c1 hq h1 h2 hbel hop HB1x H11x H21x hz1x
      by_cases hlt : k < ts.length
      · obtain ⟨t, hd⟩ : ∃ t, ts[k]? = some t := ⟨_, List.getElem?_eq_getElem hlt⟩
        obtain ⟨b, off, rfl, vb, c0, c1, hvb⟩ := HT.out.get hd
        obtain ⟨pb, qb, rfl⟩ := hvb.is_slice
        have HVB := Lib.hid (hvb.kept HB.out)
        have e0 := carry_cell c0 HB.out
        have e1 := carry_cell c1 HB.out
        have HD := Lib.hid hd
        have HDW : Hid (t.wt ≤ 1048576) := Lib.hid (HW.out t (mem_of_at hd))
        have hsz : t.sz ≤ 30 := by
          have h := anyB_fits (HE.out t (mem_of_at hd))
          simp [fitsB] at h; exact h.1
        clear hd c0 c1 hvb
        obtain ⟨w2, hw2⟩ : ∃ w2, wr.alloc (.cells #[.string t.name, .slice pb t.args.length qb] 30) = w2 := ⟨_, rfl⟩
        have t2 : Two w2 wr.heap.size (.string t.name) (.slice pb t.args.length qb) := by rw [← hw2]; exact two_new _ _ _ _ _ rfl
        have HB2 : Hid (Below wr.heap.size wr w2) := Lib.hid (by rw [← hw2]; exact (Below.refl _ _).alloc (Nat.le_refl _) _)
        obtain ⟨g0, g1, g2⟩ := t2
        gi_wp2
        refine ⟨trivial, ?_⟩
        refine (callsIn_wide.2 (nodesOf_any t _ _ (HVB.out.kept HB2.out))).mono ?_
        rintro e w3 ⟨rfl, rfl⟩
        have hlim : t.lim 9223372036854775806 := Tm.lim_of_wt t _ (by have := HDW.out; omega)
        have hN : t.nds.length ≤ 30 := by rw [Tm.nds_len]; exact hsz
        obtain ⟨W0, hW0⟩ : ∃ W0, w2.alloc (.cells #[.string t.name, .slice pb t.args.length qb] 30) = W0 := ⟨_, rfl⟩
        have X5 : Hid (Two W0 w2.heap.size (.string t.name) (.slice pb t.args.length qb)) := Lib.hid (by rw [← hW0]; exact two_new _ _ _ _ _ rfl)
        have HB3 : Hid (Below wr.heap.size wr W0) := Lib.hid (by rw [← hW0]; exact HB2.out.alloc HB2.out.size _)
        have HB4 : Hid (Below w.heap.size w W0) := Lib.hid (HB.out.trans (HB3.out.mono HB.out.size))
        have hwz : w.heap.size + 1 < W0.heap.size := by have := HB3.out.size; omega
        have h1 := H1.out.kept HB3.out
        have h2 := H2.out.kept HB3.out
        have HOP3 := Lib.hid (HOP.out.kept HB3.out)
        have HVW := Lib.hid (HV.out.kept HB4.out)
        have HVT := Lib.hid (HVB.out.kept HB3.out)
        rw [hW0]
        clear hW0 g0 g1 g2 hw2 e0 e1
        gi_wp2
        refine wpIn_rangeFunc_ownH rfl (by omega) (gf := 133) (lb := #[.pointer (some ⟨w2.heap.size, 0, none⟩)]) rfl trivial (enters_of Try.func133 (by kernel_rfl) rfl)
          (nodesM_stops (9 - 1) w2.heap.size W0 t _ hlim HVT.out W0 (Below.refl _ _) (Nat.le_refl _) X5.out) (fun h k => h.trans k) (KpT.book (Nat.le_refl _)) (Below.refl _ _) (fun _ => rfl)
          (fun pre W => (∀ y ∈ pre, o.nodeP y.tm = true) ∧ Below W0.heap.size W0 W)
          (fun cc pre W => cc = .ret ∧ (∃ y ∈ pre, o.nodeP y.tm = false) ∧ FinCO w false Ds W)
          (OwnFrom.and (ownFrom_pure _ _) (ownFrom_below (Nat.le_refl _) (Nat.le_refl _)))
          (fun cc => OwnFrom.and (ownFrom_pure _ (fun _ => cc = .ret)) (OwnFrom.and (ownFrom_pure _ _) (finCO_own w false Ds _ (by omega) (fun D hD => HOP3.out.lt hD))))
          ⟨fun y hy => (by cases hy), Below.refl _ _⟩
          (fun x a' W => ∃ (Bx : Nat) (y6 y19 y20 y21 y22 y23 : Value), NdBox W Bx x ∧ a' = { tmps := #[.agg #[.slice sa o.sy.length sc, .slice wa o.ws.length wc, .int .i64 o.va], .slice (some ⟨b, off, none⟩) ts.length c, .pointer (some ⟨w.heap.size, 0, none⟩), undef, .pointer (some ⟨w.heap.size + 1, 0, none⟩), undef, y6, .pointer (some ⟨Bx, 0, none⟩), .agg #[.slice sa o.sy.length sc, .slice wa o.ws.length wc, .int .i64 o.va], .bool true, .bool false, .bool false, .slice (some ⟨b, off, none⟩) ts.length c, .bool true, .bool false, .bool false, .slice (some ⟨b, off, none⟩) ts.length c, .int .i64 ts.length, .int .i64 k, y19, y20, y21, y22, y23, .agg #[.string x.tm.name, .slice x.a x.tm.args.length x.c], undef, undef, undef, undef, undef, undef, undef, undef, undef, undef, undef, u36], defers := [] })
          (fun x a' _ X Y row hs hg hr => by obtain ⟨Bx, y6, y19, y20, y21, y22, y23, h2, h3⟩ := hs; exact ⟨Bx, y6, y19, y20, y21, y22, y23, ndBox_own Bx (fun _ => x) () X Y row h2 hg (fun r e => (hr r e).2), h3⟩)
          ?assign ?body ?done ?stop
        case assign =>
          rintro ll pre x W K ⟨hp, hB1⟩ hK
          simp only [Nd.enc]
          gi_wp2
          exact hK _ _ ((KeepsOthers.alloc _ _).from _) ((KpT.refl _ W).alloc hB1.size _) ⟨hp, hB1.alloc hB1.size _⟩ ⟨W.heap.size, _, _, _, _, _, _, NdBox.new W x, rfl⟩
        case body =>
          rintro ll pre x a' W hl ⟨r, hr⟩ ⟨hp, hB1⟩ ⟨Bx, y6, y19, y20, y21, y22, y23, hbx, rfl⟩ hlt2
          obtain ⟨x0, x1⟩ := hbx.cells
          obtain ⟨k0, k1, k2, k3⟩ := h1.kept hB1
          have HNP : Hid (o.nodeP x.tm = (!symB x.tm.name || Lib.containsS o.sy x.tm.name)) := Lib.hid rfl
          have CS := Lib.hid (isSym_all x.tm.name W)
          have CN := Lib.hid (contains_same sa sc o.sy x.tm.name W (StrG.of (HVW.out.kept hB1).st) hsl)
          have HP := Lib.hid hp
          have HB1 := Lib.hid hB1
          have m2 := h2.kept hB1
          have HOPW := Lib.hid (HOP3.out.kept hB1)
          have HGO := Lib.hid (fun (h : o.nodeP x.tm = true) y (hy : y ∈ pre ++ [x]) => show o.nodeP y.tm = true from by
            rcases List.mem_append.1 hy with hy | hy
            · exact HP.out y hy
            · rw [List.mem_singleton.1 hy]; exact h)
          clear hp hB1
          cases es : symB x.tm.name with
          | false =>
            rw [es] at CS
            have HX := Lib.hid (HGO.out (by rw [HNP.out, es]; rfl))
            clear es
            gi_wp2
            refine ⟨trivial, ?_⟩
            refine (callsIn_wide.2 CS.out).mono ?_
            rintro e w4 ⟨rfl, rfl⟩
            gi_wp2
            refine ⟨trivial, ?_⟩
            gi_wp2
            exact ⟨KeepsFrom.refl _ _, KpT.refl _ _, HX.out, HB1.out⟩
          | true =>
            rw [es] at CS
            have HNP2 : Hid (o.nodeP x.tm = Lib.containsS o.sy x.tm.name) := Lib.hid (by rw [HNP.out, es]; rfl)
            clear es
            gi_wp2
            refine ⟨trivial, ?_⟩
            refine (callsIn_wide.2 CS.out).mono ?_
            rintro e w4 ⟨rfl, rfl⟩
            gi_wp2
            refine ⟨trivial, ?_⟩
            refine (callsIn_wide.2 CN.out).mono ?_
            rintro e w5 ⟨rfl, rfl⟩
            cases ec : Lib.containsS o.sy x.tm.name with
            | true =>
              have HX := Lib.hid (HGO.out (by rw [HNP2.out, ec]))
              clear ec
              gi_wp2
              exact ⟨KeepsFrom.refl _ _, KpT.refl _ _, HX.out, HB1.out⟩
            | false =>
              have HX : Hid (∃ y ∈ pre ++ [x], o.nodeP y.tm = false) := Lib.hid ⟨x, by simp, by rw [HNP2.out, ec]⟩
              obtain ⟨q2, q3⟩ := m2
              have HFO : Hid (FinC w false (w5.setCell ⟨w.heap.size + 1, 0, none⟩ (.bool false))) := Lib.hid (FinC.set q2 (HB4.out.trans (HB1.out.mono HB4.out.size)))
              have HOPX : Hid (Open (w.heap.size + 2) (w5.setCell ⟨w.heap.size + 1, 0, none⟩ (.bool false)) Ds) := Lib.hid (HOPW.out.set (by simp) _)
              have HKF : Hid (KeepsFrom W0.heap.size w5 (w5.setCell ⟨w.heap.size + 1, 0, none⟩ (.bool false))) := Lib.hid ((KeepsOthers.setCell _ _ _).from _)
              clear ec
              gi_wp2
              exact ⟨HKF.out, rfl, HX.out, HFO.out, HOPX.out⟩
        case done =>
          rintro D xs W hD hS ⟨hp, hB1⟩ hK
          have HN : Hid ((ts.take (k + 1)).all o.covN = true) := Lib.hid (by
            rw [all_next HD.out, HQ.out, Bool.true_and]
            refine Od.covN_yes fun s hs => ?_
            rw [← hS] at hs
            obtain ⟨y, hy, rfl⟩ := List.mem_map.1 hs
            exact hp y hy)
          have m1 := h1.kept hB1
          have m2 := h2.kept hB1
          have HBW : Hid (Below w.heap.size w W) := Lib.hid (HB4.out.trans (hB1.mono HB4.out.size))
          have HOPN : Hid (Open (w.heap.size + 2) W (D :: Ds)) := Lib.hid ((HOP3.out.kept hB1).cons (by omega) hK (fun e => by have := HOP3.out.lt e; omega))
          clear hp hB1 hS
          gi_wp2
          refine ⟨⟨k + 1, D :: Ds, _, _, _, _, _, _, _, rfl, by omega, HN.out, m1, m2, HBW.out, HOPN.out⟩, ?_⟩
          simp [intOf]; omega
        case stop =>
          rintro D cc pre W hD hS ⟨rfl, hx, hfo⟩ hK
          have HF2 : Hid (o.covP ts = false) := Lib.hid (by
            obtain ⟨y, hy, hyb⟩ := hx
            rw [HF.out]
            exact all_no HD.out (Od.covN_no (hS y hy) hyb))
          have HFO := Lib.hid hfo.1
          have HOPN : Hid (Open (w.heap.size + 2) W (D :: Ds)) := Lib.hid (hfo.2.cons (by omega) hK (fun e => by have := HOP3.out.lt e; omega))
          clear hx hfo hS
          gi_wp2
          refine leaves_open (FinC w false) (w.heap.size + 2) (fun W D h hB hD => h.put (by omega) hD) (fun W h => ?_) (D :: Ds) _ HOPN.out HFO.out
          obtain ⟨r1, rb⟩ := h
          exact ⟨.bool false, by simp [results, Try.results51, go_sem, r1], ret_bool HF2.out.symm, rb⟩
      · have hke : k = ts.length := by omega
        subst hke
        have HF2 : Hid (o.covP ts = true) := Lib.hid (by
          have e := HQ.out
          rw [List.take_length] at e
          exact HF.out.trans e)
        have HFO : Hid (FinC w true (wr.setCell ⟨w.heap.size + 1, 0, none⟩ (.bool true))) := Lib.hid (FinC.set H2.out.1 HB.out)
        have HOPX : Hid (Open (w.heap.size + 2) (wr.setCell ⟨w.heap.size + 1, 0, none⟩ (.bool true)) Ds) := Lib.hid (HOP.out.set (by simp) _)
        obtain ⟨q2, q3⟩ := H2.out
        gi_wp2
        refine leaves_open (FinC w true) (w.heap.size + 2) (fun W D h hB hD => h.put (by omega) hD) (fun W h => ?_) Ds _ HOPX.out HFO.out
        obtain ⟨r1, rb⟩ := h
        exact ⟨.bool true, by simp [results, Try.results51, go_sem, r1], ret_bool HF2.out.symm, rb⟩

theorem covers_any (o : Od) (ts : List Tm) (w : World) (sv wv v : Value) (hv : OdV w sv wv o) (ht : TmS w v ts) (ho : o.wt ≤ 1048576) (hl : ts.length ≤ 1000000) (hw : ∀ s ∈ ts, s.wt ≤ 1048576) :
    Calls Try.prog 51 #[.agg #[sv, wv, .int .i64 o.va], v] w (Ans (.bool (o.covP ts)) w) := callsIn_wide.1 (covers_in o ts w sv wv v hv ht ho hl hw)

end Go.Proofs.Ytnabjnlphelccaa
