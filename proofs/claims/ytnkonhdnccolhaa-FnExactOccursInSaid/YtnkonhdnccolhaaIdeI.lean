/- IsIdempotent, the program's: a contract, for bindings of at most 1048576 names' bytes, bindings and arguments. -/
import Derived.Test.YtnkonhdnccolhaaSubP
import Derived.Test.YtnkonhdnccolhaaIdeM
import Derived.Test.YtnkonhdnccolhaaFind
import Derived.Test.YtnkonhdnccolhaaCntI
import Derived.Test.YtnkonhdnccolhaaIterM
namespace Go.Proofs.Ytnkonhdnccolhaa
open Go.RowKit Go.Shelf
set_option linter.unusedVariables false

attribute [local go_sem] Oper.semAt_some

/-- A function's marks on its way out: a block for each range over a function, all of them open. -/
def mkD (D : Nat) : Deferred := { target := .collected D, args := #[] }
def Open (B : Nat) (W : World) (Ds : List Nat) : Prop := Ds.Nodup ∧ ∀ D ∈ Ds, B ≤ D ∧ W.heap[D]? = some (.deferred (some []))
theorem Open.nil (B : Nat) (W : World) : Open B W [] := ⟨List.nodup_nil, fun _ h => by cases h⟩
theorem Open.kept {B : Nat} {W W' : World} {Ds : List Nat} (h : Open B W Ds) (hb : Below W.heap.size W W') : Open B W' Ds :=
  ⟨h.1, fun D hD => ⟨(h.2 D hD).1, (hb.block D (Array.getElem?_eq_some_iff.1 (h.2 D hD).2).1).trans (h.2 D hD).2⟩⟩
theorem Open.set {B : Nat} {W : World} {Ds : List Nat} (h : Open B W Ds) {a : Addr} (ha : a.block < B) (u : Value) : Open B (W.setCell a u) Ds :=
  ⟨h.1, fun D hD => ⟨(h.2 D hD).1, (Below.heap_setCell _ _ _ _ (fun e => by have := (h.2 D hD).1; omega)).trans (h.2 D hD).2⟩⟩
theorem Open.lt {B : Nat} {W : World} {Ds : List Nat} (h : Open B W Ds) {D : Nat} (hD : D ∈ Ds) : D < W.heap.size := (Array.getElem?_eq_some_iff.1 (h.2 D hD).2).1
theorem Open.cons {B : Nat} {W : World} {Ds : List Nat} {D : Nat} (h : Open B W Ds) (hB : B ≤ D) (hD : W.heap[D]? = some (.deferred (some []))) (hn : D ∉ Ds) : Open B W (D :: Ds) :=
  ⟨List.nodup_cons.2 ⟨hn, h.1⟩, fun x hx => by rcases List.mem_cons.1 hx with rfl | hx; exact ⟨hB, hD⟩; exact h.2 x hx⟩

theorem leaves_open {F : Fence} {n : Nat} {P : Program} {fn : Func} {tmps : Array Value} {R : Ending → World → Prop} (K : World → Prop) (B : Nat)
    (hK : ∀ W D, K W → B ≤ D → W.heap[D]? = some (.deferred (some [])) → K (W.putObj D (.deferred none))) (hR : ∀ W, K W → LeavesInM F n P fn tmps R [] .returning W) :
    ∀ (Ds : List Nat) (W : World), Open B W Ds → K W → LeavesInM F n P fn tmps R (Ds.map mkD) .returning W
  | [], W, _, hw => hR W hw
  | D :: Ds, W, ho, hw => by
    have hD := ho.2 D List.mem_cons_self
    refine ⟨by simp, .inl ⟨D, _, rfl, run_takeDeferred hD.2, ?_⟩⟩
    refine leaves_open K B hK hR Ds _ ⟨(List.nodup_cons.1 ho.1).2, fun x hx => ?_⟩ (hK W D hw hD.1 hD.2)
    have hx2 := ho.2 x (List.mem_cons_of_mem _ hx)
    exact ⟨hx2.1, (World.putObj_heap_other (fun e => (List.nodup_cons.1 ho.1).1 (by rw [← e]; exact hx))).trans hx2.2⟩

/-- The two results' cells, at a function's end. -/
structure FinB (w : World) (x y : Bool) (W : World) : Prop where
  c1 : W.cell? ⟨w.heap.size + 1, 0, none⟩ = some (.bool x)
  c2 : W.cell? ⟨w.heap.size + 1 + 1, 0, none⟩ = some (.bool y)
  bel : Below w.heap.size w W
theorem FinB.put {w : World} {x y : Bool} {W : World} {D : Nat} (h : FinB w x y W) (hB : w.heap.size ≤ D) (hD : W.heap[D]? = some (.deferred (some []))) : FinB w x y (W.putObj D (.deferred none)) :=
  ⟨cell_kept h.c1 (grownBy_putObj' W D _) (fun r e => by cases e; exact ⟨_, hD, rfl⟩), cell_kept h.c2 (grownBy_putObj' W D _) (fun r e => by cases e; exact ⟨_, hD, rfl⟩),
    h.bel.trans (belowK_b (w := w) (Nat.le_refl _) W D _ _ hB hD rfl rfl)⟩
theorem FinB.set {w W : World} {x y x' y' : Bool} (h1 : W.cell? ⟨w.heap.size + 1, 0, none⟩ = some (.bool x')) (h2 : W.cell? ⟨w.heap.size + 1 + 1, 0, none⟩ = some (.bool y')) (hb : Below w.heap.size w W) :
    FinB w x y ((W.setCell ⟨w.heap.size + 1, 0, none⟩ (.bool x)).setCell ⟨w.heap.size + 1 + 1, 0, none⟩ (.bool y)) :=
  ⟨(World.cell?_setCell_other _ _ _ _ (by simp)).trans (World.cell?_setCell_same _ _ _ h1), World.cell?_setCell_same _ _ _ ((World.cell?_setCell_other _ _ _ _ (by simp)).trans h2), (hb.setCell (by simp) _).setCell (by simp; omega) _⟩
def FinO (w : World) (x y : Bool) (Ds : List Nat) (W : World) : Prop := FinB w x y W ∧ Open (w.heap.size + 3) W Ds
theorem finO_own (w : World) (x y : Bool) (Ds : List Nat) (B : Nat) (hw : w.heap.size ≤ B) (hD : ∀ D ∈ Ds, D < B) : OwnFrom B (fun (_ : List Nd) W => FinO w x y Ds W) := fun s X Y row hs hg hr =>
  ⟨⟨cell_kept hs.1.c1 hg (fun r e => (hr r e).2), cell_kept hs.1.c2 hg (fun r e => (hr r e).2), hs.1.bel.grown hg (Nat.le_trans (Nat.le_refl _) hs.1.bel.size) (fun k e => Nat.le_trans hw (hr k e).1)⟩,
    hs.2.1, fun D hd => ⟨(hs.2.2 D hd).1, (hg.block D (hs.2.lt hd) (fun e => by have := (hr D e.symm).1; have := hD D hd; omega)).trans (hs.2.2 D hd).2⟩⟩

theorem ret_bbJ {a b c d : Bool} (h : a = b) (k : c = d) : Ending.returned (.tuple #[.bool a, .bool c]) = .returned (.tuple #[.bool b, .bool d]) := by rw [h, k]
theorem kpT_of_below {n : Nat} {A B : World} (h : Below A.heap.size A B) (hn : n ≤ A.heap.size) : KpT n A B := ⟨h.mono hn, KeepTm.grown (grown_of_below h none) (fun r e => by cases e)⟩

set_option maxRecDepth 100000 in
set_option maxHeartbeats 8000000 in
theorem implIsIdempotent_in (l : List Bd) (w : World) (v : Value) (hv : BdS w v l) (hw : wtB l ≤ 1048576) :
    CallsIn Fence.wide 9 Try.prog 58 #[.agg #[v]] w (Ans (.tuple #[.bool (ide l), .bool (goodS l)]) w) := by
  have hl6 : l.length ≤ 1048576 := Nat.le_trans (wtB_len l) hw
  have HW := Lib.hid hw
  obtain ⟨a, c, rfl⟩ := hv.is_slice
  have hdd : ∀ k : Nat, (Fence.wide.depth.isSome = true → 1 ≤ k) := fun k h => by cases h
  have HV := Lib.hid hv
  obtain ⟨w0, hw0⟩ : ∃ w0, ((w.alloc (.cells #[.slice a l.length c] 34)).alloc (.cells #[.bool false] 4)).alloc (.cells #[.bool false] 4) = w0 := ⟨_, rfl⟩
  have HB0 : Hid (Below w.heap.size w w0) := Lib.hid (by rw [← hw0]; exact (((Below.refl w.heap.size w).alloc (Nat.le_refl _) _).alloc (by simp) _).alloc (by simp; omega) _)
  have H10 : Hid (Oner w0 w.heap.size (.slice a l.length c)) := Lib.hid (by rw [← hw0]; exact ((oner_new w (.slice a l.length c) 34 _ rfl).alloc _).alloc _)
  have H20 : Hid (Oner w0 (w.heap.size + 1) (.bool false)) := Lib.hid (by rw [← hw0]; exact (oner_new _ (.bool false) 4 (w.heap.size + 1) (by simp)).alloc _)
  have H30 : Hid (Oner w0 (w.heap.size + 1 + 1) (.bool false)) := Lib.hid (by rw [← hw0]; exact oner_new _ (.bool false) 4 (w.heap.size + 1 + 1) (by simp))
  have hz0 : w0.heap.size = w.heap.size + 3 := by rw [← hw0]; simp
  clear hv hw
  refine callsIn_of_wp_marks Try.func58 rfl trivial ?_ rfl
  simp only [Try.ntmps58, List.size_toArray, List.length_cons, List.length_nil, Nat.reduceAdd, Nat.reduceSub, Array.replicate_succ, Array.replicate_zero, List.push_toArray, List.append_toArray, List.nil_append, List.cons_append]
  obtain ⟨b0, b1⟩ := H10.out
  gi_wp2
  refine ⟨trivial, ?_⟩
  refine (callsIn_wide.2 (implIsValidSub_any l _ _ (HV.out.kept HB0.out) HW.out)).mono ?_
  rintro e w1 ⟨rfl, hb⟩
  have HB1 := Lib.hid (carry_below HB0.out (Nat.le_refl _) hb)
  have H11 := Lib.hid (H10.out.kept hb)
  have H21 := Lib.hid (H20.out.kept hb)
  have H31 := Lib.hid (H30.out.kept hb)
  have hz1 : w.heap.size + 3 ≤ w1.heap.size := by have := hb.size; omega
  clear hb b0 b1 hw0
  obtain ⟨b0, b1⟩ := H11.out
  obtain ⟨c0, c1⟩ := H21.out
  obtain ⟨d0, d1⟩ := H31.out
  cases hg : goodS l with
  | false =>
    have HF := Lib.hid (ide_bad hg)
    have HG := Lib.hid hg
    clear hg
    have HFB : Hid (FinB w false false ((w1.setCell ⟨w.heap.size + 1, 0, none⟩ (.bool false)).setCell ⟨w.heap.size + 1 + 1, 0, none⟩ (.bool false))) := Lib.hid (FinB.set c0 d0 HB1.out)
    gi_wp2
    refine leaves_open (FinB w false false) (w.heap.size + 3) (fun W D h hB hD => h.put (by omega) hD) (fun W h => ?_) [] _ (Open.nil _ _) HFB.out
    obtain ⟨r1, r2, rb⟩ := h
    exact ⟨.tuple #[.bool false, .bool false], by simp [results, Try.results58, go_sem, r1, r2], ret_bbJ HF.out.symm HG.out.symm, rb⟩
  | true =>
    have HF := Lib.hid (ide_good hg)
    have HG := Lib.hid hg
    have HASC := Lib.hid (good_asc hg)
    have hl12 := goodS_le hg
    clear hg
    gi_wp2
    refine wpIn_loop (fun a' wr => ∃ (k : Nat) (Ds : List Nat) (u5 u16 u17 u18 u19 u20 u21 u32 : Value), a' = { tmps := #[.agg #[.slice a l.length c], .pointer (some ⟨w.heap.size, 0, none⟩), .pointer (some ⟨w.heap.size + 1, 0, none⟩), .pointer (some ⟨w.heap.size + 1 + 1, 0, none⟩), undef, u5, undef, undef, undef, .agg #[.slice a l.length c], .bool true, .bool false, .pointer (some ⟨w.heap.size, 0, none⟩), .slice a l.length c, .int .i64 l.length, .int .i64 k, u16, u17, u18, u19, u20, u21, undef, undef, undef, undef, undef, undef, undef, undef, undef, undef, u32], defers := Ds.map mkD } ∧
      k ≤ l.length ∧ ideS l k = true ∧ Oner wr w.heap.size (.slice a l.length c) ∧ Oner wr (w.heap.size + 1) (.bool false) ∧ Oner wr (w.heap.size + 1 + 1) (.bool false) ∧ Below w.heap.size w wr ∧ Open (w.heap.size + 3) wr Ds) (fun a' _ => l.length - (intOf (a'.tmps.getD 15 undef)).toNat) ⟨0, [], undef, undef, undef, undef, undef, undef, undef, undef, rfl, Nat.zero_le _, by simp [ideS], H11.out, H21.out, H31.out, HB1.out, Open.nil _ _⟩ ?_
    rintro _ wr ⟨k, Ds, u5, u16, u17, u18, u19, u20, u21, u32, rfl, hk, hq, h1, h2, h3, hbel, hop⟩
    have HQ := Lib.hid hq
    have H1 := Lib.hid h1
    have H2 := Lib.hid h2
    have H3 := Lib.hid h3
    have HB := Lib.hid hbel
    have HOP := Lib.hid hop
    have hzr : w.heap.size + 1 + 1 < wr.heap.size := World.block_lt_of_cell? wr _ h3.1
    clear b0 b1 c0 c1 d0 d1 hq h1 h2 h3 hbel hop HB1 H11 H21 H31 hz1
    by_cases hlt : k < l.length
    · obtain ⟨d, hd⟩ : ∃ d, l[k]? = some d := ⟨_, List.getElem?_eq_getElem hlt⟩
      obtain ⟨b, off, rfl, vb, c0, c1, c2, hvb⟩ := HV.out.get hd
      obtain ⟨pb, qb, rfl⟩ := hvb.is_slice
      have HVB := Lib.hid (hvb.kept HB.out)
      have e0 := carry_cell c0 HB.out
      have e1 := carry_cell c1 HB.out
      have e2 := carry_cell c2 HB.out
      have HD := Lib.hid hd
      have hgd := okAt_good (goodS_at HG.out hd)
      have hsz : d.tm.sz ≤ 30 := by
        unfold goodB at hgd; simp only [Bool.and_eq_true] at hgd
        have h := hgd.1; simp [fitsB] at h; exact h.1
      have HDW : Hid (d.tm.wt ≤ 1048576) := Lib.hid (Nat.le_trans (wtB_tm (mem_of_at hd)) HW.out)
      clear hd c0 c1 c2 hvb hgd
      obtain ⟨w2, hw2⟩ : ∃ w2, wr.alloc (.cells #[.string d.var, .string d.tm.name, .slice pb d.tm.args.length qb] 110) = w2 := ⟨_, rfl⟩
      have t2 : Thr w2 wr.heap.size (.string d.var) (.string d.tm.name) (.slice pb d.tm.args.length qb) := by rw [← hw2]; exact thr_new _ _ _ _ _ _ rfl
      have HB2 : Hid (Below wr.heap.size wr w2) := Lib.hid (by rw [← hw2]; exact (Below.refl _ _).alloc (Nat.le_refl _) _)
      obtain ⟨g0, g1, g2, g3⟩ := t2
      gi_wp2
      refine ⟨trivial, ?_⟩
      refine (callsIn_wide.2 (nodesOf_any d.tm _ _ (HVB.out.kept HB2.out))).mono ?_
      rintro e w3 ⟨rfl, rfl⟩
      have hlim : d.tm.lim 9223372036854775806 := Tm.lim_of_wt d.tm _ (by have := HDW.out; omega)
      have hN : d.tm.nds.length ≤ 30 := by rw [Tm.nds_len]; exact hsz
      obtain ⟨W0, hW0⟩ : ∃ W0, w2.alloc (.cells #[.string d.tm.name, .slice pb d.tm.args.length qb] 38) = W0 := ⟨_, rfl⟩
      have X5 : Hid (Two W0 w2.heap.size (.string d.tm.name) (.slice pb d.tm.args.length qb)) := Lib.hid (by rw [← hW0]; exact two_new _ _ _ _ _ rfl)
      have HB3 : Hid (Below wr.heap.size wr W0) := Lib.hid (by rw [← hW0]; exact HB2.out.alloc HB2.out.size _)
      have HB4 : Hid (Below w.heap.size w W0) := Lib.hid (HB.out.trans (HB3.out.mono HB.out.size))
      have hwz : w.heap.size + 1 + 1 < W0.heap.size := by have := HB3.out.size; omega
      have h1 := H1.out.kept HB3.out
      have h2 := H2.out.kept HB3.out
      have h3 := H3.out.kept HB3.out
      have HOP3 := Lib.hid (HOP.out.kept HB3.out)
      have HVW := Lib.hid (HV.out.kept HB4.out)
      have HVT := Lib.hid (HVB.out.kept HB3.out)
      rw [hW0]
      clear hW0 g0 g1 g2 g3 hw2 e0 e1 e2
      gi_wp2
      refine wpIn_rangeFunc_ownH rfl (by omega) (gf := 168) (lb := #[.pointer (some ⟨w2.heap.size, 0, none⟩)]) rfl trivial (enters_of Try.func168 (by kernel_rfl) rfl)
        (nodesM_stops (9 - 1) w2.heap.size W0 d.tm _ hlim HVT.out W0 (Below.refl _ _) (Nat.le_refl _) X5.out) (fun h k => h.trans k) (KpT.book (Nat.le_refl _)) (Below.refl _ _) (fun _ => rfl)
        (fun pre W => (∀ y ∈ pre, boundB l y.tm.name = false) ∧ Below W0.heap.size W0 W)
        (fun cc pre W => cc = .ret ∧ (∃ y ∈ pre, boundB l y.tm.name = true) ∧ FinO w false true Ds W)
        (OwnFrom.and (ownFrom_pure _ _) (ownFrom_below (Nat.le_refl _) (Nat.le_refl _)))
        (fun cc => OwnFrom.and (ownFrom_pure _ (fun _ => cc = .ret)) (OwnFrom.and (ownFrom_pure _ _) (finO_own w false true Ds _ (by omega) (fun D hD => HOP3.out.lt hD))))
        ⟨fun y hy => (by cases hy), Below.refl _ _⟩
        (fun x a' W => ∃ (Bx : Nat) (y5 y16 y17 y18 y19 y20 y21 : Value), NdBox W Bx x ∧ a' = { tmps := #[.agg #[.slice (some ⟨b, off, none⟩) l.length c], .pointer (some ⟨w.heap.size, 0, none⟩), .pointer (some ⟨w.heap.size + 1, 0, none⟩), .pointer (some ⟨w.heap.size + 1 + 1, 0, none⟩), undef, y5, .pointer (some ⟨Bx, 0, none⟩), undef, undef, .agg #[.slice (some ⟨b, off, none⟩) l.length c], .bool true, .bool false, .pointer (some ⟨w.heap.size, 0, none⟩), .slice (some ⟨b, off, none⟩) l.length c, .int .i64 l.length, .int .i64 k, y16, y17, y18, y19, y20, y21, .agg #[.string x.tm.name, .slice x.a x.tm.args.length x.c], undef, undef, undef, undef, undef, undef, undef, undef, undef, u32], defers := [] })
        (fun x a' _ X Y row hs hg hr => by obtain ⟨Bx, y5, y16, y17, y18, y19, y20, y21, h2, h3⟩ := hs; exact ⟨Bx, y5, y16, y17, y18, y19, y20, y21, ndBox_own Bx (fun _ => x) () X Y row h2 hg (fun r e => (hr r e).2), h3⟩)
        ?assign ?body ?done ?stop
      case assign =>
        rintro ll pre x W K ⟨hp, hB1⟩ hK
        simp only [Nd.enc]
        gi_wp2
        exact hK _ _ ((KeepsOthers.alloc _ _).from _) ((KpT.refl _ W).alloc hB1.size _) ⟨hp, hB1.alloc hB1.size _⟩ ⟨W.heap.size, _, _, _, _, _, _, _, NdBox.new W x, rfl⟩
      case body =>
        rintro ll pre x a' W hl ⟨r, hr⟩ ⟨hp, hB1⟩ ⟨Bx, y5, y16, y17, y18, y19, y20, y21, hbx, rfl⟩ hlt2
        obtain ⟨x0, x1⟩ := hbx.cells
        have k1 := (h1.kept hB1).1
        have CF := Lib.hid (find_any l W _ (HVW.out.kept hB1) hl6 HASC.out x.tm.name)
        have HP := Lib.hid hp
        have HB1 := Lib.hid hB1
        have m2 := h2.kept hB1
        have m3 := h3.kept hB1
        have HOPW := Lib.hid (HOP3.out.kept hB1)
        clear hp hB1
        gi_wp2
        refine ⟨trivial, ?_⟩
        refine (callsIn_wide.2 CF.out).mono ?_
        rintro e w4 ⟨i, rfl, hpl, hb⟩
        have n2 := m2.kept hb
        have n3 := m3.kept hb
        have HBB := Lib.hid hb
        have HB5 := Lib.hid (HB1.out.trans (hb.mono HB1.out.size))
        obtain ⟨q2, q3⟩ := n2
        obtain ⟨p2, p3⟩ := n3
        cases hh : hitB l x.tm.name i with
        | true =>
          have HX : Hid (∃ y ∈ pre ++ [x], boundB l y.tm.name = true) := Lib.hid ⟨x, by simp, by
            obtain ⟨dd, hdd2, hdn⟩ := hit_yes hh
            exact bound_iff.2 ⟨dd, List.mem_of_getElem? hdd2, hdn⟩⟩
          have HFO : Hid (FinB w false true ((w4.setCell ⟨w.heap.size + 1, 0, none⟩ (.bool false)).setCell ⟨w.heap.size + 1 + 1, 0, none⟩ (.bool true))) := Lib.hid (FinB.set q2 p2 (HB4.out.trans (HB5.out.mono HB4.out.size)))
          have HOPX : Hid (Open (w.heap.size + 3) ((w4.setCell ⟨w.heap.size + 1, 0, none⟩ (.bool false)).setCell ⟨w.heap.size + 1 + 1, 0, none⟩ (.bool true)) Ds) := Lib.hid (((HOPW.out.kept hb).set (by simp) _).set (by simp) _)
          have HKF : Hid (KeepsFrom W0.heap.size W ((w4.setCell ⟨w.heap.size + 1, 0, none⟩ (.bool false)).setCell ⟨w.heap.size + 1 + 1, 0, none⟩ (.bool true))) := Lib.hid ((KeepsFrom.of_grownBy (grown_of_below hb none) (fun j e => by cases e)).trans (((KeepsOthers.setCell _ _ _).from _).trans ((KeepsOthers.setCell _ _ _).from _)))
          clear hh hpl hb
          gi_wp2
          exact ⟨HKF.out, rfl, HX.out, HFO.out, HOPX.out⟩
        | false =>
          have HX : Hid (∀ y ∈ pre ++ [x], boundB l y.tm.name = false) := Lib.hid (fun y hy => by
            rcases List.mem_append.1 hy with hy | hy
            · exact HP.out y hy
            · rw [List.mem_singleton.1 hy]; exact bound_no.2 (hit_no hpl HASC.out hh))
          clear hh hpl hb
          gi_wp2
          exact ⟨KeepsFrom.of_grownBy (grown_of_below HBB.out none) (fun j e => by cases e), kpT_of_below HBB.out HB1.out.size, HX.out, HB5.out⟩
      case done =>
        rintro D xs W hD hS ⟨hp, hB1⟩ hK
        have HN : Hid (ideS l (k + 1) = true) := Lib.hid (by
          rw [ideS_next HD.out, HQ.out, ide_nds HG.out HD.out, Bool.true_and, List.all_eq_true]
          intro nm hnm
          obtain ⟨s, hs, rfl⟩ := List.mem_map.1 hnm
          rw [← hS] at hs
          obtain ⟨y, hy, rfl⟩ := List.mem_map.1 hs
          rw [hp y hy]; rfl)
        have m1 := h1.kept hB1
        have m2 := h2.kept hB1
        have m3 := h3.kept hB1
        have HBW : Hid (Below w.heap.size w W) := Lib.hid (HB4.out.trans (hB1.mono HB4.out.size))
        have HOPN : Hid (Open (w.heap.size + 3) W (D :: Ds)) := Lib.hid ((HOP3.out.kept hB1).cons (by omega) hK (fun e => by have := HOP3.out.lt e; omega))
        clear hp hB1 hS
        gi_wp2
        refine ⟨⟨k + 1, D :: Ds, _, _, _, _, _, _, _, _, rfl, by omega, HN.out, m1, m2, m3, HBW.out, HOPN.out⟩, ?_⟩
        simp [intOf]; omega
      case stop =>
        rintro D cc pre W hD hS ⟨rfl, hx, hfo⟩ hK
        have HF2 : Hid (ide l = false) := Lib.hid (by
          obtain ⟨y, hy, hyb⟩ := hx
          rw [HF.out]
          refine ideS_no HD.out ?_
          rw [ide_nds HG.out HD.out, List.all_eq_false]
          exact ⟨y.tm.name, List.mem_map.2 ⟨y.tm, hS y hy, rfl⟩, by simp [hyb]⟩)
        have HFO := Lib.hid hfo.1
        have HOPN : Hid (Open (w.heap.size + 3) W (D :: Ds)) := Lib.hid (hfo.2.cons (by omega) hK (fun e => by have := HOP3.out.lt e; omega))
        clear hx hfo hS
        gi_wp2
        refine leaves_open (FinB w false true) (w.heap.size + 3) (fun W D h hB hD => h.put (by omega) hD) (fun W h => ?_) (D :: Ds) _ HOPN.out HFO.out
        obtain ⟨r1, r2, rb⟩ := h
        exact ⟨.tuple #[.bool false, .bool true], by simp [results, Try.results58, go_sem, r1, r2], ret_bbJ HF2.out.symm HG.out.symm, rb⟩
    · have hke : k = l.length := by omega
      subst hke
      have HF2 : Hid (ide l = true) := Lib.hid (HF.out.trans HQ.out)
      have HFO : Hid (FinB w true true ((wr.setCell ⟨w.heap.size + 1, 0, none⟩ (.bool true)).setCell ⟨w.heap.size + 1 + 1, 0, none⟩ (.bool true))) := Lib.hid (FinB.set H2.out.1 H3.out.1 HB.out)
      have HOPX : Hid (Open (w.heap.size + 3) ((wr.setCell ⟨w.heap.size + 1, 0, none⟩ (.bool true)).setCell ⟨w.heap.size + 1 + 1, 0, none⟩ (.bool true)) Ds) := Lib.hid ((HOP.out.set (by simp) _).set (by simp) _)
      obtain ⟨q2, q3⟩ := H2.out
      obtain ⟨p2, p3⟩ := H3.out
      gi_wp2
      refine leaves_open (FinB w true true) (w.heap.size + 3) (fun W D h hB hD => h.put (by omega) hD) (fun W h => ?_) Ds _ HOPX.out HFO.out
      obtain ⟨r1, r2, rb⟩ := h
      exact ⟨.tuple #[.bool true, .bool true], by simp [results, Try.results58, go_sem, r1, r2], ret_bbJ HF2.out.symm HG.out.symm, rb⟩

theorem implIsIdempotent_any (l : List Bd) (w : World) (v : Value) (hv : BdS w v l) (hw : wtB l ≤ 1048576) :
    Calls Try.prog 58 #[.agg #[v]] w (Ans (.tuple #[.bool (ide l), .bool (goodS l)]) w) := callsIn_wide.1 (implIsIdempotent_in l w v hv hw)

end Go.Proofs.Ytnkonhdnccolhaa
