/- The program's copy of a binding, and RestrictSubstitution, the program's: contracts, for bindings of at most 1048576 names' bytes, bindings and arguments, and at most 1048576 names. -/
import Derived.Test.YtmfdglbldogfaaaRestT
import Derived.Test.YtmfdglbldogfaaaCopy
namespace Go.Proofs.Ytmfdglbldogfaaa
open Go.RowKit
set_option linter.unusedVariables false

set_option maxRecDepth 100000 in
set_option maxHeartbeats 4000000 in
theorem copyBd_any (d : Bd) (w : World) (va : Value) (hv : TmS w va d.tm.args) (hw : d.tm.wt ≤ 1048576) :
    Calls Try.prog 86 #[.agg #[.string d.var, .string d.tm.name, va]] w (ToBdEnd d w) := by
  obtain ⟨pa, ca, rfl⟩ := hv.is_slice
  have HV := Lib.hid hv
  clear hv
  have HB := Lib.hid (((Below.refl w.heap.size w).alloc (Nat.le_refl _) (.cells #[.string d.var, .string d.tm.name, .slice pa d.tm.args.length ca] 83)).alloc (by simp) (.cells #[.string ⟨#[]⟩, .string ⟨#[]⟩, .slice none 0 0] 83))
  have D2 := Lib.hid ((thr_new w (.string d.var) (.string d.tm.name) (.slice pa d.tm.args.length ca) 83 _ rfl).alloc (.cells #[.string ⟨#[]⟩, .string ⟨#[]⟩, .slice none 0 0] 83))
  have R2 := Lib.hid (thr_new (w.alloc (.cells #[.string d.var, .string d.tm.name, .slice pa d.tm.args.length ca] 83)) (.string ⟨#[]⟩) (.string ⟨#[]⟩) (.slice none 0 0) 83 (w.heap.size + 1) (by simp))
  obtain ⟨w0, hw0⟩ : ∃ w0, (w.alloc (.cells #[.string d.var, .string d.tm.name, .slice pa d.tm.args.length ca] 83)).alloc (.cells #[.string ⟨#[]⟩, .string ⟨#[]⟩, .slice none 0 0] 83) = w0 := ⟨_, rfl⟩
  rw [hw0] at HB D2 R2
  have hz0 : w0.heap.size = w.heap.size + 2 := by rw [← hw0]; simp
  have HZ0 := Lib.hid hz0
  clear hz0
  go_enter Try.func86, Try.ntmps86
  obtain ⟨d0, d1, d2, d3⟩ := D2.out
  obtain ⟨r0, r1, r2, r3⟩ := R2.out
  have C0 : Hid (∀ W : World, Below w0.heap.size w0 W → Calls Try.prog 115 #[.agg #[.string d.tm.name, .slice pa d.tm.args.length ca]] W (ToEnd d.tm W)) := Lib.hid (fun W hW => copyTerm_any d.tm W _ ((HV.out.kept HB.out).kept hW) hw)
  have hB0 : Below w0.heap.size w0 w0.drew := (Below.refl _ _).drew
  go_wp2_with fail
  clear hw0
  go_region_law (first
    | (go_simp; go_at_call 115; refine (C0.out _ hB0).mono ?_; rintro e w6 ⟨v6, rfl, ho, hb⟩; have q0 := carry_cell' hb d0; have q1 := carry_cell' hb d1; have q2 := carry_cell' hb d2; have R6 := Lib.hid (R2.out.kept (carry_below hB0 (Nat.le_refl _) hb)); obtain ⟨t0, t1, t2, t3⟩ := R6.out; have hB6 := carry_below hB0 (Nat.le_refl _) hb; obtain ⟨pv, cv, rfl⟩ := ho.read.is_slice; have HO6 := Lib.hid ho; clear hb ho))
  all_goals
    have HB6 := Lib.hid (carry_below HB.out (Nat.le_refl _) hB6)
    have hz6 : w.heap.size + 2 ≤ w0.drew.heap.size := by have := HZ0.out; show w.heap.size + 2 ≤ w0.heap.size; omega
    obtain ⟨W2, hW2⟩ : ∃ W2, ((w6.setCell ⟨w.heap.size + 1, 0, none⟩ (.string d.var)).setCell ⟨w.heap.size + 1, 1, none⟩ (.string d.tm.name)).setCell ⟨w.heap.size + 1, 2, none⟩ (.slice pv d.tm.args.length cv) = W2 := ⟨_, rfl⟩
    have p0 : W2.cell? ⟨w.heap.size + 1, 0, none⟩ = some (.string d.var) := by rw [← hW2, World.cell?_setCell_other _ _ _ _ (by simp), World.cell?_setCell_other _ _ _ _ (by simp)]; exact World.cell?_setCell_same _ _ _ t0
    have p1 : W2.cell? ⟨w.heap.size + 1, 1, none⟩ = some (.string d.tm.name) := by rw [← hW2, World.cell?_setCell_other _ _ _ _ (by simp)]; exact World.cell?_setCell_same _ _ _ ((World.cell?_setCell_other _ _ _ _ (by simp)).trans t1)
    have p2 : W2.cell? ⟨w.heap.size + 1, 2, none⟩ = some (.slice pv d.tm.args.length cv) := by rw [← hW2]; exact World.cell?_setCell_same _ _ _ ((World.cell?_setCell_other _ _ _ _ (by simp)).trans ((World.cell?_setCell_other _ _ _ _ (by simp)).trans t2))
    have HE : Hid (ToBdEnd d w (.returned (.agg #[.string d.var, .string d.tm.name, .slice pv d.tm.args.length cv])) W2) := Lib.hid (by
      rw [← hW2]
      refine ⟨_, rfl, ?_, ((HB6.out.setCell (by simp) _).setCell (by simp) _).setCell (by simp) _⟩
      refine (((HO6.out.setCell (fun h => by have h1 : w0.drew.heap.size ≤ w.heap.size + 1 := h.1; omega) _).setCell (fun h => by have h1 : w0.drew.heap.size ≤ w.heap.size + 1 := h.1; omega) _).setCell (fun h => by have h1 : w0.drew.heap.size ≤ w.heap.size + 1 := h.1; omega) _).mono fun x hx => ⟨?_, ?_⟩
      · have h1 := hx.1; omega
      · simp only [size_setCell]; exact hx.2)
    clear q0 q1 q2 hB6
    go_wp2
    refine bodyPost_ret (v := .agg #[.string d.var, .string d.tm.name, .slice pv d.tm.args.length cv]) (by simp [results, Try.results86, go_sem, p0, p1, p2, hW2]) rfl ?_
    first | exact HE.out | (rw [hW2]; exact HE.out)

set_option maxRecDepth 100000 in
set_option maxHeartbeats 8000000 in
theorem implRestrict_any (l : List Bd) (ss : List ByteArray) (w : World) (v vs : Value) (hv : BdS w v l) (hvs : StrsV w vs ss) (hl : wtB l ≤ 1048576) (hn : ss.length ≤ 1048576) :
    Calls Try.prog 35 #[.agg #[v], vs] w (BdOkEnd (restr l ss) (goodS l) w) := by
  have hlen := Nat.le_trans (wtB_len l) hl
  have HLB := Lib.hid (fun (d : Bd) (hd : d ∈ l) => Nat.le_trans (wtB_tm hd) hl)
  obtain ⟨a, c, rfl⟩ := hv.is_slice
  have HBS := Lib.hid hv
  have HSV := Lib.hid hvs
  have hvn : ∃ p n q, vs = .slice p n q := by
    rcases hvs with ⟨a, c, h, _⟩ | ⟨b, off, c, h, _⟩ <;> exact ⟨_, _, _, h⟩
  obtain ⟨sp, sn, sq, rfl⟩ := hvn
  obtain ⟨i0, hi, hz0, hz1, hz2⟩ := info_parts infoBd
  have S2 := Lib.hid ((oner_new w (.slice a l.length c) 29 _ rfl).alloc (.cells #[.slice none 0 0] 29))
  have R2 := Lib.hid (oner_new (w.alloc (.cells #[.slice a l.length c] 29)) (.slice none 0 0) 29 (w.heap.size + 1) (by simp))
  have HB := Lib.hid (((Below.refl w.heap.size w).alloc (Nat.le_refl _) (.cells #[.slice a l.length c] 29)).alloc (by simp) (.cells #[.slice none 0 0] 29))
  clear hv hvs
  go_enter Try.func35, Try.ntmps35
  obtain ⟨s0, s1⟩ := S2.out
  go_wp2_with fail
  refine (implIsValidSub_any l _ _ (HBS.out.kept HB.out) hl).mono ?_
  rintro e w1 ⟨rfl, hb⟩
  have HB1 := Lib.hid (carry_below HB.out (Nat.le_refl _) hb)
  have S3 := Lib.hid (S2.out.kept hb)
  have R3 := Lib.hid (R2.out.kept hb)
  clear hb HB S2 R2 s0 s1
  obtain ⟨s0, s1⟩ := S3.out
  obtain ⟨r0, r1⟩ := R3.out
  cases hg : goodS l with
  | false =>
    have HF := Lib.hid (restr_no (ss := ss) hg)
    have HG := Lib.hid hg
    clear hg
    go_wp2
    refine bodyPost_ret (v := .tuple #[.agg #[.slice none 0 0], .bool false]) (by simp [results, Try.results35, go_sem, r0]) rfl ?_
    exact BdOkEnd.no HF.out HG.out (HB1.out.setCell (by simp) _)
  | true =>
    have HF := Lib.hid (restr_yes (ss := ss) hg)
    have HG := Lib.hid hg
    have hz1' : w.heap.size + 1 < w1.heap.size := World.block_lt_of_cell? w1 _ r0
    clear hg
    obtain ⟨w3, hw3⟩ : ∃ w3, w1.alloc (.cells #[.slice none 0 0] 29) = w3 := ⟨_, rfl⟩
    have hz23 : w3.heap.size = w1.heap.size + 1 := by rw [← hw3]; simp
    have hb3 : Below w1.heap.size w1 w3 := by rw [← hw3]; exact (Below.refl _ _).alloc (Nat.le_refl _) _
    have HB3 := Lib.hid (carry_below HB1.out (Nat.le_refl _) hb3)
    have R4 := Lib.hid (R3.out.kept hb3)
    have S4 := Lib.hid (S3.out.kept hb3)
    have O4 : Hid (Oner w3 w1.heap.size (.slice none 0 0)) := Lib.hid (by rw [← hw3]; exact oner_new _ _ _ _ rfl)
    have HR0 : Hid (OwnRelB w w3 w3.heap.size w3 (fun b => w3.heap.size ≤ b) (.slice none 0 0) (l.filter (inS ss)) 0) := Lib.hid (OwnRelB.start _ _ HB3.out (Nat.le_refl _))
    have t0 := S4.out.1
    clear hb3 S3 R3
    go_wp2
    clear hw3 s0 s1 r0 r1 t0
    go_loopw [16] (fun i wr => ∃ (k : Nat) (vo : Value), k ≤ l.length ∧ i = .int .i64 k ∧ OwnRelB w w3 w3.heap.size wr (fun b => w3.heap.size ≤ b) vo (l.filter (inS ss)) ((l.take k).filter (inS ss)).length ∧ Oner wr (w.heap.size + 1) (.slice none 0 0) ∧ Oner wr w1.heap.size vo) (fun i _ => l.length - (intOf i).toNat)
    case atStart => exact ⟨0, _, Nat.zero_le _, rfl, HR0.out, R4.out, O4.out⟩
    case round =>
      obtain ⟨k, vo, hk, rfl, hrel, hres, hout⟩ := hrel
      have HR := Lib.hid hrel
      have HRS := Lib.hid hres
      have HOU := Lib.hid hout
      obtain ⟨xs, f, Ss, hown, hm, hne, hP, hbe, hz⟩ := hrel
      have HOWN := Lib.hid hown
      have HM := Lib.hid hm
      have HNE := Lib.hid hne
      have HPP := Lib.hid hP
      have HBE := Lib.hid hbe
      have HZ := Lib.hid hz
      clear hown hm hne hP hbe hz hres hout
      by_cases hlt : k < l.length
      · obtain ⟨d, hd⟩ : ∃ d, l[k]? = some d := ⟨_, List.getElem?_eq_getElem hlt⟩
        obtain ⟨b, off, rfl, vb, c0, c1, c2, hvb⟩ := HBS.out.get hd
        obtain ⟨pb, qb, rfl⟩ := hvb.is_slice
        have e0 := carry_cell c0 HBE.out
        have e1 := carry_cell c1 HBE.out
        have e2 := carry_cell c2 HBE.out
        have HD := Lib.hid hd
        obtain ⟨wm, hwm⟩ : ∃ wm, wr.alloc (.cells #[.string d.var, .string d.tm.name, .slice pb d.tm.args.length qb] 83) = wm := ⟨_, rfl⟩
        have hbm : Below wr.heap.size wr wm := by rw [← hwm]; exact (Below.refl _ _).alloc (Nat.le_refl _) _
        have HTH : Hid (Thr wm wr.heap.size (.string d.var) (.string d.tm.name) (.slice pb d.tm.args.length qb)) := Lib.hid (by rw [← hwm]; exact thr_new _ _ _ _ _ _ rfl)
        have HBM := Lib.hid (carry_below HBE.out (Nat.le_refl _) hbm)
        have HRS := Lib.hid (HRS.out.kept hbm)
        have HOU := Lib.hid (HOU.out.kept hbm)
        have HOWN := Lib.hid (own_kept HOWN.out hbm)
        have HM := Lib.hid (HM.out.keep hbm.size (fun i b hi hb2 => hbm.block b (HM.out.sub i b hi hb2).2))
        have HZM := Lib.hid (Nat.le_trans HZ.out hbm.size)
        have HVB := Lib.hid (hvb.kept HBM.out)
        obtain ⟨g0, g1, g2, g3⟩ := HTH.out
        have CI := Lib.hid (containsV_any (.slice sp sn sq) ss d.var wm (HSV.out.below HBM.out) hn)
        have HTE : Hid (inS ss d = Lib.containsS ss d.var) := Lib.hid rfl
        have hzr := HZ.out
        clear hd c0 c1 c2 hvb
        generalize Lib.containsS ss d.var = inn at CI HTE
        go_wp2_with fail
        refine CI.out.mono ?_
        rintro e wq ⟨rfl, rfl⟩
        clear hwm e0 e1 e2
        cases inn with
        | false =>
          have HN := Lib.hid (filter_next_no (p := inS ss) HD.out HTE.out)
          have HRN : Hid (OwnRelB w w3 w3.heap.size wq (fun b => w3.heap.size ≤ b) vo (l.filter (inS ss)) ((l.take (k + 1)).filter (inS ss)).length) := Lib.hid (by
            rw [HN.out]
            exact ⟨xs, f, Ss, HOWN.out, HM.out, HNE.out, HPP.out, HBM.out, HZM.out⟩)
          clear hbm
          go_wp2
          go_roundw
          case rel => exact ⟨k + 1, vo, by omega, by go_num, HRN.out, HRS.out, HOU.out⟩
          case measure => simp [intOf]; omega
        | true =>
          have HN := Lib.hid (filter_next_yes (p := inS ss) HD.out HTE.out)
          have HAT2 := Lib.hid (filter_at (p := inS ss) HD.out HTE.out)
          obtain ⟨kk, hkk⟩ : ∃ kk, kk = ((l.take k).filter (inS ss)).length := ⟨_, rfl⟩
          have hkl : kk ≤ l.length := by rw [hkk]; exact filter_le k
          rw [← hkk] at HN HAT2 HOWN HM HNE HPP
          have HFAR : Hid (∀ g, vo.ownBlock = some g → w3.heap.size ≤ g) := Lib.hid (fun g hg => (HOWN.out.lt g hg).1)
          have HFB : Hid (some wr.heap.size ≠ vo.ownBlock) := Lib.hid (fun e => by
            obtain ⟨xs, f, Ss, h1, _⟩ := HR.out
            have := h1.lt _ e.symm; omega)
          have C0 : Hid (∀ W : World, Below wq.heap.size wq W → Calls Try.prog 86 #[.agg #[.string d.var, .string d.tm.name, .slice pb d.tm.args.length qb]] W (ToBdEnd d W)) := Lib.hid (fun W hW => copyBd_any d W _ (HVB.out.kept hW) (HLB.out d (List.mem_of_getElem? HD.out)))
          obtain ⟨o0, o1⟩ := HOU.out
          have hWZ : w1.heap.size < w3.heap.size := by omega
          have hWc : w.heap.size + 1 < w3.heap.size := by omega
          have hB0 : Below wq.heap.size wq wq.drew := (Below.refl _ _).drew
          clear hbm hkk
          go_wp2_with fail
          go_region_law (first
            | (refine step_append_lies _ (by rfl) _ _ _ (by rfl) w3.heap.size 83 i0 _ 3 56 Try.underlying27 hi hz0 hz1 hz2 rfl (by omega) vo kk xs (by rfl) (HW6.out.alloc _) ⟨w6.heap.size, 0, none⟩ 1 1 [.string d.var, .string d.tm.name, .slice pv d.tm.args.length cv] (by rfl) (by rfl) (World.news_of_block (cs := #[.string d.var, .string d.tm.name, .slice pv d.tm.args.length cv]) (t := 83) (fr := (0, 0)) (heap_alloc_new w6 _)) (by simp [Value.oneCell']) (by omega) (by unfold maxLen; omega) (by omega) (by have := hB6.size; have := HZM.out; simp; omega) (w6.heap.size + 1) (by simp) ?_; intro gg cap w7 hown7 hgrow hat hlt7; have s1' := app_cell hgrow q1 (far_row HFAR.out hWZ); have s2 := app_cell hgrow q2 HFB.out; have s3 := app_cell hgrow q3 HFB.out; have s5 := app_cell hgrow q4 HFB.out; have s4 := (app_one hgrow O6.out (far_row HFAR.out hWZ)).2; have HOWN7 := Lib.hid hown7; have HGROW7 := Lib.hid hgrow; have HAT7 := Lib.hid hat; clear hown7 hgrow hat)
            | (go_simp; go_at_call 86; refine (C0.out _ hB0).mono ?_; rintro e w6 ⟨v6, rfl, ho, hb⟩; have q1 := carry_cell' hb o0; have q2 := carry_cell' hb g0; have q3 := carry_cell' hb g1; have q4 := carry_cell' hb g2; have hB6 := carry_below hB0 (Nat.le_refl _) hb; obtain ⟨pv, cv, rfl⟩ := ho.read.is_slice; have HO6 := Lib.hid ho; have HW6 := Lib.hid (own_kept HOWN.out hB6); have R6 := Lib.hid (HRS.out.kept hB6); have O6 := Lib.hid (HOU.out.kept hB6); have hz6 : w1.heap.size < w6.heap.size := World.block_lt_of_cell? w6 _ q1; clear hb ho))
          all_goals
            have HNX : Hid (OwnRelB w w3 w3.heap.size (w7.setCell ⟨w1.heap.size, 0, none⟩ (.slice (some ⟨gg, 0, none⟩) (kk + 1) cap)) (fun b => w3.heap.size ≤ b) (.slice (some ⟨gg, 0, none⟩) (kk + 1) cap) (l.filter (inS ss)) (kk + 1)) := Lib.hid (OwnRelB.next (S := Fresh wq w6) (by omega) (Nat.le_refl _) HBM.out HOWN.out HM.out HNE.out HPP.out HZM.out HAT2.out HO6.out (fun b hb => ⟨Nat.le_trans HZM.out hb.1, hb.2⟩) (fun b _ _ h1 h2 => by have := h2.1; omega) (fun g hg h => by have := (HOWN.out.lt g hg).2; have := h.1; omega) (fun b h => h) (fun b h => Nat.le_trans HZM.out h.1) hB6 HOWN7.out HGROW7.out HAT7.out hWZ (by simp; omega) (fun b h _ e => by have h1 : w3.heap.size ≤ b := h; have h2 : b = w1.heap.size := e; omega) (fun b h e => by have h1 := h.1; have h2 : b = w1.heap.size := e; have := HZM.out; omega))
            have HS7 : Hid (Oner (w7.setCell ⟨w1.heap.size, 0, none⟩ (.slice (some ⟨gg, 0, none⟩) (kk + 1) cap)) (w.heap.size + 1) (.slice none 0 0)) := Lib.hid ((app_one HGROW7.out R6.out (far_row HFAR.out hWc)).setFar (by simp; omega) _)
            have HO7 : Hid (Oner (w7.setCell ⟨w1.heap.size, 0, none⟩ (.slice (some ⟨gg, 0, none⟩) (kk + 1) cap)) w1.heap.size (.slice (some ⟨gg, 0, none⟩) (kk + 1) cap)) := Lib.hid ((app_one HGROW7.out O6.out (far_row HFAR.out hWZ)).setIt _)
            clear s1' s2 s3 s4 s5 q1 q2 q3 q4 o0 o1 g0 g1 g2 g3 hB0 hB6
            go_wp2
            go_roundw
            case rel => exact ⟨k + 1, _, by omega, by go_num, by rw [HN.out]; exact HNX.out, HS7.out, HO7.out⟩
            case measure => simp [intOf]; omega
      · have hke : k = l.length := by omega
        have HE0 : OwnRelB w w3 w3.heap.size wr (fun b => w3.heap.size ≤ b) vo (l.filter (inS ss)) (l.filter (inS ss)).length := by
          have h := HR.out
          rw [show l.take k = l from List.take_of_length_le (by omega)] at h
          exact h
        have HE := Lib.hid (HE0.whole (Nat.le_refl _))
        obtain ⟨px, qx, rfl⟩ := (HE0.whole (Nat.le_refl _)).read.is_slice
        clear hke HE0
        obtain ⟨r0, r1⟩ := HRS.out
        obtain ⟨o0, o1⟩ := HOU.out
        go_wp2
        refine bodyPost_ret (v := .tuple #[.agg #[.slice px (l.filter (inS ss)).length qx], .bool true]) (by simp [results, Try.results35, go_sem, r0]) rfl ?_
        rw [HF.out, HG.out]
        refine ⟨_, rfl, ?_, HBE.out.setCell (by simp) _⟩
        refine (HE.out.setCell (fun h => by have h1 := h.1; simp at h1; omega) _).mono fun x hx => ?_
        have h1 := hx.1
        have h2 := hx.2
        exact ⟨by omega, by simp only [size_setCell]; omega⟩

end Go.Proofs.Ytmfdglbldogfaaa
