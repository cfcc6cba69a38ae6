/- RestrictSubstitution, the model's: a contract, for bindings of at most 1048576 names' bytes, bindings and arguments, and at most 1048576 names. -/
import Derived.Test.YtmfdglbldogfaaaRestO
namespace Go.Proofs.Ytmfdglbldogfaaa
open Go.RowKit
set_option linter.unusedVariables false

/-- Bindings of the call's own, and whether there are any. -/
def BdOkEnd (r : List Bd) (ok : Bool) (w : World) (e : Ending) (w' : World) : Prop :=
  ∃ va, e = .returned (.tuple #[.agg #[va], .bool ok]) ∧ BdO w' (Fresh w w') va r ∧ Below w.heap.size w w'
theorem BdOkEnd.no {r : List Bd} {ok : Bool} {w w' : World} (hr : r = []) (hok : ok = false) (hb : Below w.heap.size w w') :
    BdOkEnd r ok w (.returned (.tuple #[.agg #[.slice none 0 0], .bool false])) w' := by
  subst hr; subst hok
  exact ⟨.slice none 0 0, rfl, .inl ⟨_, _, rfl, rfl⟩, hb⟩

theorem one_grown {w w' : World} {row : Option Nat} (hg : w.grownBy w' row) {b : Nat} {x : Value} (h : Oner w b x) (hne : some b ≠ row) : Oner w' b x :=
  ⟨hg.cell h.1 hne, fun j => (World.frozen?_of_block (w := w) (a := ⟨b, j, none⟩) (hg.block b (World.block_lt_of_cell? w ⟨b, 0, none⟩ h.1) hne)).trans (h.2 j)⟩
theorem BdO.parts {w : World} {S : Nat → Prop} {v : Value} {l : List Bd} (h : BdO w S v l) :
    ∃ (a : Option Addr) (c g : Nat) (f : Nat → Value) (Ss : Nat → Nat → Prop), v = .slice a l.length c ∧
      (∀ (i : Nat) (d : Bd), l[i]? = some d → a = some ⟨g, 0, none⟩ ∧ S g ∧ w.cell? ⟨g, i * 3, none⟩ = some (.string d.var) ∧ w.cell? ⟨g, i * 3 + 1, none⟩ = some (.string d.tm.name) ∧ w.cell? ⟨g, i * 3 + 2, none⟩ = some (f i) ∧ TmO w (Ss i) (f i) d.tm.args) ∧
      (∀ i k, i < l.length → Ss i k → S k ∧ k ≠ g) ∧ (∀ i j k, i < l.length → j < l.length → i ≠ j → Ss i k → Ss j k → False) := by
  rcases h with ⟨a, c, rfl, rfl⟩ | ⟨g, c, f, Ss, rfl, hp, hS, hc, hz, hat, hsub, hdis⟩
  · exact ⟨a, c, 0, fun _ => .slice none 0 0, fun _ _ => False, rfl, fun i d h => (by cases h), fun i k h => absurd h (Nat.not_lt_zero _), fun i j k h => absurd h (Nat.not_lt_zero _)⟩
  · exact ⟨_, c, g, f, Ss, rfl, fun i d hd => ⟨rfl, hS, (hat i d hd).1, (hat i d hd).2.1, (hat i d hd).2.2.1, (hat i d hd).2.2.2⟩, hsub, hdis⟩

set_option maxRecDepth 100000 in
set_option maxHeartbeats 8000000 in
theorem specRestrict_any (l : List Bd) (ss : List ByteArray) (w : World) (v vs : Value) (hv : BdS w v l) (hvs : StrsV w vs ss) (hl : wtB l ≤ 1048576) (hn : ss.length ≤ 1048576) :
    Calls Try.prog 33 #[.agg #[v], vs] w (BdOkEnd (restr l ss) (goodS l) w) := by
  have hlen := Nat.le_trans (wtB_len l) hl
  obtain ⟨a, c, rfl⟩ := hv.is_slice
  have HBS := Lib.hid hv
  have HSV := Lib.hid hvs
  have hvn : ∃ p n q, vs = .slice p n q := by
    rcases hvs with ⟨a, c, h, _⟩ | ⟨b, off, c, h, _⟩ <;> exact ⟨_, _, _, h⟩
  obtain ⟨sp, sn, sq, rfl⟩ := hvn
  obtain ⟨i0, hi, hz0, hz1, hz2⟩ := info_parts infoBd
  have S2 := Lib.hid (((oner_new w (.slice a l.length c) 29 _ rfl).alloc (.cells #[.slice none 0 0] 29)).alloc (.cells #[.slice none 0 0] 29))
  have R2 := Lib.hid ((oner_new (w.alloc (.cells #[.slice a l.length c] 29)) (.slice none 0 0) 29 (w.heap.size + 1) (by simp)).alloc (.cells #[.slice none 0 0] 29))
  have O2 := Lib.hid (oner_new ((w.alloc (.cells #[.slice a l.length c] 29)).alloc (.cells #[.slice none 0 0] 29)) (.slice none 0 0) 29 (w.heap.size + 1 + 1) (by simp))
  have HB := Lib.hid ((((Below.refl w.heap.size w).alloc (Nat.le_refl _) (.cells #[.slice a l.length c] 29)).alloc (by simp) (.cells #[.slice none 0 0] 29)).alloc (by simp; omega) (.cells #[.slice none 0 0] 29))
  clear hv hvs
  go_enter Try.func33, Try.ntmps33
  obtain ⟨s0, s1⟩ := S2.out
  go_wp2_with fail
  refine (l4Good_any l _ _ (HBS.out.kept HB.out) hl).mono ?_
  rintro e w1 ⟨rfl, hb⟩
  have HB1 := Lib.hid (carry_below HB.out (Nat.le_refl _) hb)
  have S3 := Lib.hid (S2.out.kept hb)
  have R3 := Lib.hid (R2.out.kept hb)
  have O3 := Lib.hid (O2.out.kept hb)
  clear hb HB S2 R2 O2 s0 s1
  obtain ⟨s0, s1⟩ := S3.out
  obtain ⟨r0, r1⟩ := R3.out
  obtain ⟨o0, o1⟩ := O3.out
  cases hg : goodS l with
  | false =>
    have HF := Lib.hid (restr_no (ss := ss) hg)
    have HG := Lib.hid hg
    clear hg
    go_wp2
    refine bodyPost_ret (v := .tuple #[.agg #[.slice none 0 0], .bool false]) (by simp [results, Try.results33, go_sem, r0]) rfl ?_
    exact BdOkEnd.no HF.out HG.out (HB1.out.setCell (by simp) _)
  | true =>
    have HF := Lib.hid (restr_yes (ss := ss) hg)
    have HG := Lib.hid hg
    have hz1' : w.heap.size + 1 + 1 < w1.heap.size := World.block_lt_of_cell? w1 _ o0
    clear hg
    go_wp2_with fail
    refine (l4Own_any l hl _ _ (HBS.out.kept HB1.out)).mono ?_
    rintro e w2 ⟨v2, rfl, ho, hb⟩
    obtain ⟨p2, q2, g2, f2, S2s, rfl, hat2, hsub2, hdis2⟩ := ho.parts
    obtain ⟨w3, hw3⟩ : ∃ w3, w2.alloc (.cells #[.slice p2 l.length q2] 29) = w3 := ⟨_, rfl⟩
    have hz23 : w3.heap.size = w2.heap.size + 1 := by rw [← hw3]; simp
    have hz12 := hb.size
    have hb3 : Below w2.heap.size w2 w3 := by rw [← hw3]; exact (Below.refl _ _).alloc (Nat.le_refl _) _
    have hb13 := carry_below hb (Nat.le_refl _) hb3
    have HB3 := Lib.hid (carry_below HB1.out (Nat.le_refl _) hb13)
    have R4 := Lib.hid (R3.out.kept hb13)
    have O4 := Lib.hid (O3.out.kept hb13)
    have M4 : Hid (Oner w3 w2.heap.size (.slice p2 l.length q2)) := Lib.hid (by rw [← hw3]; exact oner_new _ _ _ _ rfl)
    have HAT := Lib.hid hat2
    have HSUB := Lib.hid hsub2
    have HDIS := Lib.hid hdis2
    have HK3 : Hid (∀ b, Fresh w1 w2 b → w3.heap[b]? = w2.heap[b]?) := Lib.hid (fun b hb => hb3.block b hb.2)
    have HR0 : Hid (OwnRelB w w1 w3.heap.size w3 (fun b => ∃ j, j < 0 ∧ S2s j b) (.slice none 0 0) (l.filter (inS ss)) 0) := Lib.hid (OwnRelB.start _ _ HB3.out (Nat.le_refl _))
    clear ho hb hb3 hb13 hat2 hsub2 hdis2 S3 R3 O3 s0 s1 r0 r1 o0 o1
    go_wp2
    clear hw3
    go_loopw [8] (fun i wr => ∃ (k : Nat) (vo : Value), k ≤ l.length ∧ i = .int .i64 k ∧ OwnRelB w w1 w3.heap.size wr (fun b => ∃ j, j < k ∧ S2s j b) vo (l.filter (inS ss)) ((l.take k).filter (inS ss)).length ∧ Oner wr w2.heap.size (.slice p2 l.length q2) ∧ Oner wr (w.heap.size + 1) (.slice none 0 0) ∧ Oner wr (w.heap.size + 1 + 1) vo ∧ (∀ b, Fresh w1 w2 b → wr.heap[b]? = w2.heap[b]?)) (fun i _ => l.length - (intOf i).toNat)
    case atStart => exact ⟨0, _, Nat.zero_le _, rfl, HR0.out, M4.out, R4.out, O4.out, HK3.out⟩
    case round =>
      obtain ⟨k, vo, hk, rfl, hrel, hsub, hres, hout, hkeep⟩ := hrel
      have HR := Lib.hid hrel
      have HSB := Lib.hid hsub
      have HRS := Lib.hid hres
      have HOU := Lib.hid hout
      have HKE := Lib.hid hkeep
      obtain ⟨xs, f, Ss, hown, hm, hne, hP, hbe, hz⟩ := hrel
      have HOWN := Lib.hid hown
      have HM := Lib.hid hm
      have HNE := Lib.hid hne
      have HPP := Lib.hid hP
      have HBE := Lib.hid hbe
      have HZ := Lib.hid hz
      obtain ⟨s0, s1⟩ := hsub
      clear hown hm hne hP hbe hz hres hout hkeep
      by_cases hlt : k < l.length
      · obtain ⟨d, hd⟩ : ∃ d, l[k]? = some d := ⟨_, List.getElem?_eq_getElem hlt⟩
        obtain ⟨rfl, hSg, c0, c1, c2, hot⟩ := HAT.out k d hd
        have hke2 := HKE.out g2 hSg
        have c0' : wr.cell? ⟨g2, k * 3, none⟩ = some (.string d.var) := (World.cell?_of_block (w := w2) (a := ⟨g2, k * 3, none⟩) hke2).trans c0
        have c1' : wr.cell? ⟨g2, k * 3 + 1, none⟩ = some (.string d.tm.name) := (World.cell?_of_block (w := w2) (a := ⟨g2, k * 3 + 1, none⟩) hke2).trans c1
        have c2' : wr.cell? ⟨g2, k * 3 + 2, none⟩ = some (f2 k) := (World.cell?_of_block (w := w2) (a := ⟨g2, k * 3 + 2, none⟩) hke2).trans c2
        have HOT : Hid (TmO wr (S2s k) (f2 k) d.tm.args) := Lib.hid (hot.frame fun b hb => HKE.out b (HSUB.out k b hlt hb).1)
        obtain ⟨pv, cv, hfv⟩ := HOT.out.read.is_slice
        rw [hfv] at HOT c2'
        have HD := Lib.hid hd
        have hg2lt : g2 < w2.heap.size := hSg.2
        have CI := Lib.hid (l2In_any (.slice sp sn sq) ss d.var wr (HSV.out.below HBE.out) hn)
        have HTE : Hid (inS ss d = Lib.containsS ss d.var) := Lib.hid rfl
        clear hd c0 c1 c2 hot hke2 hfv
        generalize Lib.containsS ss d.var = inn at CI HTE
        go_wp2_with fail
        refine CI.out.mono ?_
        rintro e wq ⟨rfl, hb⟩
        have HBQ := Lib.hid (carry_below HBE.out (Nat.le_refl _) hb)
        have HSB := Lib.hid (HSB.out.kept hb)
        have HRS := Lib.hid (HRS.out.kept hb)
        have HOU := Lib.hid (HOU.out.kept hb)
        have HKE : Hid (∀ b, Fresh w1 w2 b → wq.heap[b]? = w2.heap[b]?) := Lib.hid (fun b hb2 => (hb.block b (by have := HZ.out; have := hb2.2; omega)).trans (HKE.out b hb2))
        have HOWN := Lib.hid (own_kept HOWN.out hb)
        have HM := Lib.hid (HM.out.keep hb.size (fun i b hi hb2 => hb.block b (HM.out.sub i b hi hb2).2))
        have HZ := Lib.hid (Nat.le_trans HZ.out hb.size)
        have HOT := Lib.hid (HOT.out.frame fun b hb2 => hb.block b (by have := (HSUB.out k b hlt hb2).1.2; have := HR.out; obtain ⟨_, _, _, _, _, _, _, _, h⟩ := HR.out; omega))
        have d0 := carry_cell c0' hb
        have d1 := carry_cell c1' hb
        have d2 := carry_cell c2' hb
        clear s0 s1 c0' c1' c2'
        obtain ⟨s0, s1⟩ := HSB.out
        obtain ⟨o0, o1⟩ := HOU.out
        cases inn with
        | false =>
          have HN := Lib.hid (filter_next_no (p := inS ss) HD.out HTE.out)
          have HRN : Hid (OwnRelB w w1 w3.heap.size wq (fun b => ∃ j, j < k + 1 ∧ S2s j b) vo (l.filter (inS ss)) ((l.take (k + 1)).filter (inS ss)).length) := Lib.hid (by
            rw [HN.out]
            exact ⟨xs, f, Ss, HOWN.out, HM.out, HNE.out, fun i b hi hb2 => by obtain ⟨j, hj, h⟩ := HPP.out i b hi hb2; exact ⟨j, by omega, h⟩, HBQ.out, HZ.out⟩)
          clear hb
          go_wp2
          go_roundw
          case rel => exact ⟨k + 1, vo, by omega, by go_num, HRN.out, HSB.out, HRS.out, HOU.out, HKE.out⟩
          case measure => simp [intOf]; omega
        | true =>
          have HN := Lib.hid (filter_next_yes (p := inS ss) HD.out HTE.out)
          have HAT2 := Lib.hid (filter_at (p := inS ss) HD.out HTE.out)
          obtain ⟨kk, hkk⟩ : ∃ kk, kk = ((l.take k).filter (inS ss)).length := ⟨_, rfl⟩
          have hkl : kk ≤ l.length := by rw [hkk]; exact filter_le k
          rw [← hkk] at HN HAT2 HOWN HM HNE HPP
          have HFAR : Hid (∀ g, vo.ownBlock = some g → w3.heap.size ≤ g) := Lib.hid (fun g hg => (HOWN.out.lt g hg).1)
          have hWZ : w.heap.size + 1 + 1 < w3.heap.size := by omega
          have hWm : w2.heap.size < w3.heap.size := by omega
          have hWc : w.heap.size + 1 < w3.heap.size := by omega
          have hWg : g2 < w3.heap.size := by omega
          have hZ := HZ.out
          have HBD : Hid (Below wq.heap.size wq wq.drew) := Lib.hid (Below.refl _ _).drew
          have HWD := Lib.hid (own_kept HOWN.out HBD.out)
          have HUD := Lib.hid (HSB.out.kept HBD.out)
          have HRD := Lib.hid (HRS.out.kept HBD.out)
          have HOD := Lib.hid (HOU.out.kept HBD.out)
          have HBW : Hid (Below wq.heap.size wq ((wq.alloc (.cells #[.string d.var, .string d.tm.name, .slice pv d.tm.args.length cv] 83)).drew)) := Lib.hid (((Below.refl wq.heap.size wq).alloc (Nat.le_refl _) (.cells #[.string d.var, .string d.tm.name, .slice pv d.tm.args.length cv] 83)).drew)
          have HOA : Hid (((wq.alloc (.cells #[.string d.var, .string d.tm.name, .slice pv d.tm.args.length cv] 83)).drew).ownsRow w3.heap.size 83 3 vo kk xs) := Lib.hid (own_kept HOWN.out HBW.out)
          have HNW : Hid (∀ j u, [Value.string d.var, .string d.tm.name, .slice pv d.tm.args.length cv][j]? = some u → ((wq.alloc (.cells #[.string d.var, .string d.tm.name, .slice pv d.tm.args.length cv] 83)).drew).cell? ((⟨wq.heap.size, 0, none⟩ : Addr).add j) = some u) := Lib.hid (World.news_of_block (cs := #[.string d.var, .string d.tm.name, .slice pv d.tm.args.length cv]) (t := 83) (fr := (0, 0)) (heap_alloc_new wq _))
          have HBA : Hid (w3.heap.size ≤ ((wq.alloc (.cells #[.string d.var, .string d.tm.name, .slice pv d.tm.args.length cv] 83)).drew).heap.size) := Lib.hid (Nat.le_trans hZ HBW.out.size)
          have HSA : Hid (((wq.alloc (.cells #[.string d.var, .string d.tm.name, .slice pv d.tm.args.length cv] 83)).drew).heap.size = wq.heap.size + 1) := Lib.hid (by show (wq.alloc _).heap.size = _; rw [World.size_alloc])
          have k0 := Lib.hid (carry_cell s0 HBW.out)
          have k1 := Lib.hid (carry_cell o0 HBW.out)
          have KO := Lib.hid (HOU.out.kept HBW.out)
          have e0 := Lib.hid (carry_cell d0 HBW.out)
          have e1 := Lib.hid (carry_cell d1 HBW.out)
          have e2 := Lib.hid (carry_cell d2 HBW.out)
          have HBA1 : Below wq.heap.size wq (wq.alloc (.cells #[.string d.var, .string d.tm.name, .slice pv d.tm.args.length cv] 83)) := (Below.refl wq.heap.size wq).alloc (Nat.le_refl _) _
          have p0 := carry_cell s0 HBA1
          have p1 := carry_cell o0 HBA1
          have p2 := (HOU.out.kept HBA1).2
          clear hb hkk HBA1
          go_wp2_with fail
          go_region_law (refine step_append_lies _ (by rfl) _ _ _ (by rfl) w3.heap.size 83 i0 _ 3 56 Try.underlying27 hi hz0 hz1 hz2 rfl (by omega) vo kk xs (by rfl) HOA.out ⟨wq.heap.size, 0, none⟩ 1 1 [.string d.var, .string d.tm.name, .slice pv d.tm.args.length cv] (by rfl) (by rfl) HNW.out (by simp [Value.oneCell']) (by omega) (by unfold maxLen; omega) (by omega) HBA.out (wq.heap.size + 1) HSA.out ?_; intro gg cap w7 hown7 hgrow hat hlt7; have t0 := hgrow.cell k0.out (far_row HFAR.out hWm); have t1 := hgrow.cell k1.out (far_row HFAR.out hWZ); have t2 := (one_grown hgrow KO.out (far_row HFAR.out hWZ)).2; have t3 := hgrow.cell e0.out (far_row HFAR.out hWg); have t4 := hgrow.cell e1.out (far_row HFAR.out hWg); have t5 := hgrow.cell e2.out (far_row HFAR.out hWg); have HOWN7 := Lib.hid hown7; have HGROW7 : Hid ((wq.drew.alloc (.cells #[.string d.var, .string d.tm.name, .slice pv d.tm.args.length cv] 83)).grownBy w7 vo.ownBlock) := Lib.hid hgrow; have HAT7 := Lib.hid hat; clear hown7 hgrow hat)
          all_goals
            have HNX : Hid (OwnRelB w w1 w3.heap.size (w7.setCell ⟨w.heap.size + 1 + 1, 0, none⟩ (.slice (some ⟨gg, 0, none⟩) (kk + 1) cap)) (fun b => ∃ j, j < k + 1 ∧ S2s j b) (.slice (some ⟨gg, 0, none⟩) (kk + 1) cap) (l.filter (inS ss)) (kk + 1)) := Lib.hid (OwnRelB.next (S := S2s k) (w' := wq.drew) (by omega) (by omega) HBQ.out HOWN.out HM.out HNE.out HPP.out HZ.out HAT2.out (HOT.out.frame fun b hb2 => rfl) (fun b hb2 => ⟨(HSUB.out k b hlt hb2).1.1, by have := (HSUB.out k b hlt hb2).1.2; show b < wq.heap.size; omega⟩) (fun b hP _ _ h2 => by obtain ⟨j, hj, h⟩ := hP; exact HDIS.out j k b (by omega) hlt (by omega) h h2) (fun g hg h => by have := HFAR.out g hg; have := (HSUB.out k g hlt h).1.2; omega) (fun b hP => by obtain ⟨j, hj, h⟩ := hP; exact ⟨j, by omega, h⟩) (fun b h => ⟨k, by omega, h⟩) HBD.out HOWN7.out HGROW7.out HAT7.out hWZ (by simp; omega) (fun b hP _ e => by obtain ⟨j, hj, h⟩ := hP; have h1 := (HSUB.out j b (by omega) h).1.1; have h2 : b = w.heap.size + 1 + 1 := e; omega) (fun b h e => by have h1 := (HSUB.out k b hlt h).1.1; have h2 : b = w.heap.size + 1 + 1 := e; omega))
            have HU7 : Hid (Oner (w7.setCell ⟨w.heap.size + 1 + 1, 0, none⟩ (.slice (some ⟨gg, 0, none⟩) (kk + 1) cap)) w2.heap.size (.slice (some ⟨g2, 0, none⟩) l.length q2)) := Lib.hid ((app_one HGROW7.out HUD.out (far_row HFAR.out hWm)).setFar (by simp; omega) _)
            have HS7 : Hid (Oner (w7.setCell ⟨w.heap.size + 1 + 1, 0, none⟩ (.slice (some ⟨gg, 0, none⟩) (kk + 1) cap)) (w.heap.size + 1) (.slice none 0 0)) := Lib.hid ((app_one HGROW7.out HRD.out (far_row HFAR.out hWc)).setFar (by simp) _)
            have HO7 : Hid (Oner (w7.setCell ⟨w.heap.size + 1 + 1, 0, none⟩ (.slice (some ⟨gg, 0, none⟩) (kk + 1) cap)) (w.heap.size + 1 + 1) (.slice (some ⟨gg, 0, none⟩) (kk + 1) cap)) := Lib.hid ((app_one HGROW7.out HOD.out (far_row HFAR.out hWZ)).setIt _)
            have HK7 : Hid (∀ b, Fresh w1 w2 b → (w7.setCell ⟨w.heap.size + 1 + 1, 0, none⟩ (.slice (some ⟨gg, 0, none⟩) (kk + 1) cap)).heap[b]? = w2.heap[b]?) := Lib.hid (fun b hb2 => by
              have h1 := hb2.1
              have h2 := hb2.2
              have hbq : b < wq.drew.heap.size := by show b < wq.heap.size; omega
              rw [Below.heap_setCell _ _ _ _ (by simp; omega), HGROW7.out.block b (by simp; show b < wq.heap.size + 1; omega) (far_row HFAR.out (by omega)), Below.heap_alloc _ _ _ hbq]
              exact HKE.out b hb2)
            clear p0 p1 p2 t0 t1 t2 t3 t4 t5 s0 s1 o0 o1 d0 d1 d2
            go_wp2
            go_roundw
            case rel => exact ⟨k + 1, _, by omega, by go_num, by rw [HN.out]; exact HNX.out, HU7.out, HS7.out, HO7.out, HK7.out⟩
            case measure => simp [intOf]; omega
      · have hke : k = l.length := by omega
        have HE0 : OwnRelB w w1 w3.heap.size wr (fun b => ∃ j, j < k ∧ S2s j b) vo (l.filter (inS ss)) (l.filter (inS ss)).length := by
          have h := HR.out
          rw [show l.take k = l from List.take_of_length_le (by omega)] at h
          exact h
        have HE := Lib.hid (HE0.whole (by omega))
        obtain ⟨px, qx, rfl⟩ := (HE0.whole (by omega)).read.is_slice
        clear hke HE0
        obtain ⟨r0, r1⟩ := HRS.out
        obtain ⟨o0, o1⟩ := HOU.out
        go_wp2
        refine bodyPost_ret (v := .tuple #[.agg #[.slice px (l.filter (inS ss)).length qx], .bool true]) (by simp [results, Try.results33, go_sem, r0]) rfl ?_
        rw [HF.out, HG.out]
        refine ⟨_, rfl, ?_, HBE.out.setCell (by simp) _⟩
        refine (HE.out.setCell (fun h => by have h1 := h.1; simp at h1; omega) _).mono fun x hx => ?_
        have h1 := hx.1
        have h2 := hx.2
        exact ⟨by omega, by simp only [size_setCell]; omega⟩

end Go.Proofs.Ytmfdglbldogfaaa
