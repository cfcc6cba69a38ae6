/- A substitution applied to a term, the program's: contracts, for bindings and terms of at most 1048576 names' bytes, bindings and arguments, the bindings in ascending order. -/
import Derived.Test.YtnkonhdnccolhaaAppS
import Derived.Test.YtnkonhdnccolhaaSubP
import Derived.Test.YtnkonhdnccolhaaCopy
namespace Go.Proofs.Ytnkonhdnccolhaa
open Go.RowKit
set_option linter.unusedVariables false

set_option maxRecDepth 100000 in
set_option maxHeartbeats 4000000 in
theorem termFor_any (l : List Bd) (hl : wtB l ≤ 1048576) (hasc : Asc l) (nm : ByteArray) (w : World) (v : Value) (hv : BdS w v l) :
    Calls Try.prog 97 #[.agg #[v], .string nm] w (ToEnd (look l nm) w) := by
  have hl6 : l.length ≤ 1048576 := Nat.le_trans (wtB_len l) hl
  have HASC := Lib.hid hasc
  have HLB := Lib.hid (fun (d : Bd) (hd : d ∈ l) => Nat.le_trans (wtB_tm hd) hl)
  obtain ⟨a, c, rfl⟩ := hv.is_slice
  have HBS := Lib.hid hv
  have S3 := Lib.hid ((oner_new w (.slice a l.length c) 34 _ rfl).alloc (.cells #[.string ⟨#[]⟩, .slice none 0 0] 38))
  have R3 := Lib.hid (two_new (w.alloc (.cells #[.slice a l.length c] 34)) (.string ⟨#[]⟩) (.slice none 0 0) 38 (w.heap.size + 1) (by simp))
  have HB := Lib.hid (((Below.refl w.heap.size w).alloc (Nat.le_refl _) (.cells #[.slice a l.length c] 34)).alloc (by simp) (.cells #[.string ⟨#[]⟩, .slice none 0 0] 38))
  obtain ⟨x, hx⟩ : ∃ x, x = look l nm := ⟨_, rfl⟩
  rw [← hx]
  have HX := Lib.hid hx
  clear hv hasc hx
  obtain ⟨s0, s1⟩ := S3.out
  go_enter Try.func97, Try.ntmps97
  go_wp2_with fail
  refine (find_any l _ _ (HBS.out.kept HB.out) hl6 HASC.out nm).mono ?_
  rintro e w4 ⟨i, rfl, hp, hb⟩
  have HB4 := Lib.hid (carry_below HB.out (Nat.le_refl _) hb)
  have S4 := Lib.hid (S3.out.kept hb)
  have R4 := Lib.hid (R3.out.kept hb)
  have HP := Lib.hid hp
  clear s0 s1 hb hp
  obtain ⟨s0, s1⟩ := S4.out
  obtain ⟨r0, r1, r2⟩ := R4.out
  cases hh : hitB l nm i with
  | false =>
    have HE : Hid (x = .node nm []) := Lib.hid (by rw [HX.out]; exact look_none (bound_no.2 (hit_no HP.out HASC.out hh)))
    clear hh
    go_wp2
    refine bodyPost_ret (v := .agg #[.string nm, .slice none 0 0]) (by simp [results, Try.results97, go_sem, r0, r1]) rfl ?_
    exact toEnd_leaf HE.out ((HB4.out.setCell (by simp) _).setCell (by simp) _)
  | true =>
    obtain ⟨d, hd, hdv⟩ := hit_yes hh
    have HE : Hid (x = d.tm) := Lib.hid (by rw [HX.out, ← hdv]; exact look_asc HASC.out hd)
    obtain ⟨b, off, rfl, vb, c0, c1, c2, hvb⟩ := HBS.out.get hd
    obtain ⟨pb, qb, rfl⟩ := hvb.is_slice
    have c1' := carry_cell c1 HB4.out
    have c2' := carry_cell c2 HB4.out
    have HVB := Lib.hid (hvb.kept HB4.out)
    have hil : (i : Int) < l.length := by have := (List.getElem?_eq_some_iff.1 hd).1; omega
    have hi0 : (0 : Int) ≤ i := by omega
    have HDW := Lib.hid (HLB.out d (List.mem_of_getElem? hd))
    clear hd hdv c0 c1 c2 hvb hh
    go_wp2_with fail
    refine (copyTerm_any d.tm _ _ HVB.out HDW.out).mono ?_
    rintro e w5 ⟨v5, rfl, ho, hb⟩
    obtain ⟨p5, q5, rfl⟩ := ho.read.is_slice
    have HB5 := Lib.hid (carry_below HB4.out (Nat.le_refl _) hb)
    have HO := Lib.hid ho
    have hz4 : w.heap.size + 1 < w4.heap.size := World.block_lt_of_cell? w4 _ r0
    clear s0 s1 r0 r1 r2 c1' c2' ho
    obtain ⟨r0, r1, r2⟩ := R4.out.kept hb
    clear hb
    rw [← HE.out] at HO ⊢
    go_wp2
    refine bodyPost_ret (v := .agg #[.string x.name, .slice p5 x.args.length q5]) (by simp [results, Try.results97, go_sem, r0, r1]) rfl ⟨_, rfl, ?_, ?_⟩
    · refine ((HO.out.setCell (fun h => by have := h.1; simp at this; omega) _).setCell (fun h => by have := h.1; simp at this; omega) _).mono fun y hy => ⟨?_, ?_⟩
      · have := hy.1; omega
      · simp only [size_setCell]; exact hy.2
    · exact (HB5.out.setCell (by simp) _).setCell (by simp) _

/-- The function value that replaces a variable by what the bindings give. -/
def tf (v : Value) : Value := .func (.func 97) #[.agg #[v]] #[]

def RepT (l : List Bd) (t : Tm) : Prop := ∀ (w : World) (v va : Value), BdS w v l → TmS w va t.args → t.wt ≤ 1048576 →
  Calls Try.prog 96 #[.agg #[.string t.name, va], tf v] w (ToEnd (t.app l) w)

set_option maxRecDepth 100000 in
set_option maxHeartbeats 8000000 in
theorem repl_of (l : List Bd) (hl : wtB l ≤ 1048576) (hasc : Asc l) (t : Tm) (h : ∀ s ∈ t.args, RepT l s) : RepT l t := by
  intro w v va hv hva hw
  have H := Lib.hid h
  have HASC := Lib.hid hasc
  have HL := Lib.hid (fun (s : Tm) (hs : s ∈ t.args) => Nat.le_trans (Tm.wt_arg hs) hw)
  have hlen := Tm.wt_len t
  have hnm : t.name.size ≤ maxLen := by have := t.wt_name; unfold maxLen; omega
  have CV := Lib.hid (fun W => isVar_any t.name W hnm)
  obtain ⟨a, c, rfl⟩ := hv.is_slice
  obtain ⟨p, q, rfl⟩ := hva.is_slice
  have HBS := Lib.hid hv
  have HV := Lib.hid hva
  obtain ⟨i0, hi, hz0, hz1, hz2⟩ := info_parts infoTm
  have T3 := Lib.hid ((two_new w (.string t.name) (.slice p t.args.length q) 38 _ rfl).alloc (.cells #[.string ⟨#[]⟩, .slice none 0 0] 38))
  have R3 := Lib.hid (two_new (w.alloc (.cells #[.string t.name, .slice p t.args.length q] 38)) (.string ⟨#[]⟩) (.slice none 0 0) 38 (w.heap.size + 1) (by simp))
  have HB := Lib.hid (((Below.refl w.heap.size w).alloc (Nat.le_refl _) (.cells #[.string t.name, .slice p t.args.length q] 38)).alloc (by simp) (.cells #[.string ⟨#[]⟩, .slice none 0 0] 38))
  unfold tf
  clear h hv hva hasc
  cases hvar : varB t.name with
  | true =>
    have HAPP : Hid (t.app l = look l t.name) := Lib.hid (Tm.app_var hvar)
    rw [hvar] at CV
    rw [HAPP.out]
    obtain ⟨x, hx⟩ : ∃ x, x = look l t.name := ⟨_, rfl⟩
    have CT := Lib.hid (fun (W : World) (hW : BdS W (.slice a l.length c) l) => termFor_any l hl HASC.out t.name W _ hW)
    rw [← hx] at CT ⊢
    clear hx hvar
    go_enter Try.func96, Try.ntmps96
    obtain ⟨b0, b1, b2⟩ := T3.out
    go_wp2_with fail
    refine (CV.out _).mono ?_
    rintro e w3 ⟨rfl, rfl⟩
    go_wp2_with fail
    refine (CT.out _ (HBS.out.kept HB.out)).mono ?_
    rintro e w5 ⟨v5, rfl, ho, hb⟩
    obtain ⟨p5, q5, rfl⟩ := ho.read.is_slice
    have HB5 := Lib.hid (carry_below HB.out (Nat.le_refl _) hb)
    have HO := Lib.hid ho
    obtain ⟨r0, r1, r2⟩ := R3.out.kept hb
    clear hb b0 b1 b2 ho
    go_wp2
    refine bodyPost_ret (v := .agg #[.string x.name, .slice p5 x.args.length q5]) (by simp [results, Try.results96, go_sem, r0, r1]) rfl ⟨_, rfl, ?_, ?_⟩
    · refine ((HO.out.setCell (fun h => by have := h.1; simp at this; omega) _).setCell (fun h => by have := h.1; simp at this; omega) _).mono fun y hy => ⟨?_, ?_⟩
      · have := hy.1; simp at this; omega
      · simp only [size_setCell]; exact hy.2
    · exact (HB5.out.setCell (by simp) _).setCell (by simp) _
  | false =>
    have HAPP : Hid (t.app l = .node t.name (Tm.appL l t.args)) := Lib.hid (Tm.app_sym hvar)
    have HAL := Lib.hid (Tm.appL_len l t.args)
    rw [hvar] at CV
    obtain ⟨w3, hw3⟩ : ∃ w3, (w.alloc (.cells #[.string t.name, .slice p t.args.length q] 38)).alloc (.cells #[.string ⟨#[]⟩, .slice none 0 0] 38) = w3 := ⟨_, rfl⟩
    have hz3 : w3.heap.size = w.heap.size + 2 := by rw [← hw3]; simp
    have HZ3 := Lib.hid hz3
    obtain ⟨W0, hW0⟩ : ∃ W0, W0 = w3.alloc (.cells #[.string t.name, .slice none 0 0] 38) := ⟨_, rfl⟩
    have HWZ : Hid (W0.heap.size = w.heap.size + 3) := Lib.hid (by rw [hW0]; simp [hz3])
    rw [hw3] at T3 R3 HB
    have HB' := Lib.hid (HB.out.alloc HB.out.size (.cells #[.string t.name, .slice none 0 0] 38))
    have HR0 : Hid (OwnRel w W0 (w3.alloc (.cells #[.string t.name, .slice none 0 0] 38)) (.slice none 0 0) (Tm.appL l t.args) 0) := Lib.hid ⟨_, _, _, World.ownsRow_nil _ _ _ _, Made.start _ _ _ _, fun g hg => by simp [Value.ownBlock] at hg, HB'.out, by rw [hW0]; exact Nat.le_refl _⟩
    have T4 := Lib.hid (T3.out.alloc (.cells #[.string t.name, .slice none 0 0] 38))
    have R4 := Lib.hid (R3.out.alloc (.cells #[.string t.name, .slice none 0 0] 38))
    have O4 := Lib.hid (two_new w3 (.string t.name) (.slice none 0 0) 38 (w.heap.size + 1 + 1) HZ3.out.symm)
    clear hW0
    obtain ⟨x, hx⟩ : ∃ x, x = t.app l := ⟨_, rfl⟩
    rw [← hx] at HAPP ⊢
    clear hx hvar
    go_enter Try.func96, Try.ntmps96
    obtain ⟨b0, b1, b2⟩ := T3.out
    go_wp2_with fail
    refine (CV.out _).mono ?_
    rintro e w3' ⟨rfl, rfl⟩
    clear hw3
    have a0 := T4.out.1
    have a1 := T4.out.2.1
    go_wp2
    clear b0 b1 b2 a0 a1
    go_loopw [21] (fun i wr => ∃ (k : Nat) (vo : Value), k ≤ t.args.length ∧ i = .int .i64 k ∧ OwnRel w W0 wr vo (Tm.appL l t.args) k ∧ Two wr w.heap.size (.string t.name) (.slice p t.args.length q) ∧ Two wr (w.heap.size + 1) (.string ⟨#[]⟩) (.slice none 0 0) ∧ Two wr (w.heap.size + 1 + 1) (.string t.name) vo) (fun i _ => t.args.length - (intOf i).toNat)
    case atStart => exact ⟨0, _, Nat.zero_le _, rfl, HR0.out, T4.out, R4.out, O4.out⟩
    case round =>
      obtain ⟨k, vo, hk, rfl, hrel, htwo, hres, hout⟩ := hrel
      have HR := Lib.hid hrel
      have HTW := Lib.hid htwo
      have HRS := Lib.hid hres
      have HOU := Lib.hid hout
      by_cases hlt : k < t.args.length
      · obtain ⟨s, hs⟩ : ∃ s, t.args[k]? = some s := ⟨_, List.getElem?_eq_getElem hlt⟩
        obtain ⟨b, off, rfl, vs, c0, c1, hvs⟩ := HV.out.get hs
        obtain ⟨ps, qs, rfl⟩ := hvs.is_slice
        -- the round's own copy of the argument
        obtain ⟨wq, hwq⟩ : ∃ wq, wr.alloc (.cells #[.string s.name, .slice ps s.args.length qs] 38) = wq := ⟨_, rfl⟩
        have hbq : Below wr.heap.size wr wq := by rw [← hwq]; exact (Below.refl _ _).alloc (Nat.le_refl _) _
        obtain ⟨xs, f, Ss, hown, hm, hne, hbe, hz⟩ := hrel
        have e0 := carry_cell c0 hbe
        have e1 := carry_cell c1 hbe
        have hown : wq.ownsRow W0.heap.size 38 2 vo k xs := own_kept hown hbq
        have hm : Made W0 wq xs (Tm.appL l t.args) k f Ss := hm.keep hbq.size (fun i b hi hb => hbq.block b (hm.sub i b hi hb).2)
        have hbe : Below w.heap.size w wq := carry_below hbe (Nat.le_refl _) hbq
        have hz : W0.heap.size ≤ wq.heap.size := Nat.le_trans hz hbq.size
        have HOWN := Lib.hid hown
        have HM := Lib.hid hm
        have HNE := Lib.hid hne
        have HBE := Lib.hid hbe
        have HZ := Lib.hid hz
        have HTW := Lib.hid (HTW.out.kept hbq)
        have HRS := Lib.hid (HRS.out.kept hbq)
        have HOU := Lib.hid (HOU.out.kept hbq)
        have HQQ : Hid (Two wq wr.heap.size (.string s.name) (.slice ps s.args.length qs)) := Lib.hid (by rw [← hwq]; exact two_new _ _ _ _ _ rfl)
        have hzq : W0.heap.size ≤ wr.heap.size := by
          obtain ⟨_, _, _, _, _, _, _, h⟩ := HR.out; exact h
        have HVA := Lib.hid (hvs.kept HBE.out)
        have HS := Lib.hid hs
        obtain ⟨y, hy⟩ : ∃ y, y = s.app l := ⟨_, rfl⟩
        have HSY : Hid ((Tm.appL l t.args)[k]? = some y) := Lib.hid (by rw [hy]; exact Tm.appL_at hs)
        have C0 : Hid (∀ W : World, Below wq.heap.size wq W → Calls Try.prog 96 #[.agg #[.string s.name, .slice ps s.args.length qs], .func (.func 97) #[.agg #[.slice a l.length c]] #[]] W (ToEnd y W)) := Lib.hid (fun W hW => by rw [hy]; exact H.out s (mem_of_at HS.out) W _ _ ((HBS.out.kept HBE.out).kept hW) (HVA.out.kept hW) (HL.out s (mem_of_at HS.out)))
        clear hs c0 c1 hvs hy hown hm hne hbe hz htwo hres hout
        obtain ⟨o0, o1, o2⟩ := HOU.out
        obtain ⟨d0, d1, d2⟩ := HQQ.out
        have hWZ : w.heap.size + 1 + 1 < W0.heap.size := by have := HWZ.out; omega
        have hWa : w.heap.size < W0.heap.size := by have := HWZ.out; omega
        have hWc : w.heap.size + 1 < W0.heap.size := by have := HWZ.out; omega
        have HFAR : Hid (∀ g, vo.ownBlock = some g → W0.heap.size ≤ g) := Lib.hid (fun g hg => (HOWN.out.lt g hg).1)
        have HFB : Hid (some wr.heap.size ≠ vo.ownBlock) := Lib.hid (fun e => by
          obtain ⟨xs, f, Ss, h1, _⟩ := HR.out
          have := h1.lt _ e.symm; omega)
        go_wp2_with fail
        have hB0 : Below wq.heap.size wq wq.drew := (Below.refl _ _).drew
        clear hbq e0 e1
        clear hwq
        go_region_law (first
            | (refine step_append_lies _ (by rfl) _ _ _ (by rfl) W0.heap.size 38 i0 _ 2 40 Try.underlying36 hi hz0 hz1 hz2 rfl (by omega) vo k xs (by rfl) (HW6.out.alloc _) ⟨w6.heap.size, 0, none⟩ 1 1 [.string y.name, .slice pv y.args.length cv] (by rfl) (by rfl) (World.news_of_block (cs := #[.string y.name, .slice pv y.args.length cv]) (t := 38) (fr := (0, 0)) (heap_alloc_new w6 _)) (by simp [Value.oneCell']) (by omega) (by unfold maxLen; omega) (by omega) (by have := hB6.size; have := HZ.out; simp; omega) (w6.heap.size + 1) (by simp) ?_; intro gg cap w7 hown7 hgrow hat hlt7; have s1 := app_cell hgrow q1 (far_row HFAR.out hWZ); have s2 := app_cell hgrow q2 HFB.out; have s3 := app_cell hgrow q3 HFB.out; have s4 := (app_two hgrow O6.out (far_row HFAR.out hWZ)).2.2; have HOWN7 := Lib.hid hown7; have HGROW7 := Lib.hid hgrow; have HAT7 := Lib.hid hat; clear hown7 hgrow hat)
            | (go_simp; go_at_call 96; refine (C0.out _ hB0).mono ?_; rintro e w6 ⟨v6, rfl, ho, hb⟩; have q1 := carry_cell' hb o1; have q2 := carry_cell' hb d0; have q3 := carry_cell' hb d1; have hB6 := carry_below hB0 (Nat.le_refl _) hb; obtain ⟨pv, cv, rfl⟩ := ho.read.is_slice; have HO6 := Lib.hid ho; have HW6 := Lib.hid (own_kept HOWN.out hB6); have T6 := Lib.hid (HTW.out.kept hB6); have R6 := Lib.hid (HRS.out.kept hB6); have O6 := Lib.hid (HOU.out.kept hB6); have hz6 : w.heap.size + 1 + 1 < w6.heap.size := World.block_lt_of_cell? w6 _ q1; clear hb ho))
        all_goals
          have HN : Hid (OwnRel w W0 (w7.setCell ⟨w.heap.size + 1 + 1, 1, none⟩ (.slice (some ⟨gg, 0, none⟩) (k + 1) cap)) (.slice (some ⟨gg, 0, none⟩) (k + 1) cap) (Tm.appL l t.args) (k + 1)) := Lib.hid (OwnRel.next (by have := HWZ.out; omega) HBE.out HOWN.out HM.out HNE.out HZ.out HSY.out HO6.out hB6 HOWN7.out HGROW7.out HAT7.out hWZ (by simp; omega))
          have HT7 : Hid (Two (w7.setCell ⟨w.heap.size + 1 + 1, 1, none⟩ (.slice (some ⟨gg, 0, none⟩) (k + 1) cap)) w.heap.size (.string t.name) (.slice (some ⟨b, off, none⟩) t.args.length q)) := Lib.hid ((app_two HGROW7.out T6.out (far_row HFAR.out hWa)).setFar (by simp; omega) _)
          have HS7 : Hid (Two (w7.setCell ⟨w.heap.size + 1 + 1, 1, none⟩ (.slice (some ⟨gg, 0, none⟩) (k + 1) cap)) (w.heap.size + 1) (.string ⟨#[]⟩) (.slice none 0 0)) := Lib.hid ((app_two HGROW7.out R6.out (far_row HFAR.out hWc)).setFar (by simp) _)
          have HO7 : Hid (Two (w7.setCell ⟨w.heap.size + 1 + 1, 1, none⟩ (.slice (some ⟨gg, 0, none⟩) (k + 1) cap)) (w.heap.size + 1 + 1) (.string t.name) (.slice (some ⟨gg, 0, none⟩) (k + 1) cap)) := Lib.hid ((app_two HGROW7.out O6.out (far_row HFAR.out hWZ)).setOne _)
          clear s1 s2 s3 s4 q1 q2 q3 d0 d1 d2 o0 o1 o2 hB0 hB6
          go_wp2
          go_roundw
          case rel => exact ⟨k + 1, _, by omega, by go_num, HN.out, HT7.out, HS7.out, HO7.out⟩
          case measure => simp [intOf]; omega
      · clear hrel htwo hres hout
        have hke : k = (Tm.appL l t.args).length := by have := HAL.out; omega
        have hkt : k = t.args.length := by omega
        have HE0 : OwnRel w W0 wr vo (Tm.appL l t.args) (Tm.appL l t.args).length := by rw [← hke]; exact HR.out
        have HBE : Hid (Below w.heap.size w wr) := Lib.hid (by obtain ⟨_, _, _, _, _, _, h, _⟩ := HR.out; exact h)
        have HE := Lib.hid HE0.whole
        have HVS : ∃ p q, vo = .slice p t.args.length q := by
          obtain ⟨p, q, e⟩ := HE0.whole.read.is_slice; exact ⟨p, q, by rw [e, HAL.out]⟩
        obtain ⟨p2, q2, rfl⟩ := HVS
        clear hke HE0
        obtain ⟨r0, r1, r2⟩ := HRS.out
        obtain ⟨o0, o1, o2⟩ := HOU.out
        go_wp2
        refine bodyPost_ret (v := .agg #[.string t.name, .slice p2 t.args.length q2]) (by simp [results, Try.results96, go_sem, r0, r1]) rfl ?_
        rw [HAPP.out]
        refine ⟨_, rfl, ?_, ?_⟩
        · refine ((HE.out.setCell (by have := HWZ.out; simp [Fresh]; omega) _).setCell (by have := HWZ.out; simp [Fresh]; omega) _).mono fun x hx => ?_
          have h1 := hx.1
          have h2 := hx.2
          have := HWZ.out
          exact ⟨by omega, by simp only [size_setCell]; omega⟩
        · exact (HBE.out.setCell (by simp) _).setCell (by simp) _

theorem repl_any (l : List Bd) (hl : wtB l ≤ 1048576) (hasc : Asc l) (t : Tm) : RepT l t := Tm.ind (P := RepT l) (repl_of l hl hasc) t

end Go.Proofs.Ytnkonhdnccolhaa
