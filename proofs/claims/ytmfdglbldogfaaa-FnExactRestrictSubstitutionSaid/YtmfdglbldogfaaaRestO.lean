/- The model's copy of a substitution, and RestrictSubstitution, the model's: contracts, for bindings of at most 1048576 names' bytes, bindings and arguments, and at most 1048576 names. -/
import Derived.Test.YtmfdglbldogfaaaOwnB
import Derived.Test.YtmfdglbldogfaaaRestM
import Derived.Test.YtmfdglbldogfaaaToB
namespace Go.Proofs.Ytmfdglbldogfaaa
open Go.RowKit
set_option linter.unusedVariables false

set_option maxRecDepth 100000 in
set_option maxHeartbeats 8000000 in
theorem l4Own_any (l : List Bd) (hl : wtB l ≤ 1048576) (w : World) (v : Value) (hv : BdS w v l) :
    Calls Try.prog 89 #[.agg #[v]] w (ToSubEnd l w) := by
  have hlen := Nat.le_trans (wtB_len l) hl
  have HLB := Lib.hid (fun (d : Bd) (hd : d ∈ l) => Nat.le_trans (wtB_tm hd) hl)
  obtain ⟨a, c, rfl⟩ := hv.is_slice
  have HBS := Lib.hid hv
  obtain ⟨i0, hi, hz0, hz1, hz2⟩ := info_parts infoBd
  have S2 := Lib.hid (((oner_new w (.slice a l.length c) 29 _ rfl).alloc (.cells #[.slice none 0 0] 29)).alloc (.cells #[.slice none 0 0] 29))
  have R2 := Lib.hid ((oner_new (w.alloc (.cells #[.slice a l.length c] 29)) (.slice none 0 0) 29 (w.heap.size + 1) (by simp)).alloc (.cells #[.slice none 0 0] 29))
  have O2 := Lib.hid (oner_new ((w.alloc (.cells #[.slice a l.length c] 29)).alloc (.cells #[.slice none 0 0] 29)) (.slice none 0 0) 29 (w.heap.size + 1 + 1) (by simp))
  have HB := Lib.hid ((((Below.refl w.heap.size w).alloc (Nat.le_refl _) (.cells #[.slice a l.length c] 29)).alloc (by simp) (.cells #[.slice none 0 0] 29)).alloc (by simp; omega) (.cells #[.slice none 0 0] 29))
  obtain ⟨W0, hW0⟩ : ∃ W0, W0 = ((w.alloc (.cells #[.slice a l.length c] 29)).alloc (.cells #[.slice none 0 0] 29)).alloc (.cells #[.slice none 0 0] 29) := ⟨_, rfl⟩
  have HWZ : Hid (W0.heap.size = w.heap.size + 3) := Lib.hid (by rw [hW0]; simp)
  have HR0 : Hid (OwnRelB w W0 W0.heap.size (((w.alloc (.cells #[.slice a l.length c] 29)).alloc (.cells #[.slice none 0 0] 29)).alloc (.cells #[.slice none 0 0] 29)) (fun b => W0.heap.size ≤ b) (.slice none 0 0) l 0) := Lib.hid (OwnRelB.start _ _ HB.out (by rw [hW0]; exact Nat.le_refl _))
  clear hv hW0
  go_enter Try.func89, Try.ntmps89
  go_wp2
  go_loopw [4] (fun i wr => ∃ (k : Nat) (vo : Value), k ≤ l.length ∧ i = .int .i64 k ∧ OwnRelB w W0 W0.heap.size wr (fun b => W0.heap.size ≤ b) vo l k ∧ Oner wr w.heap.size (.slice a l.length c) ∧ Oner wr (w.heap.size + 1) (.slice none 0 0) ∧ Oner wr (w.heap.size + 1 + 1) vo) (fun i _ => l.length - (intOf i).toNat)
  case atStart => exact ⟨0, _, Nat.zero_le _, rfl, HR0.out, S2.out, R2.out, O2.out⟩
  case round =>
    obtain ⟨k, vo, hk, rfl, hrel, hsub, hres, hout⟩ := hrel
    have HR := Lib.hid hrel
    have HSB := Lib.hid hsub
    have HRS := Lib.hid hres
    have HOU := Lib.hid hout
    obtain ⟨xs, f, Ss, hown, hm, hne, hP, hbe, hz⟩ := hrel
    have HOWN := Lib.hid hown
    have HM := Lib.hid hm
    have HNE := Lib.hid hne
    have HPP := Lib.hid hP
    have HBE := Lib.hid hbe
    have HZ := Lib.hid hz
    obtain ⟨s0, s1⟩ := hsub
    obtain ⟨o0, o1⟩ := hout
    clear hown hm hne hP hbe hz hres
    by_cases hlt : k < l.length
    · obtain ⟨d, hd⟩ : ∃ d, l[k]? = some d := ⟨_, List.getElem?_eq_getElem hlt⟩
      obtain ⟨b, off, rfl, vs, c0, c1, c2, hvs⟩ := HBS.out.get hd
      have c0' := carry_cell c0 HBE.out
      have c1' := carry_cell c1 HBE.out
      have c2' := carry_cell c2 HBE.out
      have HVA := Lib.hid (hvs.kept HBE.out)
      have HD := Lib.hid hd
      have HLT : Hid (b < w.heap.size) := Lib.hid (World.block_lt_of_cell? w _ c0)
      have C0 : Hid (∀ W : World, Below wr.heap.size wr W → Calls Try.prog 124 #[.agg #[.string d.tm.name, vs]] W (ToEnd d.tm W)) := Lib.hid (fun W hW => l2Own_any d.tm W _ (HVA.out.kept hW) (HLB.out d (List.mem_of_getElem? HD.out)))
      clear hd c0 c1 c2 hvs
      have hB0 : Below wr.heap.size wr wr.drew := (Below.refl _ _).drew
      have hWZ : w.heap.size + 1 + 1 < W0.heap.size := by have := HWZ.out; omega
      have hWa : w.heap.size < W0.heap.size := by omega
      have hWc : w.heap.size + 1 < W0.heap.size := by omega
      have hWb : b < W0.heap.size := by have := HLT.out; omega
      have HFAR : Hid (∀ g, vo.ownBlock = some g → W0.heap.size ≤ g) := Lib.hid (fun g hg => (HOWN.out.lt g hg).1)
      go_wp2_with fail
      go_region_law (first
          | (refine step_append_lies _ (by rfl) _ _ _ (by rfl) W0.heap.size 83 i0 _ 3 56 Try.underlying27 hi hz0 hz1 hz2 rfl (by omega) vo k xs (by rfl) (HW6.out.alloc _) ⟨w6.heap.size, 0, none⟩ 1 1 [.string d.var, .string d.tm.name, .slice pv d.tm.args.length cv] (by rfl) (by rfl) (World.news_of_block (cs := #[.string d.var, .string d.tm.name, .slice pv d.tm.args.length cv]) (t := 83) (fr := (0, 0)) (heap_alloc_new w6 _)) (by simp [Value.oneCell']) (by omega) (by unfold maxLen; omega) (by omega) (by have := hB6.size; have := HZ.out; simp; omega) (w6.heap.size + 1) (by simp) ?_; intro gg cap w7 hown7 hgrow hat hlt7; have s5 := app_cell hgrow q4 (far_row HFAR.out hWa); have s1' := app_cell hgrow q1 (far_row HFAR.out hWZ); have s2 := app_cell hgrow q2 (far_row HFAR.out hWb); have s3 := app_cell hgrow q3 (far_row HFAR.out hWb); have s6 := app_cell hgrow q5 (far_row HFAR.out hWb); have s4 := (app_one hgrow O6.out (far_row HFAR.out hWZ)).2; have HOWN7 := Lib.hid hown7; have HGROW7 := Lib.hid hgrow; have HAT7 := Lib.hid hat; clear hown7 hgrow hat)
          | (go_simp; go_at_call 124; refine (C0.out _ hB0).mono ?_; rintro e w6 ⟨v6, rfl, ho, hb⟩; have q1 := carry_cell' hb o0; have q2 := carry_cell' hb c0'; have q3 := carry_cell' hb c1'; have q5 := carry_cell' hb c2'; have q4 := carry_cell' hb s0; have hB6 := carry_below hB0 (Nat.le_refl _) hb; obtain ⟨pv, cv, rfl⟩ := ho.read.is_slice; have HO6 := Lib.hid ho; have HW6 := Lib.hid (own_kept HOWN.out hB6); have U6 := Lib.hid (HSB.out.kept hB6); have R6 := Lib.hid (HRS.out.kept hB6); have O6 := Lib.hid (HOU.out.kept hB6); have hz6 : w.heap.size + 1 + 1 < w6.heap.size := World.block_lt_of_cell? w6 _ q1; clear hb ho))
      all_goals
        have HN : Hid (OwnRelB w W0 W0.heap.size (w7.setCell ⟨w.heap.size + 1 + 1, 0, none⟩ (.slice (some ⟨gg, 0, none⟩) (k + 1) cap)) (fun b => W0.heap.size ≤ b) (.slice (some ⟨gg, 0, none⟩) (k + 1) cap) l (k + 1)) := Lib.hid (OwnRelB.next (S := Fresh wr w6) (by have := HWZ.out; omega) (Nat.le_refl _) HBE.out HOWN.out HM.out HNE.out HPP.out HZ.out HD.out HO6.out (fun b hb => ⟨Nat.le_trans HZ.out hb.1, hb.2⟩) (fun b _ _ h1 h2 => by have := h2.1; omega) (fun g hg h => by have := (HOWN.out.lt g hg).2; have := h.1; omega) (fun b h => h) (fun b h => Nat.le_trans HZ.out h.1) hB6 HOWN7.out HGROW7.out HAT7.out hWZ (by simp; omega) (fun b h _ e => by have h1 : W0.heap.size ≤ b := h; have h2 : b = w.heap.size + 1 + 1 := e; omega) (fun b h e => by have h1 := h.1; have h2 : b = w.heap.size + 1 + 1 := e; have := HZ.out; omega))
        have HU7 : Hid (Oner (w7.setCell ⟨w.heap.size + 1 + 1, 0, none⟩ (.slice (some ⟨gg, 0, none⟩) (k + 1) cap)) w.heap.size (.slice (some ⟨b, off, none⟩) l.length c)) := Lib.hid ((app_one HGROW7.out U6.out (far_row HFAR.out hWa)).setFar (by simp; omega) _)
        have HS7 : Hid (Oner (w7.setCell ⟨w.heap.size + 1 + 1, 0, none⟩ (.slice (some ⟨gg, 0, none⟩) (k + 1) cap)) (w.heap.size + 1) (.slice none 0 0)) := Lib.hid ((app_one HGROW7.out R6.out (far_row HFAR.out hWc)).setFar (by simp) _)
        have HO7 : Hid (Oner (w7.setCell ⟨w.heap.size + 1 + 1, 0, none⟩ (.slice (some ⟨gg, 0, none⟩) (k + 1) cap)) (w.heap.size + 1 + 1) (.slice (some ⟨gg, 0, none⟩) (k + 1) cap)) := Lib.hid ((app_one HGROW7.out O6.out (far_row HFAR.out hWZ)).setIt _)
        clear s0 s1 s1' s2 s3 s4 s5 s6 q1 q2 q3 q4 q5 o0 o1 c0' c1' c2' hB0 hB6
        go_wp2
        go_roundw
        case rel => exact ⟨k + 1, _, by omega, by go_num, HN.out, HU7.out, HS7.out, HO7.out⟩
        case measure => simp [intOf]; omega
    · have hke : k = l.length := by omega
      have HE0 : OwnRelB w W0 W0.heap.size wr (fun b => W0.heap.size ≤ b) vo l l.length := by rw [← hke]; exact HR.out
      have HE := Lib.hid (HE0.whole (Nat.le_refl _))
      obtain ⟨p2, q2, rfl⟩ := (HE0.whole (Nat.le_refl _)).read.is_slice
      clear hke HE0
      obtain ⟨r0, r1⟩ := HRS.out
      go_wp2
      refine bodyPost_ret (v := .agg #[.slice p2 l.length q2]) (by simp [results, Try.results89, go_sem, r0]) rfl ⟨_, rfl, ?_, HBE.out.setCell (by simp) _⟩
      refine (HE.out.setCell (by have := HWZ.out; simp [Fresh]; omega) _).mono fun x hx => ?_
      have h1 := hx.1
      have h2 := hx.2
      have := HWZ.out
      exact ⟨by omega, by simp only [size_setCell]; omega⟩

end Go.Proofs.Ytmfdglbldogfaaa
