/- ReplaceAt, the program's: a contract, for terms of at most 1048576 names' bytes and arguments. -/
import Derived.Test.YtppmiedhoimgmaaRepS
namespace Go.Proofs.Ytppmiedhoimgmaa
open Go.RowKit
set_option linter.unusedVariables false

theorem PathTo.kept {w w' : World} {b o b' o' : Nat} {p : List Int} (h : PathTo w b o p b' o') (hb : Below w.heap.size w w') : PathTo w' b o p b' o' := by
  induction h with
  | here b o => exact .here b o
  | step b o g off n c i r b' o' hc hi h ih => exact .step b o g off n c i r b' o' (carry_cell hc hb) hi ih

/-- Where a path in a term of a call's own ends. -/
theorem path_end {w : World} {b o b' o' : Nat} {p : List Int} (hpath : PathTo w b o p b' o') {S : Nat → Prop} {t : Tm} {va : Value}
    (hc : w.cell? ⟨b, o + 1, none⟩ = some va) (ht : TmO w S va t.args) : (p = [] ∧ b' = b ∧ o' = o) ∨ (S b' ∧ ∀ j, w.frozen? ⟨b', j, none⟩ = false) := by
  induction hpath generalizing S t va with
  | here b o => exact .inl ⟨rfl, rfl, rfl⟩
  | step b o g off n c i r b' o' hc1 hi hpath ih =>
    right
    have e : va = .slice (some ⟨g, off, none⟩) n c := Option.some.inj (hc.symm.trans hc1)
    subst e
    generalize hl : t.args = l0 at ht
    cases ht with
    | emp => exact absurd hi (Nat.not_lt_zero _)
    | row _ _ _ l f Ss hp hSg hcc hz hn ha hr hsub hdis =>
      obtain ⟨u, hu⟩ : ∃ u, l0[i]? = some u := ⟨_, List.getElem?_eq_getElem hi⟩
      rcases ih (S := Ss i) (t := u) (va := f i) (by simpa using ha i u hu) (hr i u hu) with ⟨_, e, _⟩ | ⟨h1, h2⟩
      · rw [e]; exact ⟨hSg, hz⟩
      · exact ⟨(hsub i _ hi h1).1, h2⟩

/-- What the store leaves, as the walk goes on with it. -/
theorem store_end {w : World} {b b' o' : Nat} {p : List Int} (hpath : PathTo w b 0 p b' o') {S S' : Nat → Prop} {t s : Tm} {va v' : Value} (hS' : ∀ k, S' k → ¬ S k) (hS'b : ∀ k, S' k → k ≠ b) (hSb : ¬ S b)
    (h2 : Two w b (.string t.name) va) (ht : TmO w S va t.args) (hs : TmO w S' v' s.args) :
    ∃ vx, Two (stored w b' o' s.name v') b (.string (withAt p t s).name) vx ∧ TmO (stored w b' o' s.name v') (fun k => S k ∨ S' k) vx (withAt p t s).args ∧ (b' = b ∨ S b') := by
  have hbb : b' = b ∨ S b' := by
    rcases path_end hpath h2.2.1 ht with ⟨_, e, _⟩ | ⟨h, _⟩
    · exact .inl e
    · exact .inr h
  have hs' : TmO (stored w b' o' s.name v') S' v' s.args := hs.frame fun k hk => stored_heap (fun e => by
    rcases hbb with h | h
    · exact hS'b k hk (e.trans h)
    · exact hS' k hk (e ▸ h))
  rcases stored_path hpath hS' hS'b hSb h2.2.1 ht hs' with ⟨rfl, rfl, rfl⟩ | ⟨hp0, hSb', hto, hnm⟩
  · refine ⟨v', ⟨by rw [withAt]; exact stored_name h2.1, stored_args h2.2.1, fun j => by rw [stored_frozen]; exact h2.2.2 j⟩, ?_, .inl rfl⟩
    rw [withAt]
    exact hs'.mono fun k hk => .inr hk
  · have hne : b ≠ b' := fun e => hSb (e ▸ hSb')
    exact ⟨va, ⟨by rw [hnm, stored_other (.inl hne)]; exact h2.1, (stored_other (.inl hne)).trans h2.2.1, fun j => by rw [stored_frozen]; exact h2.2.2 j⟩, hto, .inr hSb'⟩

set_option maxRecDepth 100000 in
set_option maxHeartbeats 800000 in
theorem implRep_any (t s : Tm) (p : List Int) (w : World) (va vp vs : Value) (hv : TmS w va t.args) (hp : IntsC w vp p) (hs : TmS w vs s.args) (hw : t.wt ≤ 1048576) (hws : s.wt ≤ 1048576) (hsum : t.wt + s.wt ≤ 1048576) (hl : p.length ≤ 1048576) :
    Calls Try.prog 17 #[.agg #[.string t.name, va], vp, .agg #[.string s.name, vs]] w (SubEnd (repA t p s) w) := by
  obtain ⟨a, c, rfl⟩ := hv.is_slice
  obtain ⟨sa, sc, rfl⟩ := hs.is_slice
  have HV := Lib.hid hv
  have HS := Lib.hid hs
  have HP := Lib.hid hp
  obtain ⟨⟨pa, pc, rfl, hpc⟩, _⟩ := hp
  have HB := Lib.hid (((((Below.refl w.heap.size w).alloc (Nat.le_refl _) (.cells #[.string t.name, .slice a t.args.length c] 26)).alloc (by simp) (.cells #[.string s.name, .slice sa s.args.length sc] 26)).alloc (by simp; omega) (.cells #[.string ⟨#[]⟩, .slice none 0 0] 26)).alloc (by simp; omega) (.cells #[.string t.name, .slice a t.args.length c] 26))
  have A2 := Lib.hid ((((two_new w (.string t.name) (.slice a t.args.length c) 26 _ rfl).alloc (.cells #[.string s.name, .slice sa s.args.length sc] 26)).alloc (.cells #[.string ⟨#[]⟩, .slice none 0 0] 26)).alloc (.cells #[.string t.name, .slice a t.args.length c] 26))
  have S2 := Lib.hid (((two_new (w.alloc (.cells #[.string t.name, .slice a t.args.length c] 26)) (.string s.name) (.slice sa s.args.length sc) 26 (w.heap.size + 1) (by simp)).alloc (.cells #[.string ⟨#[]⟩, .slice none 0 0] 26)).alloc (.cells #[.string t.name, .slice a t.args.length c] 26))
  have R2 := Lib.hid ((two_new ((w.alloc (.cells #[.string t.name, .slice a t.args.length c] 26)).alloc (.cells #[.string s.name, .slice sa s.args.length sc] 26)) (.string ⟨#[]⟩) (.slice none 0 0) 26 (w.heap.size + 1 + 1) (by simp)).alloc (.cells #[.string t.name, .slice a t.args.length c] 26))
  have L2 := Lib.hid (two_new (((w.alloc (.cells #[.string t.name, .slice a t.args.length c] 26)).alloc (.cells #[.string s.name, .slice sa s.args.length sc] 26)).alloc (.cells #[.string ⟨#[]⟩, .slice none 0 0] 26)) (.string t.name) (.slice a t.args.length c) 26 (w.heap.size + 1 + 1 + 1) (by simp))
  clear hv hs hpc
  go_enter Try.func17, Try.ntmps17
  go_wp2_with fail
  refine (areExpr_one t _ _ _ _ (HV.out.kept HB.out) L2.out.1 L2.out.2.1 hw).mono ?_
  rintro e w1 ⟨rfl, hb⟩
  have HB1 := Lib.hid (carry_below HB.out (Nat.le_refl _) hb)
  have A21 := Lib.hid (A2.out.kept hb)
  have S21 := Lib.hid (S2.out.kept hb)
  have R21 := Lib.hid (R2.out.kept hb)
  clear hb HB A2 S2 R2 L2
  obtain ⟨a0, a1, a2⟩ := A21.out
  obtain ⟨s0, s1, s2⟩ := S21.out
  obtain ⟨r0, r1, r2⟩ := R21.out
  cases hf : anyB t with
  | false =>
    have HF : Hid (repA t p s = none) := Lib.hid (repA_no (by rw [hf]; simp))
    clear hf
    go_wp2
    refine bodyPost_ret (v := .tuple #[.agg #[.string ⟨#[]⟩, .slice none 0 0], .bool false]) (by simp [results, Try.results17, go_sem, r0, r1]) rfl ?_
    rw [HF.out]
    exact SubEnd.no ((HB1.out.setCell (by simp; omega) _).setCell (by simp; omega) _)
  | true =>
    have HT := Lib.hid hf
    clear hf
    go_wp2_with fail
    refine (validTerm_any s _ _ (HS.out.kept HB1.out) hws).mono ?_
    rintro e w2 ⟨rfl, hb⟩
    have HB2 := Lib.hid (carry_below HB1.out (Nat.le_refl _) hb)
    have A22 := Lib.hid (A21.out.kept hb)
    have S22 := Lib.hid (S21.out.kept hb)
    have R22 := Lib.hid (R21.out.kept hb)
    clear hb HB1 A21 S21 R21 a0 a1 a2 s0 s1 s2 r0 r1 r2
    obtain ⟨a0, a1, a2⟩ := A22.out
    obtain ⟨s0, s1, s2⟩ := S22.out
    obtain ⟨r0, r1, r2⟩ := R22.out
    cases hg : goodB s with
    | false =>
      have HF : Hid (repA t p s = none) := Lib.hid (repA_no (by rw [hg]; simp))
      clear hg
      go_wp2
      refine bodyPost_ret (v := .tuple #[.agg #[.string ⟨#[]⟩, .slice none 0 0], .bool false]) (by simp [results, Try.results17, go_sem, r0, r1]) rfl ?_
      rw [HF.out]
      exact SubEnd.no ((HB2.out.setCell (by simp; omega) _).setCell (by simp; omega) _)
    | true =>
      have HG := Lib.hid hg
      clear hg
      go_wp2_with fail
      refine (copyTerm_any t _ _ (HV.out.kept HB2.out) hw).mono ?_
      rintro e w3 ⟨v3, rfl, ho, hb⟩
      obtain ⟨pv, cv, rfl⟩ := ho.read.is_slice
      have B23 : Hid (Below w2.heap.size w2 (w3.alloc (.cells #[.string t.name, .slice pv t.args.length cv] 26))) := Lib.hid (hb.alloc hb.size _)
      have B33 : Hid (Below w3.heap.size w3 (w3.alloc (.cells #[.string t.name, .slice pv t.args.length cv] 26))) := Lib.hid ((Below.refl _ _).alloc (Nat.le_refl _) _)
      have HB3 := Lib.hid (carry_below HB2.out (Nat.le_refl _) B23.out)
      have A23 := Lib.hid (A22.out.kept B23.out)
      have S23 := Lib.hid (S22.out.kept B23.out)
      have R23 := Lib.hid (R22.out.kept B23.out)
      have X23 := Lib.hid (two_new w3 (.string t.name) (.slice pv t.args.length cv) 26 _ rfl)
      have O23 := Lib.hid (ho.kept B33.out)
      have hz2 : w2.heap.size ≤ w3.heap.size := hb.size
      have hz0 : w.heap.size + 3 ≤ w2.heap.size := by have := World.block_lt_of_cell? _ _ r0; simp at this; omega
      clear ho hb HB2 A22 S22 R22 a0 a1 a2 s0 s1 s2 r0 r1 r2
      obtain ⟨W3, hW3⟩ : ∃ W3, w3.alloc (.cells #[.string t.name, .slice pv t.args.length cv] 26) = W3 := ⟨_, rfl⟩
      have hs3 : W3.heap.size = w3.heap.size + 1 := by rw [← hW3]; simp
      rw [hW3] at B23 B33 HB3 A23 S23 R23 X23 O23
      obtain ⟨s0, s1, s2⟩ := S23.out
      obtain ⟨r0, r1, r2⟩ := R23.out
      obtain ⟨x0, x1, x2⟩ := X23.out
      go_wp2_with fail
      refine (nodeAt_any t p _ w3.heap.size 0 _ ⟨_, x0, x1, O23.out.read⟩ (HP.out.1.kept HB3.out) hw hl).mono ?_
      rintro e w4 ⟨rfl, ⟨hno, rfl⟩ | ⟨u, b', o', hu, rfl, hpath, vu, u0, u1, u2⟩⟩
      · have HF : Hid (repA t p s = none) := Lib.hid (repA_no (by rw [hno]; simp))
        clear hno
        go_wp2
        refine bodyPost_ret (v := .tuple #[.agg #[.string ⟨#[]⟩, .slice none 0 0], .bool false]) (by simp [results, Try.results17, go_sem, r0, r1]) rfl ?_
        rw [HF.out]
        exact SubEnd.no ((HB3.out.setCell (by simp; omega) _).setCell (by simp; omega) _)
      · have HI : Hid ((subAt p t).isSome = true) := Lib.hid (by rw [hu]; rfl)
        have HPATH := Lib.hid hpath
        have HFR : Hid (∀ j, W3.frozen? ⟨b', j, none⟩ = false) := Lib.hid (by
          rcases path_end hpath x1 O23.out with ⟨_, e, _⟩ | ⟨_, h⟩
          · intro j; rw [e]; exact x2 j
          · exact h)
        have hbl : b' < W3.heap.size := World.block_lt_of_cell? W3 ⟨b', o', none⟩ u0
        clear hu hpath u2
        go_wp2_with fail
        refine (copyTerm_any s _ _ (HS.out.kept HB3.out) hws).mono ?_
        rintro e w6 ⟨v6, rfl, ho6, hb6⟩
        obtain ⟨qv, qc, rfl⟩ := ho6.read.is_slice
        have u0' := carry_cell u0 hb6
        have u1' := carry_cell u1 hb6
        have f0 : ∀ j, w6.frozen? ⟨b', j, none⟩ = false := fun j => (hb6.frozen (p := ⟨b', j, none⟩) hbl).trans (HFR.out j)
        have f1 := f0 o'
        have f2 := f0 (o' + 1)
        have SE := store_end (HPATH.out.kept hb6) (S := Fresh w2 w3) (S' := Fresh W3 w6) (s := s) (v' := .slice qv s.args.length qc) (fun k h h2 => by have := h.1; have := h2.2; omega) (fun k h e => by have := h.1; omega) (fun h => by have := h.2; omega) (X23.out.kept hb6) (O23.out.frame fun k hk => hb6.block k (by have := hk.2; omega)) ho6
        have HB6 := Lib.hid (carry_below HB3.out (Nat.le_refl _) hb6)
        have R26 := Lib.hid (R23.out.kept hb6)
        have hz6 : W3.heap.size ≤ w6.heap.size := hb6.size
        have hzb : w2.heap.size ≤ b' := by
          obtain ⟨vx, _, _, h⟩ := SE
          rcases h with h | h
          · omega
          · exact h.1
        have SE2 := Lib.hid SE
        clear ho6 hb6 u0 u1 f0 s0 s1 s2 r0 r1 r2 x0 x1 x2 SE A23 S23
        obtain ⟨x, hx⟩ : ∃ x, x = withAt p t s := ⟨_, rfl⟩
        have HWT : Hid (x.wt ≤ 1048576) := Lib.hid (by rw [hx]; have := withAt_wt p t s; omega)
        rw [← hx] at SE2
        have HX := Lib.hid hx
        obtain ⟨vx, hx2, hxo, hbS⟩ := SE2.out
        have HB9 : Hid (Below w.heap.size w (stored w6 b' o' s.name (.slice qv s.args.length qc))) := Lib.hid (by unfold stored; exact (HB6.out.setCell (by simp; omega) _).setCell (by simp; omega) _)
        have HR9 : Hid (Two (stored w6 b' o' s.name (.slice qv s.args.length qc)) (w.heap.size + 1 + 1) (.string ⟨#[]⟩) (.slice none 0 0)) := Lib.hid (by unfold stored; exact (R26.out.setFar (by simp; omega) _).setFar (by simp; omega) _)
        have hs9 : (stored w6 b' o' s.name (.slice qv s.args.length qc)).heap.size = w6.heap.size := stored_size
        obtain ⟨W9, hW9⟩ : ∃ W9, (w6.setCell ⟨b', o', none⟩ (.string s.name)).setCell ⟨b', o' + 1, none⟩ (.slice qv s.args.length qc) = W9 := ⟨_, rfl⟩
        have hW9' : stored w6 b' o' s.name (.slice qv s.args.length qc) = W9 := hW9
        rw [hW9'] at hx2 hxo HB9 HR9 hs9
        obtain ⟨ea, ec, rfl⟩ := hxo.read.is_slice
        have HX2 := Lib.hid hx2
        have HXO := Lib.hid hxo
        have BA := Lib.hid ((Below.refl W9.heap.size W9).alloc (Nat.le_refl _) (.cells #[.string x.name, .slice ea x.args.length ec] 26))
        obtain ⟨x0, x1, x2⟩ := hx2
        have HS9 := Lib.hid hs9
        clear hx hxo hbS SE2 hW9' hs9
        go_wp2_with fail
        refine (areExpr_one x _ _ _ _ (HXO.out.read.kept BA.out) (two_new _ _ _ _ _ rfl).1 (two_new _ _ _ _ _ rfl).2.1 HWT.out).mono ?_
        rintro e w10 ⟨rfl, hb⟩
        have BB := Lib.hid (carry_below BA.out (Nat.le_refl _) hb)
        have HB10 := Lib.hid (carry_below HB9.out (Nat.le_refl _) BB.out)
        obtain ⟨r0, r1, r2⟩ := HR9.out.kept BB.out
        obtain ⟨y0, y1, y2⟩ := HX2.out.kept BB.out
        have hz10 : W9.heap.size ≤ w10.heap.size := BB.out.size
        clear hb x0 x1 x2 u0' u1' f1 f2 hW9
        have hs9 := HS9.out
        cases hn : anyB x with
        | false =>
          have HF : Hid (repA t p s = none) := Lib.hid (repA_no (by rw [← HX.out, hn]; simp))
          clear hn
          go_wp2
          refine bodyPost_ret (v := .tuple #[.agg #[.string ⟨#[]⟩, .slice none 0 0], .bool false]) (by simp [results, Try.results17, go_sem, r0, r1]) rfl ?_
          rw [HF.out]
          exact SubEnd.no ((HB10.out.setCell (by simp; omega) _).setCell (by simp; omega) _)
        | true =>
          have HF : Hid (repA t p s = some x) := Lib.hid (by rw [repA_yes HT.out HG.out HI.out (by rw [← HX.out]; exact hn), HX.out])
          clear hn
          go_wp2
          refine bodyPost_ret (v := .tuple #[.agg #[.string x.name, .slice ea x.args.length ec], .bool true]) (by simp [results, Try.results17, go_sem, r0, r1]) rfl ?_
          rw [HF.out]
          refine ⟨_, rfl, ?_, (HB10.out.setCell (by simp; omega) _).setCell (by simp; omega) _⟩
          have HXK : TmO w10 (fun k => Fresh w2 w3 k ∨ Fresh W3 w6 k) (.slice ea x.args.length ec) x.args := HXO.out.frame fun k hk => BB.out.block k (by rcases hk with h | h <;> (have := h.2; omega))
          refine ((HXK.setCell (fun h => by rcases h with h | h <;> (have := h.1; simp at this; omega)) _).setCell (fun h => by rcases h with h | h <;> (have := h.1; simp at this; omega)) _).mono fun y hy => ⟨?_, ?_⟩
          · rcases hy with hy | hy <;> (have := hy.1; omega)
          · simp only [size_setCell]
            rcases hy with hy | hy <;> (have := hy.2; omega)

end Go.Proofs.Ytppmiedhoimgmaa
