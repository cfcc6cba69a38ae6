/- ApplySubstitution, the model's and the program's: contracts, for bindings and terms of at most 1048576 names' bytes, bindings and arguments. -/
import Derived.Test.YtnkonhdnccolhaaAppI
import Derived.Test.YtnkonhdnccolhaaSizes
namespace Go.Proofs.Ytnkonhdnccolhaa
open Go.RowKit
set_option linter.unusedVariables false

/-- A term of the call's own, and whether there is one. -/
def TmOkEnd (r : Tm) (ok : Bool) (w : World) (e : Ending) (w' : World) : Prop :=
  ∃ va, e = .returned (.tuple #[.agg #[.string r.name, va], .bool ok]) ∧ TmO w' (Fresh w w') va r.args ∧ Below w.heap.size w w'
theorem TmOkEnd.no {r : Tm} {ok : Bool} {w w' : World} (hr : r = .node ByteArray.empty []) (hok : ok = false) (hb : Below w.heap.size w w') :
    TmOkEnd r ok w (.returned (.tuple #[.agg #[.string ⟨#[]⟩, .slice none 0 0], .bool false])) w' := by
  subst hr; subst hok
  exact ⟨.slice none 0 0, rfl, .emp _ _ _, hb⟩

theorem appOk_g {l : List Bd} {t : Tm} (h : goodS l = false) : appOk l t = false := by unfold appOk; rw [h]; rfl
theorem appOk_a {l : List Bd} {t : Tm} (h : anyB t = false) : appOk l t = false := by unfold appOk; rw [h]; simp
theorem appOk_r {l : List Bd} {t : Tm} (h : anyB (t.app l) = false) : appOk l t = false := by unfold appOk; rw [h]; simp
theorem appOk_yes {l : List Bd} {t : Tm} (h1 : goodS l = true) (h2 : anyB t = true) (h3 : anyB (t.app l) = true) : appOk l t = true := by unfold appOk; rw [h1, h2, h3]; rfl

set_option maxRecDepth 100000 in
set_option maxHeartbeats 4000000 in
theorem specApply_any (l : List Bd) (t : Tm) (w : World) (v va : Value) (hv : BdS w v l) (hva : TmS w va t.args) (hl : wtB l ≤ 1048576) (hw : t.wt ≤ 1048576) :
    Calls Try.prog 74 #[.agg #[v], .agg #[.string t.name, va]] w (TmOkEnd (appR l t) (appOk l t) w) := by
  obtain ⟨a, c, rfl⟩ := hv.is_slice
  obtain ⟨p, q, rfl⟩ := hva.is_slice
  have HBS := Lib.hid hv
  have HV := Lib.hid hva
  have S3 := Lib.hid (((oner_new w (.slice a l.length c) 34 _ rfl).alloc (.cells #[.string t.name, .slice p t.args.length q] 38)).alloc (.cells #[.string ⟨#[]⟩, .slice none 0 0] 38))
  have T3 := Lib.hid ((two_new (w.alloc (.cells #[.slice a l.length c] 34)) (.string t.name) (.slice p t.args.length q) 38 (w.heap.size + 1) (by simp)).alloc (.cells #[.string ⟨#[]⟩, .slice none 0 0] 38))
  have R3 := Lib.hid (two_new ((w.alloc (.cells #[.slice a l.length c] 34)).alloc (.cells #[.string t.name, .slice p t.args.length q] 38)) (.string ⟨#[]⟩) (.slice none 0 0) 38 (w.heap.size + 1 + 1) (by simp))
  have HB := Lib.hid ((((Below.refl w.heap.size w).alloc (Nat.le_refl _) (.cells #[.slice a l.length c] 34)).alloc (by simp) (.cells #[.string t.name, .slice p t.args.length q] 38)).alloc (by simp; omega) (.cells #[.string ⟨#[]⟩, .slice none 0 0] 38))
  clear hv hva
  go_enter Try.func74, Try.ntmps74
  go_wp2_with fail
  refine (l4Good_any l _ _ (HBS.out.kept HB.out) hl).mono ?_
  rintro e w1 ⟨rfl, hb⟩
  have HB1 := Lib.hid (carry_below HB.out (Nat.le_refl _) hb)
  have S4 := Lib.hid (S3.out.kept hb)
  have T4 := Lib.hid (T3.out.kept hb)
  have R4 := Lib.hid (R3.out.kept hb)
  clear hb HB S3 T3 R3
  obtain ⟨s0, s1⟩ := S4.out
  obtain ⟨b0, b1, b2⟩ := T4.out
  obtain ⟨r0, r1, r2⟩ := R4.out
  cases hg : goodS l with
  | false =>
    have HF := Lib.hid (appOk_g (t := t) hg)
    clear hg
    go_wp2
    refine bodyPost_ret (v := .tuple #[.agg #[.string ⟨#[]⟩, .slice none 0 0], .bool false]) (by simp [results, Try.results74, go_sem, r0, r1]) rfl ?_
    exact TmOkEnd.no (appR_no HF.out) HF.out ((HB1.out.setCell (by simp; omega) _).setCell (by simp; omega) _)
  | true =>
    have HG := Lib.hid hg
    clear hg
    go_wp2_with fail
    refine (l2Any_any t _ _ (HV.out.kept HB1.out) hw).mono ?_
    rintro e w2 ⟨rfl, hb⟩
    have HB2 := Lib.hid (carry_below HB1.out (Nat.le_refl _) hb)
    have S5 := Lib.hid (S4.out.kept hb)
    have T5 := Lib.hid (T4.out.kept hb)
    have R5 := Lib.hid (R4.out.kept hb)
    clear hb HB1 S4 T4 R4 s0 s1 b0 b1 b2 r0 r1 r2
    obtain ⟨s0, s1⟩ := S5.out
    obtain ⟨b0, b1, b2⟩ := T5.out
    obtain ⟨r0, r1, r2⟩ := R5.out
    cases hf : anyB t with
    | false =>
      have HF := Lib.hid (appOk_a (l := l) hf)
      clear hf
      go_wp2
      refine bodyPost_ret (v := .tuple #[.agg #[.string ⟨#[]⟩, .slice none 0 0], .bool false]) (by simp [results, Try.results74, go_sem, r0, r1]) rfl ?_
      exact TmOkEnd.no (appR_no HF.out) HF.out ((HB2.out.setCell (by simp; omega) _).setCell (by simp; omega) _)
    | true =>
      have HT := Lib.hid hf
      have HXW : Hid ((t.app l).wt ≤ 1048576) := Lib.hid (by have := app_wt_good HG.out hf; omega)
      have CA := Lib.hid (l4Apply_any l hl (good_asc HG.out) t w2 _ _ (HBS.out.kept HB2.out) (HV.out.kept HB2.out) hw)
      obtain ⟨x, hx⟩ : ∃ x, x = t.app l := ⟨_, rfl⟩
      rw [← hx] at HXW CA
      have HX := Lib.hid hx
      clear hf hx
      go_wp2_with fail
      refine CA.out.mono ?_
      rintro e w3 ⟨v3, rfl, ho, hb⟩
      obtain ⟨p3, q3, rfl⟩ := ho.read.is_slice
      have B44 : Hid (Below w3.heap.size w3 (w3.alloc (.cells #[.string x.name, .slice p3 x.args.length q3] 38))) := Lib.hid ((Below.refl _ _).alloc (Nat.le_refl _) _)
      have B23 : Hid (Below w2.heap.size w2 (w3.alloc (.cells #[.string x.name, .slice p3 x.args.length q3] 38))) := Lib.hid (hb.alloc hb.size _)
      have HB3 := Lib.hid (carry_below HB2.out (Nat.le_refl _) B23.out)
      have R6 := Lib.hid (R5.out.kept B23.out)
      have HO := Lib.hid ho
      have X6 := Lib.hid (two_new w3 (.string x.name) (.slice p3 x.args.length q3) 38 _ rfl)
      have hz2 : w.heap.size + 3 ≤ w2.heap.size := by have := World.block_lt_of_cell? _ _ r0; simp at this; omega
      have hz3 : w2.heap.size ≤ w3.heap.size := hb.size
      clear ho hb HB2 S5 T5 R5 CA s0 s1 b0 b1 b2 r0 r1 r2
      obtain ⟨x0, x1, x2⟩ := X6.out
      go_wp2_with fail
      refine (l2Any_any x _ _ (HO.out.read.kept B44.out) HXW.out).mono ?_
      rintro e w5 ⟨rfl, hb⟩
      have B45 := Lib.hid (carry_below B44.out (Nat.le_refl _) hb)
      have HB5 := Lib.hid (carry_below HB3.out (Nat.le_refl _) hb)
      obtain ⟨r0, r1, r2⟩ := R6.out.kept hb
      clear x0 x1 x2
      obtain ⟨x0, x1, x2⟩ := X6.out.kept hb
      have hz5 : w3.heap.size ≤ w5.heap.size := B45.out.size
      clear hb
      cases hn : anyB x with
      | false =>
        have HF : Hid (appOk l t = false) := Lib.hid (appOk_r (by rw [← HX.out]; exact hn))
        clear hn
        go_wp2
        refine bodyPost_ret (v := .tuple #[.agg #[.string ⟨#[]⟩, .slice none 0 0], .bool false]) (by simp [results, Try.results74, go_sem, r0, r1]) rfl ?_
        exact TmOkEnd.no (appR_no HF.out) HF.out ((HB5.out.setCell (by simp; omega) _).setCell (by simp; omega) _)
      | true =>
        have HF : Hid (appOk l t = true) := Lib.hid (appOk_yes HG.out HT.out (by rw [← HX.out]; exact hn))
        have HR : Hid (appR l t = x) := Lib.hid (by rw [appR_yes HF.out, HX.out])
        clear hn
        go_wp2
        refine bodyPost_ret (v := .tuple #[.agg #[.string x.name, .slice p3 x.args.length q3], .bool true]) (by simp [results, Try.results74, go_sem, r0, r1]) rfl ?_
        rw [HF.out, HR.out]
        refine ⟨_, rfl, ?_, (HB5.out.setCell (by simp; omega) _).setCell (by simp; omega) _⟩
        refine (((HO.out.kept B45.out).setCell (fun h => by have := h.1; simp at this; omega) _).setCell (fun h => by have := h.1; simp at this; omega) _).mono fun y hy => ⟨?_, ?_⟩
        · have := hy.1; omega
        · simp only [size_setCell]; have := hy.2; omega

set_option maxRecDepth 100000 in
set_option maxHeartbeats 4000000 in
theorem implApply_any (l : List Bd) (t : Tm) (w : World) (v va : Value) (hv : BdS w v l) (hva : TmS w va t.args) (hl : wtB l ≤ 1048576) (hw : t.wt ≤ 1048576) :
    Calls Try.prog 56 #[.agg #[v], .agg #[.string t.name, va]] w (TmOkEnd (appR l t) (appOk l t) w) := by
  obtain ⟨a, c, rfl⟩ := hv.is_slice
  obtain ⟨p, q, rfl⟩ := hva.is_slice
  have HBS := Lib.hid hv
  have HV := Lib.hid hva
  have S3 := Lib.hid (((oner_new w (.slice a l.length c) 34 _ rfl).alloc (.cells #[.string t.name, .slice p t.args.length q] 38)).alloc (.cells #[.string ⟨#[]⟩, .slice none 0 0] 38))
  have T3 := Lib.hid ((two_new (w.alloc (.cells #[.slice a l.length c] 34)) (.string t.name) (.slice p t.args.length q) 38 (w.heap.size + 1) (by simp)).alloc (.cells #[.string ⟨#[]⟩, .slice none 0 0] 38))
  have R3 := Lib.hid (two_new ((w.alloc (.cells #[.slice a l.length c] 34)).alloc (.cells #[.string t.name, .slice p t.args.length q] 38)) (.string ⟨#[]⟩) (.slice none 0 0) 38 (w.heap.size + 1 + 1) (by simp))
  have HB := Lib.hid ((((Below.refl w.heap.size w).alloc (Nat.le_refl _) (.cells #[.slice a l.length c] 34)).alloc (by simp) (.cells #[.string t.name, .slice p t.args.length q] 38)).alloc (by simp; omega) (.cells #[.string ⟨#[]⟩, .slice none 0 0] 38))
  clear hv hva
  go_enter Try.func56, Try.ntmps56
  go_wp2_with fail
  refine (implIsValidSub_any l _ _ (HBS.out.kept HB.out) hl).mono ?_
  rintro e w1 ⟨rfl, hb⟩
  have HB1 := Lib.hid (carry_below HB.out (Nat.le_refl _) hb)
  have S4 := Lib.hid (S3.out.kept hb)
  have T4 := Lib.hid (T3.out.kept hb)
  have R4 := Lib.hid (R3.out.kept hb)
  clear hb HB S3 T3 R3
  obtain ⟨s0, s1⟩ := S4.out
  obtain ⟨b0, b1, b2⟩ := T4.out
  obtain ⟨r0, r1, r2⟩ := R4.out
  cases hg : goodS l with
  | false =>
    have HF := Lib.hid (appOk_g (t := t) hg)
    clear hg
    go_wp2
    refine bodyPost_ret (v := .tuple #[.agg #[.string ⟨#[]⟩, .slice none 0 0], .bool false]) (by simp [results, Try.results56, go_sem, r0, r1]) rfl ?_
    exact TmOkEnd.no (appR_no HF.out) HF.out ((HB1.out.setCell (by simp; omega) _).setCell (by simp; omega) _)
  | true =>
    have HG := Lib.hid hg
    clear hg
    have B11 : Hid (Below w1.heap.size w1 (w1.alloc (.cells #[.string t.name, .slice p t.args.length q] 38))) := Lib.hid ((Below.refl _ _).alloc (Nat.le_refl _) _)
    have L1 := Lib.hid (two_new w1 (.string t.name) (.slice p t.args.length q) 38 _ rfl)
    go_wp2_with fail
    refine (areExpr_one t _ _ _ _ ((HV.out.kept HB1.out).kept B11.out) L1.out.1 L1.out.2.1 hw).mono ?_
    rintro e w2 ⟨rfl, hb⟩
    have hb := carry_below B11.out (Nat.le_refl _) hb
    have HB2 := Lib.hid (carry_below HB1.out (Nat.le_refl _) hb)
    have S5 := Lib.hid (S4.out.kept hb)
    have T5 := Lib.hid (T4.out.kept hb)
    have R5 := Lib.hid (R4.out.kept hb)
    clear hb HB1 S4 T4 R4 s0 s1 b0 b1 b2 r0 r1 r2 L1 B11
    obtain ⟨s0, s1⟩ := S5.out
    obtain ⟨b0, b1, b2⟩ := T5.out
    obtain ⟨r0, r1, r2⟩ := R5.out
    cases hf : anyB t with
    | false =>
      have HF := Lib.hid (appOk_a (l := l) hf)
      clear hf
      go_wp2
      refine bodyPost_ret (v := .tuple #[.agg #[.string ⟨#[]⟩, .slice none 0 0], .bool false]) (by simp [results, Try.results56, go_sem, r0, r1]) rfl ?_
      exact TmOkEnd.no (appR_no HF.out) HF.out ((HB2.out.setCell (by simp; omega) _).setCell (by simp; omega) _)
    | true =>
      have HT := Lib.hid hf
      have HXW : Hid ((t.app l).wt ≤ 1048576) := Lib.hid (by have := app_wt_good HG.out hf; omega)
      have CA := Lib.hid (repl_any l hl (good_asc HG.out) t w2 _ _ (HBS.out.kept HB2.out) (HV.out.kept HB2.out) hw)
      unfold tf at CA
      obtain ⟨x, hx⟩ : ∃ x, x = t.app l := ⟨_, rfl⟩
      rw [← hx] at HXW CA
      have HX := Lib.hid hx
      clear hf hx
      go_wp2_with fail
      refine CA.out.mono ?_
      rintro e w3 ⟨v3, rfl, ho, hb⟩
      obtain ⟨p3, q3, rfl⟩ := ho.read.is_slice
      obtain ⟨W3, hW3⟩ : ∃ W3, w3.alloc (.cells #[.string x.name, .slice p3 x.args.length q3] 38) = W3 := ⟨_, rfl⟩
      have B44 : Hid (Below w3.heap.size w3 W3) := Lib.hid (by rw [← hW3]; exact (Below.refl _ _).alloc (Nat.le_refl _) _)
      have B23 : Hid (Below w2.heap.size w2 W3) := Lib.hid (by rw [← hW3]; exact hb.alloc hb.size _)
      have HB3 := Lib.hid (carry_below HB2.out (Nat.le_refl _) B23.out)
      have R6 := Lib.hid (R5.out.kept B23.out)
      have HO := Lib.hid ho
      have X6 : Hid (Two W3 w3.heap.size (.string x.name) (.slice p3 x.args.length q3)) := Lib.hid (by rw [← hW3]; exact two_new _ _ _ _ _ rfl)
      have hz2 : w.heap.size + 3 ≤ w2.heap.size := by have := World.block_lt_of_cell? _ _ r0; simp at this; omega
      have hz3 : w2.heap.size ≤ w3.heap.size := hb.size
      have B66 : Hid (Below W3.heap.size W3 (W3.alloc (.cells #[.string x.name, .slice p3 x.args.length q3] 38))) := Lib.hid ((Below.refl _ _).alloc (Nat.le_refl _) _)
      have L6 := Lib.hid (two_new W3 (.string x.name) (.slice p3 x.args.length q3) 38 _ rfl)
      clear ho hb HB2 S5 T5 R5 CA s0 s1 b0 b1 b2 r0 r1 r2
      obtain ⟨x0, x1, x2⟩ := X6.out
      go_wp2_with fail
      refine (areExpr_one x _ _ _ _ ((HO.out.read.kept B44.out).kept B66.out) L6.out.1 L6.out.2.1 HXW.out).mono ?_
      rintro e w5 ⟨rfl, hb⟩
      have hb := carry_below B66.out (Nat.le_refl _) hb
      have B45 := Lib.hid (carry_below B44.out (Nat.le_refl _) hb)
      have HB5 := Lib.hid (carry_below HB3.out (Nat.le_refl _) hb)
      obtain ⟨r0, r1, r2⟩ := R6.out.kept hb
      clear x0 x1 x2
      obtain ⟨x0, x1, x2⟩ := X6.out.kept hb
      have hz5 : w3.heap.size ≤ w5.heap.size := B45.out.size
      clear hb hW3
      cases hn : anyB x with
      | false =>
        have HF : Hid (appOk l t = false) := Lib.hid (appOk_r (by rw [← HX.out]; exact hn))
        clear hn
        go_wp2
        refine bodyPost_ret (v := .tuple #[.agg #[.string ⟨#[]⟩, .slice none 0 0], .bool false]) (by simp [results, Try.results56, go_sem, r0, r1]) rfl ?_
        exact TmOkEnd.no (appR_no HF.out) HF.out ((HB5.out.setCell (by simp; omega) _).setCell (by simp; omega) _)
      | true =>
        have HF : Hid (appOk l t = true) := Lib.hid (appOk_yes HG.out HT.out (by rw [← HX.out]; exact hn))
        have HR : Hid (appR l t = x) := Lib.hid (by rw [appR_yes HF.out, HX.out])
        clear hn
        go_wp2
        refine bodyPost_ret (v := .tuple #[.agg #[.string x.name, .slice p3 x.args.length q3], .bool true]) (by simp [results, Try.results56, go_sem, r0, r1]) rfl ?_
        rw [HF.out, HR.out]
        refine ⟨_, rfl, ?_, (HB5.out.setCell (by simp; omega) _).setCell (by simp; omega) _⟩
        refine (((HO.out.kept B45.out).setCell (fun h => by have := h.1; simp at this; omega) _).setCell (fun h => by have := h.1; simp at this; omega) _).mono fun y hy => ⟨?_, ?_⟩
        · have := hy.1; omega
        · simp only [size_setCell]; have := hy.2; omega

end Go.Proofs.Ytnkonhdnccolhaa
