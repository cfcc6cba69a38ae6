/- Several texts in one: each says what it proves. No condition but theirs. -/
import Derived.Test.YtnkonhdnccolhaaAppI
import Derived.Test.YtnkonhdnccolhaaSizes
import Derived.Test.YtnkonhdnccolhaaEq
import Derived.Deep.RegionWith
import Derived.Test.YtnkonhdnccolhaaCmpG
import Derived.Deep.AppendLies
import Derived.Test.YtnkonhdnccolhaaCmpW
/- ApplySubstitution, the model's and the program's: contracts, for bindings and terms of at most 1048576 names' bytes, bindings and arguments. -/
namespace Go.Proofs.Ytnkonhdnccolhaa
open Go.RowKit
set_option linter.unusedVariables false

/-- A term of the call's own, and whether there is one. -/
def TmOkEnd (r : Tm) (ok : Bool) (w : World) (e : Ending) (w' : World) : Prop :=
  ∃ va, e = .returned (.tuple #[.agg #[.string r.name, va], .bool ok]) ∧ TmO w' (Fresh w w') va r.args ∧ Below w.heap.size w w'
theorem TmOkEnd.no {r : Tm} {ok : Bool} {w w' : World} (hr : r = .node ByteArray.empty []) (hok : ok = false) (hb : Below w.heap.size w w') :
    TmOkEnd r ok w (.returned (.tuple #[.agg #[.string ⟨#[]⟩, .slice none 0 0], .bool false])) w' := by
  subst hr; subst hok
  exact ⟨.slice none 0 0, rfl, .emp _ _ _, hb⟩

theorem appOk_g {l : List Bd} {t : Tm} (h : goodS l = false) : appOk l t = false := by unfold appOk; rw [h]; rfl
theorem appOk_a {l : List Bd} {t : Tm} (h : anyB t = false) : appOk l t = false := by unfold appOk; rw [h]; simp
theorem appOk_r {l : List Bd} {t : Tm} (h : anyB (t.app l) = false) : appOk l t = false := by unfold appOk; rw [h]; simp
theorem appOk_yes {l : List Bd} {t : Tm} (h1 : goodS l = true) (h2 : anyB t = true) (h3 : anyB (t.app l) = true) : appOk l t = true := by unfold appOk; rw [h1, h2, h3]; rfl

set_option maxRecDepth 100000 in
set_option maxHeartbeats 4000000 in
theorem specApply_any (l : List Bd) (t : Tm) (w : World) (v va : Value) (hv : BdS w v l) (hva : TmS w va t.args) (hl : wtB l ≤ 1048576) (hw : t.wt ≤ 1048576) :
    Calls Try.prog 74 #[.agg #[v], .agg #[.string t.name, va]] w (TmOkEnd (appR l t) (appOk l t) w) := by
  obtain ⟨a, c, rfl⟩ := hv.is_slice
  obtain ⟨p, q, rfl⟩ := hva.is_slice
  have HBS := Lib.hid hv
  have HV := Lib.hid hva
  have S3 := Lib.hid (((oner_new w (.slice a l.length c) 34 _ rfl).alloc (.cells #[.string t.name, .slice p t.args.length q] 38)).alloc (.cells #[.string ⟨#[]⟩, .slice none 0 0] 38))
  have T3 := Lib.hid ((two_new (w.alloc (.cells #[.slice a l.length c] 34)) (.string t.name) (.slice p t.args.length q) 38 (w.heap.size + 1) (by simp)).alloc (.cells #[.string ⟨#[]⟩, .slice none 0 0] 38))
  have R3 := Lib.hid (two_new ((w.alloc (.cells #[.slice a l.length c] 34)).alloc (.cells #[.string t.name, .slice p t.args.length q] 38)) (.string ⟨#[]⟩) (.slice none 0 0) 38 (w.heap.size + 1 + 1) (by simp))
  have HB := Lib.hid ((((Below.refl w.heap.size w).alloc (Nat.le_refl _) (.cells #[.slice a l.length c] 34)).alloc (by simp) (.cells #[.string t.name, .slice p t.args.length q] 38)).alloc (by simp; omega) (.cells #[.string ⟨#[]⟩, .slice none 0 0] 38))
  clear hv hva
  go_enter Try.func74, Try.ntmps74
  go_wp2_with fail
  refine (l4Good_any l _ _ (HBS.out.kept HB.out) hl).mono ?_
  rintro e w1 ⟨rfl, hb⟩
  have HB1 := Lib.hid (carry_below HB.out (Nat.le_refl _) hb)
  have S4 := Lib.hid (S3.out.kept hb)
  have T4 := Lib.hid (T3.out.kept hb)
  have R4 := Lib.hid (R3.out.kept hb)
  clear hb HB S3 T3 R3
  obtain ⟨s0, s1⟩ := S4.out
  obtain ⟨b0, b1, b2⟩ := T4.out
  obtain ⟨r0, r1, r2⟩ := R4.out
  cases hg : goodS l with
  | false =>
    have HF := Lib.hid (appOk_g (t := t) hg)
    clear hg
    go_wp2
    refine bodyPost_ret (v := .tuple #[.agg #[.string ⟨#[]⟩, .slice none 0 0], .bool false]) (by simp [results, Try.results74, go_sem, r0, r1]) rfl ?_
    exact TmOkEnd.no (appR_no HF.out) HF.out ((HB1.out.setCell (by simp; omega) _).setCell (by simp; omega) _)
  | true =>
    have HG := Lib.hid hg
    clear hg
    go_wp2_with fail
    refine (l2Any_any t _ _ (HV.out.kept HB1.out) hw).mono ?_
    rintro e w2 ⟨rfl, hb⟩
    have HB2 := Lib.hid (carry_below HB1.out (Nat.le_refl _) hb)
    have S5 := Lib.hid (S4.out.kept hb)
    have T5 := Lib.hid (T4.out.kept hb)
    have R5 := Lib.hid (R4.out.kept hb)
    clear hb HB1 S4 T4 R4 s0 s1 b0 b1 b2 r0 r1 r2
    obtain ⟨s0, s1⟩ := S5.out
    obtain ⟨b0, b1, b2⟩ := T5.out
    obtain ⟨r0, r1, r2⟩ := R5.out
    cases hf : anyB t with
    | false =>
      have HF := Lib.hid (appOk_a (l := l) hf)
      clear hf
      go_wp2
      refine bodyPost_ret (v := .tuple #[.agg #[.string ⟨#[]⟩, .slice none 0 0], .bool false]) (by simp [results, Try.results74, go_sem, r0, r1]) rfl ?_
      exact TmOkEnd.no (appR_no HF.out) HF.out ((HB2.out.setCell (by simp; omega) _).setCell (by simp; omega) _)
    | true =>
      have HT := Lib.hid hf
      have HXW : Hid ((t.app l).wt ≤ 1048576) := Lib.hid (by have := app_wt_good HG.out hf; omega)
      have CA := Lib.hid (l4Apply_any l hl (good_asc HG.out) t w2 _ _ (HBS.out.kept HB2.out) (HV.out.kept HB2.out) hw)
      obtain ⟨x, hx⟩ : ∃ x, x = t.app l := ⟨_, rfl⟩
      rw [← hx] at HXW CA
      have HX := Lib.hid hx
      clear hf hx
      go_wp2_with fail
      refine CA.out.mono ?_
      rintro e w3 ⟨v3, rfl, ho, hb⟩
      obtain ⟨p3, q3, rfl⟩ := ho.read.is_slice
      have B44 : Hid (Below w3.heap.size w3 (w3.alloc (.cells #[.string x.name, .slice p3 x.args.length q3] 38))) := Lib.hid ((Below.refl _ _).alloc (Nat.le_refl _) _)
      have B23 : Hid (Below w2.heap.size w2 (w3.alloc (.cells #[.string x.name, .slice p3 x.args.length q3] 38))) := Lib.hid (hb.alloc hb.size _)
      have HB3 := Lib.hid (carry_below HB2.out (Nat.le_refl _) B23.out)
      have R6 := Lib.hid (R5.out.kept B23.out)
      have HO := Lib.hid ho
      have X6 := Lib.hid (two_new w3 (.string x.name) (.slice p3 x.args.length q3) 38 _ rfl)
      have hz2 : w.heap.size + 3 ≤ w2.heap.size := by have := World.block_lt_of_cell? _ _ r0; simp at this; omega
      have hz3 : w2.heap.size ≤ w3.heap.size := hb.size
      clear ho hb HB2 S5 T5 R5 CA s0 s1 b0 b1 b2 r0 r1 r2
      obtain ⟨x0, x1, x2⟩ := X6.out
      go_wp2_with fail
      refine (l2Any_any x _ _ (HO.out.read.kept B44.out) HXW.out).mono ?_
      rintro e w5 ⟨rfl, hb⟩
      have B45 := Lib.hid (carry_below B44.out (Nat.le_refl _) hb)
      have HB5 := Lib.hid (carry_below HB3.out (Nat.le_refl _) hb)
      obtain ⟨r0, r1, r2⟩ := R6.out.kept hb
      clear x0 x1 x2
      obtain ⟨x0, x1, x2⟩ := X6.out.kept hb
      have hz5 : w3.heap.size ≤ w5.heap.size := B45.out.size
      clear hb
      cases hn : anyB x with
      | false =>
        have HF : Hid (appOk l t = false) := Lib.hid (appOk_r (by rw [← HX.out]; exact hn))
        clear hn
        go_wp2
        refine bodyPost_ret (v := .tuple #[.agg #[.string ⟨#[]⟩, .slice none 0 0], .bool false]) (by simp [results, Try.results74, go_sem, r0, r1]) rfl ?_
        exact TmOkEnd.no (appR_no HF.out) HF.out ((HB5.out.setCell (by simp; omega) _).setCell (by simp; omega) _)
      | true =>
        have HF : Hid (appOk l t = true) := Lib.hid (appOk_yes HG.out HT.out (by rw [← HX.out]; exact hn))
        have HR : Hid (appR l t = x) := Lib.hid (by rw [appR_yes HF.out, HX.out])
        clear hn
        go_wp2
        refine bodyPost_ret (v := .tuple #[.agg #[.string x.name, .slice p3 x.args.length q3], .bool true]) (by simp [results, Try.results74, go_sem, r0, r1]) rfl ?_
        rw [HF.out, HR.out]
        refine ⟨_, rfl, ?_, (HB5.out.setCell (by simp; omega) _).setCell (by simp; omega) _⟩
        refine (((HO.out.kept B45.out).setCell (fun h => by have := h.1; simp at this; omega) _).setCell (fun h => by have := h.1; simp at this; omega) _).mono fun y hy => ⟨?_, ?_⟩
        · have := hy.1; omega
        · simp only [size_setCell]; have := hy.2; omega

set_option maxRecDepth 100000 in
set_option maxHeartbeats 4000000 in
theorem implApply_any (l : List Bd) (t : Tm) (w : World) (v va : Value) (hv : BdS w v l) (hva : TmS w va t.args) (hl : wtB l ≤ 1048576) (hw : t.wt ≤ 1048576) :
    Calls Try.prog 56 #[.agg #[v], .agg #[.string t.name, va]] w (TmOkEnd (appR l t) (appOk l t) w) := by
  obtain ⟨a, c, rfl⟩ := hv.is_slice
  obtain ⟨p, q, rfl⟩ := hva.is_slice
  have HBS := Lib.hid hv
  have HV := Lib.hid hva
  have S3 := Lib.hid (((oner_new w (.slice a l.length c) 34 _ rfl).alloc (.cells #[.string t.name, .slice p t.args.length q] 38)).alloc (.cells #[.string ⟨#[]⟩, .slice none 0 0] 38))
  have T3 := Lib.hid ((two_new (w.alloc (.cells #[.slice a l.length c] 34)) (.string t.name) (.slice p t.args.length q) 38 (w.heap.size + 1) (by simp)).alloc (.cells #[.string ⟨#[]⟩, .slice none 0 0] 38))
  have R3 := Lib.hid (two_new ((w.alloc (.cells #[.slice a l.length c] 34)).alloc (.cells #[.string t.name, .slice p t.args.length q] 38)) (.string ⟨#[]⟩) (.slice none 0 0) 38 (w.heap.size + 1 + 1) (by simp))
  have HB := Lib.hid ((((Below.refl w.heap.size w).alloc (Nat.le_refl _) (.cells #[.slice a l.length c] 34)).alloc (by simp) (.cells #[.string t.name, .slice p t.args.length q] 38)).alloc (by simp; omega) (.cells #[.string ⟨#[]⟩, .slice none 0 0] 38))
  clear hv hva
  go_enter Try.func56, Try.ntmps56
  go_wp2_with fail
  refine (implIsValidSub_any l _ _ (HBS.out.kept HB.out) hl).mono ?_
  rintro e w1 ⟨rfl, hb⟩
  have HB1 := Lib.hid (carry_below HB.out (Nat.le_refl _) hb)
  have S4 := Lib.hid (S3.out.kept hb)
  have T4 := Lib.hid (T3.out.kept hb)
  have R4 := Lib.hid (R3.out.kept hb)
  clear hb HB S3 T3 R3
  obtain ⟨s0, s1⟩ := S4.out
  obtain ⟨b0, b1, b2⟩ := T4.out
  obtain ⟨r0, r1, r2⟩ := R4.out
  cases hg : goodS l with
  | false =>
    have HF := Lib.hid (appOk_g (t := t) hg)
    clear hg
    go_wp2
    refine bodyPost_ret (v := .tuple #[.agg #[.string ⟨#[]⟩, .slice none 0 0], .bool false]) (by simp [results, Try.results56, go_sem, r0, r1]) rfl ?_
    exact TmOkEnd.no (appR_no HF.out) HF.out ((HB1.out.setCell (by simp; omega) _).setCell (by simp; omega) _)
  | true =>
    have HG := Lib.hid hg
    clear hg
    have B11 : Hid (Below w1.heap.size w1 (w1.alloc (.cells #[.string t.name, .slice p t.args.length q] 38))) := Lib.hid ((Below.refl _ _).alloc (Nat.le_refl _) _)
    have L1 := Lib.hid (two_new w1 (.string t.name) (.slice p t.args.length q) 38 _ rfl)
    go_wp2_with fail
    refine (areExpr_one t _ _ _ _ ((HV.out.kept HB1.out).kept B11.out) L1.out.1 L1.out.2.1 hw).mono ?_
    rintro e w2 ⟨rfl, hb⟩
    have hb := carry_below B11.out (Nat.le_refl _) hb
    have HB2 := Lib.hid (carry_below HB1.out (Nat.le_refl _) hb)
    have S5 := Lib.hid (S4.out.kept hb)
    have T5 := Lib.hid (T4.out.kept hb)
    have R5 := Lib.hid (R4.out.kept hb)
    clear hb HB1 S4 T4 R4 s0 s1 b0 b1 b2 r0 r1 r2 L1 B11
    obtain ⟨s0, s1⟩ := S5.out
    obtain ⟨b0, b1, b2⟩ := T5.out
    obtain ⟨r0, r1, r2⟩ := R5.out
    cases hf : anyB t with
    | false =>
      have HF := Lib.hid (appOk_a (l := l) hf)
      clear hf
      go_wp2
      refine bodyPost_ret (v := .tuple #[.agg #[.string ⟨#[]⟩, .slice none 0 0], .bool false]) (by simp [results, Try.results56, go_sem, r0, r1]) rfl ?_
      exact TmOkEnd.no (appR_no HF.out) HF.out ((HB2.out.setCell (by simp; omega) _).setCell (by simp; omega) _)
    | true =>
      have HT := Lib.hid hf
      have HXW : Hid ((t.app l).wt ≤ 1048576) := Lib.hid (by have := app_wt_good HG.out hf; omega)
      have CA := Lib.hid (repl_any l hl (good_asc HG.out) t w2 _ _ (HBS.out.kept HB2.out) (HV.out.kept HB2.out) hw)
      unfold tf at CA
      obtain ⟨x, hx⟩ : ∃ x, x = t.app l := ⟨_, rfl⟩
      rw [← hx] at HXW CA
      have HX := Lib.hid hx
      clear hf hx
      go_wp2_with fail
      refine CA.out.mono ?_
      rintro e w3 ⟨v3, rfl, ho, hb⟩
      obtain ⟨p3, q3, rfl⟩ := ho.read.is_slice
      obtain ⟨W3, hW3⟩ : ∃ W3, w3.alloc (.cells #[.string x.name, .slice p3 x.args.length q3] 38) = W3 := ⟨_, rfl⟩
      have B44 : Hid (Below w3.heap.size w3 W3) := Lib.hid (by rw [← hW3]; exact (Below.refl _ _).alloc (Nat.le_refl _) _)
      have B23 : Hid (Below w2.heap.size w2 W3) := Lib.hid (by rw [← hW3]; exact hb.alloc hb.size _)
      have HB3 := Lib.hid (carry_below HB2.out (Nat.le_refl _) B23.out)
      have R6 := Lib.hid (R5.out.kept B23.out)
      have HO := Lib.hid ho
      have X6 : Hid (Two W3 w3.heap.size (.string x.name) (.slice p3 x.args.length q3)) := Lib.hid (by rw [← hW3]; exact two_new _ _ _ _ _ rfl)
      have hz2 : w.heap.size + 3 ≤ w2.heap.size := by have := World.block_lt_of_cell? _ _ r0; simp at this; omega
      have hz3 : w2.heap.size ≤ w3.heap.size := hb.size
      have B66 : Hid (Below W3.heap.size W3 (W3.alloc (.cells #[.string x.name, .slice p3 x.args.length q3] 38))) := Lib.hid ((Below.refl _ _).alloc (Nat.le_refl _) _)
      have L6 := Lib.hid (two_new W3 (.string x.name) (.slice p3 x.args.length q3) 38 _ rfl)
      clear ho hb HB2 S5 T5 R5 CA s0 s1 b0 b1 b2 r0 r1 r2
      obtain ⟨x0, x1, x2⟩ := X6.out
      go_wp2_with fail
      refine (areExpr_one x _ _ _ _ ((HO.out.read.kept B44.out).kept B66.out) L6.out.1 L6.out.2.1 HXW.out).mono ?_
      rintro e w5 ⟨rfl, hb⟩
      have hb := carry_below B66.out (Nat.le_refl _) hb
      have B45 := Lib.hid (carry_below B44.out (Nat.le_refl _) hb)
      have HB5 := Lib.hid (carry_below HB3.out (Nat.le_refl _) hb)
      obtain ⟨r0, r1, r2⟩ := R6.out.kept hb
      clear x0 x1 x2
      obtain ⟨x0, x1, x2⟩ := X6.out.kept hb
      have hz5 : w3.heap.size ≤ w5.heap.size := B45.out.size
      clear hb hW3
      cases hn : anyB x with
      | false =>
        have HF : Hid (appOk l t = false) := Lib.hid (appOk_r (by rw [← HX.out]; exact hn))
        clear hn
        go_wp2
        refine bodyPost_ret (v := .tuple #[.agg #[.string ⟨#[]⟩, .slice none 0 0], .bool false]) (by simp [results, Try.results56, go_sem, r0, r1]) rfl ?_
        exact TmOkEnd.no (appR_no HF.out) HF.out ((HB5.out.setCell (by simp; omega) _).setCell (by simp; omega) _)
      | true =>
        have HF : Hid (appOk l t = true) := Lib.hid (appOk_yes HG.out HT.out (by rw [← HX.out]; exact hn))
        have HR : Hid (appR l t = x) := Lib.hid (by rw [appR_yes HF.out, HX.out])
        clear hn
        go_wp2
        refine bodyPost_ret (v := .tuple #[.agg #[.string x.name, .slice p3 x.args.length q3], .bool true]) (by simp [results, Try.results56, go_sem, r0, r1]) rfl ?_
        rw [HF.out, HR.out]
        refine ⟨_, rfl, ?_, (HB5.out.setCell (by simp; omega) _).setCell (by simp; omega) _⟩
        refine (((HO.out.kept B45.out).setCell (fun h => by have := h.1; simp at this; omega) _).setCell (fun h => by have := h.1; simp at this; omega) _).mono fun y hy => ⟨?_, ?_⟩
        · have := hy.1; omega
        · simp only [size_setCell]; have := hy.2; omega

end Go.Proofs.Ytnkonhdnccolhaa

/- The comparison of terms as plain trees, and the small functions that both comparisons call: contracts. No condition. -/
namespace Go.Proofs.Ytnkonhdnccolhaa
open Go.RowKit
set_option linter.unusedVariables false

/-- The comparison of two names. -/
def txt (a b : ByteArray) : Int := Lib.compareBytes a.toList b.toList

theorem cb_range : ∀ a b : List UInt8, Lib.compareBytes a b = -1 ∨ Lib.compareBytes a b = 0 ∨ Lib.compareBytes a b = 1
  | [], [] => by simp [Lib.compareBytes]
  | [], _ :: _ => by simp [Lib.compareBytes]
  | _ :: _, [] => by simp [Lib.compareBytes]
  | a :: x, b :: y => by
    unfold Lib.compareBytes
    split
    · exact .inl rfl
    · split
      · exact .inr (.inr rfl)
      · exact cb_range x y

theorem cb_zero : ∀ a b : List UInt8, Lib.compareBytes a b = 0 ↔ a = b
  | [], [] => by simp [Lib.compareBytes]
  | [], _ :: _ => by simp [Lib.compareBytes]
  | _ :: _, [] => by simp [Lib.compareBytes]
  | a :: x, b :: y => by
    unfold Lib.compareBytes
    by_cases h1 : a < b
    · rw [if_pos h1]
      refine ⟨fun h => by omega, fun h => ?_⟩
      injection h with h2 h3
      subst h2
      exact absurd h1 (UInt8.lt_irrefl _)
    · rw [if_neg h1]
      by_cases h2 : b < a
      · rw [if_pos h2]
        refine ⟨fun h => by omega, fun h => ?_⟩
        injection h with h3 h4
        subst h3
        exact absurd h2 (UInt8.lt_irrefl _)
      · rw [if_neg h2, cb_zero x y]
        have e : a = b := UInt8.le_antisymm (UInt8.not_lt.1 h2) (UInt8.not_lt.1 h1)
        subst e
        simp

theorem cb_less : ∀ a b : List UInt8, Op.bytesLess a b = decide (Lib.compareBytes a b = -1)
  | [], [] => by simp [Lib.compareBytes, Op.bytesLess]
  | [], _ :: _ => by simp [Lib.compareBytes, Op.bytesLess]
  | _ :: _, [] => by simp [Lib.compareBytes, Op.bytesLess]
  | a :: x, b :: y => by
    unfold Lib.compareBytes Op.bytesLess
    by_cases h1 : a < b
    · simp [h1]
    · by_cases h2 : b < a
      · have hne : (a == b) = false := by
          rw [beq_eq_false_iff_ne]; intro e; subst e; exact absurd h2 (UInt8.lt_irrefl _)
        simp [h1, h2, hne]
      · have e : a = b := UInt8.le_antisymm (UInt8.not_lt.1 h2) (UInt8.not_lt.1 h1)
        subst e
        simp [h1, cb_less x y]

theorem txt_ways (a b : ByteArray) :
    (Op.bytesLess a.toList b.toList = true ∧ (a.toList == b.toList) = false ∧ txt a b = -1 ∧ a ≠ b) ∨
    (Op.bytesLess a.toList b.toList = false ∧ (a.toList == b.toList) = true ∧ txt a b = 0 ∧ a = b) ∨
    (Op.bytesLess a.toList b.toList = false ∧ (a.toList == b.toList) = false ∧ txt a b = 1 ∧ a ≠ b) := by
  unfold txt
  rw [cb_less]
  have hz := cb_zero a.toList b.toList
  rcases cb_range a.toList b.toList with h | h | h
  · have hn : a ≠ b := fun e => by rw [hz.2 (by rw [e])] at h; omega
    exact .inl ⟨by simp [h], str_ne hn, h, hn⟩
  · have he : a = b := toList_inj (hz.1 h)
    exact .inr (.inl ⟨by simp [h], str_eq he, h, he⟩)
  · have hn : a ≠ b := fun e => by rw [hz.2 (by rw [e])] at h; omega
    exact .inr (.inr ⟨by simp [h], str_ne hn, h, hn⟩)

/-- The comparison of two numbers. -/
def num3 (a b : Nat) : Int := if a < b then -1 else if b < a then 1 else 0

mutual
/-- The comparison of two terms: variables first, then names, numbers of arguments, arguments. -/
def ordT : Tm → Tm → Int
  | .node n l, .node m r => if varB n = true ∧ varB m = false then -1 else if varB n = false ∧ varB m = true then 1 else if n ≠ m then txt n m else if l.length < r.length then -1 else if r.length < l.length then 1 else ordL l r
def ordL : List Tm → List Tm → Int
  | [], _ => 0
  | _ :: _, [] => 0
  | x :: l, y :: r => if ordT x y = 0 then ordL l r else ordT x y
end

theorem ordT_eq (a b : Tm) : ordT a b = if varB a.name = true ∧ varB b.name = false then -1 else if varB a.name = false ∧ varB b.name = true then 1 else if a.name ≠ b.name then txt a.name b.name else if a.args.length < b.args.length then -1 else if b.args.length < a.args.length then 1 else ordL a.args b.args := by
  cases a; cases b; rw [ordT]; rfl

/-- The first k elements compare as equal. -/
def Level (l r : List Tm) (k : Nat) : Prop := ∀ j x y, j < k → l[j]? = some x → r[j]? = some y → ordT x y = 0

theorem Level.next {l r : List Tm} {k : Nat} {x y : Tm} (h : Level l r k) (hx : l[k]? = some x) (hy : r[k]? = some y) (e : ordT x y = 0) : Level l r (k + 1) := fun j x' y' hj hx' hy' => by
  by_cases ej : j = k
  · subst ej; rw [hx] at hx'; rw [hy] at hy'; injection hx' with h1; injection hy' with h2; subst h1; subst h2; exact e
  · exact h j x' y' (by omega) hx' hy'

theorem ordL_first : ∀ {l r : List Tm} {k : Nat} {x y : Tm}, Level l r k → l[k]? = some x → r[k]? = some y → ordT x y ≠ 0 → ordL l r = ordT x y
  | [], _, _, _, _, _, hx, _, _ => by cases hx
  | _ :: _, [], _, _, _, _, _, hy, _ => by cases hy
  | a :: l, b :: r, 0, x, y, _, hx, hy, hn => by
    simp at hx hy
    subst hx; subst hy
    rw [ordL, if_neg hn]
  | a :: l, b :: r, k + 1, x, y, h, hx, hy, hn => by
    have h0 := h 0 a b (by omega) rfl rfl
    rw [ordL, if_pos h0]
    exact ordL_first (k := k) (fun j x' y' hj h1 h2 => h (j + 1) x' y' (by omega) h1 h2) hx hy hn

theorem ordL_all : ∀ {l r : List Tm}, Level l r l.length → ordL l r = 0
  | [], _, _ => by rw [ordL]
  | _ :: _, [], _ => by rw [ordL]
  | a :: l, b :: r, h => by
    have h0 := h 0 a b (by simp) rfl rfl
    rw [ordL, if_pos h0]
    exact ordL_all (fun j x' y' hj h1 h2 => h (j + 1) x' y' (by simp; omega) h1 h2)

theorem txt_range (a b : ByteArray) : -1 ≤ txt a b ∧ txt a b ≤ 1 := by
  rcases txt_ways a b with h | h | h <;> omega

mutual
theorem ordT_range : ∀ a b : Tm, -1 ≤ ordT a b ∧ ordT a b ≤ 1
  | .node n l, .node m r => by
    have h1 := txt_range n m
    have h2 := ordL_range l r
    rw [ordT]
    repeat' split
    all_goals omega
theorem ordL_range : ∀ a b : List Tm, -1 ≤ ordL a b ∧ ordL a b ≤ 1
  | [], _ => by rw [ordL]; omega
  | _ :: _, [] => by rw [ordL]; omega
  | x :: l, y :: r => by
    have h1 := ordT_range x y
    have h2 := ordL_range l r
    rw [ordL]
    split <;> omega
end

theorem cmpText_any (a b : ByteArray) (w : World) :
    Calls Try.prog 177 #[.string a, .string b] w fun e w' => e = .returned (.int .i64 (txt a b)) ∧ w = w' := by
  refine (Try.strings_Compare a b w).mono ?_
  rintro e w' ⟨rfl, rfl⟩
  exact ⟨by rw [txt, ByteArray.toList_eq, ByteArray.toList_eq], rfl⟩

theorem cmpInt_any (a b : Nat) (w : World) :
    Calls Try.prog 178 #[.int .i64 a, .int .i64 b] w fun e w' => e = .returned (.int .i64 (num3 a b)) ∧ w = w' := by
  rcases Nat.lt_trichotomy a b with h | h | h
  · have H : Hid (num3 a b = -1) := Lib.hid (by unfold num3; rw [if_pos h])
    go_enter Try.func178, Try.ntmps178
    go_wp2
    go_ret
    exact ⟨ret_int H.out.symm, rfl⟩
  · have H : Hid (num3 a b = 0) := Lib.hid (by unfold num3; rw [if_neg (by omega), if_neg (by omega)])
    have h1 : ¬ (a : Int) < b := by omega
    have h2 : ¬ (b : Int) < a := by omega
    clear h
    go_enter Try.func178, Try.ntmps178
    go_wp2
    go_ret
    exact ⟨ret_int H.out.symm, rfl⟩
  · have H : Hid (num3 a b = 1) := Lib.hid (by unfold num3; rw [if_neg (by omega), if_pos h])
    go_enter Try.func178, Try.ntmps178
    go_wp2
    go_ret
    exact ⟨ret_int H.out.symm, rfl⟩

/-- The first of two numbers that is not 0. -/
def or2 (x y : Int) : Int := if x ≠ 0 then x else y

theorem or_any (x y : Int) (g : Nat) (w : World) (h0 : w.cell? ⟨g, 0, none⟩ = some (.int .i64 x)) (h1 : w.cell? ⟨g, 1, none⟩ = some (.int .i64 y)) :
    Calls Try.prog 176 #[.slice (some ⟨g, 0, none⟩) 2 2] w fun e w' => e = .returned (.int .i64 (or2 x y)) ∧ w = w' := by
  by_cases hx : x = 0
  · have hxb : (x != 0) = false := by simp [hx]
    by_cases hy : y = 0
    · have hyb : (y != 0) = false := by simp [hy]
      have H : Hid (or2 x y = 0) := Lib.hid (by simp [or2, hx, hy])
      clear hx hy
      go_enter Try.func176, Try.ntmps176
      go_wp2
      refine wp_loop_rounds 3 ?_
      rw [rounds_succ]
      go_wp2
      rw [rounds_succ]
      go_wp2
      rw [rounds_succ]
      go_wp2
      go_ret
      exact ⟨ret_int H.out.symm, rfl⟩
    · have hyb : (y != 0) = true := by simp [hy]
      have H : Hid (or2 x y = y) := Lib.hid (by simp [or2, hx])
      clear hx hy
      go_enter Try.func176, Try.ntmps176
      go_wp2
      refine wp_loop_rounds 2 ?_
      rw [rounds_succ]
      go_wp2
      rw [rounds_succ]
      go_wp2
      go_ret
      exact ⟨ret_int H.out.symm, rfl⟩
  · have hxb : (x != 0) = true := by simp [hx]
    have H : Hid (or2 x y = x) := Lib.hid (by simp [or2, hx])
    clear hx
    go_enter Try.func176, Try.ntmps176
    go_wp2
    refine wp_loop_rounds 1 ?_
    rw [rounds_succ]
    go_wp2
    go_ret
    exact ⟨ret_int H.out.symm, rfl⟩

end Go.Proofs.Ytnkonhdnccolhaa

/- Equality of terms, the model's and the program's: contracts, for terms of at most 1048576 names' bytes and arguments. -/
namespace Go.Proofs.Ytnkonhdnccolhaa
open Go.RowKit
set_option linter.unusedVariables false

theorem eqT_lenNe {a b : Tm} (h : a.args.length ≠ b.args.length) : eqT a b = false := by
  rw [eqT_node, eqTs_len h]; simp
theorem eqT_argsNo {a b : Tm} {k : Nat} {x y : Tm} (hx : a.args[k]? = some x) (hy : b.args[k]? = some y) (e : eqT x y = false) : eqT a b = false := by
  rw [eqT_node, eqTs_no hx hy e]; simp
theorem eqT_all {a b : Tm} (hn : a.name = b.name) (h : Agree a.args b.args a.args.length) (hl : a.args.length = b.args.length) : eqT a b = true := by
  rw [eqT_args hn]; exact h.all hl

def SameT (a : Tm) : Prop := ∀ (b : Tm) (w : World) (va vb : Value), TmS w va a.args → TmS w vb b.args → a.wt ≤ 1048576 → b.wt ≤ 1048576 →
  Calls Try.prog 75 #[.agg #[.string a.name, va], .agg #[.string b.name, vb]] w (Ans (.bool (eqT a b)) w)

set_option maxHeartbeats 2000000 in
theorem same_of (a : Tm) (h : ∀ s ∈ a.args, SameT s) : SameT a := by
  intro b w va vb hva hvb hwa hwb
  have H := Lib.hid h
  have HWA := Lib.hid (fun (s : Tm) (hs : s ∈ a.args) => Nat.le_trans (Tm.wt_arg hs) hwa)
  have HWB := Lib.hid (fun (s : Tm) (hs : s ∈ b.args) => Nat.le_trans (Tm.wt_arg hs) hwb)
  have hla := Tm.wt_len a
  have hlb := Tm.wt_len b
  obtain ⟨pa, ca, rfl⟩ := hva.is_slice
  obtain ⟨pb, cb, rfl⟩ := hvb.is_slice
  have HVA := Lib.hid hva
  have HVB := Lib.hid hvb
  have H2A := Lib.hid ((two_new w (.string a.name) (.slice pa a.args.length ca) 38 _ rfl).alloc (.cells #[.string b.name, .slice pb b.args.length cb] 38))
  have H2B := Lib.hid (two_new (w.alloc (.cells #[.string a.name, .slice pa a.args.length ca] 38)) (.string b.name) (.slice pb b.args.length cb) 38 (w.heap.size + 1) (by simp))
  have HB := Lib.hid (((Below.refl w.heap.size w).alloc (Nat.le_refl _) (.cells #[.string a.name, .slice pa a.args.length ca] 38)).alloc (by simp) (.cells #[.string b.name, .slice pb b.args.length cb] 38))
  clear h hva hvb
  by_cases hn : a.name = b.name
  · have hq := str_eq hn
    have hq2 : (a.name.toList != b.name.toList) = false := by rw [bne, hq]; rfl
    by_cases hl : a.args.length = b.args.length
    · have HN := Lib.hid hn
      have HL := Lib.hid hl
      have hl2 : ((a.args.length : Int) != (b.args.length : Int)) = false := by rw [hl]; simp
      clear hn hl
      obtain ⟨a0, a1, a2⟩ := H2A.out
      obtain ⟨b0, b1, b2⟩ := H2B.out
      go_enter Try.func75, Try.ntmps75
      go_wp2
      go_loopw [5] (fun i wr => ∃ k : Nat, k ≤ a.args.length ∧ i = .int .i64 k ∧ Agree a.args b.args k ∧ Two wr w.heap.size (.string a.name) (.slice pa a.args.length ca) ∧ Two wr (w.heap.size + 1) (.string b.name) (.slice pb b.args.length cb) ∧ Below w.heap.size w wr) (fun i _ => a.args.length - (intOf i).toNat)
      case atStart => exact ⟨0, Nat.zero_le _, rfl, fun j hj => absurd hj (Nat.not_lt_zero _), H2A.out, H2B.out, HB.out⟩
      case round =>
        obtain ⟨k, hk, rfl, hag, h2a, h2b, hbel⟩ := hrel
        have HG := Lib.hid hag
        have HBE := Lib.hid hbel
        have HA2 := Lib.hid h2a
        have HB2 := Lib.hid h2b
        clear hag hbel a0 a1 a2 b0 b1 b2 h2a h2b
        obtain ⟨a0, a1, a2⟩ := HA2.out
        obtain ⟨b0, b1, b2⟩ := HB2.out
        by_cases hlt : k < a.args.length
        · have hltb : k < b.args.length := by have := HL.out; omega
          obtain ⟨x, hx⟩ : ∃ s, a.args[k]? = some s := ⟨_, List.getElem?_eq_getElem hlt⟩
          obtain ⟨y, hy⟩ : ∃ s, b.args[k]? = some s := ⟨_, List.getElem?_eq_getElem hltb⟩
          obtain ⟨g1, o1, rfl, v1, x0, x1, x2⟩ := HVA.out.get hx
          obtain ⟨g2, o2, rfl, v2, y0, y1, y2⟩ := HVB.out.get hy
          have x0' := carry_cell x0 HBE.out
          have x1' := carry_cell x1 HBE.out
          have y0' := carry_cell y0 HBE.out
          have y1' := carry_cell y1 HBE.out
          have X2 := Lib.hid (x2.kept HBE.out)
          have Y2 := Lib.hid (y2.kept HBE.out)
          have HXX := Lib.hid hx
          have HYY := Lib.hid hy
          clear hx hy x0 x1 y0 y1 x2 y2
          have C0 : Hid (∀ W : World, Below wr.heap.size wr W → Calls Try.prog 75 #[.agg #[.string x.name, v1], .agg #[.string y.name, v2]] W (Ans (.bool (eqT x y)) W)) := Lib.hid (fun W hW => H.out x (mem_of_at HXX.out) y W _ _ (X2.out.kept hW) (Y2.out.kept hW) (HWA.out x (mem_of_at HXX.out)) (HWB.out y (mem_of_at HYY.out)))
          have hB0 : Below wr.heap.size wr wr.drew := (Below.refl _ _).drew
          go_wp2_with fail
          go_region_held3 (fun w' => w'.cell? ⟨w.heap.size, 1, none⟩ = some (.slice (some ⟨g1, o1, none⟩) a.args.length ca) ∧ w'.cell? ⟨w.heap.size + 1, 1, none⟩ = some (.slice (some ⟨g2, o2, none⟩) b.args.length cb) ∧ w'.cell? ⟨g1, o1 + k * 2, none⟩ = some (.string x.name) ∧ w'.cell? ⟨g1, o1 + k * 2 + 1, none⟩ = some v1 ∧ w'.cell? ⟨g2, o2 + k * 2, none⟩ = some (.string y.name) ∧ w'.cell? ⟨g2, o2 + k * 2 + 1, none⟩ = some v2 ∧ Below wr.heap.size wr w') (first | exact ⟨by assumption, by assumption, by assumption, by assumption, by assumption, by assumption, by assumption⟩ | go_keep) (first | (go_at_call 75; refine (C0.out _ (by assumption)).mono ?_; rintro e w' ⟨rfl, hb⟩; have hc1' := carry_cell' hb a1; have hc2' := carry_cell' hb b1; have hc3' := carry_cell' hb x0'; have hc4' := carry_cell' hb x1'; have hc5' := carry_cell' hb y0'; have hc6' := carry_cell' hb y1'; have hB' := carry_below (by assumption) (Nat.le_refl _) hb))
          have hB2 : Below wr.heap.size wr w' := by assumption
          have HBX := Lib.hid (carry_below HBE.out (Nat.le_refl _) hB2)
          have HA3 := Lib.hid (HA2.out.kept hB2)
          have HB3 := Lib.hid (HB2.out.kept hB2)
          clear hB2
          cases hE : eqT x y
          · have HF := Lib.hid (eqT_argsNo HXX.out HYY.out hE)
            clear hE
            go_wp2
            go_ret
            exact ⟨ret_bool HF.out.symm, HBX.out⟩
          · have HF := Lib.hid (HG.out.next HXX.out HYY.out hE)
            clear hE
            go_wp2
            go_roundw
            case rel => exact ⟨k + 1, by omega, by go_num, HF.out, HA3.out, HB3.out, HBX.out⟩
            case measure => simp [intOf]; omega
        · have hke : k = a.args.length := by omega
          subst hke
          have HF := Lib.hid (eqT_all HN.out HG.out HL.out)
          go_wp2
          go_ret
          exact ⟨ret_bool HF.out.symm, HBE.out⟩
    · have HF := Lib.hid (eqT_lenNe hl)
      have hl2 : ((a.args.length : Int) != (b.args.length : Int)) = true := by simp; omega
      have hl3 : ((a.args.length : Int) == (b.args.length : Int)) = false := by simp; omega
      clear hn hl
      obtain ⟨a0, a1, a2⟩ := H2A.out
      obtain ⟨b0, b1, b2⟩ := H2B.out
      go_enter Try.func75, Try.ntmps75
      go_wp2
      go_ret
      exact ⟨ret_bool HF.out.symm, HB.out⟩
  · have HF := Lib.hid (eqT_ne hn)
    have hq := str_ne hn
    have hq2 : (a.name.toList != b.name.toList) = true := by rw [bne, hq]; rfl
    clear hn
    obtain ⟨a0, a1, a2⟩ := H2A.out
    obtain ⟨b0, b1, b2⟩ := H2B.out
    go_enter Try.func75, Try.ntmps75
    go_wp2
    go_ret
    exact ⟨ret_bool HF.out.symm, HB.out⟩

theorem l2Same_any (a : Tm) : SameT a := Tm.ind (P := SameT) same_of a

end Go.Proofs.Ytnkonhdnccolhaa

/- Equality of terms, the program's: a contract, for terms of at most 1048576 names' bytes and arguments. -/
namespace Go.Proofs.Ytnkonhdnccolhaa
open Go.RowKit
set_option linter.unusedVariables false

def TreeT (a : Tm) : Prop := ∀ (b : Tm) (w : World) (va vb : Value), TmS w va a.args → TmS w vb b.args → a.wt ≤ 1048576 → b.wt ≤ 1048576 →
  Calls Try.prog 79 #[.agg #[.string a.name, va], .agg #[.string b.name, vb]] w (Ans (.bool (eqT a b)) w)

def TreeF (l : List Tm) : Prop := ∀ (r : List Tm) (w : World) (va vb : Value), TmS w va l → TmS w vb r → l.length ≤ 1048576 → r.length ≤ 1048576 → (∀ s ∈ l, s.wt ≤ 1048576) → (∀ s ∈ r, s.wt ≤ 1048576) →
  Calls Try.prog 138 #[va, vb, .func (.func 79) #[] #[]] w (Ans (.bool (eqTs l r)) w)

set_option maxHeartbeats 2000000 in
theorem treeF_of (l : List Tm) (h : ∀ s ∈ l, TreeT s) : TreeF l := by
  intro r w va vb hva hvb hll hlr hwa hwb
  have H := Lib.hid h
  have HWA := Lib.hid hwa
  have HWB := Lib.hid hwb
  obtain ⟨pa, ca, rfl⟩ := hva.is_slice
  obtain ⟨pb, cb, rfl⟩ := hvb.is_slice
  have HVA := Lib.hid hva
  have HVB := Lib.hid hvb
  clear h hva hvb hwa hwb
  by_cases hl : l.length = r.length
  · have HLE := Lib.hid hl
    have hl2 : ((l.length : Int) != (r.length : Int)) = false := by rw [hl]; simp
    clear hl
    go_enter Try.func138, Try.ntmps138
    go_wp2
    go_loopw [17] (fun i wr => ∃ k : Nat, k ≤ l.length ∧ i = .int .i64 k ∧ Agree l r k ∧ Below w.heap.size w wr) (fun i _ => l.length - (intOf i).toNat)
    case atStart => exact ⟨0, Nat.zero_le _, rfl, fun j hj => absurd hj (Nat.not_lt_zero _), Below.refl _ _⟩
    case round =>
      obtain ⟨k, hk, rfl, hlev, hbel⟩ := hrel
      have HLV := Lib.hid hlev
      have HBE := Lib.hid hbel
      clear hlev hbel
      by_cases hlt : k < l.length
      · have hltb : k < r.length := by have := HLE.out; omega
        obtain ⟨x, hx⟩ : ∃ s, l[k]? = some s := ⟨_, List.getElem?_eq_getElem hlt⟩
        obtain ⟨y, hy⟩ : ∃ s, r[k]? = some s := ⟨_, List.getElem?_eq_getElem hltb⟩
        obtain ⟨b1, o1, rfl, v1, x0, x1, x2⟩ := HVA.out.get hx
        obtain ⟨b2, o2, rfl, v2, y0, y1, y2⟩ := HVB.out.get hy
        have x0' := carry_cell x0 HBE.out
        have x1' := carry_cell x1 HBE.out
        have y0' := carry_cell y0 HBE.out
        have y1' := carry_cell y1 HBE.out
        have X2 := Lib.hid (x2.kept HBE.out)
        have Y2 := Lib.hid (y2.kept HBE.out)
        obtain ⟨p1, c1, rfl⟩ := x2.is_slice
        obtain ⟨p2, c2, rfl⟩ := y2.is_slice
        have y0'' : (wr.alloc (.cells #[.string x.name, .slice p1 x.args.length c1] 38)).cell? ⟨b2, o2 + k * 2, none⟩ = some (.string y.name) := carry_cell' ((Below.refl _ _).alloc (Nat.le_refl _) _) y0'
        have y1'' : (wr.alloc (.cells #[.string x.name, .slice p1 x.args.length c1] 38)).cell? ⟨b2, o2 + k * 2 + 1, none⟩ = some (.slice p2 y.args.length c2) := carry_cell' ((Below.refl _ _).alloc (Nat.le_refl _) _) y1'
        have HXX := Lib.hid hx
        have HYY := Lib.hid hy
        clear hx hy x0 x1 y0 y1 x2 y2
        obtain ⟨q, hq⟩ : ∃ q, q = eqT x y := ⟨_, rfl⟩
        have C0 : Hid (∀ W : World, Below wr.heap.size wr W → Calls Try.prog 79 #[.agg #[.string x.name, .slice p1 x.args.length c1], .agg #[.string y.name, .slice p2 y.args.length c2]] W (Ans (.bool q) W)) := Lib.hid (fun W hW => by
          have h := H.out x (mem_of_at HXX.out) y W _ _ (X2.out.kept hW) (Y2.out.kept hW) (HWA.out x (mem_of_at HXX.out)) (HWB.out y (mem_of_at HYY.out))
          rwa [← hq] at h)
        have HQ := Lib.hid hq
        have hdk : decide (r.length ≤ k) = false := by simp; omega
        clear hq
        go_wp2_with fail
        refine (C0.out _ (((Below.refl _ _).alloc (Nat.le_refl _) _).alloc (by simp) _)).mono ?_
        rintro e w6 ⟨rfl, hb⟩
        have HB6 := Lib.hid (carry_below ((HBE.out.alloc HBE.out.size _).alloc (by have := HBE.out.size; simp; omega) _) (Nat.le_refl _) hb)
        clear hb
        cases q with
        | true =>
          have HN := Lib.hid (HLV.out.next HXX.out HYY.out HQ.out.symm)
          go_wp2
          go_roundw
          case rel => exact ⟨k + 1, by omega, by go_num, HN.out, HB6.out⟩
          case measure => simp [intOf]; omega
        | false =>
          have HN := Lib.hid (eqTs_no HXX.out HYY.out HQ.out.symm)
          go_wp2
          go_ret
          exact ⟨ret_bool HN.out.symm, HB6.out⟩
      · have hke : k = l.length := by omega
        subst hke
        have HN := Lib.hid (HLV.out.all HLE.out)
        go_wp2
        go_ret
        exact ⟨ret_bool HN.out.symm, HBE.out⟩
  · have HF := Lib.hid (eqTs_len hl)
    have hl2 : ((l.length : Int) != (r.length : Int)) = true := by simp; omega
    have hl3 : ((l.length : Int) == (r.length : Int)) = false := by simp; omega
    clear hl
    go_enter Try.func138, Try.ntmps138
    go_wp2
    go_ret
    exact ⟨ret_bool HF.out.symm, Below.refl _ _⟩

set_option maxHeartbeats 2000000 in
theorem tree_of (a : Tm) (h : ∀ s ∈ a.args, TreeT s) : TreeT a := by
  intro b w va vb hva hvb hwa hwb
  have H := Lib.hid (treeF_of a.args h)
  have HWA := Lib.hid (fun (s : Tm) (hs : s ∈ a.args) => Nat.le_trans (Tm.wt_arg hs) hwa)
  have HWB := Lib.hid (fun (s : Tm) (hs : s ∈ b.args) => Nat.le_trans (Tm.wt_arg hs) hwb)
  have hla := Tm.wt_len a
  have hlb := Tm.wt_len b
  obtain ⟨pa, ca, rfl⟩ := hva.is_slice
  obtain ⟨pb, cb, rfl⟩ := hvb.is_slice
  have HVA := Lib.hid hva
  have HVB := Lib.hid hvb
  have H2A := Lib.hid ((two_new w (.string a.name) (.slice pa a.args.length ca) 38 _ rfl).alloc (.cells #[.string b.name, .slice pb b.args.length cb] 38))
  have H2B := Lib.hid (two_new (w.alloc (.cells #[.string a.name, .slice pa a.args.length ca] 38)) (.string b.name) (.slice pb b.args.length cb) 38 (w.heap.size + 1) (by simp))
  have HB := Lib.hid (((Below.refl w.heap.size w).alloc (Nat.le_refl _) (.cells #[.string a.name, .slice pa a.args.length ca] 38)).alloc (by simp) (.cells #[.string b.name, .slice pb b.args.length cb] 38))
  clear h hva hvb
  obtain ⟨a0, a1, a2⟩ := H2A.out
  obtain ⟨b0, b1, b2⟩ := H2B.out
  by_cases hn : a.name = b.name
  · have hq := str_eq hn
    have HN := Lib.hid (eqT_args hn)
    obtain ⟨q, hqq⟩ : ∃ q, q = eqTs a.args b.args := ⟨_, rfl⟩
    have C0 : Hid (∀ W : World, Below w.heap.size w W → Calls Try.prog 138 #[.slice pa a.args.length ca, .slice pb b.args.length cb, .func (.func 79) #[] #[]] W (Ans (.bool q) W)) := Lib.hid (fun W hW => by
      have h := H.out b.args W _ _ (HVA.out.kept hW) (HVB.out.kept hW) (by omega) (by omega) HWA.out HWB.out
      rwa [← hqq] at h)
    have HQ := Lib.hid (HN.out.trans hqq.symm)
    clear hn hqq
    go_enter Try.func79, Try.ntmps79
    go_wp2_with fail
    refine (C0.out _ HB.out).mono ?_
    rintro e w6 ⟨rfl, hb⟩
    have HB6 := Lib.hid (carry_below HB.out (Nat.le_refl _) hb)
    clear hb
    go_wp2
    go_ret
    exact ⟨ret_bool HQ.out.symm, HB6.out⟩
  · have HF := Lib.hid (eqT_ne hn)
    have hq := str_ne hn
    clear hn
    go_enter Try.func79, Try.ntmps79
    go_wp2
    go_ret
    exact ⟨ret_bool HF.out.symm, HB.out⟩

theorem equalTrees_any (a : Tm) : TreeT a := Tm.ind (P := TreeT) tree_of a

end Go.Proofs.Ytnkonhdnccolhaa

/- IsUnifier, the model's and the program's: contracts, for bindings and terms of at most 1048576 names' bytes, bindings and arguments. -/
namespace Go.Proofs.Ytnkonhdnccolhaa
open Go.RowKit
set_option linter.unusedVariables false

def isuOk (l : List Bd) (a b : Tm) : Bool := appOk l a && appOk l b
def isuR (l : List Bd) (a b : Tm) : Bool := isuOk l a b && eqT (appR l a) (appR l b)
theorem isu_a {l : List Bd} {a b : Tm} (h : appOk l a = false) : isuOk l a b = false ∧ isuR l a b = false := by unfold isuR isuOk; rw [h]; exact ⟨rfl, rfl⟩
theorem isu_b {l : List Bd} {a b : Tm} (h : appOk l b = false) : isuOk l a b = false ∧ isuR l a b = false := by unfold isuR isuOk; rw [h]; simp
theorem isu_y {l : List Bd} {a b : Tm} (h : appOk l a = true) (h' : appOk l b = true) : isuOk l a b = true ∧ isuR l a b = eqT (appR l a) (appR l b) := by unfold isuR isuOk; rw [h, h']; simp
theorem ret_bbK {a b c d : Bool} (h : a = b) (k : c = d) : Ending.returned (.tuple #[.bool a, .bool c]) = .returned (.tuple #[.bool b, .bool d]) := by rw [h, k]

/-- A block whose first four cells hold these values, not frozen. -/
def Fou (w : World) (b : Nat) (x y z u : Value) : Prop := w.cell? ⟨b, 0, none⟩ = some x ∧ w.cell? ⟨b, 1, none⟩ = some y ∧ w.cell? ⟨b, 2, none⟩ = some z ∧ w.cell? ⟨b, 3, none⟩ = some u ∧ ∀ j, w.frozen? ⟨b, j, none⟩ = false
theorem fou_new (w : World) (x y z u : Value) (T : TypeId) (b : Nat) (hb : b = w.heap.size) : Fou (w.alloc (.cells #[x, y, z, u] T)) b x y z u :=
  ⟨by rw [World.cell?_alloc_at _ _ _ _ hb]; rfl, by rw [World.cell?_alloc_at _ _ _ _ hb]; rfl, by rw [World.cell?_alloc_at _ _ _ _ hb]; rfl, by rw [World.cell?_alloc_at _ _ _ _ hb]; rfl, fun j => World.frozen?_alloc_at _ _ _ _ hb⟩
theorem Fou.kept {w w' : World} {b : Nat} {x y z u : Value} (h : Fou w b x y z u) (hb : Below w.heap.size w w') : Fou w' b x y z u :=
  ⟨carry_cell h.1 hb, carry_cell h.2.1 hb, carry_cell h.2.2.1 hb, carry_cell h.2.2.2.1 hb, fun j => (hb.frozen (p := ⟨b, j, none⟩) (World.block_lt_of_cell? w ⟨b, 0, none⟩ h.1)).trans (h.2.2.2.2 j)⟩
theorem Fou.alloc {w : World} {b : Nat} {x y z u : Value} (h : Fou w b x y z u) (o : Obj) : Fou (w.alloc o) b x y z u := h.kept ((Below.refl _ _).alloc (Nat.le_refl _) o)

set_option maxRecDepth 100000 in
set_option maxHeartbeats 4000000 in
theorem specIsU_any (l : List Bd) (a b : Tm) (w : World) (v va vb : Value) (hv : BdS w v l) (hva : TmS w va a.args) (hvb : TmS w vb b.args) (hl : wtB l ≤ 1048576) (hwa : a.wt ≤ 1048576) (hwb : b.wt ≤ 1048576) :
    Calls Try.prog 18 #[.agg #[v], .agg #[.string a.name, va], .agg #[.string b.name, vb]] w (Ans (.tuple #[.bool (isuR l a b), .bool (isuOk l a b)]) w) := by
  obtain ⟨sa, sc, rfl⟩ := hv.is_slice
  obtain ⟨pa, ca, rfl⟩ := hva.is_slice
  obtain ⟨pb, cb, rfl⟩ := hvb.is_slice
  have HVS := Lib.hid hv
  have HVA := Lib.hid hva
  have HVB := Lib.hid hvb
  obtain ⟨w0, hw0⟩ : ∃ w0, ((w.alloc (.cells #[.slice sa l.length sc] 34)).alloc (.cells #[.string a.name, .slice pa a.args.length ca] 38)).alloc (.cells #[.string b.name, .slice pb b.args.length cb] 38) = w0 := ⟨_, rfl⟩
  have HB0 : Hid (Below w.heap.size w w0) := Lib.hid (by rw [← hw0]; exact (((Below.refl w.heap.size w).alloc (Nat.le_refl _) _).alloc (by simp) _).alloc (by simp; omega) _)
  have S0 : Hid (Oner w0 w.heap.size (.slice sa l.length sc)) := Lib.hid (by rw [← hw0]; exact ((oner_new w (.slice sa l.length sc) 34 _ rfl).alloc _).alloc _)
  have A0 : Hid (Two w0 (w.heap.size + 1) (.string a.name) (.slice pa a.args.length ca)) := Lib.hid (by rw [← hw0]; exact (two_new _ _ _ 38 (w.heap.size + 1) (by simp)).alloc _)
  have T0 : Hid (Two w0 (w.heap.size + 1 + 1) (.string b.name) (.slice pb b.args.length cb)) := Lib.hid (by rw [← hw0]; exact two_new _ _ _ 38 (w.heap.size + 1 + 1) (by simp))
  obtain ⟨s0, s1⟩ := S0.out
  obtain ⟨a0, a1, a2⟩ := A0.out
  clear hv hva hvb
  go_enter Try.func18, Try.ntmps18
  go_wp2_with fail
  refine (specApply_any l a w0 _ _ (HVS.out.kept HB0.out) (HVA.out.kept HB0.out) hl hwa).mono ?_
  rintro e w1 ⟨v1, rfl, ho, hb⟩
  obtain ⟨p1, c1, rfl⟩ := ho.read.is_slice
  have hx1 := appR_wt l a
  obtain ⟨x, hx⟩ : ∃ x, x = appR l a := ⟨_, rfl⟩
  obtain ⟨xo, hxo⟩ : ∃ xo, xo = appOk l a := ⟨_, rfl⟩
  rw [← hx] at ho hx1 ⊢
  rw [← hxo]
  obtain ⟨w2, hw2⟩ : ∃ w2, w1.alloc (.cells #[.string x.name, .slice p1 x.args.length c1] 38) = w2 := ⟨_, rfl⟩
  have B2 : Hid (Below w1.heap.size w1 w2) := Lib.hid (by rw [← hw2]; exact (Below.refl _ _).alloc (Nat.le_refl _) _)
  have X2 : Hid (Two w2 w1.heap.size (.string x.name) (.slice p1 x.args.length c1)) := Lib.hid (by rw [← hw2]; exact two_new _ _ _ 38 _ rfl)
  have BB := Lib.hid (carry_below hb (Nat.le_refl _) B2.out)
  have HX2 := Lib.hid (ho.read.kept B2.out)
  have HB2 := Lib.hid (carry_below HB0.out (Nat.le_refl _) BB.out)
  have S2 := Lib.hid (S0.out.kept BB.out)
  have T2 := Lib.hid (T0.out.kept BB.out)
  have HX := Lib.hid hx
  have HXO := Lib.hid hxo
  clear hb ho hw0 s0 s1 a0 a1 a2 S0 A0 T0 hx hxo
  obtain ⟨s0, s1⟩ := S2.out
  obtain ⟨t0, t1, t2⟩ := T2.out
  go_wp2_with fail
  refine (specApply_any l b w2 _ _ (HVS.out.kept HB2.out) (HVB.out.kept HB2.out) hl hwb).mono ?_
  rintro e w3 ⟨v3, rfl, ho, hb⟩
  obtain ⟨p3, c3, rfl⟩ := ho.read.is_slice
  have hy1 := appR_wt l b
  obtain ⟨y, hy⟩ : ∃ y, y = appR l b := ⟨_, rfl⟩
  obtain ⟨yo, hyo⟩ : ∃ yo, yo = appOk l b := ⟨_, rfl⟩
  rw [← hy] at ho hy1 ⊢
  rw [← hyo]
  obtain ⟨w4, hw4⟩ : ∃ w4, w3.alloc (.cells #[.string y.name, .slice p3 y.args.length c3] 38) = w4 := ⟨_, rfl⟩
  have B4 : Hid (Below w3.heap.size w3 w4) := Lib.hid (by rw [← hw4]; exact (Below.refl _ _).alloc (Nat.le_refl _) _)
  have Y4 : Hid (Two w4 w3.heap.size (.string y.name) (.slice p3 y.args.length c3)) := Lib.hid (by rw [← hw4]; exact two_new _ _ _ 38 _ rfl)
  have BB4 := Lib.hid (carry_below hb (Nat.le_refl _) B4.out)
  have HY4 := Lib.hid (ho.read.kept B4.out)
  have HX4 := Lib.hid (HX2.out.kept BB4.out)
  have HB4 := Lib.hid (carry_below HB2.out (Nat.le_refl _) BB4.out)
  have X4 := Lib.hid (X2.out.kept BB4.out)
  have HY := Lib.hid hy
  have HYO := Lib.hid hyo
  clear hb ho hw2 s0 s1 t0 t1 t2 S2 T2 hy hyo
  obtain ⟨x0, x1, x2⟩ := X4.out
  obtain ⟨y0, y1, y2⟩ := Y4.out
  cases xo with
  | false =>
    have HF := Lib.hid (isu_a (b := b) HXO.out.symm)
    go_wp2
    go_ret2
    exact ⟨ret_bbK HF.out.2.symm HF.out.1.symm, HB4.out⟩
  | true =>
    cases yo with
    | false =>
      have HF := Lib.hid (isu_b (a := a) HYO.out.symm)
      go_wp2
      go_ret2
      exact ⟨ret_bbK HF.out.2.symm HF.out.1.symm, HB4.out⟩
    | true =>
      have HF := isu_y HXO.out.symm HYO.out.symm
      rw [← HX.out, ← HY.out] at HF
      have HF := Lib.hid HF
      go_wp2_with fail
      refine (l2Same_any x y w4 _ _ HX4.out HY4.out hx1 hy1).mono ?_
      rintro e w5 ⟨rfl, hb⟩
      have HB5 := Lib.hid (carry_below HB4.out (Nat.le_refl _) hb)
      clear hb hw4
      go_wp2
      go_ret2
      exact ⟨ret_bbK HF.out.2.symm HF.out.1.symm, HB5.out⟩

def EqnEnd (l : List Bd) (a b : Tm) (w : World) (e : Ending) (w' : World) : Prop :=
  ∃ (x y : Tm) (vx vy : Value), e = .returned (.tuple #[.agg #[.string x.name, vx, .string y.name, vy], .bool (isuOk l a b)]) ∧ TmS w' vx x.args ∧ TmS w' vy y.args ∧ (isuOk l a b = true → x = appR l a ∧ y = appR l b) ∧ Below w.heap.size w w'

set_option maxRecDepth 100000 in
set_option maxHeartbeats 4000000 in
theorem apply2_any (l : List Bd) (a b : Tm) (w : World) (v va vb : Value) (hv : BdS w v l) (hva : TmS w va a.args) (hvb : TmS w vb b.args) (hl : wtB l ≤ 1048576) (hwa : a.wt ≤ 1048576) (hwb : b.wt ≤ 1048576) :
    Calls Try.prog 78 #[.agg #[.string a.name, va, .string b.name, vb], .agg #[v]] w (EqnEnd l a b w) := by
  obtain ⟨sa, sc, rfl⟩ := hv.is_slice
  obtain ⟨pa, ca, rfl⟩ := hva.is_slice
  obtain ⟨pb, cb, rfl⟩ := hvb.is_slice
  have HVS := Lib.hid hv
  have HVA := Lib.hid hva
  have HVB := Lib.hid hvb
  obtain ⟨w0, hw0⟩ : ∃ w0, ((w.alloc (.cells #[.string a.name, .slice pa a.args.length ca, .string b.name, .slice pb b.args.length cb] 94)).alloc (.cells #[.slice sa l.length sc] 34)).alloc (.cells #[.string ⟨#[]⟩, .slice none 0 0, .string ⟨#[]⟩, .slice none 0 0] 94) = w0 := ⟨_, rfl⟩
  have HB0 : Hid (Below w.heap.size w w0) := Lib.hid (by rw [← hw0]; exact (((Below.refl w.heap.size w).alloc (Nat.le_refl _) _).alloc (by simp) _).alloc (by simp; omega) _)
  have E0 : Hid (Fou w0 w.heap.size (.string a.name) (.slice pa a.args.length ca) (.string b.name) (.slice pb b.args.length cb)) := Lib.hid (by rw [← hw0]; exact ((fou_new w _ _ _ _ 94 _ rfl).alloc _).alloc _)
  have S0 : Hid (Oner w0 (w.heap.size + 1) (.slice sa l.length sc)) := Lib.hid (by rw [← hw0]; exact (oner_new _ (.slice sa l.length sc) 34 (w.heap.size + 1) (by simp)).alloc _)
  have R0 : Hid (Fou w0 (w.heap.size + 1 + 1) (.string ⟨#[]⟩) (.slice none 0 0) (.string ⟨#[]⟩) (.slice none 0 0)) := Lib.hid (by rw [← hw0]; exact fou_new _ _ _ _ _ 94 (w.heap.size + 1 + 1) (by simp))
  obtain ⟨s0, s1⟩ := S0.out
  obtain ⟨a0, a1, a2, a3, a4⟩ := E0.out
  clear hv hva hvb
  go_enter Try.func78, Try.ntmps78
  go_wp2_with fail
  with_reducible refine (implApply_any l a w0 _ _ (HVS.out.kept HB0.out) (HVA.out.kept HB0.out) hl hwa).mono ?_
  rintro e w1 ⟨v1, rfl, ho, hb⟩
  obtain ⟨p1, c1, rfl⟩ := ho.read.is_slice
  have hx1 := appR_wt l a
  obtain ⟨x, hx⟩ : ∃ x, x = appR l a := ⟨_, rfl⟩
  obtain ⟨xo, hxo⟩ : ∃ xo, xo = appOk l a := ⟨_, rfl⟩
  rw [← hx] at ho hx1 ⊢
  rw [← hxo]
  obtain ⟨w2, hw2⟩ : ∃ w2, w1.alloc (.cells #[.string x.name, .slice p1 x.args.length c1] 38) = w2 := ⟨_, rfl⟩
  have B2 : Hid (Below w1.heap.size w1 w2) := Lib.hid (by rw [← hw2]; exact (Below.refl _ _).alloc (Nat.le_refl _) _)
  have X2 : Hid (Two w2 w1.heap.size (.string x.name) (.slice p1 x.args.length c1)) := Lib.hid (by rw [← hw2]; exact two_new _ _ _ 38 _ rfl)
  have BB := Lib.hid (carry_below hb (Nat.le_refl _) B2.out)
  have HX2 := Lib.hid (ho.frame fun k hk => B2.out.block k hk.2)
  have HB2 := Lib.hid (carry_below HB0.out (Nat.le_refl _) BB.out)
  have S2 := Lib.hid (S0.out.kept BB.out)
  have E2 := Lib.hid (E0.out.kept BB.out)
  have R2 := Lib.hid (R0.out.kept BB.out)
  have HX := Lib.hid hx
  have HXO := Lib.hid hxo
  have Z0 : Hid (w0.heap.size = w.heap.size + 3) := Lib.hid (by rw [← hw0]; simp)
  have Z1 : Hid (w1.heap.size ≤ w2.heap.size) := Lib.hid B2.out.size
  clear hb ho hw0 s0 s1 a0 a1 a2 a3 a4 S0 E0 R0 hx hxo
  obtain ⟨s0, s1⟩ := S2.out
  obtain ⟨a0, a1, a2, a3, a4⟩ := E2.out
  go_wp2_with fail
  with_reducible refine (implApply_any l b w2 _ _ (HVS.out.kept HB2.out) (HVB.out.kept HB2.out) hl hwb).mono ?_
  rintro e w3 ⟨v3, rfl, ho, hb⟩
  obtain ⟨p3, c3, rfl⟩ := ho.read.is_slice
  have hy1 := appR_wt l b
  obtain ⟨y, hy⟩ : ∃ y, y = appR l b := ⟨_, rfl⟩
  obtain ⟨yo, hyo⟩ : ∃ yo, yo = appOk l b := ⟨_, rfl⟩
  rw [← hy] at ho hy1 ⊢
  rw [← hyo]
  obtain ⟨w4, hw4⟩ : ∃ w4, w3.alloc (.cells #[.string y.name, .slice p3 y.args.length c3] 38) = w4 := ⟨_, rfl⟩
  have B4 : Hid (Below w3.heap.size w3 w4) := Lib.hid (by rw [← hw4]; exact (Below.refl _ _).alloc (Nat.le_refl _) _)
  have Y4 : Hid (Two w4 w3.heap.size (.string y.name) (.slice p3 y.args.length c3)) := Lib.hid (by rw [← hw4]; exact two_new _ _ _ 38 _ rfl)
  have BB4 := Lib.hid (carry_below hb (Nat.le_refl _) B4.out)
  have HY4 := Lib.hid (ho.frame fun k hk => B4.out.block k hk.2)
  have HX4 := Lib.hid (HX2.out.frame fun k hk => BB4.out.block k (Nat.lt_of_lt_of_le hk.2 Z1.out))
  have HB4 := Lib.hid (carry_below HB2.out (Nat.le_refl _) BB4.out)
  have X4 := Lib.hid (X2.out.kept BB4.out)
  have R4 := Lib.hid (R2.out.kept BB4.out)
  have HY := Lib.hid hy
  have HYO := Lib.hid hyo
  have Z2 : Hid (w0.heap.size ≤ w2.heap.size) := Lib.hid BB.out.size
  clear hb ho hw2 s0 s1 a0 a1 a2 a3 a4 S2 E2 R2 hy hyo
  obtain ⟨x0, x1, x2⟩ := X4.out
  obtain ⟨y0, y1, y2⟩ := Y4.out
  obtain ⟨r0, r1, r2, r3, r4⟩ := R4.out
  cases xo with
  | false =>
    have HF := Lib.hid (isu_a (b := b) HXO.out.symm)
    go_wp2
    refine bodyPost_ret (v := .tuple #[.agg #[.string ⟨#[]⟩, .slice none 0 0, .string ⟨#[]⟩, .slice none 0 0], .bool false]) (by simp [results, Try.results78, go_sem, r0, r1, r2, r3]) rfl ?_
    exact ⟨.node ByteArray.empty [], .node ByteArray.empty [], .slice none 0 0, .slice none 0 0, by rw [HF.out.1]; rfl, .emp _ _, .emp _ _, fun h => absurd h (by rw [HF.out.1]; decide), ((((HB4.out.setCell (by simp; omega) _).setCell (by simp; omega) _).setCell (by simp; omega) _).setCell (by simp; omega) _)⟩
  | true =>
    cases yo with
    | false =>
      have HF := Lib.hid (isu_b (a := a) HYO.out.symm)
      go_wp2
      refine bodyPost_ret (v := .tuple #[.agg #[.string ⟨#[]⟩, .slice none 0 0, .string ⟨#[]⟩, .slice none 0 0], .bool false]) (by simp [results, Try.results78, go_sem, r0, r1, r2, r3]) rfl ?_
      exact ⟨.node ByteArray.empty [], .node ByteArray.empty [], .slice none 0 0, .slice none 0 0, by rw [HF.out.1]; rfl, .emp _ _, .emp _ _, fun h => absurd h (by rw [HF.out.1]; decide), ((((HB4.out.setCell (by simp; omega) _).setCell (by simp; omega) _).setCell (by simp; omega) _).setCell (by simp; omega) _)⟩
    | true =>
      have HF := isu_y HXO.out.symm HYO.out.symm
      have HF := Lib.hid HF
      go_wp2
      refine bodyPost_ret (v := .tuple #[.agg #[.string x.name, .slice p1 x.args.length c1, .string y.name, .slice p3 y.args.length c3], .bool true]) (by simp [results, Try.results78, go_sem, r0, r1, r2, r3]) rfl ?_
      have D0 : ∀ {S : Nat → Prop} {W : World} {v : Value} {t : List Tm}, TmO W S v t → ¬ S (w.heap.size + 1 + 1) → ∀ p q r s, TmS ((((W.setCell ⟨w.heap.size + 1 + 1, 0, none⟩ p).setCell ⟨w.heap.size + 1 + 1, 1, none⟩ q).setCell ⟨w.heap.size + 1 + 1, 2, none⟩ r).setCell ⟨w.heap.size + 1 + 1, 3, none⟩ s) v t := fun h hn p q r s =>
        ((((h.setCell hn _).setCell hn _).setCell hn _).setCell hn _).read
      exact ⟨x, y, .slice p1 x.args.length c1, .slice p3 y.args.length c3, by rw [HF.out.1], D0 HX4.out (fun h => by have := h.1; have := Z0.out; omega) _ _ _ _, D0 HY4.out (fun h => by have := h.1; have := Z0.out; have := Z2.out; omega) _ _ _ _, fun _ => ⟨HX.out, HY.out⟩, ((((HB4.out.setCell (by simp; omega) _).setCell (by simp; omega) _).setCell (by simp; omega) _).setCell (by simp; omega) _)⟩

set_option maxRecDepth 100000 in
set_option maxHeartbeats 4000000 in
theorem implIsU_any (l : List Bd) (a b : Tm) (w : World) (v va vb : Value) (hv : BdS w v l) (hva : TmS w va a.args) (hvb : TmS w vb b.args) (hl : wtB l ≤ 1048576) (hwa : a.wt ≤ 1048576) (hwb : b.wt ≤ 1048576) :
    Calls Try.prog 21 #[.agg #[v], .agg #[.string a.name, va], .agg #[.string b.name, vb]] w (Ans (.tuple #[.bool (isuR l a b), .bool (isuOk l a b)]) w) := by
  obtain ⟨sa, sc, rfl⟩ := hv.is_slice
  obtain ⟨pa, ca, rfl⟩ := hva.is_slice
  obtain ⟨pb, cb, rfl⟩ := hvb.is_slice
  have HVS := Lib.hid hv
  have HVA := Lib.hid hva
  have HVB := Lib.hid hvb
  obtain ⟨w0, hw0⟩ : ∃ w0, ((w.alloc (.cells #[.slice sa l.length sc] 34)).alloc (.cells #[.string a.name, .slice pa a.args.length ca] 38)).alloc (.cells #[.string b.name, .slice pb b.args.length cb] 38) = w0 := ⟨_, rfl⟩
  have HB0 : Hid (Below w.heap.size w w0) := Lib.hid (by rw [← hw0]; exact (((Below.refl w.heap.size w).alloc (Nat.le_refl _) _).alloc (by simp) _).alloc (by simp; omega) _)
  have S0 : Hid (Oner w0 w.heap.size (.slice sa l.length sc)) := Lib.hid (by rw [← hw0]; exact ((oner_new w (.slice sa l.length sc) 34 _ rfl).alloc _).alloc _)
  have A0 : Hid (Two w0 (w.heap.size + 1) (.string a.name) (.slice pa a.args.length ca)) := Lib.hid (by rw [← hw0]; exact (two_new _ _ _ 38 (w.heap.size + 1) (by simp)).alloc _)
  have T0 : Hid (Two w0 (w.heap.size + 1 + 1) (.string b.name) (.slice pb b.args.length cb)) := Lib.hid (by rw [← hw0]; exact two_new _ _ _ 38 (w.heap.size + 1 + 1) (by simp))
  obtain ⟨s0, s1⟩ := S0.out
  obtain ⟨a0, a1, a2⟩ := A0.out
  obtain ⟨t0, t1, t2⟩ := T0.out
  clear hv hva hvb
  go_enter Try.func21, Try.ntmps21
  go_wp2_with fail
  with_reducible refine (apply2_any l a b w0 _ _ _ (HVS.out.kept HB0.out) (HVA.out.kept HB0.out) (HVB.out.kept HB0.out) hl hwa hwb).mono ?_
  rintro e w1 ⟨x, y, vx, vy, rfl, hx, hy, hE, hb⟩
  obtain ⟨p1, c1, rfl⟩ := hx.is_slice
  obtain ⟨p3, c3, rfl⟩ := hy.is_slice
  obtain ⟨o, ho⟩ : ∃ o, o = isuOk l a b := ⟨_, rfl⟩
  rw [← ho] at hE ⊢
  obtain ⟨w2, hw2⟩ : ∃ w2, w1.alloc (.cells #[.string x.name, .slice p1 x.args.length c1, .string y.name, .slice p3 y.args.length c3] 94) = w2 := ⟨_, rfl⟩
  have B2 : Hid (Below w1.heap.size w1 w2) := Lib.hid (by rw [← hw2]; exact (Below.refl _ _).alloc (Nat.le_refl _) _)
  have X2 : Hid (Fou w2 w1.heap.size (.string x.name) (.slice p1 x.args.length c1) (.string y.name) (.slice p3 y.args.length c3)) := Lib.hid (by rw [← hw2]; exact fou_new _ _ _ _ _ 94 _ rfl)
  have HX2 := Lib.hid (hx.kept B2.out)
  have HY2 := Lib.hid (hy.kept B2.out)
  have HB2 := Lib.hid (carry_below HB0.out (Nat.le_refl _) (carry_below hb (Nat.le_refl _) B2.out))
  have HO := Lib.hid ho
  have HE := Lib.hid hE
  obtain ⟨x0, x1, x2, x3, x4⟩ := X2.out
  clear hb hw0 s0 s1 a0 a1 a2 t0 t1 t2 S0 A0 T0 hx hy ho hE
  cases o with
  | false =>
    have HF : Hid (isuR l a b = false) := Lib.hid (by unfold isuR; rw [← HO.out]; rfl)
    go_wp2
    go_ret2
    exact ⟨ret_bbK HF.out.symm HO.out, HB2.out⟩
  | true =>
    have HF : Hid (eqT x y = isuR l a b) := Lib.hid (by unfold isuR; rw [← HO.out, (HE.out rfl).1, (HE.out rfl).2]; rfl)
    have hwx : x.wt ≤ 1048576 := by rw [(HE.out rfl).1]; exact appR_wt l a
    have hwy : y.wt ≤ 1048576 := by rw [(HE.out rfl).2]; exact appR_wt l b
    have ET := equalTrees_any x
    unfold TreeT at ET
    go_wp2_with fail
    with_reducible refine (ET y w2 _ _ HX2.out HY2.out hwx hwy).mono ?_
    rintro e w3 ⟨rfl, hb⟩
    have HB3 := Lib.hid (carry_below HB2.out (Nat.le_refl _) hb)
    clear hb hw2
    go_wp2
    go_ret2
    exact ⟨ret_bbK HF.out HO.out, HB3.out⟩

end Go.Proofs.Ytnkonhdnccolhaa

/- Matching as the model does it, on terms and lists of bindings; and an append that leaves the old row owned. No condition. -/
namespace Go.Proofs.Ytnkonhdnccolhaa
open Go.RowKit
set_option linter.unusedVariables false

def hasN (nm : ByteArray) (d : Bd) : Bool := decide (d.var = nm)

mutual
/-- The bindings behind a match, trivial ones among them, and whether it succeeds. -/
def matT : Tm → Tm → List Bd → List Bd × Bool
  | .node a l, t, k => if varB a then (match k.find? (hasN a) with
        | some d => (k, eqT d.tm t)
        | none => (k ++ [⟨a, t⟩], true))
      else if a = t.name ∧ l.length = t.args.length then matL l t.args k else (k, false)
def matL : List Tm → List Tm → List Bd → List Bd × Bool
  | [], _, k => (k, true)
  | _ :: _, [], k => (k, true)
  | p :: ps, t :: ts, k => if (matT p t k).2 then matL ps ts (matT p t k).1 else (k, false)
end

theorem matT_found {p t : Tm} {k : List Bd} {d : Bd} (hv : varB p.name = true) (hf : k.find? (hasN p.name) = some d) : matT p t k = (k, eqT d.tm t) := by
  cases p with
  | node a l => simp only [Tm.name] at hv hf; rw [matT, if_pos hv, hf]
theorem matT_new {p t : Tm} {k : List Bd} (hv : varB p.name = true) (hf : k.find? (hasN p.name) = none) : matT p t k = (k ++ [⟨p.name, t⟩], true) := by
  cases p with
  | node a l => simp only [Tm.name] at hv hf ⊢; rw [matT, if_pos hv, hf]
theorem matT_no {p t : Tm} {k : List Bd} (hv : varB p.name = false) (hn : ¬ (p.name = t.name ∧ p.args.length = t.args.length)) : matT p t k = (k, false) := by
  cases p with
  | node a l =>
    have hn' : ¬ (a = t.name ∧ l.length = t.args.length) := hn
    have hv' : varB a = false := hv
    rw [matT, if_neg (by rw [hv']; simp), if_neg hn']
theorem matT_args {p t : Tm} {k : List Bd} (hv : varB p.name = false) (hn : p.name = t.name) (hl : p.args.length = t.args.length) : matT p t k = matL p.args t.args k := by
  cases p with
  | node a l =>
    have hn' : a = t.name ∧ l.length = t.args.length := ⟨hn, hl⟩
    have hv' : varB a = false := hv
    rw [matT, if_neg (by rw [hv']; simp), if_pos hn']; rfl

theorem matL_next {ps ts : List Tm} {i : Nat} {x y : Tm} {k : List Bd} (hx : ps[i]? = some x) (hy : ts[i]? = some y) :
    matL (ps.drop i) (ts.drop i) k = if (matT x y k).2 then matL (ps.drop (i + 1)) (ts.drop (i + 1)) (matT x y k).1 else (k, false) := by
  obtain ⟨hi, rfl⟩ := List.getElem?_eq_some_iff.1 hx
  obtain ⟨hj, rfl⟩ := List.getElem?_eq_some_iff.1 hy
  rw [List.drop_eq_getElem_cons hi, List.drop_eq_getElem_cons hj, matL]
theorem matL_yes {ps ts : List Tm} {i : Nat} {x y : Tm} {k : List Bd} (hx : ps[i]? = some x) (hy : ts[i]? = some y) (h : (matT x y k).2 = true) :
    matL (ps.drop i) (ts.drop i) k = matL (ps.drop (i + 1)) (ts.drop (i + 1)) (matT x y k).1 := by rw [matL_next hx hy, if_pos h]
theorem matL_no {ps ts : List Tm} {i : Nat} {x y : Tm} {k : List Bd} (hx : ps[i]? = some x) (hy : ts[i]? = some y) (h : (matT x y k).2 = false) :
    matL (ps.drop i) (ts.drop i) k = (k, false) := by rw [matL_next hx hy, if_neg (by rw [h]; simp)]
theorem matL_end {ps ts : List Tm} {i : Nat} {k : List Bd} (h : ps.length ≤ i) : matL (ps.drop i) (ts.drop i) k = (k, true) := by
  rw [List.drop_of_length_le h, matL]

mutual
theorem matT_len : ∀ (p t : Tm) (k : List Bd), (matT p t k).1.length ≤ k.length + p.wt
  | .node a l, t, k => by
    rw [matT]
    split
    · rename_i hv
      split
      · simp
      · have h1 : 0 < a.size := by
          rcases Nat.eq_zero_or_pos a.size with h | h
          · rw [varB_short (by omega)] at hv; cases hv
          · exact h
        simp only [List.length_append, List.length_singleton, Tm.wt]; omega
    · split
      · have := matL_len l t.args k
        simp only [Tm.wt]; omega
      · simp
theorem matL_len : ∀ (ps ts : List Tm) (k : List Bd), (matL ps ts k).1.length ≤ k.length + Tm.wtL ps
  | [], _, k => by rw [matL]; simp
  | _ :: _, [], k => by rw [matL]; simp
  | p :: ps, t :: ts, k => by
    rw [matL]
    split
    · have h1 := matT_len p t k
      have h2 := matL_len ps ts (matT p t k).1
      simp only [Tm.wtL]; omega
    · simp
end

theorem find_at {l : List Bd} {k : Nat} {d : Bd} {nm : ByteArray} (hb : ∀ j x, j < k → l[j]? = some x → x.var ≠ nm) (hd : l[k]? = some d) (he : d.var = nm) : l.find? (hasN nm) = some d := by
  rw [List.find?_eq_some_iff_getElem]
  obtain ⟨hk, rfl⟩ := List.getElem?_eq_some_iff.1 hd
  refine ⟨by unfold hasN; simpa using he, k, hk, rfl, fun j hj => ?_⟩
  have := hb j _ hj (List.getElem?_eq_getElem (Nat.lt_trans hj hk))
  unfold hasN; simpa using this
theorem find_none {l : List Bd} {nm : ByteArray} (hb : ∀ j x, j < l.length → l[j]? = some x → x.var ≠ nm) : l.find? (hasN nm) = none := by
  rw [List.find?_eq_none]
  intro x hx
  obtain ⟨j, hj⟩ := List.mem_iff_getElem?.1 hx
  have := hb j x (List.getElem?_eq_some_iff.1 hj).1 hj
  unfold hasN; simpa using this

/-- A longer row's owner owns what stood in it before. -/
theorem own_prefix {w : World} {base : Nat} {e : TypeId} {size g n n' cap : Nat} {xs ys : List Value} (h : w.ownsRow base e size (.slice (some ⟨g, 0, none⟩) n' cap) n' (xs ++ ys)) (hx : xs.length = n * size) (hn : n ≤ n') :
    w.ownsRow base e size (.slice (some ⟨g, 0, none⟩) n cap) n xs := by
  refine ⟨hx, .inr ?_⟩
  rcases h.2 with ⟨q, _⟩ | ⟨g', cap', cur, q, hb, hg, hc, hm, hs, ht⟩
  · cases q
  · simp only [Value.slice.injEq, Option.some.injEq, Addr.mk.injEq, and_true, true_and] at q
    obtain ⟨rfl, rfl⟩ := q
    refine ⟨g, cap, cur, rfl, hb, hg, Nat.le_trans hn hc, hm, hs, ?_⟩
    have hle : n * size ≤ n' * size := Nat.mul_le_mul_right _ hn
    have e1 : (cur.toList.take (n' * size)).take (n * size) = cur.toList.take (n * size) := by rw [List.take_take, Nat.min_eq_left hle]
    rw [← e1, ht, ← hx]
    exact List.take_left

section
variable {P : Program} {w : World}
/-- An append of at least one element, its old row owned still. -/
theorem run_app_both (t ty : TypeId) (base : Nat) (e : TypeId) (i : TypeInfo) (z : Value) (size bytes : Nat) (ht : P.underlying t = some (.slice e)) (hi : P.info? e = some i) (hz : i.zero = some z)
    (hsize : i.size = size) (hby : i.bytes = bytes) (hzs : z.cells.size = size) (hsz : 0 < size)
    (g n cap : Nat) (xs : List Value) (hown : w.ownsRow base e size (.slice (some ⟨g, 0, none⟩) n cap) n xs)
    (ad : Addr) (c : Nat) (news : List Value) (hl : news.length = 1 * size) (hnews : ∀ j u, news[j]? = some u → w.cell? (ad.add j) = some u) (h1 : ∀ u ∈ news, u.oneCell' = true)
    (h63 : n + 1 ≤ 4194304) (hby2 : bytes ≤ 100) (hbase : base ≤ w.heap.size) :
    ∃ g' cap' w', (Builtin.append_ #[t, t] ty #[.slice (some ⟨g, 0, none⟩) n cap, .slice (some ad) 1 c]).run P w = .ok (.slice (some ⟨g', 0, none⟩) (n + 1) cap') w' ∧
      w'.ownsRow base e size (.slice (some ⟨g', 0, none⟩) (n + 1) cap') (n + 1) (xs ++ news) ∧ w'.ownsRow base e size (.slice (some ⟨g, 0, none⟩) n cap) n xs ∧ w.grownBy w' (some g) ∧ ((g' = g ∧ cap' = cap) ∨ w.heap.size ≤ g') ∧ g' < w'.heap.size := by
  have hbb : (n + 1) * bytes ≤ 140737488355328 := Nat.le_trans (Nat.mul_le_mul h63 hby2) (by decide)
  obtain ⟨g', cap', w', hr, h2, h3, h4, h5⟩ := run_append_lies (P := P) w t ty base e i z size bytes ht hi hz hsize hby hzs hsz _ n xs hown ad 1 c news hl hnews h1 (by omega) (by unfold maxLen; omega) hbb hbase w.heap.size rfl
  by_cases hroom : n + 1 ≤ cap
  · obtain ⟨w2, hr2, k2, k3⟩ := run_append_fits (P := P) w base t ty e i size ht hi hsize g n cap xs hown ad 1 c news hl hnews h1 hroom
    rw [hr] at hr2
    injection hr2 with e1 e2
    injection e1 with e3 e4 e5
    injection e3 with e3
    injection e3 with e3
    subst e2
    subst e3
    subst e5
    exact ⟨g', cap', w', hr, h2, own_prefix k2 hown.1 (by omega), h3, .inl ⟨rfl, rfl⟩, h5⟩
  · subst hsize
    subst hby
    have hold : ∀ j v, xs[j]? = some v → w.cell? ((⟨g, 0, none⟩ : Addr).add j) = some v := hown.cells (g := g) rfl
    have hlt := hown.lt g rfl
    have hr2 := run_append_grow (P := P) w t ty e i z ht hi hz ⟨g, 0, none⟩ n cap xs hown.1 hold ad 1 c news hl hnews (by omega) (by omega) (growslice_fits (by omega) hbb)
    rw [hr] at hr2
    injection hr2 with e1 e2
    injection e1 with e3 e4 e5
    injection e3 with e3
    injection e3 with e3
    refine ⟨g', cap', w', hr, h2, ?_, h3, .inr (Nat.le_of_eq e3.symm), h5⟩
    have hk : w.grownBy w' none := by rw [e2]; exact ⟨rfl, rfl, rfl, by simp, fun k hk _ => heap_alloc_old w.drew _ hk⟩
    exact hown.kept hk (.inr (by simp [Value.ownBlock]))
theorem wpList_app_both {ops : Array Oper} {rest : List Oper} {o : Oper} {a : Act} {Q : Exit → Act → World → Prop} (hgd : o.guard = none) (s x : Operand) (t : TypeId)
    (ho : o.op = .call { callee := .builtin .append, args := #[s, x], argTypes := #[t, t] })
    (base : Nat) (e : TypeId) (i : TypeInfo) (z : Value) (size bytes : Nat) (ht : P.underlying t = some (.slice e)) (hi : P.info? e = some i) (hz : i.zero = some z)
    (hsize : i.size = size) (hby : i.bytes = bytes) (hzs : z.cells.size = size) (hsz : 0 < size)
    (g n cap : Nat) (xs : List Value) (hs : a.eval s = .slice (some ⟨g, 0, none⟩) n cap) (hown : w.ownsRow base e size (.slice (some ⟨g, 0, none⟩) n cap) n xs)
    (ad : Addr) (c : Nat) (news : List Value) (hx : a.eval x = .slice (some ad) 1 c) (hl : news.length = 1 * size) (hnews : ∀ j u, news[j]? = some u → w.cell? (ad.add j) = some u) (h1 : ∀ u ∈ news, u.oneCell' = true)
    (h63 : n + 1 ≤ 4194304) (hby2 : bytes ≤ 100) (hbase : base ≤ w.heap.size)
    (h : ∀ g' cap' w', w'.ownsRow base e size (.slice (some ⟨g', 0, none⟩) (n + 1) cap') (n + 1) (xs ++ news) → w'.ownsRow base e size (.slice (some ⟨g, 0, none⟩) n cap) n xs → w.grownBy w' (some g) →
      ((g' = g ∧ cap' = cap) ∨ w.heap.size ≤ g') → g' < w'.heap.size → wpList P ops Q rest (a.put o.dst (.slice (some ⟨g', 0, none⟩) (n + 1) cap')) w') : wpList P ops Q (o :: rest) a w := by
  refine wpList_plain hgd fun K hK => ?_
  obtain ⟨g', cap', w', hr, k1, k2, k3, k4, k5⟩ := run_app_both (P := P) (w := w) t o.type base e i z size bytes ht hi hz hsize hby hzs hsz g n cap xs hown ad c news hl hnews h1 h63 hby2 hbase
  unfold Oper.wp execOp
  simp only [ho, resolve, invoke, builtin, Sem.run_bind, Sem.run_pure, Result.andThen_ok, List.map_toArray, List.map_cons, List.map_nil, hs, hx, hr]
  exact hK _ _ (h g' cap' w' k1 k2 k3 k4 k5)
end

end Go.Proofs.Ytnkonhdnccolhaa

/- Matching: the names of what it binds differ, and the substitution that is made of it. No condition. -/
namespace Go.Proofs.Ytnkonhdnccolhaa
open Go.RowKit
set_option linter.unusedVariables false

def NdB (l : List Bd) : Prop := l.Pairwise (fun x y => x.var ≠ y.var)
theorem NdB.nil : NdB [] := List.Pairwise.nil
theorem NdB.snoc {l : List Bd} {d : Bd} (h : NdB l) (hf : l.find? (hasN d.var) = none) : NdB (l ++ [d]) := by
  refine List.pairwise_append.2 ⟨h, by simp, fun x hx y hy => ?_⟩
  rcases List.mem_singleton.1 hy with rfl
  have := (List.find?_eq_none.1 hf) x hx
  intro e
  exact this (by unfold hasN; simpa using e)
theorem NdB.at {l : List Bd} (h : NdB l) {k : Nat} {d x : Bd} (hd : l[k]? = some d) (hx : x ∈ l.take k) : x.var ≠ d.var := by
  obtain ⟨j, hj⟩ := List.mem_iff_getElem?.1 hx
  rw [List.getElem?_take] at hj
  split at hj
  · rename_i hjk
    obtain ⟨h1, rfl⟩ := List.getElem?_eq_some_iff.1 hj
    obtain ⟨h2, rfl⟩ := List.getElem?_eq_some_iff.1 hd
    exact List.pairwise_iff_getElem.1 h j k h1 h2 hjk
  · cases hj

mutual
theorem matT_nd : ∀ (p t : Tm) (k : List Bd), NdB k → NdB (matT p t k).1
  | .node a l, t, k, h => by
    rw [matT]
    split
    · split
      · exact h
      · rename_i hf; exact NdB.snoc (d := ⟨a, t⟩) h hf
    · split
      · exact matL_nd l t.args k h
      · exact h
theorem matL_nd : ∀ (ps ts : List Tm) (k : List Bd), NdB k → NdB (matL ps ts k).1
  | [], _, k, h => by rw [matL]; exact h
  | _ :: _, [], k, h => by rw [matL]; exact h
  | p :: ps, t :: ts, k, h => by
    rw [matL]
    split
    · exact matL_nd ps ts _ (matT_nd p t k h)
    · exact h
end

/-- What is made of the first k bindings: the list in ascending order, without the trivial ones. -/
def pT (l : List Bd) (k : Nat) : List Bd := (l.take k).foldl (fun a b => putF b a) []
theorem pT_next {l : List Bd} {k : Nat} {d : Bd} (h : l[k]? = some d) : pT l (k + 1) = putF d (pT l k) := by unfold pT; rw [take_next h, List.foldl_append]; rfl
theorem pT_asc {l : List Bd} (h : NdB l) : ∀ k, k ≤ l.length → Asc (pT l k) ∧ (∀ x ∈ pT l k, x ∈ l.take k) ∧ (pT l k).length ≤ k
  | 0, _ => ⟨fun i j x y _ hx _ => by simp [pT] at hx, fun x hx => by simp [pT] at hx, by simp [pT]⟩
  | k + 1, hk => by
    obtain ⟨h1, h2, h3⟩ := pT_asc h k (by omega)
    obtain ⟨d, hd⟩ : ∃ d, l[k]? = some d := ⟨_, List.getElem?_eq_getElem (by omega)⟩
    rw [pT_next hd, take_next hd]
    unfold putF
    split
    · exact ⟨h1, fun x hx => List.mem_append_left _ (h2 x hx), by omega⟩
    · refine ⟨insF_asc h1 ?_, fun x hx => ?_, by rw [insF_len]; omega⟩
      · cases hb : boundB (pT l k) d.var with
        | false => rfl
        | true =>
          obtain ⟨x, hx, e⟩ := bound_iff.1 hb
          exact absurd e (h.at hd (h2 x hx))
      · rcases insF_mem.1 hx with rfl | hx
        · exact List.mem_append_right _ (by simp)
        · exact List.mem_append_left _ (h2 x hx)

theorem Tm.wt_at {t s : Tm} (h : s ∈ t.args) : s.wt ≤ t.wt := Tm.wt_arg h
theorem name_wt (t : Tm) : t.name.size ≤ t.wt := by cases t with | node a l => simp only [Tm.name, Tm.wt]; omega
mutual
theorem matT_mem : ∀ (p t : Tm) (k : List Bd) (d : Bd), d ∈ (matT p t k).1 → d ∈ k ∨ (d.var.size ≤ p.wt ∧ d.tm.wt ≤ t.wt)
  | .node a l, t, k, d, h => by
    rw [matT] at h
    split at h
    · split at h
      · exact .inl h
      · rcases List.mem_append.1 h with h | h
        · exact .inl h
        · rcases List.mem_singleton.1 h with rfl
          exact .inr ⟨name_wt (.node a l), Nat.le_refl _⟩
    · split at h
      · rcases matL_mem l t.args k d h with h | ⟨h1, h2⟩
        · exact .inl h
        · refine .inr ⟨by simp only [Tm.wt]; omega, ?_⟩
          cases t with | node b m => simp only [Tm.args] at h2; simp only [Tm.wt]; omega
      · exact .inl h
theorem matL_mem : ∀ (ps ts : List Tm) (k : List Bd) (d : Bd), d ∈ (matL ps ts k).1 → d ∈ k ∨ (d.var.size ≤ Tm.wtL ps ∧ d.tm.wt ≤ Tm.wtL ts)
  | [], _, k, d, h => by rw [matL] at h; exact .inl h
  | _ :: _, [], k, d, h => by rw [matL] at h; exact .inl h
  | p :: ps, t :: ts, k, d, h => by
    rw [matL] at h
    split at h
    · rcases matL_mem ps ts _ d h with h | ⟨h1, h2⟩
      · rcases matT_mem p t k d h with h | ⟨h1, h2⟩
        · exact .inl h
        · exact .inr ⟨by simp only [Tm.wtL]; omega, by simp only [Tm.wtL]; omega⟩
      · exact .inr ⟨by simp only [Tm.wtL]; omega, by simp only [Tm.wtL]; omega⟩
    · exact .inl h
end

/-- The substitution behind a match, in ascending order and without trivial bindings; whether there is one. -/
def mP (p t : Tm) : List Bd := pT (matT p t []).1 (matT p t []).1.length
def mOk (p t : Tm) : Bool := anyB p && (anyB t && ((matT p t []).2 && goodS (mP p t)))
def mR (p t : Tm) : List Bd := if mOk p t then mP p t else []
theorem mR_yes {p t : Tm} (h : mOk p t = true) : mR p t = mP p t := if_pos h
theorem mR_no {p t : Tm} (h : mOk p t = false) : mR p t = [] := if_neg (by rw [h]; simp)
theorem mOk_p {p t : Tm} (h : anyB p = false) : mOk p t = false := by unfold mOk; rw [h]; rfl
theorem mOk_t {p t : Tm} (h : anyB t = false) : mOk p t = false := by unfold mOk; rw [h]; simp
theorem mOk_m {p t : Tm} (h : (matT p t []).2 = false) : mOk p t = false := by unfold mOk; rw [h]; simp
theorem mOk_g {p t : Tm} (h : goodS (mP p t) = false) : mOk p t = false := by unfold mOk; rw [h]; simp
theorem mOk_y {p t : Tm} (h1 : anyB p = true) (h2 : anyB t = true) (h3 : (matT p t []).2 = true) (h4 : goodS (mP p t) = true) : mOk p t = true := by unfold mOk; rw [h1, h2, h3, h4]; rfl
theorem mOk_iff {p t : Tm} (h1 : anyB p = true) (h2 : anyB t = true) (h3 : (matT p t []).2 = true) : mOk p t = goodS (mP p t) := by unfold mOk; rw [h1, h2, h3]; rfl
theorem mat_small {p t : Tm} (h : anyB p = true) : (matT p t []).1.length ≤ 210 := by
  have h1 := matT_len p t []
  have h2 := anyB_wt h
  simp at h1; omega
theorem mP_len {p t : Tm} (h : anyB p = true) : (mP p t).length ≤ 210 := by
  have h1 := (pT_asc (matT_nd p t [] NdB.nil) _ (Nat.le_refl _)).2.2
  have h2 := mat_small (t := t) h
  unfold mP; omega
theorem mP_wt {p t : Tm} (hp : anyB p = true) (ht : anyB t = true) : wtB (mP p t) ≤ 1048576 := by
  have h2 := mP_len (t := t) hp
  have hb : ∀ d ∈ mP p t, d.wt ≤ 440 := fun d hd => by
    have h3 := (pT_asc (matT_nd p t [] NdB.nil) _ (Nat.le_refl _)).2.1 d hd
    rw [List.take_length] at h3
    rcases matT_mem p t [] d h3 with h | ⟨h4, h5⟩
    · cases h
    · have := anyB_wt hp
      have := anyB_wt ht
      unfold Bd.wt; omega
  have h5 := wtB_bound hb
  have : (mP p t).length * 440 ≤ 210 * 440 := Nat.mul_le_mul_right _ h2
  omega
theorem mR_wt (p t : Tm) : wtB (mR p t) ≤ 1048576 := by
  cases h : mOk p t with
  | false => rw [mR_no h]; simp [wtB, sumB]
  | true =>
    rw [mR_yes h]
    unfold mOk at h
    simp only [Bool.and_eq_true] at h
    exact mP_wt h.1 h.2.1

end Go.Proofs.Ytnkonhdnccolhaa

/- The model's matching: a contract, for terms of at most 1048576 names' bytes and arguments and as many bindings. -/
namespace Go.Proofs.Ytnkonhdnccolhaa
open Go.RowKit
set_option linter.unusedVariables false

theorem infoPr : (Try.prog.info? 167).map (fun i => (i.zero, i.size, i.bytes)) = some (some (.agg #[.string ByteArray.empty, .string ByteArray.empty, .slice none 0 0]), 3, 56) := by kernel_rfl

/-- The terms of the entries, as a world holds them. -/
def EnR (w0 : World) (L : List En) : Prop := ∀ e ∈ L, TmS w0 e.va e.d.tm.args ∧ e.d.tm.wt ≤ 1048576
theorem EnR.nil (w0 : World) : EnR w0 [] := fun e h => by cases h
theorem EnR.add {w0 : World} {L : List En} {e : En} (h : EnR w0 L) (h1 : TmS w0 e.va e.d.tm.args) (h2 : e.d.tm.wt ≤ 1048576) : EnR w0 (L ++ [e]) := fun x hx => by
  rcases List.mem_append.1 hx with hx | hx
  · exact h x hx
  · rcases List.mem_singleton.1 hx with rfl; exact ⟨h1, h2⟩
theorem pr_at {w : World} {base g n cap k : Nat} {T : TypeId} {L : List En} {e : En} (h : w.ownsRow base T 3 (.slice (some ⟨g, 0, none⟩) n cap) n (enF L)) (hn : n = L.length) (he : L[k]? = some e) :
    w.cell? ⟨g, k * 3, none⟩ = some (.string e.d.var) ∧ w.cell? ⟨g, k * 3 + 1, none⟩ = some (.string e.d.tm.name) ∧ w.cell? ⟨g, k * 3 + 2, none⟩ = some e.va := by
  subst hn
  have hkl := (List.getElem?_eq_some_iff.1 he).1
  obtain ⟨h1, h2, h3⟩ := enF_at he
  have hc : ∀ j u, (enF L)[j]? = some u → w.cell? ⟨g, j, none⟩ = some u := fun j u hj => by
    have hjl := (List.getElem?_eq_some_iff.1 hj).1
    rw [enF_len] at hjl
    rw [h.cellAt j hjl]; exact hj
  exact ⟨hc _ _ h1, hc _ _ h2, hc _ _ h3⟩

def MEnd (p t : Tm) (w0 w : World) (g cap : Nat) (L : List En) (e : Ending) (w' : World) : Prop :=
  ∃ (g' cap' n' : Nat) (M : List En), e = .returned (.tuple #[.slice (some ⟨g', 0, none⟩) n' cap', .bool (matT p t (bdsE L)).2]) ∧ n' = (L ++ M).length ∧ bdsE (L ++ M) = (matT p t (bdsE L)).1 ∧
    w'.ownsRow w0.heap.size 167 3 (.slice (some ⟨g', 0, none⟩) n' cap') n' (enF (L ++ M)) ∧
    w'.ownsRow w0.heap.size 167 3 (.slice (some ⟨g, 0, none⟩) L.length cap) L.length (enF L) ∧
    EnR w0 (L ++ M) ∧ ((g' = g ∧ cap' = cap) ∨ w.heap.size ≤ g') ∧ w.grownBy w' (some g)

theorem MEnd.same {p t : Tm} {w0 w w' : World} {g cap n : Nat} {L : List En} {b : Bool} (hn : n = L.length) (h : matT p t (bdsE L) = (bdsE L, b)) (ho : w'.ownsRow w0.heap.size 167 3 (.slice (some ⟨g, 0, none⟩) n cap) n (enF L)) (hR : EnR w0 L) (hg : w.grownBy w' (some g)) :
    MEnd p t w0 w g cap L (.returned (.tuple #[.slice (some ⟨g, 0, none⟩) n cap, .bool b])) w' := by
  subst hn
  exact ⟨g, cap, _, [], by rw [h], by simp, by rw [h]; simp, by simpa using ho, ho, by simpa using hR, .inl ⟨rfl, rfl⟩, hg⟩

def MatS (p : Tm) : Prop := ∀ (t : Tm) (w0 w : World) (va vb : Value) (g cap : Nat) (L : List En), TmS w0 va p.args → TmS w0 vb t.args → Below w0.heap.size w0 w →
  w.ownsRow w0.heap.size 167 3 (.slice (some ⟨g, 0, none⟩) L.length cap) L.length (enF L) → EnR w0 L → L.length + p.wt ≤ 2097152 → p.wt ≤ 1048576 → t.wt ≤ 1048576 →
  Calls Try.prog 104 #[.agg #[.string p.name, va], .agg #[.string t.name, vb], .slice (some ⟨g, 0, none⟩) L.length cap] w (MEnd p t w0 w g cap L)

/-- What the loop over the arguments keeps. -/
structure MInv (p t : Tm) (w0 w w1 : World) (g cap : Nat) (L : List En) (k gk ck : Nat) (M : List En) (wr : World) : Prop where
  mat : matL p.args t.args (bdsE L) = matL (p.args.drop k) (t.args.drop k) (bdsE (L ++ M))
  row : wr.ownsRow w0.heap.size 167 3 (.slice (some ⟨gk, 0, none⟩) (L ++ M).length ck) (L ++ M).length (enF (L ++ M))
  old : wr.ownsRow w0.heap.size 167 3 (.slice (some ⟨g, 0, none⟩) L.length cap) L.length (enF L)
  rd : EnR w0 (L ++ M)
  at' : (gk = g ∧ ck = cap) ∨ w.heap.size + 2 ≤ gk
  grow : w1.grownBy wr (some g)
  len : (L ++ M).length ≤ L.length + sumL Tm.wt (p.args.take k)

theorem grown_trans_at {w1 wr w2 : World} {g gk n : Nat} (h : w1.grownBy wr (some g)) (h2 : wr.grownBy w2 (some gk)) (hn : w1.heap.size = n) (ha : gk = g ∨ n ≤ gk) : w1.grownBy w2 (some g) :=
  ⟨h2.os.trans h.os, h2.tape.trans h.tape, h2.output.trans h.output, Nat.le_trans h.size h2.size, fun b hb hne => by
    rw [h2.block b (Nat.lt_of_lt_of_le hb h.size) (fun e => by
      have e' : b = gk := Option.some.inj e
      rcases ha with ha | ha
      · subst ha; exact hne e
      · omega), h.block b hb hne]⟩
theorem grown_pre {w w1 w' : World} {r : Option Nat} (hb : Below w.heap.size w w1) (h : w1.grownBy w' r) : w.grownBy w' r :=
  ⟨h.os.trans hb.os, h.tape.trans hb.tape, h.output.trans hb.output, Nat.le_trans hb.size h.size, fun b hb' hne => by rw [h.block b (Nat.lt_of_lt_of_le hb' hb.size) hne, hb.block b hb']⟩

theorem below_gr {B : Nat} {w0 a b : World} {row : Option Nat} (h : Below B w0 a) (hB : B ≤ w0.heap.size) (hg : a.grownBy b row) (hr : ∀ g, row = some g → B ≤ g) : Below B w0 b := h.grown hg (Nat.le_trans hB h.size) hr
theorem sum_wt (t : Tm) : sumL Tm.wt t.args ≤ t.wt := by cases t with | node a l => simp only [Tm.args, Tm.wt, Tm.wtL_sum]; omega
theorem MInv.start {p t : Tm} {w0 w w1 : World} {g cap : Nat} {L : List En} (ho : w1.ownsRow w0.heap.size 167 3 (.slice (some ⟨g, 0, none⟩) L.length cap) L.length (enF L)) (hR : EnR w0 L) : MInv p t w0 w w1 g cap L 0 g cap [] w1 :=
  ⟨by simp, by simpa using ho, ho, by simpa using hR, .inl ⟨rfl, rfl⟩, ⟨rfl, rfl, rfl, Nat.le_refl _, fun _ _ _ => rfl⟩, by simp⟩
theorem MInv.done {p t : Tm} {w0 w w1 wr w2 : World} {g cap k gk ck n : Nat} {L M : List En} {b : Bool} (h : MInv p t w0 w w1 g cap L k gk ck M wr) (hB1 : Below w.heap.size w w1) (hv : varB p.name = false) (hn : p.name = t.name) (hl : p.args.length = t.args.length) (hnn : n = (L ++ M).length)
    (hm : matL (p.args.drop k) (t.args.drop k) (bdsE (L ++ M)) = (bdsE (L ++ M), b)) (hg : w1.grownBy w2 (some g)) (ho : w2.ownsRow w0.heap.size 167 3 (.slice (some ⟨gk, 0, none⟩) (L ++ M).length ck) (L ++ M).length (enF (L ++ M))) (hold : w2.ownsRow w0.heap.size 167 3 (.slice (some ⟨g, 0, none⟩) L.length cap) L.length (enF L)) :
    MEnd p t w0 w g cap L (.returned (.tuple #[.slice (some ⟨gk, 0, none⟩) n ck, .bool b])) w2 := by
  have e : matT p t (bdsE L) = (bdsE (L ++ M), b) := by rw [matT_args hv hn hl, h.mat, hm]
  subst hnn
  exact ⟨gk, ck, _, M, by rw [e], rfl, by rw [e], ho, hold, h.rd, h.at'.imp id (fun q => by omega), grown_pre hB1 hg⟩

theorem MInv.step {p t : Tm} {w0 w w1 wr W w2 : World} {g cap k gk ck g2 c2 n2 : Nat} {L M M2 : List En} {x y : Tm} (h : MInv p t w0 w w1 g cap L k gk ck M wr) (hw1 : w1.heap.size = w.heap.size + 2) (hg : g < w.heap.size)
    (hx : p.args[k]? = some x) (hy : t.args[k]? = some y) (hW : Below wr.heap.size wr W)
    (hn : n2 = (L ++ M ++ M2).length) (hm : bdsE (L ++ M ++ M2) = (matT x y (bdsE (L ++ M))).1) (ho : w2.ownsRow w0.heap.size 167 3 (.slice (some ⟨g2, 0, none⟩) n2 c2) n2 (enF (L ++ M ++ M2)))
    (hold : w2.ownsRow w0.heap.size 167 3 (.slice (some ⟨gk, 0, none⟩) (L ++ M).length ck) (L ++ M).length (enF (L ++ M))) (hR : EnR w0 (L ++ M ++ M2)) (ha : (g2 = gk ∧ c2 = ck) ∨ W.heap.size ≤ g2) (hgr : W.grownBy w2 (some gk)) :
    w1.grownBy w2 (some g) ∧ w2.ownsRow w0.heap.size 167 3 (.slice (some ⟨g, 0, none⟩) L.length cap) L.length (enF L) ∧ ((matT x y (bdsE (L ++ M))).2 = true → MInv p t w0 w w1 g cap L (k + 1) g2 c2 (M ++ M2) w2) := by
  have hgr' := grown_pre hW hgr
  have hG : w1.grownBy w2 (some g) := grown_trans_at h.grow hgr' hw1 (by rcases h.at' with h | h; exact .inl h.1; exact .inr h)
  have hO : w2.ownsRow w0.heap.size 167 3 (.slice (some ⟨g, 0, none⟩) L.length cap) L.length (enF L) := by
    rcases h.at' with ⟨rfl, rfl⟩ | h1
    · exact own_prefix (n' := (L ++ M).length) (ys := enF M) (by rw [← enF_append]; exact hold) (enF_len L) (by simp)
    · exact h.old.kept hgr' (.inr (by simp [Value.ownBlock]; omega))
  refine ⟨hG, hO, fun hs => ⟨?_, ?_, hO, ?_, ?_, hG, ?_⟩⟩
  · rw [h.mat, matL_yes hx hy hs, ← hm, List.append_assoc]
  · rw [← List.append_assoc, ← hn]; exact ho
  · rw [← List.append_assoc]; exact hR
  · rcases ha with ⟨rfl, rfl⟩ | ha
    · exact h.at'
    · have h1 := h.grow.size
      have h2 := hW.size
      exact .inr (by omega)
  · rw [← List.append_assoc, ← bdsE_len, hm, sumL_next hx]
    have := matT_len x y (bdsE (L ++ M))
    have hl := h.len
    rw [bdsE_len] at this
    omega

set_option maxRecDepth 100000 in
set_option maxHeartbeats 4000000 in
theorem mat_of (p : Tm) (h : ∀ s ∈ p.args, MatS s) : MatS p := by
  intro t w0 w va vb g cap L hva hvb hB hown hR hlen hwp hwt
  have H := Lib.hid h
  have HWP := Lib.hid (fun (s : Tm) (hs : s ∈ p.args) => Nat.le_trans (Tm.wt_arg hs) hwp)
  have HWT := Lib.hid (fun (s : Tm) (hs : s ∈ t.args) => Nat.le_trans (Tm.wt_arg hs) hwt)
  have hlp := Tm.wt_len p
  have hlt' := Tm.wt_len t
  obtain ⟨pa, ca, rfl⟩ := hva.is_slice
  obtain ⟨pb, cb, rfl⟩ := hvb.is_slice
  obtain ⟨hbg, hgl⟩ := hown.lt g rfl
  have HVA := Lib.hid hva
  have HVB := Lib.hid hvb
  have HB0 := Lib.hid hB
  have HR := Lib.hid hR
  obtain ⟨w1, hw1⟩ : ∃ w1, (w.alloc (.cells #[.string p.name, .slice pa p.args.length ca] 38)).alloc (.cells #[.string t.name, .slice pb t.args.length cb] 38) = w1 := ⟨_, rfl⟩
  have HP1 : Hid (Two w1 w.heap.size (.string p.name) (.slice pa p.args.length ca)) := Lib.hid (by rw [← hw1]; exact (two_new _ _ _ 38 _ rfl).alloc _)
  have HT1 : Hid (Two w1 (w.heap.size + 1) (.string t.name) (.slice pb t.args.length cb)) := Lib.hid (by rw [← hw1]; exact two_new _ _ _ 38 (w.heap.size + 1) (by simp))
  have HB1 : Hid (Below w.heap.size w w1) := Lib.hid (by rw [← hw1]; exact ((Below.refl w.heap.size w).alloc (Nat.le_refl _) _).alloc (by simp) _)
  have HZ1 : Hid (w1.heap.size = w.heap.size + 2) := Lib.hid (by rw [← hw1]; simp)
  have HO1 := Lib.hid (own_kept hown HB1.out)
  have HW0 := Lib.hid (carry_below HB0.out (Nat.le_refl _) HB1.out)
  have CV := Lib.hid (fun W => l2Var_any p.name W (by have := p.wt_name; unfold maxLen; omega))
  obtain ⟨i0, hi, hz0, hz1, hz2⟩ := info_parts infoPr
  obtain ⟨p0, p1, p2⟩ := HP1.out
  obtain ⟨t0, t1, t2⟩ := HT1.out
  clear h hva hvb hB hown hR
  cases hv : varB p.name with
  | true =>
    rw [hv] at CV
    have HV := Lib.hid hv
    clear hv
    go_enter Try.func104, Try.ntmps104
    go_wp2_with (go_at_call 88; refine (CV.out _).mono ?_; rintro e w' ⟨rfl, rfl⟩)
    go_loopw [8] (fun i wr => ∃ k : Nat, k ≤ L.length ∧ i = .int .i64 k ∧ (∀ j x, j < k → (bdsE L)[j]? = some x → x.var ≠ p.name) ∧ Below w1.heap.size w1 wr) (fun i _ => L.length - (intOf i).toNat)
    case atStart => exact ⟨0, Nat.zero_le _, rfl, fun j x hj => absurd hj (Nat.not_lt_zero _), Below.refl _ _⟩
    case round =>
      obtain ⟨k, hk, rfl, hno, hbe⟩ := hrel
      have HNO := Lib.hid hno
      have HBE := Lib.hid hbe
      have HP2 := Lib.hid (HP1.out.kept HBE.out)
      have HT2 := Lib.hid (HT1.out.kept HBE.out)
      have HO2 := Lib.hid (own_kept HO1.out HBE.out)
      have HWR := Lib.hid (carry_below HW0.out (Nat.le_refl _) HBE.out)
      have HGR : Hid (w.grownBy wr (some g)) := Lib.hid (grown_of_below (carry_below HB1.out (Nat.le_refl _) HBE.out) _)
      clear hno hbe p0 p1 p2 t0 t1 t2
      obtain ⟨p0, p1, p2⟩ := HP2.out
      obtain ⟨t0, t1, t2⟩ := HT2.out
      by_cases hlt : k < L.length
      · obtain ⟨x, hx⟩ : ∃ s, L[k]? = some s := ⟨_, List.getElem?_eq_getElem hlt⟩
        obtain ⟨x0, x1, x2⟩ := pr_at HO2.out rfl hx
        have HX := Lib.hid hx
        obtain ⟨hxa, hxw⟩ := HR.out x (List.mem_of_getElem? hx)
        obtain ⟨px, cx, hxv⟩ := hxa.is_slice
        rw [hxv] at x2 hxa
        have HXA := Lib.hid hxa
        clear hx hxa hxv
        have hB0 : Below wr.heap.size wr wr.drew := (Below.refl _ _).drew
        by_cases hq : x.d.var = p.name
        · have hq2 := str_eq hq
          have HQ := Lib.hid hq
          clear hq
          have C0 : Hid (∀ W : World, Below wr.heap.size wr W → Calls Try.prog 75 #[.agg #[.string x.d.tm.name, .slice px x.d.tm.args.length cx], .agg #[.string t.name, .slice pb t.args.length cb]] W (Ans (.bool (eqT x.d.tm t)) W)) := Lib.hid (fun W hW => l2Same_any x.d.tm t W _ _ ((HXA.out.kept HWR.out).kept hW) ((HVB.out.kept HWR.out).kept hW) hxw hwt)
          go_wp2_with fail
          go_quiet (fail)
          go_wp2_with fail
          have hB1 : Below wr.heap.size wr (wr.drewN nq).drew := (below_drewN' _ wr nq).drew
          go_region_held3 (fun w' => w'.cell? ⟨g, k * 3 + 1, none⟩ = some (.string x.d.tm.name) ∧ w'.cell? ⟨g, k * 3 + 2, none⟩ = some (.slice px x.d.tm.args.length cx) ∧ w'.cell? ⟨w.heap.size + 1, 0, none⟩ = some (.string t.name) ∧ w'.cell? ⟨w.heap.size + 1, 1, none⟩ = some (.slice pb t.args.length cb) ∧ Below wr.heap.size wr w') (first | exact ⟨by assumption, by assumption, by assumption, by assumption, by assumption⟩ | go_keep) (first | (go_at_call 75; refine (C0.out _ (by assumption)).mono ?_; rintro e w' ⟨rfl, hb⟩; have hc1' := carry_cell' hb x1; have hc2' := carry_cell' hb x2; have hc3' := carry_cell' hb t0; have hc4' := carry_cell' hb t1; have hB' := carry_below (by assumption) (Nat.le_refl _) hb))
          have hB2 : Below wr.heap.size wr w' := by assumption
          have HE : Hid (MEnd p t w0 w g cap L (.returned (.tuple #[.slice (some ⟨g, 0, none⟩) L.length cap, .bool (eqT x.d.tm t)])) w') := Lib.hid (MEnd.same rfl (matT_found HV.out (find_at HNO.out (bdsE_at HX.out) HQ.out)) (own_kept HO2.out hB2) HR.out (grown_of_below (carry_below (carry_below HB1.out (Nat.le_refl _) HBE.out) (Nat.le_refl _) hB2) _))
          go_wp2
          go_ret2
          exact HE.out
        · have hq2 := str_ne hq
          have HQ : Hid (∀ j y, j < k + 1 → (bdsE L)[j]? = some y → y.var ≠ p.name) := Lib.hid (fun j y hj hy => by
            by_cases e : j < k
            · exact HNO.out j y e hy
            · have e' : j = k := by omega
              subst e'
              rw [bdsE_at HX.out] at hy
              cases hy
              exact hq)
          clear hq
          go_wp2_with fail
          go_quiet (fail)
          go_wp2
          go_roundw
          case rel => exact ⟨k + 1, by omega, by go_num, HQ.out, HBE.out.trans (below_drewN' _ _ _)⟩
          case measure => simp [intOf]; omega
      · have hke : k = L.length := by omega
        subst hke
        have HM := matT_new (t := t) HV.out (find_none (l := bdsE L) (fun j x hj hx => HNO.out j x (by rw [bdsE_len] at hj; exact hj) hx))
        have HM := Lib.hid HM
        have hzz := HBE.out.size
        have hzw1 := HZ1.out
        go_wp2_with (go_loud (at_builtin); go_loud (refine wpList_app_both rfl _ _ _ (by rfl) w0.heap.size 167 i0 _ 3 56 Try.underlying118 hi hz0 hz1 hz2 rfl (by omega) g L.length cap (enF L) (by rfl) (HO2.out.alloc _) ⟨wr.heap.size, 0, none⟩ 1 [.string p.name, .string t.name, .slice pb t.args.length cb] (by rfl) (by rfl) (World.news_of_block (cs := #[.string p.name, .string t.name, .slice pb t.args.length cb]) (t := 167) (fr := (0, 0)) (heap_alloc_new wr _)) (by simp [Value.oneCell']) (by omega) (by omega) (by simp; omega) ?_); go_loud (intro gg cc w7 hn7 ho7 hg7 ha7 hl7); go_loud (have HE : Hid (MEnd p t w0 w g cap L (.returned (.tuple #[.slice (some ⟨gg, 0, none⟩) (L.length + 1) cc, .bool true])) w7) := Lib.hid ⟨gg, cc, L.length + 1, [⟨⟨p.name, t⟩, .slice pb t.args.length cb, fun _ => False⟩], by rw [HM.out], by simp, by rw [HM.out, bdsE_append]; rfl, by rw [enF_append]; exact hn7, ho7, HR.out.add HVB.out hwt, ha7.imp id (fun q => by simp at q; omega), grown_pre ((carry_below HB1.out (Nat.le_refl _) HBE.out).alloc (by omega) _) hg7⟩); clear hn7 ho7 hg7 ha7 hl7)
        go_ret2
        exact HE.out
  | false =>
    rw [hv] at CV
    have HV := Lib.hid hv
    clear hv
    by_cases hn : p.name = t.name
    · have hq := str_eq hn
      have hq2 : (p.name.toList != t.name.toList) = false := by rw [bne, hq]; rfl
      by_cases hl : p.args.length = t.args.length
      · have HN := Lib.hid hn
        have HL := Lib.hid hl
        have hl2 : ((p.args.length : Int) != (t.args.length : Int)) = false := by rw [hl]; simp
        clear hn hl
        go_enter Try.func104, Try.ntmps104
        go_wp2_with (go_at_call 88; refine (CV.out _).mono ?_; rintro e w' ⟨rfl, rfl⟩)
        go_loopw [2, 9] (fun kv i wr => ∃ (k gk ck n : Nat) (M : List En), k ≤ p.args.length ∧ i = .int .i64 k ∧ kv = .slice (some ⟨gk, 0, none⟩) n ck ∧ n = (L ++ M).length ∧ MInv p t w0 w w1 g cap L k gk ck M wr) (fun _ i _ => p.args.length - (intOf i).toNat)
        case atStart => exact ⟨0, g, cap, L.length, [], Nat.zero_le _, rfl, rfl, by simp, MInv.start HO1.out HR.out⟩
        case round =>
          obtain ⟨k, gk, ck, n, M, hk, rfl, rfl, hnn, hI⟩ := hrel
          have HI := Lib.hid hI
          have HNN := Lib.hid hnn
          have HWR := Lib.hid (below_gr HW0.out (Nat.le_refl _) hI.grow (fun q e => by cases e; exact hbg))
          have hgk := (hI.row.lt gk rfl).1
          have hgp : w.heap.size ≠ gk := by rcases hI.at' with h | h <;> omega
          have hgt : w.heap.size + 1 ≠ gk := by rcases hI.at' with h | h <;> omega
          have d1 := hI.grow.cell p1 (by simp; omega)
          have d2 := hI.grow.cell t1 (by simp; omega)
          clear hI hnn
          by_cases hlt : k < p.args.length
          · have hltb : k < t.args.length := by have := HL.out; omega
            obtain ⟨x, hx⟩ : ∃ s, p.args[k]? = some s := ⟨_, List.getElem?_eq_getElem hlt⟩
            obtain ⟨y, hy⟩ : ∃ s, t.args[k]? = some s := ⟨_, List.getElem?_eq_getElem hltb⟩
            obtain ⟨g1, o1, rfl, v1, x0, x1, x2⟩ := HVA.out.get hx
            obtain ⟨g2, o2, rfl, v2, y0, y1, y2⟩ := HVB.out.get hy
            have hg1 : g1 ≠ gk := by have := World.block_lt_of_cell? w0 _ x0; simp at this; omega
            have hg2 : g2 ≠ gk := by have := World.block_lt_of_cell? w0 _ y0; simp at this; omega
            have x0' := carry_cell x0 HWR.out
            have x1' := carry_cell x1 HWR.out
            have y0' := carry_cell y0 HWR.out
            have y1' := carry_cell y1 HWR.out
            have X2 := Lib.hid x2
            have Y2 := Lib.hid y2
            have HXX := Lib.hid hx
            have HYY := Lib.hid hy
            have hbd : (L ++ M).length + x.wt ≤ 2097152 := by
              have h1 := HI.out.len
              have h2 := sumL_next (f := Tm.wt) hx
              have h3 := sumL_take Tm.wt p.args (k + 1)
              have h4 := sum_wt p
              omega
            clear hx hy x0 x1 y0 y1 x2 y2
            have C0 : Hid (∀ W : World, Below wr.heap.size wr W → Calls Try.prog 104 #[.agg #[.string x.name, v1], .agg #[.string y.name, v2], .slice (some ⟨gk, 0, none⟩) n ck] W (MEnd x y w0 W gk ck (L ++ M))) := Lib.hid (fun W hW => by
              rw [HNN.out]
              exact H.out x (mem_of_at HXX.out) y w0 W _ _ gk ck (L ++ M) X2.out Y2.out (carry_below HWR.out (Nat.le_refl _) hW) (own_kept HI.out.row hW) HI.out.rd hbd (HWP.out x (mem_of_at HXX.out)) (HWT.out y (mem_of_at HYY.out)))
            have hB0 : Below wr.heap.size wr wr.drew := (Below.refl _ _).drew
            go_wp2_with fail
            go_region_held3 (fun w' => w'.cell? ⟨w.heap.size, 1, none⟩ = some (.slice (some ⟨g1, o1, none⟩) p.args.length ca) ∧ w'.cell? ⟨w.heap.size + 1, 1, none⟩ = some (.slice (some ⟨g2, o2, none⟩) t.args.length cb) ∧ w'.cell? ⟨g1, o1 + k * 2, none⟩ = some (.string x.name) ∧ w'.cell? ⟨g1, o1 + k * 2 + 1, none⟩ = some v1 ∧ w'.cell? ⟨g2, o2 + k * 2, none⟩ = some (.string y.name) ∧ w'.cell? ⟨g2, o2 + k * 2 + 1, none⟩ = some v2) (first | exact ⟨by assumption, by assumption, by assumption, by assumption, by assumption, by assumption⟩ | go_keep) (first | (go_loud (go_at_call 104); go_loud (refine (C0.out _ (by assumption)).mono ?_); go_loud (rintro e w2 ⟨gq, cq, nq, Mq, rfl, hn2, hm2, ho2, hold2, hR2, ha2, hgr2⟩); go_loud (have HS2 := Lib.hid (HI.out.step HZ1.out hgl HXX.out HYY.out (by assumption) hn2 hm2 ho2 hold2 hR2 ha2 hgr2)); have HOLD := Lib.hid hold2; have HNQ := Lib.hid hn2; go_loud (have q1 := hgr2.cell d1 (by simp; omega)); have q2 := hgr2.cell d2 (by simp; omega); go_loud (have q3 := hgr2.cell x0' (by simp; omega)); have q4 := hgr2.cell x1' (by simp; omega); have q5 := hgr2.cell y0' (by simp; omega); have q6 := hgr2.cell y1' (by simp; omega); clear hn2 hm2 ho2 hold2 hR2 ha2 hgr2))
            cases hE : (matT x y (bdsE (L ++ M))).2
            · have HE : Hid (MEnd p t w0 w g cap L (.returned (.tuple #[.slice (some ⟨gk, 0, none⟩) n ck, .bool false])) w2) := Lib.hid (HI.out.done HB1.out HV.out HN.out HL.out HNN.out (matL_no HXX.out HYY.out hE) HS2.out.1 HOLD.out HS2.out.2.1)
              clear hE
              go_wp2
              go_ret2
              exact HE.out
            · have HE := Lib.hid (HS2.out.2.2 hE)
              clear hE
              go_wp2
              go_roundw
              case rel => exact ⟨k + 1, gq, cq, nq, M ++ Mq, by omega, by go_num, rfl, by rw [HNQ.out, List.append_assoc], HE.out⟩
              case measure => simp [intOf]; omega
          · have hke : k = p.args.length := by omega
            subst hke
            have HE : Hid (MEnd p t w0 w g cap L (.returned (.tuple #[.slice (some ⟨gk, 0, none⟩) n ck, .bool true])) wr) := Lib.hid (HI.out.done HB1.out HV.out HN.out HL.out HNN.out (matL_end (Nat.le_refl _)) HI.out.grow HI.out.row HI.out.old)
            go_wp2
            go_ret2
            exact HE.out
      · have HE : Hid (MEnd p t w0 w g cap L (.returned (.tuple #[.slice (some ⟨g, 0, none⟩) L.length cap, .bool false])) w1) := Lib.hid (MEnd.same rfl (matT_no HV.out (fun h => hl h.2)) HO1.out HR.out (grown_of_below HB1.out _))
        have hl2 : ((p.args.length : Int) != (t.args.length : Int)) = true := by simp; omega
        have hl3 : ((p.args.length : Int) == (t.args.length : Int)) = false := by simp; omega
        clear hn hl
        go_enter Try.func104, Try.ntmps104
        go_wp2_with (go_at_call 88; refine (CV.out _).mono ?_; rintro e w' ⟨rfl, rfl⟩)
        go_ret2
        exact HE.out
    · have HE : Hid (MEnd p t w0 w g cap L (.returned (.tuple #[.slice (some ⟨g, 0, none⟩) L.length cap, .bool false])) w1) := Lib.hid (MEnd.same rfl (matT_no HV.out (fun h => hn h.1)) HO1.out HR.out (grown_of_below HB1.out _))
      have hq := str_ne hn
      have hq2 : (p.name.toList != t.name.toList) = true := by rw [bne, hq]; rfl
      clear hn
      go_enter Try.func104, Try.ntmps104
      go_wp2_with (go_at_call 88; refine (CV.out _).mono ?_; rintro e w' ⟨rfl, rfl⟩)
      go_ret2
      exact HE.out

theorem l4Match_any (p : Tm) : MatS p := Tm.ind (P := MatS) mat_of p

end Go.Proofs.Ytnkonhdnccolhaa

/- The model's substitution behind a match: a contract, for at most 1000000 bindings of different names. -/
namespace Go.Proofs.Ytnkonhdnccolhaa
open Go.RowKit
set_option linter.unusedVariables false

set_option maxRecDepth 100000 in
set_option maxHeartbeats 8000000 in
theorem l4Pairs_any (base g n cap : Nat) (L : List En) (w : World) (hn : n = L.length) (hown : w.ownsRow base 167 3 (.slice (some ⟨g, 0, none⟩) n cap) n (enF L)) (hR : EnR w L) (hnd : NdB (bdsE L)) (hl : L.length ≤ 1000000) :
    Calls Try.prog 105 #[.slice (some ⟨g, 0, none⟩) n cap] w (CmpEnd (pT (bdsE L) L.length) w) := by
  subst hn
  obtain ⟨_, hgl⟩ := hown.lt g rfl
  have HR := Lib.hid hR
  have HOWN := Lib.hid hown
  have HND := Lib.hid hnd
  obtain ⟨w0, hw0⟩ : ∃ w0, (w.alloc (.cells #[.slice none 0 0] 34)).alloc (.cells #[.slice none 0 0] 34) = w0 := ⟨_, rfl⟩
  have HB0 : Hid (Below w.heap.size w w0) := Lib.hid (by rw [← hw0]; exact ((Below.refl w.heap.size w).alloc (Nat.le_refl _) _).alloc (by simp) _)
  have R0 : Hid (Oner w0 w.heap.size (.slice none 0 0)) := Lib.hid (by rw [← hw0]; exact (oner_new w (.slice none 0 0) 34 _ rfl).alloc _)
  have O0 : Hid (Oner w0 (w.heap.size + 1) (.slice none 0 0)) := Lib.hid (by rw [← hw0]; exact oner_new _ (.slice none 0 0) 34 (w.heap.size + 1) (by simp))
  have hw0z : w0.heap.size = w.heap.size + 2 := by rw [← hw0]; simp
  clear hR hown hnd
  have C1 : Hid (CmpRel w0.heap.size (w.heap.size + 1) (pT (bdsE L) 0) (w0.setCell ⟨w.heap.size + 1, 0, none⟩ (.slice none 0 0))) := Lib.hid ⟨_, [], O0.out.setIt _, RowE.nil _ _ _, rfl, by rw [size_setCell]; exact Nat.le_refl _⟩
  have R1 : Hid (Oner (w0.setCell ⟨w.heap.size + 1, 0, none⟩ (.slice none 0 0)) w.heap.size (.slice none 0 0)) := Lib.hid (R0.out.setFar (by simp) _)
  have B1 : Hid (Below w.heap.size w (w0.setCell ⟨w.heap.size + 1, 0, none⟩ (.slice none 0 0))) := Lib.hid (HB0.out.setCell (by simp) _)
  obtain ⟨r0, r1⟩ := R0.out
  obtain ⟨o0, o1⟩ := O0.out
  go_enter Try.func105, Try.ntmps105
  go_wp2
  go_loopw [4] (fun i wr => ∃ k : Nat, k ≤ L.length ∧ i = .int .i64 k ∧ CmpRel w0.heap.size (w.heap.size + 1) (pT (bdsE L) k) wr ∧ Oner wr w.heap.size (.slice none 0 0) ∧ Below w.heap.size w wr) (fun i _ => L.length - (intOf i).toNat)
  case atStart => exact ⟨0, Nat.zero_le _, rfl, C1.out, R1.out, B1.out⟩
  case round =>
    obtain ⟨k, hk, rfl, ⟨ov, E, ho, hrow, hbds, hbase⟩, hRR, hbel⟩ := hrel
    have HO := Lib.hid ho
    have HROW := Lib.hid hrow
    have HBD := Lib.hid hbds
    have HRC := Lib.hid hRR
    have HB := Lib.hid hbel
    obtain ⟨oa, oc, rfl⟩ := hrow.is_slice
    have hzr : w.heap.size + 1 < wr.heap.size := World.block_lt_of_cell? wr ⟨_, 0, none⟩ ho.1
    have HBS := Lib.hid hbase
    have HPW := Lib.hid (own_kept HOWN.out HB.out)
    clear ho hrow hbds hRR hbel hbase r0 r1 o0 o1
    obtain ⟨r0, r1⟩ := HRC.out
    obtain ⟨o0, o1⟩ := HO.out
    by_cases hlt : k < L.length
    · obtain ⟨x, hx⟩ : ∃ s, L[k]? = some s := ⟨_, List.getElem?_eq_getElem hlt⟩
      obtain ⟨x0, x1, x2⟩ := pr_at HPW.out rfl hx
      obtain ⟨hxa, hxw⟩ := HR.out x (List.mem_of_getElem? hx)
      obtain ⟨px, cx, hxv⟩ := hxa.is_slice
      rw [hxv] at x2 hxa
      have HXA := Lib.hid (hxa.kept HB.out)
      have HNX := Lib.hid (pT_next (bdsE_at hx))
      have HAS := Lib.hid (pT_asc HND.out k (by rw [bdsE_len]; exact hk))
      have P0 : Hid (∀ (W : World), Below wr.heap.size wr W → Calls Try.prog 147 #[.agg #[.slice oa E.length oc], .string x.d.var, .agg #[.string x.d.tm.name, .slice px x.d.tm.args.length cx]] W (PutEnd w0.heap.size w0.heap.size E ⟨x.d.var, x.d.tm⟩ W)) := Lib.hid (fun W hW =>
        l4Put_any _ _ _ E x.d.var x.d.tm _ W (HROW.out.kept hW) (by rw [HBD.out]; exact HAS.out.1) (HXA.out.kept hW) hxw (by rw [← bdsE_len, HBD.out]; have := HAS.out.2.2; omega) (Nat.le_trans HBS.out hW.size) (Nat.le_trans HBS.out hW.size))
      have hB0 : Below wr.heap.size wr wr.drew := (Below.refl _ _).drew
      clear hx hxa hxv
      go_wp2_with fail
      refine sink_start 12 (fun w' => w'.cell? ⟨w.heap.size + 1, 0, none⟩ = some (.slice oa E.length oc) ∧ w'.cell? ⟨g, k * 3, none⟩ = some (.string x.d.var) ∧ w'.cell? ⟨g, k * 3 + 1, none⟩ = some (.string x.d.tm.name) ∧ w'.cell? ⟨g, k * 3 + 2, none⟩ = some (.slice px x.d.tm.args.length cx)) (by kernel_rfl) (by exact ⟨by assumption, by assumption, by assumption, by assumption⟩) (fun hHeld => ?_)
      refine sink_take 0 (v := ?_) rfl (by kernel_rfl) (by kernel_rfl) (by kernel_rfl) (by kernel_rfl) (by rfl) (fun _ _ _ h => h) (by assumption) ?_ ?_; rotate_left; (intro w hSw; (try dsimp only at hSw); go_simp; try (with_reducible rfl))
      try simp only [Act.put, List.getElem_toArray, List.getElem_cons_zero, List.setIfInBounds_toArray, List.set_cons_zero, List.set_cons_succ]
      refine sink_take 1 (v := ?_) rfl (by kernel_rfl) (by kernel_rfl) (by kernel_rfl) (by kernel_rfl) (by rfl) (fun _ _ _ h => h) (by assumption) ?_ ?_; rotate_left; (intro w hSw; (try dsimp only at hSw); go_simp; try (with_reducible rfl))
      try simp only [Act.put, List.getElem_toArray, List.getElem_cons_zero, List.getElem_cons_succ, List.setIfInBounds_toArray, List.set_cons_zero, List.set_cons_succ]
      refine sink_take 2 (v := ?_) rfl (by kernel_rfl) (by kernel_rfl) (by kernel_rfl) (by kernel_rfl) (by rfl) (fun _ _ _ h => h) (by assumption) ?_ ?_; rotate_left; (intro w hSw; (try dsimp only at hSw); go_simp; try (with_reducible rfl))
      try simp only [Act.put, List.getElem_toArray, List.getElem_cons_zero, List.getElem_cons_succ, List.setIfInBounds_toArray, List.set_cons_zero, List.set_cons_succ]
      refine sink_take 3 (v := ?_) rfl (by kernel_rfl) (by kernel_rfl) (by kernel_rfl) (by kernel_rfl) (by rfl) (fun _ _ _ h => h) (by assumption) ?_ ?_; rotate_left; (intro w hSw; (try dsimp only at hSw); go_simp; try (with_reducible rfl))
      try simp only [Act.put, List.getElem_toArray, List.getElem_cons_zero, List.getElem_cons_succ, List.setIfInBounds_toArray, List.set_cons_zero, List.set_cons_succ]
      refine sink_take 4 (v := ?_) rfl (by kernel_rfl) (by kernel_rfl) (by kernel_rfl) (by kernel_rfl) (by rfl) (fun _ _ _ h => h) (by assumption) ?_ ?_; rotate_left; (intro w hSw; (try dsimp only at hSw); go_simp; try (with_reducible rfl))
      try simp only [Act.put, List.getElem_toArray, List.getElem_cons_zero, List.getElem_cons_succ, List.setIfInBounds_toArray, List.set_cons_zero, List.set_cons_succ]
      refine sink_take 5 (v := ?_) rfl (by kernel_rfl) (by kernel_rfl) (by kernel_rfl) (by kernel_rfl) (by rfl) (fun _ _ _ h => h) (by assumption) ?_ ?_; rotate_left; (intro w hSw; (try dsimp only at hSw); go_simp; try (with_reducible rfl))
      try simp only [Act.put, List.getElem_toArray, List.getElem_cons_zero, List.getElem_cons_succ, List.setIfInBounds_toArray, List.set_cons_zero, List.set_cons_succ]
      refine sink_take 6 (v := ?_) rfl (by kernel_rfl) (by kernel_rfl) (by kernel_rfl) (by kernel_rfl) (by rfl) (fun _ _ _ h => h) (by assumption) ?_ ?_; rotate_left; (intro w hSw; (try dsimp only at hSw); go_simp; try (with_reducible rfl))
      try simp only [Act.put, List.getElem_toArray, List.getElem_cons_zero, List.getElem_cons_succ, List.setIfInBounds_toArray, List.set_cons_zero, List.set_cons_succ]
      refine sink_take 7 (v := ?_) rfl (by kernel_rfl) (by kernel_rfl) (by kernel_rfl) (by kernel_rfl) (by rfl) (fun _ _ _ h => h) (by assumption) ?_ ?_; rotate_left; (intro w hSw; (try dsimp only at hSw); go_simp; try (with_reducible rfl))
      try simp only [Act.put, List.getElem_toArray, List.getElem_cons_zero, List.getElem_cons_succ, List.setIfInBounds_toArray, List.set_cons_zero, List.set_cons_succ]
      refine sink_take 8 (v := ?_) rfl (by kernel_rfl) (by kernel_rfl) (by kernel_rfl) (by kernel_rfl) (by rfl) (fun _ _ _ h => h) (by assumption) ?_ ?_; rotate_left; (intro w hSw; (try dsimp only at hSw); go_simp; try (with_reducible rfl))
      try simp only [Act.put, List.getElem_toArray, List.getElem_cons_zero, List.getElem_cons_succ, List.setIfInBounds_toArray, List.set_cons_zero, List.set_cons_succ]
      refine sink_take 9 (v := ?_) rfl (by kernel_rfl) (by kernel_rfl) (by kernel_rfl) (by kernel_rfl) (by rfl) (fun _ _ _ h => h) (by assumption) ?_ ?_; rotate_left; (intro w hSw; (try dsimp only at hSw); go_simp; try (with_reducible rfl))
      try simp only [Act.put, List.getElem_toArray, List.getElem_cons_zero, List.getElem_cons_succ, List.setIfInBounds_toArray, List.set_cons_zero, List.set_cons_succ]
      refine sink_take 10 (v := ?_) rfl (by kernel_rfl) (by kernel_rfl) (by kernel_rfl) (by kernel_rfl) (by rfl) (fun _ _ _ h => h) (by assumption) ?_ ?_; rotate_left; (intro w hSw; (try dsimp only at hSw); go_simp; try (with_reducible rfl))
      try simp only [Act.put, List.getElem_toArray, List.getElem_cons_zero, List.getElem_cons_succ, List.setIfInBounds_toArray, List.set_cons_zero, List.set_cons_succ]
      refine sink_one (i := 11) (by kernel_rfl) rfl (fun K hK => ?_)
      go_simp
      go_at_call 147; refine (P0.out _ hB0).mono ?_; rintro e w7 ⟨v7, L7, rfl, hr7, hd7, hb⟩; have t0 := carry_cell' hb o0; have t1 := carry_cell' hb x0; have t2 := carry_cell' hb x1; have t3 := carry_cell' hb x2; have hB7 := carry_below hB0 (Nat.le_refl _) hb; have HO7 := Lib.hid (HO.out.kept hB7); have t6 := HO7.out.2; obtain ⟨p7, c7, rfl⟩ := hr7.is_slice; have HR7 := Lib.hid hr7; have HD7 := Lib.hid hd7; clear hb hr7 hd7; go_wp2_with fail
      refine hK.out _ _ (fun _ => by exact ⟨by assumption, by assumption, by assumption, by assumption⟩) (fun hHeld => ?_)
      have hHeld := hHeld (by decide)
      clear hK K
      try simp only [Act.put, List.getElem_toArray, List.getElem_cons_zero, List.getElem_cons_succ, List.setIfInBounds_toArray, List.set_cons_zero, List.set_cons_succ]
      refine sink_one (i := 12) (by kernel_rfl) rfl (fun K hK => ?_)
      go_simp
      refine hK.out _ _ (fun hne => absurd rfl hne) (fun hHeld => ?_)
      clear hK K
      try simp only [Act.put, List.getElem_toArray, List.getElem_cons_zero, List.getElem_cons_succ, List.setIfInBounds_toArray, List.set_cons_zero, List.set_cons_succ]
      refine sink_done (by kernel_rfl) ?_ _
      have HRN : Hid (CmpRel w0.heap.size (w.heap.size + 1) (pT (bdsE L) (k + 1)) (w7.setCell ⟨w.heap.size + 1, 0, none⟩ (.slice p7 L7.length c7))) := Lib.hid (CmpRel.next (wr := wr) HO7.out HR7.out (by rw [HD7.out, HBD.out, HNX.out]) (by omega) (by have := HBS.out; have := hB7.size; omega))
      have HRS : Hid (Oner (w7.setCell ⟨w.heap.size + 1, 0, none⟩ (.slice p7 L7.length c7)) w.heap.size (.slice none 0 0)) := Lib.hid ((HRC.out.kept hB7).setFar (by simp; try omega) _)
      have HBN : Hid (Below w.heap.size w (w7.setCell ⟨w.heap.size + 1, 0, none⟩ (.slice p7 L7.length c7))) := Lib.hid ((carry_below HB.out (Nat.le_refl _) hB7).setCell (by simp) _)
      clear hB7 hB0 t0 t1 t2 t3 t6
      go_wp2
      go_roundw
      case rel => exact ⟨k + 1, by omega, by go_num, HRN.out, HRS.out, HBN.out⟩
      case measure => simp [intOf]; omega
    · have hke : k = L.length := by omega
      have HF : Hid (CmpEnd (pT (bdsE L) L.length) w (.returned (.agg #[.slice oa E.length oc])) (wr.setCell ⟨w.heap.size, 0, none⟩ (.slice oa E.length oc))) := Lib.hid ⟨_, E, rfl, (HROW.out.setBelow (by simp; try omega) (by simp; try omega) _).mono (by omega) (by omega), by rw [HBD.out, hke], HB.out.setCell (by simp; try omega) _⟩
      clear hke
      go_wp2
      refine bodyPost_ret (v := .agg #[.slice oa E.length oc]) (by simp [results, Try.results105, go_sem, r0]) rfl ?_
      exact HF.out

end Go.Proofs.Ytnkonhdnccolhaa

/- MatchTerms, the model's: a contract, for terms of at most 1048576 names' bytes and arguments. -/
namespace Go.Proofs.Ytnkonhdnccolhaa
open Go.RowKit
set_option linter.unusedVariables false

set_option maxRecDepth 100000 in
set_option maxHeartbeats 1000000 in
theorem specMatch_any (p t : Tm) (w : World) (va vb : Value) (hva : TmS w va p.args) (hvb : TmS w vb t.args) (hwp : p.wt ≤ 1048576) (hwt : t.wt ≤ 1048576) :
    Calls Try.prog 36 #[.agg #[.string p.name, va], .agg #[.string t.name, vb]] w (BdOkEnd (mR p t) (mOk p t) w) := by
  obtain ⟨pa, ca, rfl⟩ := hva.is_slice
  obtain ⟨pb, cb, rfl⟩ := hvb.is_slice
  have HVA := Lib.hid hva
  have HVB := Lib.hid hvb
  obtain ⟨w0, hw0⟩ : ∃ w0, ((w.alloc (.cells #[.string p.name, .slice pa p.args.length ca] 38)).alloc (.cells #[.string t.name, .slice pb t.args.length cb] 38)).alloc (.cells #[.slice none 0 0] 34) = w0 := ⟨_, rfl⟩
  have HB0 : Hid (Below w.heap.size w w0) := Lib.hid (by rw [← hw0]; exact (((Below.refl w.heap.size w).alloc (Nat.le_refl _) _).alloc (by simp) _).alloc (by simp; omega) _)
  have P0 : Hid (Two w0 w.heap.size (.string p.name) (.slice pa p.args.length ca)) := Lib.hid (by rw [← hw0]; exact ((two_new _ _ _ 38 _ rfl).alloc _).alloc _)
  have T0 : Hid (Two w0 (w.heap.size + 1) (.string t.name) (.slice pb t.args.length cb)) := Lib.hid (by rw [← hw0]; exact (two_new _ _ _ 38 (w.heap.size + 1) (by simp)).alloc _)
  have R0 : Hid (Oner w0 (w.heap.size + 1 + 1) (.slice none 0 0)) := Lib.hid (by rw [← hw0]; exact oner_new _ (.slice none 0 0) 34 (w.heap.size + 1 + 1) (by simp))
  obtain ⟨p0, p1, p2⟩ := P0.out
  clear hva hvb
  go_enter Try.func36, Try.ntmps36
  go_wp2_with fail
  refine (l2Any_any p _ _ (HVA.out.kept HB0.out) hwp).mono ?_
  rintro e w1 ⟨rfl, hb⟩
  have HB1 := Lib.hid (carry_below HB0.out (Nat.le_refl _) hb)
  have P1 := Lib.hid (P0.out.kept hb)
  have T1 := Lib.hid (T0.out.kept hb)
  have R1 := Lib.hid (R0.out.kept hb)
  clear hb hw0 p0 p1 p2 P0 T0 R0
  obtain ⟨t0, t1, t2⟩ := T1.out
  obtain ⟨r0, r1⟩ := R1.out
  cases hg : anyB p with
  | false =>
    have HF := Lib.hid (mOk_p (t := t) hg)
    clear hg
    go_wp2
    refine bodyPost_ret (v := .tuple #[.agg #[.slice none 0 0], .bool false]) (by simp [results, Try.results36, go_sem, r0]) rfl ?_
    exact BdOkEnd.no (mR_no HF.out) HF.out (HB1.out.setCell (by simp; omega) _)
  | true =>
    have HGP := Lib.hid hg
    clear hg
    go_wp2_with fail
    refine (l2Any_any t _ _ (HVB.out.kept HB1.out) hwt).mono ?_
    rintro e w2 ⟨rfl, hb⟩
    have HB2 := Lib.hid (carry_below HB1.out (Nat.le_refl _) hb)
    have P2 := Lib.hid (P1.out.kept hb)
    have T2 := Lib.hid (T1.out.kept hb)
    have R2 := Lib.hid (R1.out.kept hb)
    clear hb t0 t1 t2 r0 r1 P1 T1 R1
    obtain ⟨p0, p1, p2⟩ := P2.out
    obtain ⟨t0, t1, t2⟩ := T2.out
    obtain ⟨r0, r1⟩ := R2.out
    have hz2 : w.heap.size + 1 + 1 < w2.heap.size := World.block_lt_of_cell? w2 ⟨_, 0, none⟩ r0
    cases hg : anyB t with
    | false =>
      have HF := Lib.hid (mOk_t (p := p) hg)
      clear hg
      go_wp2
      refine bodyPost_ret (v := .tuple #[.agg #[.slice none 0 0], .bool false]) (by simp [results, Try.results36, go_sem, r0]) rfl ?_
      exact BdOkEnd.no (mR_no HF.out) HF.out (HB2.out.setCell (by simp; omega) _)
    | true =>
      have HGT := Lib.hid hg
      have hlp := anyB_wt HGP.out
      obtain ⟨w3, hw3⟩ : ∃ w3, w2.alloc (.cells #[] 167) = w3 := ⟨_, rfl⟩
      have B23 : Hid (Below w2.heap.size w2 w3) := Lib.hid (by rw [← hw3]; exact (Below.refl _ _).alloc (Nat.le_refl _) _)
      have HO3 : Hid (w3.ownsRow w2.heap.size 167 3 (.slice (some ⟨w2.heap.size, 0, none⟩) 0 0) 0 []) := Lib.hid (by rw [← hw3]; exact World.ownsRow_lit w2 #[] 0 (Nat.le_refl _) (by simp) rfl)
      have CM := Lib.hid (l4Match_any p t w2 w3 (.slice pa p.args.length ca) (.slice pb t.args.length cb) w2.heap.size 0 [] (HVA.out.kept HB2.out) (HVB.out.kept HB2.out) B23.out HO3.out (EnR.nil _) (by simp; omega) hwp hwt)
      have R3 := Lib.hid (R2.out.kept B23.out)
      clear hg
      go_wp2_with fail
      refine CM.out.mono ?_
      rintro e w4 ⟨g4, c4, n4, M, rfl, hn4, hm4, ho4, hold4, hR4, ha4, hg4⟩
      have e4 : bdsE M = (matT p t []).1 := hm4
      have HB4 : Hid (Below w2.heap.size w2 w4) := Lib.hid (below_gr B23.out (Nat.le_refl _) hg4 (fun q e => by cases e; exact Nat.le_refl _))
      have hl4 : M.length ≤ 210 := by rw [← bdsE_len, e4]; exact mat_small HGP.out
      have hP4 : pT (bdsE M) M.length = mP p t := by unfold mP; rw [← e4, bdsE_len]
      have CP := l4Pairs_any w2.heap.size g4 n4 c4 M w4 hn4 ho4 (fun e he => ⟨(hR4 e he).1.kept HB4.out, (hR4 e he).2⟩) (by rw [e4]; exact matT_nd p t [] NdB.nil) (by omega)
      rw [hP4] at CP
      have CP := Lib.hid CP
      obtain ⟨o, ho⟩ : ∃ o, o = (matT p t (bdsE [])).2 := ⟨_, rfl⟩
      rw [← ho]
      have HO : Hid (o = (matT p t []).2) := Lib.hid ho
      have R4 := Lib.hid (R2.out.kept HB4.out)
      have HBW4 := Lib.hid (carry_below HB2.out (Nat.le_refl _) HB4.out)
      have hz4 : w2.heap.size ≤ w4.heap.size := HB4.out.size
      clear hw3 hn4 hm4 ho4 hold4 hR4 ha4 hg4 e4 hl4 hP4 ho p0 p1 p2 t0 t1 t2 r0 r1
      go_wp2_with fail
      refine CP.out.mono ?_
      rintro e w5 ⟨v5, L5, rfl, hr5, hd5, hb⟩
      obtain ⟨p5, c5, rfl⟩ := hr5.is_slice
      have hl5 : L5.length = (mP p t).length := by rw [← hd5, bdsE_len]
      have HRD : Hid (BdS w5 (.slice p5 L5.length c5) (mP p t)) := Lib.hid (by have h := hr5.read; rwa [hd5] at h)
      have HR5 : Hid (BdO w5 (Fresh w4 w5) (.slice p5 L5.length c5) (mP p t)) := Lib.hid (by have h := hr5.whole (w0 := w4) (Nat.le_refl _) (Nat.le_refl _); rwa [hd5] at h)
      obtain ⟨w6, hw6⟩ : ∃ w6, w5.alloc (.cells #[.slice p5 L5.length c5] 34) = w6 := ⟨_, rfl⟩
      have B56 : Hid (Below w5.heap.size w5 w6) := Lib.hid (by rw [← hw6]; exact (Below.refl _ _).alloc (Nat.le_refl _) _)
      have HB6 := Lib.hid (carry_below HBW4.out (Nat.le_refl _) (carry_below hb (Nat.le_refl _) B56.out))
      have R6 := Lib.hid (R4.out.kept (carry_below hb (Nat.le_refl _) B56.out))
      have O6 : Hid (Oner w6 w5.heap.size (.slice p5 L5.length c5)) := Lib.hid (by rw [← hw6]; exact oner_new w5 _ 34 _ rfl)
      have hz5 : w4.heap.size ≤ w5.heap.size := hb.size
      have hz6 : w5.heap.size ≤ w6.heap.size := B56.out.size
      clear hb hr5 hd5 hl5
      obtain ⟨r0, r1⟩ := R6.out
      obtain ⟨o0, o1⟩ := O6.out
      cases o with
      | false =>
        have HF := Lib.hid (mOk_m HO.out.symm)
        go_wp2
        refine bodyPost_ret (v := .tuple #[.agg #[.slice none 0 0], .bool false]) (by simp [results, Try.results36, go_sem, r0]) rfl ?_
        exact BdOkEnd.no (mR_no HF.out) HF.out (HB6.out.setCell (by simp; omega) _)
      | true =>
        have CG := Lib.hid (l4Good_any (mP p t) w6 (.slice p5 L5.length c5) (HRD.out.kept B56.out) (mP_wt HGP.out HGT.out))
        go_wp2_with fail
        refine CG.out.mono ?_
        rintro e w7 ⟨rfl, hb⟩
        have HB7 := Lib.hid (carry_below HB6.out (Nat.le_refl _) hb)
        have B57 := Lib.hid (carry_below B56.out (Nat.le_refl _) hb)
        have R7 := Lib.hid (R6.out.kept hb)
        have O7 := Lib.hid (O6.out.kept hb)
        have hz7 : w5.heap.size ≤ w7.heap.size := B57.out.size
        clear hb o0 o1 r0 r1 hw6
        obtain ⟨o0, o1⟩ := O7.out
        obtain ⟨r0, r1⟩ := R7.out
        cases hgo : goodS (mP p t) with
        | false =>
          have HF := Lib.hid (mOk_g hgo)
          clear hgo
          go_wp2
          refine bodyPost_ret (v := .tuple #[.agg #[.slice none 0 0], .bool false]) (by simp [results, Try.results36, go_sem, r0]) rfl ?_
          exact BdOkEnd.no (mR_no HF.out) HF.out (HB7.out.setCell (by simp; omega) _)
        | true =>
          have HF := Lib.hid (mOk_y HGP.out HGT.out HO.out.symm hgo)
          have HRR := Lib.hid (mR_yes HF.out)
          clear hgo
          go_wp2
          refine bodyPost_ret (v := .tuple #[.agg #[.slice p5 L5.length c5], .bool true]) (by simp [results, Try.results36, go_sem, r0]) rfl ?_
          rw [HF.out, HRR.out]
          refine ⟨_, rfl, ?_, HB7.out.setCell (by simp; omega) _⟩
          refine ((HR5.out.kept B57.out).setCell (fun h => by have := h.1; simp at this; omega) _).mono fun y hy => ⟨?_, ?_⟩
          · have := hy.1; omega
          · simp only [size_setCell]; have := hy.2; omega

end Go.Proofs.Ytnkonhdnccolhaa

/- Matching: the list in ascending order that the program keeps. No condition. -/
namespace Go.Proofs.Ytnkonhdnccolhaa
open Go.RowKit
set_option linter.unusedVariables false

/-- A list of bindings, put into an ascending one from the first to the last. -/
def srtO (acc k : List Bd) : List Bd := k.foldl (fun a b => insF b a) acc
def srt (k : List Bd) : List Bd := srtO [] k
theorem srt_snoc (k : List Bd) (d : Bd) : srt (k ++ [d]) = insF d (srt k) := by unfold srt srtO; rw [List.foldl_append]; rfl
theorem srtO_mem {x : Bd} : ∀ (k acc : List Bd), x ∈ srtO acc k ↔ x ∈ acc ∨ x ∈ k
  | [], acc => by simp [srtO]
  | d :: k, acc => by
    have h := srtO_mem (x := x) k (insF d acc)
    have e : srtO acc (d :: k) = srtO (insF d acc) k := rfl
    rw [e, h, insF_mem, List.mem_cons]
    constructor
    · rintro ((h | h) | h)
      · exact .inr (.inl h)
      · exact .inl h
      · exact .inr (.inr h)
    · rintro (h | h | h)
      · exact .inl (.inr h)
      · exact .inl (.inl h)
      · exact .inr h
theorem srt_mem {x : Bd} {k : List Bd} : x ∈ srt k ↔ x ∈ k := by unfold srt; rw [srtO_mem]; simp
theorem srtO_len : ∀ (k acc : List Bd), (srtO acc k).length = acc.length + k.length
  | [], acc => by simp [srtO]
  | d :: k, acc => by
    have e : srtO acc (d :: k) = srtO (insF d acc) k := rfl
    rw [e, srtO_len k, insF_len, List.length_cons]; omega
theorem srt_len (k : List Bd) : (srt k).length = k.length := by unfold srt; rw [srtO_len]; simp
theorem srtO_asc : ∀ (k acc : List Bd), Asc acc → NdB k → (∀ d ∈ k, boundB acc d.var = false) → Asc (srtO acc k)
  | [], acc, ha, _, _ => ha
  | d :: k, acc, ha, hn, hb => by
    have e : srtO acc (d :: k) = srtO (insF d acc) k := rfl
    rw [e]
    have hn' := List.pairwise_cons.1 hn
    refine srtO_asc k _ (insF_asc ha (hb d (by simp))) hn'.2 fun x hx => ?_
    rw [insF_bound, hb x (List.mem_cons_of_mem _ hx), decide_eq_false (hn'.1 x hx)]; rfl
theorem srt_asc {k : List Bd} (h : NdB k) : Asc (srt k) := srtO_asc k [] (fun i j x y _ hx _ => by simp at hx) h (fun d _ => by simp [boundB])
theorem NdB.take {k : List Bd} (h : NdB k) (n : Nat) : NdB (k.take n) := List.Pairwise.sublist (List.take_sublist n k) h
theorem pT_srt {k : List Bd} (h : NdB k) : ∀ j, j ≤ k.length → pT k j = (srt (k.take j)).filter nontr
  | 0, _ => by simp [pT, srt, srtO]
  | j + 1, hj => by
    obtain ⟨d, hd⟩ : ∃ d, k[j]? = some d := ⟨_, List.getElem?_eq_getElem (by omega)⟩
    rw [pT_next hd, take_next hd, srt_snoc, filter_insF (srt_asc (h.take j)), pT_srt h j (by omega)]
    unfold putF nontr
    cases triv d <;> rfl
theorem mP_srt (p t : Tm) : mP p t = (srt (matT p t []).1).filter nontr := by
  unfold mP; rw [pT_srt (matT_nd p t [] NdB.nil) _ (Nat.le_refl _), List.take_length]

theorem ndb_uniq {k : List Bd} (h : NdB k) {x y : Bd} (hx : x ∈ k) (hy : y ∈ k) (e : x.var = y.var) : x = y := by
  obtain ⟨i, hi⟩ := List.mem_iff_getElem?.1 hx
  obtain ⟨j, hj⟩ := List.mem_iff_getElem?.1 hy
  obtain ⟨h1, rfl⟩ := List.getElem?_eq_some_iff.1 hi
  obtain ⟨h2, rfl⟩ := List.getElem?_eq_some_iff.1 hj
  have hp := List.pairwise_iff_getElem.1 h
  rcases Nat.lt_trichotomy i j with h3 | h3 | h3
  · exact absurd e (hp i j h1 h2 h3)
  · subst h3; rfl
  · exact absurd e.symm (hp j i h2 h1 h3)
theorem find_hit {k : List Bd} {nm : ByteArray} {i : Nat} (h : NdB k) (hh : hitB (srt k) nm i = true) : ∃ d, (srt k)[i]? = some d ∧ k.find? (hasN nm) = some d := by
  obtain ⟨d, hd, hn⟩ := hit_yes hh
  refine ⟨d, hd, ?_⟩
  have hdk : d ∈ k := srt_mem.1 (List.mem_of_getElem? hd)
  cases hf : k.find? (hasN nm) with
  | none => exact absurd (List.find?_eq_none.1 hf d hdk) (by unfold hasN; simp [hn])
  | some x =>
    have h1 := List.find?_some hf
    have h2 := List.mem_of_find?_eq_some hf
    unfold hasN at h1
    rw [ndb_uniq h h2 hdk (by rw [hn]; simpa using h1)]
theorem find_miss {k : List Bd} {nm : ByteArray} {i : Nat} (h : NdB k) (hp : Place (srt k) nm i) (hh : hitB (srt k) nm i = false) : k.find? (hasN nm) = none := by
  rw [List.find?_eq_none]
  intro x hx
  have := hit_no hp (srt_asc h) hh x (srt_mem.2 hx)
  unfold hasN; simpa using this

end Go.Proofs.Ytnkonhdnccolhaa

/- The program's matching: a contract, for terms of at most 1048576 names' bytes and arguments and at most 1000000 bindings. -/
namespace Go.Proofs.Ytnkonhdnccolhaa
open Go.RowKit
set_option linter.unusedVariables false

def IEnd (p t : Tm) (w0 w : World) (r : Option Nat) (k : List Bd) (e : Ending) (w' : World) : Prop :=
  ∃ (a : Option Addr) (n c : Nat), e = .returned (.tuple #[.slice a n c, .bool (matT p t k).2]) ∧ ((matT p t k).2 = true → ∃ E, n = E.length ∧ RowE w0.heap.size w0.heap.size w' (.slice a n c) E ∧ bdsE E = srt (matT p t k).1) ∧
    w.grownBy w' r ∧ (∀ g, (Value.slice a n c).ownBlock = some g → r = some g ∨ w.heap.size ≤ g)
theorem IEnd.no {p t : Tm} {w0 w w' : World} {r : Option Nat} {k : List Bd} (h : (matT p t k).2 = false) (hg : w.grownBy w' r) : IEnd p t w0 w r k (.returned (.tuple #[.slice none 0 0, .bool false])) w' :=
  ⟨none, 0, 0, by rw [h], fun q => absurd q (by rw [h]; simp), hg, fun g q => by simp [Value.ownBlock] at q⟩

def InsT (p : Tm) : Prop := ∀ (t : Tm) (w0 w : World) (va vb : Value) (a : Option Addr) (n c : Nat) (E : List En) (k : List Bd), TmS w0 va p.args → TmS w0 vb t.args → Below w0.heap.size w0 w → n = E.length →
  RowE w0.heap.size w0.heap.size w (.slice a n c) E → bdsE E = srt k → NdB k → (∀ d ∈ k, d.tm.wt ≤ 1048576) → k.length + p.wt ≤ 1000000 → p.wt ≤ 1000000 → t.wt ≤ 1048576 →
  Calls Try.prog 106 #[.slice a n c, .agg #[.string p.name, va], .agg #[.string t.name, vb]] w (IEnd p t w0 w (Value.slice a n c).ownBlock k)

theorem grown_trans_o {w1 wr w2 : World} {r r2 : Option Nat} {n : Nat} (h : w1.grownBy wr r) (h2 : wr.grownBy w2 r2) (hn : w1.heap.size ≤ n) (ha : ∀ b, r2 = some b → r = some b ∨ n ≤ b) : w1.grownBy w2 r :=
  ⟨h2.os.trans h.os, h2.tape.trans h.tape, h2.output.trans h.output, Nat.le_trans h.size h2.size, fun b hb hne => by
    rw [h2.block b (Nat.lt_of_lt_of_le hb h.size) (fun e => by
      rcases ha b e.symm with q | q
      · exact hne q.symm
      · omega), h.block b hb hne]⟩
theorem mat_wt {p t : Tm} {k : List Bd} (h : ∀ d ∈ k, d.tm.wt ≤ 1048576) (ht : t.wt ≤ 1048576) : ∀ d ∈ (matT p t k).1, d.tm.wt ≤ 1048576 := fun d hd => by
  rcases matT_mem p t k d hd with q | q
  · exact h d q
  · omega

structure IInv (p t : Tm) (w0 w w1 : World) (r : Option Nat) (k0 : List Bd) (j : Nat) (a : Option Addr) (n c : Nat) (E : List En) (k : List Bd) (wr : World) : Prop where
  mat : matL p.args t.args k0 = matL (p.args.drop j) (t.args.drop j) k
  len : n = E.length
  row : RowE w0.heap.size w0.heap.size wr (.slice a n c) E
  bds : bdsE E = srt k
  nd : NdB k
  wts : ∀ d ∈ k, d.tm.wt ≤ 1048576
  bd : k.length ≤ k0.length + sumL Tm.wt (p.args.take j)
  at' : ∀ g, (Value.slice a n c).ownBlock = some g → r = some g ∨ w.heap.size + 2 ≤ g
  grow : w1.grownBy wr r

theorem IInv.step {p t : Tm} {w0 w w1 wr W w2 : World} {r : Option Nat} {j n c n2 c2 : Nat} {a a2 : Option Addr} {E : List En} {k0 k : List Bd} {x y : Tm} (h : IInv p t w0 w w1 r k0 j a n c E k wr) (hw1 : w1.heap.size = w.heap.size + 2)
    (hx : p.args[j]? = some x) (hy : t.args[j]? = some y) (hyw : y.wt ≤ 1048576) (hW : Below wr.heap.size wr W)
    (hE : (matT x y k).2 = true → ∃ E, n2 = E.length ∧ RowE w0.heap.size w0.heap.size w2 (.slice a2 n2 c2) E ∧ bdsE E = srt (matT x y k).1) (hg : W.grownBy w2 (Value.slice a n c).ownBlock) (ha : ∀ g, (Value.slice a2 n2 c2).ownBlock = some g → (Value.slice a n c).ownBlock = some g ∨ W.heap.size ≤ g) :
    w1.grownBy w2 r ∧ ((matT x y k).2 = true → ∃ E2, IInv p t w0 w w1 r k0 (j + 1) a2 n2 c2 E2 (matT x y k).1 w2) := by
  have hG : w1.grownBy w2 r := grown_trans_o h.grow (grown_pre hW hg) (Nat.le_of_eq hw1) h.at'
  refine ⟨hG, fun hs => ?_⟩
  obtain ⟨E2, h1, h2, h3⟩ := hE hs
  refine ⟨E2, by rw [h.mat, matL_yes hx hy hs], h1, h2, h3, matT_nd x y k h.nd, mat_wt h.wts hyw, ?_, fun g q => ?_, hG⟩
  · have h4 := matT_len x y k
    have h5 := h.bd
    rw [sumL_next hx]; omega
  · rcases ha g q with q | q
    · exact h.at' g q
    · have h4 := h.grow.size
      have h5 := hW.size
      exact .inr (by omega)

set_option maxRecDepth 100000 in
set_option maxHeartbeats 1000000 in
theorem ins_of (p : Tm) (h : ∀ s ∈ p.args, InsT s) : InsT p := by
  intro t w0 w va vb a n c E k hva hvb hB hnE hrow hbds hnd hwts hlen hwp hwt
  have H := Lib.hid h
  have HWP := Lib.hid (fun (s : Tm) (hs : s ∈ p.args) => Nat.le_trans (Tm.wt_arg hs) hwp)
  have HWT := Lib.hid (fun (s : Tm) (hs : s ∈ t.args) => Nat.le_trans (Tm.wt_arg hs) hwt)
  have hlp := Tm.wt_len p
  have hlt' := Tm.wt_len t
  obtain ⟨pa, ca, rfl⟩ := hva.is_slice
  obtain ⟨pb, cb, rfl⟩ := hvb.is_slice
  obtain ⟨r, hr⟩ : ∃ r, r = (Value.slice a n c).ownBlock := ⟨_, rfl⟩
  rw [← hr]
  have hrl : ∀ g, r = some g → w0.heap.size ≤ g ∧ g < w.heap.size := fun g e => hrow.row.lt g (hr ▸ e)
  have HRL := Lib.hid hrl
  have HRE := Lib.hid hr
  have HVA := Lib.hid hva
  have HVB := Lib.hid hvb
  have HB0 := Lib.hid hB
  have HROW := Lib.hid hrow
  have HBD := Lib.hid hbds
  have HND := Lib.hid hnd
  have HWS := Lib.hid hwts
  have HNE := Lib.hid hnE
  have hkl : E.length = k.length := by rw [← bdsE_len, hbds, srt_len]
  have HKL := Lib.hid hkl
  obtain ⟨w1, hw1⟩ : ∃ w1, (w.alloc (.cells #[.string p.name, .slice pa p.args.length ca] 38)).alloc (.cells #[.string t.name, .slice pb t.args.length cb] 38) = w1 := ⟨_, rfl⟩
  have HP1 : Hid (Two w1 w.heap.size (.string p.name) (.slice pa p.args.length ca)) := Lib.hid (by rw [← hw1]; exact (two_new _ _ _ 38 _ rfl).alloc _)
  have HT1 : Hid (Two w1 (w.heap.size + 1) (.string t.name) (.slice pb t.args.length cb)) := Lib.hid (by rw [← hw1]; exact two_new _ _ _ 38 (w.heap.size + 1) (by simp))
  have HB1 : Hid (Below w.heap.size w w1) := Lib.hid (by rw [← hw1]; exact ((Below.refl w.heap.size w).alloc (Nat.le_refl _) _).alloc (by simp) _)
  have HZ1 : Hid (w1.heap.size = w.heap.size + 2) := Lib.hid (by rw [← hw1]; simp)
  have HR1 := Lib.hid (hrow.kept HB1.out)
  have HW0 := Lib.hid (carry_below HB0.out (Nat.le_refl _) HB1.out)
  have CV := Lib.hid (fun W => isVar_any p.name W (by have := p.wt_name; unfold maxLen; omega))
  obtain ⟨p0, p1, p2⟩ := HP1.out
  obtain ⟨t0, t1, t2⟩ := HT1.out
  clear h hva hvb hB hrow hbds hnd hwts hrl hr hnE hkl
  cases hv : varB p.name with
  | true =>
    rw [hv] at CV
    have HV := Lib.hid hv
    have CF := find_any (bdsE E) w1 (.slice a n c) HR1.out.read (by rw [bdsE_len, HKL.out]; omega) (by rw [HBD.out]; exact srt_asc HND.out) p.name
    rw [HBD.out] at CF
    have CF := Lib.hid CF
    clear hv
    go_enter Try.func106, Try.ntmps106
    go_wp2_with (go_at_call 91; refine (CV.out _).mono ?_; rintro e w' ⟨rfl, rfl⟩)
    refine CF.out.mono ?_
    rintro e w2 ⟨i, rfl, hp, hb⟩
    have HPL := Lib.hid hp
    have HB2 := Lib.hid hb
    have HP2 := Lib.hid (HP1.out.kept hb)
    have HT2 := Lib.hid (HT1.out.kept hb)
    have HR2 := Lib.hid (HR1.out.kept hb)
    have HW2 := Lib.hid (carry_below HW0.out (Nat.le_refl _) hb)
    have HBW := Lib.hid (carry_below HB1.out (Nat.le_refl _) hb)
    have hz2 : w1.heap.size ≤ w2.heap.size := hb.size
    have hzw1 := HZ1.out
    clear hb hp hw1 p0 p1 p2 t0 t1 t2
    obtain ⟨p0, p1, p2⟩ := HP2.out
    obtain ⟨t0, t1, t2⟩ := HT2.out
    cases hh : hitB (srt k) p.name i with
    | true =>
      have HH := Lib.hid hh
      obtain ⟨d, hd, hf⟩ := find_hit HND.out hh
      have HD := Lib.hid hd
      have HM := Lib.hid (matT_found (t := t) HV.out hf)
      have hdw : d.tm.wt ≤ 1048576 := HWS.out d (srt_mem.1 (List.mem_of_getElem? hd))
      have hRD := HR2.out.read
      rw [HBD.out] at hRD
      obtain ⟨b, off, rfl, vd, c0, c1, c2, hvd⟩ := hRD.get hd
      obtain ⟨pd, qd, rfl⟩ := hvd.is_slice
      have HVD := Lib.hid hvd
      have hil : i < n := by have h1 := (List.getElem?_eq_some_iff.1 hd).1; rw [srt_len] at h1; have h2 := HNE.out; have h3 := HKL.out; omega
      clear hh hd hf hvd hRD
      have C0 : Hid (∀ W : World, Below w2.heap.size w2 W → Calls Try.prog 79 #[.agg #[.string d.tm.name, .slice pd d.tm.args.length qd], .agg #[.string t.name, .slice pb t.args.length cb]] W (Ans (.bool (eqT d.tm t)) W)) := Lib.hid (fun W hW => by
        have ET := equalTrees_any d.tm
        unfold TreeT at ET
        exact ET t W _ _ (HVD.out.kept hW) ((HVB.out.kept HW2.out).kept hW) hdw hwt)
      have hB0 : Below w2.heap.size w2 w2.drew := (Below.refl _ _).drew
      go_wp2_with fail
      go_region_held3 (fun w' => w'.cell? ⟨b, off + i * 3 + 1, none⟩ = some (.string d.tm.name) ∧ w'.cell? ⟨b, off + i * 3 + 2, none⟩ = some (.slice pd d.tm.args.length qd) ∧ w'.cell? ⟨w.heap.size + 1, 0, none⟩ = some (.string t.name) ∧ w'.cell? ⟨w.heap.size + 1, 1, none⟩ = some (.slice pb t.args.length cb) ∧ Below w2.heap.size w2 w') (first | exact ⟨by assumption, by assumption, by assumption, by assumption, by assumption⟩ | go_keep) (first | (go_at_call 79; refine (C0.out _ (by assumption)).mono ?_; rintro e w' ⟨rfl, hb⟩; have hc1' := carry_cell' hb c1; have hc2' := carry_cell' hb c2; have hc3' := carry_cell' hb t0; have hc4' := carry_cell' hb t1; have hB' := carry_below (by assumption) (Nat.le_refl _) hb))
      have hB3 : Below w2.heap.size w2 w' := by assumption
      have HE : Hid (IEnd p t w0 w r k (.returned (.tuple #[.slice (some ⟨b, off, none⟩) n c, .bool (eqT d.tm t)])) w') := Lib.hid ⟨some ⟨b, off, none⟩, n, c, by rw [HM.out], fun _ => ⟨E, HNE.out, HR2.out.kept hB3, by rw [HBD.out, HM.out]⟩, grown_of_below (carry_below HBW.out (Nat.le_refl _) hB3) _, fun g q => .inl (HRE.out.trans q)⟩
      go_wp2
      go_ret2
      exact HE.out
    | false =>
      have HM := Lib.hid (matT_new (t := t) HV.out (find_miss HND.out HPL.out hh))
      have hil : i ≤ E.length := by have h1 := HPL.out.1; rw [srt_len] at h1; have h3 := HKL.out; omega
      have C0 : Hid (∀ W : World, Below w2.heap.size w2 W → Calls Try.prog 127 #[.agg #[.string t.name, .slice pb t.args.length cb]] W (ToEnd t W)) := Lib.hid (fun W hW => by
        have CT := copyTerm_any t
        unfold CopyT at CT
        exact CT W _ ((HVB.out.kept HW2.out).kept hW) hwt)
      have hB0 : Below w2.heap.size w2 w2.drew := (Below.refl _ _).drew
      have hnb : n ≤ 1048576 := by have h1 := HNE.out; have h2 := HKL.out; omega
      have hin : i ≤ n := by have h1 := HNE.out; omega
      have hwz : w0.heap.size ≤ w2.heap.size := HW2.out.size
      clear hh
      go_wp2_with fail
      go_region_held3 (fun w' => w'.cell? ⟨w.heap.size, 0, none⟩ = some (.string p.name) ∧ w'.cell? ⟨w.heap.size + 1, 0, none⟩ = some (.string t.name) ∧ w'.cell? ⟨w.heap.size + 1, 1, none⟩ = some (.slice pb t.args.length cb)) (first | exact ⟨by assumption, by assumption, by assumption⟩ | go_keep) (first
        | (go_loud (go_at_call 127); go_loud (refine (C0.out _ hB0).mono ?_); go_loud (rintro e w6 ⟨v6, rfl, ho, hb⟩); obtain ⟨p6, c6, rfl⟩ := ho.read.is_slice; have HO6 := Lib.hid ho; have HB6 := Lib.hid (carry_below hB0 (Nat.le_refl _) hb); go_loud (have q0 := carry_cell' hb p0); have q1 := carry_cell' hb t0; have q2 := carry_cell' hb t1; have hz6 := HB6.out.size; clear ho hb)
        | (go_loud (go_at_call 99); go_loud (obtain ⟨w7, hw7⟩ : ∃ w7, w6.alloc (.cells #[.string p.name, .string t.name, .slice p6 t.args.length c6] 110) = w7 := ⟨_, rfl⟩); go_loud (have HH7 : Hid (w7.heap[w6.heap.size]? = some (.cells #[.string p.name, .string t.name, .slice p6 t.args.length c6] 110 (0, 0))) := Lib.hid (by rw [← hw7]; exact heap_alloc_new w6 _)); have B7 : Hid (Below w6.heap.size w6 w7) := Lib.hid (by rw [← hw7]; exact (Below.refl _ _).alloc (Nat.le_refl _) _); have hz7 : w7.heap.size = w6.heap.size + 1 := (by rw [← hw7]; simp); have BB7 := Lib.hid (carry_below HB6.out (Nat.le_refl _) B7.out); have HR7 := Lib.hid (HR2.out.kept BB7.out);
            go_loud (have HN7 : w7.ownsRow w0.heap.size 110 3 (.slice a n c) n (enF E) := (by have h := HR7.out.row; rw [← HNE.out] at h; exact h));
            go_loud (have CX := ins_any w0.heap.size n i (.slice a n c) (enF E) (.string p.name) (.string t.name) (.slice p6 t.args.length c6) w6.heap.size 1 w7 HN7 HH7.out (fun e => by have h1 := (HR2.out.row.lt _ e).2; omega) (by simp [Value.oneCell']) (enF_one HR7.out.ens) hnb hin (by omega)); go_loud (try rw [hw7]); go_loud (refine CX.mono ?_); go_loud (rintro e w8 ⟨gg, cap, rfl, hown, hat, hgr⟩); have HOWN := Lib.hid hown; have HAT := Lib.hid hat; have HGR := Lib.hid hgr; have HZ7 := Lib.hid hz7; go_loud (have u0 := hgr.cell (carry_cell q0 B7.out) (fun e => by have h2 := HRL.out _ (HRE.out.trans e.symm); simp at h2; try omega)); go_loud (have u1 := hgr.cell (carry_cell q1 B7.out) (fun e => by have h2 := HRL.out _ (HRE.out.trans e.symm); simp at h2; try omega)); go_loud (have u2 := hgr.cell (carry_cell q2 B7.out) (fun e => by have h2 := HRL.out _ (HRE.out.trans e.symm); simp at h2; try omega)); clear hown hat hgr hw7 CX HN7 hz7))
      have HE : Hid (IEnd p t w0 w r k (.returned (.tuple #[.slice (some ⟨gg, 0, none⟩) (n + 1) cap, .bool true])) w8) := Lib.hid (by
        have hX := RowE.ins (d := ⟨p.name, t⟩) (S := Fresh w2 w6) HR7.out hil (HO6.out.frame fun b hb => B7.out.block b hb.2) (fun b hb => ⟨by have := hb.1; omega, by have := hb.2; have := HZ7.out; omega⟩) (fun y hy b h1 h2 => by have h3 := (HR2.out.ens.sub y hy b h1).2; have h4 := h2.1; omega) (fun g e h => by have h3 := (HR2.out.row.lt _ e).2; have h4 := h.1; omega) (by rw [← HNE.out]; exact HOWN.out) HAT.out HGR.out
        rw [← HNE.out] at hX
        refine ⟨some ⟨gg, 0, none⟩, n + 1, cap, by rw [HM.out], fun _ => ⟨_, ?_, hX, ?_⟩, grown_pre (carry_below HBW.out (Nat.le_refl _) BB7.out) (HRE.out ▸ HGR.out), fun g q => ?_⟩
        · have := HNE.out; simp; omega
        · rw [HM.out, srt_snoc, ← ins_place HPL.out, bdsE_append, ← HBD.out]; simp [bdsE]
        · have e : gg = g := Option.some.inj q
          subst e
          rcases HAT.out with h | h
          · exact .inl (HRE.out.trans h)
          · have := HZ7.out; have := HBW.out.size; exact .inr (by omega))
      go_wp2
      go_ret2
      exact HE.out
  | false =>
    rw [hv] at CV
    have HV := Lib.hid hv
    clear hv
    by_cases hn : p.name = t.name
    · have hq := str_eq hn
      have hq2 : (p.name.toList != t.name.toList) = false := by rw [bne, hq]; rfl
      by_cases hl : p.args.length = t.args.length
      · have HN := Lib.hid hn
        have HL := Lib.hid hl
        have hl2 : ((p.args.length : Int) != (t.args.length : Int)) = false := by rw [hl]; simp
        have HI0 : Hid (IInv p t w0 w w1 r k 0 a n c E k w1) := Lib.hid ⟨by simp, HNE.out, HR1.out, HBD.out, HND.out, HWS.out, by simp, fun g q => .inl (HRE.out.trans q), ⟨rfl, rfl, rfl, Nat.le_refl _, fun _ _ _ => rfl⟩⟩
        clear hn hl
        go_enter Try.func106, Try.ntmps106
        go_wp2_with (go_at_call 91; refine (CV.out _).mono ?_; rintro e w' ⟨rfl, rfl⟩)
        go_loopw [0, 59] (fun lv i wr => ∃ (j : Nat) (a' : Option Addr) (n' c' : Nat) (E' : List En) (k' : List Bd), j ≤ p.args.length ∧ i = .int .i64 j ∧ lv = .slice a' n' c' ∧ IInv p t w0 w w1 r k j a' n' c' E' k' wr) (fun _ i _ => p.args.length - (intOf i).toNat)
        case atStart => exact ⟨0, a, n, c, E, k, Nat.zero_le _, rfl, rfl, HI0.out⟩
        case round =>
          obtain ⟨j, a', n', c', E', k', hj, rfl, rfl, hI⟩ := hrel
          have HI := Lib.hid hI
          have HWR := Lib.hid (below_gr HW0.out (Nat.le_refl _) hI.grow (fun q e => (HRL.out q e).1))
          have HOL : Hid (∀ g, (Value.slice a' n' c').ownBlock = some g → w0.heap.size ≤ g ∧ g < wr.heap.size ∧ g ≠ w.heap.size + 1) := Lib.hid (fun g q => ⟨(hI.row.row.lt g q).1, (hI.row.row.lt g q).2, by rcases hI.at' g q with h | h; have := (HRL.out g h).2; omega; omega⟩)
          have d2 := hI.grow.cell t1 (fun e => by have := (HRL.out _ e.symm).2; simp at this; omega)
          clear hI
          by_cases hlt : j < p.args.length
          · have hltb : j < t.args.length := by have := HL.out; omega
            obtain ⟨x, hx⟩ : ∃ s, p.args[j]? = some s := ⟨_, List.getElem?_eq_getElem hlt⟩
            obtain ⟨y, hy⟩ : ∃ s, t.args[j]? = some s := ⟨_, List.getElem?_eq_getElem hltb⟩
            obtain ⟨g1, o1, rfl, v1, x0, x1, x2⟩ := HVA.out.get hx
            obtain ⟨g2, o2, rfl, v2, y0, y1, y2⟩ := HVB.out.get hy
            obtain ⟨px, cx, rfl⟩ := x2.is_slice
            have hg2 : g2 < w0.heap.size := World.block_lt_of_cell? w0 _ y0
            have x0' := carry_cell x0 HWR.out
            have x1' := carry_cell x1 HWR.out
            obtain ⟨wq, hwq⟩ : ∃ wq, wr.alloc (.cells #[.string x.name, .slice px x.args.length cx] 38) = wq := ⟨_, rfl⟩
            have BQ : Hid (Below wr.heap.size wr wq) := Lib.hid (by rw [← hwq]; exact (Below.refl _ _).alloc (Nat.le_refl _) _)
            have XQ : Hid (Two wq wr.heap.size (.string x.name) (.slice px x.args.length cx)) := Lib.hid (by rw [← hwq]; exact two_new _ _ _ 38 _ rfl)
            have HWQ := Lib.hid (carry_below HWR.out (Nat.le_refl _) BQ.out)
            have y0' := carry_cell y0 HWQ.out
            have y1' := carry_cell y1 HWQ.out
            have d2' := carry_cell d2 BQ.out
            obtain ⟨z0, z1, z2⟩ := XQ.out
            have X2 := Lib.hid x2
            have Y2 := Lib.hid y2
            have HXX := Lib.hid hx
            have HYY := Lib.hid hy
            have hbd : k'.length + x.wt ≤ 1000000 := by
              have h1 := HI.out.bd
              have h2 := sumL_next (f := Tm.wt) hx
              have h3 := sumL_take Tm.wt p.args (j + 1)
              have h4 := sum_wt p
              omega
            have hzq : wr.heap.size ≤ wq.heap.size := BQ.out.size
            clear hx hy x0 x1 y0 y1 x2 y2
            have C0 : Hid (∀ W : World, Below wq.heap.size wq W → Calls Try.prog 106 #[.slice a' n' c', .agg #[.string x.name, .slice px x.args.length cx], .agg #[.string y.name, v2]] W (IEnd x y w0 W (Value.slice a' n' c').ownBlock k')) := Lib.hid (fun W hW =>
              H.out x (mem_of_at HXX.out) y w0 W _ _ a' n' c' E' k' X2.out Y2.out (carry_below HWQ.out (Nat.le_refl _) hW) HI.out.len ((HI.out.row.kept BQ.out).kept hW) HI.out.bds HI.out.nd HI.out.wts hbd (HWP.out x (mem_of_at HXX.out)) (HWT.out y (mem_of_at HYY.out)))
            have hB0 : Below wq.heap.size wq wq.drew := (Below.refl _ _).drew
            go_wp2_with fail
            go_region_held3 (fun w' => w'.cell? ⟨wr.heap.size, 0, none⟩ = some (.string x.name) ∧ w'.cell? ⟨wr.heap.size, 1, none⟩ = some (.slice px x.args.length cx) ∧ w'.cell? ⟨w.heap.size + 1, 1, none⟩ = some (.slice (some ⟨g2, o2, none⟩) t.args.length cb) ∧ w'.cell? ⟨g2, o2 + j * 2, none⟩ = some (.string y.name) ∧ w'.cell? ⟨g2, o2 + j * 2 + 1, none⟩ = some v2) (first | exact ⟨by assumption, by assumption, by assumption, by assumption, by assumption⟩ | go_keep) (first | (go_loud (go_at_call 106); go_loud (refine (C0.out _ (by assumption)).mono ?_); go_loud (rintro e w2 ⟨a2, n2, c2, rfl, hE2, hgr2, ha2⟩); go_loud (have HS2 := Lib.hid (HI.out.step HZ1.out HXX.out HYY.out (HWT.out y (mem_of_at HYY.out)) (carry_below BQ.out (Nat.le_refl _) hB0) hE2 hgr2 ha2)); go_loud (have q1 := hgr2.cell z0 (fun e => by have := (HOL.out _ e.symm).2.1; simp at this)); go_loud (have q2 := hgr2.cell z1 (fun e => by have := (HOL.out _ e.symm).2.1; simp at this)); go_loud (have q3 := hgr2.cell d2' (fun e => by have := (HOL.out _ e.symm).2.2; simp at this)); go_loud (have q4 := hgr2.cell y0' (fun e => by have := (HOL.out _ e.symm).1; simp at this; omega)); go_loud (have q5 := hgr2.cell y1' (fun e => by have := (HOL.out _ e.symm).1; simp at this; omega)); clear hE2 hgr2 ha2))
            cases hE : (matT x y k').2
            · have HE : Hid (IEnd p t w0 w r k (.returned (.tuple #[.slice none 0 0, .bool false])) w2) := Lib.hid (IEnd.no (by rw [matT_args HV.out HN.out HL.out, HI.out.mat, matL_no HXX.out HYY.out hE]) (grown_pre HB1.out HS2.out.1))
              clear hE
              go_wp2
              go_ret2
              exact HE.out
            · obtain ⟨E2, hE2⟩ := HS2.out.2 hE
              have HE := Lib.hid hE2
              clear hE hE2
              go_wp2
              go_roundw
              case rel => exact ⟨j + 1, a2, n2, c2, E2, _, by omega, by go_num, rfl, HE.out⟩
              case measure => simp [intOf]; omega
          · have hje : j = p.args.length := by omega
            have e : matT p t k = (k', true) := by rw [matT_args HV.out HN.out HL.out, HI.out.mat, matL_end (by omega)]
            have HE : Hid (IEnd p t w0 w r k (.returned (.tuple #[.slice a' n' c', .bool true])) wr) := Lib.hid ⟨a', n', c', by rw [e], fun _ => ⟨E', HI.out.len, HI.out.row, by rw [HI.out.bds, e]⟩, grown_pre HB1.out HI.out.grow, fun g q => (HI.out.at' g q).imp id (fun h => by omega)⟩
            subst hje
            clear e
            go_wp2
            go_ret2
            exact HE.out
      · have HE : Hid (IEnd p t w0 w r k (.returned (.tuple #[.slice none 0 0, .bool false])) w1) := Lib.hid (IEnd.no (by rw [matT_no HV.out (fun h => hl h.2)]) (grown_of_below HB1.out _))
        have hl2 : ((p.args.length : Int) != (t.args.length : Int)) = true := by simp; omega
        have hl3 : ((p.args.length : Int) == (t.args.length : Int)) = false := by simp; omega
        clear hn hl
        go_enter Try.func106, Try.ntmps106
        go_wp2_with (go_at_call 91; refine (CV.out _).mono ?_; rintro e w' ⟨rfl, rfl⟩)
        go_ret2
        exact HE.out
    · have HE : Hid (IEnd p t w0 w r k (.returned (.tuple #[.slice none 0 0, .bool false])) w1) := Lib.hid (IEnd.no (by rw [matT_no HV.out (fun h => hn h.1)]) (grown_of_below HB1.out _))
      have hq := str_ne hn
      have hq2 : (p.name.toList != t.name.toList) = true := by rw [bne, hq]; rfl
      clear hn
      go_enter Try.func106, Try.ntmps106
      go_wp2_with (go_at_call 91; refine (CV.out _).mono ?_; rintro e w' ⟨rfl, rfl⟩)
      go_ret2
      exact HE.out

theorem insertMatch_any (p : Tm) : InsT p := Tm.ind (P := InsT) ins_of p

end Go.Proofs.Ytnkonhdnccolhaa

/- MatchTerms, the program's: a contract, for terms of at most 1048576 names' bytes and arguments. -/
namespace Go.Proofs.Ytnkonhdnccolhaa
open Go.RowKit
set_option linter.unusedVariables false

theorem tmS_twoM {w : World} {s t : Tm} {va vb : Value} (ha : TmS w va s.args) (hb : TmS w vb t.args) (g c : Nat) (h0 : w.cell? ⟨g, 0, none⟩ = some (.string s.name)) (h1 : w.cell? ⟨g, 1, none⟩ = some va) (h2 : w.cell? ⟨g, 2, none⟩ = some (.string t.name)) (h3 : w.cell? ⟨g, 3, none⟩ = some vb) : TmS w (.slice (some ⟨g, 0, none⟩) 2 c) [s, t] := by
  refine .row g 0 c [s, t] (fun i => if i = 0 then va else vb) (by simp) (fun i x hi => ?_) (fun i x hi => ?_) (fun i x hi => ?_)
  all_goals
    have hi0 : i = 0 ∨ i = 1 := by have := (List.getElem?_eq_some_iff.1 hi).1; simp at this; omega
    rcases hi0 with e | e
    · subst e
      have e : s = x := by simpa using hi
      subst e
      first | exact h0 | exact h1 | exact ha
    · subst e
      have e : t = x := by simpa using hi
      subst e
      first | exact h2 | exact h3 | exact hb

theorem all_two (p t : Tm) : [p, t].all anyB = (anyB p && anyB t) := by simp
theorem mOk_b {p t : Tm} (h : (anyB p && anyB t) = false) : mOk p t = false := by
  cases h1 : anyB p with
  | false => exact mOk_p h1
  | true => rw [h1, Bool.true_and] at h; exact mOk_t h

set_option maxRecDepth 100000 in
set_option maxHeartbeats 1000000 in
theorem implMatch_any (p t : Tm) (w : World) (va vb : Value) (hva : TmS w va p.args) (hvb : TmS w vb t.args) (hwp : p.wt ≤ 1048576) (hwt : t.wt ≤ 1048576) :
    Calls Try.prog 37 #[.agg #[.string p.name, va], .agg #[.string t.name, vb]] w (BdOkEnd (mR p t) (mOk p t) w) := by
  obtain ⟨pa, ca, rfl⟩ := hva.is_slice
  obtain ⟨pb, cb, rfl⟩ := hvb.is_slice
  have HVA := Lib.hid hva
  have HVB := Lib.hid hvb
  obtain ⟨w0, hw0⟩ : ∃ w0, ((w.alloc (.cells #[.string p.name, .slice pa p.args.length ca] 38)).alloc (.cells #[.string t.name, .slice pb t.args.length cb] 38)).alloc (.cells #[.slice none 0 0] 34) = w0 := ⟨_, rfl⟩
  have HB0 : Hid (Below w.heap.size w w0) := Lib.hid (by rw [← hw0]; exact (((Below.refl w.heap.size w).alloc (Nat.le_refl _) _).alloc (by simp) _).alloc (by simp; omega) _)
  have P0 : Hid (Two w0 w.heap.size (.string p.name) (.slice pa p.args.length ca)) := Lib.hid (by rw [← hw0]; exact ((two_new _ _ _ 38 _ rfl).alloc _).alloc _)
  have T0 : Hid (Two w0 (w.heap.size + 1) (.string t.name) (.slice pb t.args.length cb)) := Lib.hid (by rw [← hw0]; exact (two_new _ _ _ 38 (w.heap.size + 1) (by simp)).alloc _)
  have R0 : Hid (Oner w0 (w.heap.size + 1 + 1) (.slice none 0 0)) := Lib.hid (by rw [← hw0]; exact oner_new _ (.slice none 0 0) 34 (w.heap.size + 1 + 1) (by simp))
  obtain ⟨wa, hwa⟩ : ∃ wa, w0.alloc (.cells #[.string p.name, .slice pa p.args.length ca, .string t.name, .slice pb t.args.length cb] 38) = wa := ⟨_, rfl⟩
  have FA : Fou wa w0.heap.size (.string p.name) (.slice pa p.args.length ca) (.string t.name) (.slice pb t.args.length cb) := by rw [← hwa]; exact fou_new _ _ _ _ _ 38 _ rfl
  have B0A : Hid (Below w0.heap.size w0 wa) := Lib.hid (by rw [← hwa]; exact (Below.refl _ _).alloc (Nat.le_refl _) _)
  have HBA := Lib.hid (carry_below HB0.out (Nat.le_refl _) B0A.out)
  have CE := areExpr_any [p, t] wa (.slice (some ⟨w0.heap.size, 0, none⟩) 2 2) (tmS_twoM (HVA.out.kept HBA.out) (HVB.out.kept HBA.out) w0.heap.size 2 FA.1 FA.2.1 FA.2.2.1 FA.2.2.2.1) (by simp) (fun s hs => by
    rcases List.mem_cons.1 hs with e | hs
    · rw [e]; exact hwp
    · rw [List.mem_singleton.1 hs]; exact hwt)
  rw [all_two] at CE
  have CE := Lib.hid CE
  obtain ⟨p0, p1, p2⟩ := P0.out
  obtain ⟨t0, t1, t2⟩ := T0.out
  clear hva hvb FA
  go_enter Try.func37, Try.ntmps37
  go_wp2_with fail
  refine CE.out.mono ?_
  rintro e w2 ⟨rfl, hb⟩
  have HBB := Lib.hid (carry_below B0A.out (Nat.le_refl _) hb)
  have HB2 := Lib.hid (carry_below HBA.out (Nat.le_refl _) hb)
  have P2 := Lib.hid (P0.out.kept HBB.out)
  have T2 := Lib.hid (T0.out.kept HBB.out)
  have R2 := Lib.hid (R0.out.kept HBB.out)
  clear hb hw0 hwa p0 p1 p2 t0 t1 t2 P0 T0 R0 CE
  obtain ⟨p0, p1, p2⟩ := P2.out
  obtain ⟨t0, t1, t2⟩ := T2.out
  obtain ⟨r0, r1⟩ := R2.out
  have hz2 : w.heap.size + 1 + 1 < w2.heap.size := World.block_lt_of_cell? w2 ⟨_, 0, none⟩ r0
  cases hg : (anyB p && anyB t) with
  | false =>
    have HF := Lib.hid (mOk_b hg)
    clear hg
    go_wp2
    refine bodyPost_ret (v := .tuple #[.agg #[.slice none 0 0], .bool false]) (by simp [results, Try.results37, go_sem, r0]) rfl ?_
    exact BdOkEnd.no (mR_no HF.out) HF.out (HB2.out.setCell (by simp; omega) _)
  | true =>
    obtain ⟨hgp, hgt⟩ := Bool.and_eq_true_iff.1 hg
    have HGP := Lib.hid hgp
    have HGT := Lib.hid hgt
    have hlp := anyB_wt hgp
    obtain ⟨w3, hw3⟩ : ∃ w3, w2.alloc (.cells #[] 110) = w3 := ⟨_, rfl⟩
    have B23 : Hid (Below w2.heap.size w2 w3) := Lib.hid (by rw [← hw3]; exact (Below.refl _ _).alloc (Nat.le_refl _) _)
    have HO3 : Hid (w3.ownsRow w2.heap.size 110 3 (.slice (some ⟨w2.heap.size, 0, none⟩) 0 0) 0 []) := Lib.hid (by rw [← hw3]; exact World.ownsRow_lit w2 #[] 0 (Nat.le_refl _) (by simp) rfl)
    have P3 := Lib.hid (P2.out.kept B23.out)
    have T3 := Lib.hid (T2.out.kept B23.out)
    have R3 := Lib.hid (R2.out.kept B23.out)
    have CM := Lib.hid (insertMatch_any p t w2 w3 (.slice pa p.args.length ca) (.slice pb t.args.length cb) (some ⟨w2.heap.size, 0, none⟩) 0 0 [] [] (HVA.out.kept HB2.out) (HVB.out.kept HB2.out) B23.out rfl ⟨HO3.out, Ens.nil _ _, fun g _ e he => by cases he⟩ rfl NdB.nil (fun d hd => by cases hd) (by simp; omega) (by omega) hwt)
    obtain ⟨o, ho⟩ : ∃ o, o = (matT p t []).2 := ⟨_, rfl⟩
    clear hg hgp hgt p0 p1 p2 t0 t1 t2 r0 r1
    obtain ⟨p0, p1, p2⟩ := P3.out
    obtain ⟨t0, t1, t2⟩ := T3.out
    go_wp2_with fail
    refine CM.out.mono ?_
    rintro e w4 ⟨a4, n4, c4, rfl, hE4, hg4, ha4⟩
    rw [← ho] at hE4 ⊢
    have HB4 : Hid (Below w2.heap.size w2 w4) := Lib.hid (below_gr B23.out (Nat.le_refl _) hg4 (fun q e => by cases e; exact Nat.le_refl _))
    have R4 := Lib.hid (R2.out.kept HB4.out)
    have HBW4 := Lib.hid (carry_below HB2.out (Nat.le_refl _) HB4.out)
    have hz4 : w2.heap.size ≤ w4.heap.size := HB4.out.size
    have HO := Lib.hid ho
    have HE4 := Lib.hid hE4
    clear hw3 hE4 hg4 ha4 ho p0 p1 p2 t0 t1 t2
    obtain ⟨r0, r1⟩ := R4.out
    cases o with
    | false =>
      have HF := Lib.hid (mOk_m HO.out.symm)
      go_wp2
      refine bodyPost_ret (v := .tuple #[.agg #[.slice none 0 0], .bool false]) (by simp [results, Try.results37, go_sem, r0]) rfl ?_
      exact BdOkEnd.no (mR_no HF.out) HF.out (HBW4.out.setCell (by simp; omega) _)
    | true =>
      obtain ⟨E, hn4, hr4, hd4⟩ := HE4.out rfl
      have hmp : (bdsE E).filter nontr = mP p t := by rw [hd4, mP_srt]
      have hel : E.length ≤ 210 := by rw [← bdsE_len, hd4, srt_len]; exact mat_small HGP.out
      have CW := woTriv_any w2.heap.size (.slice a4 n4 c4) E w4 hr4 (by omega) (by rw [hmp]; exact mP_wt HGP.out HGT.out) hz4
      rw [hmp] at CW
      have CW := Lib.hid CW
      have HRL : Hid (∀ g, (Value.slice a4 n4 c4).ownBlock = some g → w2.heap.size ≤ g) := Lib.hid (fun g e => (hr4.row.lt g e).1)
      clear hn4 hr4 hd4 hmp hel
      go_wp2_with fail
      refine CW.out.mono ?_
      rintro e w9 ⟨v9, L9, rfl, hr9, hd9, hgr⟩
      obtain ⟨p9, c9, rfl⟩ := hr9.is_slice
      have HR9 := Lib.hid (grown_kept_one R4.out hgr HRL.out (by omega))
      have HRW := Lib.hid hr9
      have HD9 := Lib.hid hd9
      have hz9 : w4.heap.size ≤ w9.heap.size := hgr.size
      have HB9 : Hid (Below w.heap.size w w9) := Lib.hid (below_gr HBW4.out (Nat.le_refl _) hgr (fun g e => by have := HRL.out g e; omega))
      obtain ⟨gd, hgd⟩ : ∃ gd, gd = goodS (mP p t) := ⟨_, rfl⟩
      have HF : Hid (mOk p t = gd ∧ mR p t = bdsE L9) := Lib.hid (by
        have e1 : mOk p t = gd := by rw [hgd]; exact mOk_iff HGP.out HGT.out HO.out.symm
        refine ⟨e1, ?_⟩
        rw [hd9]
        unfold mR okL
        rw [e1, hgd])
      rw [← hgd]
      clear r0 r1 hr9 hd9 hgr hgd
      obtain ⟨r0, r1⟩ := HR9.out
      go_wp2
      refine bodyPost_ret (v := .tuple #[.agg #[.slice p9 L9.length c9], .bool gd]) (by simp [results, Try.results37, go_sem, r0]) rfl ?_
      rw [HF.out.1, HF.out.2]
      refine ⟨_, rfl, ?_, HB9.out.setCell (by simp; omega) _⟩
      refine ((HRW.out.whole (w0 := w2) (Nat.le_refl _) (Nat.le_refl _)).setCell (fun h => by have := h.1; simp at this; omega) _).mono fun y hy => ⟨?_, ?_⟩
      · have := hy.1; omega
      · simp only [size_setCell]; exact hy.2

end Go.Proofs.Ytnkonhdnccolhaa

/- IsInstance and AreVariants, the model's and the program's: contracts, for terms of at most 1048576 names' bytes and arguments. -/
namespace Go.Proofs.Ytnkonhdnccolhaa
open Go.RowKit
set_option linter.unusedVariables false

theorem mOk_any {p t : Tm} (h : mOk p t = true) : anyB p = true ∧ anyB t = true := by
  unfold mOk at h; simp only [Bool.and_eq_true] at h; exact ⟨h.1, h.2.1⟩

set_option maxRecDepth 100000 in
set_option maxHeartbeats 1000000 in
theorem specIsI_any (a b : Tm) (w : World) (va vb : Value) (hva : TmS w va a.args) (hvb : TmS w vb b.args) (hwa : a.wt ≤ 1048576) (hwb : b.wt ≤ 1048576) :
    Calls Try.prog 38 #[.agg #[.string a.name, va], .agg #[.string b.name, vb]] w (Ans (.tuple #[.bool (mOk b a), .bool (anyB b && anyB a)]) w) := by
  obtain ⟨pa, ca, rfl⟩ := hva.is_slice
  obtain ⟨pb, cb, rfl⟩ := hvb.is_slice
  have HVA := Lib.hid hva
  have HVB := Lib.hid hvb
  obtain ⟨w0, hw0⟩ : ∃ w0, (w.alloc (.cells #[.string a.name, .slice pa a.args.length ca] 38)).alloc (.cells #[.string b.name, .slice pb b.args.length cb] 38) = w0 := ⟨_, rfl⟩
  have HB0 : Hid (Below w.heap.size w w0) := Lib.hid (by rw [← hw0]; exact ((Below.refl w.heap.size w).alloc (Nat.le_refl _) _).alloc (by simp) _)
  have P0 : Hid (Two w0 w.heap.size (.string a.name) (.slice pa a.args.length ca)) := Lib.hid (by rw [← hw0]; exact (two_new _ _ _ 38 _ rfl).alloc _)
  have T0 : Hid (Two w0 (w.heap.size + 1) (.string b.name) (.slice pb b.args.length cb)) := Lib.hid (by rw [← hw0]; exact two_new _ _ _ 38 (w.heap.size + 1) (by simp))
  obtain ⟨p0, p1, p2⟩ := P0.out
  obtain ⟨t0, t1, t2⟩ := T0.out
  clear hva hvb
  go_enter Try.func38, Try.ntmps38
  go_wp2_with fail
  refine (l2Any_any b _ _ (HVB.out.kept HB0.out) hwb).mono ?_
  rintro e w1 ⟨rfl, hb⟩
  have HB1 := Lib.hid (carry_below HB0.out (Nat.le_refl _) hb)
  have P1 := Lib.hid (P0.out.kept hb)
  have T1 := Lib.hid (T0.out.kept hb)
  clear hw0
  clear hb p0 p1 p2 t0 t1 t2
  obtain ⟨p0, p1, p2⟩ := P1.out
  obtain ⟨t0, t1, t2⟩ := T1.out
  cases hg : anyB b with
  | false =>
    have HF := Lib.hid (mOk_p (t := a) hg)
    go_wp2
    go_ret2
    exact ⟨ret_bbK HF.out.symm (by rw [hg]; rfl), HB1.out⟩
  | true =>
    have HGB := Lib.hid hg
    clear hg
    go_wp2_with fail
    refine (l2Any_any a _ _ (HVA.out.kept HB1.out) hwa).mono ?_
    rintro e w2 ⟨rfl, hb⟩
    have HB2 := Lib.hid (carry_below HB1.out (Nat.le_refl _) hb)
    have P2 := Lib.hid (P1.out.kept hb)
    have T2 := Lib.hid (T1.out.kept hb)
    clear hb p0 p1 p2 t0 t1 t2
    obtain ⟨p0, p1, p2⟩ := P2.out
    obtain ⟨t0, t1, t2⟩ := T2.out
    cases hg : anyB a with
    | false =>
      have HF := Lib.hid (mOk_t (p := b) hg)
      go_wp2
      go_ret2
      exact ⟨ret_bbK HF.out.symm (by rw [hg]; simp), HB2.out⟩
    | true =>
      have HGA := Lib.hid hg
      clear hg
      go_wp2_with fail
      refine (specMatch_any b a _ _ _ (HVB.out.kept HB2.out) (HVA.out.kept HB2.out) hwb hwa).mono ?_
      rintro e w3 ⟨v3, rfl, ho, hb⟩
      have HB3 := Lib.hid (carry_below HB2.out (Nat.le_refl _) hb)
      have P3 := Lib.hid (P2.out.kept hb)
      have T3 := Lib.hid (T2.out.kept hb)
      obtain ⟨p3, c3, rfl⟩ := ho.read.is_slice
      have HB4 := Lib.hid (HB3.out.alloc HB3.out.size (.cells #[.slice p3 (mR b a).length c3] 34))
      clear ho
      clear hb p0 p1 p2 t0 t1 t2
      obtain ⟨p0, p1, p2⟩ := P3.out
      obtain ⟨t0, t1, t2⟩ := T3.out
      go_wp2
      go_ret2
      exact ⟨ret_bbK rfl (by rw [HGB.out, HGA.out]; rfl), HB4.out⟩

set_option maxRecDepth 100000 in
set_option maxHeartbeats 1000000 in
theorem implIsI_any (a b : Tm) (w : World) (va vb : Value) (hva : TmS w va a.args) (hvb : TmS w vb b.args) (hwa : a.wt ≤ 1048576) (hwb : b.wt ≤ 1048576) :
    Calls Try.prog 39 #[.agg #[.string a.name, va], .agg #[.string b.name, vb]] w (Ans (.tuple #[.bool (mOk b a), .bool (anyB b && anyB a)]) w) := by
  obtain ⟨pa, ca, rfl⟩ := hva.is_slice
  obtain ⟨pb, cb, rfl⟩ := hvb.is_slice
  have HVA := Lib.hid hva
  have HVB := Lib.hid hvb
  obtain ⟨w0, hw0⟩ : ∃ w0, (w.alloc (.cells #[.string a.name, .slice pa a.args.length ca] 38)).alloc (.cells #[.string b.name, .slice pb b.args.length cb] 38) = w0 := ⟨_, rfl⟩
  have HB0 : Hid (Below w.heap.size w w0) := Lib.hid (by rw [← hw0]; exact ((Below.refl w.heap.size w).alloc (Nat.le_refl _) _).alloc (by simp) _)
  have P0 : Hid (Two w0 w.heap.size (.string a.name) (.slice pa a.args.length ca)) := Lib.hid (by rw [← hw0]; exact (two_new _ _ _ 38 _ rfl).alloc _)
  have T0 : Hid (Two w0 (w.heap.size + 1) (.string b.name) (.slice pb b.args.length cb)) := Lib.hid (by rw [← hw0]; exact two_new _ _ _ 38 (w.heap.size + 1) (by simp))
  obtain ⟨p0, p1, p2⟩ := P0.out
  obtain ⟨t0, t1, t2⟩ := T0.out
  obtain ⟨wa, hwq⟩ : ∃ wa, w0.alloc (.cells #[.string a.name, .slice pa a.args.length ca, .string b.name, .slice pb b.args.length cb] 38) = wa := ⟨_, rfl⟩
  have FA : Fou wa w0.heap.size (.string a.name) (.slice pa a.args.length ca) (.string b.name) (.slice pb b.args.length cb) := by rw [← hwq]; exact fou_new _ _ _ _ _ 38 _ rfl
  have B0A : Hid (Below w0.heap.size w0 wa) := Lib.hid (by rw [← hwq]; exact (Below.refl _ _).alloc (Nat.le_refl _) _)
  have HBA := Lib.hid (carry_below HB0.out (Nat.le_refl _) B0A.out)
  have CE := areExpr_any [a, b] wa (.slice (some ⟨w0.heap.size, 0, none⟩) 2 2) (tmS_twoM (HVA.out.kept HBA.out) (HVB.out.kept HBA.out) w0.heap.size 2 FA.1 FA.2.1 FA.2.2.1 FA.2.2.2.1) (by simp) (fun s hs => by
    rcases List.mem_cons.1 hs with e | hs
    · rw [e]; exact hwa
    · rw [List.mem_singleton.1 hs]; exact hwb)
  rw [all_two] at CE
  have CE := Lib.hid CE
  clear FA
  clear hva hvb
  go_enter Try.func39, Try.ntmps39
  go_wp2_with fail
  refine CE.out.mono ?_
  rintro e w1 ⟨rfl, hb⟩
  have HBB := Lib.hid (carry_below B0A.out (Nat.le_refl _) hb)
  have HB1 := Lib.hid (carry_below HBA.out (Nat.le_refl _) hb)
  have P1 := Lib.hid (P0.out.kept HBB.out)
  have T1 := Lib.hid (T0.out.kept HBB.out)
  clear hb hw0 hwq p0 p1 p2 t0 t1 t2 CE
  obtain ⟨p0, p1, p2⟩ := P1.out
  obtain ⟨t0, t1, t2⟩ := T1.out
  have HC : Hid ((anyB a && anyB b) = (anyB b && anyB a)) := Lib.hid (Bool.and_comm _ _)
  cases hg : (anyB a && anyB b) with
  | false =>
    have HF := Lib.hid (mOk_b (p := b) (t := a) (by rw [← HC.out]; exact hg))
    have HG := Lib.hid (HC.out.symm.trans hg)
    clear hg
    go_wp2
    go_ret2
    exact ⟨ret_bbK HF.out.symm HG.out.symm, HB1.out⟩
  | true =>
    have HG := Lib.hid (HC.out.symm.trans hg)
    clear hg
    go_wp2_with fail
    refine (implMatch_any b a _ _ _ (HVB.out.kept HB1.out) (HVA.out.kept HB1.out) hwb hwa).mono ?_
    rintro e w2 ⟨v3, rfl, ho, hb⟩
    have HB2 := Lib.hid (carry_below HB1.out (Nat.le_refl _) hb)
    have P2 := Lib.hid (P1.out.kept hb)
    have T2 := Lib.hid (T1.out.kept hb)
    obtain ⟨p3, c3, rfl⟩ := ho.read.is_slice
    have HB4 := Lib.hid (HB2.out.alloc HB2.out.size (.cells #[.slice p3 (mR b a).length c3] 34))
    clear ho
    clear hb p0 p1 p2 t0 t1 t2
    obtain ⟨p0, p1, p2⟩ := P2.out
    obtain ⟨t0, t1, t2⟩ := T2.out
    go_wp2
    go_ret2
    exact ⟨ret_bbK rfl HG.out.symm, HB4.out⟩

set_option maxRecDepth 100000 in
set_option maxHeartbeats 1000000 in
theorem specVar_any (a b : Tm) (w : World) (va vb : Value) (hva : TmS w va a.args) (hvb : TmS w vb b.args) (hwa : a.wt ≤ 1048576) (hwb : b.wt ≤ 1048576) :
    Calls Try.prog 40 #[.agg #[.string a.name, va], .agg #[.string b.name, vb]] w (Ans (.tuple #[.bool (mOk a b && mOk b a), .bool (anyB a && anyB b)]) w) := by
  obtain ⟨pa, ca, rfl⟩ := hva.is_slice
  obtain ⟨pb, cb, rfl⟩ := hvb.is_slice
  have HVA := Lib.hid hva
  have HVB := Lib.hid hvb
  obtain ⟨w0, hw0⟩ : ∃ w0, (w.alloc (.cells #[.string a.name, .slice pa a.args.length ca] 38)).alloc (.cells #[.string b.name, .slice pb b.args.length cb] 38) = w0 := ⟨_, rfl⟩
  have HB0 : Hid (Below w.heap.size w w0) := Lib.hid (by rw [← hw0]; exact ((Below.refl w.heap.size w).alloc (Nat.le_refl _) _).alloc (by simp) _)
  have P0 : Hid (Two w0 w.heap.size (.string a.name) (.slice pa a.args.length ca)) := Lib.hid (by rw [← hw0]; exact (two_new _ _ _ 38 _ rfl).alloc _)
  have T0 : Hid (Two w0 (w.heap.size + 1) (.string b.name) (.slice pb b.args.length cb)) := Lib.hid (by rw [← hw0]; exact two_new _ _ _ 38 (w.heap.size + 1) (by simp))
  obtain ⟨p0, p1, p2⟩ := P0.out
  obtain ⟨t0, t1, t2⟩ := T0.out
  clear hva hvb
  go_enter Try.func40, Try.ntmps40
  go_wp2_with fail
  refine (l2Any_any a _ _ (HVA.out.kept HB0.out) hwa).mono ?_
  rintro e w1 ⟨rfl, hb⟩
  have HB1 := Lib.hid (carry_below HB0.out (Nat.le_refl _) hb)
  have P1 := Lib.hid (P0.out.kept hb)
  have T1 := Lib.hid (T0.out.kept hb)
  clear hw0
  clear hb p0 p1 p2 t0 t1 t2
  obtain ⟨p0, p1, p2⟩ := P1.out
  obtain ⟨t0, t1, t2⟩ := T1.out
  cases hg : anyB a with
  | false =>
    have HF := Lib.hid (mOk_p (t := b) hg)
    go_wp2
    go_ret2
    exact ⟨ret_bbK (by rw [HF.out]; rfl) (by rw [hg]; rfl), HB1.out⟩
  | true =>
    have HGA := Lib.hid hg
    clear hg
    go_wp2_with fail
    refine (l2Any_any b _ _ (HVB.out.kept HB1.out) hwb).mono ?_
    rintro e w2 ⟨rfl, hb⟩
    have HB2 := Lib.hid (carry_below HB1.out (Nat.le_refl _) hb)
    have P2 := Lib.hid (P1.out.kept hb)
    have T2 := Lib.hid (T1.out.kept hb)
    clear hb p0 p1 p2 t0 t1 t2
    obtain ⟨p0, p1, p2⟩ := P2.out
    obtain ⟨t0, t1, t2⟩ := T2.out
    cases hg : anyB b with
    | false =>
      have HF := Lib.hid (mOk_t (p := a) hg)
      go_wp2
      go_ret2
      exact ⟨ret_bbK (by rw [HF.out]; rfl) (by rw [hg]; simp), HB2.out⟩
    | true =>
      have HGB := Lib.hid hg
      clear hg
      go_wp2_with fail
      refine (specMatch_any a b _ _ _ (HVA.out.kept HB2.out) (HVB.out.kept HB2.out) hwa hwb).mono ?_
      rintro e w3 ⟨v3, rfl, ho, hb⟩
      have HB3 := Lib.hid (carry_below HB2.out (Nat.le_refl _) hb)
      have P3 := Lib.hid (P2.out.kept hb)
      have T3 := Lib.hid (T2.out.kept hb)
      obtain ⟨q3, c3, rfl⟩ := ho.read.is_slice
      obtain ⟨w4, hw4⟩ : ∃ w4, w3.alloc (.cells #[.slice q3 (mR a b).length c3] 34) = w4 := ⟨_, rfl⟩
      have B4 : Hid (Below w3.heap.size w3 w4) := Lib.hid (by rw [← hw4]; exact (Below.refl _ _).alloc (Nat.le_refl _) _)
      have HB4 := Lib.hid (carry_below HB3.out (Nat.le_refl _) B4.out)
      have P4 := Lib.hid (P3.out.kept B4.out)
      have T4 := Lib.hid (T3.out.kept B4.out)
      clear ho
      clear hb p0 p1 p2 t0 t1 t2
      obtain ⟨p0, p1, p2⟩ := P4.out
      obtain ⟨t0, t1, t2⟩ := T4.out
      obtain ⟨m, hm⟩ : ∃ m, m = mOk a b := ⟨_, rfl⟩
      rw [← hm]
      have HM := Lib.hid hm
      clear hm
      go_wp2_with fail
      refine (specMatch_any b a _ _ _ (HVB.out.kept HB4.out) (HVA.out.kept HB4.out) hwb hwa).mono ?_
      rintro e w5 ⟨v5, rfl, ho, hb⟩
      have HB5 := Lib.hid (carry_below HB4.out (Nat.le_refl _) hb)
      have P5 := Lib.hid (P4.out.kept hb)
      have T5 := Lib.hid (T4.out.kept hb)
      obtain ⟨q5, c5, rfl⟩ := ho.read.is_slice
      have HB6 := Lib.hid (HB5.out.alloc HB5.out.size (.cells #[.slice q5 (mR b a).length c5] 34))
      clear ho hw4
      clear hb p0 p1 p2 t0 t1 t2
      obtain ⟨p0, p1, p2⟩ := P5.out
      obtain ⟨t0, t1, t2⟩ := T5.out
      obtain ⟨m2, hm2⟩ : ∃ m2, m2 = mOk b a := ⟨_, rfl⟩
      rw [← hm2]
      have HM2 := Lib.hid hm2
      clear hm2
      cases m with
      | false =>
        go_wp2
        go_ret2
        exact ⟨ret_bbK (by rw [← HM.out]; rfl) (by rw [HGA.out, HGB.out]; rfl), HB6.out⟩
      | true =>
        go_wp2
        go_ret2
        exact ⟨ret_bbK (by rw [← HM.out, ← HM2.out]; rfl) (by rw [HGA.out, HGB.out]; rfl), HB6.out⟩

set_option maxRecDepth 100000 in
set_option maxHeartbeats 1000000 in
theorem implVar_any (a b : Tm) (w : World) (va vb : Value) (hva : TmS w va a.args) (hvb : TmS w vb b.args) (hwa : a.wt ≤ 1048576) (hwb : b.wt ≤ 1048576) :
    Calls Try.prog 41 #[.agg #[.string a.name, va], .agg #[.string b.name, vb]] w (Ans (.tuple #[.bool (mOk a b && mOk b a), .bool (anyB a && anyB b)]) w) := by
  obtain ⟨pa, ca, rfl⟩ := hva.is_slice
  obtain ⟨pb, cb, rfl⟩ := hvb.is_slice
  have HVA := Lib.hid hva
  have HVB := Lib.hid hvb
  obtain ⟨w0, hw0⟩ : ∃ w0, (w.alloc (.cells #[.string a.name, .slice pa a.args.length ca] 38)).alloc (.cells #[.string b.name, .slice pb b.args.length cb] 38) = w0 := ⟨_, rfl⟩
  have HB0 : Hid (Below w.heap.size w w0) := Lib.hid (by rw [← hw0]; exact ((Below.refl w.heap.size w).alloc (Nat.le_refl _) _).alloc (by simp) _)
  have P0 : Hid (Two w0 w.heap.size (.string a.name) (.slice pa a.args.length ca)) := Lib.hid (by rw [← hw0]; exact (two_new _ _ _ 38 _ rfl).alloc _)
  have T0 : Hid (Two w0 (w.heap.size + 1) (.string b.name) (.slice pb b.args.length cb)) := Lib.hid (by rw [← hw0]; exact two_new _ _ _ 38 (w.heap.size + 1) (by simp))
  obtain ⟨p0, p1, p2⟩ := P0.out
  obtain ⟨t0, t1, t2⟩ := T0.out
  clear hva hvb
  go_enter Try.func41, Try.ntmps41
  go_wp2_with fail
  refine (implIsI_any a b _ _ _ (HVA.out.kept HB0.out) (HVB.out.kept HB0.out) hwa hwb).mono ?_
  rintro e w1 ⟨rfl, hb⟩
  have HB1 := Lib.hid (carry_below HB0.out (Nat.le_refl _) hb)
  have P1 := Lib.hid (P0.out.kept hb)
  have T1 := Lib.hid (T0.out.kept hb)
  clear hw0
  clear hb p0 p1 p2 t0 t1 t2
  obtain ⟨p0, p1, p2⟩ := P1.out
  obtain ⟨t0, t1, t2⟩ := T1.out
  have HC : Hid ((anyB b && anyB a) = (anyB a && anyB b)) := Lib.hid (Bool.and_comm _ _)
  obtain ⟨o, ho⟩ : ∃ o, o = (anyB b && anyB a) := ⟨_, rfl⟩
  obtain ⟨m, hm⟩ : ∃ m, m = mOk b a := ⟨_, rfl⟩
  rw [← ho, ← hm]
  have HO := Lib.hid (ho.trans HC.out)
  have HM := Lib.hid hm
  have HMO : Hid (m = true → o = true) := Lib.hid (fun h => by rw [ho]; have := mOk_any (p := b) (t := a) (by rw [← hm]; exact h); rw [this.1, this.2]; rfl)
  clear ho hm
  cases o with
  | false =>
    have hmf : m = false := by cases m with | false => rfl | true => exact absurd (HMO.out rfl) (by simp)
    subst hmf
    go_wp2
    go_ret2
    exact ⟨ret_bbK (by rw [← HM.out]; simp) HO.out, HB1.out⟩
  | true =>
    cases m with
    | false =>
      go_wp2
      go_ret2
      exact ⟨ret_bbK (by rw [← HM.out]; simp) HO.out, HB1.out⟩
    | true =>
      go_wp2_with fail
      refine (implIsI_any b a _ _ _ (HVB.out.kept HB1.out) (HVA.out.kept HB1.out) hwb hwa).mono ?_
      rintro e w2 ⟨rfl, hb⟩
      have HB2 := Lib.hid (carry_below HB1.out (Nat.le_refl _) hb)
      have P2 := Lib.hid (P1.out.kept hb)
      have T2 := Lib.hid (T1.out.kept hb)
      clear hb p0 p1 p2 t0 t1 t2
      obtain ⟨p0, p1, p2⟩ := P2.out
      obtain ⟨t0, t1, t2⟩ := T2.out
      go_wp2
      go_ret2
      exact ⟨ret_bbK (by rw [← HM.out]; simp) rfl, HB2.out⟩

end Go.Proofs.Ytnkonhdnccolhaa
