/- ReplaceAt, the model's and the program's: contracts, for terms of at most 1048576 names' bytes and arguments. -/
import Derived.Test.YtcijmhhajbgknaaWith
namespace Go.Proofs.Ytcijmhhajbgknaa
open Go.RowKit
set_option linter.unusedVariables false

def repA (t : Tm) (p : List Int) (s : Tm) : Option Tm :=
  if anyB t = true ∧ goodB s = true ∧ (subAt p t).isSome = true ∧ anyB (withAt p t s) = true then some (withAt p t s) else none
theorem repA_yes {t s : Tm} {p : List Int} (h1 : anyB t = true) (h2 : goodB s = true) (h3 : (subAt p t).isSome = true) (h4 : anyB (withAt p t s) = true) : repA t p s = some (withAt p t s) := by
  unfold repA; rw [if_pos ⟨h1, h2, h3, h4⟩]
theorem repA_no {t s : Tm} {p : List Int} (h : ¬ (anyB t = true ∧ goodB s = true ∧ (subAt p t).isSome = true ∧ anyB (withAt p t s) = true)) : repA t p s = none := by
  unfold repA; rw [if_neg h]
def repR (t : Tm) (p : List Int) (s : Tm) : Tm := (repA t p s).getD noTm
theorem repR_wt (t : Tm) (p : List Int) (s : Tm) : (repR t p s).wt ≤ t.wt + s.wt := by
  unfold repR repA
  split
  · exact withAt_wt p t s
  · have e : noTm.wt = 0 := by decide
    show noTm.wt ≤ _; omega

set_option maxRecDepth 100000 in
set_option maxHeartbeats 4000000 in
theorem specRep_any (t s : Tm) (p : List Int) (w : World) (va vp vs : Value) (hv : TmS w va t.args) (hp : IntsC w vp p) (hs : TmS w vs s.args) (hw : t.wt ≤ 1048576) (hws : s.wt ≤ 1048576) (hsum : t.wt + s.wt ≤ 1048576) (hl : p.length ≤ 1048576) :
    Calls Try.prog 24 #[.agg #[.string t.name, va], vp, .agg #[.string s.name, vs]] w (SubEnd (repA t p s) w) := by
  obtain ⟨a, c, rfl⟩ := hv.is_slice
  obtain ⟨sa, sc, rfl⟩ := hs.is_slice
  have HV := Lib.hid hv
  have HS := Lib.hid hs
  have HP := Lib.hid hp
  obtain ⟨⟨pa, pc, rfl, hpc⟩, _⟩ := hp
  have HB := Lib.hid ((((Below.refl w.heap.size w).alloc (Nat.le_refl _) (.cells #[.string t.name, .slice a t.args.length c] 24)).alloc (by simp) (.cells #[.string s.name, .slice sa s.args.length sc] 24)).alloc (by simp; omega) (.cells #[.string ⟨#[]⟩, .slice none 0 0] 24))
  have A2 := Lib.hid (((two_new w (.string t.name) (.slice a t.args.length c) 24 _ rfl).alloc (.cells #[.string s.name, .slice sa s.args.length sc] 24)).alloc (.cells #[.string ⟨#[]⟩, .slice none 0 0] 24))
  have S2 := Lib.hid ((two_new (w.alloc (.cells #[.string t.name, .slice a t.args.length c] 24)) (.string s.name) (.slice sa s.args.length sc) 24 (w.heap.size + 1) (by simp)).alloc (.cells #[.string ⟨#[]⟩, .slice none 0 0] 24))
  have R2 := Lib.hid (two_new ((w.alloc (.cells #[.string t.name, .slice a t.args.length c] 24)).alloc (.cells #[.string s.name, .slice sa s.args.length sc] 24)) (.string ⟨#[]⟩) (.slice none 0 0) 24 (w.heap.size + 1 + 1) (by simp))
  clear hv hs hpc
  go_enter Try.func24, Try.ntmps24
  go_wp2_with fail
  refine (l2Any_any t _ _ (HV.out.kept HB.out) hw).mono ?_
  rintro e w1 ⟨rfl, hb⟩
  have HB1 := Lib.hid (carry_below HB.out (Nat.le_refl _) hb)
  have A21 := Lib.hid (A2.out.kept hb)
  have S21 := Lib.hid (S2.out.kept hb)
  have R21 := Lib.hid (R2.out.kept hb)
  clear hb HB A2 S2 R2
  obtain ⟨a0, a1, a2⟩ := A21.out
  obtain ⟨s0, s1, s2⟩ := S21.out
  obtain ⟨r0, r1, r2⟩ := R21.out
  cases hf : anyB t with
  | false =>
    have HF : Hid (repA t p s = none) := Lib.hid (repA_no (by rw [hf]; simp))
    clear hf
    go_wp2
    refine bodyPost_ret (v := .tuple #[.agg #[.string ⟨#[]⟩, .slice none 0 0], .bool false]) (by simp [results, Try.results24, go_sem, r0, r1]) rfl ?_
    rw [HF.out]
    exact SubEnd.no ((HB1.out.setCell (by simp; omega) _).setCell (by simp; omega) _)
  | true =>
    have HT := Lib.hid hf
    clear hf
    go_wp2_with fail
    refine (l2Good_any s _ _ (HS.out.kept HB1.out) hws).mono ?_
    rintro e w2 ⟨rfl, hb⟩
    have HB2 := Lib.hid (carry_below HB1.out (Nat.le_refl _) hb)
    have A22 := Lib.hid (A21.out.kept hb)
    have S22 := Lib.hid (S21.out.kept hb)
    have R22 := Lib.hid (R21.out.kept hb)
    clear hb HB1 A21 S21 R21 a0 a1 a2 s0 s1 s2 r0 r1 r2
    obtain ⟨a0, a1, a2⟩ := A22.out
    obtain ⟨s0, s1, s2⟩ := S22.out
    obtain ⟨r0, r1, r2⟩ := R22.out
    cases hg : goodB s with
    | false =>
      have HF : Hid (repA t p s = none) := Lib.hid (repA_no (by rw [hg]; simp))
      clear hg
      go_wp2
      refine bodyPost_ret (v := .tuple #[.agg #[.string ⟨#[]⟩, .slice none 0 0], .bool false]) (by simp [results, Try.results24, go_sem, r0, r1]) rfl ?_
      rw [HF.out]
      exact SubEnd.no ((HB2.out.setCell (by simp; omega) _).setCell (by simp; omega) _)
    | true =>
      have HG := Lib.hid hg
      clear hg
      go_wp2_with fail
      refine (l2At_any t p _ _ _ (HV.out.kept HB2.out) (HP.out.1.kept HB2.out) hw hl).mono ?_
      rintro e w3 ⟨v3, rfl, ho, hb⟩
      obtain ⟨pv, cv, rfl⟩ := ho.read.is_slice
      have B23 : Hid (Below w2.heap.size w2 (w3.alloc (.cells #[.string ((subAt p t).getD noTm).name, .slice pv ((subAt p t).getD noTm).args.length cv] 24))) := Lib.hid (hb.alloc hb.size _)
      have HB3 := Lib.hid (carry_below HB2.out (Nat.le_refl _) B23.out)
      have A23 := Lib.hid (A22.out.kept B23.out)
      have S23 := Lib.hid (S22.out.kept B23.out)
      have R23 := Lib.hid (R22.out.kept B23.out)
      clear ho hb HB2 A22 S22 R22 a0 a1 a2 s0 s1 s2 r0 r1 r2
      obtain ⟨a0, a1, a2⟩ := A23.out
      obtain ⟨s0, s1, s2⟩ := S23.out
      obtain ⟨r0, r1, r2⟩ := R23.out
      cases hi : (subAt p t).isSome with
      | false =>
        have HF : Hid (repA t p s = none) := Lib.hid (repA_no (by rw [hi]; simp))
        clear hi
        go_wp2
        refine bodyPost_ret (v := .tuple #[.agg #[.string ⟨#[]⟩, .slice none 0 0], .bool false]) (by simp [results, Try.results24, go_sem, r0, r1]) rfl ?_
        rw [HF.out]
        exact SubEnd.no ((HB3.out.setCell (by simp; omega) _).setCell (by simp; omega) _)
      | true =>
        have HI := Lib.hid hi
        have HSO : Hid (∃ u, subAt p t = some u) := Lib.hid (Option.isSome_iff_exists.1 hi)
        clear hi
        generalize (subAt p t).getD noTm = z at *
        go_wp2_with fail
        refine (with_any p t s _ _ _ _ (HV.out.kept HB3.out) (HP.out.kept HB3.out) (HS.out.kept HB3.out) HSO.out hw hws hl).mono ?_
        rintro e w4 ⟨v4, rfl, ho, hb⟩
        obtain ⟨qv, qc, rfl⟩ := ho.read.is_slice
        obtain ⟨x, hx⟩ : ∃ x, x = withAt p t s := ⟨_, rfl⟩
        have HWT : Hid (x.wt ≤ 1048576) := Lib.hid (by rw [hx]; have := withAt_wt p t s; omega)
        rw [← hx] at ho ⊢
        have HX := Lib.hid hx
        have HO := Lib.hid ho
        have B34 : Hid (Below (w3.alloc (.cells #[.string z.name, .slice pv z.args.length cv] 24)).heap.size (w3.alloc (.cells #[.string z.name, .slice pv z.args.length cv] 24)) (w4.alloc (.cells #[.string x.name, .slice qv x.args.length qc] 24))) := Lib.hid (hb.alloc hb.size _)
        have B44 : Hid (Below w4.heap.size w4 (w4.alloc (.cells #[.string x.name, .slice qv x.args.length qc] 24))) := Lib.hid ((Below.refl _ _).alloc (Nat.le_refl _) _)
        have HB4 := Lib.hid (carry_below HB3.out (Nat.le_refl _) B34.out)
        have R24 := Lib.hid (R23.out.kept B34.out)
        have X24 := Lib.hid (two_new w4 (.string x.name) (.slice qv x.args.length qc) 24 _ rfl)
        have hz3 : w.heap.size + 3 ≤ w3.heap.size + 1 := by have := HB3.out.size; have := World.block_lt_of_cell? _ _ r0; simp at *; omega
        clear ho hb HB3 A23 S23 R23 a0 a1 a2 s0 s1 s2 r0 r1 r2 hx
        go_wp2_with fail
        refine (l2Any_any x _ _ (HO.out.read.kept B44.out) HWT.out).mono ?_
        rintro e w5 ⟨rfl, hb⟩
        have B45 := Lib.hid (carry_below B44.out (Nat.le_refl _) hb)
        have HB5 := Lib.hid (carry_below HB4.out (Nat.le_refl _) hb)
        obtain ⟨r0, r1, r2⟩ := R24.out.kept hb
        obtain ⟨x0, x1, x2⟩ := X24.out.kept hb
        have hz5 : w4.heap.size ≤ w5.heap.size := B45.out.size
        clear hb
        cases hn : anyB x with
        | false =>
          have HF : Hid (repA t p s = none) := Lib.hid (repA_no (by rw [← HX.out, hn]; simp))
          clear hn
          go_wp2
          refine bodyPost_ret (v := .tuple #[.agg #[.string ⟨#[]⟩, .slice none 0 0], .bool false]) (by simp [results, Try.results24, go_sem, r0, r1]) rfl ?_
          rw [HF.out]
          exact SubEnd.no ((HB5.out.setCell (by simp; omega) _).setCell (by simp; omega) _)
        | true =>
          have HF : Hid (repA t p s = some x) := Lib.hid (by rw [repA_yes HT.out HG.out HI.out (by rw [← HX.out]; exact hn), HX.out])
          clear hn
          go_wp2
          refine bodyPost_ret (v := .tuple #[.agg #[.string x.name, .slice qv x.args.length qc], .bool true]) (by simp [results, Try.results24, go_sem, r0, r1]) rfl ?_
          rw [HF.out]
          refine ⟨_, rfl, ?_, (HB5.out.setCell (by simp; omega) _).setCell (by simp; omega) _⟩
          refine (((HO.out.kept B45.out).setCell (fun h => by have := h.1; simp at this; omega) _).setCell (fun h => by have := h.1; simp at this; omega) _).mono fun y hy => ⟨?_, ?_⟩
          · have := hy.1; simp at this; omega
          · simp only [size_setCell]; have := hy.2; omega

end Go.Proofs.Ytcijmhhajbgknaa
