/- IsUnifier, the model's and the program's: contracts, for bindings and terms of at most 1048576 names' bytes, bindings and arguments. -/
import Derived.Test.YtnkonhdnccolhaaAppA
import Derived.Test.YtnkonhdnccolhaaTree
namespace Go.Proofs.Ytnkonhdnccolhaa
open Go.RowKit
set_option linter.unusedVariables false

def isuOk (l : List Bd) (a b : Tm) : Bool := appOk l a && appOk l b
def isuR (l : List Bd) (a b : Tm) : Bool := isuOk l a b && eqT (appR l a) (appR l b)
theorem isu_a {l : List Bd} {a b : Tm} (h : appOk l a = false) : isuOk l a b = false ∧ isuR l a b = false := by unfold isuR isuOk; rw [h]; exact ⟨rfl, rfl⟩
theorem isu_b {l : List Bd} {a b : Tm} (h : appOk l b = false) : isuOk l a b = false ∧ isuR l a b = false := by unfold isuR isuOk; rw [h]; simp
theorem isu_y {l : List Bd} {a b : Tm} (h : appOk l a = true) (h' : appOk l b = true) : isuOk l a b = true ∧ isuR l a b = eqT (appR l a) (appR l b) := by unfold isuR isuOk; rw [h, h']; simp
theorem ret_bbK {a b c d : Bool} (h : a = b) (k : c = d) : Ending.returned (.tuple #[.bool a, .bool c]) = .returned (.tuple #[.bool b, .bool d]) := by rw [h, k]

/-- A block whose first four cells hold these values, not frozen. -/
def Fou (w : World) (b : Nat) (x y z u : Value) : Prop := w.cell? ⟨b, 0, none⟩ = some x ∧ w.cell? ⟨b, 1, none⟩ = some y ∧ w.cell? ⟨b, 2, none⟩ = some z ∧ w.cell? ⟨b, 3, none⟩ = some u ∧ ∀ j, w.frozen? ⟨b, j, none⟩ = false
theorem fou_new (w : World) (x y z u : Value) (T : TypeId) (b : Nat) (hb : b = w.heap.size) : Fou (w.alloc (.cells #[x, y, z, u] T)) b x y z u :=
  ⟨by rw [World.cell?_alloc_at _ _ _ _ hb]; rfl, by rw [World.cell?_alloc_at _ _ _ _ hb]; rfl, by rw [World.cell?_alloc_at _ _ _ _ hb]; rfl, by rw [World.cell?_alloc_at _ _ _ _ hb]; rfl, fun j => World.frozen?_alloc_at _ _ _ _ hb⟩
theorem Fou.kept {w w' : World} {b : Nat} {x y z u : Value} (h : Fou w b x y z u) (hb : Below w.heap.size w w') : Fou w' b x y z u :=
  ⟨carry_cell h.1 hb, carry_cell h.2.1 hb, carry_cell h.2.2.1 hb, carry_cell h.2.2.2.1 hb, fun j => (hb.frozen (p := ⟨b, j, none⟩) (World.block_lt_of_cell? w ⟨b, 0, none⟩ h.1)).trans (h.2.2.2.2 j)⟩
theorem Fou.alloc {w : World} {b : Nat} {x y z u : Value} (h : Fou w b x y z u) (o : Obj) : Fou (w.alloc o) b x y z u := h.kept ((Below.refl _ _).alloc (Nat.le_refl _) o)

set_option maxRecDepth 100000 in
set_option maxHeartbeats 4000000 in
theorem specIsU_any (l : List Bd) (a b : Tm) (w : World) (v va vb : Value) (hv : BdS w v l) (hva : TmS w va a.args) (hvb : TmS w vb b.args) (hl : wtB l ≤ 1048576) (hwa : a.wt ≤ 1048576) (hwb : b.wt ≤ 1048576) :
    Calls Try.prog 18 #[.agg #[v], .agg #[.string a.name, va], .agg #[.string b.name, vb]] w (Ans (.tuple #[.bool (isuR l a b), .bool (isuOk l a b)]) w) := by
  obtain ⟨sa, sc, rfl⟩ := hv.is_slice
  obtain ⟨pa, ca, rfl⟩ := hva.is_slice
  obtain ⟨pb, cb, rfl⟩ := hvb.is_slice
  have HVS := Lib.hid hv
  have HVA := Lib.hid hva
  have HVB := Lib.hid hvb
  obtain ⟨w0, hw0⟩ : ∃ w0, ((w.alloc (.cells #[.slice sa l.length sc] 34)).alloc (.cells #[.string a.name, .slice pa a.args.length ca] 38)).alloc (.cells #[.string b.name, .slice pb b.args.length cb] 38) = w0 := ⟨_, rfl⟩
  have HB0 : Hid (Below w.heap.size w w0) := Lib.hid (by rw [← hw0]; exact (((Below.refl w.heap.size w).alloc (Nat.le_refl _) _).alloc (by simp) _).alloc (by simp; omega) _)
  have S0 : Hid (Oner w0 w.heap.size (.slice sa l.length sc)) := Lib.hid (by rw [← hw0]; exact ((oner_new w (.slice sa l.length sc) 34 _ rfl).alloc _).alloc _)
  have A0 : Hid (Two w0 (w.heap.size + 1) (.string a.name) (.slice pa a.args.length ca)) := Lib.hid (by rw [← hw0]; exact (two_new _ _ _ 38 (w.heap.size + 1) (by simp)).alloc _)
  have T0 : Hid (Two w0 (w.heap.size + 1 + 1) (.string b.name) (.slice pb b.args.length cb)) := Lib.hid (by rw [← hw0]; exact two_new _ _ _ 38 (w.heap.size + 1 + 1) (by simp))
  obtain ⟨s0, s1⟩ := S0.out
  obtain ⟨a0, a1, a2⟩ := A0.out
  clear hv hva hvb
  go_enter Try.func18, Try.ntmps18
  go_wp2_with fail
  refine (specApply_any l a w0 _ _ (HVS.out.kept HB0.out) (HVA.out.kept HB0.out) hl hwa).mono ?_
  rintro e w1 ⟨v1, rfl, ho, hb⟩
  obtain ⟨p1, c1, rfl⟩ := ho.read.is_slice
  have hx1 := appR_wt l a
  obtain ⟨x, hx⟩ : ∃ x, x = appR l a := ⟨_, rfl⟩
  obtain ⟨xo, hxo⟩ : ∃ xo, xo = appOk l a := ⟨_, rfl⟩
  rw [← hx] at ho hx1 ⊢
  rw [← hxo]
  obtain ⟨w2, hw2⟩ : ∃ w2, w1.alloc (.cells #[.string x.name, .slice p1 x.args.length c1] 38) = w2 := ⟨_, rfl⟩
  have B2 : Hid (Below w1.heap.size w1 w2) := Lib.hid (by rw [← hw2]; exact (Below.refl _ _).alloc (Nat.le_refl _) _)
  have X2 : Hid (Two w2 w1.heap.size (.string x.name) (.slice p1 x.args.length c1)) := Lib.hid (by rw [← hw2]; exact two_new _ _ _ 38 _ rfl)
  have BB := Lib.hid (carry_below hb (Nat.le_refl _) B2.out)
  have HX2 := Lib.hid (ho.read.kept B2.out)
  have HB2 := Lib.hid (carry_below HB0.out (Nat.le_refl _) BB.out)
  have S2 := Lib.hid (S0.out.kept BB.out)
  have T2 := Lib.hid (T0.out.kept BB.out)
  have HX := Lib.hid hx
  have HXO := Lib.hid hxo
  clear hb ho hw0 s0 s1 a0 a1 a2 S0 A0 T0 hx hxo
  obtain ⟨s0, s1⟩ := S2.out
  obtain ⟨t0, t1, t2⟩ := T2.out
  go_wp2_with fail
  refine (specApply_any l b w2 _ _ (HVS.out.kept HB2.out) (HVB.out.kept HB2.out) hl hwb).mono ?_
  rintro e w3 ⟨v3, rfl, ho, hb⟩
  obtain ⟨p3, c3, rfl⟩ := ho.read.is_slice
  have hy1 := appR_wt l b
  obtain ⟨y, hy⟩ : ∃ y, y = appR l b := ⟨_, rfl⟩
  obtain ⟨yo, hyo⟩ : ∃ yo, yo = appOk l b := ⟨_, rfl⟩
  rw [← hy] at ho hy1 ⊢
  rw [← hyo]
  obtain ⟨w4, hw4⟩ : ∃ w4, w3.alloc (.cells #[.string y.name, .slice p3 y.args.length c3] 38) = w4 := ⟨_, rfl⟩
  have B4 : Hid (Below w3.heap.size w3 w4) := Lib.hid (by rw [← hw4]; exact (Below.refl _ _).alloc (Nat.le_refl _) _)
  have Y4 : Hid (Two w4 w3.heap.size (.string y.name) (.slice p3 y.args.length c3)) := Lib.hid (by rw [← hw4]; exact two_new _ _ _ 38 _ rfl)
  have BB4 := Lib.hid (carry_below hb (Nat.le_refl _) B4.out)
  have HY4 := Lib.hid (ho.read.kept B4.out)
  have HX4 := Lib.hid (HX2.out.kept BB4.out)
  have HB4 := Lib.hid (carry_below HB2.out (Nat.le_refl _) BB4.out)
  have X4 := Lib.hid (X2.out.kept BB4.out)
  have HY := Lib.hid hy
  have HYO := Lib.hid hyo
  clear hb ho hw2 s0 s1 t0 t1 t2 S2 T2 hy hyo
  obtain ⟨x0, x1, x2⟩ := X4.out
  obtain ⟨y0, y1, y2⟩ := Y4.out
  cases xo with
  | false =>
    have HF := Lib.hid (isu_a (b := b) HXO.out.symm)
    go_wp2
    go_ret2
    exact ⟨ret_bbK HF.out.2.symm HF.out.1.symm, HB4.out⟩
  | true =>
    cases yo with
    | false =>
      have HF := Lib.hid (isu_b (a := a) HYO.out.symm)
      go_wp2
      go_ret2
      exact ⟨ret_bbK HF.out.2.symm HF.out.1.symm, HB4.out⟩
    | true =>
      have HF := isu_y HXO.out.symm HYO.out.symm
      rw [← HX.out, ← HY.out] at HF
      have HF := Lib.hid HF
      go_wp2_with fail
      refine (l2Same_any x y w4 _ _ HX4.out HY4.out hx1 hy1).mono ?_
      rintro e w5 ⟨rfl, hb⟩
      have HB5 := Lib.hid (carry_below HB4.out (Nat.le_refl _) hb)
      clear hb hw4
      go_wp2
      go_ret2
      exact ⟨ret_bbK HF.out.2.symm HF.out.1.symm, HB5.out⟩

def EqnEnd (l : List Bd) (a b : Tm) (w : World) (e : Ending) (w' : World) : Prop :=
  ∃ (x y : Tm) (vx vy : Value), e = .returned (.tuple #[.agg #[.string x.name, vx, .string y.name, vy], .bool (isuOk l a b)]) ∧ TmS w' vx x.args ∧ TmS w' vy y.args ∧ (isuOk l a b = true → x = appR l a ∧ y = appR l b) ∧ Below w.heap.size w w'

set_option maxRecDepth 100000 in
set_option maxHeartbeats 4000000 in
theorem apply2_any (l : List Bd) (a b : Tm) (w : World) (v va vb : Value) (hv : BdS w v l) (hva : TmS w va a.args) (hvb : TmS w vb b.args) (hl : wtB l ≤ 1048576) (hwa : a.wt ≤ 1048576) (hwb : b.wt ≤ 1048576) :
    Calls Try.prog 78 #[.agg #[.string a.name, va, .string b.name, vb], .agg #[v]] w (EqnEnd l a b w) := by
  obtain ⟨sa, sc, rfl⟩ := hv.is_slice
  obtain ⟨pa, ca, rfl⟩ := hva.is_slice
  obtain ⟨pb, cb, rfl⟩ := hvb.is_slice
  have HVS := Lib.hid hv
  have HVA := Lib.hid hva
  have HVB := Lib.hid hvb
  obtain ⟨w0, hw0⟩ : ∃ w0, ((w.alloc (.cells #[.string a.name, .slice pa a.args.length ca, .string b.name, .slice pb b.args.length cb] 94)).alloc (.cells #[.slice sa l.length sc] 34)).alloc (.cells #[.string ⟨#[]⟩, .slice none 0 0, .string ⟨#[]⟩, .slice none 0 0] 94) = w0 := ⟨_, rfl⟩
  have HB0 : Hid (Below w.heap.size w w0) := Lib.hid (by rw [← hw0]; exact (((Below.refl w.heap.size w).alloc (Nat.le_refl _) _).alloc (by simp) _).alloc (by simp; omega) _)
  have E0 : Hid (Fou w0 w.heap.size (.string a.name) (.slice pa a.args.length ca) (.string b.name) (.slice pb b.args.length cb)) := Lib.hid (by rw [← hw0]; exact ((fou_new w _ _ _ _ 94 _ rfl).alloc _).alloc _)
  have S0 : Hid (Oner w0 (w.heap.size + 1) (.slice sa l.length sc)) := Lib.hid (by rw [← hw0]; exact (oner_new _ (.slice sa l.length sc) 34 (w.heap.size + 1) (by simp)).alloc _)
  have R0 : Hid (Fou w0 (w.heap.size + 1 + 1) (.string ⟨#[]⟩) (.slice none 0 0) (.string ⟨#[]⟩) (.slice none 0 0)) := Lib.hid (by rw [← hw0]; exact fou_new _ _ _ _ _ 94 (w.heap.size + 1 + 1) (by simp))
  obtain ⟨s0, s1⟩ := S0.out
  obtain ⟨a0, a1, a2, a3, a4⟩ := E0.out
  clear hv hva hvb
  go_enter Try.func78, Try.ntmps78
  go_wp2_with fail
  with_reducible refine (implApply_any l a w0 _ _ (HVS.out.kept HB0.out) (HVA.out.kept HB0.out) hl hwa).mono ?_
  rintro e w1 ⟨v1, rfl, ho, hb⟩
  obtain ⟨p1, c1, rfl⟩ := ho.read.is_slice
  have hx1 := appR_wt l a
  obtain ⟨x, hx⟩ : ∃ x, x = appR l a := ⟨_, rfl⟩
  obtain ⟨xo, hxo⟩ : ∃ xo, xo = appOk l a := ⟨_, rfl⟩
  rw [← hx] at ho hx1 ⊢
  rw [← hxo]
  obtain ⟨w2, hw2⟩ : ∃ w2, w1.alloc (.cells #[.string x.name, .slice p1 x.args.length c1] 38) = w2 := ⟨_, rfl⟩
  have B2 : Hid (Below w1.heap.size w1 w2) := Lib.hid (by rw [← hw2]; exact (Below.refl _ _).alloc (Nat.le_refl _) _)
  have X2 : Hid (Two w2 w1.heap.size (.string x.name) (.slice p1 x.args.length c1)) := Lib.hid (by rw [← hw2]; exact two_new _ _ _ 38 _ rfl)
  have BB := Lib.hid (carry_below hb (Nat.le_refl _) B2.out)
  have HX2 := Lib.hid (ho.frame fun k hk => B2.out.block k hk.2)
  have HB2 := Lib.hid (carry_below HB0.out (Nat.le_refl _) BB.out)
  have S2 := Lib.hid (S0.out.kept BB.out)
  have E2 := Lib.hid (E0.out.kept BB.out)
  have R2 := Lib.hid (R0.out.kept BB.out)
  have HX := Lib.hid hx
  have HXO := Lib.hid hxo
  have Z0 : Hid (w0.heap.size = w.heap.size + 3) := Lib.hid (by rw [← hw0]; simp)
  have Z1 : Hid (w1.heap.size ≤ w2.heap.size) := Lib.hid B2.out.size
  clear hb ho hw0 s0 s1 a0 a1 a2 a3 a4 S0 E0 R0 hx hxo
  obtain ⟨s0, s1⟩ := S2.out
  obtain ⟨a0, a1, a2, a3, a4⟩ := E2.out
  go_wp2_with fail
  with_reducible refine (implApply_any l b w2 _ _ (HVS.out.kept HB2.out) (HVB.out.kept HB2.out) hl hwb).mono ?_
  rintro e w3 ⟨v3, rfl, ho, hb⟩
  obtain ⟨p3, c3, rfl⟩ := ho.read.is_slice
  have hy1 := appR_wt l b
  obtain ⟨y, hy⟩ : ∃ y, y = appR l b := ⟨_, rfl⟩
  obtain ⟨yo, hyo⟩ : ∃ yo, yo = appOk l b := ⟨_, rfl⟩
  rw [← hy] at ho hy1 ⊢
  rw [← hyo]
  obtain ⟨w4, hw4⟩ : ∃ w4, w3.alloc (.cells #[.string y.name, .slice p3 y.args.length c3] 38) = w4 := ⟨_, rfl⟩
  have B4 : Hid (Below w3.heap.size w3 w4) := Lib.hid (by rw [← hw4]; exact (Below.refl _ _).alloc (Nat.le_refl _) _)
  have Y4 : Hid (Two w4 w3.heap.size (.string y.name) (.slice p3 y.args.length c3)) := Lib.hid (by rw [← hw4]; exact two_new _ _ _ 38 _ rfl)
  have BB4 := Lib.hid (carry_below hb (Nat.le_refl _) B4.out)
  have HY4 := Lib.hid (ho.frame fun k hk => B4.out.block k hk.2)
  have HX4 := Lib.hid (HX2.out.frame fun k hk => BB4.out.block k (Nat.lt_of_lt_of_le hk.2 Z1.out))
  have HB4 := Lib.hid (carry_below HB2.out (Nat.le_refl _) BB4.out)
  have X4 := Lib.hid (X2.out.kept BB4.out)
  have R4 := Lib.hid (R2.out.kept BB4.out)
  have HY := Lib.hid hy
  have HYO := Lib.hid hyo
  have Z2 : Hid (w0.heap.size ≤ w2.heap.size) := Lib.hid BB.out.size
  clear hb ho hw2 s0 s1 a0 a1 a2 a3 a4 S2 E2 R2 hy hyo
  obtain ⟨x0, x1, x2⟩ := X4.out
  obtain ⟨y0, y1, y2⟩ := Y4.out
  obtain ⟨r0, r1, r2, r3, r4⟩ := R4.out
  cases xo with
  | false =>
    have HF := Lib.hid (isu_a (b := b) HXO.out.symm)
    go_wp2
    refine bodyPost_ret (v := .tuple #[.agg #[.string ⟨#[]⟩, .slice none 0 0, .string ⟨#[]⟩, .slice none 0 0], .bool false]) (by simp [results, Try.results78, go_sem, r0, r1, r2, r3]) rfl ?_
    exact ⟨.node ByteArray.empty [], .node ByteArray.empty [], .slice none 0 0, .slice none 0 0, by rw [HF.out.1]; rfl, .emp _ _, .emp _ _, fun h => absurd h (by rw [HF.out.1]; decide), ((((HB4.out.setCell (by simp; omega) _).setCell (by simp; omega) _).setCell (by simp; omega) _).setCell (by simp; omega) _)⟩
  | true =>
    cases yo with
    | false =>
      have HF := Lib.hid (isu_b (a := a) HYO.out.symm)
      go_wp2
      refine bodyPost_ret (v := .tuple #[.agg #[.string ⟨#[]⟩, .slice none 0 0, .string ⟨#[]⟩, .slice none 0 0], .bool false]) (by simp [results, Try.results78, go_sem, r0, r1, r2, r3]) rfl ?_
      exact ⟨.node ByteArray.empty [], .node ByteArray.empty [], .slice none 0 0, .slice none 0 0, by rw [HF.out.1]; rfl, .emp _ _, .emp _ _, fun h => absurd h (by rw [HF.out.1]; decide), ((((HB4.out.setCell (by simp; omega) _).setCell (by simp; omega) _).setCell (by simp; omega) _).setCell (by simp; omega) _)⟩
    | true =>
      have HF := isu_y HXO.out.symm HYO.out.symm
      have HF := Lib.hid HF
      go_wp2
      refine bodyPost_ret (v := .tuple #[.agg #[.string x.name, .slice p1 x.args.length c1, .string y.name, .slice p3 y.args.length c3], .bool true]) (by simp [results, Try.results78, go_sem, r0, r1, r2, r3]) rfl ?_
      have D0 : ∀ {S : Nat → Prop} {W : World} {v : Value} {t : List Tm}, TmO W S v t → ¬ S (w.heap.size + 1 + 1) → ∀ p q r s, TmS ((((W.setCell ⟨w.heap.size + 1 + 1, 0, none⟩ p).setCell ⟨w.heap.size + 1 + 1, 1, none⟩ q).setCell ⟨w.heap.size + 1 + 1, 2, none⟩ r).setCell ⟨w.heap.size + 1 + 1, 3, none⟩ s) v t := fun h hn p q r s =>
        ((((h.setCell hn _).setCell hn _).setCell hn _).setCell hn _).read
      exact ⟨x, y, .slice p1 x.args.length c1, .slice p3 y.args.length c3, by rw [HF.out.1], D0 HX4.out (fun h => by have := h.1; have := Z0.out; omega) _ _ _ _, D0 HY4.out (fun h => by have := h.1; have := Z0.out; have := Z2.out; omega) _ _ _ _, fun _ => ⟨HX.out, HY.out⟩, ((((HB4.out.setCell (by simp; omega) _).setCell (by simp; omega) _).setCell (by simp; omega) _).setCell (by simp; omega) _)⟩

set_option maxRecDepth 100000 in
set_option maxHeartbeats 4000000 in
theorem implIsU_any (l : List Bd) (a b : Tm) (w : World) (v va vb : Value) (hv : BdS w v l) (hva : TmS w va a.args) (hvb : TmS w vb b.args) (hl : wtB l ≤ 1048576) (hwa : a.wt ≤ 1048576) (hwb : b.wt ≤ 1048576) :
    Calls Try.prog 21 #[.agg #[v], .agg #[.string a.name, va], .agg #[.string b.name, vb]] w (Ans (.tuple #[.bool (isuR l a b), .bool (isuOk l a b)]) w) := by
  obtain ⟨sa, sc, rfl⟩ := hv.is_slice
  obtain ⟨pa, ca, rfl⟩ := hva.is_slice
  obtain ⟨pb, cb, rfl⟩ := hvb.is_slice
  have HVS := Lib.hid hv
  have HVA := Lib.hid hva
  have HVB := Lib.hid hvb
  obtain ⟨w0, hw0⟩ : ∃ w0, ((w.alloc (.cells #[.slice sa l.length sc] 34)).alloc (.cells #[.string a.name, .slice pa a.args.length ca] 38)).alloc (.cells #[.string b.name, .slice pb b.args.length cb] 38) = w0 := ⟨_, rfl⟩
  have HB0 : Hid (Below w.heap.size w w0) := Lib.hid (by rw [← hw0]; exact (((Below.refl w.heap.size w).alloc (Nat.le_refl _) _).alloc (by simp) _).alloc (by simp; omega) _)
  have S0 : Hid (Oner w0 w.heap.size (.slice sa l.length sc)) := Lib.hid (by rw [← hw0]; exact ((oner_new w (.slice sa l.length sc) 34 _ rfl).alloc _).alloc _)
  have A0 : Hid (Two w0 (w.heap.size + 1) (.string a.name) (.slice pa a.args.length ca)) := Lib.hid (by rw [← hw0]; exact (two_new _ _ _ 38 (w.heap.size + 1) (by simp)).alloc _)
  have T0 : Hid (Two w0 (w.heap.size + 1 + 1) (.string b.name) (.slice pb b.args.length cb)) := Lib.hid (by rw [← hw0]; exact two_new _ _ _ 38 (w.heap.size + 1 + 1) (by simp))
  obtain ⟨s0, s1⟩ := S0.out
  obtain ⟨a0, a1, a2⟩ := A0.out
  obtain ⟨t0, t1, t2⟩ := T0.out
  clear hv hva hvb
  go_enter Try.func21, Try.ntmps21
  go_wp2_with fail
  with_reducible refine (apply2_any l a b w0 _ _ _ (HVS.out.kept HB0.out) (HVA.out.kept HB0.out) (HVB.out.kept HB0.out) hl hwa hwb).mono ?_
  rintro e w1 ⟨x, y, vx, vy, rfl, hx, hy, hE, hb⟩
  obtain ⟨p1, c1, rfl⟩ := hx.is_slice
  obtain ⟨p3, c3, rfl⟩ := hy.is_slice
  obtain ⟨o, ho⟩ : ∃ o, o = isuOk l a b := ⟨_, rfl⟩
  rw [← ho] at hE ⊢
  obtain ⟨w2, hw2⟩ : ∃ w2, w1.alloc (.cells #[.string x.name, .slice p1 x.args.length c1, .string y.name, .slice p3 y.args.length c3] 94) = w2 := ⟨_, rfl⟩
  have B2 : Hid (Below w1.heap.size w1 w2) := Lib.hid (by rw [← hw2]; exact (Below.refl _ _).alloc (Nat.le_refl _) _)
  have X2 : Hid (Fou w2 w1.heap.size (.string x.name) (.slice p1 x.args.length c1) (.string y.name) (.slice p3 y.args.length c3)) := Lib.hid (by rw [← hw2]; exact fou_new _ _ _ _ _ 94 _ rfl)
  have HX2 := Lib.hid (hx.kept B2.out)
  have HY2 := Lib.hid (hy.kept B2.out)
  have HB2 := Lib.hid (carry_below HB0.out (Nat.le_refl _) (carry_below hb (Nat.le_refl _) B2.out))
  have HO := Lib.hid ho
  have HE := Lib.hid hE
  obtain ⟨x0, x1, x2, x3, x4⟩ := X2.out
  clear hb hw0 s0 s1 a0 a1 a2 t0 t1 t2 S0 A0 T0 hx hy ho hE
  cases o with
  | false =>
    have HF : Hid (isuR l a b = false) := Lib.hid (by unfold isuR; rw [← HO.out]; rfl)
    go_wp2
    go_ret2
    exact ⟨ret_bbK HF.out.symm HO.out, HB2.out⟩
  | true =>
    have HF : Hid (eqT x y = isuR l a b) := Lib.hid (by unfold isuR; rw [← HO.out, (HE.out rfl).1, (HE.out rfl).2]; rfl)
    have hwx : x.wt ≤ 1048576 := by rw [(HE.out rfl).1]; exact appR_wt l a
    have hwy : y.wt ≤ 1048576 := by rw [(HE.out rfl).2]; exact appR_wt l b
    have ET := equalTrees_any x
    unfold TreeT at ET
    go_wp2_with fail
    with_reducible refine (ET y w2 _ _ HX2.out HY2.out hwx hwy).mono ?_
    rintro e w3 ⟨rfl, hb⟩
    have HB3 := Lib.hid (carry_below HB2.out (Nat.le_refl _) hb)
    clear hb hw2
    go_wp2
    go_ret2
    exact ⟨ret_bbK HF.out HO.out, HB3.out⟩

end Go.Proofs.Ytnkonhdnccolhaa
