/- How a formula lies in memory: a slice value that reads as a list of formulas, five cells to each. No condition. -/
import Derived.Test.YtppmiedhoimgmaaTmO
import Derived.Test.YtppmiedhoimgmaaFm
namespace Go.Proofs.Ytppmiedhoimgmaa
open Go.RowKit
set_option linter.unusedVariables false

/-- The five cells of a formula. -/
def Fiv (w : World) (b o : Nat) (x0 x1 x2 x3 x4 : Value) : Prop :=
  w.cell? ⟨b, o, none⟩ = some x0 ∧ w.cell? ⟨b, o + 1, none⟩ = some x1 ∧ w.cell? ⟨b, o + 2, none⟩ = some x2 ∧ w.cell? ⟨b, o + 3, none⟩ = some x3 ∧ w.cell? ⟨b, o + 4, none⟩ = some x4

theorem Fiv.same {w w' : World} {b o : Nat} {x0 x1 x2 x3 x4 : Value} (h : Fiv w b o x0 x1 x2 x3 x4) (hc : ∀ a v, w.cell? a = some v → w'.cell? a = some v) : Fiv w' b o x0 x1 x2 x3 x4 :=
  ⟨hc _ _ h.1, hc _ _ h.2.1, hc _ _ h.2.2.1, hc _ _ h.2.2.2.1, hc _ _ h.2.2.2.2⟩
theorem Fiv.kept {w w' : World} {b o : Nat} {x0 x1 x2 x3 x4 : Value} (h : Fiv w b o x0 x1 x2 x3 x4) (hb : Below w.heap.size w w') : Fiv w' b o x0 x1 x2 x3 x4 :=
  h.same fun _ _ hc => carry_cell hc hb
theorem Fiv.block {w w' : World} {b o : Nat} {x0 x1 x2 x3 x4 : Value} (h : Fiv w b o x0 x1 x2 x3 x4) (e : w'.heap[b]? = w.heap[b]?) : Fiv w' b o x0 x1 x2 x3 x4 :=
  ⟨(World.cell?_of_block (a := ⟨b, o, none⟩) (w := w) e).trans h.1, (World.cell?_of_block (a := ⟨b, o + 1, none⟩) (w := w) e).trans h.2.1, (World.cell?_of_block (a := ⟨b, o + 2, none⟩) (w := w) e).trans h.2.2.1,
    (World.cell?_of_block (a := ⟨b, o + 3, none⟩) (w := w) e).trans h.2.2.2.1, (World.cell?_of_block (a := ⟨b, o + 4, none⟩) (w := w) e).trans h.2.2.2.2⟩

/-- A block of a call's own that holds a formula: its five cells, not frozen. -/
def FivB (w : World) (b : Nat) (x0 x1 x2 x3 x4 : Value) : Prop :=
  w.cell? ⟨b, 0, none⟩ = some x0 ∧ w.cell? ⟨b, 1, none⟩ = some x1 ∧ w.cell? ⟨b, 2, none⟩ = some x2 ∧ w.cell? ⟨b, 3, none⟩ = some x3 ∧ w.cell? ⟨b, 4, none⟩ = some x4 ∧ ∀ j, w.frozen? ⟨b, j, none⟩ = false

theorem fivB_new (w : World) (x0 x1 x2 x3 x4 : Value) (T : TypeId) (b : Nat) (hb : b = w.heap.size) : FivB (w.alloc (.cells #[x0, x1, x2, x3, x4] T)) b x0 x1 x2 x3 x4 :=
  ⟨by rw [World.cell?_alloc_at _ _ _ _ hb]; rfl, by rw [World.cell?_alloc_at _ _ _ _ hb]; rfl, by rw [World.cell?_alloc_at _ _ _ _ hb]; rfl, by rw [World.cell?_alloc_at _ _ _ _ hb]; rfl, by rw [World.cell?_alloc_at _ _ _ _ hb]; rfl,
    fun j => World.frozen?_alloc_at _ _ _ _ hb⟩

theorem FivB.kept {w w' : World} {b : Nat} {x0 x1 x2 x3 x4 : Value} (h : FivB w b x0 x1 x2 x3 x4) (hb : Below w.heap.size w w') : FivB w' b x0 x1 x2 x3 x4 :=
  ⟨carry_cell h.1 hb, carry_cell h.2.1 hb, carry_cell h.2.2.1 hb, carry_cell h.2.2.2.1 hb, carry_cell h.2.2.2.2.1 hb, fun j => (hb.frozen (p := ⟨b, j, none⟩) (World.block_lt_of_cell? w ⟨b, 0, none⟩ h.1)).trans (h.2.2.2.2.2 j)⟩
theorem FivB.alloc {w : World} {b : Nat} {x0 x1 x2 x3 x4 : Value} (h : FivB w b x0 x1 x2 x3 x4) (o : Obj) : FivB (w.alloc o) b x0 x1 x2 x3 x4 := h.kept ((Below.refl _ _).alloc (Nat.le_refl _) o)
theorem FivB.drew {w : World} {b : Nat} {x0 x1 x2 x3 x4 : Value} (h : FivB w b x0 x1 x2 x3 x4) : FivB w.drew b x0 x1 x2 x3 x4 := h.kept (Below.refl _ _).drew
theorem FivB.fiv {w : World} {b : Nat} {x0 x1 x2 x3 x4 : Value} (h : FivB w b x0 x1 x2 x3 x4) : Fiv w b 0 x0 x1 x2 x3 x4 :=
  ⟨h.1, h.2.1, h.2.2.1, h.2.2.2.1, h.2.2.2.2.1⟩
/-- A store into another block. -/
theorem FivB.setFar {w : World} {b : Nat} {x0 x1 x2 x3 x4 : Value} (h : FivB w b x0 x1 x2 x3 x4) {a : Addr} (ha : a.block ≠ b) (u : Value) : FivB (w.setCell a u) b x0 x1 x2 x3 x4 :=
  have e : ∀ j x, w.cell? ⟨b, j, none⟩ = some x → (w.setCell a u).cell? ⟨b, j, none⟩ = some x := fun j x hx => (World.cell?_setCell_other _ _ _ _ (fun e => ha (by rw [e]))).trans hx
  ⟨e _ _ h.1, e _ _ h.2.1, e _ _ h.2.2.1, e _ _ h.2.2.2.1, e _ _ h.2.2.2.2.1, fun j => by rw [World.frozen?_setCell]; exact h.2.2.2.2.2 j⟩
/-- A store into one of the five cells. -/
theorem FivB.set0 {w : World} {b : Nat} {x0 x1 x2 x3 x4 : Value} (h : FivB w b x0 x1 x2 x3 x4) (u : Value) : FivB (w.setCell ⟨b, 0, none⟩ u) b u x1 x2 x3 x4 :=
  ⟨World.cell?_setCell_same _ _ _ h.1, (World.cell?_setCell_other _ _ _ _ (by simp)).trans h.2.1, (World.cell?_setCell_other _ _ _ _ (by simp)).trans h.2.2.1, (World.cell?_setCell_other _ _ _ _ (by simp)).trans h.2.2.2.1, (World.cell?_setCell_other _ _ _ _ (by simp)).trans h.2.2.2.2.1, fun j => by rw [World.frozen?_setCell]; exact h.2.2.2.2.2 j⟩
theorem FivB.set1 {w : World} {b : Nat} {x0 x1 x2 x3 x4 : Value} (h : FivB w b x0 x1 x2 x3 x4) (u : Value) : FivB (w.setCell ⟨b, 1, none⟩ u) b x0 u x2 x3 x4 :=
  ⟨(World.cell?_setCell_other _ _ _ _ (by simp)).trans h.1, World.cell?_setCell_same _ _ _ h.2.1, (World.cell?_setCell_other _ _ _ _ (by simp)).trans h.2.2.1, (World.cell?_setCell_other _ _ _ _ (by simp)).trans h.2.2.2.1, (World.cell?_setCell_other _ _ _ _ (by simp)).trans h.2.2.2.2.1, fun j => by rw [World.frozen?_setCell]; exact h.2.2.2.2.2 j⟩
theorem FivB.set2 {w : World} {b : Nat} {x0 x1 x2 x3 x4 : Value} (h : FivB w b x0 x1 x2 x3 x4) (u : Value) : FivB (w.setCell ⟨b, 2, none⟩ u) b x0 x1 u x3 x4 :=
  ⟨(World.cell?_setCell_other _ _ _ _ (by simp)).trans h.1, (World.cell?_setCell_other _ _ _ _ (by simp)).trans h.2.1, World.cell?_setCell_same _ _ _ h.2.2.1, (World.cell?_setCell_other _ _ _ _ (by simp)).trans h.2.2.2.1, (World.cell?_setCell_other _ _ _ _ (by simp)).trans h.2.2.2.2.1, fun j => by rw [World.frozen?_setCell]; exact h.2.2.2.2.2 j⟩
theorem FivB.set3 {w : World} {b : Nat} {x0 x1 x2 x3 x4 : Value} (h : FivB w b x0 x1 x2 x3 x4) (u : Value) : FivB (w.setCell ⟨b, 3, none⟩ u) b x0 x1 x2 u x4 :=
  ⟨(World.cell?_setCell_other _ _ _ _ (by simp)).trans h.1, (World.cell?_setCell_other _ _ _ _ (by simp)).trans h.2.1, (World.cell?_setCell_other _ _ _ _ (by simp)).trans h.2.2.1, World.cell?_setCell_same _ _ _ h.2.2.2.1, (World.cell?_setCell_other _ _ _ _ (by simp)).trans h.2.2.2.2.1, fun j => by rw [World.frozen?_setCell]; exact h.2.2.2.2.2 j⟩
theorem FivB.set4 {w : World} {b : Nat} {x0 x1 x2 x3 x4 : Value} (h : FivB w b x0 x1 x2 x3 x4) (u : Value) : FivB (w.setCell ⟨b, 4, none⟩ u) b x0 x1 x2 x3 u :=
  ⟨(World.cell?_setCell_other _ _ _ _ (by simp)).trans h.1, (World.cell?_setCell_other _ _ _ _ (by simp)).trans h.2.1, (World.cell?_setCell_other _ _ _ _ (by simp)).trans h.2.2.1, (World.cell?_setCell_other _ _ _ _ (by simp)).trans h.2.2.2.1, World.cell?_setCell_same _ _ _ h.2.2.2.2.1, fun j => by rw [World.frozen?_setCell]; exact h.2.2.2.2.2 j⟩

/-- The slice value reads, in this world, as the list of formulas. -/
inductive FmS (w : World) : Value → List Fm → Prop where
  | emp (a : Option Addr) (c : Nat) : FmS w (.slice a 0 c) []
  | row (b off c : Nat) (l : List Fm) (f p : Nat → Value) (hp : 0 < l.length)
      (hc : ∀ (i : Nat) (t : Fm), l[i]? = some t → Fiv w b (off + i * 5) (.int .i64 t.op) (.string t.atom.name) (f i) (.string t.var) (p i))
      (ha : ∀ (i : Nat) (t : Fm), l[i]? = some t → TmS w (f i) t.atom.args)
      (hr : ∀ (i : Nat) (t : Fm), l[i]? = some t → FmS w (p i) t.parts) : FmS w (.slice (some ⟨b, off, none⟩) l.length c) l

/-- An element of such a slice. -/
def FmAt (w : World) (b off k : Nat) (t : Fm) : Prop :=
  ∃ va vp, Fiv w b (off + k * 5) (.int .i64 t.op) (.string t.atom.name) va (.string t.var) vp ∧ TmS w va t.atom.args ∧ FmS w vp t.parts

theorem FmS.partsOf {w : World} {v : Value} {l : List Fm} (h : FmS w v l) :
    (∃ a c, v = .slice a 0 c ∧ l = []) ∨ (∃ b off c, v = .slice (some ⟨b, off, none⟩) l.length c ∧ 0 < l.length ∧ ∀ k t, l[k]? = some t → FmAt w b off k t) := by
  cases h with
  | emp a c => exact .inl ⟨a, c, rfl, rfl⟩
  | row b off c l f p hp hc ha hr => exact .inr ⟨b, off, c, rfl, hp, fun k t hk => ⟨f k, p k, hc k t hk, ha k t hk, hr k t hk⟩⟩

/-- An element of a slice of formulas, whatever the slice. -/
theorem FmS.get {w : World} {a : Option Addr} {n c : Nat} {l : List Fm} (h : FmS w (.slice a n c) l) {k : Nat} {t : Fm} (hk : l[k]? = some t) : ∃ b off, a = some ⟨b, off, none⟩ ∧ FmAt w b off k t := by
  rcases h.partsOf with ⟨a', c', hv, h0⟩ | ⟨b, off, c', hv, hp, hat⟩
  · subst h0; cases hk
  · injection hv with h1 h2 h3
    exact ⟨b, off, h1, hat k t hk⟩

theorem FmS.same {w w' : World} (hc : ∀ a v, w.cell? a = some v → w'.cell? a = some v) {v : Value} {l : List Fm} (h : FmS w v l) : FmS w' v l := by
  induction h with
  | emp a c => exact .emp a c
  | row b off c l f p hp hcc ha hr ih => exact .row b off c l f p hp (fun i t hi => (hcc i t hi).same hc) (fun i t hi => (ha i t hi).same hc) ih

theorem FmS.kept {w w' : World} {v : Value} {l : List Fm} (h : FmS w v l) (hb : Below w.heap.size w w') : FmS w' v l := h.same fun _ _ hc => carry_cell hc hb
theorem FmS.drew {w : World} {v : Value} {l : List Fm} (h : FmS w v l) : FmS w.drew v l := h.kept (Below.refl _ _).drew
theorem FmS.alloc {w : World} {v : Value} {l : List Fm} (h : FmS w v l) (o : Obj) : FmS (w.alloc o) v l := h.kept ((Below.refl _ _).alloc (Nat.le_refl _) o)
theorem FmS.is_slice {w : World} {v : Value} {l : List Fm} (h : FmS w v l) : ∃ a c, v = .slice a l.length c := by
  cases h with
  | emp a c => exact ⟨a, c, rfl⟩
  | row b off c l f p hp hcc ha hr => exact ⟨_, c, rfl⟩

/-- A slice of one formula, just built. -/
theorem fmS_one {w : World} {t : Fm} {va vp : Value} (hv : TmS w va t.atom.args) (hp : FmS w vp t.parts) (g o c : Nat) (h0 : Fiv w g o (.int .i64 t.op) (.string t.atom.name) va (.string t.var) vp) : FmS w (.slice (some ⟨g, o, none⟩) 1 c) [t] := by
  refine .row g o c [t] (fun _ => va) (fun _ => vp) (by simp) (fun i s hi => ?_) (fun i s hi => ?_) (fun i s hi => ?_)
  all_goals
    have hi0 : i = 0 := by have := (List.getElem?_eq_some_iff.1 hi).1; simp at this; omega
    subst hi0
    have e : t = s := by simpa using hi
    subst e
  · simpa using h0
  · exact hv
  · exact hp

/-- The slice value reads as the list of formulas; all its blocks lie in S, none is met twice, none is frozen. -/
inductive FmO (w : World) : (Nat → Prop) → Value → List Fm → Prop where
  | emp (S : Nat → Prop) (a : Option Addr) (c : Nat) : FmO w S (.slice a 0 c) []
  | row (S : Nat → Prop) (g c : Nat) (l : List Fm) (f p : Nat → Value) (Q : Nat → Nat → Prop) (hp : 0 < l.length) (hS : S g) (hc : l.length ≤ c)
      (hz : ∀ j, w.frozen? ⟨g, j, none⟩ = false)
      (hcc : ∀ (i : Nat) (t : Fm), l[i]? = some t → Fiv w g (i * 5) (.int .i64 t.op) (.string t.atom.name) (f i) (.string t.var) (p i))
      (ha : ∀ (i : Nat) (t : Fm), l[i]? = some t → TmO w (Q (2 * i)) (f i) t.atom.args)
      (hr : ∀ (i : Nat) (t : Fm), l[i]? = some t → FmO w (Q (2 * i + 1)) (p i) t.parts)
      (hsub : ∀ i k, i < 2 * l.length → Q i k → S k ∧ k ≠ g)
      (hdis : ∀ i j k, i < 2 * l.length → j < 2 * l.length → i ≠ j → Q i k → Q j k → False) : FmO w S (.slice (some ⟨g, 0, none⟩) l.length c) l

theorem FmO.read {w : World} {S : Nat → Prop} {v : Value} {l : List Fm} (h : FmO w S v l) : FmS w v l := by
  induction h with
  | emp S a c => exact .emp a c
  | row S g c l f p Q hp hS hc hz hcc ha hr hsub hdis ih =>
    exact .row g 0 c l f p hp (fun i t hi => by simpa using hcc i t hi) (fun i t hi => (ha i t hi).read) ih

theorem FmO.frame {w w' : World} {S : Nat → Prop} {v : Value} {l : List Fm} (h : FmO w S v l) : (∀ k, S k → w'.heap[k]? = w.heap[k]?) → FmO w' S v l := by
  induction h with
  | emp S a c => exact fun _ => .emp S a c
  | row S g c l f p Q hp hS hc hz hcc ha hr hsub hdis ih =>
    intro hf
    have e := hf g hS
    have hlt : ∀ i t, l[i]? = some t → i < l.length := fun i t hi => (List.getElem?_eq_some_iff.1 hi).1
    refine .row S g c l f p Q hp hS hc (fun j => ?_) (fun i t hi => (hcc i t hi).block e) (fun i t hi => (ha i t hi).frame fun k hk => hf k (hsub (2 * i) k (by have := hlt i t hi; omega) hk).1) (fun i t hi => ih i t hi fun k hk => hf k (hsub (2 * i + 1) k (by have := hlt i t hi; omega) hk).1) hsub hdis
    exact (World.frozen?_of_block (a := ⟨g, j, none⟩) (w := w) e).trans (hz j)

theorem FmO.mono {w : World} {S S' : Nat → Prop} {v : Value} {l : List Fm} (h : FmO w S v l) (hs : ∀ k, S k → S' k) : FmO w S' v l := by
  cases h with
  | emp S a c => exact .emp S' a c
  | row S g c l f p Q hp hS hc hz hcc ha hr hsub hdis => exact .row S' g c l f p Q hp (hs g hS) hc hz hcc ha hr (fun i k hi hk => ⟨hs k (hsub i k hi hk).1, (hsub i k hi hk).2⟩) hdis

theorem FmO.setCell {w : World} {S : Nat → Prop} {v : Value} {l : List Fm} (h : FmO w S v l) {a : Addr} (ha : ¬ S a.block) (u : Value) : FmO (w.setCell a u) S v l :=
  h.frame fun k hk => Below.heap_setCell _ _ _ _ (fun e => ha (e ▸ hk))

/-- A formula by value, all of whose blocks lie in S, none met twice. -/
def FOwn (w : World) (S : Nat → Prop) (t : Fm) (va vp : Value) : Prop :=
  ∃ Sa Sp, TmO w Sa va t.atom.args ∧ FmO w Sp vp t.parts ∧ (∀ k, Sa k → S k) ∧ (∀ k, Sp k → S k) ∧ ∀ k, Sa k → Sp k → False

theorem FOwn.frame {w w' : World} {S : Nat → Prop} {t : Fm} {va vp : Value} (h : FOwn w S t va vp) (hf : ∀ k, S k → w'.heap[k]? = w.heap[k]?) : FOwn w' S t va vp := by
  obtain ⟨Sa, Sp, h1, h2, h3, h4, h5⟩ := h
  exact ⟨Sa, Sp, h1.frame fun k hk => hf k (h3 k hk), h2.frame fun k hk => hf k (h4 k hk), h3, h4, h5⟩
theorem FOwn.mono {w : World} {S S' : Nat → Prop} {t : Fm} {va vp : Value} (h : FOwn w S t va vp) (hs : ∀ k, S k → S' k) : FOwn w S' t va vp := by
  obtain ⟨Sa, Sp, h1, h2, h3, h4, h5⟩ := h
  exact ⟨Sa, Sp, h1, h2, fun k hk => hs k (h3 k hk), fun k hk => hs k (h4 k hk), h5⟩
theorem FOwn.setCell {w : World} {S : Nat → Prop} {t : Fm} {va vp : Value} (h : FOwn w S t va vp) {a : Addr} (ha : ¬ S a.block) (u : Value) : FOwn (w.setCell a u) S t va vp :=
  h.frame fun k hk => Below.heap_setCell _ _ _ _ (fun e => ha (e ▸ hk))
theorem FOwn.atom {w : World} {S : Nat → Prop} {t : Fm} {va vp : Value} (h : FOwn w S t va vp) : TmS w va t.atom.args := by
  obtain ⟨Sa, Sp, h1, _⟩ := h; exact h1.read
theorem FOwn.parts {w : World} {S : Nat → Prop} {t : Fm} {va vp : Value} (h : FOwn w S t va vp) : FmS w vp t.parts := by
  obtain ⟨Sa, Sp, _, h2, _⟩ := h; exact h2.read
theorem FOwn.kept {w0 w w' : World} {t : Fm} {va vp : Value} (h : FOwn w (Fresh w0 w) t va vp) (hb : Below w.heap.size w w') : FOwn w' (Fresh w0 w) t va vp :=
  h.frame fun k hk => hb.block k hk.2

/-- A formula by value reads as the tree. -/
def FmV (w : World) (va vp : Value) (t : Fm) : Prop := TmS w va t.atom.args ∧ FmS w vp t.parts
theorem FmV.kept {w w' : World} {va vp : Value} {t : Fm} (h : FmV w va vp t) (hb : Below w.heap.size w w') : FmV w' va vp t := ⟨h.1.kept hb, h.2.kept hb⟩
theorem FmV.alloc {w : World} {va vp : Value} {t : Fm} (h : FmV w va vp t) (o : Obj) : FmV (w.alloc o) va vp t := ⟨h.1.alloc o, h.2.alloc o⟩
theorem FmV.drew {w : World} {va vp : Value} {t : Fm} (h : FmV w va vp t) : FmV w.drew va vp t := ⟨h.1.drew, h.2.drew⟩
theorem FmV.open {w : World} {va vp : Value} {t : Fm} (h : FmV w va vp t) : ∃ a c b d, va = .slice a t.atom.args.length c ∧ vp = .slice b t.parts.length d := by
  obtain ⟨a, c, e⟩ := h.1.is_slice
  obtain ⟨b, d, e'⟩ := h.2.is_slice
  exact ⟨a, c, b, d, e, e'⟩
theorem FOwn.read {w : World} {S : Nat → Prop} {t : Fm} {va vp : Value} (h : FOwn w S t va vp) : FmV w va vp t := ⟨h.atom, h.parts⟩

/-- What a loop that makes the formulas of a list one by one has made: of the first k elements of the row. -/
structure MadeF (w0 w : World) (xs : List Value) (l : List Fm) (k : Nat) (f p : Nat → Value) (Q : Nat → Nat → Prop) : Prop where
  cells : ∀ i t, i < k → l[i]? = some t → xs[i * 5]? = some (.int .i64 t.op) ∧ xs[i * 5 + 1]? = some (.string t.atom.name) ∧ xs[i * 5 + 2]? = some (f i) ∧ xs[i * 5 + 3]? = some (.string t.var) ∧ xs[i * 5 + 4]? = some (p i)
  own : ∀ i t, i < k → l[i]? = some t → TmO w (Q (2 * i)) (f i) t.atom.args ∧ FmO w (Q (2 * i + 1)) (p i) t.parts
  sub : ∀ j b, j < 2 * k → Q j b → w0.heap.size ≤ b ∧ b < w.heap.size
  dis : ∀ i j b, i < 2 * k → j < 2 * k → i ≠ j → Q i b → Q j b → False

theorem MadeF.start (w0 w : World) (xs : List Value) (l : List Fm) : MadeF w0 w xs l 0 (fun _ => .slice none 0 0) (fun _ => .slice none 0 0) (fun _ _ => False) :=
  ⟨fun i t h => absurd h (Nat.not_lt_zero _), fun i t h => absurd h (Nat.not_lt_zero _), fun j b h => absurd h (Nat.not_lt_zero _), fun i j b h => absurd h (Nat.not_lt_zero _)⟩

/-- The world has gone on and no block of the made formulas has changed. -/
theorem MadeF.keep {w0 w w' : World} {xs : List Value} {l : List Fm} {k : Nat} {f p : Nat → Value} {Q : Nat → Nat → Prop} (h : MadeF w0 w xs l k f p Q) (hz : w.heap.size ≤ w'.heap.size)
    (hf : ∀ j b, j < 2 * k → Q j b → w'.heap[b]? = w.heap[b]?) : MadeF w0 w' xs l k f p Q :=
  ⟨h.cells, fun i t hi ht => ⟨(h.own i t hi ht).1.frame fun b hb => hf _ b (by omega) hb, (h.own i t hi ht).2.frame fun b hb => hf _ b (by omega) hb⟩, fun j b hj hb => ⟨(h.sub j b hj hb).1, Nat.lt_of_lt_of_le (h.sub j b hj hb).2 hz⟩, h.dis⟩

/-- One formula more. -/
theorem MadeF.next {w0 w w' : World} {xs xs' : List Value} {l : List Fm} {k : Nat} {f p : Nat → Value} {Q : Nat → Nat → Prop} {t : Fm} {va vp : Value} {S : Nat → Prop} (h : MadeF w0 w xs l k f p Q)
    (ht : l[k]? = some t) (hk : ∀ i j, i < k → j < 5 → xs'[i * 5 + j]? = xs[i * 5 + j]?)
    (h0 : xs'[k * 5]? = some (.int .i64 t.op) ∧ xs'[k * 5 + 1]? = some (.string t.atom.name) ∧ xs'[k * 5 + 2]? = some va ∧ xs'[k * 5 + 3]? = some (.string t.var) ∧ xs'[k * 5 + 4]? = some vp)
    (ho : FOwn w' S t va vp) (hS : ∀ b, S b → w.heap.size ≤ b ∧ b < w'.heap.size) (hz : w.heap.size ≤ w'.heap.size) (hw : w0.heap.size ≤ w.heap.size)
    (hf : ∀ j b, j < 2 * k → Q j b → w'.heap[b]? = w.heap[b]?) : ∃ Q', MadeF w0 w' xs' l (k + 1) (fun i => if i = k then va else f i) (fun i => if i = k then vp else p i) Q' ∧ ∀ j b, j < 2 * (k + 1) → Q' j b → (j < 2 * k ∧ Q j b) ∨ S b := by
  have h' := h.keep hz hf
  obtain ⟨Sa, Sp, o1, o2, o3, o4, o5⟩ := ho
  refine ⟨fun j => if j = 2 * k then Sa else if j = 2 * k + 1 then Sp else Q j, ⟨fun i s hi hs => ?_, fun i s hi hs => ?_, fun j b hj hb => ?_, fun i j b hi hj hij hb hb' => ?_⟩, fun j b hj hb => ?_⟩
  · by_cases e : i = k
    · subst e; rw [ht] at hs; injection hs with hs; subst hs; simp only [if_pos]; exact h0
    · have a := h.cells i s (by omega) hs
      simp only [if_neg e]
      have c0 := hk i 0 (by omega) (by omega)
      rw [Nat.add_zero] at c0
      rw [c0, hk i 1 (by omega) (by omega), hk i 2 (by omega) (by omega), hk i 3 (by omega) (by omega), hk i 4 (by omega) (by omega)]
      exact a
  · by_cases e : i = k
    · subst e; rw [ht] at hs; injection hs with hs; subst hs
      simp only [if_pos]
      rw [if_neg (by omega)]
      exact ⟨o1, o2⟩
    · have a := h'.own i s (by omega) hs
      simp only [if_neg e]
      rw [if_neg (by omega), if_neg (by omega), if_neg (by omega), if_neg (by omega)]
      exact a
  · by_cases e : j = 2 * k
    · simp only [if_pos e] at hb; have := hS b (o3 b hb); omega
    · by_cases e' : j = 2 * k + 1
      · simp only [if_neg e, if_pos e'] at hb; have := hS b (o4 b hb); omega
      · simp only [if_neg e, if_neg e'] at hb; exact h'.sub j b (by omega) hb
  · have old : ∀ j b, j ≠ 2 * k → j ≠ 2 * k + 1 → j < 2 * (k + 1) → (if j = 2 * k then Sa else if j = 2 * k + 1 then Sp else Q j) b → b < w.heap.size ∧ Q j b := fun j b e e' hj hb => by
      simp only [if_neg e, if_neg e'] at hb
      exact ⟨(h.sub j b (by omega) hb).2, hb⟩
    have new : ∀ j b, (j = 2 * k ∨ j = 2 * k + 1) → (if j = 2 * k then Sa else if j = 2 * k + 1 then Sp else Q j) b → w.heap.size ≤ b := fun j b e hb => by
      rcases e with e | e
      · simp only [if_pos e] at hb; exact (hS b (o3 b hb)).1
      · have e2 : j ≠ 2 * k := by omega
        simp only [if_neg e2, if_pos e] at hb; exact (hS b (o4 b hb)).1
    by_cases ei : i = 2 * k ∨ i = 2 * k + 1
    · by_cases ej : j = 2 * k ∨ j = 2 * k + 1
      · rcases ei with ei | ei
        · rcases ej with ej | ej
          · omega
          · have e2 : j ≠ 2 * k := by omega
            simp only [if_pos ei] at hb; simp only [if_neg e2, if_pos ej] at hb'
            exact o5 b hb hb'
        · rcases ej with ej | ej
          · have e2 : i ≠ 2 * k := by omega
            simp only [if_neg e2, if_pos ei] at hb; simp only [if_pos ej] at hb'
            exact o5 b hb' hb
          · omega
      · have a := new i b ei hb
        have c := old j b (fun e => ej (.inl e)) (fun e => ej (.inr e)) hj hb'
        omega
    · have c := old i b (fun e => ei (.inl e)) (fun e => ei (.inr e)) hi hb
      by_cases ej : j = 2 * k ∨ j = 2 * k + 1
      · have a := new j b ej hb'
        omega
      · have c' := old j b (fun e => ej (.inl e)) (fun e => ej (.inr e)) hj hb'
        exact h.dis i j b (by omega) (by omega) hij c.2 c'.2
  · by_cases e : j = 2 * k
    · simp only [if_pos e] at hb; exact .inr (o3 b hb)
    · by_cases e' : j = 2 * k + 1
      · simp only [if_neg e, if_pos e'] at hb; exact .inr (o4 b hb)
      · simp only [if_neg e, if_neg e'] at hb; exact .inl ⟨by omega, hb⟩

/-- A whole row of made formulas is a list of formulas of its own. -/
theorem MadeF.whole {w0 w : World} {base : Nat} {v : Value} {xs : List Value} {l : List Fm} {f p : Nat → Value} {Q : Nat → Nat → Prop} (hown : w.ownsRow base 68 5 v l.length xs)
    (hm : MadeF w0 w xs l l.length f p Q) (hb : w0.heap.size ≤ base) (hne : ∀ g, v.ownBlock = some g → ∀ j, j < 2 * l.length → ¬ Q j g) : FmO w (Fresh w0 w) v l := by
  rcases hown.2 with ⟨rfl, h0⟩ | ⟨g, cap, cur, rfl, hbg, hg, hnc, hcm, hcs, htake⟩
  · have : l = [] := List.length_eq_zero_iff.1 h0
    subst this; exact .emp _ _ _
  · by_cases h0 : l.length = 0
    · have : l = [] := List.length_eq_zero_iff.1 h0
      subst this; exact .emp _ _ _
    · have hlt : g < w.heap.size := (Array.getElem?_eq_some_iff.1 hg).1
      have hcell : ∀ j u, xs[j]? = some u → w.cell? ⟨g, j, none⟩ = some u := fun j u hj => by
        have hjl : j < xs.length := (List.getElem?_eq_some_iff.1 hj).1
        rw [hown.cellAt j (by have := hown.1; omega)]; exact hj
      exact .row _ g cap l f p Q (by omega) ⟨by omega, hlt⟩ hnc (fun j => hown.frozenAt j)
        (fun i t hi => by
          obtain ⟨a0, a1, a2, a3, a4⟩ := hm.cells i t (List.getElem?_eq_some_iff.1 hi).1 hi
          exact ⟨hcell _ _ a0, hcell _ _ a1, hcell _ _ a2, hcell _ _ a3, hcell _ _ a4⟩)
        (fun i t hi => (hm.own i t (List.getElem?_eq_some_iff.1 hi).1 hi).1) (fun i t hi => (hm.own i t (List.getElem?_eq_some_iff.1 hi).1 hi).2)
        (fun i k hi hk => ⟨hm.sub i k hi hk, fun e => by subst e; exact hne k rfl i hi hk⟩) (fun i j k hi hj hij => hm.dis i j k hi hj hij)

end Go.Proofs.Ytppmiedhoimgmaa
