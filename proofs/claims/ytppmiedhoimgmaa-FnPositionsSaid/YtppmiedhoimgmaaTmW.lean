/- How a term lies in memory: a slice value that reads as a list of terms. No condition. -/
import Derived.Test.YtppmiedhoimgmaaRows
import Derived.Test.YtppmiedhoimgmaaTm
import Derived.WalkKit
import Derived.WalkSpells
import Derived.WalkLawsBesides
import Derived.Lib.Hide
import Derived.Laws.OwnMore
import Derived.BigQuiet
import Derived.Deep.QuietTactic
import Derived.Deep.RegionHeld3
import Derived.ProofKit
namespace Go.Proofs.Ytppmiedhoimgmaa
open Go.RowKit
set_option linter.unusedVariables false

theorem ret_bool {a b : Bool} (h : a = b) : Ending.returned (.bool a) = .returned (.bool b) := by rw [h]
theorem ret_int {k : IntKind} {a b : Int} (h : a = b) : Ending.returned (.int k a) = .returned (.int k b) := by rw [h]

theorem carry_cell {w w' : World} {a : Addr} {v : Value} (hc : w.cell? a = some v) (hb : Below w.heap.size w w') : w'.cell? a = some v := (hb.cell (p := a) (World.block_lt_of_cell? w _ hc)).trans hc

theorem carry_cell' {w w' : World} {a : Addr} {v : Value} (hb : Below w.heap.size w w') (hc : w.cell? a = some v) : w'.cell? a = some v := carry_cell hc hb

theorem carry_below {B : Nat} {a w w' : World} (h : Below B a w) (hB : B ≤ a.heap.size) (hb : Below w.heap.size w w') : Below B a w' := h.trans (hb.mono (Nat.le_trans hB h.size))

theorem bcell {W w1 : World} (hb : Below W.heap.size W w1) : (∀ b o, b < W.heap.size → w1.cell? ⟨b, o, none⟩ = W.cell? ⟨b, o, none⟩) ∧ (∀ b o, b < W.heap.size → w1.frozen? ⟨b, o, none⟩ = W.frozen? ⟨b, o, none⟩) :=
  ⟨fun b o h => hb.cell (p := ⟨b, o, none⟩) h, fun b o h => hb.frozen (p := ⟨b, o, none⟩) h⟩

/-- A block whose first two cells hold these values, not frozen. -/
def Two (w : World) (b : Nat) (x y : Value) : Prop := w.cell? ⟨b, 0, none⟩ = some x ∧ w.cell? ⟨b, 1, none⟩ = some y ∧ ∀ j, w.frozen? ⟨b, j, none⟩ = false

theorem two_new (w : World) (x y : Value) (T : TypeId) (b : Nat) (hb : b = w.heap.size) : Two (w.alloc (.cells #[x, y] T)) b x y :=
  ⟨by rw [World.cell?_alloc_at _ _ _ _ hb]; rfl, by rw [World.cell?_alloc_at _ _ _ _ hb]; rfl, fun j => World.frozen?_alloc_at _ _ _ _ hb⟩

theorem Two.kept {w w' : World} {b : Nat} {x y : Value} (h : Two w b x y) (hb : Below w.heap.size w w') : Two w' b x y :=
  ⟨carry_cell h.1 hb, carry_cell h.2.1 hb, fun j => (hb.frozen (p := ⟨b, j, none⟩) (World.block_lt_of_cell? w ⟨b, 0, none⟩ h.1)).trans (h.2.2 j)⟩

theorem Two.alloc {w : World} {b : Nat} {x y : Value} (h : Two w b x y) (o : Obj) : Two (w.alloc o) b x y := h.kept ((Below.refl _ _).alloc (Nat.le_refl _) o)
theorem Two.drew {w : World} {b : Nat} {x y : Value} (h : Two w b x y) : Two w.drew b x y := h.kept (Below.refl _ _).drew

/-- A store into another block. -/
theorem Two.setFar {w : World} {b : Nat} {x y : Value} (h : Two w b x y) {a : Addr} (ha : a.block ≠ b) (u : Value) : Two (w.setCell a u) b x y :=
  ⟨(World.cell?_setCell_other _ _ _ _ (fun e => ha (by rw [e]))).trans h.1, (World.cell?_setCell_other _ _ _ _ (fun e => ha (by rw [e]))).trans h.2.1, fun j => by rw [World.frozen?_setCell]; exact h.2.2 j⟩

/-- A store into the second cell. -/
theorem Two.setOne {w : World} {b : Nat} {x y : Value} (h : Two w b x y) (u : Value) : Two (w.setCell ⟨b, 1, none⟩ u) b x u :=
  ⟨(World.cell?_setCell_other _ _ _ _ (by simp)).trans h.1, World.cell?_setCell_same _ _ _ h.2.1, fun j => by rw [World.frozen?_setCell]; exact h.2.2 j⟩

/-- A store into the first cell. -/
theorem Two.setNil {w : World} {b : Nat} {x y : Value} (h : Two w b x y) (u : Value) : Two (w.setCell ⟨b, 0, none⟩ u) b u y :=
  ⟨World.cell?_setCell_same _ _ _ h.1, (World.cell?_setCell_other _ _ _ _ (by simp)).trans h.2.1, fun j => by rw [World.frozen?_setCell]; exact h.2.2 j⟩

/-- The slice value reads, in this world, as the list of terms. -/
inductive TmS (w : World) : Value → List Tm → Prop where
  | emp (a : Option Addr) (c : Nat) : TmS w (.slice a 0 c) []
  | row (b off c : Nat) (l : List Tm) (f : Nat → Value) (hp : 0 < l.length)
      (hn : ∀ (i : Nat) (t : Tm), l[i]? = some t → w.cell? ⟨b, off + i * 2, none⟩ = some (.string t.name))
      (ha : ∀ (i : Nat) (t : Tm), l[i]? = some t → w.cell? ⟨b, off + i * 2 + 1, none⟩ = some (f i))
      (hr : ∀ (i : Nat) (t : Tm), l[i]? = some t → TmS w (f i) t.args) : TmS w (.slice (some ⟨b, off, none⟩) l.length c) l

/-- An element of such a slice: its name's cell, its arguments' cell, and what that reads as. -/
def TmAt (w : World) (b off k : Nat) (t : Tm) : Prop :=
  ∃ va, w.cell? ⟨b, off + k * 2, none⟩ = some (.string t.name) ∧ w.cell? ⟨b, off + k * 2 + 1, none⟩ = some va ∧ TmS w va t.args

theorem TmS.parts {w : World} {v : Value} {l : List Tm} (h : TmS w v l) :
    (∃ a c, v = .slice a 0 c ∧ l = []) ∨ (∃ b off c, v = .slice (some ⟨b, off, none⟩) l.length c ∧ 0 < l.length ∧ ∀ k t, l[k]? = some t → TmAt w b off k t) := by
  cases h with
  | emp a c => exact .inl ⟨a, c, rfl, rfl⟩
  | row b off c l f hp hn ha hr => exact .inr ⟨b, off, c, rfl, hp, fun k t hk => ⟨f k, hn k t hk, ha k t hk, hr k t hk⟩⟩

/-- An element of a slice of terms, whatever the slice. -/
theorem TmS.get {w : World} {a : Option Addr} {n c : Nat} {l : List Tm} (h : TmS w (.slice a n c) l) {k : Nat} {t : Tm} (hk : l[k]? = some t) : ∃ b off, a = some ⟨b, off, none⟩ ∧ TmAt w b off k t := by
  rcases h.parts with ⟨a', c', hv, h0⟩ | ⟨b, off, c', hv, hp, hat⟩
  · subst h0; cases hk
  · injection hv with h1 h2 h3
    exact ⟨b, off, h1, hat k t hk⟩

theorem TmS.same {w w' : World} (hc : ∀ a v, w.cell? a = some v → w'.cell? a = some v) {v : Value} {l : List Tm} (h : TmS w v l) : TmS w' v l := by
  induction h with
  | emp a c => exact .emp a c
  | row b off c l f hp hn ha hr ih => exact .row b off c l f hp (fun i t hi => hc _ _ (hn i t hi)) (fun i t hi => hc _ _ (ha i t hi)) ih

theorem TmS.kept {w w' : World} {v : Value} {l : List Tm} (h : TmS w v l) (hb : Below w.heap.size w w') : TmS w' v l := h.same fun _ _ hc => carry_cell hc hb

theorem TmS.drew {w : World} {v : Value} {l : List Tm} (h : TmS w v l) : TmS w.drew v l := h.kept (Below.refl _ _).drew

theorem TmS.alloc {w : World} {v : Value} {l : List Tm} (h : TmS w v l) (o : Obj) : TmS (w.alloc o) v l := h.kept ((Below.refl _ _).alloc (Nat.le_refl _) o)

theorem TmS.is_slice {w : World} {v : Value} {l : List Tm} (h : TmS w v l) : ∃ a c, v = .slice a l.length c := by
  cases h with
  | emp a c => exact ⟨a, c, rfl⟩
  | row b off c l f hp hn ha hr => exact ⟨_, c, rfl⟩

end Go.Proofs.Ytppmiedhoimgmaa
