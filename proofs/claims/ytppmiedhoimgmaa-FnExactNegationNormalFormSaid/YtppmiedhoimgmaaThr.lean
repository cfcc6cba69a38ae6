/- Boxes of three cells and of one, in memory. No condition. -/
import Derived.Test.YtppmiedhoimgmaaTmO
namespace Go.Proofs.Ytppmiedhoimgmaa
open Go.RowKit
set_option linter.unusedVariables false

/-- A block whose first three cells hold these values, not frozen. -/
def Thr (w : World) (b : Nat) (x y z : Value) : Prop := w.cell? ⟨b, 0, none⟩ = some x ∧ w.cell? ⟨b, 1, none⟩ = some y ∧ w.cell? ⟨b, 2, none⟩ = some z ∧ ∀ j, w.frozen? ⟨b, j, none⟩ = false
theorem thr_new (w : World) (x y z : Value) (T : TypeId) (b : Nat) (hb : b = w.heap.size) : Thr (w.alloc (.cells #[x, y, z] T)) b x y z :=
  ⟨by rw [World.cell?_alloc_at _ _ _ _ hb]; rfl, by rw [World.cell?_alloc_at _ _ _ _ hb]; rfl, by rw [World.cell?_alloc_at _ _ _ _ hb]; rfl, fun j => World.frozen?_alloc_at _ _ _ _ hb⟩
theorem Thr.kept {w w' : World} {b : Nat} {x y z : Value} (h : Thr w b x y z) (hb : Below w.heap.size w w') : Thr w' b x y z :=
  ⟨carry_cell h.1 hb, carry_cell h.2.1 hb, carry_cell h.2.2.1 hb, fun j => (hb.frozen (p := ⟨b, j, none⟩) (World.block_lt_of_cell? w ⟨b, 0, none⟩ h.1)).trans (h.2.2.2 j)⟩
theorem Thr.alloc {w : World} {b : Nat} {x y z : Value} (h : Thr w b x y z) (o : Obj) : Thr (w.alloc o) b x y z := h.kept ((Below.refl _ _).alloc (Nat.le_refl _) o)
theorem Thr.drew {w : World} {b : Nat} {x y z : Value} (h : Thr w b x y z) : Thr w.drew b x y z := h.kept (Below.refl _ _).drew

/-- A block whose first cell holds this value, not frozen. -/
def Oner (w : World) (b : Nat) (x : Value) : Prop := w.cell? ⟨b, 0, none⟩ = some x ∧ ∀ j, w.frozen? ⟨b, j, none⟩ = false
theorem oner_new (w : World) (x : Value) (T : TypeId) (b : Nat) (hb : b = w.heap.size) : Oner (w.alloc (.cells #[x] T)) b x :=
  ⟨by rw [World.cell?_alloc_at _ _ _ _ hb]; rfl, fun j => World.frozen?_alloc_at _ _ _ _ hb⟩
theorem Oner.kept {w w' : World} {b : Nat} {x : Value} (h : Oner w b x) (hb : Below w.heap.size w w') : Oner w' b x :=
  ⟨carry_cell h.1 hb, fun j => (hb.frozen (p := ⟨b, j, none⟩) (World.block_lt_of_cell? w ⟨b, 0, none⟩ h.1)).trans (h.2 j)⟩
theorem Oner.alloc {w : World} {b : Nat} {x : Value} (h : Oner w b x) (o : Obj) : Oner (w.alloc o) b x := h.kept ((Below.refl _ _).alloc (Nat.le_refl _) o)
theorem Oner.drew {w : World} {b : Nat} {x : Value} (h : Oner w b x) : Oner w.drew b x := h.kept (Below.refl _ _).drew

end Go.Proofs.Ytppmiedhoimgmaa
