/- A box of one cell, as a loop's walk carries it. No condition. -/
import Derived.Test.YtgpmdfhepanahaaGreatThr
import Derived.Test.YtgpmdfhepanahaaGreatOwn
namespace Go.Proofs.YtgpmdfhepanahaaGreat
open Go.RowKit
set_option linter.unusedVariables false

theorem Oner.setIt {w : World} {b : Nat} {x : Value} (h : Oner w b x) (u : Value) : Oner (w.setCell ⟨b, 0, none⟩ u) b u :=
  ⟨World.cell?_setCell_same _ _ _ h.1, fun j => by rw [World.frozen?_setCell]; exact h.2 j⟩
theorem Oner.setFar {w : World} {b : Nat} {x : Value} (h : Oner w b x) {a : Addr} (ha : a.block ≠ b) (u : Value) : Oner (w.setCell a u) b x :=
  ⟨(World.cell?_setCell_other _ _ _ _ (fun e => ha (by cases e; rfl))).trans h.1, fun j => by rw [World.frozen?_setCell]; exact h.2 j⟩
theorem app_one {w w' : World} {o : Obj} {row : Option Nat} (hg : (w.alloc o).grownBy w' row) {b : Nat} {x : Value} (h : Oner w b x) (hne : some b ≠ row) : Oner w' b x :=
  ⟨app_cell hg h.1 hne, fun j => by
    have h1 := h.alloc o
    have hlt := World.block_lt_of_cell? (w.alloc o) ⟨b, 0, none⟩ h1.1
    exact (World.frozen?_of_block (w := w.alloc o) (a := ⟨b, j, none⟩) (hg.block b hlt hne)).trans (h1.2 j)⟩

end Go.Proofs.YtgpmdfhepanahaaGreat
