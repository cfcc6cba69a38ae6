/- A formula of the call's own that lies between two blocks: what keeps it. No condition. -/
import Derived.Test.YtppmiedhoimgmaaMkF
import Derived.Test.YtppmiedhoimgmaaOwnI
namespace Go.Proofs.Ytppmiedhoimgmaa
open Go.RowKit
set_option linter.unusedVariables false

def OwnFm (w : World) (lo hi : Nat) (t : Fm) (va vp : Value) : Prop := FOwn w (Ivl lo hi) t va vp ∧ hi ≤ w.heap.size
theorem OwnFm.fresh {w w' : World} {t : Fm} {va vp : Value} (h : FOwn w' (Fresh w w') t va vp) : OwnFm w' w.heap.size w'.heap.size t va vp := ⟨h, Nat.le_refl _⟩
theorem OwnFm.kept {w w' : World} {lo hi : Nat} {t : Fm} {va vp : Value} (h : OwnFm w lo hi t va vp) (hb : Below w.heap.size w w') : OwnFm w' lo hi t va vp :=
  ⟨h.1.frame fun k hk => hb.block k (Nat.lt_of_lt_of_le hk.2 h.2), Nat.le_trans h.2 hb.size⟩
theorem OwnFm.read {w : World} {lo hi : Nat} {t : Fm} {va vp : Value} (h : OwnFm w lo hi t va vp) : FmV w va vp t := h.1.read
theorem OwnFm.bound {w : World} {lo hi : Nat} {t : Fm} {va vp : Value} (h : OwnFm w lo hi t va vp) : ∀ b, Ivl lo hi b → b < w.heap.size := fun _ hb => Nat.lt_of_lt_of_le hb.2 h.2
theorem FivB.outside {a b : World} {S : Nat → Prop} {g : Nat} {x0 x1 x2 x3 x4 : Value} (h : FivB a g x0 x1 x2 x3 x4) (ho : Outside S a b) (hd : ¬ S g) : FivB b g x0 x1 x2 x3 x4 :=
  ⟨ho.cell h.1 hd, ho.cell h.2.1 hd, ho.cell h.2.2.1 hd, ho.cell h.2.2.2.1 hd, ho.cell h.2.2.2.2.1 hd,
    fun j => (World.frozen?_of_block (w := a) (a := ⟨g, j, none⟩) (ho.block g (World.block_lt_of_cell? a ⟨g, 0, none⟩ h.1) hd)).trans (h.2.2.2.2.2 j)⟩
theorem FivB.grown {w w' : World} {b g : Nat} {x0 x1 x2 x3 x4 : Value} (h : FivB w b x0 x1 x2 x3 x4) (hg : w.grownBy w' (some g)) (hne : b ≠ g) : FivB w' b x0 x1 x2 x3 x4 :=
  ⟨hg.cell h.1 (by simpa using hne), hg.cell h.2.1 (by simpa using hne), hg.cell h.2.2.1 (by simpa using hne), hg.cell h.2.2.2.1 (by simpa using hne), hg.cell h.2.2.2.2.1 (by simpa using hne), fun j =>
    (World.frozen?_of_block (w := w) (a := ⟨b, j, none⟩) (hg.block b (World.block_lt_of_cell? w ⟨b, 0, none⟩ h.1) (by simpa using hne))).trans (h.2.2.2.2.2 j)⟩

end Go.Proofs.Ytppmiedhoimgmaa
