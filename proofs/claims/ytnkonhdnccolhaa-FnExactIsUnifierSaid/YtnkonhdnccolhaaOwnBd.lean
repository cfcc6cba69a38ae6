/- What a law's walk carries from call to call: bindings of the law's own, in numbered blocks. No condition. -/
import Derived.Test.YtnkonhdnccolhaaOwnI
import Derived.Test.YtnkonhdnccolhaaMarkBd
import Derived.Test.YtnkonhdnccolhaaOneX
namespace Go.Proofs.Ytnkonhdnccolhaa
open Go.RowKit
set_option linter.unusedVariables false

def OwnBd (w : World) (lo hi : Nat) (v : Value) (l : List Bd) : Prop := BdO w (Ivl lo hi) v l ∧ hi ≤ w.heap.size

theorem OwnBd.fresh {w w' : World} {v : Value} {l : List Bd} (h : BdO w' (Fresh w w') v l) : OwnBd w' w.heap.size w'.heap.size v l := ⟨h, Nat.le_refl _⟩
theorem OwnBd.freshAt {w w' : World} {v : Value} {l : List Bd} (h : BdO w' (Fresh w w') v l) {n : Nat} (e : w.heap.size = n) : OwnBd w' n w'.heap.size v l := e ▸ OwnBd.fresh h
theorem OwnBd.kept {w w' : World} {lo hi : Nat} {v : Value} {l : List Bd} (h : OwnBd w lo hi v l) (hb : Below w.heap.size w w') : OwnBd w' lo hi v l :=
  ⟨h.1.frame fun k hk => hb.block k (Nat.lt_of_lt_of_le hk.2 h.2), Nat.le_trans h.2 hb.size⟩
theorem OwnBd.read {w : World} {lo hi : Nat} {v : Value} {l : List Bd} (h : OwnBd w lo hi v l) : BdS w v l := h.1.read
theorem OwnBd.bound {w : World} {lo hi : Nat} {v : Value} {l : List Bd} (h : OwnBd w lo hi v l) : ∀ b, Ivl lo hi b → b < w.heap.size := fun _ hb => Nat.lt_of_lt_of_le hb.2 h.2
theorem OwnBd.outside {a b : World} {lo hi lo' hi' : Nat} {v : Value} {l : List Bd} (h : OwnBd a lo hi v l) (ho : Outside (Ivl lo' hi') a b) (hd : hi ≤ lo' ∨ hi' ≤ lo) : OwnBd b lo hi v l :=
  ⟨h.1.frame fun k hk => ho.block k (Nat.lt_of_lt_of_le hk.2 h.2) (fun hk' => by have := hk.1; have := hk.2; have := hk'.1; have := hk'.2; omega), Nat.le_trans h.2 ho.size⟩
theorem Oner.outside {a b : World} {g lo hi : Nat} {x : Value} (h : Oner a g x) (ho : Outside (Ivl lo hi) a b) (hd : g < lo ∨ hi ≤ g) : Oner b g x := by
  have hn : ¬ Ivl lo hi g := fun hk => by have := hk.1; have := hk.2; omega
  exact ⟨ho.cell h.1 hn, fun j => (World.frozen?_of_block (w := a) (a := ⟨g, j, none⟩) (ho.block g (World.block_lt_of_cell? a ⟨g, 0, none⟩ h.1) hn)).trans (h.2 j)⟩
theorem sumB_le_of {f g : Bd → Nat} : ∀ {l : List Bd}, (∀ d ∈ l, f d ≤ g d) → sumB f l ≤ sumB g l
  | [], _ => Nat.le_refl _
  | d :: r, h => by
    have h1 := h d List.mem_cons_self
    have h2 := sumB_le_of (l := r) (fun s hs => h s (List.mem_cons_of_mem _ hs))
    simp only [sumB]; omega
theorem sumB_plus2 (f : Bd → Nat) (l : List Bd) : sumB (fun d => f d + 2) l = sumB f l + 2 * l.length := by
  induction l with
  | nil => simp [sumB]
  | cons t r ih => simp only [sumB, List.length_cons, ih]; omega
theorem sumB_wt (l : List Bd) : sumB Bd.n l ≤ 2 * wtB l := by
  have h := sumB_le_of (f := Bd.n) (g := fun d => Bd.wt d + 2) (l := l) (fun d _ => by have := Tm.sz_wt d.tm; unfold Bd.n Bd.wt; omega)
  rw [sumB_plus2] at h
  unfold wtB; omega

end Go.Proofs.Ytnkonhdnccolhaa
