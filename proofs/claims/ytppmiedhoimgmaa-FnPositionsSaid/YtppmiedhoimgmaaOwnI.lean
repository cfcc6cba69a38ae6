/- What a law's walk carries from call to call: terms and integers of the law's own, in numbered blocks. No condition. -/
import Derived.Test.YtppmiedhoimgmaaInts
namespace Go.Proofs.Ytppmiedhoimgmaa
open Go.RowKit
set_option linter.unusedVariables false

/-- The blocks from one number to another. -/
def Ivl (lo hi k : Nat) : Prop := lo ≤ k ∧ k < hi

def OwnI (w : World) (lo hi : Nat) (v : Value) (l : List Tm) : Prop := TmO w (Ivl lo hi) v l ∧ hi ≤ w.heap.size
def IntsI (w : World) (lo hi : Nat) (v : Value) (is : List Int) : Prop := IntsO w (Ivl lo hi) v is ∧ hi ≤ w.heap.size

theorem OwnI.fresh {w w' : World} {v : Value} {l : List Tm} (h : TmO w' (Fresh w w') v l) : OwnI w' w.heap.size w'.heap.size v l := ⟨h, Nat.le_refl _⟩
theorem IntsI.fresh {w w' : World} {v : Value} {is : List Int} (h : IntsO w' (Fresh w w') v is) : IntsI w' w.heap.size w'.heap.size v is := ⟨h, Nat.le_refl _⟩
theorem OwnI.freshAt {w w' : World} {v : Value} {l : List Tm} (h : TmO w' (Fresh w w') v l) {n : Nat} (e : w.heap.size = n) : OwnI w' n w'.heap.size v l := e ▸ OwnI.fresh h
theorem IntsI.freshAt {w w' : World} {v : Value} {is : List Int} (h : IntsO w' (Fresh w w') v is) {n : Nat} (e : w.heap.size = n) : IntsI w' n w'.heap.size v is := e ▸ IntsI.fresh h
theorem OwnI.kept {w w' : World} {lo hi : Nat} {v : Value} {l : List Tm} (h : OwnI w lo hi v l) (hb : Below w.heap.size w w') : OwnI w' lo hi v l :=
  ⟨h.1.frame fun k hk => hb.block k (Nat.lt_of_lt_of_le hk.2 h.2), Nat.le_trans h.2 hb.size⟩
theorem IntsI.kept {w w' : World} {lo hi : Nat} {v : Value} {is : List Int} (h : IntsI w lo hi v is) (hb : Below w.heap.size w w') : IntsI w' lo hi v is :=
  ⟨h.1.frame fun k hk => hb.block k (Nat.lt_of_lt_of_le hk.2 h.2), Nat.le_trans h.2 hb.size⟩
theorem OwnI.read {w : World} {lo hi : Nat} {v : Value} {l : List Tm} (h : OwnI w lo hi v l) : TmS w v l := h.1.read
theorem IntsI.read {w : World} {lo hi : Nat} {v : Value} {is : List Int} (h : IntsI w lo hi v is) : IntsV w v is := h.1.read
theorem OwnI.bound {w : World} {lo hi : Nat} {v : Value} {l : List Tm} (h : OwnI w lo hi v l) : ∀ b, Ivl lo hi b → b < w.heap.size := fun _ hb => Nat.lt_of_lt_of_le hb.2 h.2

theorem OwnI.outside {a b : World} {lo hi lo' hi' : Nat} {v : Value} {l : List Tm} (h : OwnI a lo hi v l) (ho : Outside (Ivl lo' hi') a b) (hd : hi ≤ lo' ∨ hi' ≤ lo) : OwnI b lo hi v l :=
  ⟨ho.own h.1 fun k hk => ⟨Nat.lt_of_lt_of_le hk.2 h.2, fun hk' => by have := hk.1; have := hk.2; have := hk'.1; have := hk'.2; omega⟩, Nat.le_trans h.2 ho.size⟩
theorem IntsI.outside {a b : World} {lo hi lo' hi' : Nat} {v : Value} {is : List Int} (h : IntsI a lo hi v is) (ho : Outside (Ivl lo' hi') a b) (hd : hi ≤ lo' ∨ hi' ≤ lo) : IntsI b lo hi v is :=
  ⟨h.1.frame fun k hk => ho.block k (Nat.lt_of_lt_of_le hk.2 h.2) (fun hk' => by have := hk.1; have := hk.2; have := hk'.1; have := hk'.2; omega), Nat.le_trans h.2 ho.size⟩
theorem Two.outside {a b : World} {g lo hi : Nat} {x y : Value} (h : Two a g x y) (ho : Outside (Ivl lo hi) a b) (hd : g < lo ∨ hi ≤ g) : Two b g x y :=
  ho.two h fun hk => by have := hk.1; have := hk.2; omega
theorem below_outside {w a b : World} {lo hi : Nat} (h : Below w.heap.size w a) (ho : Outside (Ivl lo hi) a b) (hd : w.heap.size ≤ lo) : Below w.heap.size w b :=
  ho.below h (Nat.le_refl _) fun k hk => Nat.le_trans hd hk.1

end Go.Proofs.Ytppmiedhoimgmaa
