/- The numbers of strong and of weak quantifiers, as plain functions on formulas. No condition. -/
import Derived.Test.YtppmiedhoimgmaaFm
namespace Go.Proofs.Ytppmiedhoimgmaa
open Go.RowKit
set_option linter.unusedVariables false

/-- The polarity of a part. -/
def polB (o : Int) (p : Bool) (i : Nat) : Bool := if o = 4 ∨ (o = 7 ∧ i = 0) then !p else p
/-- What a formula itself counts: strong, or weak (the first argument says which). -/
def cqN (weak : Bool) (o : Int) (p : Bool) : Nat :=
  if (o = 8 ∧ p = true) ∨ (o = 9 ∧ p = false) then (if weak then 0 else 1) else if o = 8 ∨ o = 9 then (if weak then 1 else 0) else 0
theorem cqN_le (weak : Bool) (o : Int) (p : Bool) : cqN weak o p ≤ 1 := by unfold cqN; split <;> split <;> (try split) <;> omega

mutual
def Fm.cq (weak : Bool) : Bool → Fm → Nat
  | p, .node o _ _ l => cqN weak o p + Fm.cqL weak o p 0 l
def Fm.cqL (weak : Bool) (o : Int) (p : Bool) : Nat → List Fm → Nat
  | _, [] => 0
  | i, t :: r => Fm.cq weak (polB o p i) t + Fm.cqL weak o p (i + 1) r
end

theorem Fm.cq_eq (weak p : Bool) (t : Fm) : t.cq weak p = cqN weak t.op p + Fm.cqL weak t.op p 0 t.parts := by
  cases t with
  | node o a v l => rw [Fm.cq]; rfl

theorem Fm.cqL_append (weak : Bool) (o : Int) (p : Bool) : ∀ (a b : List Fm) (i : Nat), Fm.cqL weak o p i (a ++ b) = Fm.cqL weak o p i a + Fm.cqL weak o p (i + a.length) b
  | [], b, i => by simp [Fm.cqL]
  | t :: r, b, i => by
    rw [List.cons_append, Fm.cqL, Fm.cqL, Fm.cqL_append weak o p r b (i + 1), List.length_cons]
    rw [show i + 1 + r.length = i + (r.length + 1) by omega]; omega

theorem Fm.cqL_next {weak : Bool} {o : Int} {p : Bool} {l : List Fm} {k : Nat} {t : Fm} (h : l[k]? = some t) : Fm.cqL weak o p 0 (l.take (k + 1)) = Fm.cqL weak o p 0 (l.take k) + t.cq weak (polB o p k) := by
  have hk := (List.getElem?_eq_some_iff.1 h).1
  rw [take_next h, Fm.cqL_append, List.length_take, Nat.min_eq_left (by omega)]
  simp [Fm.cqL]

theorem Fm.cqL_take (weak : Bool) (o : Int) (p : Bool) (l : List Fm) (k : Nat) : Fm.cqL weak o p 0 (l.take k) ≤ Fm.cqL weak o p 0 l := by
  have h := Fm.cqL_append weak o p (l.take k) (l.drop k) 0
  rw [List.take_append_drop] at h
  omega

theorem Fm.cqL_all {weak : Bool} {o : Int} {p : Bool} {l : List Fm} {k : Nat} (h : l.length ≤ k) : Fm.cqL weak o p 0 (l.take k) = Fm.cqL weak o p 0 l := by
  rw [List.take_of_length_le h]

theorem Fm.cqL_le {weak : Bool} {o : Int} {p : Bool} : ∀ (l : List Fm) (i : Nat), (∀ t ∈ l, ∀ p, t.cq weak p ≤ t.sz) → Fm.cqL weak o p i l ≤ sumG Fm.sz l
  | [], i, h => by simp [Fm.cqL]
  | t :: r, i, h => by
    have h1 := h t List.mem_cons_self (polB o p i)
    have h2 := Fm.cqL_le (o := o) (p := p) r (i + 1) (fun s hs => h s (List.mem_cons_of_mem _ hs))
    simp [Fm.cqL, sumG]; omega

theorem Fm.cq_sz (weak : Bool) : ∀ t : Fm, ∀ p, t.cq weak p ≤ t.sz := Fm.ind fun t ih p => by
  rw [t.cq_eq, t.sz_eq]
  have h1 := cqN_le weak t.op p
  have h2 := Fm.cqL_le (weak := weak) (o := t.op) (p := p) t.parts 0 ih
  omega

end Go.Proofs.Ytppmiedhoimgmaa
