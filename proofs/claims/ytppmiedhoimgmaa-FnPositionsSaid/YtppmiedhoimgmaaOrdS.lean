/- The model's comparison of terms: a contract, for terms of at most 1048576 names' bytes and arguments. -/
import Derived.Test.YtppmiedhoimgmaaOrd
namespace Go.Proofs.Ytppmiedhoimgmaa
open Go.RowKit
set_option linter.unusedVariables false

theorem quiet_left {P : Program} {f : FuncId} {args : Array Value} {w : World} {n : Nat} {v : Value}
    (h : Calls P f args (w.drewN n) fun e w' => e = .returned v ∧ w.drewN n = w') : Calls P f args (w.drewN n) fun e w'' => e = .returned v ∧ ∃ m, w'' = w.drewN m :=
  h.mono fun _ _ ⟨he, hm⟩ => ⟨he, n, hm.symm⟩

theorem below_drews {B : Nat} {a w : World} (h : Below B a w) (n : Nat) : Below B a (w.drewN n) := ⟨h.os, h.tape, h.output, h.size, h.block⟩

theorem Two.drews {w : World} {b : Nat} {x y : Value} (h : Two w b x y) (n : Nat) : Two (w.drewN n) b x y := h.kept (below_drews (Below.refl _ _) n)

theorem ord_vars {a b : Tm} (h1 : varB a.name = true) (h2 : varB b.name = false) : ordT a b = -1 := by rw [ordT_eq, h1, h2]; rfl
theorem ord_vars' {a b : Tm} (h1 : varB a.name = false) (h2 : varB b.name = true) : ordT a b = 1 := by rw [ordT_eq, h1, h2]; rfl
theorem ord_rest {a b : Tm} (h : varB a.name = varB b.name) : ordT a b = if a.name ≠ b.name then txt a.name b.name else if a.args.length < b.args.length then -1 else if b.args.length < a.args.length then 1 else ordL a.args b.args := by
  rw [ordT_eq, h]
  cases varB b.name <;> rfl

end Go.Proofs.Ytppmiedhoimgmaa
