/- The model's text of an equality, and FormatTerm of the model: contracts, for terms of at most 1048576 names' bytes and arguments. -/
import Derived.Test.YtohalpafmcobpaaGreatFmtS
namespace Go.Proofs.YtohalpafmcobpaaGreat
open Go.RowKit
set_option linter.unusedVariables false

theorem run_cat {P : Program} (T : TypeId) (a b : ByteArray) (h : a.size + b.size ≤ 9223372036854775807) (W : World) : (binOp .add T (.string a) (.string b)).run P W = .ok (.string (a ++ b)) W := by
  have h' : ¬ ((a.size + b.size : Nat) : Int) > IntKind.i64.max := by
    show ¬ ((a.size + b.size : Nat) : Int) > 9223372036854775807
    omega
  simp only [binOp, Op.stringOp, if_neg h']
  rfl

theorem any_ways {t : Tm} (h : anyB t = true) : (isEqB t.name = true ∧ ∃ x y, t.args = [x, y] ∧ x.nodesB = true ∧ y.nodesB = true) ∨ (isEqB t.name = false ∧ t.nodesB = true) := by
  unfold anyB at h
  cases hg : goodB t with
  | true =>
    have hn : t.nodesB = true := by unfold goodB at hg; simp only [Bool.and_eq_true] at hg; exact hg.2
    exact .inr ⟨nodes_noteq hn, hn⟩
  | false =>
    rw [hg, Bool.false_or] at h
    unfold atomB at h
    cases he : isEqB t.name with
    | true =>
      rw [he] at h
      simp only [if_true, Bool.and_eq_true, decide_eq_true_eq, List.all_eq_true] at h
      obtain ⟨x, y, hxy⟩ := two_args h.1
      exact .inl ⟨rfl, x, y, hxy, h.2.2 x (by rw [hxy]; simp), h.2.2 y (by rw [hxy]; simp)⟩
    | false =>
      rw [he] at h
      simp only [Bool.false_eq_true, if_false, Bool.and_eq_true] at h
      rw [hg] at h
      cases h.2

theorem txtX_eq {sign : List UInt8} {t : Tm} (h : isEqB t.name = true) : txtX sign t = jn sign t.args := by simp [txtX, h]
theorem txtX_no {sign : List UInt8} {t : Tm} (h : isEqB t.name = false) : txtX sign t = t.txt := by simp [txtX, h]

end Go.Proofs.YtohalpafmcobpaaGreat
