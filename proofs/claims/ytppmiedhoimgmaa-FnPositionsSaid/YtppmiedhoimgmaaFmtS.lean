/- The model's text of a term and of an expression: contracts, for valid nodes and terms of at most 1048576 names' bytes and arguments. -/
import Derived.Test.YtppmiedhoimgmaaTxt
import Derived.Test.YtppmiedhoimgmaaSpecV
import Derived.Deep.RegionHeld3
import Derived.Deep.RegionWith
namespace Go.Proofs.Ytppmiedhoimgmaa
open Go.RowKit
set_option linter.unusedVariables false

theorem ret_str {a b : ByteArray} (h : a = b) : Ending.returned (.string a) = .returned (.string b) := by rw [h]
theorem ret_strb {a b : ByteArray} {p q : Bool} (h : a = b) (k : p = q) : Ending.returned (.tuple #[.string a, .bool p]) = .returned (.tuple #[.string b, .bool q]) := by rw [h, k]

theorem eq_name {s : ByteArray} (h : isEqB s = true) : s = bs [61] := by
  unfold isEqB at h
  rw [beq_iff_eq, ByteArray.toList_eq] at h
  rw [← bs_of s, h]
theorem var_eq : varB (bs [61]) = false := by decide +kernel
theorem sym_eq : symB (bs [61]) = false := by decide +kernel
theorem nodes_noteq {t : Tm} (h : t.nodesB = true) : isEqB t.name = false := by
  cases h2 : isEqB t.name with
  | false => rfl
  | true =>
    have e := eq_name h2
    have hv : varB t.name = false := by rw [e]; exact var_eq
    rw [Tm.nodesB_sym hv, e, sym_eq] at h
    cases h

theorem nodes_args {t : Tm} (h : t.nodesB = true) : ∀ s ∈ t.args, s.nodesB = true := by
  intro s hs
  cases hv : varB t.name with
  | true =>
    rw [Tm.nodesB_var hv] at h
    cases hl : t.args with
    | nil => rw [hl] at hs; cases hs
    | cons a r => rw [hl] at h; cases h
  | false =>
    rw [Tm.nodesB_sym hv] at h
    simp only [Bool.and_eq_true, decide_eq_true_eq, List.all_eq_true] at h
    exact h.2.2 s hs

end Go.Proofs.Ytppmiedhoimgmaa
