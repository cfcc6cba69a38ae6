/- SubtermAt, the program's and the model's: contracts, for terms of at most 1048576 names' bytes and arguments and positions of at most 1048576 indices. -/
import Derived.Test.YtppmiedhoimgmaaSizes
import Derived.Test.YtppmiedhoimgmaaOrdS
import Derived.Test.YtppmiedhoimgmaaCopy
import Derived.Test.YtppmiedhoimgmaaOwn
import Derived.Test.YtppmiedhoimgmaaInts
namespace Go.Proofs.Ytppmiedhoimgmaa
open Go.RowKit
set_option linter.unusedVariables false

/-- The subterm at a position. -/
def subAt : List Int → Tm → Option Tm
  | [], t => some t
  | i :: r, t => if i < 0 then none else (t.args[i.toNat]?).bind fun s => subAt r s

theorem subAt_append (p q : List Int) (t : Tm) : subAt (p ++ q) t = (subAt p t).bind (subAt q) := by
  induction p generalizing t with
  | nil => rfl
  | cons i r ih =>
    rw [List.cons_append, subAt, subAt]
    by_cases h : i < 0
    · rw [if_pos h, if_pos h]; rfl
    · rw [if_neg h, if_neg h]
      cases t.args[i.toNat]? with
      | none => rfl
      | some s => exact ih s

theorem subAt_next {p : List Int} {k : Nat} {t s : Tm} {i : Int} (h : subAt (p.take k) t = some s) (hi : p[k]? = some i) : subAt (p.take (k + 1)) t = if i < 0 then none else s.args[i.toNat]? := by
  rw [take_next hi, subAt_append, h]
  show subAt [i] s = _
  rw [subAt]
  by_cases h0 : i < 0
  · rw [if_pos h0, if_pos h0]
  · rw [if_neg h0, if_neg h0]
    cases s.args[i.toNat]? with
    | none => rfl
    | some u => rfl

theorem subAt_none {p : List Int} {k : Nat} {t : Tm} (h : subAt (p.take k) t = none) : subAt p t = none := by
  have e := subAt_append (p.take k) (p.drop k) t
  rw [List.take_append_drop, h] at e
  exact e

theorem subAt_all {p : List Int} {t : Tm} {s : Tm} {k : Nat} (h : subAt (p.take k) t = some s) (hk : p.length ≤ k) : subAt p t = some s := by
  rwa [List.take_of_length_le hk] at h

theorem subAt_wt : ∀ (p : List Int) (t s : Tm), subAt p t = some s → s.wt ≤ t.wt
  | [], t, s, h => by injection h with h; subst h; exact Nat.le_refl _
  | i :: r, t, s, h => by
    rw [subAt] at h
    by_cases h0 : i < 0
    · rw [if_pos h0] at h; cases h
    · rw [if_neg h0] at h
      obtain ⟨u, hu, hs⟩ := Option.bind_eq_some_iff.1 h
      exact Nat.le_trans (subAt_wt r u s hs) (Tm.wt_arg (mem_of_at hu))

def noTm : Tm := .node ⟨#[]⟩ []
def subA (t : Tm) (p : List Int) : Option Tm := if anyB t = true then subAt p t else none
def subR (t : Tm) (p : List Int) : Tm := (subA t p).getD noTm
theorem subR_wt (t : Tm) (p : List Int) : (subR t p).wt ≤ t.wt := by
  unfold subR
  cases h : subA t p with
  | none => have e : noTm.wt = 0 := by decide
            show noTm.wt ≤ _; omega
  | some s =>
    unfold subA at h
    split at h
    · exact subAt_wt p t s h
    · cases h

/-- What both functions answer. -/
def SubEnd (r : Option Tm) (w : World) (e : Ending) (w' : World) : Prop :=
  ∃ va, e = .returned (.tuple #[.agg #[.string (r.getD noTm).name, va], .bool r.isSome]) ∧ TmO w' (Fresh w w') va (r.getD noTm).args ∧ Below w.heap.size w w'

theorem SubEnd.no {w w' : World} (hb : Below w.heap.size w w') : SubEnd none w (.returned (.tuple #[.agg #[.string ⟨#[]⟩, .slice none 0 0], .bool false])) w' := ⟨_, rfl, .emp _ _ _, hb⟩

end Go.Proofs.Ytppmiedhoimgmaa
