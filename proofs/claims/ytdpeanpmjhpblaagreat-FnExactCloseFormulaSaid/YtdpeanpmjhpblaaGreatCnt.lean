/- CountSymbol, the program's and the model's: contracts, for terms of at most 1048576 names' bytes and arguments. -/
import Derived.Test.YtdpeanpmjhpblaaGreatIter
import Derived.Test.YtdpeanpmjhpblaaGreatImplV2
import Derived.Test.YtdpeanpmjhpblaaGreatSizes
import Derived.Test.YtdpeanpmjhpblaaGreatRep
namespace Go.Proofs.YtdpeanpmjhpblaaGreat
open Go.RowKit Go.Shelf
set_option linter.unusedVariables false

attribute [local go_sem] Oper.semAt_some

/-- How many of the terms bear the name. -/
def cnt (nm : ByteArray) (l : List Tm) : Nat := l.countP (fun s => decide (s.name = nm))
theorem cnt_append (nm : ByteArray) (a b : List Tm) : cnt nm (a ++ b) = cnt nm a + cnt nm b := by simp [cnt]
theorem cnt_nil (nm : ByteArray) : cnt nm [] = 0 := by simp [cnt]
theorem cnt_cons_yes {nm : ByteArray} {t : Tm} (h : t.name = nm) (l : List Tm) : cnt nm (t :: l) = 1 + cnt nm l := by simp [cnt, h]; omega
theorem cnt_cons_no {nm : ByteArray} {t : Tm} (h : t.name ≠ nm) (l : List Tm) : cnt nm (t :: l) = cnt nm l := by simp [cnt, h]
theorem cnt_le (nm : ByteArray) (l : List Tm) : cnt nm l ≤ l.length := by unfold cnt; exact List.countP_le_length
def here (nm : ByteArray) (t : Tm) : Nat := if t.name = nm then 1 else 0
theorem cnt_nds (nm : ByteArray) (t : Tm) : cnt nm t.nds = here nm t + cnt nm (Tm.ndsL t.args) := by
  rw [t.nds_eq]
  unfold here
  by_cases h : t.name = nm
  · rw [cnt_cons_yes h, if_pos h]
  · rw [cnt_cons_no h, if_neg h]; omega
theorem name_ways (s t : ByteArray) : (s = t ∧ (s.toList == t.toList) = true) ∨ (s ≠ t ∧ (s.toList == t.toList) = false) := by
  by_cases h : s = t
  · exact .inl ⟨h, by rw [h]; simp⟩
  · refine .inr ⟨h, ?_⟩
    rw [beq_eq_false_iff_ne]
    intro e
    exact h (toList_inj e)

def cntA (t : Tm) (nm : ByteArray) : Int := if anyB t then cnt nm t.nds else 0
theorem cntA_yes {t : Tm} {nm : ByteArray} (h : anyB t = true) : cntA t nm = cnt nm t.nds := by simp [cntA, h]
theorem cntA_no {t : Tm} {nm : ByteArray} (h : anyB t = false) : cntA t nm = 0 := by simp [cntA, h]

end Go.Proofs.YtdpeanpmjhpblaaGreat
