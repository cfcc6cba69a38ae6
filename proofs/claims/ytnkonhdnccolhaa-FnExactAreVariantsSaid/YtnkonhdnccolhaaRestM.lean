/- The bindings of some variables among a list: facts; and whether a slice of strings has an element: the model's and the program's: contracts. -/
import Derived.Test.YtnkonhdnccolhaaSubS
import Derived.Test.YtnkonhdnccolhaaSubP
import Derived.Test.YtnkonhdnccolhaaRenI
import Derived.Test.YtnkonhdnccolhaaStrsF
namespace Go.Proofs.Ytnkonhdnccolhaa
open Go.RowKit
set_option linter.unusedVariables false

/-- Is the variable of a binding among the names? -/
def inS (ss : List ByteArray) (d : Bd) : Bool := Lib.containsS ss d.var
def restr (l : List Bd) (ss : List ByteArray) : List Bd := if goodS l then l.filter (inS ss) else []
theorem restr_yes {l : List Bd} {ss : List ByteArray} (h : goodS l = true) : restr l ss = l.filter (inS ss) := if_pos h
theorem restr_no {l : List Bd} {ss : List ByteArray} (h : goodS l = false) : restr l ss = [] := if_neg (by rw [h]; simp)
theorem sumB_filter (f : Bd → Nat) (p : Bd → Bool) : ∀ l : List Bd, sumB f (l.filter p) ≤ sumB f l
  | [] => Nat.le_refl _
  | d :: r => by
    rw [List.filter_cons]
    have := sumB_filter f p r
    split <;> simp only [sumB] <;> omega
theorem restr_wt (l : List Bd) (ss : List ByteArray) : wtB (restr l ss) ≤ wtB l := by
  unfold restr
  split
  · unfold wtB
    have h1 := List.length_filter_le (inS ss) l
    have h2 := sumB_filter Bd.wt (inS ss) l
    omega
  · simp [wtB, sumB]

theorem containsS_not {ss : List ByteArray} {x : ByteArray} (h : ∀ j, j < ss.length → ss.getD j ByteArray.empty ≠ x) : Lib.containsS ss x = false := by
  rw [← Bool.not_eq_true, Lib.containsS_iff]
  intro hm
  obtain ⟨j, hj⟩ := List.getElem?_of_mem hm
  have hl := (List.getElem?_eq_some_iff.1 hj).1
  exact h j hl (by rw [List.getD_eq_getElem?_getD, hj]; rfl)
theorem containsS_yes {ss : List ByteArray} {x : ByteArray} {j : Nat} (hj : j < ss.length) (h : ss.getD j ByteArray.empty = x) : Lib.containsS ss x = true := by
  rw [Lib.containsS_iff, ← h, List.getD_eq_getElem?_getD, List.getElem?_eq_getElem hj]
  exact List.getElem_mem hj

set_option maxHeartbeats 1000000 in
theorem l2In_any (v : Value) (ss : List ByteArray) (x : ByteArray) (w : World) (hv : StrsV w v ss) (hn : ss.length ≤ 1048576) :
    Calls Try.prog 89 #[v, .string x] w fun e w' => e = .returned (.bool (Lib.containsS ss x)) ∧ Below w.heap.size w w' := by
  rcases hv with ⟨a, c, rfl, rfl⟩ | ⟨b, off, c, rfl, hp, hc⟩
  · have HE : Hid (Lib.containsS [] x = false) := Lib.hid (containsS_not (fun j hj => absurd hj (Nat.not_lt_zero _)))
    go_enter Try.func89, Try.ntmps89
    go_wp2
    refine wp_loop_rounds 1 ?_
    rw [rounds_succ]
    go_wp2
    go_ret
    exact ⟨ret_bool HE.out.symm, Below.refl _ _⟩
  · have HC := Lib.hid hc
    clear hc
    go_enter Try.func89, Try.ntmps89
    go_wp2
    go_loopw [5] (fun i wr => ∃ k : Nat, k ≤ ss.length ∧ i = .int .i64 k ∧ (∀ j, j < k → ss.getD j ByteArray.empty ≠ x) ∧ Below w.heap.size w wr) (fun i _ => ss.length - (intOf i).toNat)
    case atStart => exact ⟨0, Nat.zero_le _, rfl, fun j hj => absurd hj (Nat.not_lt_zero _), Below.refl _ _⟩
    case round =>
      obtain ⟨k, hk, rfl, hq, hbel⟩ := hrel
      have HQ := Lib.hid hq
      have HB := Lib.hid hbel
      clear hq hbel
      by_cases hlt : k < ss.length
      · have hcw := carry_cell (HC.out k hlt) HB.out
        obtain ⟨s, hs⟩ : ∃ s, s = ss.getD k ByteArray.empty := ⟨_, rfl⟩
        rw [← hs] at hcw
        have HS := Lib.hid hs
        clear hs
        by_cases he : s = x
        · have hq : (s.toList == x.toList) = true := str_eq he
          have HF : Hid (Lib.containsS ss x = true) := Lib.hid (containsS_yes hlt (by rw [← HS.out]; exact he))
          clear he
          go_wp2
          go_ret
          exact ⟨ret_bool HF.out.symm, HB.out⟩
        · have hq : (s.toList == x.toList) = false := str_ne he
          have HF : Hid (∀ j, j < k + 1 → ss.getD j ByteArray.empty ≠ x) := Lib.hid (fun j hj => by
            by_cases e : j = k
            · subst e; rw [← HS.out]; exact he
            · exact HQ.out j (by omega))
          clear he
          go_wp2
          go_roundw
          case rel => exact ⟨k + 1, by omega, by go_num, HF.out, HB.out⟩
          case measure => simp [intOf]; omega
      · have HF : Hid (Lib.containsS ss x = false) := Lib.hid (containsS_not (fun j hj => HQ.out j (by omega)))
        go_wp2
        go_ret
        exact ⟨ret_bool HF.out.symm, HB.out⟩

end Go.Proofs.Ytnkonhdnccolhaa
