/- The laws' helpers that write marks into a slice of strings and look for them again: contracts, for slices of at most 1048577 elements. -/
import Derived.Test.YtohalpafmcobpaaGreatStrsF
import Derived.Deep.RegionHeld3
namespace Go.Proofs.YtohalpafmcobpaaGreat
open Go.RowKit

/-- The strings that the marking loop writes. -/
def marks (n : Nat) : List ByteArray := (List.range n).map fun i => markB (1 + i)
theorem marks_len (n : Nat) : (marks n).length = n := by simp [marks]
theorem marks_get {n i : Nat} (h : i < n) : (marks n).getD i ByteArray.empty = markB (1 + i) := by simp [marks, h]

/-- j elements have their mark. -/
def MRel (base : Nat) (v : Value) (n j : Nat) (wr : World) : Prop := ∃ xs, wr.ownsRow base 9 1 v n xs ∧ ∀ q, q < j → xs[q]? = some (.string (markB (1 + q)))

def MarkEnd (base n : Nat) (v : Value) (w : World) (e : Ending) (w' : World) : Prop :=
  e = .returned (.int .i64 (1 + (n : Int))) ∧ w'.ownsRow base 9 1 v (marks n).length ((marks n).map Value.string) ∧ w.grownBy w' v.ownBlock

theorem MRel.full {base n : Nat} {v : Value} {wr : World} (h : MRel base v n n wr) : wr.ownsRow base 9 1 v (marks n).length ((marks n).map Value.string) := by
  obtain ⟨xs, hown, hx⟩ := h
  exact row_known hown (marks_len n).symm (fun j hj => by rw [hx j hj, marks_get hj])

theorem MRel.cell {base g n cap j : Nat} {wr : World} (h : MRel base (.slice (some ⟨g, 0, none⟩) n cap) n j wr) (hj : j < n) : ∃ u, wr.cell? ⟨g, j, none⟩ = some u := by
  obtain ⟨xs, hown, _⟩ := h
  have := hown.1
  exact ⟨xs[j]'(by omega), by rw [hown.cellAt j (by omega), List.getElem?_eq_getElem (by omega)]⟩
theorem MRel.free {base g n cap j : Nat} {wr : World} (h : MRel base (.slice (some ⟨g, 0, none⟩) n cap) n j wr) : wr.frozen? ⟨g, j, none⟩ = false := by
  obtain ⟨xs, hown, _⟩ := h
  exact hown.frozenAt j
theorem MRel.below {base g n cap j : Nat} {wr w1 : World} (h : MRel base (.slice (some ⟨g, 0, none⟩) n cap) n j wr) (hb : Below wr.heap.size wr w1) : MRel base (.slice (some ⟨g, 0, none⟩) n cap) n j w1 := by
  obtain ⟨xs, hown, hx⟩ := h
  exact ⟨xs, hown.kept (grown_of_below hb none) (.inr (by simp [Value.ownBlock])), hx⟩
theorem MRel.step {base g n cap j : Nat} {w1 : World} (h : MRel base (.slice (some ⟨g, 0, none⟩) n cap) n j w1) (hj : j < n) : MRel base (.slice (some ⟨g, 0, none⟩) n cap) n (j + 1) (w1.setCell ⟨g, j, none⟩ (.string (markB (1 + j)))) := by
  obtain ⟨xs, hown, hx⟩ := h
  have hl := hown.1
  refine ⟨_, (hown.stored j (.string (markB (1 + j)))).1, fun q hq => ?_⟩
  by_cases e : q = j
  · subst e; rw [List.getElem?_set_self (by omega)]
  · rw [List.getElem?_set_ne (by omega)]; exact hx q (by omega)
theorem MRel.grown {base g n cap j : Nat} {w w1 : World} {u : Value} (h : MRel base (.slice (some ⟨g, 0, none⟩) n cap) n j w1) (hg : w.grownBy w1 (some g)) : w.grownBy (w1.setCell ⟨g, j, none⟩ u) (some g) := by
  obtain ⟨xs, hown, _⟩ := h
  exact grown_step hg (hown.stored j u).2

set_option maxHeartbeats 1000000 in
theorem markStringS_any (base n : Nat) (v : Value) (xs : List Value) (w : World) (hown : w.ownsRow base 9 1 v n xs) (hn : n ≤ 1048577) :
    Calls Tryz.prog 52 #[v, .int .i64 1] w fun e w' => MarkEnd base n v w e w' := by
  by_cases h0 : n = 0
  · have HM : Hid (MarkEnd base n v w (.returned (.int .i64 1)) w) := Lib.hid (by
      refine ⟨by rw [h0]; rfl, MRel.full (n := n) ⟨xs, hown, fun q hq => by omega⟩, grown_refl _ _⟩)
    have hv : ∃ a c, v = .slice a 0 c := by
      rcases hown.2 with ⟨hv, _⟩ | ⟨g, cap, cur, hv, _⟩
      · exact ⟨_, _, hv⟩
      · exact ⟨_, _, by rw [hv, h0]⟩
    obtain ⟨a, c, rfl⟩ := hv
    clear hown h0 hn
    go_enter Tryz.func52, Tryz.ntmps52
    go_wp2
    refine wp_loop_rounds 1 ?_
    rw [rounds_succ]
    go_wp2
    go_ret
    exact HM.out
  · have hv : ∃ g cap, v = .slice (some ⟨g, 0, none⟩) n cap := by
      rcases hown.2 with ⟨_, hv⟩ | ⟨g, cap, cur, hv, _⟩
      · exact absurd hv h0
      · exact ⟨_, _, hv⟩
    obtain ⟨g, cap, rfl⟩ := hv
    have HM0 : Hid (MRel base (.slice (some ⟨g, 0, none⟩) n cap) n 0 w) := Lib.hid ⟨xs, hown, fun q hq => by omega⟩
    clear hown h0
    go_enter Tryz.func52, Tryz.ntmps52
    go_wp2
    go_loopw [1, 5] (fun kk i wr => ∃ j : Nat, j ≤ n ∧ i = .int .i64 j ∧ kk = .int .i64 (1 + (j : Int)) ∧ MRel base (.slice (some ⟨g, 0, none⟩) n cap) n j wr ∧ w.grownBy wr (some g)) (fun _ i _ => n - (intOf i).toNat)
    case atStart => exact ⟨0, Nat.zero_le _, rfl, rfl, HM0.out, grown_refl _ _⟩
    case round =>
      obtain ⟨j, hj, rfl, rfl, hm, hg⟩ := hrel
      have HM : Hid (MRel base (.slice (some ⟨g, 0, none⟩) n cap) n j wr) := Lib.hid hm
      have HG : Hid (w.grownBy wr (some g)) := Lib.hid hg
      clear hm hg
      by_cases hlt : j < n
      · have C0 : Hid (Calls Tryz.prog 88 #[.int .i64 (1 + (j : Int))] wr fun e w' => e = .returned (.string (markB (1 + j))) ∧ Below wr.heap.size wr w') := Lib.hid (by
          have h := markText_any (1 + j) wr (by omega) (by omega)
          rwa [show ((1 + j : Nat) : Int) = 1 + (j : Int) by omega] at h)
        go_wp2_with fail
        refine C0.out.mono ?_
        rintro e w1 ⟨rfl, hb⟩
        have HM1 : Hid (MRel base (.slice (some ⟨g, 0, none⟩) n cap) n j w1) := Lib.hid (HM.out.below hb)
        have HG1 : Hid (w.grownBy w1 (some g)) := Lib.hid (grown_step HG.out (grown_of_below hb _))
        obtain ⟨u, hu⟩ := HM1.out.cell hlt
        have hf := HM1.out.free
        obtain ⟨t, ht⟩ : ∃ t, t = markB (1 + j) := ⟨_, rfl⟩
        have HM2 : Hid (MRel base (.slice (some ⟨g, 0, none⟩) n cap) n (j + 1) (w1.setCell ⟨g, j, none⟩ (.string t))) := Lib.hid (by rw [ht]; exact HM1.out.step hlt)
        have HG2 : Hid (w.grownBy (w1.setCell ⟨g, j, none⟩ (.string t)) (some g)) := Lib.hid (HM1.out.grown HG1.out)
        rw [← ht]
        clear hb ht
        go_wp2
        go_roundw
        case rel => exact ⟨j + 1, by omega, by go_num, by go_num, HM2.out, HG2.out⟩
        case measure => simp [intOf]; omega
      · have HE : Hid (MarkEnd base n (.slice (some ⟨g, 0, none⟩) n cap) w (.returned (.int .i64 (1 + (j : Int)))) wr) := Lib.hid (by
          have e : j = n := by omega
          have h := HM.out
          rw [e] at h
          exact ⟨by rw [e], h.full, HG.out⟩)
        go_wp2
        go_ret
        exact HE.out

def HeldEnd (n : Nat) (w : World) (e : Ending) (w' : World) : Prop := e = .returned (.int .i64 (1 + (n : Int))) ∧ Below w.heap.size w w'

end Go.Proofs.YtohalpafmcobpaaGreat
