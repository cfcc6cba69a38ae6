/- A loop that appends bindings to a row of its own: the row and the terms that it holds. No condition. -/
import Derived.Test.YtnkonhdnccolhaaOneX
import Derived.Deep.AppendLies
import Derived.Deep.RegionLaw
namespace Go.Proofs.Ytnkonhdnccolhaa
open Go.RowKit
set_option linter.unusedVariables false

theorem MadeB.nextG {w0 w w' : World} {xs xs' : List Value} {l : List Bd} {k : Nat} {f : Nat → Value} {Ss : Nat → Nat → Prop} {d : Bd} {va : Value} {S : Nat → Prop} (h : MadeB w0 w xs l k f Ss)
    (ht : l[k]? = some d) (hk : ∀ i, i < k → xs'[i * 3]? = xs[i * 3]? ∧ xs'[i * 3 + 1]? = xs[i * 3 + 1]? ∧ xs'[i * 3 + 2]? = xs[i * 3 + 2]?)
    (h0 : xs'[k * 3]? = some (.string d.var)) (h1 : xs'[k * 3 + 1]? = some (.string d.tm.name)) (h2 : xs'[k * 3 + 2]? = some va)
    (ho : TmO w' S va d.tm.args) (hS : ∀ b, S b → w0.heap.size ≤ b ∧ b < w'.heap.size) (hd : ∀ i b, i < k → Ss i b → S b → False) (hz : w.heap.size ≤ w'.heap.size)
    (hf : ∀ i b, i < k → Ss i b → w'.heap[b]? = w.heap[b]?) : MadeB w0 w' xs' l (k + 1) (fun i => if i = k then va else f i) (fun i => if i = k then S else Ss i) := by
  have h' := h.keep hz hf
  refine ⟨fun i s hi hs => ?_, fun i s hi hs => ?_, fun i b hi hb => ?_, fun i j b hi hj hij hb hb' => ?_⟩
  · by_cases e : i = k
    · subst e; rw [ht] at hs; injection hs with hs; subst hs; simp only [if_pos]; exact ⟨h0, h1, h2⟩
    · obtain ⟨k0, k1, k2⟩ := hk i (by omega)
      rw [k0, k1, k2]; simp only [if_neg e]; exact h.cells i s (by omega) hs
  · by_cases e : i = k
    · subst e; rw [ht] at hs; injection hs with hs; subst hs; simp only [if_pos]; exact ho
    · simp only [if_neg e]; exact h'.own i s (by omega) hs
  · by_cases e : i = k
    · subst e; simp only [if_pos] at hb; exact hS b hb
    · simp only [if_neg e] at hb; exact h'.sub i b (by omega) hb
  · by_cases e : i = k
    · by_cases e' : j = k
      · omega
      · simp only [if_pos e] at hb; simp only [if_neg e'] at hb'
        exact hd j b (by omega) hb' hb
    · by_cases e' : j = k
      · simp only [if_neg e] at hb; simp only [if_pos e'] at hb'
        exact hd i b (by omega) hb hb'
      · simp only [if_neg e] at hb; simp only [if_neg e'] at hb'
        exact h.dis i j b (by omega) (by omega) hij hb hb'

/-- What the loop has appended after k rounds: the row lies from the block 'base' on, the terms in blocks of P, from the world W0 on. -/
def OwnRelB (w W0 : World) (base : Nat) (wr : World) (P : Nat → Prop) (v : Value) (l : List Bd) (k : Nat) : Prop :=
  ∃ xs f Ss, wr.ownsRow base 110 3 v k xs ∧ MadeB W0 wr xs l k f Ss ∧ (∀ g, v.ownBlock = some g → ∀ i, i < k → ¬ Ss i g) ∧ (∀ i b, i < k → Ss i b → P b) ∧ Below w.heap.size w wr ∧ base ≤ wr.heap.size

theorem OwnRelB.start {w W0 wr : World} {base : Nat} (P : Nat → Prop) (l : List Bd) (hb : Below w.heap.size w wr) (hz : base ≤ wr.heap.size) : OwnRelB w W0 base wr P (.slice none 0 0) l 0 :=
  ⟨_, _, _, World.ownsRow_nil _ _ _ _, MadeB.start _ _ _ _, fun g hg => by simp [Value.ownBlock] at hg, fun i b h => absurd h (Nat.not_lt_zero _), hb, hz⟩

/-- One binding more: laid into a block of its own, appended, and the row's value stored. -/
theorem OwnRelB.next {w W0 wr w' w'' : World} {base : Nat} {P P' S : Nat → Prop} {v : Value} {l : List Bd} {k : Nat} {d : Bd} {v' : Value} {xs : List Value} {f : Nat → Value} {Ss : Nat → Nat → Prop} {g cap : Nat} {o : Obj} {a : Addr} {u : Value}
    (hw0 : w.heap.size ≤ W0.heap.size) (hb0 : W0.heap.size ≤ base) (hb : Below w.heap.size w wr) (hown : wr.ownsRow base 110 3 v k xs) (hm : MadeB W0 wr xs l k f Ss) (hne : ∀ g, v.ownBlock = some g → ∀ i, i < k → ¬ Ss i g) (hP : ∀ i b, i < k → Ss i b → P b) (hz : base ≤ wr.heap.size)
    (ht : l[k]? = some d) (ho : TmO w' S v' d.tm.args) (hS : ∀ b, S b → W0.heap.size ≤ b ∧ b < w'.heap.size) (hSd : ∀ b, P b → W0.heap.size ≤ b → b < wr.heap.size → S b → False) (hSv : ∀ g, v.ownBlock = some g → ¬ S g) (hPP : ∀ b, P b → P' b) (hSP : ∀ b, S b → P' b)
    (hb' : Below wr.heap.size wr w')
    (hown2 : w''.ownsRow base 110 3 (.slice (some ⟨g, 0, none⟩) (k + 1) cap) (k + 1) (xs ++ [.string d.var, .string d.tm.name, v'])) (hgr : (w'.alloc o).grownBy w'' v.ownBlock) (hat : v.ownBlock = some g ∨ g = w'.heap.size + 1) (ha : a.block < base) (haw : w.heap.size ≤ a.block)
    (haS : ∀ b, P b → b < wr.heap.size → b ≠ a.block) (haS2 : ∀ b, S b → b ≠ a.block) :
    OwnRelB w W0 base (w''.setCell a u) P' (.slice (some ⟨g, 0, none⟩) (k + 1) cap) l (k + 1) := by
  have hl := hown.1
  have hold : ∀ b, v.ownBlock = some b → base ≤ b ∧ b < wr.heap.size := fun b hb => hown.lt b hb
  have hz' := hb'.size
  have hz2 := hgr.size
  have hsz : w''.heap.size ≥ w'.heap.size + 1 := by simpa using hz2
  refine ⟨_, _, _, ownsRow_setCell_below hown2 ha u, hm.nextG (va := v') (S := S) ht (fun i hi => ⟨?_, ?_, ?_⟩) ?_ ?_ ?_ ?_ (fun b hb => ⟨(hS b hb).1, by simp only [size_setCell]; have := (hS b hb).2; omega⟩) (fun i b hi h1 h2 => hSd b (hP i b hi h1) (hm.sub i b hi h1).1 (hm.sub i b hi h1).2 h2) (by simp only [size_setCell]; omega) (fun i b hi hs => ?_), fun g' hg' i hi => ?_, fun i b hi h => ?_, ?_, ?_⟩
  · rw [List.getElem?_append_left (by omega)]
  · rw [List.getElem?_append_left (by omega)]
  · rw [List.getElem?_append_left (by omega)]
  · rw [List.getElem?_append_right (by omega), show k * 3 - xs.length = 0 by omega]; rfl
  · rw [List.getElem?_append_right (by omega), show k * 3 + 1 - xs.length = 1 by omega]; rfl
  · rw [List.getElem?_append_right (by omega), show k * 3 + 2 - xs.length = 2 by omega]; rfl
  · refine (ho.frame fun b hb => ?_).setCell (fun h => haS2 _ h rfl) _
    rw [hgr.block b (by simp; have := (hS b hb).2; omega) (fun e => hSv b e.symm hb)]
    exact Below.heap_alloc _ _ _ (hS b hb).2
  · have h1 := hm.sub i b hi hs
    have hnb : some b ≠ v.ownBlock := fun e => hne b e.symm i hi hs
    rw [Below.heap_setCell _ _ _ _ (haS b (hP i b hi hs) h1.2), hgr.block b (by simp; omega) hnb, Below.heap_alloc _ _ _ (by omega)]
    exact hb'.block b h1.2
  · have e : g' = g := by simp [Value.ownBlock] at hg'; exact hg'.symm
    subst e
    intro h
    by_cases e : i = k
    · simp only [if_pos e] at h
      rcases hat with h1 | h1
      · exact hSv g' h1 h
      · have := (hS g' h).2; omega
    · simp only [if_neg e] at h
      have h2 := hm.sub i g' (by omega) h
      rcases hat with h1 | h1
      · exact hne g' h1 i (by omega) h
      · omega
  · by_cases e : i = k
    · simp only [if_pos e] at h; exact hSP b h
    · simp only [if_neg e] at h; exact hPP b (hP i b (by omega) h)
  · refine Below.setCell ((carry_below hb (Nat.le_refl _) hb').trans ⟨?_, ?_, ?_, ?_, fun b hb2 => ?_⟩) haw u
    · exact hgr.os
    · exact hgr.tape
    · exact hgr.output
    · omega
    · have := hb.size
      rw [hgr.block b (by simp; omega) (fun e => by have := hold b e.symm; omega), Below.heap_alloc _ _ _ (by omega)]
  · simp only [size_setCell]; omega

theorem OwnRelB.whole {w W0 wr : World} {base : Nat} {P : Nat → Prop} {v : Value} {l : List Bd} (hb0 : W0.heap.size ≤ base) (h : OwnRelB w W0 base wr P v l l.length) : BdO wr (Fresh W0 wr) v l := by
  obtain ⟨xs, f, Ss, h1, h2, h3, h4, h5, h6⟩ := h
  exact MadeB.whole h1 h2 hb0 h3

/-- Where an element that is kept lies in what is kept. -/
theorem filter_at {l : List Bd} {p : Bd → Bool} {k : Nat} {d : Bd} (h : l[k]? = some d) (hp : p d = true) : (l.filter p)[((l.take k).filter p).length]? = some d := by
  have e : l.filter p = (l.take k).filter p ++ (l.drop k).filter p := by rw [← List.filter_append, List.take_append_drop]
  have hk := (List.getElem?_eq_some_iff.1 h).1
  have e2 : l.drop k = d :: l.drop (k + 1) := by
    rw [List.drop_eq_getElem_cons hk]
    congr 1
    exact Option.some.inj (by rw [← List.getElem?_eq_getElem hk]; exact h)
  rw [e, List.getElem?_append_right (Nat.le_refl _), Nat.sub_self, e2, List.filter_cons, if_pos hp]
  rfl
theorem filter_next_yes {l : List Bd} {p : Bd → Bool} {k : Nat} {d : Bd} (h : l[k]? = some d) (hp : p d = true) : ((l.take (k + 1)).filter p).length = ((l.take k).filter p).length + 1 := by
  rw [take_next h, List.filter_append, List.length_append]; simp [hp]
theorem filter_next_no {l : List Bd} {p : Bd → Bool} {k : Nat} {d : Bd} (h : l[k]? = some d) (hp : p d = false) : ((l.take (k + 1)).filter p).length = ((l.take k).filter p).length := by
  rw [take_next h, List.filter_append, List.length_append]; simp [hp]
theorem filter_le {l : List Bd} {p : Bd → Bool} (k : Nat) : ((l.take k).filter p).length ≤ l.length :=
  Nat.le_trans (List.length_filter_le _ _) (by rw [List.length_take]; exact Nat.min_le_right _ _)

end Go.Proofs.Ytnkonhdnccolhaa
