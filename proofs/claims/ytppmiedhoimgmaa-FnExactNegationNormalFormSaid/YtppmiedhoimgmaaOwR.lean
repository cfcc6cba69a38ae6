/- A loop that copies a list of formulas one by one into a row of its own: what it has made. No condition. -/
import Derived.Test.YtppmiedhoimgmaaToF
import Derived.Test.YtppmiedhoimgmaaOwn
import Derived.Test.YtppmiedhoimgmaaSink
namespace Go.Proofs.Ytppmiedhoimgmaa
open Go.RowKit
set_option linter.unusedVariables false
set_option linter.unusedSimpArgs false

/-- What the copying loop has appended after k rounds: the row and the made formulas lie from the world W0 on. -/
def OwnRelF (w W0 wr : World) (v : Value) (l : List Fm) (k : Nat) : Prop :=
  ∃ xs f p Q, wr.ownsRow W0.heap.size 68 5 v k xs ∧ MadeF W0 wr xs l k f p Q ∧ (∀ g, v.ownBlock = some g → ∀ j, j < 2 * k → ¬ Q j g) ∧ Below w.heap.size w wr ∧ W0.heap.size ≤ wr.heap.size

theorem OwnRelF.next {w W0 wr w' w'' : World} {v va vp : Value} {l : List Fm} {k : Nat} {t : Fm} {xs : List Value} {f p : Nat → Value} {Q : Nat → Nat → Prop} {g cap : Nat} {o : Obj} {a : Addr} {u : Value}
    (hw0 : w.heap.size ≤ W0.heap.size) (hb : Below w.heap.size w wr) (hown : wr.ownsRow W0.heap.size 68 5 v k xs) (hm : MadeF W0 wr xs l k f p Q) (hne : ∀ g, v.ownBlock = some g → ∀ j, j < 2 * k → ¬ Q j g) (hz : W0.heap.size ≤ wr.heap.size)
    (ht : l[k]? = some t) (ho : FOwn w' (Fresh wr w') t va vp) (hb' : Below wr.heap.size wr w')
    (hown2 : w''.ownsRow W0.heap.size 68 5 (.slice (some ⟨g, 0, none⟩) (k + 1) cap) (k + 1) (xs ++ [.int .i64 t.op, .string t.atom.name, va, .string t.var, vp])) (hgr : (w'.alloc o).grownBy w'' v.ownBlock)
    (hat : v.ownBlock = some g ∨ g = w'.heap.size + 1) (ha : a.block < W0.heap.size) (haw : w.heap.size ≤ a.block) :
    OwnRelF w W0 (w''.setCell a u) (.slice (some ⟨g, 0, none⟩) (k + 1) cap) l (k + 1) := by
  have hl := hown.1
  have hold : ∀ b, v.ownBlock = some b → W0.heap.size ≤ b ∧ b < wr.heap.size := fun b hb => hown.lt b hb
  have hz' := hb'.size
  have hz2 := hgr.size
  have hsz : w''.heap.size ≥ w'.heap.size + 1 := by simpa using hz2
  have hget : ∀ j u, ([.int .i64 t.op, .string t.atom.name, va, .string t.var, vp] : List Value)[j]? = some u → (xs ++ [.int .i64 t.op, .string t.atom.name, va, .string t.var, vp])[k * 5 + j]? = some u := fun j u hj => by
    rw [List.getElem?_append_right (by omega), show k * 5 + j - xs.length = j by omega]; exact hj
  obtain ⟨Q', hm', hq⟩ := hm.next (w' := w''.setCell a u) (xs' := xs ++ [.int .i64 t.op, .string t.atom.name, va, .string t.var, vp]) (S := Fresh wr w') ht (fun i j hi hj => by rw [List.getElem?_append_left (by omega)])
    ⟨hget 0 _ rfl, hget 1 _ rfl, hget 2 _ rfl, hget 3 _ rfl, hget 4 _ rfl⟩
    ((ho.frame fun b hb => by
      rw [hgr.block b (by simp; have := hb.2; omega) (fun e => by have := hold b e.symm; have := hb.1; omega)]
      exact Below.heap_alloc _ _ _ hb.2).setCell (fun h => by have := h.1; omega) _)
    (fun b hb => ⟨hb.1, by simp only [size_setCell]; have := hb.2; omega⟩) (by simp only [size_setCell]; omega) hz (fun j b hj hs => by
      have h1 := hm.sub j b hj hs
      have hnb : some b ≠ v.ownBlock := fun e => hne b e.symm j hj hs
      rw [Below.heap_setCell _ _ _ _ (by omega), hgr.block b (by simp; omega) hnb, Below.heap_alloc _ _ _ (by omega)]
      exact hb'.block b h1.2)
  refine ⟨_, _, _, Q', ownsRow_setCell_below hown2 ha u, hm', fun g' hg' j hj h => ?_, ?_, ?_⟩
  · have e : g' = g := by simp [Value.ownBlock] at hg'; exact hg'.symm
    subst e
    rcases hq j g' hj h with ⟨hj2, h2⟩ | h2
    · have h3 := hm.sub j g' hj2 h2
      rcases hat with h1 | h1
      · exact hne g' h1 j hj2 h2
      · omega
    · rcases hat with h1 | h1
      · have := hold g' h1; have := h2.1; omega
      · have := h2.2; omega
  · refine Below.setCell ((carry_below hb (Nat.le_refl _) hb').trans ⟨?_, ?_, ?_, ?_, fun b hb2 => ?_⟩) haw u
    · exact hgr.os
    · exact hgr.tape
    · exact hgr.output
    · omega
    · have := hb.size
      rw [hgr.block b (by simp; omega) (fun e => by have := hold b e.symm; omega), Below.heap_alloc _ _ _ (by omega)]
  · simp only [size_setCell]; omega

theorem OwnRelF.whole {w W0 wr : World} {v : Value} {l : List Fm} (h : OwnRelF w W0 wr v l l.length) : FmO wr (Fresh W0 wr) v l := by
  obtain ⟨xs, f, p, Q, h1, h2, h3, h4, h5⟩ := h
  exact MadeF.whole h1 h2 (Nat.le_refl _) h3

theorem app_fiv {w w' : World} {o : Obj} {row : Option Nat} (hg : (w.alloc o).grownBy w' row) {b : Nat} {x0 x1 x2 x3 x4 : Value} (h : FivB w b x0 x1 x2 x3 x4) (hne : some b ≠ row) : FivB w' b x0 x1 x2 x3 x4 :=
  ⟨app_cell hg h.1 hne, app_cell hg h.2.1 hne, app_cell hg h.2.2.1 hne, app_cell hg h.2.2.2.1 hne, app_cell hg h.2.2.2.2.1 hne, fun j => by
    have h1 := h.alloc o
    have hlt := World.block_lt_of_cell? (w.alloc o) ⟨b, 0, none⟩ h1.1
    exact (World.frozen?_of_block (w := w.alloc o) (a := ⟨b, j, none⟩) (hg.block b hlt hne)).trans (h1.2.2.2.2.2 j)⟩

/-- Arguments of an atom that lie in blocks S behind a round of the loop. -/
theorem app_tmO {w w' : World} {o : Obj} {row : Option Nat} (hg : (w.alloc o).grownBy w' row) {S : Nat → Prop} {v : Value} {l : List Tm} (h : TmO w S v l) (hs : ∀ k, S k → k < w.heap.size ∧ row ≠ some k) : TmO w' S v l :=
  h.frame fun k hk => (hg.block k (by have := (hs k hk).1; simp; omega) (fun e => (hs k hk).2 e.symm)).trans (Below.heap_alloc _ _ _ (hs k hk).1)

/-- The copy's first part: the variable that the copy is built in, wherever it lies, with the atom's own arguments. -/
def OutB (w WA W0 : World) (t : Fm) (ob : Nat) (va : Value) (Sa : Nat → Prop) : Prop :=
  FivB W0 ob (.int .i64 t.op) (.string t.atom.name) va (.string t.var) (.slice none 0 0) ∧ TmO W0 Sa va t.atom.args ∧ (∀ k, Sa k → WA.heap.size ≤ k ∧ k < W0.heap.size ∧ k ≠ ob) ∧ WA.heap.size ≤ ob ∧ ob < W0.heap.size ∧ Below WA.heap.size WA W0

section
variable {P : Program} {ops : Array Oper} {Q : Exit → Act → World → Prop} {md : Region.Mode} {S : World → Prop} {n : Nat}
theorem sink_two {i j : Nat} {oi oj : Oper} {left : Nat} {seen : Array Bool} {act : Act} {wd : World} (hr : Region.ready md ops seen = [i, j]) (hi : ops[i]? = some oi) (hj : ops[j]? = some oj)
    (h1 : ∀ K' : Act → World → Prop, Shut (∀ act wd, (i ≠ n → S wd) → ((i ≠ n → S wd) → wpSink P md ops Q S n left (seen.setIfInBounds i true) act wd) → K' act wd) → if Region.wanted oi (yielded ops act.tmps) = true then Oper.wp P oi act wd K' Q else K' (act.put oi.dst undef) wd)
    (h2 : ∀ K' : Act → World → Prop, Shut (∀ act wd, (j ≠ n → S wd) → ((j ≠ n → S wd) → wpSink P md ops Q S n left (seen.setIfInBounds j true) act wd) → K' act wd) → if Region.wanted oj (yielded ops act.tmps) = true then Oper.wp P oj act wd K' Q else K' (act.put oj.dst undef) wd) :
    wpSink P md ops Q S n (left + 1) seen act wd := by
  refine ⟨fun hnil => (by rw [hr] at hnil; cases hnil), fun k hk => ?_⟩
  rw [hr] at hk
  rcases List.mem_cons.1 hk with rfl | hk
  · exact wpOp_step hi (fun K' hK => h1 K' (fun act wd hS hW => hK act wd ⟨hS, hW hS⟩))
  · obtain rfl : k = j := List.mem_singleton.1 hk
    exact wpOp_step hj (fun K' hK => h2 K' (fun act wd hS hW => hK act wd ⟨hS, hW hS⟩))
end

end Go.Proofs.Ytppmiedhoimgmaa
