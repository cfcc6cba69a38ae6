/- CountSymbol, the program's: a contract, for terms of at most 1048576 names' bytes and arguments. -/
import Derived.Test.YtdpeanpmjhpblaaGreatCnt
namespace Go.Proofs.YtdpeanpmjhpblaaGreat
open Go.RowKit Go.Shelf
set_option linter.unusedVariables false

attribute [local go_sem] Oper.semAt_some

/-- A node's own box. -/
def NdBox (W : World) (B : Nat) (x : Nd) : Prop := W.heap[B]? = some (Obj.cells #[.string x.tm.name, .slice x.a x.tm.args.length x.c] 31 (0, 0))
theorem NdBox.cells {W : World} {B : Nat} {x : Nd} (h : NdBox W B x) : W.cell? ⟨B, 0, none⟩ = some (.string x.tm.name) ∧ W.cell? ⟨B, 1, none⟩ = some (.slice x.a x.tm.args.length x.c) := by
  have e : W.heap[B]? = _ := h
  constructor <;> simp [World.cell?, e]
theorem ndBox_own (B : Nat) (f : Unit → Nd) : Own (fun s W => NdBox W B (f s)) := fun s X Y row hs hg hrow =>
  (hg.block B (Array.getElem?_eq_some_iff.1 hs).1 (fun e' => by
    obtain ⟨o, ho, hc⟩ := hrow B e'.symm
    rw [show X.heap[B]? = _ from hs] at ho; cases ho; cases hc)).trans hs
theorem NdBox.new (W : World) (x : Nd) : NdBox (W.alloc (.cells #[.string x.tm.name, .slice x.a x.tm.args.length x.c] 31)) W.heap.size x := World.alloc_heap_new W _

end Go.Proofs.YtdpeanpmjhpblaaGreat
