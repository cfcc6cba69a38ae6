/- A function's marks on its way out, and its result's cell. No condition. -/
import Derived.Test.YtppmiedhoimgmaaIter
import Derived.Test.YtppmiedhoimgmaaThr
namespace Go.Proofs.Ytppmiedhoimgmaa
open Go.RowKit Go.Shelf
set_option linter.unusedVariables false

/-- A function's marks on its way out: a block for each range over a function, all of them open. -/
def mkD (D : Nat) : Deferred := { target := .collected D, args := #[] }
def Open (B : Nat) (W : World) (Ds : List Nat) : Prop := Ds.Nodup ∧ ∀ D ∈ Ds, B ≤ D ∧ W.heap[D]? = some (.deferred (some []))
theorem Open.nil (B : Nat) (W : World) : Open B W [] := ⟨List.nodup_nil, fun _ h => by cases h⟩
theorem Open.kept {B : Nat} {W W' : World} {Ds : List Nat} (h : Open B W Ds) (hb : Below W.heap.size W W') : Open B W' Ds :=
  ⟨h.1, fun D hD => ⟨(h.2 D hD).1, (hb.block D (Array.getElem?_eq_some_iff.1 (h.2 D hD).2).1).trans (h.2 D hD).2⟩⟩
theorem Open.set {B : Nat} {W : World} {Ds : List Nat} (h : Open B W Ds) {a : Addr} (ha : a.block < B) (u : Value) : Open B (W.setCell a u) Ds :=
  ⟨h.1, fun D hD => ⟨(h.2 D hD).1, (Below.heap_setCell _ _ _ _ (fun e => by have := (h.2 D hD).1; omega)).trans (h.2 D hD).2⟩⟩
theorem Open.lt {B : Nat} {W : World} {Ds : List Nat} (h : Open B W Ds) {D : Nat} (hD : D ∈ Ds) : D < W.heap.size := (Array.getElem?_eq_some_iff.1 (h.2 D hD).2).1
theorem Open.cons {B : Nat} {W : World} {Ds : List Nat} {D : Nat} (h : Open B W Ds) (hB : B ≤ D) (hD : W.heap[D]? = some (.deferred (some []))) (hn : D ∉ Ds) : Open B W (D :: Ds) :=
  ⟨List.nodup_cons.2 ⟨hn, h.1⟩, fun x hx => by rcases List.mem_cons.1 hx with rfl | hx; exact ⟨hB, hD⟩; exact h.2 x hx⟩

theorem leaves_open {F : Fence} {n : Nat} {P : Program} {fn : Func} {tmps : Array Value} {R : Ending → World → Prop} (K : World → Prop) (B : Nat)
    (hK : ∀ W D, K W → B ≤ D → W.heap[D]? = some (.deferred (some [])) → K (W.putObj D (.deferred none))) (hR : ∀ W, K W → LeavesInM F n P fn tmps R [] .returning W) :
    ∀ (Ds : List Nat) (W : World), Open B W Ds → K W → LeavesInM F n P fn tmps R (Ds.map mkD) .returning W
  | [], W, _, hw => hR W hw
  | D :: Ds, W, ho, hw => by
    have hD := ho.2 D List.mem_cons_self
    refine ⟨by simp, .inl ⟨D, _, rfl, run_takeDeferred hD.2, ?_⟩⟩
    refine leaves_open K B hK hR Ds _ ⟨(List.nodup_cons.1 ho.1).2, fun x hx => ?_⟩ (hK W D hw hD.1 hD.2)
    have hx2 := ho.2 x (List.mem_cons_of_mem _ hx)
    exact ⟨hx2.1, (World.putObj_heap_other (fun e => (List.nodup_cons.1 ho.1).1 (by rw [← e]; exact hx))).trans hx2.2⟩


/-- The result's cell, at a function's end: one box before it. -/
structure FinN (w : World) (x : Bool) (W : World) : Prop where
  c1 : W.cell? ⟨w.heap.size + 1, 0, none⟩ = some (.bool x)
  bel : Below w.heap.size w W
theorem FinN.put {w : World} {x : Bool} {W : World} {D : Nat} (h : FinN w x W) (hB : w.heap.size ≤ D) (hD : W.heap[D]? = some (.deferred (some []))) : FinN w x (W.putObj D (.deferred none)) :=
  ⟨cell_kept h.c1 (grownBy_putObj' W D _) (fun r e => by cases e; exact ⟨_, hD, rfl⟩), h.bel.trans (belowK_b (w := w) (Nat.le_refl _) W D _ _ hB hD rfl rfl)⟩
theorem FinN.set {w W : World} {x x' : Bool} (h1 : W.cell? ⟨w.heap.size + 1, 0, none⟩ = some (.bool x')) (hb : Below w.heap.size w W) : FinN w x (W.setCell ⟨w.heap.size + 1, 0, none⟩ (.bool x)) :=
  ⟨World.cell?_setCell_same _ _ _ h1, hb.setCell (by simp) _⟩
theorem finN_own {β : Type} (w : World) (x : Bool) (B : Nat) (hw : w.heap.size ≤ B) : OwnFrom B (fun (_ : β) W => FinN w x W) := fun s X Y row hs hg hr =>
  ⟨cell_kept hs.c1 hg (fun r e => (hr r e).2), hs.bel.grown hg (Nat.le_trans (Nat.le_refl _) hs.bel.size) (fun k e => Nat.le_trans hw (hr k e).1)⟩
end Go.Proofs.Ytppmiedhoimgmaa
