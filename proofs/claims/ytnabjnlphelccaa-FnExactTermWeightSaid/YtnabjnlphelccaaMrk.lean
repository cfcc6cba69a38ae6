/- The marks that a function leaves on its way out of ranges over functions. No condition. -/
import Derived.Test.YtnabjnlphelccaaCntI
import Derived.Test.YtnabjnlphelccaaIterM
namespace Go.Proofs.Ytnabjnlphelccaa
open Go.RowKit Go.Shelf
set_option linter.unusedVariables false

attribute [local go_sem] Oper.semAt_some

/-- A function's marks on its way out: a block for each range over a function, all of them open. -/
def mkD (D : Nat) : Deferred := { target := .collected D, args := #[] }
def Open (B : Nat) (W : World) (Ds : List Nat) : Prop := Ds.Nodup ∧ ∀ D ∈ Ds, B ≤ D ∧ W.heap[D]? = some (.deferred (some []))
theorem Open.nil (B : Nat) (W : World) : Open B W [] := ⟨List.nodup_nil, fun _ h => by cases h⟩
theorem Open.kept {B : Nat} {W W' : World} {Ds : List Nat} (h : Open B W Ds) (hb : Below W.heap.size W W') : Open B W' Ds :=
  ⟨h.1, fun D hD => ⟨(h.2 D hD).1, (hb.block D (Array.getElem?_eq_some_iff.1 (h.2 D hD).2).1).trans (h.2 D hD).2⟩⟩
theorem Open.set {B : Nat} {W : World} {Ds : List Nat} (h : Open B W Ds) {a : Addr} (ha : a.block < B) (u : Value) : Open B (W.setCell a u) Ds :=
  ⟨h.1, fun D hD => ⟨(h.2 D hD).1, (Below.heap_setCell _ _ _ _ (fun e => by have := (h.2 D hD).1; omega)).trans (h.2 D hD).2⟩⟩
theorem Open.lt {B : Nat} {W : World} {Ds : List Nat} (h : Open B W Ds) {D : Nat} (hD : D ∈ Ds) : D < W.heap.size := (Array.getElem?_eq_some_iff.1 (h.2 D hD).2).1
theorem Open.cons {B : Nat} {W : World} {Ds : List Nat} {D : Nat} (h : Open B W Ds) (hB : B ≤ D) (hD : W.heap[D]? = some (.deferred (some []))) (hn : D ∉ Ds) : Open B W (D :: Ds) :=
  ⟨List.nodup_cons.2 ⟨hn, h.1⟩, fun x hx => by rcases List.mem_cons.1 hx with rfl | hx; exact ⟨hB, hD⟩; exact h.2 x hx⟩

theorem leaves_open {F : Fence} {n : Nat} {P : Program} {fn : Func} {tmps : Array Value} {R : Ending → World → Prop} (K : World → Prop) (B : Nat)
    (hK : ∀ W D, K W → B ≤ D → W.heap[D]? = some (.deferred (some [])) → K (W.putObj D (.deferred none))) (hR : ∀ W, K W → LeavesInM F n P fn tmps R [] .returning W) :
    ∀ (Ds : List Nat) (W : World), Open B W Ds → K W → LeavesInM F n P fn tmps R (Ds.map mkD) .returning W
  | [], W, _, hw => hR W hw
  | D :: Ds, W, ho, hw => by
    have hD := ho.2 D List.mem_cons_self
    refine ⟨by simp, .inl ⟨D, _, rfl, run_takeDeferred hD.2, ?_⟩⟩
    refine leaves_open K B hK hR Ds _ ⟨(List.nodup_cons.1 ho.1).2, fun x hx => ?_⟩ (hK W D hw hD.1 hD.2)
    have hx2 := ho.2 x (List.mem_cons_of_mem _ hx)
    exact ⟨hx2.1, (World.putObj_heap_other (fun e => (List.nodup_cons.1 ho.1).1 (by rw [← e]; exact hx))).trans hx2.2⟩

theorem kpT_of_below {n : Nat} {A B : World} (h : Below A.heap.size A B) (hn : n ≤ A.heap.size) : KpT n A B := ⟨h.mono hn, KeepTm.grown (grown_of_below h none) (fun r e => by cases e)⟩

end Go.Proofs.Ytnabjnlphelccaa
