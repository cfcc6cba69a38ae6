/- The drawn inputs of chapter 1 that both seats use: a short text; the cursor at its start: contracts. -/
import Derived.Test.YtppmiedhoimgmaaCurF
namespace Go.Proofs.Ytppmiedhoimgmaa
open Go.RowKit

theorem Cur.block {w : World} {B b K : Nat} (h : Cur w B b K) : B ≤ b ∧ b < w.heap.size := by
  obtain ⟨n, v, pos, seed, hc⟩ := h
  exact ⟨hc.le, hc.size⟩
/-- The cursor in a later world in which its block and what lies below B are as they were. -/
theorem Cur.later {w w' : World} {B b K : Nat} {row : Option Nat} (h : Cur w B b K) (hg : w.grownBy w' row) (hr : row ≠ some b) (hb : ∀ k, row = some k → B ≤ k) : Cur w' B b K := by
  obtain ⟨n, v, pos, seed, hc⟩ := h
  have hl := hc.le
  have hs := hc.size
  exact ⟨n, v, pos, seed, hc.le, hc.code.below ((Below.refl B w).grown hg (by omega) hb), hc.len, (hg.block b hc.size (fun e => hr e.symm)).trans hc.block, hc.lo, hc.hi⟩
theorem Cur.alloc {w : World} {B b K : Nat} (h : Cur w B b K) (o : Obj) : Cur (w.alloc o) B b K :=
  h.later (World.grownBy_alloc w o none) (by simp) (by simp)
theorem cur_new {w : World} {v : Value} {n : Nat} (h : CodeV w v n w.heap.size) (hn : n ≤ 9223372036854775807) : Cur (w.alloc (.cells #[v, .int .i64 0, .int .u64 0] 89)) w.heap.size w.heap.size 0 :=
  ⟨n, v, 0, 0, Nat.le_refl _, h.below ((Below.refl _ _).alloc (Nat.le_refl _) _), hn, heap_alloc_new w _, Int.le_refl _, Int.le_refl _⟩

theorem CodeV.shape {w : World} {v : Value} {n B : Nat} (h : CodeV w v n B) : ∃ a c, v = .slice a n c := by
  rcases h with ⟨a, c, hv, hn⟩ | ⟨g, off, c, hv, _⟩
  · exact ⟨a, c, by rw [hv, hn]⟩
  · exact ⟨_, _, hv⟩

theorem cells_lit (w : World) (ss : List ByteArray) (e : TypeId) (i : Nat) (hi : i < ss.length) : (w.alloc (.cells (ss.map Value.string).toArray e)).cell? ⟨w.heap.size, i, none⟩ = some (.string (ss.getD i ByteArray.empty)) := by
  rw [cell_of_row _ _ i _ e (0, 0) (heap_alloc_new w _)]
  simp [hi]

/-- One of the strings of a list that has just been laid. -/
theorem ofLit_any (w : World) (B b K : Nat) (ss : List ByteArray) (h : Cur w B b K) (hK : K ≤ 999990) (h1 : 1 < ss.length) (h2 : ss.length ≤ 60000) :
    Calls Try.prog 114 #[.pointer (some ⟨b, 0, none⟩), .slice (some ⟨w.heap.size, 0, none⟩) ss.length ss.length] (w.alloc (.cells (ss.map Value.string).toArray 9)) fun e w' => OfEnd w B b (K + 2) ss e w' := by
  have hb := h.block
  refine (of_any _ B b K w.heap.size ss (h.alloc _) hK h1 h2 (by omega) (fun i hi => cells_lit w ss _ i hi)).mono ?_
  rintro e w' ⟨s, he, hs, hg, hc⟩
  exact ⟨s, he, hs, grown_step (World.grownBy_alloc w _ (some b)) hg, hc⟩

end Go.Proofs.Ytppmiedhoimgmaa
