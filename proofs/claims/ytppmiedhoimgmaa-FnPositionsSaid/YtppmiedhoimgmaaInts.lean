/- Slices of integers as the laws' helpers copy, compare and mark them: contracts, for slices of at most 1048576 elements. -/
import Derived.Test.YtppmiedhoimgmaaMarkT
namespace Go.Proofs.Ytppmiedhoimgmaa
open Go.RowKit
set_option linter.unusedVariables false

/-- The slice value reads as the list of integers. -/
def IntsV (w : World) (v : Value) (is : List Int) : Prop :=
  ∃ a c, v = .slice a is.length c ∧ ∀ k x, is[k]? = some x → ∃ b off, a = some ⟨b, off, none⟩ ∧ w.cell? ⟨b, off + k, none⟩ = some (.int .i64 x)

theorem IntsV.kept {w w' : World} {v : Value} {is : List Int} (h : IntsV w v is) (hb : Below w.heap.size w w') : IntsV w' v is := by
  obtain ⟨a, c, hv, hc⟩ := h
  exact ⟨a, c, hv, fun k x hk => by obtain ⟨b, off, ha, hx⟩ := hc k x hk; exact ⟨b, off, ha, carry_cell hx hb⟩⟩

/-- .. and lies in a block of its own, in S. -/
def IntsO (w : World) (S : Nat → Prop) (v : Value) (is : List Int) : Prop :=
  (∃ a c, v = .slice a 0 c ∧ is = []) ∨ (∃ g c, v = .slice (some ⟨g, 0, none⟩) is.length c ∧ 0 < is.length ∧ is.length ≤ c ∧ S g ∧ (∀ j, w.frozen? ⟨g, j, none⟩ = false) ∧ ∀ k x, is[k]? = some x → w.cell? ⟨g, k, none⟩ = some (.int .i64 x))

theorem IntsO.read {w : World} {S : Nat → Prop} {v : Value} {is : List Int} (h : IntsO w S v is) : IntsV w v is := by
  rcases h with ⟨a, c, rfl, rfl⟩ | ⟨g, c, rfl, _, _, _, _, hc⟩
  · exact ⟨a, c, rfl, fun k x hk => by cases hk⟩
  · exact ⟨_, c, rfl, fun k x hk => ⟨g, 0, rfl, by rw [Nat.zero_add]; exact hc k x hk⟩⟩

theorem IntsO.frame {w w' : World} {S : Nat → Prop} {v : Value} {is : List Int} (h : IntsO w S v is) (hf : ∀ k, S k → w'.heap[k]? = w.heap[k]?) : IntsO w' S v is := by
  rcases h with h | ⟨g, c, rfl, hp, hl, hS, hz, hc⟩
  · exact .inl h
  · have e := hf g hS
    exact .inr ⟨g, c, rfl, hp, hl, hS, fun j => (World.frozen?_of_block (a := ⟨g, j, none⟩) (w := w) e).trans (hz j), fun k x hk => (World.cell?_of_block (a := ⟨g, k, none⟩) (w := w) e).trans (hc k x hk)⟩

theorem IntsO.mono {w : World} {S S' : Nat → Prop} {v : Value} {is : List Int} (h : IntsO w S v is) (hs : ∀ k, S k → S' k) : IntsO w S' v is := by
  rcases h with h | ⟨g, c, rfl, hp, hl, hS, hz, hc⟩
  · exact .inl h
  · exact .inr ⟨g, c, rfl, hp, hl, hs g hS, hz, hc⟩

theorem infoInt : (Try.prog.info? 3).map (fun i => (i.zero, i.size, i.bytes)) = some (some (.int .i64 0), 1, 8) := by kernel_rfl

/-- A whole row of integers is a list of its own. -/
theorem intsO_of_owns {w w0 : World} {v : Value} {is : List Int} {xs : List Value} (h : w.ownsRow w0.heap.size 3 1 v is.length xs) (hx : ∀ (k : Nat) (x : Int), is[k]? = some x → xs[k]? = some (Value.int .i64 x)) : IntsO w (Fresh w0 w) v is := by
  rcases h.2 with ⟨rfl, h0⟩ | ⟨g, cap, cur, rfl, hbg, hg, hnc, hcm, hcs, htake⟩
  · exact .inl ⟨none, 0, rfl, List.length_eq_zero_iff.1 h0⟩
  · by_cases h0 : is.length = 0
    · have e : is = [] := List.length_eq_zero_iff.1 h0
      subst e
      exact .inl ⟨_, _, rfl, rfl⟩
    · exact .inr ⟨g, cap, rfl, by omega, hnc, ⟨hbg, (Array.getElem?_eq_some_iff.1 hg).1⟩, fun j => h.frozenAt j, fun k x hk => by
        rw [h.cellAt k (by have := (List.getElem?_eq_some_iff.1 hk).1; omega)]; exact hx k x hk⟩

def ToIRel (w wr : World) (is : List Int) (k : Nat) : Prop :=
  ∃ xs, wr.ownsRow w.heap.size 3 1 (.slice (some ⟨w.heap.size, 0, none⟩) is.length is.length) is.length xs ∧ (∀ (j : Nat) (x : Int), j < k → is[j]? = some x → xs[j]? = some (Value.int .i64 x)) ∧ Below w.heap.size w wr

def ToIEnd (is : List Int) (w : World) (e : Ending) (w' : World) : Prop :=
  ∃ v, e = .returned v ∧ IntsO w' (Fresh w w') v is ∧ Below w.heap.size w w'

theorem int_ne {x y : Int} (h : x ≠ y) : (x != y) = true := by rw [bne_iff_ne]; exact h
theorem int_eq {x y : Int} (h : x = y) : (x != y) = false := by rw [bne_eq_false_iff_eq]; exact h

/-- The numbers that the marking loop writes. -/
def mkI (k n : Nat) : List Int := (List.range n).map fun i => ((k + i : Nat) : Int)
theorem mkI_len (k n : Nat) : (mkI k n).length = n := by simp [mkI]
theorem mkI_at {k n j : Nat} (h : j < n) : (mkI k n)[j]? = some ((k + j : Nat) : Int) := by simp [mkI, h]

def MarkIEnd (is : List Int) (k : Nat) (v : Value) (S : Nat → Prop) (w : World) (e : Ending) (w' : World) : Prop :=
  e = .returned (.int .i64 (k + is.length : Nat)) ∧ IntsO w' S v (mkI k is.length) ∧ Outside S w w'

def MRelI (w wr : World) (g : Nat) (S : Nat → Prop) (is : List Int) (k i : Nat) : Prop :=
  (∀ j, wr.frozen? ⟨g, j, none⟩ = false) ∧ (∀ j x, is[j]? = some x → wr.cell? ⟨g, j, none⟩ = some (.int .i64 (if j < i then ((k + j : Nat) : Int) else x))) ∧ Outside S w wr

end Go.Proofs.Ytppmiedhoimgmaa
