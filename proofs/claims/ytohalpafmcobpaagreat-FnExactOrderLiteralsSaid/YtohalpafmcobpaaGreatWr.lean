/- The program writes the texts of terms into a buffer: a contract, for terms of at most 1048576 names' bytes and arguments. -/
import Derived.Test.YtohalpafmcobpaaGreatFmtE
import Derived.Test.YtohalpafmcobpaaGreatShelf
import Derived.RangeFuncRecord
namespace Go.Proofs.YtohalpafmcobpaaGreat
open Go.RowKit
set_option linter.unusedVariables false

/-- What stands while the buffer is written. -/
def Keep (B b : Nat) (W W' : World) : Prop := Below B W W' ∧ Lib.OthersKept 5 (some b) W W'
theorem Keep.refl (B b : Nat) (W : World) : Keep B b W W := ⟨Below.refl _ _, Lib.OthersKept.refl _ _ _⟩
theorem Keep.trans {B b : Nat} {W1 W2 W3 : World} (h : Keep B b W1 W2) (k : Keep B b W2 W3) : Keep B b W1 W3 := ⟨h.1.trans k.1, h.2.trans k.2⟩
theorem Keep.alloc {B b : Nat} {W1 W2 : World} (h : Keep B b W1 W2) (hB : B ≤ W2.heap.size) (o : Obj) : Keep B b W1 (W2.alloc o) := ⟨h.1.alloc hB o, h.2.alloc o⟩
theorem Keep.size {B b : Nat} {W1 W2 : World} (h : Keep B b W1 W2) (hB : B ≤ W1.heap.size) : B ≤ W2.heap.size := Nat.le_trans hB h.1.size

/-- A box that holds a term. -/
def BoxT (W : World) (g : Nat) (n : ByteArray) (v : Value) : Prop := W.heap[g]? = some (Obj.cells #[.string n, v] 39 (0, 0))
theorem BoxT.new (W : World) (n : ByteArray) (v : Value) : BoxT (W.alloc (.cells #[.string n, v] 39)) W.heap.size n v := World.alloc_heap_new W _
theorem BoxT.two {W : World} {g : Nat} {n : ByteArray} {v : Value} (h : BoxT W g n v) : Two W g (.string n) v := by
  have e : W.heap[g]? = _ := h
  exact ⟨by simp [World.cell?, e], by simp [World.cell?, e], fun j => by simp [World.frozen?, e]⟩
theorem BoxT.kept {B b g : Nat} {W W' : World} {n : ByteArray} {v : Value} (h : BoxT W g n v) (hg : g ≠ b) (hk : Keep B b W W') : BoxT W' g n v :=
  hk.2 g _ h (fun e => hg (by injection e)) (fun c fz e => by injection e with _ e2; cases e2)

/-- The slice value's elements can be read while the buffer is written. -/
def RowK (B b : Nat) (w0 W : World) (v : Value) (l : List Tm) : Prop :=
  ∃ a c, v = .slice a l.length c ∧ ∀ (k : Nat) (t : Tm), l[k]? = some t → ∃ g off va, a = some ⟨g, off, none⟩ ∧
    (∀ W', Keep B b W W' → W'.cell? ⟨g, off + k * 2, none⟩ = some (.string t.name) ∧ W'.cell? ⟨g, off + k * 2 + 1, none⟩ = some va) ∧ TmS w0 va t.args

theorem RowK.below {B b : Nat} {w0 W : World} {v : Value} {l : List Tm} (hv : TmS w0 v l) (hB : w0.heap.size = B) (hb : Below B w0 W) : RowK B b w0 W v l := by
  obtain ⟨a, c, rfl⟩ := hv.is_slice
  refine ⟨a, c, rfl, fun k t hk => ?_⟩
  obtain ⟨g, off, e, va, c0, c1, hva⟩ := hv.get hk
  subst hB
  exact ⟨g, off, va, e, fun W' hW' => ⟨carry_cell c0 (hb.trans hW'.1), carry_cell c1 (hb.trans hW'.1)⟩, hva⟩

theorem RowK.one {B b g c : Nat} {w0 W : World} {t : Tm} {va : Value} (hv : TmS w0 va t.args) (hx : BoxT W g t.name va) (hg : g ≠ b) : RowK B b w0 W (.slice (some ⟨g, 0, none⟩) 1 c) [t] := by
  refine ⟨_, c, rfl, fun k s hk => ?_⟩
  have hk0 : k = 0 ∧ s = t := by
    cases k with
    | zero => simp at hk; exact ⟨rfl, hk.symm⟩
    | succ k => simp at hk
  obtain ⟨rfl, rfl⟩ := hk0
  exact ⟨g, 0, va, rfl, fun W' hW' => by
    obtain ⟨h0, h1, _⟩ := (hx.kept hg hW').two
    exact ⟨by simpa using h0, by simpa using h1⟩, hv⟩

theorem sumL_lin : ∀ l : List Tm, sumL (fun s => 3 * s.wt + 10) l = 3 * sumL Tm.wt l + 10 * l.length
  | [] => by simp [sumL]
  | a :: r => by simp only [sumL, sumL_lin r, List.length_cons]; omega

end Go.Proofs.YtohalpafmcobpaaGreat
