/- An argument that is a term, opened: what the reader has read is a term in memory. No condition. -/
import Derived.Test.YtppmiedhoimgmaaTmV
import Derived.ProofKit
import Derived.ChangeArms
import Derived.ChangeSame
import Derived.Deep.Slices
import Derived.Lib.SmallJoins
import Derived.Deep.Fields
namespace Go.Proofs.Ytppmiedhoimgmaa
open Go.RowKit Go.ChangeShapes Go.WideShapes Go.Deep Go.Joins
set_option linter.unusedVariables false

section
variable {H : Type} {enc : TypeId × Value → H} {w : World} {base : Nat} {sp : Nat → Bool} {hd : Bool}

theorem cellsT : Try.prog.cellsOf 60 = 2 := by kernel_rfl
theorem cellsN : Try.prog.cellsOf 9 = 1 := by kernel_rfl
theorem cellsA : Try.prog.cellsOf 58 = 1 := by kernel_rfl

/-- One element of a slice of terms, as read. -/
def OneTm (m : Nat) (w : World) (a : Addr) (i : Nat) (p : Tm × Value) : Prop :=
  w.cell? (a.add (i * 2)) = some (.string p.1.name) ∧ w.cell? (a.add (i * 2 + 1)) = some p.2 ∧ TmS w p.2 p.1.args ∧ p.1.lim m

theorem pair_of {α : Type} {l : List α} (h : l.length = 2) : ∃ x y, l = [x, y] := by
  match l, h with
  | [x, y], _ => exact ⟨x, y, rfl⟩

theorem struct_two {P : Program} {t : TypeId} {g0 g1 : Field} {fuel : Nat} {cs : List Value} {x : DataW H × List MemPlace} (hs : P.underlying t = some (.struct #[g0, g1])) (hone : oneCellFields P #[g0, g1] = true) (hC : P.cellsOf t = 2)
    (h : DataW.trod enc P w base sp hd fuel t cs = some x) :
    ∃ (c0 c1 : Value) (y0 y1 : DataW H × List MemPlace) (n : Nat), fuel = n + 1 ∧ cs = [c0, c1] ∧ DataW.trod enc P w base sp hd n g0.type [c0] = some y0 ∧ DataW.trod enc P w base sp hd n g1.type [c1] = some y1 := by
  obtain ⟨xs, n, hn, _, hl, hxl, hf⟩ := DataW.trod_struct hs h
  rw [hC] at hl
  obtain ⟨c0, c1, rfl⟩ := pair_of hl
  obtain ⟨o0, k0⟩ := hone_of hone 0 g0 rfl
  obtain ⟨o1, k1⟩ := hone_of hone 1 g1 rfl
  have f0 := hf 0 g0 rfl
  have f1 := hf 1 g1 rfl
  rw [o0, k0] at f0
  rw [o1, k1] at f1
  have hx2 : xs.length = 2 := hxl
  rw [List.getElem?_eq_getElem (by omega)] at f0 f1
  exact ⟨c0, c1, _, _, n, hn, rfl, f0, f1⟩

theorem add_two (a : Addr) (i j : Nat) : (a.add i).add j = a.add (i + j) := by
  unfold Addr.add
  by_cases hi : i = 0 <;> by_cases hj : j = 0 <;> simp [hi, hj, Nat.add_assoc]

theorem tms_of_row {m : Nat} {a : Addr} {len cap : Nat} {f : Nat → Tm × Value} (h : ∀ i, i < len → OneTm m w a i (f i)) : TmS w (.slice (some a) len cap) ((List.range len).map fun i => (f i).1) := by
  have hlen : ((List.range len).map fun i => (f i).1).length = len := by simp
  have hat : ∀ i t, ((List.range len).map fun i => (f i).1)[i]? = some t → i < len ∧ t = (f i).1 := fun i t ht => by
    have hi := (List.getElem?_eq_some_iff.1 ht).1
    rw [hlen] at hi
    simp [hi] at ht
    exact ⟨hi, ht.symm⟩
  by_cases h0 : len = 0
  · subst h0; exact .emp _ _
  · obtain ⟨b, off, spot⟩ := a
    have hc := (h 0 (by omega)).1
    have hspot : spot = none := by simpa [Addr.add] using World.cell?_spot hc
    subst hspot
    have e : ∀ j, Addr.add ⟨b, off, none⟩ j = ⟨b, off + j, none⟩ := fun j => by
      simp only [Addr.add]; split <;> simp_all
    have r := TmS.row (w := w) b off cap ((List.range len).map fun i => (f i).1) (fun i => (f i).2) (by omega)
      (fun i t ht => by obtain ⟨hi, rfl⟩ := hat i t ht; rw [← e]; exact (h i hi).1)
      (fun i t ht => by obtain ⟨hi, rfl⟩ := hat i t ht; rw [Nat.add_assoc, ← e]; exact (h i hi).2.1)
      (fun i t ht => by obtain ⟨hi, rfl⟩ := hat i t ht; exact (h i hi).2.2.1)
    rw [hlen] at r
    exact r

theorem open_terms (m : Nat) (hmx : maxLen ≤ m) : ∀ (fuel : Nat) (cs : List Value) (x : DataW H × List MemPlace), DataW.trod enc Try.prog w base sp hd fuel 58 cs = some x →
    ∃ v l, cs = [v] ∧ TmS w v l ∧ l.length ≤ m ∧ Tm.limL m l := by
  intro fuel
  induction fuel using Nat.strongRecOn with
  | _ fuel ih =>
    intro cs x h
    rcases DataW.trod_slice Try.underlying58 h with ⟨rfl, _⟩ | ⟨a, len, cap, elems, rest, n, rfl, rfl, _, hb, hl, hm, hlen, hel, _, _⟩
    · exact ⟨_, [], rfl, .emp _ _, Nat.zero_le _, trivial⟩
    · have each : ∀ i, i < len → ∃ p : Tm × Value, OneTm m w a i p := fun i hi => by
        have h1 := hel i hi
        rw [List.getElem?_eq_getElem (by omega)] at h1
        obtain ⟨cs', hc, ht⟩ := Option.bind_eq_some_iff.1 h1
        rw [cellsT] at hc
        obtain ⟨_, hlen', hcell⟩ := World.cells?_some hc
        obtain ⟨c0, c1, y0, y1, n', hn, rfl, f0, f1⟩ := struct_two Try.underlying60 (by kernel_rfl) cellsT ht
        obtain ⟨s, hs, _, hsz⟩ := DataW.trod_string Try.underlying9 f0
        obtain ⟨v, l, hv, htm, hll, hlim⟩ := ih n' (by omega) _ _ f1
        injection hs with hs
        injection hv with hv
        subst hs
        subst hv
        refine ⟨(.node s l, c1), ?_, ?_, htm, Tm.lim_eq.2 ⟨Nat.le_trans hsz hmx, hll, Tm.limL_mem.1 hlim⟩⟩
        · have := hcell 0 (by omega)
          rw [add_two] at this
          exact this
        · have := hcell 1 (by omega)
          rw [add_two] at this
          exact this
      obtain ⟨f, hf⟩ := choose_lt each
      refine ⟨_, _, rfl, tms_of_row hf, by simp; exact Nat.le_trans (Nat.le_trans hl hm) hmx, Tm.limL_mem.2 fun t ht => ?_⟩
      obtain ⟨i, hi, rfl⟩ := List.mem_map.1 ht
      exact (hf i (List.mem_range.1 hi)).2.2.2

set_option maxRecDepth 100000 in
/-- The argument is a term. -/
theorem open_term (m : Nat) (hmx : maxLen ≤ m) {r : Reach} {b0 : Nat} {v : Value} {d : DataW H} {p : List MemPlace} (hv : Value.okWide Try.prog w r b0 60 v)
    (h : DataW.Trod enc Try.prog w base sp hd 60 v d p) : ∃ (t : Tm) (va : Value), v = .agg #[.string t.name, va] ∧ TmS w va t.args ∧ t.lim m := by
  obtain ⟨v0, v1, y0, y1, n, rfl, _, _, t0, t1⟩ := open_agg2 Try.underlying60 (by kernel_rfl) cellsT hv h
  obtain ⟨s, hs, _, hsz⟩ := DataW.trod_string Try.underlying9 t0
  obtain ⟨v', l, hv', htm, hll, hlim⟩ := open_terms m hmx n _ _ t1
  injection hs with hs
  injection hv' with hv'
  subst hs
  subst hv'
  exact ⟨.node s l, _, rfl, htm, Tm.lim_eq.2 ⟨Nat.le_trans hsz hmx, hll, Tm.limL_mem.1 hlim⟩⟩
end
end Go.Proofs.Ytppmiedhoimgmaa
