/- An argument that is a substitution, opened. No condition. -/
import Derived.Test.YtmlenhjhkpgcnaaOpenTm
import Derived.Test.YtmlenhjhkpgcnaaLt
import Derived.Test.YtmlenhjhkpgcnaaOpenL
namespace Go.Proofs.Ytmlenhjhkpgcnaa
open Go.RowKit Go.ChangeShapes Go.WideShapes Go.Deep Go.Joins
set_option linter.unusedVariables false

section
variable {H : Type} {enc : TypeId × Value → H} {w : World} {base : Nat} {sp : Nat → Bool} {hd : Bool}

theorem cellsLtS : Try.prog.cellsOf 37 = 1 := by kernel_rfl
theorem cellsCl : Try.prog.cellsOf 39 = 1 := by kernel_rfl

theorem lts_of_row {m : Nat} {a : Addr} {len cap : Nat} {f : Nat → Lt} (h : ∀ i, i < len → ∃ va, w.cell? (a.add (i * 3)) = some (.bool (f i).var) ∧ w.cell? (a.add (i * 3 + 1)) = some (.string (f i).tm.name) ∧ w.cell? (a.add (i * 3 + 2)) = some va ∧ TmS w va (f i).tm.args) :
    LtS w (.slice (some a) len cap) ((List.range len).map f) := by
  have hlen : ((List.range len).map f).length = len := by simp
  by_cases h0 : len = 0
  · subst h0; exact .inl ⟨_, _, rfl, rfl⟩
  · obtain ⟨b, off, spot⟩ := a
    obtain ⟨va0, hc, _⟩ := h 0 (by omega)
    have hspot : spot = none := by simpa [Addr.add] using World.cell?_spot hc
    subst hspot
    have e : ∀ j, Addr.add ⟨b, off, none⟩ j = ⟨b, off + j, none⟩ := fun j => by
      simp only [Addr.add]; split <;> simp_all
    refine .inr ⟨b, off, cap, by rw [hlen], by omega, fun i d hi => ?_⟩
    have hil := (List.getElem?_eq_some_iff.1 hi).1
    rw [hlen] at hil
    have hd : d = f i := by simp [hil] at hi; exact hi.symm
    subst hd
    obtain ⟨va, k0, k1, k2, k3⟩ := h i hil
    rw [e] at k0 k1 k2
    exact ⟨va, k0, by rw [Nat.add_assoc]; exact k1, by rw [Nat.add_assoc]; exact k2, k3⟩

theorem open_literals (m : Nat) (hmx : maxLen ≤ m) {fuel : Nat} {cs : List Value} {x : DataW H × List MemPlace} (h : DataW.trod enc Try.prog w base sp hd fuel 37 cs = some x) :
    ∃ v l, cs = [v] ∧ LtS w v l ∧ limC m l := by
  rcases DataW.trod_slice Try.underlying37 h with ⟨rfl, _⟩ | ⟨a, len, cap, elems, rest, n, rfl, rfl, _, hb, hl, hm, hlen, hel, _, _⟩
  · exact ⟨_, [], rfl, .inl ⟨_, _, rfl, rfl⟩, Nat.zero_le _, fun d hd => by cases hd⟩
  · have each : ∀ i, i < len → ∃ d : Lt, (∃ va, w.cell? (a.add (i * 3)) = some (.bool d.var) ∧ w.cell? (a.add (i * 3 + 1)) = some (.string d.tm.name) ∧ w.cell? (a.add (i * 3 + 2)) = some va ∧ TmS w va d.tm.args) ∧ d.lim m := fun i hi => by
      have h1 := hel i hi
      rw [List.getElem?_eq_getElem (by omega)] at h1
      obtain ⟨cs', hc, ht⟩ := Option.bind_eq_some_iff.1 h1
      rw [cellsLit] at hc
      obtain ⟨_, hlen', hcell⟩ := World.cells?_some hc
      obtain ⟨c0, c1, c2, rfl⟩ : ∃ c0 c1 c2, cs' = [c0, c1, c2] := by
        match cs', hlen' with
        | [c0, c1, c2], _ => exact ⟨c0, c1, c2, rfl⟩
      obtain ⟨pp, tt, e0, e1, htm, hlim⟩ := trod_literal m hmx ht
      subst e0 e1
      have k0 := hcell 0 (by simp)
      have k1 := hcell 1 (by simp)
      have k2 := hcell 2 (by simp)
      rw [add_two] at k0 k1 k2
      exact ⟨⟨pp, tt⟩, ⟨c2, k0, k1, k2, htm⟩, hlim⟩
    obtain ⟨f, hf⟩ := choose_lt each
    refine ⟨_, _, rfl, lts_of_row (m := m) (fun i hi => (hf i hi).1), by simp; exact Nat.le_trans (Nat.le_trans hl hm) hmx, fun d hd => ?_⟩
    obtain ⟨i, hi, rfl⟩ := List.mem_map.1 hd
    exact (hf i (List.mem_range.1 hi)).2

theorem array1 {α : Type} {cs : Array α} (h : cs.size = 1) : ∃ c0, cs = #[c0] := by
  obtain ⟨l⟩ := cs
  match l, h with
  | [c0], _ => exact ⟨c0, rfl⟩

set_option maxRecDepth 100000 in
/-- The argument is a substitution. -/
theorem open_clause (m : Nat) (hmx : maxLen ≤ m) {r : Reach} {b0 : Nat} {v : Value} {d : DataW H} {p : List MemPlace} (hv : Value.okWide Try.prog w r b0 39 v)
    (h : DataW.Trod enc Try.prog w base sp hd 39 v d p) : ∃ (va : Value) (l : List Lt), v = .agg #[va] ∧ LtS w va l ∧ limC m l := by
  obtain ⟨cs, rfl, hsz⟩ := okWide_struct Try.underlying39 hv
  obtain ⟨c0, rfl⟩ := array1 (hsz.trans cellsCl)
  obtain ⟨fuel, hf⟩ := h
  obtain ⟨xs, n, _, _, _, hxl, hfi⟩ := DataW.trod_struct Try.underlying39 hf
  have hx1 : xs.length = 1 := hxl
  have f0 := hfi 0 _ rfl
  rw [List.getElem?_eq_getElem (by omega)] at f0
  have g0 : DataW.trod enc Try.prog w base sp hd n 37 (([c0].drop 0).take (Try.prog.cellsOf 37)) = some _ := f0
  rw [cellsLtS] at g0
  obtain ⟨v', l, hv', hb, hl⟩ := open_literals m hmx g0
  have e : [c0] = [v'] := hv'
  injection e with e
  subst e
  exact ⟨c0, l, rfl, hb, hl⟩
end
end Go.Proofs.Ytmlenhjhkpgcnaa
