/- An argument that is a substitution, opened. No condition. -/
import Derived.Test.YtnkonhdnccolhaaOpenTm
import Derived.Test.YtnkonhdnccolhaaBd
namespace Go.Proofs.Ytnkonhdnccolhaa
open Go.RowKit Go.ChangeShapes Go.WideShapes Go.Deep Go.Joins
set_option linter.unusedVariables false

section
variable {H : Type} {enc : TypeId × Value → H} {w : World} {base : Nat} {sp : Nat → Bool} {hd : Bool}

theorem cellsBd : Try.prog.cellsOf 148 = 3 := by kernel_rfl
theorem cellsBdS : Try.prog.cellsOf 22 = 1 := by kernel_rfl
theorem cellsSub : Try.prog.cellsOf 24 = 1 := by kernel_rfl

/-- The three cells of a binding, as read. -/
theorem trod_binding (m : Nat) (hmx : maxLen ≤ m) {fuel : Nat} {c0 c1 c2 : Value} {x : DataW H × List MemPlace}
    (hf : DataW.trod enc Try.prog w base sp hd fuel 148 [c0, c1, c2] = some x) :
    ∃ (d : Bd), c0 = .string d.var ∧ c1 = .string d.tm.name ∧ TmS w c2 d.tm.args ∧ d.lim m := by
  obtain ⟨xs, n, _, _, _, hxl, hfi⟩ := DataW.trod_struct Try.underlying148 hf
  have hx2 : xs.length = 2 := hxl
  have f0 := hfi 0 _ rfl
  have f1 := hfi 1 _ rfl
  rw [List.getElem?_eq_getElem (by omega)] at f0 f1
  have g0 : DataW.trod enc Try.prog w base sp hd n 9 (([c0, c1, c2].drop 0).take (Try.prog.cellsOf 9)) = some _ := f0
  have g1 : DataW.trod enc Try.prog w base sp hd n 27 (([c0, c1, c2].drop 1).take (Try.prog.cellsOf 27)) = some _ := f1
  rw [cellsN] at g0
  rw [cellsT] at g1
  obtain ⟨p, hp, _, hpz⟩ := DataW.trod_string Try.underlying9 g0
  obtain ⟨d0, d1, y0, y1, n', hn, he, k0, k1⟩ := struct_two Try.underlying27 (by kernel_rfl) cellsT g1
  obtain ⟨s, hs, _, hsz⟩ := DataW.trod_string Try.underlying9 k0
  obtain ⟨v', l, hv', htm, hll, hlim⟩ := open_terms m hmx n' _ _ k1
  have he' : [c1, c2] = [d0, d1] := he
  injection he' with e1 e2
  injection e2 with e2
  injection hs with hs
  injection hv' with hv'
  have hp' : [c0] = [Value.string p] := hp
  injection hp' with hp'
  subst e1 e2 hs hv'
  exact ⟨⟨p, .node s l⟩, hp', rfl, htm, Nat.le_trans hpz hmx, Tm.lim_eq.2 ⟨Nat.le_trans hsz hmx, hll, Tm.limL_mem.1 hlim⟩⟩

theorem bds_of_row {m : Nat} {a : Addr} {len cap : Nat} {f : Nat → Bd} (h : ∀ i, i < len → ∃ va, w.cell? (a.add (i * 3)) = some (.string (f i).var) ∧ w.cell? (a.add (i * 3 + 1)) = some (.string (f i).tm.name) ∧ w.cell? (a.add (i * 3 + 2)) = some va ∧ TmS w va (f i).tm.args) :
    BdS w (.slice (some a) len cap) ((List.range len).map f) := by
  have hlen : ((List.range len).map f).length = len := by simp
  by_cases h0 : len = 0
  · subst h0; exact .inl ⟨_, _, rfl, rfl⟩
  · obtain ⟨b, off, spot⟩ := a
    obtain ⟨va0, hc, _⟩ := h 0 (by omega)
    have hspot : spot = none := by simpa [Addr.add] using World.cell?_spot hc
    subst hspot
    have e : ∀ j, Addr.add ⟨b, off, none⟩ j = ⟨b, off + j, none⟩ := fun j => by
      simp only [Addr.add]; split <;> simp_all
    refine .inr ⟨b, off, cap, by rw [hlen], by omega, fun i d hi => ?_⟩
    have hil := (List.getElem?_eq_some_iff.1 hi).1
    rw [hlen] at hil
    have hd : d = f i := by simp [hil] at hi; exact hi.symm
    subst hd
    obtain ⟨va, k0, k1, k2, k3⟩ := h i hil
    rw [e] at k0 k1 k2
    exact ⟨va, k0, by rw [Nat.add_assoc]; exact k1, by rw [Nat.add_assoc]; exact k2, k3⟩

theorem open_bindings (m : Nat) (hmx : maxLen ≤ m) {fuel : Nat} {cs : List Value} {x : DataW H × List MemPlace} (h : DataW.trod enc Try.prog w base sp hd fuel 22 cs = some x) :
    ∃ v l, cs = [v] ∧ BdS w v l ∧ limB m l := by
  rcases DataW.trod_slice Try.underlying22 h with ⟨rfl, _⟩ | ⟨a, len, cap, elems, rest, n, rfl, rfl, _, hb, hl, hm, hlen, hel, _, _⟩
  · exact ⟨_, [], rfl, .inl ⟨_, _, rfl, rfl⟩, Nat.zero_le _, fun d hd => by cases hd⟩
  · have each : ∀ i, i < len → ∃ d : Bd, (∃ va, w.cell? (a.add (i * 3)) = some (.string d.var) ∧ w.cell? (a.add (i * 3 + 1)) = some (.string d.tm.name) ∧ w.cell? (a.add (i * 3 + 2)) = some va ∧ TmS w va d.tm.args) ∧ d.lim m := fun i hi => by
      have h1 := hel i hi
      rw [List.getElem?_eq_getElem (by omega)] at h1
      obtain ⟨cs', hc, ht⟩ := Option.bind_eq_some_iff.1 h1
      rw [cellsBd] at hc
      obtain ⟨_, hlen', hcell⟩ := World.cells?_some hc
      obtain ⟨c0, c1, c2, rfl⟩ : ∃ c0 c1 c2, cs' = [c0, c1, c2] := by
        match cs', hlen' with
        | [c0, c1, c2], _ => exact ⟨c0, c1, c2, rfl⟩
      obtain ⟨d, e0, e1, htm, hlim⟩ := trod_binding m hmx ht
      subst e0 e1
      have k0 := hcell 0 (by simp)
      have k1 := hcell 1 (by simp)
      have k2 := hcell 2 (by simp)
      rw [add_two] at k0 k1 k2
      exact ⟨d, ⟨c2, k0, k1, k2, htm⟩, hlim⟩
    obtain ⟨f, hf⟩ := choose_lt each
    refine ⟨_, _, rfl, bds_of_row (m := m) (fun i hi => (hf i hi).1), by simp; exact Nat.le_trans (Nat.le_trans hl hm) hmx, fun d hd => ?_⟩
    obtain ⟨i, hi, rfl⟩ := List.mem_map.1 hd
    exact (hf i (List.mem_range.1 hi)).2

theorem array1 {α : Type} {cs : Array α} (h : cs.size = 1) : ∃ c0, cs = #[c0] := by
  obtain ⟨l⟩ := cs
  match l, h with
  | [c0], _ => exact ⟨c0, rfl⟩

set_option maxRecDepth 100000 in
/-- The argument is a substitution. -/
theorem open_sub (m : Nat) (hmx : maxLen ≤ m) {r : Reach} {b0 : Nat} {v : Value} {d : DataW H} {p : List MemPlace} (hv : Value.okWide Try.prog w r b0 24 v)
    (h : DataW.Trod enc Try.prog w base sp hd 24 v d p) : ∃ (va : Value) (l : List Bd), v = .agg #[va] ∧ BdS w va l ∧ limB m l := by
  obtain ⟨cs, rfl, hsz⟩ := okWide_struct Try.underlying24 hv
  obtain ⟨c0, rfl⟩ := array1 (hsz.trans cellsSub)
  obtain ⟨fuel, hf⟩ := h
  obtain ⟨xs, n, _, _, _, hxl, hfi⟩ := DataW.trod_struct Try.underlying24 hf
  have hx1 : xs.length = 1 := hxl
  have f0 := hfi 0 _ rfl
  rw [List.getElem?_eq_getElem (by omega)] at f0
  have g0 : DataW.trod enc Try.prog w base sp hd n 22 (([c0].drop 0).take (Try.prog.cellsOf 22)) = some _ := f0
  rw [cellsBdS] at g0
  obtain ⟨v', l, hv', hb, hl⟩ := open_bindings m hmx g0
  have e : [c0] = [v'] := hv'
  injection e with e
  subst e
  exact ⟨c0, l, rfl, hb, hl⟩
end
end Go.Proofs.Ytnkonhdnccolhaa
