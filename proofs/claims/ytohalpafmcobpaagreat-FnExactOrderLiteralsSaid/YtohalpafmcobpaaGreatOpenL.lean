/- An argument that is a literal, opened. No condition. -/
import Derived.Test.YtohalpafmcobpaaGreatOpenTm
namespace Go.Proofs.YtohalpafmcobpaaGreat
open Go.RowKit Go.ChangeShapes Go.WideShapes Go.Deep Go.Joins
set_option linter.unusedVariables false

section
variable {H : Type} {enc : TypeId × Value → H} {w : World} {base : Nat} {sp : Nat → Bool} {hd : Bool}

theorem cellsLit : Tryz.prog.cellsOf 30 = 3 := by kernel_rfl
theorem cellsBool : Tryz.prog.cellsOf 4 = 1 := by kernel_rfl

/-- The three cells of a literal, as read. -/
theorem trod_literal (m : Nat) (hmx : maxLen ≤ m) {fuel : Nat} {c0 c1 c2 : Value} {x : DataW H × List MemPlace}
    (hf : DataW.trod enc Tryz.prog w base sp hd fuel 30 [c0, c1, c2] = some x) :
    ∃ (p : Bool) (t : Tm), c0 = .bool p ∧ c1 = .string t.name ∧ TmS w c2 t.args ∧ t.lim m := by
  obtain ⟨xs, n, _, _, _, hxl, hfi⟩ := DataW.trod_struct Tryz.underlying30 hf
  have hx2 : xs.length = 2 := hxl
  have f0 := hfi 0 _ rfl
  have f1 := hfi 1 _ rfl
  rw [List.getElem?_eq_getElem (by omega)] at f0 f1
  have g0 : DataW.trod enc Tryz.prog w base sp hd n 4 (([c0, c1, c2].drop 0).take (Tryz.prog.cellsOf 4)) = some _ := f0
  have g1 : DataW.trod enc Tryz.prog w base sp hd n 28 (([c0, c1, c2].drop 1).take (Tryz.prog.cellsOf 28)) = some _ := f1
  rw [cellsBool] at g0
  rw [cellsT] at g1
  obtain ⟨p, hp, _⟩ := DataW.trod_bool Tryz.underlying4 g0
  obtain ⟨d0, d1, y0, y1, n', hn, he, k0, k1⟩ := struct_two Tryz.underlying28 (by kernel_rfl) cellsT g1
  obtain ⟨s, hs, _, hsz⟩ := DataW.trod_string Tryz.underlying9 k0
  obtain ⟨v', l, hv', htm, hll, hlim⟩ := open_terms m hmx n' _ _ k1
  have he' : [c1, c2] = [d0, d1] := he
  injection he' with e1 e2
  injection e2 with e2
  injection hs with hs
  injection hv' with hv'
  have hp' : [c0] = [Value.bool p] := hp
  injection hp' with hp'
  subst e1 e2 hs hv'
  exact ⟨p, .node s l, hp', rfl, htm, Tm.lim_eq.2 ⟨Nat.le_trans hsz hmx, hll, Tm.limL_mem.1 hlim⟩⟩

set_option maxRecDepth 100000 in
/-- The argument is a literal. -/
theorem open_literal (m : Nat) (hmx : maxLen ≤ m) {r : Reach} {b0 : Nat} {v : Value} {d : DataW H} {p : List MemPlace} (hv : Value.okWide Tryz.prog w r b0 30 v)
    (h : DataW.Trod enc Tryz.prog w base sp hd 30 v d p) : ∃ (q : Bool) (t : Tm) (va : Value), v = .agg #[.bool q, .string t.name, va] ∧ TmS w va t.args ∧ t.lim m := by
  obtain ⟨cs, rfl, hsz⟩ := okWide_struct Tryz.underlying30 hv
  obtain ⟨c0, c1, c2, rfl⟩ := array3 (hsz.trans cellsLit)
  obtain ⟨fuel, hf⟩ := h
  obtain ⟨q, t, rfl, rfl, htm, hl⟩ := trod_literal m hmx (c0 := c0) (c1 := c1) (c2 := c2) hf
  exact ⟨q, t, c2, rfl, htm, hl⟩
end
end Go.Proofs.YtohalpafmcobpaaGreat
