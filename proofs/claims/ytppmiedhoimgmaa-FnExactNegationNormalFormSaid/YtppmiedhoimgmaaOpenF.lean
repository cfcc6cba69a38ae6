/- An argument that is a formula, opened: what the reader has read is a formula in memory. No condition. -/
import Derived.Test.YtppmiedhoimgmaaOpenTm
import Derived.Test.YtppmiedhoimgmaaFmW
namespace Go.Proofs.Ytppmiedhoimgmaa
open Go.RowKit Go.ChangeShapes Go.WideShapes Go.Deep Go.Joins
set_option linter.unusedVariables false

section
variable {H : Type} {enc : TypeId × Value → H} {w : World} {base : Nat} {sp : Nat → Bool} {hd : Bool}

theorem cellsFm : Try.prog.cellsOf 63 = 5 := by kernel_rfl
theorem cellsFs : Try.prog.cellsOf 61 = 1 := by kernel_rfl
theorem cellsInt : Try.prog.cellsOf 3 = 1 := by kernel_rfl

theorem list_five {α : Type} {l : List α} (h : l.length = 5) : ∃ a b c d e, l = [a, b, c, d, e] := by
  match l, h with
  | [a, b, c, d, e], _ => exact ⟨a, b, c, d, e, rfl⟩
theorem array_five {α : Type} {cs : Array α} (h : cs.size = 5) : ∃ a b c d e, cs = #[a, b, c, d, e] := by
  obtain ⟨a, b, c, d, e, hl⟩ := list_five (l := cs.toList) (by simpa using h)
  exact ⟨a, b, c, d, e, by apply Array.ext'; simpa using hl⟩

/-- One element of a slice of formulas, as read. -/
def OneFm (m : Nat) (w : World) (a : Addr) (i : Nat) (p : Fm × Value × Value) : Prop :=
  (w.cell? (a.add (i * 5)) = some (.int .i64 p.1.op) ∧ w.cell? (a.add (i * 5 + 1)) = some (.string p.1.atom.name) ∧ w.cell? (a.add (i * 5 + 2)) = some p.2.1 ∧ w.cell? (a.add (i * 5 + 3)) = some (.string p.1.var) ∧ w.cell? (a.add (i * 5 + 4)) = some p.2.2) ∧
    TmS w p.2.1 p.1.atom.args ∧ FmS w p.2.2 p.1.parts ∧ p.1.lim m

/-- The five cells of a formula, as read: all but its parts. -/
theorem trod_formula (m : Nat) (hmx : maxLen ≤ m) {fuel : Nat} {cs : List Value} {x : DataW H × List MemPlace}
    (hf : DataW.trod enc Try.prog w base sp hd fuel 63 cs = some x) :
    ∃ (o : Int) (t : Tm) (s : ByteArray) (c2 c4 : Value) (y : DataW H × List MemPlace) (n : Nat), n < fuel ∧ cs = [.int .i64 o, .string t.name, c2, .string s, c4] ∧ TmS w c2 t.args ∧ t.lim m ∧ s.size ≤ m ∧ DataW.trod enc Try.prog w base sp hd n 61 [c4] = some y := by
  obtain ⟨xs, n, hn, _, hl, hxl, hfi⟩ := DataW.trod_struct Try.underlying63 hf
  rw [cellsFm] at hl
  obtain ⟨c0, c1, c2, c3, c4, rfl⟩ := list_five hl
  have hx4 : xs.length = 4 := hxl
  have f0 := hfi 0 _ rfl
  have f1 := hfi 1 _ rfl
  have f2 := hfi 2 _ rfl
  have f3 := hfi 3 _ rfl
  rw [List.getElem?_eq_getElem (by omega)] at f0 f1 f2 f3
  have g0 : DataW.trod enc Try.prog w base sp hd n 3 (([c0, c1, c2, c3, c4].drop 0).take (Try.prog.cellsOf 3)) = some _ := f0
  have g1 : DataW.trod enc Try.prog w base sp hd n 60 (([c0, c1, c2, c3, c4].drop 1).take (Try.prog.cellsOf 60)) = some _ := f1
  have g2 : DataW.trod enc Try.prog w base sp hd n 9 (([c0, c1, c2, c3, c4].drop 3).take (Try.prog.cellsOf 9)) = some _ := f2
  have g3 : DataW.trod enc Try.prog w base sp hd n 61 (([c0, c1, c2, c3, c4].drop 4).take (Try.prog.cellsOf 61)) = some _ := f3
  rw [cellsInt] at g0
  rw [cellsT] at g1
  rw [cellsN] at g2
  rw [cellsFs] at g3
  obtain ⟨o, ho, _⟩ := DataW.trod_int Try.underlying3 g0
  obtain ⟨d0, d1, y0, y1, n', hn', he, k0, k1⟩ := struct_two Try.underlying60 (by kernel_rfl) cellsT g1
  obtain ⟨s, hs, _, hsz⟩ := DataW.trod_string Try.underlying9 k0
  obtain ⟨v', l, hv', htm, hll, hlim⟩ := open_terms m hmx n' _ _ k1
  obtain ⟨s2, hs2, _, hsz2⟩ := DataW.trod_string Try.underlying9 g2
  have he' : [c1, c2] = [d0, d1] := he
  injection he' with e1 e2
  injection e2 with e2
  injection hs with hs
  injection hv' with hv'
  have ho' : [c0] = [Value.int .i64 o] := ho
  injection ho' with ho'
  have hs2' : [c3] = [Value.string s2] := hs2
  injection hs2' with hs2'
  subst e1 e2 hs hv' ho' hs2'
  exact ⟨o, .node s l, s2, _, c4, _, n, by omega, rfl, htm, Tm.lim_eq.2 ⟨Nat.le_trans hsz hmx, hll, Tm.limL_mem.1 hlim⟩, Nat.le_trans hsz2 hmx, g3⟩

theorem fms_of_row {m : Nat} {a : Addr} {len cap : Nat} {f : Nat → Fm × Value × Value} (h : ∀ i, i < len → OneFm m w a i (f i)) : FmS w (.slice (some a) len cap) ((List.range len).map fun i => (f i).1) := by
  have hlen : ((List.range len).map fun i => (f i).1).length = len := by simp
  have hat : ∀ i t, ((List.range len).map fun i => (f i).1)[i]? = some t → i < len ∧ t = (f i).1 := fun i t ht => by
    have hi := (List.getElem?_eq_some_iff.1 ht).1
    rw [hlen] at hi
    simp [hi] at ht
    exact ⟨hi, ht.symm⟩
  by_cases h0 : len = 0
  · subst h0; exact .emp _ _
  · obtain ⟨b, off, spot⟩ := a
    have hc := (h 0 (by omega)).1.1
    have hspot : spot = none := by simpa [Addr.add] using World.cell?_spot hc
    subst hspot
    have e : ∀ j, Addr.add ⟨b, off, none⟩ j = ⟨b, off + j, none⟩ := fun j => by
      simp only [Addr.add]; split <;> simp_all
    have r := FmS.row (w := w) b off cap ((List.range len).map fun i => (f i).1) (fun i => (f i).2.1) (fun i => (f i).2.2) (by omega)
      (fun i t ht => by
        obtain ⟨hi, rfl⟩ := hat i t ht
        obtain ⟨⟨h0, h1, h2, h3, h4⟩, _⟩ := h i hi
        rw [e] at h0 h1 h2 h3 h4
        exact ⟨h0, by rw [Nat.add_assoc]; exact h1, by rw [Nat.add_assoc]; exact h2, by rw [Nat.add_assoc]; exact h3, by rw [Nat.add_assoc]; exact h4⟩)
      (fun i t ht => by obtain ⟨hi, rfl⟩ := hat i t ht; exact (h i hi).2.1)
      (fun i t ht => by obtain ⟨hi, rfl⟩ := hat i t ht; exact (h i hi).2.2.1)
    rw [hlen] at r
    exact r

theorem open_formulas (m : Nat) (hmx : maxLen ≤ m) : ∀ (fuel : Nat) (cs : List Value) (x : DataW H × List MemPlace), DataW.trod enc Try.prog w base sp hd fuel 61 cs = some x →
    ∃ v l, cs = [v] ∧ FmS w v l ∧ l.length ≤ m ∧ Fm.limL m l := by
  intro fuel
  induction fuel using Nat.strongRecOn with
  | _ fuel ih =>
    intro cs x h
    rcases DataW.trod_slice Try.underlying61 h with ⟨rfl, _⟩ | ⟨a, len, cap, elems, rest, n, rfl, rfl, _, hb, hl, hm, hlen, hel, _, _⟩
    · exact ⟨_, [], rfl, .emp _ _, Nat.zero_le _, trivial⟩
    · have each : ∀ i, i < len → ∃ p : Fm × Value × Value, OneFm m w a i p := fun i hi => by
        have h1 := hel i hi
        rw [List.getElem?_eq_getElem (by omega)] at h1
        obtain ⟨cs', hc, ht⟩ := Option.bind_eq_some_iff.1 h1
        rw [cellsFm] at hc
        obtain ⟨_, hlen', hcell⟩ := World.cells?_some hc
        obtain ⟨o, t, s, c2, c4, y, n', hn, rfl, htm, htl, hsz, hpa⟩ := trod_formula m hmx ht
        obtain ⟨v, l, hv, hfm, hll, hlim⟩ := ih n' (by omega) _ _ hpa
        injection hv with hv
        subst hv
        refine ⟨(.node o t s l, c2, c4), ⟨?_, ?_, ?_, ?_, ?_⟩, htm, hfm, Fm.lim_eq.2 ⟨htl, hsz, hll, Fm.limL_mem.1 hlim⟩⟩
        · have := hcell 0 (by omega); rw [add_two] at this; exact this
        · have := hcell 1 (by omega); rw [add_two] at this; exact this
        · have := hcell 2 (by omega); rw [add_two] at this; exact this
        · have := hcell 3 (by omega); rw [add_two] at this; exact this
        · have := hcell 4 (by omega); rw [add_two] at this; exact this
      obtain ⟨f, hf⟩ := choose_lt each
      refine ⟨_, _, rfl, fms_of_row hf, by simp; exact Nat.le_trans (Nat.le_trans hl hm) hmx, Fm.limL_mem.2 fun t ht => ?_⟩
      obtain ⟨i, hi, rfl⟩ := List.mem_map.1 ht
      exact (hf i (List.mem_range.1 hi)).2.2.2

set_option maxRecDepth 100000 in
/-- The argument is a formula. -/
theorem open_formula (m : Nat) (hmx : maxLen ≤ m) {r : Reach} {b0 : Nat} {v : Value} {d : DataW H} {p : List MemPlace} (hv : Value.okWide Try.prog w r b0 63 v)
    (h : DataW.Trod enc Try.prog w base sp hd 63 v d p) : ∃ (t : Fm) (va vp : Value), v = .agg #[.int .i64 t.op, .string t.atom.name, va, .string t.var, vp] ∧ TmS w va t.atom.args ∧ FmS w vp t.parts ∧ t.lim m := by
  obtain ⟨cs, rfl, hsz⟩ := okWide_struct Try.underlying63 hv
  obtain ⟨c0, c1, c2, c3, c4, rfl⟩ := array_five (hsz.trans cellsFm)
  obtain ⟨fuel, hf⟩ := h
  obtain ⟨o, t, s, d2, d4, y, n', hn, he, htm, htl, hs, hpa⟩ := trod_formula m hmx (cs := [c0, c1, c2, c3, c4]) hf
  obtain ⟨v, l, hv, hfm, hll, hlim⟩ := open_formulas m hmx n' _ _ hpa
  injection hv with hv
  subst hv
  injection he with e0 he
  injection he with e1 he
  injection he with e2 he
  injection he with e3 he
  injection he with e4 he
  subst e0 e1 e2 e3 e4
  exact ⟨.node o t s l, _, _, rfl, htm, hfm, Fm.lim_eq.2 ⟨htl, hs, hll, Fm.limL_mem.1 hlim⟩⟩
end
end Go.Proofs.Ytppmiedhoimgmaa
