/- Several texts in one: each says what it proves. No condition but theirs. -/
import Derived.Test.YtdpeanpmjhpblaaGreatOpenTm
import Derived.Test.YtdpeanpmjhpblaaGreatLtG
/- An argument that is a literal, opened. No condition. -/
namespace Go.Proofs.YtdpeanpmjhpblaaGreat
open Go.RowKit Go.ChangeShapes Go.WideShapes Go.Deep Go.Joins
set_option linter.unusedVariables false

section
variable {H : Type} {enc : TypeId × Value → H} {w : World} {base : Nat} {sp : Nat → Bool} {hd : Bool}

theorem cellsLit : Tryz.prog.cellsOf 100 = 3 := by kernel_rfl
theorem cellsBool : Tryz.prog.cellsOf 4 = 1 := by kernel_rfl

/-- The three cells of a literal, as read. -/
theorem trod_literal (m : Nat) (hmx : maxLen ≤ m) {fuel : Nat} {c0 c1 c2 : Value} {x : DataW H × List MemPlace}
    (hf : DataW.trod enc Tryz.prog w base sp hd fuel 100 [c0, c1, c2] = some x) :
    ∃ (p : Bool) (t : Tm), c0 = .bool p ∧ c1 = .string t.name ∧ TmS w c2 t.args ∧ t.lim m := by
  obtain ⟨xs, n, _, _, _, hxl, hfi⟩ := DataW.trod_struct Tryz.underlying100 hf
  have hx2 : xs.length = 2 := hxl
  have f0 := hfi 0 _ rfl
  have f1 := hfi 1 _ rfl
  rw [List.getElem?_eq_getElem (by omega)] at f0 f1
  have g0 : DataW.trod enc Tryz.prog w base sp hd n 4 (([c0, c1, c2].drop 0).take (Tryz.prog.cellsOf 4)) = some _ := f0
  have g1 : DataW.trod enc Tryz.prog w base sp hd n 24 (([c0, c1, c2].drop 1).take (Tryz.prog.cellsOf 24)) = some _ := f1
  rw [cellsBool] at g0
  rw [cellsT] at g1
  obtain ⟨p, hp, _⟩ := DataW.trod_bool Tryz.underlying4 g0
  obtain ⟨d0, d1, y0, y1, n', hn, he, k0, k1⟩ := struct_two Tryz.underlying24 (by kernel_rfl) cellsT g1
  obtain ⟨s, hs, _, hsz⟩ := DataW.trod_string Tryz.underlying9 k0
  obtain ⟨v', l, hv', htm, hll, hlim⟩ := open_terms m hmx n' _ _ k1
  have he' : [c1, c2] = [d0, d1] := he
  injection he' with e1 e2
  injection e2 with e2
  injection hs with hs
  injection hv' with hv'
  have hp' : [c0] = [Value.bool p] := hp
  injection hp' with hp'
  subst e1 e2 hs hv'
  exact ⟨p, .node s l, hp', rfl, htm, Tm.lim_eq.2 ⟨Nat.le_trans hsz hmx, hll, Tm.limL_mem.1 hlim⟩⟩

set_option maxRecDepth 100000 in
/-- The argument is a literal. -/
theorem open_literal (m : Nat) (hmx : maxLen ≤ m) {r : Reach} {b0 : Nat} {v : Value} {d : DataW H} {p : List MemPlace} (hv : Value.okWide Tryz.prog w r b0 100 v)
    (h : DataW.Trod enc Tryz.prog w base sp hd 100 v d p) : ∃ (q : Bool) (t : Tm) (va : Value), v = .agg #[.bool q, .string t.name, va] ∧ TmS w va t.args ∧ t.lim m := by
  obtain ⟨cs, rfl, hsz⟩ := okWide_struct Tryz.underlying100 hv
  obtain ⟨c0, c1, c2, rfl⟩ := array3 (hsz.trans cellsLit)
  obtain ⟨fuel, hf⟩ := h
  obtain ⟨q, t, rfl, rfl, htm, hl⟩ := trod_literal m hmx (c0 := c0) (c1 := c1) (c2 := c2) hf
  exact ⟨q, t, c2, rfl, htm, hl⟩
end
end Go.Proofs.YtdpeanpmjhpblaaGreat

/- An argument that is a substitution, opened. No condition. -/
namespace Go.Proofs.YtdpeanpmjhpblaaGreat
open Go.RowKit Go.ChangeShapes Go.WideShapes Go.Deep Go.Joins
set_option linter.unusedVariables false

section
variable {H : Type} {enc : TypeId × Value → H} {w : World} {base : Nat} {sp : Nat → Bool} {hd : Bool}

theorem cellsLtS : Tryz.prog.cellsOf 41 = 1 := by kernel_rfl
theorem cellsCl : Tryz.prog.cellsOf 43 = 1 := by kernel_rfl

theorem lts_of_row {m : Nat} {a : Addr} {len cap : Nat} {f : Nat → Lt} (h : ∀ i, i < len → ∃ va, w.cell? (a.add (i * 3)) = some (.bool (f i).var) ∧ w.cell? (a.add (i * 3 + 1)) = some (.string (f i).tm.name) ∧ w.cell? (a.add (i * 3 + 2)) = some va ∧ TmS w va (f i).tm.args) :
    LtS w (.slice (some a) len cap) ((List.range len).map f) := by
  have hlen : ((List.range len).map f).length = len := by simp
  by_cases h0 : len = 0
  · subst h0; exact .inl ⟨_, _, rfl, rfl⟩
  · obtain ⟨b, off, spot⟩ := a
    obtain ⟨va0, hc, _⟩ := h 0 (by omega)
    have hspot : spot = none := by simpa [Addr.add] using World.cell?_spot hc
    subst hspot
    have e : ∀ j, Addr.add ⟨b, off, none⟩ j = ⟨b, off + j, none⟩ := fun j => by
      simp only [Addr.add]; split <;> simp_all
    refine .inr ⟨b, off, cap, by rw [hlen], by omega, fun i d hi => ?_⟩
    have hil := (List.getElem?_eq_some_iff.1 hi).1
    rw [hlen] at hil
    have hd : d = f i := by simp [hil] at hi; exact hi.symm
    subst hd
    obtain ⟨va, k0, k1, k2, k3⟩ := h i hil
    rw [e] at k0 k1 k2
    exact ⟨va, k0, by rw [Nat.add_assoc]; exact k1, by rw [Nat.add_assoc]; exact k2, k3⟩

theorem open_literals (m : Nat) (hmx : maxLen ≤ m) {fuel : Nat} {cs : List Value} {x : DataW H × List MemPlace} (h : DataW.trod enc Tryz.prog w base sp hd fuel 41 cs = some x) :
    ∃ v l, cs = [v] ∧ LtS w v l ∧ limC m l := by
  rcases DataW.trod_slice Tryz.underlying41 h with ⟨rfl, _⟩ | ⟨a, len, cap, elems, rest, n, rfl, rfl, _, hb, hl, hm, hlen, hel, _, _⟩
  · exact ⟨_, [], rfl, .inl ⟨_, _, rfl, rfl⟩, Nat.zero_le _, fun d hd => by cases hd⟩
  · have each : ∀ i, i < len → ∃ d : Lt, (∃ va, w.cell? (a.add (i * 3)) = some (.bool d.var) ∧ w.cell? (a.add (i * 3 + 1)) = some (.string d.tm.name) ∧ w.cell? (a.add (i * 3 + 2)) = some va ∧ TmS w va d.tm.args) ∧ d.lim m := fun i hi => by
      have h1 := hel i hi
      rw [List.getElem?_eq_getElem (by omega)] at h1
      obtain ⟨cs', hc, ht⟩ := Option.bind_eq_some_iff.1 h1
      rw [cellsLit] at hc
      obtain ⟨_, hlen', hcell⟩ := World.cells?_some hc
      obtain ⟨c0, c1, c2, rfl⟩ : ∃ c0 c1 c2, cs' = [c0, c1, c2] := by
        match cs', hlen' with
        | [c0, c1, c2], _ => exact ⟨c0, c1, c2, rfl⟩
      obtain ⟨pp, tt, e0, e1, htm, hlim⟩ := trod_literal m hmx ht
      subst e0 e1
      have k0 := hcell 0 (by simp)
      have k1 := hcell 1 (by simp)
      have k2 := hcell 2 (by simp)
      rw [add_two] at k0 k1 k2
      exact ⟨⟨pp, tt⟩, ⟨c2, k0, k1, k2, htm⟩, hlim⟩
    obtain ⟨f, hf⟩ := choose_lt each
    refine ⟨_, _, rfl, lts_of_row (m := m) (fun i hi => (hf i hi).1), by simp; exact Nat.le_trans (Nat.le_trans hl hm) hmx, fun d hd => ?_⟩
    obtain ⟨i, hi, rfl⟩ := List.mem_map.1 hd
    exact (hf i (List.mem_range.1 hi)).2

theorem array1c {α : Type} {cs : Array α} (h : cs.size = 1) : ∃ c0, cs = #[c0] := by
  obtain ⟨l⟩ := cs
  match l, h with
  | [c0], _ => exact ⟨c0, rfl⟩

set_option maxRecDepth 100000 in
/-- The argument is a substitution. -/
theorem open_clause (m : Nat) (hmx : maxLen ≤ m) {r : Reach} {b0 : Nat} {v : Value} {d : DataW H} {p : List MemPlace} (hv : Value.okWide Tryz.prog w r b0 43 v)
    (h : DataW.Trod enc Tryz.prog w base sp hd 43 v d p) : ∃ (va : Value) (l : List Lt), v = .agg #[va] ∧ LtS w va l ∧ limC m l := by
  obtain ⟨cs, rfl, hsz⟩ := okWide_struct Tryz.underlying43 hv
  obtain ⟨c0, rfl⟩ := array1c (hsz.trans cellsCl)
  obtain ⟨fuel, hf⟩ := h
  obtain ⟨xs, n, _, _, _, hxl, hfi⟩ := DataW.trod_struct Tryz.underlying43 hf
  have hx1 : xs.length = 1 := hxl
  have f0 := hfi 0 _ rfl
  rw [List.getElem?_eq_getElem (by omega)] at f0
  have g0 : DataW.trod enc Tryz.prog w base sp hd n 41 (([c0].drop 0).take (Tryz.prog.cellsOf 41)) = some _ := f0
  rw [cellsLtS] at g0
  obtain ⟨v', l, hv', hb, hl⟩ := open_literals m hmx g0
  have e : [c0] = [v'] := hv'
  injection e with e
  subst e
  exact ⟨c0, l, rfl, hb, hl⟩
end
end Go.Proofs.YtdpeanpmjhpblaaGreat

/- The laws' size helper over substitutions: contracts, for every list of bindings whose names and lists are no longer than any string and slice are. -/
namespace Go.Proofs.YtdpeanpmjhpblaaGreat
open Go.RowKit
set_option linter.unusedVariables false

set_option maxHeartbeats 400000 in
theorem szLiteralS_any (l : List Lt) (w : World) (v : Value) (left : Int) (hv : LtS w v l) (hlim : limC 9223372036854775807 l) (h0 : 0 ≤ left) (h1 : left ≤ 1048576) :
    Calls Tryz.prog 34 #[v, .int .i64 left] w fun e w' => e = .returned (.int .i64 (szR left (wtC l))) ∧ Below w.heap.size w w' := by
  have hn := hlim.1
  have HL := Lib.hid hlim.2
  have HW : Hid (wtC l = l.length + sumC Lt.wt l) := Lib.hid rfl
  clear hlim
  rcases hv with ⟨a, c, rfl, rfl⟩ | ⟨b, off, c, rfl, hp, hat⟩
  · have HE : Hid (szR left (wtC []) = left) := Lib.hid (by rw [szR_ok] <;> simp [wtC, sumC]; omega)
    go_enter Tryz.func34, Tryz.ntmps34
    go_wp2
    refine wp_loop_rounds 1 ?_
    rw [rounds_succ]
    go_wp2
    go_ret
    exact ⟨ret_int HE.out.symm, Below.refl _ _⟩
  · have HA := Lib.hid hat
    clear hat
    by_cases hneg : left - l.length < 0
    · have HE : Hid (szR left (wtC l) = -1) := Lib.hid (szR_low (by have := HW.out; omega))
      go_enter Tryz.func34, Tryz.ntmps34
      go_wp2
      go_ret
      exact ⟨ret_int (by have := HE.out; omega), Below.refl _ _⟩
    · go_enter Tryz.func34, Tryz.ntmps34
      go_wp2
      go_loopw [1, 5] (fun lv i wr => ∃ (k : Nat) (r : Int), k ≤ l.length ∧ i = .int .i64 k ∧ 0 ≤ r ∧ r ≤ 1048576 ∧ r + sumC Lt.wt (l.take k) = left - l.length ∧ lv = .int .i64 r ∧ Below w.heap.size w wr) (fun _ i _ => l.length - (intOf i).toNat)
      case atStart => exact ⟨0, _, Nat.zero_le _, rfl, by omega, by omega, by simp [sumC], rfl, Below.refl _ _⟩
      case round =>
        obtain ⟨k, r, hk, rfl, hr0, hr1, hsum, rfl, hb⟩ := hrel
        have HB := Lib.hid hb
        have HS := Lib.hid hsum
        clear hb hsum
        by_cases hlt : k < l.length
        · obtain ⟨t, ht⟩ : ∃ t, l[k]? = some t := ⟨_, List.getElem?_eq_getElem hlt⟩
          obtain ⟨va, hc0, hc1, hc2, hva⟩ := HA.out k t ht
          have hc0' := carry_cell hc0 (by exact HB.out)
          have hc1' := carry_cell hc1 (by exact HB.out)
          have hc2' := carry_cell hc2 (by exact HB.out)
          have HV := Lib.hid (hva.kept HB.out)
          have HM := Lib.hid (sumC_next (f := Lt.wt) ht)
          have HM2 := Lib.hid (sumC_take Lt.wt l (k + 1))
          have HT := Lib.hid (mem_of_at ht)
          clear ht hc0 hc1 hc2 hva
          go_wp2_with fail
          refine (szLiteral_any t.var t.tm _ va r HV.out (HL.out t HT.out) hr0 hr1).mono ?_
          rintro e w' ⟨rfl, hb⟩
          have HB2 := Lib.hid (carry_below HB.out (Nat.le_refl _) hb)
          clear hb
          rw [show Tm.wt t.tm = Lt.wt t from rfl]
          rcases szR_cases r t.wt with ⟨c1, c2⟩ | ⟨c1, c2⟩
          · rw [c2]
            have HE : Hid (szR left (wtC l) = -1) := Lib.hid (szR_low (by have := HM.out; have := HM2.out; have := HS.out; have := HW.out; omega))
            clear c2
            go_wp2
            go_ret
            exact ⟨ret_int (by have := HE.out; omega), HB2.out⟩
          · rw [c2]
            clear c2
            go_wp2
            go_roundw
            case rel => exact ⟨k + 1, _, by omega, by go_num, by omega, by omega, by have := HM.out; have := HS.out; omega, rfl, HB2.out⟩
            case measure => simp [intOf]; omega
        · have HE : Hid (szR left (wtC l) = r) := Lib.hid (by
            have e := HS.out
            rw [sumC_all (by omega)] at e
            rw [szR_ok (by have := HW.out; omega)]; have := HW.out; omega)
          go_wp2
          go_ret
          exact ⟨ret_int (by have := HE.out; omega), HB.out⟩

set_option maxHeartbeats 400000 in
theorem szClause_any (l : List Lt) (w : World) (v : Value) (left : Int) (hv : LtS w v l) (hlim : limC 9223372036854775807 l) (h0 : 0 ≤ left) (h1 : left ≤ 1048576) :
    Calls Tryz.prog 12 #[.agg #[v], .int .i64 left] w fun e w' => e = .returned (.int .i64 (szR left (wtC l))) ∧ Below w.heap.size w w' := by
  obtain ⟨pa, ca, rfl⟩ := hv.is_slice
  have HV := Lib.hid hv
  have HL := Lib.hid hlim
  have HB := Lib.hid ((Below.refl w.heap.size w).alloc (Nat.le_refl _) (.cells #[.slice pa l.length ca] 43))
  clear hv hlim
  go_enter Tryz.func12, Tryz.ntmps12
  go_wp2_with fail
  refine (szLiteralS_any l _ _ left (HV.out.kept HB.out) HL.out h0 h1).mono ?_
  rintro e w1 ⟨rfl, hb⟩
  have HB1 := Lib.hid (carry_below HB.out (Nat.le_refl _) hb)
  clear hb
  rcases szR_cases left (wtC l) with ⟨c1, c2⟩ | ⟨c1, c2⟩
  · have HC := Lib.hid c2
    rw [c2]
    clear c2
    go_wp2
    go_ret
    exact ⟨ret_int HC.out.symm, HB1.out⟩
  · have HC := Lib.hid c2
    rw [c2]
    clear c2
    have hn : ¬ left - (wtC l : Int) < 0 := by omega
    go_wp2
    go_ret
    exact ⟨ret_int HC.out.symm, HB1.out⟩

end Go.Proofs.YtdpeanpmjhpblaaGreat

/- The laws' copying helper over substitutions: contracts, for bindings of at most 1048576 names' bytes, bindings and arguments. -/
namespace Go.Proofs.YtdpeanpmjhpblaaGreat
open Go.RowKit
set_option linter.unusedVariables false

def ToCEnd (l : List Lt) (w : World) (e : Ending) (w' : World) : Prop :=
  ∃ v, e = .returned v ∧ LtO w' (Fresh w w') v l ∧ Below w.heap.size w w'

def ToRelC (w wr : World) (l : List Lt) (k : Nat) : Prop :=
  ∃ xs f Ss, wr.ownsRow w.heap.size 73 3 (.slice (some ⟨w.heap.size, 0, none⟩) l.length l.length) l.length xs ∧ MadeC w wr xs l k f Ss ∧ (∀ i, i < k → ¬ Ss i w.heap.size) ∧ Below w.heap.size w wr

theorem ToRelC.next {w wr w' : World} {l : List Lt} {k : Nat} {d : Lt} {v' : Value} {xs : List Value} {f : Nat → Value} {Ss : Nat → Nat → Prop}
    (hown : wr.ownsRow w.heap.size 73 3 (.slice (some ⟨w.heap.size, 0, none⟩) l.length l.length) l.length xs) (hm : MadeC w wr xs l k f Ss) (hne : ∀ i, i < k → ¬ Ss i w.heap.size) (hb : Below w.heap.size w wr)
    (ht : l[k]? = some d) (ho : TmO w' (Fresh wr w') v' d.tm.args) (hb' : Below wr.heap.size wr w') (hg : w.heap.size < wr.heap.size) :
    ToRelC w (((w'.setCell ⟨w.heap.size, k * 3, none⟩ (.bool d.var)).setCell ⟨w.heap.size, k * 3 + 1, none⟩ (.string d.tm.name)).setCell ⟨w.heap.size, k * 3 + 2, none⟩ v') l (k + 1) := by
  have hlt : k < l.length := (List.getElem?_eq_some_iff.1 ht).1
  have h0 := hown.kept (grown_of_below hb' none) (.inr (by simp [Value.ownBlock]))
  have h1 := (h0.stored (k * 3) (.bool d.var)).1
  have h2 := (h1.stored (k * 3 + 1) (.string d.tm.name)).1
  have h3 := (h2.stored (k * 3 + 2) v').1
  have hl := hown.1
  refine ⟨_, _, _, h3, hm.next (va := v') (S := Fresh wr w') ht (fun i hi => ⟨?_, ?_, ?_⟩) ?_ ?_ ?_ ?_ (fun b hb => ⟨hb.1, by simp only [size_setCell]; exact hb.2⟩) (by simp only [size_setCell]; exact hb'.size) hb.size (fun i b hi hs => ?_), fun i hi => ?_, ?_⟩
  · rw [List.getElem?_set_ne (by omega), List.getElem?_set_ne (by omega), List.getElem?_set_ne (by omega)]
  · rw [List.getElem?_set_ne (by omega), List.getElem?_set_ne (by omega), List.getElem?_set_ne (by omega)]
  · rw [List.getElem?_set_ne (by omega), List.getElem?_set_ne (by omega), List.getElem?_set_ne (by omega)]
  · rw [List.getElem?_set_ne (by omega), List.getElem?_set_ne (by omega), List.getElem?_set_self (by omega)]
  · rw [List.getElem?_set_ne (by omega), List.getElem?_set_self (by rw [List.length_set]; omega)]
  · rw [List.getElem?_set_self (by rw [List.length_set, List.length_set]; omega)]
  · exact ((ho.setCell (fun h => by have := h.1; simp at this; omega) _).setCell (fun h => by have := h.1; simp at this; omega) _).setCell (fun h => by have := h.1; simp at this; omega) _
  · have e : b ≠ w.heap.size := fun e => hne i hi (e ▸ hs)
    rw [Below.heap_setCell _ _ _ _ (by simpa using e), Below.heap_setCell _ _ _ _ (by simpa using e), Below.heap_setCell _ _ _ _ (by simpa using e)]
    exact hb'.block b (hm.sub i b hi hs).2
  · intro h
    by_cases e : i = k
    · simp only [if_pos e] at h; have := h.1; omega
    · simp only [if_neg e] at h; exact hne i (by omega) h
  · exact (((carry_below hb (Nat.le_refl _) hb').setCell (by simp) _).setCell (by simp) _).setCell (by simp) _

set_option maxRecDepth 100000 in
set_option maxHeartbeats 1000000 in
theorem toLiteralS_any (l : List Lt) (w : World) (v : Value) (hv : LtS w v l) (hw : wtC l ≤ 1048576) :
    Calls Tryz.prog 37 #[v] w (ToCEnd l w) := by
  obtain ⟨i0, hi, hz0, hz1, hz2⟩ := info_parts infoLt
  have hlen := wtC_len l
  rcases hv with ⟨a, c, rfl, rfl⟩ | ⟨b, off, c, rfl, hp, hat⟩
  · go_enter Tryz.func37, Tryz.ntmps37
    go_wp2_with (at_make; refine wpList_make_full _ rfl _ _ 46 rfl w.heap.size 73 i0 (.agg #[.bool false, .string ByteArray.empty, .slice none 0 0]) 3 Tryz.underlying46 hi hz0 hz1 .i64 .i64 _ _ 0 rfl rfl rfl rfl (by omega) (by decide) (Nat.le_refl _) ?_; intro w1 hown1 hg1)
    have HG : Hid (w.grownBy w1 none) := Lib.hid hg1
    clear hg1 hown1
    refine wp_loop_rounds 1 ?_
    rw [rounds_succ]
    go_wp2
    go_ret
    exact ⟨_, rfl, .inl ⟨_, _, rfl, rfl⟩, (Below.refl _ _).grown HG.out (Nat.le_refl _) (by simp)⟩
  · have HA := Lib.hid hat
    have HW := Lib.hid hw
    have hl6 : l.length ≤ 1048576 := Nat.le_trans hlen hw
    clear hat hw
    go_enter Tryz.func37, Tryz.ntmps37
    go_wp2_with (at_make; refine wpList_make_full _ rfl _ _ 46 rfl w.heap.size 73 i0 (.agg #[.bool false, .string ByteArray.empty, .slice none 0 0]) 3 Tryz.underlying46 hi hz0 hz1 .i64 .i64 _ _ l.length rfl rfl rfl rfl (by rw [hz2]; have := HW.out; omega) (by unfold maxLen; have := HW.out; omega) (Nat.le_refl _) ?_; intro w1 hown1 hg1)
    have HG : Hid (w.grownBy w1 none) := Lib.hid hg1
    have HO1 : Hid (w1.ownsRow w.heap.size 73 3 (.slice (some ⟨w.heap.size, 0, none⟩) l.length l.length) l.length _) := Lib.hid hown1
    clear hg1 hown1
    go_loopw [4] (fun i wr => ∃ k : Nat, k ≤ l.length ∧ i = .int .i64 k ∧ ToRelC w wr l k) (fun i _ => l.length - (intOf i).toNat)
    case atStart => exact ⟨0, Nat.zero_le _, rfl, _, _, _, HO1.out, MadeC.start _ _ _ _, fun i hi => absurd hi (Nat.not_lt_zero _), (Below.refl _ _).grown HG.out (Nat.le_refl _) (by simp)⟩
    case round =>
      obtain ⟨k, hk, rfl, hrel⟩ := hrel
      have HR : Hid (ToRelC w wr l k) := Lib.hid hrel
      clear hrel
      obtain ⟨xs, f, Ss, hown, hm, hne, hbel⟩ := HR.out
      have HB := Lib.hid hbel
      have HM := Lib.hid hm
      have HO := Lib.hid hown
      have HN := Lib.hid hne
      clear hbel hm hown hne
      by_cases hlt : k < l.length
      · obtain ⟨t, ht⟩ : ∃ t, l[k]? = some t := ⟨_, List.getElem?_eq_getElem hlt⟩
        obtain ⟨va, hc0, hc1, hc2, hva⟩ := HA.out k t ht
        have hc0' := carry_cell hc0 (by exact HB.out)
        have hc1' := carry_cell hc1 (by exact HB.out)
        have hc2' := carry_cell hc2 (by exact HB.out)
        have HV := Lib.hid (hva.kept HB.out)
        have HT : Hid (l[k]? = some t) := Lib.hid ht
        clear ht hc0 hc1 hc2 hva
        go_wp2_with fail
        refine (toLiteral_any t.var t.tm _ va HV.out (Nat.le_trans (wtC_tm (mem_of_at HT.out)) HW.out)).mono ?_
        rintro e w' ⟨v', rfl, ho, hb⟩
        obtain ⟨p', c', rfl⟩ := ho.read.is_slice
        have hlen := HO.out.1
        have hx0 := HO.out.cellAt (k * 3) (by omega)
        have hx1 := HO.out.cellAt (k * 3 + 1) (by omega)
        have hx2 := HO.out.cellAt (k * 3 + 2) (by omega)
        rw [List.getElem?_eq_getElem (by omega)] at hx0 hx1 hx2
        obtain ⟨x0, e0⟩ : ∃ x, x = xs[k * 3]'(by omega) := ⟨_, rfl⟩
        obtain ⟨x1, e1⟩ : ∃ x, x = xs[k * 3 + 1]'(by omega) := ⟨_, rfl⟩
        obtain ⟨x2, e2⟩ : ∃ x, x = xs[k * 3 + 2]'(by omega) := ⟨_, rfl⟩
        rw [← e0] at hx0
        rw [← e1] at hx1
        rw [← e2] at hx2
        have hx0' := carry_cell hx0 hb
        have hx1' := carry_cell hx1 hb
        have hx2' := carry_cell hx2 hb
        have hg : w.heap.size < wr.heap.size := World.block_lt_of_cell? _ _ hx0
        have hf : ∀ j, w'.frozen? ⟨w.heap.size, j, none⟩ = false := fun j => (hb.frozen (p := ⟨w.heap.size, j, none⟩) hg).trans (HO.out.frozenAt _)
        have hf0 := hf (k * 3)
        have hy1 : (w'.setCell ⟨w.heap.size, k * 3, none⟩ (.bool t.var)).cell? ⟨w.heap.size, k * 3 + 1, none⟩ = some x1 := (World.cell?_setCell_other _ _ _ _ (by simp)).trans hx1'
        have hf1 : (w'.setCell ⟨w.heap.size, k * 3, none⟩ (.bool t.var)).frozen? ⟨w.heap.size, k * 3 + 1, none⟩ = false := by rw [World.frozen?_setCell]; exact hf _
        have hy2 : ((w'.setCell ⟨w.heap.size, k * 3, none⟩ (.bool t.var)).setCell ⟨w.heap.size, k * 3 + 1, none⟩ (.string t.tm.name)).cell? ⟨w.heap.size, k * 3 + 2, none⟩ = some x2 := (World.cell?_setCell_other _ _ _ _ (by simp)).trans ((World.cell?_setCell_other _ _ _ _ (by simp)).trans hx2')
        have hf2 : ((w'.setCell ⟨w.heap.size, k * 3, none⟩ (.bool t.var)).setCell ⟨w.heap.size, k * 3 + 1, none⟩ (.string t.tm.name)).frozen? ⟨w.heap.size, k * 3 + 2, none⟩ = false := by rw [World.frozen?_setCell, World.frozen?_setCell]; exact hf _
        have HOT := Lib.hid ho
        have HBB := Lib.hid hb
        have HLN := Lib.hid hlen
        clear ho hb e0 e1 e2 hx0 hx1 hx2 hc0' hc1' hc2' hlen hf
        have HNX := Lib.hid (ToRelC.next HO.out HM.out HN.out HB.out HT.out HOT.out HBB.out hg)
        go_wp2
        go_roundw
        case rel => exact ⟨k + 1, by omega, by go_num, HNX.out⟩
        case measure => simp [intOf]; omega
      · have hke : k = l.length := by omega
        subst hke
        have HE : Hid (LtO wr (Fresh w wr) (.slice (some ⟨w.heap.size, 0, none⟩) l.length l.length) l) := Lib.hid (MadeC.whole HO.out HM.out (Nat.le_refl _) (fun g hg i hi => by
          simp [Value.ownBlock] at hg; subst hg; exact HN.out i hi))
        go_wp2
        go_ret
        exact ⟨_, rfl, HE.out, HB.out⟩

def ToClEnd (l : List Lt) (w : World) (e : Ending) (w' : World) : Prop :=
  ∃ v, e = .returned (.agg #[v]) ∧ LtO w' (Fresh w w') v l ∧ Below w.heap.size w w'

set_option maxRecDepth 100000 in
set_option maxHeartbeats 1000000 in
theorem toClause_any (l : List Lt) (w : World) (v : Value) (hv : LtS w v l) (hw : wtC l ≤ 1048576) :
    Calls Tryz.prog 14 #[.agg #[v]] w (ToClEnd l w) := by
  obtain ⟨pa, ca, rfl⟩ := hv.is_slice
  have HV := Lib.hid hv
  clear hv
  have HB := Lib.hid ((((Below.refl w.heap.size w).alloc (Nat.le_refl _) (.cells #[.slice pa l.length ca] 43)).alloc (by simp) (.cells #[.slice none 0 0] 48)).alloc (by simp; omega) (.cells #[.slice none 0 0] 48))
  have R2 := Lib.hid ((oner_new (w.alloc (.cells #[.slice pa l.length ca] 43)) (.slice none 0 0) 48 (w.heap.size + 1) (by simp)).alloc (.cells #[.slice none 0 0] 48))
  have O2 := Lib.hid (oner_new ((w.alloc (.cells #[.slice pa l.length ca] 43)).alloc (.cells #[.slice none 0 0] 48)) (.slice none 0 0) 48 (w.heap.size + 1 + 1) (by simp))
  go_enter Tryz.func14, Tryz.ntmps14
  go_wp2_with fail
  refine (toLiteralS_any l _ _ (HV.out.kept HB.out) hw).mono ?_
  rintro e w1 ⟨v1, rfl, ho, hb⟩
  obtain ⟨qv, qc, rfl⟩ := ho.read.is_slice
  have HB1 := Lib.hid (carry_below HB.out (Nat.le_refl _) hb)
  have HO := Lib.hid ho
  obtain ⟨r0, r3⟩ := R2.out.kept hb
  obtain ⟨o0, o3⟩ := O2.out.kept hb
  have hz := hb.size
  simp at hz
  clear ho hb
  have hne : w.heap.size + 1 + 1 ≠ w.heap.size + 1 := by omega
  have hne' : w.heap.size + 1 ≠ w.heap.size + 1 + 1 := by omega
  obtain ⟨W2, hW2⟩ : ∃ W2, (w1.setCell ⟨w.heap.size + 1 + 1, 0, none⟩ (.slice qv l.length qc)) = W2 := ⟨_, rfl⟩
  have p0 : W2.cell? ⟨w.heap.size + 1 + 1, 0, none⟩ = some (.slice qv l.length qc) := by rw [← hW2]; exact World.cell?_setCell_same _ _ _ o0
  have q0 : W2.cell? ⟨w.heap.size + 1, 0, none⟩ = some (.slice none 0 0) := by rw [← hW2, World.cell?_setCell_other _ _ _ _ (by simp)]; exact r0
  have q3 : ∀ j, W2.frozen? ⟨w.heap.size + 1, j, none⟩ = false := fun j => by rw [← hW2, World.frozen?_setCell]; exact r3 j
  have HB2 : Hid (Below w.heap.size w W2) := Lib.hid (by rw [← hW2]; exact HB1.out.setCell (by simp; omega) _)
  have HNR : Hid (LtO W2 (fun k => w.heap.size + 1 + 1 < k ∧ k < W2.heap.size) (.slice qv l.length qc) l) := Lib.hid (by
    rw [← hW2]
    refine (HO.out.setCell (fun h => by have := h.1; simp at this; omega) _).mono fun x hx => ⟨?_, ?_⟩
    · have := hx.1; simp at this; omega
    · simp only [size_setCell]; exact hx.2)
  go_wp2
  refine bodyPost_ret (v := .agg #[.slice qv l.length qc]) (by simp [results, Tryz.results14, go_sem, q0]) rfl ?_
  refine ⟨_, rfl, ?_, HB2.out.setCell (by simp) _⟩
  refine (HNR.out.setCell (fun h => by have h1 : w.heap.size + 1 + 1 < w.heap.size + 1 := h.1; omega) _).mono fun x hx => ⟨?_, ?_⟩
  · have := hx.1; omega
  · simp only [size_setCell]; exact hx.2

end Go.Proofs.YtdpeanpmjhpblaaGreat

/- The laws' comparing helper over substitutions: contracts, for lists of at most 1048576 bindings. -/
namespace Go.Proofs.YtdpeanpmjhpblaaGreat
open Go.RowKit
set_option linter.unusedVariables false

set_option maxHeartbeats 1000000 in
theorem eqLitG_any (p q : Bool) (t u : Tm) (w : World) (va vb : Value) (ha : TmS w va t.args) (hb : TmS w vb u.args) (hl : t.lim 1048576) (hy : u.lim 1048576) :
    Calls Tryz.prog 69 #[.agg #[.bool p, .string t.name, va], .agg #[.bool q, .string u.name, vb]] w (EqEnd (decide (p = q) && eqT t u) w) := by
  obtain ⟨pa, ca, rfl⟩ := ha.is_slice
  obtain ⟨pb, cb, rfl⟩ := hb.is_slice
  have HB := Lib.hid (((Below.refl w.heap.size w).alloc (Nat.le_refl _) (.cells #[.bool p, .string t.name, .slice pa t.args.length ca] 73)).alloc (by simp) (.cells #[.bool q, .string u.name, .slice pb u.args.length cb] 73))
  have HCE := Lib.hid (eqTerm_any t u _ _ _ (ha.kept HB.out) (hb.kept HB.out) hl hy)
  clear ha hb
  by_cases hpq : p = q
  · subst hpq
    have HE : Hid ((decide (p = p) && eqT t u) = eqT t u) := Lib.hid (by simp)
    rw [HE.out]
    obtain ⟨z, hz⟩ : ∃ z, z = eqT t u := ⟨_, rfl⟩
    rw [← hz] at HCE ⊢
    clear HE hz
    go_enter Tryz.func69, Tryz.ntmps69
    go_wp2_with fail
    refine HCE.out.mono ?_
    rintro e w1 ⟨rfl, hb⟩
    have HB1 := Lib.hid (carry_below HB.out (Nat.le_refl _) hb)
    clear hb
    cases z <;> (go_wp2; go_ret; exact ⟨rfl, HB1.out⟩)
  · have HE : Hid ((decide (p = q) && eqT t u) = false) := Lib.hid (by simp [hpq])
    clear HCE
    cases p <;> cases q <;> first
      | exact absurd rfl hpq
      | (clear hpq
         go_enter Tryz.func69, Tryz.ntmps69
         go_wp2
         go_ret
         exact ⟨ret_bool HE.out.symm, HB.out⟩)

def eqCs (l r : List Lt) : Bool := decide (l = r)
theorem eqCs_self (l : List Lt) : eqCs l l = true := by simp [eqCs]
theorem eqCs_iff {l r : List Lt} : eqCs l r = true ↔ l = r := by simp [eqCs]

def AgreeC (l r : List Lt) (k : Nat) : Prop := ∀ j, j < k → l[j]? = r[j]?
theorem AgreeC.next {l r : List Lt} {k : Nat} {x y : Lt} (h : AgreeC l r k) (hx : l[k]? = some x) (hy : r[k]? = some y) (e : eqLt x y = true) : AgreeC l r (k + 1) := fun j hj => by
  by_cases ej : j = k
  · subst ej; rw [hx, hy, eqLt_iff.1 e]
  · exact h j (by omega)
theorem AgreeC.all {l r : List Lt} (h : AgreeC l r l.length) (hl : l.length = r.length) : eqCs l r = true := by
  rw [eqCs_iff]
  apply List.ext_getElem?
  intro j
  by_cases hj : j < l.length
  · exact h j hj
  · rw [List.getElem?_eq_none (by omega), List.getElem?_eq_none (by omega)]
theorem eqCs_no {l r : List Lt} {k : Nat} {x y : Lt} (hx : l[k]? = some x) (hy : r[k]? = some y) (e : eqLt x y = false) : eqCs l r = false := by
  rw [Bool.eq_false_iff]
  intro h
  rw [eqCs_iff] at h
  subst h
  rw [hx] at hy; injection hy with hy; subst hy
  rw [eqLt_self] at e; cases e
theorem eqCs_len {l r : List Lt} (h : l.length ≠ r.length) : eqCs l r = false := by
  rw [Bool.eq_false_iff]
  intro e
  rw [eqCs_iff] at e
  exact h (by rw [e])

set_option maxHeartbeats 1000000 in
theorem eqLiteralS_any (l r : List Lt) (w : World) (va vb : Value) (ha : LtS w va l) (hb : LtS w vb r) (hlim : limC 1048576 l) (hrlim : limC 1048576 r) :
    Calls Tryz.prog 40 #[va, vb] w (EqEnd (eqCs l r) w) := by
  have hl := hlim.1
  have hr := hrlim.1
  have HL := Lib.hid hlim.2
  have HLR := Lib.hid hrlim.2
  clear hlim hrlim
  by_cases hlen : l.length = r.length
  · rcases ha with ⟨a, c, rfl, rfl⟩ | ⟨b, off, c, rfl, hp, hat⟩
    · have hr0 : r = [] := List.length_eq_zero_iff.1 hlen.symm
      subst hr0
      obtain ⟨a', c', rfl⟩ := hb.is_slice
      have HE := Lib.hid (eqCs_self [])
      clear hb hlen
      go_enter Tryz.func40, Tryz.ntmps40
      go_wp2
      refine wp_loop_rounds 1 ?_
      rw [rounds_succ]
      go_wp2
      go_ret
      exact ⟨ret_bool HE.out.symm, Below.refl _ _⟩
    · rcases hb with ⟨a, c', rfl, rfl⟩ | ⟨b', off', c', rfl, hp', hat'⟩
      · simp at hlen; rw [hlen] at hp; simp at hp
      · have HA := Lib.hid hat
        have HB := Lib.hid hat'
        have HN := Lib.hid hlen
        have hl' : ((l.length : Int) != (r.length : Int)) = false := by rw [bne_eq_false_iff_eq]; omega
        clear hat hat' hlen
        go_enter Tryz.func40, Tryz.ntmps40
        go_wp2
        go_loopw [5] (fun i wr => ∃ k : Nat, k ≤ l.length ∧ i = .int .i64 k ∧ AgreeC l r k ∧ Below w.heap.size w wr) (fun i _ => l.length - (intOf i).toNat)
        case atStart => exact ⟨0, Nat.zero_le _, rfl, fun j hj => absurd hj (Nat.not_lt_zero _), Below.refl _ _⟩
        case round =>
          obtain ⟨k, hk, rfl, hag, hbel⟩ := hrel
          have HG := Lib.hid hag
          have HBE := Lib.hid hbel
          clear hag hbel
          by_cases hlt : k < l.length
          · have hltr : k < r.length := by have := HN.out; omega
            obtain ⟨x, hx⟩ : ∃ t, l[k]? = some t := ⟨_, List.getElem?_eq_getElem hlt⟩
            obtain ⟨y, hy⟩ : ∃ t, r[k]? = some t := ⟨_, List.getElem?_eq_getElem hltr⟩
            obtain ⟨v1, a0, a1, a2, a3⟩ := HA.out k x hx
            obtain ⟨v2, b0, b1, b2, b3⟩ := HB.out k y hy
            have a0' := carry_cell a0 HBE.out
            have a1' := carry_cell a1 HBE.out
            have a2' := carry_cell a2 HBE.out
            have b0' := carry_cell b0 HBE.out
            have b1' := carry_cell b1 HBE.out
            have b2' := carry_cell b2 HBE.out
            have HV1 := Lib.hid (a3.kept HBE.out)
            have HV2 := Lib.hid (b3.kept HBE.out)
            have HX := Lib.hid hx
            have HY := Lib.hid hy
            clear hx hy a0 a1 b0 b1 a2 b2 a3 b3
            have C : Hid (∀ W : World, Below wr.heap.size wr W → Calls Tryz.prog 69 #[.agg #[.bool x.var, .string x.tm.name, v1], .agg #[.bool y.var, .string y.tm.name, v2]] W (EqEnd (eqLt x y) W)) := Lib.hid (fun W hW =>
              eqLitG_any x.var y.var x.tm y.tm W v1 v2 (HV1.out.kept hW) (HV2.out.kept hW) (HL.out x (mem_of_at HX.out)) (HLR.out y (mem_of_at HY.out)))
            have hB0 : Below wr.heap.size wr wr.drew := (Below.refl _ _).drew
            go_wp2_with fail
            go_region_held3 (fun w' => w'.cell? ⟨b, off + k * 3, none⟩ = some (.bool x.var) ∧ w'.cell? ⟨b, off + k * 3 + 1, none⟩ = some (.string x.tm.name) ∧ w'.cell? ⟨b, off + k * 3 + 2, none⟩ = some v1 ∧ w'.cell? ⟨b', off' + k * 3, none⟩ = some (.bool y.var) ∧ w'.cell? ⟨b', off' + k * 3 + 1, none⟩ = some (.string y.tm.name) ∧ w'.cell? ⟨b', off' + k * 3 + 2, none⟩ = some v2 ∧ Below wr.heap.size wr w') (first | exact ⟨by assumption, by assumption, by assumption, by assumption, by assumption, by assumption, by assumption⟩ | go_keep) (first | (go_at_call 69; refine (C.out _ (by assumption)).mono ?_; rintro e w' ⟨rfl, hb⟩; have hc1' := carry_cell' hb a0'; have hc2' := carry_cell' hb a1'; have hc3' := carry_cell' hb b0'; have hc4' := carry_cell' hb b1'; have hc5' := carry_cell' hb a2'; have hc6' := carry_cell' hb b2'; have hB' := carry_below (by assumption) (Nat.le_refl _) hb))
            have hB2 : Below wr.heap.size wr w' := by assumption
            have HB2 := Lib.hid (carry_below HBE.out (Nat.le_refl _) hB2)
            clear hB2
            cases hE : eqLt x y
            · have HF := Lib.hid (eqCs_no HX.out HY.out hE)
              clear hE
              go_wp2
              go_ret
              exact ⟨ret_bool HF.out.symm, HB2.out⟩
            · have HF := Lib.hid (HG.out.next HX.out HY.out hE)
              clear hE
              go_wp2
              go_roundw
              case rel => exact ⟨k + 1, by omega, by go_num, HF.out, HB2.out⟩
              case measure => simp [intOf]; omega
          · have hke : k = l.length := by omega
            subst hke
            have HF := Lib.hid (HG.out.all HN.out)
            go_wp2
            go_ret
            exact ⟨ret_bool HF.out.symm, HBE.out⟩
  · have HF := Lib.hid (eqCs_len hlen)
    have hl' : ((l.length : Int) == (r.length : Int)) = false := by simp; omega
    obtain ⟨a, c, rfl⟩ := ha.is_slice
    obtain ⟨a', c', rfl⟩ := hb.is_slice
    clear hlen ha hb
    go_enter Tryz.func40, Tryz.ntmps40
    go_wp2
    go_ret
    exact ⟨ret_bool HF.out.symm, Below.refl _ _⟩

set_option maxHeartbeats 1000000 in
theorem eqClause_any (l r : List Lt) (w : World) (va vb : Value) (ha : LtS w va l) (hb : LtS w vb r) (hlim : limC 1048576 l) (hrlim : limC 1048576 r) :
    Calls Tryz.prog 16 #[.agg #[va], .agg #[vb]] w (EqEnd (eqCs l r) w) := by
  obtain ⟨pa, ca, rfl⟩ := ha.is_slice
  obtain ⟨pb, cb, rfl⟩ := hb.is_slice
  have HB := Lib.hid (((Below.refl w.heap.size w).alloc (Nat.le_refl _) (.cells #[.slice pa l.length ca] 48)).alloc (by simp) (.cells #[.slice pb r.length cb] 48))
  have HC := Lib.hid (eqLiteralS_any l r _ _ _ (ha.kept HB.out) (hb.kept HB.out) hlim hrlim)
  clear ha hb
  go_enter Tryz.func16, Tryz.ntmps16
  go_wp2_with fail
  refine HC.out.mono ?_
  rintro e w' ⟨rfl, hb⟩
  have HBB := Lib.hid (carry_below HB.out (Nat.le_refl _) hb)
  clear hb
  cases hE : eqCs l r
  · go_wp2
    go_ret
    exact ⟨ret_bool hE.symm, HBB.out⟩
  · go_wp2
    go_ret
    exact ⟨ret_bool hE.symm, HBB.out⟩

end Go.Proofs.YtdpeanpmjhpblaaGreat
