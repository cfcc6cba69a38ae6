/- Several texts in one: each says what it proves. No condition but theirs. -/
import Derived.Test.YtohalpafmcobpaaGreatStrsF
import Derived.Deep.RegionHeld3
import Derived.Test.YtohalpafmcobpaaGreatOwnI
import Derived.Test.YtohalpafmcobpaaGreatThr
import Derived.Test.YtohalpafmcobpaaGreatSz
import Derived.Test.YtohalpafmcobpaaGreatInts
import Derived.Test.YtohalpafmcobpaaGreatOpenI
import Derived.Test.YtohalpafmcobpaaGreatTmV
import Derived.Test.YtohalpafmcobpaaGreatCnt
import Derived.Test.YtohalpafmcobpaaGreatSizes
import Derived.Test.YtohalpafmcobpaaGreatOpenTm
import Derived.ProofKit
import Derived.ChangeSlices
import Derived.SliceStrings
import Derived.IntWalk
/- The laws' helpers that write marks into a slice of strings and look for them again: contracts, for slices of at most 1048577 elements. -/
namespace Go.Proofs.YtohalpafmcobpaaGreat
open Go.RowKit

/-- The strings that the marking loop writes. -/
def marks (n : Nat) : List ByteArray := (List.range n).map fun i => markB (1 + i)
theorem marks_len (n : Nat) : (marks n).length = n := by simp [marks]
theorem marks_get {n i : Nat} (h : i < n) : (marks n).getD i ByteArray.empty = markB (1 + i) := by simp [marks, h]

/-- j elements have their mark. -/
def MRel (base : Nat) (v : Value) (n j : Nat) (wr : World) : Prop := ∃ xs, wr.ownsRow base 9 1 v n xs ∧ ∀ q, q < j → xs[q]? = some (.string (markB (1 + q)))

def MarkEnd (base n : Nat) (v : Value) (w : World) (e : Ending) (w' : World) : Prop :=
  e = .returned (.int .i64 (1 + (n : Int))) ∧ w'.ownsRow base 9 1 v (marks n).length ((marks n).map Value.string) ∧ w.grownBy w' v.ownBlock

theorem MRel.full {base n : Nat} {v : Value} {wr : World} (h : MRel base v n n wr) : wr.ownsRow base 9 1 v (marks n).length ((marks n).map Value.string) := by
  obtain ⟨xs, hown, hx⟩ := h
  exact row_known hown (marks_len n).symm (fun j hj => by rw [hx j hj, marks_get hj])

theorem MRel.cell {base g n cap j : Nat} {wr : World} (h : MRel base (.slice (some ⟨g, 0, none⟩) n cap) n j wr) (hj : j < n) : ∃ u, wr.cell? ⟨g, j, none⟩ = some u := by
  obtain ⟨xs, hown, _⟩ := h
  have := hown.1
  exact ⟨xs[j]'(by omega), by rw [hown.cellAt j (by omega), List.getElem?_eq_getElem (by omega)]⟩
theorem MRel.free {base g n cap j : Nat} {wr : World} (h : MRel base (.slice (some ⟨g, 0, none⟩) n cap) n j wr) : wr.frozen? ⟨g, j, none⟩ = false := by
  obtain ⟨xs, hown, _⟩ := h
  exact hown.frozenAt j
theorem MRel.below {base g n cap j : Nat} {wr w1 : World} (h : MRel base (.slice (some ⟨g, 0, none⟩) n cap) n j wr) (hb : Below wr.heap.size wr w1) : MRel base (.slice (some ⟨g, 0, none⟩) n cap) n j w1 := by
  obtain ⟨xs, hown, hx⟩ := h
  exact ⟨xs, hown.kept (grown_of_below hb none) (.inr (by simp [Value.ownBlock])), hx⟩
theorem MRel.step {base g n cap j : Nat} {w1 : World} (h : MRel base (.slice (some ⟨g, 0, none⟩) n cap) n j w1) (hj : j < n) : MRel base (.slice (some ⟨g, 0, none⟩) n cap) n (j + 1) (w1.setCell ⟨g, j, none⟩ (.string (markB (1 + j)))) := by
  obtain ⟨xs, hown, hx⟩ := h
  have hl := hown.1
  refine ⟨_, (hown.stored j (.string (markB (1 + j)))).1, fun q hq => ?_⟩
  by_cases e : q = j
  · subst e; rw [List.getElem?_set_self (by omega)]
  · rw [List.getElem?_set_ne (by omega)]; exact hx q (by omega)
theorem MRel.grown {base g n cap j : Nat} {w w1 : World} {u : Value} (h : MRel base (.slice (some ⟨g, 0, none⟩) n cap) n j w1) (hg : w.grownBy w1 (some g)) : w.grownBy (w1.setCell ⟨g, j, none⟩ u) (some g) := by
  obtain ⟨xs, hown, _⟩ := h
  exact grown_step hg (hown.stored j u).2

set_option maxHeartbeats 1000000 in
theorem markStringS_any (base n : Nat) (v : Value) (xs : List Value) (w : World) (hown : w.ownsRow base 9 1 v n xs) (hn : n ≤ 1048577) :
    Calls Tryz.prog 52 #[v, .int .i64 1] w fun e w' => MarkEnd base n v w e w' := by
  by_cases h0 : n = 0
  · have HM : Hid (MarkEnd base n v w (.returned (.int .i64 1)) w) := Lib.hid (by
      refine ⟨by rw [h0]; rfl, MRel.full (n := n) ⟨xs, hown, fun q hq => by omega⟩, grown_refl _ _⟩)
    have hv : ∃ a c, v = .slice a 0 c := by
      rcases hown.2 with ⟨hv, _⟩ | ⟨g, cap, cur, hv, _⟩
      · exact ⟨_, _, hv⟩
      · exact ⟨_, _, by rw [hv, h0]⟩
    obtain ⟨a, c, rfl⟩ := hv
    clear hown h0 hn
    go_enter Tryz.func52, Tryz.ntmps52
    go_wp2
    refine wp_loop_rounds 1 ?_
    rw [rounds_succ]
    go_wp2
    go_ret
    exact HM.out
  · have hv : ∃ g cap, v = .slice (some ⟨g, 0, none⟩) n cap := by
      rcases hown.2 with ⟨_, hv⟩ | ⟨g, cap, cur, hv, _⟩
      · exact absurd hv h0
      · exact ⟨_, _, hv⟩
    obtain ⟨g, cap, rfl⟩ := hv
    have HM0 : Hid (MRel base (.slice (some ⟨g, 0, none⟩) n cap) n 0 w) := Lib.hid ⟨xs, hown, fun q hq => by omega⟩
    clear hown h0
    go_enter Tryz.func52, Tryz.ntmps52
    go_wp2
    go_loopw [1, 5] (fun kk i wr => ∃ j : Nat, j ≤ n ∧ i = .int .i64 j ∧ kk = .int .i64 (1 + (j : Int)) ∧ MRel base (.slice (some ⟨g, 0, none⟩) n cap) n j wr ∧ w.grownBy wr (some g)) (fun _ i _ => n - (intOf i).toNat)
    case atStart => exact ⟨0, Nat.zero_le _, rfl, rfl, HM0.out, grown_refl _ _⟩
    case round =>
      obtain ⟨j, hj, rfl, rfl, hm, hg⟩ := hrel
      have HM : Hid (MRel base (.slice (some ⟨g, 0, none⟩) n cap) n j wr) := Lib.hid hm
      have HG : Hid (w.grownBy wr (some g)) := Lib.hid hg
      clear hm hg
      by_cases hlt : j < n
      · have C0 : Hid (Calls Tryz.prog 88 #[.int .i64 (1 + (j : Int))] wr fun e w' => e = .returned (.string (markB (1 + j))) ∧ Below wr.heap.size wr w') := Lib.hid (by
          have h := markText_any (1 + j) wr (by omega) (by omega)
          rwa [show ((1 + j : Nat) : Int) = 1 + (j : Int) by omega] at h)
        go_wp2_with fail
        refine C0.out.mono ?_
        rintro e w1 ⟨rfl, hb⟩
        have HM1 : Hid (MRel base (.slice (some ⟨g, 0, none⟩) n cap) n j w1) := Lib.hid (HM.out.below hb)
        have HG1 : Hid (w.grownBy w1 (some g)) := Lib.hid (grown_step HG.out (grown_of_below hb _))
        obtain ⟨u, hu⟩ := HM1.out.cell hlt
        have hf := HM1.out.free
        obtain ⟨t, ht⟩ : ∃ t, t = markB (1 + j) := ⟨_, rfl⟩
        have HM2 : Hid (MRel base (.slice (some ⟨g, 0, none⟩) n cap) n (j + 1) (w1.setCell ⟨g, j, none⟩ (.string t))) := Lib.hid (by rw [ht]; exact HM1.out.step hlt)
        have HG2 : Hid (w.grownBy (w1.setCell ⟨g, j, none⟩ (.string t)) (some g)) := Lib.hid (HM1.out.grown HG1.out)
        rw [← ht]
        clear hb ht
        go_wp2
        go_roundw
        case rel => exact ⟨j + 1, by omega, by go_num, by go_num, HM2.out, HG2.out⟩
        case measure => simp [intOf]; omega
      · have HE : Hid (MarkEnd base n (.slice (some ⟨g, 0, none⟩) n cap) w (.returned (.int .i64 (1 + (j : Int)))) wr) := Lib.hid (by
          have e : j = n := by omega
          have h := HM.out
          rw [e] at h
          exact ⟨by rw [e], h.full, HG.out⟩)
        go_wp2
        go_ret
        exact HE.out

def HeldEnd (n : Nat) (w : World) (e : Ending) (w' : World) : Prop := e = .returned (.int .i64 (1 + (n : Int))) ∧ Below w.heap.size w w'

end Go.Proofs.YtohalpafmcobpaaGreat

/- A slice of strings as an argument of a law: what the law's helpers do with it: contracts. -/
namespace Go.Proofs.YtohalpafmcobpaaGreat
open Go.RowKit
set_option linter.unusedVariables false

/-- A slice of strings of the law's own, in numbered blocks. -/
def OwnS (w : World) (lo hi : Nat) (v : Value) (ss : List ByteArray) : Prop :=
  w.ownsRow lo 9 1 v ss.length (ss.map Value.string) ∧ (∀ g, v.ownBlock = some g → lo ≤ g ∧ g < hi) ∧ hi ≤ w.heap.size
theorem OwnS.fresh {w w' : World} {v : Value} {ss : List ByteArray} (h : w'.ownsRow w.heap.size 9 1 v ss.length (ss.map Value.string)) : OwnS w' w.heap.size w'.heap.size v ss :=
  ⟨h, fun g hg => h.lt g hg, Nat.le_refl _⟩
theorem OwnS.freshAt {w w' : World} {v : Value} {ss : List ByteArray} (h : w'.ownsRow w.heap.size 9 1 v ss.length (ss.map Value.string)) {n : Nat} (e : w.heap.size = n) : OwnS w' n w'.heap.size v ss := e ▸ OwnS.fresh h
theorem OwnS.kept {w w' : World} {lo hi : Nat} {v : Value} {ss : List ByteArray} (h : OwnS w lo hi v ss) (hb : Below w.heap.size w w') : OwnS w' lo hi v ss := by
  refine ⟨h.1.kept (grown_of_below hb none) ?_, h.2.1, Nat.le_trans h.2.2 hb.size⟩
  cases v.ownBlock with
  | none => exact .inl rfl
  | some g => exact .inr (by simp)
theorem OwnS.read {w : World} {lo hi : Nat} {v : Value} {ss : List ByteArray} (h : OwnS w lo hi v ss) : StrsV w v ss := strsV_of_owns h.1
theorem OwnS.outside {a b : World} {lo hi lo' hi' : Nat} {v : Value} {ss : List ByteArray} (h : OwnS a lo hi v ss) (ho : Outside (Ivl lo' hi') a b) (hd : hi ≤ lo' ∨ hi' ≤ lo) : OwnS b lo hi v ss := by
  refine ⟨⟨h.1.1, ?_⟩, h.2.1, Nat.le_trans h.2.2 ho.size⟩
  rcases h.1.2 with h2 | ⟨g, cap, cur, h3, hbg, hgb, rest⟩
  · exact .inl h2
  · have hg := h.2.1 g (by rw [h3]; rfl)
    exact .inr ⟨g, cap, cur, h3, hbg, (ho.block g (Array.getElem?_eq_some_iff.1 hgb).1 (fun hk => by have h1 := hk.1; have h2 := hk.2; omega)).trans hgb, rest⟩

/-- What a size helper leaves of an allowance. -/
def SzSL (ss : List ByteArray) (e : Ending) : Prop := e = .returned (.int .i64 (-1)) ∨ ∃ r : Int, 0 ≤ r ∧ r ≤ 1048576 ∧ ss.length ≤ 1048576 ∧ e = .returned (.int .i64 r)

set_option maxHeartbeats 1000000 in
theorem szStrL_any (v : Value) (ss : List ByteArray) (left : Int) (w : World) (hl0 : 0 ≤ left) (hl1 : left ≤ 1048576) (hv : StrsV w v ss) (hn : ss.length ≤ 9223372036854775807) (hs : ∀ i, (ss.getD i ByteArray.empty).size ≤ maxLen) :
    Calls Tryz.prog 34 #[v, .int .i64 left] w fun e w' => SzSL ss e ∧ w = w' := by
  rcases hv with ⟨a, c, rfl, rfl⟩ | ⟨b, off, c, rfl, hp, hc⟩
  · go_enter Tryz.func34, Tryz.ntmps34
    have hneg : ¬ left < 0 := by omega
    go_wp2
    refine wp_loop_rounds 1 ?_
    rw [rounds_succ]
    go_wp2
    go_ret
    exact ⟨.inr ⟨_, hl0, hl1, by simp, rfl⟩, rfl⟩
  · by_cases hbig : left - ss.length < 0
    · go_enter Tryz.func34, Tryz.ntmps34
      go_wp2
      go_ret
      exact ⟨.inl rfl, rfl⟩
    · go_enter Tryz.func34, Tryz.ntmps34
      go_wp2
      go_loop [1, 5] (fun l i => ∃ k : Nat, ∃ r : Int, k ≤ ss.length ∧ i = .int .i64 k ∧ 0 ≤ r ∧ r ≤ 1048576 ∧ l = .int .i64 r) (fun _ i => ss.length - (intOf i).toNat)
      case atStart => exact ⟨0, _, Nat.zero_le _, rfl, by omega, by omega, rfl⟩
      case round =>
        obtain ⟨k, r, hk, rfl, hr0, hr1, rfl⟩ := hrel
        by_cases hlt : k < ss.length
        · have hcr := hc k hlt
          have hsz := hs k
          obtain ⟨s, hs'⟩ : ∃ s, s = ss.getD k ByteArray.empty := ⟨_, rfl⟩
          rw [← hs'] at hcr hsz
          clear hs' hs hc
          unfold maxLen at hsz
          by_cases hneg : r - s.size < 0
          · go_wp2
            go_ret
            exact ⟨.inl rfl, rfl⟩
          · go_wp2
            go_round
            case rel => exact ⟨k + 1, _, by omega, by go_num, by omega, by omega, rfl⟩
            case measure => simp [intOf]; omega
        · go_wp2
          go_ret
          exact ⟨.inr ⟨_, hr0, hr1, by omega, rfl⟩, rfl⟩

set_option maxHeartbeats 1000000 in
theorem markStrL_any (k : Nat) (ss : List ByteArray) (v : Value) (lo hi : Nat) (w : World) (h : OwnS w lo hi v ss) (hk : 1 ≤ k) (hn : k + ss.length ≤ 100000000) :
    Calls Tryz.prog 52 #[v, .int .i64 k] w fun e w' => e = .returned (.int .i64 (k + ss.length : Nat)) ∧ Outside (Ivl lo hi) w w' := by
  rcases h.1.2 with ⟨rfl, h0⟩ | ⟨g, cap, cur, rfl, rest⟩
  · have HE : Hid ((k : Int) = (k + ss.length : Nat)) := Lib.hid (by omega)
    rw [h0] at *
    clear h
    go_enter Tryz.func52, Tryz.ntmps52
    go_wp2
    refine wp_loop_rounds 1 ?_
    rw [rounds_succ]
    go_wp2
    go_ret
    exact ⟨ret_int HE.out, Outside.refl _ _⟩
  · have HIV : Hid (Ivl lo hi g) := Lib.hid (h.2.1 g rfl)
    obtain ⟨n, hnn⟩ : ∃ n, n = ss.length := ⟨_, rfl⟩
    have HR0 : Hid (∃ xs, w.ownsRow lo 9 1 (.slice (some ⟨g, 0, none⟩) n cap) n xs) := Lib.hid (by rw [hnn]; exact ⟨_, h.1⟩)
    rw [← hnn] at hn ⊢
    clear h hnn rest
    go_enter Tryz.func52, Tryz.ntmps52
    go_wp2
    go_loopw [1, 5] (fun kk i wr => ∃ j q : Nat, j ≤ n ∧ i = .int .i64 j ∧ kk = .int .i64 q ∧ q = k + j ∧ (∃ xs, wr.ownsRow lo 9 1 (.slice (some ⟨g, 0, none⟩) n cap) n xs) ∧ Outside (Ivl lo hi) w wr) (fun _ i _ => n - (intOf i).toNat)
    case atStart => exact ⟨0, k, Nat.zero_le _, rfl, rfl, rfl, HR0.out, Outside.refl _ _⟩
    case round =>
      obtain ⟨j, q, hj, rfl, rfl, hq, hm, ho⟩ := hrel
      have HM := Lib.hid hm
      have HO := Lib.hid ho
      clear hm ho
      by_cases hlt : j < n
      · have C0 := Lib.hid (markText_any q wr (by omega) (by omega))
        have HQ := Lib.hid hq
        have hq2 : q ≤ 100000000 := by omega
        clear hq
        go_wp2_with fail
        refine C0.out.mono ?_
        rintro e w1 ⟨rfl, hb⟩
        have HM1 : Hid (∃ xs, w1.ownsRow lo 9 1 (.slice (some ⟨g, 0, none⟩) n cap) n xs) := Lib.hid (by
          obtain ⟨xs, h⟩ := HM.out
          exact ⟨xs, h.kept (grown_of_below hb none) (.inr (by simp [Value.ownBlock]))⟩)
        have HO1 : Hid (Outside (Ivl lo hi) w w1) := Lib.hid (HO.out.trans (Outside.of_below hb))
        obtain ⟨u, hu⟩ : ∃ u, w1.cell? ⟨g, j, none⟩ = some u := by
          obtain ⟨xs, h⟩ := HM1.out
          have := h.1
          exact ⟨xs[j]'(by omega), by rw [h.cellAt j (by omega), List.getElem?_eq_getElem (by omega)]⟩
        have hf : w1.frozen? ⟨g, j, none⟩ = false := by
          obtain ⟨xs, h⟩ := HM1.out
          exact h.frozenAt j
        obtain ⟨t, ht⟩ : ∃ t, t = markB q := ⟨_, rfl⟩
        have HM2 : Hid (∃ xs, (w1.setCell ⟨g, j, none⟩ (.string t)).ownsRow lo 9 1 (.slice (some ⟨g, 0, none⟩) n cap) n xs) := Lib.hid (by
          obtain ⟨xs, h⟩ := HM1.out
          exact ⟨_, (h.stored j (.string t)).1⟩)
        have HO2 : Hid (Outside (Ivl lo hi) w (w1.setCell ⟨g, j, none⟩ (.string t))) := Lib.hid (HO1.out.trans (Outside.setCell _ _ _ HIV.out))
        rw [← ht]
        clear hb ht
        go_wp2
        go_roundw
        case rel => exact ⟨j + 1, q + 1, by omega, by go_num, by go_num, by have := HQ.out; omega, HM2.out, HO2.out⟩
        case measure => simp [intOf]; omega
      · have HE : Hid ((q : Int) = (k + n : Nat)) := Lib.hid (by omega)
        go_wp2
        go_ret
        exact ⟨ret_int HE.out, HO.out⟩

end Go.Proofs.YtohalpafmcobpaaGreat

/- Orderings: symbols, weights and the weight of variables; how one lies in memory; the laws' helpers on one: contracts. Lists are no longer than any slice is. -/
namespace Go.Proofs.YtohalpafmcobpaaGreat
open Go.RowKit
set_option linter.unusedVariables false

/-- An ordering. -/
structure Od where
  sy : List ByteArray
  ws : List Int
  va : Int

/-- How its two lists lie. -/
structure OdV (w : World) (sv wv : Value) (o : Od) : Prop where
  st : StrsV w sv o.sy
  is : IntsV w wv o.ws
  cp : ∀ a m c, sv = .slice a m c → m ≤ c
theorem OdV.kept {w w' : World} {sv wv : Value} {o : Od} (h : OdV w sv wv o) (hb : Below w.heap.size w w') : OdV w' sv wv o := ⟨h.st.below hb, h.is.kept hb, h.cp⟩

/-- The elements of a slice of strings. -/
def StrG (w : World) (a : Option Addr) (ss : List ByteArray) : Prop := ∀ k x, ss[k]? = some x → ∃ b off, a = some ⟨b, off, none⟩ ∧ w.cell? ⟨b, off + k, none⟩ = some (.string x)
theorem StrsV.parts {w : World} {v : Value} {ss : List ByteArray} (h : StrsV w v ss) : ∃ a c, v = .slice a ss.length c ∧ StrG w a ss := by
  rcases h with ⟨a, c, rfl, rfl⟩ | ⟨b, off, c, rfl, hp, hc⟩
  · exact ⟨a, c, rfl, fun k x hk => by cases hk⟩
  · refine ⟨_, c, rfl, fun k x hk => ⟨b, off, rfl, ?_⟩⟩
    have hlt : k < ss.length := (List.getElem?_eq_some_iff.1 hk).1
    rw [hc k hlt, getD_eq hlt]
    rw [List.getElem?_eq_getElem hlt] at hk
    injection hk with hk
    rw [hk]
theorem StrG.of {w : World} {a : Option Addr} {n c : Nat} {ss : List ByteArray} (h : StrsV w (.slice a n c) ss) : StrG w a ss := by
  obtain ⟨a', c', e, hg⟩ := h.parts
  injection e with e1 e2 e3
  rw [e1]; exact hg
theorem StrG.below {w w' : World} {a : Option Addr} {ss : List ByteArray} (h : StrG w a ss) (hb : Below w.heap.size w w') : StrG w' a ss := fun k x hk => by
  obtain ⟨b, off, ha, hc⟩ := h k x hk
  exact ⟨b, off, ha, carry_cell hc hb⟩
/-- A first part of such a slice. -/
theorem StrG.first {w : World} {a : Option Addr} {ss : List ByteArray} (h : StrG w a ss) (k c : Nat) (hk : k ≤ ss.length) : StrsV w (.slice a k c) (ss.take k) := by
  by_cases h0 : k = 0
  · subst h0; exact .inl ⟨a, c, rfl, by simp⟩
  · obtain ⟨b, off, rfl, _⟩ := h 0 _ (List.getElem?_eq_getElem (by omega))
    have hl : (ss.take k).length = k := by rw [List.length_take]; omega
    refine .inr ⟨b, off, c, by rw [hl], by omega, fun i hi => ?_⟩
    obtain ⟨b', off', e, hc⟩ := h i _ (List.getElem?_eq_getElem (show i < ss.length by omega))
    injection e with e
    injection e with e1 e2
    subst e1 e2
    rw [hc, getD_eq hi, List.getElem_take]

def IntG (w : World) (a : Option Addr) (is : List Int) : Prop := ∀ k x, is[k]? = some x → ∃ b off, a = some ⟨b, off, none⟩ ∧ w.cell? ⟨b, off + k, none⟩ = some (.int .i64 x)
theorem IntG.of {w : World} {a : Option Addr} {n c : Nat} {is : List Int} (h : IntsV w (.slice a n c) is) : IntG w a is := by
  obtain ⟨a', c', e, hg⟩ := h
  injection e with e1 e2 e3
  rw [e1]; exact hg
theorem IntG.below {w w' : World} {a : Option Addr} {is : List Int} (h : IntG w a is) (hb : Below w.heap.size w w') : IntG w' a is := fun k x hk => by
  obtain ⟨b, off, ha, hc⟩ := h k x hk
  exact ⟨b, off, ha, carry_cell hc hb⟩

/-- Both lists' values, opened. -/
theorem OdV.open {w : World} {sv wv : Value} {o : Od} (h : OdV w sv wv o) : ∃ sa sc wa wc, sv = .slice sa o.sy.length sc ∧ wv = .slice wa o.ws.length wc := by
  obtain ⟨sa, sc, e1, _⟩ := h.st.parts
  obtain ⟨wa, wc, e2, _⟩ := h.is
  exact ⟨sa, sc, wa, wc, e1, e2⟩

/-- The bytes of all strings. -/
def sumS : List ByteArray → Nat
  | [] => 0
  | s :: r => s.size + sumS r
theorem sumS_append (a b : List ByteArray) : sumS (a ++ b) = sumS a + sumS b := by
  induction a with
  | nil => simp [sumS]
  | cons t r ih => simp [sumS, ih]; omega
theorem sumS_next {l : List ByteArray} {k : Nat} {t : ByteArray} (h : l[k]? = some t) : sumS (l.take (k + 1)) = sumS (l.take k) + t.size := by
  rw [take_next h, sumS_append]; simp [sumS]
theorem sumS_take (l : List ByteArray) (k : Nat) : sumS (l.take k) ≤ sumS l := by
  have h := sumS_append (l.take k) (l.drop k)
  rw [List.take_append_drop] at h
  omega
theorem sumS_mem {l : List ByteArray} {t : ByteArray} (h : t ∈ l) : t.size ≤ sumS l := by
  induction l with
  | nil => cases h
  | cons s r ih =>
    rcases List.mem_cons.1 h with e | h
    · subst e; simp [sumS]
    · have := ih h; simp [sumS]; omega
/-- What the laws' size helper counts. -/
def Od.wt (o : Od) : Nat := o.sy.length + sumS o.sy + o.ws.length
def Od.lim (m : Nat) (o : Od) : Prop := o.sy.length ≤ m ∧ (∀ s ∈ o.sy, s.size ≤ m) ∧ o.ws.length ≤ m
theorem Od.lim_of_wt (o : Od) (m : Nat) (h : o.wt ≤ m) : o.lim m := by
  unfold Od.wt at h
  exact ⟨by omega, fun s hs => by have := sumS_mem hs; omega, by omega⟩

set_option maxHeartbeats 1000000 in
theorem szStrR_any (v : Value) (ss : List ByteArray) (left : Int) (w : World) (hl0 : 0 ≤ left) (hl1 : left ≤ 1048576) (hv : StrsV w v ss) (hn : ss.length ≤ 9223372036854775807) (hs : ∀ s ∈ ss, s.size ≤ 9223372036854775807) :
    Calls Tryz.prog 34 #[v, .int .i64 left] w fun e w' => e = .returned (.int .i64 (szR left (ss.length + sumS ss))) ∧ Below w.heap.size w w' := by
  obtain ⟨a, c, rfl, hg⟩ := hv.parts
  have HG := Lib.hid hg
  have HS := Lib.hid hs
  clear hv hg hs
  by_cases hneg : left - ss.length < 0
  · have HE : Hid (szR left (ss.length + sumS ss) = -1) := Lib.hid (szR_low (by omega))
    go_enter Tryz.func34, Tryz.ntmps34
    go_wp2
    go_ret
    exact ⟨ret_int HE.out.symm, Below.refl _ _⟩
  · go_enter Tryz.func34, Tryz.ntmps34
    go_wp2
    go_loop [1, 5] (fun l i => ∃ k : Nat, ∃ r : Int, k ≤ ss.length ∧ i = .int .i64 k ∧ 0 ≤ r ∧ r ≤ 1048576 ∧ r + sumS (ss.take k) = left - ss.length ∧ l = .int .i64 r) (fun _ i => ss.length - (intOf i).toNat)
    case atStart => exact ⟨0, _, Nat.zero_le _, rfl, by omega, by omega, by simp [sumS], rfl⟩
    case round =>
      obtain ⟨k, r, hk, rfl, hr0, hr1, hsum, rfl⟩ := hrel
      have HM := Lib.hid hsum
      clear hsum
      by_cases hlt : k < ss.length
      · obtain ⟨s, hs⟩ : ∃ s, ss[k]? = some s := ⟨_, List.getElem?_eq_getElem hlt⟩
        obtain ⟨b, off, rfl, hc⟩ := HG.out k s hs
        have hsz := HS.out s (mem_of_at hs)
        have HX := Lib.hid (sumS_next hs)
        have HX2 := Lib.hid (sumS_take ss (k + 1))
        clear hs
        by_cases hneg2 : r - s.size < 0
        · have HE : Hid (szR left (ss.length + sumS ss) = -1) := Lib.hid (szR_low (by have := HX.out; have := HX2.out; have := HM.out; omega))
          go_wp2
          go_ret
          exact ⟨ret_int HE.out.symm, Below.refl _ _⟩
        · go_wp2
          go_round
          case rel => exact ⟨k + 1, _, by omega, by go_num, by omega, by omega, by have := HX.out; have := HM.out; omega, rfl⟩
          case measure => simp [intOf]; omega
      · have HE : Hid (szR left (ss.length + sumS ss) = r) := Lib.hid (by
          have e := HM.out
          rw [List.take_of_length_le (by omega)] at e
          rw [szR_ok (by omega)]; omega)
        go_wp2
        go_ret
        exact ⟨ret_int HE.out.symm, Below.refl _ _⟩

set_option maxHeartbeats 400000 in
theorem szInt_any (a : Option Addr) (c n : Nat) (left : Int) (w : World) (hl0 : 0 ≤ left) (hl1 : left ≤ 1048576) (hn : n ≤ 9223372036854775807) :
    Calls Tryz.prog 35 #[.slice a n c, .int .i64 left] w fun e w' => e = .returned (.int .i64 (szR left n)) ∧ w = w' := by
  by_cases hneg : left - n < 0
  · have HE : Hid (szR left n = -1) := Lib.hid (szR_low (by omega))
    go_enter Tryz.func35, Tryz.ntmps35
    go_wp2
    go_ret
    exact ⟨ret_int HE.out.symm, rfl⟩
  · have HE : Hid (szR left n = left - n) := Lib.hid (szR_ok (by omega))
    go_enter Tryz.func35, Tryz.ntmps35
    go_wp2
    go_ret
    exact ⟨ret_int HE.out.symm, rfl⟩

set_option maxHeartbeats 1000000 in
theorem szOd_any (o : Od) (w : World) (sv wv : Value) (left : Int) (hv : OdV w sv wv o) (hlim : o.lim 9223372036854775807) (h0 : 0 ≤ left) (h1 : left ≤ 1048576) :
    Calls Tryz.prog 7 #[.agg #[sv, wv, .int .i64 o.va], .int .i64 left] w fun e w' => e = .returned (.int .i64 (szR left o.wt)) ∧ Below w.heap.size w w' := by
  obtain ⟨sa, sc, wa, wc, rfl, rfl⟩ := hv.open
  have HV := Lib.hid hv
  have HL := Lib.hid hlim
  have hwl : o.ws.length ≤ 9223372036854775807 := hlim.2.2
  have HW : Hid (o.wt = o.sy.length + sumS o.sy + o.ws.length) := Lib.hid rfl
  have HB := Lib.hid ((Below.refl w.heap.size w).alloc (Nat.le_refl _) (.cells #[.slice sa o.sy.length sc, .slice wa o.ws.length wc, .int .i64 o.va] 25))
  have H3 := Lib.hid (thr_new w (.slice sa o.sy.length sc) (.slice wa o.ws.length wc) (.int .i64 o.va) 25 _ rfl)
  clear hv hlim
  go_enter Tryz.func7, Tryz.ntmps7
  go_wp2_with fail
  refine (szStrR_any _ o.sy left _ h0 h1 ((HV.out.kept HB.out).st) HL.out.1 HL.out.2.1).mono ?_
  rintro e w1 ⟨rfl, hb⟩
  have HB1 := Lib.hid (carry_below HB.out (Nat.le_refl _) hb)
  obtain ⟨b0, b1, b2, b3⟩ := H3.out.kept hb
  clear hb
  rcases szR_cases left (o.sy.length + sumS o.sy) with ⟨c1, c2⟩ | ⟨c1, c2⟩
  · rw [c2]
    have HE : Hid (szR left o.wt = -1) := Lib.hid (szR_low (by have := HW.out; omega))
    clear c2
    go_wp2
    go_ret
    exact ⟨ret_int HE.out.symm, HB1.out⟩
  · rw [c2]
    clear c2
    have hn : ¬ left - ((o.sy.length + sumS o.sy : Nat) : Int) < 0 := by omega
    obtain ⟨r, hr⟩ : ∃ r : Int, left - ((o.sy.length + sumS o.sy : Nat) : Int) = r := ⟨_, rfl⟩
    rw [hr] at hn ⊢
    have CI := Lib.hid (szInt_any wa wc o.ws.length r w1 (by omega) (by omega) hwl)
    have HR := Lib.hid hr
    clear hr
    go_wp2_with fail
    refine CI.out.mono ?_
    rintro e w2 ⟨rfl, rfl⟩
    rcases szR_cases r o.ws.length with ⟨d1, d2⟩ | ⟨d1, d2⟩
    · rw [d2]
      have HE : Hid (szR left o.wt = -1) := Lib.hid (szR_low (by have := HW.out; have := HR.out; omega))
      clear d2
      go_wp2
      go_ret
      exact ⟨ret_int HE.out.symm, HB1.out⟩
    · rw [d2]
      have HE : Hid (szR left o.wt = r - o.ws.length) := Lib.hid (by rw [szR_ok (by have := HW.out; have := HR.out; omega)]; have := HW.out; have := HR.out; omega)
      clear d2
      go_wp2
      go_ret
      exact ⟨ret_int HE.out.symm, HB1.out⟩

/-- A copy of an ordering that the law made. -/
def OdO (w : World) (lo mid hi : Nat) (sv wv : Value) (o : Od) : Prop := OwnS w lo mid sv o.sy ∧ IntsO w (Ivl mid hi) wv o.ws ∧ hi ≤ w.heap.size ∧ lo ≤ mid ∧ mid ≤ hi
theorem OdO.read {w : World} {lo mid hi : Nat} {sv wv : Value} {o : Od} (h : OdO w lo mid hi sv wv o) : OdV w sv wv o := ⟨h.1.read, h.2.1.read, owns_cap h.1.1⟩
theorem OdO.kept {w w' : World} {lo mid hi : Nat} {sv wv : Value} {o : Od} (h : OdO w lo mid hi sv wv o) (hb : Below w.heap.size w w') : OdO w' lo mid hi sv wv o :=
  ⟨h.1.kept hb, h.2.1.frame fun k hk => hb.block k (Nat.lt_of_lt_of_le hk.2 h.2.2.1), Nat.le_trans h.2.2.1 hb.size, h.2.2.2⟩

def ToOEnd (o : Od) (w : World) (e : Ending) (w' : World) : Prop :=
  ∃ sv wv mid, e = .returned (.agg #[sv, wv, .int .i64 o.va]) ∧ OdO w' w.heap.size mid w'.heap.size sv wv o ∧ Below w.heap.size w w'

end Go.Proofs.YtohalpafmcobpaaGreat

/- Orderings: validity, rank, covered terms, weights, as plain facts. No condition. -/
namespace Go.Proofs.YtohalpafmcobpaaGreat
open Go.RowKit
set_option linter.unusedVariables false

/-- The i-th symbol and its weight may stand there. -/
def Od.step (o : Od) (i : Nat) : Bool := symB (o.sy.getD i ByteArray.empty) && !Lib.containsS (o.sy.take i) (o.sy.getD i ByteArray.empty) && inB (o.ws.getD i 0) o.va 100
def Od.heads (o : Od) : Bool := inB (o.sy.length : Int) 1 12 && decide (o.ws.length = o.sy.length) && inB o.va 1 100
def Od.good (o : Od) : Bool := o.heads && (List.range o.sy.length).all o.step
theorem Od.good_steps {o : Od} (h : o.heads = true) (hs : ∀ i, i < o.sy.length → o.step i = true) : o.good = true := by
  unfold Od.good
  rw [h, Bool.true_and, List.all_eq_true]
  intro i hi
  exact hs i (List.mem_range.1 hi)
theorem Od.good_no {o : Od} {i : Nat} (hi : i < o.sy.length) (h : o.step i = false) : o.good = false := by
  unfold Od.good
  have : (List.range o.sy.length).all o.step = false := by
    rw [List.all_eq_false]; exact ⟨i, List.mem_range.2 hi, by rw [h]; simp⟩
  rw [this, Bool.and_false]
theorem Od.good_head {o : Od} (h : o.heads = false) : o.good = false := by unfold Od.good; rw [h, Bool.false_and]
theorem inB_iff {x a b : Int} : inB x a b = true ↔ a ≤ x ∧ x ≤ b := by simp [inB]
structure Od.Fine (o : Od) : Prop where
  n1 : 1 ≤ o.sy.length
  n2 : o.sy.length ≤ 12
  wn : o.ws.length = o.sy.length
  v1 : 1 ≤ o.va
  v2 : o.va ≤ 100
  stp : ∀ i, i < o.sy.length → o.step i = true
theorem Od.good_fine {o : Od} (h : o.good = true) : o.Fine := by
  unfold Od.good Od.heads at h
  simp only [Bool.and_eq_true, decide_eq_true_eq, inB_iff, List.all_eq_true] at h
  obtain ⟨⟨⟨h1, h2⟩, h3⟩, h4⟩ := h
  exact ⟨by omega, by omega, h2, h3.1, h3.2, fun i hi => h4 i (List.mem_range.2 hi)⟩
theorem Od.Fine.sym {o : Od} (h : o.Fine) {i : Nat} {s : ByteArray} (hi : o.sy[i]? = some s) : symB s = true := by
  have hlt := (List.getElem?_eq_some_iff.1 hi).1
  have hs := h.stp i hlt
  unfold Od.step at hs
  simp only [Bool.and_eq_true] at hs
  rw [List.getD_eq_getElem?_getD, hi] at hs
  exact hs.1.1
theorem Od.Fine.weight {o : Od} (h : o.Fine) {i : Nat} {x : Int} (hi : o.ws[i]? = some x) : 1 ≤ x ∧ x ≤ 100 := by
  have hlt := (List.getElem?_eq_some_iff.1 hi).1
  have hs := h.stp i (by have := h.wn; omega)
  unfold Od.step at hs
  simp only [Bool.and_eq_true, inB_iff] at hs
  rw [List.getD_eq_getElem?_getD (l := o.ws), hi] at hs
  have := hs.2
  have := h.v1
  simp at *
  omega

/-- The index of a name in a list, or -1. -/
def rk (l : List ByteArray) (nm : ByteArray) : Int := match l.findIdx? (fun s => decide (s = nm)) with
  | some k => (k : Int)
  | none => -1
theorem rk_at {l : List ByteArray} {nm : ByteArray} {k : Nat} (h : l[k]? = some nm) (hb : ∀ j, j < k → l[j]? ≠ some nm) : rk l nm = k := by
  have hlt := (List.getElem?_eq_some_iff.1 h).1
  have e : l.findIdx? (fun s => decide (s = nm)) = some k := by
    rw [List.findIdx?_eq_some_iff_getElem]
    refine ⟨hlt, ?_, fun j hj => ?_⟩
    · rw [List.getElem?_eq_getElem hlt] at h; injection h with h; simp [h]
    · have := hb j hj
      rw [List.getElem?_eq_getElem (by omega)] at this
      simp at this ⊢
      exact this
  unfold rk; rw [e]
theorem rk_no {l : List ByteArray} {nm : ByteArray} (h : nm ∉ l) : rk l nm = -1 := by
  have e : l.findIdx? (fun s => decide (s = nm)) = none := by
    rw [List.findIdx?_eq_none_iff]
    intro s hs
    have : s ≠ nm := fun e => h (e ▸ hs)
    simp [this]
  unfold rk; rw [e]
theorem rk_none {l : List ByteArray} {nm : ByteArray} (h : ∀ j, j < l.length → l[j]? ≠ some nm) : rk l nm = -1 := rk_no fun hm => by
  obtain ⟨j, hj⟩ := List.mem_iff_getElem?.1 hm
  exact h j (List.getElem?_eq_some_iff.1 hj).1 hj
theorem rk_ways (l : List ByteArray) (nm : ByteArray) : (nm ∉ l ∧ rk l nm = -1) ∨ ∃ k : Nat, rk l nm = k ∧ k < l.length ∧ l[k]? = some nm := by
  unfold rk
  cases e : l.findIdx? (fun s => decide (s = nm)) with
  | none =>
    rw [List.findIdx?_eq_none_iff] at e
    exact .inl ⟨fun hm => by simpa using e nm hm, rfl⟩
  | some k =>
    obtain ⟨h1, h2, _⟩ := List.findIdx?_eq_some_iff_getElem.1 e
    refine .inr ⟨k, rfl, h1, ?_⟩
    rw [List.getElem?_eq_getElem h1]
    simp at h2
    rw [h2]
theorem rk_has {l : List ByteArray} {nm : ByteArray} : (0 ≤ rk l nm) ↔ nm ∈ l := by
  rcases rk_ways l nm with ⟨h1, h2⟩ | ⟨k, h1, h2, h3⟩
  · rw [h2]; exact ⟨fun h => by omega, fun h => absurd h h1⟩
  · rw [h1]; exact ⟨fun _ => List.mem_of_getElem? h3, fun _ => by omega⟩
theorem rk_inj {l : List ByteArray} {a b : ByteArray} (ha : a ∈ l) (h : rk l a = rk l b) : a = b := by
  rcases rk_ways l a with ⟨h1, h2⟩ | ⟨k, h1, h2, h3⟩
  · exact absurd ha h1
  · rcases rk_ways l b with ⟨g1, g2⟩ | ⟨j, g1, g2, g3⟩
    · omega
    · have : k = j := by omega
      subst this
      rw [h3] at g3; injection g3
theorem rk_lt (l : List ByteArray) (nm : ByteArray) : rk l nm < l.length ∧ -1 ≤ rk l nm := by
  rcases rk_ways l nm with ⟨h1, h2⟩ | ⟨k, h1, h2, h3⟩ <;> omega

/-- A node that the ordering covers. -/
def Od.nodeC (o : Od) (s : Tm) : Bool := varB s.name || decide (0 ≤ rk o.sy s.name)
def Od.cov (o : Od) (t : Tm) : Bool := t.nds.all o.nodeC
def Od.covL (o : Od) (l : List Tm) : Bool := (Tm.ndsL l).all o.nodeC
theorem Od.cov_eq (o : Od) (t : Tm) : o.cov t = (o.nodeC t && o.covL t.args) := by
  unfold Od.cov Od.covL; rw [t.nds_eq, List.all_cons]
theorem Od.covL_next {o : Od} {l : List Tm} {k : Nat} {t : Tm} (h : l[k]? = some t) : o.covL (l.take (k + 1)) = (o.covL (l.take k) && o.cov t) := by
  unfold Od.covL Od.cov; rw [Tm.ndsL_next h, List.all_append]
theorem Od.covL_all {o : Od} {l : List Tm} : o.covL l = l.all o.cov := by
  induction l with
  | nil => simp [Od.covL, Tm.ndsL]
  | cons t r ih =>
    rw [List.all_cons, ← ih]
    unfold Od.covL Od.cov
    rw [Tm.ndsL, List.all_append]
theorem Od.cov_arg {o : Od} {t s : Tm} (h : o.cov t = true) (hs : s ∈ t.args) : o.cov s = true := by
  rw [Od.cov_eq, Bool.and_eq_true, Od.covL_all, List.all_eq_true] at h
  exact h.2 s hs
theorem Od.cov_no {o : Od} {t s : Tm} (hs : s ∈ t.args) (h : o.cov s = false) : o.cov t = false := by
  cases e : o.cov t with
  | false => rfl
  | true => rw [Od.cov_arg e hs] at h; cases h

/-- The weight of a node, and of terms. -/
def Od.wN (o : Od) (s : Tm) : Int := if varB s.name then o.va else if 0 ≤ rk o.sy s.name then o.ws.getD (rk o.sy s.name).toNat 0 else 0
def Od.wNs (o : Od) : List Tm → Int
  | [] => 0
  | s :: r => o.wN s + o.wNs r
def Od.wT (o : Od) (t : Tm) : Int := o.wNs t.nds
theorem Od.wNs_append (o : Od) (a b : List Tm) : o.wNs (a ++ b) = o.wNs a + o.wNs b := by
  induction a with
  | nil => simp [Od.wNs]
  | cons t r ih => simp [Od.wNs, ih]; omega
theorem Od.wT_eq (o : Od) (t : Tm) : o.wT t = o.wN t + o.wNs (Tm.ndsL t.args) := by unfold Od.wT; rw [t.nds_eq]; rfl
theorem Od.wNs_next {o : Od} {l : List Tm} {k : Nat} {t : Tm} (h : l[k]? = some t) : o.wNs (Tm.ndsL (l.take (k + 1))) = o.wNs (Tm.ndsL (l.take k)) + o.wT t := by
  rw [Tm.ndsL_next h, Od.wNs_append]; rfl
theorem Od.Fine.wN_le {o : Od} (h : o.Fine) (s : Tm) : 0 ≤ o.wN s ∧ o.wN s ≤ 100 := by
  unfold Od.wN
  split
  · have := h.v1; have := h.v2; omega
  · split
    · rcases rk_ways o.sy s.name with ⟨h1, h2⟩ | ⟨k, h1, h2, h3⟩
      · omega
      · rw [h1]
        have hk : k < o.ws.length := by have := h.wn; omega
        have := h.weight (List.getElem?_eq_getElem hk)
        rw [List.getD_eq_getElem?_getD, Int.toNat_natCast, List.getElem?_eq_getElem hk]
        simp; omega
    · omega
theorem Od.Fine.wNs_le {o : Od} (h : o.Fine) (l : List Tm) : 0 ≤ o.wNs l ∧ o.wNs l ≤ 100 * l.length := by
  induction l with
  | nil => simp [Od.wNs]
  | cons s r ih =>
    have := h.wN_le s
    simp [Od.wNs]; omega
theorem Od.Fine.wT_le {o : Od} (h : o.Fine) (t : Tm) : 0 ≤ o.wT t ∧ o.wT t ≤ 100 * t.sz := by
  have := h.wNs_le t.nds
  rw [Tm.nds_len] at this
  exact this

/-- A valid ordering and a valid term that it covers. -/
def Od.okT (o : Od) (t : Tm) : Bool := o.good && (goodB t && o.cov t)
def Od.wR (o : Od) (t : Tm) : Int := if o.okT t then o.wT t else 0

end Go.Proofs.YtohalpafmcobpaaGreat

/- Orderings, the model's side: validity, rank, covered terms, weight: contracts, for orderings and terms of at most 1048576 names' bytes and elements. -/
namespace Go.Proofs.YtohalpafmcobpaaGreat
open Go.RowKit
set_option linter.unusedVariables false

theorem Od.wt_sy (o : Od) : o.sy.length ≤ o.wt := by unfold Od.wt; omega
theorem Od.wt_ws (o : Od) : o.ws.length ≤ o.wt := by unfold Od.wt; omega
theorem Od.wt_str {o : Od} {s : ByteArray} (h : s ∈ o.sy) : s.size ≤ o.wt := by have := sumS_mem h; unfold Od.wt; omega

theorem getD_at {l : List ByteArray} {k : Nat} {s : ByteArray} (h : l[k]? = some s) : l.getD k ByteArray.empty = s := by rw [List.getD_eq_getElem?_getD, h]; rfl
theorem getD_atI {l : List Int} {k : Nat} {s : Int} (h : l[k]? = some s) : l.getD k 0 = s := by rw [List.getD_eq_getElem?_getD, h]; rfl
theorem Od.step_eq {o : Od} {k : Nat} {s : ByteArray} {x : Int} (h : o.sy[k]? = some s) (h' : o.ws[k]? = some x) : o.step k = (symB s && !Lib.containsS (o.sy.take k) s && inB x o.va 100) := by
  unfold Od.step; rw [getD_at h, getD_atI h']

theorem str_eqO {s x : ByteArray} (h : s = x) : (s.toList == x.toList) = true := by rw [h]; simp
theorem str_neO {s x : ByteArray} (h : s ≠ x) : (s.toList == x.toList) = false := by
  rw [beq_eq_false_iff_ne]; intro e; exact h (toList_inj e)
theorem contains_yes {ss : List ByteArray} {x : ByteArray} {k : Nat} (h : ss[k]? = some x) : Lib.containsS ss x = true := (Lib.containsS_iff _ _).2 (List.mem_of_getElem? h)
theorem contains_no {ss : List ByteArray} {x : ByteArray} (h : ∀ j, j < ss.length → ss[j]? ≠ some x) : Lib.containsS ss x = false := by
  rw [← Bool.not_eq_true, Lib.containsS_iff]
  intro hm
  obtain ⟨j, hj⟩ := List.mem_iff_getElem?.1 hm
  exact h j (List.getElem?_eq_some_iff.1 hj).1 hj

set_option maxHeartbeats 1000000 in
theorem l2In_same (a : Option Addr) (c : Nat) (ss : List ByteArray) (x : ByteArray) (w : World) (hv : StrG w a ss) (hn : ss.length ≤ 1048576) :
    Calls Tryz.prog 74 #[.slice a ss.length c, .string x] w fun e w' => e = .returned (.bool (Lib.containsS ss x)) ∧ w = w' := by
  have HV := Lib.hid hv
  clear hv
  go_enter Tryz.func74, Tryz.ntmps74
  go_wp2
  go_loop [5] (fun i => ∃ k : Nat, k ≤ ss.length ∧ i = .int .i64 k ∧ (∀ j, j < k → ss[j]? ≠ some x)) (fun i => ss.length - (intOf i).toNat)
  case atStart => exact ⟨0, Nat.zero_le _, rfl, fun j hj => absurd hj (Nat.not_lt_zero _)⟩
  case round =>
    obtain ⟨k, hk, rfl, hq⟩ := hrel
    have HQ := Lib.hid hq
    clear hq
    by_cases hlt : k < ss.length
    · obtain ⟨s, hs⟩ : ∃ s, ss[k]? = some s := ⟨_, List.getElem?_eq_getElem hlt⟩
      obtain ⟨b, off, rfl, hc⟩ := HV.out k s hs
      have HS := Lib.hid hs
      clear hs
      by_cases he : s = x
      · have hq : (s.toList == x.toList) = true := str_eqO he
        have HF : Hid (Lib.containsS ss x = true) := Lib.hid (contains_yes (by rw [HS.out, he]))
        clear he
        go_wp2
        go_ret
        exact ⟨ret_bool HF.out.symm, rfl⟩
      · have hq : (s.toList == x.toList) = false := str_neO he
        have HF : Hid (∀ j, j < k + 1 → ss[j]? ≠ some x) := Lib.hid (fun j hj => by
          by_cases e : j = k
          · rw [e, HS.out]; intro h; injection h with h; exact he h
          · exact HQ.out j (by omega))
        clear he
        go_wp2
        go_round
        case rel => exact ⟨k + 1, by omega, by go_num, HF.out⟩
        case measure => simp [intOf]; omega
    · have HF : Hid (Lib.containsS ss x = false) := Lib.hid (contains_no (fun j hj => HQ.out j (by omega)))
      go_wp2
      go_ret
      exact ⟨ret_bool HF.out.symm, rfl⟩

set_option maxHeartbeats 2000000 in
theorem l6Good_any (o : Od) (w : World) (sv wv : Value) (hv : OdV w sv wv o) (hw : o.wt ≤ 1048576) :
    Calls Tryz.prog 37 #[.agg #[sv, wv, .int .i64 o.va]] w (Ans (.bool o.good) w) := by
  obtain ⟨sa, sc, wa, wc, rfl, rfl⟩ := hv.open
  have HV := Lib.hid hv
  have hsl : o.sy.length ≤ 1048576 := Nat.le_trans o.wt_sy hw
  have hwl : o.ws.length ≤ 1048576 := Nat.le_trans o.wt_ws hw
  have HST := Lib.hid (fun s (hs : s ∈ o.sy) => Nat.le_trans (Od.wt_str hs) hw)
  have HB := Lib.hid ((Below.refl w.heap.size w).alloc (Nat.le_refl _) (.cells #[.slice sa o.sy.length sc, .slice wa o.ws.length wc, .int .i64 o.va] 35))
  have H3 := Lib.hid (thr_new w (.slice sa o.sy.length sc) (.slice wa o.ws.length wc) (.int .i64 o.va) 35 _ rfl)
  obtain ⟨b0, b1, b2, b3⟩ := H3.out
  have C1 := Lib.hid (in_any (o.sy.length : Int) 1 12)
  have C2 := Lib.hid (in_any o.va 1 100)
  have HH : Hid (o.heads = (inB (o.sy.length : Int) 1 12 && decide (o.ws.length = o.sy.length) && inB o.va 1 100)) := Lib.hid rfl
  clear hv hw
  cases h1 : inB (o.sy.length : Int) 1 12 with
  | false =>
    rw [h1] at C1
    have HE : Hid (o.good = false) := Lib.hid (Od.good_head (by rw [HH.out, h1]; rfl))
    clear h1
    go_enter Tryz.func37, Tryz.ntmps37
    go_wp2_with fail
    refine (C1.out _).mono ?_
    rintro e w1 ⟨rfl, rfl⟩
    go_wp2
    go_ret
    exact ⟨ret_bool HE.out.symm, HB.out⟩
  | true =>
    have HN1 := Lib.hid (inB_iff.1 h1)
    by_cases h2 : o.ws.length = o.sy.length
    · have h2' : ((o.ws.length : Int) != (o.sy.length : Int)) = false := int_eq (by omega)
      cases h3 : inB o.va 1 100 with
      | false =>
        rw [h1] at C1
        rw [h3] at C2
        have HE : Hid (o.good = false) := Lib.hid (Od.good_head (by rw [HH.out, h3, Bool.and_false]))
        clear h1 h2 h3
        go_enter Tryz.func37, Tryz.ntmps37
        go_wp2_with fail
        refine (C1.out _).mono ?_
        rintro e w1 ⟨rfl, rfl⟩
        go_wp2_with fail
        refine (C2.out _).mono ?_
        rintro e w1 ⟨rfl, rfl⟩
        go_wp2
        go_ret
        exact ⟨ret_bool HE.out.symm, HB.out⟩
      | true =>
        have HHD : Hid (o.heads = true) := Lib.hid (by rw [HH.out, h1, h3, decide_eq_true h2]; rfl)
        rw [h1] at C1
        rw [h3] at C2
        have HN2 := Lib.hid h2
        have HN3 := Lib.hid (inB_iff.1 h3)
        clear h1 h2 h3
        go_enter Tryz.func37, Tryz.ntmps37
        go_wp2_with fail
        refine (C1.out _).mono ?_
        rintro e w1 ⟨rfl, rfl⟩
        go_wp2_with fail
        refine (C2.out _).mono ?_
        rintro e w1 ⟨rfl, rfl⟩
        clear C1 C2 h2'
        go_wp2
        go_loopw [3] (fun i wr => ∃ k : Nat, k ≤ o.sy.length ∧ i = .int .i64 k ∧ (∀ j, j < k → o.step j = true) ∧ Thr wr w.heap.size (.slice sa o.sy.length sc) (.slice wa o.ws.length wc) (.int .i64 o.va) ∧ Below w.heap.size w wr) (fun i _ => o.sy.length - (intOf i).toNat)
        case atStart => exact ⟨0, Nat.zero_le _, rfl, fun j hj => absurd hj (Nat.not_lt_zero _), H3.out, HB.out⟩
        case round =>
          obtain ⟨k, hk, rfl, hq, h3, hb⟩ := hrel
          have HQ := Lib.hid hq
          have HR3 := Lib.hid h3
          have HBR := Lib.hid hb
          clear hq b0 b1 b2 b3
          obtain ⟨b0, b1, b2, b3⟩ := h3
          by_cases hlt : k < o.sy.length
          · obtain ⟨s, hs⟩ : ∃ s, o.sy[k]? = some s := ⟨_, List.getElem?_eq_getElem hlt⟩
            obtain ⟨x, hx⟩ : ∃ x, o.ws[k]? = some x := ⟨_, List.getElem?_eq_getElem (by have := HN2.out; omega)⟩
            have HSG := Lib.hid ((StrG.of HV.out.st).below hb)
            obtain ⟨sb, so, rfl, hc⟩ := HSG.out k s hs
            obtain ⟨wb, wo, rfl, hd⟩ := (IntG.of HV.out.is).below hb k x hx
            have hsz : s.size ≤ maxLen := by have := HST.out s (mem_of_at hs); unfold maxLen; omega
            have HSE := Lib.hid (Od.step_eq hs hx)
            have CS := Lib.hid (fun W => l2Symbol_any s W hsz)
            have CN := Lib.hid (fun n => l2In_same (some ⟨sb, so, none⟩) sc (o.sy.take k) s (wr.drewN n) (fun j y hj => HSG.out j y (by
              rw [List.getElem?_take] at hj; split at hj; exact hj; cases hj)) (by rw [List.length_take]; omega))
            have hlk : (o.sy.take k).length = k := by rw [List.length_take]; omega
            rw [hlk] at CN
            have CI := Lib.hid (in_any x o.va 100)
            have hwk : k < o.ws.length := by have := HN2.out; omega
            have hkc : k ≤ sc := by have := HV.out.cp _ _ _ rfl; omega
            clear hb hs hx hlk
            cases e1 : symB s with
            | false =>
              rw [e1] at CS
              have HE : Hid (o.good = false) := Lib.hid (Od.good_no hlt (by rw [HSE.out, e1]; rfl))
              clear e1
              go_wp2
              go_quiet ((first | (go_at_call 73; exact quiet_left (CS.out _)) | (go_at_call 74; exact quiet_left (CN.out _)) | (go_at_call 72; exact quiet_left (CI.out _))))
              have HB2 : Hid (Below w.heap.size w (wr.drewN nq)) := Lib.hid (⟨HBR.out.os, HBR.out.tape, HBR.out.output, HBR.out.size, HBR.out.block⟩)
              go_wp2
              go_ret
              exact ⟨ret_bool HE.out.symm, HB2.out⟩
            | true =>
              rw [e1] at CS
              have HE1 := Lib.hid e1
              clear e1
              cases e2 : Lib.containsS (o.sy.take k) s with
              | true =>
                rw [e2] at CN
                have HE : Hid (o.good = false) := Lib.hid (Od.good_no hlt (by rw [HSE.out, e2]; simp))
                clear e2
                go_wp2
                go_quiet ((first | (go_at_call 73; exact quiet_left (CS.out _)) | (go_at_call 74; exact quiet_left (CN.out _)) | (go_at_call 72; exact quiet_left (CI.out _))))
                have HB2 : Hid (Below w.heap.size w (wr.drewN nq)) := Lib.hid (⟨HBR.out.os, HBR.out.tape, HBR.out.output, HBR.out.size, HBR.out.block⟩)
                go_wp2
                go_ret
                exact ⟨ret_bool HE.out.symm, HB2.out⟩
              | false =>
                rw [e2] at CN
                have HE2 := Lib.hid e2
                clear e2
                cases e3 : inB x o.va 100 with
                | false =>
                  rw [e3] at CI
                  have HE : Hid (o.good = false) := Lib.hid (Od.good_no hlt (by rw [HSE.out, e3, Bool.and_false]))
                  clear e3
                  go_wp2
                  go_quiet ((first | (go_at_call 73; exact quiet_left (CS.out _)) | (go_at_call 74; exact quiet_left (CN.out _)) | (go_at_call 72; exact quiet_left (CI.out _))))
                  have HB2 : Hid (Below w.heap.size w (wr.drewN nq)) := Lib.hid (⟨HBR.out.os, HBR.out.tape, HBR.out.output, HBR.out.size, HBR.out.block⟩)
                  go_wp2
                  go_ret
                  exact ⟨ret_bool HE.out.symm, HB2.out⟩
                | true =>
                  rw [e3] at CI
                  have HN : Hid (∀ j, j < k + 1 → o.step j = true) := Lib.hid (fun j hj => by
                    by_cases e : j = k
                    · rw [e, HSE.out, HE1.out, HE2.out, e3]; rfl
                    · exact HQ.out j (by omega))
                  clear e3
                  go_wp2
                  go_quiet ((first | (go_at_call 73; exact quiet_left (CS.out _)) | (go_at_call 74; exact quiet_left (CN.out _)) | (go_at_call 72; exact quiet_left (CI.out _))))
                  have HB2 : Hid (Below w.heap.size w (wr.drewN nq)) := Lib.hid (⟨HBR.out.os, HBR.out.tape, HBR.out.output, HBR.out.size, HBR.out.block⟩)
                  have HR32 : Hid (Thr (wr.drewN nq) w.heap.size (.slice (some ⟨sb, so, none⟩) o.sy.length sc) (.slice (some ⟨wb, wo, none⟩) o.ws.length wc) (.int .i64 o.va)) := Lib.hid (HR3.out.kept ⟨rfl, rfl, rfl, Nat.le_refl _, fun _ _ => rfl⟩)
                  go_wp2
                  go_roundw
                  case rel => exact ⟨k + 1, by omega, by go_num, HN.out, HR32.out, HB2.out⟩
                  case measure => simp [intOf]; omega
          · have HE : Hid (o.good = true) := Lib.hid (Od.good_steps HHD.out (fun i hi => HQ.out i (by omega)))
            go_wp2
            go_ret
            exact ⟨ret_bool HE.out.symm, HBR.out⟩
    · have h2' : ((o.ws.length : Int) != (o.sy.length : Int)) = true := int_ne (by omega)
      rw [h1] at C1
      have HE : Hid (o.good = false) := Lib.hid (Od.good_head (by rw [HH.out, decide_eq_false h2, Bool.and_false, Bool.false_and]))
      clear h1 h2
      go_enter Tryz.func37, Tryz.ntmps37
      go_wp2_with fail
      refine (C1.out _).mono ?_
      rintro e w1 ⟨rfl, rfl⟩
      go_wp2
      go_ret
      exact ⟨ret_bool HE.out.symm, HB.out⟩

set_option maxHeartbeats 1000000 in
theorem l6Rank_any (o : Od) (nm : ByteArray) (w : World) (sv wv : Value) (hv : OdV w sv wv o) (hw : o.wt ≤ 1048576) :
    Calls Tryz.prog 114 #[.agg #[sv, wv, .int .i64 o.va], .string nm] w (Ans (.int .i64 (rk o.sy nm)) w) := by
  obtain ⟨sa, sc, wa, wc, rfl, rfl⟩ := hv.open
  have HV := Lib.hid (StrG.of hv.st)
  have hsl : o.sy.length ≤ 1048576 := Nat.le_trans o.wt_sy hw
  have HB := Lib.hid ((Below.refl w.heap.size w).alloc (Nat.le_refl _) (.cells #[.slice sa o.sy.length sc, .slice wa o.ws.length wc, .int .i64 o.va] 35))
  have H3 := Lib.hid (thr_new w (.slice sa o.sy.length sc) (.slice wa o.ws.length wc) (.int .i64 o.va) 35 _ rfl)
  obtain ⟨b0, b1, b2, b3⟩ := H3.out
  clear hv hw
  go_enter Tryz.func114, Tryz.ntmps114
  go_wp2
  go_loopw [5] (fun i wr => ∃ k : Nat, k ≤ o.sy.length ∧ i = .int .i64 k ∧ (∀ j, j < k → o.sy[j]? ≠ some nm) ∧ Thr wr w.heap.size (.slice sa o.sy.length sc) (.slice wa o.ws.length wc) (.int .i64 o.va) ∧ Below w.heap.size w wr) (fun i _ => o.sy.length - (intOf i).toNat)
  case atStart => exact ⟨0, Nat.zero_le _, rfl, fun j hj => absurd hj (Nat.not_lt_zero _), H3.out, HB.out⟩
  case round =>
    obtain ⟨k, hk, rfl, hq, h3, hb⟩ := hrel
    have HQ := Lib.hid hq
    have HR3 := Lib.hid h3
    have HBR := Lib.hid hb
    clear hq b0 b1 b2 b3
    obtain ⟨b0, b1, b2, b3⟩ := h3
    by_cases hlt : k < o.sy.length
    · obtain ⟨s, hs⟩ : ∃ s, o.sy[k]? = some s := ⟨_, List.getElem?_eq_getElem hlt⟩
      obtain ⟨sb, so, rfl, hc⟩ := HV.out.below hb k s hs
      have HS := Lib.hid hs
      clear hb hs
      rcases name_ways s nm with ⟨hn, he⟩ | ⟨hn, he⟩
      · have HE : Hid (rk o.sy nm = (k : Int)) := Lib.hid (rk_at (by rw [HS.out, hn]) HQ.out)
        clear hn
        go_wp2
        go_ret
        exact ⟨ret_int HE.out.symm, HBR.out⟩
      · have HN : Hid (∀ j, j < k + 1 → o.sy[j]? ≠ some nm) := Lib.hid (fun j hj => by
          by_cases e : j = k
          · rw [e, HS.out]; intro h; injection h with h; exact hn h
          · exact HQ.out j (by omega))
        clear hn
        go_wp2
        go_roundw
        case rel => exact ⟨k + 1, by omega, by go_num, HN.out, HR3.out, HBR.out⟩
        case measure => simp [intOf]; omega
    · have HE : Hid (rk o.sy nm = -1) := Lib.hid (rk_none (fun j hj => HQ.out j (by omega)))
      go_wp2
      go_ret
      exact ⟨ret_int HE.out.symm, HBR.out⟩

end Go.Proofs.YtohalpafmcobpaaGreat

/- Orderings: the laws' copying and comparing helpers, and an argument opened: contracts, for orderings of at most 1048576 names' bytes and elements. -/
namespace Go.Proofs.YtohalpafmcobpaaGreat
open Go.RowKit Go.ChangeShapes Go.WideShapes Go.Deep Go.Joins
set_option linter.unusedVariables false

theorem Thr.setFar {w : World} {b : Nat} {x y z : Value} (h : Thr w b x y z) {a : Addr} (ha : a.block ≠ b) (u : Value) : Thr (w.setCell a u) b x y z :=
  ⟨(World.cell?_setCell_other _ _ _ _ (fun e => ha (by rw [e]))).trans h.1, (World.cell?_setCell_other _ _ _ _ (fun e => ha (by rw [e]))).trans h.2.1, (World.cell?_setCell_other _ _ _ _ (fun e => ha (by rw [e]))).trans h.2.2.1, fun j => by rw [World.frozen?_setCell]; exact h.2.2.2 j⟩
theorem Thr.set0 {w : World} {b : Nat} {x y z : Value} (h : Thr w b x y z) (u : Value) : Thr (w.setCell ⟨b, 0, none⟩ u) b u y z :=
  ⟨World.cell?_setCell_same _ _ _ h.1, (World.cell?_setCell_other _ _ _ _ (by simp)).trans h.2.1, (World.cell?_setCell_other _ _ _ _ (by simp)).trans h.2.2.1, fun j => by rw [World.frozen?_setCell]; exact h.2.2.2 j⟩
theorem Thr.set1 {w : World} {b : Nat} {x y z : Value} (h : Thr w b x y z) (u : Value) : Thr (w.setCell ⟨b, 1, none⟩ u) b x u z :=
  ⟨(World.cell?_setCell_other _ _ _ _ (by simp)).trans h.1, World.cell?_setCell_same _ _ _ h.2.1, (World.cell?_setCell_other _ _ _ _ (by simp)).trans h.2.2.1, fun j => by rw [World.frozen?_setCell]; exact h.2.2.2 j⟩
theorem Thr.set2 {w : World} {b : Nat} {x y z : Value} (h : Thr w b x y z) (u : Value) : Thr (w.setCell ⟨b, 2, none⟩ u) b x y u :=
  ⟨(World.cell?_setCell_other _ _ _ _ (by simp)).trans h.1, (World.cell?_setCell_other _ _ _ _ (by simp)).trans h.2.1, World.cell?_setCell_same _ _ _ h.2.2.1, fun j => by rw [World.frozen?_setCell]; exact h.2.2.2 j⟩
/-- A store below the blocks. -/
theorem OdO.set {w : World} {lo mid hi : Nat} {sv wv : Value} {o : Od} (h : OdO w lo mid hi sv wv o) {a : Addr} (ha : a.block < lo) (u : Value) : OdO (w.setCell a u) lo mid hi sv wv o := by
  refine ⟨?_, h.2.1.frame fun k hk => Below.heap_setCell _ _ _ _ (by intro e; have := hk.1; have := h.2.2.2.1; omega), by simp only [size_setCell]; exact h.2.2.1, h.2.2.2⟩
  exact h.1.outside (lo' := a.block) (hi' := a.block + 1) (Outside.setCell _ _ _ ⟨Nat.le_refl _, Nat.lt_succ_self _⟩) (.inr ha)

set_option maxRecDepth 100000 in
set_option maxHeartbeats 2000000 in
theorem toOd_any (o : Od) (w : World) (sv wv : Value) (hv : OdV w sv wv o) (hw : o.wt ≤ 1048576) :
    Calls Tryz.prog 10 #[.agg #[sv, wv, .int .i64 o.va]] w (ToOEnd o w) := by
  obtain ⟨sa, sc, wa, wc, rfl, rfl⟩ := hv.open
  have HV := Lib.hid hv
  have hsl : o.sy.length ≤ 1048576 := Nat.le_trans o.wt_sy hw
  have hwl : o.ws.length ≤ 1048576 := Nat.le_trans o.wt_ws hw
  obtain ⟨w0, hw0⟩ : ∃ w0, ((w.alloc (.cells #[.slice sa o.sy.length sc, .slice wa o.ws.length wc, .int .i64 o.va] 25)).alloc (.cells #[.slice none 0 0, .slice none 0 0, .int .i64 0] 35)).alloc (.cells #[.slice none 0 0, .slice none 0 0, .int .i64 0] 35) = w0 := ⟨_, rfl⟩
  have HB : Hid (Below w.heap.size w w0) := Lib.hid (by rw [← hw0]; exact (((Below.refl w.heap.size w).alloc (Nat.le_refl _) _).alloc (by simp) _).alloc (by simp <;> omega) _)
  have A0 : Hid (Thr w0 w.heap.size (.slice sa o.sy.length sc) (.slice wa o.ws.length wc) (.int .i64 o.va)) := Lib.hid (by rw [← hw0]; exact ((thr_new w _ _ _ _ _ rfl).alloc _).alloc _)
  have R0 : Hid (Thr w0 (w.heap.size + 1) (.slice none 0 0) (.slice none 0 0) (.int .i64 0)) := Lib.hid (by rw [← hw0]; exact (thr_new _ _ _ _ 35 (w.heap.size + 1) (by simp)).alloc _)
  have O0 : Hid (Thr w0 (w.heap.size + 1 + 1) (.slice none 0 0) (.slice none 0 0) (.int .i64 0)) := Lib.hid (by rw [← hw0]; exact thr_new _ _ _ _ 35 (w.heap.size + 1 + 1) (by simp))
  have hz0 : w0.heap.size = w.heap.size + 3 := by rw [← hw0]; simp
  clear hv hw
  go_enter Tryz.func10, Tryz.ntmps10
  obtain ⟨a0, a1, a2, a3⟩ := A0.out
  go_wp2_with fail
  refine (toStringS_any _ o.sy _ ((HV.out.kept HB.out).st) (by omega)).mono ?_
  rintro e w1 ⟨v1, rfl, ho, hb⟩
  have HO1 := Lib.hid (OwnS.fresh ho)
  obtain ⟨p1, c1, rfl, _⟩ := HO1.out.read.parts
  have HB1 := Lib.hid (carry_below HB.out (Nat.le_refl _) hb)
  have A1 := Lib.hid (A0.out.kept hb)
  have R1 := Lib.hid (R0.out.kept hb)
  have O1 := Lib.hid (O0.out.kept hb)
  have hz1 : w.heap.size + 3 ≤ w1.heap.size := by have := hb.size; omega
  clear ho hb a0 a1 a2 a3 hw0
  obtain ⟨o0, o1, o2, o3⟩ := O1.out
  obtain ⟨W2, hW2⟩ : ∃ W2, w1.setCell ⟨w.heap.size + 1 + 1, 0, none⟩ (.slice p1 o.sy.length c1) = W2 := ⟨_, rfl⟩
  have A2 : Hid (Thr W2 w.heap.size (.slice sa o.sy.length sc) (.slice wa o.ws.length wc) (.int .i64 o.va)) := Lib.hid (by rw [← hW2]; exact A1.out.setFar (by simp <;> omega) _)
  have R2 : Hid (Thr W2 (w.heap.size + 1) (.slice none 0 0) (.slice none 0 0) (.int .i64 0)) := Lib.hid (by rw [← hW2]; exact R1.out.setFar (by simp) _)
  have O2 : Hid (Thr W2 (w.heap.size + 1 + 1) (.slice p1 o.sy.length c1) (.slice none 0 0) (.int .i64 0)) := Lib.hid (by rw [← hW2]; exact O1.out.set0 _)
  have HB2 : Hid (Below w.heap.size w W2) := Lib.hid (by rw [← hW2]; exact HB1.out.setCell (by simp <;> omega) _)
  have HO2 : Hid (OwnS W2 (w.heap.size + 3) W2.heap.size (.slice p1 o.sy.length c1) o.sy) := Lib.hid (by
    have h := HO1.out.outside (lo' := w.heap.size + 1 + 1) (hi' := w.heap.size + 1 + 1 + 1) (b := W2) (by rw [← hW2]; exact Outside.setCell _ _ _ ⟨Nat.le_refl _, Nat.lt_succ_self _⟩) (.inr (by omega))
    refine ⟨?_, fun g hg => ?_, Nat.le_refl _⟩
    · rw [← hz0]; exact h.1
    · have h1 := h.2.1 g hg
      have h2 := h.2.2
      omega)
  have hz2 : w.heap.size + 3 ≤ W2.heap.size := by rw [← hW2, size_setCell]; exact hz1
  obtain ⟨a0, a1, a2, a3⟩ := A2.out
  go_wp2_with fail
  refine (toIntS_any o.ws _ _ ((HV.out.kept HB2.out).is) (by omega)).mono ?_
  rintro e w3 ⟨v3, rfl, ho, hb⟩
  have HI3 := Lib.hid ho
  obtain ⟨p3, c3, rfl, _⟩ := ho.read
  have HB3 := Lib.hid (carry_below HB2.out (Nat.le_refl _) hb)
  have A3 := Lib.hid (A2.out.kept hb)
  have R3 := Lib.hid (R2.out.kept hb)
  have O3 := Lib.hid (O2.out.kept hb)
  have HO3 := Lib.hid (HO2.out.kept hb)
  have hz3 : W2.heap.size ≤ w3.heap.size := hb.size
  clear ho hb a0 a1 a2 a3 hW2 o0 o1 o2 o3
  have HOD : Hid (OdO w3 (w.heap.size + 3) W2.heap.size w3.heap.size (.slice p1 o.sy.length c1) (.slice p3 o.ws.length c3) o) := Lib.hid ⟨HO3.out, HI3.out.mono (fun k hk => hk), Nat.le_refl _, hz2, hz3⟩
  obtain ⟨o0, o1, o2, o3⟩ := O3.out
  obtain ⟨W4, hW4⟩ : ∃ W4, w3.setCell ⟨w.heap.size + 1 + 1, 1, none⟩ (.slice p3 o.ws.length c3) = W4 := ⟨_, rfl⟩
  have A4 : Hid (Thr W4 w.heap.size (.slice sa o.sy.length sc) (.slice wa o.ws.length wc) (.int .i64 o.va)) := Lib.hid (by rw [← hW4]; exact A3.out.setFar (by simp <;> omega) _)
  have R4 : Hid (Thr W4 (w.heap.size + 1) (.slice none 0 0) (.slice none 0 0) (.int .i64 0)) := Lib.hid (by rw [← hW4]; exact R3.out.setFar (by simp) _)
  have O4 : Hid (Thr W4 (w.heap.size + 1 + 1) (.slice p1 o.sy.length c1) (.slice p3 o.ws.length c3) (.int .i64 0)) := Lib.hid (by rw [← hW4]; exact O3.out.set1 _)
  have HB4 : Hid (Below w.heap.size w W4) := Lib.hid (by rw [← hW4]; exact HB3.out.setCell (by simp <;> omega) _)
  have HOD4 : Hid (OdO W4 (w.heap.size + 3) W2.heap.size w3.heap.size (.slice p1 o.sy.length c1) (.slice p3 o.ws.length c3) o) := Lib.hid (by rw [← hW4]; exact HOD.out.set (by simp <;> omega) _)
  have hz4 : W4.heap.size = w3.heap.size := by rw [← hW4, size_setCell]
  obtain ⟨a0, a1, a2, a3⟩ := A4.out
  obtain ⟨y0, y1, y2, y3⟩ := O4.out
  obtain ⟨W5, hW5⟩ : ∃ W5, W4.setCell ⟨w.heap.size + 1 + 1, 2, none⟩ (.int .i64 o.va) = W5 := ⟨_, rfl⟩
  have R5 : Hid (Thr W5 (w.heap.size + 1) (.slice none 0 0) (.slice none 0 0) (.int .i64 0)) := Lib.hid (by rw [← hW5]; exact R4.out.setFar (by simp) _)
  have O5 : Hid (Thr W5 (w.heap.size + 1 + 1) (.slice p1 o.sy.length c1) (.slice p3 o.ws.length c3) (.int .i64 o.va)) := Lib.hid (by rw [← hW5]; exact O4.out.set2 _)
  have HB5 : Hid (Below w.heap.size w W5) := Lib.hid (by rw [← hW5]; exact HB4.out.setCell (by simp <;> omega) _)
  have HOD5 : Hid (OdO W5 (w.heap.size + 3) W2.heap.size w3.heap.size (.slice p1 o.sy.length c1) (.slice p3 o.ws.length c3) o) := Lib.hid (by rw [← hW5]; exact HOD4.out.set (by simp <;> omega) _)
  have hz5 : W5.heap.size = w3.heap.size := by rw [← hW5, size_setCell, hz4]
  obtain ⟨q0, q1, q2, q3⟩ := O5.out
  obtain ⟨r0, r1, r2, r3⟩ := R5.out
  have hne : w.heap.size + 1 + 1 ≠ w.heap.size + 1 := by omega
  have hne' : w.heap.size + 1 ≠ w.heap.size + 1 + 1 := by omega
  have HFIN : Hid (OdO (((W5.setCell ⟨w.heap.size + 1, 0, none⟩ (.slice p1 o.sy.length c1)).setCell ⟨w.heap.size + 1, 1, none⟩ (.slice p3 o.ws.length c3)).setCell ⟨w.heap.size + 1, 2, none⟩ (.int .i64 o.va)) w.heap.size W2.heap.size (((W5.setCell ⟨w.heap.size + 1, 0, none⟩ (.slice p1 o.sy.length c1)).setCell ⟨w.heap.size + 1, 1, none⟩ (.slice p3 o.ws.length c3)).setCell ⟨w.heap.size + 1, 2, none⟩ (.int .i64 o.va)).heap.size (.slice p1 o.sy.length c1) (.slice p3 o.ws.length c3) o) := Lib.hid (by
    have h := ((HOD5.out.set (a := ⟨w.heap.size + 1, 0, none⟩) (by simp <;> omega) (.slice p1 o.sy.length c1)).set (a := ⟨w.heap.size + 1, 1, none⟩) (by simp <;> omega) (.slice p3 o.ws.length c3)).set (a := ⟨w.heap.size + 1, 2, none⟩) (by simp <;> omega) (.int .i64 o.va)
    simp only [size_setCell]
    rw [hz5]
    refine ⟨⟨owns_base h.1.1 (by omega), fun g hg => ?_, h.1.2.2⟩, h.2.1, by simp only [size_setCell]; omega, by omega, h.2.2.2.2⟩
    have := h.1.2.1 g hg
    omega)
  have HBF : Hid (Below w.heap.size w (((W5.setCell ⟨w.heap.size + 1, 0, none⟩ (.slice p1 o.sy.length c1)).setCell ⟨w.heap.size + 1, 1, none⟩ (.slice p3 o.ws.length c3)).setCell ⟨w.heap.size + 1, 2, none⟩ (.int .i64 o.va))) := Lib.hid (((HB5.out.setCell (by simp) _).setCell (by simp) _).setCell (by simp) _)
  go_wp2
  refine bodyPost_ret (v := .agg #[.slice p1 o.sy.length c1, .slice p3 o.ws.length c3, .int .i64 o.va]) (by simp [results, Tryz.results10, go_sem, r0, r1, r2]) rfl ?_
  exact ⟨_, _, _, rfl, HFIN.out, HBF.out⟩

set_option maxHeartbeats 1000000 in
theorem eqOd_any (o : Od) (w : World) (sv wv sv' wv' : Value) (hv : OdV w sv wv o) (hv' : OdV w sv' wv' o) (hw : o.wt ≤ 1048576) :
    Calls Tryz.prog 13 #[.agg #[sv, wv, .int .i64 o.va], .agg #[sv', wv', .int .i64 o.va]] w (Ans (.bool true) w) := by
  obtain ⟨sa, sc, wa, wc, rfl, rfl⟩ := hv.open
  obtain ⟨sa', sc', wa', wc', rfl, rfl⟩ := hv'.open
  have HV := Lib.hid hv
  have HV' := Lib.hid hv'
  have hsl : o.sy.length ≤ 1048576 := Nat.le_trans o.wt_sy hw
  have hwl : o.ws.length ≤ 1048576 := Nat.le_trans o.wt_ws hw
  obtain ⟨w0, hw0⟩ : ∃ w0, (w.alloc (.cells #[.slice sa o.sy.length sc, .slice wa o.ws.length wc, .int .i64 o.va] 35)).alloc (.cells #[.slice sa' o.sy.length sc', .slice wa' o.ws.length wc', .int .i64 o.va] 35) = w0 := ⟨_, rfl⟩
  have HB : Hid (Below w.heap.size w w0) := Lib.hid (by rw [← hw0]; exact ((Below.refl w.heap.size w).alloc (Nat.le_refl _) _).alloc (by simp) _)
  have A0 : Hid (Thr w0 w.heap.size (.slice sa o.sy.length sc) (.slice wa o.ws.length wc) (.int .i64 o.va)) := Lib.hid (by rw [← hw0]; exact (thr_new w _ _ _ _ _ rfl).alloc _)
  have R0 : Hid (Thr w0 (w.heap.size + 1) (.slice sa' o.sy.length sc') (.slice wa' o.ws.length wc') (.int .i64 o.va)) := Lib.hid (by rw [← hw0]; exact thr_new _ _ _ _ 35 (w.heap.size + 1) (by simp))
  clear hv hv' hw
  go_enter Tryz.func13, Tryz.ntmps13
  obtain ⟨a0, a1, a2, a3⟩ := A0.out
  obtain ⟨r0, r1, r2, r3⟩ := R0.out
  have CE := eqStringS_any _ _ o.sy o.sy _ ((HV.out.kept HB.out).st) ((HV'.out.kept HB.out).st) (by omega) (by omega)
  rw [eqSs_self] at CE
  have HCE := Lib.hid CE
  clear CE
  go_wp2_with fail
  refine HCE.out.mono ?_
  rintro e w1 ⟨rfl, hd⟩
  have hb := hd.below w0.heap.size
  have HB1 := Lib.hid (carry_below HB.out (Nat.le_refl _) hb)
  have A1 := Lib.hid (A0.out.kept hb)
  have R1 := Lib.hid (R0.out.kept hb)
  clear hb hd HCE hw0 a0 a1 a2 a3 r0 r1 r2 r3
  obtain ⟨a0, a1, a2, a3⟩ := A1.out
  obtain ⟨r0, r1, r2, r3⟩ := R1.out
  go_wp2_with fail
  refine (eqIntS_any o.ws _ _ _ ((HV.out.kept HB1.out).is) ((HV'.out.kept HB1.out).is) (by omega)).mono ?_
  rintro e w2 ⟨rfl, hb⟩
  have HB2 := Lib.hid (carry_below HB1.out (Nat.le_refl _) hb)
  have A2 := Lib.hid (A1.out.kept hb)
  have R2 := Lib.hid (R1.out.kept hb)
  clear hb a0 a1 a2 a3 r0 r1 r2 r3
  obtain ⟨a0, a1, a2, a3⟩ := A2.out
  obtain ⟨r0, r1, r2, r3⟩ := R2.out
  go_wp2
  go_ret
  exact ⟨rfl, HB2.out⟩

section
variable {H : Type} {enc : TypeId × Value → H} {w : World} {base : Nat} {sp : Nat → Bool} {hd : Bool}

theorem array3 {α : Type} {cs : Array α} (h : cs.size = 3) : ∃ c0 c1 c2, cs = #[c0, c1, c2] := by
  obtain ⟨l⟩ := cs
  match l, h with
  | [c0, c1, c2], _ => exact ⟨c0, c1, c2, rfl⟩
theorem cellsS : Tryz.prog.cellsOf 22 = 1 := by kernel_rfl
theorem cellsI : Tryz.prog.cellsOf 23 = 1 := by kernel_rfl
theorem cellsK : Tryz.prog.cellsOf 3 = 1 := by kernel_rfl
theorem cellsO : Tryz.prog.cellsOf 25 = 3 := by kernel_rfl

/-- A slice of strings, as read. -/
theorem trod_strs {fuel : Nat} {c0 : Value} {x : DataW H × List MemPlace} (hf : DataW.trod enc Tryz.prog w base sp hd fuel 22 [c0] = some x) :
    ∃ ss : List ByteArray, StrsV w c0 ss ∧ ss.length ≤ 9223372036854775807 ∧ (∀ s ∈ ss, s.size ≤ 9223372036854775807) ∧ ∀ a m c, c0 = .slice a m c → m ≤ c := by
  rcases open_strings Tryz.underlying22 Tryz.underlying9 (by kernel_rfl) hf with ⟨hcs, _⟩ | ⟨x, l, c, ss, hcs, _, hl, hm, hz, _, hcell, hwz⟩
  · injection hcs with hcs
    subst hcs
    exact ⟨[], .inl ⟨_, _, rfl, rfl⟩, by simp, fun s hs => (by cases hs), fun a m c e => by injection e with e1 e2 e3; omega⟩
  · injection hcs with hcs
    subst hcs
    have hle : l ≤ ss.length := by rw [hz]; split <;> omega
    refine ⟨ss.take l, strsV_of_open hle hcell, by unfold maxLen at hm; simp; omega, fun s hs => ?_, fun a m c e => by injection e with e1 e2 e3; omega⟩
    have := hwz s (List.mem_of_mem_take hs)
    unfold maxLen at this; omega

/-- A slice of integers, as read. -/
theorem trod_ints {fuel : Nat} {c0 : Value} {x : DataW H × List MemPlace} (hf : DataW.trod enc Tryz.prog w base sp hd fuel 23 [c0] = some x) :
    ∃ is : List Int, IntsV w c0 is ∧ is.length ≤ 9223372036854775807 := by
  rcases open_ints Tryz.underlying23 Tryz.underlying3 (by kernel_rfl) hf with ⟨hcs, _⟩ | ⟨x, len, cap, zs, hcs, _, hl, hm, hz, _, hcell, _⟩
  · injection hcs with hcs
    subst hcs
    exact ⟨[], ⟨_, _, rfl, fun k x hk => by cases hk⟩, by simp⟩
  · injection hcs with hcs
    subst hcs
    have hle : len ≤ zs.length := by rw [hz]; split <;> omega
    refine ⟨zs.take len, ⟨some x, cap, by rw [List.length_take, Nat.min_eq_left hle], fun k y hk => ?_⟩, by rw [List.length_take]; unfold maxLen at hm; omega⟩
    have hkl : k < len := by have := (List.getElem?_eq_some_iff.1 hk).1; rw [List.length_take] at this; omega
    rw [List.getElem?_take, if_pos hkl] at hk
    have hc := hcell k (by omega)
    rw [List.getD_eq_getElem?_getD, hk] at hc
    obtain ⟨b, off, spot⟩ := x
    have h0 := hcell 0 (by omega)
    have hspot : spot = none := by simpa [Addr.add] using World.cell?_spot h0
    subst hspot
    refine ⟨b, off, rfl, ?_⟩
    have e : Addr.add ⟨b, off, none⟩ k = ⟨b, off + k, none⟩ := by
      simp only [Addr.add]; split <;> simp_all
    rw [← e]; exact hc

set_option maxRecDepth 100000 in
/-- The argument is an ordering. -/
theorem open_ord {r : Reach} {b0 : Nat} {v : Value} {d : DataW H} {p : List MemPlace} (hv : Value.okWide Tryz.prog w r b0 25 v)
    (h : DataW.Trod enc Tryz.prog w base sp hd 25 v d p) : ∃ (o : Od) (sv wv : Value), v = .agg #[sv, wv, .int .i64 o.va] ∧ OdV w sv wv o ∧ o.lim 9223372036854775807 := by
  obtain ⟨cs, rfl, hsz⟩ := okWide_struct Tryz.underlying25 hv
  obtain ⟨c0, c1, c2, rfl⟩ := array3 (hsz.trans cellsO)
  obtain ⟨fuel, hf⟩ := h
  obtain ⟨xs, n, _, _, _, hxl, hfi⟩ := DataW.trod_struct Tryz.underlying25 hf
  have hx3 : xs.length = 3 := hxl
  have f0 := hfi 0 _ rfl
  have f1 := hfi 1 _ rfl
  have f2 := hfi 2 _ rfl
  rw [List.getElem?_eq_getElem (by omega)] at f0 f1 f2
  have g0 : DataW.trod enc Tryz.prog w base sp hd n 22 (([c0, c1, c2].drop 0).take (Tryz.prog.cellsOf 22)) = some _ := f0
  have g1 : DataW.trod enc Tryz.prog w base sp hd n 23 (([c0, c1, c2].drop 1).take (Tryz.prog.cellsOf 23)) = some _ := f1
  have g2 : DataW.trod enc Tryz.prog w base sp hd n 3 (([c0, c1, c2].drop 2).take (Tryz.prog.cellsOf 3)) = some _ := f2
  rw [cellsS] at g0
  rw [cellsI] at g1
  rw [cellsK] at g2
  obtain ⟨ss, hs1, hs2, hs3, hs4⟩ := trod_strs (c0 := c0) g0
  obtain ⟨is, hi1, hi2⟩ := trod_ints (c0 := c1) g1
  obtain ⟨x, hx, _⟩ := DataW.trod_int Tryz.underlying3 g2
  have hx' : [c2] = [Value.int .i64 x] := hx
  injection hx' with hx'
  subst hx'
  exact ⟨⟨ss, is, x⟩, c0, c1, rfl, ⟨hs1, hi1, hs4⟩, hs2, hs3, hi2⟩
end

end Go.Proofs.YtohalpafmcobpaaGreat

/- Orderings, the model's side: covered terms, weight, TermWeight: contracts, for orderings and terms of at most 1048576 names' bytes and elements. -/
namespace Go.Proofs.YtohalpafmcobpaaGreat
open Go.RowKit
set_option linter.unusedVariables false

/-- The ordering, in its box. -/
def OdB (w : World) (b : Nat) (sv wv : Value) (o : Od) : Prop := Thr w b sv wv (.int .i64 o.va)
theorem OdB.kept {w w' : World} {b : Nat} {sv wv : Value} {o : Od} (h : OdB w b sv wv o) (hb : Below w.heap.size w w') : OdB w' b sv wv o := Thr.kept h hb

def CovS (o : Od) (t : Tm) : Prop := ∀ (w : World) (sv wv va : Value), OdV w sv wv o → TmS w va t.args → t.wt ≤ 1048576 →
  Calls Tryz.prog 76 #[.agg #[sv, wv, .int .i64 o.va], .agg #[.string t.name, va]] w (Ans (.bool (o.cov t)) w)
def WtS (o : Od) (t : Tm) : Prop := ∀ (w : World) (sv wv va : Value), OdV w sv wv o → TmS w va t.args → t.wt ≤ 1048576 → t.sz ≤ 30 → o.cov t = true →
  Calls Tryz.prog 142 #[.agg #[sv, wv, .int .i64 o.va], .agg #[.string t.name, va]] w (Ans (.int .i64 (o.wT t)) w)

set_option maxHeartbeats 2000000 in
theorem covS_of (o : Od) (ho : o.wt ≤ 1048576) (t : Tm) (h : ∀ s ∈ t.args, CovS o s) : CovS o t := by
  intro w sv wv va hv ht hw
  obtain ⟨sa, sc, wa, wc, rfl, rfl⟩ := hv.open
  obtain ⟨a, c, rfl⟩ := ht.is_slice
  have HV := Lib.hid hv
  have HT := Lib.hid ht
  have H := Lib.hid h
  have HL := Lib.hid (fun (s : Tm) (hs : s ∈ t.args) => Nat.le_trans (Tm.wt_arg hs) hw)
  have hlen : t.args.length ≤ 1048576 := Nat.le_trans (Tm.wt_len t) hw
  have CV := Lib.hid (fun W => l2Var_any t.name W (by have := Tm.wt_name t; unfold maxLen; omega))
  obtain ⟨w1, hw1⟩ : ∃ w1, (w.alloc (.cells #[.slice sa o.sy.length sc, .slice wa o.ws.length wc, .int .i64 o.va] 35)).alloc (.cells #[.string t.name, .slice a t.args.length c] 39) = w1 := ⟨_, rfl⟩
  have HB : Hid (Below w.heap.size w w1) := Lib.hid (by rw [← hw1]; exact ((Below.refl w.heap.size w).alloc (Nat.le_refl _) _).alloc (by simp) _)
  have H3 : Hid (OdB w1 w.heap.size (.slice sa o.sy.length sc) (.slice wa o.ws.length wc) o) := Lib.hid (by rw [← hw1]; exact (thr_new w _ _ _ _ _ rfl).alloc _)
  have H2 : Hid (Two w1 (w.heap.size + 1) (.string t.name) (.slice a t.args.length c)) := Lib.hid (by rw [← hw1]; exact two_new _ _ _ 39 (w.heap.size + 1) (by simp))
  have CR := Lib.hid (fun W (hW : Below w.heap.size w W) => l6Rank_any o t.name W _ _ (hv.kept hW) ho)
  have HNC : Hid (o.nodeC t = (varB t.name || decide (0 ≤ rk o.sy t.name))) := Lib.hid rfl
  clear h hv ht
  obtain ⟨b0, b1, b2, b3⟩ := H3.out
  obtain ⟨d0, d1, d2⟩ := H2.out
  cases hvar : varB t.name with
  | true =>
    rw [hvar] at CV
    have HN0 : Hid (o.nodeC t = true) := Lib.hid (by rw [HNC.out, hvar]; rfl)
    clear hvar
    go_enter Tryz.func76, Tryz.ntmps76
    go_wp2_with fail
    refine (CV.out _).mono ?_
    rintro e w2 ⟨rfl, rfl⟩
    clear hw1
    go_wp2
    clear CR CV
    go_loopw [5] (fun i wr => ∃ k : Nat, k ≤ t.args.length ∧ i = .int .i64 k ∧ o.covL (t.args.take k) = true ∧ OdB wr w.heap.size (.slice sa o.sy.length sc) (.slice wa o.ws.length wc) o ∧ Two wr (w.heap.size + 1) (.string t.name) (.slice a t.args.length c) ∧ Below w.heap.size w wr) (fun i _ => t.args.length - (intOf i).toNat)
    case atStart => exact ⟨0, Nat.zero_le _, rfl, rfl, H3.out, H2.out, HB.out⟩
    case round =>
      obtain ⟨k, hk, rfl, hq, h3, h2, hb⟩ := hrel
      have HQ := Lib.hid hq
      have HR3 := Lib.hid h3
      have HR2 := Lib.hid h2
      have HBR := Lib.hid hb
      clear hq b0 b1 b2 b3 d0 d1 d2
      obtain ⟨b0, b1, b2, b3⟩ := h3
      obtain ⟨d0, d1, d2⟩ := h2
      by_cases hlt : k < t.args.length
      · obtain ⟨s, hs⟩ : ∃ s, t.args[k]? = some s := ⟨_, List.getElem?_eq_getElem hlt⟩
        obtain ⟨b, off, rfl, va, c0, c1, hva⟩ := HT.out.get hs
        obtain ⟨pa, ca, rfl⟩ := hva.is_slice
        have c0' := carry_cell c0 hb
        have c1' := carry_cell c1 hb
        have HM := Lib.hid (mem_of_at hs)
        have HN := Lib.hid (o.covL_next hs)
        have CC := Lib.hid (fun W (hW : Below wr.heap.size wr W) => H.out s (mem_of_at hs) W _ _ _ (HV.out.kept (carry_below hb (Nat.le_refl _) hW)) (hva.kept (carry_below hb (Nat.le_refl _) hW)) (HL.out s (mem_of_at hs)))
        have hB0 : Below wr.heap.size wr wr.drew := (Below.refl _ _).drew
        clear hs c0 c1 hva hb
        cases hc : o.cov s with
        | false =>
          rw [hc] at CC
          have HE : Hid (o.cov t = false) := Lib.hid (Od.cov_no HM.out hc)
          clear hc
          go_wp2_with fail
          go_region_held3 (fun w' => w'.cell? ⟨w.heap.size, 0, none⟩ = some (.slice sa o.sy.length sc) ∧ w'.cell? ⟨w.heap.size, 1, none⟩ = some (.slice wa o.ws.length wc) ∧ w'.cell? ⟨w.heap.size, 2, none⟩ = some (.int .i64 o.va) ∧ w'.cell? ⟨w.heap.size + 1, 1, none⟩ = some (.slice (some ⟨b, off, none⟩) t.args.length c) ∧ w'.cell? ⟨b, off + k * 2, none⟩ = some (.string s.name) ∧ w'.cell? ⟨b, off + k * 2 + 1, none⟩ = some (.slice pa s.args.length ca) ∧ Below wr.heap.size wr w') (first | exact ⟨by assumption, by assumption, by assumption, by assumption, by assumption, by assumption, by assumption⟩ | go_keep) (first | (go_at_call 76; refine (CC.out _ hB0).mono ?_; rintro e w3 ⟨rfl, hb⟩; have q0 : w3.cell? ⟨w.heap.size, 0, none⟩ = some (.slice sa o.sy.length sc) := carry_cell' hb (by assumption); have q1 : w3.cell? ⟨w.heap.size, 1, none⟩ = some (.slice wa o.ws.length wc) := carry_cell' hb (by assumption); have q2 : w3.cell? ⟨w.heap.size, 2, none⟩ = some (.int .i64 o.va) := carry_cell' hb (by assumption); have q3 : w3.cell? ⟨w.heap.size + 1, 1, none⟩ = some (.slice (some ⟨b, off, none⟩) t.args.length c) := carry_cell' hb (by assumption); have q4 : w3.cell? ⟨b, off + k * 2, none⟩ = some (.string s.name) := carry_cell' hb (by assumption); have q5 : w3.cell? ⟨b, off + k * 2 + 1, none⟩ = some (.slice pa s.args.length ca) := carry_cell' hb (by assumption); have hB3 := carry_below hB0 (Nat.le_refl _) hb; clear hb))
          have hb := hB3
          clear hB3 hB0 q0 q1 q2 q3 q4 q5
          have HB3 := Lib.hid (carry_below HBR.out (Nat.le_refl _) hb)
          clear hb
          go_wp2
          go_ret
          exact ⟨ret_bool HE.out.symm, HB3.out⟩
        | true =>
          rw [hc] at CC
          have HN2 : Hid (o.covL (t.args.take (k + 1)) = true) := Lib.hid (by rw [HN.out, HQ.out, hc]; rfl)
          clear hc
          go_wp2_with fail
          go_region_held3 (fun w' => w'.cell? ⟨w.heap.size, 0, none⟩ = some (.slice sa o.sy.length sc) ∧ w'.cell? ⟨w.heap.size, 1, none⟩ = some (.slice wa o.ws.length wc) ∧ w'.cell? ⟨w.heap.size, 2, none⟩ = some (.int .i64 o.va) ∧ w'.cell? ⟨w.heap.size + 1, 1, none⟩ = some (.slice (some ⟨b, off, none⟩) t.args.length c) ∧ w'.cell? ⟨b, off + k * 2, none⟩ = some (.string s.name) ∧ w'.cell? ⟨b, off + k * 2 + 1, none⟩ = some (.slice pa s.args.length ca) ∧ Below wr.heap.size wr w') (first | exact ⟨by assumption, by assumption, by assumption, by assumption, by assumption, by assumption, by assumption⟩ | go_keep) (first | (go_at_call 76; refine (CC.out _ hB0).mono ?_; rintro e w3 ⟨rfl, hb⟩; have q0 : w3.cell? ⟨w.heap.size, 0, none⟩ = some (.slice sa o.sy.length sc) := carry_cell' hb (by assumption); have q1 : w3.cell? ⟨w.heap.size, 1, none⟩ = some (.slice wa o.ws.length wc) := carry_cell' hb (by assumption); have q2 : w3.cell? ⟨w.heap.size, 2, none⟩ = some (.int .i64 o.va) := carry_cell' hb (by assumption); have q3 : w3.cell? ⟨w.heap.size + 1, 1, none⟩ = some (.slice (some ⟨b, off, none⟩) t.args.length c) := carry_cell' hb (by assumption); have q4 : w3.cell? ⟨b, off + k * 2, none⟩ = some (.string s.name) := carry_cell' hb (by assumption); have q5 : w3.cell? ⟨b, off + k * 2 + 1, none⟩ = some (.slice pa s.args.length ca) := carry_cell' hb (by assumption); have hB3 := carry_below hB0 (Nat.le_refl _) hb; clear hb))
          have hb := hB3
          clear hB3 hB0 q0 q1 q2 q3 q4 q5
          have HB3 := Lib.hid (carry_below HBR.out (Nat.le_refl _) hb)
          have HR4 := Lib.hid (HR3.out.kept hb)
          have HR5 := Lib.hid (HR2.out.kept hb)
          clear hb
          go_wp2
          go_roundw
          case rel => exact ⟨k + 1, by omega, by go_num, HN2.out, HR4.out, HR5.out, HB3.out⟩
          case measure => simp [intOf]; omega
      · have HE : Hid (o.cov t = true) := Lib.hid (by
          have e := HQ.out
          rw [List.take_of_length_le (by omega)] at e
          rw [o.cov_eq, HN0.out, e]; rfl)
        go_wp2
        go_ret
        exact ⟨ret_bool HE.out.symm, HBR.out⟩
  | false =>
    rw [hvar] at CV
    have HNC2 : Hid (o.nodeC t = decide (0 ≤ rk o.sy t.name)) := Lib.hid (by rw [HNC.out, hvar]; rfl)
    clear hvar
    rcases rk_ways o.sy t.name with ⟨r1, r2⟩ | ⟨r, r1, r2, r3⟩
    · rw [r2] at CR HNC2
      have HE : Hid (o.cov t = false) := Lib.hid (by rw [o.cov_eq, HNC2.out]; rfl)
      clear r1 r2
      go_enter Tryz.func76, Tryz.ntmps76
      go_wp2_with fail
      refine (CV.out _).mono ?_
      rintro e w2 ⟨rfl, rfl⟩
      clear hw1
      go_wp2_with fail
      refine (CR.out _ HB.out).mono ?_
      rintro e w2 ⟨rfl, hb⟩
      have HB2 := Lib.hid (carry_below HB.out (Nat.le_refl _) hb)
      clear hb
      go_wp2
      go_ret
      exact ⟨ret_bool HE.out.symm, HB2.out⟩
    · rw [r1] at CR HNC2
      have HN0 : Hid (o.nodeC t = true) := Lib.hid (by rw [HNC2.out]; exact decide_eq_true (by omega))
      clear r1 r3
      go_enter Tryz.func76, Tryz.ntmps76
      go_wp2_with fail
      refine (CV.out _).mono ?_
      rintro e w2 ⟨rfl, rfl⟩
      clear hw1
      go_wp2_with fail
      refine (CR.out _ HB.out).mono ?_
      rintro e w2 ⟨rfl, hb⟩
      replace HB := Lib.hid (carry_below HB.out (Nat.le_refl _) hb)
      replace H3 := Lib.hid (H3.out.kept hb)
      replace H2 := Lib.hid (H2.out.kept hb)
      clear hb b0 b1 b2 b3 d0 d1 d2
      obtain ⟨b0, b1, b2, b3⟩ := H3.out
      obtain ⟨d0, d1, d2⟩ := H2.out
      go_wp2
      clear CR CV
      go_loopw [5] (fun i wr => ∃ k : Nat, k ≤ t.args.length ∧ i = .int .i64 k ∧ o.covL (t.args.take k) = true ∧ OdB wr w.heap.size (.slice sa o.sy.length sc) (.slice wa o.ws.length wc) o ∧ Two wr (w.heap.size + 1) (.string t.name) (.slice a t.args.length c) ∧ Below w.heap.size w wr) (fun i _ => t.args.length - (intOf i).toNat)
      case atStart => exact ⟨0, Nat.zero_le _, rfl, rfl, H3.out, H2.out, HB.out⟩
      case round =>
        obtain ⟨k, hk, rfl, hq, h3, h2, hb⟩ := hrel
        have HQ := Lib.hid hq
        have HR3 := Lib.hid h3
        have HR2 := Lib.hid h2
        have HBR := Lib.hid hb
        clear hq b0 b1 b2 b3 d0 d1 d2
        obtain ⟨b0, b1, b2, b3⟩ := h3
        obtain ⟨d0, d1, d2⟩ := h2
        by_cases hlt : k < t.args.length
        · obtain ⟨s, hs⟩ : ∃ s, t.args[k]? = some s := ⟨_, List.getElem?_eq_getElem hlt⟩
          obtain ⟨b, off, rfl, va, c0, c1, hva⟩ := HT.out.get hs
          obtain ⟨pa, ca, rfl⟩ := hva.is_slice
          have c0' := carry_cell c0 hb
          have c1' := carry_cell c1 hb
          have HM := Lib.hid (mem_of_at hs)
          have HN := Lib.hid (o.covL_next hs)
          have CC := Lib.hid (fun W (hW : Below wr.heap.size wr W) => H.out s (mem_of_at hs) W _ _ _ (HV.out.kept (carry_below hb (Nat.le_refl _) hW)) (hva.kept (carry_below hb (Nat.le_refl _) hW)) (HL.out s (mem_of_at hs)))
          have hB0 : Below wr.heap.size wr wr.drew := (Below.refl _ _).drew
          clear hs c0 c1 hva hb
          cases hc : o.cov s with
          | false =>
            rw [hc] at CC
            have HE : Hid (o.cov t = false) := Lib.hid (Od.cov_no HM.out hc)
            clear hc
            go_wp2_with fail
            go_region_held3 (fun w' => w'.cell? ⟨w.heap.size, 0, none⟩ = some (.slice sa o.sy.length sc) ∧ w'.cell? ⟨w.heap.size, 1, none⟩ = some (.slice wa o.ws.length wc) ∧ w'.cell? ⟨w.heap.size, 2, none⟩ = some (.int .i64 o.va) ∧ w'.cell? ⟨w.heap.size + 1, 1, none⟩ = some (.slice (some ⟨b, off, none⟩) t.args.length c) ∧ w'.cell? ⟨b, off + k * 2, none⟩ = some (.string s.name) ∧ w'.cell? ⟨b, off + k * 2 + 1, none⟩ = some (.slice pa s.args.length ca) ∧ Below wr.heap.size wr w') (first | exact ⟨by assumption, by assumption, by assumption, by assumption, by assumption, by assumption, by assumption⟩ | go_keep) (first | (go_at_call 76; refine (CC.out _ hB0).mono ?_; rintro e w3 ⟨rfl, hb⟩; have q0 : w3.cell? ⟨w.heap.size, 0, none⟩ = some (.slice sa o.sy.length sc) := carry_cell' hb (by assumption); have q1 : w3.cell? ⟨w.heap.size, 1, none⟩ = some (.slice wa o.ws.length wc) := carry_cell' hb (by assumption); have q2 : w3.cell? ⟨w.heap.size, 2, none⟩ = some (.int .i64 o.va) := carry_cell' hb (by assumption); have q3 : w3.cell? ⟨w.heap.size + 1, 1, none⟩ = some (.slice (some ⟨b, off, none⟩) t.args.length c) := carry_cell' hb (by assumption); have q4 : w3.cell? ⟨b, off + k * 2, none⟩ = some (.string s.name) := carry_cell' hb (by assumption); have q5 : w3.cell? ⟨b, off + k * 2 + 1, none⟩ = some (.slice pa s.args.length ca) := carry_cell' hb (by assumption); have hB3 := carry_below hB0 (Nat.le_refl _) hb; clear hb))
            have hb := hB3
            clear hB3 hB0 q0 q1 q2 q3 q4 q5
            have HB3 := Lib.hid (carry_below HBR.out (Nat.le_refl _) hb)
            clear hb
            go_wp2
            go_ret
            exact ⟨ret_bool HE.out.symm, HB3.out⟩
          | true =>
            rw [hc] at CC
            have HN2 : Hid (o.covL (t.args.take (k + 1)) = true) := Lib.hid (by rw [HN.out, HQ.out, hc]; rfl)
            clear hc
            go_wp2_with fail
            go_region_held3 (fun w' => w'.cell? ⟨w.heap.size, 0, none⟩ = some (.slice sa o.sy.length sc) ∧ w'.cell? ⟨w.heap.size, 1, none⟩ = some (.slice wa o.ws.length wc) ∧ w'.cell? ⟨w.heap.size, 2, none⟩ = some (.int .i64 o.va) ∧ w'.cell? ⟨w.heap.size + 1, 1, none⟩ = some (.slice (some ⟨b, off, none⟩) t.args.length c) ∧ w'.cell? ⟨b, off + k * 2, none⟩ = some (.string s.name) ∧ w'.cell? ⟨b, off + k * 2 + 1, none⟩ = some (.slice pa s.args.length ca) ∧ Below wr.heap.size wr w') (first | exact ⟨by assumption, by assumption, by assumption, by assumption, by assumption, by assumption, by assumption⟩ | go_keep) (first | (go_at_call 76; refine (CC.out _ hB0).mono ?_; rintro e w3 ⟨rfl, hb⟩; have q0 : w3.cell? ⟨w.heap.size, 0, none⟩ = some (.slice sa o.sy.length sc) := carry_cell' hb (by assumption); have q1 : w3.cell? ⟨w.heap.size, 1, none⟩ = some (.slice wa o.ws.length wc) := carry_cell' hb (by assumption); have q2 : w3.cell? ⟨w.heap.size, 2, none⟩ = some (.int .i64 o.va) := carry_cell' hb (by assumption); have q3 : w3.cell? ⟨w.heap.size + 1, 1, none⟩ = some (.slice (some ⟨b, off, none⟩) t.args.length c) := carry_cell' hb (by assumption); have q4 : w3.cell? ⟨b, off + k * 2, none⟩ = some (.string s.name) := carry_cell' hb (by assumption); have q5 : w3.cell? ⟨b, off + k * 2 + 1, none⟩ = some (.slice pa s.args.length ca) := carry_cell' hb (by assumption); have hB3 := carry_below hB0 (Nat.le_refl _) hb; clear hb))
            have hb := hB3
            clear hB3 hB0 q0 q1 q2 q3 q4 q5
            have HB3 := Lib.hid (carry_below HBR.out (Nat.le_refl _) hb)
            have HR4 := Lib.hid (HR3.out.kept hb)
            have HR5 := Lib.hid (HR2.out.kept hb)
            clear hb
            go_wp2
            go_roundw
            case rel => exact ⟨k + 1, by omega, by go_num, HN2.out, HR4.out, HR5.out, HB3.out⟩
            case measure => simp [intOf]; omega
        · have HE : Hid (o.cov t = true) := Lib.hid (by
            have e := HQ.out
            rw [List.take_of_length_le (by omega)] at e
            rw [o.cov_eq, HN0.out, e]; rfl)
          go_wp2
          go_ret
          exact ⟨ret_bool HE.out.symm, HBR.out⟩

theorem l6Covers_any (o : Od) (ho : o.wt ≤ 1048576) (t : Tm) : CovS o t := Tm.ind (P := CovS o) (covS_of o ho) t

set_option maxHeartbeats 2000000 in
theorem wtS_of (o : Od) (ho : o.wt ≤ 1048576) (hf : o.Fine) (t : Tm) (h : ∀ s ∈ t.args, WtS o s) : WtS o t := by
  intro w sv wv va hv ht hw hz hcov
  obtain ⟨sa, sc, wa, wc, rfl, rfl⟩ := hv.open
  obtain ⟨a, c, rfl⟩ := ht.is_slice
  have HV := Lib.hid hv
  have HT := Lib.hid ht
  have H := Lib.hid h
  have HL := Lib.hid (fun (s : Tm) (hs : s ∈ t.args) => Nat.le_trans (Tm.wt_arg hs) hw)
  have hlen : t.args.length ≤ 1048576 := Nat.le_trans (Tm.wt_len t) hw
  have CV := Lib.hid (fun W => l2Var_any t.name W (by have := Tm.wt_name t; unfold maxLen; omega))
  obtain ⟨w1, hw1⟩ : ∃ w1, (w.alloc (.cells #[.slice sa o.sy.length sc, .slice wa o.ws.length wc, .int .i64 o.va] 35)).alloc (.cells #[.string t.name, .slice a t.args.length c] 39) = w1 := ⟨_, rfl⟩
  have HB : Hid (Below w.heap.size w w1) := Lib.hid (by rw [← hw1]; exact ((Below.refl w.heap.size w).alloc (Nat.le_refl _) _).alloc (by simp) _)
  have H3 : Hid (OdB w1 w.heap.size (.slice sa o.sy.length sc) (.slice wa o.ws.length wc) o) := Lib.hid (by rw [← hw1]; exact (thr_new w _ _ _ _ _ rfl).alloc _)
  have H2 : Hid (Two w1 (w.heap.size + 1) (.string t.name) (.slice a t.args.length c)) := Lib.hid (by rw [← hw1]; exact two_new _ _ _ 39 (w.heap.size + 1) (by simp))
  have CR := Lib.hid (fun W (hW : Below w.heap.size w W) => l6Rank_any o t.name W _ _ (hv.kept hW) ho)
  have HF := Lib.hid hf
  have HZ := Lib.hid hz
  have HC := Lib.hid hcov
  have HSZ : Hid ((Tm.ndsL t.args).length ≤ 30) := Lib.hid (by have := Tm.nds_len t; rw [t.nds_eq] at this; simp at this; omega)
  have HX : Hid (varB t.name = true ∨ 0 ≤ rk o.sy t.name) := Lib.hid (by
    have e := hcov
    rw [o.cov_eq, Bool.and_eq_true] at e
    have e := e.1
    unfold Od.nodeC at e
    rw [Bool.or_eq_true, decide_eq_true_iff] at e
    exact e)
  clear h hv ht
  obtain ⟨b0, b1, b2, b3⟩ := H3.out
  obtain ⟨d0, d1, d2⟩ := H2.out
  clear hf hz hcov
  cases hvar : varB t.name with
  | true =>
    rw [hvar] at CV
    have HN0 : Hid (o.wN t = o.va) := Lib.hid (by unfold Od.wN; rw [hvar]; rfl)
    clear hvar
    go_enter Tryz.func142, Tryz.ntmps142
    go_wp2_with fail
    refine (CV.out _).mono ?_
    rintro e w2 ⟨rfl, rfl⟩
    clear hw1
    go_wp2
    clear CR CV
    go_loopw [5, 6] (fun n i wr => ∃ (k : Nat) (q : Int), k ≤ t.args.length ∧ i = .int .i64 k ∧ n = .int .i64 q ∧ q = o.wN t + o.wNs (Tm.ndsL (t.args.take k)) ∧ OdB wr w.heap.size (.slice sa o.sy.length sc) (.slice wa o.ws.length wc) o ∧ Two wr (w.heap.size + 1) (.string t.name) (.slice a t.args.length c) ∧ Below w.heap.size w wr) (fun _ i _ => t.args.length - (intOf i).toNat)
    case atStart => exact ⟨0, _, Nat.zero_le _, rfl, rfl, by rw [HN0.out]; simp [Tm.ndsL, Od.wNs], H3.out, H2.out, HB.out⟩
    case round =>
      obtain ⟨k, q, hk, rfl, rfl, hq, h3, h2, hb⟩ := hrel
      have HQ := Lib.hid hq
      have HR3 := Lib.hid h3
      have HR2 := Lib.hid h2
      have HBR := Lib.hid hb
      have hq1 : 0 ≤ q ∧ q ≤ 3100 := by
        have h1 := HF.out.wN_le t
        have h2 := HF.out.wNs_le (Tm.ndsL (t.args.take k))
        have h3 := Tm.ndsL_len t.args k
        have h4 := HSZ.out
        omega
      clear hq b0 b1 b2 b3 d0 d1 d2
      obtain ⟨b0, b1, b2, b3⟩ := h3
      obtain ⟨d0, d1, d2⟩ := h2
      by_cases hlt : k < t.args.length
      · obtain ⟨s, hs⟩ : ∃ s, t.args[k]? = some s := ⟨_, List.getElem?_eq_getElem hlt⟩
        obtain ⟨b, off, rfl, va, c0, c1, hva⟩ := HT.out.get hs
        obtain ⟨pa, ca, rfl⟩ := hva.is_slice
        have c0' := carry_cell c0 hb
        have c1' := carry_cell c1 hb
        have HN := Lib.hid (o.wNs_next hs)
        have hss : s.sz ≤ 30 := by have := sumL_mem (f := Tm.sz) (mem_of_at hs); have := t.sz_eq; have := HZ.out; omega
        have hws := HF.out.wT_le s
        have CC := Lib.hid (fun W (hW : Below wr.heap.size wr W) => H.out s (mem_of_at hs) W _ _ _ (HV.out.kept (carry_below hb (Nat.le_refl _) hW)) (hva.kept (carry_below hb (Nat.le_refl _) hW)) (HL.out s (mem_of_at hs)) hss (Od.cov_arg HC.out (mem_of_at hs)))
        have hB0 : Below wr.heap.size wr wr.drew := (Below.refl _ _).drew
        clear hs c0 c1 hva hb
        go_wp2_with fail
        go_region_held3 (fun w' => w'.cell? ⟨w.heap.size, 0, none⟩ = some (.slice sa o.sy.length sc) ∧ w'.cell? ⟨w.heap.size, 1, none⟩ = some (.slice wa o.ws.length wc) ∧ w'.cell? ⟨w.heap.size, 2, none⟩ = some (.int .i64 o.va) ∧ w'.cell? ⟨w.heap.size + 1, 1, none⟩ = some (.slice (some ⟨b, off, none⟩) t.args.length c) ∧ w'.cell? ⟨b, off + k * 2, none⟩ = some (.string s.name) ∧ w'.cell? ⟨b, off + k * 2 + 1, none⟩ = some (.slice pa s.args.length ca) ∧ Below wr.heap.size wr w') (first | exact ⟨by assumption, by assumption, by assumption, by assumption, by assumption, by assumption, by assumption⟩ | go_keep) (first | (go_at_call 142; refine (CC.out _ hB0).mono ?_; rintro e w3 ⟨rfl, hb⟩; have q0 : w3.cell? ⟨w.heap.size, 0, none⟩ = some (.slice sa o.sy.length sc) := carry_cell' hb (by assumption); have q1 : w3.cell? ⟨w.heap.size, 1, none⟩ = some (.slice wa o.ws.length wc) := carry_cell' hb (by assumption); have q2 : w3.cell? ⟨w.heap.size, 2, none⟩ = some (.int .i64 o.va) := carry_cell' hb (by assumption); have q3 : w3.cell? ⟨w.heap.size + 1, 1, none⟩ = some (.slice (some ⟨b, off, none⟩) t.args.length c) := carry_cell' hb (by assumption); have q4 : w3.cell? ⟨b, off + k * 2, none⟩ = some (.string s.name) := carry_cell' hb (by assumption); have q5 : w3.cell? ⟨b, off + k * 2 + 1, none⟩ = some (.slice pa s.args.length ca) := carry_cell' hb (by assumption); have hB3 := carry_below hB0 (Nat.le_refl _) hb; clear hb))
        have hb := hB3
        clear hB3 hB0 q0 q1 q2 q3 q4 q5
        have HB3 := Lib.hid (carry_below HBR.out (Nat.le_refl _) hb)
        have HR4 := Lib.hid (HR3.out.kept hb)
        have HR5 := Lib.hid (HR2.out.kept hb)
        clear hb
        go_wp2
        go_roundw
        case rel => exact ⟨k + 1, q + o.wT s, by omega, by go_num, by rw [IntWalk.i64_in _ (by omega)], by rw [HN.out, HQ.out]; omega, HR4.out, HR5.out, HB3.out⟩
        case measure => simp [intOf]; omega
      · have HE : Hid (o.wT t = q) := Lib.hid (by
          have e := HQ.out
          rw [List.take_of_length_le (by omega)] at e
          rw [o.wT_eq, e])
        go_wp2
        go_ret
        exact ⟨ret_int HE.out.symm, HBR.out⟩
  | false =>
    rw [hvar] at CV
    have HR0 : Hid (0 ≤ rk o.sy t.name) := Lib.hid (by rcases HX.out with h | h; rw [hvar] at h; cases h; exact h)
    rcases rk_ways o.sy t.name with ⟨r1, r2⟩ | ⟨r, r1, r2, r3⟩
    · exact absurd HR0.out (by rw [r2]; omega)
    · have hwr : r < o.ws.length := by have := HF.out.wn; omega
      obtain ⟨x, hx⟩ : ∃ x, o.ws[r]? = some x := ⟨_, List.getElem?_eq_getElem hwr⟩
      have HN0 : Hid (o.wN t = x) := Lib.hid (by
        unfold Od.wN
        rw [hvar, if_neg (by simp), if_pos HR0.out, r1, Int.toNat_natCast, getD_atI hx])
      have HXX := Lib.hid hx
      rw [r1] at CR
      obtain ⟨xb, xo, rfl, hxc⟩ := (IntG.of HV.out.is).below HB.out r x HXX.out
      have CR2 := Lib.hid (fun W (hW : Below w1.heap.size w1 W) => CR.out W (carry_below HB.out (Nat.le_refl _) hW))
      clear r1 r3 hvar hx
      go_enter Tryz.func142, Tryz.ntmps142
      go_wp2_with fail
      refine (CV.out _).mono ?_
      rintro e w2 ⟨rfl, rfl⟩
      clear hw1
      go_wp2_with fail
      have hB0 : Below w1.heap.size w1 w1.drew := (Below.refl _ _).drew
      go_region_held3 (fun w' => w'.cell? ⟨w.heap.size, 0, none⟩ = some (.slice sa o.sy.length sc) ∧ w'.cell? ⟨w.heap.size, 1, none⟩ = some (.slice (some ⟨xb, xo, none⟩) o.ws.length wc) ∧ w'.cell? ⟨w.heap.size, 2, none⟩ = some (.int .i64 o.va) ∧ w'.cell? ⟨w.heap.size + 1, 0, none⟩ = some (.string t.name) ∧ w'.cell? ⟨xb, xo + r, none⟩ = some (.int .i64 x) ∧ Below w1.heap.size w1 w') (first | exact ⟨by assumption, by assumption, by assumption, by assumption, by assumption, by assumption⟩ | go_keep) (first | (go_at_call 114; refine (CR2.out _ hB0).mono ?_; rintro e w3 ⟨rfl, hb⟩; have q0 : w3.cell? ⟨w.heap.size, 0, none⟩ = some (.slice sa o.sy.length sc) := carry_cell' hb (by assumption); have q1 : w3.cell? ⟨w.heap.size, 1, none⟩ = some (.slice (some ⟨xb, xo, none⟩) o.ws.length wc) := carry_cell' hb (by assumption); have q2 : w3.cell? ⟨w.heap.size, 2, none⟩ = some (.int .i64 o.va) := carry_cell' hb (by assumption); have q3 : w3.cell? ⟨w.heap.size + 1, 0, none⟩ = some (.string t.name) := carry_cell' hb (by assumption); have q4 : w3.cell? ⟨xb, xo + r, none⟩ = some (.int .i64 x) := carry_cell' hb (by assumption); have hB3 := carry_below hB0 (Nat.le_refl _) hb; clear hb))
      have hb := hB3
      clear hB3 hB0 q0 q1 q2 q3 q4
      replace HB := Lib.hid (carry_below HB.out (Nat.le_refl _) hb)
      replace H3 := Lib.hid (H3.out.kept hb)
      replace H2 := Lib.hid (H2.out.kept hb)
      clear hb hxc b0 b1 b2 b3 d0 d1 d2
      obtain ⟨b0, b1, b2, b3⟩ := H3.out
      obtain ⟨d0, d1, d2⟩ := H2.out
      go_wp2
      clear CR CV
      go_loopw [5, 6] (fun n i wr => ∃ (k : Nat) (q : Int), k ≤ t.args.length ∧ i = .int .i64 k ∧ n = .int .i64 q ∧ q = o.wN t + o.wNs (Tm.ndsL (t.args.take k)) ∧ OdB wr w.heap.size (.slice sa o.sy.length sc) (.slice (some ⟨xb, xo, none⟩) o.ws.length wc) o ∧ Two wr (w.heap.size + 1) (.string t.name) (.slice a t.args.length c) ∧ Below w.heap.size w wr) (fun _ i _ => t.args.length - (intOf i).toNat)
      case atStart => exact ⟨0, _, Nat.zero_le _, rfl, rfl, by rw [HN0.out]; simp [Tm.ndsL, Od.wNs], H3.out, H2.out, HB.out⟩
      case round =>
        obtain ⟨k, q, hk, rfl, rfl, hq, h3, h2, hb⟩ := hrel
        have HQ := Lib.hid hq
        have HR3 := Lib.hid h3
        have HR2 := Lib.hid h2
        have HBR := Lib.hid hb
        have hq1 : 0 ≤ q ∧ q ≤ 3100 := by
          have h1 := HF.out.wN_le t
          have h2 := HF.out.wNs_le (Tm.ndsL (t.args.take k))
          have h3 := Tm.ndsL_len t.args k
          have h4 := HSZ.out
          omega
        clear hq b0 b1 b2 b3 d0 d1 d2
        obtain ⟨b0, b1, b2, b3⟩ := h3
        obtain ⟨d0, d1, d2⟩ := h2
        by_cases hlt : k < t.args.length
        · obtain ⟨s, hs⟩ : ∃ s, t.args[k]? = some s := ⟨_, List.getElem?_eq_getElem hlt⟩
          obtain ⟨b, off, rfl, va, c0, c1, hva⟩ := HT.out.get hs
          obtain ⟨pa, ca, rfl⟩ := hva.is_slice
          have c0' := carry_cell c0 hb
          have c1' := carry_cell c1 hb
          have HN := Lib.hid (o.wNs_next hs)
          have hss : s.sz ≤ 30 := by have := sumL_mem (f := Tm.sz) (mem_of_at hs); have := t.sz_eq; have := HZ.out; omega
          have hws := HF.out.wT_le s
          have CC := Lib.hid (fun W (hW : Below wr.heap.size wr W) => H.out s (mem_of_at hs) W _ _ _ (HV.out.kept (carry_below hb (Nat.le_refl _) hW)) (hva.kept (carry_below hb (Nat.le_refl _) hW)) (HL.out s (mem_of_at hs)) hss (Od.cov_arg HC.out (mem_of_at hs)))
          have hB0 : Below wr.heap.size wr wr.drew := (Below.refl _ _).drew
          clear hs c0 c1 hva hb
          go_wp2_with fail
          go_region_held3 (fun w' => w'.cell? ⟨w.heap.size, 0, none⟩ = some (.slice sa o.sy.length sc) ∧ w'.cell? ⟨w.heap.size, 1, none⟩ = some (.slice (some ⟨xb, xo, none⟩) o.ws.length wc) ∧ w'.cell? ⟨w.heap.size, 2, none⟩ = some (.int .i64 o.va) ∧ w'.cell? ⟨w.heap.size + 1, 1, none⟩ = some (.slice (some ⟨b, off, none⟩) t.args.length c) ∧ w'.cell? ⟨b, off + k * 2, none⟩ = some (.string s.name) ∧ w'.cell? ⟨b, off + k * 2 + 1, none⟩ = some (.slice pa s.args.length ca) ∧ Below wr.heap.size wr w') (first | exact ⟨by assumption, by assumption, by assumption, by assumption, by assumption, by assumption, by assumption⟩ | go_keep) (first | (go_at_call 142; refine (CC.out _ hB0).mono ?_; rintro e w3 ⟨rfl, hb⟩; have q0 : w3.cell? ⟨w.heap.size, 0, none⟩ = some (.slice sa o.sy.length sc) := carry_cell' hb (by assumption); have q1 : w3.cell? ⟨w.heap.size, 1, none⟩ = some (.slice (some ⟨xb, xo, none⟩) o.ws.length wc) := carry_cell' hb (by assumption); have q2 : w3.cell? ⟨w.heap.size, 2, none⟩ = some (.int .i64 o.va) := carry_cell' hb (by assumption); have q3 : w3.cell? ⟨w.heap.size + 1, 1, none⟩ = some (.slice (some ⟨b, off, none⟩) t.args.length c) := carry_cell' hb (by assumption); have q4 : w3.cell? ⟨b, off + k * 2, none⟩ = some (.string s.name) := carry_cell' hb (by assumption); have q5 : w3.cell? ⟨b, off + k * 2 + 1, none⟩ = some (.slice pa s.args.length ca) := carry_cell' hb (by assumption); have hB3 := carry_below hB0 (Nat.le_refl _) hb; clear hb))
          have hb := hB3
          clear hB3 hB0 q0 q1 q2 q3 q4 q5
          have HB3 := Lib.hid (carry_below HBR.out (Nat.le_refl _) hb)
          have HR4 := Lib.hid (HR3.out.kept hb)
          have HR5 := Lib.hid (HR2.out.kept hb)
          clear hb
          go_wp2
          go_roundw
          case rel => exact ⟨k + 1, q + o.wT s, by omega, by go_num, by rw [IntWalk.i64_in _ (by omega)], by rw [HN.out, HQ.out]; omega, HR4.out, HR5.out, HB3.out⟩
          case measure => simp [intOf]; omega
        · have HE : Hid (o.wT t = q) := Lib.hid (by
            have e := HQ.out
            rw [List.take_of_length_le (by omega)] at e
            rw [o.wT_eq, e])
          go_wp2
          go_ret
          exact ⟨ret_int HE.out.symm, HBR.out⟩

theorem l6Weight_any (o : Od) (ho : o.wt ≤ 1048576) (hf : o.Fine) (t : Tm) : WtS o t := Tm.ind (P := WtS o) (wtS_of o ho hf) t

end Go.Proofs.YtohalpafmcobpaaGreat

/- What a law's walk carries of an ordering of its own, and its marks. No condition. -/
namespace Go.Proofs.YtohalpafmcobpaaGreat
open Go.RowKit
set_option linter.unusedVariables false

def OdI (w : World) (lo hi : Nat) (sv wv : Value) (o : Od) : Prop := ∃ mid, OdO w lo mid hi sv wv o
theorem OdI.fresh {w w' : World} {mid : Nat} {sv wv : Value} {o : Od} (h : OdO w' w.heap.size mid w'.heap.size sv wv o) : OdI w' w.heap.size w'.heap.size sv wv o := ⟨mid, h⟩
theorem OdI.freshAt {w w' : World} {mid : Nat} {sv wv : Value} {o : Od} (h : OdO w' w.heap.size mid w'.heap.size sv wv o) {n : Nat} (e : w.heap.size = n) : OdI w' n w'.heap.size sv wv o := e ▸ OdI.fresh h
theorem OdI.kept {w w' : World} {lo hi : Nat} {sv wv : Value} {o : Od} (h : OdI w lo hi sv wv o) (hb : Below w.heap.size w w') : OdI w' lo hi sv wv o := by
  obtain ⟨mid, h⟩ := h; exact ⟨mid, h.kept hb⟩
theorem OdI.outside {a b : World} {lo hi lo' hi' : Nat} {sv wv : Value} {o : Od} (h : OdI a lo hi sv wv o) (ho : Outside (Ivl lo' hi') a b) (hd : hi ≤ lo' ∨ hi' ≤ lo) : OdI b lo hi sv wv o := by
  obtain ⟨mid, h1, h2, h3, h4, h5⟩ := h
  refine ⟨mid, h1.outside ho (by omega), h2.frame fun k hk => ho.block k (by have := hk.2; omega) (fun hk' => by have := hk.1; have := hk.2; have := hk'.1; have := hk'.2; omega), Nat.le_trans h3 ho.size, h4, h5⟩
theorem OdI.read {w : World} {lo hi : Nat} {sv wv : Value} {o : Od} (h : OdI w lo hi sv wv o) : OdV w sv wv o := by
  obtain ⟨mid, h⟩ := h; exact h.read

theorem Thr.outside {a b : World} {g lo hi : Nat} {x y z : Value} (h : Thr a g x y z) (ho : Outside (Ivl lo hi) a b) (hd : g < lo ∨ hi ≤ g) : Thr b g x y z := by
  have hlt : g < a.heap.size := World.block_lt_of_cell? a ⟨g, 0, none⟩ h.1
  have e : b.heap[g]? = a.heap[g]? := ho.block g hlt (fun hk => by have := hk.1; have := hk.2; omega)
  exact ⟨(World.cell?_of_block (a := ⟨g, 0, none⟩) (w := a) e).trans h.1, (World.cell?_of_block (a := ⟨g, 1, none⟩) (w := a) e).trans h.2.1, (World.cell?_of_block (a := ⟨g, 2, none⟩) (w := a) e).trans h.2.2.1, fun j => (World.frozen?_of_block (a := ⟨g, j, none⟩) (w := a) e).trans (h.2.2.2 j)⟩

set_option maxHeartbeats 2000000 in
theorem markOd_any (o : Od) (k lo hi : Nat) (sv wv : Value) (w : World) (h : OdI w lo hi sv wv o) (hk : 1 ≤ k) (hsz : k + (o.sy.length + o.ws.length) ≤ 100000000) :
    Calls Tryz.prog 21 #[.agg #[sv, wv, .int .i64 o.va], .int .i64 k] w fun e w' => e = .returned (.int .i64 (k + (o.sy.length + o.ws.length) : Nat)) ∧ Outside (Ivl lo hi) w w' := by
  obtain ⟨mid, h⟩ := h
  obtain ⟨sa, sc, wa, wc, rfl, rfl⟩ := h.read.open
  have HB := Lib.hid ((Below.refl w.heap.size w).alloc (Nat.le_refl _) (.cells #[.slice sa o.sy.length sc, .slice wa o.ws.length wc, .int .i64 o.va] 35))
  have H := Lib.hid (h.kept HB.out)
  have hhi : hi ≤ w.heap.size := h.2.2.1
  have hm1 := h.2.2.2.1
  have hm2 := h.2.2.2.2
  have HX := Lib.hid (thr_new w (.slice sa o.sy.length sc) (.slice wa o.ws.length wc) (.int .i64 o.va) 35 _ rfl)
  clear h
  go_enter Tryz.func21, Tryz.ntmps21
  go_wp2_with fail
  refine (markStrL_any k o.sy _ lo mid _ H.out.1 hk (by omega)).mono ?_
  rintro e w1 ⟨rfl, hout⟩
  have HI : Hid (IntsO w1 (Ivl mid hi) (.slice wa o.ws.length wc) o.ws) := Lib.hid (H.out.2.1.frame fun b hb => hout.block b (by have := hb.2; simp; omega) (fun hk' => by have := hb.1; have := hk'.2; omega))
  have hne : ¬ Ivl lo mid w.heap.size := fun hk' => by have := hk'.2; omega
  have x0 := hout.cell HX.out.1 hne
  have x1 := hout.cell HX.out.2.1 hne
  have x2 := hout.cell HX.out.2.2.1 hne
  have HO := Lib.hid hout
  clear hout
  go_wp2_with fail
  refine (markIntS_any o.ws (k + o.sy.length) _ _ _ HI.out (by omega)).mono ?_
  rintro e w2 ⟨rfl, _, hout2⟩
  have HO2 := Lib.hid hout2
  clear hout2
  have HE : Hid (((k + o.sy.length + o.ws.length : Nat) : Int) = (k + (o.sy.length + o.ws.length) : Nat)) := Lib.hid (by omega)
  go_wp2
  go_ret
  refine ⟨ret_int HE.out, ?_⟩
  exact (Outside.of_below ((Below.refl w.heap.size w).alloc (Nat.le_refl _) _)).trans ((HO.out.mono fun b hb => ⟨hb.1, Nat.lt_of_lt_of_le hb.2 hm2⟩).trans (HO2.out.mono fun b hb => ⟨Nat.le_trans hm1 hb.1, hb.2⟩))

end Go.Proofs.YtohalpafmcobpaaGreat
