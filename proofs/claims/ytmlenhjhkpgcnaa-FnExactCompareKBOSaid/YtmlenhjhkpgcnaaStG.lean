/- Several texts in one: each says what it proves. No condition but theirs. -/
import Derived.Test.YtmlenhjhkpgcnaaOpenI
import Derived.Test.YtmlenhjhkpgcnaaFmtS
import Derived.Test.YtmlenhjhkpgcnaaName
import Derived.Test.YtmlenhjhkpgcnaaRows
import Derived.WalkKit
import Derived.WalkSpells
import Derived.WalkLawsBesides
import Derived.Lib.Hide
import Derived.Deep.QuietTactic
import Derived.Laws.OwnMore
import Derived.BigQuiet
import Derived.ProofKit
import Derived.Deep.RegionHeld3
import Derived.Test.YtmlenhjhkpgcnaaOwnI
/- Plain facts on lists of bytes and integers that the walks use: the checksum of a list of bytes. No condition. -/
namespace Go.Proofs.Ytmlenhjhkpgcnaa

theorem take_snoc (s : ByteArray) (k : Nat) (h : k < s.size) : s.data.toList.take (k + 1) = s.data.toList.take k ++ [s[k]] := by
  rw [List.take_succ_eq_append_getElem (by simpa using h)]; rfl

theorem take_all (s : ByteArray) (k : Nat) (h : s.size ≤ k) : s.data.toList.take k = s.data.toList := by
  rw [List.take_of_length_le]; simpa using h

end Go.Proofs.Ytmlenhjhkpgcnaa

/- The model's test whether a byte stands in a string: a contract for every string. No condition beyond the length that any string has. -/
namespace Go.Proofs.Ytmlenhjhkpgcnaa
open Go.RowKit

/-- Whether a byte stands in a list. -/
def hasB (c : UInt8) (l : List UInt8) : Bool := decide (c ∈ l)

theorem byte_eq {a b : UInt8} (h : a = b) : ((a.toNat : Int) == (b.toNat : Int)) = true := by simp [h]
theorem byte_ne {a b : UInt8} (h : a ≠ b) : ((a.toNat : Int) == (b.toNat : Int)) = false := by
  simp only [beq_eq_false_iff_ne, ne_eq]
  intro e
  exact h (UInt8.toNat_inj.1 (by omega))

theorem getElem_toList (s : ByteArray) (k : Nat) (h : k < s.size) : s.data.toList[k]'(by simpa using h) = s[k] := rfl

theorem quiet_leftF {P : Program} {f : FuncId} {args : Array Value} {w : World} {n : Nat} {v : Value}
    (h : Calls P f args (w.drewN n) fun e w' => e = .returned v ∧ w.drewN n = w') : Calls P f args (w.drewN n) fun e w'' => e = .returned v ∧ ∃ m, w'' = w.drewN m :=
  h.mono fun _ _ ⟨he, hm⟩ => ⟨he, n, hm.symm⟩

end Go.Proofs.Ytmlenhjhkpgcnaa

/- Slices of strings as the walks see them, worlds that have only drawn or only grown: small facts that the contracts share. No condition. -/
namespace Go.Proofs.Ytmlenhjhkpgcnaa
open Go.RowKit

theorem hide {p : Prop} (h : p) : Hid p := h

theorem unhide {p : Prop} (h : Hid p) : p := h

/-- A slice value reads as a list of strings: it has no element, or each element's cell is there. -/
def StrsV (w : World) (v : Value) (ss : List ByteArray) : Prop :=
  (∃ a c, v = .slice a 0 c ∧ ss = []) ∨
  (∃ b off c, v = .slice (some ⟨b, off, none⟩) ss.length c ∧ 0 < ss.length ∧ ∀ i, i < ss.length → w.cell? ⟨b, off + i, none⟩ = some (.string (ss.getD i ByteArray.empty)))

/-- In a later world in which nothing below B has changed, a slice that lay in the earlier world still reads so. -/
theorem StrsV.below {w w' : World} {v : Value} {ss : List ByteArray} (h : StrsV w v ss) (hb : Below w.heap.size w w') : StrsV w' v ss := by
  rcases h with h | ⟨b, off, c, hv, hp, hc⟩
  · exact .inl h
  · refine .inr ⟨b, off, c, hv, hp, fun i hi => ?_⟩
    have h1 := hc i hi
    exact (hb.cell (p := ⟨b, off + i, none⟩) (World.block_lt_of_cell? w _ h1)).trans h1

/-- What an owned row of strings reads as. -/
theorem strsV_of_owns {w : World} {base : Nat} {v : Value} {ss : List ByteArray} (h : w.ownsRow base 9 1 v ss.length (ss.map Value.string)) : StrsV w v ss := by
  rcases h.2 with ⟨hv, h0⟩ | ⟨g, cap, cur, hv, rest⟩
  · exact .inl ⟨none, 0, by rw [hv], List.length_eq_zero_iff.1 h0⟩
  · by_cases h0 : ss.length = 0
    · exact .inl ⟨some ⟨g, 0, none⟩, cap, by rw [hv, h0], List.length_eq_zero_iff.1 h0⟩
    · subst hv
      refine .inr ⟨g, 0, cap, rfl, by omega, fun i hi => ?_⟩
      rw [Nat.zero_add, h.cellAt i (by omega)]
      simp [hi]

theorem getD_eq {l : List ByteArray} {i : Nat} (h : i < l.length) : l.getD i ByteArray.empty = l[i] := by simp [h]

theorem list_ext_getD {a b : List ByteArray} (hl : a.length = b.length) (h : ∀ i, i < a.length → a.getD i ByteArray.empty = b.getD i ByteArray.empty) : a = b := by
  apply List.ext_getElem hl
  intro i h1 h2
  have := h i h1
  rwa [getD_eq h1, getD_eq h2] at this

/-- An argument that the reader has opened reads as the strings of its elements. -/
theorem strsV_of_open {w : World} {a : Addr} {len cap : Nat} {ss : List ByteArray} (hl : len ≤ ss.length) (hcell : ∀ i, i < ss.length → w.cell? (a.add i) = some (.string (ss.getD i ByteArray.empty))) :
    StrsV w (.slice (some a) len cap) (ss.take len) := by
  have hlen : (ss.take len).length = len := by simp; omega
  by_cases h0 : len = 0
  · subst h0; exact .inl ⟨some a, cap, rfl, by simp⟩
  · obtain ⟨b, off, spot⟩ := a
    have hc := hcell 0 (by omega)
    have hspot : spot = none := by simpa [Addr.add] using World.cell?_spot hc
    subst hspot
    refine .inr ⟨b, off, cap, by rw [hlen], by omega, fun i hi => ?_⟩
    rw [hlen] at hi
    have h1 := hcell i (by omega)
    have h2 : (ss.take len).getD i ByteArray.empty = ss.getD i ByteArray.empty := by simp [hi]
    rw [h2]
    have e : Addr.add ⟨b, off, none⟩ i = ⟨b, off + i, none⟩ := by
      simp only [Addr.add]; split <;> simp_all
    rw [e] at h1; exact h1

theorem owns_cap {w : World} {base e size n : Nat} {v : Value} {xs : List Value} (h : w.ownsRow base e size v n xs) : ∀ a m c, v = .slice a m c → m ≤ c := by
  intro a m c hv
  rcases h.2 with ⟨h1, _⟩ | ⟨g, cap, cur, h1, _, _, h2, _⟩
  · rw [h1] at hv; injection hv with _ e1 e2; omega
  · rw [h1] at hv; injection hv with _ e1 e2; omega

theorem infoStr : (Try.prog.info? 9).map (fun i => (i.zero, i.size, i.bytes)) = some (some (.string ByteArray.empty), 1, 16) := by kernel_rfl

/-- A row whose cells are known one by one. -/
theorem row_known {w : World} {base : Nat} {v : Value} {n : Nat} {xs : List Value} {ss : List ByteArray} (h : w.ownsRow base 9 1 v n xs) (hn : n = ss.length)
    (hx : ∀ j, j < n → xs[j]? = some (.string (ss.getD j ByteArray.empty))) : w.ownsRow base 9 1 v ss.length (ss.map Value.string) := by
  subst hn
  have e : xs = ss.map Value.string := by
    apply List.ext_getElem?
    intro j
    by_cases hj : j < ss.length
    · rw [hx j hj]; simp [hj]
    · have hl := h.1
      rw [List.getElem?_eq_none (by omega), List.getElem?_eq_none (by simp; omega)]
  rw [← e]; exact h

theorem drewN_two (w : World) (a b : Nat) : (w.drewN a).drewN b = w.drewN (a + b) := by
  simp [World.drewN, Nat.add_assoc]

/-- A world that has only drawn. -/
def Drawn (w w' : World) : Prop := ∃ n, w' = w.drewN n

theorem Drawn.refl (w : World) : Drawn w w := ⟨0, rfl⟩

theorem Drawn.cell {w w' : World} {a : Addr} {v : Value} (h : Drawn w w') (hc : w.cell? a = some v) : w'.cell? a = some v := by
  obtain ⟨n, rfl⟩ := h; exact hc

theorem Drawn.then {w w' : World} (h : Drawn w w') (m : Nat) : Drawn w (w'.drewN m) := by
  obtain ⟨n, rfl⟩ := h; exact ⟨n + m, drewN_two _ _ _⟩

theorem Drawn.below {w w' : World} (h : Drawn w w') (B : Nat) : Below B w w' := by
  obtain ⟨n, rfl⟩ := h; exact ⟨rfl, rfl, rfl, Nat.le_refl _, fun _ _ => rfl⟩

theorem owns_base {W : World} {base base' : Nat} {e : TypeId} {size : Nat} {v : Value} {k : Nat} {xs : List Value} (h : W.ownsRow base e size v k xs) (hb : base' ≤ base) : W.ownsRow base' e size v k xs := by
  refine ⟨h.1, ?_⟩
  rcases h.2 with hn | ⟨g, cap, cur, hv, hbg, rest⟩
  · exact .inl hn
  · exact .inr ⟨g, cap, cur, hv, Nat.le_trans hb hbg, rest⟩

theorem below_app {w wr w1 : World} {e size n : Nat} {v : Value} {xs : List Value} {o : Obj} (hb : Below w.heap.size w wr) (hown : wr.ownsRow w.heap.size e size v n xs) (hg : (wr.alloc o).grownBy w1 v.ownBlock) : Below w.heap.size w w1 :=
  (hb.alloc hb.size o).grown hg (by have := hb.size; simp; omega) (fun j e' => (hown.lt j e').1)

theorem grown_step {a b c : World} {row : Option Nat} (h : a.grownBy b row) (k : b.grownBy c row) : a.grownBy c row :=
  ⟨k.os.trans h.os, k.tape.trans h.tape, k.output.trans h.output, Nat.le_trans h.size k.size, fun i hi hne => (k.block i (Nat.lt_of_lt_of_le hi h.size) hne).trans (h.block i hi hne)⟩

theorem grown_refl (a : World) (row : Option Nat) : a.grownBy a row := ⟨rfl, rfl, rfl, Nat.le_refl _, fun _ _ _ => rfl⟩

end Go.Proofs.Ytmlenhjhkpgcnaa

/- Slices of strings as the walks see them, and the laws' own helpers over such slices (equality, copy, size): contracts. A slice has at most the length that any slice has. -/
namespace Go.Proofs.Ytmlenhjhkpgcnaa
open Go.RowKit

/-- Equality of two lists of strings, as a Bool. -/
def eqSs (a b : List ByteArray) : Bool := decide (a = b)

theorem eqSs_self (a : List ByteArray) : eqSs a a = true := by simp [eqSs]

/-- What a copying loop has written after k rounds. -/
def CopyRel (g : Nat) (ss : List ByteArray) (k : Nat) (wr : World) : Prop :=
  ∃ xs, wr.ownsRow g 9 1 (.slice (some ⟨g, 0, none⟩) ss.length ss.length) ss.length xs ∧ ∀ j, j < k → xs[j]? = some (.string (ss.getD j ByteArray.empty))

set_option maxHeartbeats 1000000 in
theorem toStringS_any (v : Value) (ss : List ByteArray) (w : World) (hv : StrsV w v ss) (hn : ss.length * 16 ≤ 281474976710656) :
    Calls Try.prog 91 #[v] w fun e w' => ∃ v', e = .returned v' ∧ w'.ownsRow w.heap.size 9 1 v' ss.length (ss.map Value.string) ∧ Below w.heap.size w w' := by
  obtain ⟨i0, hi, hz0, hz1, hz2⟩ := info_parts infoStr
  rcases hv with ⟨a, c, rfl, rfl⟩ | ⟨b, off, c, rfl, hp, hc⟩
  · go_enter Try.func91, Try.ntmps91
    go_wp2_with (at_make; refine wpList_make_full _ rfl _ _ 61 rfl w.heap.size 9 i0 (.string ByteArray.empty) 1 Try.underlying61 hi hz0 hz1 .i64 .i64 _ _ 0 rfl rfl rfl rfl (by omega) (by decide) (Nat.le_refl _) ?_; intro w1 hown1 hg1)
    refine wp_loop_rounds 1 ?_
    rw [rounds_succ]
    go_wp2
    go_ret
    exact ⟨_, rfl, by simpa [madeCells] using hown1, (Below.refl _ _).grown hg1 (Nat.le_refl _) (by simp)⟩
  · go_enter Try.func91, Try.ntmps91
    go_wp2_with (at_make; refine wpList_make_full _ rfl _ _ 61 rfl w.heap.size 9 i0 (.string ByteArray.empty) 1 Try.underlying61 hi hz0 hz1 .i64 .i64 _ _ ss.length rfl rfl rfl rfl (by rw [hz2]; omega) (by unfold maxLen; omega) (Nat.le_refl _) ?_; intro w1 hown1 hg1)
    go_loopw [4] (fun i wr => ∃ k : Nat, k ≤ ss.length ∧ i = .int .i64 k ∧ CopyRel w.heap.size ss k wr ∧ Below w.heap.size w wr) (fun i _ => ss.length - (intOf i).toNat)
    case atStart => exact ⟨0, Nat.zero_le _, rfl, ⟨_, hown1, fun j hj => absurd hj (Nat.not_lt_zero _)⟩, (Below.refl _ _).grown hg1 (Nat.le_refl _) (by simp)⟩
    case round =>
      obtain ⟨k, hk, rfl, ⟨xs, hown, hx⟩, hbel⟩ := hrel
      have hxs := hown.1
      by_cases hlt : k < ss.length
      · have hcw := hc k hlt
        have hcr := (hbel.cell (p := ⟨b, off + k, none⟩) (World.block_lt_of_cell? w _ hcw)).trans hcw
        obtain ⟨s, hs⟩ : ∃ s, s = ss.getD k ByteArray.empty := ⟨_, rfl⟩
        rw [← hs] at hcr
        have hold := hown.cellAt k (by omega)
        rw [List.getElem?_eq_getElem (by omega)] at hold
        obtain ⟨u, hu⟩ : ∃ u, u = xs[k]'(by omega) := ⟨_, rfl⟩
        rw [← hu] at hold
        have hfr := hown.frozenAt k
        have HS : Hid (s = ss.getD k ByteArray.empty) := Lib.hid hs
        have HX : Hid (∀ j, j < k → xs[j]? = some (.string (ss.getD j ByteArray.empty))) := Lib.hid hx
        have HC : Hid (∀ i, i < ss.length → w.cell? ⟨b, off + i, none⟩ = some (.string (ss.getD i ByteArray.empty))) := Lib.hid hc
        have HL : Hid (xs.length = ss.length * 1) := Lib.hid hxs
        clear hs hu hx hcw hc hxs
        go_wp2
        go_roundw
        case rel =>
          refine ⟨k + 1, by omega, by go_num, ⟨_, (hown.stored k (.string s)).1, fun j hj => ?_⟩, hbel.trans (Below.refl _ _ |>.setCell (by simp) _)⟩
          have hl := HL.out
          by_cases e : j = k
          · subst e; rw [List.getElem?_set_self (by omega), HS.out]
          · rw [List.getElem?_set_ne (by omega)]; exact HX.out j (by omega)
        case measure => simp [intOf]; omega
      · have hke : k = ss.length := by omega
        have R := row_known hown rfl (fun j hj => hx j (by omega))
        have HR : Hid _ := Lib.hid R
        clear R hx hown hc hke
        go_wp2
        go_ret
        exact ⟨_, rfl, HR.out, hbel⟩

/-- What the size helper answers: below 0, or the slice has at most 'left' elements. -/
def SzRes (ss : List ByteArray) (e : Ending) : Prop := e = .returned (.int .i64 (-1)) ∨ ∃ r : Int, 0 ≤ r ∧ r ≤ 1048576 ∧ ss.length ≤ 1048576 ∧ (∀ j, j < ss.length → (ss.getD j ByteArray.empty).size ≤ 1048576) ∧ e = .returned (.int .i64 r)

set_option maxHeartbeats 1000000 in
theorem szStringS_any (v : Value) (ss : List ByteArray) (w : World) (hv : StrsV w v ss) (hn : ss.length ≤ 9223372036854775807) (hs : ∀ i, (ss.getD i ByteArray.empty).size ≤ maxLen) :
    Calls Try.prog 83 #[v, .int .i64 1048576] w fun e w' => SzRes ss e ∧ w = w' := by
  rcases hv with ⟨a, c, rfl, rfl⟩ | ⟨b, off, c, rfl, hp, hc⟩
  · go_enter Try.func83, Try.ntmps83
    go_wp2
    refine wp_loop_rounds 1 ?_
    rw [rounds_succ]
    go_wp2
    go_ret
    exact ⟨.inr ⟨_, by omega, by omega, by simp, by simp, rfl⟩, rfl⟩
  · by_cases hbig : (1048576 : Int) - ss.length < 0
    · go_enter Try.func83, Try.ntmps83
      go_wp2
      go_ret
      exact ⟨.inl rfl, rfl⟩
    · go_enter Try.func83, Try.ntmps83
      go_wp2
      go_loop [1, 5] (fun l i => ∃ k : Nat, ∃ r : Int, k ≤ ss.length ∧ i = .int .i64 k ∧ 0 ≤ r ∧ r ≤ 1048576 ∧ (∀ j, j < k → (ss.getD j ByteArray.empty).size ≤ 1048576) ∧ l = .int .i64 r) (fun _ i => ss.length - (intOf i).toNat)
      case atStart => exact ⟨0, _, Nat.zero_le _, rfl, by omega, by omega, fun j hj => absurd hj (Nat.not_lt_zero _), rfl⟩
      case round =>
        obtain ⟨k, r, hk, rfl, hr0, hr1, hold0, rfl⟩ := hrel
        have HO : Hid (∀ j, j < k → (ss.getD j ByteArray.empty).size ≤ 1048576) := Lib.hid hold0
        clear hold0
        by_cases hlt : k < ss.length
        · have hcr := hc k hlt
          have hsz := hs k
          obtain ⟨s, hs'⟩ : ∃ s, s = ss.getD k ByteArray.empty := ⟨_, rfl⟩
          rw [← hs'] at hcr hsz
          have HS : Hid (s = ss.getD k ByteArray.empty) := Lib.hid hs'
          clear hs' hs hc
          unfold maxLen at hsz
          by_cases hneg : r - s.size < 0
          · go_wp2
            go_ret
            exact ⟨.inl rfl, rfl⟩
          · go_wp2
            go_round
            case rel => exact ⟨k + 1, _, by omega, by go_num, by omega, by omega, fun j hj => by
              by_cases e : j = k
              · rw [e, ← HS.out]; omega
              · exact HO.out j (by omega), rfl⟩
            case measure => simp [intOf]; omega
        · go_wp2
          go_ret
          exact ⟨.inr ⟨_, hr0, hr1, by omega, fun j hj => HO.out j (by omega), rfl⟩, rfl⟩

set_option maxHeartbeats 1000000 in
theorem eqStringS_any (va vb : Value) (sa sb : List ByteArray) (w : World) (ha : StrsV w va sa) (hb : StrsV w vb sb) (hna : sa.length ≤ 281474976710656) (hnb : sb.length ≤ 281474976710656) :
    Calls Try.prog 38 #[va, vb] w fun e w' => e = .returned (.bool (eqSs sa sb)) ∧ Drawn w w' := by
  rcases ha with ⟨a, c, rfl, rfl⟩ | ⟨b, off, c, rfl, hp, hc⟩ <;> rcases hb with ⟨a', c', rfl, rfl⟩ | ⟨b', off', c', rfl, hp', hc'⟩
  · go_enter Try.func38, Try.ntmps38
    go_wp2
    refine wp_loop_rounds 1 ?_
    rw [rounds_succ]
    go_wp2
    go_ret
    exact ⟨rfl, 0, rfl⟩
  · have hne : (((0 : Nat) : Int) == (sb.length : Int)) = false := by simp; omega
    have hne2 : ((0 : Int) == (sb.length : Int)) = false := by simp; omega
    have hne3 : Hid ([] ≠ sb) := Lib.hid (by intro e; subst e; simp at hp')
    go_enter Try.func38, Try.ntmps38
    go_wp2
    go_ret
    exact ⟨ret_bool (by simp [eqSs, hne3.out]), 0, rfl⟩
  · have hne2 : ((sa.length : Int) == 0) = false := by
      rw [beq_eq_false_iff_ne]; omega
    have hne3 : Hid (sa ≠ []) := Lib.hid (by intro e; subst e; simp at hp)
    go_enter Try.func38, Try.ntmps38
    go_wp2
    go_ret
    exact ⟨ret_bool (by simp [eqSs, hne3.out]), 0, rfl⟩
  · by_cases hl : sa.length = sb.length
    · have hl' : ((sa.length : Int) == (sb.length : Int)) = true := by simp; omega
      have HL : Hid (sa.length = sb.length) := Lib.hid hl
      have HC : Hid (∀ i, i < sa.length → w.cell? ⟨b, off + i, none⟩ = some (.string (sa.getD i ByteArray.empty))) := Lib.hid hc
      have HC' : Hid (∀ i, i < sb.length → w.cell? ⟨b', off' + i, none⟩ = some (.string (sb.getD i ByteArray.empty))) := Lib.hid hc'
      clear hl hc hc'
      go_enter Try.func38, Try.ntmps38
      go_wp2
      go_loopw [5] (fun i wr => ∃ k n : Nat, k ≤ sa.length ∧ i = .int .i64 k ∧ wr = w.drewN n ∧ ∀ j, j < k → sa.getD j ByteArray.empty = sb.getD j ByteArray.empty) (fun i _ => sa.length - (intOf i).toNat)
      case atStart => exact ⟨0, 0, Nat.zero_le _, rfl, rfl, fun j hj => absurd hj (Nat.not_lt_zero _)⟩
      case round =>
        obtain ⟨k, n, hk, rfl, rfl, heq⟩ := hrel
        have HE : Hid (∀ j, j < k → sa.getD j ByteArray.empty = sb.getD j ByteArray.empty) := Lib.hid heq
        clear heq
        by_cases hlt : k < sa.length
        · have hcr := HC.out k hlt
          have hcr' := HC'.out k (by have := HL.out; omega)
          have hltb : k < sb.length := by have := HL.out; omega
          obtain ⟨s, hs⟩ : ∃ s, s = sa.getD k ByteArray.empty := ⟨_, rfl⟩
          obtain ⟨t, ht⟩ : ∃ t, t = sb.getD k ByteArray.empty := ⟨_, rfl⟩
          rw [← hs] at hcr
          rw [← ht] at hcr'
          have HS : Hid (s = sa.getD k ByteArray.empty) := Lib.hid hs
          have HT : Hid (t = sb.getD k ByteArray.empty) := Lib.hid ht
          clear hs ht
          by_cases hst : s = t
          · have hq : (s.toList == t.toList) = true := by rw [hst]; simp
            have HQ : Hid (s = t) := Lib.hid hst
            clear hst
            go_wp2
            go_quiet (fail)
            go_wp2
            go_roundw
            case rel => exact ⟨k + 1, n + nq, by omega, by go_num, rfl, fun j hj => by
              by_cases e : j = k
              · rw [e, ← HS.out, ← HT.out]; exact HQ.out
              · exact HE.out j (by omega)⟩
            case measure => simp [intOf]; omega
          · have hq : (s.toList == t.toList) = false := by rw [beq_eq_false_iff_ne]; intro e; exact hst (toList_inj e)
            have HQ : Hid (sa ≠ sb) := Lib.hid (by intro e; subst e; exact hst (HS.out.trans HT.out.symm))
            clear hst
            go_wp2
            go_quiet (fail)
            go_wp2
            go_ret
            exact ⟨ret_bool (by simp [eqSs, HQ.out]), n + nq, drewN_two _ _ _⟩
        · have he : Hid (sa = sb) := Lib.hid (list_ext_getD HL.out (fun i hi => HE.out i (by omega)))
          go_wp2
          go_ret
          exact ⟨ret_bool (by simp [eqSs, he.out]), n, rfl⟩
    · have hne : ((sa.length : Int) == (sb.length : Int)) = false := by simp; omega
      have hne3 : Hid (sa ≠ sb) := Lib.hid (by intro e; subst e; exact hl rfl)
      clear hl
      go_enter Try.func38, Try.ntmps38
      go_wp2
      go_ret
      exact ⟨ret_bool (by simp [eqSs, hne3.out]), 0, rfl⟩

end Go.Proofs.Ytmlenhjhkpgcnaa

/- The laws' helpers that write marks into a slice of strings and look for them again: contracts, for slices of at most 1048577 elements. -/
namespace Go.Proofs.Ytmlenhjhkpgcnaa
open Go.RowKit

/-- The strings that the marking loop writes. -/
def marks (n : Nat) : List ByteArray := (List.range n).map fun i => markB (1 + i)
theorem marks_len (n : Nat) : (marks n).length = n := by simp [marks]
theorem marks_get {n i : Nat} (h : i < n) : (marks n).getD i ByteArray.empty = markB (1 + i) := by simp [marks, h]

/-- j elements have their mark. -/
def MRel (base : Nat) (v : Value) (n j : Nat) (wr : World) : Prop := ∃ xs, wr.ownsRow base 9 1 v n xs ∧ ∀ q, q < j → xs[q]? = some (.string (markB (1 + q)))

def MarkEnd (base n : Nat) (v : Value) (w : World) (e : Ending) (w' : World) : Prop :=
  e = .returned (.int .i64 (1 + (n : Int))) ∧ w'.ownsRow base 9 1 v (marks n).length ((marks n).map Value.string) ∧ w.grownBy w' v.ownBlock

theorem MRel.full {base n : Nat} {v : Value} {wr : World} (h : MRel base v n n wr) : wr.ownsRow base 9 1 v (marks n).length ((marks n).map Value.string) := by
  obtain ⟨xs, hown, hx⟩ := h
  exact row_known hown (marks_len n).symm (fun j hj => by rw [hx j hj, marks_get hj])

theorem MRel.cell {base g n cap j : Nat} {wr : World} (h : MRel base (.slice (some ⟨g, 0, none⟩) n cap) n j wr) (hj : j < n) : ∃ u, wr.cell? ⟨g, j, none⟩ = some u := by
  obtain ⟨xs, hown, _⟩ := h
  have := hown.1
  exact ⟨xs[j]'(by omega), by rw [hown.cellAt j (by omega), List.getElem?_eq_getElem (by omega)]⟩
theorem MRel.free {base g n cap j : Nat} {wr : World} (h : MRel base (.slice (some ⟨g, 0, none⟩) n cap) n j wr) : wr.frozen? ⟨g, j, none⟩ = false := by
  obtain ⟨xs, hown, _⟩ := h
  exact hown.frozenAt j
theorem MRel.below {base g n cap j : Nat} {wr w1 : World} (h : MRel base (.slice (some ⟨g, 0, none⟩) n cap) n j wr) (hb : Below wr.heap.size wr w1) : MRel base (.slice (some ⟨g, 0, none⟩) n cap) n j w1 := by
  obtain ⟨xs, hown, hx⟩ := h
  exact ⟨xs, hown.kept (grown_of_below hb none) (.inr (by simp [Value.ownBlock])), hx⟩
theorem MRel.step {base g n cap j : Nat} {w1 : World} (h : MRel base (.slice (some ⟨g, 0, none⟩) n cap) n j w1) (hj : j < n) : MRel base (.slice (some ⟨g, 0, none⟩) n cap) n (j + 1) (w1.setCell ⟨g, j, none⟩ (.string (markB (1 + j)))) := by
  obtain ⟨xs, hown, hx⟩ := h
  have hl := hown.1
  refine ⟨_, (hown.stored j (.string (markB (1 + j)))).1, fun q hq => ?_⟩
  by_cases e : q = j
  · subst e; rw [List.getElem?_set_self (by omega)]
  · rw [List.getElem?_set_ne (by omega)]; exact hx q (by omega)
theorem MRel.grown {base g n cap j : Nat} {w w1 : World} {u : Value} (h : MRel base (.slice (some ⟨g, 0, none⟩) n cap) n j w1) (hg : w.grownBy w1 (some g)) : w.grownBy (w1.setCell ⟨g, j, none⟩ u) (some g) := by
  obtain ⟨xs, hown, _⟩ := h
  exact grown_step hg (hown.stored j u).2

set_option maxHeartbeats 1000000 in
theorem markStringS_any (base n : Nat) (v : Value) (xs : List Value) (w : World) (hown : w.ownsRow base 9 1 v n xs) (hn : n ≤ 1048577) :
    Calls Try.prog 39 #[v, .int .i64 1] w fun e w' => MarkEnd base n v w e w' := by
  by_cases h0 : n = 0
  · have HM : Hid (MarkEnd base n v w (.returned (.int .i64 1)) w) := Lib.hid (by
      refine ⟨by rw [h0]; rfl, MRel.full (n := n) ⟨xs, hown, fun q hq => by omega⟩, grown_refl _ _⟩)
    have hv : ∃ a c, v = .slice a 0 c := by
      rcases hown.2 with ⟨hv, _⟩ | ⟨g, cap, cur, hv, _⟩
      · exact ⟨_, _, hv⟩
      · exact ⟨_, _, by rw [hv, h0]⟩
    obtain ⟨a, c, rfl⟩ := hv
    clear hown h0 hn
    go_enter Try.func39, Try.ntmps39
    go_wp2
    refine wp_loop_rounds 1 ?_
    rw [rounds_succ]
    go_wp2
    go_ret
    exact HM.out
  · have hv : ∃ g cap, v = .slice (some ⟨g, 0, none⟩) n cap := by
      rcases hown.2 with ⟨_, hv⟩ | ⟨g, cap, cur, hv, _⟩
      · exact absurd hv h0
      · exact ⟨_, _, hv⟩
    obtain ⟨g, cap, rfl⟩ := hv
    have HM0 : Hid (MRel base (.slice (some ⟨g, 0, none⟩) n cap) n 0 w) := Lib.hid ⟨xs, hown, fun q hq => by omega⟩
    clear hown h0
    go_enter Try.func39, Try.ntmps39
    go_wp2
    go_loopw [1, 5] (fun kk i wr => ∃ j : Nat, j ≤ n ∧ i = .int .i64 j ∧ kk = .int .i64 (1 + (j : Int)) ∧ MRel base (.slice (some ⟨g, 0, none⟩) n cap) n j wr ∧ w.grownBy wr (some g)) (fun _ i _ => n - (intOf i).toNat)
    case atStart => exact ⟨0, Nat.zero_le _, rfl, rfl, HM0.out, grown_refl _ _⟩
    case round =>
      obtain ⟨j, hj, rfl, rfl, hm, hg⟩ := hrel
      have HM : Hid (MRel base (.slice (some ⟨g, 0, none⟩) n cap) n j wr) := Lib.hid hm
      have HG : Hid (w.grownBy wr (some g)) := Lib.hid hg
      clear hm hg
      by_cases hlt : j < n
      · have C0 : Hid (Calls Try.prog 71 #[.int .i64 (1 + (j : Int))] wr fun e w' => e = .returned (.string (markB (1 + j))) ∧ Below wr.heap.size wr w') := Lib.hid (by
          have h := markText_any (1 + j) wr (by omega) (by omega)
          rwa [show ((1 + j : Nat) : Int) = 1 + (j : Int) by omega] at h)
        go_wp2_with fail
        refine C0.out.mono ?_
        rintro e w1 ⟨rfl, hb⟩
        have HM1 : Hid (MRel base (.slice (some ⟨g, 0, none⟩) n cap) n j w1) := Lib.hid (HM.out.below hb)
        have HG1 : Hid (w.grownBy w1 (some g)) := Lib.hid (grown_step HG.out (grown_of_below hb _))
        obtain ⟨u, hu⟩ := HM1.out.cell hlt
        have hf := HM1.out.free
        obtain ⟨t, ht⟩ : ∃ t, t = markB (1 + j) := ⟨_, rfl⟩
        have HM2 : Hid (MRel base (.slice (some ⟨g, 0, none⟩) n cap) n (j + 1) (w1.setCell ⟨g, j, none⟩ (.string t))) := Lib.hid (by rw [ht]; exact HM1.out.step hlt)
        have HG2 : Hid (w.grownBy (w1.setCell ⟨g, j, none⟩ (.string t)) (some g)) := Lib.hid (HM1.out.grown HG1.out)
        rw [← ht]
        clear hb ht
        go_wp2
        go_roundw
        case rel => exact ⟨j + 1, by omega, by go_num, by go_num, HM2.out, HG2.out⟩
        case measure => simp [intOf]; omega
      · have HE : Hid (MarkEnd base n (.slice (some ⟨g, 0, none⟩) n cap) w (.returned (.int .i64 (1 + (j : Int)))) wr) := Lib.hid (by
          have e : j = n := by omega
          have h := HM.out
          rw [e] at h
          exact ⟨by rw [e], h.full, HG.out⟩)
        go_wp2
        go_ret
        exact HE.out

def HeldEnd (n : Nat) (w : World) (e : Ending) (w' : World) : Prop := e = .returned (.int .i64 (1 + (n : Int))) ∧ Below w.heap.size w w'

set_option maxHeartbeats 1000000 in
theorem heldStringS_any (n : Nat) (v : Value) (w : World) (hv : StrsV w v (marks n)) (hn : n ≤ 1048577) :
    Calls Try.prog 40 #[v, .int .i64 1] w fun e w' => HeldEnd n w e w' := by
  rcases hv with ⟨a, c, rfl, h0⟩ | ⟨b, off, c, rfl, hp, hc⟩
  · have HE : Hid (HeldEnd n w (.returned (.int .i64 1)) w) := Lib.hid (by
      have e : n = 0 := by have := marks_len n; rw [h0] at this; simpa using this.symm
      exact ⟨by rw [e]; rfl, Below.refl _ _⟩)
    clear h0 hn
    go_enter Try.func40, Try.ntmps40
    go_wp2
    refine wp_loop_rounds 1 ?_
    rw [rounds_succ]
    go_wp2
    go_ret
    exact HE.out
  · rw [marks_len]
    have HC : Hid (∀ i, i < n → w.cell? ⟨b, off + i, none⟩ = some (.string (markB (1 + i)))) := Lib.hid (fun i hi => by
      have h := hc i (by rw [marks_len]; exact hi)
      rwa [marks_get hi] at h)
    clear hc hp
    go_enter Try.func40, Try.ntmps40
    go_wp2
    go_loopw [1, 5] (fun kk i wr => ∃ j : Nat, j ≤ n ∧ i = .int .i64 j ∧ kk = .int .i64 (1 + (j : Int)) ∧ Below w.heap.size w wr) (fun _ i _ => n - (intOf i).toNat)
    case atStart => exact ⟨0, Nat.zero_le _, rfl, rfl, Below.refl _ _⟩
    case round =>
      obtain ⟨j, hj, rfl, rfl, hb⟩ := hrel
      have HB : Hid (Below w.heap.size w wr) := Lib.hid hb
      clear hb
      by_cases hlt : j < n
      · obtain ⟨t, ht⟩ : ∃ t, t = markB (1 + j) := ⟨_, rfl⟩
        have C0 : Hid (∀ W : World, Calls Try.prog 71 #[.int .i64 (1 + (j : Int))] W fun e w' => e = .returned (.string t) ∧ Below W.heap.size W w') := Lib.hid (fun W => by
          have h := markText_any (1 + j) W (by omega) (by omega)
          rw [← ht] at h
          rwa [show ((1 + j : Nat) : Int) = 1 + (j : Int) by omega] at h)
        have hcr : wr.cell? ⟨b, off + j, none⟩ = some (.string t) := by rw [ht]; exact carry_cell' HB.out (HC.out j hlt)
        have hB0 : Below wr.heap.size wr wr.drew := (Below.refl _ _).drew
        clear ht
        go_wp2
        go_region_held3 (fun w' => w'.cell? ⟨b, off + j, none⟩ = some (.string t) ∧ Below wr.heap.size wr w') (first | exact ⟨by assumption, by assumption⟩ | go_keep) (first | (go_at_call 71; refine (C0.out _).mono ?_; rintro e w' ⟨rfl, hb⟩; have hc' := carry_cell (by assumption) hb; have hB' := carry_below (by assumption) (Nat.le_refl _) hb))
        have hB2 : Below wr.heap.size wr w' := by assumption
        have HB2 : Hid (Below w.heap.size w w') := Lib.hid (carry_below HB.out (Nat.le_refl _) hB2)
        clear hB2
        go_wp2
        go_roundw
        case rel => exact ⟨j + 1, by omega, by go_num, by go_num, HB2.out⟩
        case measure => simp [intOf]; omega
      · have HE : Hid (HeldEnd n w (.returned (.int .i64 (1 + (j : Int)))) wr) := Lib.hid (by
          have e : j = n := by omega
          exact ⟨by rw [e], HB.out⟩)
        go_wp2
        go_ret
        exact HE.out

end Go.Proofs.Ytmlenhjhkpgcnaa

/- A slice of strings as an argument of a law: what the law's helpers do with it: contracts. -/
namespace Go.Proofs.Ytmlenhjhkpgcnaa
open Go.RowKit
set_option linter.unusedVariables false

/-- A slice of strings of the law's own, in numbered blocks. -/
def OwnS (w : World) (lo hi : Nat) (v : Value) (ss : List ByteArray) : Prop :=
  w.ownsRow lo 9 1 v ss.length (ss.map Value.string) ∧ (∀ g, v.ownBlock = some g → lo ≤ g ∧ g < hi) ∧ hi ≤ w.heap.size
theorem OwnS.fresh {w w' : World} {v : Value} {ss : List ByteArray} (h : w'.ownsRow w.heap.size 9 1 v ss.length (ss.map Value.string)) : OwnS w' w.heap.size w'.heap.size v ss :=
  ⟨h, fun g hg => h.lt g hg, Nat.le_refl _⟩
theorem OwnS.freshAt {w w' : World} {v : Value} {ss : List ByteArray} (h : w'.ownsRow w.heap.size 9 1 v ss.length (ss.map Value.string)) {n : Nat} (e : w.heap.size = n) : OwnS w' n w'.heap.size v ss := e ▸ OwnS.fresh h
theorem OwnS.kept {w w' : World} {lo hi : Nat} {v : Value} {ss : List ByteArray} (h : OwnS w lo hi v ss) (hb : Below w.heap.size w w') : OwnS w' lo hi v ss := by
  refine ⟨h.1.kept (grown_of_below hb none) ?_, h.2.1, Nat.le_trans h.2.2 hb.size⟩
  cases v.ownBlock with
  | none => exact .inl rfl
  | some g => exact .inr (by simp)
theorem OwnS.read {w : World} {lo hi : Nat} {v : Value} {ss : List ByteArray} (h : OwnS w lo hi v ss) : StrsV w v ss := strsV_of_owns h.1
theorem OwnS.outside {a b : World} {lo hi lo' hi' : Nat} {v : Value} {ss : List ByteArray} (h : OwnS a lo hi v ss) (ho : Outside (Ivl lo' hi') a b) (hd : hi ≤ lo' ∨ hi' ≤ lo) : OwnS b lo hi v ss := by
  refine ⟨⟨h.1.1, ?_⟩, h.2.1, Nat.le_trans h.2.2 ho.size⟩
  rcases h.1.2 with h2 | ⟨g, cap, cur, h3, hbg, hgb, rest⟩
  · exact .inl h2
  · have hg := h.2.1 g (by rw [h3]; rfl)
    exact .inr ⟨g, cap, cur, h3, hbg, (ho.block g (Array.getElem?_eq_some_iff.1 hgb).1 (fun hk => by have h1 := hk.1; have h2 := hk.2; omega)).trans hgb, rest⟩

/-- What a size helper leaves of an allowance. -/
def SzSL (ss : List ByteArray) (e : Ending) : Prop := e = .returned (.int .i64 (-1)) ∨ ∃ r : Int, 0 ≤ r ∧ r ≤ 1048576 ∧ ss.length ≤ 1048576 ∧ e = .returned (.int .i64 r)

set_option maxHeartbeats 1000000 in
theorem szStrL_any (v : Value) (ss : List ByteArray) (left : Int) (w : World) (hl0 : 0 ≤ left) (hl1 : left ≤ 1048576) (hv : StrsV w v ss) (hn : ss.length ≤ 9223372036854775807) (hs : ∀ i, (ss.getD i ByteArray.empty).size ≤ maxLen) :
    Calls Try.prog 83 #[v, .int .i64 left] w fun e w' => SzSL ss e ∧ w = w' := by
  rcases hv with ⟨a, c, rfl, rfl⟩ | ⟨b, off, c, rfl, hp, hc⟩
  · go_enter Try.func83, Try.ntmps83
    have hneg : ¬ left < 0 := by omega
    go_wp2
    refine wp_loop_rounds 1 ?_
    rw [rounds_succ]
    go_wp2
    go_ret
    exact ⟨.inr ⟨_, hl0, hl1, by simp, rfl⟩, rfl⟩
  · by_cases hbig : left - ss.length < 0
    · go_enter Try.func83, Try.ntmps83
      go_wp2
      go_ret
      exact ⟨.inl rfl, rfl⟩
    · go_enter Try.func83, Try.ntmps83
      go_wp2
      go_loop [1, 5] (fun l i => ∃ k : Nat, ∃ r : Int, k ≤ ss.length ∧ i = .int .i64 k ∧ 0 ≤ r ∧ r ≤ 1048576 ∧ l = .int .i64 r) (fun _ i => ss.length - (intOf i).toNat)
      case atStart => exact ⟨0, _, Nat.zero_le _, rfl, by omega, by omega, rfl⟩
      case round =>
        obtain ⟨k, r, hk, rfl, hr0, hr1, rfl⟩ := hrel
        by_cases hlt : k < ss.length
        · have hcr := hc k hlt
          have hsz := hs k
          obtain ⟨s, hs'⟩ : ∃ s, s = ss.getD k ByteArray.empty := ⟨_, rfl⟩
          rw [← hs'] at hcr hsz
          clear hs' hs hc
          unfold maxLen at hsz
          by_cases hneg : r - s.size < 0
          · go_wp2
            go_ret
            exact ⟨.inl rfl, rfl⟩
          · go_wp2
            go_round
            case rel => exact ⟨k + 1, _, by omega, by go_num, by omega, by omega, rfl⟩
            case measure => simp [intOf]; omega
        · go_wp2
          go_ret
          exact ⟨.inr ⟨_, hr0, hr1, by omega, rfl⟩, rfl⟩

set_option maxHeartbeats 1000000 in
theorem markStrL_any (k : Nat) (ss : List ByteArray) (v : Value) (lo hi : Nat) (w : World) (h : OwnS w lo hi v ss) (hk : 1 ≤ k) (hn : k + ss.length ≤ 100000000) :
    Calls Try.prog 39 #[v, .int .i64 k] w fun e w' => e = .returned (.int .i64 (k + ss.length : Nat)) ∧ Outside (Ivl lo hi) w w' := by
  rcases h.1.2 with ⟨rfl, h0⟩ | ⟨g, cap, cur, rfl, rest⟩
  · have HE : Hid ((k : Int) = (k + ss.length : Nat)) := Lib.hid (by omega)
    rw [h0] at *
    clear h
    go_enter Try.func39, Try.ntmps39
    go_wp2
    refine wp_loop_rounds 1 ?_
    rw [rounds_succ]
    go_wp2
    go_ret
    exact ⟨ret_int HE.out, Outside.refl _ _⟩
  · have HIV : Hid (Ivl lo hi g) := Lib.hid (h.2.1 g rfl)
    obtain ⟨n, hnn⟩ : ∃ n, n = ss.length := ⟨_, rfl⟩
    have HR0 : Hid (∃ xs, w.ownsRow lo 9 1 (.slice (some ⟨g, 0, none⟩) n cap) n xs) := Lib.hid (by rw [hnn]; exact ⟨_, h.1⟩)
    rw [← hnn] at hn ⊢
    clear h hnn rest
    go_enter Try.func39, Try.ntmps39
    go_wp2
    go_loopw [1, 5] (fun kk i wr => ∃ j q : Nat, j ≤ n ∧ i = .int .i64 j ∧ kk = .int .i64 q ∧ q = k + j ∧ (∃ xs, wr.ownsRow lo 9 1 (.slice (some ⟨g, 0, none⟩) n cap) n xs) ∧ Outside (Ivl lo hi) w wr) (fun _ i _ => n - (intOf i).toNat)
    case atStart => exact ⟨0, k, Nat.zero_le _, rfl, rfl, rfl, HR0.out, Outside.refl _ _⟩
    case round =>
      obtain ⟨j, q, hj, rfl, rfl, hq, hm, ho⟩ := hrel
      have HM := Lib.hid hm
      have HO := Lib.hid ho
      clear hm ho
      by_cases hlt : j < n
      · have C0 := Lib.hid (markText_any q wr (by omega) (by omega))
        have HQ := Lib.hid hq
        have hq2 : q ≤ 100000000 := by omega
        clear hq
        go_wp2_with fail
        refine C0.out.mono ?_
        rintro e w1 ⟨rfl, hb⟩
        have HM1 : Hid (∃ xs, w1.ownsRow lo 9 1 (.slice (some ⟨g, 0, none⟩) n cap) n xs) := Lib.hid (by
          obtain ⟨xs, h⟩ := HM.out
          exact ⟨xs, h.kept (grown_of_below hb none) (.inr (by simp [Value.ownBlock]))⟩)
        have HO1 : Hid (Outside (Ivl lo hi) w w1) := Lib.hid (HO.out.trans (Outside.of_below hb))
        obtain ⟨u, hu⟩ : ∃ u, w1.cell? ⟨g, j, none⟩ = some u := by
          obtain ⟨xs, h⟩ := HM1.out
          have := h.1
          exact ⟨xs[j]'(by omega), by rw [h.cellAt j (by omega), List.getElem?_eq_getElem (by omega)]⟩
        have hf : w1.frozen? ⟨g, j, none⟩ = false := by
          obtain ⟨xs, h⟩ := HM1.out
          exact h.frozenAt j
        obtain ⟨t, ht⟩ : ∃ t, t = markB q := ⟨_, rfl⟩
        have HM2 : Hid (∃ xs, (w1.setCell ⟨g, j, none⟩ (.string t)).ownsRow lo 9 1 (.slice (some ⟨g, 0, none⟩) n cap) n xs) := Lib.hid (by
          obtain ⟨xs, h⟩ := HM1.out
          exact ⟨_, (h.stored j (.string t)).1⟩)
        have HO2 : Hid (Outside (Ivl lo hi) w (w1.setCell ⟨g, j, none⟩ (.string t))) := Lib.hid (HO1.out.trans (Outside.setCell _ _ _ HIV.out))
        rw [← ht]
        clear hb ht
        go_wp2
        go_roundw
        case rel => exact ⟨j + 1, q + 1, by omega, by go_num, by go_num, by have := HQ.out; omega, HM2.out, HO2.out⟩
        case measure => simp [intOf]; omega
      · have HE : Hid ((q : Int) = (k + n : Nat)) := Lib.hid (by omega)
        go_wp2
        go_ret
        exact ⟨ret_int HE.out, HO.out⟩

end Go.Proofs.Ytmlenhjhkpgcnaa
