/- Slices of strings as the walks see them, and the laws' own helpers over such slices (equality, copy, size): contracts. A slice has at most the length that any slice has. -/
import Derived.Test.YtocenggbdnchfaaStands
import Derived.Laws.OwnMore
import Derived.BigQuiet
import Derived.Deep.QuietTactic
import Derived.ProofKit
namespace Go.Proofs.Ytocenggbdnchfaa
open Go.RowKit

/-- A slice value reads as a list of strings: it has no element, or each element's cell is there. -/
def StrsV (w : World) (v : Value) (ss : List ByteArray) : Prop :=
  (∃ a c, v = .slice a 0 c ∧ ss = []) ∨
  (∃ b off c, v = .slice (some ⟨b, off, none⟩) ss.length c ∧ 0 < ss.length ∧ ∀ i, i < ss.length → w.cell? ⟨b, off + i, none⟩ = some (.string (ss.getD i ByteArray.empty)))

/-- In a later world in which nothing below B has changed, a slice that lay in the earlier world still reads so. -/
theorem StrsV.below {w w' : World} {v : Value} {ss : List ByteArray} (h : StrsV w v ss) (hb : Below w.heap.size w w') : StrsV w' v ss := by
  rcases h with h | ⟨b, off, c, hv, hp, hc⟩
  · exact .inl h
  · refine .inr ⟨b, off, c, hv, hp, fun i hi => ?_⟩
    have h1 := hc i hi
    exact (hb.cell (p := ⟨b, off + i, none⟩) (World.block_lt_of_cell? w _ h1)).trans h1

/-- What an owned row of strings reads as. -/
theorem strsV_of_owns {w : World} {base : Nat} {v : Value} {ss : List ByteArray} (h : w.ownsRow base 9 1 v ss.length (ss.map Value.string)) : StrsV w v ss := by
  rcases h.2 with ⟨hv, h0⟩ | ⟨g, cap, cur, hv, rest⟩
  · exact .inl ⟨none, 0, by rw [hv], List.length_eq_zero_iff.1 h0⟩
  · by_cases h0 : ss.length = 0
    · exact .inl ⟨some ⟨g, 0, none⟩, cap, by rw [hv, h0], List.length_eq_zero_iff.1 h0⟩
    · subst hv
      refine .inr ⟨g, 0, cap, rfl, by omega, fun i hi => ?_⟩
      rw [Nat.zero_add, h.cellAt i (by omega)]
      simp [hi]

/-- Equality of two lists of strings, as a Bool. -/
def eqSs (a b : List ByteArray) : Bool := decide (a = b)

theorem eqSs_self (a : List ByteArray) : eqSs a a = true := by simp [eqSs]

theorem getD_eq {l : List ByteArray} {i : Nat} (h : i < l.length) : l.getD i ByteArray.empty = l[i] := by simp [h]

theorem list_ext_getD {a b : List ByteArray} (hl : a.length = b.length) (h : ∀ i, i < a.length → a.getD i ByteArray.empty = b.getD i ByteArray.empty) : a = b := by
  apply List.ext_getElem hl
  intro i h1 h2
  have := h i h1
  rwa [getD_eq h1, getD_eq h2] at this

/-- An argument that the reader has opened reads as the strings of its elements. -/
theorem strsV_of_open {w : World} {a : Addr} {len cap : Nat} {ss : List ByteArray} (hl : len ≤ ss.length) (hcell : ∀ i, i < ss.length → w.cell? (a.add i) = some (.string (ss.getD i ByteArray.empty))) :
    StrsV w (.slice (some a) len cap) (ss.take len) := by
  have hlen : (ss.take len).length = len := by simp; omega
  by_cases h0 : len = 0
  · subst h0; exact .inl ⟨some a, cap, rfl, by simp⟩
  · obtain ⟨b, off, spot⟩ := a
    have hc := hcell 0 (by omega)
    have hspot : spot = none := by simpa [Addr.add] using World.cell?_spot hc
    subst hspot
    refine .inr ⟨b, off, cap, by rw [hlen], by omega, fun i hi => ?_⟩
    rw [hlen] at hi
    have h1 := hcell i (by omega)
    have h2 : (ss.take len).getD i ByteArray.empty = ss.getD i ByteArray.empty := by simp [hi]
    rw [h2]
    have e : Addr.add ⟨b, off, none⟩ i = ⟨b, off + i, none⟩ := by
      simp only [Addr.add]; split <;> simp_all
    rw [e] at h1; exact h1

theorem owns_cap {w : World} {base e size n : Nat} {v : Value} {xs : List Value} (h : w.ownsRow base e size v n xs) : ∀ a m c, v = .slice a m c → m ≤ c := by
  intro a m c hv
  rcases h.2 with ⟨h1, _⟩ | ⟨g, cap, cur, h1, _, _, h2, _⟩
  · rw [h1] at hv; injection hv with _ e1 e2; omega
  · rw [h1] at hv; injection hv with _ e1 e2; omega

theorem infoStr : (Try.prog.info? 9).map (fun i => (i.zero, i.size, i.bytes)) = some (some (.string ByteArray.empty), 1, 16) := by kernel_rfl

/-- A row whose cells are known one by one. -/
theorem row_known {w : World} {base : Nat} {v : Value} {n : Nat} {xs : List Value} {ss : List ByteArray} (h : w.ownsRow base 9 1 v n xs) (hn : n = ss.length)
    (hx : ∀ j, j < n → xs[j]? = some (.string (ss.getD j ByteArray.empty))) : w.ownsRow base 9 1 v ss.length (ss.map Value.string) := by
  subst hn
  have e : xs = ss.map Value.string := by
    apply List.ext_getElem?
    intro j
    by_cases hj : j < ss.length
    · rw [hx j hj]; simp [hj]
    · have hl := h.1
      rw [List.getElem?_eq_none (by omega), List.getElem?_eq_none (by simp; omega)]
  rw [← e]; exact h

/-- What a copying loop has written after k rounds. -/
def CopyRel (g : Nat) (ss : List ByteArray) (k : Nat) (wr : World) : Prop :=
  ∃ xs, wr.ownsRow g 9 1 (.slice (some ⟨g, 0, none⟩) ss.length ss.length) ss.length xs ∧ ∀ j, j < k → xs[j]? = some (.string (ss.getD j ByteArray.empty))

set_option maxHeartbeats 1000000 in
theorem toStringS_any (v : Value) (ss : List ByteArray) (w : World) (hv : StrsV w v ss) (hn : ss.length * 16 ≤ 281474976710656) :
    Calls Try.prog 22 #[v] w fun e w' => ∃ v', e = .returned v' ∧ w'.ownsRow w.heap.size 9 1 v' ss.length (ss.map Value.string) ∧ Below w.heap.size w w' := by
  obtain ⟨i0, hi, hz0, hz1, hz2⟩ := info_parts infoStr
  rcases hv with ⟨a, c, rfl, rfl⟩ | ⟨b, off, c, rfl, hp, hc⟩
  · go_enter Try.func22, Try.ntmps22
    go_wp2_with (at_make; refine wpList_make_full _ rfl _ _ 26 rfl w.heap.size 9 i0 (.string ByteArray.empty) 1 Try.underlying26 hi hz0 hz1 .i64 .i64 _ _ 0 rfl rfl rfl rfl (by omega) (by decide) (Nat.le_refl _) ?_; intro w1 hown1 hg1)
    refine wp_loop_rounds 1 ?_
    rw [rounds_succ]
    go_wp2
    go_ret
    exact ⟨_, rfl, by simpa [madeCells] using hown1, (Below.refl _ _).grown hg1 (Nat.le_refl _) (by simp)⟩
  · go_enter Try.func22, Try.ntmps22
    go_wp2_with (at_make; refine wpList_make_full _ rfl _ _ 26 rfl w.heap.size 9 i0 (.string ByteArray.empty) 1 Try.underlying26 hi hz0 hz1 .i64 .i64 _ _ ss.length rfl rfl rfl rfl (by rw [hz2]; omega) (by unfold maxLen; omega) (Nat.le_refl _) ?_; intro w1 hown1 hg1)
    go_loopw [4] (fun i wr => ∃ k : Nat, k ≤ ss.length ∧ i = .int .i64 k ∧ CopyRel w.heap.size ss k wr ∧ Below w.heap.size w wr) (fun i _ => ss.length - (intOf i).toNat)
    case atStart => exact ⟨0, Nat.zero_le _, rfl, ⟨_, hown1, fun j hj => absurd hj (Nat.not_lt_zero _)⟩, (Below.refl _ _).grown hg1 (Nat.le_refl _) (by simp)⟩
    case round =>
      obtain ⟨k, hk, rfl, ⟨xs, hown, hx⟩, hbel⟩ := hrel
      have hxs := hown.1
      by_cases hlt : k < ss.length
      · have hcw := hc k hlt
        have hcr := (hbel.cell (p := ⟨b, off + k, none⟩) (World.block_lt_of_cell? w _ hcw)).trans hcw
        obtain ⟨s, hs⟩ : ∃ s, s = ss.getD k ByteArray.empty := ⟨_, rfl⟩
        rw [← hs] at hcr
        have hold := hown.cellAt k (by omega)
        rw [List.getElem?_eq_getElem (by omega)] at hold
        obtain ⟨u, hu⟩ : ∃ u, u = xs[k]'(by omega) := ⟨_, rfl⟩
        rw [← hu] at hold
        have hfr := hown.frozenAt k
        have HS : Hid (s = ss.getD k ByteArray.empty) := Lib.hid hs
        have HX : Hid (∀ j, j < k → xs[j]? = some (.string (ss.getD j ByteArray.empty))) := Lib.hid hx
        have HC : Hid (∀ i, i < ss.length → w.cell? ⟨b, off + i, none⟩ = some (.string (ss.getD i ByteArray.empty))) := Lib.hid hc
        have HL : Hid (xs.length = ss.length * 1) := Lib.hid hxs
        clear hs hu hx hcw hc hxs
        go_wp2
        go_roundw
        case rel =>
          refine ⟨k + 1, by omega, by go_num, ⟨_, (hown.stored k (.string s)).1, fun j hj => ?_⟩, hbel.trans (Below.refl _ _ |>.setCell (by simp) _)⟩
          have hl := HL.out
          by_cases e : j = k
          · subst e; rw [List.getElem?_set_self (by omega), HS.out]
          · rw [List.getElem?_set_ne (by omega)]; exact HX.out j (by omega)
        case measure => simp [intOf]; omega
      · have hke : k = ss.length := by omega
        have R := row_known hown rfl (fun j hj => hx j (by omega))
        have HR : Hid _ := Lib.hid R
        clear R hx hown hc hke
        go_wp2
        go_ret
        exact ⟨_, rfl, HR.out, hbel⟩

/-- What the size helper answers: below 0, or the slice has at most 'left' elements. -/
def SzRes (ss : List ByteArray) (e : Ending) : Prop := e = .returned (.int .i64 (-1)) ∨ ∃ r : Int, 0 ≤ r ∧ r ≤ 1048576 ∧ ss.length ≤ 1048576 ∧ (∀ j, j < ss.length → (ss.getD j ByteArray.empty).size ≤ 1048576) ∧ e = .returned (.int .i64 r)

set_option maxHeartbeats 1000000 in
theorem szStringS_any (v : Value) (ss : List ByteArray) (w : World) (hv : StrsV w v ss) (hn : ss.length ≤ 9223372036854775807) (hs : ∀ i, (ss.getD i ByteArray.empty).size ≤ maxLen) :
    Calls Try.prog 21 #[v, .int .i64 1048576] w fun e w' => SzRes ss e ∧ w = w' := by
  rcases hv with ⟨a, c, rfl, rfl⟩ | ⟨b, off, c, rfl, hp, hc⟩
  · go_enter Try.func21, Try.ntmps21
    go_wp2
    refine wp_loop_rounds 1 ?_
    rw [rounds_succ]
    go_wp2
    go_ret
    exact ⟨.inr ⟨_, by omega, by omega, by simp, by simp, rfl⟩, rfl⟩
  · by_cases hbig : (1048576 : Int) - ss.length < 0
    · go_enter Try.func21, Try.ntmps21
      go_wp2
      go_ret
      exact ⟨.inl rfl, rfl⟩
    · go_enter Try.func21, Try.ntmps21
      go_wp2
      go_loop [1, 5] (fun l i => ∃ k : Nat, ∃ r : Int, k ≤ ss.length ∧ i = .int .i64 k ∧ 0 ≤ r ∧ r ≤ 1048576 ∧ (∀ j, j < k → (ss.getD j ByteArray.empty).size ≤ 1048576) ∧ l = .int .i64 r) (fun _ i => ss.length - (intOf i).toNat)
      case atStart => exact ⟨0, _, Nat.zero_le _, rfl, by omega, by omega, fun j hj => absurd hj (Nat.not_lt_zero _), rfl⟩
      case round =>
        obtain ⟨k, r, hk, rfl, hr0, hr1, hold0, rfl⟩ := hrel
        have HO : Hid (∀ j, j < k → (ss.getD j ByteArray.empty).size ≤ 1048576) := Lib.hid hold0
        clear hold0
        by_cases hlt : k < ss.length
        · have hcr := hc k hlt
          have hsz := hs k
          obtain ⟨s, hs'⟩ : ∃ s, s = ss.getD k ByteArray.empty := ⟨_, rfl⟩
          rw [← hs'] at hcr hsz
          have HS : Hid (s = ss.getD k ByteArray.empty) := Lib.hid hs'
          clear hs' hs hc
          unfold maxLen at hsz
          by_cases hneg : r - s.size < 0
          · go_wp2
            go_ret
            exact ⟨.inl rfl, rfl⟩
          · go_wp2
            go_round
            case rel => exact ⟨k + 1, _, by omega, by go_num, by omega, by omega, fun j hj => by
              by_cases e : j = k
              · rw [e, ← HS.out]; omega
              · exact HO.out j (by omega), rfl⟩
            case measure => simp [intOf]; omega
        · go_wp2
          go_ret
          exact ⟨.inr ⟨_, hr0, hr1, by omega, fun j hj => HO.out j (by omega), rfl⟩, rfl⟩

theorem toList_inj {s t : ByteArray} (h : s.toList = t.toList) : s = t := by
  have e := congrArg List.toArray h
  apply ByteArray.ext
  simpa [ByteArray.toList_eq] using h

theorem drewN_two (w : World) (a b : Nat) : (w.drewN a).drewN b = w.drewN (a + b) := by
  simp [World.drewN, Nat.add_assoc]

/-- A world that has only drawn. -/
def Drawn (w w' : World) : Prop := ∃ n, w' = w.drewN n

theorem Drawn.cell {w w' : World} {a : Addr} {v : Value} (h : Drawn w w') (hc : w.cell? a = some v) : w'.cell? a = some v := by
  obtain ⟨n, rfl⟩ := h; exact hc
theorem Drawn.then {w w' : World} (h : Drawn w w') (m : Nat) : Drawn w (w'.drewN m) := by
  obtain ⟨n, rfl⟩ := h; exact ⟨n + m, drewN_two _ _ _⟩
theorem Drawn.below {w w' : World} (h : Drawn w w') (B : Nat) : Below B w w' := by
  obtain ⟨n, rfl⟩ := h; exact ⟨rfl, rfl, rfl, Nat.le_refl _, fun _ _ => rfl⟩

set_option maxHeartbeats 1000000 in
theorem eqStringS_any (va vb : Value) (sa sb : List ByteArray) (w : World) (ha : StrsV w va sa) (hb : StrsV w vb sb) (hna : sa.length ≤ 281474976710656) (hnb : sb.length ≤ 281474976710656) :
    Calls Try.prog 18 #[va, vb] w fun e w' => e = .returned (.bool (eqSs sa sb)) ∧ Drawn w w' := by
  rcases ha with ⟨a, c, rfl, rfl⟩ | ⟨b, off, c, rfl, hp, hc⟩ <;> rcases hb with ⟨a', c', rfl, rfl⟩ | ⟨b', off', c', rfl, hp', hc'⟩
  · go_enter Try.func18, Try.ntmps18
    go_wp2
    refine wp_loop_rounds 1 ?_
    rw [rounds_succ]
    go_wp2
    go_ret
    exact ⟨rfl, 0, rfl⟩
  · have hne : (((0 : Nat) : Int) == (sb.length : Int)) = false := by simp; omega
    have hne2 : ((0 : Int) == (sb.length : Int)) = false := by simp; omega
    have hne3 : Hid ([] ≠ sb) := Lib.hid (by intro e; subst e; simp at hp')
    go_enter Try.func18, Try.ntmps18
    go_wp2
    go_ret
    exact ⟨ret_bool (by simp [eqSs, hne3.out]), 0, rfl⟩
  · have hne2 : ((sa.length : Int) == 0) = false := by
      rw [beq_eq_false_iff_ne]; omega
    have hne3 : Hid (sa ≠ []) := Lib.hid (by intro e; subst e; simp at hp)
    go_enter Try.func18, Try.ntmps18
    go_wp2
    go_ret
    exact ⟨ret_bool (by simp [eqSs, hne3.out]), 0, rfl⟩
  · by_cases hl : sa.length = sb.length
    · have hl' : ((sa.length : Int) == (sb.length : Int)) = true := by simp; omega
      have HL : Hid (sa.length = sb.length) := Lib.hid hl
      have HC : Hid (∀ i, i < sa.length → w.cell? ⟨b, off + i, none⟩ = some (.string (sa.getD i ByteArray.empty))) := Lib.hid hc
      have HC' : Hid (∀ i, i < sb.length → w.cell? ⟨b', off' + i, none⟩ = some (.string (sb.getD i ByteArray.empty))) := Lib.hid hc'
      clear hl hc hc'
      go_enter Try.func18, Try.ntmps18
      go_wp2
      go_loopw [5] (fun i wr => ∃ k n : Nat, k ≤ sa.length ∧ i = .int .i64 k ∧ wr = w.drewN n ∧ ∀ j, j < k → sa.getD j ByteArray.empty = sb.getD j ByteArray.empty) (fun i _ => sa.length - (intOf i).toNat)
      case atStart => exact ⟨0, 0, Nat.zero_le _, rfl, rfl, fun j hj => absurd hj (Nat.not_lt_zero _)⟩
      case round =>
        obtain ⟨k, n, hk, rfl, rfl, heq⟩ := hrel
        have HE : Hid (∀ j, j < k → sa.getD j ByteArray.empty = sb.getD j ByteArray.empty) := Lib.hid heq
        clear heq
        by_cases hlt : k < sa.length
        · have hcr := HC.out k hlt
          have hcr' := HC'.out k (by have := HL.out; omega)
          have hltb : k < sb.length := by have := HL.out; omega
          obtain ⟨s, hs⟩ : ∃ s, s = sa.getD k ByteArray.empty := ⟨_, rfl⟩
          obtain ⟨t, ht⟩ : ∃ t, t = sb.getD k ByteArray.empty := ⟨_, rfl⟩
          rw [← hs] at hcr
          rw [← ht] at hcr'
          have HS : Hid (s = sa.getD k ByteArray.empty) := Lib.hid hs
          have HT : Hid (t = sb.getD k ByteArray.empty) := Lib.hid ht
          clear hs ht
          by_cases hst : s = t
          · have hq : (s.toList == t.toList) = true := by rw [hst]; simp
            have HQ : Hid (s = t) := Lib.hid hst
            clear hst
            go_wp2
            go_quiet (fail)
            go_wp2
            go_roundw
            case rel => exact ⟨k + 1, n + nq, by omega, by go_num, rfl, fun j hj => by
              by_cases e : j = k
              · rw [e, ← HS.out, ← HT.out]; exact HQ.out
              · exact HE.out j (by omega)⟩
            case measure => simp [intOf]; omega
          · have hq : (s.toList == t.toList) = false := by rw [beq_eq_false_iff_ne]; intro e; exact hst (toList_inj e)
            have HQ : Hid (sa ≠ sb) := Lib.hid (by intro e; subst e; exact hst (HS.out.trans HT.out.symm))
            clear hst
            go_wp2
            go_quiet (fail)
            go_wp2
            go_ret
            exact ⟨ret_bool (by simp [eqSs, HQ.out]), n + nq, drewN_two _ _ _⟩
        · have he : Hid (sa = sb) := Lib.hid (list_ext_getD HL.out (fun i hi => HE.out i (by omega)))
          go_wp2
          go_ret
          exact ⟨ret_bool (by simp [eqSs, he.out]), n, rfl⟩
    · have hne : ((sa.length : Int) == (sb.length : Int)) = false := by simp; omega
      have hne3 : Hid (sa ≠ sb) := Lib.hid (by intro e; subst e; exact hl rfl)
      clear hl
      go_enter Try.func18, Try.ntmps18
      go_wp2
      go_ret
      exact ⟨ret_bool (by simp [eqSs, hne3.out]), 0, rfl⟩

end Go.Proofs.Ytocenggbdnchfaa
