/- Slices of strings as the walks see them, and the laws' own helpers over such slices (equality, copy, size): contracts. A slice has at most the length that any slice has. -/
import Derived.Test.YtohalpafmcobpaaGreatBaseF
import Derived.Laws.OwnMore
import Derived.BigQuiet
import Derived.Deep.QuietTactic
import Derived.ProofKit
namespace Go.Proofs.YtohalpafmcobpaaGreat
open Go.RowKit

/-- Equality of two lists of strings, as a Bool. -/
def eqSs (a b : List ByteArray) : Bool := decide (a = b)

theorem eqSs_self (a : List ByteArray) : eqSs a a = true := by simp [eqSs]

/-- What a copying loop has written after k rounds. -/
def CopyRel (g : Nat) (ss : List ByteArray) (k : Nat) (wr : World) : Prop :=
  ∃ xs, wr.ownsRow g 9 1 (.slice (some ⟨g, 0, none⟩) ss.length ss.length) ss.length xs ∧ ∀ j, j < k → xs[j]? = some (.string (ss.getD j ByteArray.empty))

set_option maxHeartbeats 1000000 in
theorem toStringS_any (v : Value) (ss : List ByteArray) (w : World) (hv : StrsV w v ss) (hn : ss.length * 16 ≤ 281474976710656) :
    Calls Tryz.prog 40 #[v] w fun e w' => ∃ v', e = .returned v' ∧ w'.ownsRow w.heap.size 9 1 v' ss.length (ss.map Value.string) ∧ Below w.heap.size w w' := by
  obtain ⟨i0, hi, hz0, hz1, hz2⟩ := info_parts infoStr
  rcases hv with ⟨a, c, rfl, rfl⟩ | ⟨b, off, c, rfl, hp, hc⟩
  · go_enter Tryz.func40, Tryz.ntmps40
    go_wp2_with (at_make; refine wpList_make_full _ rfl _ _ 22 rfl w.heap.size 9 i0 (.string ByteArray.empty) 1 Tryz.underlying22 hi hz0 hz1 .i64 .i64 _ _ 0 rfl rfl rfl rfl (by omega) (by decide) (Nat.le_refl _) ?_; intro w1 hown1 hg1)
    refine wp_loop_rounds 1 ?_
    rw [rounds_succ]
    go_wp2
    go_ret
    exact ⟨_, rfl, by simpa [madeCells] using hown1, (Below.refl _ _).grown hg1 (Nat.le_refl _) (by simp)⟩
  · go_enter Tryz.func40, Tryz.ntmps40
    go_wp2_with (at_make; refine wpList_make_full _ rfl _ _ 22 rfl w.heap.size 9 i0 (.string ByteArray.empty) 1 Tryz.underlying22 hi hz0 hz1 .i64 .i64 _ _ ss.length rfl rfl rfl rfl (by rw [hz2]; omega) (by unfold maxLen; omega) (Nat.le_refl _) ?_; intro w1 hown1 hg1)
    go_loopw [4] (fun i wr => ∃ k : Nat, k ≤ ss.length ∧ i = .int .i64 k ∧ CopyRel w.heap.size ss k wr ∧ Below w.heap.size w wr) (fun i _ => ss.length - (intOf i).toNat)
    case atStart => exact ⟨0, Nat.zero_le _, rfl, ⟨_, hown1, fun j hj => absurd hj (Nat.not_lt_zero _)⟩, (Below.refl _ _).grown hg1 (Nat.le_refl _) (by simp)⟩
    case round =>
      obtain ⟨k, hk, rfl, ⟨xs, hown, hx⟩, hbel⟩ := hrel
      have hxs := hown.1
      by_cases hlt : k < ss.length
      · have hcw := hc k hlt
        have hcr := (hbel.cell (p := ⟨b, off + k, none⟩) (World.block_lt_of_cell? w _ hcw)).trans hcw
        obtain ⟨s, hs⟩ : ∃ s, s = ss.getD k ByteArray.empty := ⟨_, rfl⟩
        rw [← hs] at hcr
        have hold := hown.cellAt k (by omega)
        rw [List.getElem?_eq_getElem (by omega)] at hold
        obtain ⟨u, hu⟩ : ∃ u, u = xs[k]'(by omega) := ⟨_, rfl⟩
        rw [← hu] at hold
        have hfr := hown.frozenAt k
        have HS : Hid (s = ss.getD k ByteArray.empty) := Lib.hid hs
        have HX : Hid (∀ j, j < k → xs[j]? = some (.string (ss.getD j ByteArray.empty))) := Lib.hid hx
        have HC : Hid (∀ i, i < ss.length → w.cell? ⟨b, off + i, none⟩ = some (.string (ss.getD i ByteArray.empty))) := Lib.hid hc
        have HL : Hid (xs.length = ss.length * 1) := Lib.hid hxs
        clear hs hu hx hcw hc hxs
        go_wp2
        go_roundw
        case rel =>
          refine ⟨k + 1, by omega, by go_num, ⟨_, (hown.stored k (.string s)).1, fun j hj => ?_⟩, hbel.trans (Below.refl _ _ |>.setCell (by simp) _)⟩
          have hl := HL.out
          by_cases e : j = k
          · subst e; rw [List.getElem?_set_self (by omega), HS.out]
          · rw [List.getElem?_set_ne (by omega)]; exact HX.out j (by omega)
        case measure => simp [intOf]; omega
      · have hke : k = ss.length := by omega
        have R := row_known hown rfl (fun j hj => hx j (by omega))
        have HR : Hid _ := Lib.hid R
        clear R hx hown hc hke
        go_wp2
        go_ret
        exact ⟨_, rfl, HR.out, hbel⟩

/-- What the size helper answers: below 0, or the slice has at most 'left' elements. -/
def SzRes (ss : List ByteArray) (e : Ending) : Prop := e = .returned (.int .i64 (-1)) ∨ ∃ r : Int, 0 ≤ r ∧ r ≤ 1048576 ∧ ss.length ≤ 1048576 ∧ (∀ j, j < ss.length → (ss.getD j ByteArray.empty).size ≤ 1048576) ∧ e = .returned (.int .i64 r)

set_option maxHeartbeats 1000000 in
theorem szStringS_any (v : Value) (ss : List ByteArray) (w : World) (hv : StrsV w v ss) (hn : ss.length ≤ 9223372036854775807) (hs : ∀ i, (ss.getD i ByteArray.empty).size ≤ maxLen) :
    Calls Tryz.prog 34 #[v, .int .i64 1048576] w fun e w' => SzRes ss e ∧ w = w' := by
  rcases hv with ⟨a, c, rfl, rfl⟩ | ⟨b, off, c, rfl, hp, hc⟩
  · go_enter Tryz.func34, Tryz.ntmps34
    go_wp2
    refine wp_loop_rounds 1 ?_
    rw [rounds_succ]
    go_wp2
    go_ret
    exact ⟨.inr ⟨_, by omega, by omega, by simp, by simp, rfl⟩, rfl⟩
  · by_cases hbig : (1048576 : Int) - ss.length < 0
    · go_enter Tryz.func34, Tryz.ntmps34
      go_wp2
      go_ret
      exact ⟨.inl rfl, rfl⟩
    · go_enter Tryz.func34, Tryz.ntmps34
      go_wp2
      go_loop [1, 5] (fun l i => ∃ k : Nat, ∃ r : Int, k ≤ ss.length ∧ i = .int .i64 k ∧ 0 ≤ r ∧ r ≤ 1048576 ∧ (∀ j, j < k → (ss.getD j ByteArray.empty).size ≤ 1048576) ∧ l = .int .i64 r) (fun _ i => ss.length - (intOf i).toNat)
      case atStart => exact ⟨0, _, Nat.zero_le _, rfl, by omega, by omega, fun j hj => absurd hj (Nat.not_lt_zero _), rfl⟩
      case round =>
        obtain ⟨k, r, hk, rfl, hr0, hr1, hold0, rfl⟩ := hrel
        have HO : Hid (∀ j, j < k → (ss.getD j ByteArray.empty).size ≤ 1048576) := Lib.hid hold0
        clear hold0
        by_cases hlt : k < ss.length
        · have hcr := hc k hlt
          have hsz := hs k
          obtain ⟨s, hs'⟩ : ∃ s, s = ss.getD k ByteArray.empty := ⟨_, rfl⟩
          rw [← hs'] at hcr hsz
          have HS : Hid (s = ss.getD k ByteArray.empty) := Lib.hid hs'
          clear hs' hs hc
          unfold maxLen at hsz
          by_cases hneg : r - s.size < 0
          · go_wp2
            go_ret
            exact ⟨.inl rfl, rfl⟩
          · go_wp2
            go_round
            case rel => exact ⟨k + 1, _, by omega, by go_num, by omega, by omega, fun j hj => by
              by_cases e : j = k
              · rw [e, ← HS.out]; omega
              · exact HO.out j (by omega), rfl⟩
            case measure => simp [intOf]; omega
        · go_wp2
          go_ret
          exact ⟨.inr ⟨_, hr0, hr1, by omega, fun j hj => HO.out j (by omega), rfl⟩, rfl⟩

set_option maxHeartbeats 1000000 in
theorem eqStringS_any (va vb : Value) (sa sb : List ByteArray) (w : World) (ha : StrsV w va sa) (hb : StrsV w vb sb) (hna : sa.length ≤ 281474976710656) (hnb : sb.length ≤ 281474976710656) :
    Calls Tryz.prog 45 #[va, vb] w fun e w' => e = .returned (.bool (eqSs sa sb)) ∧ Drawn w w' := by
  rcases ha with ⟨a, c, rfl, rfl⟩ | ⟨b, off, c, rfl, hp, hc⟩ <;> rcases hb with ⟨a', c', rfl, rfl⟩ | ⟨b', off', c', rfl, hp', hc'⟩
  · go_enter Tryz.func45, Tryz.ntmps45
    go_wp2
    refine wp_loop_rounds 1 ?_
    rw [rounds_succ]
    go_wp2
    go_ret
    exact ⟨rfl, 0, rfl⟩
  · have hne : (((0 : Nat) : Int) == (sb.length : Int)) = false := by simp; omega
    have hne2 : ((0 : Int) == (sb.length : Int)) = false := by simp; omega
    have hne3 : Hid ([] ≠ sb) := Lib.hid (by intro e; subst e; simp at hp')
    go_enter Tryz.func45, Tryz.ntmps45
    go_wp2
    go_ret
    exact ⟨ret_bool (by simp [eqSs, hne3.out]), 0, rfl⟩
  · have hne2 : ((sa.length : Int) == 0) = false := by
      rw [beq_eq_false_iff_ne]; omega
    have hne3 : Hid (sa ≠ []) := Lib.hid (by intro e; subst e; simp at hp)
    go_enter Tryz.func45, Tryz.ntmps45
    go_wp2
    go_ret
    exact ⟨ret_bool (by simp [eqSs, hne3.out]), 0, rfl⟩
  · by_cases hl : sa.length = sb.length
    · have hl' : ((sa.length : Int) == (sb.length : Int)) = true := by simp; omega
      have HL : Hid (sa.length = sb.length) := Lib.hid hl
      have HC : Hid (∀ i, i < sa.length → w.cell? ⟨b, off + i, none⟩ = some (.string (sa.getD i ByteArray.empty))) := Lib.hid hc
      have HC' : Hid (∀ i, i < sb.length → w.cell? ⟨b', off' + i, none⟩ = some (.string (sb.getD i ByteArray.empty))) := Lib.hid hc'
      clear hl hc hc'
      go_enter Tryz.func45, Tryz.ntmps45
      go_wp2
      go_loopw [5] (fun i wr => ∃ k n : Nat, k ≤ sa.length ∧ i = .int .i64 k ∧ wr = w.drewN n ∧ ∀ j, j < k → sa.getD j ByteArray.empty = sb.getD j ByteArray.empty) (fun i _ => sa.length - (intOf i).toNat)
      case atStart => exact ⟨0, 0, Nat.zero_le _, rfl, rfl, fun j hj => absurd hj (Nat.not_lt_zero _)⟩
      case round =>
        obtain ⟨k, n, hk, rfl, rfl, heq⟩ := hrel
        have HE : Hid (∀ j, j < k → sa.getD j ByteArray.empty = sb.getD j ByteArray.empty) := Lib.hid heq
        clear heq
        by_cases hlt : k < sa.length
        · have hcr := HC.out k hlt
          have hcr' := HC'.out k (by have := HL.out; omega)
          have hltb : k < sb.length := by have := HL.out; omega
          obtain ⟨s, hs⟩ : ∃ s, s = sa.getD k ByteArray.empty := ⟨_, rfl⟩
          obtain ⟨t, ht⟩ : ∃ t, t = sb.getD k ByteArray.empty := ⟨_, rfl⟩
          rw [← hs] at hcr
          rw [← ht] at hcr'
          have HS : Hid (s = sa.getD k ByteArray.empty) := Lib.hid hs
          have HT : Hid (t = sb.getD k ByteArray.empty) := Lib.hid ht
          clear hs ht
          by_cases hst : s = t
          · have hq : (s.toList == t.toList) = true := by rw [hst]; simp
            have HQ : Hid (s = t) := Lib.hid hst
            clear hst
            go_wp2
            go_quiet (fail)
            go_wp2
            go_roundw
            case rel => exact ⟨k + 1, n + nq, by omega, by go_num, rfl, fun j hj => by
              by_cases e : j = k
              · rw [e, ← HS.out, ← HT.out]; exact HQ.out
              · exact HE.out j (by omega)⟩
            case measure => simp [intOf]; omega
          · have hq : (s.toList == t.toList) = false := by rw [beq_eq_false_iff_ne]; intro e; exact hst (toList_inj e)
            have HQ : Hid (sa ≠ sb) := Lib.hid (by intro e; subst e; exact hst (HS.out.trans HT.out.symm))
            clear hst
            go_wp2
            go_quiet (fail)
            go_wp2
            go_ret
            exact ⟨ret_bool (by simp [eqSs, HQ.out]), n + nq, drewN_two _ _ _⟩
        · have he : Hid (sa = sb) := Lib.hid (list_ext_getD HL.out (fun i hi => HE.out i (by omega)))
          go_wp2
          go_ret
          exact ⟨ret_bool (by simp [eqSs, he.out]), n, rfl⟩
    · have hne : ((sa.length : Int) == (sb.length : Int)) = false := by simp; omega
      have hne3 : Hid (sa ≠ sb) := Lib.hid (by intro e; subst e; exact hl rfl)
      clear hl
      go_enter Tryz.func45, Tryz.ntmps45
      go_wp2
      go_ret
      exact ⟨ret_bool (by simp [eqSs, hne3.out]), 0, rfl⟩

end Go.Proofs.YtohalpafmcobpaaGreat
