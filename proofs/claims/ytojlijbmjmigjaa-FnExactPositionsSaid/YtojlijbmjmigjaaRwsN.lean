/- Rows of positions marked and looked at again: contracts. -/
import Derived.Test.YtojlijbmjmigjaaRwsM
namespace Go.Proofs.Ytojlijbmjmigjaa
open Go.RowKit
set_option linter.unusedVariables false

/-- How many numbers the first k rows hold. -/
def offM (M : Nat → List Int) : Nat → Nat
  | 0 => 0
  | k + 1 => offM M k + (M k).length

theorem offM_mono (M : Nat → List Int) {j k : Nat} (h : j ≤ k) : offM M j ≤ offM M k := by
  induction k with
  | zero => have : j = 0 := by omega
            subst this; exact Nat.le_refl _
  | succ k ih =>
    by_cases e : j = k + 1
    · subst e; exact Nat.le_refl _
    · have := ih (by omega); simp only [offM]; omega

theorem offM_len (M : Nat → List Int) {j n : Nat} (h : j < n) : offM M j + (M j).length ≤ offM M n := offM_mono M (Nat.succ_le_of_lt h)

/-- The rows that the marking leaves. -/
def mkM (M : Nat → List Int) (k0 j : Nat) : List Int := mkI (k0 + offM M j) (M j).length

theorem RowsG.next {w w' : World} {S : Nat → Prop} {g n i : Nat} {f : Nat → Value} {Ss : Nat → Nat → Prop} {M M' : Nat → List Int} (h : RowsG w S g f Ss n M) (hi : i < n) (hS : ∀ b, S b → b < w.heap.size)
    (ho : IntsO w' (Ss i) (f i) (M' i)) (hout : Outside (Ss i) w w') (hM : ∀ j, j < n → j ≠ i → M' j = M j) : RowsG w' S g f Ss n M' :=
  ⟨h.top, fun k hk => hout.cell (h.cell k hk) (fun hs => (h.sub i g hi hs).2 rfl), fun k hk => by
    by_cases e : k = i
    · subst e; exact ho
    · rw [hM k hk e]
      exact (h.row k hk).frame fun b hb => hout.block b (hS b (h.sub k b hk hb).1) (fun hb' => e (h.dis k i b hk hi hb hb')), h.sub, h.dis⟩

theorem markSS_any (n : Nat) (M : Nat → List Int) (k0 : Nat) (v : Value) (lo hi : Nat) (w : World) (h : RowsI w lo hi v n M) (hn : n ≤ 1048576) (hk : k0 + offM M n ≤ 100000000) :
    Calls Try.prog 47 #[v, .int .i64 k0] w fun e w' => e = .returned (.int .i64 (k0 + offM M n : Nat)) ∧ RowsI w' lo hi v n (mkM M k0) ∧ Outside (Ivl lo hi) w w' := by
  have hz := h.2
  rcases h.1 with ⟨rfl, a, c, rfl⟩ | ⟨g, c, f, Ss, rfl, hp, hg⟩
  · have HE : Hid (RowsI w lo hi (.slice a 0 c) 0 (mkM M k0)) := Lib.hid ⟨.inl ⟨rfl, a, c, rfl⟩, hz⟩
    go_enter Try.func47, Try.ntmps47
    go_wp2
    refine wp_loop_rounds 1 ?_
    rw [rounds_succ]
    go_wp2
    go_ret
    exact ⟨rfl, HE.out, Outside.refl _ _⟩
  · have HG0 : Hid (RowsG w (Ivl lo hi) g f Ss n (fun j => if j < 0 then mkM M k0 j else M j)) := Lib.hid (by simpa using hg)
    clear h hg
    go_enter Try.func47, Try.ntmps47
    go_wp2
    go_loopw [1, 5] (fun kk i wr => ∃ j q : Nat, j ≤ n ∧ i = .int .i64 j ∧ kk = .int .i64 q ∧ q = k0 + offM M j ∧ RowsG wr (Ivl lo hi) g f Ss n (fun x => if x < j then mkM M k0 x else M x) ∧ Outside (Ivl lo hi) w wr) (fun _ i _ => n - (intOf i).toNat)
    case atStart => exact ⟨0, k0, Nat.zero_le _, rfl, rfl, rfl, HG0.out, Outside.refl _ _⟩
    case round =>
      obtain ⟨j, q, hj, rfl, rfl, hq, hgr, hout⟩ := hrel
      have HG := Lib.hid hgr
      have HO := Lib.hid hout
      have HQ := Lib.hid hq
      clear hgr hout hq
      by_cases hlt : j < n
      · have c0 := HG.out.cell j hlt
        have hrow := HG.out.row j hlt
        simp only [Nat.lt_irrefl, if_false] at hrow
        have hle := offM_len M hlt
        have hzr := HO.out.size
        have C := Lib.hid (markIntS_any (M j) q (f j) (Ss j) wr hrow (by have := HQ.out; omega))
        obtain ⟨ra, rc, hfj, _⟩ := hrow.read
        rw [hfj] at c0 C
        clear hrow hle
        go_wp2_with (go_at_call 40; refine C.out.mono ?_; rintro e w6 ⟨rfl, ho, hout⟩; have HO6 := Lib.hid ho; have HX6 := Lib.hid hout; clear ho hout)
        have HN : Hid (RowsG w6 (Ivl lo hi) g f Ss n (fun x => if x < j + 1 then mkM M k0 x else M x)) := Lib.hid (HG.out.next hlt (fun b hb => by have := hb.2; omega) (by rw [hfj]; simp only [Nat.lt_succ_self, if_true, mkM]; rw [← HQ.out]; exact HO6.out) HX6.out (fun x hx hne => by
          by_cases e : x < j
          · rw [if_pos (by omega), if_pos e]
          · rw [if_neg (by omega), if_neg e]))
        have HN2 : Hid (Outside (Ivl lo hi) w w6) := Lib.hid (HO.out.trans (HX6.out.mono (fun b hb => (HG.out.sub j b hlt hb).1)))
        clear c0
        go_wp2
        go_roundw
        case rel => exact ⟨j + 1, q + (M j).length, by omega, by go_num, by go_num, by have := HQ.out; simp only [offM]; omega, HN.out, HN2.out⟩
        case measure => simp [intOf]; omega
      · have hje : j = n := by omega
        have HE : Hid (RowsI wr lo hi (.slice (some ⟨g, 0, none⟩) n c) n (mkM M k0)) := Lib.hid ⟨.inr ⟨g, c, f, Ss, rfl, hp, by
          subst hje
          exact ⟨HG.out.top, HG.out.cell, fun x hx => by have h := HG.out.row x hx; simp only [if_pos hx] at h; exact h, HG.out.sub, HG.out.dis⟩⟩, Nat.le_trans hz HO.out.size⟩
        have HQ2 : Hid (q = k0 + offM M n) := Lib.hid (by rw [← hje]; exact HQ.out)
        have HEE : Hid (Ending.returned (.int .i64 q) = .returned (.int .i64 (k0 + offM M n : Nat))) := Lib.hid (by rw [HQ2.out])
        clear hje
        go_wp2
        go_ret
        exact ⟨HEE.out, HE.out, HO.out⟩

set_option maxHeartbeats 1000000 in
theorem heldIntS_any (k n : Nat) (v : Value) (w : World) (hv : IntsV w v (mkI k n)) (hn : n ≤ 1048576) (hk : k + n ≤ 100000000) :
    Calls Try.prog 86 #[v, .int .i64 k] w fun e w' => e = .returned (.int .i64 (k + n : Nat)) ∧ Below w.heap.size w w' := by
  obtain ⟨a, c, rfl, hc⟩ := hv
  rw [mkI_len]
  have HC := Lib.hid hc
  clear hc
  go_enter Try.func86, Try.ntmps86
  go_wp2
  go_loopw [1, 5] (fun kk i wr => ∃ j q : Nat, j ≤ n ∧ i = .int .i64 j ∧ kk = .int .i64 q ∧ q = k + j ∧ Below w.heap.size w wr) (fun _ i _ => n - (intOf i).toNat)
  case atStart => exact ⟨0, k, Nat.zero_le _, rfl, rfl, rfl, Below.refl _ _⟩
  case round =>
    obtain ⟨j, q, hj, rfl, rfl, hq, hbel⟩ := hrel
    have HB := Lib.hid hbel
    have HQ := Lib.hid hq
    clear hbel
    by_cases hlt : j < n
    · obtain ⟨b, off, rfl, hx⟩ := HC.out j _ (mkI_at hlt)
      have c0 := carry_cell hx HB.out
      rw [← hq] at c0
      have hqb : q ≤ 100000000 := by omega
      clear hx hq
      go_wp2
      go_roundw
      case rel => exact ⟨j + 1, q + 1, by omega, by go_num, by go_num, by have := HQ.out; omega, HB.out⟩
      case measure => simp [intOf]; omega
    · have hje : j = n := by omega
      have HEE : Hid (Ending.returned (.int .i64 q) = .returned (.int .i64 (k + n : Nat))) := Lib.hid (by rw [HQ.out, hje])
      clear hje hq
      go_wp2
      go_ret
      exact ⟨HEE.out, HB.out⟩

set_option maxHeartbeats 1000000 in
theorem heldSS_any (n : Nat) (M : Nat → List Int) (k0 : Nat) (v : Value) (w : World) (h : RowsF w v n (mkM M k0)) (hn : n ≤ 1048576) (hk : k0 + offM M n ≤ 1048576) :
    Calls Try.prog 48 #[v, .int .i64 k0] w fun e w' => e = .returned (.int .i64 (k0 + offM M n : Nat)) ∧ Below w.heap.size w w' := by
  obtain ⟨a, c, rfl, hc⟩ := h
  have HC := Lib.hid hc
  clear hc
  go_enter Try.func48, Try.ntmps48
  go_wp2
  go_loopw [1, 5] (fun kk i wr => ∃ j q : Nat, j ≤ n ∧ i = .int .i64 j ∧ kk = .int .i64 q ∧ q = k0 + offM M j ∧ Below w.heap.size w wr) (fun _ i _ => n - (intOf i).toNat)
  case atStart => exact ⟨0, k0, Nat.zero_le _, rfl, rfl, rfl, Below.refl _ _⟩
  case round =>
    obtain ⟨j, q, hj, rfl, rfl, hq, hbel⟩ := hrel
    have HB := Lib.hid hbel
    have HQ := Lib.hid hq
    clear hbel
    by_cases hlt : j < n
    · obtain ⟨b, off, u, rfl, hx, hi⟩ := HC.out j hlt
      have c0 := carry_cell hx HB.out
      have hle := offM_len M hlt
      have hi2 : IntsV wr u (mkI q (M j).length) := by rw [hq]; exact hi.kept HB.out
      have C := Lib.hid (heldIntS_any q (M j).length u wr hi2 (by omega) (by omega))
      obtain ⟨ra, rc, rfl, _⟩ := hi2
      have hqb : q + (M j).length ≤ 1048576 := by omega
      clear hx hi hle hq
      go_wp2_with (go_at_call 86; refine C.out.mono ?_; rintro e w6 ⟨rfl, hb⟩; have HB6 := Lib.hid (carry_below HB.out (Nat.le_refl _) hb); clear hb)
      clear c0
      go_wp2
      go_roundw
      case rel => exact ⟨j + 1, q + (M j).length, by omega, by go_num, by go_num, by have := HQ.out; simp only [offM]; omega, HB6.out⟩
      case measure => simp [intOf]; omega
    · have hje : j = n := by omega
      have HEE : Hid (Ending.returned (.int .i64 q) = .returned (.int .i64 (k0 + offM M n : Nat))) := Lib.hid (by rw [HQ.out, hje])
      clear hje hq
      go_wp2
      go_ret
      exact ⟨HEE.out, HB.out⟩

end Go.Proofs.Ytojlijbmjmigjaa
