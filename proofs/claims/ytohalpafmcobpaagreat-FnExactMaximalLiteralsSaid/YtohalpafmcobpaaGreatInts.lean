/- Slices of integers as the laws' helpers copy, compare and mark them: contracts, for slices of at most 1048576 elements. -/
import Derived.Test.YtohalpafmcobpaaGreatMarkT
namespace Go.Proofs.YtohalpafmcobpaaGreat
open Go.RowKit
set_option linter.unusedVariables false

/-- The slice value reads as the list of integers. -/
def IntsV (w : World) (v : Value) (is : List Int) : Prop :=
  ∃ a c, v = .slice a is.length c ∧ ∀ k x, is[k]? = some x → ∃ b off, a = some ⟨b, off, none⟩ ∧ w.cell? ⟨b, off + k, none⟩ = some (.int .i64 x)

theorem IntsV.kept {w w' : World} {v : Value} {is : List Int} (h : IntsV w v is) (hb : Below w.heap.size w w') : IntsV w' v is := by
  obtain ⟨a, c, hv, hc⟩ := h
  exact ⟨a, c, hv, fun k x hk => by obtain ⟨b, off, ha, hx⟩ := hc k x hk; exact ⟨b, off, ha, carry_cell hx hb⟩⟩

/-- .. and lies in a block of its own, in S. -/
def IntsO (w : World) (S : Nat → Prop) (v : Value) (is : List Int) : Prop :=
  (∃ a c, v = .slice a 0 c ∧ is = []) ∨ (∃ g c, v = .slice (some ⟨g, 0, none⟩) is.length c ∧ 0 < is.length ∧ is.length ≤ c ∧ S g ∧ (∀ j, w.frozen? ⟨g, j, none⟩ = false) ∧ ∀ k x, is[k]? = some x → w.cell? ⟨g, k, none⟩ = some (.int .i64 x))

theorem IntsO.read {w : World} {S : Nat → Prop} {v : Value} {is : List Int} (h : IntsO w S v is) : IntsV w v is := by
  rcases h with ⟨a, c, rfl, rfl⟩ | ⟨g, c, rfl, _, _, _, _, hc⟩
  · exact ⟨a, c, rfl, fun k x hk => by cases hk⟩
  · exact ⟨_, c, rfl, fun k x hk => ⟨g, 0, rfl, by rw [Nat.zero_add]; exact hc k x hk⟩⟩

theorem IntsO.frame {w w' : World} {S : Nat → Prop} {v : Value} {is : List Int} (h : IntsO w S v is) (hf : ∀ k, S k → w'.heap[k]? = w.heap[k]?) : IntsO w' S v is := by
  rcases h with h | ⟨g, c, rfl, hp, hl, hS, hz, hc⟩
  · exact .inl h
  · have e := hf g hS
    exact .inr ⟨g, c, rfl, hp, hl, hS, fun j => (World.frozen?_of_block (a := ⟨g, j, none⟩) (w := w) e).trans (hz j), fun k x hk => (World.cell?_of_block (a := ⟨g, k, none⟩) (w := w) e).trans (hc k x hk)⟩

theorem IntsO.mono {w : World} {S S' : Nat → Prop} {v : Value} {is : List Int} (h : IntsO w S v is) (hs : ∀ k, S k → S' k) : IntsO w S' v is := by
  rcases h with h | ⟨g, c, rfl, hp, hl, hS, hz, hc⟩
  · exact .inl h
  · exact .inr ⟨g, c, rfl, hp, hl, hs g hS, hz, hc⟩

theorem infoInt : (Tryz.prog.info? 3).map (fun i => (i.zero, i.size, i.bytes)) = some (some (.int .i64 0), 1, 8) := by kernel_rfl

/-- A whole row of integers is a list of its own. -/
theorem intsO_of_owns {w w0 : World} {v : Value} {is : List Int} {xs : List Value} (h : w.ownsRow w0.heap.size 3 1 v is.length xs) (hx : ∀ (k : Nat) (x : Int), is[k]? = some x → xs[k]? = some (Value.int .i64 x)) : IntsO w (Fresh w0 w) v is := by
  rcases h.2 with ⟨rfl, h0⟩ | ⟨g, cap, cur, rfl, hbg, hg, hnc, hcm, hcs, htake⟩
  · exact .inl ⟨none, 0, rfl, List.length_eq_zero_iff.1 h0⟩
  · by_cases h0 : is.length = 0
    · have e : is = [] := List.length_eq_zero_iff.1 h0
      subst e
      exact .inl ⟨_, _, rfl, rfl⟩
    · exact .inr ⟨g, cap, rfl, by omega, hnc, ⟨hbg, (Array.getElem?_eq_some_iff.1 hg).1⟩, fun j => h.frozenAt j, fun k x hk => by
        rw [h.cellAt k (by have := (List.getElem?_eq_some_iff.1 hk).1; omega)]; exact hx k x hk⟩

def ToIRel (w wr : World) (is : List Int) (k : Nat) : Prop :=
  ∃ xs, wr.ownsRow w.heap.size 3 1 (.slice (some ⟨w.heap.size, 0, none⟩) is.length is.length) is.length xs ∧ (∀ (j : Nat) (x : Int), j < k → is[j]? = some x → xs[j]? = some (Value.int .i64 x)) ∧ Below w.heap.size w wr

def ToIEnd (is : List Int) (w : World) (e : Ending) (w' : World) : Prop :=
  ∃ v, e = .returned v ∧ IntsO w' (Fresh w w') v is ∧ Below w.heap.size w w'

set_option maxHeartbeats 400000 in
theorem toIntS_any (is : List Int) (v : Value) (w : World) (hv : IntsV w v is) (hn : is.length ≤ 1048576) :
    Calls Tryz.prog 41 #[v] w (ToIEnd is w) := by
  obtain ⟨i0, hi, hz0, hz1, hz2⟩ := info_parts infoInt
  obtain ⟨a, c, rfl, hc⟩ := hv
  have HC := Lib.hid hc
  clear hc
  go_enter Tryz.func41, Tryz.ntmps41
  go_wp2_with (at_make; refine wpList_make_full _ rfl _ _ 23 rfl w.heap.size 3 i0 (.int .i64 0) 1 Tryz.underlying23 hi hz0 hz1 .i64 .i64 _ _ is.length rfl rfl rfl rfl (by rw [hz2]; omega) (by unfold maxLen; omega) (Nat.le_refl _) ?_; intro w1 hown1 hg1)
  have HG : Hid (w.grownBy w1 none) := Lib.hid hg1
  have HO1 := Lib.hid hown1
  clear hg1 hown1
  go_loopw [4] (fun i wr => ∃ k : Nat, k ≤ is.length ∧ i = .int .i64 k ∧ ToIRel w wr is k) (fun i _ => is.length - (intOf i).toNat)
  case atStart => exact ⟨0, Nat.zero_le _, rfl, _, HO1.out, fun j x hj => absurd hj (Nat.not_lt_zero _), (Below.refl _ _).grown HG.out (Nat.le_refl _) (by simp)⟩
  case round =>
    obtain ⟨k, hk, rfl, xs, hown, hx, hbel⟩ := hrel
    have HO := Lib.hid hown
    have HX := Lib.hid hx
    have HB := Lib.hid hbel
    clear hown hx hbel
    by_cases hlt : k < is.length
    · obtain ⟨x, hx⟩ : ∃ x, is[k]? = some x := ⟨_, List.getElem?_eq_getElem hlt⟩
      obtain ⟨b, off, rfl, hcx⟩ := HC.out k x hx
      have hcx' := carry_cell hcx HB.out
      have hlen := HO.out.1
      have hx0 := HO.out.cellAt k (by omega)
      rw [List.getElem?_eq_getElem (by omega)] at hx0
      obtain ⟨x0, e0⟩ : ∃ x, x = xs[k]'(by omega) := ⟨_, rfl⟩
      rw [← e0] at hx0
      have hf0 := HO.out.frozenAt k
      have HXX := Lib.hid hx
      have HLN := Lib.hid hlen
      have HN : Hid (ToIRel w (wr.setCell ⟨w.heap.size, k, none⟩ (.int .i64 x)) is (k + 1)) := Lib.hid ⟨_, (HO.out.stored k (.int .i64 x)).1, fun j y hj hy => by
        by_cases e : j = k
        · have e2 : x = y := Option.some.inj (HXX.out.symm.trans (e ▸ hy))
          rw [e, List.getElem?_set_self (by omega), e2]
        · rw [List.getElem?_set_ne (by omega)]; exact HX.out j y (by omega) hy, HB.out.setCell (by simp) _⟩
      clear hx hcx e0 hlen
      go_wp2
      go_roundw
      case rel => exact ⟨k + 1, by omega, by go_num, HN.out⟩
      case measure => simp [intOf]; omega
    · have HE : Hid (IntsO wr (Fresh w wr) (.slice (some ⟨w.heap.size, 0, none⟩) is.length is.length) is) := Lib.hid (intsO_of_owns HO.out (fun j x hj => HX.out j x (by have := (List.getElem?_eq_some_iff.1 hj).1; omega) hj))
      go_wp2
      go_ret
      exact ⟨_, rfl, HE.out, HB.out⟩

theorem int_ne {x y : Int} (h : x ≠ y) : (x != y) = true := by rw [bne_iff_ne]; exact h
theorem int_eq {x y : Int} (h : x = y) : (x != y) = false := by rw [bne_eq_false_iff_eq]; exact h

set_option maxHeartbeats 1000000 in
theorem eqIntS_any (is : List Int) (va vb : Value) (w : World) (ha : IntsV w va is) (hb : IntsV w vb is) (hn : is.length ≤ 1048576) :
    Calls Tryz.prog 19 #[va, vb] w fun e w' => e = .returned (.bool true) ∧ Below w.heap.size w w' := by
  obtain ⟨a, c, rfl, hc⟩ := ha
  obtain ⟨a', c', rfl, hc'⟩ := hb
  have HC := Lib.hid hc
  have HC' := Lib.hid hc'
  clear hc hc'
  go_enter Tryz.func19, Tryz.ntmps19
  go_wp2
  go_loopw [5] (fun i wr => ∃ k : Nat, k ≤ is.length ∧ i = .int .i64 k ∧ Below w.heap.size w wr) (fun i _ => is.length - (intOf i).toNat)
  case atStart => exact ⟨0, Nat.zero_le _, rfl, Below.refl _ _⟩
  case round =>
    obtain ⟨k, hk, rfl, hbel⟩ := hrel
    have HB := Lib.hid hbel
    clear hbel
    by_cases hlt : k < is.length
    · obtain ⟨x, hx⟩ : ∃ x, is[k]? = some x := ⟨_, List.getElem?_eq_getElem hlt⟩
      obtain ⟨b, off, rfl, hcx⟩ := HC.out k x hx
      obtain ⟨b', off', rfl, hcx'⟩ := HC'.out k x hx
      have d0 := carry_cell hcx HB.out
      have d1 := carry_cell hcx' HB.out
      clear hx hcx hcx'
      go_wp2
      go_quiet (fail)
      have HB2 : Hid (Below w.heap.size w (wr.drewN nq)) := Lib.hid (⟨HB.out.os, HB.out.tape, HB.out.output, HB.out.size, HB.out.block⟩)
      go_wp2
      go_roundw
      case rel => exact ⟨k + 1, by omega, by go_num, HB2.out⟩
      case measure => simp [intOf]; omega
    · go_wp2
      go_ret
      exact ⟨rfl, HB.out⟩

/-- The numbers that the marking loop writes. -/
def mkI (k n : Nat) : List Int := (List.range n).map fun i => ((k + i : Nat) : Int)
theorem mkI_len (k n : Nat) : (mkI k n).length = n := by simp [mkI]
theorem mkI_at {k n j : Nat} (h : j < n) : (mkI k n)[j]? = some ((k + j : Nat) : Int) := by simp [mkI, h]

def MarkIEnd (is : List Int) (k : Nat) (v : Value) (S : Nat → Prop) (w : World) (e : Ending) (w' : World) : Prop :=
  e = .returned (.int .i64 (k + is.length : Nat)) ∧ IntsO w' S v (mkI k is.length) ∧ Outside S w w'

def MRelI (w wr : World) (g : Nat) (S : Nat → Prop) (is : List Int) (k i : Nat) : Prop :=
  (∀ j, wr.frozen? ⟨g, j, none⟩ = false) ∧ (∀ j x, is[j]? = some x → wr.cell? ⟨g, j, none⟩ = some (.int .i64 (if j < i then ((k + j : Nat) : Int) else x))) ∧ Outside S w wr

set_option maxHeartbeats 1000000 in
theorem markIntS_any (is : List Int) (k : Nat) (v : Value) (S : Nat → Prop) (w : World) (hv : IntsO w S v is) (hk : k + is.length ≤ 100000000) :
    Calls Tryz.prog 23 #[v, .int .i64 k] w (MarkIEnd is k v S w) := by
  rcases hv with ⟨a, c, rfl, rfl⟩ | ⟨g, c, rfl, hp, hl, hS, hz, hc⟩
  · have HM : Hid (MarkIEnd [] k (.slice a 0 c) S w (.returned (.int .i64 k)) w) := Lib.hid ⟨rfl, .inl ⟨_, _, rfl, rfl⟩, Outside.refl _ _⟩
    go_enter Tryz.func23, Tryz.ntmps23
    go_wp2
    refine wp_loop_rounds 1 ?_
    rw [rounds_succ]
    go_wp2
    go_ret
    exact HM.out
  · have HM0 : Hid (MRelI w w g S is k 0) := Lib.hid ⟨hz, fun j x hj => by rw [if_neg (by omega)]; exact hc j x hj, Outside.refl _ _⟩
    have HS := Lib.hid hS
    clear hz hc hS
    go_enter Tryz.func23, Tryz.ntmps23
    go_wp2
    go_loopw [1, 5] (fun kk i wr => ∃ j q : Nat, j ≤ is.length ∧ i = .int .i64 j ∧ kk = .int .i64 q ∧ q = k + j ∧ MRelI w wr g S is k j) (fun _ i _ => is.length - (intOf i).toNat)
    case atStart => exact ⟨0, k, Nat.zero_le _, rfl, rfl, rfl, HM0.out⟩
    case round =>
      obtain ⟨j, q, hj, rfl, rfl, hq, hfr, hcl, hout⟩ := hrel
      have HF := Lib.hid hfr
      have HCL := Lib.hid hcl
      have HO := Lib.hid hout
      have HQ := Lib.hid hq
      clear hfr hcl hout hq
      by_cases hlt : j < is.length
      · obtain ⟨x, hx⟩ : ∃ x, is[j]? = some x := ⟨_, List.getElem?_eq_getElem hlt⟩
        have c0 := HCL.out j x hx
        rw [if_neg (by omega)] at c0
        have f0 := HF.out j
        have hqb : q ≤ 100000000 := by have := HQ.out; omega
        have HN : Hid (MRelI w (wr.setCell ⟨g, j, none⟩ (.int .i64 q)) g S is k (j + 1)) := Lib.hid ⟨fun i => by rw [World.frozen?_setCell]; exact HF.out i, fun i y hi => by
          by_cases e : i = j
          · subst e; rw [if_pos (by omega), ← HQ.out]; exact World.cell?_setCell_same _ _ _ c0
          · have h1 := HCL.out i y hi
            have h2 : (wr.setCell ⟨g, j, none⟩ (.int .i64 q)).cell? ⟨g, i, none⟩ = _ := (World.cell?_setCell_other _ _ _ _ (by simp; try omega)).trans h1
            rw [h2]
            by_cases e2 : i < j
            · rw [if_pos e2, if_pos (by omega)]
            · rw [if_neg e2, if_neg (by omega)], HO.out.trans (Outside.setCell _ _ _ HS.out)⟩
        clear hx
        go_wp2
        go_roundw
        case rel => exact ⟨j + 1, q + 1, by omega, by go_num, by go_num, by have := HQ.out; omega, HN.out⟩
        case measure => simp [intOf]; omega
      · have hje : j = is.length := by omega
        have HE : Hid (MarkIEnd is k (.slice (some ⟨g, 0, none⟩) is.length c) S w (.returned (.int .i64 q)) wr) := Lib.hid (by
          refine ⟨by rw [HQ.out, hje], .inr ⟨g, c, by rw [mkI_len], by rw [mkI_len]; exact hp, by rw [mkI_len]; exact hl, HS.out, HF.out, fun i x hi => ?_⟩, HO.out⟩
          have hil : i < is.length := by have := (List.getElem?_eq_some_iff.1 hi).1; rwa [mkI_len] at this
          rw [mkI_at hil] at hi
          injection hi with hi
          have h1 := HCL.out i _ (List.getElem?_eq_getElem hil)
          rw [if_pos (by omega), hi] at h1
          exact h1)
        clear hje
        go_wp2
        go_ret
        exact HE.out

end Go.Proofs.YtohalpafmcobpaaGreat
