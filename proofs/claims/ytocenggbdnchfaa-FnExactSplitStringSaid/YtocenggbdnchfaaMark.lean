/- The laws' helpers that write marks into a slice of strings and look for them again: contracts, for slices of at most 1048577 elements. -/
import Derived.Test.YtocenggbdnchfaaStrs
import Derived.Deep.RegionHeld3
namespace Go.Proofs.Ytocenggbdnchfaa
open Go.RowKit

/-- The decimal digits of a positive number; none of 0. -/
def mkDig (n : Nat) : List UInt8 :=
  if _h : n = 0 then [] else mkDig (n / 10) ++ [UInt8.ofNat (48 + n % 10)]
termination_by n
decreasing_by omega

def markB (n : Nat) : ByteArray := ⟨(109 :: mkDig n).toArray⟩

set_option maxHeartbeats 1000000 in
theorem markText_any (n : Nat) (w : World) (h1 : 1 ≤ n) (h2 : n ≤ 1000000000) :
    Calls Try.prog 35 #[.int .i64 (n : Int)] w fun e w' => e = .returned (.string (markB n)) ∧ Below w.heap.size w w' := by
  have hn : ¬ ((n : Int) ≤ 0) := by omega
  go_enter Try.func35, Try.ntmps35
  go_wp2
  go_loopw [0, 3] (fun k o wr => ∃ (m : Nat) (t : ByteArray), k = .int .i64 (m : Int) ∧ o = .string t ∧ t.size + m ≤ n ∧ mkDig m ++ t.data.toList = mkDig n ∧ Below w.heap.size w wr) (fun k _ _ => (intOf k).toNat)
  case atStart => exact ⟨n, ⟨#[]⟩, rfl, rfl, by show 0 + n ≤ n; omega, by simp, Below.refl _ _⟩
  case round =>
    obtain ⟨m, t, rfl, rfl, htz, heq, hbel⟩ := hrel
    have HE : Hid (mkDig m ++ t.data.toList = mkDig n) := Lib.hid heq
    have HB : Hid (Below w.heap.size w wr) := Lib.hid hbel
    clear heq hbel
    by_cases h0 : m = 0
    · have h0' : ¬ ((0 : Int) < (m : Int)) := by omega
      have HD : Hid (Ending.returned (.string ((ByteArray.mk #[109]) ++ t)) = .returned (.string (markB n))) := Lib.hid (by
        have h := HE.out
        rw [h0] at h
        rw [mkDig.eq_def 0] at h
        simp at h
        congr 2
        apply ByteArray.ext
        simp [markB, ← h])
      clear h0
      go_wp2
      go_ret
      exact ⟨HD.out, HB.out⟩
    · have h0' : (0 : Int) < (m : Int) := by omega
      obtain ⟨x, hx⟩ : ∃ x : UInt8, x = UInt8.ofNat (48 + m % 10) := ⟨_, rfl⟩
      have hxn : (x.toNat : Int) = 48 + (m : Int) % 10 := by
        have e : x.toNat = 48 + m % 10 := by rw [hx, UInt8.toNat_ofNat']; omega
        omega
      have HG : Hid (mkDig (m / 10) ++ (ByteArray.mk #[x] ++ t).data.toList = mkDig n) := Lib.hid (by
        have h := HE.out
        rw [mkDig.eq_def m, dif_neg h0, ← hx] at h
        rw [← h]; simp)
      have hcv : (convert 22 9 (.slice (some ⟨wr.heap.size, 0, none⟩) 1 1)).run Try.prog (wr.alloc (.cells #[.int .u8 (48 + (m : Int) % 10)] 5)) = .ok (.string ⟨#[x]⟩) (wr.alloc (.cells #[.int .u8 (48 + (m : Int) % 10)] 5)) := by
        have h := run_convert_bytes_back (P := Try.prog) (wr.alloc (.cells #[.int .u8 (48 + (m : Int) % 10)] 5)) 22 9 5 ⟨wr.heap.size, 0, none⟩ 1 [x] Try.underlying22 Try.underlying5 Try.underlying9 (fun j hj => by
          have e : j = 0 := by simpa using hj
          subst e
          rw [show [x][0] = x from rfl, hxn]
          simp [Addr.add])
        exact h
      clear h0 hx hxn
      go_wp2
      go_roundw
      case rel => exact ⟨m / 10, _, by go_num, rfl, by rw [ByteArray.size_append]; show 1 + t.size + m / 10 ≤ n; omega, HG.out, HB.out.alloc HB.out.size _⟩
      case measure => simp [intOf]; omega

theorem grown_of_below {w w' : World} (h : Below w.heap.size w w') (row : Option Nat) : w.grownBy w' row := ⟨h.os, h.tape, h.output, h.size, fun k hk _ => h.block k hk⟩
theorem grown_step {a b c : World} {row : Option Nat} (h : a.grownBy b row) (k : b.grownBy c row) : a.grownBy c row :=
  ⟨k.os.trans h.os, k.tape.trans h.tape, k.output.trans h.output, Nat.le_trans h.size k.size, fun i hi hne => (k.block i (Nat.lt_of_lt_of_le hi h.size) hne).trans (h.block i hi hne)⟩
theorem grown_refl (a : World) (row : Option Nat) : a.grownBy a row := ⟨rfl, rfl, rfl, Nat.le_refl _, fun _ _ _ => rfl⟩

/-- The strings that the marking loop writes. -/
def marks (n : Nat) : List ByteArray := (List.range n).map fun i => markB (1 + i)
theorem marks_len (n : Nat) : (marks n).length = n := by simp [marks]
theorem marks_get {n i : Nat} (h : i < n) : (marks n).getD i ByteArray.empty = markB (1 + i) := by simp [marks, h]

/-- j elements have their mark. -/
def MRel (base : Nat) (v : Value) (n j : Nat) (wr : World) : Prop := ∃ xs, wr.ownsRow base 9 1 v n xs ∧ ∀ q, q < j → xs[q]? = some (.string (markB (1 + q)))

def MarkEnd (base n : Nat) (v : Value) (w : World) (e : Ending) (w' : World) : Prop :=
  e = .returned (.int .i64 (1 + (n : Int))) ∧ w'.ownsRow base 9 1 v (marks n).length ((marks n).map Value.string) ∧ w.grownBy w' v.ownBlock

theorem MRel.full {base n : Nat} {v : Value} {wr : World} (h : MRel base v n n wr) : wr.ownsRow base 9 1 v (marks n).length ((marks n).map Value.string) := by
  obtain ⟨xs, hown, hx⟩ := h
  exact row_known hown (marks_len n).symm (fun j hj => by rw [hx j hj, marks_get hj])

theorem MRel.cell {base g n cap j : Nat} {wr : World} (h : MRel base (.slice (some ⟨g, 0, none⟩) n cap) n j wr) (hj : j < n) : ∃ u, wr.cell? ⟨g, j, none⟩ = some u := by
  obtain ⟨xs, hown, _⟩ := h
  have := hown.1
  exact ⟨xs[j]'(by omega), by rw [hown.cellAt j (by omega), List.getElem?_eq_getElem (by omega)]⟩
theorem MRel.free {base g n cap j : Nat} {wr : World} (h : MRel base (.slice (some ⟨g, 0, none⟩) n cap) n j wr) : wr.frozen? ⟨g, j, none⟩ = false := by
  obtain ⟨xs, hown, _⟩ := h
  exact hown.frozenAt j
theorem MRel.below {base g n cap j : Nat} {wr w1 : World} (h : MRel base (.slice (some ⟨g, 0, none⟩) n cap) n j wr) (hb : Below wr.heap.size wr w1) : MRel base (.slice (some ⟨g, 0, none⟩) n cap) n j w1 := by
  obtain ⟨xs, hown, hx⟩ := h
  exact ⟨xs, hown.kept (grown_of_below hb none) (.inr (by simp [Value.ownBlock])), hx⟩
theorem MRel.step {base g n cap j : Nat} {w1 : World} (h : MRel base (.slice (some ⟨g, 0, none⟩) n cap) n j w1) (hj : j < n) : MRel base (.slice (some ⟨g, 0, none⟩) n cap) n (j + 1) (w1.setCell ⟨g, j, none⟩ (.string (markB (1 + j)))) := by
  obtain ⟨xs, hown, hx⟩ := h
  have hl := hown.1
  refine ⟨_, (hown.stored j (.string (markB (1 + j)))).1, fun q hq => ?_⟩
  by_cases e : q = j
  · subst e; rw [List.getElem?_set_self (by omega)]
  · rw [List.getElem?_set_ne (by omega)]; exact hx q (by omega)
theorem MRel.grown {base g n cap j : Nat} {w w1 : World} {u : Value} (h : MRel base (.slice (some ⟨g, 0, none⟩) n cap) n j w1) (hg : w.grownBy w1 (some g)) : w.grownBy (w1.setCell ⟨g, j, none⟩ u) (some g) := by
  obtain ⟨xs, hown, _⟩ := h
  exact grown_step hg (hown.stored j u).2

set_option maxHeartbeats 1000000 in
theorem markStringS_any (base n : Nat) (v : Value) (xs : List Value) (w : World) (hown : w.ownsRow base 9 1 v n xs) (hn : n ≤ 1048577) :
    Calls Try.prog 19 #[v, .int .i64 1] w fun e w' => MarkEnd base n v w e w' := by
  by_cases h0 : n = 0
  · have HM : Hid (MarkEnd base n v w (.returned (.int .i64 1)) w) := Lib.hid (by
      refine ⟨by rw [h0]; rfl, MRel.full (n := n) ⟨xs, hown, fun q hq => by omega⟩, grown_refl _ _⟩)
    have hv : ∃ a c, v = .slice a 0 c := by
      rcases hown.2 with ⟨hv, _⟩ | ⟨g, cap, cur, hv, _⟩
      · exact ⟨_, _, hv⟩
      · exact ⟨_, _, by rw [hv, h0]⟩
    obtain ⟨a, c, rfl⟩ := hv
    clear hown h0 hn
    go_enter Try.func19, Try.ntmps19
    go_wp2
    refine wp_loop_rounds 1 ?_
    rw [rounds_succ]
    go_wp2
    go_ret
    exact HM.out
  · have hv : ∃ g cap, v = .slice (some ⟨g, 0, none⟩) n cap := by
      rcases hown.2 with ⟨_, hv⟩ | ⟨g, cap, cur, hv, _⟩
      · exact absurd hv h0
      · exact ⟨_, _, hv⟩
    obtain ⟨g, cap, rfl⟩ := hv
    have HM0 : Hid (MRel base (.slice (some ⟨g, 0, none⟩) n cap) n 0 w) := Lib.hid ⟨xs, hown, fun q hq => by omega⟩
    clear hown h0
    go_enter Try.func19, Try.ntmps19
    go_wp2
    go_loopw [1, 5] (fun kk i wr => ∃ j : Nat, j ≤ n ∧ i = .int .i64 j ∧ kk = .int .i64 (1 + (j : Int)) ∧ MRel base (.slice (some ⟨g, 0, none⟩) n cap) n j wr ∧ w.grownBy wr (some g)) (fun _ i _ => n - (intOf i).toNat)
    case atStart => exact ⟨0, Nat.zero_le _, rfl, rfl, HM0.out, grown_refl _ _⟩
    case round =>
      obtain ⟨j, hj, rfl, rfl, hm, hg⟩ := hrel
      have HM : Hid (MRel base (.slice (some ⟨g, 0, none⟩) n cap) n j wr) := Lib.hid hm
      have HG : Hid (w.grownBy wr (some g)) := Lib.hid hg
      clear hm hg
      by_cases hlt : j < n
      · have C0 : Hid (Calls Try.prog 35 #[.int .i64 (1 + (j : Int))] wr fun e w' => e = .returned (.string (markB (1 + j))) ∧ Below wr.heap.size wr w') := Lib.hid (by
          have h := markText_any (1 + j) wr (by omega) (by omega)
          rwa [show ((1 + j : Nat) : Int) = 1 + (j : Int) by omega] at h)
        go_wp2_with fail
        refine C0.out.mono ?_
        rintro e w1 ⟨rfl, hb⟩
        have HM1 : Hid (MRel base (.slice (some ⟨g, 0, none⟩) n cap) n j w1) := Lib.hid (HM.out.below hb)
        have HG1 : Hid (w.grownBy w1 (some g)) := Lib.hid (grown_step HG.out (grown_of_below hb _))
        obtain ⟨u, hu⟩ := HM1.out.cell hlt
        have hf := HM1.out.free
        obtain ⟨t, ht⟩ : ∃ t, t = markB (1 + j) := ⟨_, rfl⟩
        have HM2 : Hid (MRel base (.slice (some ⟨g, 0, none⟩) n cap) n (j + 1) (w1.setCell ⟨g, j, none⟩ (.string t))) := Lib.hid (by rw [ht]; exact HM1.out.step hlt)
        have HG2 : Hid (w.grownBy (w1.setCell ⟨g, j, none⟩ (.string t)) (some g)) := Lib.hid (HM1.out.grown HG1.out)
        rw [← ht]
        clear hb ht
        go_wp2
        go_roundw
        case rel => exact ⟨j + 1, by omega, by go_num, by go_num, HM2.out, HG2.out⟩
        case measure => simp [intOf]; omega
      · have HE : Hid (MarkEnd base n (.slice (some ⟨g, 0, none⟩) n cap) w (.returned (.int .i64 (1 + (j : Int)))) wr) := Lib.hid (by
          have e : j = n := by omega
          have h := HM.out
          rw [e] at h
          exact ⟨by rw [e], h.full, HG.out⟩)
        go_wp2
        go_ret
        exact HE.out

theorem carry_cell {w w' : World} {a : Addr} {v : Value} (hc : w.cell? a = some v) (hb : Below w.heap.size w w') : w'.cell? a = some v := (hb.cell (p := a) (World.block_lt_of_cell? w _ hc)).trans hc
theorem carry_below {B : Nat} {a w w' : World} (h : Below B a w) (hB : B ≤ a.heap.size) (hb : Below w.heap.size w w') : Below B a w' := h.trans (hb.mono (Nat.le_trans hB h.size))

theorem carry_cell' {w w' : World} {a : Addr} {v : Value} (hb : Below w.heap.size w w') (hc : w.cell? a = some v) : w'.cell? a = some v := carry_cell hc hb

def HeldEnd (n : Nat) (w : World) (e : Ending) (w' : World) : Prop := e = .returned (.int .i64 (1 + (n : Int))) ∧ Below w.heap.size w w'

set_option maxHeartbeats 1000000 in
theorem heldStringS_any (n : Nat) (v : Value) (w : World) (hv : StrsV w v (marks n)) (hn : n ≤ 1048577) :
    Calls Try.prog 20 #[v, .int .i64 1] w fun e w' => HeldEnd n w e w' := by
  rcases hv with ⟨a, c, rfl, h0⟩ | ⟨b, off, c, rfl, hp, hc⟩
  · have HE : Hid (HeldEnd n w (.returned (.int .i64 1)) w) := Lib.hid (by
      have e : n = 0 := by have := marks_len n; rw [h0] at this; simpa using this.symm
      exact ⟨by rw [e]; rfl, Below.refl _ _⟩)
    clear h0 hn
    go_enter Try.func20, Try.ntmps20
    go_wp2
    refine wp_loop_rounds 1 ?_
    rw [rounds_succ]
    go_wp2
    go_ret
    exact HE.out
  · rw [marks_len]
    have HC : Hid (∀ i, i < n → w.cell? ⟨b, off + i, none⟩ = some (.string (markB (1 + i)))) := Lib.hid (fun i hi => by
      have h := hc i (by rw [marks_len]; exact hi)
      rwa [marks_get hi] at h)
    clear hc hp
    go_enter Try.func20, Try.ntmps20
    go_wp2
    go_loopw [1, 5] (fun kk i wr => ∃ j : Nat, j ≤ n ∧ i = .int .i64 j ∧ kk = .int .i64 (1 + (j : Int)) ∧ Below w.heap.size w wr) (fun _ i _ => n - (intOf i).toNat)
    case atStart => exact ⟨0, Nat.zero_le _, rfl, rfl, Below.refl _ _⟩
    case round =>
      obtain ⟨j, hj, rfl, rfl, hb⟩ := hrel
      have HB : Hid (Below w.heap.size w wr) := Lib.hid hb
      clear hb
      by_cases hlt : j < n
      · obtain ⟨t, ht⟩ : ∃ t, t = markB (1 + j) := ⟨_, rfl⟩
        have C0 : Hid (∀ W : World, Calls Try.prog 35 #[.int .i64 (1 + (j : Int))] W fun e w' => e = .returned (.string t) ∧ Below W.heap.size W w') := Lib.hid (fun W => by
          have h := markText_any (1 + j) W (by omega) (by omega)
          rw [← ht] at h
          rwa [show ((1 + j : Nat) : Int) = 1 + (j : Int) by omega] at h)
        have hcr : wr.cell? ⟨b, off + j, none⟩ = some (.string t) := by rw [ht]; exact carry_cell' HB.out (HC.out j hlt)
        have hB0 : Below wr.heap.size wr wr.drew := (Below.refl _ _).drew
        clear ht
        go_wp2
        go_region_held3 (fun w' => w'.cell? ⟨b, off + j, none⟩ = some (.string t) ∧ Below wr.heap.size wr w') (first | exact ⟨by assumption, by assumption⟩ | go_keep) (first | (go_at_call 35; refine (C0.out _).mono ?_; rintro e w' ⟨rfl, hb⟩; have hc' := carry_cell (by assumption) hb; have hB' := carry_below (by assumption) (Nat.le_refl _) hb))
        have hB2 : Below wr.heap.size wr w' := by assumption
        have HB2 : Hid (Below w.heap.size w w') := Lib.hid (carry_below HB.out (Nat.le_refl _) hB2)
        clear hB2
        go_wp2
        go_roundw
        case rel => exact ⟨j + 1, by omega, by go_num, by go_num, HB2.out⟩
        case measure => simp [intOf]; omega
      · have HE : Hid (HeldEnd n w (.returned (.int .i64 (1 + (j : Int)))) wr) := Lib.hid (by
          have e : j = n := by omega
          exact ⟨by rw [e], HB.out⟩)
        go_wp2
        go_ret
        exact HE.out

end Go.Proofs.Ytocenggbdnchfaa
