/- The cursor from which the drawn inputs are read: its step and its choices keep to their bounds and change the cursor alone: contracts, for at most a million steps. -/
import Derived.Test.YtppmiedhoimgmaaBaseF
import Derived.Laws.BitsAllLaws
import Derived.Laws.Bits64
import Derived.IntWalk
namespace Go.Proofs.Ytppmiedhoimgmaa
open Go.RowKit

/-- A slice of bytes that lies below block B. -/
def CodeV (w : World) (v : Value) (n B : Nat) : Prop :=
  (∃ a c, v = .slice a 0 c ∧ n = 0) ∨
  (∃ g off c, v = .slice (some ⟨g, off, none⟩) n c ∧ 0 < n ∧ g < B ∧ ∀ i, i < n → ∃ z : Int, 0 ≤ z ∧ z ≤ 255 ∧ w.cell? ⟨g, off + i, none⟩ = some (.int .u8 z))
theorem CodeV.below {w w' : World} {v : Value} {n B : Nat} (h : CodeV w v n B) (hb : Below B w w') : CodeV w' v n B := by
  rcases h with h | ⟨g, off, c, hv, hp, hg, hc⟩
  · exact .inl h
  · exact .inr ⟨g, off, c, hv, hp, hg, fun i hi => by
      obtain ⟨z, h0, h1, h2⟩ := hc i hi
      exact ⟨z, h0, h1, (hb.cell (p := ⟨g, off + i, none⟩) hg).trans h2⟩⟩

/-- The cursor's block: the code, how far it has been read (at most K), a seed. -/
structure CurIs (w : World) (B b K n : Nat) (v : Value) (pos seed : Int) : Prop where
  le : B ≤ b
  code : CodeV w v n B
  len : n ≤ 9223372036854775807
  block : w.heap[b]? = some (.cells #[v, .int .i64 pos, .int .u64 seed] 89 (0, 0))
  lo : 0 ≤ pos
  hi : pos ≤ K
def Cur (w : World) (B b K : Nat) : Prop := ∃ n v pos seed, CurIs w B b K n v pos seed

def NextEnd (w : World) (B b K : Nat) (m : Int) (e : Ending) (w' : World) : Prop :=
  ∃ r : Int, e = .returned (.int .i64 r) ∧ 0 ≤ r ∧ r < m ∧ w.grownBy w' (some b) ∧ Cur w' B b K

theorem CurIs.cells {w : World} {B b K n : Nat} {v : Value} {pos seed : Int} (h : CurIs w B b K n v pos seed) :
    w.cell? ⟨b, 0, none⟩ = some v ∧ w.cell? ⟨b, 1, none⟩ = some (.int .i64 pos) ∧ w.cell? ⟨b, 2, none⟩ = some (.int .u64 seed) ∧ ∀ i, w.frozen? ⟨b, i, none⟩ = false := by
  have e := h.block
  refine ⟨by simp [World.cell?, e], by simp [World.cell?, e], by simp [World.cell?, e], fun i => by simp [World.frozen?, e]⟩

theorem grown_set (w : World) (b j : Nat) (u : Value) : w.grownBy (w.setCell ⟨b, j, none⟩ u) (some b) :=
  ⟨rfl, rfl, rfl, by simp, fun k _ hk => heap_setCell_other w ⟨b, j, none⟩ k u (fun e => hk (by simp [e]))⟩
theorem grown_drewN (w : World) (a : Nat) (row : Option Nat) : w.grownBy (w.drewN a) row := ⟨rfl, rfl, rfl, Nat.le_refl _, fun _ _ _ => rfl⟩
theorem below_of_grown {w w' : World} {B b : Nat} (h : w.grownBy w' (some b)) (hB : B ≤ b) (hs : B ≤ w.heap.size) : Below B w w' :=
  (Below.refl B w).grown h hs (fun k e => by cases e; exact hB)

theorem CurIs.size {w : World} {B b K n : Nat} {v : Value} {pos seed : Int} (h : CurIs w B b K n v pos seed) : b < w.heap.size := (Array.getElem?_eq_some_iff.1 h.block).1

theorem cur_next {w : World} {B b K n : Nat} {v : Value} {pos seed : Int} (h : CurIs w B b K n v pos seed) (a c : Nat) (sd r : Int) (h0 : 0 ≤ r) (h1 : r < 256) :
    NextEnd w B b (K + 1) 256 (.returned (.int .i64 r)) ((((w.drewN a).setCell ⟨b, 1, none⟩ (.int .i64 (pos + 1))).setCell ⟨b, 2, none⟩ (.int .u64 sd)).drewN c) := by
  have g1 : w.grownBy ((((w.drewN a).setCell ⟨b, 1, none⟩ (.int .i64 (pos + 1))).setCell ⟨b, 2, none⟩ (.int .u64 sd)).drewN c) (some b) :=
    grown_step (grown_step (grown_step (grown_drewN w a _) (grown_set _ b 1 _)) (grown_set _ b 2 _)) (grown_drewN _ c _)
  refine ⟨r, rfl, h0, h1, g1, n, v, pos + 1, sd, ⟨h.le, h.code.below (below_of_grown g1 h.le (Nat.le_trans h.le (Nat.le_of_lt h.size))), h.len, ?_, by have := h.lo; omega, by have := h.hi; omega⟩⟩
  have e0 : (w.drewN a).heap[b]? = some (.cells #[v, .int .i64 pos, .int .u64 seed] 89 (0, 0)) := h.block
  have e1 := heap_setCell_same (w.drewN a) b 1 _ _ (.int .i64 (pos + 1)) e0
  have e2 := heap_setCell_same _ b 2 _ _ (.int .u64 sd) e1
  exact e2.trans (by simp)

theorem and255 (y : Int) : 0 ≤ wrap64 (bits .and .u64 (IntKind.u64.wrap y / 1099511627776) 255) ∧ wrap64 (bits .and .u64 (IntKind.u64.wrap y / 1099511627776) 255) < 256 := by
  have h1 : 0 ≤ IntKind.u64.wrap y := by rw [IntKind.wrap_u64]; omega
  have h2 : IntKind.u64.wrap y < 18446744073709551616 := by rw [IntKind.wrap_u64]; omega
  have e := u64_and (IntKind.u64.wrap y / 1099511627776) 255 (by omega) (by omega) (by omega) (by omega)
  have l : (IntKind.u64.wrap y / 1099511627776).toNat &&& (255 : Int).toNat ≤ 255 := Nat.and_le_right
  rw [e, IntWalk.wrap64_in _ (by omega)]
  omega

set_option maxHeartbeats 2000000 in
theorem next_any (w : World) (B b K : Nat) (h : Cur w B b K) (hK : K ≤ 1000000) :
    Calls Try.prog 128 #[.pointer (some ⟨b, 0, none⟩)] w fun e w' => NextEnd w B b (K + 1) 256 e w' := by
  obtain ⟨n, v, pos, seed, hc⟩ := h
  obtain ⟨c0, c1, c2, hf⟩ := hc.cells
  have f1 := hf 1
  have f2 := hf 2
  have hlo := hc.lo
  have hhi := hc.hi
  have hle := hc.len
  have HC := Lib.hid hc
  rcases hc.code with ⟨a, c, rfl, rfl⟩ | ⟨g, off, c, rfl, hp, hg, hz⟩
  · clear hc hf
    go_enter Try.func128, Try.ntmps128
    go_wp2
    go_quiet (fail)
    go_wp2
    go_quiet (fail)
    go_wp2
    go_ret
    exact cur_next HC.out _ _ _ _ (and255 _).1 (and255 _).2
  · obtain ⟨p, rfl⟩ : ∃ p : Nat, pos = (p : Int) := ⟨pos.toNat, by omega⟩
    clear hc hf
    by_cases hlt : p < n
    · obtain ⟨z, hz0, hz1, hcz⟩ := hz p hlt
      clear hz
      have t1 : (p : Int) < (n : Int) := by omega
      have t2 : (p : Int) + 1 ≤ (n : Int) := by omega
      go_enter Try.func128, Try.ntmps128
      go_wp2
      go_quiet (fail)
      go_wp2
      go_quiet (fail)
      go_wp2
      go_quiet (fail)
      go_wp2
      go_ret
      exact cur_next HC.out _ _ _ _ hz0 (by omega)
    · clear hz
      have t1 : ¬ ((p : Int) < (n : Int)) := by omega
      have t2 : ¬ ((p : Int) + 1 ≤ (n : Int)) := by omega
      go_enter Try.func128, Try.ntmps128
      go_wp2
      go_quiet (fail)
      go_wp2
      go_quiet (fail)
      go_wp2
      go_ret
      exact cur_next HC.out _ _ _ _ (and255 _).1 (and255 _).2

theorem Cur.mono {w : World} {B b K K' : Nat} (h : Cur w B b K) (hk : K ≤ K') : Cur w B b K' := by
  obtain ⟨n, v, pos, seed, hc⟩ := h
  exact ⟨n, v, pos, seed, hc.le, hc.code, hc.len, hc.block, hc.lo, by have := hc.hi; omega⟩
theorem NextEnd.then {w w1 w2 : World} {B b K : Nat} {m r : Int} (h0 : 0 ≤ r) (h1 : r < m) (hg : w.grownBy w1 (some b)) (hg2 : w1.grownBy w2 (some b)) (hc : Cur w2 B b K) : NextEnd w B b K m (.returned (.int .i64 r)) w2 :=
  ⟨r, rfl, h0, h1, grown_step hg hg2, hc⟩

theorem pick_any (w : World) (B b K : Nat) (n : Int) (h : Cur w B b K) (hK : K ≤ 999990) (hn : 1 < n) (hn2 : n ≤ 60000) :
    Calls Try.prog 76 #[.pointer (some ⟨b, 0, none⟩), .int .i64 n] w fun e w' => NextEnd w B b (K + 2) n e w' := by
  have C0 := Lib.hid (next_any w B b K h (by omega))
  clear h
  by_cases h2 : 200 < n
  · go_enter Try.func76, Try.ntmps76
    go_wp2_with fail
    refine C0.out.mono ?_
    rintro e w1 ⟨r, rfl, hr0, hr1, hg, hc⟩
    have C1 := Lib.hid (next_any w1 B b (K + 1) hc (by omega))
    have HG := Lib.hid hg
    clear hg hc
    go_wp2_with fail
    refine C1.out.mono ?_
    rintro e w2 ⟨q, rfl, hq0, hq1, hg2, hc2⟩
    have HE : Hid (NextEnd w B b (K + 2) n (.returned (.int .i64 ((r * 256 + q) % n))) w2) := Lib.hid (NextEnd.then (Int.emod_nonneg _ (by omega)) (Int.emod_lt_of_pos _ (by omega)) HG.out hg2 hc2)
    clear hg2 hc2
    go_wp2_with fail
    go_ret
    exact HE.out
  · go_enter Try.func76, Try.ntmps76
    go_wp2_with fail
    refine C0.out.mono ?_
    rintro e w1 ⟨r, rfl, hr0, hr1, hg, hc⟩
    have HE : Hid (NextEnd w B b (K + 2) n (.returned (.int .i64 (r % n))) w1) := Lib.hid (NextEnd.then (Int.emod_nonneg _ (by omega)) (Int.emod_lt_of_pos _ (by omega)) hg (grown_refl _ _) (hc.mono (by omega)))
    clear hg hc
    go_wp2_with fail
    go_ret
    exact HE.out

def OneEnd (w : World) (B b K : Nat) (e : Ending) (w' : World) : Prop := ∃ r : Bool, e = .returned (.bool r) ∧ w.grownBy w' (some b) ∧ Cur w' B b K
theorem one_any (w : World) (B b K : Nat) (n : Int) (h : Cur w B b K) (hK : K ≤ 999990) (hn : 1 < n) (hn2 : n ≤ 60000) :
    Calls Try.prog 59 #[.pointer (some ⟨b, 0, none⟩), .int .i64 n] w fun e w' => OneEnd w B b (K + 2) e w' := by
  have C0 := Lib.hid (pick_any w B b K n h hK hn hn2)
  clear h
  go_enter Try.func59, Try.ntmps59
  go_wp2_with fail
  refine C0.out.mono ?_
  rintro e w1 ⟨r, rfl, hr0, hr1, hg, hc⟩
  have HE : Hid (OneEnd w B b (K + 2) (.returned (.bool (r == 0))) w1) := Lib.hid ⟨_, rfl, hg, hc⟩
  clear hg hc
  go_wp2_with fail
  go_ret
  exact HE.out

/-- One of a list of strings. -/
def OfEnd (w : World) (B b K : Nat) (ss : List ByteArray) (e : Ending) (w' : World) : Prop := ∃ s : ByteArray, e = .returned (.string s) ∧ s ∈ ss ∧ w.grownBy w' (some b) ∧ Cur w' B b K
theorem of_any (w : World) (B b K g : Nat) (ss : List ByteArray) (h : Cur w B b K) (hK : K ≤ 999990) (h1 : 1 < ss.length) (h2 : ss.length ≤ 60000) (hgb : g ≠ b)
    (hcell : ∀ i, i < ss.length → w.cell? ⟨g, i, none⟩ = some (.string (ss.getD i ByteArray.empty))) :
    Calls Try.prog 114 #[.pointer (some ⟨b, 0, none⟩), .slice (some ⟨g, 0, none⟩) ss.length ss.length] w fun e w' => OfEnd w B b (K + 2) ss e w' := by
  have C0 := Lib.hid (pick_any w B b K ss.length h hK (by omega) (by omega))
  have HC := Lib.hid hcell
  clear h hcell
  go_enter Try.func114, Try.ntmps114
  go_wp2_with fail
  refine C0.out.mono ?_
  rintro e w1 ⟨r, rfl, hr0, hr1, hg, hc⟩
  obtain ⟨p, rfl⟩ : ∃ p : Nat, r = (p : Int) := ⟨r.toNat, by omega⟩
  have hp : p < ss.length := by omega
  obtain ⟨s, hs⟩ : ∃ s, s = ss.getD p ByteArray.empty := ⟨_, rfl⟩
  have hcw : w1.cell? ⟨g, p, none⟩ = some (.string s) := by rw [hs]; exact hg.cell (HC.out p hp) (by simpa using hgb)
  have hsm : s ∈ ss := by rw [hs, getD_eq hp]; exact List.getElem_mem hp
  have HE : Hid (OfEnd w B b (K + 2) ss (.returned (.string s)) w1) := Lib.hid ⟨_, rfl, hsm, hg, hc⟩
  clear hg hc hs hsm
  go_wp2_with fail
  go_ret
  exact HE.out

end Go.Proofs.Ytppmiedhoimgmaa
