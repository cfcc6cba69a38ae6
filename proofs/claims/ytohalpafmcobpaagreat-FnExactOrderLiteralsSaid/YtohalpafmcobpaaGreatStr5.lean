/- A slice of strings as an argument of a law: what the law's helpers do with it: contracts. -/
import Derived.Test.YtohalpafmcobpaaGreatMarkF
import Derived.Test.YtohalpafmcobpaaGreatOwnI
namespace Go.Proofs.YtohalpafmcobpaaGreat
open Go.RowKit
set_option linter.unusedVariables false

/-- A slice of strings of the law's own, in numbered blocks. -/
def OwnS (w : World) (lo hi : Nat) (v : Value) (ss : List ByteArray) : Prop :=
  w.ownsRow lo 9 1 v ss.length (ss.map Value.string) ∧ (∀ g, v.ownBlock = some g → lo ≤ g ∧ g < hi) ∧ hi ≤ w.heap.size
theorem OwnS.fresh {w w' : World} {v : Value} {ss : List ByteArray} (h : w'.ownsRow w.heap.size 9 1 v ss.length (ss.map Value.string)) : OwnS w' w.heap.size w'.heap.size v ss :=
  ⟨h, fun g hg => h.lt g hg, Nat.le_refl _⟩
theorem OwnS.freshAt {w w' : World} {v : Value} {ss : List ByteArray} (h : w'.ownsRow w.heap.size 9 1 v ss.length (ss.map Value.string)) {n : Nat} (e : w.heap.size = n) : OwnS w' n w'.heap.size v ss := e ▸ OwnS.fresh h
theorem OwnS.kept {w w' : World} {lo hi : Nat} {v : Value} {ss : List ByteArray} (h : OwnS w lo hi v ss) (hb : Below w.heap.size w w') : OwnS w' lo hi v ss := by
  refine ⟨h.1.kept (grown_of_below hb none) ?_, h.2.1, Nat.le_trans h.2.2 hb.size⟩
  cases v.ownBlock with
  | none => exact .inl rfl
  | some g => exact .inr (by simp)
theorem OwnS.read {w : World} {lo hi : Nat} {v : Value} {ss : List ByteArray} (h : OwnS w lo hi v ss) : StrsV w v ss := strsV_of_owns h.1
theorem OwnS.outside {a b : World} {lo hi lo' hi' : Nat} {v : Value} {ss : List ByteArray} (h : OwnS a lo hi v ss) (ho : Outside (Ivl lo' hi') a b) (hd : hi ≤ lo' ∨ hi' ≤ lo) : OwnS b lo hi v ss := by
  refine ⟨⟨h.1.1, ?_⟩, h.2.1, Nat.le_trans h.2.2 ho.size⟩
  rcases h.1.2 with h2 | ⟨g, cap, cur, h3, hbg, hgb, rest⟩
  · exact .inl h2
  · have hg := h.2.1 g (by rw [h3]; rfl)
    exact .inr ⟨g, cap, cur, h3, hbg, (ho.block g (Array.getElem?_eq_some_iff.1 hgb).1 (fun hk => by have h1 := hk.1; have h2 := hk.2; omega)).trans hgb, rest⟩

/-- What a size helper leaves of an allowance. -/
def SzSL (ss : List ByteArray) (e : Ending) : Prop := e = .returned (.int .i64 (-1)) ∨ ∃ r : Int, 0 ≤ r ∧ r ≤ 1048576 ∧ ss.length ≤ 1048576 ∧ e = .returned (.int .i64 r)

set_option maxHeartbeats 1000000 in
theorem szStrL_any (v : Value) (ss : List ByteArray) (left : Int) (w : World) (hl0 : 0 ≤ left) (hl1 : left ≤ 1048576) (hv : StrsV w v ss) (hn : ss.length ≤ 9223372036854775807) (hs : ∀ i, (ss.getD i ByteArray.empty).size ≤ maxLen) :
    Calls Tryz.prog 34 #[v, .int .i64 left] w fun e w' => SzSL ss e ∧ w = w' := by
  rcases hv with ⟨a, c, rfl, rfl⟩ | ⟨b, off, c, rfl, hp, hc⟩
  · go_enter Tryz.func34, Tryz.ntmps34
    have hneg : ¬ left < 0 := by omega
    go_wp2
    refine wp_loop_rounds 1 ?_
    rw [rounds_succ]
    go_wp2
    go_ret
    exact ⟨.inr ⟨_, hl0, hl1, by simp, rfl⟩, rfl⟩
  · by_cases hbig : left - ss.length < 0
    · go_enter Tryz.func34, Tryz.ntmps34
      go_wp2
      go_ret
      exact ⟨.inl rfl, rfl⟩
    · go_enter Tryz.func34, Tryz.ntmps34
      go_wp2
      go_loop [1, 5] (fun l i => ∃ k : Nat, ∃ r : Int, k ≤ ss.length ∧ i = .int .i64 k ∧ 0 ≤ r ∧ r ≤ 1048576 ∧ l = .int .i64 r) (fun _ i => ss.length - (intOf i).toNat)
      case atStart => exact ⟨0, _, Nat.zero_le _, rfl, by omega, by omega, rfl⟩
      case round =>
        obtain ⟨k, r, hk, rfl, hr0, hr1, rfl⟩ := hrel
        by_cases hlt : k < ss.length
        · have hcr := hc k hlt
          have hsz := hs k
          obtain ⟨s, hs'⟩ : ∃ s, s = ss.getD k ByteArray.empty := ⟨_, rfl⟩
          rw [← hs'] at hcr hsz
          clear hs' hs hc
          unfold maxLen at hsz
          by_cases hneg : r - s.size < 0
          · go_wp2
            go_ret
            exact ⟨.inl rfl, rfl⟩
          · go_wp2
            go_round
            case rel => exact ⟨k + 1, _, by omega, by go_num, by omega, by omega, rfl⟩
            case measure => simp [intOf]; omega
        · go_wp2
          go_ret
          exact ⟨.inr ⟨_, hr0, hr1, by omega, rfl⟩, rfl⟩

set_option maxHeartbeats 1000000 in
theorem markStrL_any (k : Nat) (ss : List ByteArray) (v : Value) (lo hi : Nat) (w : World) (h : OwnS w lo hi v ss) (hk : 1 ≤ k) (hn : k + ss.length ≤ 100000000) :
    Calls Tryz.prog 52 #[v, .int .i64 k] w fun e w' => e = .returned (.int .i64 (k + ss.length : Nat)) ∧ Outside (Ivl lo hi) w w' := by
  rcases h.1.2 with ⟨rfl, h0⟩ | ⟨g, cap, cur, rfl, rest⟩
  · have HE : Hid ((k : Int) = (k + ss.length : Nat)) := Lib.hid (by omega)
    rw [h0] at *
    clear h
    go_enter Tryz.func52, Tryz.ntmps52
    go_wp2
    refine wp_loop_rounds 1 ?_
    rw [rounds_succ]
    go_wp2
    go_ret
    exact ⟨ret_int HE.out, Outside.refl _ _⟩
  · have HIV : Hid (Ivl lo hi g) := Lib.hid (h.2.1 g rfl)
    obtain ⟨n, hnn⟩ : ∃ n, n = ss.length := ⟨_, rfl⟩
    have HR0 : Hid (∃ xs, w.ownsRow lo 9 1 (.slice (some ⟨g, 0, none⟩) n cap) n xs) := Lib.hid (by rw [hnn]; exact ⟨_, h.1⟩)
    rw [← hnn] at hn ⊢
    clear h hnn rest
    go_enter Tryz.func52, Tryz.ntmps52
    go_wp2
    go_loopw [1, 5] (fun kk i wr => ∃ j q : Nat, j ≤ n ∧ i = .int .i64 j ∧ kk = .int .i64 q ∧ q = k + j ∧ (∃ xs, wr.ownsRow lo 9 1 (.slice (some ⟨g, 0, none⟩) n cap) n xs) ∧ Outside (Ivl lo hi) w wr) (fun _ i _ => n - (intOf i).toNat)
    case atStart => exact ⟨0, k, Nat.zero_le _, rfl, rfl, rfl, HR0.out, Outside.refl _ _⟩
    case round =>
      obtain ⟨j, q, hj, rfl, rfl, hq, hm, ho⟩ := hrel
      have HM := Lib.hid hm
      have HO := Lib.hid ho
      clear hm ho
      by_cases hlt : j < n
      · have C0 := Lib.hid (markText_any q wr (by omega) (by omega))
        have HQ := Lib.hid hq
        have hq2 : q ≤ 100000000 := by omega
        clear hq
        go_wp2_with fail
        refine C0.out.mono ?_
        rintro e w1 ⟨rfl, hb⟩
        have HM1 : Hid (∃ xs, w1.ownsRow lo 9 1 (.slice (some ⟨g, 0, none⟩) n cap) n xs) := Lib.hid (by
          obtain ⟨xs, h⟩ := HM.out
          exact ⟨xs, h.kept (grown_of_below hb none) (.inr (by simp [Value.ownBlock]))⟩)
        have HO1 : Hid (Outside (Ivl lo hi) w w1) := Lib.hid (HO.out.trans (Outside.of_below hb))
        obtain ⟨u, hu⟩ : ∃ u, w1.cell? ⟨g, j, none⟩ = some u := by
          obtain ⟨xs, h⟩ := HM1.out
          have := h.1
          exact ⟨xs[j]'(by omega), by rw [h.cellAt j (by omega), List.getElem?_eq_getElem (by omega)]⟩
        have hf : w1.frozen? ⟨g, j, none⟩ = false := by
          obtain ⟨xs, h⟩ := HM1.out
          exact h.frozenAt j
        obtain ⟨t, ht⟩ : ∃ t, t = markB q := ⟨_, rfl⟩
        have HM2 : Hid (∃ xs, (w1.setCell ⟨g, j, none⟩ (.string t)).ownsRow lo 9 1 (.slice (some ⟨g, 0, none⟩) n cap) n xs) := Lib.hid (by
          obtain ⟨xs, h⟩ := HM1.out
          exact ⟨_, (h.stored j (.string t)).1⟩)
        have HO2 : Hid (Outside (Ivl lo hi) w (w1.setCell ⟨g, j, none⟩ (.string t))) := Lib.hid (HO1.out.trans (Outside.setCell _ _ _ HIV.out))
        rw [← ht]
        clear hb ht
        go_wp2
        go_roundw
        case rel => exact ⟨j + 1, q + 1, by omega, by go_num, by go_num, by have := HQ.out; omega, HM2.out, HO2.out⟩
        case measure => simp [intOf]; omega
      · have HE : Hid ((q : Int) = (k + n : Nat)) := Lib.hid (by omega)
        go_wp2
        go_ret
        exact ⟨ret_int HE.out, HO.out⟩

end Go.Proofs.YtohalpafmcobpaaGreat
