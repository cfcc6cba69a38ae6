/- SplitString of the program and of the model give the same pieces: contracts for every string and every separator. No condition beyond the length that any string has. -/
import Derived.Test.YtcijmhhajbgknaaDoorSeqF
import Derived.RangeFuncNested
import Derived.RangeFuncBound
import Derived.RangeFuncCalls
namespace Go.Proofs.YtcijmhhajbgknaaDoor
open Go.RowKit Go.Shelf

attribute [local go_sem] Oper.semAt_some

/-- The iterator's contract. -/
theorem seq_stops (n : Nat) (hn : 1 ≤ n) (B0 B1 n₀ : Nat) (s : ByteArray) (c : UInt8) (hs : s.size ≤ 9223372036854775806) (w : World) (h0 : B0 < w.heap.size) (h1 : B1 < w.heap.size) (hlt : B1 < n₀)
    (c0 : w.cell? ⟨B0, 0, none⟩ = some (.string s)) (c1 : w.cell? ⟨B1, 0, none⟩ = some (.int .u8 (c.toNat : Int))) :
    SeqStopsK Fence.wide n Tryd.prog 127 #[.pointer (some ⟨B0, 0, none⟩), .pointer (some ⟨B1, 0, none⟩)] (fun x : ByteArray => #[Value.string x]) (Below n₀)
      (fun ys => ys.map (·.data.toList) = splitL c s.data.toList) (fun _ => True) (splitL c s.data.toList).length w := fun l J Jx W hW hJ _ hY h =>
  seq_in n hn l B0 B1 n₀ s c hs J Jx hY W hJ ((hW.cell (p := ⟨B0, 0, none⟩) h0).trans c0) ((hW.cell (p := ⟨B1, 0, none⟩) h1).trans c1) hlt h

set_option maxRecDepth 100000 in
set_option maxHeartbeats 2000000 in
theorem appendSeq_in (n : Nat) (hn : 3 ≤ n) (B0 B1 : Nat) (s : ByteArray) (c : UInt8) (hs : s.size ≤ 1048576) (w : World) (h0 : B0 < w.heap.size) (h1 : B1 < w.heap.size)
    (c0 : w.cell? ⟨B0, 0, none⟩ = some (.string s)) (c1 : w.cell? ⟨B1, 0, none⟩ = some (.int .u8 (c.toNat : Int))) :
    CallsIn Fence.wide n Tryd.prog 126 #[.slice none 0 0, .func (.func 127) #[] #[.pointer (some ⟨B0, 0, none⟩), .pointer (some ⟨B1, 0, none⟩)]] w fun e W' =>
      ∃ (v : Value) (ss : List ByteArray), e = .returned v ∧ ss.map (·.data.toList) = splitL c s.data.toList ∧ W'.ownsRow w.heap.size 9 1 v ss.length (ss.map Value.string) ∧ Below w.heap.size w W' := by
  have h1n : 1 ≤ n := by omega
  have hlen : (splitL c s.data.toList).length ≤ 1048577 := by
    have := split_len_le c s.data.toList
    have e : s.data.toList.length = s.size := by rw [Array.length_toList]; rfl
    omega
  obtain ⟨i0, hi, hz0, hz1, hz2⟩ := info_parts infoStr
  refine callsIn_of_wp_marks Tryd.func126 rfl trivial ?_ rfl
  simp only [Tryd.ntmps126, List.size_toArray, List.length_cons, List.length_nil, Nat.reduceAdd, Nat.reduceSub, Array.replicate_succ, Array.replicate_zero, List.push_toArray, List.append_toArray, List.nil_append, List.cons_append]
  gi_wp2
  have bO := Boxed.new w 99 (.slice none 0 0)
  have hB0 : Below w.heap.size w (w.alloc (.cells #[.slice none 0 0] 99)) := (Below.refl _ w).alloc (Nat.le_refl _) _
  refine wpIn_rangeFunc_ownG rfl h1n (gf := 127) (lb := #[.pointer (some ⟨B0, 0, none⟩), .pointer (some ⟨B1, 0, none⟩)]) rfl trivial (enters_of Tryd.func127 (by kernel_rfl) rfl)
    (seq_stops (n - 1) (by omega) B0 B1 w.heap.size s c (by omega) _ (by simp; omega) (by simp; omega) h1 ((hB0.cell (p := ⟨B0, 0, none⟩) h0).trans c0) ((hB0.cell (p := ⟨B1, 0, none⟩) h1).trans c1)) belowK_t (belowK_b (by simp)) (Below.refl _ _) (fun _ => rfl)
    (fun pre W => (∃ v, Boxed W w.heap.size 99 v ∧ W.ownsRow w.heap.size 9 1 v pre.length (pre.map Value.string) ∧ True) ∧ Below w.heap.size w W)
    (fun _ _ _ => False)
    (OwnFrom.and (Own.from (holdsRow_own w.heap.size w.heap.size 99 9 1 (fun pre : List ByteArray => pre.length) (fun pre => pre.map Value.string) (fun _ _ => True)) _) (ownFrom_below (Nat.le_refl _) (by simp)))
    (fun _ _ _ _ _ hs _ _ => hs)
    ⟨⟨_, bO, World.ownsRow_nil _ _ _ _, trivial⟩, hB0⟩
    (fun x => { tmps := #[.slice none 0 0, .func (.func 127) #[] #[.pointer (some ⟨B0, 0, none⟩), .pointer (some ⟨B1, 0, none⟩)], .pointer (some ⟨w.heap.size, 0, none⟩), undef, .slice none 0 0, .string x, .func (.func 127) #[] #[.pointer (some ⟨B0, 0, none⟩), .pointer (some ⟨B1, 0, none⟩)], .string x, undef, undef, undef, undef, undef], defers := [] }) ?assign ?body ?done ?stop
  case assign =>
    intro l x W K hK
    gi_wp2
    exact hK
  case body =>
    rintro l pre x W ⟨⟨v, hv, hrow, _⟩, hB⟩ hltN
    have hc := hv.cell
    gi_wp2_with (gi_at_builtin; refine wpListIn_append_own _ rfl _ _ 99 rfl w.heap.size 9 i0 (.string ByteArray.empty) 1 16 Tryd.underlying99 hi hz0 hz1 hz2 rfl (by decide) _ _ _ rfl (hrow.alloc _) ⟨W.heap.size, 0, none⟩ 1 1 [.string x] rfl rfl (cell_one_new _ _ _) (by simp [Value.oneCell']) (by unfold maxLen; omega) (by omega) (by have := hB.size; simp; omega) ?_; intro v' w1 hown' hgrow _; obtain ⟨g', cap', rfl⟩ := ownsRow_succ hown'; obtain ⟨hv1, hv2, hr2, hk2, hb2⟩ := hv.appended (by decide) hrow hB.size (Nat.le_refl _) hown' hgrow; have hc1 := hv1.cell; have hf1 := hv1.frozen)
    exact ⟨hk2.from _, hb2, ⟨_, hv2, by simpa using hr2, trivial⟩, hB.trans hb2⟩
  case done =>
    rintro D ys W hD hS ⟨⟨v, hv, hrow, _⟩, hB⟩ hK
    have hc := hv.cell
    gi_wp2
    refine ⟨by simp, .inl ⟨_, _, rfl, run_takeDeferred hK, ?_⟩⟩
    exact ⟨_, results_tmp rfl _ _ _, v, ys, rfl, hS, ownsRow_putObj hrow _ hK rfl, hB.trans (belowK_b (w := w) (Nat.le_refl _) W D _ _ (by simp at hD; omega) hK rfl rfl)⟩
  case stop =>
    rintro D c pre W _ _ h _
    exact h.elim

end Go.Proofs.YtcijmhhajbgknaaDoor
