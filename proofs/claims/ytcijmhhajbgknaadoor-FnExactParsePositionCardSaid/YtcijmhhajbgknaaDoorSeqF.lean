/- The program's iterator over the pieces of a string hands over these pieces, in order, for every string and every byte; and slices.Collect gathers them. No condition beyond the length that any string has. -/
import Derived.Test.YtcijmhhajbgknaaDoorStrsF
import Derived.Test.YtcijmhhajbgknaaDoorSplitMF
import Derived.RangeFuncBox
import Derived.RangeFuncLeaves
import Derived.Shelf.Abstract
import Derived.OwnWalkIn
import Derived.TacticsInMore
import Derived.LoopNIn
import Derived.LoopIn
import Derived.Maps.AppendAt
import Derived.Scope
import Derived.ControlIn
import Derived.WalkMore
namespace Go.Proofs.YtcijmhhajbgknaaDoor
open Go.RowKit Go.Shelf

attribute [local go_sem] Oper.semAt_some

def strLen : Value → Nat
  | .string t => t.size
  | _ => 0

set_option maxRecDepth 100000 in
set_option maxHeartbeats 1000000 in
theorem seq_in (n : Nat) (hn : 1 ≤ n) (l B0 B1 n₀ : Nat) (s : ByteArray) (c : UInt8) (hs : s.size ≤ 9223372036854775806) (J Jx : List ByteArray → World → Prop)
    (hY : ∀ pre x W, J pre W → pre.length < (splitL c s.data.toList).length → YieldAt Fence.wide (n - 1) Tryd.prog l #[.string x] W fun e W' =>
      (e = .returned (.bool true) ∧ J (pre ++ [x]) W' ∧ Below n₀ W W') ∨ (e = .returned (.bool false) ∧ Jx (pre ++ [x]) W'))
    (W : World) (hJ : AbidesFrom W.heap.size J) (hB0 : W.cell? ⟨B0, 0, none⟩ = some (.string s)) (hB1 : W.cell? ⟨B1, 0, none⟩ = some (.int .u8 (c.toNat : Int))) (hlt : B1 < n₀) (h0 : J [] W) :
    CallsIn Fence.wide n Tryd.prog 127 #[.func (.yield l) #[] #[], .pointer (some ⟨B0, 0, none⟩), .pointer (some ⟨B1, 0, none⟩)] W fun e W' => (∃ v, e = .returned v) ∧
      ((∃ ys : List ByteArray, ys.map (·.data.toList) = splitL c s.data.toList ∧ J ys W') ∨ (∃ pre, True ∧ Jx pre W')) := by
  have HS : Hid (s.size ≤ 9223372036854775806) := Lib.hid hs
  have HJ : Hid (AbidesFrom W.heap.size J) := Lib.hid hJ
  have HB1 : Hid (W.cell? ⟨B1, 0, none⟩ = some (.int .u8 (c.toNat : Int))) := Lib.hid hB1
  have HY := Lib.hid hY
  clear hs hJ hB1 hY
  refine callsIn_of_wp Tryd.func127 rfl trivial ?_ rfl
  simp only [Tryd.ntmps127, List.size_toArray, List.length_cons, List.length_nil, Nat.reduceAdd, Nat.reduceSub, Array.replicate_succ, Array.replicate_zero, List.push_toArray, List.append_toArray, List.nil_append, List.cons_append]
  refine wpIn_wide.2 (wp_scope_straight ((wpIn_wide (n := n)).1 ?_))
  gi_wp2
  refine wpIn_label ?_
  have HO0 : Hid (ORel c s.data.toList 0 s []) := Lib.hid (ORel.start c s)
  gi_wp2
  gi_loopw [4] (fun v wr => ∃ (p : Nat) (t : ByteArray) (pre : List ByteArray), v = .string t ∧ ORel c s.data.toList p t pre ∧ J pre wr ∧ wr.cell? ⟨B1, 0, none⟩ = some (.int .u8 (c.toNat : Int))) (fun v _ => strLen v)
  case atStart => exact ⟨0, s, [], rfl, HO0.out, h0, HB1.out⟩
  case round =>
    obtain ⟨p, t, pre, rfl, ho, hj, hc⟩ := hrel
    have HO : Hid (ORel c s.data.toList p t pre) := Lib.hid ho
    have HJ1 : Hid (J pre wr) := Lib.hid hj
    have HC : Hid (wr.cell? ⟨B1, 0, none⟩ = some (.int .u8 (c.toNat : Int))) := Lib.hid hc
    have htz : t.size ≤ 9223372036854775806 := by have := ho.size; have := HS.out; simp at *; omega
    clear ho hj hc
    obtain ⟨wo, rfl⟩ : ∃ wo : World, wo = wr := ⟨_, rfl⟩
    gi_wp2
    gi_loopw [4, 9] (fun v i w2 => ∃ k : Nat, i = .int .i64 k ∧ v = .string t ∧ ARel c s.data.toList p t pre k ∧ J pre w2 ∧ w2.cell? ⟨B1, 0, none⟩ = some (.int .u8 (c.toNat : Int))) (fun _ i _ => t.size - (intOf i).toNat)
    case atStart => exact ⟨0, rfl, rfl, HO.out.arel, HJ1.out, HC.out⟩
    case round =>
      obtain ⟨k, rfl, rfl, ha, hj, hc⟩ := hrel
      have hk := ha.le
      have HA : Hid (ARel c s.data.toList p t pre k) := Lib.hid ha
      have HJ2 : Hid (J pre wr) := Lib.hid hj
      clear ha hj HJ1
      by_cases hlt2 : k < t.size
      · have HJD : Hid (J pre wr.drew) := Lib.hid (HJ.out _ _ _ none HJ2.out ⟨rfl, rfl, rfl, Nat.le_refl _, fun _ _ _ => rfl⟩ (fun r e => by cases e))
        by_cases he : t[k] = c
        · have ht := byte_eq he
          have HH : Hid (ORel c s.data.toList (p + (k + 1)) (t.extract (k + 1) t.size) (pre ++ [t.extract 0 k])) := Lib.hid (HA.out.hit hlt2 he)
          clear he
          obtain ⟨fn, tmps, assign, body, hy, hR⟩ := HY.out pre (t.extract 0 k) wr.drew HJD.out HA.out.room
          gi_wp2
          gi_region
          all_goals gi_wp2
          refine hR.mono ?_
          rintro e W3 (⟨rfl, hJ3, hk3⟩ | ⟨rfl, hJx3⟩)
          · have HJ3 := Lib.hid hJ3
            have HC3 : Hid (W3.cell? ⟨B1, 0, none⟩ = some (.int .u8 (c.toNat : Int))) := Lib.hid ((hk3.cell (p := ⟨B1, 0, none⟩) hlt).trans hc)
            clear hJ3 hk3 hy hR
            gi_wp2
            go_roundw
            case rel => exact ⟨_, _, _, rfl, HH.out, HJ3.out, HC3.out⟩
            case measure => simp [strLen]; omega
          · clear hy hR
            gi_wp2
            try rw [Exit.noGoto_ret]
            refine bodyPost_ret (results_none rfl _ _ _) rfl ?_
            exact ⟨⟨_, rfl⟩, .inr ⟨_, trivial, hJx3⟩⟩
        · have ht := byte_ne he
          have HH : Hid (ARel c s.data.toList p t pre (k + 1)) := Lib.hid (HA.out.miss hlt2 he)
          clear he
          gi_wp2
          gi_region
          all_goals gi_wp2
          go_roundw
          case rel => exact ⟨k + 1, by go_num, rfl, HH.out, HJD.out, hc⟩
          case measure => simp [intOf]; omega
      · have HDn : Hid ((pre ++ [t]).map (·.data.toList) = splitL c s.data.toList) := Lib.hid (by
          have e : k = t.size := by omega
          have h := HA.out
          rw [e] at h
          exact h.done)
        obtain ⟨fn, tmps, assign, body, hy, hR⟩ := HY.out pre t wr HJ2.out HA.out.room
        gi_wp2
        refine hR.mono ?_
        rintro e W3 (⟨rfl, hJ3, hk3⟩ | ⟨rfl, hJx3⟩)
        · clear hk3 hy hR
          gi_wp2
          try rw [Exit.noGoto_ret]
          refine bodyPost_ret (results_none rfl _ _ _) rfl ?_
          exact ⟨⟨_, rfl⟩, .inl ⟨_, HDn.out, hJ3⟩⟩
        · clear hy hR
          gi_wp2
          try rw [Exit.noGoto_ret]
          refine bodyPost_ret (results_none rfl _ _ _) rfl ?_
          exact ⟨⟨_, rfl⟩, .inr ⟨_, trivial, hJx3⟩⟩

end Go.Proofs.YtcijmhhajbgknaaDoor
