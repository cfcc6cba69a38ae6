/- The model's split of a string at a byte: a contract for every string of at most 1048576 bytes. -/
import Derived.Test.YtcijmhhajbgknaaDoorBaseF
import Derived.Test.YtcijmhhajbgknaaDoorSplitMF
import Derived.Maps.AppendAt
namespace Go.Proofs.YtcijmhhajbgknaaDoor
open Go.RowKit

/-- A slice that owns just these strings. -/
def Got (w w' : World) (c : UInt8) (s : ByteArray) (e : Ending) : Prop :=
  ∃ (v : Value) (ss : List ByteArray), e = .returned v ∧ ss.map (·.data.toList) = splitL c s.data.toList ∧ w'.ownsRow w.heap.size 9 1 v ss.length (ss.map Value.string) ∧ Below w.heap.size w w'

set_option maxHeartbeats 1000000 in
theorem l1Split_any (s : ByteArray) (c : UInt8) (w : World) (hs : s.size ≤ 1048576) :
    Calls Tryd.prog 65 #[.string s, .int .u8 (c.toNat : Int)] w fun e w' => Got w w' c s e := by
  obtain ⟨i0, hi, hz0, hz1, hz2⟩ := info_parts infoStr
  go_enter Tryd.func65, Tryd.ntmps65
  go_wp2
  go_loopw [5, 6, 7] (fun o f i wr => ∃ (k p : Nat) (pre : List ByteArray), i = .int .i64 k ∧ f = .int .i64 p ∧ CRel c s k p pre ∧ wr.ownsRow w.heap.size 9 1 o pre.length (pre.map Value.string) ∧ Below w.heap.size w wr) (fun _ _ i _ => s.size - (intOf i).toNat)
  case atStart => exact ⟨0, 0, [], rfl, rfl, CRel.start c s, World.ownsRow_lit w #[] 0 (Nat.le_refl _) (Nat.zero_le _) rfl, (Below.refl _ _).alloc (Nat.le_refl _) _⟩
  case round =>
    obtain ⟨k, p, pre, rfl, rfl, hr, hown, hbel⟩ := hrel
    have hfew := hr.few
    have hpk := hr.le
    have hks := hr.lek
    have hsz := hbel.size
    have HR : Hid (CRel c s k p pre) := Lib.hid hr
    have HB : Hid (Below w.heap.size w wr) := Lib.hid hbel
    clear hr hbel
    by_cases hlt : k < s.size
    · by_cases he : s[k] = c
      · have ht := byte_eq he
        have HH : Hid (CRel c s (k + 1) (k + 1) (pre ++ [s.extract p k])) := Lib.hid (HR.out.hit hlt he)
        clear he
        go_wp2_with (at_builtin; refine wpList_append_own _ rfl (.tmp 20) (.tmp 25) 99 rfl w.heap.size 9 i0 (.string ByteArray.empty) 1 16 Tryd.underlying99 hi hz0 hz1 hz2 rfl (by decide) _ _ _ rfl (hown.alloc _) ⟨wr.heap.size, 0, none⟩ 1 1 [.string (s.extract p k)] rfl rfl (cell_one_new _ _ _) (by simp [Value.oneCell']) (by unfold maxLen; omega) (by omega) (by simp; omega) ?_; intro v' w1 hown' hgrow _)
        have HO : Hid (w1.ownsRow w.heap.size 9 1 v' (pre ++ [s.extract p k]).length ((pre ++ [s.extract p k]).map Value.string)) := Lib.hid (by simpa using hown')
        have HB1 : Hid (Below w.heap.size w w1) := Lib.hid (below_app HB.out hown hgrow)
        clear hown hown' hgrow
        go_wp2
        go_roundw
        case rel => exact ⟨k + 1, k + 1, _, by go_num, by go_num, HH.out, HO.out, HB1.out⟩
        case measure => simp [intOf]; omega
      · have ht := byte_ne he
        have HH : Hid (CRel c s (k + 1) p pre) := Lib.hid (HR.out.miss hlt he)
        have HO : Hid _ := Lib.hid hown
        clear he hown
        go_wp2
        go_roundw
        case rel => exact ⟨k + 1, p, _, by go_num, rfl, HH.out, HO.out, HB.out⟩
        case measure => simp [intOf]; omega
    · have HH : Hid ((pre ++ [s.extract p s.size]).map (·.data.toList) = splitL c s.data.toList) := Lib.hid (by
        have e : k = s.size := by omega
        have h := HR.out
        rw [e] at h
        exact h.done)
      go_wp2_with (at_builtin; refine wpList_append_own _ rfl (.tmp 29) (.tmp 33) 99 rfl w.heap.size 9 i0 (.string ByteArray.empty) 1 16 Tryd.underlying99 hi hz0 hz1 hz2 rfl (by decide) _ _ _ rfl (hown.alloc _) ⟨wr.heap.size, 0, none⟩ 1 1 [.string (s.extract p s.size)] rfl rfl (cell_one_new _ _ _) (by simp [Value.oneCell']) (by unfold maxLen; omega) (by omega) (by simp; omega) ?_; intro v' w1 hown' hgrow _)
      have HG : Hid (Got w w1 c s (.returned v')) := Lib.hid ⟨v', _, rfl, HH.out, by simpa using hown', below_app HB.out hown hgrow⟩
      clear hown hown' hgrow
      go_wp2
      go_ret
      exact HG.out

end Go.Proofs.YtcijmhhajbgknaaDoor
