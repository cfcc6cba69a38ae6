/- FormatPosition of the model and of the program: contracts, for every slice of integers. No condition. -/
import Derived.Test.YtcijmhhajbgknaaDoorPosF
import Derived.Laws.AppendOwn
import Derived.Maps.AppendAt
import Derived.RangeFuncBox
namespace Go.Proofs.YtcijmhhajbgknaaDoor
open Go.RowKit
set_option linter.unusedVariables false

theorem num_small {x : Int} (w : World) (h : inB x 0 3 = true) :
    Calls Tryd.prog 92 #[.int .i64 x] w fun e w' => e = .returned (.string (dig x)) ∧ Drawn w w' := by
  have h := inB_iff.1 h
  have C := numNat_any x.toNat x.toNat w (Nat.le_refl _) (by omega)
  have e : ((x.toNat : Nat) : Int) = x := by omega
  rw [e] at C
  exact C

theorem sempty {s : ByteArray} (h : s.data.toList ≠ []) : s.toList.isEmpty = false := by
  rw [ByteArray.toList_eq]
  cases hl : s.data.toList with
  | nil => exact absurd hl h
  | cons a r => rfl

theorem drawn_trans {a b c : World} (h : Drawn a b) (k : Drawn b c) : Drawn a c := by
  obtain ⟨n, rfl⟩ := h
  obtain ⟨m, rfl⟩ := k
  exact ⟨n + m, drewN_two a n m⟩

set_option maxRecDepth 100000 in
set_option maxHeartbeats 1000000 in
theorem specText_any (is : List Int) (v : Value) (w : World) (hv : IntsV w v is) (hp : pOk is = true) :
    Calls Tryd.prog 61 #[v] w fun e w' => e = .returned (.string (pText is)) ∧ Below w.heap.size w w' := by
  have hlen := pOk_len hp
  obtain ⟨a, c, rfl, hc⟩ := hv
  have HC := Lib.hid hc
  have HP := Lib.hid hp
  clear hc hp
  go_enter Tryd.func61, Tryd.ntmps61
  go_wp2
  go_loopw [3, 4] (fun z i wr => ∃ (k : Nat) (s : ByteArray), k ≤ is.length ∧ i = .int .i64 k ∧ z = .string s ∧ PRel is k s ∧ Drawn w wr) (fun _ i _ => is.length - (intOf i).toNat)
  case atStart => exact ⟨0, _, Nat.zero_le _, rfl, rfl, PRel.start is, Drawn.refl _⟩
  case round =>
    obtain ⟨k, s, hk, rfl, rfl, hrel, hd⟩ := hrel
    have HR := Lib.hid hrel
    have HD := Lib.hid hd
    have hsz := HR.out.size HP.out
    clear hrel hd
    by_cases hlt : k < is.length
    · obtain ⟨x, hx⟩ : ∃ x, is[k]? = some x := ⟨_, List.getElem?_eq_getElem hlt⟩
      obtain ⟨b, off, rfl, hcr⟩ := HC.out k x hx
      have hcr' := HD.out.cell hcr
      have HX := Lib.hid hx
      clear hx hcr
      have hin := pOk_all HP.out x (List.mem_of_getElem? HX.out)
      have C := Lib.hid (fun W => num_small (x := x) W hin)
      have hds : (dig x).size ≤ 1 := by rw [dig_size hin]; exact Nat.le_refl _
      clear hin
      obtain ⟨q, hq⟩ : ∃ q, q = dig x := ⟨_, rfl⟩
      rw [← hq] at C hds
      have HQ := Lib.hid hq
      clear hq
      by_cases h0 : k = 0
      · have HN : Hid (PRel is (k + 1) (s ++ q)) := Lib.hid (by subst h0; rw [HQ.out]; exact HR.out.one HX.out)
        have hcr2 : wr.cell? ⟨b, off, none⟩ = some (.int .i64 x) := by have h := hcr'; rw [h0] at h; exact h
        have hk0 : ¬ 0 < k := by omega
        go_wp2_with (go_at_call 92; refine (C.out _).mono ?_; rintro e w' ⟨rfl, hd⟩)
        go_roundw
        case rel => exact ⟨k + 1, _, by omega, by go_num, rfl, HN.out, drawn_trans HD.out hd⟩
        case measure => simp [intOf]; omega
      · have HN : Hid (PRel is (k + 1) (s ++ ⟨#[46]⟩ ++ q)) := Lib.hid (by rw [HQ.out]; exact HR.out.next (by omega) HX.out)
        have hk0 : 0 < k := by omega
        go_wp2_with (go_at_call 92; refine (C.out _).mono ?_; rintro e w' ⟨rfl, hd⟩)
        go_roundw
        case rel => exact ⟨k + 1, _, by omega, by go_num, rfl, HN.out, drawn_trans HD.out hd⟩
        case measure => simp [intOf]; omega
    · have hs := HR.out.done (by omega)
      by_cases h0 : is = []
      · subst h0
        have e : s = ⟨#[]⟩ := by rw [hs]; rfl
        subst e
        have HE : Hid (⟨#[45]⟩ = pText []) := Lib.hid (by simp [pText, pOk, pAll])
        clear hs
        go_wp2
        go_ret
        exact ⟨ret_str HE.out, HD.out.below _⟩
      · have HE : Hid (s = pText is) := Lib.hid (by rw [hs]; simp [pText, HP.out, h0])
        have hne := sempty (s := s) (by rw [hs]; exact pRaw_ne HP.out h0)
        clear hs
        go_wp2
        go_ret
        exact ⟨ret_str HE.out, HD.out.below _⟩

theorem specFP_any (is : List Int) (v : Value) (w : World) (hv : IntsV w v is) (hn : is.length ≤ 9223372036854775807) :
    Calls Tryd.prog 28 #[v] w fun e w' => e = pEnd is ∧ Below w.heap.size w w' := by
  have CP := Lib.hid (place_any is v w hv hn)
  cases hp : pOk is with
  | true =>
    have CT := Lib.hid (specText_any is v w hv hp)
    have HE : Hid (Ending.returned (.tuple #[.string (pText is), .bool true]) = pEnd is) := Lib.hid (by rw [pEnd, hp])
    rw [hp] at CP
    obtain ⟨a, c, rfl, hc⟩ := hv
    clear hc hp
    go_enter Tryd.func28, Tryd.ntmps28
    go_wp2_with (first | (go_at_call 60; refine CP.out.mono ?_; rintro e w' ⟨rfl, rfl⟩) | (go_at_call 61; refine CT.out.mono ?_; rintro e w' ⟨rfl, hb⟩))
    go_ret2
    exact ⟨HE.out, hb⟩
  | false =>
    have HE : Hid (Ending.returned (.tuple #[.string ⟨#[]⟩, .bool false]) = pEnd is) := Lib.hid (pEnd_no hp)
    rw [hp] at CP
    obtain ⟨a, c, rfl, hc⟩ := hv
    clear hc hp
    go_enter Tryd.func28, Tryd.ntmps28
    go_wp2_with (go_at_call 60; refine CP.out.mono ?_; rintro e w' ⟨rfl, rfl⟩)
    go_ret2
    exact ⟨HE.out, Below.refl _ _⟩

theorem fmt_small {x : Int} (w : World) (h : inB x 0 3 = true) :
    Calls Tryd.prog 63 #[.int .i64 x] w fun e w' => e = .returned (.tuple #[.string (dig x), .bool true]) ∧ w = w' := by
  have hh := inB_iff.1 h
  obtain ⟨n, rfl⟩ : ∃ n : Nat, x = (n : Int) := ⟨x.toNat, by omega⟩
  have CN := Lib.hid (Tryd.strconv_Itoa_small n (by omega) w)
  have HE : Hid (⟨(Lib.decDigits n).toArray⟩ = dig (n : Int)) := Lib.hid (by simp [dig])
  clear h
  go_enter Tryd.func63, Tryd.ntmps63
  go_wp2_with (go_at_call 95; refine CN.out.mono ?_; rintro e w' ⟨rfl, rfl⟩)
  go_ret2
  exact ⟨by rw [HE.out]; rfl, rfl⟩

def IRow (w wr : World) (is : List Int) (k : Nat) (v : Value) : Prop := wr.ownsRow w.heap.size 9 1 v k ((is.take k).map fun x => Value.string (dig x))

theorem IRow.shape {w wr : World} {is : List Int} {k : Nat} {v : Value} (h : IRow w wr is k v) : ∃ a c, v = .slice a k c := by
  rcases h.2 with ⟨rfl, h0⟩ | ⟨g, cap, cur, rfl, _⟩
  · exact ⟨none, 0, by rw [h0]⟩
  · exact ⟨_, cap, rfl⟩

set_option maxRecDepth 100000 in
set_option maxHeartbeats 2000000 in
theorem implFP_any (is : List Int) (v : Value) (w : World) (hv : IntsV w v is) (hn : is.length ≤ 9223372036854775807) :
    Calls Tryd.prog 30 #[v] w fun e w' => e = pEnd is ∧ Below w.heap.size w w' := by
  have CP := Lib.hid (isPos_any is v w hv hn)
  obtain ⟨i0, hi, hz0, hz1, hz2⟩ := info_parts infoStr
  cases hp : pOk is with
  | false =>
    have HE : Hid (Ending.returned (.tuple #[.string ⟨#[]⟩, .bool false]) = pEnd is) := Lib.hid (pEnd_no hp)
    rw [hp] at CP
    obtain ⟨a, c, rfl, hc⟩ := hv
    clear hc hp
    go_enter Tryd.func30, Tryd.ntmps30
    go_wp2_with (go_at_call 62; refine CP.out.mono ?_; rintro e w' ⟨rfl, rfl⟩)
    go_ret2
    exact ⟨HE.out, Below.refl _ _⟩
  | true =>
    have HP := Lib.hid hp
    have hlen := pOk_len hp
    rw [hp] at CP
    obtain ⟨a, c, rfl, hc⟩ := hv
    have HC := Lib.hid hc
    clear hc hp
    by_cases h0 : is = []
    · subst h0
      have HE := Lib.hid pEnd_nil
      go_enter Tryd.func30, Tryd.ntmps30
      go_wp2_with (go_at_call 62; refine CP.out.mono ?_; rintro e w' ⟨rfl, rfl⟩)
      go_ret2
      exact ⟨HE.out, Below.refl _ _⟩
    · have hpos : 0 < is.length := List.length_pos_iff.2 h0
      have hz : ((is.length : Int) == 0) = false := by rw [beq_eq_false_iff_ne]; omega
      have HJ : Hid (jEnd (is.map dig) ⟨#[46]⟩ = .returned (.tuple #[.string (pText is), .bool true])) := Lib.hid (by rw [pJoinEnd HP.out h0, pEnd, HP.out])
      have HE : Hid (Ending.returned (.tuple #[.string (pText is), .bool true]) = pEnd is) := Lib.hid (by rw [pEnd, HP.out])
      clear h0
      go_enter Tryd.func30, Tryd.ntmps30
      go_wp2_with (go_at_call 62; refine CP.out.mono ?_; rintro e w' ⟨rfl, rfl⟩)
      clear CP
      go_loopw [4, 17] (fun z i wr => ∃ k : Nat, k ≤ is.length ∧ i = .int .i64 k ∧ IRow w wr is k z ∧ Below w.heap.size w wr) (fun _ i _ => is.length - (intOf i).toNat)
      case atStart => exact ⟨0, Nat.zero_le _, rfl, World.ownsRow_nil _ _ _ _, Below.refl _ _⟩
      case round =>
        obtain ⟨k, hk, rfl, hrow, hbel⟩ := hrel
        have HROW := Lib.hid hrow
        have HB := Lib.hid hbel
        obtain ⟨a2, c2, rfl⟩ := hrow.shape
        have hwz := HB.out.size
        clear hbel hrow
        by_cases hlt : k < is.length
        · obtain ⟨x, hx⟩ : ∃ x, is[k]? = some x := ⟨_, List.getElem?_eq_getElem hlt⟩
          obtain ⟨b, off, rfl, hcr⟩ := HC.out k x hx
          have hcr' := carry_cell hcr HB.out
          have C := Lib.hid (fun W => fmt_small (x := x) W (pOk_all HP.out x (List.mem_of_getElem? hx)))
          have HN : Hid ((is.take k).map (fun x => Value.string (dig x)) ++ [.string (dig x)] = (is.take (k + 1)).map (fun x => Value.string (dig x))) := Lib.hid (by rw [List.take_add_one, hx]; simp)
          clear hx hcr
          obtain ⟨q, hq⟩ : ∃ q, q = dig x := ⟨_, rfl⟩
          rw [← hq] at C HN
          clear hq
          go_wp2_with (first
            | (go_at_call 63; refine (C.out _).mono ?_; rintro e w' ⟨rfl, rfl⟩)
            | (at_builtin; go_loud (refine wpList_append_own _ rfl _ _ 99 rfl w.heap.size 9 i0 (.string ByteArray.empty) 1 16 Tryd.underlying99 hi hz0 hz1 hz2 rfl (by decide) _ _ _ rfl (HROW.out.alloc _) ⟨wr.heap.size, 0, none⟩ 1 1 [.string q] rfl rfl (cell_one_new _ _ _) (by simp [Value.oneCell']) (by unfold maxLen; omega) (by omega) (by simp; omega) ?_; intro v2 w2 hown2 hg2 _; obtain ⟨g2, cap2, rfl⟩ := ownsRow_succ hown2; have HO2 := Lib.hid hown2; have HG2 := Lib.hid hg2; clear hown2 hg2)))
          go_roundw
          case rel =>
            refine ⟨k + 1, by omega, by go_num, ?_, ?_⟩
            · have h := HO2.out
              rw [HN.out] at h
              exact h
            · exact (HB.out.alloc HB.out.size _).grown HG2.out (by simp; omega) (fun g hg => (HROW.out.lt g hg).1)
          case measure => simp [intOf]; omega
        · have hke : k = is.length := by omega
          have HR2 : Hid (wr.ownsRow w.heap.size 9 1 (.slice a2 k c2) (is.map dig).length ((is.map dig).map Value.string)) := Lib.hid (by
            have h := HROW.out
            unfold IRow at h
            rw [List.take_of_length_le (by omega)] at h
            rw [List.map_map, List.length_map, ← hke]
            exact h)
          have CJ := Lib.hid (implJoin_any (.slice a2 k c2) (is.map dig) ⟨#[46]⟩ wr (strsV_of_owns HR2.out) (by decide) (by rw [List.length_map]; omega) (fun j hj => by
            rw [List.length_map] at hj
            have e : (is.map dig).getD j ByteArray.empty = dig is[j] := by simp [hj]
            rw [e, dig_size (pOk_all HP.out _ (List.getElem_mem hj))]; omega) (owns_cap HR2.out))
          rw [HJ.out] at CJ
          clear hke
          go_wp2_with (go_at_call 64; refine CJ.out.mono ?_; rintro e w' ⟨rfl, hb⟩)
          go_ret2
          exact ⟨HE.out, carry_below HB.out (Nat.le_refl _) hb⟩

end Go.Proofs.YtcijmhhajbgknaaDoor
