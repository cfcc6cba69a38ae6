/- The model's tests of names, as contracts: they answer as the program's. No condition. -/
import Derived.Test.YtppmiedhoimgmaaName
namespace Go.Proofs.Ytppmiedhoimgmaa
open Go.RowKit
set_option linter.unusedVariables false

set_option maxHeartbeats 1000000 in
theorem l2Var_any (s : ByteArray) (w : World) (hs : s.size ≤ maxLen) :
    Calls Try.prog 86 #[.string s] w fun e w' => e = .returned (.bool (varB s)) ∧ w = w' := by
  unfold maxLen at hs
  have CI := in_any s.size 1 4 w
  by_cases h : 1 ≤ s.size ∧ s.size ≤ 4
  · obtain ⟨h1, h4⟩ := h
    have e : inB s.size 1 4 = true := inB_yes (by omega)
    rw [e] at CI
    have C := Lib.hid CI
    have H := Lib.hid (varB_is (s := s) (by omega) h4)
    clear CI e
    rcases up_ways s[0] with ⟨a1, a2, a3⟩ | ⟨a1, a2, a3, a4, a5⟩ | ⟨a1, a2, a3, a4, a5⟩
    · have H2 := Lib.hid a3
      clear a3
      go_enter Try.func86, Try.ntmps86
      go_wp2_with fail
      refine C.out.mono ?_
      rintro e w' ⟨rfl, rfl⟩
      go_wp2
      go_ret
      exact ⟨ret_bool (by rw [H.out, H2.out]; rfl), rfl⟩
    · have H2 := Lib.hid a5
      clear a5
      go_enter Try.func86, Try.ntmps86
      go_wp2_with fail
      refine C.out.mono ?_
      rintro e w' ⟨rfl, rfl⟩
      go_wp2
      go_ret
      exact ⟨ret_bool (by rw [H.out, H2.out]; rfl), rfl⟩
    · have H2 := Lib.hid a5
      clear a5
      go_enter Try.func86, Try.ntmps86
      go_wp2_with fail
      refine C.out.mono ?_
      rintro e w' ⟨rfl, rfl⟩
      go_wp2
      go_loop [3] (fun i => ∃ k : Nat, 1 ≤ k ∧ k ≤ s.size ∧ i = .int .i64 k ∧ (s.data.toList.take k).tail.all smallB = true) (fun i => s.size - (intOf i).toNat)
      case atStart => exact ⟨1, Nat.le_refl _, by omega, rfl, by rw [tail_one]; rfl⟩
      case round =>
        obtain ⟨k, hk1, hk, rfl, hall⟩ := hrel
        have HA := Lib.hid hall
        clear hall
        by_cases hlt : k < s.size
        · have HN := Lib.hid (tail_next s k hk1 hlt smallB)
          have HO := Lib.hid (fun h => tail_no s k hk1 hlt smallB h)
          have CS := Lib.hid (small_any s[k] w)
          go_wp2_with fail
          refine CS.out.mono ?_
          rintro e w' ⟨rfl, rfl⟩
          cases hb : smallB s[k] with
          | true =>
            have H3 := Lib.hid hb
            clear hb
            go_wp2
            go_round
            case rel => exact ⟨k + 1, by omega, by omega, by go_num, by rw [HN.out, HA.out, H3.out]; rfl⟩
            case measure => simp [intOf]; omega
          | false =>
            have H3 := Lib.hid hb
            clear hb
            go_wp2
            go_ret
            exact ⟨ret_bool (by rw [H.out, HO.out H3.out]; simp), rfl⟩
        · have HE : Hid (s.data.toList.tail.all smallB = true) := Lib.hid (by
            have e : s.data.toList.length = s.size := Array.length_toList
            have := HA.out
            rwa [List.take_of_length_le (by omega)] at this)
          go_wp2
          go_ret
          exact ⟨ret_bool (by rw [H.out, HE.out, H2.out]; rfl), rfl⟩
  · have e : inB s.size 1 4 = false := inB_no (by omega)
    rw [e] at CI
    have C := Lib.hid CI
    have H := Lib.hid (varB_short h)
    clear CI e h
    go_enter Try.func86, Try.ntmps86
    go_wp2_with fail
    refine C.out.mono ?_
    rintro e w' ⟨rfl, rfl⟩
    go_wp2
    go_ret
    exact ⟨ret_bool H.out.symm, rfl⟩

theorem res_no {l : List UInt8} (h : resL l = false) : (l == [116, 114, 117, 101]) = false ∧ (l == [102, 97, 108, 115, 101]) = false ∧ (l == [116, 114, 117, 116, 104]) = false ∧ (l == [98, 111, 116, 104]) = false ∧ (l == [101, 105, 116, 104, 101, 114]) = false ∧ (l == [105, 102]) = false ∧ (l == [97, 108, 108]) = false ∧ (l == [115, 111, 109, 101]) = false := by
  unfold resL at h
  simpa only [Bool.or_eq_false_iff] using h

theorem res_ways {l : List UInt8} (h : resL l = true) :
    ((l == [116, 114, 117, 101]) = true) ∨ ((l == [116, 114, 117, 101]) = false ∧ (l == [102, 97, 108, 115, 101]) = true) ∨ ((l == [116, 114, 117, 101]) = false ∧ (l == [102, 97, 108, 115, 101]) = false ∧ (l == [116, 114, 117, 116, 104]) = true) ∨
    ((l == [116, 114, 117, 101]) = false ∧ (l == [102, 97, 108, 115, 101]) = false ∧ (l == [116, 114, 117, 116, 104]) = false ∧ (l == [98, 111, 116, 104]) = true) ∨
    ((l == [116, 114, 117, 101]) = false ∧ (l == [102, 97, 108, 115, 101]) = false ∧ (l == [116, 114, 117, 116, 104]) = false ∧ (l == [98, 111, 116, 104]) = false ∧ (l == [101, 105, 116, 104, 101, 114]) = true) ∨
    ((l == [116, 114, 117, 101]) = false ∧ (l == [102, 97, 108, 115, 101]) = false ∧ (l == [116, 114, 117, 116, 104]) = false ∧ (l == [98, 111, 116, 104]) = false ∧ (l == [101, 105, 116, 104, 101, 114]) = false ∧ (l == [105, 102]) = true) ∨
    ((l == [116, 114, 117, 101]) = false ∧ (l == [102, 97, 108, 115, 101]) = false ∧ (l == [116, 114, 117, 116, 104]) = false ∧ (l == [98, 111, 116, 104]) = false ∧ (l == [101, 105, 116, 104, 101, 114]) = false ∧ (l == [105, 102]) = false ∧ (l == [97, 108, 108]) = true) ∨
    ((l == [116, 114, 117, 101]) = false ∧ (l == [102, 97, 108, 115, 101]) = false ∧ (l == [116, 114, 117, 116, 104]) = false ∧ (l == [98, 111, 116, 104]) = false ∧ (l == [101, 105, 116, 104, 101, 114]) = false ∧ (l == [105, 102]) = false ∧ (l == [97, 108, 108]) = false ∧ (l == [115, 111, 109, 101]) = true) := by
  unfold resL at h
  generalize (l == [116, 114, 117, 101]) = a at *
  generalize (l == [102, 97, 108, 115, 101]) = b at *
  generalize (l == [116, 114, 117, 116, 104]) = c at *
  generalize (l == [98, 111, 116, 104]) = d at *
  generalize (l == [101, 105, 116, 104, 101, 114]) = e at *
  generalize (l == [105, 102]) = f at *
  generalize (l == [97, 108, 108]) = g at *
  generalize (l == [115, 111, 109, 101]) = i at *
  revert h
  cases a <;> cases b <;> cases c <;> cases d <;> cases e <;> cases f <;> cases g <;> cases i <;> decide

theorem under_ways (c : UInt8) : (((c.toNat : Int) != 95) = true ∧ smallU c = smallB c) ∨ (((c.toNat : Int) != 95) = false ∧ smallU c = true) := by
  by_cases h : c = 95
  · subst h; exact .inr ⟨rfl, rfl⟩
  · refine .inl ⟨?_, by simp [smallU, h]⟩
    rw [bne_iff_ne]
    intro e
    apply h
    apply UInt8.toNat_inj.1
    have : (95 : UInt8).toNat = 95 := rfl
    omega

set_option maxHeartbeats 2000000 in
theorem l2Symbol_any (s : ByteArray) (w : World) (hs : s.size ≤ maxLen) :
    Calls Try.prog 112 #[.string s] w fun e w' => e = .returned (.bool (symB s)) ∧ w = w' := by
  unfold maxLen at hs
  have CI := in_any s.size 1 6 w
  by_cases h : 1 ≤ s.size ∧ s.size ≤ 6
  · obtain ⟨h1, h4⟩ := h
    have e : inB s.size 1 6 = true := inB_yes (by omega)
    rw [e] at CI
    have C := Lib.hid CI
    have H := Lib.hid (symB_is (s := s) (by omega) h4)
    clear CI e
    rcases lo_ways s[0] with ⟨a1, a2, a3⟩ | ⟨a1, a2, a3, a4, a5⟩ | ⟨a1, a2, a3, a4, a5⟩
    · have H2 := Lib.hid a3
      clear a3
      go_enter Try.func112, Try.ntmps112
      go_wp2_with fail
      refine C.out.mono ?_
      rintro e w' ⟨rfl, rfl⟩
      go_wp2
      go_ret
      exact ⟨ret_bool (by rw [H.out, H2.out]; rfl), rfl⟩
    · have H2 := Lib.hid a5
      clear a5
      go_enter Try.func112, Try.ntmps112
      go_wp2_with fail
      refine C.out.mono ?_
      rintro e w' ⟨rfl, rfl⟩
      go_wp2
      go_ret
      exact ⟨ret_bool (by rw [H.out, H2.out]; rfl), rfl⟩
    · have H2 := Lib.hid a5
      clear a5
      cases hr : resL s.toList with
      | true =>
        have HR : Hid (symB s = false) := Lib.hid (by rw [H.out, hr]; simp)
        have HW := res_ways hr
        clear hr
        rcases HW with h | ⟨_, h⟩ | ⟨_, _, h⟩ | ⟨_, _, _, h⟩ | ⟨_, _, _, _, h⟩ | ⟨_, _, _, _, _, h⟩ | ⟨_, _, _, _, _, _, h⟩ | ⟨_, _, _, _, _, _, _, h⟩
        all_goals
          go_enter Try.func112, Try.ntmps112
          go_wp2_with fail
          refine C.out.mono ?_
          rintro e w' ⟨rfl, rfl⟩
          go_wp2
          go_ret
          exact ⟨ret_bool HR.out.symm, rfl⟩
      | false =>
        obtain ⟨b1, b2, b3, b4, b5, b6, b7, b8⟩ := res_no hr
        have HR : Hid (symB s = s.data.toList.tail.all smallU) := Lib.hid (by rw [H.out, hr, H2.out]; simp)
        clear hr
        go_enter Try.func112, Try.ntmps112
        go_wp2_with fail
        refine C.out.mono ?_
        rintro e w' ⟨rfl, rfl⟩
        go_wp2
        go_loop [3] (fun i => ∃ k : Nat, 1 ≤ k ∧ k ≤ s.size ∧ i = .int .i64 k ∧ (s.data.toList.take k).tail.all smallU = true) (fun i => s.size - (intOf i).toNat)
        case atStart => exact ⟨1, Nat.le_refl _, by omega, rfl, by rw [tail_one]; rfl⟩
        case round =>
          obtain ⟨k, hk1, hk, rfl, hall⟩ := hrel
          have HA := Lib.hid hall
          clear hall
          by_cases hlt : k < s.size
          · have HN := Lib.hid (tail_next s k hk1 hlt smallU)
            have HO := Lib.hid (fun h => tail_no s k hk1 hlt smallU h)
            have CS := Lib.hid (small_any s[k] w)
            rcases under_ways s[k] with ⟨u1, u2⟩ | ⟨u1, u2⟩
            · have HU := Lib.hid u2
              clear u2
              go_wp2_with fail
              refine CS.out.mono ?_
              rintro e w' ⟨rfl, rfl⟩
              cases hb : smallB s[k] with
              | true =>
                have H3 := Lib.hid (HU.out.trans hb)
                clear hb
                go_wp2
                go_round
                case rel => exact ⟨k + 1, by omega, by omega, by go_num, by rw [HN.out, HA.out, H3.out]; rfl⟩
                case measure => simp [intOf]; omega
              | false =>
                have H3 := Lib.hid (HU.out.trans hb)
                clear hb
                go_wp2
                go_ret
                exact ⟨ret_bool (by rw [HR.out, HO.out H3.out]), rfl⟩
            · have H3 := Lib.hid u2
              clear u2
              go_wp2_with fail
              refine CS.out.mono ?_
              rintro e w' ⟨rfl, rfl⟩
              cases hb : smallB s[k]
              all_goals
                clear hb
                go_wp2
                go_round
                case rel => exact ⟨k + 1, by omega, by omega, by go_num, by rw [HN.out, HA.out, H3.out]; rfl⟩
                case measure => simp [intOf]; omega
          · have HE : Hid (s.data.toList.tail.all smallU = true) := Lib.hid (by
              have e : s.data.toList.length = s.size := Array.length_toList
              have := HA.out
              rwa [List.take_of_length_le (by omega)] at this)
            go_wp2
            go_ret
            exact ⟨ret_bool (by rw [HR.out, HE.out]), rfl⟩
  · have e : inB s.size 1 6 = false := inB_no (by omega)
    rw [e] at CI
    have C := Lib.hid CI
    have H := Lib.hid (symB_short h)
    clear CI e h
    go_enter Try.func112, Try.ntmps112
    go_wp2_with fail
    refine C.out.mono ?_
    rintro e w' ⟨rfl, rfl⟩
    go_wp2
    go_ret
    exact ⟨ret_bool H.out.symm, rfl⟩
end Go.Proofs.Ytppmiedhoimgmaa
