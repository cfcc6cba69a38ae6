/- ParseInt of the model, its walk: for every string of at most 1048576 bytes it answers the number whose numeral the string is, if there is one between -999999 and 999999. -/
import Derived.Test.YtcijmhhajbgknaaDoorParseF
import Derived.Test.YtcijmhhajbgknaaDoorReadF
namespace Go.Proofs.YtcijmhhajbgknaaDoor
open Go.RowKit

theorem pend_yes {s : ByteArray} {v : Int} (h0 : -999999 ≤ v) (h1 : v ≤ 999999) (h : Lib.itoa v = s.data.toList) : PEnd s (.returned (.tuple #[.int .i64 v, .bool true])) := ⟨v, true, rfl, .inl ⟨rfl, h0, h1, h⟩⟩

set_option maxHeartbeats 1000000 in
theorem l1Read_short (s : ByteArray) (w : World) (hs : s.size ≤ 1048576) (h1 : s.size ≤ 1) :
    Calls Tryd.prog 66 #[.string s] w fun e w' => PEnd s e ∧ Drawn w w' := by
  have HP : Hid (Parts s s false) := Lib.hid (parts_pos (fun h => absurd h.1 (by omega)))
  have g1 : ¬ ((1 : Int) < (s.size : Int)) := by omega
  by_cases hl : (1 : Int) ≤ s.size ∧ (s.size : Int) ≤ 6
  · have CI : Hid (∀ W : World, Calls Tryd.prog 91 #[.int .i64 (s.size : Int), .int .i64 1, .int .i64 6] W fun e w' => e = .returned (.bool true) ∧ W = w') := Lib.hid (fun W => l1In_yes _ _ _ W hl)
    have ht6 : s.size ≤ 6 := by omega
    clear hl
    go_enter Tryd.func66, Tryd.ntmps66
    go_wp2_with (go_at_call 91; refine (CI.out _).mono ?_; rintro e w' ⟨rfl, rfl⟩)
    go_loop [5, 6] (fun nn i => ∃ k n : Nat, i = .int .i64 (k : Int) ∧ nn = .int .i64 (n : Int) ∧ DRel s k n) (fun _ i => s.size - (intOf i).toNat)
    case atStart => exact ⟨0, 0, rfl, rfl, DRel.start _⟩
    case round =>
      obtain ⟨k, n, rfl, rfl, hr⟩ := hrel
      have hn := hr.small ht6
      have hkt := hr.le
      have HR : Hid (DRel s k n) := Lib.hid hr
      clear hr
      by_cases hlt : k < s.size
      · have h255 : (s[k].toNat : Int) ≤ 255 := by have := s[k].toNat_lt; omega
        by_cases hd0 : 48 ≤ s[k].toNat
        · by_cases hd1 : s[k].toNat ≤ 57
          · have HN : Hid (DRel s (k + 1) (10 * n + (s[k].toNat - 48))) := Lib.hid (HR.out.next hlt ⟨hd0, hd1⟩)
            have g0 : (48 : Int) ≤ (s[k].toNat : Int) := by omega
            have g1 : (s[k].toNat : Int) ≤ 57 := by omega
            clear hd0 hd1
            go_wp2
            go_round
            case rel => exact ⟨k + 1, _, by go_num, by congr 1; omega, HN.out⟩
            case measure => simp [intOf]; omega
          · have HN : Hid (PEnd s (.returned (.tuple #[.int .i64 0, .bool false]))) := Lib.hid (pend_no (HP.out.bad hlt (fun h => hd1 h.2)))
            have g0 : (48 : Int) ≤ (s[k].toNat : Int) := by omega
            have g1 : (57 : Int) < (s[k].toNat : Int) := by omega
            clear hd0 hd1
            go_wp2
            go_ret2
            exact ⟨HN.out, 0, rfl⟩
        · have HN : Hid (PEnd s (.returned (.tuple #[.int .i64 0, .bool false]))) := Lib.hid (pend_no (HP.out.bad hlt (fun h => hd0 h.1)))
          have g0 : (s[k].toNat : Int) < 48 := by omega
          clear hd0
          go_wp2
          go_ret2
          exact ⟨HN.out, 0, rfl⟩
      · have HF : Hid (n = val s.data.toList) := Lib.hid (by
          have e : k = s.size := by omega
          have h := HR.out
          rw [e] at h
          exact h.full)
        obtain ⟨u, hu⟩ : ∃ u : ByteArray, u = ⟨(Lib.itoa (n : Int)).toArray⟩ := ⟨_, rfl⟩
        have CN : Hid (∀ W : World, Calls Tryd.prog 92 #[.int .i64 (n : Int)] W fun e w' => e = .returned (.string u) ∧ Drawn W w') := Lib.hid (fun W => by
          rw [hu]; exact num_any (n : Int) W (by omega) (by omega))
        by_cases he : Lib.itoa (n : Int) = s.data.toList
        · have HY : Hid (PEnd s (.returned (.tuple #[.int .i64 (n : Int), .bool true]))) := Lib.hid (pend_yes (by omega) (by omega) he)
          have hq : (u.toList == s.toList) = true := by
            have e : u = s := by rw [hu, he]
            rw [e]; simp
          clear he hu
          go_wp2_with (go_at_call 92; refine (CN.out _).mono ?_; rintro e w' ⟨rfl, hdr⟩; have HDR := Lib.hid hdr; clear hdr)
          go_ret2
          exact ⟨HY.out, Hid.out (by assumption)⟩
        · have HN : Hid (PEnd s (.returned (.tuple #[.int .i64 0, .bool false]))) := Lib.hid (pend_no (HP.out.other (v := (n : Int)) (by rw [← HF.out]; rfl) he))
          have hq : (u.toList == s.toList) = false := by
            rw [beq_eq_false_iff_ne]; intro e
            exact he (by rw [← toList_inj e, hu])
          clear he hu
          go_wp2_with (go_at_call 92; refine (CN.out _).mono ?_; rintro e w' ⟨rfl, hdr⟩; have HDR := Lib.hid hdr; clear hdr)
          go_ret2
          exact ⟨HN.out, Hid.out (by assumption)⟩
  · have CI : Hid (∀ W : World, Calls Tryd.prog 91 #[.int .i64 (s.size : Int), .int .i64 1, .int .i64 6] W fun e w' => e = .returned (.bool false) ∧ W = w') := Lib.hid (fun W => l1In_no _ _ _ W hl)
    have HN : Hid (PEnd s (.returned (.tuple #[.int .i64 0, .bool false]))) := Lib.hid (pend_no (HP.out.len hl))
    clear hl
    go_enter Tryd.func66, Tryd.ntmps66
    go_wp2_with (go_at_call 91; refine (CI.out _).mono ?_; rintro e w' ⟨rfl, rfl⟩)
    go_ret2
    exact ⟨HN.out, 0, rfl⟩

set_option maxHeartbeats 1000000 in
theorem l1Read_pos (s : ByteArray) (w : World) (hs : s.size ≤ 1048576) (h1 : 1 < s.size) (h0 : s[0] ≠ 45) :
    Calls Tryd.prog 66 #[.string s] w fun e w' => PEnd s e ∧ Drawn w w' := by
  have HP : Hid (Parts s s false) := Lib.hid (parts_pos (fun h => h0 h.2.2))
  have gs : (1 : Int) < (s.size : Int) := by omega
  have gc : ((s[0].toNat : Int) == 45) = false := byte_ne (b := 45) h0
  clear h0
  by_cases hl : (1 : Int) ≤ s.size ∧ (s.size : Int) ≤ 6
  · have CI : Hid (∀ W : World, Calls Tryd.prog 91 #[.int .i64 (s.size : Int), .int .i64 1, .int .i64 6] W fun e w' => e = .returned (.bool true) ∧ W = w') := Lib.hid (fun W => l1In_yes _ _ _ W hl)
    have ht6 : s.size ≤ 6 := by omega
    clear hl
    go_enter Tryd.func66, Tryd.ntmps66
    go_wp2_with (go_at_call 91; refine (CI.out _).mono ?_; rintro e w' ⟨rfl, rfl⟩)
    go_loop [5, 6] (fun nn i => ∃ k n : Nat, i = .int .i64 (k : Int) ∧ nn = .int .i64 (n : Int) ∧ DRel s k n) (fun _ i => s.size - (intOf i).toNat)
    case atStart => exact ⟨0, 0, rfl, rfl, DRel.start _⟩
    case round =>
      obtain ⟨k, n, rfl, rfl, hr⟩ := hrel
      have hn := hr.small ht6
      have hkt := hr.le
      have HR : Hid (DRel s k n) := Lib.hid hr
      clear hr
      by_cases hlt : k < s.size
      · have h255 : (s[k].toNat : Int) ≤ 255 := by have := s[k].toNat_lt; omega
        by_cases hd0 : 48 ≤ s[k].toNat
        · by_cases hd1 : s[k].toNat ≤ 57
          · have HN : Hid (DRel s (k + 1) (10 * n + (s[k].toNat - 48))) := Lib.hid (HR.out.next hlt ⟨hd0, hd1⟩)
            have g0 : (48 : Int) ≤ (s[k].toNat : Int) := by omega
            have g1 : (s[k].toNat : Int) ≤ 57 := by omega
            clear hd0 hd1
            go_wp2
            go_round
            case rel => exact ⟨k + 1, _, by go_num, by congr 1; omega, HN.out⟩
            case measure => simp [intOf]; omega
          · have HN : Hid (PEnd s (.returned (.tuple #[.int .i64 0, .bool false]))) := Lib.hid (pend_no (HP.out.bad hlt (fun h => hd1 h.2)))
            have g0 : (48 : Int) ≤ (s[k].toNat : Int) := by omega
            have g1 : (57 : Int) < (s[k].toNat : Int) := by omega
            clear hd0 hd1
            go_wp2
            go_ret2
            exact ⟨HN.out, 0, rfl⟩
        · have HN : Hid (PEnd s (.returned (.tuple #[.int .i64 0, .bool false]))) := Lib.hid (pend_no (HP.out.bad hlt (fun h => hd0 h.1)))
          have g0 : (s[k].toNat : Int) < 48 := by omega
          clear hd0
          go_wp2
          go_ret2
          exact ⟨HN.out, 0, rfl⟩
      · have HF : Hid (n = val s.data.toList) := Lib.hid (by
          have e : k = s.size := by omega
          have h := HR.out
          rw [e] at h
          exact h.full)
        obtain ⟨u, hu⟩ : ∃ u : ByteArray, u = ⟨(Lib.itoa (n : Int)).toArray⟩ := ⟨_, rfl⟩
        have CN : Hid (∀ W : World, Calls Tryd.prog 92 #[.int .i64 (n : Int)] W fun e w' => e = .returned (.string u) ∧ Drawn W w') := Lib.hid (fun W => by
          rw [hu]; exact num_any (n : Int) W (by omega) (by omega))
        by_cases he : Lib.itoa (n : Int) = s.data.toList
        · have HY : Hid (PEnd s (.returned (.tuple #[.int .i64 (n : Int), .bool true]))) := Lib.hid (pend_yes (by omega) (by omega) he)
          have hq : (u.toList == s.toList) = true := by
            have e : u = s := by rw [hu, he]
            rw [e]; simp
          clear he hu
          go_wp2_with (go_at_call 92; refine (CN.out _).mono ?_; rintro e w' ⟨rfl, hdr⟩; have HDR := Lib.hid hdr; clear hdr)
          go_ret2
          exact ⟨HY.out, Hid.out (by assumption)⟩
        · have HN : Hid (PEnd s (.returned (.tuple #[.int .i64 0, .bool false]))) := Lib.hid (pend_no (HP.out.other (v := (n : Int)) (by rw [← HF.out]; rfl) he))
          have hq : (u.toList == s.toList) = false := by
            rw [beq_eq_false_iff_ne]; intro e
            exact he (by rw [← toList_inj e, hu])
          clear he hu
          go_wp2_with (go_at_call 92; refine (CN.out _).mono ?_; rintro e w' ⟨rfl, hdr⟩; have HDR := Lib.hid hdr; clear hdr)
          go_ret2
          exact ⟨HN.out, Hid.out (by assumption)⟩
  · have CI : Hid (∀ W : World, Calls Tryd.prog 91 #[.int .i64 (s.size : Int), .int .i64 1, .int .i64 6] W fun e w' => e = .returned (.bool false) ∧ W = w') := Lib.hid (fun W => l1In_no _ _ _ W hl)
    have HN : Hid (PEnd s (.returned (.tuple #[.int .i64 0, .bool false]))) := Lib.hid (pend_no (HP.out.len hl))
    clear hl
    go_enter Tryd.func66, Tryd.ntmps66
    go_wp2_with (go_at_call 91; refine (CI.out _).mono ?_; rintro e w' ⟨rfl, rfl⟩)
    go_ret2
    exact ⟨HN.out, 0, rfl⟩

set_option maxHeartbeats 1000000 in
theorem l1Read_neg (s : ByteArray) (w : World) (hs : s.size ≤ 1048576) (h1 : 1 < s.size) (h0 : s[0] = 45) :
    Calls Tryd.prog 66 #[.string s] w fun e w' => PEnd s e ∧ Drawn w w' := by
  obtain ⟨t, ht⟩ : ∃ t, s.extract 1 s.size = t := ⟨_, rfl⟩
  have HP : Hid (Parts s t true) := Lib.hid (by rw [← ht]; exact parts_neg h1 h0)
  have hts : (t.size : Int) < (s.size : Int) := by rw [← ht, ByteArray.size_extract]; omega
  have gs : (1 : Int) < (s.size : Int) := by omega
  have gc : ((s[0].toNat : Int) == 45) = true := byte_eq (b := 45) h0
  clear h0
  by_cases hl : (1 : Int) ≤ t.size ∧ (t.size : Int) ≤ 6
  · have CI : Hid (∀ W : World, Calls Tryd.prog 91 #[.int .i64 (t.size : Int), .int .i64 1, .int .i64 6] W fun e w' => e = .returned (.bool true) ∧ W = w') := Lib.hid (fun W => l1In_yes _ _ _ W hl)
    have ht6 : t.size ≤ 6 := by omega
    clear hl
    go_enter Tryd.func66, Tryd.ntmps66
    go_wp2_with (go_at_call 91; refine (CI.out _).mono ?_; rintro e w' ⟨rfl, rfl⟩)
    go_loop [5, 6] (fun nn i => ∃ k n : Nat, i = .int .i64 (k : Int) ∧ nn = .int .i64 (n : Int) ∧ DRel t k n) (fun _ i => t.size - (intOf i).toNat)
    case atStart => exact ⟨0, 0, rfl, rfl, DRel.start _⟩
    case round =>
      obtain ⟨k, n, rfl, rfl, hr⟩ := hrel
      have hn := hr.small ht6
      have hkt := hr.le
      have HR : Hid (DRel t k n) := Lib.hid hr
      clear hr
      by_cases hlt : k < t.size
      · have h255 : (t[k].toNat : Int) ≤ 255 := by have := t[k].toNat_lt; omega
        by_cases hd0 : 48 ≤ t[k].toNat
        · by_cases hd1 : t[k].toNat ≤ 57
          · have HN : Hid (DRel t (k + 1) (10 * n + (t[k].toNat - 48))) := Lib.hid (HR.out.next hlt ⟨hd0, hd1⟩)
            have g0 : (48 : Int) ≤ (t[k].toNat : Int) := by omega
            have g1 : (t[k].toNat : Int) ≤ 57 := by omega
            clear hd0 hd1
            go_wp2
            go_round
            case rel => exact ⟨k + 1, _, by go_num, by congr 1; omega, HN.out⟩
            case measure => simp [intOf]; omega
          · have HN : Hid (PEnd s (.returned (.tuple #[.int .i64 0, .bool false]))) := Lib.hid (pend_no (HP.out.bad hlt (fun h => hd1 h.2)))
            have g0 : (48 : Int) ≤ (t[k].toNat : Int) := by omega
            have g1 : (57 : Int) < (t[k].toNat : Int) := by omega
            clear hd0 hd1
            go_wp2
            go_ret2
            exact ⟨HN.out, 0, rfl⟩
        · have HN : Hid (PEnd s (.returned (.tuple #[.int .i64 0, .bool false]))) := Lib.hid (pend_no (HP.out.bad hlt (fun h => hd0 h.1)))
          have g0 : (t[k].toNat : Int) < 48 := by omega
          clear hd0
          go_wp2
          go_ret2
          exact ⟨HN.out, 0, rfl⟩
      · have HF : Hid (n = val t.data.toList) := Lib.hid (by
          have e : k = t.size := by omega
          have h := HR.out
          rw [e] at h
          exact h.full)
        obtain ⟨u, hu⟩ : ∃ u : ByteArray, u = ⟨(Lib.itoa (-(n : Int))).toArray⟩ := ⟨_, rfl⟩
        have CN : Hid (∀ W : World, Calls Tryd.prog 92 #[.int .i64 (-(n : Int))] W fun e w' => e = .returned (.string u) ∧ Drawn W w') := Lib.hid (fun W => by
          rw [hu]; exact num_any (-(n : Int)) W (by omega) (by omega))
        by_cases he : Lib.itoa (-(n : Int)) = s.data.toList
        · have HY : Hid (PEnd s (.returned (.tuple #[.int .i64 (-(n : Int)), .bool true]))) := Lib.hid (pend_yes (by omega) (by omega) he)
          have hq : (u.toList == s.toList) = true := by
            have e : u = s := by rw [hu, he]
            rw [e]; simp
          clear he hu
          go_wp2_with (go_at_call 92; refine (CN.out _).mono ?_; rintro e w' ⟨rfl, hdr⟩; have HDR := Lib.hid hdr; clear hdr)
          go_ret2
          exact ⟨HY.out, Hid.out (by assumption)⟩
        · have HN : Hid (PEnd s (.returned (.tuple #[.int .i64 0, .bool false]))) := Lib.hid (pend_no (HP.out.other (v := (-(n : Int))) (by rw [← HF.out]; rfl) he))
          have hq : (u.toList == s.toList) = false := by
            rw [beq_eq_false_iff_ne]; intro e
            exact he (by rw [← toList_inj e, hu])
          clear he hu
          go_wp2_with (go_at_call 92; refine (CN.out _).mono ?_; rintro e w' ⟨rfl, hdr⟩; have HDR := Lib.hid hdr; clear hdr)
          go_ret2
          exact ⟨HN.out, Hid.out (by assumption)⟩
  · have CI : Hid (∀ W : World, Calls Tryd.prog 91 #[.int .i64 (t.size : Int), .int .i64 1, .int .i64 6] W fun e w' => e = .returned (.bool false) ∧ W = w') := Lib.hid (fun W => l1In_no _ _ _ W hl)
    have HN : Hid (PEnd s (.returned (.tuple #[.int .i64 0, .bool false]))) := Lib.hid (pend_no (HP.out.len hl))
    clear hl
    go_enter Tryd.func66, Tryd.ntmps66
    go_wp2_with (go_at_call 91; refine (CI.out _).mono ?_; rintro e w' ⟨rfl, rfl⟩)
    go_ret2
    exact ⟨HN.out, 0, rfl⟩

theorem l1Read_any (s : ByteArray) (w : World) (hs : s.size ≤ 1048576) :
    Calls Tryd.prog 66 #[.string s] w fun e w' => PEnd s e ∧ Drawn w w' := by
  by_cases h1 : 1 < s.size
  · by_cases h0 : s[0] = 45
    · exact l1Read_neg s w hs h1 h0
    · exact l1Read_pos s w hs h1 h0
  · exact l1Read_short s w hs (by omega)

end Go.Proofs.YtcijmhhajbgknaaDoor
