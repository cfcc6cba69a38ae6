/- AppendChecksum of the program and of the model give the same two results: contracts for every string of at most 1048576 bytes, the program's in a world that holds the library's table of powers of ten. -/
import Derived.Test.YtocenggbdnchfaaDoorSum
import Derived.Test.YtocenggbdnchfaaDoorFmt
import Derived.Lib.IndexAny
namespace Go.Proofs.YtocenggbdnchfaaDoor
open Go.RowKit

/-- The string with its mark and its checksum. -/
def sealB (s : ByteArray) : ByteArray := s ++ ⟨#[35]⟩ ++ ⟨(Lib.itoa (sumL s.data.toList)).toArray⟩
def aOk (s : ByteArray) : Bool := decide (s.size ≤ 4000) && !hasB 35 s.data.toList && decide ((sealB s).size ≤ 4000)
def aT (s : ByteArray) : ByteArray := if aOk s then sealB s else ⟨#[]⟩
def aEnd (s : ByteArray) : Ending := .returned (.tuple #[.string (aT s), .bool (aOk s)])
theorem aEnd_no {s : ByteArray} (h : aOk s = false) : Ending.returned (.tuple #[.string ⟨#[]⟩, .bool false]) = aEnd s := by simp [aEnd, aT, h]
theorem aEnd_yes {s : ByteArray} (h : aOk s = true) : Ending.returned (.tuple #[.string (sealB s), .bool true]) = aEnd s := by simp [aEnd, aT, h]
theorem aOk_long {s : ByteArray} (h : 4000 < s.size) : aOk s = false := by simp [aOk]; intro h1 _; omega
theorem aOk_has {s : ByteArray} (h : hasB 35 s.data.toList = true) : aOk s = false := by simp [aOk, h]
theorem aOk_big {s : ByteArray} (h : 4000 < (sealB s).size) : aOk s = false := by simp [aOk]; intro _ _; omega
theorem aOk_of {s : ByteArray} (h0 : s.size ≤ 4000) (h1 : hasB 35 s.data.toList = false) (h2 : (sealB s).size ≤ 4000) : aOk s = true := by simp [aOk, h0, h1, h2]

theorem itoa_sum_size (s : ByteArray) : (ByteArray.mk (Lib.itoa (sumL s.data.toList)).toArray).size ≤ 1000000 := by
  obtain ⟨h0, h1⟩ := sumL_bd s.data.toList
  have e : Lib.itoa (sumL s.data.toList) = Lib.decDigits (sumL s.data.toList).toNat := by simp [Lib.itoa]; omega
  have := decDigits_le (sumL s.data.toList).toNat
  rw [e]
  show (Lib.decDigits _).length ≤ _
  omega
theorem seal_size (s : ByteArray) : (sealB s).size = s.size + 1 + (ByteArray.mk (Lib.itoa (sumL s.data.toList)).toArray).size := by
  unfold sealB
  rw [ByteArray.size_append, ByteArray.size_append]
  rfl

theorem l1Seal_any (s : ByteArray) (w : World) (hs : s.size ≤ 1048576) :
    Calls Tryd.prog 34 #[.string s] w fun e w' => e = .returned (.string (sealB s)) ∧ Drawn w w' := by
  obtain ⟨h0, h1⟩ := sumL_bd s.data.toList
  have CS := Lib.hid (l1Sum_any s w (by unfold maxLen; omega))
  obtain ⟨d, hd⟩ : ∃ d : ByteArray, d = ⟨(Lib.itoa (sumL s.data.toList)).toArray⟩ := ⟨_, rfl⟩
  have hdz : d.size ≤ 1000000 := by rw [hd]; exact itoa_sum_size s
  have CN : Hid (Calls Tryd.prog 25 #[.int .i64 (sumL s.data.toList)] w fun e w' => e = .returned (.string d) ∧ Drawn w w') := Lib.hid (by rw [hd]; exact num_any _ w (by omega) (by omega))
  have HE : Hid (s ++ ⟨#[35]⟩ ++ d = sealB s) := Lib.hid (by rw [hd]; rfl)
  clear hd
  go_enter Tryd.func34, Tryd.ntmps34
  go_wp2_with (first | (go_at_call 42; refine CS.out.mono ?_; rintro e w' ⟨rfl, rfl⟩) | (go_at_call 25; refine CN.out.mono ?_; rintro e w' ⟨rfl, hdr⟩; have HDR := Lib.hid hdr; clear hdr))
  go_ret
  exact ⟨ret_str HE.out, Hid.out (by assumption)⟩

theorem stands35 (s : ByteArray) (b : Bool) (h : hasB 35 s.data.toList = b) (hs : s.size ≤ maxLen) (W : World) :
    Calls Tryd.prog 33 #[.string s, .int .u8 35] W fun e w' => e = .returned (.bool b) ∧ W = w' := by
  have c := l1Stands_any s 35 W hs
  rw [h] at c
  exact c

set_option maxHeartbeats 1000000 in
theorem specAppend_any (s : ByteArray) (w : World) (hs : s.size ≤ 1048576) :
    Calls Tryd.prog 17 #[.string s] w fun e w' => e = aEnd s ∧ Drawn w w' := by
  by_cases h0 : (4000 : Int) < s.size
  · have HE := Lib.hid (aEnd_no (aOk_long (s := s) (by omega)))
    go_enter Tryd.func17, Tryd.ntmps17
    go_wp2
    go_ret2
    exact ⟨HE.out, 0, rfl⟩
  · cases hh : hasB 35 s.data.toList with
    | true =>
      have HE := Lib.hid (aEnd_no (aOk_has hh))
      have CT := Lib.hid (stands35 s true hh (by unfold maxLen; omega) w)
      clear hh
      go_enter Tryd.func17, Tryd.ntmps17
      go_wp2_with (go_at_call 33; refine CT.out.mono ?_; rintro e w' ⟨rfl, rfl⟩)
      go_ret2
      exact ⟨HE.out, 0, rfl⟩
    | false =>
      have CT := Lib.hid (stands35 s false hh (by unfold maxLen; omega) w)
      obtain ⟨u, hu⟩ : ∃ u : ByteArray, u = sealB s := ⟨_, rfl⟩
      have CL : Hid (∀ W : World, Calls Tryd.prog 34 #[.string s] W fun e w' => e = .returned (.string u) ∧ Drawn W w') := Lib.hid (fun W => by rw [hu]; exact l1Seal_any s W hs)
      by_cases hb : (4000 : Int) < u.size
      · have HE := Lib.hid (aEnd_no (aOk_big (s := s) (by rw [← hu]; omega)))
        clear hh hu
        go_enter Tryd.func17, Tryd.ntmps17
        go_wp2_with (first | (go_at_call 33; refine CT.out.mono ?_; rintro e w' ⟨rfl, rfl⟩) | (go_at_call 34; refine (CL.out _).mono ?_; rintro e w' ⟨rfl, hdr⟩; have HDR := Lib.hid hdr; clear hdr))
        go_ret2
        exact ⟨HE.out, Hid.out (by assumption)⟩
      · have HE : Hid (Ending.returned (.tuple #[.string u, .bool true]) = aEnd s) := Lib.hid (by rw [hu]; exact aEnd_yes (aOk_of (by omega) hh (by rw [← hu]; omega)))
        clear hh hu
        go_enter Tryd.func17, Tryd.ntmps17
        go_wp2_with fail
        refine CT.out.mono ?_
        rintro e w1 ⟨rfl, rfl⟩
        go_wp2_with fail
        refine (CL.out _).mono ?_
        rintro e w1 ⟨rfl, hd1⟩
        have HD1 := Lib.hid hd1
        clear hd1
        go_wp2_with fail
        refine (CL.out _).mono ?_
        rintro e w2 ⟨rfl, hd2⟩
        have HD2 : Hid (Drawn w w2) := Lib.hid (by obtain ⟨n, rfl⟩ := hd2; exact HD1.out.then n)
        clear hd2
        go_wp2_with fail
        go_ret2
        exact ⟨HE.out, HD2.out⟩

theorem contains35 (s : ByteArray) (w : World) : Calls Tryd.prog 32 #[.string s, .string ⟨#[35]⟩] w fun e w' => e = .returned (.bool (hasB 35 s.data.toList)) ∧ w' = w := by
  have h := Tryd.strings_Contains_one s 35 w
  have e : decide (0 ≤ Lib.indexByte s.data.toList 35) = hasB 35 s.data.toList := by
    rw [← Lib.contains_iff_indexByte]
    simp [hasB]
  rwa [e] at h

set_option maxHeartbeats 1000000 in
theorem implAppend_any (s : ByteArray) (w : World) (hs : s.size ≤ 1048576) (ht : Pow10 w) :
    Calls Tryd.prog 16 #[.string s] w fun e w' => e = aEnd s ∧ Below w.heap.size w w' := by
  have CS0 := implSum_any s w (by unfold maxLen; omega)
  by_cases h0 : (4000 : Int) < s.size
  · have HE := Lib.hid (aEnd_no (aOk_long (s := s) (by omega)))
    have CS : Hid (Calls Tryd.prog 31 #[.string s] w fun e w' => e = .returned (.tuple #[.int .i64 0, .bool false]) ∧ w = w') := Lib.hid (by
      have e : sumOk s = false := by simp [sumOk]; omega
      rw [show sumN s = 0 by simp [sumN, e], e] at CS0
      exact CS0)
    clear CS0 ht
    go_enter Tryd.func16, Tryd.ntmps16
    go_wp2_with (go_at_call 31; refine CS.out.mono ?_; rintro e w' ⟨rfl, rfl⟩)
    go_ret2
    exact ⟨HE.out, Below.refl _ _⟩
  · obtain ⟨hq0, hq1⟩ := sumL_bd s.data.toList
    obtain ⟨q, hq⟩ : ∃ q, q = sumL s.data.toList := ⟨_, rfl⟩
    have CS : Hid (Calls Tryd.prog 31 #[.string s] w fun e w' => e = .returned (.tuple #[.int .i64 q, .bool true]) ∧ w = w') := Lib.hid (by
      have e : sumOk s = true := by simp [sumOk]; omega
      rw [show sumN s = q by simp [sumN, e, hq], e] at CS0
      exact CS0)
    clear CS0
    cases hh : hasB 35 s.data.toList with
    | true =>
      have HE := Lib.hid (aEnd_no (aOk_has hh))
      have CT : Hid (Calls Tryd.prog 32 #[.string s, .string ⟨#[35]⟩] w fun e w' => e = .returned (.bool true) ∧ w = w') := Lib.hid (by
        have c := contains35 s w
        rw [hh] at c
        exact c.mono fun _ _ h => ⟨h.1, h.2.symm⟩)
      clear hh ht hq hq0 hq1
      go_enter Tryd.func16, Tryd.ntmps16
      go_wp2_with (first | (go_at_call 31; refine CS.out.mono ?_; rintro e w' ⟨rfl, rfl⟩) | (go_at_call 32; refine CT.out.mono ?_; rintro e w' ⟨rfl, rfl⟩))
      go_ret2
      exact ⟨HE.out, Below.refl _ _⟩
    | false =>
      have CT : Hid (Calls Tryd.prog 32 #[.string s, .string ⟨#[35]⟩] w fun e w' => e = .returned (.bool false) ∧ w = w') := Lib.hid (by
        have c := contains35 s w
        rw [hh] at c
        exact c.mono fun _ _ h => ⟨h.1, h.2.symm⟩)
      obtain ⟨d, hd⟩ : ∃ d : ByteArray, d = ⟨(Lib.itoa (sumL s.data.toList)).toArray⟩ := ⟨_, rfl⟩
      have hdz : d.size ≤ 1000000 := by rw [hd]; exact itoa_sum_size s
      have CF : Hid (Calls Tryd.prog 10 #[.int .i64 q] w fun e w' => e = .returned (.tuple #[.string d, .bool true]) ∧ Below w.heap.size w w') := Lib.hid (by
        have c := implFormat_any q w ht
        rw [← fEnd_yes (by omega) (by omega), hq, ← hd] at c
        rw [hq]; exact c)
      have hsz : (sealB s).size = s.size + 1 + d.size := by rw [hd]; exact seal_size s
      by_cases hb : (4000 : Int) < (s.size : Int) + 1 + (d.size : Int)
      · have HE := Lib.hid (aEnd_no (aOk_big (s := s) (by rw [hsz]; omega)))
        clear hh ht hq hq0 hq1 hd hsz
        go_enter Tryd.func16, Tryd.ntmps16
        go_wp2_with (first | (go_at_call 31; refine CS.out.mono ?_; rintro e w' ⟨rfl, rfl⟩) | (go_at_call 32; refine CT.out.mono ?_; rintro e w' ⟨rfl, rfl⟩) | (go_at_call 10; refine CF.out.mono ?_; rintro e w' ⟨rfl, hbl⟩; have HBL := Lib.hid hbl; clear hbl))
        go_ret2
        exact ⟨HE.out, Hid.out (by assumption)⟩
      · have HE : Hid (Ending.returned (.tuple #[.string (s ++ ⟨#[35]⟩ ++ d), .bool true]) = aEnd s) := Lib.hid (by
          rw [hd]; exact aEnd_yes (aOk_of (by omega) hh (by rw [hsz]; omega)))
        clear hh ht hq hq0 hq1 hd hsz
        go_enter Tryd.func16, Tryd.ntmps16
        go_wp2_with (first | (go_at_call 31; refine CS.out.mono ?_; rintro e w' ⟨rfl, rfl⟩) | (go_at_call 32; refine CT.out.mono ?_; rintro e w' ⟨rfl, rfl⟩) | (go_at_call 10; refine CF.out.mono ?_; rintro e w' ⟨rfl, hbl⟩; have HBL := Lib.hid hbl; clear hbl))
        go_ret2
        exact ⟨HE.out, Hid.out (by assumption)⟩

end Go.Proofs.YtocenggbdnchfaaDoor
