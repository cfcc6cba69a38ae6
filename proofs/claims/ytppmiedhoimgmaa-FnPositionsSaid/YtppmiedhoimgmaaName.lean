/- Names of variables and symbols: the program's tests and the model's, as contracts. No condition. -/
import Derived.Test.YtppmiedhoimgmaaTmW
import Derived.Test.YtppmiedhoimgmaaShelf
import Derived.Lib.IndexAny
namespace Go.Proofs.Ytppmiedhoimgmaa
open Go.RowKit
set_option linter.unusedVariables false

/-- A lower-case letter or a digit. -/
def smallB (c : UInt8) : Bool := (decide (97 ≤ (c.toNat : Int)) && decide ((c.toNat : Int) ≤ 122)) || (decide (48 ≤ (c.toNat : Int)) && decide ((c.toNat : Int) ≤ 57))
/-- .. or an underscore. -/
def smallU (c : UInt8) : Bool := smallB c || decide (c = 95)

def inB (x a b : Int) : Bool := decide (a ≤ x ∧ x ≤ b)
theorem inB_yes {x a b : Int} (h : a ≤ x ∧ x ≤ b) : inB x a b = true := by simp [inB, h]
theorem inB_no {x a b : Int} (h : ¬ (a ≤ x ∧ x ≤ b)) : inB x a b = false := by simp only [inB, decide_eq_false_iff_not]; exact h

/-- The reserved words. -/
def resL (l : List UInt8) : Bool := (l == [116, 114, 117, 101]) || ((l == [102, 97, 108, 115, 101]) || ((l == [116, 114, 117, 116, 104]) || ((l == [98, 111, 116, 104]) || ((l == [101, 105, 116, 104, 101, 114]) || ((l == [105, 102]) || ((l == [97, 108, 108]) || (l == [115, 111, 109, 101])))))))

theorem in_any (x a b : Int) (w : World) :
    Calls Try.prog 135 #[.int .i64 x, .int .i64 a, .int .i64 b] w fun e w' => e = .returned (.bool (inB x a b)) ∧ w = w' := by
  by_cases h : a ≤ x
  · by_cases h2 : x ≤ b
    · go_enter Try.func135, Try.ntmps135
      go_wp2
      go_ret
      exact ⟨ret_bool (inB_yes ⟨h, h2⟩).symm, rfl⟩
    · have h3 := inB_no (x := x) (a := a) (b := b) (by omega)
      have H := Lib.hid h3
      clear h3
      go_enter Try.func135, Try.ntmps135
      go_wp2
      go_ret
      exact ⟨ret_bool H.out.symm, rfl⟩
  · have h3 := inB_no (x := x) (a := a) (b := b) (by omega)
    have H := Lib.hid h3
    clear h3
    go_enter Try.func135, Try.ntmps135
    go_wp2
    go_ret
    exact ⟨ret_bool H.out.symm, rfl⟩

theorem small_any (c : UInt8) (w : World) :
    Calls Try.prog 136 #[.int .u8 (c.toNat : Int)] w fun e w' => e = .returned (.bool (smallB c)) ∧ w = w' := by
  by_cases h1 : 97 ≤ (c.toNat : Int) <;> by_cases h2 : (c.toNat : Int) ≤ 122 <;> by_cases h3 : 48 ≤ (c.toNat : Int) <;> by_cases h4 : (c.toNat : Int) ≤ 57
  all_goals first | (exfalso; omega) | skip
  all_goals
    have H : Hid (smallB c = ((decide (97 ≤ (c.toNat : Int)) && decide ((c.toNat : Int) ≤ 122)) || (decide (48 ≤ (c.toNat : Int)) && decide ((c.toNat : Int) ≤ 57)))) := Lib.hid rfl
    go_enter Try.func136, Try.ntmps136
    go_wp2
    go_ret
    exact ⟨ret_bool (by rw [H.out]; simp; omega), rfl⟩

theorem reserved_any (s : ByteArray) (w : World) :
    Calls Try.prog 156 #[.string s] w fun e w' => e = .returned (.bool (resL s.toList)) ∧ w = w' := by
  go_enter Try.func156, Try.ntmps156
  go_wp2
  all_goals go_ret
  all_goals exact ⟨ret_bool (by simp_all [resL]), rfl⟩

def wordB (m : Nat) (l : List UInt8) : Bool := decide (1 ≤ l.length) && decide (l.length ≤ m) && l.tail.all smallU

theorem tail_next (s : ByteArray) (k : Nat) (h1 : 1 ≤ k) (h : k < s.size) (p : UInt8 → Bool) : (s.data.toList.take (k + 1)).tail.all p = ((s.data.toList.take k).tail.all p && p s[k]) := by
  have hl : (s.data.toList.take k).length = k := by
    have e : s.data.toList.length = s.size := Array.length_toList
    rw [List.length_take]; omega
  have e : s.data.toList.take (k + 1) = s.data.toList.take k ++ [s[k]] := by
    rw [List.take_succ_eq_append_getElem (by simpa using h)]; rfl
  rw [e]
  cases hh : s.data.toList.take k with
  | nil => rw [hh] at hl; simp at hl; omega
  | cons c r => simp [List.all_append]

theorem tail_no (s : ByteArray) (k : Nat) (h1 : 1 ≤ k) (h : k < s.size) (p : UInt8 → Bool) (hp : p s[k] = false) : s.data.toList.tail.all p = false := by
  rw [List.all_eq_false]
  refine ⟨s[k], ?_, by simp [hp]⟩
  have hl : s.data.toList.length = s.size := Array.length_toList
  rw [List.mem_iff_getElem]
  exact ⟨k - 1, by simp; omega, by simp [show k - 1 + 1 = k by omega]; rfl⟩

theorem tail_one (l : List UInt8) : (l.take 1).tail = [] := by cases l <;> simp

/-- The ways that the tests of a byte go, as Bools. -/
theorem byte_ways (c : UInt8) :
    (decide ((c.toNat : Int) < 97) = false ∧ decide (122 < (c.toNat : Int)) = false ∧ smallU c = true) ∨
    (decide ((c.toNat : Int) < 97) = true ∧ decide ((c.toNat : Int) < 48) = false ∧ decide (57 < (c.toNat : Int)) = false ∧ smallU c = true) ∨
    (decide ((c.toNat : Int) < 97) = true ∧ decide ((c.toNat : Int) < 48) = false ∧ decide (57 < (c.toNat : Int)) = true ∧ ((c.toNat : Int) != 95) = false ∧ smallU c = true) ∨
    (decide ((c.toNat : Int) < 97) = true ∧ decide ((c.toNat : Int) < 48) = true ∧ ((c.toNat : Int) != 95) = true ∧ smallU c = false) ∨
    (decide ((c.toNat : Int) < 97) = true ∧ decide ((c.toNat : Int) < 48) = false ∧ decide (57 < (c.toNat : Int)) = true ∧ ((c.toNat : Int) != 95) = true ∧ smallU c = false) ∨
    (decide ((c.toNat : Int) < 97) = false ∧ decide (122 < (c.toNat : Int)) = true ∧ decide ((c.toNat : Int) < 48) = false ∧ decide (57 < (c.toNat : Int)) = true ∧ ((c.toNat : Int) != 95) = true ∧ smallU c = false) := by
  have e : decide (c = 95) = decide ((c.toNat : Int) = 95) := by
    rw [Bool.eq_iff_iff, decide_eq_true_iff, decide_eq_true_iff]
    constructor
    · intro h; subst h; rfl
    · intro h; apply UInt8.toNat_inj.1; have : (95 : UInt8).toNat = 95 := rfl; omega
  unfold smallU smallB
  rw [e]
  generalize (c.toNat : Int) = x
  have n (h : x ≠ 95) : (x != 95) = true := by rw [bne_iff_ne]; exact h
  by_cases h1 : 97 ≤ x
  · by_cases h2 : x ≤ 122
    · exact .inl ⟨by simp; omega, by simp; omega, by simp [h1, h2]⟩
    · exact .inr (.inr (.inr (.inr (.inr ⟨by simp; omega, by simp; omega, by simp; omega, by simp; omega, n (by omega), by simp; omega⟩))))
  · by_cases h3 : x < 48
    · exact .inr (.inr (.inr (.inl ⟨by simp; omega, by simp; omega, n (by omega), by simp; omega⟩)))
    · by_cases h4 : x ≤ 57
      · exact .inr (.inl ⟨by simp; omega, by simp; omega, by simp; omega, by simp; omega⟩)
      · by_cases h5 : x = 95
        · exact .inr (.inr (.inl ⟨by simp; omega, by simp; omega, by simp; omega, by rw [h5]; rfl, by simp [h5]⟩))
        · exact .inr (.inr (.inr (.inr (.inl ⟨by simp; omega, by simp; omega, by simp; omega, n h5, by simp; omega⟩))))

set_option maxHeartbeats 1000000 in
theorem word_any (s : ByteArray) (m : Nat) (w : World) (hs : s.size ≤ maxLen) (hm : m ≤ 100) :
    Calls Try.prog 131 #[.string s, .int .i64 m] w fun e w' => e = .returned (.bool (wordB m s.data.toList)) ∧ w = w' := by
  unfold maxLen at hs
  have hsz : s.data.toList.length = s.size := Array.length_toList
  have HZ := Lib.hid hsz
  clear hsz
  by_cases h0 : s.size < 1
  · have H : Hid (wordB m s.data.toList = false) := Lib.hid (by have := HZ.out; simp [wordB]; omega)
    go_enter Try.func131, Try.ntmps131
    go_wp2
    go_ret
    exact ⟨ret_bool H.out.symm, rfl⟩
  · by_cases h1 : m < s.size
    · have H : Hid (wordB m s.data.toList = false) := Lib.hid (by have := HZ.out; simp [wordB]; omega)
      go_enter Try.func131, Try.ntmps131
      go_wp2
      go_ret
      exact ⟨ret_bool H.out.symm, rfl⟩
    · have H : Hid (wordB m s.data.toList = s.data.toList.tail.all smallU) := Lib.hid (by have := HZ.out; simp [wordB]; omega)
      have hd1 : decide ((s.size : Int) < 1) = false := by simp; omega
      have hd2 : decide ((m : Int) < s.size) = false := by simp; omega
      go_enter Try.func131, Try.ntmps131
      go_wp2
      go_loop [5] (fun i => ∃ k : Nat, 1 ≤ k ∧ k ≤ s.size ∧ i = .int .i64 k ∧ (s.data.toList.take k).tail.all smallU = true) (fun i => s.size - (intOf i).toNat)
      case atStart => exact ⟨1, Nat.le_refl _, by omega, rfl, by rw [tail_one]; rfl⟩
      case round =>
        obtain ⟨k, hk1, hk, rfl, hall⟩ := hrel
        have HA := Lib.hid hall
        clear hall
        by_cases hlt : k < s.size
        · have HN := Lib.hid (tail_next s k hk1 hlt smallU)
          have HO := Lib.hid (fun h => tail_no s k hk1 hlt smallU h)
          rcases byte_ways s[k] with ⟨h1, h2, h3⟩ | ⟨h1, h2, h4, h3⟩ | ⟨h1, h2, h4, h5, h3⟩ | ⟨h1, h2, h4, h3⟩ | ⟨h1, h2, h4, h5, h3⟩ | ⟨h1, h2, h4, h5, h6, h3⟩
          all_goals have H3 := Lib.hid h3
          all_goals clear h3
          · go_wp2
            go_round
            case rel => exact ⟨k + 1, by omega, by omega, by go_num, by rw [HN.out, HA.out, H3.out]; rfl⟩
            case measure => simp [intOf]; omega
          · go_wp2
            go_round
            case rel => exact ⟨k + 1, by omega, by omega, by go_num, by rw [HN.out, HA.out, H3.out]; rfl⟩
            case measure => simp [intOf]; omega
          · go_wp2
            go_round
            case rel => exact ⟨k + 1, by omega, by omega, by go_num, by rw [HN.out, HA.out, H3.out]; rfl⟩
            case measure => simp [intOf]; omega
          · go_wp2
            go_ret
            exact ⟨ret_bool (by rw [H.out, HO.out H3.out]), rfl⟩
          · go_wp2
            go_ret
            exact ⟨ret_bool (by rw [H.out, HO.out H3.out]), rfl⟩
          · go_wp2
            go_ret
            exact ⟨ret_bool (by rw [H.out, HO.out H3.out]), rfl⟩
        · have HE : Hid (s.data.toList.tail.all smallU = true) := Lib.hid (by
            have := HA.out
            rwa [List.take_of_length_le (by have := HZ.out; omega)] at this)
          go_wp2
          go_ret
          exact ⟨ret_bool (by rw [H.out, HE.out]), rfl⟩
def upB (c : UInt8) : Bool := decide (65 ≤ (c.toNat : Int)) && decide ((c.toNat : Int) ≤ 90)
def loB (c : UInt8) : Bool := decide (97 ≤ (c.toNat : Int)) && decide ((c.toNat : Int) ≤ 122)

/-- Is it a variable's name, a symbol's? -/
def varB (s : ByteArray) : Bool := if h : 0 < s.size then decide (s.size ≤ 4) && (upB s[0] && s.data.toList.tail.all smallB) else false
def symB (s : ByteArray) : Bool := if h : 0 < s.size then decide (s.size ≤ 6) && (loB s[0] && (!resL s.toList && s.data.toList.tail.all smallU)) else false

theorem varB_short {s : ByteArray} (h : ¬ (1 ≤ s.size ∧ s.size ≤ 4)) : varB s = false := by
  unfold varB
  split
  · simp; omega
  · rfl
theorem varB_is {s : ByteArray} (h : 0 < s.size) (h4 : s.size ≤ 4) : varB s = (upB s[0] && s.data.toList.tail.all smallB) := by
  unfold varB; rw [dif_pos h]; simp [h4]
theorem symB_short {s : ByteArray} (h : ¬ (1 ≤ s.size ∧ s.size ≤ 6)) : symB s = false := by
  unfold symB
  split
  · simp; omega
  · rfl
theorem symB_is {s : ByteArray} (h : 0 < s.size) (h4 : s.size ≤ 6) : symB s = (loB s[0] && (!resL s.toList && s.data.toList.tail.all smallU)) := by
  unfold symB; rw [dif_pos h]; simp [h4]

theorem up_ways (c : UInt8) :
    (decide ((c.toNat : Int) < 65) = true ∧ decide (65 ≤ (c.toNat : Int)) = false ∧ upB c = false) ∨
    (decide ((c.toNat : Int) < 65) = false ∧ decide (90 < (c.toNat : Int)) = true ∧ decide (65 ≤ (c.toNat : Int)) = true ∧ decide ((c.toNat : Int) ≤ 90) = false ∧ upB c = false) ∨
    (decide ((c.toNat : Int) < 65) = false ∧ decide (90 < (c.toNat : Int)) = false ∧ decide (65 ≤ (c.toNat : Int)) = true ∧ decide ((c.toNat : Int) ≤ 90) = true ∧ upB c = true) := by
  unfold upB
  generalize (c.toNat : Int) = x
  by_cases h1 : x < 65
  · exact .inl ⟨by simp [h1], by simp; omega, by simp; omega⟩
  · by_cases h2 : 90 < x
    · exact .inr (.inl ⟨by simp; omega, by simp [h2], by simp; omega, by simp; omega, by simp; omega⟩)
    · exact .inr (.inr ⟨by simp; omega, by simp; omega, by simp; omega, by simp; omega, by simp; omega⟩)
theorem lo_ways (c : UInt8) :
    (decide ((c.toNat : Int) < 97) = true ∧ decide (97 ≤ (c.toNat : Int)) = false ∧ loB c = false) ∨
    (decide ((c.toNat : Int) < 97) = false ∧ decide (122 < (c.toNat : Int)) = true ∧ decide (97 ≤ (c.toNat : Int)) = true ∧ decide ((c.toNat : Int) ≤ 122) = false ∧ loB c = false) ∨
    (decide ((c.toNat : Int) < 97) = false ∧ decide (122 < (c.toNat : Int)) = false ∧ decide (97 ≤ (c.toNat : Int)) = true ∧ decide ((c.toNat : Int) ≤ 122) = true ∧ loB c = true) := by
  unfold loB
  generalize (c.toNat : Int) = x
  by_cases h1 : x < 97
  · exact .inl ⟨by simp [h1], by simp; omega, by simp; omega⟩
  · by_cases h2 : 122 < x
    · exact .inr (.inl ⟨by simp; omega, by simp [h2], by simp; omega, by simp; omega, by simp; omega⟩)
    · exact .inr (.inr ⟨by simp; omega, by simp; omega, by simp; omega, by simp; omega, by simp; omega⟩)

theorem wordB_no {m : Nat} {s : ByteArray} (h : wordB m s.data.toList = false) : (1 ≤ s.size ∧ s.size ≤ m) → s.data.toList.tail.all smallU = false := by
  intro h2
  have e : s.data.toList.length = s.size := Array.length_toList
  unfold wordB at h
  rw [e] at h
  simpa [h2] using h
theorem wordB_yes {m : Nat} {s : ByteArray} (h : wordB m s.data.toList = true) : (1 ≤ s.size ∧ s.size ≤ m) ∧ s.data.toList.tail.all smallU = true := by
  have e : s.data.toList.length = s.size := Array.length_toList
  unfold wordB at h
  rw [e] at h
  simpa using h

theorem smallB_U {c : UInt8} (h : smallB c = true) : smallU c = true := by unfold smallU; rw [h]; rfl
theorem all_B_U {l : List UInt8} (h : l.all smallB = true) : l.all smallU = true := by
  rw [List.all_eq_true] at h ⊢; exact fun c hc => smallB_U (h c hc)
theorem smallB_95 : smallB 95 = false := by decide
theorem upB_95 : upB 95 = false := by decide

theorem list_of_pos {s : ByteArray} (h : 0 < s.size) : s.data.toList = s[0] :: s.data.toList.tail := by
  have e : s.data.toList.length = s.size := Array.length_toList
  cases hh : s.data.toList with
  | nil => rw [hh] at e; simp at e; omega
  | cons c r =>
    have : s.data.toList[0]'(by omega) = s[0] := rfl
    simp only [hh, List.getElem_cons_zero] at this
    rw [← this]; rfl

theorem under_var {s : ByteArray} (h : 0 < s.size) (hu : upB s[0] = true) (ha : s.data.toList.tail.all smallU = true) :
    decide (0 ≤ Lib.indexByte s.data.toList 95) = !s.data.toList.tail.all smallB := by
  have hl := list_of_pos h
  generalize s[0] = c0 at hl hu
  generalize s.data.toList = L at hl ha ⊢
  have e : decide (0 ≤ Lib.indexByte L 95) = decide ((95 : UInt8) ∈ L) := by
    rw [← Lib.contains_iff_indexByte]; simp
  rw [e]
  have hne : (95 : UInt8) ≠ c0 := fun e => by rw [← e, upB_95] at hu; cases hu
  have hm0 : (95 : UInt8) ∈ L ↔ (95 : UInt8) ∈ L.tail := by
    constructor
    · intro hm; rw [hl] at hm; rcases List.mem_cons.1 hm with h | h
      · exact absurd h hne
      · exact h
    · intro hm; rw [hl]; exact List.mem_cons_of_mem _ hm
  cases hb : L.tail.all smallB with
  | true =>
    rw [Bool.not_true, decide_eq_false_iff_not]
    intro hm
    have := List.all_eq_true.1 hb _ (hm0.1 hm)
    rw [smallB_95] at this; cases this
  | false =>
    rw [Bool.not_false, decide_eq_true_iff]
    obtain ⟨c, hc, hn⟩ := List.all_eq_false.1 hb
    have h2 := List.all_eq_true.1 ha c hc
    unfold smallU at h2
    have hn' : smallB c = false := by simpa using hn
    rw [hn'] at h2
    have : c = 95 := by simpa using h2
    exact hm0.2 (this ▸ hc)

set_option maxHeartbeats 1000000 in
theorem isVar_any (s : ByteArray) (w : World) (hs : s.size ≤ maxLen) :
    Calls Try.prog 80 #[.string s] w fun e w' => e = .returned (.bool (varB s)) ∧ w = w' := by
  have CW := word_any s 4 w hs (by omega)
  have CC := Try.strings_Contains_one s 95 w
  unfold maxLen at hs
  cases hw : wordB 4 s.data.toList with
  | false =>
    rw [hw] at CW
    have C := Lib.hid CW
    have H : Hid (varB s = false) := Lib.hid (by
      by_cases h : 1 ≤ s.size ∧ s.size ≤ 4
      · rw [varB_is (by omega) h.2]
        have := wordB_no hw h
        cases hb : s.data.toList.tail.all smallB with
        | true => rw [all_B_U hb] at this; cases this
        | false => simp
      · exact varB_short h)
    clear CC CW hw
    go_enter Try.func80, Try.ntmps80
    go_wp2_with fail
    refine C.out.mono ?_
    rintro e w' ⟨rfl, rfl⟩
    go_wp2
    go_ret
    exact ⟨ret_bool H.out.symm, rfl⟩
  | true =>
    rw [hw] at CW
    have C := Lib.hid CW
    obtain ⟨⟨h1, h4⟩, ha⟩ := wordB_yes hw
    have H := Lib.hid (varB_is (s := s) (by omega) h4)
    have HU := Lib.hid (fun hu : upB s[0] = true => under_var (s := s) (by omega) hu ha)
    clear hw CW ha
    rcases up_ways s[0] with ⟨a1, a2, a3⟩ | ⟨a1, a2, a3, a4, a5⟩ | ⟨a1, a2, a3, a4, a5⟩
    · have H2 := Lib.hid a3
      clear a3 CC
      go_enter Try.func80, Try.ntmps80
      go_wp2_with fail
      refine C.out.mono ?_
      rintro e w' ⟨rfl, rfl⟩
      go_wp2
      go_ret
      exact ⟨ret_bool (by rw [H.out, H2.out]; rfl), rfl⟩
    · have H2 := Lib.hid a5
      clear a5 CC
      go_enter Try.func80, Try.ntmps80
      go_wp2_with fail
      refine C.out.mono ?_
      rintro e w' ⟨rfl, rfl⟩
      go_wp2
      go_ret
      exact ⟨ret_bool (by rw [H.out, H2.out]; rfl), rfl⟩
    · have H2 := Lib.hid a5
      rw [HU.out a5] at CC
      have C2 := Lib.hid CC
      clear a5 CC
      go_enter Try.func80, Try.ntmps80
      go_wp2_with fail
      refine C.out.mono ?_
      rintro e w' ⟨rfl, rfl⟩
      go_wp2_with fail
      refine C2.out.mono ?_
      rintro e w' ⟨rfl, rfl⟩
      go_wp2
      go_ret
      exact ⟨ret_bool (by rw [H.out, H2.out]; simp), rfl⟩

set_option maxHeartbeats 1000000 in
theorem isSym_any (s : ByteArray) (w : World) (hs : s.size ≤ maxLen) :
    Calls Try.prog 113 #[.string s] w fun e w' => e = .returned (.bool (symB s)) ∧ w = w' := by
  have CW := word_any s 6 w hs (by omega)
  have CC := Lib.hid (reserved_any s w)
  unfold maxLen at hs
  cases hw : wordB 6 s.data.toList with
  | false =>
    rw [hw] at CW
    have C := Lib.hid CW
    have H : Hid (symB s = false) := Lib.hid (by
      by_cases h : 1 ≤ s.size ∧ s.size ≤ 6
      · rw [symB_is (by omega) h.2, wordB_no hw h]; simp
      · exact symB_short h)
    clear CC CW hw
    go_enter Try.func113, Try.ntmps113
    go_wp2_with fail
    refine C.out.mono ?_
    rintro e w' ⟨rfl, rfl⟩
    go_wp2
    go_ret
    exact ⟨ret_bool H.out.symm, rfl⟩
  | true =>
    rw [hw] at CW
    have C := Lib.hid CW
    obtain ⟨⟨h1, h4⟩, ha⟩ := wordB_yes hw
    have H := Lib.hid (symB_is (s := s) (by omega) h4)
    have HA := Lib.hid ha
    clear hw CW ha
    rcases lo_ways s[0] with ⟨a1, a2, a3⟩ | ⟨a1, a2, a3, a4, a5⟩ | ⟨a1, a2, a3, a4, a5⟩
    · have H2 := Lib.hid a3
      clear a3 CC
      go_enter Try.func113, Try.ntmps113
      go_wp2_with fail
      refine C.out.mono ?_
      rintro e w' ⟨rfl, rfl⟩
      go_wp2
      go_ret
      exact ⟨ret_bool (by rw [H.out, H2.out]; rfl), rfl⟩
    · have H2 := Lib.hid a5
      clear a5 CC
      go_enter Try.func113, Try.ntmps113
      go_wp2_with fail
      refine C.out.mono ?_
      rintro e w' ⟨rfl, rfl⟩
      go_wp2
      go_ret
      exact ⟨ret_bool (by rw [H.out, H2.out]; rfl), rfl⟩
    · have H2 := Lib.hid a5
      obtain ⟨r, hr⟩ : ∃ r, r = resL s.toList := ⟨_, rfl⟩
      have HR := Lib.hid hr
      rw [← hr] at CC
      clear a5 hr
      go_enter Try.func113, Try.ntmps113
      go_wp2_with fail
      refine C.out.mono ?_
      rintro e w' ⟨rfl, rfl⟩
      go_wp2_with fail
      refine CC.out.mono ?_
      rintro e w' ⟨rfl, rfl⟩
      go_wp2
      go_ret
      exact ⟨ret_bool (by rw [H.out, H2.out, ← HR.out, HA.out]; simp), rfl⟩

end Go.Proofs.Ytppmiedhoimgmaa
