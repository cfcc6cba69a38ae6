/- SplitString of the program and of the model, the whole functions: contracts for every string of at most 1048576 bytes and every separator. -/
import Derived.Test.YtcijmhhajbgknaaDoorSplitF
import Derived.Test.YtcijmhhajbgknaaDoorSplitBF
namespace Go.Proofs.YtcijmhhajbgknaaDoor
open Go.RowKit Go.Shelf

theorem collect_any (B0 B1 : Nat) (s : ByteArray) (c : UInt8) (hs : s.size ≤ 1048576) (w : World) (h0 : B0 < w.heap.size) (h1 : B1 < w.heap.size)
    (c0 : w.cell? ⟨B0, 0, none⟩ = some (.string s)) (c1 : w.cell? ⟨B1, 0, none⟩ = some (.int .u8 (c.toNat : Int))) :
    Calls Tryd.prog 97 #[.func (.func 127) #[] #[.pointer (some ⟨B0, 0, none⟩), .pointer (some ⟨B1, 0, none⟩)]] w fun e w' => Got w w' c s e := by
  have CA := Lib.hid (callsIn_wide.1 (appendSeq_in 5 (by omega) B0 B1 s c hs w h0 h1 c0 c1))
  clear c0 c1
  go_enter Tryd.func97, Tryd.ntmps97
  go_wp2_with fail
  refine CA.out.mono ?_
  rintro e w' ⟨v, ss, rfl, hm, hown, hb⟩
  have HG : Hid (Got w w' c s (.returned v)) := Lib.hid ⟨v, ss, rfl, hm, hown, hb⟩
  clear hm hown hb
  go_wp2_with fail
  go_ret
  exact HG.out

theorem between_any (s : ByteArray) (c : UInt8) (w : World) :
    Calls Tryd.prog 98 #[.string s, .int .u8 (c.toNat : Int)] w fun e w' =>
      e = .returned (.func (.func 127) #[] #[.pointer (some ⟨w.heap.size, 0, none⟩), .pointer (some ⟨w.heap.size + 1, 0, none⟩)]) ∧
      w' = (w.alloc (.cells #[.string s] 9)).alloc (.cells #[.int .u8 (c.toNat : Int)] 5) := by
  go_enter Tryd.func98, Tryd.ntmps98
  go_wp2
  go_ret
  exact ⟨rfl, rfl⟩

def sOk (s sep : ByteArray) : Bool := decide (s.size ≤ 4000) && decide (sep.size = 1)
def sL (s sep : ByteArray) : List (List UInt8) := if sOk s sep then splitL (sep.data.toList.headD 0) s.data.toList else []
def GotS (w w' : World) (s sep : ByteArray) (e : Ending) : Prop :=
  ∃ (v : Value) (ss : List ByteArray), e = .returned (.tuple #[v, .bool (sOk s sep)]) ∧ ss.map (·.data.toList) = sL s sep ∧ w'.ownsRow w.heap.size 9 1 v ss.length (ss.map Value.string) ∧ Below w.heap.size w w'

theorem sOk_yes {s : ByteArray} {c : UInt8} (h : s.size ≤ 4000) : sOk s ⟨#[c]⟩ = true := by
  have : (ByteArray.mk #[c]).size = 1 := rfl
  simp [sOk, h, this]
theorem sL_yes {s : ByteArray} {c : UInt8} (h : s.size ≤ 4000) : sL s ⟨#[c]⟩ = splitL c s.data.toList := by simp [sL, sOk_yes h]
theorem gotS_no {w : World} {s sep : ByteArray} (h : sOk s sep = false) : GotS w (w.alloc (.cells #[] 9)) s sep (.returned (.tuple #[.slice (some ⟨w.heap.size, 0, none⟩) 0 0, .bool false])) :=
  ⟨_, [], by rw [h], by simp [sL, h], World.ownsRow_lit w #[] 0 (Nat.le_refl _) (Nat.zero_le _) rfl, (Below.refl _ _).alloc (Nat.le_refl _) _⟩
theorem sep_one' {sep : ByteArray} (h : sep.size = 1) : ∃ c, sep = ⟨#[c]⟩ := by
  obtain ⟨⟨l⟩⟩ := sep
  match l, h with
  | [c], _ => exact ⟨c, rfl⟩

set_option maxHeartbeats 1000000 in
theorem implSplit_any (s sep : ByteArray) (w : World) (hs : s.size ≤ maxLen) (hp : sep.size ≤ maxLen) :
    Calls Tryd.prog 67 #[.string s, .string sep] w fun e w' => GotS w w' s sep e := by
  unfold maxLen at hs hp
  by_cases h2 : (4000 : Int) < s.size
  · have HK : Hid (sOk s sep = false) := Lib.hid (by simp [sOk]; omega)
    go_enter Tryd.func67, Tryd.ntmps67
    go_wp2
    go_ret2
    exact gotS_no HK.out
  · by_cases h1 : sep.size = 1
    · obtain ⟨c, rfl⟩ := sep_one' h1
      clear h1 hp
      have C0 : Hid (Calls Tryd.prog 98 #[.string s, .int .u8 (((ByteArray.mk #[c])[0]'(Nat.zero_lt_one)).toNat : Int)] w fun e w' =>
          e = .returned (.func (.func 127) #[] #[.pointer (some ⟨w.heap.size, 0, none⟩), .pointer (some ⟨w.heap.size + 1, 0, none⟩)]) ∧
          w' = (w.alloc (.cells #[.string s] 9)).alloc (.cells #[.int .u8 (c.toNat : Int)] 5)) := Lib.hid (between_any s c w)
      have HK : Hid (sOk s ⟨#[c]⟩ = true) := Lib.hid (sOk_yes (by omega))
      have HL : Hid (sL s ⟨#[c]⟩ = splitL c s.data.toList) := Lib.hid (sL_yes (by omega))
      go_enter Tryd.func67, Tryd.ntmps67
      go_wp2_with fail
      refine C0.out.mono ?_
      rintro e w1 ⟨rfl, hw1⟩
      have hz1 : w1.heap.size = w.heap.size + 2 := by rw [hw1]; simp
      have c0 : w1.cell? ⟨w.heap.size, 0, none⟩ = some (.string s) := by rw [hw1]; simp [go_sem]
      have c1 : w1.cell? ⟨w.heap.size + 1, 0, none⟩ = some (.int .u8 (c.toNat : Int)) := by rw [hw1]; simp [go_sem]
      have HB : Hid (Below w.heap.size w w1) := Lib.hid (by rw [hw1]; exact ((Below.refl _ _).alloc (Nat.le_refl _) _).alloc (by simp) _)
      have C2 := Lib.hid (collect_any w.heap.size (w.heap.size + 1) s c (by omega) w1 (by omega) (by omega) c0 c1)
      have HZ : Hid (w1.heap.size = w.heap.size + 2) := Lib.hid hz1
      clear hw1 hz1 c0 c1
      go_wp2_with fail
      refine C2.out.mono ?_
      rintro e w' ⟨v, ss, rfl, hm, hown, hb⟩
      have HG : Hid (GotS w w' s ⟨#[c]⟩ (.returned (.tuple #[v, .bool true]))) := Lib.hid ⟨v, ss, by rw [HK.out], by rw [HL.out]; exact hm, owns_base hown (by have := HZ.out; omega), HB.out.trans (hb.mono (by have := HZ.out; omega))⟩
      clear hm hown hb
      go_wp2_with fail
      go_ret2
      exact HG.out
    · have HK : Hid (sOk s sep = false) := Lib.hid (by simp [sOk, h1])
      have h3 : ((sep.size : Int) != 1) = true := by rw [bne_iff_ne]; omega
      clear h1
      go_enter Tryd.func67, Tryd.ntmps67
      go_wp2
      go_ret2
      exact gotS_no HK.out

end Go.Proofs.YtcijmhhajbgknaaDoor
