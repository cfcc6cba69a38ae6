/- ParseInt of the model: a contract for every string of at most 1048576 bytes. -/
import Derived.Test.YtcijmhhajbgknaaDoorNumF
import Derived.Test.YtcijmhhajbgknaaDoorDecMF
namespace Go.Proofs.YtcijmhhajbgknaaDoor
open Go.RowKit

/-- t is what stands behind the sign of s. -/
structure Parts (s t : ByteArray) (neg : Bool) : Prop where
  only : ∀ m : Int, Lib.itoa m = s.data.toList → t.data.toList = Lib.decDigits m.natAbs ∧ m = (if neg then -(m.natAbs : Int) else (m.natAbs : Int))

theorem head_eq {s : ByteArray} (h : 0 < s.size) {c : UInt8} {r : List UInt8} (e : s.data.toList = c :: r) : s[0] = c := by
  have a := List.getElem?_eq_getElem (l := s.data.toList) (i := 0) (by simpa using h)
  rw [getElem_toList s 0 h, e] at a
  simpa using a.symm

theorem parts_neg {s : ByteArray} (h : 1 < s.size) (h0 : s[0] = 45) : Parts s (s.extract 1 s.size) true := ⟨fun m e => by
  by_cases hm : m < 0
  · have e2 : Lib.itoa m = 45 :: Lib.decDigits m.natAbs := by simp [Lib.itoa, hm]
    refine ⟨?_, by simp; omega⟩
    rw [ByteArray.data_extract, Array.toList_extract, ← e, e2]
    have hl : s.size = (Lib.decDigits m.natAbs).length + 1 := by
      have a := congrArg List.length e
      rw [e2] at a
      have b : s.data.toList.length = s.size := by rw [Array.length_toList]; rfl
      simp at a b; omega
    simp [hl]
  · have e2 : Lib.itoa m = Lib.decDigits m.toNat := by simp [Lib.itoa, hm]
    obtain ⟨c, r, hc, hd⟩ := dec_head m.toNat
    have := head_eq (by omega) (e.symm.trans (e2.trans hc))
    rw [h0] at this
    have h48 := hd.1
    rw [← this] at h48
    exact absurd h48 (by decide)⟩

theorem parts_pos {s : ByteArray} (h : ¬ (1 < s.size ∧ ∃ hp : 0 < s.size, s[0] = 45)) : Parts s s false := ⟨fun m e => by
  by_cases hm : m < 0
  · have e2 : Lib.itoa m = 45 :: Lib.decDigits m.natAbs := by simp [Lib.itoa, hm]
    have b : s.data.toList.length = s.size := by rw [Array.length_toList]; rfl
    have hn := dec_ne m.natAbs
    have hl : s.size = (Lib.decDigits m.natAbs).length + 1 := by
      have a := congrArg List.length e
      rw [e2] at a
      simp at a b; omega
    exact absurd ⟨by omega, by omega, head_eq (by omega) (e.symm.trans e2)⟩ h
  · have e2 : Lib.itoa m = Lib.decDigits m.toNat := by simp [Lib.itoa, hm]
    have e3 : m.toNat = m.natAbs := by omega
    refine ⟨by rw [← e, e2, e3], by simp; omega⟩⟩

theorem Parts.len {s t : ByteArray} {neg : Bool} (h : Parts s t neg) (hl : ¬ ((1 : Int) ≤ t.size ∧ (t.size : Int) ≤ 6)) : ∀ m : Int, -999999 ≤ m → m ≤ 999999 → Lib.itoa m ≠ s.data.toList := fun m h0 h1 e => by
  have a := congrArg List.length (h.only m e).1
  have b : t.data.toList.length = t.size := by rw [Array.length_toList]; rfl
  have c := dec_ne m.natAbs
  have d := dec_len 5 m.natAbs (by omega)
  omega
theorem Parts.bad {s t : ByteArray} {neg : Bool} (h : Parts s t neg) {k : Nat} (hk : k < t.size) (hd : ¬ isDig t[k]) : ∀ m : Int, -999999 ≤ m → m ≤ 999999 → Lib.itoa m ≠ s.data.toList := fun m _ _ e => by
  have a := (h.only m e).1
  have b := List.getElem_mem (l := t.data.toList) (n := k) (by simpa using hk)
  rw [getElem_toList t k hk] at b
  rw [a] at b
  exact hd (dec_dig _ _ b)
theorem Parts.other {s t : ByteArray} {neg : Bool} (h : Parts s t neg) {v : Int} (hv : v = if neg then -(val t.data.toList : Int) else (val t.data.toList : Int)) (hn : Lib.itoa v ≠ s.data.toList) : ∀ m : Int, -999999 ≤ m → m ≤ 999999 → Lib.itoa m ≠ s.data.toList := fun m _ _ e => by
  obtain ⟨a, b⟩ := h.only m e
  have c := dec_val m.natAbs
  rw [← a] at c
  rw [c, ← b] at hv
  rw [hv] at hn
  exact hn e

theorem val_lt (l : List UInt8) (hd : ∀ c ∈ l, isDig c) : val l < 10 ^ l.length := by
  have key : ∀ (l : List UInt8) (acc : Nat), (∀ c ∈ l, isDig c) → l.foldl valStep acc + 1 ≤ (acc + 1) * 10 ^ l.length := by
    intro l
    induction l with
    | nil => intro acc _; simp
    | cons c r ih =>
      intro acc hd
      have h := ih (valStep acc c) (fun x hx => hd x (by simp [hx]))
      have hc := hd c (by simp)
      have h9 : valStep acc c + 1 ≤ (acc + 1) * 10 := by unfold valStep; have := hc.2; omega
      refine Nat.le_trans h ?_
      rw [List.length_cons, Nat.pow_succ, Nat.mul_comm (10 ^ r.length) 10, ← Nat.mul_assoc]
      exact Nat.mul_le_mul_right _ h9
  have := key l 0 hd
  unfold val
  omega

/-- k bytes of t have been read. -/
structure DRel (t : ByteArray) (k n : Nat) : Prop where
  le : k ≤ t.size
  dig : ∀ c ∈ t.data.toList.take k, isDig c
  eq : n = val (t.data.toList.take k)

theorem DRel.start (t : ByteArray) : DRel t 0 0 := ⟨Nat.zero_le _, by simp, by simp [val]⟩
theorem DRel.small {t : ByteArray} {k n : Nat} (h : DRel t k n) (ht : t.size ≤ 6) : n < 1000000 := by
  have a := val_lt _ h.dig
  rw [← h.eq] at a
  have b : (t.data.toList.take k).length ≤ 6 := by
    have : t.data.toList.length = t.size := by rw [Array.length_toList]; rfl
    rw [List.length_take]; omega
  exact Nat.lt_of_lt_of_le a (Nat.pow_le_pow_right (by omega) b)
theorem DRel.next {t : ByteArray} {k n : Nat} (h : DRel t k n) (hk : k < t.size) (hd : isDig t[k]) : DRel t (k + 1) (10 * n + (t[k].toNat - 48)) := by
  refine ⟨hk, fun c hc => ?_, ?_⟩
  · rw [take_snoc t k hk] at hc
    rcases List.mem_append.1 hc with hc | hc
    · exact h.dig c hc
    · rw [List.mem_singleton] at hc; subst hc; exact hd
  · rw [take_snoc t k hk, h.eq]
    simp [val, valStep, List.foldl_append]
theorem DRel.full {t : ByteArray} {n : Nat} (h : DRel t t.size n) : n = val t.data.toList := by
  have := h.eq
  rwa [take_all t t.size (Nat.le_refl _)] at this

end Go.Proofs.YtcijmhhajbgknaaDoor
