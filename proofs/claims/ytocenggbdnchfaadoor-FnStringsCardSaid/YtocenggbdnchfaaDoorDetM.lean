/- Plain facts: a sealed list of bytes in which one byte is changed is no sealed list; a sealed list is opened to what was sealed. No condition. -/
import Derived.Test.YtocenggbdnchfaaDoorVerify
import Derived.Test.YtocenggbdnchfaaDoorDecM
import Derived.Laws.BitsAllLaws
namespace Go.Proofs.YtocenggbdnchfaaDoor
open Go.RowKit

theorem step_inj {h1 h2 : Int} (c : UInt8) (a0 : 0 ≤ h1) (a1 : h1 < 999979) (b0 : 0 ≤ h2) (b1 : h2 < 999979) (h : (41 * h1 + (c.toNat : Int) + 1) % 999979 = (41 * h2 + (c.toNat : Int) + 1) % 999979) : h1 = h2 := by omega

theorem fold_inj : ∀ (l : List UInt8) (h1 h2 : Int), 0 ≤ h1 → h1 < 999979 → 0 ≤ h2 → h2 < 999979 →
    l.foldl (fun (h : Int) (c : UInt8) => (41 * h + (c.toNat : Int) + 1) % 999979) h1 = l.foldl (fun (h : Int) (c : UInt8) => (41 * h + (c.toNat : Int) + 1) % 999979) h2 → h1 = h2
  | [], _, _, _, _, _, _, h => h
  | c :: l, h1, h2, a0, a1, b0, b1, h => by
    have e := fold_inj l ((41 * h1 + (c.toNat : Int) + 1) % 999979) ((41 * h2 + (c.toNat : Int) + 1) % 999979) (by omega) (by omega) (by omega) (by omega) h
    exact step_inj c a0 a1 b0 b1 e

theorem sum_change (p r : List UInt8) (a v : UInt8) (h : a ≠ v) : sumL (p ++ a :: r) ≠ sumL (p ++ v :: r) := by
  intro e
  unfold sumL at e
  rw [List.foldl_append, List.foldl_append, List.foldl_cons, List.foldl_cons] at e
  obtain ⟨q0, q1⟩ := sumL_bd p
  unfold sumL at q0 q1
  obtain ⟨q, hq⟩ : ∃ q, q = p.foldl (fun (h : Int) (c : UInt8) => (41 * h + (c.toNat : Int) + 1) % 999979) 7 := ⟨_, rfl⟩
  rw [← hq] at e q0 q1
  have e2 := fold_inj r _ _ (by omega) (by omega) (by omega) (by omega) e
  have ha := a.toNat_lt
  have hv := v.toNat_lt
  exact h (UInt8.toNat_inj.1 (by omega))

/-- The digits of the checksum. -/
def dgs (x : List UInt8) : List UInt8 := Lib.itoa (sumL x)
theorem dgs_eq (x : List UInt8) : dgs x = Lib.decDigits (sumL x).toNat := by
  obtain ⟨h0, _⟩ := sumL_bd x
  simp [dgs, Lib.itoa]; omega
theorem dgs_dig (x : List UInt8) : ∀ c ∈ dgs x, isDig c := by rw [dgs_eq]; exact dec_dig _
theorem dgs_no (x : List UInt8) : (35 : UInt8) ∉ dgs x := fun h => by
  have := (dgs_dig x _ h).1
  exact absurd this (by decide)
theorem dgs_inj {x y : List UInt8} (h : dgs x = dgs y) : sumL x = sumL y := by
  rw [dgs_eq, dgs_eq] at h
  have e := congrArg val h
  rw [dec_val, dec_val] at e
  obtain ⟨a0, _⟩ := sumL_bd x
  obtain ⟨b0, _⟩ := sumL_bd y
  omega

def sealL (x : List UInt8) : List UInt8 := x ++ 35 :: dgs x

theorem two_heads {a b : List UInt8} {c d : List UInt8} (ha : (35 : UInt8) ∉ a) (hb : (35 : UInt8) ∉ b) (h : a ++ 35 :: c = b ++ 35 :: d) : a = b ∧ c = d := by
  have e1 := bef_some 35 c a ha
  have e2 := bef_some 35 d b hb
  rw [h, e2] at e1
  subst e1
  refine ⟨rfl, ?_⟩
  have := List.append_cancel_left h
  simpa using this

/-- One byte changed: no text seals to it. -/
theorem detect (x t : List UInt8) (k : Nat) (v : UInt8) (hx : (35 : UInt8) ∉ x) (ht : (35 : UInt8) ∉ t) (hk : k < (sealL x).length) (hv : (sealL x)[k]? ≠ some v) : sealL t ≠ (sealL x).set k v := by
  intro e
  rcases Nat.lt_trichotomy k x.length with h | h | h
  · have hget : (sealL x)[k]? = some x[k] := by unfold sealL; rw [List.getElem?_append_left h, List.getElem?_eq_getElem h]
    rw [hget] at hv
    have hne : x[k] ≠ v := fun h2 => hv (by rw [h2])
    have hs : (sealL x).set k v = x.set k v ++ 35 :: dgs x := by unfold sealL; rw [List.set_append_left _ _ h]
    rw [hs] at e
    have hset : x.set k v = x.take k ++ v :: x.drop (k + 1) := List.set_eq_take_append_cons_drop.trans (by rw [if_pos h])
    have hxk : x = x.take k ++ x[k] :: x.drop (k + 1) := by
      have a := List.drop_eq_getElem_cons h
      rw [← a, List.take_append_drop]
    have hpre : (35 : UInt8) ∉ x.take k := fun hm => hx (List.mem_of_mem_take hm)
    by_cases h35 : v = 35
    · rw [hset, h35, List.append_assoc, List.cons_append] at e
      unfold sealL at e
      obtain ⟨_, e2⟩ := two_heads ht hpre e
      have : (35 : UInt8) ∈ dgs t := by rw [e2]; simp
      exact dgs_no t this
    · have hno : (35 : UInt8) ∉ x.set k v := by
        rw [hset]
        intro hm
        rcases List.mem_append.1 hm with hm | hm
        · exact hpre hm
        · rcases List.mem_cons.1 hm with hm | hm
          · exact h35 hm.symm
          · exact hx (List.mem_of_mem_drop hm)
      unfold sealL at e
      obtain ⟨e1, e2⟩ := two_heads ht hno e
      have e3 := dgs_inj e2
      rw [e1, hset] at e3
      refine sum_change (x.take k) (x.drop (k + 1)) x[k] v hne ?_
      rw [← hxk]; exact e3.symm
  · subst h
    have hs : (sealL x).set x.length v = x ++ v :: dgs x := by
      unfold sealL
      rw [List.set_append_right _ _ (Nat.le_refl _)]
      simp
    have hget : (sealL x)[x.length]? = some 35 := by unfold sealL; simp
    rw [hget] at hv
    rw [hs] at e
    have hm : (35 : UInt8) ∈ x ++ v :: dgs x := by rw [← e]; unfold sealL; simp
    rcases List.mem_append.1 hm with hm | hm
    · exact hx hm
    · rcases List.mem_cons.1 hm with hm | hm
      · exact hv (by rw [hm])
      · exact dgs_no x hm
  · have hs : (sealL x).set k v = x ++ 35 :: (dgs x).set (k - x.length - 1) v := by
      unfold sealL
      rw [List.set_append_right _ _ (by omega)]
      obtain ⟨j, hj⟩ : ∃ j, k - x.length = j + 1 := ⟨k - x.length - 1, by omega⟩
      rw [hj]; simp
    rw [hs] at e
    unfold sealL at e
    obtain ⟨e1, e2⟩ := two_heads ht hx e
    rw [e1] at e2
    have hlen : (sealL x).length = x.length + 1 + (dgs x).length := by unfold sealL; simp; omega
    have hj : k - x.length - 1 < (dgs x).length := by omega
    have g := congrArg (·[k - x.length - 1]?) e2
    simp only [List.getElem?_set_self hj] at g
    have hget : (sealL x)[k]? = (dgs x)[k - x.length - 1]? := by
      unfold sealL
      rw [List.getElem?_append_right (by omega)]
      obtain ⟨j, hj⟩ : ∃ j, k - x.length = j + 1 := ⟨k - x.length - 1, by omega⟩
      rw [hj]; simp
    rw [hget, g] at hv
    exact hv rfl

theorem seal_list (s : ByteArray) : (sealB s).data.toList = sealL s.data.toList := by
  unfold sealB sealL dgs
  simp

/-- A sealed text is opened. -/
theorem open_seal {x : ByteArray} (h : aOk x = true) : vOk (sealB x) = true ∧ befB (sealB x) = x := by
  simp only [aOk, Bool.and_eq_true, decide_eq_true_eq, Bool.not_eq_true'] at h
  obtain ⟨⟨h1, h2⟩, h3⟩ := h
  have hx : (35 : UInt8) ∉ x.data.toList := by simpa [hasB] using h2
  have hb : befB (sealB x) = x := by
    apply ByteArray.ext
    apply Array.toList_inj.1
    show bef 35 (sealB x).data.toList = x.data.toList
    rw [seal_list]
    exact bef_some 35 _ _ hx
  refine ⟨?_, hb⟩
  simp only [vOk, Bool.and_eq_true, decide_eq_true_eq]
  exact ⟨h3, by rw [hb]⟩
/-- One changed byte is found. -/
theorem bad_seal {x y : ByteArray} {k : Nat} {v : UInt8} (h : aOk x = true) (hk : k < (sealB x).size) (hv : (sealB x).data.toList[k]? ≠ some v) (hy : y.data.toList = (sealB x).data.toList.set k v) : vOk y = false := by
  rw [Bool.eq_false_iff]
  intro hc
  simp only [vOk, Bool.and_eq_true, decide_eq_true_eq] at hc
  simp only [aOk, Bool.and_eq_true, decide_eq_true_eq, Bool.not_eq_true'] at h
  have hx : (35 : UInt8) ∉ x.data.toList := by simpa [hasB] using h.1.2
  have e : (sealB (befB y)).data.toList = y.data.toList := congrArg (fun b : ByteArray => b.data.toList) hc.2
  rw [seal_list, hy, seal_list] at e
  rw [seal_list] at hv
  refine detect x.data.toList (befB y).data.toList k v hx ?_ ?_ hv e
  · have := befB_no y; simpa [hasB] using this
  · rw [← seal_list, Array.length_toList]; exact hk

theorem xor_ne (a m : Nat) (ha : a < 256) (hm : m < 256) (h0 : m ≠ 0) : a ^^^ m < 256 ∧ a ^^^ m ≠ a := by
  refine ⟨Nat.xor_lt_two_pow (n := 8) ha hm, fun e => h0 ?_⟩
  have e2 : a ^^^ (a ^^^ m) = a ^^^ a := by rw [e]
  rw [← Nat.xor_assoc, Nat.xor_self, Nat.zero_xor] at e2
  exact e2

end Go.Proofs.YtocenggbdnchfaaDoor
