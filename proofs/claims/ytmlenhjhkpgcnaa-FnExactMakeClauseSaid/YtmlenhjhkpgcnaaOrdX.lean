/- The comparison of terms and of literals is a strict order that agrees with equality. No condition. -/
import Derived.Test.YtmlenhjhkpgcnaaClM
namespace Go.Proofs.Ytmlenhjhkpgcnaa
open Go.RowKit
set_option linter.unusedVariables false
set_option linter.unusedSimpArgs false

theorem cb_flip : ∀ a b : List UInt8, Lib.compareBytes a b = - Lib.compareBytes b a
  | [], [] => by simp [Lib.compareBytes]
  | [], _ :: _ => by simp [Lib.compareBytes]
  | _ :: _, [] => by simp [Lib.compareBytes]
  | a :: x, b :: y => by
    unfold Lib.compareBytes
    by_cases h1 : a < b
    · have h2 : ¬ b < a := fun h => absurd (UInt8.lt_trans h1 h) (UInt8.lt_irrefl _)
      rw [if_pos h1, if_neg h2, if_pos h1]
    · rw [if_neg h1]
      by_cases h2 : b < a
      · rw [if_pos h2, if_pos h2]; rfl
      · rw [if_neg h2, if_neg h2, if_neg h1]
        exact cb_flip x y
theorem cb_trans : ∀ a b c : List UInt8, Lib.compareBytes a b < 0 → Lib.compareBytes b c < 0 → Lib.compareBytes a c < 0
  | [], [], _ => by simp [Lib.compareBytes]
  | [], _ :: _, [] => by simp [Lib.compareBytes]
  | [], _ :: _, _ :: _ => by simp [Lib.compareBytes]
  | _ :: _, [], _ => by simp [Lib.compareBytes]
  | _ :: _, _ :: _, [] => by simp [Lib.compareBytes]
  | a :: x, b :: y, c :: z => by
    have ih := cb_trans x y z
    intro h k
    unfold Lib.compareBytes at h k ⊢
    by_cases h1 : a < b
    · by_cases h2 : b < c
      · rw [if_pos (UInt8.lt_trans h1 h2)]; decide
      · rw [if_neg h2] at k
        by_cases h3 : c < b
        · rw [if_pos h3] at k; omega
        · have e : b = c := UInt8.le_antisymm (UInt8.not_lt.1 h3) (UInt8.not_lt.1 h2)
          subst e
          rw [if_pos h1]; decide
    · rw [if_neg h1] at h
      by_cases h2 : b < a
      · rw [if_pos h2] at h; omega
      · rw [if_neg h2] at h
        have e : a = b := UInt8.le_antisymm (UInt8.not_lt.1 h2) (UInt8.not_lt.1 h1)
        subst e
        by_cases h3 : a < c
        · rw [if_pos h3]; decide
        · rw [if_neg h3] at k ⊢
          by_cases h4 : c < a
          · rw [if_pos h4] at k; omega
          · rw [if_neg h4] at k ⊢
            exact ih h k

theorem txt_flip (a b : ByteArray) : txt a b = - txt b a := cb_flip _ _
theorem txt_zero {a b : ByteArray} (h : txt a b = 0) : a = b := toList_inj ((cb_zero _ _).1 h)
theorem txt_self (a : ByteArray) : txt a a = 0 := (cb_zero _ _).2 rfl
theorem txt_trans {a b c : ByteArray} (h : txt a b < 0) (k : txt b c < 0) : txt a c < 0 := cb_trans _ _ _ h k

mutual
theorem ordT_flip : ∀ a b : Tm, ordT a b = - ordT b a
  | .node n l, .node m r => by
    have h1 := txt_flip n m
    have h2 := ordL_flip l r
    rw [ordT, ordT]
    by_cases e : n = m
    · subst e
      cases varB n <;> simp only [Bool.false_eq_true, Bool.true_eq_false, and_true, and_false, and_self, false_and, true_and, if_false, ne_eq, not_true] <;> (repeat' split) <;> omega
    · have e2 : ¬ m = n := fun h => e h.symm
      clear h2
      cases varB n <;> cases varB m <;> simp only [Bool.false_eq_true, Bool.true_eq_false, and_true, and_false, and_self, false_and, true_and, if_false, if_true, ne_eq, e, e2, not_false_iff] <;> omega
theorem ordL_flip : ∀ a b : List Tm, ordL a b = - ordL b a
  | [], [] => by rw [ordL]; rfl
  | [], _ :: _ => by rw [ordL, ordL]; rfl
  | _ :: _, [] => by rw [ordL, ordL]; rfl
  | x :: l, y :: r => by
    have h1 := ordT_flip x y
    have h2 := ordL_flip l r
    rw [ordL, ordL]
    by_cases e : ordT x y = 0
    · rw [if_pos e, if_pos (by omega)]; exact h2
    · rw [if_neg e, if_neg (by omega)]; exact h1
end

mutual
theorem ordT_zero : ∀ a b : Tm, ordT a b = 0 → a = b
  | .node n l, .node m r => by
    intro h
    rw [ordT] at h
    split at h
    · omega
    split at h
    · omega
    split at h
    · rename_i e; exact absurd (txt_zero h) e
    rename_i e
    split at h
    · omega
    split at h
    · omega
    have e' : n = m := by simpa using e
    subst e'
    rw [ordL_zero l r (by omega) h]
theorem ordL_zero : ∀ a b : List Tm, a.length = b.length → ordL a b = 0 → a = b
  | [], [] => fun _ _ => rfl
  | [], _ :: _ => fun h _ => by simp at h
  | _ :: _, [] => fun h _ => by simp at h
  | x :: l, y :: r => fun h k => by
    rw [ordL] at k
    split at k
    · rename_i e
      rw [ordT_zero x y e, ordL_zero l r (by simpa using h) k]
    · rename_i e; exact absurd k e
end

mutual
theorem ordT_refl : ∀ a : Tm, ordT a a = 0
  | .node n l => by
    rw [ordT, if_neg (by rintro ⟨h1, h2⟩; rw [h1] at h2; cases h2), if_neg (by rintro ⟨h1, h2⟩; rw [h1] at h2; cases h2), if_neg (by simp), if_neg (by omega), if_neg (by omega)]
    exact ordL_refl l
theorem ordL_refl : ∀ a : List Tm, ordL a a = 0
  | [] => by rw [ordL]
  | x :: l => by rw [ordL, if_pos (ordT_refl x)]; exact ordL_refl l
end
theorem ordT_iff {a b : Tm} : ordT a b = 0 ↔ a = b := ⟨ordT_zero a b, fun e => by rw [e]; exact ordT_refl b⟩

mutual
theorem ordT_trans : ∀ a b c : Tm, ordT a b < 0 → ordT b c < 0 → ordT a c < 0
  | .node n l, .node m r, .node o s => by
    have ih := ordL_trans l r s
    have ht := @txt_trans n m o
    intro h k
    rw [ordT] at h k ⊢
    cases hn : varB n <;> cases hm : varB m <;> cases ho : varB o <;> simp only [hn, hm, ho, if_true, if_false, Bool.false_eq_true, Bool.true_eq_false, and_true, and_false, and_self, false_and, true_and, reduceCtorEq] at h k ⊢ <;> first | omega | skip
    all_goals
      by_cases e1 : n = m
      · subst e1
        simp only [ne_eq, not_true, if_false] at h
        by_cases e2 : n = o
        · subst e2
          simp only [ne_eq, not_true, if_false] at k ⊢
          by_cases k1 : l.length < r.length
          · rw [if_pos k1] at h
            by_cases k2 : r.length < s.length
            · rw [if_pos (by omega)]; decide
            · rw [if_neg k2] at k
              by_cases k3 : s.length < r.length
              · rw [if_pos k3] at k; omega
              · rw [if_pos (by omega)]; decide
          · rw [if_neg k1] at h
            by_cases k2 : r.length < l.length
            · rw [if_pos k2] at h; omega
            · rw [if_neg k2] at h
              by_cases k3 : r.length < s.length
              · rw [if_pos (by omega)]; decide
              · rw [if_neg k3] at k
                by_cases k4 : s.length < r.length
                · rw [if_pos k4] at k; omega
                · rw [if_neg k4] at k
                  rw [if_neg (by omega), if_neg (by omega)]
                  exact ih h k
        · rw [if_pos e2] at k ⊢; exact k
      · rw [if_pos e1] at h
        by_cases e2 : m = o
        · subst e2
          rw [if_pos e1]; exact h
        · rw [if_pos e2] at k
          have := ht h k
          rw [if_pos (fun e => by subst e; have := txt_self n; omega)]; exact this
theorem ordL_trans : ∀ a b c : List Tm, ordL a b < 0 → ordL b c < 0 → ordL a c < 0
  | [], _, _ => fun h => by rw [ordL] at h; omega
  | _ :: _, [], _ => fun h => by rw [ordL] at h; omega
  | _ :: _, _ :: _, [] => fun _ h => by rw [ordL] at h; omega
  | x :: l, y :: r, z :: s => fun h k => by
    rw [ordL] at h k ⊢
    by_cases e1 : ordT x y = 0
    · have e := ordT_zero x y e1
      subst e
      rw [if_pos e1] at h
      by_cases e2 : ordT x z = 0
      · rw [if_pos e2] at k ⊢
        exact ordL_trans l r s h k
      · rw [if_neg e2] at k ⊢; exact k
    · rw [if_neg e1] at h
      by_cases e2 : ordT y z = 0
      · have e := ordT_zero y z e2
        subst e
        rw [if_neg e1]; exact h
      · rw [if_neg e2] at k
        have := ordT_trans x y z h k
        rw [if_neg (by omega)]; exact this
end

theorem ordLt_flip (a b : Lt) : ordLt a b = - ordLt b a := by
  have h := ordT_flip a.tm b.tm
  unfold ordLt
  by_cases h0 : ordT b.tm a.tm = 0
  · have h1 : ¬ ordT a.tm b.tm ≠ 0 := by omega
    have h2 : ¬ ordT b.tm a.tm ≠ 0 := by omega
    rw [if_neg h1, if_neg h2]
    cases a.var <;> cases b.var <;> simp
  · have h1 : ordT a.tm b.tm ≠ 0 := by omega
    have h2 : ordT b.tm a.tm ≠ 0 := h0
    rw [if_pos h1, if_pos h2, h]
theorem ordLt_refl (a : Lt) : ordLt a a = 0 := by have := ordLt_flip a a; omega
theorem ordLt_zero {a b : Lt} (h : ordLt a b = 0) : a = b := by
  unfold ordLt at h
  by_cases h0 : ordT a.tm b.tm = 0
  · rw [if_neg (by simpa using h0)] at h
    refine Lt.ext' ?_ (ordT_zero _ _ h0)
    revert h
    cases a.var <;> cases b.var <;> simp
  · rw [if_pos h0] at h; exact absurd h h0
theorem ordLt_trans {a b c : Lt} (h : ordLt a b < 0) (k : ordLt b c < 0) : ordLt a c < 0 := by
  unfold ordLt at h k ⊢
  by_cases e1 : ordT a.tm b.tm = 0
  · rw [ordT_zero _ _ e1] at h ⊢
    rw [if_neg (by simpa using ordT_refl b.tm)] at h
    by_cases e2 : ordT b.tm c.tm = 0
    · rw [if_neg (by simpa using e2)] at k ⊢
      revert h k
      cases a.var <;> cases b.var <;> cases c.var <;> simp
    · rw [if_pos e2] at k ⊢; exact k
  · rw [if_pos e1] at h
    by_cases e2 : ordT b.tm c.tm = 0
    · rw [← ordT_zero _ _ e2, if_pos e1]; exact h
    · rw [if_pos e2] at k
      have := ordT_trans _ _ _ h k
      rw [if_pos (by omega)]; exact this
theorem less_iff {a b : Lt} : lessLt a b = true ↔ ordLt a b < 0 := by
  rw [less_ord]; simp

end Go.Proofs.Ytmlenhjhkpgcnaa
