/- The comparison of terms as plain trees, and the small functions that both comparisons call: contracts. No condition. -/
import Derived.Test.YtppmiedhoimgmaaSizes
import Derived.Test.YtppmiedhoimgmaaEq
import Derived.Deep.RegionWith
namespace Go.Proofs.Ytppmiedhoimgmaa
open Go.RowKit
set_option linter.unusedVariables false

/-- The comparison of two names. -/
def txt (a b : ByteArray) : Int := Lib.compareBytes a.toList b.toList

theorem cb_range : ∀ a b : List UInt8, Lib.compareBytes a b = -1 ∨ Lib.compareBytes a b = 0 ∨ Lib.compareBytes a b = 1
  | [], [] => by simp [Lib.compareBytes]
  | [], _ :: _ => by simp [Lib.compareBytes]
  | _ :: _, [] => by simp [Lib.compareBytes]
  | a :: x, b :: y => by
    unfold Lib.compareBytes
    split
    · exact .inl rfl
    · split
      · exact .inr (.inr rfl)
      · exact cb_range x y

theorem cb_zero : ∀ a b : List UInt8, Lib.compareBytes a b = 0 ↔ a = b
  | [], [] => by simp [Lib.compareBytes]
  | [], _ :: _ => by simp [Lib.compareBytes]
  | _ :: _, [] => by simp [Lib.compareBytes]
  | a :: x, b :: y => by
    unfold Lib.compareBytes
    by_cases h1 : a < b
    · rw [if_pos h1]
      refine ⟨fun h => by omega, fun h => ?_⟩
      injection h with h2 h3
      subst h2
      exact absurd h1 (UInt8.lt_irrefl _)
    · rw [if_neg h1]
      by_cases h2 : b < a
      · rw [if_pos h2]
        refine ⟨fun h => by omega, fun h => ?_⟩
        injection h with h3 h4
        subst h3
        exact absurd h2 (UInt8.lt_irrefl _)
      · rw [if_neg h2, cb_zero x y]
        have e : a = b := UInt8.le_antisymm (UInt8.not_lt.1 h2) (UInt8.not_lt.1 h1)
        subst e
        simp

theorem cb_less : ∀ a b : List UInt8, Op.bytesLess a b = decide (Lib.compareBytes a b = -1)
  | [], [] => by simp [Lib.compareBytes, Op.bytesLess]
  | [], _ :: _ => by simp [Lib.compareBytes, Op.bytesLess]
  | _ :: _, [] => by simp [Lib.compareBytes, Op.bytesLess]
  | a :: x, b :: y => by
    unfold Lib.compareBytes Op.bytesLess
    by_cases h1 : a < b
    · simp [h1]
    · by_cases h2 : b < a
      · have hne : (a == b) = false := by
          rw [beq_eq_false_iff_ne]; intro e; subst e; exact absurd h2 (UInt8.lt_irrefl _)
        simp [h1, h2, hne]
      · have e : a = b := UInt8.le_antisymm (UInt8.not_lt.1 h2) (UInt8.not_lt.1 h1)
        subst e
        simp [h1, cb_less x y]

theorem txt_ways (a b : ByteArray) :
    (Op.bytesLess a.toList b.toList = true ∧ (a.toList == b.toList) = false ∧ txt a b = -1 ∧ a ≠ b) ∨
    (Op.bytesLess a.toList b.toList = false ∧ (a.toList == b.toList) = true ∧ txt a b = 0 ∧ a = b) ∨
    (Op.bytesLess a.toList b.toList = false ∧ (a.toList == b.toList) = false ∧ txt a b = 1 ∧ a ≠ b) := by
  unfold txt
  rw [cb_less]
  have hz := cb_zero a.toList b.toList
  rcases cb_range a.toList b.toList with h | h | h
  · have hn : a ≠ b := fun e => by rw [hz.2 (by rw [e])] at h; omega
    exact .inl ⟨by simp [h], str_ne hn, h, hn⟩
  · have he : a = b := toList_inj (hz.1 h)
    exact .inr (.inl ⟨by simp [h], str_eq he, h, he⟩)
  · have hn : a ≠ b := fun e => by rw [hz.2 (by rw [e])] at h; omega
    exact .inr (.inr ⟨by simp [h], str_ne hn, h, hn⟩)

/-- The comparison of two numbers. -/
def num3 (a b : Nat) : Int := if a < b then -1 else if b < a then 1 else 0

mutual
/-- The comparison of two terms: variables first, then names, numbers of arguments, arguments. -/
def ordT : Tm → Tm → Int
  | .node n l, .node m r => if varB n = true ∧ varB m = false then -1 else if varB n = false ∧ varB m = true then 1 else if n ≠ m then txt n m else if l.length < r.length then -1 else if r.length < l.length then 1 else ordL l r
def ordL : List Tm → List Tm → Int
  | [], _ => 0
  | _ :: _, [] => 0
  | x :: l, y :: r => if ordT x y = 0 then ordL l r else ordT x y
end

theorem ordT_eq (a b : Tm) : ordT a b = if varB a.name = true ∧ varB b.name = false then -1 else if varB a.name = false ∧ varB b.name = true then 1 else if a.name ≠ b.name then txt a.name b.name else if a.args.length < b.args.length then -1 else if b.args.length < a.args.length then 1 else ordL a.args b.args := by
  cases a; cases b; rw [ordT]; rfl

/-- The first k elements compare as equal. -/
def Level (l r : List Tm) (k : Nat) : Prop := ∀ j x y, j < k → l[j]? = some x → r[j]? = some y → ordT x y = 0

theorem Level.next {l r : List Tm} {k : Nat} {x y : Tm} (h : Level l r k) (hx : l[k]? = some x) (hy : r[k]? = some y) (e : ordT x y = 0) : Level l r (k + 1) := fun j x' y' hj hx' hy' => by
  by_cases ej : j = k
  · subst ej; rw [hx] at hx'; rw [hy] at hy'; injection hx' with h1; injection hy' with h2; subst h1; subst h2; exact e
  · exact h j x' y' (by omega) hx' hy'

theorem ordL_first : ∀ {l r : List Tm} {k : Nat} {x y : Tm}, Level l r k → l[k]? = some x → r[k]? = some y → ordT x y ≠ 0 → ordL l r = ordT x y
  | [], _, _, _, _, _, hx, _, _ => by cases hx
  | _ :: _, [], _, _, _, _, _, hy, _ => by cases hy
  | a :: l, b :: r, 0, x, y, _, hx, hy, hn => by
    simp at hx hy
    subst hx; subst hy
    rw [ordL, if_neg hn]
  | a :: l, b :: r, k + 1, x, y, h, hx, hy, hn => by
    have h0 := h 0 a b (by omega) rfl rfl
    rw [ordL, if_pos h0]
    exact ordL_first (k := k) (fun j x' y' hj h1 h2 => h (j + 1) x' y' (by omega) h1 h2) hx hy hn

theorem ordL_all : ∀ {l r : List Tm}, Level l r l.length → ordL l r = 0
  | [], _, _ => by rw [ordL]
  | _ :: _, [], _ => by rw [ordL]
  | a :: l, b :: r, h => by
    have h0 := h 0 a b (by simp) rfl rfl
    rw [ordL, if_pos h0]
    exact ordL_all (fun j x' y' hj h1 h2 => h (j + 1) x' y' (by simp; omega) h1 h2)

theorem txt_range (a b : ByteArray) : -1 ≤ txt a b ∧ txt a b ≤ 1 := by
  rcases txt_ways a b with h | h | h <;> omega

mutual
theorem ordT_range : ∀ a b : Tm, -1 ≤ ordT a b ∧ ordT a b ≤ 1
  | .node n l, .node m r => by
    have h1 := txt_range n m
    have h2 := ordL_range l r
    rw [ordT]
    repeat' split
    all_goals omega
theorem ordL_range : ∀ a b : List Tm, -1 ≤ ordL a b ∧ ordL a b ≤ 1
  | [], _ => by rw [ordL]; omega
  | _ :: _, [] => by rw [ordL]; omega
  | x :: l, y :: r => by
    have h1 := ordT_range x y
    have h2 := ordL_range l r
    rw [ordL]
    split <;> omega
end

theorem cmpText_any (a b : ByteArray) (w : World) :
    Calls Try.prog 158 #[.string a, .string b] w fun e w' => e = .returned (.int .i64 (txt a b)) ∧ w = w' := by
  refine (Try.strings_Compare a b w).mono ?_
  rintro e w' ⟨rfl, rfl⟩
  exact ⟨by rw [txt, ByteArray.toList_eq, ByteArray.toList_eq], rfl⟩

/-- The first of two numbers that is not 0. -/
def or2 (x y : Int) : Int := if x ≠ 0 then x else y

end Go.Proofs.Ytppmiedhoimgmaa
