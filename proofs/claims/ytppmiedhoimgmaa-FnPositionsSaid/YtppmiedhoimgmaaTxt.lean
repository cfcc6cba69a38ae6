/- The text of a term, as a plain list of bytes, and how it grows argument by argument. No condition. -/
import Derived.Test.YtppmiedhoimgmaaTmV
namespace Go.Proofs.Ytppmiedhoimgmaa
open Go.RowKit
set_option linter.unusedVariables false

mutual
/-- The text of a term: its name, and its arguments in brackets. -/
def Tm.txt : Tm → List UInt8
  | .node n [] => n.data.toList
  | .node n (t :: r) => n.data.toList ++ 40 :: (Tm.txt t ++ (Tm.txtC r ++ [41]))
def Tm.txtC : List Tm → List UInt8
  | [] => []
  | t :: r => 44 :: (Tm.txt t ++ Tm.txtC r)
end

/-- The texts of the terms, each with the separator ahead of it. -/
def jnC (sep : List UInt8) : List Tm → List UInt8
  | [] => []
  | t :: r => sep ++ (t.txt ++ jnC sep r)
/-- The texts of the terms with the separator between them. -/
def jn (sep : List UInt8) : List Tm → List UInt8
  | [] => []
  | t :: r => t.txt ++ jnC sep r

theorem Tm.txtC_eq : ∀ l : List Tm, Tm.txtC l = jnC [44] l
  | [] => by simp [Tm.txtC, jnC]
  | t :: r => by simp [Tm.txtC, jnC, Tm.txtC_eq r]

/-- What stands behind the name. -/
def brk (l : List Tm) : List UInt8 := if l.length = 0 then [] else 40 :: (jn [44] l ++ [41])

theorem Tm.txt_eq (t : Tm) : t.txt = t.name.data.toList ++ brk t.args := by
  cases t with
  | node n l =>
    cases l with
    | nil => simp [Tm.txt, Tm.name, Tm.args, brk]
    | cons t r => simp [Tm.txt, Tm.name, Tm.args, brk, jn, Tm.txtC_eq]

theorem Tm.txt_none {t : Tm} (h : t.args.length = 0) : t.txt = t.name.data.toList := by rw [t.txt_eq, brk, if_pos h, List.append_nil]
theorem Tm.txt_some {t : Tm} (h : 0 < t.args.length) : t.txt = t.name.data.toList ++ 40 :: (jn [44] t.args ++ [41]) := by rw [t.txt_eq, brk, if_neg (by omega)]

theorem jnC_append (sep : List UInt8) (a b : List Tm) : jnC sep (a ++ b) = jnC sep a ++ jnC sep b := by
  induction a with
  | nil => simp [jnC]
  | cons t r ih => simp [jnC, ih]

theorem jn_next {sep : List UInt8} {l : List Tm} {k : Nat} {t : Tm} (h : l[k]? = some t) (hk : 0 < k) : jn sep (l.take (k + 1)) = jn sep (l.take k) ++ (sep ++ t.txt) := by
  rw [take_next h]
  cases l with
  | nil => cases h
  | cons s r =>
    cases k with
    | zero => omega
    | succ k => simp [jn, jnC_append, jnC]

theorem jn_first {sep : List UInt8} {l : List Tm} {t : Tm} (h : l[0]? = some t) : jn sep (l.take 1) = t.txt := by
  rw [show (1 : Nat) = 0 + 1 from rfl, take_next h]; simp [jn, jnC]

theorem jn_all {sep : List UInt8} {l : List Tm} {k : Nat} (h : l.length ≤ k) : jn sep (l.take k) = jn sep l := by rw [List.take_of_length_le h]

theorem jn_one (sep : List UInt8) (t : Tm) : jn sep [t] = t.txt := by simp [jn, jnC]
theorem jn_two (sep : List UInt8) (s t : Tm) : jn sep [s, t] = s.txt ++ (sep ++ t.txt) := by simp [jn, jnC]

theorem jnC_len (sep : List UInt8) : ∀ l : List Tm, (jnC sep l).length = sumL (fun t => t.txt.length + sep.length) l
  | [] => by simp [jnC, sumL]
  | t :: r => by simp [jnC, sumL, jnC_len sep r]; omega

theorem jn_len_le (sep : List UInt8) : ∀ l : List Tm, (jn sep l).length ≤ sumL (fun t => t.txt.length + sep.length) l
  | [] => by simp [jn]
  | t :: r => by simp only [jn, sumL, List.length_append, jnC_len sep r]; omega

/-- A text has at most three bytes for each thing that the weight counts. -/
theorem Tm.txt_wt : ∀ t : Tm, t.txt.length ≤ 3 * t.wt := Tm.ind fun t ih => by
  have hw := t.wt_eq
  have hn : t.name.data.toList.length = t.name.size := by rw [Array.length_toList]; rfl
  by_cases h0 : t.args.length = 0
  · rw [Tm.txt_none h0, hn]; omega
  · rw [Tm.txt_some (by omega)]
    have h1 := jn_len_le [44] t.args
    have h2 := sumL_le_of (f := fun s : Tm => s.txt.length + [(44 : UInt8)].length) (g := fun s => 3 * s.wt + 1) (l := t.args) (fun s hs => by have := ih s hs; simp; omega)
    have h3 := sumL_plus (fun s => 3 * s.wt) t.args
    have h4 : sumL (fun s => 3 * s.wt) t.args = 3 * sumL Tm.wt t.args := by
      generalize t.args = l
      induction l with
      | nil => simp [sumL]
      | cons a r ih => simp only [sumL, ih]; omega
    simp only [List.length_append, List.length_cons, List.length_nil]
    omega

/-- What a loop over the arguments has written after k rounds. -/
def part (t : Tm) (k : Nat) : List UInt8 := t.name.data.toList ++ (if k = 0 then [] else 40 :: jn [44] (t.args.take k))
theorem part_zero (t : Tm) : part t 0 = t.name.data.toList := by simp [part]
theorem part_first {t s : Tm} (h : t.args[0]? = some s) : part t 1 = t.name.data.toList ++ [40] ++ s.txt := by
  rw [part, if_neg (by omega), jn_first h]; simp
theorem part_next {t s : Tm} {k : Nat} (h : t.args[k]? = some s) (hk : 0 < k) : part t (k + 1) = part t k ++ [44] ++ s.txt := by
  rw [part, part, if_neg (by omega), if_neg (by omega), jn_next h hk]; simp
theorem part_all {t : Tm} (h : 0 < t.args.length) : part t t.args.length ++ [41] = t.txt := by
  rw [part, if_neg (by omega), jn_all (Nat.le_refl _), Tm.txt_some h]; simp

theorem jn_len_append (sep : List UInt8) (a b : List Tm) : (jn sep a).length ≤ (jn sep (a ++ b)).length := by
  cases a with
  | nil => simp [jn]
  | cons t r => simp only [jn, List.cons_append, jnC_append, List.length_append]; omega
theorem part_len {t : Tm} {k : Nat} (hk : k ≤ t.args.length) : (part t k).length ≤ t.txt.length := by
  by_cases h0 : k = 0
  · subst h0
    rw [part_zero, t.txt_eq, List.length_append]; omega
  · have h := jn_len_append [44] (t.args.take k) (t.args.drop k)
    rw [List.take_append_drop] at h
    rw [part, if_neg h0, Tm.txt_some (by omega)]
    simp only [List.length_append, List.length_cons, List.length_nil]
    omega

/-- A list of bytes as a string. -/
def bs (l : List UInt8) : ByteArray := ⟨l.toArray⟩
theorem bs_append (a b : List UInt8) : bs a ++ bs b = bs (a ++ b) := by
  apply ByteArray.ext; simp [bs]
theorem bs_of (s : ByteArray) : bs s.data.toList = s := by
  apply ByteArray.ext; simp [bs]
theorem bs_list (l : List UInt8) : (bs l).data.toList = l := by simp [bs]
theorem bs_size (l : List UInt8) : (bs l).size = l.length := by simp [bs, ByteArray.size]
theorem app_size (s t : ByteArray) : (s ++ t).size = s.size + t.size := ByteArray.size_append
theorem bs_inj {a b : List UInt8} (h : bs a = bs b) : a = b := by
  have := congrArg (fun s : ByteArray => s.data.toList) h
  simpa [bs] using this

/-- The text of an expression: of an equality, both sides with the sign between them. -/
def txtX (sign : List UInt8) (t : Tm) : List UInt8 := if isEqB t.name then jn sign t.args else t.txt
def eqSign : List UInt8 := [32, 61, 32]
def neSign : List UInt8 := [32, 33, 61, 32]
def fmtA (t : Tm) : ByteArray := if anyB t then bs (txtX eqSign t) else bs []
theorem fmtA_yes {t : Tm} (h : anyB t = true) : fmtA t = bs (txtX eqSign t) := by simp [fmtA, h]
theorem fmtA_no {t : Tm} (h : anyB t = false) : fmtA t = bs [] := by simp [fmtA, h]

end Go.Proofs.Ytppmiedhoimgmaa
