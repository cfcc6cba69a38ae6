/- Validity of a list of bindings, as a Bool: facts on it. No condition. -/
import Derived.Test.YtgpmdfhepanahaaGreatBd
import Derived.Test.YtgpmdfhepanahaaGreatImplV2
import Derived.Test.YtgpmdfhepanahaaGreatSpecV
namespace Go.Proofs.YtgpmdfhepanahaaGreat
open Go.RowKit
set_option linter.unusedVariables false

def lessN (a b : ByteArray) : Bool := Op.bytesLess a.toList b.toList
def sameB (a b : ByteArray) : Bool := a.toList == b.toList

/-- The k-th binding d of a list keeps the rules of a valid substitution. -/
def okAt (l : List Bd) (k : Nat) (d : Bd) : Bool :=
  varB d.var && (goodB d.tm && (!sameB d.tm.name d.var && (match k with
    | 0 => true
    | j + 1 => match l[j]? with
      | some p => lessN p.var d.var
      | none => true)))

/-- The first k bindings keep them. -/
def okS (l : List Bd) (k : Nat) : Bool := (List.range k).all fun j => match l[j]? with
  | some d => okAt l j d
  | none => true

theorem okS_next {l : List Bd} {k : Nat} {d : Bd} (h : l[k]? = some d) : okS l (k + 1) = (okS l k && okAt l k d) := by
  unfold okS
  rw [List.range_succ, List.all_append]
  simp [h]

theorem okS_no {l : List Bd} {k : Nat} {d : Bd} (h : l[k]? = some d) (ho : okAt l k d = false) : okS l l.length = false := by
  unfold okS
  rw [List.all_eq_false]
  refine ⟨k, List.mem_range.2 (List.getElem?_eq_some_iff.1 h).1, ?_⟩
  simp [h, ho]

def goodS (l : List Bd) : Bool := decide (l.length ≤ 12) && okS l l.length
theorem goodS_len {l : List Bd} (h : 12 < l.length) : goodS l = false := by unfold goodS; rw [decide_eq_false (by omega)]; rfl
theorem goodS_ok {l : List Bd} (h : l.length ≤ 12) : goodS l = okS l l.length := by unfold goodS; rw [decide_eq_true h]; rfl
theorem goodS_no {l : List Bd} (h : okS l l.length = false) : goodS l = false := by unfold goodS; rw [h]; simp

theorem okS_at {l : List Bd} (h : okS l l.length = true) {k : Nat} {d : Bd} (hk : l[k]? = some d) : okAt l k d = true := by
  cases ho : okAt l k d with
  | true => rfl
  | false => rw [okS_no hk ho] at h; cases h
theorem goodS_at {l : List Bd} (h : goodS l = true) {k : Nat} {d : Bd} (hk : l[k]? = some d) : okAt l k d = true := by
  unfold goodS at h
  rw [Bool.and_eq_true] at h
  exact okS_at h.2 hk
theorem goodS_le {l : List Bd} (h : goodS l = true) : l.length ≤ 12 := by
  unfold goodS at h
  rw [Bool.and_eq_true] at h
  exact of_decide_eq_true h.1
theorem okAt_var {l : List Bd} {k : Nat} {d : Bd} (h : okAt l k d = true) : varB d.var = true := by
  unfold okAt at h; rw [Bool.and_eq_true] at h; exact h.1
theorem okAt_good {l : List Bd} {k : Nat} {d : Bd} (h : okAt l k d = true) : goodB d.tm = true := by
  unfold okAt at h; rw [Bool.and_eq_true, Bool.and_eq_true] at h; exact h.2.1
theorem okAt_less {l : List Bd} {k : Nat} {p d : Bd} (h : okAt l (k + 1) d = true) (hp : l[k]? = some p) : lessN p.var d.var = true := by
  unfold okAt at h; rw [Bool.and_eq_true, Bool.and_eq_true, Bool.and_eq_true] at h
  have := h.2.2.2
  simpa [hp] using this

/-- What the tests of one binding say, one by one. -/
theorem okAt_v {l : List Bd} {k : Nat} {d : Bd} (h : varB d.var = false) : okAt l k d = false := by unfold okAt; rw [h]; rfl
theorem okAt_g {l : List Bd} {k : Nat} {d : Bd} (h : goodB d.tm = false) : okAt l k d = false := by unfold okAt; rw [h]; simp
theorem okAt_s {l : List Bd} {k : Nat} {d : Bd} (h : sameB d.tm.name d.var = true) : okAt l k d = false := by unfold okAt; rw [h]; simp
theorem okAt_l {l : List Bd} {k : Nat} {p d : Bd} (hp : l[k]? = some p) (h : lessN p.var d.var = false) : okAt l (k + 1) d = false := by unfold okAt; simp [hp, h]
theorem okAt_0 {l : List Bd} {d : Bd} (h1 : varB d.var = true) (h2 : goodB d.tm = true) (h3 : sameB d.tm.name d.var = false) : okAt l 0 d = true := by unfold okAt; simp [h1, h2, h3]
theorem okAt_1 {l : List Bd} {k : Nat} {p d : Bd} (h1 : varB d.var = true) (h2 : goodB d.tm = true) (h3 : sameB d.tm.name d.var = false) (hp : l[k]? = some p) (h : lessN p.var d.var = true) : okAt l (k + 1) d = true := by unfold okAt; simp [h1, h2, h3, hp, h]

theorem limB_of_wt {l : List Bd} {m : Nat} (h : wtB l ≤ m) : limB m l :=
  ⟨Nat.le_trans (wtB_len l) h, fun d hd => ⟨Nat.le_trans (wtB_var hd) h, Tm.lim_of_wt d.tm m (Nat.le_trans (wtB_tm hd) h)⟩⟩

end Go.Proofs.YtgpmdfhepanahaaGreat
