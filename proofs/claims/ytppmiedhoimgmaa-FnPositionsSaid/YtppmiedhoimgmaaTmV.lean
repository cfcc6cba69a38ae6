/- Valid terms and atoms, as plain facts on trees: size, depth, names. No condition. -/
import Derived.Test.YtppmiedhoimgmaaName
namespace Go.Proofs.Ytppmiedhoimgmaa
open Go.RowKit
set_option linter.unusedVariables false

/-- The greatest of a measure over a list. -/
def maxL (f : Tm → Nat) : List Tm → Nat
  | [] => 0
  | t :: r => max (f t) (maxL f r)

theorem maxL_append (f : Tm → Nat) (a b : List Tm) : maxL f (a ++ b) = max (maxL f a) (maxL f b) := by
  induction a with
  | nil => simp [maxL]
  | cons t r ih => simp [maxL, ih, Nat.max_assoc]

theorem maxL_next {f : Tm → Nat} {l : List Tm} {k : Nat} {t : Tm} (h : l[k]? = some t) : maxL f (l.take (k + 1)) = max (maxL f (l.take k)) (f t) := by
  rw [take_next h, maxL_append]; simp [maxL]

theorem maxL_mem {f : Tm → Nat} {l : List Tm} {t : Tm} (h : t ∈ l) : f t ≤ maxL f l := by
  induction l with
  | nil => cases h
  | cons s r ih =>
    rcases List.mem_cons.1 h with e | h
    · subst e; simp [maxL]; omega
    · have := ih h; simp [maxL]; omega

theorem maxL_take (f : Tm → Nat) (l : List Tm) (k : Nat) : maxL f (l.take k) ≤ maxL f l := by
  have h := maxL_append f (l.take k) (l.drop k)
  rw [List.take_append_drop] at h
  omega

theorem maxL_all {f : Tm → Nat} {l : List Tm} {k : Nat} (h : l.length ≤ k) : maxL f (l.take k) = maxL f l := by
  rw [List.take_of_length_le h]

theorem maxL_le {f : Tm → Nat} {l : List Tm} {m : Nat} (h : ∀ t ∈ l, f t ≤ m) : maxL f l ≤ m := by
  induction l with
  | nil => simp [maxL]
  | cons t r ih =>
    have h1 := h t List.mem_cons_self
    have h2 := ih (fun s hs => h s (List.mem_cons_of_mem _ hs))
    simp [maxL]; omega

mutual
/-- The number of nodes. -/
def Tm.sz : Tm → Nat
  | .node _ l => 1 + Tm.szL l
def Tm.szL : List Tm → Nat
  | [] => 0
  | t :: r => Tm.sz t + Tm.szL r
end
theorem Tm.szL_sum : ∀ l : List Tm, Tm.szL l = sumL Tm.sz l
  | [] => by simp [Tm.szL, sumL]
  | t :: r => by simp [Tm.szL, sumL, Tm.szL_sum r]
theorem Tm.sz_eq (t : Tm) : t.sz = 1 + sumL Tm.sz t.args := by
  cases t with
  | node n l => rw [Tm.sz, Tm.szL_sum]; rfl
theorem Tm.sz_pos (t : Tm) : 1 ≤ t.sz := by rw [t.sz_eq]; omega

mutual
/-- The depth. -/
def Tm.dp : Tm → Nat
  | .node _ l => Tm.dpL l + 1
def Tm.dpL : List Tm → Nat
  | [] => 0
  | t :: r => max (Tm.dp t) (Tm.dpL r)
end
theorem Tm.dpL_max : ∀ l : List Tm, Tm.dpL l = maxL Tm.dp l
  | [] => by simp [Tm.dpL, maxL]
  | t :: r => by simp [Tm.dpL, maxL, Tm.dpL_max r]
theorem Tm.dp_eq (t : Tm) : t.dp = maxL Tm.dp t.args + 1 := by
  cases t with
  | node n l => rw [Tm.dp, Tm.dpL_max]; rfl

theorem sumL_le_of {f g : Tm → Nat} {l : List Tm} (h : ∀ t ∈ l, f t ≤ g t) : sumL f l ≤ sumL g l := by
  induction l with
  | nil => simp [sumL]
  | cons t r ih =>
    have h1 := h t List.mem_cons_self
    have h2 := ih (fun s hs => h s (List.mem_cons_of_mem _ hs))
    simp [sumL]; omega

theorem sumL_plus (f : Tm → Nat) (l : List Tm) : sumL (fun t => f t + 1) l = sumL f l + l.length := by
  induction l with
  | nil => simp [sumL]
  | cons t r ih => simp [sumL, ih]; omega

theorem maxL_sumL (f : Tm → Nat) (l : List Tm) : maxL f l ≤ sumL f l := maxL_le fun _ h => sumL_mem h

theorem Tm.sz_wt : ∀ t : Tm, t.sz ≤ t.wt + 1 := Tm.ind fun t ih => by
  rw [t.sz_eq, t.wt_eq]
  have h := sumL_le_of (f := Tm.sz) (g := fun s => s.wt + 1) ih
  rw [sumL_plus] at h
  omega

theorem Tm.dp_sz : ∀ t : Tm, t.dp ≤ t.sz := Tm.ind fun t ih => by
  rw [t.sz_eq, t.dp_eq]
  have h := sumL_le_of ih
  have := maxL_sumL Tm.dp t.args
  omega

theorem Tm.lim_of_wt : ∀ t : Tm, ∀ m, t.wt ≤ m → t.lim m := Tm.ind fun t ih m h => by
  have h1 := t.wt_eq
  refine Tm.lim_eq.2 ⟨by omega, by omega, fun s hs => ih s hs m ?_⟩
  have := Tm.wt_arg hs
  omega

theorem Tm.lim_mono {m n : Nat} (h : m ≤ n) : ∀ t : Tm, t.lim m → t.lim n := Tm.ind fun t ih ht => by
  obtain ⟨h1, h2, h3⟩ := Tm.lim_eq.1 ht
  exact Tm.lim_eq.2 ⟨by omega, by omega, fun s hs => ih s hs (h3 s hs)⟩

mutual
/-- Every node has a name and a number of arguments that it may have. -/
def Tm.nodesB : Tm → Bool
  | .node n l => if varB n then l.isEmpty else symB n && (decide (l.length ≤ 4) && Tm.nodesL l)
def Tm.nodesL : List Tm → Bool
  | [] => true
  | t :: r => Tm.nodesB t && Tm.nodesL r
end
theorem Tm.nodesL_all : ∀ l : List Tm, Tm.nodesL l = l.all Tm.nodesB
  | [] => by simp [Tm.nodesL]
  | t :: r => by simp [Tm.nodesL, Tm.nodesL_all r]
theorem Tm.nodesB_var {t : Tm} (h : varB t.name = true) : t.nodesB = t.args.isEmpty := by
  cases t with
  | node n l => rw [Tm.nodesB]; rw [show varB n = true from h]; rfl
theorem Tm.nodesB_sym {t : Tm} (h : varB t.name = false) : t.nodesB = (symB t.name && (decide (t.args.length ≤ 4) && t.args.all Tm.nodesB)) := by
  cases t with
  | node n l => rw [Tm.nodesB, Tm.nodesL_all]; rw [show varB n = false from h]; rfl

theorem var_not_sym {s : ByteArray} (h : varB s = true) : symB s = false := by
  unfold varB at h
  by_cases hp : 0 < s.size
  · rw [dif_pos hp] at h
    have hu : upB s[0] = true := by
      cases hh : upB s[0] with
      | true => rfl
      | false => rw [hh] at h; simp at h
    have hl : loB s[0] = false := by
      unfold upB at hu
      unfold loB
      simp only [Bool.and_eq_true, decide_eq_true_eq] at hu
      have : decide ((97 : Int) ≤ (s[0].toNat : Int)) = false := by simp; omega
      rw [this]; rfl
    unfold symB
    rw [dif_pos hp, hl]; simp
  · rw [dif_neg hp] at h; cases h

def fitsB (t : Tm) : Bool := decide (t.sz ≤ 30) && decide (t.dp ≤ 8)
def goodB (t : Tm) : Bool := fitsB t && t.nodesB
/-- The name of equality. -/
def eqName : ByteArray := ⟨#[61]⟩
def isEqB (s : ByteArray) : Bool := s.toList == [61]
def atomB (t : Tm) : Bool := if isEqB t.name then decide (t.args.length = 2) && (fitsB t && t.args.all Tm.nodesB) else symB t.name && goodB t
def anyB (t : Tm) : Bool := goodB t || atomB t

theorem all_next {p : Tm → Bool} {l : List Tm} {k : Nat} {t : Tm} (h : l[k]? = some t) : (l.take (k + 1)).all p = ((l.take k).all p && p t) := by
  rw [take_next h]; simp [List.all_append]

theorem all_no {p : Tm → Bool} {l : List Tm} {k : Nat} {t : Tm} (h : l[k]? = some t) (hp : p t = false) : l.all p = false := by
  rw [List.all_eq_false]; exact ⟨t, mem_of_at h, by simp [hp]⟩

theorem all_all {p : Tm → Bool} {l : List Tm} {k : Nat} (h : l.length ≤ k) : (l.take k).all p = l.all p := by rw [List.take_of_length_le h]

theorem anyB_fits {t : Tm} (h : anyB t = true) : fitsB t = true := by
  unfold anyB goodB atomB goodB at h
  cases hf : fitsB t with
  | true => rfl
  | false => rw [hf] at h; simp at h

end Go.Proofs.Ytppmiedhoimgmaa
