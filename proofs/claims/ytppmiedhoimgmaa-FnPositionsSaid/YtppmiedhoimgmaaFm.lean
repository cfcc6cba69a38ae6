/- Formulas as plain trees: weight, size, validity, and facts on sums over lists. No condition. -/
import Derived.Test.YtppmiedhoimgmaaTmV
namespace Go.Proofs.Ytppmiedhoimgmaa
open Go.RowKit
set_option linter.unusedVariables false

/-- A formula: its Op, its atom, its variable, its parts. -/
inductive Fm where
  | node (op : Int) (atom : Tm) (var : ByteArray) (parts : List Fm)

instance : Inhabited Fm := ⟨.node 0 default ByteArray.empty []⟩

def Fm.op : Fm → Int
  | .node o _ _ _ => o
def Fm.atom : Fm → Tm
  | .node _ a _ _ => a
def Fm.var : Fm → ByteArray
  | .node _ _ v _ => v
def Fm.parts : Fm → List Fm
  | .node _ _ _ l => l

theorem Fm.eta (t : Fm) : t = .node t.op t.atom t.var t.parts := by cases t; rfl

mutual
theorem Fm.ind' {P : Fm → Prop} (h : ∀ o a v l, (∀ t ∈ l, P t) → P (.node o a v l)) : ∀ t, P t
  | .node o a v l => h o a v l (Fm.indL h l)
theorem Fm.indL {P : Fm → Prop} (h : ∀ o a v l, (∀ t ∈ l, P t) → P (.node o a v l)) : ∀ l : List Fm, ∀ t ∈ l, P t
  | [], t, ht => by cases ht
  | s :: r, t, ht => by
    rcases List.mem_cons.1 ht with e | ht
    · exact e ▸ Fm.ind' h s
    · exact Fm.indL h r t ht
end

theorem Fm.ind {P : Fm → Prop} (h : ∀ t : Fm, (∀ s ∈ t.parts, P s) → P t) (t : Fm) : P t :=
  Fm.ind' (fun o a v l ih => h (.node o a v l) ih) t

/-- The sum of a measure over a list of anything. -/
def sumG {α : Type} (f : α → Nat) : List α → Nat
  | [] => 0
  | t :: r => f t + sumG f r

theorem sumG_append {α : Type} (f : α → Nat) (a b : List α) : sumG f (a ++ b) = sumG f a + sumG f b := by
  induction a with
  | nil => simp [sumG]
  | cons t r ih => simp [sumG, ih]; omega

theorem sumG_next {α : Type} {f : α → Nat} {l : List α} {k : Nat} {t : α} (h : l[k]? = some t) : sumG f (l.take (k + 1)) = sumG f (l.take k) + f t := by
  rw [take_next h, sumG_append]; simp [sumG]

theorem sumG_mem {α : Type} {f : α → Nat} {l : List α} {t : α} (h : t ∈ l) : f t ≤ sumG f l := by
  induction l with
  | nil => cases h
  | cons s r ih =>
    rcases List.mem_cons.1 h with e | h
    · subst e; simp [sumG]
    · have := ih h; simp [sumG]; omega

theorem sumG_take {α : Type} (f : α → Nat) (l : List α) (k : Nat) : sumG f (l.take k) ≤ sumG f l := by
  have h := sumG_append f (l.take k) (l.drop k)
  rw [List.take_append_drop] at h
  omega

theorem sumG_all {α : Type} {f : α → Nat} {l : List α} {k : Nat} (h : l.length ≤ k) : sumG f (l.take k) = sumG f l := by
  rw [List.take_of_length_le h]

theorem sumG_le_of {α : Type} {f g : α → Nat} {l : List α} (h : ∀ t ∈ l, f t ≤ g t) : sumG f l ≤ sumG g l := by
  induction l with
  | nil => simp [sumG]
  | cons t r ih =>
    have h1 := h t List.mem_cons_self
    have h2 := ih (fun s hs => h s (List.mem_cons_of_mem _ hs))
    simp [sumG]; omega

theorem sumG_plus {α : Type} (f : α → Nat) (l : List α) : sumG (fun t => f t + 1) l = sumG f l + l.length := by
  induction l with
  | nil => simp [sumG]
  | cons t r ih => simp [sumG, ih]; omega

mutual
/-- What the laws' size helper counts: the bytes of all names and one for each argument and part. -/
def Fm.wt : Fm → Nat
  | .node _ a v l => a.wt + v.size + l.length + Fm.wtL l
def Fm.wtL : List Fm → Nat
  | [] => 0
  | t :: r => Fm.wt t + Fm.wtL r
end

theorem Fm.wtL_sum : ∀ l : List Fm, Fm.wtL l = sumG Fm.wt l
  | [] => by simp [Fm.wtL, sumG]
  | t :: r => by simp [Fm.wtL, sumG, Fm.wtL_sum r]

theorem Fm.wt_eq (t : Fm) : t.wt = t.atom.wt + t.var.size + t.parts.length + sumG Fm.wt t.parts := by
  cases t with
  | node o a v l => rw [Fm.wt, Fm.wtL_sum]; rfl

theorem Fm.wt_part {t s : Fm} (h : s ∈ t.parts) : s.wt ≤ t.wt := by
  have := sumG_mem (f := Fm.wt) h
  rw [t.wt_eq]; omega

theorem Fm.wt_atom (t : Fm) : t.atom.wt ≤ t.wt := by rw [t.wt_eq]; omega
theorem Fm.wt_var (t : Fm) : t.var.size ≤ t.wt := by rw [t.wt_eq]; omega
theorem Fm.wt_len (t : Fm) : t.parts.length ≤ t.wt := by rw [t.wt_eq]; omega

mutual
/-- Every name and every list is no longer than a limit. -/
def Fm.lim (m : Nat) : Fm → Prop
  | .node _ a v l => a.lim m ∧ v.size ≤ m ∧ l.length ≤ m ∧ Fm.limL m l
def Fm.limL (m : Nat) : List Fm → Prop
  | [] => True
  | t :: r => Fm.lim m t ∧ Fm.limL m r
end

theorem Fm.limL_mem {m : Nat} : ∀ {l : List Fm}, Fm.limL m l ↔ ∀ t ∈ l, Fm.lim m t
  | [] => by simp [Fm.limL]
  | t :: r => by simp [Fm.limL, Fm.limL_mem (l := r)]

theorem Fm.lim_eq {m : Nat} {t : Fm} : t.lim m ↔ t.atom.lim m ∧ t.var.size ≤ m ∧ t.parts.length ≤ m ∧ ∀ s ∈ t.parts, s.lim m := by
  cases t with
  | node o a v l => rw [Fm.lim, Fm.limL_mem]; rfl

theorem Fm.lim_of_wt : ∀ t : Fm, ∀ m, t.wt ≤ m → t.lim m := Fm.ind fun t ih m h => by
  have h1 := t.wt_eq
  refine Fm.lim_eq.2 ⟨Tm.lim_of_wt _ _ (by omega), by omega, by omega, fun s hs => ih s hs m ?_⟩
  have := Fm.wt_part hs
  omega

mutual
def Fm.beq : Fm → Fm → Bool
  | .node n a v l, .node m b u r => decide (n = m) && (decide (a = b) && (decide (v = u) && Fm.beqL l r))
def Fm.beqL : List Fm → List Fm → Bool
  | [], [] => true
  | [], _ :: _ => false
  | _ :: _, [] => false
  | t :: r, s :: q => Fm.beq t s && Fm.beqL r q
end

mutual
theorem Fm.beq_iff : ∀ a b : Fm, Fm.beq a b = true ↔ a = b
  | .node n a v l, .node m b u r => by simp [Fm.beq, Fm.beqL_iff l r]
theorem Fm.beqL_iff : ∀ a b : List Fm, Fm.beqL a b = true ↔ a = b
  | [], [] => by simp [Fm.beqL]
  | [], _ :: _ => by simp [Fm.beqL]
  | _ :: _, [] => by simp [Fm.beqL]
  | t :: r, s :: q => by simp [Fm.beqL, Fm.beq_iff t s, Fm.beqL_iff r q]
end

instance : DecidableEq Fm := fun a b => decidable_of_iff _ (Fm.beq_iff a b)

/-- Equality of formulas, and of lists of formulas, as a Bool. -/
def eqF (a b : Fm) : Bool := decide (a = b)
def eqFs (a b : List Fm) : Bool := decide (a = b)

theorem eqF_self (a : Fm) : eqF a a = true := by simp [eqF]
theorem eqFs_self (a : List Fm) : eqFs a a = true := by simp [eqFs]

theorem eqF_node (a b : Fm) : eqF a b = (decide (a.op = b.op) && (eqT a.atom b.atom && (decide (a.var = b.var) && eqFs a.parts b.parts))) := by
  rw [Bool.eq_iff_iff]
  cases a with
  | node n x v l =>
    cases b with
    | node m y u r =>
      show decide (Fm.node n x v l = Fm.node m y u r) = true ↔ (decide (n = m) && (decide (x = y) && (decide (v = u) && decide (l = r)))) = true
      simp

mutual
/-- The number of formulas. -/
def Fm.sz : Fm → Nat
  | .node _ _ _ l => 1 + Fm.szL l
def Fm.szL : List Fm → Nat
  | [] => 0
  | t :: r => Fm.sz t + Fm.szL r
end
theorem Fm.szL_sum : ∀ l : List Fm, Fm.szL l = sumG Fm.sz l
  | [] => by simp [Fm.szL, sumG]
  | t :: r => by simp [Fm.szL, sumG, Fm.szL_sum r]
theorem Fm.sz_eq (t : Fm) : t.sz = 1 + sumG Fm.sz t.parts := by
  cases t with
  | node o a v l => rw [Fm.sz, Fm.szL_sum]; rfl
theorem Fm.sz_pos (t : Fm) : 1 ≤ t.sz := by rw [t.sz_eq]; omega
theorem Fm.sz_part {t s : Fm} (h : s ∈ t.parts) : s.sz + 1 ≤ t.sz := by
  have := sumG_mem (f := Fm.sz) h
  rw [t.sz_eq]; omega

theorem Fm.sz_wt : ∀ t : Fm, t.sz ≤ t.wt + 1 := Fm.ind fun t ih => by
  rw [t.sz_eq, t.wt_eq]
  have h := sumG_le_of (f := Fm.sz) (g := fun s => s.wt + 1) ih
  rw [sumG_plus] at h
  omega

/-- A term that is the zero value. -/
def noneB (t : Tm) : Bool := decide (t.name.size = 0) && decide (t.args.length = 0)

/-- The three things that a formula's Op asks of its fields: which atom, which variable, how many parts. -/
def formB (f : Fm) : Bool :=
  if f.op = 1 ∨ f.op = 2 then noneB f.atom && (decide (f.var.size = 0) && decide (f.parts.length = 0))
  else if f.op = 3 then atomB f.atom && (decide (f.var.size = 0) && decide (f.parts.length = 0))
  else if f.op = 4 then noneB f.atom && (decide (f.var.size = 0) && decide (f.parts.length = 1))
  else if f.op = 5 ∨ f.op = 6 ∨ f.op = 7 then noneB f.atom && (decide (f.var.size = 0) && decide (f.parts.length = 2))
  else if f.op = 8 ∨ f.op = 9 then noneB f.atom && (varB f.var && decide (f.parts.length = 1))
  else false

mutual
/-- Every formula in it has a valid form. -/
def Fm.formsB : Fm → Bool
  | .node o a v l => formB (.node o a v l) && Fm.formsL l
def Fm.formsL : List Fm → Bool
  | [] => true
  | t :: r => Fm.formsB t && Fm.formsL r
end
theorem Fm.formsL_all : ∀ l : List Fm, Fm.formsL l = l.all Fm.formsB
  | [] => by simp [Fm.formsL]
  | t :: r => by simp [Fm.formsL, Fm.formsL_all r]
theorem Fm.formsB_eq (f : Fm) : f.formsB = (formB f && f.parts.all Fm.formsB) := by
  cases f with
  | node o a v l => rw [Fm.formsB, Fm.formsL_all]; rfl

/-- Valid formulas. -/
def fgoodB (f : Fm) : Bool := decide (f.sz ≤ 40) && f.formsB

theorem allG_next {α : Type} {p : α → Bool} {l : List α} {k : Nat} {t : α} (h : l[k]? = some t) : (l.take (k + 1)).all p = ((l.take k).all p && p t) := by
  rw [take_next h]; simp [List.all_append]
theorem allG_no {α : Type} {p : α → Bool} {l : List α} {k : Nat} {t : α} (h : l[k]? = some t) (hp : p t = false) : l.all p = false := by
  rw [List.all_eq_false]; exact ⟨t, List.mem_of_getElem? h, by simp [hp]⟩
theorem allG_all {α : Type} {p : α → Bool} {l : List α} {k : Nat} (h : l.length ≤ k) : (l.take k).all p = l.all p := by rw [List.take_of_length_le h]

end Go.Proofs.Ytppmiedhoimgmaa
