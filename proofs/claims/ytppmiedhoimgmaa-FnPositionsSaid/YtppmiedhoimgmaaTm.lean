/- Terms as plain trees: weight, and facts on sums over lists. No condition. -/
namespace Go.Proofs.Ytppmiedhoimgmaa

/-- A term: a name and arguments. -/
inductive Tm where
  | node (name : ByteArray) (args : List Tm)

instance : Inhabited Tm := ⟨.node ByteArray.empty []⟩

def Tm.name : Tm → ByteArray
  | .node n _ => n
def Tm.args : Tm → List Tm
  | .node _ l => l

theorem Tm.eta (t : Tm) : t = .node t.name t.args := by cases t; rfl

mutual
theorem Tm.ind' {P : Tm → Prop} (h : ∀ n l, (∀ t ∈ l, P t) → P (.node n l)) : ∀ t, P t
  | .node n l => h n l (Tm.indL h l)
theorem Tm.indL {P : Tm → Prop} (h : ∀ n l, (∀ t ∈ l, P t) → P (.node n l)) : ∀ l : List Tm, ∀ t ∈ l, P t
  | [], t, ht => by cases ht
  | s :: r, t, ht => by
    rcases List.mem_cons.1 ht with e | ht
    · exact e ▸ Tm.ind' h s
    · exact Tm.indL h r t ht
end

theorem Tm.ind {P : Tm → Prop} (h : ∀ t : Tm, (∀ s ∈ t.args, P s) → P t) (t : Tm) : P t :=
  Tm.ind' (fun n l ih => h (.node n l) ih) t

/-- The sum of a measure over a list. -/
def sumL (f : Tm → Nat) : List Tm → Nat
  | [] => 0
  | t :: r => f t + sumL f r

theorem sumL_append (f : Tm → Nat) (a b : List Tm) : sumL f (a ++ b) = sumL f a + sumL f b := by
  induction a with
  | nil => simp [sumL]
  | cons t r ih => simp [sumL, ih]; omega

theorem take_next {α : Type} {l : List α} {k : Nat} {t : α} (h : l[k]? = some t) : l.take (k + 1) = l.take k ++ [t] := by
  rw [List.take_add_one, h]; rfl

theorem sumL_next {f : Tm → Nat} {l : List Tm} {k : Nat} {t : Tm} (h : l[k]? = some t) : sumL f (l.take (k + 1)) = sumL f (l.take k) + f t := by
  rw [take_next h, sumL_append]; simp [sumL]

theorem sumL_mem {f : Tm → Nat} {l : List Tm} {t : Tm} (h : t ∈ l) : f t ≤ sumL f l := by
  induction l with
  | nil => cases h
  | cons s r ih =>
    rcases List.mem_cons.1 h with e | h
    · subst e; simp [sumL]
    · have := ih h; simp [sumL]; omega

theorem sumL_take (f : Tm → Nat) (l : List Tm) (k : Nat) : sumL f (l.take k) ≤ sumL f l := by
  have h := sumL_append f (l.take k) (l.drop k)
  rw [List.take_append_drop] at h
  omega

theorem sumL_all {f : Tm → Nat} {l : List Tm} {k : Nat} (h : l.length ≤ k) : sumL f (l.take k) = sumL f l := by
  rw [List.take_of_length_le h]

theorem mem_of_at {α : Type} {l : List α} {k : Nat} {t : α} (h : l[k]? = some t) : t ∈ l := List.mem_of_getElem? h

mutual
/-- What the laws' size helper counts: the bytes of all names and one for each argument. -/
def Tm.wt : Tm → Nat
  | .node n l => n.size + l.length + Tm.wtL l
def Tm.wtL : List Tm → Nat
  | [] => 0
  | t :: r => Tm.wt t + Tm.wtL r
end

theorem Tm.wtL_sum : ∀ l : List Tm, Tm.wtL l = sumL Tm.wt l
  | [] => by simp [Tm.wtL, sumL]
  | t :: r => by simp [Tm.wtL, sumL, Tm.wtL_sum r]

theorem Tm.wt_eq (t : Tm) : t.wt = t.name.size + t.args.length + sumL Tm.wt t.args := by
  cases t with
  | node n l => rw [Tm.wt, Tm.wtL_sum]; rfl

theorem Tm.wt_arg {t s : Tm} (h : s ∈ t.args) : s.wt ≤ t.wt := by
  have := sumL_mem (f := Tm.wt) h
  rw [t.wt_eq]; omega

theorem Tm.wt_name (t : Tm) : t.name.size ≤ t.wt := by rw [t.wt_eq]; omega
theorem Tm.wt_len (t : Tm) : t.args.length ≤ t.wt := by rw [t.wt_eq]; omega

mutual
/-- Every name and every list of arguments is no longer than a limit. -/
def Tm.lim (m : Nat) : Tm → Prop
  | .node n l => n.size ≤ m ∧ l.length ≤ m ∧ Tm.limL m l
def Tm.limL (m : Nat) : List Tm → Prop
  | [] => True
  | t :: r => Tm.lim m t ∧ Tm.limL m r
end

theorem Tm.limL_mem {m : Nat} : ∀ {l : List Tm}, Tm.limL m l ↔ ∀ t ∈ l, Tm.lim m t
  | [] => by simp [Tm.limL]
  | t :: r => by simp [Tm.limL, Tm.limL_mem (l := r)]

theorem Tm.lim_eq {m : Nat} {t : Tm} : t.lim m ↔ t.name.size ≤ m ∧ t.args.length ≤ m ∧ ∀ s ∈ t.args, s.lim m := by
  cases t with
  | node n l => rw [Tm.lim, Tm.limL_mem]; rfl

mutual
def Tm.beq : Tm → Tm → Bool
  | .node n l, .node m r => decide (n = m) && Tm.beqL l r
def Tm.beqL : List Tm → List Tm → Bool
  | [], [] => true
  | [], _ :: _ => false
  | _ :: _, [] => false
  | t :: r, s :: q => Tm.beq t s && Tm.beqL r q
end

mutual
theorem Tm.beq_iff : ∀ a b : Tm, Tm.beq a b = true ↔ a = b
  | .node n l, .node m r => by simp [Tm.beq, Tm.beqL_iff l r]
theorem Tm.beqL_iff : ∀ a b : List Tm, Tm.beqL a b = true ↔ a = b
  | [], [] => by simp [Tm.beqL]
  | [], _ :: _ => by simp [Tm.beqL]
  | _ :: _, [] => by simp [Tm.beqL]
  | t :: r, s :: q => by simp [Tm.beqL, Tm.beq_iff t s, Tm.beqL_iff r q]
end

instance : DecidableEq Tm := fun a b => decidable_of_iff _ (Tm.beq_iff a b)

/-- Equality of terms, and of lists of terms, as a Bool. -/
def eqT (a b : Tm) : Bool := decide (a = b)
def eqTs (a b : List Tm) : Bool := decide (a = b)

theorem eqT_self (a : Tm) : eqT a a = true := by simp [eqT]
theorem eqTs_self (a : List Tm) : eqTs a a = true := by simp [eqTs]

theorem eqT_node (a b : Tm) : eqT a b = (decide (a.name = b.name) && eqTs a.args b.args) := by
  rw [Bool.eq_iff_iff]
  cases a with
  | node n l =>
    cases b with
    | node m r =>
      show decide (Tm.node n l = Tm.node m r) = true ↔ (decide (n = m) && decide (l = r)) = true
      rw [decide_eq_true_iff, Bool.and_eq_true, decide_eq_true_iff, decide_eq_true_iff]
      exact ⟨fun h => by injection h with h1 h2; exact ⟨h1, h2⟩, fun h => by rw [h.1, h.2]⟩

theorem list_ext_at {l r : List Tm} (hl : l.length = r.length) (h : ∀ j, j < l.length → l[j]? = r[j]?) : l = r := by
  apply List.ext_getElem? 
  intro j
  by_cases hj : j < l.length
  · exact h j hj
  · rw [List.getElem?_eq_none (by omega), List.getElem?_eq_none (by omega)]

end Go.Proofs.Ytppmiedhoimgmaa
