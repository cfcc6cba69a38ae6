/- A substitution applied to a term, as a function of trees: facts on it. No condition. -/
import Derived.Test.YtnkonhdnccolhaaIdeM
namespace Go.Proofs.Ytnkonhdnccolhaa
open Go.RowKit
set_option linter.unusedVariables false

/-- The term that a list of bindings gives for a variable's name. -/
def look (l : List Bd) (n : ByteArray) : Tm := match l.find? (fun d => decide (d.var = n)) with
  | some d => d.tm
  | none => .node n []
theorem look_some {l : List Bd} {n : ByteArray} {k : Nat} {d : Bd} (hk : l[k]? = some d) (hn : d.var = n) (hf : ∀ j x, j < k → l[j]? = some x → x.var ≠ n) : look l n = d.tm := by
  have h : l.find? (fun d => decide (d.var = n)) = some d := by
    induction l generalizing k with
    | nil => cases hk
    | cons a r ih =>
      cases k with
      | zero =>
        simp at hk; subst hk
        rw [List.find?_cons_of_pos (by simp [hn])]
      | succ k =>
        have ha := hf 0 a (by omega) rfl
        rw [List.find?_cons_of_neg (by simp [ha])]
        exact ih (k := k) (by simpa using hk) (fun j x hj hx => hf (j + 1) x (by omega) (by simpa using hx))
  unfold look; rw [h]
theorem look_none {l : List Bd} {n : ByteArray} (h : boundB l n = false) : look l n = .node n [] := by
  have h2 := bound_no.1 h
  have : l.find? (fun d => decide (d.var = n)) = none := by
    rw [List.find?_eq_none]
    intro d hd
    simp [h2 d hd]
  unfold look; rw [this]

mutual
/-- The term with its variables replaced. -/
def Tm.app (l : List Bd) : Tm → Tm
  | .node n a => if varB n then look l n else .node n (Tm.appL l a)
def Tm.appL (l : List Bd) : List Tm → List Tm
  | [] => []
  | t :: r => t.app l :: Tm.appL l r
end

theorem Tm.app_var {l : List Bd} {t : Tm} (h : varB t.name = true) : t.app l = look l t.name := by
  cases t with
  | node n a => rw [Tm.app]; exact if_pos h
theorem Tm.app_sym {l : List Bd} {t : Tm} (h : varB t.name = false) : t.app l = .node t.name (Tm.appL l t.args) := by
  cases t with
  | node n a => rw [Tm.app, if_neg (by simpa [Tm.name] using h)]; rfl
theorem Tm.appL_len (l : List Bd) : ∀ r : List Tm, (Tm.appL l r).length = r.length
  | [] => rfl
  | t :: r => by rw [Tm.appL, List.length_cons, Tm.appL_len l r, List.length_cons]
theorem Tm.appL_at {l : List Bd} : ∀ {r : List Tm} {k : Nat} {t : Tm}, r[k]? = some t → (Tm.appL l r)[k]? = some (t.app l)
  | [], _, _, h => by cases h
  | a :: r, 0, t, h => by simp at h; subst h; rw [Tm.appL]; rfl
  | a :: r, k + 1, t, h => by rw [Tm.appL]; simpa using Tm.appL_at (r := r) (k := k) (by simpa using h)

/-- What ApplySubstitution answers. -/
def appOk (l : List Bd) (t : Tm) : Bool := goodS l && (anyB t && anyB (t.app l))
def appR (l : List Bd) (t : Tm) : Tm := if appOk l t then t.app l else .node ByteArray.empty []
theorem appR_yes {l : List Bd} {t : Tm} (h : appOk l t = true) : appR l t = t.app l := if_pos h
theorem appR_no {l : List Bd} {t : Tm} (h : appOk l t = false) : appR l t = .node ByteArray.empty [] := if_neg (by rw [h]; simp)

theorem varB_size {s : ByteArray} (h : varB s = true) : s.size ≤ 4 := by
  apply Decidable.byContradiction
  intro hn
  rw [varB_short (by omega)] at h; cases h
theorem symB_size {s : ByteArray} (h : symB s = true) : s.size ≤ 6 := by
  apply Decidable.byContradiction
  intro hn
  rw [symB_short (by omega)] at h; cases h
theorem sumL_le_mul {f g : Tm → Nat} {c : Nat} : ∀ {l : List Tm}, (∀ t ∈ l, f t + 1 ≤ c * g t) → sumL f l + l.length ≤ c * sumL g l
  | [], _ => by simp [sumL]
  | t :: r, h => by
    have h1 := h t List.mem_cons_self
    have h2 := sumL_le_mul (l := r) (fun s hs => h s (List.mem_cons_of_mem _ hs))
    simp only [sumL, List.length_cons, Nat.mul_add]; omega
theorem nodes_wt : ∀ t : Tm, t.nodesB = true → t.wt + 1 ≤ 7 * t.sz := Tm.ind fun t ih => by
  intro h
  rw [t.wt_eq, t.sz_eq]
  cases hv : varB t.name with
  | true =>
    rw [Tm.nodesB_var hv, List.isEmpty_iff] at h
    rw [h]
    have := varB_size hv
    simp [sumL]; omega
  | false =>
    rw [Tm.nodesB_sym hv] at h
    simp only [Bool.and_eq_true, List.all_eq_true, decide_eq_true_iff] at h
    have h1 := symB_size h.1
    have h2 := sumL_le_mul (f := Tm.wt) (g := Tm.sz) (c := 7) (l := t.args) (fun s hs => ih s hs (h.2.2 s hs))
    omega
theorem isEq_size {s : ByteArray} (h : isEqB s = true) : s.size ≤ 1 := by
  unfold isEqB at h
  have e := eq_of_beq h
  rw [ByteArray.toList_eq] at e
  have h2 : s.data.toList.length = 1 := by rw [e]; rfl
  have h3 : s.data.toList.length = s.size := Array.length_toList
  omega
theorem goodB_wt {t : Tm} (h : goodB t = true) : t.wt ≤ 210 := by
  unfold goodB at h
  simp only [Bool.and_eq_true] at h
  have h1 := nodes_wt t h.2
  have h2 : t.sz ≤ 30 := by have := h.1; simp [fitsB] at this; exact this.1
  omega
theorem anyB_wt {t : Tm} (h : anyB t = true) : t.wt ≤ 210 := by
  have hf := anyB_fits h
  have hz : t.sz ≤ 30 := by simp [fitsB] at hf; exact hf.1
  unfold anyB at h
  rcases (Bool.or_eq_true _ _).mp h with h | h
  · exact goodB_wt h
  · unfold atomB at h
    split at h
    · rename_i he
      simp only [Bool.and_eq_true, List.all_eq_true] at h
      have h1 := isEq_size he
      have h2 := sumL_le_mul (f := Tm.wt) (g := Tm.sz) (c := 7) (l := t.args) (fun s hs => nodes_wt s (h.2.2 s hs))
      rw [t.wt_eq]
      rw [t.sz_eq] at hz
      omega
    · simp only [Bool.and_eq_true] at h
      exact goodB_wt h.2

theorem look_wt {l : List Bd} {n : ByteArray} {M : Nat} (h : ∀ d ∈ l, d.tm.wt ≤ M) : (look l n).wt ≤ n.size + M := by
  unfold look
  split
  · rename_i d hd
    have := h d (List.mem_of_find?_eq_some hd); omega
  · rw [Tm.wt_eq]; simp [Tm.name, Tm.args, sumL]
theorem sumL_app {l : List Bd} {M : Nat} : ∀ {r : List Tm}, (∀ s ∈ r, (s.app l).wt ≤ s.wt + s.sz * M) → sumL Tm.wt (Tm.appL l r) ≤ sumL Tm.wt r + sumL Tm.sz r * M
  | [], _ => by simp [Tm.appL, sumL]
  | t :: r, h => by
    have h1 := h t List.mem_cons_self
    have h2 := sumL_app (r := r) (fun s hs => h s (List.mem_cons_of_mem _ hs))
    rw [Tm.appL]
    simp only [sumL, Nat.add_mul]; omega
theorem app_wt {l : List Bd} {M : Nat} (h : ∀ d ∈ l, d.tm.wt ≤ M) : ∀ t : Tm, (t.app l).wt ≤ t.wt + t.sz * M := Tm.ind fun t ih => by
  cases hv : varB t.name with
  | true =>
    rw [Tm.app_var hv]
    have h1 := look_wt (n := t.name) h
    have h2 := t.wt_name
    have h3 : M ≤ t.sz * M := Nat.le_mul_of_pos_left M t.sz_pos
    omega
  | false =>
    rw [Tm.app_sym hv, Tm.wt_eq (.node _ _), t.wt_eq, t.sz_eq]
    show t.name.size + (Tm.appL l t.args).length + sumL Tm.wt (Tm.appL l t.args) ≤ _
    rw [Tm.appL_len]
    have h2 := sumL_app (r := t.args) ih
    rw [Nat.add_mul, Nat.one_mul]; omega
theorem app_wt_good {l : List Bd} {t : Tm} (hl : goodS l = true) (ht : anyB t = true) : (t.app l).wt ≤ 6510 := by
  have h1 := app_wt (l := l) (M := 210) (fun d hd => by obtain ⟨k, hk⟩ := List.getElem?_of_mem hd; exact goodB_wt (okAt_good (goodS_at hl hk))) t
  have hf := anyB_fits ht
  have hz : t.sz ≤ 30 := by simp [fitsB] at hf; exact hf.1
  have h2 := anyB_wt ht
  have h3 : t.sz * 210 ≤ 30 * 210 := Nat.mul_le_mul_right _ hz
  omega
theorem appR_wt (l : List Bd) (t : Tm) : (appR l t).wt ≤ 1048576 := by
  cases h : appOk l t with
  | true =>
    rw [appR_yes h]
    unfold appOk at h
    simp only [Bool.and_eq_true] at h
    have := anyB_wt h.2.2; omega
  | false => rw [appR_no h, Tm.wt_eq]; simp [Tm.name, Tm.args, sumL]

end Go.Proofs.Ytnkonhdnccolhaa
