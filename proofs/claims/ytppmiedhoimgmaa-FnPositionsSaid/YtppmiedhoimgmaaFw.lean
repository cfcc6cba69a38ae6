/- How long the names of valid terms and formulas are. No condition. -/
import Derived.Test.YtppmiedhoimgmaaFm
namespace Go.Proofs.Ytppmiedhoimgmaa
open Go.RowKit
set_option linter.unusedVariables false
set_option linter.unusedSimpArgs false
theorem varB_size {s : ByteArray} (h : varB s = true) : s.size ≤ 4 := by
  apply Decidable.byContradiction
  intro hn
  rw [varB_short (by omega)] at h; cases h
theorem symB_size {s : ByteArray} (h : symB s = true) : s.size ≤ 6 := by
  apply Decidable.byContradiction
  intro hn
  rw [symB_short (by omega)] at h; cases h
theorem sumL_le_mul {f g : Tm → Nat} {c : Nat} : ∀ {l : List Tm}, (∀ t ∈ l, f t + 1 ≤ c * g t) → sumL f l + l.length ≤ c * sumL g l
  | [], _ => by simp [sumL]
  | t :: r, h => by
    have h1 := h t List.mem_cons_self
    have h2 := sumL_le_mul (l := r) (fun s hs => h s (List.mem_cons_of_mem _ hs))
    simp only [sumL, List.length_cons, Nat.mul_add]; omega
theorem nodes_wt : ∀ t : Tm, t.nodesB = true → t.wt + 1 ≤ 7 * t.sz := Tm.ind fun t ih => by
  intro h
  rw [t.wt_eq, t.sz_eq]
  cases hv : varB t.name with
  | true =>
    rw [Tm.nodesB_var hv, List.isEmpty_iff] at h
    rw [h]
    have := varB_size hv
    simp [sumL]; omega
  | false =>
    rw [Tm.nodesB_sym hv] at h
    simp only [Bool.and_eq_true, List.all_eq_true, decide_eq_true_iff] at h
    have h1 := symB_size h.1
    have h2 := sumL_le_mul (f := Tm.wt) (g := Tm.sz) (c := 7) (l := t.args) (fun s hs => ih s hs (h.2.2 s hs))
    omega
theorem isEq_size {s : ByteArray} (h : isEqB s = true) : s.size ≤ 1 := by
  unfold isEqB at h
  have e := eq_of_beq h
  rw [ByteArray.toList_eq] at e
  have h2 : s.data.toList.length = 1 := by rw [e]; rfl
  have h3 : s.data.toList.length = s.size := Array.length_toList
  omega
theorem goodB_wt {t : Tm} (h : goodB t = true) : t.wt ≤ 210 := by
  unfold goodB at h
  simp only [Bool.and_eq_true] at h
  have h1 := nodes_wt t h.2
  have h2 : t.sz ≤ 30 := by have := h.1; simp [fitsB] at this; exact this.1
  omega
theorem anyB_wt {t : Tm} (h : anyB t = true) : t.wt ≤ 210 := by
  have hf := anyB_fits h
  have hz : t.sz ≤ 30 := by simp [fitsB] at hf; exact hf.1
  unfold anyB at h
  rcases (Bool.or_eq_true _ _).mp h with h | h
  · exact goodB_wt h
  · unfold atomB at h
    split at h
    · rename_i he
      simp only [Bool.and_eq_true, List.all_eq_true] at h
      have h1 := isEq_size he
      have h2 := sumL_le_mul (f := Tm.wt) (g := Tm.sz) (c := 7) (l := t.args) (fun s hs => nodes_wt s (h.2.2 s hs))
      rw [t.wt_eq]
      rw [t.sz_eq] at hz
      omega
    · simp only [Bool.and_eq_true] at h
      exact goodB_wt h.2

def zeroF : Fm := .node 0 (.node ⟨#[]⟩ []) ⟨#[]⟩ []
theorem zeroF_wt : zeroF.wt = 0 := by
  have h : (Tm.node ⟨#[]⟩ []).wt = 0 := by rw [Tm.wt_eq]; rfl
  rw [Fm.wt_eq]
  show (Tm.node ⟨#[]⟩ []).wt + 0 + 0 + sumG Fm.wt [] = _
  rw [h]; rfl

theorem form3 {t : Fm} (h : formB t = true) (h3 : t.op = 3) : atomB t.atom = true ∧ t.parts = [] := by
  unfold formB at h
  rw [if_neg (by omega), if_pos h3] at h
  simp only [Bool.and_eq_true, decide_eq_true_eq] at h
  exact ⟨h.1, List.length_eq_zero_iff.1 h.2.2⟩
theorem forms_parts {t : Fm} (h : t.formsB = true) : formB t = true ∧ ∀ s ∈ t.parts, s.formsB = true := by
  rw [t.formsB_eq, Bool.and_eq_true, List.all_eq_true] at h
  exact h
theorem fgood_open {t : Fm} (h : fgoodB t = true) : t.sz ≤ 40 ∧ t.formsB = true := by
  unfold fgoodB at h
  simpa using h
theorem form_wt {t : Fm} (h : formB t = true) : t.atom.wt + t.var.size + t.parts.length ≤ 300 := by
  have hn : noneB t.atom = true → t.atom.wt = 0 := fun h => by
    unfold noneB at h
    simp only [Bool.and_eq_true, decide_eq_true_eq] at h
    have e : t.atom.args = [] := List.length_eq_zero_iff.1 h.2
    rw [Tm.wt_eq, e, h.1]; rfl
  by_cases h3 : t.op = 3
  · have h1 := form3 h h3
    have h2 := anyB_wt (t := t.atom) (by simp [anyB, h1.1])
    unfold formB at h
    rw [if_neg (by omega), if_pos h3] at h
    simp only [Bool.and_eq_true, decide_eq_true_eq] at h
    have := h.2.1
    have := h.2.2
    omega
  · unfold formB at h
    split at h
    · simp only [Bool.and_eq_true, decide_eq_true_eq] at h; have := hn h.1; have := h.2.1; have := h.2.2; omega
    split at h
    · simp only [Bool.and_eq_true, decide_eq_true_eq] at h; have := hn h.1; have := h.2.1; have := h.2.2; omega
    split at h
    · simp only [Bool.and_eq_true, decide_eq_true_eq] at h; have := hn h.1; have := h.2.1; have := h.2.2; omega
    split at h
    · simp only [Bool.and_eq_true, decide_eq_true_eq] at h; have := hn h.1; have := varB_size h.2.1; have := h.2.2; omega
    · cases h
theorem forms_wt : ∀ t : Fm, t.formsB = true → t.wt ≤ 300 * t.sz := Fm.ind fun t ih => by
  intro h
  obtain ⟨hf, hp⟩ := forms_parts h
  rw [t.wt_eq, t.sz_eq]
  have h1 := form_wt hf
  have key : ∀ ps : List Fm, (∀ s ∈ ps, s.formsB = true → Fm.wt s ≤ 300 * s.sz) → (∀ s ∈ ps, s.formsB = true) → sumG Fm.wt ps ≤ 300 * sumG Fm.sz ps := by
    intro ps
    induction ps with
    | nil => intro _ _; simp [sumG]
    | cons s r ihr =>
      intro h1 h2
      have a := h1 s List.mem_cons_self (h2 s List.mem_cons_self)
      have b := ihr (fun x hx => h1 x (List.mem_cons_of_mem _ hx)) (fun x hx => h2 x (List.mem_cons_of_mem _ hx))
      simp only [sumG]; omega
  have h2 := key t.parts ih hp
  omega
end Go.Proofs.Ytppmiedhoimgmaa
