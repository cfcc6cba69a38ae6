/- The list of a term's variables, and its nodes: plain facts. No condition. -/
import Derived.Test.YtohalpafmcobpaaVarS
import Derived.Test.YtohalpafmcobpaaIter
import Derived.Test.YtohalpafmcobpaaFmtS
namespace Go.Proofs.Ytohalpafmcobpaa
open Go.RowKit
set_option linter.unusedVariables false

/-- The variables' names among these nodes. -/
def vn (l : List Tm) : List ByteArray := (l.filter fun s => varB s.name).map Tm.name

theorem vn_cons (t : Tm) (l : List Tm) : vn (t :: l) = if varB t.name then t.name :: vn l else vn l := by
  unfold vn
  rw [List.filter_cons]
  split <;> simp
theorem vn_append (a b : List Tm) : vn (a ++ b) = vn a ++ vn b := by simp [vn]

def putAll (n : List ByteArray) (l : List ByteArray) : List ByteArray := n.foldl (fun l s => putS s l) l
theorem putAll_append (a b l : List ByteArray) : putAll (a ++ b) l = putAll b (putAll a l) := by simp [putAll]

theorem into_fold : ∀ t : Tm, (∀ s ∈ t.nds, varB s.name = true → s.args = []) → ∀ l, t.into l = putAll (vn t.nds) l := Tm.ind fun t ih => by
  intro h l
  rw [Tm.into_eq, t.nds_eq, vn_cons]
  cases hv : varB t.name with
  | true =>
    have he := h t (by rw [t.nds_eq]; exact List.mem_cons_self) hv
    rw [he]
    simp [Tm.ndsL, vn, putAll]
  | false =>
    have hh : ∀ s ∈ Tm.ndsL t.args, varB s.name = true → s.args = [] := fun s hs => h s (by rw [t.nds_eq]; exact List.mem_cons_of_mem _ hs)
    clear h
    have key : ∀ (a : List Tm), (∀ x ∈ a, (∀ s ∈ x.nds, varB s.name = true → s.args = []) → ∀ l, x.into l = putAll (vn x.nds) l) → (∀ s ∈ Tm.ndsL a, varB s.name = true → s.args = []) → ∀ l, Tm.intoL a l = putAll (vn (Tm.ndsL a)) l := by
      intro a
      induction a with
      | nil => intro _ _ l; simp [Tm.intoL, Tm.ndsL, vn, putAll]
      | cons x r ih2 =>
        intro h1 h2 l
        rw [Tm.intoL, Tm.ndsL, vn_append, putAll_append]
        rw [h1 x List.mem_cons_self (fun s hs => h2 s (by rw [Tm.ndsL]; exact List.mem_append_left _ hs)) l]
        exact ih2 (fun y hy => h1 y (List.mem_cons_of_mem _ hy)) (fun s hs => h2 s (by rw [Tm.ndsL]; exact List.mem_append_right _ hs)) _
    exact key t.args ih hh l

theorem ndsL_mem {s : Tm} : ∀ {a : List Tm}, s ∈ Tm.ndsL a → ∃ x ∈ a, s ∈ x.nds
  | x :: r, h => by
    rw [Tm.ndsL] at h
    rcases List.mem_append.1 h with h | h
    · exact ⟨x, List.mem_cons_self, h⟩
    · obtain ⟨y, hy, hs⟩ := ndsL_mem h
      exact ⟨y, List.mem_cons_of_mem _ hy, hs⟩
theorem nodes_leaf : ∀ t : Tm, t.nodesB = true → ∀ s ∈ t.nds, varB s.name = true → s.args = [] := Tm.ind fun t ih => by
  intro h s hs hv
  rw [t.nds_eq] at hs
  rcases List.mem_cons.1 hs with rfl | hs
  · rw [Tm.nodesB_var hv] at h
    exact List.isEmpty_iff.1 h
  · obtain ⟨x, hx, hsx⟩ := ndsL_mem hs
    exact ih x hx (nodes_args h x hx) s hsx hv
theorem any_leaf {t : Tm} (h : anyB t = true) : ∀ s ∈ t.nds, varB s.name = true → s.args = [] := by
  unfold anyB at h
  rcases Bool.or_eq_true _ _ ▸ h with h | h
  · unfold goodB at h
    simp only [Bool.and_eq_true] at h
    exact nodes_leaf t h.2
  · unfold atomB at h
    split at h
    · rename_i he
      simp only [Bool.and_eq_true, List.all_eq_true] at h
      intro s hs hv
      rw [t.nds_eq] at hs
      rcases List.mem_cons.1 hs with rfl | hs
      · rw [eq_name he, var_eq] at hv; cases hv
      · obtain ⟨x, hx, hsx⟩ := ndsL_mem hs
        exact nodes_leaf x (h.2.2 x hx) s hsx hv
    · unfold goodB at h
      simp only [Bool.and_eq_true] at h
      exact nodes_leaf t h.2.2

theorem put_mem (s : ByteArray) : ∀ (l : List ByteArray) (x : ByteArray), x ∈ putS s l ↔ x = s ∨ x ∈ l
  | [], x => by simp [putS]
  | q :: r, x => by
    unfold putS
    split
    · simp only [List.mem_cons, put_mem s r x]
      constructor
      · rintro (h | h | h) <;> simp [h]
      · rintro (h | h | h) <;> simp [h]
    · split
      · rename_i h
        have e : q = s := by rw [beq_iff_eq] at h; exact toList_inj h
        subst e
        simp
      · simp
theorem putAll_mem : ∀ (n l : List ByteArray) (x : ByteArray), x ∈ putAll n l ↔ x ∈ n ∨ x ∈ l
  | [], l, x => by simp [putAll]
  | s :: r, l, x => by
    show x ∈ putAll r (putS s l) ↔ _
    rw [putAll_mem r _ x, put_mem, List.mem_cons]
    constructor
    · rintro (h | h | h) <;> simp [h]
    · rintro ((h | h) | h) <;> simp [h]


theorem vn_mem {l : List Tm} {x : ByteArray} : x ∈ vn l ↔ ∃ s ∈ l, varB s.name = true ∧ s.name = x := by
  unfold vn
  rw [List.mem_map]
  constructor
  · rintro ⟨s, hs, e⟩
    rw [List.mem_filter] at hs
    exact ⟨s, hs.1, hs.2, e⟩
  · rintro ⟨s, hs, hv, e⟩
    exact ⟨s, List.mem_filter.2 ⟨hs, hv⟩, e⟩

/-- A valid term's variables, as the model lists them: the names of its nodes that are variables. -/
theorem into_mem {t : Tm} (h : goodB t = true) (x : ByteArray) : x ∈ t.into [] ↔ ∃ s ∈ t.nds, varB s.name = true ∧ s.name = x := by
  have hn : t.nodesB = true := by unfold goodB at h; simp only [Bool.and_eq_true] at h; exact h.2
  rw [into_fold t (nodes_leaf t hn) [], putAll_mem, vn_mem]
  simp

end Go.Proofs.Ytohalpafmcobpaa
