/- The two lists of a term's variables are one: plain facts on ascending lists. No condition. -/
import Derived.Test.YtcijmhhajbgknaaVarI
import Derived.Test.YtcijmhhajbgknaaFmtS
import Derived.Sort.Walk0
namespace Go.Proofs.Ytcijmhhajbgknaa
open Go.RowKit
set_option linter.unusedVariables false

theorem vn_cons (t : Tm) (l : List Tm) : vn (t :: l) = if varB t.name then t.name :: vn l else vn l := by
  unfold vn
  rw [List.filter_cons]
  split <;> simp
theorem vn_append (a b : List Tm) : vn (a ++ b) = vn a ++ vn b := by simp [vn]

def putAll (n : List ByteArray) (l : List ByteArray) : List ByteArray := n.foldl (fun l s => putS s l) l
theorem putAll_append (a b l : List ByteArray) : putAll (a ++ b) l = putAll b (putAll a l) := by simp [putAll]

theorem into_fold : ∀ t : Tm, (∀ s ∈ t.nds, varB s.name = true → s.args = []) → ∀ l, t.into l = putAll (vn t.nds) l := Tm.ind fun t ih => by
  intro h l
  rw [Tm.into_eq, t.nds_eq, vn_cons]
  cases hv : varB t.name with
  | true =>
    have he := h t (by rw [t.nds_eq]; exact List.mem_cons_self) hv
    rw [he]
    simp [Tm.ndsL, vn, putAll]
  | false =>
    have hh : ∀ s ∈ Tm.ndsL t.args, varB s.name = true → s.args = [] := fun s hs => h s (by rw [t.nds_eq]; exact List.mem_cons_of_mem _ hs)
    clear h
    have key : ∀ (a : List Tm), (∀ x ∈ a, (∀ s ∈ x.nds, varB s.name = true → s.args = []) → ∀ l, x.into l = putAll (vn x.nds) l) → (∀ s ∈ Tm.ndsL a, varB s.name = true → s.args = []) → ∀ l, Tm.intoL a l = putAll (vn (Tm.ndsL a)) l := by
      intro a
      induction a with
      | nil => intro _ _ l; simp [Tm.intoL, Tm.ndsL, vn, putAll]
      | cons x r ih2 =>
        intro h1 h2 l
        rw [Tm.intoL, Tm.ndsL, vn_append, putAll_append]
        rw [h1 x List.mem_cons_self (fun s hs => h2 s (by rw [Tm.ndsL]; exact List.mem_append_left _ hs)) l]
        exact ih2 (fun y hy => h1 y (List.mem_cons_of_mem _ hy)) (fun s hs => h2 s (by rw [Tm.ndsL]; exact List.mem_append_right _ hs)) _
    exact key t.args ih hh l

theorem ndsL_mem {s : Tm} : ∀ {a : List Tm}, s ∈ Tm.ndsL a → ∃ x ∈ a, s ∈ x.nds
  | x :: r, h => by
    rw [Tm.ndsL] at h
    rcases List.mem_append.1 h with h | h
    · exact ⟨x, List.mem_cons_self, h⟩
    · obtain ⟨y, hy, hs⟩ := ndsL_mem h
      exact ⟨y, List.mem_cons_of_mem _ hy, hs⟩
theorem nodes_leaf : ∀ t : Tm, t.nodesB = true → ∀ s ∈ t.nds, varB s.name = true → s.args = [] := Tm.ind fun t ih => by
  intro h s hs hv
  rw [t.nds_eq] at hs
  rcases List.mem_cons.1 hs with rfl | hs
  · rw [Tm.nodesB_var hv] at h
    exact List.isEmpty_iff.1 h
  · obtain ⟨x, hx, hsx⟩ := ndsL_mem hs
    exact ih x hx (nodes_args h x hx) s hsx hv
theorem any_leaf {t : Tm} (h : anyB t = true) : ∀ s ∈ t.nds, varB s.name = true → s.args = [] := by
  unfold anyB at h
  rcases Bool.or_eq_true _ _ ▸ h with h | h
  · unfold goodB at h
    simp only [Bool.and_eq_true] at h
    exact nodes_leaf t h.2
  · unfold atomB at h
    split at h
    · rename_i he
      simp only [Bool.and_eq_true, List.all_eq_true] at h
      intro s hs hv
      rw [t.nds_eq] at hs
      rcases List.mem_cons.1 hs with rfl | hs
      · rw [eq_name he, var_eq] at hv; cases hv
      · obtain ⟨x, hx, hsx⟩ := ndsL_mem hs
        exact nodes_leaf x (h.2.2 x hx) s hsx hv
    · unfold goodB at h
      simp only [Bool.and_eq_true] at h
      exact nodes_leaf t h.2.2

/-! ### Ascending lists -/
abbrev B8 := List UInt8
theorem asc_unique : ∀ a b : List B8, a.Pairwise (· < ·) → b.Pairwise (· < ·) → (∀ x, x ∈ a ↔ x ∈ b) → a = b
  | [], [], _, _, _ => rfl
  | [], y :: b, _, _, h => by have := (h y).2 List.mem_cons_self; cases this
  | x :: a, [], _, _, h => by have := (h x).1 List.mem_cons_self; cases this
  | x :: a, y :: b, ha, hb, h => by
    obtain ⟨ha1, ha2⟩ := List.pairwise_cons.1 ha
    obtain ⟨hb1, hb2⟩ := List.pairwise_cons.1 hb
    have e : x = y := by
      rcases List.mem_cons.1 ((h x).1 List.mem_cons_self) with e | h1
      · exact e
      · rcases List.mem_cons.1 ((h y).2 List.mem_cons_self) with e | h2
        · exact e.symm
        · exact absurd (hb1 x h1) (List.lt_asymm (ha1 y h2))
    subst e
    rw [asc_unique a b ha2 hb2 fun z => ⟨fun hz => ?_, fun hz => ?_⟩]
    · rcases List.mem_cons.1 ((h z).1 (List.mem_cons_of_mem _ hz)) with e | h1
      · subst e; exact absurd (ha1 z hz) (List.lt_irrefl _)
      · exact h1
    · rcases List.mem_cons.1 ((h z).2 (List.mem_cons_of_mem _ hz)) with e | h1
      · subst e; exact absurd (hb1 z hz) (List.lt_irrefl _)
      · exact h1

theorem lessB_iff {a b : ByteArray} : lessB a b = true ↔ a.data.toList < b.data.toList := by
  unfold lessB
  rw [ByteArray.toList_eq, ByteArray.toList_eq, bytesLess_eq, decide_eq_true_iff]
theorem put_mem (s : ByteArray) : ∀ (l : List ByteArray) (x : ByteArray), x ∈ putS s l ↔ x = s ∨ x ∈ l
  | [], x => by simp [putS]
  | q :: r, x => by
    unfold putS
    split
    · simp only [List.mem_cons, put_mem s r x]
      constructor
      · rintro (h | h | h) <;> simp [h]
      · rintro (h | h | h) <;> simp [h]
    · split
      · rename_i h
        have e : q = s := by rw [beq_iff_eq] at h; exact toList_inj h
        subst e
        simp
      · simp
theorem put_asc (s : ByteArray) : ∀ l : List ByteArray, (rawL l).Pairwise (· < ·) → (rawL (putS s l)).Pairwise (· < ·)
  | [], _ => by simp [putS, rawL]
  | q :: r, h => by
    have h' : (q.data.toList :: rawL r).Pairwise (· < ·) := h
    obtain ⟨h1, h2⟩ := List.pairwise_cons.1 h'
    unfold putS
    split
    · rename_i hl
      refine List.pairwise_cons.2 ⟨fun y hy => ?_, put_asc s r h2⟩
      obtain ⟨z, hz, rfl⟩ := List.mem_map.1 hy
      rcases (put_mem s r z).1 hz with rfl | hz
      · exact lessB_iff.1 hl
      · exact h1 _ (List.mem_map_of_mem hz)
    · rename_i hl
      split
      · exact h
      · rename_i he
        have hlt : s.data.toList < q.data.toList := by
          have n1 : ¬ q.data.toList < s.data.toList := fun hh => hl (lessB_iff.2 hh)
          have n2 : q.data.toList ≠ s.data.toList := fun hh => he (by rw [beq_iff_eq, ByteArray.toList_eq, ByteArray.toList_eq]; exact hh)
          rcases List.le_total s.data.toList q.data.toList with h3 | h3
          · rcases Classical.em (s.data.toList < q.data.toList) with h4 | h4
            · exact h4
            · exact absurd (List.le_antisymm (List.not_lt.1 h4) h3) n2
          · rcases Classical.em (q.data.toList = s.data.toList) with h4 | h4
            · exact absurd h4 n2
            · exact absurd (List.le_antisymm h3 (List.not_lt.1 n1)) n2
        refine List.pairwise_cons.2 ⟨fun y hy => ?_, h⟩
        rcases List.mem_cons.1 hy with rfl | hy
        · exact hlt
        · exact List.lt_trans hlt (h1 y hy)

theorem putAll_asc : ∀ (n l : List ByteArray), (rawL l).Pairwise (· < ·) → (rawL (putAll n l)).Pairwise (· < ·)
  | [], l, h => h
  | s :: r, l, h => putAll_asc r _ (put_asc s l h)
theorem putAll_mem : ∀ (n l : List ByteArray) (x : ByteArray), x ∈ putAll n l ↔ x ∈ n ∨ x ∈ l
  | [], l, x => by simp [putAll]
  | s :: r, l, x => by
    show x ∈ putAll r (putS s l) ↔ _
    rw [putAll_mem r _ x, put_mem, List.mem_cons]
    constructor
    · rintro (h | h | h) <;> simp [h]
    · rintro ((h | h) | h) <;> simp [h]

theorem comp_step (zs : List B8) (hz : zs.Pairwise (· ≤ ·)) : ∀ m, m ≤ zs.length → (Lib.compactUpTo zs.toArray m).Pairwise (· < ·) ∧ ∀ x, x ∈ Lib.compactUpTo zs.toArray m ↔ ∃ j, j < m ∧ zs[j]? = some x
  | 0, _ => by simp [Lib.compactUpTo]
  | m + 1, hm => by
    obtain ⟨h1, h2⟩ := comp_step zs hz m (by omega)
    have hget : ∀ j, j < zs.length → zs[j]? = some (zs.toArray[j]!) := fun j hj => by simp [hj]
    rw [Lib.compactUpTo_succ]
    by_cases hk : Lib.keeps zs.toArray m = true
    · rw [if_pos hk]
      refine ⟨List.pairwise_append.2 ⟨h1, by simp, fun x hx y hy => ?_⟩, fun x => ?_⟩
      · have hy' : y = zs.toArray[m]! := by simpa using hy
        obtain ⟨j, hj, hxj⟩ := (h2 x).1 hx
        have hm0 : m ≠ 0 := by omega
        have hne : zs.toArray[m]! ≠ zs.toArray[m - 1]! := by
          simp only [Lib.keeps, decide_eq_true_eq] at hk
          rcases hk with h | h
          · exact absurd h hm0
          · exact h
        have hpw := List.pairwise_iff_getElem.1 hz
        have e1 : zs.toArray[m]! = zs[m] := by simp [show m < zs.length by omega]
        have e2 : zs.toArray[m - 1]! = zs[m - 1] := by simp [show m - 1 < zs.length by omega]
        have e3 : x = zs[j] := by rw [List.getElem?_eq_getElem (by omega)] at hxj; exact (Option.some.inj hxj).symm
        rw [e1, e2] at hne
        have l2 : zs[m - 1] ≤ zs[m] := hpw (m - 1) m (by omega) (by omega) (by omega)
        have l1 : zs[j] ≤ zs[m - 1] := by
          by_cases e : j = m - 1
          · subst e; exact List.le_refl _
          · exact hpw j (m - 1) (by omega) (by omega) (by omega)
        rw [hy', e1, e3]
        rcases Classical.em (zs[j] < zs[m]) with h | h
        · exact h
        · have l3 := List.not_lt.1 h
          exact absurd (List.le_antisymm (List.le_trans l3 l1) l2) hne
      · rw [List.mem_append, h2 x]
        constructor
        · rintro (⟨j, hj, h⟩ | h)
          · exact ⟨j, by omega, h⟩
          · have : x = zs.toArray[m]! := by simpa using h
            exact ⟨m, by omega, by rw [hget m (by omega), this]⟩
        · rintro ⟨j, hj, h⟩
          by_cases e : j = m
          · subst e; rw [hget j (by omega)] at h; right; simpa using (Option.some.inj h).symm
          · exact .inl ⟨j, by omega, h⟩
    · rw [if_neg hk, List.append_nil]
      refine ⟨h1, fun x => ?_⟩
      rw [h2 x]
      constructor
      · rintro ⟨j, hj, h⟩; exact ⟨j, by omega, h⟩
      · rintro ⟨j, hj, h⟩
        by_cases e : j = m
        · subst e
          have hk' : j ≠ 0 ∧ zs.toArray[j]! = zs.toArray[j - 1]! := by
            simp only [Lib.keeps, decide_eq_true_eq] at hk
            constructor
            · intro h0; exact hk (.inl h0)
            · exact Classical.byContradiction fun h0 => hk (.inr h0)
          refine ⟨j - 1, by omega, ?_⟩
          rw [hget j (by omega), hk'.2] at h
          rw [hget (j - 1) (by omega)]; exact h
        · exact ⟨j, by omega, h⟩

theorem sortL_asc (l : List ByteArray) : (sortL l).Pairwise (· ≤ ·) := by
  have h := List.pairwise_mergeSort (le := fun (x y : B8) => decide (x ≤ y)) (fun a b c h1 h2 => by
    simp only [decide_eq_true_eq] at h1 h2 ⊢; exact List.le_trans h1 h2) (fun a b => by
    simp only [Bool.or_eq_true, decide_eq_true_eq]; exact List.le_total a b) (rawL l)
  exact h.imp fun h => by simpa using h
theorem outL_asc (l : List ByteArray) : (outL l).Pairwise (· < ·) := (comp_step _ (sortL_asc l) _ (Nat.le_refl _)).1
theorem outL_mem (l : List ByteArray) (x : B8) : x ∈ outL l ↔ x ∈ rawL l := by
  have h := (comp_step _ (sortL_asc l) _ (Nat.le_refl _)).2 x
  show x ∈ Lib.compactUpTo _ _ ↔ _
  rw [h]
  have e : x ∈ sortL l ↔ x ∈ rawL l := by unfold sortL; exact List.mem_mergeSort
  rw [← e]
  constructor
  · rintro ⟨j, _, hj⟩; exact List.mem_of_getElem? hj
  · intro hx
    obtain ⟨j, hj, he⟩ := List.getElem_of_mem hx
    exact ⟨j, hj, by rw [List.getElem?_eq_getElem hj, he]⟩

theorem raw_bs (l : List B8) : rawL (bsL l) = l := by simp [rawL, bsL, Function.comp_def]
theorem raw_inj {a b : List ByteArray} (h : rawL a = rawL b) : a = b := by
  have e : ∀ l : List ByteArray, bsL (rawL l) = l := fun l => by simp [rawL, bsL, Function.comp_def]
  rw [← e a, h, e b]
theorem raw_mem {l : List ByteArray} {x : B8} : x ∈ rawL l ↔ ∃ s ∈ l, s.data.toList = x := by simp [rawL]

theorem vars_one (t : Tm) : varsL t = ivL t := by
  unfold varsL ivL
  cases h : anyB t with
  | false => rfl
  | true =>
    simp only [if_true]
    rw [into_fold t (any_leaf h)]
    refine raw_inj ?_
    rw [raw_bs]
    refine asc_unique _ _ (putAll_asc _ _ (by simp [rawL])) (outL_asc _) fun x => ?_
    rw [outL_mem, raw_mem, raw_mem]
    constructor
    · rintro ⟨s, hs, rfl⟩
      rcases (putAll_mem _ _ s).1 hs with h | h
      · exact ⟨s, h, rfl⟩
      · cases h
    · rintro ⟨s, hs, rfl⟩
      exact ⟨s, (putAll_mem _ _ s).2 (.inl hs), rfl⟩

end Go.Proofs.Ytcijmhhajbgknaa
