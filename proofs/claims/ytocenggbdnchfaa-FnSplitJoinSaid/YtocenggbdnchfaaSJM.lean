/- Plain facts: the pieces of a split, joined again, are the whole; no piece holds the separator; the order of strings is asymmetric. No condition. -/
import Derived.Test.YtocenggbdnchfaaJoinM
import Derived.Test.YtocenggbdnchfaaSplitM
namespace Go.Proofs.Ytocenggbdnchfaa
open Go.RowKit

theorem less_asym : ∀ x y : List UInt8, Op.bytesLess x y = true → Op.bytesLess y x = false
  | _, [], h => by simp [Op.bytesLess] at h
  | [], _ :: _, _ => by simp [Op.bytesLess]
  | a :: x, b :: y, h => by
    simp only [Op.bytesLess, Bool.or_eq_true, Bool.and_eq_true, decide_eq_true_eq, beq_iff_eq] at h
    simp only [Op.bytesLess, Bool.or_eq_false_iff, Bool.and_eq_false_iff, decide_eq_false_iff_not, beq_eq_false_iff_ne]
    rcases h with h | ⟨h1, h2⟩
    · have h' : a.toNat < b.toNat := UInt8.lt_iff_toNat_lt.1 h
      refine ⟨fun k => ?_, .inl (fun k => ?_)⟩
      · have k' : b.toNat < a.toNat := UInt8.lt_iff_toNat_lt.1 k
        omega
      · rw [k] at h'; omega
    · subst h1
      refine ⟨fun k => ?_, .inr (less_asym x y h2)⟩
      have k' : a.toNat < a.toNat := UInt8.lt_iff_toNat_lt.1 k
      omega

theorem join_snoc (c : UInt8) (P : List (List UInt8)) (p : List UInt8) : Lib.join (P ++ [p]) [c] = if P.length = 0 then p else Lib.join P [c] ++ [c] ++ p := by
  have h := join_take_succ c (P ++ [p]) P.length p (by simp)
  rw [List.take_of_length_le (by simp)] at h
  rw [h]
  simp

theorem join_ext (c : UInt8) (P : List (List UInt8)) (p q : List UInt8) : Lib.join (P ++ [p ++ q]) [c] = Lib.join (P ++ [p]) [c] ++ q := by
  rw [join_snoc, join_snoc]
  split
  · rfl
  · simp [List.append_assoc]

theorem join_fold (c : UInt8) (l : List UInt8) : ∀ k, k ≤ l.length → Lib.join ((splFold c (l.take k)).1 ++ [(splFold c (l.take k)).2]) [c] = l.take k := by
  intro k
  induction k with
  | zero => intro _; simp [splFold, Lib.join_one]
  | succ k ih =>
    intro hk
    have hx : l[k]? = some l[k] := List.getElem?_eq_getElem (by omega)
    have i := ih (by omega)
    rw [take_get l k _ hx, splFold_snoc]
    unfold splStep
    split
    · rename_i e
      rw [join_snoc]
      simp only [List.length_append, List.length_singleton, Nat.add_eq_zero_iff, Nat.one_ne_zero, and_false, if_false, List.append_nil]
      rw [i, e]
    · show Lib.join ((splFold c (l.take k)).1 ++ [(splFold c (l.take k)).2 ++ [l[k]]]) [c] = l.take k ++ [l[k]]
      rw [join_ext, i]

theorem join_split (c : UInt8) (l : List UInt8) : Lib.join (splitL c l) [c] = l := by
  have h := join_fold c l l.length (Nat.le_refl _)
  rw [List.take_length] at h
  exact h

theorem fold_no (c : UInt8) : ∀ (l : List UInt8) (st : List (List UInt8) × List UInt8), (∀ p ∈ st.1, c ∉ p) → c ∉ st.2 → (∀ p ∈ (l.foldl (splStep c) st).1, c ∉ p) ∧ c ∉ (l.foldl (splStep c) st).2
  | [], st, h1, h2 => ⟨h1, h2⟩
  | x :: l, st, h1, h2 => by
    have key : (∀ p ∈ (splStep c st x).1, c ∉ p) ∧ c ∉ (splStep c st x).2 := by
      unfold splStep
      split
      · refine ⟨fun p hp => ?_, by simp⟩
        rcases List.mem_append.1 hp with hp | hp
        · exact h1 p hp
        · rw [List.mem_singleton] at hp; rw [hp]; exact h2
      · rename_i e
        refine ⟨h1, fun hm => ?_⟩
        rcases List.mem_append.1 hm with hm | hm
        · exact h2 hm
        · rw [List.mem_singleton] at hm; exact e hm.symm
    exact fold_no c l _ key.1 key.2
theorem split_no (c : UInt8) (l : List UInt8) : ∀ p ∈ splitL c l, c ∉ p := by
  have h := fold_no c l ([], []) (by simp) (by simp)
  intro p hp
  unfold splitL at hp
  rcases List.mem_append.1 hp with hp | hp
  · exact h.1 p hp
  · rw [List.mem_singleton] at hp; rw [hp]; exact h.2

theorem split_ok (c : UInt8) (l : List UInt8) (h : l.length ≤ 4000) : jOk c (splitL c l) = true := by
  refine jOk_of ?_ (fun k hk => ?_) (by rw [join_split]; exact h)
  · intro e; have := split_len c l; rw [e] at this; simp at this
  · have hm : (splitL c l).getD k [] ∈ splitL c l := by rw [List.getD_eq_getElem?_getD, List.getElem?_eq_getElem hk]; exact List.getElem_mem hk
    have := split_no c l _ hm
    simp only [hasB, decide_eq_false_iff_not]
    exact this

end Go.Proofs.Ytocenggbdnchfaa
