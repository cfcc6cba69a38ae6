/- Plain facts on what stands before the first separator of a list of bytes: it is the first piece of the split, and what the search for the byte cuts off. No condition. -/
import Derived.Test.YtocenggbdnchfaaDoorSplitM
import Derived.Lib.IndexLaws
namespace Go.Proofs.YtocenggbdnchfaaDoor

/-- The bytes before the first c. -/
def bef (c : UInt8) : List UInt8 → List UInt8
  | [] => []
  | x :: l => if x = c then [] else x :: bef c l

theorem bef_none (c : UInt8) : ∀ l : List UInt8, c ∉ l → bef c l = l
  | [], _ => rfl
  | x :: l, h => by
    have hx : ¬ x = c := fun e => h (by simp [e])
    rw [bef, if_neg hx, bef_none c l (fun hm => h (by simp [hm]))]
theorem bef_some (c : UInt8) (r : List UInt8) : ∀ h : List UInt8, c ∉ h → bef c (h ++ c :: r) = h
  | [], _ => by simp [bef]
  | x :: h, hn => by
    have hx : ¬ x = c := fun e => hn (by simp [e])
    rw [List.cons_append, bef, if_neg hx, bef_some c r h (fun hm => hn (by simp [hm]))]
theorem bef_not (c : UInt8) : ∀ l : List UInt8, c ∉ bef c l
  | [] => by simp [bef]
  | x :: l => by
    by_cases hx : x = c
    · rw [bef, if_pos hx]; simp
    · rw [bef, if_neg hx]
      intro h
      rcases List.mem_cons.1 h with h | h
      · exact hx h.symm
      · exact bef_not c l h

/-- What the split has gathered: nothing yet, or the first piece stands fast. -/
def HdInv (c : UInt8) (l : List UInt8) (st : List (List UInt8) × List UInt8) : Prop :=
  (st.1 = [] ∧ st.2 = l ∧ c ∉ l) ∨ ∃ h r tl, st.1 = h :: tl ∧ c ∉ h ∧ l = h ++ c :: r

theorem hd_step (c x : UInt8) (l : List UInt8) (st : List (List UInt8) × List UInt8) (h : HdInv c l st) : HdInv c (l ++ [x]) (splStep c st x) := by
  rcases h with ⟨h1, h2, h3⟩ | ⟨p, r, tl, h1, h2, h3⟩
  · unfold splStep
    by_cases e : x = c
    · rw [if_pos e]
      exact .inr ⟨l, [], [], by simp [h1, h2], h3, by rw [e]⟩
    · rw [if_neg e]
      exact .inl ⟨h1, by simp [h2], by simp [h3]; exact fun h => e h.symm⟩
  · refine .inr ⟨p, r ++ [x], ?_⟩
    unfold splStep
    split
    · exact ⟨tl ++ [st.2], by simp [h1], h2, by simp [h3]⟩
    · exact ⟨tl, h1, h2, by simp [h3]⟩
theorem hd_fold (c : UInt8) : ∀ (l2 l1 : List UInt8) (st : List (List UInt8) × List UInt8), HdInv c l1 st → HdInv c (l1 ++ l2) (l2.foldl (splStep c) st)
  | [], l1, st, h => by simpa using h
  | x :: l2, l1, st, h => by
    have := hd_fold c l2 (l1 ++ [x]) _ (hd_step c x l1 st h)
    simpa using this
theorem split_head (c : UInt8) (l : List UInt8) : (splitL c l)[0]? = some (bef c l) := by
  have h := hd_fold c l [] ([], []) (.inl ⟨rfl, rfl, by simp⟩)
  simp only [List.nil_append] at h
  unfold splitL splFold
  rcases h with ⟨h1, h2, h3⟩ | ⟨p, r, tl, h1, h2, h3⟩
  · rw [h1, h2, bef_none c l h3]; rfl
  · rw [h1]
    simp only [List.cons_append, List.getElem?_cons_zero, Option.some.injEq]
    rw [h3, bef_some c r p h2]

theorem cut_none {c : UInt8} {l : List UInt8} (h : Lib.indexByte l c < 0) : bef c l = l := by
  have e : Lib.indexByte l c = -1 := by have := Lib.indexByte_ge l c; omega
  apply bef_none
  intro hm
  obtain ⟨k, hk, hx⟩ := List.getElem_of_mem hm
  exact Lib.indexByte_none e k (by rw [List.getElem?_eq_getElem hk, hx])
theorem cut_some {c : UInt8} {l : List UInt8} {o : Nat} (h : Lib.indexByte l c = (o : Int)) : o < l.length ∧ bef c l = l.take o := by
  obtain ⟨h1, h2⟩ := Lib.indexByte_some h
  have ho : o < l.length := (List.getElem?_eq_some_iff.1 h1).1
  refine ⟨ho, ?_⟩
  have e : l = l.take o ++ c :: l.drop (o + 1) := by
    have a : l.drop o = l[o] :: l.drop (o + 1) := List.drop_eq_getElem_cons ho
    have b : l[o] = c := by rw [List.getElem?_eq_getElem ho] at h1; exact Option.some.inj h1
    rw [b] at a
    rw [← a, List.take_append_drop]
  have hn : c ∉ l.take o := by
    intro hm
    obtain ⟨k, hk, hx⟩ := List.getElem_of_mem hm
    have hko : k < o := by rw [List.length_take] at hk; omega
    rw [List.getElem_take] at hx
    exact h2 k hko (by rw [List.getElem?_eq_getElem (by omega), hx])
  conv => lhs; rw [e]
  exact bef_some c _ _ hn

end Go.Proofs.YtocenggbdnchfaaDoor
