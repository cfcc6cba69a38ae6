/- Several texts in one: each says what it proves. No condition but theirs. -/
import Derived.Test.YtgpmdfhepanahaaGreatClM
import Derived.Test.YtgpmdfhepanahaaGreatLt
import Derived.Test.YtgpmdfhepanahaaGreatOwn
import Derived.Test.YtgpmdfhepanahaaGreatInG
import Derived.Test.YtgpmdfhepanahaaGreatOneX
import Derived.Maps.AppendAt
import Derived.Laws.AppendOwnNone
/- The comparison of terms and of literals is a strict order that agrees with equality. No condition. -/
namespace Go.Proofs.YtgpmdfhepanahaaGreat
open Go.RowKit
set_option linter.unusedVariables false
set_option linter.unusedSimpArgs false

theorem cb_flip : ∀ a b : List UInt8, Lib.compareBytes a b = - Lib.compareBytes b a
  | [], [] => by simp [Lib.compareBytes]
  | [], _ :: _ => by simp [Lib.compareBytes]
  | _ :: _, [] => by simp [Lib.compareBytes]
  | a :: x, b :: y => by
    unfold Lib.compareBytes
    by_cases h1 : a < b
    · have h2 : ¬ b < a := fun h => absurd (UInt8.lt_trans h1 h) (UInt8.lt_irrefl _)
      rw [if_pos h1, if_neg h2, if_pos h1]
    · rw [if_neg h1]
      by_cases h2 : b < a
      · rw [if_pos h2, if_pos h2]; rfl
      · rw [if_neg h2, if_neg h2, if_neg h1]
        exact cb_flip x y
theorem cb_trans : ∀ a b c : List UInt8, Lib.compareBytes a b < 0 → Lib.compareBytes b c < 0 → Lib.compareBytes a c < 0
  | [], [], _ => by simp [Lib.compareBytes]
  | [], _ :: _, [] => by simp [Lib.compareBytes]
  | [], _ :: _, _ :: _ => by simp [Lib.compareBytes]
  | _ :: _, [], _ => by simp [Lib.compareBytes]
  | _ :: _, _ :: _, [] => by simp [Lib.compareBytes]
  | a :: x, b :: y, c :: z => by
    have ih := cb_trans x y z
    intro h k
    unfold Lib.compareBytes at h k ⊢
    by_cases h1 : a < b
    · by_cases h2 : b < c
      · rw [if_pos (UInt8.lt_trans h1 h2)]; decide
      · rw [if_neg h2] at k
        by_cases h3 : c < b
        · rw [if_pos h3] at k; omega
        · have e : b = c := UInt8.le_antisymm (UInt8.not_lt.1 h3) (UInt8.not_lt.1 h2)
          subst e
          rw [if_pos h1]; decide
    · rw [if_neg h1] at h
      by_cases h2 : b < a
      · rw [if_pos h2] at h; omega
      · rw [if_neg h2] at h
        have e : a = b := UInt8.le_antisymm (UInt8.not_lt.1 h2) (UInt8.not_lt.1 h1)
        subst e
        by_cases h3 : a < c
        · rw [if_pos h3]; decide
        · rw [if_neg h3] at k ⊢
          by_cases h4 : c < a
          · rw [if_pos h4] at k; omega
          · rw [if_neg h4] at k ⊢
            exact ih h k

theorem txt_flip (a b : ByteArray) : txt a b = - txt b a := cb_flip _ _
theorem txt_zero {a b : ByteArray} (h : txt a b = 0) : a = b := toList_inj ((cb_zero _ _).1 h)
theorem txt_self (a : ByteArray) : txt a a = 0 := (cb_zero _ _).2 rfl
theorem txt_trans {a b c : ByteArray} (h : txt a b < 0) (k : txt b c < 0) : txt a c < 0 := cb_trans _ _ _ h k

mutual
theorem ordT_flip : ∀ a b : Tm, ordT a b = - ordT b a
  | .node n l, .node m r => by
    have h1 := txt_flip n m
    have h2 := ordL_flip l r
    rw [ordT, ordT]
    by_cases e : n = m
    · subst e
      cases varB n <;> simp only [Bool.false_eq_true, Bool.true_eq_false, and_true, and_false, and_self, false_and, true_and, if_false, ne_eq, not_true] <;> (repeat' split) <;> omega
    · have e2 : ¬ m = n := fun h => e h.symm
      clear h2
      cases varB n <;> cases varB m <;> simp only [Bool.false_eq_true, Bool.true_eq_false, and_true, and_false, and_self, false_and, true_and, if_false, if_true, ne_eq, e, e2, not_false_iff] <;> omega
theorem ordL_flip : ∀ a b : List Tm, ordL a b = - ordL b a
  | [], [] => by rw [ordL]; rfl
  | [], _ :: _ => by rw [ordL, ordL]; rfl
  | _ :: _, [] => by rw [ordL, ordL]; rfl
  | x :: l, y :: r => by
    have h1 := ordT_flip x y
    have h2 := ordL_flip l r
    rw [ordL, ordL]
    by_cases e : ordT x y = 0
    · rw [if_pos e, if_pos (by omega)]; exact h2
    · rw [if_neg e, if_neg (by omega)]; exact h1
end

mutual
theorem ordT_zero : ∀ a b : Tm, ordT a b = 0 → a = b
  | .node n l, .node m r => by
    intro h
    rw [ordT] at h
    split at h
    · omega
    split at h
    · omega
    split at h
    · rename_i e; exact absurd (txt_zero h) e
    rename_i e
    split at h
    · omega
    split at h
    · omega
    have e' : n = m := by simpa using e
    subst e'
    rw [ordL_zero l r (by omega) h]
theorem ordL_zero : ∀ a b : List Tm, a.length = b.length → ordL a b = 0 → a = b
  | [], [] => fun _ _ => rfl
  | [], _ :: _ => fun h _ => by simp at h
  | _ :: _, [] => fun h _ => by simp at h
  | x :: l, y :: r => fun h k => by
    rw [ordL] at k
    split at k
    · rename_i e
      rw [ordT_zero x y e, ordL_zero l r (by simpa using h) k]
    · rename_i e; exact absurd k e
end

mutual
theorem ordT_refl : ∀ a : Tm, ordT a a = 0
  | .node n l => by
    rw [ordT, if_neg (by rintro ⟨h1, h2⟩; rw [h1] at h2; cases h2), if_neg (by rintro ⟨h1, h2⟩; rw [h1] at h2; cases h2), if_neg (by simp), if_neg (by omega), if_neg (by omega)]
    exact ordL_refl l
theorem ordL_refl : ∀ a : List Tm, ordL a a = 0
  | [] => by rw [ordL]
  | x :: l => by rw [ordL, if_pos (ordT_refl x)]; exact ordL_refl l
end
theorem ordT_iff {a b : Tm} : ordT a b = 0 ↔ a = b := ⟨ordT_zero a b, fun e => by rw [e]; exact ordT_refl b⟩

mutual
theorem ordT_trans : ∀ a b c : Tm, ordT a b < 0 → ordT b c < 0 → ordT a c < 0
  | .node n l, .node m r, .node o s => by
    have ih := ordL_trans l r s
    have ht := @txt_trans n m o
    intro h k
    rw [ordT] at h k ⊢
    cases hn : varB n <;> cases hm : varB m <;> cases ho : varB o <;> simp only [hn, hm, ho, if_true, if_false, Bool.false_eq_true, Bool.true_eq_false, and_true, and_false, and_self, false_and, true_and, reduceCtorEq] at h k ⊢ <;> first | omega | skip
    all_goals
      by_cases e1 : n = m
      · subst e1
        simp only [ne_eq, not_true, if_false] at h
        by_cases e2 : n = o
        · subst e2
          simp only [ne_eq, not_true, if_false] at k ⊢
          by_cases k1 : l.length < r.length
          · rw [if_pos k1] at h
            by_cases k2 : r.length < s.length
            · rw [if_pos (by omega)]; decide
            · rw [if_neg k2] at k
              by_cases k3 : s.length < r.length
              · rw [if_pos k3] at k; omega
              · rw [if_pos (by omega)]; decide
          · rw [if_neg k1] at h
            by_cases k2 : r.length < l.length
            · rw [if_pos k2] at h; omega
            · rw [if_neg k2] at h
              by_cases k3 : r.length < s.length
              · rw [if_pos (by omega)]; decide
              · rw [if_neg k3] at k
                by_cases k4 : s.length < r.length
                · rw [if_pos k4] at k; omega
                · rw [if_neg k4] at k
                  rw [if_neg (by omega), if_neg (by omega)]
                  exact ih h k
        · rw [if_pos e2] at k ⊢; exact k
      · rw [if_pos e1] at h
        by_cases e2 : m = o
        · subst e2
          rw [if_pos e1]; exact h
        · rw [if_pos e2] at k
          have := ht h k
          rw [if_pos (fun e => by subst e; have := txt_self n; omega)]; exact this
theorem ordL_trans : ∀ a b c : List Tm, ordL a b < 0 → ordL b c < 0 → ordL a c < 0
  | [], _, _ => fun h => by rw [ordL] at h; omega
  | _ :: _, [], _ => fun h => by rw [ordL] at h; omega
  | _ :: _, _ :: _, [] => fun _ h => by rw [ordL] at h; omega
  | x :: l, y :: r, z :: s => fun h k => by
    rw [ordL] at h k ⊢
    by_cases e1 : ordT x y = 0
    · have e := ordT_zero x y e1
      subst e
      rw [if_pos e1] at h
      by_cases e2 : ordT x z = 0
      · rw [if_pos e2] at k ⊢
        exact ordL_trans l r s h k
      · rw [if_neg e2] at k ⊢; exact k
    · rw [if_neg e1] at h
      by_cases e2 : ordT y z = 0
      · have e := ordT_zero y z e2
        subst e
        rw [if_neg e1]; exact h
      · rw [if_neg e2] at k
        have := ordT_trans x y z h k
        rw [if_neg (by omega)]; exact this
end

theorem ordLt_flip (a b : Lt) : ordLt a b = - ordLt b a := by
  have h := ordT_flip a.tm b.tm
  unfold ordLt
  by_cases h0 : ordT b.tm a.tm = 0
  · have h1 : ¬ ordT a.tm b.tm ≠ 0 := by omega
    have h2 : ¬ ordT b.tm a.tm ≠ 0 := by omega
    rw [if_neg h1, if_neg h2]
    cases a.var <;> cases b.var <;> simp
  · have h1 : ordT a.tm b.tm ≠ 0 := by omega
    have h2 : ordT b.tm a.tm ≠ 0 := h0
    rw [if_pos h1, if_pos h2, h]
theorem ordLt_refl (a : Lt) : ordLt a a = 0 := by have := ordLt_flip a a; omega
theorem ordLt_zero {a b : Lt} (h : ordLt a b = 0) : a = b := by
  unfold ordLt at h
  by_cases h0 : ordT a.tm b.tm = 0
  · rw [if_neg (by simpa using h0)] at h
    refine Lt.ext' ?_ (ordT_zero _ _ h0)
    revert h
    cases a.var <;> cases b.var <;> simp
  · rw [if_pos h0] at h; exact absurd h h0
theorem ordLt_trans {a b c : Lt} (h : ordLt a b < 0) (k : ordLt b c < 0) : ordLt a c < 0 := by
  unfold ordLt at h k ⊢
  by_cases e1 : ordT a.tm b.tm = 0
  · rw [ordT_zero _ _ e1] at h ⊢
    rw [if_neg (by simpa using ordT_refl b.tm)] at h
    by_cases e2 : ordT b.tm c.tm = 0
    · rw [if_neg (by simpa using e2)] at k ⊢
      revert h k
      cases a.var <;> cases b.var <;> cases c.var <;> simp
    · rw [if_pos e2] at k ⊢; exact k
  · rw [if_pos e1] at h
    by_cases e2 : ordT b.tm c.tm = 0
    · rw [← ordT_zero _ _ e2, if_pos e1]; exact h
    · rw [if_pos e2] at k
      have := ordT_trans _ _ _ h k
      rw [if_pos (by omega)]; exact this
theorem less_iff {a b : Lt} : lessLt a b = true ↔ ordLt a b < 0 := by
  rw [less_ord]; simp

end Go.Proofs.YtgpmdfhepanahaaGreat

/- A clause made of a list of literals: insertion into an ascending list without duplicates. No condition. -/
namespace Go.Proofs.YtgpmdfhepanahaaGreat.lit
open Go.RowKit
set_option linter.unusedVariables false

def Asc (l : List Lt) : Prop := l.Pairwise fun a b => ordLt a b < 0
theorem Asc.at {l : List Lt} (h : Asc l) {i j : Nat} {x y : Lt} (hij : i < j) (hx : l[i]? = some x) (hy : l[j]? = some y) : ordLt x y < 0 := by
  obtain ⟨h1, rfl⟩ := List.getElem?_eq_some_iff.1 hx
  obtain ⟨h2, rfl⟩ := List.getElem?_eq_some_iff.1 hy
  exact List.pairwise_iff_getElem.1 h i j h1 h2 hij
def putL (x : Lt) : List Lt → List Lt
  | [] => [x]
  | d :: r => if ordLt d x < 0 then d :: putL x r else if ordLt d x = 0 then d :: r else x :: d :: r
def makeL (l : List Lt) : List Lt := l.foldl (fun a x => putL x a) []
theorem makeL_nil (l : List Lt) : makeL (l.take 0) = [] := by simp [makeL]
theorem makeL_next {l : List Lt} {k : Nat} {d : Lt} (h : l[k]? = some d) : makeL (l.take (k + 1)) = putL d (makeL (l.take k)) := by
  unfold makeL; rw [take_next h, List.foldl_append]; rfl
theorem makeL_all {l : List Lt} {k : Nat} (h : l.length ≤ k) : makeL (l.take k) = makeL l := by rw [List.take_of_length_le h]
theorem put_mem {x y : Lt} : ∀ {l : List Lt}, y ∈ putL x l → y = x ∨ y ∈ l
  | [], h => .inl (by simpa [putL] using h)
  | d :: r, h => by
    unfold putL at h
    split at h
    · rcases List.mem_cons.1 h with h | h
      · exact .inr (by rw [h]; exact List.mem_cons_self)
      · rcases put_mem h with h | h
        · exact .inl h
        · exact .inr (List.mem_cons_of_mem _ h)
    · split at h
      · exact .inr h
      · rcases List.mem_cons.1 h with h | h
        · exact .inl h
        · exact .inr h
theorem asc_put (x : Lt) : ∀ {l : List Lt}, Asc l → Asc (putL x l)
  | [], _ => by simp [putL, Asc]
  | d :: r, h => by
    obtain ⟨h1, h2⟩ := List.pairwise_cons.1 h
    unfold putL
    split
    · rename_i hlt
      exact List.pairwise_cons.2 ⟨fun y hy => by
        rcases put_mem hy with e | hy
        · rw [e]; exact hlt
        · exact h1 y hy, asc_put x h2⟩
    · split
      · exact h
      · rename_i hn h0
        have hf := ordLt_flip d x
        have hxd : ordLt x d < 0 := by omega
        exact List.pairwise_cons.2 ⟨fun y hy => by
          rcases List.mem_cons.1 hy with e | hy
          · rw [e]; exact hxd
          · exact ordLt_trans hxd (h1 y hy), h⟩
theorem asc_fold : ∀ (l a : List Lt), Asc a → Asc (l.foldl (fun a x => putL x a) a)
  | [], _, h => h
  | x :: r, a, h => asc_fold r (putL x a) (asc_put x h)
theorem asc_make (l : List Lt) : Asc (makeL l) := asc_fold l [] (by simp [Asc])
theorem fold_mem : ∀ (l a : List Lt) (y : Lt), y ∈ l.foldl (fun a x => putL x a) a → y ∈ l ∨ y ∈ a
  | [], _, y, h => .inr h
  | x :: r, a, y, h => by
    rcases fold_mem r (putL x a) y h with h | h
    · exact .inl (List.mem_cons_of_mem _ h)
    · rcases put_mem h with h | h
      · exact .inl (by rw [h]; exact List.mem_cons_self)
      · exact .inr h
theorem make_mem {l : List Lt} {y : Lt} (h : y ∈ makeL l) : y ∈ l := by
  rcases fold_mem l [] y h with h | h
  · exact h
  · cases h
theorem put_len (x : Lt) : ∀ l : List Lt, l.length ≤ (putL x l).length ∧ (putL x l).length ≤ l.length + 1
  | [] => by simp [putL]
  | d :: r => by
    have h := put_len x r
    unfold putL
    split
    · simp only [List.length_cons]; omega
    · split <;> simp only [List.length_cons] <;> omega
theorem fold_len : ∀ (l a : List Lt), a.length ≤ (l.foldl (fun a x => putL x a) a).length ∧ (l.foldl (fun a x => putL x a) a).length ≤ a.length + l.length
  | [], a => by simp
  | x :: r, a => by
    have h := fold_len r (putL x a)
    have h2 := put_len x a
    simp only [List.foldl_cons, List.length_cons]; omega
theorem make_len (l : List Lt) : (makeL l).length ≤ l.length := by have h := (fold_len l []).2; unfold makeL; simpa using h
theorem make_mono (l : List Lt) (k : Nat) : (makeL (l.take k)).length ≤ (makeL l).length := by
  have h := (fold_len (l.drop k) (makeL (l.take k))).1
  have e : makeL l = (l.drop k).foldl (fun a x => putL x a) (makeL (l.take k)) := by
    unfold makeL; rw [← List.foldl_append, List.take_append_drop]
  rw [e]; exact h
theorem put_wt (x : Lt) : ∀ l : List Lt, sumC Lt.wt (putL x l) ≤ sumC Lt.wt l + x.wt
  | [] => by simp [putL, sumC]
  | d :: r => by
    have h := put_wt x r
    unfold putL
    split
    · simp only [sumC]; omega
    · split <;> simp only [sumC] <;> omega
theorem fold_wt : ∀ (l a : List Lt), sumC Lt.wt (l.foldl (fun a x => putL x a) a) ≤ sumC Lt.wt a + sumC Lt.wt l
  | [], a => by simp [sumC]
  | x :: r, a => by
    have h := fold_wt r (putL x a)
    have h2 := put_wt x a
    simp only [List.foldl_cons, sumC]; omega
theorem make_wt (l : List Lt) : wtC (makeL l) ≤ wtC l := by
  have h := fold_wt l []
  have h2 := make_len l
  have e : makeL l = l.foldl (fun a x => putL x a) [] := rfl
  rw [← e] at h
  simp only [sumC] at h
  unfold wtC; omega

/-- The place of the first literal that is not less. -/
def Place (l : List Lt) (x : Lt) (i : Nat) : Prop :=
  i ≤ l.length ∧ (∀ t d, t < i → l[t]? = some d → ordLt d x < 0) ∧ (∀ t d, i ≤ t → l[t]? = some d → ¬ ordLt d x < 0)
def hitL (l : List Lt) (x : Lt) (i : Nat) : Bool := match l[i]? with
  | some d => decide (ordLt d x = 0)
  | none => false
theorem hitL_at {l : List Lt} {x d : Lt} {i : Nat} (h : l[i]? = some d) : hitL l x i = decide (ordLt d x = 0) := by unfold hitL; rw [h]
theorem hitL_out {l : List Lt} {x : Lt} {i : Nat} (h : l.length ≤ i) : hitL l x i = false := by unfold hitL; rw [List.getElem?_eq_none h]
theorem put_place {x : Lt} : ∀ {l : List Lt} {i : Nat}, Place l x i → putL x l = if hitL l x i then l else l.take i ++ x :: l.drop i
  | [], i, h => by
    have : i = 0 := by have := h.1; simpa using this
    subst this
    simp [putL, hitL]
  | d :: r, 0, h => by
    have h0 := h.2.2 0 d (Nat.le_refl _) rfl
    unfold putL
    rw [if_neg h0]
    by_cases e : ordLt d x = 0
    · rw [if_pos e, if_pos (by simp [hitL, e])]
    · rw [if_neg e, if_neg (by simp [hitL, e])]; rfl
  | d :: r, i + 1, h => by
    have h0 := h.2.1 0 d (by omega) rfl
    have ih : Place r x i := ⟨by have := h.1; simpa using this, fun t e ht he => h.2.1 (t + 1) e (by omega) (by simpa using he), fun t e ht he => h.2.2 (t + 1) e (by omega) (by simpa using he)⟩
    have h2 := put_place ih
    unfold putL
    rw [if_pos h0, h2]
    have e : hitL (d :: r) x (i + 1) = hitL r x i := by simp [hitL]
    rw [e]
    split <;> rfl
theorem put_hit {x : Lt} {l : List Lt} {i : Nat} (hp : Place l x i) (h : hitL l x i = true) : putL x l = l := by rw [put_place hp, if_pos h]
theorem put_new {x : Lt} {l : List Lt} {i : Nat} (hp : Place l x i) (h : hitL l x i = false) : putL x l = l.take i ++ x :: l.drop i := by rw [put_place hp, if_neg (by rw [h]; simp)]
theorem place_end {l : List Lt} {x : Lt} (h : ∀ t d, t < l.length → l[t]? = some d → ordLt d x < 0) : Place l x l.length :=
  ⟨Nat.le_refl _, h, fun t d ht hd => by have := (List.getElem?_eq_some_iff.1 hd).1; omega⟩
theorem place_here {l : List Lt} {x d : Lt} {k : Nat} (ha : Asc l) (hd : l[k]? = some d) (hn : ¬ ordLt d x < 0) (h : ∀ t d, t < k → l[t]? = some d → ordLt d x < 0) : Place l x k := by
  refine ⟨Nat.le_of_lt (List.getElem?_eq_some_iff.1 hd).1, h, fun t e ht he q => ?_⟩
  by_cases hk : t = k
  · subst hk; rw [hd] at he; injection he with he; subst he; exact hn q
  · exact hn (ordLt_trans (ha.at (by omega) hd he) q)

/-- MakeClause's answer. -/
def mkOk (l : List Lt) : Bool := l.all (fun d => atomB d.tm) && decide ((makeL l).length ≤ 8)
def mkR (l : List Lt) : List Lt := if mkOk l then makeL l else []
theorem mk_atom {l : List Lt} {k : Nat} {d : Lt} (h : l[k]? = some d) (ha : atomB d.tm = false) : mkOk l = false := by
  unfold mkOk
  rw [Bool.and_eq_false_iff]
  left
  rw [List.all_eq_false]
  exact ⟨d, List.mem_of_getElem? h, by rw [ha]; simp⟩
theorem mk_long {l : List Lt} {k : Nat} (h : 8 < (makeL (l.take k)).length) : mkOk l = false := by
  unfold mkOk
  rw [Bool.and_eq_false_iff]
  right
  have := make_mono l k
  rw [decide_eq_false_iff_not]; omega
theorem mk_yes {l : List Lt} (h1 : ∀ d ∈ l, atomB d.tm = true) (h2 : (makeL l).length ≤ 8) : mkOk l = true := by
  unfold mkOk
  rw [Bool.and_eq_true]
  exact ⟨List.all_eq_true.2 h1, decide_eq_true h2⟩
theorem mkR_no {l : List Lt} (h : mkOk l = false) : mkR l = [] := by unfold mkR; rw [if_neg (by rw [h]; simp)]
theorem mkR_yes {l : List Lt} (h : mkOk l = true) : mkR l = makeL l := by unfold mkR; rw [if_pos h]
theorem mkR_wt (l : List Lt) : wtC (mkR l) ≤ wtC l := by
  unfold mkR
  split
  · exact make_wt l
  · simp [wtC, sumC]
theorem okLS_of {l : List Lt} (h : ∀ k d, l[k]? = some d → okL l k d = true) : okLS l l.length = true := by
  unfold okLS
  rw [List.all_eq_true]
  intro j hj
  cases e : l[j]? with
  | none => rfl
  | some d => exact h j d e
theorem good_make {l : List Lt} (h : ∀ d ∈ l, atomB d.tm = true) : goodC (makeL l) = decide ((makeL l).length ≤ 8) := by
  have hs : okLS (makeL l) (makeL l).length = true := okLS_of fun k d hk => by
    have hat := h d (make_mem (List.mem_of_getElem? hk))
    cases k with
    | zero => exact okL_0 hat
    | succ j =>
      obtain ⟨p, hp⟩ : ∃ p, (makeL l)[j]? = some p := ⟨_, List.getElem?_eq_getElem (by have := (List.getElem?_eq_some_iff.1 hk).1; omega)⟩
      exact okL_1 hat hp (less_iff.2 ((asc_make l).at (by omega) hp hk))
  unfold goodC
  rw [hs, Bool.and_true]

end Go.Proofs.YtgpmdfhepanahaaGreat.lit

/- Lists of literals that a call is making: entries with the blocks of their atoms, and the row that holds them. No condition. -/
namespace Go.Proofs.YtgpmdfhepanahaaGreat.lit
open Go.RowKit
set_option linter.unusedVariables false

/-- A binding, the value of its term's arguments, and the blocks that these lie in. -/
structure En where
  d : Lt
  va : Value
  S : Nat → Prop

def En.cells (e : En) : List Value := [.bool e.d.var, .string e.d.tm.name, e.va]
def enF : List En → List Value
  | [] => []
  | e :: r => e.cells ++ enF r
def bdsE (L : List En) : List Lt := L.map En.d

theorem enF_len : ∀ L : List En, (enF L).length = L.length * 3
  | [] => rfl
  | e :: r => by rw [enF, List.length_append, enF_len r, List.length_cons]; simp [En.cells]; omega
theorem enF_append : ∀ a b : List En, enF (a ++ b) = enF a ++ enF b
  | [], b => by simp [enF]
  | e :: r, b => by rw [List.cons_append, enF, enF, enF_append r b, List.append_assoc]
theorem enF_take (L : List En) (k : Nat) (h : k ≤ L.length) : (enF L).take (k * 3) = enF (L.take k) := by
  have e := enF_append (L.take k) (L.drop k)
  rw [List.take_append_drop] at e
  have hl : (enF (L.take k)).length = k * 3 := by rw [enF_len, List.length_take, Nat.min_eq_left h]
  rw [e, List.take_append_of_le_length (by omega), List.take_of_length_le (by omega)]
theorem enF_drop (L : List En) (k : Nat) (h : k ≤ L.length) : (enF L).drop (k * 3) = enF (L.drop k) := by
  have e := enF_append (L.take k) (L.drop k)
  rw [List.take_append_drop] at e
  have hl : (enF (L.take k)).length = k * 3 := by rw [enF_len, List.length_take, Nat.min_eq_left h]
  rw [e, ← hl, List.drop_left]
theorem enF_at : ∀ {L : List En} {k : Nat} {e : En}, L[k]? = some e → (enF L)[k * 3]? = some (.bool e.d.var) ∧ (enF L)[k * 3 + 1]? = some (.string e.d.tm.name) ∧ (enF L)[k * 3 + 2]? = some e.va
  | [], _, _, h => by cases h
  | a :: r, 0, e, h => by simp at h; subst h; rw [enF]; exact ⟨rfl, rfl, rfl⟩
  | a :: r, k + 1, e, h => by
    have ih := enF_at (L := r) (k := k) (e := e) (by simpa using h)
    have hl : a.cells.length = 3 := rfl
    rw [enF, List.getElem?_append_right (by omega), List.getElem?_append_right (by omega), List.getElem?_append_right (by omega), hl]
    rw [show (k + 1) * 3 - 3 = k * 3 by omega, show (k + 1) * 3 + 1 - 3 = k * 3 + 1 by omega, show (k + 1) * 3 + 2 - 3 = k * 3 + 2 by omega]
    exact ih
theorem bdsE_at {L : List En} {k : Nat} {e : En} (h : L[k]? = some e) : (bdsE L)[k]? = some e.d := by unfold bdsE; rw [List.getElem?_map, h]; rfl
theorem bdsE_of {L : List En} {k : Nat} {d : Lt} (h : (bdsE L)[k]? = some d) : ∃ e, L[k]? = some e ∧ e.d = d := by
  unfold bdsE at h
  rw [List.getElem?_map] at h
  cases hq : L[k]? with
  | none => rw [hq] at h; cases h
  | some e => rw [hq] at h; injection h with h; exact ⟨e, rfl, h⟩
theorem bdsE_len (L : List En) : (bdsE L).length = L.length := by simp [bdsE]
theorem bdsE_append (a b : List En) : bdsE (a ++ b) = bdsE a ++ bdsE b := by simp [bdsE]

/-- The terms of the entries: each in blocks of its own, from the block lo on. -/
structure Ens (lo : Nat) (w : World) (L : List En) : Prop where
  own : ∀ e ∈ L, TmO w e.S e.va e.d.tm.args
  sub : ∀ e ∈ L, ∀ b, e.S b → lo ≤ b ∧ b < w.heap.size
  dis : L.Pairwise (fun x y => ∀ b, x.S b → y.S b → False)

theorem Ens.nil (lo : Nat) (w : World) : Ens lo w [] := ⟨fun e h => (by cases h), fun e h => (by cases h), List.Pairwise.nil⟩
theorem Ens.frame {lo : Nat} {w w' : World} {L : List En} (h : Ens lo w L) (hz : w.heap.size ≤ w'.heap.size) (hf : ∀ e ∈ L, ∀ b, e.S b → w'.heap[b]? = w.heap[b]?) : Ens lo w' L :=
  ⟨fun e he => (h.own e he).frame (hf e he), fun e he b hb => ⟨(h.sub e he b hb).1, Nat.lt_of_lt_of_le (h.sub e he b hb).2 hz⟩, h.dis⟩
theorem Ens.kept {lo : Nat} {w w' : World} {L : List En} (h : Ens lo w L) (hb : Below w.heap.size w w') : Ens lo w' L :=
  h.frame hb.size fun e he b hs => hb.block b (h.sub e he b hs).2
theorem Ens.grown {lo : Nat} {w w' : World} {L : List En} {row : Option Nat} (h : Ens lo w L) (hg : w.grownBy w' row) (hr : ∀ g, row = some g → ∀ e ∈ L, ¬ e.S g) : Ens lo w' L :=
  h.frame hg.size fun e he b hs => hg.block b (h.sub e he b hs).2 fun q => hr b q.symm e he hs
theorem Ens.setCell {lo : Nat} {w : World} {L : List En} (h : Ens lo w L) {a : Addr} (ha : ∀ e ∈ L, ¬ e.S a.block) (u : Value) : Ens lo (w.setCell a u) L :=
  h.frame (Nat.le_of_eq (size_setCell _ _ _).symm) fun e he b hs => Below.heap_setCell _ _ _ _ fun q => ha e he (q ▸ hs)
theorem Ens.sublist {lo : Nat} {w : World} {L L' : List En} (h : Ens lo w L) (hs : L'.Sublist L) : Ens lo w L' :=
  ⟨fun e he => h.own e (hs.subset he), fun e he => h.sub e (hs.subset he), h.dis.sublist hs⟩
theorem Ens.mono {lo lo' : Nat} {w : World} {L : List En} (h : Ens lo w L) (hl : lo' ≤ lo) : Ens lo' w L :=
  ⟨h.own, fun e he b hb => ⟨Nat.le_trans hl (h.sub e he b hb).1, (h.sub e he b hb).2⟩, h.dis⟩
theorem Ens.insert {lo : Nat} {w : World} {A B : List En} {e : En} (h : Ens lo w (A ++ B)) (ho : TmO w e.S e.va e.d.tm.args) (hS : ∀ b, e.S b → lo ≤ b ∧ b < w.heap.size) (hd : ∀ x ∈ A ++ B, ∀ b, x.S b → e.S b → False) : Ens lo w (A ++ e :: B) := by
  refine ⟨fun x hx => ?_, fun x hx => ?_, ?_⟩
  · rcases List.mem_append.1 hx with hx | hx
    · exact h.own x (List.mem_append_left _ hx)
    · rcases List.mem_cons.1 hx with rfl | hx
      · exact ho
      · exact h.own x (List.mem_append_right _ hx)
  · rcases List.mem_append.1 hx with hx | hx
    · exact h.sub x (List.mem_append_left _ hx)
    · rcases List.mem_cons.1 hx with rfl | hx
      · exact hS
      · exact h.sub x (List.mem_append_right _ hx)
  · have hp := List.pairwise_append.1 h.dis
    refine List.pairwise_append.2 ⟨hp.1, List.pairwise_cons.2 ⟨fun y hy b h1 h2 => hd y (List.mem_append_right _ hy) b h2 h1, hp.2.1⟩, fun x hx y hy b h1 h2 => ?_⟩
    rcases List.mem_cons.1 hy with rfl | hy
    · exact hd x (List.mem_append_left _ hx) b h1 h2
    · exact hp.2.2 x hx y hy b h1 h2
/-- A new entry whose blocks are new. -/
theorem Ens.fresh {lo : Nat} {w w' : World} {A B : List En} {d : Lt} {va : Value} (h : Ens lo w (A ++ B)) (hb : Below w.heap.size w w') (hl : lo ≤ w.heap.size) (ho : TmO w' (Fresh w w') va d.tm.args) : Ens lo w' (A ++ ⟨d, va, Fresh w w'⟩ :: B) :=
  (h.kept hb).insert ho (fun b hb' => ⟨Nat.le_trans hl hb'.1, hb'.2⟩) fun x hx b h1 h2 => by have := (h.sub x hx b h1).2; have := h2.1; omega

/-- A row of its own that holds the entries. -/
structure RowE (base lo : Nat) (w : World) (v : Value) (L : List En) : Prop where
  row : w.ownsRow base 86 3 v L.length (enF L)
  ens : Ens lo w L
  apart : ∀ g, v.ownBlock = some g → ∀ e ∈ L, ¬ e.S g

theorem RowE.nil (base lo : Nat) (w : World) : RowE base lo w (.slice none 0 0) [] := ⟨World.ownsRow_nil _ _ _ _, Ens.nil _ _, fun g h => by simp [Value.ownBlock] at h⟩
theorem RowE.kept {base lo : Nat} {w w' : World} {v : Value} {L : List En} (h : RowE base lo w v L) (hb : Below w.heap.size w w') : RowE base lo w' v L :=
  ⟨own_kept h.row hb, h.ens.kept hb, h.apart⟩
theorem RowE.is_slice {base lo : Nat} {w : World} {v : Value} {L : List En} (h : RowE base lo w v L) : ∃ a c, v = .slice a L.length c := by
  rcases h.row.2 with ⟨rfl, h0⟩ | ⟨g, cap, cur, rfl, _⟩
  · exact ⟨none, 0, by rw [h0]⟩
  · exact ⟨_, _, rfl⟩
theorem RowE.read {base lo : Nat} {w : World} {v : Value} {L : List En} (h : RowE base lo w v L) : LtS w v (bdsE L) := by
  rcases h.row.2 with ⟨rfl, h0⟩ | ⟨g, cap, cur, rfl, hbg, hg, hnc, hcm, hcs, htake⟩
  · refine .inl ⟨none, 0, rfl, ?_⟩
    rw [List.length_eq_zero_iff.1 h0]; rfl
  · by_cases h0 : L.length = 0
    · have e := List.length_eq_zero_iff.1 h0
      subst e; exact .inl ⟨_, _, rfl, rfl⟩
    · refine .inr ⟨g, 0, cap, by rw [bdsE_len], by rw [bdsE_len]; omega, fun k d hk => ?_⟩
      obtain ⟨e, he, rfl⟩ := bdsE_of hk
      have hkl := (List.getElem?_eq_some_iff.1 he).1
      obtain ⟨h1, h2, h3⟩ := enF_at he
      have hc : ∀ j u, (enF L)[j]? = some u → w.cell? ⟨g, j, none⟩ = some u := fun j u hj => by
        have hjl := (List.getElem?_eq_some_iff.1 hj).1
        rw [enF_len] at hjl
        have hr := h.row
        rw [hr.cellAt j hjl]; exact hj
      refine ⟨e.va, ?_, ?_, ?_, (h.ens.own e (List.mem_of_getElem? he)).read⟩
      · simpa using hc _ _ h1
      · simpa using hc _ _ h2
      · simpa using hc _ _ h3
theorem RowE.whole {base lo : Nat} {w0 w : World} {v : Value} {L : List En} (h : RowE base lo w v L) (hb : w0.heap.size ≤ base) (hl : w0.heap.size ≤ lo) : LtO w (Fresh w0 w) v (bdsE L) := by
  rcases h.row.2 with ⟨rfl, h0⟩ | ⟨g, cap, cur, rfl, hbg, hg, hnc, hcm, hcs, htake⟩
  · refine .inl ⟨none, 0, rfl, ?_⟩
    rw [List.length_eq_zero_iff.1 h0]; rfl
  · by_cases h0 : L.length = 0
    · have e := List.length_eq_zero_iff.1 h0
      subst e; exact .inl ⟨_, _, rfl, rfl⟩
    · have hlt : g < w.heap.size := (Array.getElem?_eq_some_iff.1 hg).1
      have hr := h.row
      have hc : ∀ j u, (enF L)[j]? = some u → w.cell? ⟨g, j, none⟩ = some u := fun j u hj => by
        have hjl := (List.getElem?_eq_some_iff.1 hj).1
        rw [enF_len] at hjl
        rw [hr.cellAt j hjl]; exact hj
      refine .inr ⟨g, cap, fun i => (L[i]?.map En.va).getD default, fun i => (L[i]?.map En.S).getD (fun _ => False), by rw [bdsE_len], by rw [bdsE_len]; omega, ⟨by omega, hlt⟩, by rw [bdsE_len]; omega, fun j => hr.frozenAt j, fun i d hi => ?_, fun i k hi hk => ?_, fun i j k hi hj hij h1 h2 => ?_⟩
      · obtain ⟨e, he, rfl⟩ := bdsE_of hi
        obtain ⟨h1, h2, h3⟩ := enF_at he
        simp only [he, Option.map_some, Option.getD_some]
        exact ⟨hc _ _ h1, hc _ _ h2, hc _ _ h3, h.ens.own e (List.mem_of_getElem? he)⟩
      · rw [bdsE_len] at hi
        obtain ⟨e, he⟩ : ∃ e, L[i]? = some e := ⟨_, List.getElem?_eq_getElem hi⟩
        simp only [he, Option.map_some, Option.getD_some] at hk
        have h1 := h.ens.sub e (List.mem_of_getElem? he) k hk
        exact ⟨⟨by omega, h1.2⟩, fun q => h.apart g rfl e (List.mem_of_getElem? he) (q ▸ hk)⟩
      · rw [bdsE_len] at hi hj
        have hd := List.pairwise_iff_getElem.1 h.ens.dis
        simp only [List.getElem?_eq_getElem hi, Option.map_some, Option.getD_some] at h1
        simp only [List.getElem?_eq_getElem hj, Option.map_some, Option.getD_some] at h2
        rcases Nat.lt_or_gt_of_ne hij with q | q
        · exact hd i j hi hj q k h1 h2
        · exact hd j i hj hi q k h2 h1

end Go.Proofs.YtgpmdfhepanahaaGreat.lit

/- Rows of literals: more facts on insertion. No condition. -/
namespace Go.Proofs.YtgpmdfhepanahaaGreat.lit
open Go.RowKit
set_option linter.unusedVariables false

theorem one_grown {w w' : World} {row : Option Nat} (hg : w.grownBy w' row) {b : Nat} {x : Value} (h : Oner w b x) (hne : some b ≠ row) : Oner w' b x :=
  ⟨hg.cell h.1 hne, fun j => (World.frozen?_of_block (w := w) (a := ⟨b, j, none⟩) (hg.block b (World.block_lt_of_cell? w ⟨b, 0, none⟩ h.1) hne)).trans (h.2 j)⟩
theorem RowE.setBelow {base lo : Nat} {w : World} {v : Value} {L : List En} (h : RowE base lo w v L) {a : Addr} (h1 : a.block < base) (h2 : a.block < lo) (u : Value) : RowE base lo (w.setCell a u) v L :=
  ⟨ownsRow_setCell_below h.row h1 u, h.ens.setCell (fun e he hs => by have := (h.ens.sub e he _ hs).1; omega) u, h.apart⟩
theorem RowE.mono {base lo base' lo' : Nat} {w : World} {v : Value} {L : List En} (h : RowE base lo w v L) (h1 : base' ≤ base) (h2 : lo' ≤ lo) : RowE base' lo' w v L := by
  refine ⟨⟨h.row.1, ?_⟩, h.ens.mono h2, h.apart⟩
  rcases h.row.2 with hn | ⟨g, cap, cur, e1, hb, hrest⟩
  · exact .inl hn
  · exact .inr ⟨g, cap, cur, e1, Nat.le_trans h1 hb, hrest⟩
theorem enF_one {lo : Nat} {w : World} {L : List En} (h : Ens lo w L) : ∀ u ∈ enF L, u.oneCell' = true := by
  have : ∀ M : List En, (∀ e ∈ M, e ∈ L) → ∀ u ∈ enF M, u.oneCell' = true := by
    intro M
    induction M with
    | nil => intro _ u hu; cases hu
    | cons e r ih =>
      intro hM u hu
      rw [enF] at hu
      rcases List.mem_append.1 hu with hu | hu
      · obtain ⟨p, c, hs⟩ := (h.own e (hM e List.mem_cons_self)).read.is_slice
        simp only [En.cells, List.mem_cons, List.not_mem_nil, or_false] at hu
        rcases hu with rfl | rfl | rfl
        · rfl
        · rfl
        · rw [hs]; rfl
      · exact ih (fun x hx => hM x (List.mem_cons_of_mem _ hx)) u hu
  exact this L fun e he => he
theorem row_cell {base : Nat} {w : World} {g n c : Nat} {L : List En} (h : w.ownsRow base 86 3 (.slice (some ⟨g, 0, none⟩) n c) n (enF L)) (j : Nat) (u : Value) (hj : (enF L)[j]? = some u) : w.cell? ⟨g, j, none⟩ = some u := by
  rw [h.cellAt j (by have := (List.getElem?_eq_some_iff.1 hj).1; have := h.1; omega)]; exact hj
theorem add_off (g o j : Nat) : (⟨g, o, none⟩ : Addr).add j = ⟨g, o + j, none⟩ := by unfold Addr.add; split <;> simp_all

theorem RowE.ins {base : Nat} {w w' : World} {v : Value} {L : List En} {i : Nat} {d : Lt} {va : Value} {S : Nat → Prop} {g cap : Nat} (hr : RowE base base w v L) (hi : i ≤ L.length) (ho : TmO w S va d.tm.args) (hS : ∀ b, S b → base ≤ b ∧ b < w.heap.size)
    (hd : ∀ x ∈ L, ∀ b, x.S b → S b → False) (hv : ∀ g, v.ownBlock = some g → ¬ S g)
    (hown : w'.ownsRow base 86 3 (.slice (some ⟨g, 0, none⟩) (L.length + 1) cap) (L.length + 1) ((enF L).take (i * 3) ++ [.bool d.var, .string d.tm.name, va] ++ (enF L).drop (i * 3))) (hat : v.ownBlock = some g ∨ g = w.heap.size) (hg : w.grownBy w' v.ownBlock) :
    RowE base base w' (.slice (some ⟨g, 0, none⟩) (L.length + 1) cap) (L.take i ++ ⟨d, va, S⟩ :: L.drop i) := by
  have hlen : (L.take i ++ ⟨d, va, S⟩ :: L.drop i).length = L.length + 1 := by simp; omega
  have hins : Ens base w (L.take i ++ ⟨d, va, S⟩ :: L.drop i) := Ens.insert (by rw [List.take_append_drop]; exact hr.ens) ho hS (fun x hx => by rw [List.take_append_drop] at hx; exact hd x hx)
  have hmem : ∀ x ∈ (L.take i ++ ⟨d, va, S⟩ :: L.drop i), x ∈ L ∨ x.S = S := fun x hx => by
    rcases List.mem_append.1 hx with hx | hx
    · exact .inl (List.mem_of_mem_take hx)
    · rcases List.mem_cons.1 hx with rfl | hx
      · exact .inr rfl
      · exact .inl (List.mem_of_mem_drop hx)
  refine ⟨?_, hins.grown hg (fun g' e x hx hs => ?_), fun g' e x hx hs => ?_⟩
  · rw [hlen, enF_append, enF, En.cells, ← enF_take _ _ hi, ← enF_drop _ _ hi, ← List.append_assoc]
    exact hown
  · rcases hmem x hx with h | h
    · exact hr.apart g' e x h hs
    · rw [h] at hs; exact hv g' e hs
  · have e : g = g' := by simpa [Value.ownBlock] using e
    subst e
    rcases hat with h1 | h1
    · rcases hmem x hx with h | h
      · exact hr.apart g h1 x h hs
      · rw [h] at hs; exact hv g h1 hs
    · rcases hmem x hx with h | h
      · have := (hr.ens.sub x h _ hs).2; omega
      · rw [h] at hs; have := (hS _ hs).2; omega
theorem RowE.app {base : Nat} {w w' : World} {v : Value} {L : List En} {d : Lt} {va : Value} {S : Nat → Prop} {g cap : Nat} (hr : RowE base base w v L) (ho : TmO w S va d.tm.args) (hS : ∀ b, S b → base ≤ b ∧ b < w.heap.size)
    (hd : ∀ x ∈ L, ∀ b, x.S b → S b → False) (hv : ∀ g, v.ownBlock = some g → ¬ S g)
    (hown : w'.ownsRow base 86 3 (.slice (some ⟨g, 0, none⟩) (L.length + 1) cap) (L.length + 1) (enF L ++ [.bool d.var, .string d.tm.name, va])) (hat : v.ownBlock = some g ∨ g = w.heap.size) (hg : w.grownBy w' v.ownBlock) :
    RowE base base w' (.slice (some ⟨g, 0, none⟩) (L.length + 1) cap) (L ++ [⟨d, va, S⟩]) := by
  have h := RowE.ins (i := L.length) hr (Nat.le_refl _) ho hS hd hv (by
    rw [List.take_of_length_le (by rw [enF_len]; exact Nat.le_refl _), List.drop_of_length_le (by rw [enF_len]; exact Nat.le_refl _), List.append_nil]; exact hown) hat hg
  rwa [List.take_length, List.drop_length] at h


/-- The row behind three appends. -/
theorem row_ins {base lo : Nat} {wr W : World} {L : List En} {d : Lt} {v v8 : Value} {S : Nat → Prop} {k g9 c9 m B : Nat} (hr0 : RowE base lo wr v L) (hB : Below wr.heap.size wr W) (hlo : lo ≤ wr.heap.size) (hbase : base ≤ wr.heap.size)
    (hk : k ≤ L.length) (hm : m = L.length - k) (hBB : wr.heap.size ≤ B)
    (hown : W.ownsRow B 86 3 (.slice (some ⟨g9, 0, none⟩) (k + 1 + m) c9) (k + 1 + m) ((enF (L.take k) ++ [.bool d.var, .string d.tm.name, v8]) ++ enF (L.drop k)))
    (ho : TmO W S v8 d.tm.args) (hS : ∀ b, S b → wr.heap.size ≤ b ∧ b < W.heap.size) (hg9 : ¬ S g9) :
    RowE base lo W (.slice (some ⟨g9, 0, none⟩) (k + 1 + m) c9) (L.take k ++ ⟨d, v8, S⟩ :: L.drop k) := by
  have hens : Ens lo W (L.take k ++ L.drop k) := by rw [List.take_append_drop]; exact hr0.ens.kept hB
  have hgw : wr.heap.size ≤ g9 := Nat.le_trans hBB (hown.lt g9 rfl).1
  have hlen : (L.take k ++ ⟨d, v8, S⟩ :: L.drop k).length = k + 1 + m := by simp; omega
  have hrow : W.ownsRow base 86 3 (.slice (some ⟨g9, 0, none⟩) (k + 1 + m) c9) (k + 1 + m) (enF (L.take k ++ ⟨d, v8, S⟩ :: L.drop k)) := by
    rw [enF_append, enF, En.cells]
    refine ⟨?_, ?_⟩
    · have := hown.1; simpa [List.append_assoc] using this
    · rcases hown.2 with h | ⟨g', cap', cur, e1, hbg, hrest⟩
      · exact .inl h
      · refine .inr ⟨g', cap', cur, e1, by omega, ?_⟩
        simpa [List.append_assoc] using hrest
  have hins : Ens lo W (L.take k ++ ⟨d, v8, S⟩ :: L.drop k) := hens.insert ho (fun b hb => ⟨by have := (hS b hb).1; omega, (hS b hb).2⟩) (fun x hx b h1 h2 => by
    rw [List.take_append_drop] at hx
    have h3 := (hr0.ens.sub x hx b h1).2
    have h4 := (hS b h2).1
    omega)
  refine ⟨by rw [hlen]; exact hrow, hins, fun g e x hx hxs => ?_⟩
  have e : g9 = g := by simpa [Value.ownBlock] using e
  subst e
  rcases List.mem_append.1 hx with hx | hx
  · have := (hr0.ens.sub x (List.mem_of_mem_take hx) _ hxs).2; omega
  · rcases List.mem_cons.1 hx with rfl | hx
    · exact hg9 hxs
    · have := (hr0.ens.sub x (List.mem_of_mem_drop hx) _ hxs).2; omega
theorem bdsE_ins (L : List En) (d : Lt) (v : Value) (S : Nat → Prop) (k : Nat) : bdsE (L.take k ++ ⟨d, v, S⟩ :: L.drop k) = (bdsE L).take k ++ d :: (bdsE L).drop k := by
  simp [bdsE]

/-- MakeClause's ending. -/
def OkEnd (r : List Lt) (ok : Bool) (w : World) (e : Ending) (w' : World) : Prop :=
  ∃ va, e = .returned (.tuple #[.agg #[va], .bool ok]) ∧ LtO w' (Fresh w w') va r ∧ Below w.heap.size w w'
theorem OkEnd.no {r : List Lt} {ok : Bool} {w w' : World} (hr : r = []) (hok : ok = false) (hb : Below w.heap.size w w') :
    OkEnd r ok w (.returned (.tuple #[.agg #[.slice none 0 0], .bool false])) w' := by
  subst hr; subst hok
  exact ⟨.slice none 0 0, rfl, .inl ⟨_, _, rfl, rfl⟩, hb⟩

end Go.Proofs.YtgpmdfhepanahaaGreat.lit
