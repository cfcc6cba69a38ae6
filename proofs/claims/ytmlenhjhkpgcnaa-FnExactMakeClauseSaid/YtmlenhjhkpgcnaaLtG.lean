/- Several texts in one: each says what it proves. No condition but theirs. -/
import Derived.Test.YtmlenhjhkpgcnaaOrdX
import Derived.Test.YtmlenhjhkpgcnaaLt
import Derived.Test.YtmlenhjhkpgcnaaOwn
import Derived.Test.YtmlenhjhkpgcnaaInG
import Derived.Test.YtmlenhjhkpgcnaaOneX
import Derived.Maps.AppendAt
import Derived.Laws.AppendOwnNone
import Derived.Test.YtmlenhjhkpgcnaaVl7
import Derived.Sort.Walk0
import Derived.Deep.RegionHeld3
/- A clause made of a list of literals: insertion into an ascending list without duplicates. No condition. -/
namespace Go.Proofs.Ytmlenhjhkpgcnaa.lit
open Go.RowKit
set_option linter.unusedVariables false

def Asc (l : List Lt) : Prop := l.Pairwise fun a b => ordLt a b < 0
theorem Asc.at {l : List Lt} (h : Asc l) {i j : Nat} {x y : Lt} (hij : i < j) (hx : l[i]? = some x) (hy : l[j]? = some y) : ordLt x y < 0 := by
  obtain ⟨h1, rfl⟩ := List.getElem?_eq_some_iff.1 hx
  obtain ⟨h2, rfl⟩ := List.getElem?_eq_some_iff.1 hy
  exact List.pairwise_iff_getElem.1 h i j h1 h2 hij
def putL (x : Lt) : List Lt → List Lt
  | [] => [x]
  | d :: r => if ordLt d x < 0 then d :: putL x r else if ordLt d x = 0 then d :: r else x :: d :: r
def makeL (l : List Lt) : List Lt := l.foldl (fun a x => putL x a) []
theorem makeL_nil (l : List Lt) : makeL (l.take 0) = [] := by simp [makeL]
theorem makeL_next {l : List Lt} {k : Nat} {d : Lt} (h : l[k]? = some d) : makeL (l.take (k + 1)) = putL d (makeL (l.take k)) := by
  unfold makeL; rw [take_next h, List.foldl_append]; rfl
theorem makeL_all {l : List Lt} {k : Nat} (h : l.length ≤ k) : makeL (l.take k) = makeL l := by rw [List.take_of_length_le h]
theorem put_mem {x y : Lt} : ∀ {l : List Lt}, y ∈ putL x l → y = x ∨ y ∈ l
  | [], h => .inl (by simpa [putL] using h)
  | d :: r, h => by
    unfold putL at h
    split at h
    · rcases List.mem_cons.1 h with h | h
      · exact .inr (by rw [h]; exact List.mem_cons_self)
      · rcases put_mem h with h | h
        · exact .inl h
        · exact .inr (List.mem_cons_of_mem _ h)
    · split at h
      · exact .inr h
      · rcases List.mem_cons.1 h with h | h
        · exact .inl h
        · exact .inr h
theorem asc_put (x : Lt) : ∀ {l : List Lt}, Asc l → Asc (putL x l)
  | [], _ => by simp [putL, Asc]
  | d :: r, h => by
    obtain ⟨h1, h2⟩ := List.pairwise_cons.1 h
    unfold putL
    split
    · rename_i hlt
      exact List.pairwise_cons.2 ⟨fun y hy => by
        rcases put_mem hy with e | hy
        · rw [e]; exact hlt
        · exact h1 y hy, asc_put x h2⟩
    · split
      · exact h
      · rename_i hn h0
        have hf := ordLt_flip d x
        have hxd : ordLt x d < 0 := by omega
        exact List.pairwise_cons.2 ⟨fun y hy => by
          rcases List.mem_cons.1 hy with e | hy
          · rw [e]; exact hxd
          · exact ordLt_trans hxd (h1 y hy), h⟩
theorem asc_fold : ∀ (l a : List Lt), Asc a → Asc (l.foldl (fun a x => putL x a) a)
  | [], _, h => h
  | x :: r, a, h => asc_fold r (putL x a) (asc_put x h)
theorem asc_make (l : List Lt) : Asc (makeL l) := asc_fold l [] (by simp [Asc])
theorem fold_mem : ∀ (l a : List Lt) (y : Lt), y ∈ l.foldl (fun a x => putL x a) a → y ∈ l ∨ y ∈ a
  | [], _, y, h => .inr h
  | x :: r, a, y, h => by
    rcases fold_mem r (putL x a) y h with h | h
    · exact .inl (List.mem_cons_of_mem _ h)
    · rcases put_mem h with h | h
      · exact .inl (by rw [h]; exact List.mem_cons_self)
      · exact .inr h
theorem make_mem {l : List Lt} {y : Lt} (h : y ∈ makeL l) : y ∈ l := by
  rcases fold_mem l [] y h with h | h
  · exact h
  · cases h
theorem put_len (x : Lt) : ∀ l : List Lt, l.length ≤ (putL x l).length ∧ (putL x l).length ≤ l.length + 1
  | [] => by simp [putL]
  | d :: r => by
    have h := put_len x r
    unfold putL
    split
    · simp only [List.length_cons]; omega
    · split <;> simp only [List.length_cons] <;> omega
theorem fold_len : ∀ (l a : List Lt), a.length ≤ (l.foldl (fun a x => putL x a) a).length ∧ (l.foldl (fun a x => putL x a) a).length ≤ a.length + l.length
  | [], a => by simp
  | x :: r, a => by
    have h := fold_len r (putL x a)
    have h2 := put_len x a
    simp only [List.foldl_cons, List.length_cons]; omega
theorem make_len (l : List Lt) : (makeL l).length ≤ l.length := by have h := (fold_len l []).2; unfold makeL; simpa using h
theorem make_mono (l : List Lt) (k : Nat) : (makeL (l.take k)).length ≤ (makeL l).length := by
  have h := (fold_len (l.drop k) (makeL (l.take k))).1
  have e : makeL l = (l.drop k).foldl (fun a x => putL x a) (makeL (l.take k)) := by
    unfold makeL; rw [← List.foldl_append, List.take_append_drop]
  rw [e]; exact h
theorem put_wt (x : Lt) : ∀ l : List Lt, sumC Lt.wt (putL x l) ≤ sumC Lt.wt l + x.wt
  | [] => by simp [putL, sumC]
  | d :: r => by
    have h := put_wt x r
    unfold putL
    split
    · simp only [sumC]; omega
    · split <;> simp only [sumC] <;> omega
theorem fold_wt : ∀ (l a : List Lt), sumC Lt.wt (l.foldl (fun a x => putL x a) a) ≤ sumC Lt.wt a + sumC Lt.wt l
  | [], a => by simp [sumC]
  | x :: r, a => by
    have h := fold_wt r (putL x a)
    have h2 := put_wt x a
    simp only [List.foldl_cons, sumC]; omega
theorem make_wt (l : List Lt) : wtC (makeL l) ≤ wtC l := by
  have h := fold_wt l []
  have h2 := make_len l
  have e : makeL l = l.foldl (fun a x => putL x a) [] := rfl
  rw [← e] at h
  simp only [sumC] at h
  unfold wtC; omega

/-- The place of the first literal that is not less. -/
def Place (l : List Lt) (x : Lt) (i : Nat) : Prop :=
  i ≤ l.length ∧ (∀ t d, t < i → l[t]? = some d → ordLt d x < 0) ∧ (∀ t d, i ≤ t → l[t]? = some d → ¬ ordLt d x < 0)
def hitL (l : List Lt) (x : Lt) (i : Nat) : Bool := match l[i]? with
  | some d => decide (ordLt d x = 0)
  | none => false
theorem hitL_at {l : List Lt} {x d : Lt} {i : Nat} (h : l[i]? = some d) : hitL l x i = decide (ordLt d x = 0) := by unfold hitL; rw [h]
theorem hitL_out {l : List Lt} {x : Lt} {i : Nat} (h : l.length ≤ i) : hitL l x i = false := by unfold hitL; rw [List.getElem?_eq_none h]
theorem put_place {x : Lt} : ∀ {l : List Lt} {i : Nat}, Place l x i → putL x l = if hitL l x i then l else l.take i ++ x :: l.drop i
  | [], i, h => by
    have : i = 0 := by have := h.1; simpa using this
    subst this
    simp [putL, hitL]
  | d :: r, 0, h => by
    have h0 := h.2.2 0 d (Nat.le_refl _) rfl
    unfold putL
    rw [if_neg h0]
    by_cases e : ordLt d x = 0
    · rw [if_pos e, if_pos (by simp [hitL, e])]
    · rw [if_neg e, if_neg (by simp [hitL, e])]; rfl
  | d :: r, i + 1, h => by
    have h0 := h.2.1 0 d (by omega) rfl
    have ih : Place r x i := ⟨by have := h.1; simpa using this, fun t e ht he => h.2.1 (t + 1) e (by omega) (by simpa using he), fun t e ht he => h.2.2 (t + 1) e (by omega) (by simpa using he)⟩
    have h2 := put_place ih
    unfold putL
    rw [if_pos h0, h2]
    have e : hitL (d :: r) x (i + 1) = hitL r x i := by simp [hitL]
    rw [e]
    split <;> rfl
theorem put_hit {x : Lt} {l : List Lt} {i : Nat} (hp : Place l x i) (h : hitL l x i = true) : putL x l = l := by rw [put_place hp, if_pos h]
theorem put_new {x : Lt} {l : List Lt} {i : Nat} (hp : Place l x i) (h : hitL l x i = false) : putL x l = l.take i ++ x :: l.drop i := by rw [put_place hp, if_neg (by rw [h]; simp)]
theorem place_end {l : List Lt} {x : Lt} (h : ∀ t d, t < l.length → l[t]? = some d → ordLt d x < 0) : Place l x l.length :=
  ⟨Nat.le_refl _, h, fun t d ht hd => by have := (List.getElem?_eq_some_iff.1 hd).1; omega⟩
theorem place_here {l : List Lt} {x d : Lt} {k : Nat} (ha : Asc l) (hd : l[k]? = some d) (hn : ¬ ordLt d x < 0) (h : ∀ t d, t < k → l[t]? = some d → ordLt d x < 0) : Place l x k := by
  refine ⟨Nat.le_of_lt (List.getElem?_eq_some_iff.1 hd).1, h, fun t e ht he q => ?_⟩
  by_cases hk : t = k
  · subst hk; rw [hd] at he; injection he with he; subst he; exact hn q
  · exact hn (ordLt_trans (ha.at (by omega) hd he) q)

/-- MakeClause's answer. -/
def mkOk (l : List Lt) : Bool := l.all (fun d => atomB d.tm) && decide ((makeL l).length ≤ 8)
def mkR (l : List Lt) : List Lt := if mkOk l then makeL l else []
theorem mk_atom {l : List Lt} {k : Nat} {d : Lt} (h : l[k]? = some d) (ha : atomB d.tm = false) : mkOk l = false := by
  unfold mkOk
  rw [Bool.and_eq_false_iff]
  left
  rw [List.all_eq_false]
  exact ⟨d, List.mem_of_getElem? h, by rw [ha]; simp⟩
theorem mk_long {l : List Lt} {k : Nat} (h : 8 < (makeL (l.take k)).length) : mkOk l = false := by
  unfold mkOk
  rw [Bool.and_eq_false_iff]
  right
  have := make_mono l k
  rw [decide_eq_false_iff_not]; omega
theorem mk_yes {l : List Lt} (h1 : ∀ d ∈ l, atomB d.tm = true) (h2 : (makeL l).length ≤ 8) : mkOk l = true := by
  unfold mkOk
  rw [Bool.and_eq_true]
  exact ⟨List.all_eq_true.2 h1, decide_eq_true h2⟩
theorem mkR_no {l : List Lt} (h : mkOk l = false) : mkR l = [] := by unfold mkR; rw [if_neg (by rw [h]; simp)]
theorem mkR_yes {l : List Lt} (h : mkOk l = true) : mkR l = makeL l := by unfold mkR; rw [if_pos h]
theorem mkR_wt (l : List Lt) : wtC (mkR l) ≤ wtC l := by
  unfold mkR
  split
  · exact make_wt l
  · simp [wtC, sumC]
theorem okLS_of {l : List Lt} (h : ∀ k d, l[k]? = some d → okL l k d = true) : okLS l l.length = true := by
  unfold okLS
  rw [List.all_eq_true]
  intro j hj
  cases e : l[j]? with
  | none => rfl
  | some d => exact h j d e
theorem good_make {l : List Lt} (h : ∀ d ∈ l, atomB d.tm = true) : goodC (makeL l) = decide ((makeL l).length ≤ 8) := by
  have hs : okLS (makeL l) (makeL l).length = true := okLS_of fun k d hk => by
    have hat := h d (make_mem (List.mem_of_getElem? hk))
    cases k with
    | zero => exact okL_0 hat
    | succ j =>
      obtain ⟨p, hp⟩ : ∃ p, (makeL l)[j]? = some p := ⟨_, List.getElem?_eq_getElem (by have := (List.getElem?_eq_some_iff.1 hk).1; omega)⟩
      exact okL_1 hat hp (less_iff.2 ((asc_make l).at (by omega) hp hk))
  unfold goodC
  rw [hs, Bool.and_true]

end Go.Proofs.Ytmlenhjhkpgcnaa.lit

/- Lists of literals that a call is making: entries with the blocks of their atoms, and the row that holds them. No condition. -/
namespace Go.Proofs.Ytmlenhjhkpgcnaa.lit
open Go.RowKit
set_option linter.unusedVariables false

/-- A binding, the value of its term's arguments, and the blocks that these lie in. -/
structure En where
  d : Lt
  va : Value
  S : Nat → Prop

def En.cells (e : En) : List Value := [.bool e.d.var, .string e.d.tm.name, e.va]
def enF : List En → List Value
  | [] => []
  | e :: r => e.cells ++ enF r
def bdsE (L : List En) : List Lt := L.map En.d

theorem enF_len : ∀ L : List En, (enF L).length = L.length * 3
  | [] => rfl
  | e :: r => by rw [enF, List.length_append, enF_len r, List.length_cons]; simp [En.cells]; omega
theorem enF_append : ∀ a b : List En, enF (a ++ b) = enF a ++ enF b
  | [], b => by simp [enF]
  | e :: r, b => by rw [List.cons_append, enF, enF, enF_append r b, List.append_assoc]
theorem enF_take (L : List En) (k : Nat) (h : k ≤ L.length) : (enF L).take (k * 3) = enF (L.take k) := by
  have e := enF_append (L.take k) (L.drop k)
  rw [List.take_append_drop] at e
  have hl : (enF (L.take k)).length = k * 3 := by rw [enF_len, List.length_take, Nat.min_eq_left h]
  rw [e, List.take_append_of_le_length (by omega), List.take_of_length_le (by omega)]
theorem enF_drop (L : List En) (k : Nat) (h : k ≤ L.length) : (enF L).drop (k * 3) = enF (L.drop k) := by
  have e := enF_append (L.take k) (L.drop k)
  rw [List.take_append_drop] at e
  have hl : (enF (L.take k)).length = k * 3 := by rw [enF_len, List.length_take, Nat.min_eq_left h]
  rw [e, ← hl, List.drop_left]
theorem enF_at : ∀ {L : List En} {k : Nat} {e : En}, L[k]? = some e → (enF L)[k * 3]? = some (.bool e.d.var) ∧ (enF L)[k * 3 + 1]? = some (.string e.d.tm.name) ∧ (enF L)[k * 3 + 2]? = some e.va
  | [], _, _, h => by cases h
  | a :: r, 0, e, h => by simp at h; subst h; rw [enF]; exact ⟨rfl, rfl, rfl⟩
  | a :: r, k + 1, e, h => by
    have ih := enF_at (L := r) (k := k) (e := e) (by simpa using h)
    have hl : a.cells.length = 3 := rfl
    rw [enF, List.getElem?_append_right (by omega), List.getElem?_append_right (by omega), List.getElem?_append_right (by omega), hl]
    rw [show (k + 1) * 3 - 3 = k * 3 by omega, show (k + 1) * 3 + 1 - 3 = k * 3 + 1 by omega, show (k + 1) * 3 + 2 - 3 = k * 3 + 2 by omega]
    exact ih
theorem bdsE_at {L : List En} {k : Nat} {e : En} (h : L[k]? = some e) : (bdsE L)[k]? = some e.d := by unfold bdsE; rw [List.getElem?_map, h]; rfl
theorem bdsE_of {L : List En} {k : Nat} {d : Lt} (h : (bdsE L)[k]? = some d) : ∃ e, L[k]? = some e ∧ e.d = d := by
  unfold bdsE at h
  rw [List.getElem?_map] at h
  cases hq : L[k]? with
  | none => rw [hq] at h; cases h
  | some e => rw [hq] at h; injection h with h; exact ⟨e, rfl, h⟩
theorem bdsE_len (L : List En) : (bdsE L).length = L.length := by simp [bdsE]
theorem bdsE_append (a b : List En) : bdsE (a ++ b) = bdsE a ++ bdsE b := by simp [bdsE]

/-- The terms of the entries: each in blocks of its own, from the block lo on. -/
structure Ens (lo : Nat) (w : World) (L : List En) : Prop where
  own : ∀ e ∈ L, TmO w e.S e.va e.d.tm.args
  sub : ∀ e ∈ L, ∀ b, e.S b → lo ≤ b ∧ b < w.heap.size
  dis : L.Pairwise (fun x y => ∀ b, x.S b → y.S b → False)

theorem Ens.nil (lo : Nat) (w : World) : Ens lo w [] := ⟨fun e h => (by cases h), fun e h => (by cases h), List.Pairwise.nil⟩
theorem Ens.frame {lo : Nat} {w w' : World} {L : List En} (h : Ens lo w L) (hz : w.heap.size ≤ w'.heap.size) (hf : ∀ e ∈ L, ∀ b, e.S b → w'.heap[b]? = w.heap[b]?) : Ens lo w' L :=
  ⟨fun e he => (h.own e he).frame (hf e he), fun e he b hb => ⟨(h.sub e he b hb).1, Nat.lt_of_lt_of_le (h.sub e he b hb).2 hz⟩, h.dis⟩
theorem Ens.kept {lo : Nat} {w w' : World} {L : List En} (h : Ens lo w L) (hb : Below w.heap.size w w') : Ens lo w' L :=
  h.frame hb.size fun e he b hs => hb.block b (h.sub e he b hs).2
theorem Ens.grown {lo : Nat} {w w' : World} {L : List En} {row : Option Nat} (h : Ens lo w L) (hg : w.grownBy w' row) (hr : ∀ g, row = some g → ∀ e ∈ L, ¬ e.S g) : Ens lo w' L :=
  h.frame hg.size fun e he b hs => hg.block b (h.sub e he b hs).2 fun q => hr b q.symm e he hs
theorem Ens.setCell {lo : Nat} {w : World} {L : List En} (h : Ens lo w L) {a : Addr} (ha : ∀ e ∈ L, ¬ e.S a.block) (u : Value) : Ens lo (w.setCell a u) L :=
  h.frame (Nat.le_of_eq (size_setCell _ _ _).symm) fun e he b hs => Below.heap_setCell _ _ _ _ fun q => ha e he (q ▸ hs)
theorem Ens.sublist {lo : Nat} {w : World} {L L' : List En} (h : Ens lo w L) (hs : L'.Sublist L) : Ens lo w L' :=
  ⟨fun e he => h.own e (hs.subset he), fun e he => h.sub e (hs.subset he), h.dis.sublist hs⟩
theorem Ens.mono {lo lo' : Nat} {w : World} {L : List En} (h : Ens lo w L) (hl : lo' ≤ lo) : Ens lo' w L :=
  ⟨h.own, fun e he b hb => ⟨Nat.le_trans hl (h.sub e he b hb).1, (h.sub e he b hb).2⟩, h.dis⟩
theorem Ens.insert {lo : Nat} {w : World} {A B : List En} {e : En} (h : Ens lo w (A ++ B)) (ho : TmO w e.S e.va e.d.tm.args) (hS : ∀ b, e.S b → lo ≤ b ∧ b < w.heap.size) (hd : ∀ x ∈ A ++ B, ∀ b, x.S b → e.S b → False) : Ens lo w (A ++ e :: B) := by
  refine ⟨fun x hx => ?_, fun x hx => ?_, ?_⟩
  · rcases List.mem_append.1 hx with hx | hx
    · exact h.own x (List.mem_append_left _ hx)
    · rcases List.mem_cons.1 hx with rfl | hx
      · exact ho
      · exact h.own x (List.mem_append_right _ hx)
  · rcases List.mem_append.1 hx with hx | hx
    · exact h.sub x (List.mem_append_left _ hx)
    · rcases List.mem_cons.1 hx with rfl | hx
      · exact hS
      · exact h.sub x (List.mem_append_right _ hx)
  · have hp := List.pairwise_append.1 h.dis
    refine List.pairwise_append.2 ⟨hp.1, List.pairwise_cons.2 ⟨fun y hy b h1 h2 => hd y (List.mem_append_right _ hy) b h2 h1, hp.2.1⟩, fun x hx y hy b h1 h2 => ?_⟩
    rcases List.mem_cons.1 hy with rfl | hy
    · exact hd x (List.mem_append_left _ hx) b h1 h2
    · exact hp.2.2 x hx y hy b h1 h2
/-- A new entry whose blocks are new. -/
theorem Ens.fresh {lo : Nat} {w w' : World} {A B : List En} {d : Lt} {va : Value} (h : Ens lo w (A ++ B)) (hb : Below w.heap.size w w') (hl : lo ≤ w.heap.size) (ho : TmO w' (Fresh w w') va d.tm.args) : Ens lo w' (A ++ ⟨d, va, Fresh w w'⟩ :: B) :=
  (h.kept hb).insert ho (fun b hb' => ⟨Nat.le_trans hl hb'.1, hb'.2⟩) fun x hx b h1 h2 => by have := (h.sub x hx b h1).2; have := h2.1; omega

/-- A row of its own that holds the entries. -/
structure RowE (base lo : Nat) (w : World) (v : Value) (L : List En) : Prop where
  row : w.ownsRow base 33 3 v L.length (enF L)
  ens : Ens lo w L
  apart : ∀ g, v.ownBlock = some g → ∀ e ∈ L, ¬ e.S g

theorem RowE.nil (base lo : Nat) (w : World) : RowE base lo w (.slice none 0 0) [] := ⟨World.ownsRow_nil _ _ _ _, Ens.nil _ _, fun g h => by simp [Value.ownBlock] at h⟩
theorem RowE.kept {base lo : Nat} {w w' : World} {v : Value} {L : List En} (h : RowE base lo w v L) (hb : Below w.heap.size w w') : RowE base lo w' v L :=
  ⟨own_kept h.row hb, h.ens.kept hb, h.apart⟩
theorem RowE.is_slice {base lo : Nat} {w : World} {v : Value} {L : List En} (h : RowE base lo w v L) : ∃ a c, v = .slice a L.length c := by
  rcases h.row.2 with ⟨rfl, h0⟩ | ⟨g, cap, cur, rfl, _⟩
  · exact ⟨none, 0, by rw [h0]⟩
  · exact ⟨_, _, rfl⟩
theorem RowE.read {base lo : Nat} {w : World} {v : Value} {L : List En} (h : RowE base lo w v L) : LtS w v (bdsE L) := by
  rcases h.row.2 with ⟨rfl, h0⟩ | ⟨g, cap, cur, rfl, hbg, hg, hnc, hcm, hcs, htake⟩
  · refine .inl ⟨none, 0, rfl, ?_⟩
    rw [List.length_eq_zero_iff.1 h0]; rfl
  · by_cases h0 : L.length = 0
    · have e := List.length_eq_zero_iff.1 h0
      subst e; exact .inl ⟨_, _, rfl, rfl⟩
    · refine .inr ⟨g, 0, cap, by rw [bdsE_len], by rw [bdsE_len]; omega, fun k d hk => ?_⟩
      obtain ⟨e, he, rfl⟩ := bdsE_of hk
      have hkl := (List.getElem?_eq_some_iff.1 he).1
      obtain ⟨h1, h2, h3⟩ := enF_at he
      have hc : ∀ j u, (enF L)[j]? = some u → w.cell? ⟨g, j, none⟩ = some u := fun j u hj => by
        have hjl := (List.getElem?_eq_some_iff.1 hj).1
        rw [enF_len] at hjl
        have hr := h.row
        rw [hr.cellAt j hjl]; exact hj
      refine ⟨e.va, ?_, ?_, ?_, (h.ens.own e (List.mem_of_getElem? he)).read⟩
      · simpa using hc _ _ h1
      · simpa using hc _ _ h2
      · simpa using hc _ _ h3
theorem RowE.whole {base lo : Nat} {w0 w : World} {v : Value} {L : List En} (h : RowE base lo w v L) (hb : w0.heap.size ≤ base) (hl : w0.heap.size ≤ lo) : LtO w (Fresh w0 w) v (bdsE L) := by
  rcases h.row.2 with ⟨rfl, h0⟩ | ⟨g, cap, cur, rfl, hbg, hg, hnc, hcm, hcs, htake⟩
  · refine .inl ⟨none, 0, rfl, ?_⟩
    rw [List.length_eq_zero_iff.1 h0]; rfl
  · by_cases h0 : L.length = 0
    · have e := List.length_eq_zero_iff.1 h0
      subst e; exact .inl ⟨_, _, rfl, rfl⟩
    · have hlt : g < w.heap.size := (Array.getElem?_eq_some_iff.1 hg).1
      have hr := h.row
      have hc : ∀ j u, (enF L)[j]? = some u → w.cell? ⟨g, j, none⟩ = some u := fun j u hj => by
        have hjl := (List.getElem?_eq_some_iff.1 hj).1
        rw [enF_len] at hjl
        rw [hr.cellAt j hjl]; exact hj
      refine .inr ⟨g, cap, fun i => (L[i]?.map En.va).getD default, fun i => (L[i]?.map En.S).getD (fun _ => False), by rw [bdsE_len], by rw [bdsE_len]; omega, ⟨by omega, hlt⟩, by rw [bdsE_len]; omega, fun j => hr.frozenAt j, fun i d hi => ?_, fun i k hi hk => ?_, fun i j k hi hj hij h1 h2 => ?_⟩
      · obtain ⟨e, he, rfl⟩ := bdsE_of hi
        obtain ⟨h1, h2, h3⟩ := enF_at he
        simp only [he, Option.map_some, Option.getD_some]
        exact ⟨hc _ _ h1, hc _ _ h2, hc _ _ h3, h.ens.own e (List.mem_of_getElem? he)⟩
      · rw [bdsE_len] at hi
        obtain ⟨e, he⟩ : ∃ e, L[i]? = some e := ⟨_, List.getElem?_eq_getElem hi⟩
        simp only [he, Option.map_some, Option.getD_some] at hk
        have h1 := h.ens.sub e (List.mem_of_getElem? he) k hk
        exact ⟨⟨by omega, h1.2⟩, fun q => h.apart g rfl e (List.mem_of_getElem? he) (q ▸ hk)⟩
      · rw [bdsE_len] at hi hj
        have hd := List.pairwise_iff_getElem.1 h.ens.dis
        simp only [List.getElem?_eq_getElem hi, Option.map_some, Option.getD_some] at h1
        simp only [List.getElem?_eq_getElem hj, Option.map_some, Option.getD_some] at h2
        rcases Nat.lt_or_gt_of_ne hij with q | q
        · exact hd i j hi hj q k h1 h2
        · exact hd j i hj hi q k h2 h1

end Go.Proofs.Ytmlenhjhkpgcnaa.lit

/- Rows of literals: more facts on insertion. No condition. -/
namespace Go.Proofs.Ytmlenhjhkpgcnaa.lit
open Go.RowKit
set_option linter.unusedVariables false

theorem one_grown {w w' : World} {row : Option Nat} (hg : w.grownBy w' row) {b : Nat} {x : Value} (h : Oner w b x) (hne : some b ≠ row) : Oner w' b x :=
  ⟨hg.cell h.1 hne, fun j => (World.frozen?_of_block (w := w) (a := ⟨b, j, none⟩) (hg.block b (World.block_lt_of_cell? w ⟨b, 0, none⟩ h.1) hne)).trans (h.2 j)⟩
theorem RowE.setBelow {base lo : Nat} {w : World} {v : Value} {L : List En} (h : RowE base lo w v L) {a : Addr} (h1 : a.block < base) (h2 : a.block < lo) (u : Value) : RowE base lo (w.setCell a u) v L :=
  ⟨ownsRow_setCell_below h.row h1 u, h.ens.setCell (fun e he hs => by have := (h.ens.sub e he _ hs).1; omega) u, h.apart⟩
theorem RowE.mono {base lo base' lo' : Nat} {w : World} {v : Value} {L : List En} (h : RowE base lo w v L) (h1 : base' ≤ base) (h2 : lo' ≤ lo) : RowE base' lo' w v L := by
  refine ⟨⟨h.row.1, ?_⟩, h.ens.mono h2, h.apart⟩
  rcases h.row.2 with hn | ⟨g, cap, cur, e1, hb, hrest⟩
  · exact .inl hn
  · exact .inr ⟨g, cap, cur, e1, Nat.le_trans h1 hb, hrest⟩
theorem enF_one {lo : Nat} {w : World} {L : List En} (h : Ens lo w L) : ∀ u ∈ enF L, u.oneCell' = true := by
  have : ∀ M : List En, (∀ e ∈ M, e ∈ L) → ∀ u ∈ enF M, u.oneCell' = true := by
    intro M
    induction M with
    | nil => intro _ u hu; cases hu
    | cons e r ih =>
      intro hM u hu
      rw [enF] at hu
      rcases List.mem_append.1 hu with hu | hu
      · obtain ⟨p, c, hs⟩ := (h.own e (hM e List.mem_cons_self)).read.is_slice
        simp only [En.cells, List.mem_cons, List.not_mem_nil, or_false] at hu
        rcases hu with rfl | rfl | rfl
        · rfl
        · rfl
        · rw [hs]; rfl
      · exact ih (fun x hx => hM x (List.mem_cons_of_mem _ hx)) u hu
  exact this L fun e he => he
theorem row_cell {base : Nat} {w : World} {g n c : Nat} {L : List En} (h : w.ownsRow base 33 3 (.slice (some ⟨g, 0, none⟩) n c) n (enF L)) (j : Nat) (u : Value) (hj : (enF L)[j]? = some u) : w.cell? ⟨g, j, none⟩ = some u := by
  rw [h.cellAt j (by have := (List.getElem?_eq_some_iff.1 hj).1; have := h.1; omega)]; exact hj
theorem add_off (g o j : Nat) : (⟨g, o, none⟩ : Addr).add j = ⟨g, o + j, none⟩ := by unfold Addr.add; split <;> simp_all

theorem RowE.ins {base : Nat} {w w' : World} {v : Value} {L : List En} {i : Nat} {d : Lt} {va : Value} {S : Nat → Prop} {g cap : Nat} (hr : RowE base base w v L) (hi : i ≤ L.length) (ho : TmO w S va d.tm.args) (hS : ∀ b, S b → base ≤ b ∧ b < w.heap.size)
    (hd : ∀ x ∈ L, ∀ b, x.S b → S b → False) (hv : ∀ g, v.ownBlock = some g → ¬ S g)
    (hown : w'.ownsRow base 33 3 (.slice (some ⟨g, 0, none⟩) (L.length + 1) cap) (L.length + 1) ((enF L).take (i * 3) ++ [.bool d.var, .string d.tm.name, va] ++ (enF L).drop (i * 3))) (hat : v.ownBlock = some g ∨ g = w.heap.size) (hg : w.grownBy w' v.ownBlock) :
    RowE base base w' (.slice (some ⟨g, 0, none⟩) (L.length + 1) cap) (L.take i ++ ⟨d, va, S⟩ :: L.drop i) := by
  have hlen : (L.take i ++ ⟨d, va, S⟩ :: L.drop i).length = L.length + 1 := by simp; omega
  have hins : Ens base w (L.take i ++ ⟨d, va, S⟩ :: L.drop i) := Ens.insert (by rw [List.take_append_drop]; exact hr.ens) ho hS (fun x hx => by rw [List.take_append_drop] at hx; exact hd x hx)
  have hmem : ∀ x ∈ (L.take i ++ ⟨d, va, S⟩ :: L.drop i), x ∈ L ∨ x.S = S := fun x hx => by
    rcases List.mem_append.1 hx with hx | hx
    · exact .inl (List.mem_of_mem_take hx)
    · rcases List.mem_cons.1 hx with rfl | hx
      · exact .inr rfl
      · exact .inl (List.mem_of_mem_drop hx)
  refine ⟨?_, hins.grown hg (fun g' e x hx hs => ?_), fun g' e x hx hs => ?_⟩
  · rw [hlen, enF_append, enF, En.cells, ← enF_take _ _ hi, ← enF_drop _ _ hi, ← List.append_assoc]
    exact hown
  · rcases hmem x hx with h | h
    · exact hr.apart g' e x h hs
    · rw [h] at hs; exact hv g' e hs
  · have e : g = g' := by simpa [Value.ownBlock] using e
    subst e
    rcases hat with h1 | h1
    · rcases hmem x hx with h | h
      · exact hr.apart g h1 x h hs
      · rw [h] at hs; exact hv g h1 hs
    · rcases hmem x hx with h | h
      · have := (hr.ens.sub x h _ hs).2; omega
      · rw [h] at hs; have := (hS _ hs).2; omega
theorem RowE.app {base : Nat} {w w' : World} {v : Value} {L : List En} {d : Lt} {va : Value} {S : Nat → Prop} {g cap : Nat} (hr : RowE base base w v L) (ho : TmO w S va d.tm.args) (hS : ∀ b, S b → base ≤ b ∧ b < w.heap.size)
    (hd : ∀ x ∈ L, ∀ b, x.S b → S b → False) (hv : ∀ g, v.ownBlock = some g → ¬ S g)
    (hown : w'.ownsRow base 33 3 (.slice (some ⟨g, 0, none⟩) (L.length + 1) cap) (L.length + 1) (enF L ++ [.bool d.var, .string d.tm.name, va])) (hat : v.ownBlock = some g ∨ g = w.heap.size) (hg : w.grownBy w' v.ownBlock) :
    RowE base base w' (.slice (some ⟨g, 0, none⟩) (L.length + 1) cap) (L ++ [⟨d, va, S⟩]) := by
  have h := RowE.ins (i := L.length) hr (Nat.le_refl _) ho hS hd hv (by
    rw [List.take_of_length_le (by rw [enF_len]; exact Nat.le_refl _), List.drop_of_length_le (by rw [enF_len]; exact Nat.le_refl _), List.append_nil]; exact hown) hat hg
  rwa [List.take_length, List.drop_length] at h


/-- The row behind three appends. -/
theorem row_ins {base lo : Nat} {wr W : World} {L : List En} {d : Lt} {v v8 : Value} {S : Nat → Prop} {k g9 c9 m B : Nat} (hr0 : RowE base lo wr v L) (hB : Below wr.heap.size wr W) (hlo : lo ≤ wr.heap.size) (hbase : base ≤ wr.heap.size)
    (hk : k ≤ L.length) (hm : m = L.length - k) (hBB : wr.heap.size ≤ B)
    (hown : W.ownsRow B 33 3 (.slice (some ⟨g9, 0, none⟩) (k + 1 + m) c9) (k + 1 + m) ((enF (L.take k) ++ [.bool d.var, .string d.tm.name, v8]) ++ enF (L.drop k)))
    (ho : TmO W S v8 d.tm.args) (hS : ∀ b, S b → wr.heap.size ≤ b ∧ b < W.heap.size) (hg9 : ¬ S g9) :
    RowE base lo W (.slice (some ⟨g9, 0, none⟩) (k + 1 + m) c9) (L.take k ++ ⟨d, v8, S⟩ :: L.drop k) := by
  have hens : Ens lo W (L.take k ++ L.drop k) := by rw [List.take_append_drop]; exact hr0.ens.kept hB
  have hgw : wr.heap.size ≤ g9 := Nat.le_trans hBB (hown.lt g9 rfl).1
  have hlen : (L.take k ++ ⟨d, v8, S⟩ :: L.drop k).length = k + 1 + m := by simp; omega
  have hrow : W.ownsRow base 33 3 (.slice (some ⟨g9, 0, none⟩) (k + 1 + m) c9) (k + 1 + m) (enF (L.take k ++ ⟨d, v8, S⟩ :: L.drop k)) := by
    rw [enF_append, enF, En.cells]
    refine ⟨?_, ?_⟩
    · have := hown.1; simpa [List.append_assoc] using this
    · rcases hown.2 with h | ⟨g', cap', cur, e1, hbg, hrest⟩
      · exact .inl h
      · refine .inr ⟨g', cap', cur, e1, by omega, ?_⟩
        simpa [List.append_assoc] using hrest
  have hins : Ens lo W (L.take k ++ ⟨d, v8, S⟩ :: L.drop k) := hens.insert ho (fun b hb => ⟨by have := (hS b hb).1; omega, (hS b hb).2⟩) (fun x hx b h1 h2 => by
    rw [List.take_append_drop] at hx
    have h3 := (hr0.ens.sub x hx b h1).2
    have h4 := (hS b h2).1
    omega)
  refine ⟨by rw [hlen]; exact hrow, hins, fun g e x hx hxs => ?_⟩
  have e : g9 = g := by simpa [Value.ownBlock] using e
  subst e
  rcases List.mem_append.1 hx with hx | hx
  · have := (hr0.ens.sub x (List.mem_of_mem_take hx) _ hxs).2; omega
  · rcases List.mem_cons.1 hx with rfl | hx
    · exact hg9 hxs
    · have := (hr0.ens.sub x (List.mem_of_mem_drop hx) _ hxs).2; omega
theorem bdsE_ins (L : List En) (d : Lt) (v : Value) (S : Nat → Prop) (k : Nat) : bdsE (L.take k ++ ⟨d, v, S⟩ :: L.drop k) = (bdsE L).take k ++ d :: (bdsE L).drop k := by
  simp [bdsE]

/-- MakeClause's ending. -/
def OkEnd (r : List Lt) (ok : Bool) (w : World) (e : Ending) (w' : World) : Prop :=
  ∃ va, e = .returned (.tuple #[.agg #[va], .bool ok]) ∧ LtO w' (Fresh w w') va r ∧ Below w.heap.size w w'
theorem OkEnd.no {r : List Lt} {ok : Bool} {w w' : World} (hr : r = []) (hok : ok = false) (hb : Below w.heap.size w w') :
    OkEnd r ok w (.returned (.tuple #[.agg #[.slice none 0 0], .bool false])) w' := by
  subst hr; subst hok
  exact ⟨.slice none 0 0, rfl, .inl ⟨_, _, rfl, rfl⟩, hb⟩

end Go.Proofs.Ytmlenhjhkpgcnaa.lit

/- The library's search for a literal in an ascending list of literals: a contract, for lists of at most 1048576 literals. -/
namespace Go.Proofs.Ytmlenhjhkpgcnaa.lit
open Go.RowKit
set_option linter.unusedVariables false

def LoHi (l : List Lt) (nm : Lt) (lo hi : Nat) : Prop :=
  (∀ t d, t < lo → l[t]? = some d → ordLt d nm < 0) ∧ (∀ t d, hi ≤ t → l[t]? = some d → ¬ ordLt d nm < 0)

def FindEnd (l : List Lt) (nm : Lt) (w : World) (e : Ending) (w' : World) : Prop :=
  ∃ i : Nat, e = .returned (.tuple #[.int .i64 i, .bool (hitL l nm i)]) ∧ Place l nm i ∧ Below w.heap.size w w'

theorem ret_ib {i : Nat} {a b : Bool} (h : a = b) : Ending.returned (.tuple #[.int .i64 (i : Int), .bool a]) = .returned (.tuple #[.int .i64 (i : Int), .bool b]) := by rw [h]

set_option maxRecDepth 100000 in
set_option maxHeartbeats 8000000 in
theorem bsf_any (l : List Lt) (w : World) (v vx : Value) (hv : LtS w v l) (hl : l.length ≤ 1048576) (ha : Asc l) (nm : Lt) (hx : TmS w vx nm.tm.args) (hwl : ∀ d ∈ l, d.tm.wt ≤ 1048576) (hwx : nm.tm.wt ≤ 1048576) :
    Calls Try.prog 68 #[v, .agg #[.bool nm.var, .string nm.tm.name, vx], .func (.func 66) #[] #[]] w (FindEnd l nm w) := by
  obtain ⟨a, c, rfl⟩ := hv.is_slice
  obtain ⟨px, cx, rfl⟩ := hx.is_slice
  have HV := Lib.hid hv
  have HXX := Lib.hid hx
  have HA := Lib.hid ha
  have HWL := Lib.hid hwl
  have HBX := Lib.hid (thr_new w (.bool nm.var) (.string nm.tm.name) (.slice px nm.tm.args.length cx) 33 _ rfl)
  have HB0 := Lib.hid ((Below.refl w.heap.size w).alloc (Nat.le_refl _) (.cells #[.bool nm.var, .string nm.tm.name, .slice px nm.tm.args.length cx] 33))
  clear hv ha hx hwl
  go_enter Try.func68, Try.ntmps68
  go_wp2
  go_loopw [9, 10] (fun s9 s10 wr => ∃ lo hi : Nat, s9 = .int .i64 lo ∧ s10 = .int .i64 hi ∧ lo ≤ hi ∧ hi ≤ l.length ∧ LoHi l nm lo hi ∧ Thr wr w.heap.size (.bool nm.var) (.string nm.tm.name) (.slice px nm.tm.args.length cx) ∧ Below w.heap.size w wr) (fun s9 s10 _ => (intOf s10).toNat - (intOf s9).toNat)
  case atStart => exact ⟨0, l.length, rfl, rfl, Nat.zero_le _, Nat.le_refl _, ⟨fun t d h => absurd h (Nat.not_lt_zero _), fun t d h hd => by have := (List.getElem?_eq_some_iff.1 hd).1; omega⟩, HBX.out, HB0.out⟩
  case round =>
    obtain ⟨lo, hi, rfl, rfl, hlh, hin, hq, hbx, hbel⟩ := hrel
    have HQ := Lib.hid hq
    have HB := Lib.hid hbel
    have HX := Lib.hid hbx
    clear hq hbel
    by_cases hlt : lo < hi
    · obtain ⟨d, hd⟩ : ∃ d, l[(lo + hi) / 2]? = some d := ⟨_, List.getElem?_eq_getElem (by omega)⟩
      obtain ⟨b, off, rfl, va, c0, c1, c2, hva⟩ := HV.out.get hd
      obtain ⟨pa, ca, rfl⟩ := hva.is_slice
      have hB : Below wr.heap.size wr wr.drew := (Below.refl _ _).drew
      have c0' := carry_cell (carry_cell c0 HB.out) hB
      have c1' := carry_cell (carry_cell c1 HB.out) hB
      have c2' := carry_cell (carry_cell c2 HB.out) hB
      obtain ⟨x0, x1, x2, x3⟩ := hbx.kept hB
      have HD := Lib.hid hd
      have HVA := Lib.hid (hva.kept HB.out)
      obtain ⟨z, hz⟩ : ∃ z, z = ordLt d nm := ⟨_, rfl⟩
      have HZ := Lib.hid hz
      have CC : Hid (∀ W : World, Below wr.heap.size wr W → Calls Try.prog 66 #[.agg #[.bool d.var, .string d.tm.name, .slice pa d.tm.args.length ca], .agg #[.bool nm.var, .string nm.tm.name, .slice px nm.tm.args.length cx]] W (Ans (.int .i64 z) W)) := Lib.hid (fun W hW => by
        rw [hz]; exact compareL_any d nm W _ _ (HVA.out.kept hW) ((HXX.out.kept HB.out).kept hW) (HWL.out d (List.mem_of_getElem? hd)) hwx)
      have hm0 : (0 : Int) ≤ ((lo : Int) + (hi : Int)) / 2 := by omega
      have hm1 : ((lo : Int) + (hi : Int)) / 2 < (l.length : Int) := by omega
      have hm2 : (((lo : Int) + (hi : Int)) / 2).toNat = (lo + hi) / 2 := by omega
      clear hd hva c0 c1 c2 hz hbx
      go_wp2_with fail
      go_region_held3 (fun w' => w'.cell? ⟨b, off + (lo + hi) / 2 * 3, none⟩ = some (.bool d.var) ∧ w'.cell? ⟨b, off + (lo + hi) / 2 * 3 + 1, none⟩ = some (.string d.tm.name) ∧ w'.cell? ⟨b, off + (lo + hi) / 2 * 3 + 2, none⟩ = some (.slice pa d.tm.args.length ca) ∧ w'.cell? ⟨w.heap.size, 0, none⟩ = some (.bool nm.var) ∧ w'.cell? ⟨w.heap.size, 1, none⟩ = some (.string nm.tm.name) ∧ w'.cell? ⟨w.heap.size, 2, none⟩ = some (.slice px nm.tm.args.length cx) ∧ Below wr.heap.size wr w') (first | exact ⟨by assumption, by assumption, by assumption, by assumption, by assumption, by assumption, by assumption⟩ | go_keep) (first | (go_at_call 66; refine (CC.out _ (by assumption)).mono ?_; rintro e w2 ⟨rfl, hb⟩; have c0' := carry_cell' hb c0'; have c1' := carry_cell' hb c1'; have c2' := carry_cell' hb c2'; have x0 := carry_cell' hb x0; have x1 := carry_cell' hb x1; have x2 := carry_cell' hb x2; have hB := carry_below hB (Nat.le_refl _) hb; clear hb))
      have HB2 := Lib.hid (carry_below HB.out (Nat.le_refl _) hB)
      have HX2 := Lib.hid (HX.out.kept hB)
      by_cases hyx : z < 0
      · have HQ2 : Hid (LoHi l nm ((lo + hi) / 2 + 1) hi) := Lib.hid ⟨fun t x ht hx => by
          by_cases e : t = (lo + hi) / 2
          · subst e; rw [HD.out] at hx; injection hx with hx; rw [← hx, ← HZ.out]; exact hyx
          · exact ordLt_trans (HA.out.at (by omega) hx HD.out) (by rw [← HZ.out]; exact hyx), HQ.out.2⟩
        have hyd : decide (z < 0) = true := by simpa using hyx
        clear c0' c1' c2' x0 x1 x2 x3 hB
        go_wp2
        go_roundw
        case rel => exact ⟨(lo + hi) / 2 + 1, hi, by rw [show ((lo : Int) + (hi : Int)) / 2 + 1 = (((lo + hi) / 2 + 1 : Nat) : Int) by omega], rfl, by omega, hin, HQ2.out, HX2.out, HB2.out⟩
        case measure => simp [intOf]; omega
      · have HQ2 : Hid (LoHi l nm lo ((lo + hi) / 2)) := Lib.hid ⟨HQ.out.1, fun t x ht hx => by
          by_cases e : t = (lo + hi) / 2
          · subst e; rw [HD.out] at hx; injection hx with hx; rw [← hx, ← HZ.out]; exact hyx
          · exact fun h => hyx (by rw [HZ.out]; exact ordLt_trans (HA.out.at (by omega) HD.out hx) h)⟩
        have hyd : decide (z < 0) = false := by simpa using hyx
        clear c0' c1' c2' x0 x1 x2 x3 hB
        go_wp2
        go_roundw
        case rel => exact ⟨lo, (lo + hi) / 2, rfl, by rw [show ((lo : Int) + (hi : Int)) / 2 = (((lo + hi) / 2 : Nat) : Int) by omega], by omega, by omega, HQ2.out, HX2.out, HB2.out⟩
        case measure => simp [intOf]; omega
    · obtain rfl : hi = lo := by omega
      have HP : Hid (Place l nm hi) := Lib.hid ⟨hin, HQ.out⟩
      by_cases hn : hi < l.length
      · obtain ⟨d, hd⟩ : ∃ d, l[hi]? = some d := ⟨_, List.getElem?_eq_getElem hn⟩
        obtain ⟨b, off, rfl, va, c0, c1, c2, hva⟩ := HV.out.get hd
        obtain ⟨pa, ca, rfl⟩ := hva.is_slice
        have hB : Below wr.heap.size wr wr.drew := (Below.refl _ _).drew
        have c0' := carry_cell (carry_cell c0 HB.out) hB
        have c1' := carry_cell (carry_cell c1 HB.out) hB
        have c2' := carry_cell (carry_cell c2 HB.out) hB
        obtain ⟨x0, x1, x2, x3⟩ := hbx.kept hB
        have HVA := Lib.hid (hva.kept HB.out)
        obtain ⟨z, hz⟩ : ∃ z, z = ordLt d nm := ⟨_, rfl⟩
        have HF : Hid ((z == 0) = hitL l nm hi) := Lib.hid (by rw [hitL_at hd, hz]; by_cases e : ordLt d nm = 0 <;> simp [e])
        have CC : Hid (∀ W : World, Below wr.heap.size wr W → Calls Try.prog 66 #[.agg #[.bool d.var, .string d.tm.name, .slice pa d.tm.args.length ca], .agg #[.bool nm.var, .string nm.tm.name, .slice px nm.tm.args.length cx]] W (Ans (.int .i64 z) W)) := Lib.hid (fun W hW => by
          rw [hz]; exact compareL_any d nm W _ _ (HVA.out.kept hW) ((HXX.out.kept HB.out).kept hW) (HWL.out d (List.mem_of_getElem? hd)) hwx)
        have hn1 : decide ((hi : Int) < (l.length : Int)) = true := by rw [decide_eq_true_iff]; omega
        have hn2 : (hi : Int) < (l.length : Int) := by omega
        clear hd hva c0 c1 c2 hz hbx
        go_wp2_with fail
        go_region_held3 (fun w' => w'.cell? ⟨b, off + hi * 3, none⟩ = some (.bool d.var) ∧ w'.cell? ⟨b, off + hi * 3 + 1, none⟩ = some (.string d.tm.name) ∧ w'.cell? ⟨b, off + hi * 3 + 2, none⟩ = some (.slice pa d.tm.args.length ca) ∧ w'.cell? ⟨w.heap.size, 0, none⟩ = some (.bool nm.var) ∧ w'.cell? ⟨w.heap.size, 1, none⟩ = some (.string nm.tm.name) ∧ w'.cell? ⟨w.heap.size, 2, none⟩ = some (.slice px nm.tm.args.length cx) ∧ Below wr.heap.size wr w') (first | exact ⟨by assumption, by assumption, by assumption, by assumption, by assumption, by assumption, by assumption⟩ | go_keep) (first | (go_at_call 66; refine (CC.out _ (by assumption)).mono ?_; rintro e w2 ⟨rfl, hb⟩; have c0' := carry_cell' hb c0'; have c1' := carry_cell' hb c1'; have c2' := carry_cell' hb c2'; have x0 := carry_cell' hb x0; have x1 := carry_cell' hb x1; have x2 := carry_cell' hb x2; have hB := carry_below hB (Nat.le_refl _) hb; clear hb))
        have HB2 := Lib.hid (carry_below HB.out (Nat.le_refl _) hB)
        clear c0' c1' c2' x0 x1 x2 x3 hB
        go_wp2
        go_ret2
        exact ⟨hi, ret_ib HF.out, HP.out, HB2.out⟩
      · have HF : Hid (hitL l nm hi = false) := Lib.hid (hitL_out (by omega))
        have hn1 : decide ((hi : Int) < (l.length : Int)) = false := by rw [decide_eq_false_iff_not]; omega
        have hB : Below wr.heap.size wr wr.drew := (Below.refl _ _).drew
        obtain ⟨x0, x1, x2, x3⟩ := hbx.kept hB
        go_wp2_with fail
        refine wp_region_held_drew (S := (fun w' => w'.cell? ⟨w.heap.size, 0, none⟩ = some (.bool nm.var) ∧ Below wr.heap.size wr w')) (by kernel_rfl) (by first | exact ⟨by assumption, by assumption⟩ | go_keep) (fun hHeld => ?_)
        refine takeYesI 0 (v := ?_) rfl (by kernel_rfl) (by kernel_rfl) (by kernel_rfl) (by rfl) (fun _ _ _ h => h) (by assumption) ?_ ?_; rotate_left; (intro w hSw; (try dsimp only at hSw); go_simp; try (with_reducible rfl))
        try simp only [Act.put, List.getElem_toArray, List.getElem_cons_zero, List.setIfInBounds_toArray, List.set_cons_zero, List.set_cons_succ]
        refine takeYesI 1 (v := ?_) rfl (by kernel_rfl) (by kernel_rfl) (by kernel_rfl) (by rfl) (fun _ _ _ h => h) (by assumption) ?_ ?_; rotate_left; (intro w hSw; (try dsimp only at hSw); go_simp; try (with_reducible rfl))
        try simp only [Act.put, List.getElem_toArray, List.getElem_cons_zero, List.getElem_cons_succ, List.setIfInBounds_toArray, List.set_cons_zero, List.set_cons_succ]
        refine takeYesI 2 (v := ?_) rfl (by kernel_rfl) (by kernel_rfl) (by kernel_rfl) (by rfl) (fun _ _ _ h => h) (by assumption) ?_ ?_; rotate_left; (intro w hSw; (try dsimp only at hSw); go_simp; try (with_reducible rfl))
        try simp only [Act.put, List.getElem_toArray, List.getElem_cons_zero, List.getElem_cons_succ, List.setIfInBounds_toArray, List.set_cons_zero, List.set_cons_succ]
        refine takeYesI 3 (v := ?_) rfl (by kernel_rfl) (by kernel_rfl) (by kernel_rfl) (by rfl) (fun _ _ _ h => h) (by assumption) ?_ ?_; rotate_left; (intro w hSw; (try dsimp only at hSw); go_simp; try (with_reducible rfl))
        try simp only [Act.put, List.getElem_toArray, List.getElem_cons_zero, List.getElem_cons_succ, List.setIfInBounds_toArray, List.set_cons_zero, List.set_cons_succ]
        refine takeYesI 4 (v := ?_) rfl (by kernel_rfl) (by kernel_rfl) (by kernel_rfl) (by rfl) (fun _ _ _ h => h) (by assumption) ?_ ?_; rotate_left; (intro w hSw; (try dsimp only at hSw); go_simp; try (with_reducible rfl))
        try simp only [Act.put, List.getElem_toArray, List.getElem_cons_zero, List.getElem_cons_succ, List.setIfInBounds_toArray, List.set_cons_zero, List.set_cons_succ]
        refine takeNoI 5 rfl (by kernel_rfl) (by kernel_rfl) (by kernel_rfl) (by rfl) (fun _ _ _ h => h) (by assumption) ?_
        try simp only [Act.put, List.getElem_toArray, List.getElem_cons_zero, List.getElem_cons_succ, List.setIfInBounds_toArray, List.set_cons_zero, List.set_cons_succ]
        refine takeNoI 6 rfl (by kernel_rfl) (by kernel_rfl) (by kernel_rfl) (by rfl) (fun _ _ _ h => h) (by assumption) ?_
        try simp only [Act.put, List.getElem_toArray, List.getElem_cons_zero, List.getElem_cons_succ, List.setIfInBounds_toArray, List.set_cons_zero, List.set_cons_succ]
        refine takeNoI 7 rfl (by kernel_rfl) (by kernel_rfl) (by kernel_rfl) (by rfl) (fun _ _ _ h => h) (by assumption) ?_
        try simp only [Act.put, List.getElem_toArray, List.getElem_cons_zero, List.getElem_cons_succ, List.setIfInBounds_toArray, List.set_cons_zero, List.set_cons_succ]
        refine takeNoI 8 rfl (by kernel_rfl) (by kernel_rfl) (by kernel_rfl) (by rfl) (fun _ _ _ h => h) (by assumption) ?_
        try simp only [Act.put, List.getElem_toArray, List.getElem_cons_zero, List.getElem_cons_succ, List.setIfInBounds_toArray, List.set_cons_zero, List.set_cons_succ]
        refine takeNoI 9 rfl (by kernel_rfl) (by kernel_rfl) (by kernel_rfl) (by rfl) (fun _ _ _ h => h) (by assumption) ?_
        try simp only [Act.put, List.getElem_toArray, List.getElem_cons_zero, List.getElem_cons_succ, List.setIfInBounds_toArray, List.set_cons_zero, List.set_cons_succ]
        refine takeNoI 10 rfl (by kernel_rfl) (by kernel_rfl) (by kernel_rfl) (by rfl) (fun _ _ _ h => h) (by assumption) ?_
        try simp only [Act.put, List.getElem_toArray, List.getElem_cons_zero, List.getElem_cons_succ, List.setIfInBounds_toArray, List.set_cons_zero, List.set_cons_succ]
        refine takeNoI 11 rfl (by kernel_rfl) (by kernel_rfl) (by kernel_rfl) (by rfl) (fun _ _ _ h => h) (by assumption) ?_
        try simp only [Act.put, List.getElem_toArray, List.getElem_cons_zero, List.getElem_cons_succ, List.setIfInBounds_toArray, List.set_cons_zero, List.set_cons_succ]
        refine takeNoI 12 rfl (by kernel_rfl) (by kernel_rfl) (by kernel_rfl) (by rfl) (fun _ _ _ h => h) (by assumption) ?_
        try simp only [Act.put, List.getElem_toArray, List.getElem_cons_zero, List.getElem_cons_succ, List.setIfInBounds_toArray, List.set_cons_zero, List.set_cons_succ]
        refine takeYesI 13 (v := ?_) rfl (by kernel_rfl) (by kernel_rfl) (by kernel_rfl) (by rfl) (fun _ _ _ h => h) (by assumption) ?_ ?_; rotate_left; (intro w hSw; (try dsimp only at hSw); go_simp; try (with_reducible rfl))
        try simp only [Act.put, List.getElem_toArray, List.getElem_cons_zero, List.getElem_cons_succ, List.setIfInBounds_toArray, List.set_cons_zero, List.set_cons_succ]
        refine takeYesI 14 (v := ?_) rfl (by kernel_rfl) (by kernel_rfl) (by kernel_rfl) (by rfl) (fun _ _ _ h => h) (by assumption) ?_ ?_; rotate_left; (intro w hSw; (try dsimp only at hSw); go_simp; try (with_reducible rfl))
        try simp only [Act.put, List.getElem_toArray, List.getElem_cons_zero, List.getElem_cons_succ, List.setIfInBounds_toArray, List.set_cons_zero, List.set_cons_succ]
        refine takeYesI 15 (v := ?_) rfl (by kernel_rfl) (by kernel_rfl) (by kernel_rfl) (by rfl) (fun _ _ _ h => h) (by assumption) ?_ ?_; rotate_left; (intro w hSw; (try dsimp only at hSw); go_simp; try (with_reducible rfl))
        try simp only [Act.put, List.getElem_toArray, List.getElem_cons_zero, List.getElem_cons_succ, List.setIfInBounds_toArray, List.set_cons_zero, List.set_cons_succ]
        refine wpAnyH_done (by kernel_rfl) ?_ _
        go_wp2
        go_ret2
        exact ⟨hi, ret_ib HF.out.symm, HP.out, carry_below HB.out (Nat.le_refl _) hB⟩

end Go.Proofs.Ytmlenhjhkpgcnaa.lit
