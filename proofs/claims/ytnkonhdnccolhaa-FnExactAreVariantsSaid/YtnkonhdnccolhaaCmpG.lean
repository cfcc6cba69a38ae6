/- Several texts in one: each says what it proves. No condition but theirs. -/
import Derived.Test.YtnkonhdnccolhaaRestT
import Derived.Test.YtnkonhdnccolhaaFind
import Derived.Test.YtnkonhdnccolhaaAppM
import Derived.Test.YtnkonhdnccolhaaIdeM
import Derived.Test.YtnkonhdnccolhaaRestM
import Derived.Test.YtnkonhdnccolhaaBd
import Derived.Test.YtnkonhdnccolhaaOwn
import Derived.Laws.CopyOwn
import Derived.Laws.Externs
import Derived.Deep.AppendLies
import Derived.Deep.RegionLaw
import Derived.Deep.QuietTactic
import Derived.Lib.Overlaps
import Derived.Lib.AppendZerosOnto
import Derived.Lib.JoinLaws
import Derived.Outline
import Derived.Deep.RegionHeld3
import Derived.WalkKit
import Derived.Maps.AppendAt
import Derived.Laws.AppendOwnNone
/- Lists of bindings that a call is making: entries with the blocks of their terms, and the row that holds them. No condition. -/
namespace Go.Proofs.Ytnkonhdnccolhaa
open Go.RowKit
set_option linter.unusedVariables false

/-- A binding, the value of its term's arguments, and the blocks that these lie in. -/
structure En where
  d : Bd
  va : Value
  S : Nat → Prop

def En.cells (e : En) : List Value := [.string e.d.var, .string e.d.tm.name, e.va]
def enF : List En → List Value
  | [] => []
  | e :: r => e.cells ++ enF r
def bdsE (L : List En) : List Bd := L.map En.d

theorem enF_len : ∀ L : List En, (enF L).length = L.length * 3
  | [] => rfl
  | e :: r => by rw [enF, List.length_append, enF_len r, List.length_cons]; simp [En.cells]; omega
theorem enF_append : ∀ a b : List En, enF (a ++ b) = enF a ++ enF b
  | [], b => by simp [enF]
  | e :: r, b => by rw [List.cons_append, enF, enF, enF_append r b, List.append_assoc]
theorem enF_take (L : List En) (k : Nat) (h : k ≤ L.length) : (enF L).take (k * 3) = enF (L.take k) := by
  have e := enF_append (L.take k) (L.drop k)
  rw [List.take_append_drop] at e
  have hl : (enF (L.take k)).length = k * 3 := by rw [enF_len, List.length_take, Nat.min_eq_left h]
  rw [e, List.take_append_of_le_length (by omega), List.take_of_length_le (by omega)]
theorem enF_drop (L : List En) (k : Nat) (h : k ≤ L.length) : (enF L).drop (k * 3) = enF (L.drop k) := by
  have e := enF_append (L.take k) (L.drop k)
  rw [List.take_append_drop] at e
  have hl : (enF (L.take k)).length = k * 3 := by rw [enF_len, List.length_take, Nat.min_eq_left h]
  rw [e, ← hl, List.drop_left]
theorem enF_at : ∀ {L : List En} {k : Nat} {e : En}, L[k]? = some e → (enF L)[k * 3]? = some (.string e.d.var) ∧ (enF L)[k * 3 + 1]? = some (.string e.d.tm.name) ∧ (enF L)[k * 3 + 2]? = some e.va
  | [], _, _, h => by cases h
  | a :: r, 0, e, h => by simp at h; subst h; rw [enF]; exact ⟨rfl, rfl, rfl⟩
  | a :: r, k + 1, e, h => by
    have ih := enF_at (L := r) (k := k) (e := e) (by simpa using h)
    have hl : a.cells.length = 3 := rfl
    rw [enF, List.getElem?_append_right (by omega), List.getElem?_append_right (by omega), List.getElem?_append_right (by omega), hl]
    rw [show (k + 1) * 3 - 3 = k * 3 by omega, show (k + 1) * 3 + 1 - 3 = k * 3 + 1 by omega, show (k + 1) * 3 + 2 - 3 = k * 3 + 2 by omega]
    exact ih
theorem bdsE_at {L : List En} {k : Nat} {e : En} (h : L[k]? = some e) : (bdsE L)[k]? = some e.d := by unfold bdsE; rw [List.getElem?_map, h]; rfl
theorem bdsE_of {L : List En} {k : Nat} {d : Bd} (h : (bdsE L)[k]? = some d) : ∃ e, L[k]? = some e ∧ e.d = d := by
  unfold bdsE at h
  rw [List.getElem?_map] at h
  cases hq : L[k]? with
  | none => rw [hq] at h; cases h
  | some e => rw [hq] at h; injection h with h; exact ⟨e, rfl, h⟩
theorem bdsE_len (L : List En) : (bdsE L).length = L.length := by simp [bdsE]
theorem bdsE_append (a b : List En) : bdsE (a ++ b) = bdsE a ++ bdsE b := by simp [bdsE]

/-- The terms of the entries: each in blocks of its own, from the block lo on. -/
structure Ens (lo : Nat) (w : World) (L : List En) : Prop where
  own : ∀ e ∈ L, TmO w e.S e.va e.d.tm.args
  sub : ∀ e ∈ L, ∀ b, e.S b → lo ≤ b ∧ b < w.heap.size
  dis : L.Pairwise (fun x y => ∀ b, x.S b → y.S b → False)

theorem Ens.nil (lo : Nat) (w : World) : Ens lo w [] := ⟨fun e h => (by cases h), fun e h => (by cases h), List.Pairwise.nil⟩
theorem Ens.frame {lo : Nat} {w w' : World} {L : List En} (h : Ens lo w L) (hz : w.heap.size ≤ w'.heap.size) (hf : ∀ e ∈ L, ∀ b, e.S b → w'.heap[b]? = w.heap[b]?) : Ens lo w' L :=
  ⟨fun e he => (h.own e he).frame (hf e he), fun e he b hb => ⟨(h.sub e he b hb).1, Nat.lt_of_lt_of_le (h.sub e he b hb).2 hz⟩, h.dis⟩
theorem Ens.kept {lo : Nat} {w w' : World} {L : List En} (h : Ens lo w L) (hb : Below w.heap.size w w') : Ens lo w' L :=
  h.frame hb.size fun e he b hs => hb.block b (h.sub e he b hs).2
theorem Ens.grown {lo : Nat} {w w' : World} {L : List En} {row : Option Nat} (h : Ens lo w L) (hg : w.grownBy w' row) (hr : ∀ g, row = some g → ∀ e ∈ L, ¬ e.S g) : Ens lo w' L :=
  h.frame hg.size fun e he b hs => hg.block b (h.sub e he b hs).2 fun q => hr b q.symm e he hs
theorem Ens.setCell {lo : Nat} {w : World} {L : List En} (h : Ens lo w L) {a : Addr} (ha : ∀ e ∈ L, ¬ e.S a.block) (u : Value) : Ens lo (w.setCell a u) L :=
  h.frame (Nat.le_of_eq (size_setCell _ _ _).symm) fun e he b hs => Below.heap_setCell _ _ _ _ fun q => ha e he (q ▸ hs)
theorem Ens.sublist {lo : Nat} {w : World} {L L' : List En} (h : Ens lo w L) (hs : L'.Sublist L) : Ens lo w L' :=
  ⟨fun e he => h.own e (hs.subset he), fun e he => h.sub e (hs.subset he), h.dis.sublist hs⟩
theorem Ens.mono {lo lo' : Nat} {w : World} {L : List En} (h : Ens lo w L) (hl : lo' ≤ lo) : Ens lo' w L :=
  ⟨h.own, fun e he b hb => ⟨Nat.le_trans hl (h.sub e he b hb).1, (h.sub e he b hb).2⟩, h.dis⟩
theorem Ens.insert {lo : Nat} {w : World} {A B : List En} {e : En} (h : Ens lo w (A ++ B)) (ho : TmO w e.S e.va e.d.tm.args) (hS : ∀ b, e.S b → lo ≤ b ∧ b < w.heap.size) (hd : ∀ x ∈ A ++ B, ∀ b, x.S b → e.S b → False) : Ens lo w (A ++ e :: B) := by
  refine ⟨fun x hx => ?_, fun x hx => ?_, ?_⟩
  · rcases List.mem_append.1 hx with hx | hx
    · exact h.own x (List.mem_append_left _ hx)
    · rcases List.mem_cons.1 hx with rfl | hx
      · exact ho
      · exact h.own x (List.mem_append_right _ hx)
  · rcases List.mem_append.1 hx with hx | hx
    · exact h.sub x (List.mem_append_left _ hx)
    · rcases List.mem_cons.1 hx with rfl | hx
      · exact hS
      · exact h.sub x (List.mem_append_right _ hx)
  · have hp := List.pairwise_append.1 h.dis
    refine List.pairwise_append.2 ⟨hp.1, List.pairwise_cons.2 ⟨fun y hy b h1 h2 => hd y (List.mem_append_right _ hy) b h2 h1, hp.2.1⟩, fun x hx y hy b h1 h2 => ?_⟩
    rcases List.mem_cons.1 hy with rfl | hy
    · exact hd x (List.mem_append_left _ hx) b h1 h2
    · exact hp.2.2 x hx y hy b h1 h2
/-- A new entry whose blocks are new. -/
theorem Ens.fresh {lo : Nat} {w w' : World} {A B : List En} {d : Bd} {va : Value} (h : Ens lo w (A ++ B)) (hb : Below w.heap.size w w') (hl : lo ≤ w.heap.size) (ho : TmO w' (Fresh w w') va d.tm.args) : Ens lo w' (A ++ ⟨d, va, Fresh w w'⟩ :: B) :=
  (h.kept hb).insert ho (fun b hb' => ⟨Nat.le_trans hl hb'.1, hb'.2⟩) fun x hx b h1 h2 => by have := (h.sub x hx b h1).2; have := h2.1; omega

/-- A row of its own that holds the entries. -/
structure RowE (base lo : Nat) (w : World) (v : Value) (L : List En) : Prop where
  row : w.ownsRow base 110 3 v L.length (enF L)
  ens : Ens lo w L
  apart : ∀ g, v.ownBlock = some g → ∀ e ∈ L, ¬ e.S g

theorem RowE.nil (base lo : Nat) (w : World) : RowE base lo w (.slice none 0 0) [] := ⟨World.ownsRow_nil _ _ _ _, Ens.nil _ _, fun g h => by simp [Value.ownBlock] at h⟩
theorem RowE.kept {base lo : Nat} {w w' : World} {v : Value} {L : List En} (h : RowE base lo w v L) (hb : Below w.heap.size w w') : RowE base lo w' v L :=
  ⟨own_kept h.row hb, h.ens.kept hb, h.apart⟩
theorem RowE.is_slice {base lo : Nat} {w : World} {v : Value} {L : List En} (h : RowE base lo w v L) : ∃ a c, v = .slice a L.length c := by
  rcases h.row.2 with ⟨rfl, h0⟩ | ⟨g, cap, cur, rfl, _⟩
  · exact ⟨none, 0, by rw [h0]⟩
  · exact ⟨_, _, rfl⟩
theorem RowE.read {base lo : Nat} {w : World} {v : Value} {L : List En} (h : RowE base lo w v L) : BdS w v (bdsE L) := by
  rcases h.row.2 with ⟨rfl, h0⟩ | ⟨g, cap, cur, rfl, hbg, hg, hnc, hcm, hcs, htake⟩
  · refine .inl ⟨none, 0, rfl, ?_⟩
    rw [List.length_eq_zero_iff.1 h0]; rfl
  · by_cases h0 : L.length = 0
    · have e := List.length_eq_zero_iff.1 h0
      subst e; exact .inl ⟨_, _, rfl, rfl⟩
    · refine .inr ⟨g, 0, cap, by rw [bdsE_len], by rw [bdsE_len]; omega, fun k d hk => ?_⟩
      obtain ⟨e, he, rfl⟩ := bdsE_of hk
      have hkl := (List.getElem?_eq_some_iff.1 he).1
      obtain ⟨h1, h2, h3⟩ := enF_at he
      have hc : ∀ j u, (enF L)[j]? = some u → w.cell? ⟨g, j, none⟩ = some u := fun j u hj => by
        have hjl := (List.getElem?_eq_some_iff.1 hj).1
        rw [enF_len] at hjl
        have hr := h.row
        rw [hr.cellAt j hjl]; exact hj
      refine ⟨e.va, ?_, ?_, ?_, (h.ens.own e (List.mem_of_getElem? he)).read⟩
      · simpa using hc _ _ h1
      · simpa using hc _ _ h2
      · simpa using hc _ _ h3
theorem RowE.whole {base lo : Nat} {w0 w : World} {v : Value} {L : List En} (h : RowE base lo w v L) (hb : w0.heap.size ≤ base) (hl : w0.heap.size ≤ lo) : BdO w (Fresh w0 w) v (bdsE L) := by
  rcases h.row.2 with ⟨rfl, h0⟩ | ⟨g, cap, cur, rfl, hbg, hg, hnc, hcm, hcs, htake⟩
  · refine .inl ⟨none, 0, rfl, ?_⟩
    rw [List.length_eq_zero_iff.1 h0]; rfl
  · by_cases h0 : L.length = 0
    · have e := List.length_eq_zero_iff.1 h0
      subst e; exact .inl ⟨_, _, rfl, rfl⟩
    · have hlt : g < w.heap.size := (Array.getElem?_eq_some_iff.1 hg).1
      have hr := h.row
      have hc : ∀ j u, (enF L)[j]? = some u → w.cell? ⟨g, j, none⟩ = some u := fun j u hj => by
        have hjl := (List.getElem?_eq_some_iff.1 hj).1
        rw [enF_len] at hjl
        rw [hr.cellAt j hjl]; exact hj
      refine .inr ⟨g, cap, fun i => (L[i]?.map En.va).getD default, fun i => (L[i]?.map En.S).getD (fun _ => False), by rw [bdsE_len], by rw [bdsE_len]; omega, ⟨by omega, hlt⟩, by rw [bdsE_len]; omega, fun j => hr.frozenAt j, fun i d hi => ?_, fun i k hi hk => ?_, fun i j k hi hj hij h1 h2 => ?_⟩
      · obtain ⟨e, he, rfl⟩ := bdsE_of hi
        obtain ⟨h1, h2, h3⟩ := enF_at he
        simp only [he, Option.map_some, Option.getD_some]
        exact ⟨hc _ _ h1, hc _ _ h2, hc _ _ h3, h.ens.own e (List.mem_of_getElem? he)⟩
      · rw [bdsE_len] at hi
        obtain ⟨e, he⟩ : ∃ e, L[i]? = some e := ⟨_, List.getElem?_eq_getElem hi⟩
        simp only [he, Option.map_some, Option.getD_some] at hk
        have h1 := h.ens.sub e (List.mem_of_getElem? he) k hk
        exact ⟨⟨by omega, h1.2⟩, fun q => h.apart g rfl e (List.mem_of_getElem? he) (q ▸ hk)⟩
      · rw [bdsE_len] at hi hj
        have hd := List.pairwise_iff_getElem.1 h.ens.dis
        simp only [List.getElem?_eq_getElem hi, Option.map_some, Option.getD_some] at h1
        simp only [List.getElem?_eq_getElem hj, Option.map_some, Option.getD_some] at h2
        rcases Nat.lt_or_gt_of_ne hij with q | q
        · exact hd i j hi hj q k h1 h2
        · exact hd j i hj hi q k h2 h1

end Go.Proofs.Ytnkonhdnccolhaa

/- The composition of two substitutions as lists: what the program and the model make of them is the same. No condition. -/
namespace Go.Proofs.Ytnkonhdnccolhaa
open Go.RowKit
set_option linter.unusedVariables false

def ltN (nm : ByteArray) (d : Bd) : Bool := decide (d.var.data.toList < nm.data.toList)
/-- A binding put into an ascending list. -/
def insF (b : Bd) (l : List Bd) : List Bd := l.filter (ltN b.var) ++ b :: l.filter (fun d => !ltN b.var d)
def triv (d : Bd) : Bool := sameB d.tm.name d.var
def nontr (d : Bd) : Bool := !triv d
def putF (b : Bd) (l : List Bd) : List Bd := if triv b then l else insF b l
def addF (l : List Bd) (b : Bd) : List Bd := if boundB l b.var then l else insF b l

theorem Asc.tail {d : Bd} {l : List Bd} (h : Asc (d :: l)) : Asc l := fun i j x y hij hx hy => h (i + 1) (j + 1) x y (by omega) (by simpa using hx) (by simpa using hy)
theorem Asc.head {d x : Bd} {l : List Bd} (h : Asc (d :: l)) (hx : x ∈ l) : d.var.data.toList < x.var.data.toList := by
  obtain ⟨j, hj⟩ := List.getElem?_of_mem hx
  exact h 0 (j + 1) d x (by omega) rfl (by simpa using hj)
theorem asc_pair {l : List Bd} : Asc l ↔ l.Pairwise (fun x y => x.var.data.toList < y.var.data.toList) := by
  rw [List.pairwise_iff_getElem]
  constructor
  · intro h i j hi hj hij
    exact h i j _ _ hij (List.getElem?_eq_getElem hi) (List.getElem?_eq_getElem hj)
  · intro h i j x y hij hx hy
    obtain ⟨hi, rfl⟩ := List.getElem?_eq_some_iff.1 hx
    obtain ⟨hj, rfl⟩ := List.getElem?_eq_some_iff.1 hy
    exact h i j hi hj hij
theorem Asc.sub {l l' : List Bd} (h : Asc l) (hs : l'.Sublist l) : Asc l' := asc_pair.2 ((asc_pair.1 h).sublist hs)
theorem asc_nil : Asc [] := fun i j x y _ hx => by cases hx

theorem filter_none {p : Bd → Bool} {l : List Bd} (h : ∀ x ∈ l, p x = false) : l.filter p = [] := by
  rw [List.filter_eq_nil_iff]; intro x hx; rw [h x hx]; simp
theorem filter_all {p : Bd → Bool} {l : List Bd} (h : ∀ x ∈ l, p x = true) : l.filter p = l := List.filter_eq_self.2 h

theorem asc_split (nm : ByteArray) : ∀ {l : List Bd}, Asc l → l.filter (ltN nm) ++ l.filter (fun d => !ltN nm d) = l
  | [], _ => rfl
  | d :: r, h => by
    by_cases hd : ltN nm d = true
    · rw [List.filter_cons_of_pos hd, List.filter_cons_of_neg (by simp [hd]), List.cons_append, asc_split nm h.tail]
    · have hr : ∀ x ∈ r, ltN nm x = false := fun x hx => by
        rw [← Bool.not_eq_true]
        intro hxn
        exact hd (decide_eq_true (List.lt_trans (h.head hx) (of_decide_eq_true hxn)))
      rw [List.filter_cons_of_neg hd, List.filter_cons_of_pos (by simp [hd]), filter_none hr, filter_all (fun x hx => by rw [hr x hx]; rfl)]
      rfl
theorem place_split {l : List Bd} {nm : ByteArray} {i : Nat} (h : Place l nm i) : l.take i = l.filter (ltN nm) ∧ l.drop i = l.filter (fun d => !ltN nm d) := by
  have h1 : ∀ x ∈ l.take i, ltN nm x = true := fun x hx => by
    obtain ⟨j, hj⟩ := List.getElem?_of_mem hx
    rw [List.getElem?_take] at hj
    split at hj
    · exact decide_eq_true (h.2.1 j x (by assumption) hj)
    · cases hj
  have h2 : ∀ x ∈ l.drop i, ltN nm x = false := fun x hx => by
    obtain ⟨j, hj⟩ := List.getElem?_of_mem hx
    rw [List.getElem?_drop] at hj
    exact decide_eq_false (h.2.2 (i + j) x (by omega) hj)
  have e1 : l.filter (ltN nm) = (l.take i).filter (ltN nm) ++ (l.drop i).filter (ltN nm) := by rw [← List.filter_append, List.take_append_drop]
  have e2 : l.filter (fun d => !ltN nm d) = (l.take i).filter (fun d => !ltN nm d) ++ (l.drop i).filter (fun d => !ltN nm d) := by rw [← List.filter_append, List.take_append_drop]
  rw [e1, e2, filter_all h1, filter_none h2, filter_none (fun x hx => by rw [h1 x hx]; rfl), filter_all (p := fun d => !ltN nm d) (fun x hx => by rw [h2 x hx]; rfl)]
  simp
theorem ins_place {l : List Bd} {b : Bd} {i : Nat} (h : Place l b.var i) : l.take i ++ b :: l.drop i = insF b l := by
  rw [(place_split h).1, (place_split h).2]; rfl
theorem insF_mem {b x : Bd} {l : List Bd} : x ∈ insF b l ↔ x = b ∨ x ∈ l := by
  unfold insF
  simp only [List.mem_append, List.mem_cons, List.mem_filter]
  constructor
  · rintro (h | h | h)
    · exact .inr h.1
    · exact .inl h
    · exact .inr h.1
  · rintro (h | h)
    · exact .inr (.inl h)
    · by_cases hx : ltN b.var x = true
      · exact .inl ⟨h, hx⟩
      · exact .inr (.inr ⟨h, by simp [hx]⟩)
theorem filter_len2 (p : Bd → Bool) : ∀ l : List Bd, (l.filter p).length + (l.filter (fun d => !p d)).length = l.length
  | [] => rfl
  | d :: r => by
    have ih := filter_len2 p r
    rw [List.filter_cons, List.filter_cons]
    cases p d <;> simp <;> omega
theorem insF_len {b : Bd} {l : List Bd} : (insF b l).length = l.length + 1 := by
  unfold insF
  have := filter_len2 (ltN b.var) l
  rw [List.length_append, List.length_cons]; omega
theorem tri_lt {a b : List UInt8} (h1 : ¬ a < b) (h2 : a ≠ b) : b < a := by
  rcases List.le_iff_lt_or_eq.1 (List.not_lt.1 h1) with h | h
  · exact h
  · exact (h2 h.symm).elim
theorem insF_asc {b : Bd} {l : List Bd} (h : Asc l) (hb : boundB l b.var = false) : Asc (insF b l) := by
  have hp := asc_pair.1 h
  rw [asc_pair]
  unfold insF
  refine List.pairwise_append.2 ⟨hp.sublist List.filter_sublist, List.pairwise_cons.2 ⟨fun y hy => ?_, hp.sublist List.filter_sublist⟩, fun x hx y hy => ?_⟩
  · obtain ⟨hy1, hy2⟩ := List.mem_filter.1 hy
    refine tri_lt (fun q => ?_) (fun q => bound_no.1 hb y hy1 (raw_eq q))
    unfold ltN at hy2
    rw [decide_eq_true q] at hy2; cases hy2
  · obtain ⟨hx1, hx2⟩ := List.mem_filter.1 hx
    have hxl := of_decide_eq_true hx2
    rcases List.mem_cons.1 hy with rfl | hy
    · exact hxl
    · obtain ⟨hy1, hy2⟩ := List.mem_filter.1 hy
      have hyb : b.var.data.toList < y.var.data.toList := tri_lt (fun q => by unfold ltN at hy2; rw [decide_eq_true q] at hy2; cases hy2) (fun q => bound_no.1 hb y hy1 (raw_eq q))
      exact List.lt_trans hxl hyb
theorem filter_insF {p : Bd → Bool} {b : Bd} {l : List Bd} (h : Asc l) : (insF b l).filter p = if p b then insF b (l.filter p) else l.filter p := by
  unfold insF
  rw [List.filter_append, List.filter_cons]
  have e1 : (l.filter (ltN b.var)).filter p = (l.filter p).filter (ltN b.var) := by rw [List.filter_filter, List.filter_filter]; congr 1; funext x; rw [Bool.and_comm]
  have e2 : (l.filter (fun d => !ltN b.var d)).filter p = (l.filter p).filter (fun d => !ltN b.var d) := by rw [List.filter_filter, List.filter_filter]; congr 1; funext x; rw [Bool.and_comm]
  rw [e1, e2]
  cases hp : p b with
  | true => simp
  | false => simpa using asc_split b.var (h.sub List.filter_sublist)
theorem insF_last {b : Bd} {l : List Bd} (h : ∀ x ∈ l, x.var.data.toList < b.var.data.toList) : insF b l = l ++ [b] := by
  unfold insF
  have h1 : ∀ x ∈ l, ltN b.var x = true := fun x hx => decide_eq_true (h x hx)
  rw [filter_all h1, filter_none (p := fun d => !ltN b.var d) (fun x hx => by rw [h1 x hx]; rfl)]

/-- Bindings that are put one after the other in ascending order. -/
theorem put_asc {l : List Bd} (h : Asc l) : ∀ k, k ≤ l.length → (l.take k).foldl (fun a b => putF b a) [] = (l.take k).filter nontr
  | 0, _ => rfl
  | k + 1, hk => by
    obtain ⟨d, hd⟩ : ∃ d, l[k]? = some d := ⟨_, List.getElem?_eq_getElem hk⟩
    rw [take_next hd, List.foldl_append, put_asc h k (by omega), List.filter_append]
    show putF d ((l.take k).filter nontr) = _
    unfold putF
    by_cases ht : triv d = true
    · rw [if_pos ht, List.filter_cons_of_neg (by simp [nontr, ht])]; simp
    · rw [if_neg ht, List.filter_cons_of_pos (by simp [nontr, ht]), insF_last]
      · rfl
      · intro x hx
        obtain ⟨j, hj⟩ := List.getElem?_of_mem (List.mem_filter.1 hx).1
        rw [List.getElem?_take] at hj
        split at hj
        · exact h j k x d (by assumption) hj hd
        · cases hj

/-- The terms of the first list with the second one applied. -/
def appB (u s : List Bd) : List Bd := s.map fun d => ⟨d.var, d.tm.app u⟩
theorem appB_at {u s : List Bd} {k : Nat} {d : Bd} (h : s[k]? = some d) : (appB u s)[k]? = some ⟨d.var, d.tm.app u⟩ := by unfold appB; rw [List.getElem?_map, h]; rfl
theorem appB_len (u s : List Bd) : (appB u s).length = s.length := by simp [appB]
theorem appB_take (u s : List Bd) (k : Nat) : (appB u s).take k = appB u (s.take k) := by simp [appB]
theorem appB_asc {u s : List Bd} (h : Asc s) : Asc (appB u s) := by
  intro i j x y hij hx hy
  unfold appB at hx hy
  rw [List.getElem?_map] at hx hy
  cases hi : s[i]? with
  | none => rw [hi] at hx; cases hx
  | some a =>
    cases hj : s[j]? with
    | none => rw [hj] at hy; cases hy
    | some b =>
      rw [hi] at hx; rw [hj] at hy
      injection hx with hx; injection hy with hy
      subst hx; subst hy
      exact h i j a b hij hi hj
theorem appB_bound (u s : List Bd) (nm : ByteArray) : boundB (appB u s) nm = boundB s nm := by unfold boundB appB; rw [List.any_map]; rfl

/-- The program's list: bindings that are not bound yet are inserted. -/
def cP (s u : List Bd) (k : Nat) : List Bd := (u.take k).foldl addF (appB u s)
/-- The model's. -/
def cS (s u : List Bd) (k : Nat) : List Bd := (u.take k).foldl (fun a b => if boundB s b.var then a else putF b a) ((appB u s).filter nontr)
theorem cP_next {s u : List Bd} {k : Nat} {b : Bd} (h : u[k]? = some b) : cP s u (k + 1) = addF (cP s u k) b := by unfold cP; rw [take_next h, List.foldl_append]; rfl
theorem cS_next {s u : List Bd} {k : Nat} {b : Bd} (h : u[k]? = some b) : cS s u (k + 1) = if boundB s b.var then cS s u k else putF b (cS s u k) := by unfold cS; rw [take_next h, List.foldl_append]; rfl
theorem insF_bound (b : Bd) (l : List Bd) (nm : ByteArray) : boundB (insF b l) nm = (decide (b.var = nm) || boundB l nm) := by
  rw [Bool.eq_iff_iff, bound_iff, Bool.or_eq_true, bound_iff, decide_eq_true_iff]
  constructor
  · rintro ⟨d, hd, h⟩
    rcases insF_mem.1 hd with rfl | hd
    · exact .inl h
    · exact .inr ⟨d, hd, h⟩
  · rintro (h | ⟨d, hd, h⟩)
    · exact ⟨b, insF_mem.2 (.inl rfl), h⟩
    · exact ⟨d, insF_mem.2 (.inr hd), h⟩
theorem addF_bound (l : List Bd) (b : Bd) (nm : ByteArray) : boundB (addF l b) nm = (decide (b.var = nm) || boundB l nm) := by
  unfold addF
  by_cases h : boundB l b.var = true
  · rw [if_pos h]
    by_cases e : b.var = nm
    · rw [← e, h]; simp
    · simp [e]
  · rw [if_neg h, insF_bound]
theorem addF_asc {l : List Bd} {b : Bd} (h : Asc l) : Asc (addF l b) := by
  unfold addF
  by_cases hb : boundB l b.var = true
  · rw [if_pos hb]; exact h
  · rw [if_neg hb]; exact insF_asc h (by simpa using hb)
theorem cP_asc {s u : List Bd} (hs : Asc s) : ∀ k, k ≤ u.length → Asc (cP s u k)
  | 0, _ => appB_asc hs
  | k + 1, hk => by
    obtain ⟨b, hb⟩ : ∃ b, u[k]? = some b := ⟨_, List.getElem?_eq_getElem hk⟩
    rw [cP_next hb]; exact addF_asc (cP_asc hs k (by omega))
theorem cP_bound {s u : List Bd} (nm : ByteArray) : ∀ k, boundB (cP s u k) nm = (boundB s nm || boundB (u.take k) nm)
  | 0 => by rw [show cP s u 0 = appB u s from rfl, appB_bound]; simp [boundB]
  | k + 1 => by
    cases hb : u[k]? with
    | none =>
      have e : ∀ j, u.length ≤ j → u.take j = u := fun j hj => List.take_of_length_le hj
      have hl : u.length ≤ k := List.getElem?_eq_none_iff.1 hb
      have ih := cP_bound (s := s) (u := u) nm k
      rw [e k hl] at ih
      rw [e (k + 1) (by omega), ← ih]
      unfold cP
      rw [e k hl, e (k + 1) (by omega)]
    | some b =>
      rw [cP_next hb, addF_bound, cP_bound nm k, take_next hb]
      unfold boundB
      rw [List.any_append]
      simp only [List.any_cons, List.any_nil, Bool.or_false]
      cases decide (b.var = nm) <;> simp
theorem cP_free {s u : List Bd} (hu : Asc u) {k : Nat} {b : Bd} (h : u[k]? = some b) : boundB (cP s u k) b.var = boundB s b.var := by
  rw [cP_bound]
  have : boundB (u.take k) b.var = false := bound_no.2 fun d hd e => by
    obtain ⟨j, hj⟩ := List.getElem?_of_mem hd
    rw [List.getElem?_take] at hj
    split at hj
    · have := hu j k d b (by assumption) hj h
      rw [e] at this; exact List.lt_irrefl _ this
    · cases hj
  rw [this, Bool.or_false]
/-- Both come to the same. -/
theorem cS_eq {s u : List Bd} (hs : Asc s) (hu : Asc u) : ∀ k, k ≤ u.length → cS s u k = (cP s u k).filter nontr
  | 0, _ => rfl
  | k + 1, hk => by
    obtain ⟨b, hb⟩ : ∃ b, u[k]? = some b := ⟨_, List.getElem?_eq_getElem hk⟩
    rw [cS_next hb, cP_next hb, cS_eq hs hu k (by omega), ← cP_free hu hb]
    unfold addF
    by_cases h : boundB (cP s u k) b.var = true
    · rw [if_pos h, if_pos h]
    · rw [if_neg h, if_neg h, filter_insF (cP_asc hs k (by omega))]
      unfold putF nontr
      cases triv b <;> rfl
theorem cS_start {s u : List Bd} (hs : Asc s) : (appB u s).foldl (fun a b => putF b a) [] = cS s u 0 := by
  have h := put_asc (appB_asc (u := u) hs) (appB u s).length (Nat.le_refl _)
  rw [List.take_length] at h
  rw [h]; rfl

/-- What ComposeSubstitutions answers. -/
def cOut (s u : List Bd) : List Bd := (cP s u u.length).filter nontr
def cOk (s u : List Bd) : Bool := goodS s && (goodS u && goodS (cOut s u))
def cR (s u : List Bd) : List Bd := if cOk s u then cOut s u else []
theorem cR_yes {s u : List Bd} (h : cOk s u = true) : cR s u = cOut s u := if_pos h
theorem cR_no {s u : List Bd} (h : cOk s u = false) : cR s u = [] := if_neg (by rw [h]; simp)
theorem cOk_s {s u : List Bd} (h : goodS s = false) : cOk s u = false := by unfold cOk; rw [h]; rfl
theorem cOk_u {s u : List Bd} (h : goodS u = false) : cOk s u = false := by unfold cOk; rw [h]; simp
theorem cOk_o {s u : List Bd} (h : goodS (cOut s u) = false) : cOk s u = false := by unfold cOk; rw [h]; simp
theorem cOk_y {s u : List Bd} (h1 : goodS s = true) (h2 : goodS u = true) (h3 : goodS (cOut s u) = true) : cOk s u = true := by unfold cOk; rw [h1, h2, h3]; rfl

theorem addF_mem {l : List Bd} {b x : Bd} (h : x ∈ addF l b) : x = b ∨ x ∈ l := by
  unfold addF at h
  split at h
  · exact .inr h
  · exact insF_mem.1 h
theorem addF_len (l : List Bd) (b : Bd) : (addF l b).length ≤ l.length + 1 := by
  unfold addF
  split
  · omega
  · rw [insF_len]; exact Nat.le_refl _
theorem cP_len (s u : List Bd) : ∀ k, (cP s u k).length ≤ s.length + k
  | 0 => by simp [cP, appB_len]
  | k + 1 => by
    cases hb : u[k]? with
    | none =>
      have hl : u.length ≤ k := List.getElem?_eq_none_iff.1 hb
      have ih := cP_len s u k
      have e : cP s u (k + 1) = cP s u k := by unfold cP; rw [List.take_of_length_le (by omega), List.take_of_length_le (by omega)]
      rw [e]; omega
    | some b =>
      rw [cP_next hb]
      have h1 := addF_len (cP s u k) b
      have h2 := cP_len s u k
      omega
theorem cP_all {s u : List Bd} {p : Bd → Prop} (h1 : ∀ d ∈ s, p ⟨d.var, d.tm.app u⟩) (h2 : ∀ d ∈ u, p d) : ∀ k, ∀ x ∈ cP s u k, p x
  | 0, x, hx => by
    obtain ⟨d, hd, rfl⟩ := List.mem_map.1 (show x ∈ appB u s from hx)
    exact h1 d hd
  | k + 1, x, hx => by
    cases hb : u[k]? with
    | none =>
      have hl : u.length ≤ k := List.getElem?_eq_none_iff.1 hb
      have e : cP s u (k + 1) = cP s u k := by unfold cP; rw [List.take_of_length_le (by omega), List.take_of_length_le (by omega)]
      rw [e] at hx
      exact cP_all h1 h2 k x hx
    | some b =>
      rw [cP_next hb] at hx
      rcases addF_mem hx with rfl | hx
      · exact h2 x (List.mem_of_getElem? hb)
      · exact cP_all h1 h2 k x hx
theorem sumB_bound {f : Bd → Nat} {M : Nat} : ∀ {l : List Bd}, (∀ d ∈ l, f d ≤ M) → sumB f l ≤ l.length * M
  | [], _ => by simp [sumB]
  | d :: r, h => by
    have h1 := h d List.mem_cons_self
    have h2 := sumB_bound (l := r) (fun x hx => h x (List.mem_cons_of_mem _ hx))
    simp only [sumB, List.length_cons, Nat.add_mul, Nat.one_mul]; omega
theorem good_mem {l : List Bd} {d : Bd} (h : goodS l = true) (hd : d ∈ l) : goodB d.tm = true ∧ varB d.var = true := by
  obtain ⟨k, hk⟩ := List.getElem?_of_mem hd
  exact ⟨okAt_good (goodS_at h hk), okAt_var (goodS_at h hk)⟩
theorem goodB_anyB {t : Tm} (h : goodB t = true) : anyB t = true := by unfold anyB; rw [h]; rfl
theorem wtB_bound {l : List Bd} {M : Nat} (h : ∀ d ∈ l, d.wt ≤ M) : wtB l ≤ l.length + l.length * M := by
  have := sumB_bound (f := Bd.wt) h
  unfold wtB; omega
theorem cP_wt1 {s u : List Bd} (hs : goodS s = true) (hu : goodS u = true) (k : Nat) : ∀ x ∈ cP s u k, x.wt ≤ 6514 :=
  cP_all (p := fun x => x.wt ≤ 6514) (fun d hd => by
    have h := good_mem hs hd
    have h1 := app_wt_good (l := u) hu (goodB_anyB h.1)
    have h2 := varB_size h.2
    show d.var.size + (d.tm.app u).wt ≤ 6514
    omega) (fun d hd => by
    have h := good_mem hu hd
    have h1 := goodB_wt h.1
    have h2 := varB_size h.2
    show d.var.size + d.tm.wt ≤ 6514
    omega) k
theorem cP_wt {s u : List Bd} (hs : goodS s = true) (hu : goodS u = true) {k : Nat} (hk : k ≤ 12) : wtB (cP s u k) ≤ 160000 := by
  have h1 := wtB_bound (cP_wt1 hs hu k)
  have h2 := cP_len s u k
  have h3 := goodS_le hs
  have h4 : (cP s u k).length * 6514 ≤ 24 * 6514 := Nat.mul_le_mul_right _ (by omega)
  omega
theorem wtB_filter (p : Bd → Bool) (l : List Bd) : wtB (l.filter p) ≤ wtB l := by
  unfold wtB
  have h1 := List.length_filter_le p l
  have h2 := sumB_filter Bd.wt p l
  omega
theorem cOut_wt {s u : List Bd} (hs : goodS s = true) (hu : goodS u = true) : wtB (cOut s u) ≤ 160000 :=
  Nat.le_trans (wtB_filter _ _) (cP_wt hs hu (goodS_le hu))
theorem cR_wt (s u : List Bd) : wtB (cR s u) ≤ 1048576 := by
  cases h : cOk s u with
  | false => rw [cR_no h]; simp [wtB, sumB]
  | true =>
    rw [cR_yes h]
    unfold cOk at h
    simp only [Bool.and_eq_true] at h
    have := cOut_wt h.1 h.2.1; omega

end Go.Proofs.Ytnkonhdnccolhaa

/- The library's insertion of one binding into a row of the call's own: a contract, for rows of at most 1048576 bindings. -/
namespace Go.Proofs.Ytnkonhdnccolhaa
open Go.RowKit
set_option linter.unusedVariables false

/-- The library's copy at elements of several cells. -/
theorem run_copy_rowS {P : Program} (w : World) (dT sT ty elem : TypeId) (g o dLen dCap : Nat) (a : Addr) (sLen sCap : Nat) (cur : Array Value) (t : TypeId) (cs : List Value) (size n : Nat)
    (hu : P.underlying dT = some (.slice elem)) (hs : (P.info? elem).map (·.size) = some size)
    (hg : w.heap[g]? = some (.cells cur t (0, 0))) (hn : Nat.min sLen dLen = n) (hcl : cs.length = n * size)
    (hsrc : ∀ j v, cs[j]? = some v → w.cell? (a.add j) = some v) (hfit : o + cs.length ≤ cur.size) (h1 : ∀ v ∈ cs, v.oneCell' = true) :
    (Builtin.copy_ #[dT, sT] ty #[.slice (some ⟨g, o, none⟩) dLen dCap, .slice (some a) sLen sCap]).run P w =
      .ok (goInt n) (w.setRow g (cur.toList.take o ++ cs ++ cur.toList.drop (o + cs.length)).toArray) := by
  have hl := run_loadCells_list (P := P) w a cs hsrc
  have hst := run_storeCells_at P g o t cs 0 cur w hg (by simpa using hfit) h1
  cases hq : P.info? elem with
  | none => simp [hq] at hs
  | some i =>
    have hi : i.size = size := by simpa [hq] using hs
    rw [hcl] at hl
    simp [Builtin.copy_, run_underlying hu, Builtin.lenOf, Builtin.firstCells, sizeOf, typeInfo, hq, hi, hn, hl, hst]

def InsEnd (base : Nat) (v : Value) (n : Nat) (xs : List Value) (w : World) (e : Ending) (w' : World) : Prop :=
  ∃ g cap, e = .returned (.slice (some ⟨g, 0, none⟩) (n + 1) cap) ∧ w'.ownsRow base 110 3 (.slice (some ⟨g, 0, none⟩) (n + 1) cap) (n + 1) xs ∧ (v.ownBlock = some g ∨ g = w.heap.size) ∧ w.grownBy w' v.ownBlock

set_option maxHeartbeats 2000000 in
theorem ins_end (base n : Nat) (v : Value) (xs : List Value) (x y z : Value) (vb vc : Nat) (w : World) (hown : w.ownsRow base 110 3 v n xs)
    (hblk : w.heap[vb]? = some (.cells #[x, y, z] 110 (0, 0))) (h1 : ∀ u ∈ [x, y, z], u.oneCell' = true) (hn : n ≤ 1048576) (hbase : base ≤ w.heap.size) :
    Calls Try.prog 99 #[v, .int .i64 n, .slice (some ⟨vb, 0, none⟩) 1 vc] w (InsEnd base v n (xs ++ [x, y, z]) w) := by
  obtain ⟨i0, hi, hz0, hz1, hz2⟩ := info_parts infoBd
  have HOWN := Lib.hid hown
  have HBLK := Lib.hid hblk
  have H1 := Lib.hid h1
  have hz : ((1 : Int) == 0) = false := rfl
  rcases hown.2 with ⟨rfl, rfl⟩ | ⟨g, cap, cur, rfl, hbg, hg, hnc, hcm, hcs, htake⟩
  · clear hown hblk h1
    go_enter Try.func99, Try.ntmps99
    go_wp2_with (at_builtin; refine wpList_append_lies _ rfl _ _ _ (by rfl) base 110 i0 _ 3 56 Try.underlying32 hi hz0 hz1 hz2 rfl (by omega) (.slice none 0 0) 0 xs (by rfl) HOWN.out ⟨vb, 0, none⟩ 1 vc [x, y, z] (by rfl) (by rfl) (World.news_of_block (cs := #[x, y, z]) (t := 110) (fr := (0, 0)) HBLK.out) H1.out (by omega) (by unfold maxLen; omega) (by omega) hbase w.heap.size rfl ?_; intro gg cap w7 hown7 hgrow hat hlt7; have HE : Hid (InsEnd base (.slice none 0 0) 0 (xs ++ [x, y, z]) w (.returned (.slice (some ⟨gg, 0, none⟩) (0 + 1) cap)) w7) := Lib.hid ⟨gg, cap, rfl, hown7, hat, hgrow⟩; clear hown7 hgrow hat hlt7)
    go_ret
    exact HE.out
  · have hcm' : cap ≤ 9223372036854775807 := by unfold maxLen at hcm; omega
    clear hown hblk h1 hg hcs htake hcm
    by_cases hcn : cap = n
    · subst hcn
      go_enter Try.func99, Try.ntmps99
      go_wp2_with (at_builtin; refine wpList_append_lies _ rfl _ _ _ (by rfl) base 110 i0 _ 3 56 Try.underlying32 hi hz0 hz1 hz2 rfl (by omega) (.slice (some ⟨g, 0, none⟩) cap cap) cap xs (by rfl) HOWN.out ⟨vb, 0, none⟩ 1 vc [x, y, z] (by rfl) (by rfl) (World.news_of_block (cs := #[x, y, z]) (t := 110) (fr := (0, 0)) HBLK.out) H1.out (by omega) (by unfold maxLen; omega) (by omega) hbase w.heap.size rfl ?_; intro gg cap2 w7 hown7 hgrow hat hlt7; have HE : Hid (InsEnd base (.slice (some ⟨g, 0, none⟩) cap cap) cap (xs ++ [x, y, z]) w (.returned (.slice (some ⟨gg, 0, none⟩) (cap + 1) cap2)) w7) := Lib.hid ⟨gg, cap2, rfl, hown7, hat, hgrow⟩; clear hown7 hgrow hat hlt7)
      go_ret
      exact HE.out
    · go_enter Try.func99, Try.ntmps99
      go_wp2_with (at_builtin; refine wpList_append_lies _ rfl _ _ _ (by rfl) base 110 i0 _ 3 56 Try.underlying32 hi hz0 hz1 hz2 rfl (by omega) (.slice (some ⟨g, 0, none⟩) n cap) n xs (by rfl) HOWN.out ⟨vb, 0, none⟩ 1 vc [x, y, z] (by rfl) (by rfl) (World.news_of_block (cs := #[x, y, z]) (t := 110) (fr := (0, 0)) HBLK.out) H1.out (by omega) (by unfold maxLen; omega) (by omega) hbase w.heap.size rfl ?_; intro gg cap2 w7 hown7 hgrow hat hlt7; have HE : Hid (InsEnd base (.slice (some ⟨g, 0, none⟩) n cap) n (xs ++ [x, y, z]) w (.returned (.slice (some ⟨gg, 0, none⟩) (n + 1) cap2)) w7) := Lib.hid ⟨gg, cap2, rfl, hown7, hat, hgrow⟩; clear hown7 hgrow hat hlt7)
      go_ret
      exact HE.out

end Go.Proofs.Ytnkonhdnccolhaa

/- The library's insertion of one binding into a row that has room: a contract, for rows of at most 1048576 bindings. -/
namespace Go.Proofs.Ytnkonhdnccolhaa
open Go.RowKit
set_option linter.unusedVariables false

theorem sliceAddr (g j : Nat) : (⟨g, 0, none⟩ : Addr).add j = ⟨g, j, none⟩ := by unfold Addr.add; split <;> simp_all

theorem step_copy_runB {P : Program} {ops : Array Oper} {o : Oper} {a : Act} {w : World} {K : Act → World → Prop} {Q : Exit → Act → World → Prop} {E : Prop}
    (hg : o.guard = none) (d x : Operand) (dT sT : TypeId) (hop : o.op = Op.call { callee := Callee.builtin Builtin.copy, args := #[d, x], argTypes := #[dT, sT] })
    (v u : Value) (hd : a.eval d = v) (hx : a.eval x = u) {v' : Value} {w' : World} (hr : (Builtin.copy_ #[dT, sT] o.type #[v, u]).run P w = .ok v' w') (hK : K (a.put o.dst v') w') :
    if Region.wanted o (yielded ops a.tmps) = true then Oper.wp P o a w K Q else E := by
  have hw : Region.wanted o (yielded ops a.tmps) = true := by simp [Region.wanted, hg]
  rw [if_pos hw]
  unfold Oper.wp
  simp [execOp, hop, resolve, invoke, builtin, hd, hx, hr, Result.andThen]
  exact hK
theorem wpList_copy_runB {P : Program} (w : World) {ops : Array Oper} {rest : List Oper} {o : Oper} {a : Act} {Q : Exit → Act → World → Prop} (hgd : o.guard = none) (d s : Operand) (t t' : TypeId)
    (ho : o.op = .call { callee := .builtin .copy, args := #[d, s], argTypes := #[t, t'] }) (v u : Value) (hd : a.eval d = v) (hs : a.eval s = u) {v' : Value} {w' : World}
    (hr : (Builtin.copy_ #[t, t'] o.type #[v, u]).run P w = .ok v' w') (h : wpList P ops Q rest (a.put o.dst v') w') : wpList P ops Q (o :: rest) a w := by
  refine wpList_plain hgd fun K hK => ?_
  unfold Oper.wp
  simp [execOp, ho, resolve, invoke, builtin, hd, hs, hr, Result.andThen]
  exact hK _ _ h

theorem setRow_grown {w : World} {g : Nat} (cs : Array Value) : w.grownBy (w.setRow g cs) (some g) :=
  ⟨rfl, rfl, rfl, by simp, fun k hk hne => setRow_other w g k cs (fun e => hne (by rw [e]))⟩
theorem grown_drew (w : World) (row : Option Nat) : w.grownBy w.drew row := ⟨rfl, rfl, rfl, Nat.le_refl _, fun _ _ _ => rfl⟩
theorem grown_trans {a b c : World} {row : Option Nat} (h : a.grownBy b row) (k : b.grownBy c row) : a.grownBy c row :=
  ⟨k.os.trans h.os, k.tape.trans h.tape, k.output.trans h.output, Nat.le_trans h.size k.size, fun j hj hne => (k.block j (Nat.lt_of_lt_of_le hj h.size) hne).trans (h.block j hj hne)⟩

theorem shift_row {cur xs ys : List Value} {n i : Nat} (hcs : n * 3 + 3 ≤ cur.length) (ht : cur.take (n * 3) = xs) (hi : i ≤ n) (hy : ys.length = 3) :
    ((((cur.take ((i + 1) * 3) ++ xs.drop (i * 3) ++ cur.drop ((i + 1) * 3 + (xs.drop (i * 3)).length)).take (i * 3)) ++ ys ++ ((cur.take ((i + 1) * 3) ++ xs.drop (i * 3) ++ cur.drop ((i + 1) * 3 + (xs.drop (i * 3)).length)).drop (i * 3 + ys.length))).take ((n + 1) * 3)) = xs.take (i * 3) ++ ys ++ xs.drop (i * 3) := by
  have hxl : xs.length = n * 3 := by rw [← ht, List.length_take]; omega
  have hdl : (xs.drop (i * 3)).length = n * 3 - i * 3 := by rw [List.length_drop, hxl]
  have e1 : (cur.take ((i + 1) * 3) ++ xs.drop (i * 3) ++ cur.drop ((i + 1) * 3 + (xs.drop (i * 3)).length)).take (i * 3) = xs.take (i * 3) := by
    rw [List.append_assoc, List.take_append_of_le_length (by rw [List.length_take]; omega), List.take_take, ← ht, List.take_take]
    congr 1; omega
  have e2 : (cur.take ((i + 1) * 3) ++ xs.drop (i * 3) ++ cur.drop ((i + 1) * 3 + (xs.drop (i * 3)).length)).drop (i * 3 + ys.length) = xs.drop (i * 3) ++ cur.drop ((i + 1) * 3 + (xs.drop (i * 3)).length) := by
    have hl : (cur.take ((i + 1) * 3)).length = i * 3 + ys.length := by rw [List.length_take]; omega
    rw [List.append_assoc, ← hl, List.drop_left]
  rw [e1, e2, ← List.append_assoc, List.take_append_of_le_length (by simp only [List.length_append, List.length_take]; omega), List.take_of_length_le (by simp only [List.length_append, List.length_take]; omega)]

set_option maxRecDepth 100000 in
set_option maxHeartbeats 4000000 in
theorem ins_shift (base n i g cap : Nat) (xs : List Value) (x y z : Value) (vb vc : Nat) (w : World) (hown : w.ownsRow base 110 3 (.slice (some ⟨g, 0, none⟩) n cap) n xs)
    (hblk : w.heap[vb]? = some (.cells #[x, y, z] 110 (0, 0))) (hne : vb ≠ g) (h1 : ∀ u ∈ [x, y, z], u.oneCell' = true) (h1x : ∀ u ∈ xs, u.oneCell' = true) (hn : n ≤ 1048576) (hi : i < n) (hroom : n + 1 ≤ cap) :
    Calls Try.prog 99 #[.slice (some ⟨g, 0, none⟩) n cap, .int .i64 i, .slice (some ⟨vb, 0, none⟩) 1 vc] w (InsEnd base (.slice (some ⟨g, 0, none⟩) n cap) n (xs.take (i * 3) ++ [x, y, z] ++ xs.drop (i * 3)) w) := by
  obtain ⟨i0, hi0, hz0, hz1, hz2⟩ := info_parts infoBd
  rcases hown.2 with ⟨e1, _⟩ | ⟨g', cap', cur, e1, hbg, hg, hnc, hcm, hcs, htake⟩
  · cases e1
  injection e1 with e2 e3 e4
  injection e2 with e2
  injection e2 with e2
  subst e2; subst e4
  have hsz : (Try.prog.info? 110).map (·.size) = some 3 := by rw [hi0]; simp [hz1]
  have hcm' : cap ≤ 9223372036854775807 := by unfold maxLen at hcm; omega
  obtain ⟨ys, hys⟩ : ∃ ys, ys = [x, y, z] := ⟨_, rfl⟩
  have hyl : ys.length = 3 := by rw [hys]; rfl
  rw [← hys] at h1 ⊢
  have hcl3 : n * 3 + 3 ≤ cur.toList.length := by rw [Array.length_toList, hcs]; omega
  have hxl : xs.length = n * 3 := hown.1
  have hdl : (xs.drop (i * 3)).length = (n - i) * 3 := by rw [List.length_drop, hxl]; omega
  have HSH := Lib.hid (shift_row hcl3 htake (by omega : i ≤ n) hyl)
  have hov : ∀ lb cb, (callFunc 153 #[.slice (some ⟨vb, 0, none⟩) 1 vc, .slice (some ⟨g, (i + 1) * 3, none⟩) lb cb]).run Try.prog w = .ok (.value (.bool false)) w := fun lb cb => by
    rw [run_callFunc_extern (P := Try.prog) Try.func153 (by kernel_rfl) (by kernel_rfl) (by kernel_rfl) (e := Extern.SlicesOverlaps.overlaps #[32, 32] #[4]) (by kernel_rfl),
      Lib.run_overlaps_apart w 32 4 110 Try.underlying32 3 (fun w => by simp [sizeOf, typeInfo, hi0, hz1]) ⟨vb, 0, none⟩ ⟨g, (i + 1) * 3, none⟩ 1 vc lb cb hne 110 110 3 cur.size (by simp [World.shape?, hblk]) (by simp [World.shape?, hg]) (by omega) (by simp [World.frozen?, hblk]) (by simp [World.frozen?, hblk])]
    rfl
  have hcp1 : ∀ ty dc sc, (Builtin.copy_ #[32, 32] ty #[.slice (some ⟨g, (i + 1) * 3, none⟩) (n - i) dc, .slice (some ⟨g, i * 3, none⟩) (n + 1 - i) sc]).run Try.prog w.drew = .ok (goInt ((n - i : Nat) : Int)) (w.drew.setRow g (cur.toList.take ((i + 1) * 3) ++ xs.drop (i * 3) ++ cur.toList.drop ((i + 1) * 3 + (xs.drop (i * 3)).length)).toArray) := fun ty dc sc =>
    run_copy_rowS w.drew _ _ ty 110 g ((i + 1) * 3) (n - i) dc ⟨g, i * 3, none⟩ (n + 1 - i) sc cur 110 (xs.drop (i * 3)) 3 (n - i) Try.underlying32 hsz hg (by simp only [Nat.min_def]; split <;> omega) hdl
      (fun j v hj => by
        rw [List.getElem?_drop] at hj
        have e : (⟨g, i * 3, none⟩ : Addr).add j = ⟨g, i * 3 + j, none⟩ := by unfold Addr.add; split <;> simp_all
        rw [e]
        have hjl := (List.getElem?_eq_some_iff.1 hj).1
        show w.cell? _ = _
        rw [hown.cellAt _ (by omega)]; exact hj)
      (by rw [hdl, hcs]; omega) (fun v hv => h1x v (List.mem_of_mem_drop hv))
  obtain ⟨C1, hC1⟩ : ∃ C1, C1 = cur.toList.take ((i + 1) * 3) ++ xs.drop (i * 3) ++ cur.toList.drop ((i + 1) * 3 + (xs.drop (i * 3)).length) := ⟨_, rfl⟩
  rw [← hC1] at hcp1 HSH
  have hC1l : n * 3 + 3 ≤ C1.length := by rw [hC1]; simp only [List.length_append, List.length_take, List.length_drop]; omega
  have hC1e : C1.length = cap * 3 := by rw [hC1]; simp only [List.length_append, List.length_take, List.length_drop, Array.length_toList, hcs]; omega
  obtain ⟨W1, hW1⟩ : ∃ W1, W1 = w.drew.setRow g C1.toArray := ⟨_, rfl⟩
  have hg1 : W1.heap[g]? = some (.cells C1.toArray 110 (0, 0)) := by rw [hW1]; exact setRow_heap w.drew g _ _ _ _ hg
  have hb1 : W1.heap[vb]? = some (.cells #[x, y, z] 110 (0, 0)) := by rw [hW1, setRow_other _ _ _ _ hne]; exact hblk
  have HG1 : Hid (w.grownBy W1 (some g)) := Lib.hid (by rw [hW1]; exact grown_trans (grown_drew w _) (setRow_grown _))
  rw [← hW1] at hcp1
  have hcp2 : ∀ ty dc, (Builtin.copy_ #[32, 32] ty #[.slice (some ⟨g, i * 3, none⟩) (n + 1 - i) dc, .slice (some ⟨vb, 0, none⟩) 1 vc]).run Try.prog W1 = .ok (goInt 1) (W1.setRow g (C1.toArray.toList.take (i * 3) ++ ys ++ C1.toArray.toList.drop (i * 3 + ys.length)).toArray) := fun ty dc =>
    run_copy_rowS W1 _ _ ty 110 g (i * 3) (n + 1 - i) dc ⟨vb, 0, none⟩ 1 vc C1.toArray 110 ys 3 1 Try.underlying32 hsz hg1 (by simp only [Nat.min_def]; split <;> omega) hyl
      (fun j v hj => by
        rw [sliceAddr]
        simp only [World.cell?, hb1]
        rw [hys] at hj
        have : j < 3 := (List.getElem?_eq_some_iff.1 hj).1
        match j, this with
        | 0, _ => simpa using hj
        | 1, _ => simpa using hj
        | 2, _ => simpa using hj)
      (by simp only [List.size_toArray]; omega) h1
  obtain ⟨W2, hW2⟩ : ∃ W2, W2 = W1.setRow g (C1.toArray.toList.take (i * 3) ++ ys ++ C1.toArray.toList.drop (i * 3 + ys.length)).toArray := ⟨_, rfl⟩
  rw [← hW2] at hcp2
  have HE : Hid (InsEnd base (.slice (some ⟨g, 0, none⟩) n cap) n (xs.take (i * 3) ++ ys ++ xs.drop (i * 3)) w (.returned (.slice (some ⟨g, 0, none⟩) (n + 1) cap)) W2) := Lib.hid (by
    refine ⟨g, cap, rfl, ⟨by simp only [List.length_append, List.length_take, hdl]; omega, .inr ⟨g, cap, _, rfl, hbg, by rw [hW2]; exact setRow_heap W1 g _ _ _ _ hg1, hroom, hcm, ?_, ?_⟩⟩, .inl rfl, ?_⟩
    · simp only [List.size_toArray, List.length_append, List.length_take, List.length_drop]; omega
    · exact HSH.out
    · rw [hW2]; exact grown_trans HG1.out (setRow_grown _))
  obtain ⟨xr, hxr⟩ : ∃ xr, xr = xs.take (i * 3) ++ ys ++ xs.drop (i * 3) := ⟨_, rfl⟩
  rw [← hxr] at HE ⊢
  have hz2 : ¬ ((i : Int) = (n : Int)) := by omega
  have HC1 := Lib.hid hcp1
  have HC2 := Lib.hid hcp2
  have HOV := Lib.hid hov
  clear hown hblk h1 h1x hcp1 hcp2 hov hxr hW2 hW1 hC1 hg1 hb1 hg hcs htake hcm hdl hxl hcl3 hyl hC1l hC1e hys HSH hsz hz0 hz1 hz2 hi0
  have hz2 : ¬ ((i : Int) = (n : Int)) := by omega
  have hov := HOV.out
  have hw1 : IntKind.i64.wrap ((i : Int) + 1) = (i : Int) + 1 := by rw [IntKind.wrap_i64]; omega
  have hb1 : (0 : Int) ≤ (i : Int) + 1 := by omega
  have htn : ((i : Int) + 1).toNat = i + 1 := by omega
  have hb2 : ¬ (cap = i + 1) := by omega
  have hb3 : (i : Int) ≤ (n : Int) + 1 := by omega
  have hb5 : (i : Int) + 1 ≤ (n : Int) + 1 := by omega
  have hb4 : ¬ (cap = i) := by omega
  go_enter Try.func99, Try.ntmps99
  have hcp1 := HC1.out
  go_wp2_with (simp only [hov])
  go_region_law (fail)
  clear hcp1
  have hcp2 := HC2.out
  go_wp2
  go_ret
  exact HE.out

end Go.Proofs.Ytnkonhdnccolhaa

/- The library's insertion of one binding into a row that has no room: a contract, for rows of at most 1048576 bindings; and the three roads as one. -/
namespace Go.Proofs.Ytnkonhdnccolhaa
open Go.RowKit
set_option linter.unusedVariables false

theorem grow_row {C0 xs ys : List Value} {n i : Nat} (hl : n * 3 + 3 ≤ C0.length) (ht : C0.take (i * 3) = xs.take (i * 3)) (hx : xs.length = n * 3) (hi : i ≤ n) (hy : ys.length = 3) :
    (((C0.take (i * 3) ++ ys ++ C0.drop (i * 3 + ys.length)).take ((i + 1) * 3)) ++ xs.drop (i * 3) ++ ((C0.take (i * 3) ++ ys ++ C0.drop (i * 3 + ys.length)).drop ((i + 1) * 3 + (xs.drop (i * 3)).length))).take ((n + 1) * 3) = xs.take (i * 3) ++ ys ++ xs.drop (i * 3) := by
  have e1 : (C0.take (i * 3) ++ ys ++ C0.drop (i * 3 + ys.length)).take ((i + 1) * 3) = xs.take (i * 3) ++ ys := by
    have hl2 : (C0.take (i * 3) ++ ys).length = (i + 1) * 3 := by rw [List.length_append, List.length_take]; omega
    rw [List.take_append_of_le_length (by omega), List.take_of_length_le (by omega), ht]
  have hxd : (xs.drop (i * 3)).length = n * 3 - i * 3 := by rw [List.length_drop, hx]
  have hxt : (xs.take (i * 3)).length = i * 3 := by rw [List.length_take]; omega
  rw [e1, List.take_append_of_le_length (by simp only [List.length_append]; omega), List.take_of_length_le (by simp only [List.length_append]; omega)]

set_option maxRecDepth 100000 in
set_option maxHeartbeats 4000000 in
theorem ins_grow (base n i g : Nat) (xs : List Value) (x y z : Value) (vb vc : Nat) (w : World) (hown : w.ownsRow base 110 3 (.slice (some ⟨g, 0, none⟩) n n) n xs)
    (hblk : w.heap[vb]? = some (.cells #[x, y, z] 110 (0, 0))) (h1 : ∀ u ∈ [x, y, z], u.oneCell' = true) (h1x : ∀ u ∈ xs, u.oneCell' = true) (hn : n ≤ 1048576) (hi : i < n) (hbase : base ≤ w.heap.size) :
    Calls Try.prog 99 #[.slice (some ⟨g, 0, none⟩) n n, .int .i64 i, .slice (some ⟨vb, 0, none⟩) 1 vc] w (InsEnd base (.slice (some ⟨g, 0, none⟩) n n) n (xs.take (i * 3) ++ [x, y, z] ++ xs.drop (i * 3)) w) := by
  obtain ⟨i0, hi0, hz0, hz1, hz2⟩ := info_parts infoBd
  have hsz : (Try.prog.info? 110).map (·.size) = some 3 := by rw [hi0]; simp [hz1]
  obtain ⟨ys, hys⟩ : ∃ ys, ys = [x, y, z] := ⟨_, rfl⟩
  have hyl : ys.length = 3 := by rw [hys]; rfl
  rw [← hys] at h1 ⊢
  have hxl : xs.length = n * 3 := hown.1
  have hdl : (xs.drop (i * 3)).length = (n - i) * 3 := by rw [List.length_drop, hxl]; omega
  have hgw : g < w.heap.size := (hown.lt g rfl).2
  have hvw : vb < w.heap.size := (Array.getElem?_eq_some_iff.1 hblk).1
  have hold : (Builtin.firstCells i0.size i (.slice (some ⟨g, 0, none⟩) i n)).run Try.prog w.drew = .ok (xs.take (i * 3)).toArray w.drew := by
    rw [hz1]
    exact run_firstCells_some w.drew 3 i ⟨g, 0, none⟩ i n (xs.take (i * 3)) (by rw [List.length_take]; omega) (fun j v hj => by
      rw [sliceAddr]
      rw [List.getElem?_take] at hj
      split at hj
      · show w.cell? _ = _
        rw [hown.cellAt _ (by omega)]; exact hj
      · cases hj)
  have hkk : (n : Int) + 1 - (i : Int) = ((n + 1 - i : Nat) : Int) := by omega
  have hik : i + (n + 1 - i) = n + 1 := by omega
  obtain ⟨G, hG⟩ : ∃ G, G = grownCap w (n + 1) n 110 := ⟨_, rfl⟩
  have hGn : n + 1 ≤ G := by rw [hG]; exact grownCap_ge _ _ _ _
  have hGm : G ≤ maxLen := by rw [hG]; exact grownCap_le_maxLen _ _ _ _ (by unfold maxLen; omega)
  obtain ⟨zc, hzc⟩ : ∃ zc : Array Value, zc = (Value.agg #[.string ByteArray.empty, .string ByteArray.empty, .slice none 0 0]).cells := ⟨_, rfl⟩
  have hzcl : zc.size = 3 := by rw [hzc]; simp [Value.cells]
  obtain ⟨C0, hC0⟩ : ∃ C0 : List Value, C0 = ((xs.take (i * 3)).toArray ++ Builtin.zeroCells zc (n + 1 - i) ++ Builtin.zeroCells zc (G - (n + 1))).toList := ⟨_, rfl⟩
  have hC0l : C0.length = G * 3 := by
    rw [hC0, Array.length_toList]
    simp only [Array.size_append, size_zeroCells, hzcl, List.size_toArray, List.length_take, hxl]; omega
  have hC0t : C0.take (i * 3) = xs.take (i * 3) := by
    rw [hC0]
    simp only [Array.toList_append, List.append_assoc]
    rw [List.take_append_of_le_length (by simp only [List.length_take]; omega)]
    show List.take (i * 3) (xs.take (i * 3)) = _
    rw [List.take_take, Nat.min_self]
  have hrz : ∀ ty, (Builtin.append_ #[32, 3] ty #[.slice (some ⟨g, 0, none⟩) i n, .int .i64 ((n : Int) + 1 - (i : Int))]).run Try.prog w =
      .ok (.slice (some ⟨w.heap.size, 0, none⟩) (n + 1) G) (w.drew.alloc (.cells C0.toArray 110)) := fun ty => by
    have h := Lib.run_append_grow_zeros w 32 3 ty 110 i0 _ .i64 .i64 Try.underlying32 Try.underlying3 hi0 hz0 (some ⟨g, 0, none⟩) i n (xs.take (i * 3)) hold (n + 1 - i) (by omega) (by omega) (by omega) (by omega) (by rw [hz2]; omega) (by rw [hz2, hik]; exact growslice_fits (by omega) (by omega))
    rw [hik] at h
    rw [hkk, h, hC0, hG, hzc]
  obtain ⟨N, hN⟩ : ∃ N, N = w.heap.size := ⟨_, rfl⟩
  obtain ⟨W0, hW0⟩ : ∃ W0, W0 = w.drew.alloc (.cells C0.toArray 110) := ⟨_, rfl⟩
  rw [← hW0, ← hN] at hrz
  have hg0 : W0.heap[N]? = some (.cells C0.toArray 110 (0, 0)) := by rw [hW0, hN]; exact heap_alloc_new w.drew _
  have hb0 : W0.heap[vb]? = some (.cells #[x, y, z] 110 (0, 0)) := by rw [hW0, Below.heap_alloc w.drew _ _ hvw]; exact hblk
  have HG0 : Hid (w.grownBy W0 (some g)) := Lib.hid (by rw [hW0]; exact grown_trans (grown_drew w _) (World.grownBy_alloc _ _ _))
  have hcp1 : ∀ ty dc, (Builtin.copy_ #[32, 32] ty #[.slice (some ⟨N, i * 3, none⟩) (n + 1 - i) dc, .slice (some ⟨vb, 0, none⟩) 1 vc]).run Try.prog W0 = .ok (goInt 1) (W0.setRow N (C0.toArray.toList.take (i * 3) ++ ys ++ C0.toArray.toList.drop (i * 3 + ys.length)).toArray) := fun ty dc =>
    run_copy_rowS W0 _ _ ty 110 N (i * 3) (n + 1 - i) dc ⟨vb, 0, none⟩ 1 vc C0.toArray 110 ys 3 1 Try.underlying32 hsz hg0 (by simp only [Nat.min_def]; split <;> omega) hyl
      (fun j v hj => by
        rw [sliceAddr]
        simp only [World.cell?, hb0]
        rw [hys] at hj
        have : j < 3 := (List.getElem?_eq_some_iff.1 hj).1
        match j, this with
        | 0, _ => simpa using hj
        | 1, _ => simpa using hj
        | 2, _ => simpa using hj)
      (by simp only [List.size_toArray]; omega) h1
  obtain ⟨C1, hC1⟩ : ∃ C1, C1 = C0.take (i * 3) ++ ys ++ C0.drop (i * 3 + ys.length) := ⟨_, rfl⟩
  have HSH := Lib.hid (grow_row (by omega : n * 3 + 3 ≤ C0.length) hC0t hxl (by omega : i ≤ n) hyl)
  rw [← hC1] at HSH
  have hC1l : C1.length = G * 3 := by rw [hC1]; simp only [List.length_append, List.length_take, List.length_drop]; omega
  rw [show C0.toArray.toList = C0 by simp, ← hC1] at hcp1
  obtain ⟨W1, hW1⟩ : ∃ W1, W1 = W0.setRow N C1.toArray := ⟨_, rfl⟩
  rw [← hW1] at hcp1
  have hg1 : W1.heap[N]? = some (.cells C1.toArray 110 (0, 0)) := by rw [hW1]; exact setRow_heap W0 N _ _ _ _ hg0
  have hold1 : W1.heap[g]? = w.heap[g]? := by rw [hW1, setRow_other _ _ _ _ (by omega), hW0, Below.heap_alloc w.drew _ _ hgw]; rfl
  have HG1 : Hid (w.grownBy W1 (some g)) := Lib.hid (by
    refine ⟨by rw [hW1]; exact HG0.out.os, by rw [hW1]; exact HG0.out.tape, by rw [hW1]; exact HG0.out.output, by rw [hW1]; simpa using HG0.out.size, fun k hk hne => ?_⟩
    rw [hW1, setRow_other _ _ _ _ (by omega)]; exact HG0.out.block k hk hne)
  have hcp2 : ∀ ty dc sc, (Builtin.copy_ #[32, 32] ty #[.slice (some ⟨N, (i + 1) * 3, none⟩) (n - i) dc, .slice (some ⟨g, i * 3, none⟩) (n - i) sc]).run Try.prog W1.drew = .ok (goInt ((n - i : Nat) : Int)) (W1.drew.setRow N (C1.toArray.toList.take ((i + 1) * 3) ++ xs.drop (i * 3) ++ C1.toArray.toList.drop ((i + 1) * 3 + (xs.drop (i * 3)).length)).toArray) := fun ty dc sc =>
    run_copy_rowS W1.drew _ _ ty 110 N ((i + 1) * 3) (n - i) dc ⟨g, i * 3, none⟩ (n - i) sc C1.toArray 110 (xs.drop (i * 3)) 3 (n - i) Try.underlying32 hsz hg1 (by simp only [Nat.min_def]; split <;> omega) hdl
      (fun j v hj => by
        rw [List.getElem?_drop] at hj
        have e : (⟨g, i * 3, none⟩ : Addr).add j = ⟨g, i * 3 + j, none⟩ := by unfold Addr.add; split <;> simp_all
        rw [e]
        have hjl := (List.getElem?_eq_some_iff.1 hj).1
        have e2 : W1.drew.cell? ⟨g, i * 3 + j, none⟩ = w.cell? ⟨g, i * 3 + j, none⟩ := World.cell?_of_block (w := w) (a := ⟨g, i * 3 + j, none⟩) hold1
        rw [e2, hown.cellAt _ (by omega)]; exact hj)
      (by simp only [List.size_toArray]; omega) (fun v hv => h1x v (List.mem_of_mem_drop hv))
  rw [show C1.toArray.toList = C1 by simp] at hcp2
  obtain ⟨W2, hW2⟩ : ∃ W2, W2 = W1.drew.setRow N (C1.take ((i + 1) * 3) ++ xs.drop (i * 3) ++ C1.drop ((i + 1) * 3 + (xs.drop (i * 3)).length)).toArray := ⟨_, rfl⟩
  rw [← hW2] at hcp2
  have HE : Hid (InsEnd base (.slice (some ⟨g, 0, none⟩) n n) n (xs.take (i * 3) ++ ys ++ xs.drop (i * 3)) w (.returned (.slice (some ⟨N, 0, none⟩) (n + 1) G)) W2) := Lib.hid (by
    refine ⟨N, G, rfl, ⟨by simp only [List.length_append, List.length_take, hdl]; omega, .inr ⟨N, G, _, rfl, by omega, by rw [hW2]; exact setRow_heap W1.drew N _ _ _ _ hg1, hGn, hGm, ?_, ?_⟩⟩, .inr hN, ?_⟩
    · simp only [List.size_toArray, List.length_append, List.length_take, List.length_drop]; omega
    · exact HSH.out
    · refine ⟨by rw [hW2]; exact HG1.out.os, by rw [hW2]; exact HG1.out.tape, by rw [hW2]; exact HG1.out.output, by rw [hW2]; simpa using HG1.out.size, fun k hk hne => ?_⟩
      rw [hW2, setRow_other _ _ _ _ (by omega)]; exact HG1.out.block k hk hne)
  obtain ⟨xr, hxr⟩ : ∃ xr, xr = xs.take (i * 3) ++ ys ++ xs.drop (i * 3) := ⟨_, rfl⟩
  rw [← hxr] at HE ⊢
  have HC1 := Lib.hid hcp1
  have HC2 := Lib.hid hcp2
  have HRZ := Lib.hid hrz
  clear hown hblk h1 h1x hcp1 hcp2 hrz hxr hW2 hW1 hW0 hC1 hC0 hg1 hg0 hb0 hdl hxl hyl hC1l hC0l hC0t hys HSH hsz hz0 hz1 hz2 hi0 hold hik hkk hzc hzcl hold1 hN hG hgw hvw hGm
  have hz2 : ¬ ((i : Int) = (n : Int)) := by omega
  have hw1 : IntKind.i64.wrap ((i : Int) + 1) = (i : Int) + 1 := by rw [IntKind.wrap_i64]; omega
  have hb1 : (0 : Int) ≤ (i : Int) + 1 := by omega
  have htn : ((i : Int) + 1).toNat = i + 1 := by omega
  have hb2 : ¬ (G = i + 1) := by omega
  have hb6 : ¬ (G = i) := by omega
  have hb3 : (i : Int) ≤ (n : Int) + 1 := by omega
  have hb5 : (i : Int) + 1 ≤ (n : Int) + 1 := by omega
  have hb4 : ¬ (n = i) := by omega
  have hb7 : (i : Int) ≤ (n : Int) := by omega
  have hb8 : (0 : Int) ≤ (i : Int) := by omega
  have hcp1 := HC1.out
  go_enter Try.func99, Try.ntmps99
  go_wp2_with (at_builtin; refine Lib.wpList_append_run _ rfl _ _ _ _ rfl _ _ rfl rfl _ _ (HRZ.out _) ?_)
  clear hcp1
  have hcp2 := HC2.out
  go_region_law (fail)
  clear hcp2
  go_wp2
  go_ret
  exact HE.out

/-- Insertion at any place. -/
theorem ins_any (base n i : Nat) (v : Value) (xs : List Value) (x y z : Value) (vb vc : Nat) (w : World) (hown : w.ownsRow base 110 3 v n xs)
    (hblk : w.heap[vb]? = some (.cells #[x, y, z] 110 (0, 0))) (hne : v.ownBlock ≠ some vb) (h1 : ∀ u ∈ [x, y, z], u.oneCell' = true) (h1x : ∀ u ∈ xs, u.oneCell' = true) (hn : n ≤ 1048576) (hi : i ≤ n) (hbase : base ≤ w.heap.size) :
    Calls Try.prog 99 #[v, .int .i64 i, .slice (some ⟨vb, 0, none⟩) 1 vc] w (InsEnd base v n (xs.take (i * 3) ++ [x, y, z] ++ xs.drop (i * 3)) w) := by
  have hxl : xs.length = n * 3 := hown.1
  by_cases hin : i = n
  · subst hin
    have h := ins_end base i v xs x y z vb vc w hown hblk h1 hn hbase
    rw [List.take_of_length_le (by omega), List.drop_eq_nil_of_le (by omega), List.append_nil]
    exact h
  · rcases hown.2 with ⟨rfl, h0⟩ | ⟨g, cap, cur, rfl, hbg, hg, hnc, hcm, hcs, htake⟩
    · omega
    · by_cases hc : n + 1 ≤ cap
      · exact ins_shift base n i g cap xs x y z vb vc w hown hblk (fun e => hne (by rw [e]; rfl)) h1 h1x hn (by omega) hc
      · obtain rfl : cap = n := by omega
        exact ins_grow base cap i g xs x y z vb vc w hown hblk h1 h1x hn (by omega) hbase

end Go.Proofs.Ytnkonhdnccolhaa

/- The library's deletion of the trivial bindings out of a row of the call's own: a contract, for rows of at most 1048576 bindings. -/
namespace Go.Proofs.Ytnkonhdnccolhaa
open Go.RowKit
set_option linter.unusedVariables false

def IdxEnd (l : List Bd) (w : World) (e : Ending) (w' : World) : Prop :=
  ∃ i : Int, e = .returned (.int .i64 i) ∧ ((i = -1 ∧ ∀ d ∈ l, triv d = false) ∨ ∃ k : Nat, i = k ∧ k < l.length ∧ (∀ j d, j < k → l[j]? = some d → triv d = false) ∧ ∀ d, l[k]? = some d → triv d = true) ∧ Below w.heap.size w w'

set_option maxHeartbeats 2000000 in
theorem idx_any (l : List Bd) (w : World) (v : Value) (hv : BdS w v l) (hl : l.length ≤ 1048576) :
    Calls Try.prog 184 #[v, .func (.func 149) #[] #[]] w (IdxEnd l w) := by
  obtain ⟨a, c, rfl⟩ := hv.is_slice
  have HV := Lib.hid hv
  clear hv
  go_enter Try.func184, Try.ntmps184
  go_wp2
  go_loopw [8] (fun i wr => ∃ k : Nat, k ≤ l.length ∧ i = .int .i64 k ∧ (∀ j d, j < k → l[j]? = some d → triv d = false) ∧ Below w.heap.size w wr) (fun i _ => l.length - (intOf i).toNat)
  case atStart => exact ⟨0, Nat.zero_le _, rfl, fun j d hj => absurd hj (Nat.not_lt_zero _), Below.refl _ _⟩
  case round =>
    obtain ⟨k, hk, rfl, hq, hbel⟩ := hrel
    have HQ := Lib.hid hq
    have HB := Lib.hid hbel
    clear hq hbel
    by_cases hlt : k < l.length
    · obtain ⟨d, hd⟩ : ∃ d, l[k]? = some d := ⟨_, List.getElem?_eq_getElem hlt⟩
      obtain ⟨b, off, rfl, va, c0, c1, c2, hva⟩ := HV.out.get hd
      obtain ⟨pa, ca, rfl⟩ := hva.is_slice
      have c0' := carry_cell c0 HB.out
      have c1' := carry_cell c1 HB.out
      have c2' := carry_cell c2 HB.out
      have HD := Lib.hid hd
      have CT := trivial_any d pa d.tm.args.length ca wr
      obtain ⟨q, hq⟩ : ∃ q, q = triv d := ⟨_, rfl⟩
      rw [show sameB d.tm.name d.var = q from hq.symm] at CT
      have CT := Lib.hid CT
      have HQD := Lib.hid hq
      clear hd hva c0 c1 c2 hq
      go_wp2_with fail
      refine CT.out.mono ?_
      rintro e w2 ⟨rfl, hb⟩
      have HB2 := Lib.hid (carry_below HB.out (Nat.le_refl _) hb)
      clear hb
      cases q with
      | true =>
        have HE : Hid (IdxEnd l w (.returned (.int .i64 k)) w2) := Lib.hid ⟨k, rfl, .inr ⟨k, rfl, hlt, HQ.out, fun x hx => by rw [HD.out] at hx; injection hx with hx; rw [← hx]; exact HQD.out.symm⟩, HB2.out⟩
        go_wp2
        go_ret
        exact HE.out
      | false =>
        have HN : Hid (∀ j x, j < k + 1 → l[j]? = some x → triv x = false) := Lib.hid (fun j x hj hx => by
          by_cases e : j = k
          · subst e; rw [HD.out] at hx; injection hx with hx; rw [← hx]; exact HQD.out.symm
          · exact HQ.out j x (by omega) hx)
        go_wp2
        go_roundw
        case rel => exact ⟨k + 1, by omega, by go_num, HN.out, HB2.out⟩
        case measure => simp [intOf]; omega
    · have hke : k = l.length := by omega
      have HE : Hid (IdxEnd l w (.returned (.int .i64 (-1))) wr) := Lib.hid ⟨-1, rfl, .inl ⟨rfl, fun d hd => by
        obtain ⟨j, hj⟩ := List.getElem?_of_mem hd
        exact HQ.out j d (by rw [hke]; exact (List.getElem?_eq_some_iff.1 hj).1) hj⟩, HB.out⟩
      go_wp2
      go_ret
      exact HE.out

theorem run_clear_row {P : Program} (w : World) (t ty elem : TypeId) (i : TypeInfo) (z : Value) (g o n c : Nat) (cur : Array Value) (tt : TypeId) (zs : List Value) (hu : P.underlying t = some (.slice elem)) (hi : P.info? elem = some i) (hz : i.zero = some z)
    (hn : 0 < n) (hg : w.heap[g]? = some (.cells cur tt (0, 0))) (hzs : (Builtin.zeroCells z.cells n).toList = zs) (hfit : o + zs.length ≤ cur.size) (h1 : ∀ v ∈ zs, v.oneCell' = true) :
    (Builtin.clear_ #[t] ty #[.slice (some ⟨g, o, none⟩) n c]).run P w = .ok (.tuple #[]) (w.setRow g (cur.toList.take o ++ zs ++ cur.toList.drop (o + zs.length)).toArray) := by
  have hst := run_storeCells_at P g o tt zs 0 cur w hg (by simpa using hfit) h1
  obtain ⟨m, rfl⟩ : ∃ m, n = m + 1 := ⟨n - 1, by omega⟩
  simp [Builtin.clear_, run_underlying hu, zeroValue, typeInfo, hi, hz, hzs, hst]

theorem wpList_clear_runB {P : Program} (w : World) {ops : Array Oper} {rest : List Oper} {o : Oper} {a : Act} {Q : Exit → Act → World → Prop} (hgd : o.guard = none) (d : Operand) (t : TypeId)
    (ho : o.op = .call { callee := .builtin .clear, args := #[d], argTypes := #[t] }) (v : Value) (hd : a.eval d = v) {v' : Value} {w' : World}
    (hr : (Builtin.clear_ #[t] o.type #[v]).run P w = .ok v' w') (h : wpList P ops Q rest (a.put o.dst v') w') : wpList P ops Q (o :: rest) a w := by
  refine wpList_plain hgd fun K hK => ?_
  unfold Oper.wp
  simp [execOp, ho, resolve, invoke, builtin, hd, hr, Result.andThen]
  exact hK _ _ h

theorem zc3_one (n : Nat) : ∀ v ∈ (Builtin.zeroCells (Value.agg #[.string ByteArray.empty, .string ByteArray.empty, .slice none 0 0]).cells n).toList, v.oneCell' = true := fun v hv => by
  have hc : (Value.agg #[.string ByteArray.empty, .string ByteArray.empty, .slice none 0 0]).cells = #[.string ByteArray.empty, .string ByteArray.empty, .slice none 0 0] := by simp [Value.cells]
  rw [hc] at hv
  unfold Builtin.zeroCells at hv
  rw [Array.toList_map, List.mem_map] at hv
  obtain ⟨a, _, rfl⟩ := hv
  have h3 : a % (#[Value.string ByteArray.empty, .string ByteArray.empty, .slice none 0 0] : Array Value).size < 3 := Nat.mod_lt _ (by decide)
  generalize a % (#[Value.string ByteArray.empty, .string ByteArray.empty, .slice none 0 0] : Array Value).size = b at h3
  match b, h3 with
  | 0, _ => rfl
  | 1, _ => rfl
  | 2, _ => rfl

def keepE (L : List En) : List En := L.filter fun e => !triv e.d
theorem keepE_next_yes {L : List En} {k : Nat} {e : En} (h : L[k]? = some e) (hp : triv e.d = false) : keepE (L.take (k + 1)) = keepE (L.take k) ++ [e] := by
  unfold keepE; rw [take_next h, List.filter_append]; simp [hp]
theorem keepE_next_no {L : List En} {k : Nat} {e : En} (h : L[k]? = some e) (hp : triv e.d = true) : keepE (L.take (k + 1)) = keepE (L.take k) := by
  unfold keepE; rw [take_next h, List.filter_append]; simp [hp]
theorem keepE_bds (L : List En) : bdsE (keepE L) = (bdsE L).filter nontr := by
  unfold bdsE keepE nontr; rw [List.filter_map]; rfl
theorem keepE_all {L : List En} (h : ∀ d ∈ bdsE L, triv d = false) : keepE L = L := by
  unfold keepE
  refine List.filter_eq_self.2 fun e he => ?_
  rw [h e.d (List.mem_map_of_mem he)]; rfl

/-- What the deletion's loop has done: i elements kept out of the first j. -/
structure DelRel (base : Nat) (w : World) (g cap : Nat) (L : List En) (i j : Nat) (wr : World) : Prop where
  lt : i < j
  le : j ≤ L.length
  len : i = (keepE (L.take j)).length
  row : ∃ X, wr.ownsRow base 110 3 (.slice (some ⟨g, 0, none⟩) L.length cap) L.length X ∧ X.take (i * 3) = enF (keepE (L.take j)) ∧ X.drop (j * 3) = enF (L.drop j)
  grow : w.grownBy wr (some g)

theorem set3_take {X : List Value} {i : Nat} {a b c : Value} (h : i * 3 + 3 ≤ X.length) : (((X.set (i * 3) a).set (i * 3 + 1) b).set (i * 3 + 2) c).take ((i + 1) * 3) = X.take (i * 3) ++ [a, b, c] := by
  apply List.ext_getElem?
  intro k
  have hl : (X.take (i * 3)).length = i * 3 := by rw [List.length_take]; omega
  by_cases h1 : k < i * 3
  · rw [List.getElem?_take_of_lt (by omega), List.getElem?_append_left (by omega), List.getElem?_take_of_lt h1, List.getElem?_set_ne (by omega), List.getElem?_set_ne (by omega), List.getElem?_set_ne (by omega)]
  · rw [List.getElem?_append_right (by omega), hl]
    by_cases h2 : k < i * 3 + 3
    · rw [List.getElem?_take_of_lt (by omega)]
      have hk : k = i * 3 ∨ k = i * 3 + 1 ∨ k = i * 3 + 2 := by omega
      rcases hk with rfl | rfl | rfl
      · rw [List.getElem?_set_ne (by omega), List.getElem?_set_ne (by omega), List.getElem?_set_self (by omega)]; simp
      · rw [List.getElem?_set_ne (by omega), List.getElem?_set_self (by simp; omega)]; simp
      · rw [List.getElem?_set_self (by simp; omega)]; simp
    · rw [List.getElem?_eq_none (by simp only [List.length_take, List.length_set]; omega), List.getElem?_eq_none (by simp; omega)]
theorem set3_drop {X : List Value} {i m : Nat} {a b c : Value} (h : i * 3 + 3 ≤ m) : (((X.set (i * 3) a).set (i * 3 + 1) b).set (i * 3 + 2) c).drop m = X.drop m := by
  rw [List.drop_set_of_lt (by omega), List.drop_set_of_lt (by omega), List.drop_set_of_lt (by omega)]

theorem DelRel.at {base : Nat} {w : World} {g cap : Nat} {L : List En} {i j : Nat} {wr : World} (h : DelRel base w g cap L i j wr) {e : En} (he : L[j]? = some e) :
    wr.cell? ⟨g, j * 3, none⟩ = some (.string e.d.var) ∧ wr.cell? ⟨g, j * 3 + 1, none⟩ = some (.string e.d.tm.name) ∧ wr.cell? ⟨g, j * 3 + 2, none⟩ = some e.va := by
  obtain ⟨X, hX, _, hd⟩ := h.row
  have hj := (List.getElem?_eq_some_iff.1 he).1
  have hxl := hX.1
  have e0 : (L.drop j)[0]? = some e := by rw [List.getElem?_drop]; exact he
  obtain ⟨h1, h2, h3⟩ := enF_at e0
  rw [← hd, List.getElem?_drop] at h1 h2 h3
  refine ⟨?_, ?_, ?_⟩
  · rw [hX.cellAt _ (by omega)]; simpa using h1
  · rw [hX.cellAt _ (by omega)]; simpa using h2
  · rw [hX.cellAt _ (by omega)]; simpa using h3
theorem DelRel.skip {base : Nat} {w : World} {g cap : Nat} {L : List En} {i j : Nat} {wr wr' : World} (h : DelRel base w g cap L i j wr) {e : En} (he : L[j]? = some e) (ht : triv e.d = true) (hb : Below wr.heap.size wr wr') : DelRel base w g cap L i (j + 1) wr' := by
  obtain ⟨X, hX, ht2, hd⟩ := h.row
  have hj := (List.getElem?_eq_some_iff.1 he).1
  refine ⟨by have := h.lt; omega, hj, by rw [keepE_next_no he ht]; exact h.len, ⟨X, own_kept hX hb, by rw [keepE_next_no he ht]; exact ht2, ?_⟩, grown_trans h.grow (grown_of_below hb _)⟩
  have e1 : X.drop ((j + 1) * 3) = (X.drop (j * 3)).drop (1 * 3) := by rw [List.drop_drop]; congr 1; omega
  rw [e1, hd, enF_drop _ _ (by rw [List.length_drop]; omega), List.drop_drop]
theorem DelRel.keep {base : Nat} {w : World} {g cap : Nat} {L : List En} {i j : Nat} {wr wr' : World} (h : DelRel base w g cap L i j wr) {e : En} (he : L[j]? = some e) (ht : triv e.d = false) (hb : Below wr.heap.size wr wr') :
    DelRel base w g cap L (i + 1) (j + 1) (((wr'.setCell ⟨g, i * 3, none⟩ (.string e.d.var)).setCell ⟨g, i * 3 + 1, none⟩ (.string e.d.tm.name)).setCell ⟨g, i * 3 + 2, none⟩ e.va) := by
  obtain ⟨X, hX, ht2, hd⟩ := h.row
  have hj := (List.getElem?_eq_some_iff.1 he).1
  have hlt := h.lt
  have hxl := hX.1
  obtain ⟨k1, g1⟩ := (own_kept hX hb).stored (i * 3) (.string e.d.var)
  obtain ⟨k2, g2⟩ := k1.stored (i * 3 + 1) (.string e.d.tm.name)
  obtain ⟨k3, g3⟩ := k2.stored (i * 3 + 2) e.va
  refine ⟨by omega, hj, by rw [keepE_next_yes he ht, List.length_append, ← h.len]; rfl, ⟨_, k3, ?_, ?_⟩, grown_trans (grown_trans (grown_trans (grown_trans h.grow (grown_of_below hb _)) g1) g2) g3⟩
  · rw [set3_take (by omega), ht2, keepE_next_yes he ht, enF_append]; simp [enF, En.cells]
  · rw [set3_drop (by omega)]
    have e1 : X.drop ((j + 1) * 3) = (X.drop (j * 3)).drop (1 * 3) := by rw [List.drop_drop]; congr 1; omega
    rw [e1, hd, enF_drop _ _ (by rw [List.length_drop]; omega), List.drop_drop]

def DelEnd (base lo : Nat) (v : Value) (L : List En) (w : World) (e : Ending) (w' : World) : Prop :=
  ∃ v', e = .returned v' ∧ RowE base lo w' v' (keepE L) ∧ v'.ownBlock = v.ownBlock ∧ w.grownBy w' v.ownBlock

/-- The row behind the loop, its tail cleared, cut to what was kept. -/
theorem DelRel.done {base lo : Nat} {w : World} {g cap : Nat} {L : List En} {i : Nat} {wr w' : World} {zs : List Value} (h : DelRel base w g cap L i L.length wr) (hE : Ens lo w L) (hap : ∀ e ∈ L, ¬ e.S g) (hzl : zs.length = (L.length - i) * 3)
    (hw : ∀ cur, wr.heap[g]? = some (.cells cur 110 (0, 0)) → w' = wr.setRow g (cur.toList.take (i * 3) ++ zs ++ cur.toList.drop (i * 3 + zs.length)).toArray) :
    DelEnd base lo (.slice (some ⟨g, 0, none⟩) L.length cap) L w (.returned (.slice (some ⟨g, 0, none⟩) i cap)) w' := by
  obtain ⟨X, hX, ht, _⟩ := h.row
  rw [List.take_length] at ht
  have hlen := h.len
  rw [List.take_length] at hlen
  have hlt := h.lt
  rcases hX.2 with ⟨e1, _⟩ | ⟨g', cap', cur, e1, hbg, hg, hnc, hcm, hcs, htake⟩
  · cases e1
  injection e1 with e2 e3 e4
  injection e2 with e2
  injection e2 with e2
  subst e2; subst e4
  have hw' := hw cur hg
  have hgr : w.grownBy w' (some g) := by rw [hw']; exact grown_trans h.grow (setRow_grown _)
  have hcl : cur.toList.length = cap * 3 := by rw [Array.length_toList]; exact hcs
  refine ⟨_, rfl, ⟨?_, (hE.grown hgr (fun g' e => by cases e; exact hap)).sublist List.filter_sublist, fun g' e => by cases e; exact fun x hx => hap x (List.mem_filter.1 hx).1⟩, rfl, hgr⟩
  rw [← hlen]
  refine ⟨by rw [enF_len, ← hlen], .inr ⟨g, cap, _, rfl, hbg, by rw [hw']; exact setRow_heap wr g _ _ _ _ hg, by omega, hcm, ?_, ?_⟩⟩
  · simp only [List.size_toArray, List.length_append, List.length_take, List.length_drop]; omega
  · show List.take (i * 3) (cur.toList.take (i * 3) ++ zs ++ cur.toList.drop (i * 3 + zs.length)) = _
    rw [List.append_assoc, List.take_append_of_le_length (by rw [List.length_take]; omega), List.take_take, Nat.min_self, ← ht, ← htake, List.take_take]
    congr 1; omega

set_option maxRecDepth 100000 in
set_option maxHeartbeats 4000000 in
theorem del_any (base lo : Nat) (v : Value) (L : List En) (w : World) (hr : RowE base lo w v L) (hl : L.length ≤ 1048576) :
    Calls Try.prog 155 #[v, .func (.func 149) #[] #[]] w (DelEnd base lo v L w) := by
  obtain ⟨i0, hi0, hz0, hz1, hz2⟩ := info_parts infoBd
  obtain ⟨a, c, rfl⟩ := hr.is_slice
  have HR := Lib.hid hr
  have CI := idx_any (bdsE L) w _ hr.read (by rw [bdsE_len]; exact hl)
  have CI := Lib.hid CI
  clear hr
  go_enter Try.func155, Try.ntmps155
  go_wp2_with fail
  refine CI.out.mono ?_
  clear CI
  rintro e w2 ⟨i, rfl, (⟨rfl, hall⟩ | ⟨k, rfl, hk, hb1, hb2⟩), hb⟩
  · have HE : Hid (DelEnd base lo (.slice a L.length c) L w (.returned (.slice a L.length c)) w2) := Lib.hid ⟨_, rfl, by rw [keepE_all hall]; exact HR.out.kept hb, rfl, grown_of_below hb _⟩
    clear hall hb
    go_wp2
    go_ret
    exact HE.out
  · rw [bdsE_len] at hk
    rcases HR.out.row.2 with ⟨e1, h0⟩ | ⟨g, cap, cur, e1, hbg, hg, hnc, hcm, hcs, htake⟩
    · omega
    injection e1 with e2 e3 e4
    subst e2; subst e4
    have hcm' : c ≤ 9223372036854775807 := by unfold maxLen at hcm; omega
    obtain ⟨ek, hek⟩ : ∃ ek, L[k]? = some ek := ⟨_, List.getElem?_eq_getElem hk⟩
    have hkeep : ∀ m, m ≤ k → keepE (L.take m) = L.take m := fun m hm => by
      refine keepE_all fun d hd => ?_
      obtain ⟨x, hx, rfl⟩ := List.mem_map.1 hd
      obtain ⟨j, hj⟩ := List.getElem?_of_mem hx
      rw [List.getElem?_take] at hj
      split at hj
      · exact hb1 j x.d (by omega) (bdsE_at hj)
      · cases hj
    have hk1 : keepE (L.take (k + 1)) = L.take k := by rw [keepE_next_no hek (hb2 _ (bdsE_at hek)), hkeep k (Nat.le_refl _)]
    have HD0 : Hid (DelRel base w g c L k (k + 1) w2) := Lib.hid ⟨by omega, hk, by rw [hk1, List.length_take]; omega, ⟨enF L, own_kept HR.out.row hb, by rw [hk1, enF_take _ _ (by omega)], enF_drop _ _ hk⟩, grown_of_below hb _⟩
    have HEN := Lib.hid HR.out.ens
    have HAP := Lib.hid (HR.out.apart g rfl)
    have hkw : IntKind.i64.wrap ((k : Int) + 1) = (k : Int) + 1 := by rw [IntKind.wrap_i64]; omega
    have hkz : ((k : Int) == -1) = false := by rw [beq_eq_false_iff_ne]; omega
    clear hb1 hb2 hb hg hcs htake hcm hkeep hk1 hek
    go_wp2
    go_loopw [5, 6] (fun s5 s6 wr => ∃ i j : Nat, s5 = .int .i64 i ∧ s6 = .int .i64 j ∧ DelRel base w g c L i j wr) (fun _ s6 _ => L.length - (intOf s6).toNat)
    case atStart => exact ⟨k, k + 1, rfl, by go_num, HD0.out⟩
    case round =>
      obtain ⟨i, j, rfl, rfl, hrel⟩ := hrel
      have HREL := Lib.hid hrel
      have hij := hrel.lt
      have hjl := hrel.le
      clear hrel HD0 hkw hkz
      by_cases hlt : j < L.length
      · obtain ⟨e, he⟩ : ∃ e, L[j]? = some e := ⟨_, List.getElem?_eq_getElem hlt⟩
        obtain ⟨c0, c1, c2⟩ := HREL.out.at he
        have hsl := (HEN.out.own e (List.mem_of_getElem? he)).read.is_slice
        obtain ⟨⟨ed, eva, eS⟩, rfl⟩ : ∃ e', e' = e := ⟨_, rfl⟩
        obtain ⟨pa, ca, h5⟩ := hsl
        have h5 : eva = .slice pa ed.tm.args.length ca := h5
        subst h5
        have HX := Lib.hid he
        have c0 : wr.cell? ⟨g, j * 3, none⟩ = some (.string ed.var) := c0
        have c1 : wr.cell? ⟨g, j * 3 + 1, none⟩ = some (.string ed.tm.name) := c1
        have c2 : wr.cell? ⟨g, j * 3 + 2, none⟩ = some (.slice pa ed.tm.args.length ca) := c2
        obtain ⟨W1, hW1⟩ : ∃ W1, wr.alloc (.cells #[.string ed.var, .string ed.tm.name, .slice pa ed.tm.args.length ca] 110) = W1 := ⟨_, rfl⟩
        have T1 : Hid (Thr W1 wr.heap.size (.string ed.var) (.string ed.tm.name) (.slice pa ed.tm.args.length ca)) := Lib.hid (by rw [← hW1]; exact thr_new _ _ _ _ _ _ rfl)
        have B1 : Hid (Below wr.heap.size wr W1) := Lib.hid (by rw [← hW1]; exact (Below.refl _ _).alloc (Nat.le_refl _) _)
        have CT := trivial_any ed pa ed.tm.args.length ca W1
        obtain ⟨q, hq⟩ : ∃ q, q = triv ed := ⟨_, rfl⟩
        rw [show sameB ed.tm.name ed.var = q from hq.symm] at CT
        have CT := Lib.hid CT
        have HQ := Lib.hid hq
        obtain ⟨t0, t1, t2, t3⟩ := T1.out
        clear he hq
        go_wp2_with fail
        refine CT.out.mono ?_
        rintro e w5 ⟨rfl, hb⟩
        have HB5 := Lib.hid (carry_below B1.out (Nat.le_refl _) hb)
        clear t0 t1 t2 t3
        obtain ⟨t0, t1, t2, t3⟩ := T1.out.kept hb
        clear hb hW1 c0 c1 c2
        cases q with
        | true =>
          have HN := Lib.hid (HREL.out.skip HX.out HQ.out.symm HB5.out)
          go_wp2
          go_roundw
          case rel => exact ⟨i, j + 1, rfl, by go_num, HN.out⟩
          case measure => simp [intOf]; omega
        | false =>
          have HN := Lib.hid (HREL.out.keep HX.out HQ.out.symm HB5.out)
          have hgW : g < wr.heap.size := by
            obtain ⟨X, hX, _⟩ := HREL.out.row
            exact (hX.lt g rfl).2
          have hown : ∀ m, m < L.length * 3 → (w5.cell? ⟨g, m, none⟩).isSome = true ∧ w5.frozen? ⟨g, m, none⟩ = false := fun m hm => by
            obtain ⟨X, hX, _⟩ := HREL.out.row
            have hX5 := own_kept hX HB5.out
            refine ⟨?_, hX5.frozenAt m⟩
            rw [hX5.cellAt m hm, List.getElem?_eq_getElem (by rw [hX5.1]; exact hm)]; rfl
          obtain ⟨f0, f1⟩ := hown (i * 3) (by omega)
          obtain ⟨f2, f3⟩ := hown (i * 3 + 1) (by omega)
          obtain ⟨f4, f5⟩ := hown (i * 3 + 2) (by omega)
          obtain ⟨u0, hu0⟩ := Option.isSome_iff_exists.1 f0
          obtain ⟨u1, hu1⟩ := Option.isSome_iff_exists.1 f2
          obtain ⟨u2, hu2⟩ := Option.isSome_iff_exists.1 f4
          clear f0 f2 f4 hown
          go_wp2
          go_roundw
          case rel => exact ⟨i + 1, j + 1, by go_num, by go_num, HN.out⟩
          case measure => simp [intOf]; omega
      · obtain rfl : j = L.length := by omega
        obtain ⟨zs, hzs⟩ : ∃ zs, (Builtin.zeroCells (Value.agg #[.string ByteArray.empty, .string ByteArray.empty, .slice none 0 0]).cells (L.length - i)).toList = zs := ⟨_, rfl⟩
        have hzl : zs.length = (L.length - i) * 3 := by rw [← hzs, Array.length_toList, size_zeroCells]; simp [Value.cells]
        have hz1c : ∀ v ∈ zs, v.oneCell' = true := fun v hv => by
          rw [← hzs] at hv
          exact zc3_one _ v hv
        obtain ⟨X, hX, _, _⟩ := HREL.out.row
        rcases hX.2 with ⟨e1, _⟩ | ⟨g', cap', cur, e1, hbg, hg, hnc, hcm, hcs, htake⟩
        · cases e1
        injection e1 with e2 e3 e4
        injection e2 with e2
        injection e2 with e2
        subst e2; subst e4
        have hrun : ∀ ty cc, (Builtin.clear_ #[32] ty #[.slice (some ⟨g, i * 3, none⟩) (L.length - i) cc]).run Try.prog wr = .ok (.tuple #[]) (wr.setRow g (cur.toList.take (i * 3) ++ zs ++ cur.toList.drop (i * 3 + zs.length)).toArray) := fun ty cc =>
          run_clear_row wr _ ty 110 i0 _ g (i * 3) (L.length - i) cc cur 110 zs Try.underlying32 hi0 hz0 (by omega) hg hzs (by rw [hzl, hcs]; omega) hz1c
        obtain ⟨w9, hw9⟩ : ∃ w9, w9 = wr.setRow g (cur.toList.take (i * 3) ++ zs ++ cur.toList.drop (i * 3 + zs.length)).toArray := ⟨_, rfl⟩
        rw [← hw9] at hrun
        have HE : Hid (DelEnd base lo (.slice (some ⟨g, 0, none⟩) L.length c) L w (.returned (.slice (some ⟨g, 0, none⟩) i c)) w9) := Lib.hid (HREL.out.done HEN.out HAP.out hzl (fun cur2 h => by rw [hg] at h; injection h with h; injection h with h; rw [← h]; exact hw9))
        have HRUN := Lib.hid hrun
        have hib : ¬ (c = i) := by omega
        have hic : i ≤ c := by omega
        clear hrun hw9 hg hcs htake hX hzs hzl hz1c hcm e3
        have hrun := HRUN.out
        go_wp2
        go_ret
        exact HE.out

end Go.Proofs.Ytnkonhdnccolhaa

/- A region that draws its order and whose last operation waits for all others: the loads are taken first, and the last operation may write what they read. No condition. -/
namespace Go.Proofs.Ytnkonhdnccolhaa
open Go.RowKit
set_option linter.unusedVariables false

section
variable {P : Program} {ops : Array Oper} {Q : Exit → Act → World → Prop} {md : Region.Mode} {S : World → Prop} {n : Nat}

/-- Behind every operation but number n the world meets S. -/
def wpSink (P : Program) (md : Region.Mode) (ops : Array Oper) (Q : Exit → Act → World → Prop) (S : World → Prop) (n : Nat) : Nat → Array Bool → Act → World → Prop
  | 0, seen, act, wd => Region.ready md ops seen = [] ∧ Q .normal act wd
  | left + 1, seen, act, wd =>
    (Region.ready md ops seen = [] → Q .normal act wd) ∧
    ∀ k ∈ Region.ready md ops seen, wpOp P ops Q k (fun act' wd' => (k ≠ n → S wd') ∧ wpSink P md ops Q S n left (seen.setIfInBounds k true) act' wd') act wd

theorem sink_any : ∀ (left : Nat) (seen : Array Bool) (act : Act) (wd : World), wpSink P md ops Q S n left seen act wd → wpAny P md ops Q left seen act wd := by
  intro left
  induction left with
  | zero => exact fun _ _ _ hh => hh
  | succ left more => exact fun seen act wd hh => ⟨hh.1, fun k hk => wpOp_mono (fun _ _ hb => more _ _ _ hb.2) (hh.2 k hk)⟩

theorem sink_first {i : Nat} {oi : Oper} {v : Value} (hi : ops[i]? = some oi) (hin : i ≠ n) (hlast : ∃ on, ops[n]? = some on ∧ ∃ e ∈ on.after, Region.binds md e = true ∧ e.on = i)
    (hsel : ∀ (j : Nat) (o : Oper) cs b, ops[j]? = some o → o.op ≠ .select cs b) (hQ : ∀ c act wd, Q (.panic c) (act.put oi.dst v) wd → Q (.panic c) act wd) :
    ∀ (left : Nat) (seen : Array Bool) (act : Act) (wd : World),
      (∀ j oj, ops[j]? = some oj → j ≠ i → seen.getD j true = false → (∀ e ∈ oj.after, Region.binds md e = true → e.on ≠ i) → oi.apart ops oj = true) →
      i ∈ Region.ready md ops seen → YieldsIf P ops S oi v act → S wd →
      wpSink P md ops Q S n left (seen.setIfInBounds i true) (act.put oi.dst v) wd → wpSink P md ops Q S n (left + 1) seen act wd := by
  intro left
  induction left with
  | zero =>
    intro seen act wd _ hri hyi hSw hend
    refine ⟨fun hnil => absurd (hnil ▸ hri) List.not_mem_nil, fun j hj => ?_⟩
    by_cases hne : j = i
    · subst hne; exact hyi.wpOp hi hSw ⟨fun _ => hSw, hend⟩
    · exact absurd (hend.1 ▸ ready_mono hj hne) List.not_mem_nil
  | succ left more =>
    intro seen act wd hfr hri hyi hSw hend
    refine ⟨fun hnil => absurd (hnil ▸ hri) List.not_mem_nil, fun j hj => ?_⟩
    by_cases hne : j = i
    · subst hne; exact hyi.wpOp hi hSw ⟨fun _ => hSw, hend⟩
    · have later := hend.2 j (ready_mono hj hne)
      obtain ⟨hopen, oj, hoj, hedges⟩ := mem_ready.1 hj
      have hnoedge : ∀ e ∈ oj.after, Region.binds md e = true → e.on ≠ i := by
        intro e he hbind hon
        have hs := hedges e he hbind
        have ho := (mem_ready.1 hri).1
        rw [hon] at hs
        by_cases hsz : i < seen.size
        · simp [hsz] at ho hs; rw [ho] at hs; cases hs
        · simp [Array.getElem?_eq_none (Nat.le_of_not_lt hsz)] at hs
      have hjn : j ≠ n := by
        intro hjn
        subst hjn
        obtain ⟨on, hon, e, he, hbind, heq⟩ := hlast
        rw [hoj] at hon
        cases hon
        exact hnoedge e he hbind heq
      have swapped := wpOp_putIf hoj (hfr j oj hoj hne hopen hnoedge) (fun cs b => hsel i oi cs b hi) (fun cs b => hsel j oj cs b hoj) hQ hyi later
      refine wpOp_mono (fun act' wd' hb => ?_) swapped
      have hSb := hb.2.1 hjn
      refine ⟨fun _ => hSb, more (seen.setIfInBounds j true) act' wd' (fun k ok hk hki hun hno => hfr k ok hk hki ?_ hno) (ready_mono hri (Ne.symm hne)) hb.1 hSb ?_⟩
      · by_cases hjk : j = k
        · subst hjk; exact hopen
        · rwa [getD_set_ne true hjk] at hun
      · rw [Array.setIfInBounds_comm _ _ hne]
        exact hb.2.2

/-- The last operation waits for the others. -/
def waitsAll (md : Region.Mode) (ops : Array Oper) (n i : Nat) : Bool := decide (i ≠ n) && match ops[n]? with
  | some o => o.after.toList.any fun e => Region.binds md e && decide (e.on = i)
  | none => false
theorem waitsAll_spec {i : Nat} (h : waitsAll md ops n i = true) : i ≠ n ∧ ∃ on, ops[n]? = some on ∧ ∃ e ∈ on.after, Region.binds md e = true ∧ e.on = i := by
  unfold waitsAll at h
  rw [Bool.and_eq_true, decide_eq_true_iff] at h
  refine ⟨h.1, ?_⟩
  have h2 := h.2
  cases ho : ops[n]? with
  | none => rw [ho] at h2; cases h2
  | some o =>
    rw [ho] at h2
    obtain ⟨e, he, hbi⟩ := List.any_eq_true.1 h2
    rw [Bool.and_eq_true, decide_eq_true_iff] at hbi
    exact ⟨o, rfl, e, Array.mem_toList_iff.1 he, hbi.1, hbi.2⟩

theorem sink_take (i : Nat) {oi : Oper} {v : Value} {left : Nat} {seen : Array Bool} {act : Act} {wd : World} (hi : ops[i]? = some oi) (hl : waitsAll md ops n i = true)
    (hs : Region.noSelect ops = true) (hf : Region.free md ops seen i = true) (hr : (Region.ready md ops seen).contains i = true) (hw : Region.wanted oi (yielded ops act.tmps) = true)
    (hQ : ∀ c act wd, Q (.panic c) (act.put oi.dst v) wd → Q (.panic c) act wd) (hS : S wd) (hy : ∀ wd, S wd → (execOp act.eval oi).run P wd = .ok (.value v) wd)
    (h : wpSink P md ops Q S n left (seen.setIfInBounds i true) (act.put oi.dst v) wd) : wpSink P md ops Q S n (left + 1) seen act wd :=
  sink_first hi (waitsAll_spec hl).1 (waitsAll_spec hl).2 (Region.noSelect_spec hs) hQ left seen act wd (Region.free_spec hi hf) (by simpa using hr) (.inl ⟨hw, hy⟩) hS h

/-- One operation alone may come up. -/
theorem sink_one {i : Nat} {o : Oper} {left : Nat} {seen : Array Bool} {act : Act} {wd : World} (hr : Region.ready md ops seen = [i]) (ho : ops[i]? = some o)
    (h : ∀ K' : Act → World → Prop, Shut (∀ act wd, (i ≠ n → S wd) → ((i ≠ n → S wd) → wpSink P md ops Q S n left (seen.setIfInBounds i true) act wd) → K' act wd) → if Region.wanted o (yielded ops act.tmps) = true then Oper.wp P o act wd K' Q else K' (act.put o.dst undef) wd) :
    wpSink P md ops Q S n (left + 1) seen act wd := by
  refine ⟨fun hnil => (by rw [hr] at hnil; cases hnil), fun k hk => ?_⟩
  rw [hr] at hk
  obtain rfl : k = i := List.mem_singleton.1 hk
  exact wpOp_step ho (fun K' hK => h K' (fun act wd hS hW => hK act wd ⟨hS, hW hS⟩))

theorem sink_done {seen : Array Bool} {act : Act} {wd : World} (hr : Region.ready md ops seen = []) (h : Q .normal act wd) : ∀ left, wpSink P md ops Q S n left seen act wd := by
  intro left
  cases left with
  | zero => exact ⟨hr, h⟩
  | succ m => exact ⟨fun _ => h, fun k hk => (by rw [hr] at hk; cases hk)⟩

theorem sink_start {id : Nat} {act : Act} {wd : World} (n : Nat) (S : World → Prop) (hm : P.follows .mixedOrders = true) (hS : S wd.drew)
    (h : S wd.drew → wpSink P .any ops Q S n ops.size (Array.replicate ops.size false) act wd.drew) : (Code.region id ops true).wp P Q act wd :=
  wp_region_any hm (sink_any _ _ _ _ (h hS))
end

end Go.Proofs.Ytnkonhdnccolhaa

/- The model's insertion of a binding into an ascending list: a contract, for lists of at most 1048576 bindings. -/
namespace Go.Proofs.Ytnkonhdnccolhaa
open Go.RowKit
set_option linter.unusedVariables false

theorem wpList_appB (w : World) {ops : Array Oper} {rest : List Oper} {o : Oper} {a : Act} {Q : Exit → Act → World → Prop} (hgd : o.guard = none) (s x : Operand)
    (ho : o.op = .call { callee := .builtin .append, args := #[s, x], argTypes := #[32, 32] })
    (base n : Nat) (xs : List Value) (g0 cap0 : Nat) (hs : a.eval s = .slice (some ⟨g0, 0, none⟩) n cap0) (hown : w.ownsRow base 110 3 (.slice (some ⟨g0, 0, none⟩) n cap0) n xs)
    (sp : Option Addr) (m c : Nat) (news : List Value) (hx : a.eval x = .slice sp m c) (hl : news.length = m * 3)
    (hsrc : (sp = none ∧ m = 0 ∧ c = 0) ∨ ∃ ad, sp = some ad ∧ ∀ j u, news[j]? = some u → w.cell? (ad.add j) = some u) (h1 : ∀ u ∈ news, u.oneCell' = true) (h63 : n + m ≤ 3000000) (hbase : base ≤ w.heap.size)
    (h : ∀ g cap w', w'.ownsRow base 110 3 (.slice (some ⟨g, 0, none⟩) (n + m) cap) (n + m) (xs ++ news) → w.grownBy w' (some g0) → (g = g0 ∨ g = w.heap.size) → wpList Try.prog ops Q rest (a.put o.dst (.slice (some ⟨g, 0, none⟩) (n + m) cap)) w') :
    wpList Try.prog ops Q (o :: rest) a w := by
  obtain ⟨i0, hi, hz0, hz1, hz2⟩ := info_parts infoBd
  rcases hsrc with ⟨rfl, rfl, rfl⟩ | ⟨ad, rfl, hnews⟩
  · have e : news = [] := List.eq_nil_of_length_eq_zero (by omega)
    subst e
    refine wpList_append_own_none hgd s x _ ho base 110 i0 3 Try.underlying32 hi _ n xs hs hown hx ?_
    exact h g0 cap0 w (by simpa using hown) ⟨rfl, rfl, rfl, Nat.le_refl _, fun _ _ _ => rfl⟩ (.inl rfl)
  · refine wpList_append_own_at _ hgd s x _ ho base 110 i0 _ 3 56 Try.underlying32 hi hz0 hz1 hz2 rfl (by omega) _ n xs hs hown ad m c news hx hl hnews h1 (by unfold maxLen; omega) (by omega) hbase ?_
    intro v' w' h2 h3 h4 h5
    rcases id h2.2 with ⟨rfl, h0⟩ | ⟨g, cap, cur, rfl, _⟩
    · have := h4.1 rfl
      simp at this
    · refine h g cap w' h2 h3 ?_
      rcases h5 with h5 | h5
      · exact .inl (by simpa [Value.ownBlock] using h5)
      · exact .inr (by simpa [Value.ownBlock] using h5)

theorem enF_one {lo : Nat} {w : World} {L : List En} (h : Ens lo w L) : ∀ u ∈ enF L, u.oneCell' = true := by
  have : ∀ M : List En, (∀ e ∈ M, e ∈ L) → ∀ u ∈ enF M, u.oneCell' = true := by
    intro M
    induction M with
    | nil => intro _ u hu; cases hu
    | cons e r ih =>
      intro hM u hu
      rw [enF] at hu
      rcases List.mem_append.1 hu with hu | hu
      · obtain ⟨p, c, hs⟩ := (h.own e (hM e List.mem_cons_self)).read.is_slice
        simp only [En.cells, List.mem_cons, List.not_mem_nil, or_false] at hu
        rcases hu with rfl | rfl | rfl
        · rfl
        · rfl
        · rw [hs]; rfl
      · exact ih (fun x hx => hM x (List.mem_cons_of_mem _ hx)) u hu
  exact this L fun e he => he
theorem row_cell {base : Nat} {w : World} {g n c : Nat} {L : List En} (h : w.ownsRow base 110 3 (.slice (some ⟨g, 0, none⟩) n c) n (enF L)) (j : Nat) (u : Value) (hj : (enF L)[j]? = some u) : w.cell? ⟨g, j, none⟩ = some u := by
  rw [h.cellAt j (by have := (List.getElem?_eq_some_iff.1 hj).1; have := h.1; omega)]; exact hj
theorem add_off (g o j : Nat) : (⟨g, o, none⟩ : Addr).add j = ⟨g, o + j, none⟩ := by unfold Addr.add; split <;> simp_all

def PutEnd (base lo : Nat) (L : List En) (d : Bd) (w : World) (e : Ending) (w' : World) : Prop :=
  ∃ v' L', e = .returned (.agg #[v']) ∧ RowE base lo w' v' L' ∧ bdsE L' = putF d (bdsE L) ∧ Below w.heap.size w w'

/-- What stands behind the three appends, and the store of the result. -/
theorem put_done {base lo : Nat} {w wr w7 w7' W : World} {L : List En} {d : Bd} {v7 : Value} {k g9 c9 m q : Nat} {v u : Value} (hr0 : RowE base lo w v L) (hw : Below w.heap.size w wr) (hlo : lo ≤ wr.heap.size) (hbase : base ≤ wr.heap.size)
    (hk : k ≤ L.length) (hm : m = L.length - k) (hp : Place (bdsE L) d.var k) (ht : triv d = false)
    (hb7 : Below wr.heap.size wr w7) (ho : TmO w7' (Fresh w7 w7') v7 d.tm.args) (hb77 : Below w7.heap.size w7 w7')
    (hB : Below wr.heap.size wr W) (hkeep : ∀ b, Fresh w7 w7' b → W.heap[b]? = w7'.heap[b]?) (hz : w7'.heap.size ≤ W.heap.size)
    (hown : W.ownsRow wr.heap.size 110 3 (.slice (some ⟨g9, 0, none⟩) (k + 1 + m) c9) (k + 1 + m) ((enF (L.take k) ++ [.string d.var, .string d.tm.name, v7]) ++ enF (L.drop k)))
    (hg9 : ¬ Fresh w7 w7' g9) (hq1 : w.heap.size ≤ q) (hq2 : q < wr.heap.size) : PutEnd base lo L d w (.returned (.agg #[.slice (some ⟨g9, 0, none⟩) (k + 1 + m) c9])) (W.setCell ⟨q, 0, none⟩ u) := by
  have hB2 : Below w.heap.size w W := carry_below hw (Nat.le_refl _) hB
  have hens : Ens lo W (L.take k ++ L.drop k) := by rw [List.take_append_drop]; exact hr0.ens.kept (hB2)
  have hgw : wr.heap.size ≤ g9 := (hown.lt g9 rfl).1
  have hrow : W.ownsRow base 110 3 (.slice (some ⟨g9, 0, none⟩) (k + 1 + m) c9) (k + 1 + m) (enF (L.take k ++ ⟨d, v7, Fresh w7 w7'⟩ :: L.drop k)) := by
    rw [enF_append, enF, En.cells]
    refine ⟨?_, ?_⟩
    · have := hown.1; simpa [List.append_assoc] using this
    · rcases hown.2 with h | ⟨g', cap', cur, e1, hbg, hrest⟩
      · exact .inl h
      · refine .inr ⟨g', cap', cur, e1, by omega, ?_⟩
        simpa [List.append_assoc] using hrest
  have hlen : (L.take k ++ ⟨d, v7, Fresh w7 w7'⟩ :: L.drop k).length = k + 1 + m := by simp; omega
  have hins : Ens lo W (L.take k ++ ⟨d, v7, Fresh w7 w7'⟩ :: L.drop k) := hens.insert (ho.frame hkeep) (fun b hb => ⟨by have := hb7.size; have := hb.1; omega, by have := hb.2; omega⟩) (fun x hx b h1 h2 => by
    rw [List.take_append_drop] at hx
    have h3 := (hr0.ens.sub x hx b h1).2
    have h4 := h2.1
    have h5 := hb7.size
    have h6 := hw.size
    omega)
  have hmem : ∀ x ∈ (L.take k ++ ⟨d, v7, Fresh w7 w7'⟩ :: L.drop k), x ∈ L ∨ x.S = Fresh w7 w7' := fun x hx => by
    rcases List.mem_append.1 hx with hx | hx
    · exact .inl (List.mem_of_mem_take hx)
    · rcases List.mem_cons.1 hx with rfl | hx
      · exact .inr rfl
      · exact .inl (List.mem_of_mem_drop hx)
  refine ⟨_, L.take k ++ ⟨d, v7, Fresh w7 w7'⟩ :: L.drop k, rfl, ⟨?_, hins.setCell (fun x hx hs => ?_) _, fun g e x hx hxs => ?_⟩, ?_, hB2.setCell hq1 _⟩
  · rw [hlen]; exact ownsRow_setCell_other hrow (fun e => by have e2 := Option.some.inj e; simp at e2; omega) _
  · rcases hmem x hx with h | h
    · have h2 : q < w.heap.size := (hr0.ens.sub x h _ hs).2
      omega
    · rw [h] at hs
      have h1 : w7.heap.size ≤ q := hs.1
      have h5 := hb7.size
      omega
  · have e : g9 = g := by simpa [Value.ownBlock] using e
    subst e
    rcases hmem x hx with h | h
    · have := (hr0.ens.sub x h _ hxs).2
      have := hw.size
      omega
    · rw [h] at hxs; exact hg9 hxs
  · rw [bdsE_append, show bdsE (⟨d, v7, Fresh w7 w7'⟩ :: L.drop k) = d :: bdsE (L.drop k) from rfl]
    have e1 : bdsE (L.take k) = (bdsE L).take k := by simp [bdsE]
    have e2 : bdsE (L.drop k) = (bdsE L).drop k := by simp [bdsE]
    rw [e1, e2, ins_place hp]
    unfold putF
    rw [if_neg (by rw [ht]; simp)]

theorem below_grownE {B : Nat} {w0 a b : World} {row : Option Nat} (h : Below B w0 a) (hB : B ≤ w0.heap.size) (hg : a.grownBy b row) (hr : ∀ g, row = some g → B ≤ g) : Below B w0 b :=
  h.trans ⟨hg.os, hg.tape, hg.output, hg.size, fun k hk => hg.block k (by have := h.size; omega) (fun e => by have := hr k e.symm; omega)⟩
theorem two_grownE {w w' : World} {row : Option Nat} (hg : w.grownBy w' row) {b : Nat} {x y : Value} (h : Two w b x y) (hne : some b ≠ row) : Two w' b x y :=
  ⟨hg.cell h.1 hne, hg.cell h.2.1 hne, fun j => (World.frozen?_of_block (w := w) (a := ⟨b, j, none⟩) (hg.block b (World.block_lt_of_cell? w ⟨b, 0, none⟩ h.1) hne)).trans (h.2.2 j)⟩
theorem place_end {l : List Bd} {nm : ByteArray} (h : ∀ j d, j < l.length → l[j]? = some d → d.var.data.toList < nm.data.toList) : Place l nm l.length :=
  ⟨Nat.le_refl _, h, fun t d ht hd => by have := (List.getElem?_eq_some_iff.1 hd).1; omega⟩
theorem place_here {l : List Bd} {nm : ByteArray} {k : Nat} {x : Bd} (ha : Asc l) (hx : l[k]? = some x) (hn : lessN x.var nm = false) (h : ∀ j d, j < k → l[j]? = some d → d.var.data.toList < nm.data.toList) : Place l nm k := by
  have hnx : ¬ x.var.data.toList < nm.data.toList := fun q => by rw [lessN_iff.2 q] at hn; cases hn
  refine ⟨Nat.le_of_lt (List.getElem?_eq_some_iff.1 hx).1, h, fun t d ht hd q => ?_⟩
  by_cases e : t = k
  · subst e; rw [hx] at hd; injection hd with hd; subst hd; exact hnx q
  · exact hnx (List.lt_trans (ha k t x d (by omega) hx hd) q)

set_option maxRecDepth 100000 in
set_option maxHeartbeats 8000000 in
theorem l4Put_nil (base lo : Nat) (nm : ByteArray) (t : Tm) (va : Value) (w : World) (hr : RowE base lo w (.slice none 0 0) []) (hv : TmS w va t.args) (hw : t.wt ≤ 1048576) (hlo0 : lo ≤ w.heap.size) (hbase0 : base ≤ w.heap.size) :
    Calls Try.prog 147 #[.agg #[.slice none 0 0], .string nm, .agg #[.string t.name, va]] w (PutEnd base lo [] ⟨nm, t⟩ w) := by
  obtain ⟨ta, tc, rfl⟩ := hv.is_slice
  obtain ⟨wr, hwr⟩ : ∃ wr, ((w.alloc (.cells #[.slice none 0 0] 34)).alloc (.cells #[.string t.name, .slice ta t.args.length tc] 38)).alloc (.cells #[.slice none 0 0] 34) = wr := ⟨_, rfl⟩
  have HBW : Hid (Below w.heap.size w wr) := Lib.hid (by rw [← hwr]; exact (((Below.refl w.heap.size w).alloc (Nat.le_refl _) _).alloc (by simp) _).alloc (by simp; omega) _)
  have SB : Hid (Oner wr w.heap.size (.slice none 0 0)) := Lib.hid (by rw [← hwr]; exact ((oner_new w (.slice none 0 0) 34 _ rfl).alloc _).alloc _)
  have TB : Hid (Two wr (w.heap.size + 1) (.string t.name) (.slice ta t.args.length tc)) := Lib.hid (by rw [← hwr]; exact (two_new _ _ _ 38 (w.heap.size + 1) (by simp)).alloc _)
  have RB : Hid (Oner wr (w.heap.size + 1 + 1) (.slice none 0 0)) := Lib.hid (by rw [← hwr]; exact oner_new _ (.slice none 0 0) 34 (w.heap.size + 1 + 1) (by simp))
  have hzr : w.heap.size + 3 = wr.heap.size := by rw [← hwr]; simp
  have HRW : Hid (RowE base lo wr (.slice none 0 0) []) := Lib.hid (hr.kept HBW.out)
  have HTM : Hid (TmS wr (.slice ta t.args.length tc) t.args) := Lib.hid (hv.kept HBW.out)
  have HR0 := Lib.hid hr
  have hlo : lo ≤ wr.heap.size := by omega
  have hbase : base ≤ wr.heap.size := by omega
  have hzw : w.heap.size + 1 + 1 < wr.heap.size := by omega
  have HZR := Lib.hid hzr
  obtain ⟨s0, s1⟩ := SB.out
  obtain ⟨t0, t1, t2⟩ := TB.out
  obtain ⟨r0, r1⟩ := RB.out
  clear hr hv hlo0 hbase0 hzr
  cases htr : sameB t.name nm with
  | true =>
    have HTR : Hid (triv ⟨nm, t⟩ = true) := Lib.hid htr
    have hq : (t.name.toList == nm.toList) = true := htr
    clear htr
    go_enter Try.func147, Try.ntmps147
    go_wp2
    refine bodyPost_ret (v := .agg #[.slice none 0 0]) (by simp [results, Try.results147, go_sem, r0]) rfl ?_
    refine ⟨_, [], rfl, ⟨ownsRow_setCell_other HRW.out.row (fun e => by have h1 := (HR0.out.row.lt _ e).2; simp at h1; omega) _, HRW.out.ens.setCell (fun e he hs => by have h1 := (HR0.out.ens.sub e he _ hs).2; simp at h1; omega) _, HRW.out.apart⟩, by unfold putF; rw [if_pos HTR.out], HBW.out.setCell (by simp; omega) _⟩
  | false =>
    have HTR : Hid (triv ⟨nm, t⟩ = false) := Lib.hid htr
    have hq : (t.name.toList == nm.toList) = false := htr
    clear htr
    have HPL : Hid (Place (bdsE []) nm 0) := Lib.hid (place_end (l := []) (fun j d hj => absurd hj (Nat.not_lt_zero _)))
    skip
    go_enter Try.func147, Try.ntmps147
    go_wp2
    refine wp_loop_rounds 1 ?_
    rw [rounds_succ]
    obtain ⟨w6, hw6⟩ : ∃ w6, wr.alloc (.cells #[] 110) = w6 := ⟨_, rfl⟩
    have B6 : Hid (Below wr.heap.size wr w6) := Lib.hid (by rw [← hw6]; exact (Below.refl _ _).alloc (Nat.le_refl _) _)
    have O6 : Hid (w6.ownsRow wr.heap.size 110 3 (.slice (some ⟨wr.heap.size, 0, none⟩) 0 0) 0 []) := Lib.hid (by rw [← hw6]; exact World.ownsRow_made wr #[] 0 (Nat.le_refl _) (by decide) (by simp))
    have hz6 : w6.heap.size = wr.heap.size + 1 := by rw [← hw6]; simp
    have HZ6 := Lib.hid hz6
    have S6 := Lib.hid (SB.out.kept B6.out)
    have T6 := Lib.hid (TB.out.kept B6.out)
    have R6 := Lib.hid (RB.out.kept B6.out)
    have N1 : Hid (((none : Option Addr) = none ∧ 0 = 0 ∧ 0 = 0) ∨ ∃ ad, (none : Option Addr) = some ad ∧ ∀ j u, (enF (([] : List En).take 0))[j]? = some u → w6.cell? (ad.add j) = some u) := Lib.hid (.inl ⟨rfl, rfl, rfl⟩)
    have H1K := Lib.hid (enF_one (HRW.out.ens.sublist (List.take_sublist 0 ([] : List En))))
    have H1D := Lib.hid (enF_one (HRW.out.ens.sublist (List.drop_sublist 0 ([] : List En))))
    have hl1 : (enF (([] : List En).take 0)).length = 0 * 3 := by have h1 := enF_len (([] : List En).take 0); rw [List.length_take] at h1; omega
    have hl3 : (enF (([] : List En).drop 0)).length = 0 * 3 := by have h1 := enF_len (([] : List En).drop 0); rw [List.length_drop] at h1; omega
    have HL1 := Lib.hid hl1
    have HL3 := Lib.hid hl3
    generalize hy1 : enF (([] : List En).take 0) = y1 at N1 H1K HL1
    generalize hy3 : enF (([] : List En).drop 0) = y3 at H1D HL3
    have HY1 := Lib.hid hy1
    have HY3 := Lib.hid hy3
    clear hl1 hl3 hy1 hy3 hz6
    obtain ⟨s60, s61⟩ := S6.out
    go_wp2_with (at_builtin; (refine wpList_appB _ rfl (.tmp 31) (.tmp 35) (by rfl) wr.heap.size 0 [] wr.heap.size 0 (by rfl) O6.out (none) 0 0 y1 (by rfl) HL1.out N1.out H1K.out (by omega) (by have := HZ6.out; omega) ?_); (intro g7 c7 w7 hown7 hgrow7 hat7); (rw [Nat.zero_add, List.nil_append] at hown7; have OW7 := Lib.hid hown7; have HG7 := Lib.hid hgrow7; have HA7 := Lib.hid hat7); (clear hown7 hgrow7 hat7 s0 s1 s60 s61); (have hnr : ∀ b, b < wr.heap.size → some b ≠ some wr.heap.size := fun b hb e => by have e2 := Option.some.inj e; omega); (have S7 := Lib.hid (one_grown HG7.out S6.out (hnr _ (by omega)))); (have T7 := Lib.hid (two_grownE HG7.out T6.out (hnr _ (by omega)))); (have R7 := Lib.hid (one_grown HG7.out R6.out (hnr _ (by omega)))); (obtain ⟨t0, t1, t2⟩ := T7.out); clear hnr)
    have B7 : Hid (Below wr.heap.size wr w7) := Lib.hid (below_grownE B6.out (Nat.le_refl _) HG7.out (fun g h => Nat.le_of_eq (Option.some.inj h)))
    refine (l2Own_any t _ _ (HTM.out.kept B7.out) hw).mono ?_
    rintro e w8 ⟨v8, rfl, ho, hb⟩
    obtain ⟨p8, q8, rfl⟩ := ho.read.is_slice
    have HO8 := Lib.hid ho
    have HB8 := Lib.hid hb
    obtain ⟨w9, hw9⟩ : ∃ w9, w8.alloc (.cells #[.string nm, .string t.name, .slice p8 t.args.length q8] 110) = w9 := ⟨_, rfl⟩
    have B9 : Hid (Below w7.heap.size w7 w9) := Lib.hid (by rw [← hw9]; exact HB8.out.alloc HB8.out.size _)
    have hz9 : w9.heap.size = w8.heap.size + 1 := by rw [← hw9]; simp
    have HZ9 := Lib.hid hz9
    have H9 : Hid (w9.heap[w8.heap.size]? = some (.cells #[.string nm, .string t.name, .slice p8 t.args.length q8] 110 (0, 0))) := Lib.hid (by rw [← hw9]; exact heap_alloc_new w8 _)
    have OW9 := Lib.hid (own_kept OW7.out B9.out)
    have S9 := Lib.hid (S7.out.kept B9.out)
    have R9 := Lib.hid (R7.out.kept B9.out)
    clear ho hb t0 t1 t2 hz9
    obtain ⟨s0, s1⟩ := S9.out
    have hgz : wr.heap.size ≤ g7 := (OW7.out.lt g7 rfl).1
    have hgz7 : g7 < w7.heap.size := (OW7.out.lt g7 rfl).2
    have hzz7 : w6.heap.size ≤ w7.heap.size := HG7.out.size
    have hzz9 : w7.heap.size ≤ w8.heap.size := HB8.out.size
    have N2 : Hid ((some (⟨w8.heap.size, 0, none⟩ : Addr) = none ∧ 1 = 0 ∧ 1 = 0) ∨ ∃ ad, some (⟨w8.heap.size, 0, none⟩ : Addr) = some ad ∧ ∀ j u, [Value.string nm, .string t.name, .slice p8 t.args.length q8][j]? = some u → w9.cell? (ad.add j) = some u) := Lib.hid (.inr ⟨_, rfl, World.news_of_block (cs := #[.string nm, .string t.name, .slice p8 t.args.length q8]) (t := 110) (fr := (0, 0)) H9.out⟩)
    go_wp2_with (first | (at_builtin; (refine wpList_appB _ rfl (.tmp 37) (.tmp 42) (by rfl) wr.heap.size 0 y1 g7 c7 (by rfl) OW9.out (some ⟨w8.heap.size, 0, none⟩) 1 1 [.string nm, .string t.name, .slice p8 t.args.length q8] (by rfl) (by rfl) N2.out (by simp [Value.oneCell']) (by omega) (by have := HZ9.out; have := HZ6.out; omega) ?_); (intro g10 c10 w10 hown10 hgrow10 hat10); (have OW10 := Lib.hid hown10); (have HG10 := Lib.hid hgrow10); (have HA10 := Lib.hid hat10); (clear hown10 hgrow10 hat10 s0 s1); (have hnr : ∀ b, b < wr.heap.size → some b ≠ some g7 := fun b hb e => by have e2 := Option.some.inj e; omega); (have S10 := Lib.hid (one_grown HG10.out S9.out (hnr _ (by omega)))); (have R10 := Lib.hid (one_grown HG10.out R9.out (hnr _ (by omega)))); (have B10 : Hid (Below wr.heap.size wr w10) := Lib.hid (below_grownE (carry_below B7.out (Nat.le_refl _) B9.out) (Nat.le_refl _) HG10.out (fun g h => by have e2 := Option.some.inj h; omega))); (have hz10 : w9.heap.size ≤ w10.heap.size := HG10.out.size); (have hgz10 : wr.heap.size ≤ g10 := (OW10.out.lt g10 rfl).1); (have N3 : Hid (((none : Option Addr) = none ∧ 0 = 0 ∧ 0 = 0) ∨ ∃ ad, (none : Option Addr) = some ad ∧ ∀ j u, (y3)[j]? = some u → w10.cell? (ad.add j) = some u) := Lib.hid (.inl ⟨rfl, rfl, rfl⟩)); (obtain ⟨s0, s1⟩ := S10.out); (clear hnr)) | (at_builtin; (refine wpList_appB _ rfl (.tmp 44) (.tmp 48) (by rfl) wr.heap.size (0 + 1) (y1 ++ [.string nm, .string t.name, .slice p8 t.args.length q8]) g10 c10 (by rfl) OW10.out (none) 0 0 y3 (by rfl) HL3.out N3.out H1D.out (by omega) (by have := HZ9.out; have := HZ6.out; omega) ?_); (intro g11 c11 w11 hown11 hgrow11 hat11); (have OW11 := Lib.hid hown11); (have HG11 := Lib.hid hgrow11); (have HA11 := Lib.hid hat11); (clear hown11 hgrow11 hat11 s0 s1); (have hnr : ∀ b, b < wr.heap.size → some b ≠ some g10 := fun b hb e => by have e2 := Option.some.inj e; omega); (have R11 := Lib.hid (one_grown HG11.out R10.out (hnr _ (by omega)))); (have B11 : Hid (Below wr.heap.size wr w11) := Lib.hid (below_grownE B10.out (Nat.le_refl _) HG11.out (fun g h => by have e2 := Option.some.inj h; omega))); (obtain ⟨r0, r1⟩ := R11.out); (clear hnr)))
    refine bodyPost_ret (v := .agg #[.slice (some ⟨g11, 0, none⟩) (0 + 1 + 0) c11]) (by simp [results, Try.results147, go_sem, r0]) rfl ?_
    have hz11 : w10.heap.size ≤ w11.heap.size := HG11.out.size
    have hg10 : g10 = g7 ∨ g10 = w9.heap.size := HA10.out
    have hg11 : g11 = g10 ∨ g11 = w10.heap.size := HA11.out
    have OWF := OW11.out
    rw [← HY1.out, ← HY3.out] at OWF
    refine put_done (d := ⟨nm, t⟩) (w7 := w7) (w7' := w8) (v7 := .slice p8 t.args.length q8) HR0.out HBW.out hlo hbase (by first | omega | simp) (by first | omega | simp) HPL.out HTR.out B7.out HO8.out HB8.out B11.out (fun b hb => ?_) (by have := HZ9.out; omega) OWF (fun hf => by have h1 := hf.1; have h2 := hf.2; have := HZ9.out; omega) (by omega) (by omega)
    rw [HG11.out.block b (by have := hb.2; have := HZ9.out; omega) (fun e => by have e2 := Option.some.inj e; have h1 := hb.1; have h2 := hb.2; have := HZ9.out; omega), HG10.out.block b (by have := hb.2; have := HZ9.out; omega) (fun e => by have e2 := Option.some.inj e; have h1 := hb.1; omega), ← hw9]
    exact Below.heap_alloc _ _ _ hb.2

set_option maxRecDepth 100000 in
set_option maxHeartbeats 8000000 in
theorem l4Put_row (base lo g sc : Nat) (L : List En) (nm : ByteArray) (t : Tm) (va : Value) (w : World) (hr : RowE base lo w (.slice (some ⟨g, 0, none⟩) L.length sc) L) (ha : Asc (bdsE L)) (hv : TmS w va t.args) (hw : t.wt ≤ 1048576) (hl : L.length ≤ 1000000) (hlo0 : lo ≤ w.heap.size) (hbase0 : base ≤ w.heap.size) :
    Calls Try.prog 147 #[.agg #[.slice (some ⟨g, 0, none⟩) L.length sc], .string nm, .agg #[.string t.name, va]] w (PutEnd base lo L ⟨nm, t⟩ w) := by
  obtain ⟨ta, tc, rfl⟩ := hv.is_slice
  obtain ⟨wr, hwr⟩ : ∃ wr, ((w.alloc (.cells #[.slice (some ⟨g, 0, none⟩) L.length sc] 34)).alloc (.cells #[.string t.name, .slice ta t.args.length tc] 38)).alloc (.cells #[.slice none 0 0] 34) = wr := ⟨_, rfl⟩
  have HBW : Hid (Below w.heap.size w wr) := Lib.hid (by rw [← hwr]; exact (((Below.refl w.heap.size w).alloc (Nat.le_refl _) _).alloc (by simp) _).alloc (by simp; omega) _)
  have SB : Hid (Oner wr w.heap.size (.slice (some ⟨g, 0, none⟩) L.length sc)) := Lib.hid (by rw [← hwr]; exact ((oner_new w (.slice (some ⟨g, 0, none⟩) L.length sc) 34 _ rfl).alloc _).alloc _)
  have TB : Hid (Two wr (w.heap.size + 1) (.string t.name) (.slice ta t.args.length tc)) := Lib.hid (by rw [← hwr]; exact (two_new _ _ _ 38 (w.heap.size + 1) (by simp)).alloc _)
  have RB : Hid (Oner wr (w.heap.size + 1 + 1) (.slice none 0 0)) := Lib.hid (by rw [← hwr]; exact oner_new _ (.slice none 0 0) 34 (w.heap.size + 1 + 1) (by simp))
  have hzr : w.heap.size + 3 = wr.heap.size := by rw [← hwr]; simp
  have HRW : Hid (RowE base lo wr (.slice (some ⟨g, 0, none⟩) L.length sc) L) := Lib.hid (hr.kept HBW.out)
  have HTM : Hid (TmS wr (.slice ta t.args.length tc) t.args) := Lib.hid (hv.kept HBW.out)
  have HASC := Lib.hid ha
  have HR0 := Lib.hid hr
  have hlo : lo ≤ wr.heap.size := by omega
  have hbase : base ≤ wr.heap.size := by omega
  have hzw : w.heap.size + 1 + 1 < wr.heap.size := by omega
  have HZR := Lib.hid hzr
  obtain ⟨s0, s1⟩ := SB.out
  obtain ⟨t0, t1, t2⟩ := TB.out
  obtain ⟨r0, r1⟩ := RB.out
  clear hr ha hv hlo0 hbase0 hzr
  cases htr : sameB t.name nm with
  | true =>
    have HTR : Hid (triv ⟨nm, t⟩ = true) := Lib.hid htr
    have hq : (t.name.toList == nm.toList) = true := htr
    clear htr
    go_enter Try.func147, Try.ntmps147
    go_wp2
    refine bodyPost_ret (v := .agg #[.slice (some ⟨g, 0, none⟩) L.length sc]) (by simp [results, Try.results147, go_sem, r0]) rfl ?_
    refine ⟨_, L, rfl, ⟨ownsRow_setCell_other HRW.out.row (fun e => by have h1 := (HR0.out.row.lt _ e).2; simp at h1; omega) _, HRW.out.ens.setCell (fun e he hs => by have h1 := (HR0.out.ens.sub e he _ hs).2; simp at h1; omega) _, HRW.out.apart⟩, by unfold putF; rw [if_pos HTR.out], HBW.out.setCell (by simp; omega) _⟩
  | false =>
    have HTR : Hid (triv ⟨nm, t⟩ = false) := Lib.hid htr
    have hq : (t.name.toList == nm.toList) = false := htr
    clear htr
    rcases HRW.out.row.2 with ⟨e1, h0⟩ | ⟨g', cap, cur, e1, hbg, hg, hnc, hcm, hcs, htake⟩
    · cases e1
    · injection e1 with e2 e3 e4
      injection e2 with e2
      injection e2 with e2
      subst e2; subst e4
      have hcm' : sc ≤ 9223372036854775807 := by unfold maxLen at hcm; omega
      have HAT : Hid (∀ j u, (enF L)[j]? = some u → wr.cell? ⟨g, j, none⟩ = some u) := Lib.hid (row_cell HRW.out.row)
      clear hg hcs htake hcm e3
      go_enter Try.func147, Try.ntmps147
      go_wp2
      go_loop [7] (fun i => ∃ k : Nat, k ≤ L.length ∧ i = .int .i64 k ∧ ∀ j d, j < k → (bdsE L)[j]? = some d → d.var.data.toList < nm.data.toList) (fun i => L.length - (intOf i).toNat)
      case atStart => exact ⟨0, Nat.zero_le _, rfl, fun j d hj => absurd hj (Nat.not_lt_zero _)⟩
      case round =>
        obtain ⟨k, hk, rfl, hq2⟩ := hrel
        have HQ := Lib.hid hq2
        clear hq2
        by_cases hlt : k < L.length
        · obtain ⟨e, he⟩ : ∃ e, L[k]? = some e := ⟨_, List.getElem?_eq_getElem hlt⟩
          obtain ⟨c0, c1, c2⟩ := enF_at he
          have c0' := HAT.out _ _ c0
          have HE := Lib.hid (bdsE_at he)
          clear he c0 c1 c2
          cases hls : Op.bytesLess e.d.var.toList nm.toList with
          | true =>
            have HN : Hid (∀ j d, j < k + 1 → (bdsE L)[j]? = some d → d.var.data.toList < nm.data.toList) := Lib.hid (fun j d hj hd => by
              by_cases e2 : j = k
              · subst e2; rw [HE.out] at hd; injection hd with hd; subst hd; exact lessN_iff.1 hls
              · exact HQ.out j d (by omega) hd)
            go_wp2
            go_round
            case rel => exact ⟨k + 1, by omega, by go_num, HN.out⟩
            case measure => simp [intOf]; omega
          | false =>
            have HPL : Hid (Place (bdsE L) nm k) := Lib.hid (place_here HASC.out HE.out hls HQ.out)
            have hck : ¬ (sc = k) := by omega
            obtain ⟨w6, hw6⟩ : ∃ w6, wr.alloc (.cells #[] 110) = w6 := ⟨_, rfl⟩
            have B6 : Hid (Below wr.heap.size wr w6) := Lib.hid (by rw [← hw6]; exact (Below.refl _ _).alloc (Nat.le_refl _) _)
            have O6 : Hid (w6.ownsRow wr.heap.size 110 3 (.slice (some ⟨wr.heap.size, 0, none⟩) 0 0) 0 []) := Lib.hid (by rw [← hw6]; exact World.ownsRow_made wr #[] 0 (Nat.le_refl _) (by decide) (by simp))
            have hz6 : w6.heap.size = wr.heap.size + 1 := by rw [← hw6]; simp
            have HZ6 := Lib.hid hz6
            have S6 := Lib.hid (SB.out.kept B6.out)
            have T6 := Lib.hid (TB.out.kept B6.out)
            have R6 := Lib.hid (RB.out.kept B6.out)
            have N1 : Hid (((some ⟨g, 0, none⟩ : Option Addr) = none ∧ k = 0 ∧ sc = 0) ∨ ∃ ad, (some ⟨g, 0, none⟩ : Option Addr) = some ad ∧ ∀ j u, (enF (L.take k))[j]? = some u → w6.cell? (ad.add j) = some u) := Lib.hid (.inr ⟨_, rfl, fun j u hj => by rw [add_off]; exact carry_cell (HAT.out _ _ (by rw [Nat.zero_add]; rw [← enF_take _ _ (by omega), List.getElem?_take] at hj; split at hj; exact hj; cases hj)) B6.out⟩)
            have H1K := Lib.hid (enF_one (HRW.out.ens.sublist (List.take_sublist k L)))
            have H1D := Lib.hid (enF_one (HRW.out.ens.sublist (List.drop_sublist k L)))
            have hl1 : (enF (L.take k)).length = k * 3 := by have h1 := enF_len (L.take k); rw [List.length_take] at h1; omega
            have hl3 : (enF (L.drop k)).length = (L.length - k) * 3 := by have h1 := enF_len (L.drop k); rw [List.length_drop] at h1; omega
            have HL1 := Lib.hid hl1
            have HL3 := Lib.hid hl3
            generalize hy1 : enF (L.take k) = y1 at N1 H1K HL1
            generalize hy3 : enF (L.drop k) = y3 at H1D HL3
            have HY1 := Lib.hid hy1
            have HY3 := Lib.hid hy3
            clear hl1 hl3 hy1 hy3 hz6
            obtain ⟨s60, s61⟩ := S6.out
            go_wp2_with (at_builtin; (refine wpList_appB _ rfl (.tmp 31) (.tmp 35) (by rfl) wr.heap.size 0 [] wr.heap.size 0 (by rfl) O6.out (some ⟨g, 0, none⟩) k sc y1 (by rfl) HL1.out N1.out H1K.out (by omega) (by have := HZ6.out; omega) ?_); (intro g7 c7 w7 hown7 hgrow7 hat7); (rw [Nat.zero_add, List.nil_append] at hown7; have OW7 := Lib.hid hown7; have HG7 := Lib.hid hgrow7; have HA7 := Lib.hid hat7); (clear hown7 hgrow7 hat7 s0 s1 s60 s61); (have hnr : ∀ b, b < wr.heap.size → some b ≠ some wr.heap.size := fun b hb e => by have e2 := Option.some.inj e; omega); (have S7 := Lib.hid (one_grown HG7.out S6.out (hnr _ (by omega)))); (have T7 := Lib.hid (two_grownE HG7.out T6.out (hnr _ (by omega)))); (have R7 := Lib.hid (one_grown HG7.out R6.out (hnr _ (by omega)))); (obtain ⟨t0, t1, t2⟩ := T7.out); clear hnr)
            have B7 : Hid (Below wr.heap.size wr w7) := Lib.hid (below_grownE B6.out (Nat.le_refl _) HG7.out (fun g h => Nat.le_of_eq (Option.some.inj h)))
            refine (l2Own_any t _ _ (HTM.out.kept B7.out) hw).mono ?_
            rintro e w8 ⟨v8, rfl, ho, hb⟩
            obtain ⟨p8, q8, rfl⟩ := ho.read.is_slice
            have HO8 := Lib.hid ho
            have HB8 := Lib.hid hb
            obtain ⟨w9, hw9⟩ : ∃ w9, w8.alloc (.cells #[.string nm, .string t.name, .slice p8 t.args.length q8] 110) = w9 := ⟨_, rfl⟩
            have B9 : Hid (Below w7.heap.size w7 w9) := Lib.hid (by rw [← hw9]; exact HB8.out.alloc HB8.out.size _)
            have hz9 : w9.heap.size = w8.heap.size + 1 := by rw [← hw9]; simp
            have HZ9 := Lib.hid hz9
            have H9 : Hid (w9.heap[w8.heap.size]? = some (.cells #[.string nm, .string t.name, .slice p8 t.args.length q8] 110 (0, 0))) := Lib.hid (by rw [← hw9]; exact heap_alloc_new w8 _)
            have OW9 := Lib.hid (own_kept OW7.out B9.out)
            have S9 := Lib.hid (S7.out.kept B9.out)
            have R9 := Lib.hid (R7.out.kept B9.out)
            clear ho hb t0 t1 t2 hz9
            obtain ⟨s0, s1⟩ := S9.out
            have hgz : wr.heap.size ≤ g7 := (OW7.out.lt g7 rfl).1
            have hgz7 : g7 < w7.heap.size := (OW7.out.lt g7 rfl).2
            have hzz7 : w6.heap.size ≤ w7.heap.size := HG7.out.size
            have hzz9 : w7.heap.size ≤ w8.heap.size := HB8.out.size
            have N2 : Hid ((some (⟨w8.heap.size, 0, none⟩ : Addr) = none ∧ 1 = 0 ∧ 1 = 0) ∨ ∃ ad, some (⟨w8.heap.size, 0, none⟩ : Addr) = some ad ∧ ∀ j u, [Value.string nm, .string t.name, .slice p8 t.args.length q8][j]? = some u → w9.cell? (ad.add j) = some u) := Lib.hid (.inr ⟨_, rfl, World.news_of_block (cs := #[.string nm, .string t.name, .slice p8 t.args.length q8]) (t := 110) (fr := (0, 0)) H9.out⟩)
            go_wp2_with (first | (at_builtin; (refine wpList_appB _ rfl (.tmp 37) (.tmp 42) (by rfl) wr.heap.size k y1 g7 c7 (by rfl) OW9.out (some ⟨w8.heap.size, 0, none⟩) 1 1 [.string nm, .string t.name, .slice p8 t.args.length q8] (by rfl) (by rfl) N2.out (by simp [Value.oneCell']) (by omega) (by have := HZ9.out; have := HZ6.out; omega) ?_); (intro g10 c10 w10 hown10 hgrow10 hat10); (have OW10 := Lib.hid hown10); (have HG10 := Lib.hid hgrow10); (have HA10 := Lib.hid hat10); (clear hown10 hgrow10 hat10 s0 s1); (have hnr : ∀ b, b < wr.heap.size → some b ≠ some g7 := fun b hb e => by have e2 := Option.some.inj e; omega); (have S10 := Lib.hid (one_grown HG10.out S9.out (hnr _ (by omega)))); (have R10 := Lib.hid (one_grown HG10.out R9.out (hnr _ (by omega)))); (have B10 : Hid (Below wr.heap.size wr w10) := Lib.hid (below_grownE (carry_below B7.out (Nat.le_refl _) B9.out) (Nat.le_refl _) HG10.out (fun g h => by have e2 := Option.some.inj h; omega))); (have hz10 : w9.heap.size ≤ w10.heap.size := HG10.out.size); (have hgz10 : wr.heap.size ≤ g10 := (OW10.out.lt g10 rfl).1); (have N3 : Hid (((some ⟨g, k * 3, none⟩ : Option Addr) = none ∧ (L.length - k) = 0 ∧ (sc - k) = 0) ∨ ∃ ad, (some ⟨g, k * 3, none⟩ : Option Addr) = some ad ∧ ∀ j u, (y3)[j]? = some u → w10.cell? (ad.add j) = some u) := Lib.hid (.inr ⟨_, rfl, fun j u hj => by rw [add_off]; exact carry_cell (HAT.out _ _ (by rw [← HY3.out, ← enF_drop _ _ (by omega), List.getElem?_drop] at hj; exact hj)) B10.out⟩)); (obtain ⟨s0, s1⟩ := S10.out); (clear hnr)) | (at_builtin; (refine wpList_appB _ rfl (.tmp 44) (.tmp 48) (by rfl) wr.heap.size (k + 1) (y1 ++ [.string nm, .string t.name, .slice p8 t.args.length q8]) g10 c10 (by rfl) OW10.out (some ⟨g, k * 3, none⟩) (L.length - k) (sc - k) y3 (by rfl) HL3.out N3.out H1D.out (by omega) (by have := HZ9.out; have := HZ6.out; omega) ?_); (intro g11 c11 w11 hown11 hgrow11 hat11); (have OW11 := Lib.hid hown11); (have HG11 := Lib.hid hgrow11); (have HA11 := Lib.hid hat11); (clear hown11 hgrow11 hat11 s0 s1); (have hnr : ∀ b, b < wr.heap.size → some b ≠ some g10 := fun b hb e => by have e2 := Option.some.inj e; omega); (have R11 := Lib.hid (one_grown HG11.out R10.out (hnr _ (by omega)))); (have B11 : Hid (Below wr.heap.size wr w11) := Lib.hid (below_grownE B10.out (Nat.le_refl _) HG11.out (fun g h => by have e2 := Option.some.inj h; omega))); (obtain ⟨r0, r1⟩ := R11.out); (clear hnr)))
            refine bodyPost_ret (v := .agg #[.slice (some ⟨g11, 0, none⟩) (k + 1 + (L.length - k)) c11]) (by simp [results, Try.results147, go_sem, r0]) rfl ?_
            have hz11 : w10.heap.size ≤ w11.heap.size := HG11.out.size
            have hg10 : g10 = g7 ∨ g10 = w9.heap.size := HA10.out
            have hg11 : g11 = g10 ∨ g11 = w10.heap.size := HA11.out
            have OWF := OW11.out
            rw [← HY1.out, ← HY3.out] at OWF
            refine put_done (d := ⟨nm, t⟩) (w7 := w7) (w7' := w8) (v7 := .slice p8 t.args.length q8) HR0.out HBW.out hlo hbase (by first | omega | simp) (by first | omega | simp) HPL.out HTR.out B7.out HO8.out HB8.out B11.out (fun b hb => ?_) (by have := HZ9.out; omega) OWF (fun hf => by have h1 := hf.1; have h2 := hf.2; have := HZ9.out; omega) (by omega) (by omega)
            rw [HG11.out.block b (by have := hb.2; have := HZ9.out; omega) (fun e => by have e2 := Option.some.inj e; have h1 := hb.1; have h2 := hb.2; have := HZ9.out; omega), HG10.out.block b (by have := hb.2; have := HZ9.out; omega) (fun e => by have e2 := Option.some.inj e; have h1 := hb.1; omega), ← hw9]
            exact Below.heap_alloc _ _ _ hb.2
        · obtain rfl : k = L.length := by omega
          have HPL : Hid (Place (bdsE L) nm L.length) := Lib.hid (by have h := place_end (l := bdsE L) (nm := nm) (fun j d hj => HQ.out j d (by rw [bdsE_len] at hj; exact hj)); rwa [bdsE_len] at h)
          by_cases hck : sc = L.length
          · subst hck
            obtain ⟨w6, hw6⟩ : ∃ w6, wr.alloc (.cells #[] 110) = w6 := ⟨_, rfl⟩
            have B6 : Hid (Below wr.heap.size wr w6) := Lib.hid (by rw [← hw6]; exact (Below.refl _ _).alloc (Nat.le_refl _) _)
            have O6 : Hid (w6.ownsRow wr.heap.size 110 3 (.slice (some ⟨wr.heap.size, 0, none⟩) 0 0) 0 []) := Lib.hid (by rw [← hw6]; exact World.ownsRow_made wr #[] 0 (Nat.le_refl _) (by decide) (by simp))
            have hz6 : w6.heap.size = wr.heap.size + 1 := by rw [← hw6]; simp
            have HZ6 := Lib.hid hz6
            have S6 := Lib.hid (SB.out.kept B6.out)
            have T6 := Lib.hid (TB.out.kept B6.out)
            have R6 := Lib.hid (RB.out.kept B6.out)
            have N1 : Hid (((some ⟨g, 0, none⟩ : Option Addr) = none ∧ L.length = 0 ∧ L.length = 0) ∨ ∃ ad, (some ⟨g, 0, none⟩ : Option Addr) = some ad ∧ ∀ j u, (enF (L.take L.length))[j]? = some u → w6.cell? (ad.add j) = some u) := Lib.hid (.inr ⟨_, rfl, fun j u hj => by rw [add_off]; exact carry_cell (HAT.out _ _ (by rw [Nat.zero_add]; rw [← enF_take _ _ (by omega), List.getElem?_take] at hj; split at hj; exact hj; cases hj)) B6.out⟩)
            have H1K := Lib.hid (enF_one (HRW.out.ens.sublist (List.take_sublist L.length L)))
            have H1D := Lib.hid (enF_one (HRW.out.ens.sublist (List.drop_sublist L.length L)))
            have hl1 : (enF (L.take L.length)).length = L.length * 3 := by have h1 := enF_len (L.take L.length); rw [List.length_take] at h1; omega
            have hl3 : (enF (L.drop L.length)).length = 0 * 3 := by have h1 := enF_len (L.drop L.length); rw [List.length_drop] at h1; omega
            have HL1 := Lib.hid hl1
            have HL3 := Lib.hid hl3
            generalize hy1 : enF (L.take L.length) = y1 at N1 H1K HL1
            generalize hy3 : enF (L.drop L.length) = y3 at H1D HL3
            have HY1 := Lib.hid hy1
            have HY3 := Lib.hid hy3
            clear hl1 hl3 hy1 hy3 hz6
            obtain ⟨s60, s61⟩ := S6.out
            go_wp2_with (at_builtin; (refine wpList_appB _ rfl (.tmp 31) (.tmp 35) (by rfl) wr.heap.size 0 [] wr.heap.size 0 (by rfl) O6.out (some ⟨g, 0, none⟩) L.length L.length y1 (by rfl) HL1.out N1.out H1K.out (by omega) (by have := HZ6.out; omega) ?_); (intro g7 c7 w7 hown7 hgrow7 hat7); (rw [Nat.zero_add, List.nil_append] at hown7; have OW7 := Lib.hid hown7; have HG7 := Lib.hid hgrow7; have HA7 := Lib.hid hat7); (clear hown7 hgrow7 hat7 s0 s1 s60 s61); (have hnr : ∀ b, b < wr.heap.size → some b ≠ some wr.heap.size := fun b hb e => by have e2 := Option.some.inj e; omega); (have S7 := Lib.hid (one_grown HG7.out S6.out (hnr _ (by omega)))); (have T7 := Lib.hid (two_grownE HG7.out T6.out (hnr _ (by omega)))); (have R7 := Lib.hid (one_grown HG7.out R6.out (hnr _ (by omega)))); (obtain ⟨t0, t1, t2⟩ := T7.out); clear hnr)
            have B7 : Hid (Below wr.heap.size wr w7) := Lib.hid (below_grownE B6.out (Nat.le_refl _) HG7.out (fun g h => Nat.le_of_eq (Option.some.inj h)))
            refine (l2Own_any t _ _ (HTM.out.kept B7.out) hw).mono ?_
            rintro e w8 ⟨v8, rfl, ho, hb⟩
            obtain ⟨p8, q8, rfl⟩ := ho.read.is_slice
            have HO8 := Lib.hid ho
            have HB8 := Lib.hid hb
            obtain ⟨w9, hw9⟩ : ∃ w9, w8.alloc (.cells #[.string nm, .string t.name, .slice p8 t.args.length q8] 110) = w9 := ⟨_, rfl⟩
            have B9 : Hid (Below w7.heap.size w7 w9) := Lib.hid (by rw [← hw9]; exact HB8.out.alloc HB8.out.size _)
            have hz9 : w9.heap.size = w8.heap.size + 1 := by rw [← hw9]; simp
            have HZ9 := Lib.hid hz9
            have H9 : Hid (w9.heap[w8.heap.size]? = some (.cells #[.string nm, .string t.name, .slice p8 t.args.length q8] 110 (0, 0))) := Lib.hid (by rw [← hw9]; exact heap_alloc_new w8 _)
            have OW9 := Lib.hid (own_kept OW7.out B9.out)
            have S9 := Lib.hid (S7.out.kept B9.out)
            have R9 := Lib.hid (R7.out.kept B9.out)
            clear ho hb t0 t1 t2 hz9
            obtain ⟨s0, s1⟩ := S9.out
            have hgz : wr.heap.size ≤ g7 := (OW7.out.lt g7 rfl).1
            have hgz7 : g7 < w7.heap.size := (OW7.out.lt g7 rfl).2
            have hzz7 : w6.heap.size ≤ w7.heap.size := HG7.out.size
            have hzz9 : w7.heap.size ≤ w8.heap.size := HB8.out.size
            have N2 : Hid ((some (⟨w8.heap.size, 0, none⟩ : Addr) = none ∧ 1 = 0 ∧ 1 = 0) ∨ ∃ ad, some (⟨w8.heap.size, 0, none⟩ : Addr) = some ad ∧ ∀ j u, [Value.string nm, .string t.name, .slice p8 t.args.length q8][j]? = some u → w9.cell? (ad.add j) = some u) := Lib.hid (.inr ⟨_, rfl, World.news_of_block (cs := #[.string nm, .string t.name, .slice p8 t.args.length q8]) (t := 110) (fr := (0, 0)) H9.out⟩)
            go_wp2_with (first | (at_builtin; (refine wpList_appB _ rfl (.tmp 37) (.tmp 42) (by rfl) wr.heap.size L.length y1 g7 c7 (by rfl) OW9.out (some ⟨w8.heap.size, 0, none⟩) 1 1 [.string nm, .string t.name, .slice p8 t.args.length q8] (by rfl) (by rfl) N2.out (by simp [Value.oneCell']) (by omega) (by have := HZ9.out; have := HZ6.out; omega) ?_); (intro g10 c10 w10 hown10 hgrow10 hat10); (have OW10 := Lib.hid hown10); (have HG10 := Lib.hid hgrow10); (have HA10 := Lib.hid hat10); (clear hown10 hgrow10 hat10 s0 s1); (have hnr : ∀ b, b < wr.heap.size → some b ≠ some g7 := fun b hb e => by have e2 := Option.some.inj e; omega); (have S10 := Lib.hid (one_grown HG10.out S9.out (hnr _ (by omega)))); (have R10 := Lib.hid (one_grown HG10.out R9.out (hnr _ (by omega)))); (have B10 : Hid (Below wr.heap.size wr w10) := Lib.hid (below_grownE (carry_below B7.out (Nat.le_refl _) B9.out) (Nat.le_refl _) HG10.out (fun g h => by have e2 := Option.some.inj h; omega))); (have hz10 : w9.heap.size ≤ w10.heap.size := HG10.out.size); (have hgz10 : wr.heap.size ≤ g10 := (OW10.out.lt g10 rfl).1); (have N3 : Hid (((some ⟨g, 0, none⟩ : Option Addr) = none ∧ 0 = 0 ∧ 0 = 0) ∨ ∃ ad, (some ⟨g, 0, none⟩ : Option Addr) = some ad ∧ ∀ j u, (y3)[j]? = some u → w10.cell? (ad.add j) = some u) := Lib.hid (.inr ⟨_, rfl, fun j u hj => by rw [← HY3.out, List.drop_of_length_le (Nat.le_refl _)] at hj; cases hj⟩)); (obtain ⟨s0, s1⟩ := S10.out); (clear hnr)) | (at_builtin; (refine wpList_appB _ rfl (.tmp 44) (.tmp 48) (by rfl) wr.heap.size (L.length + 1) (y1 ++ [.string nm, .string t.name, .slice p8 t.args.length q8]) g10 c10 (by rfl) OW10.out (some ⟨g, 0, none⟩) 0 0 y3 (by rfl) HL3.out N3.out H1D.out (by omega) (by have := HZ9.out; have := HZ6.out; omega) ?_); (intro g11 c11 w11 hown11 hgrow11 hat11); (have OW11 := Lib.hid hown11); (have HG11 := Lib.hid hgrow11); (have HA11 := Lib.hid hat11); (clear hown11 hgrow11 hat11 s0 s1); (have hnr : ∀ b, b < wr.heap.size → some b ≠ some g10 := fun b hb e => by have e2 := Option.some.inj e; omega); (have R11 := Lib.hid (one_grown HG11.out R10.out (hnr _ (by omega)))); (have B11 : Hid (Below wr.heap.size wr w11) := Lib.hid (below_grownE B10.out (Nat.le_refl _) HG11.out (fun g h => by have e2 := Option.some.inj h; omega))); (obtain ⟨r0, r1⟩ := R11.out); (clear hnr)))
            refine bodyPost_ret (v := .agg #[.slice (some ⟨g11, 0, none⟩) (L.length + 1 + 0) c11]) (by simp [results, Try.results147, go_sem, r0]) rfl ?_
            have hz11 : w10.heap.size ≤ w11.heap.size := HG11.out.size
            have hg10 : g10 = g7 ∨ g10 = w9.heap.size := HA10.out
            have hg11 : g11 = g10 ∨ g11 = w10.heap.size := HA11.out
            have OWF := OW11.out
            rw [← HY1.out, ← HY3.out] at OWF
            refine put_done (d := ⟨nm, t⟩) (w7 := w7) (w7' := w8) (v7 := .slice p8 t.args.length q8) HR0.out HBW.out hlo hbase (by first | omega | simp) (by first | omega | simp) HPL.out HTR.out B7.out HO8.out HB8.out B11.out (fun b hb => ?_) (by have := HZ9.out; omega) OWF (fun hf => by have h1 := hf.1; have h2 := hf.2; have := HZ9.out; omega) (by omega) (by omega)
            rw [HG11.out.block b (by have := hb.2; have := HZ9.out; omega) (fun e => by have e2 := Option.some.inj e; have h1 := hb.1; have h2 := hb.2; have := HZ9.out; omega), HG10.out.block b (by have := hb.2; have := HZ9.out; omega) (fun e => by have e2 := Option.some.inj e; have h1 := hb.1; omega), ← hw9]
            exact Below.heap_alloc _ _ _ hb.2
          · have hck2 := hck
            obtain ⟨w6, hw6⟩ : ∃ w6, wr.alloc (.cells #[] 110) = w6 := ⟨_, rfl⟩
            have B6 : Hid (Below wr.heap.size wr w6) := Lib.hid (by rw [← hw6]; exact (Below.refl _ _).alloc (Nat.le_refl _) _)
            have O6 : Hid (w6.ownsRow wr.heap.size 110 3 (.slice (some ⟨wr.heap.size, 0, none⟩) 0 0) 0 []) := Lib.hid (by rw [← hw6]; exact World.ownsRow_made wr #[] 0 (Nat.le_refl _) (by decide) (by simp))
            have hz6 : w6.heap.size = wr.heap.size + 1 := by rw [← hw6]; simp
            have HZ6 := Lib.hid hz6
            have S6 := Lib.hid (SB.out.kept B6.out)
            have T6 := Lib.hid (TB.out.kept B6.out)
            have R6 := Lib.hid (RB.out.kept B6.out)
            have N1 : Hid (((some ⟨g, 0, none⟩ : Option Addr) = none ∧ L.length = 0 ∧ sc = 0) ∨ ∃ ad, (some ⟨g, 0, none⟩ : Option Addr) = some ad ∧ ∀ j u, (enF (L.take L.length))[j]? = some u → w6.cell? (ad.add j) = some u) := Lib.hid (.inr ⟨_, rfl, fun j u hj => by rw [add_off]; exact carry_cell (HAT.out _ _ (by rw [Nat.zero_add]; rw [← enF_take _ _ (by omega), List.getElem?_take] at hj; split at hj; exact hj; cases hj)) B6.out⟩)
            have H1K := Lib.hid (enF_one (HRW.out.ens.sublist (List.take_sublist L.length L)))
            have H1D := Lib.hid (enF_one (HRW.out.ens.sublist (List.drop_sublist L.length L)))
            have hl1 : (enF (L.take L.length)).length = L.length * 3 := by have h1 := enF_len (L.take L.length); rw [List.length_take] at h1; omega
            have hl3 : (enF (L.drop L.length)).length = 0 * 3 := by have h1 := enF_len (L.drop L.length); rw [List.length_drop] at h1; omega
            have HL1 := Lib.hid hl1
            have HL3 := Lib.hid hl3
            generalize hy1 : enF (L.take L.length) = y1 at N1 H1K HL1
            generalize hy3 : enF (L.drop L.length) = y3 at H1D HL3
            have HY1 := Lib.hid hy1
            have HY3 := Lib.hid hy3
            clear hl1 hl3 hy1 hy3 hz6
            obtain ⟨s60, s61⟩ := S6.out
            go_wp2_with (at_builtin; (refine wpList_appB _ rfl (.tmp 31) (.tmp 35) (by rfl) wr.heap.size 0 [] wr.heap.size 0 (by rfl) O6.out (some ⟨g, 0, none⟩) L.length sc y1 (by rfl) HL1.out N1.out H1K.out (by omega) (by have := HZ6.out; omega) ?_); (intro g7 c7 w7 hown7 hgrow7 hat7); (rw [Nat.zero_add, List.nil_append] at hown7; have OW7 := Lib.hid hown7; have HG7 := Lib.hid hgrow7; have HA7 := Lib.hid hat7); (clear hown7 hgrow7 hat7 s0 s1 s60 s61); (have hnr : ∀ b, b < wr.heap.size → some b ≠ some wr.heap.size := fun b hb e => by have e2 := Option.some.inj e; omega); (have S7 := Lib.hid (one_grown HG7.out S6.out (hnr _ (by omega)))); (have T7 := Lib.hid (two_grownE HG7.out T6.out (hnr _ (by omega)))); (have R7 := Lib.hid (one_grown HG7.out R6.out (hnr _ (by omega)))); (obtain ⟨t0, t1, t2⟩ := T7.out); clear hnr)
            have B7 : Hid (Below wr.heap.size wr w7) := Lib.hid (below_grownE B6.out (Nat.le_refl _) HG7.out (fun g h => Nat.le_of_eq (Option.some.inj h)))
            refine (l2Own_any t _ _ (HTM.out.kept B7.out) hw).mono ?_
            rintro e w8 ⟨v8, rfl, ho, hb⟩
            obtain ⟨p8, q8, rfl⟩ := ho.read.is_slice
            have HO8 := Lib.hid ho
            have HB8 := Lib.hid hb
            obtain ⟨w9, hw9⟩ : ∃ w9, w8.alloc (.cells #[.string nm, .string t.name, .slice p8 t.args.length q8] 110) = w9 := ⟨_, rfl⟩
            have B9 : Hid (Below w7.heap.size w7 w9) := Lib.hid (by rw [← hw9]; exact HB8.out.alloc HB8.out.size _)
            have hz9 : w9.heap.size = w8.heap.size + 1 := by rw [← hw9]; simp
            have HZ9 := Lib.hid hz9
            have H9 : Hid (w9.heap[w8.heap.size]? = some (.cells #[.string nm, .string t.name, .slice p8 t.args.length q8] 110 (0, 0))) := Lib.hid (by rw [← hw9]; exact heap_alloc_new w8 _)
            have OW9 := Lib.hid (own_kept OW7.out B9.out)
            have S9 := Lib.hid (S7.out.kept B9.out)
            have R9 := Lib.hid (R7.out.kept B9.out)
            clear ho hb t0 t1 t2 hz9
            obtain ⟨s0, s1⟩ := S9.out
            have hgz : wr.heap.size ≤ g7 := (OW7.out.lt g7 rfl).1
            have hgz7 : g7 < w7.heap.size := (OW7.out.lt g7 rfl).2
            have hzz7 : w6.heap.size ≤ w7.heap.size := HG7.out.size
            have hzz9 : w7.heap.size ≤ w8.heap.size := HB8.out.size
            have N2 : Hid ((some (⟨w8.heap.size, 0, none⟩ : Addr) = none ∧ 1 = 0 ∧ 1 = 0) ∨ ∃ ad, some (⟨w8.heap.size, 0, none⟩ : Addr) = some ad ∧ ∀ j u, [Value.string nm, .string t.name, .slice p8 t.args.length q8][j]? = some u → w9.cell? (ad.add j) = some u) := Lib.hid (.inr ⟨_, rfl, World.news_of_block (cs := #[.string nm, .string t.name, .slice p8 t.args.length q8]) (t := 110) (fr := (0, 0)) H9.out⟩)
            go_wp2_with (first | (at_builtin; (refine wpList_appB _ rfl (.tmp 37) (.tmp 42) (by rfl) wr.heap.size L.length y1 g7 c7 (by rfl) OW9.out (some ⟨w8.heap.size, 0, none⟩) 1 1 [.string nm, .string t.name, .slice p8 t.args.length q8] (by rfl) (by rfl) N2.out (by simp [Value.oneCell']) (by omega) (by have := HZ9.out; have := HZ6.out; omega) ?_); (intro g10 c10 w10 hown10 hgrow10 hat10); (have OW10 := Lib.hid hown10); (have HG10 := Lib.hid hgrow10); (have HA10 := Lib.hid hat10); (clear hown10 hgrow10 hat10 s0 s1); (have hnr : ∀ b, b < wr.heap.size → some b ≠ some g7 := fun b hb e => by have e2 := Option.some.inj e; omega); (have S10 := Lib.hid (one_grown HG10.out S9.out (hnr _ (by omega)))); (have R10 := Lib.hid (one_grown HG10.out R9.out (hnr _ (by omega)))); (have B10 : Hid (Below wr.heap.size wr w10) := Lib.hid (below_grownE (carry_below B7.out (Nat.le_refl _) B9.out) (Nat.le_refl _) HG10.out (fun g h => by have e2 := Option.some.inj h; omega))); (have hz10 : w9.heap.size ≤ w10.heap.size := HG10.out.size); (have hgz10 : wr.heap.size ≤ g10 := (OW10.out.lt g10 rfl).1); (have N3 : Hid (((some ⟨g, L.length * 3, none⟩ : Option Addr) = none ∧ 0 = 0 ∧ (sc - L.length) = 0) ∨ ∃ ad, (some ⟨g, L.length * 3, none⟩ : Option Addr) = some ad ∧ ∀ j u, (y3)[j]? = some u → w10.cell? (ad.add j) = some u) := Lib.hid (.inr ⟨_, rfl, fun j u hj => by rw [← HY3.out, List.drop_of_length_le (Nat.le_refl _)] at hj; cases hj⟩)); (obtain ⟨s0, s1⟩ := S10.out); (clear hnr)) | (at_builtin; (refine wpList_appB _ rfl (.tmp 44) (.tmp 48) (by rfl) wr.heap.size (L.length + 1) (y1 ++ [.string nm, .string t.name, .slice p8 t.args.length q8]) g10 c10 (by rfl) OW10.out (some ⟨g, L.length * 3, none⟩) 0 (sc - L.length) y3 (by rfl) HL3.out N3.out H1D.out (by omega) (by have := HZ9.out; have := HZ6.out; omega) ?_); (intro g11 c11 w11 hown11 hgrow11 hat11); (have OW11 := Lib.hid hown11); (have HG11 := Lib.hid hgrow11); (have HA11 := Lib.hid hat11); (clear hown11 hgrow11 hat11 s0 s1); (have hnr : ∀ b, b < wr.heap.size → some b ≠ some g10 := fun b hb e => by have e2 := Option.some.inj e; omega); (have R11 := Lib.hid (one_grown HG11.out R10.out (hnr _ (by omega)))); (have B11 : Hid (Below wr.heap.size wr w11) := Lib.hid (below_grownE B10.out (Nat.le_refl _) HG11.out (fun g h => by have e2 := Option.some.inj h; omega))); (obtain ⟨r0, r1⟩ := R11.out); (clear hnr)))
            refine bodyPost_ret (v := .agg #[.slice (some ⟨g11, 0, none⟩) (L.length + 1 + 0) c11]) (by simp [results, Try.results147, go_sem, r0]) rfl ?_
            have hz11 : w10.heap.size ≤ w11.heap.size := HG11.out.size
            have hg10 : g10 = g7 ∨ g10 = w9.heap.size := HA10.out
            have hg11 : g11 = g10 ∨ g11 = w10.heap.size := HA11.out
            have OWF := OW11.out
            rw [← HY1.out, ← HY3.out] at OWF
            refine put_done (d := ⟨nm, t⟩) (w7 := w7) (w7' := w8) (v7 := .slice p8 t.args.length q8) HR0.out HBW.out hlo hbase (by first | omega | simp) (by first | omega | simp) HPL.out HTR.out B7.out HO8.out HB8.out B11.out (fun b hb => ?_) (by have := HZ9.out; omega) OWF (fun hf => by have h1 := hf.1; have h2 := hf.2; have := HZ9.out; omega) (by omega) (by omega)
            rw [HG11.out.block b (by have := hb.2; have := HZ9.out; omega) (fun e => by have e2 := Option.some.inj e; have h1 := hb.1; have h2 := hb.2; have := HZ9.out; omega), HG10.out.block b (by have := hb.2; have := HZ9.out; omega) (fun e => by have e2 := Option.some.inj e; have h1 := hb.1; omega), ← hw9]
            exact Below.heap_alloc _ _ _ hb.2

theorem l4Put_any (base lo : Nat) (v : Value) (L : List En) (nm : ByteArray) (t : Tm) (va : Value) (w : World) (hr : RowE base lo w v L) (ha : Asc (bdsE L)) (hv : TmS w va t.args) (hw : t.wt ≤ 1048576) (hl : L.length ≤ 1000000) (hlo0 : lo ≤ w.heap.size) (hbase0 : base ≤ w.heap.size) :
    Calls Try.prog 147 #[.agg #[v], .string nm, .agg #[.string t.name, va]] w (PutEnd base lo L ⟨nm, t⟩ w) := by
  rcases id hr.row.2 with ⟨rfl, h0⟩ | ⟨g, cap, cur, rfl, _⟩
  · have hL : L = [] := List.length_eq_zero_iff.1 h0
    subst hL
    exact l4Put_nil base lo nm t va w hr hv hw hlo0 hbase0
  · exact l4Put_row base lo g cap L nm t va w hr ha hv hw hl hlo0 hbase0

end Go.Proofs.Ytnkonhdnccolhaa
