/- Literals, and how a list of them lies in memory. No condition. -/
import Derived.Test.YtgpmdfhepanahaaGreatThr
import Derived.Test.YtgpmdfhepanahaaGreatSz
import Derived.Test.YtgpmdfhepanahaaGreatTo
import Derived.Test.YtgpmdfhepanahaaGreatEq
namespace Go.Proofs.YtgpmdfhepanahaaGreat
open Go.RowKit
set_option linter.unusedVariables false

/-- A literal: whether it is positive, and its atom. -/
structure Lt where
  var : Bool
  tm : Tm

instance : Inhabited Lt := ⟨⟨false, default⟩⟩

theorem Lt.ext' {a b : Lt} (h1 : a.var = b.var) (h2 : a.tm = b.tm) : a = b := by
  cases a; cases b; simp at h1 h2; rw [h1, h2]

def eqLt (a b : Lt) : Bool := decide (a.var = b.var) && eqT a.tm b.tm
theorem eqLt_iff {a b : Lt} : eqLt a b = true ↔ a = b := by
  unfold eqLt eqT
  rw [Bool.and_eq_true, decide_eq_true_iff, decide_eq_true_iff]
  exact ⟨fun h => Lt.ext' h.1 h.2, fun h => by rw [h]; exact ⟨rfl, rfl⟩⟩
theorem eqLt_self (a : Lt) : eqLt a a = true := eqLt_iff.2 rfl

instance : DecidableEq Lt := fun a b => decidable_of_iff (eqLt a b = true) eqLt_iff

def Lt.wt (d : Lt) : Nat := d.tm.wt
def Lt.lim (m : Nat) (d : Lt) : Prop := d.tm.lim m
def limC (m : Nat) (l : List Lt) : Prop := l.length ≤ m ∧ ∀ d ∈ l, d.lim m

def sumC (f : Lt → Nat) : List Lt → Nat
  | [] => 0
  | t :: r => f t + sumC f r

theorem sumC_append (f : Lt → Nat) (a b : List Lt) : sumC f (a ++ b) = sumC f a + sumC f b := by
  induction a with
  | nil => simp [sumC]
  | cons t r ih => simp [sumC, ih]; omega
theorem sumC_next {f : Lt → Nat} {l : List Lt} {k : Nat} {t : Lt} (h : l[k]? = some t) : sumC f (l.take (k + 1)) = sumC f (l.take k) + f t := by
  rw [take_next h, sumC_append]; simp [sumC]
theorem sumC_mem {f : Lt → Nat} {l : List Lt} {t : Lt} (h : t ∈ l) : f t ≤ sumC f l := by
  induction l with
  | nil => cases h
  | cons s r ih =>
    rcases List.mem_cons.1 h with e | h
    · subst e; simp [sumC]
    · have := ih h; simp [sumC]; omega
theorem sumC_take (f : Lt → Nat) (l : List Lt) (k : Nat) : sumC f (l.take k) ≤ sumC f l := by
  have h := sumC_append f (l.take k) (l.drop k)
  rw [List.take_append_drop] at h
  omega
theorem sumC_all {f : Lt → Nat} {l : List Lt} {k : Nat} (h : l.length ≤ k) : sumC f (l.take k) = sumC f l := by
  rw [List.take_of_length_le h]

/-- What the laws' size helper counts of a list of bindings. -/
def wtC (l : List Lt) : Nat := l.length + sumC Lt.wt l
theorem wtC_mem {l : List Lt} {d : Lt} (h : d ∈ l) : d.wt ≤ wtC l := by
  have := sumC_mem (f := Lt.wt) h; unfold wtC; omega
theorem wtC_tm {l : List Lt} {d : Lt} (h : d ∈ l) : d.tm.wt ≤ wtC l := by
  have := wtC_mem h; unfold Lt.wt at this; omega
theorem wtC_len (l : List Lt) : l.length ≤ wtC l := by unfold wtC; omega

/-- An element of a slice of bindings. -/
def LtAt (w : World) (b off k : Nat) (d : Lt) : Prop :=
  ∃ va, w.cell? ⟨b, off + k * 3, none⟩ = some (.bool d.var) ∧ w.cell? ⟨b, off + k * 3 + 1, none⟩ = some (.string d.tm.name) ∧ w.cell? ⟨b, off + k * 3 + 2, none⟩ = some va ∧ TmS w va d.tm.args

/-- The slice value reads, in this world, as the list of bindings. -/
def LtS (w : World) (v : Value) (l : List Lt) : Prop :=
  (∃ a c, v = .slice a 0 c ∧ l = []) ∨ (∃ b off c, v = .slice (some ⟨b, off, none⟩) l.length c ∧ 0 < l.length ∧ ∀ k d, l[k]? = some d → LtAt w b off k d)

theorem LtAt.kept {w w' : World} {b off k : Nat} {d : Lt} (h : LtAt w b off k d) (hb : Below w.heap.size w w') : LtAt w' b off k d := by
  obtain ⟨va, h0, h1, h2, h3⟩ := h
  exact ⟨va, carry_cell h0 hb, carry_cell h1 hb, carry_cell h2 hb, h3.kept hb⟩
theorem LtS.kept {w w' : World} {v : Value} {l : List Lt} (h : LtS w v l) (hb : Below w.heap.size w w') : LtS w' v l := by
  rcases h with h | ⟨b, off, c, hv, hp, hat⟩
  · exact .inl h
  · exact .inr ⟨b, off, c, hv, hp, fun k d hk => (hat k d hk).kept hb⟩
theorem LtS.drew {w : World} {v : Value} {l : List Lt} (h : LtS w v l) : LtS w.drew v l := h.kept (Below.refl _ _).drew
theorem LtS.alloc {w : World} {v : Value} {l : List Lt} (h : LtS w v l) (o : Obj) : LtS (w.alloc o) v l := h.kept ((Below.refl _ _).alloc (Nat.le_refl _) o)
theorem LtS.is_slice {w : World} {v : Value} {l : List Lt} (h : LtS w v l) : ∃ a c, v = .slice a l.length c := by
  rcases h with ⟨a, c, rfl, rfl⟩ | ⟨b, off, c, rfl, hp, hat⟩
  · exact ⟨a, c, rfl⟩
  · exact ⟨_, c, rfl⟩
theorem LtS.get {w : World} {a : Option Addr} {n c : Nat} {l : List Lt} (h : LtS w (.slice a n c) l) {k : Nat} {d : Lt} (hk : l[k]? = some d) : ∃ b off, a = some ⟨b, off, none⟩ ∧ LtAt w b off k d := by
  rcases h with ⟨a', c', hv, h0⟩ | ⟨b, off, c', hv, hp, hat⟩
  · subst h0; cases hk
  · injection hv with h1 h2 h3
    exact ⟨b, off, h1, hat k d hk⟩

/-- The slice value reads as the list of bindings; all blocks lie in S, none is met twice, none is frozen. -/
def LtO (w : World) (S : Nat → Prop) (v : Value) (l : List Lt) : Prop :=
  (∃ a c, v = .slice a 0 c ∧ l = []) ∨
  (∃ (g c : Nat) (f : Nat → Value) (Ss : Nat → Nat → Prop), v = .slice (some ⟨g, 0, none⟩) l.length c ∧ 0 < l.length ∧ S g ∧ l.length ≤ c ∧ (∀ j, w.frozen? ⟨g, j, none⟩ = false) ∧
    (∀ (i : Nat) (d : Lt), l[i]? = some d → w.cell? ⟨g, i * 3, none⟩ = some (.bool d.var) ∧ w.cell? ⟨g, i * 3 + 1, none⟩ = some (.string d.tm.name) ∧ w.cell? ⟨g, i * 3 + 2, none⟩ = some (f i) ∧ TmO w (Ss i) (f i) d.tm.args) ∧
    (∀ i k, i < l.length → Ss i k → S k ∧ k ≠ g) ∧ (∀ i j k, i < l.length → j < l.length → i ≠ j → Ss i k → Ss j k → False))

theorem LtO.read {w : World} {S : Nat → Prop} {v : Value} {l : List Lt} (h : LtO w S v l) : LtS w v l := by
  rcases h with h | ⟨g, c, f, Ss, rfl, hp, hS, hc, hz, hat, hsub, hdis⟩
  · exact .inl h
  · refine .inr ⟨g, 0, c, rfl, hp, fun k d hk => ?_⟩
    obtain ⟨h0, h1, h2, h3⟩ := hat k d hk
    exact ⟨f k, by simpa using h0, by simpa using h1, by simpa using h2, h3.read⟩

theorem LtO.frame {w w' : World} {S : Nat → Prop} {v : Value} {l : List Lt} (h : LtO w S v l) (hf : ∀ k, S k → w'.heap[k]? = w.heap[k]?) : LtO w' S v l := by
  rcases h with h | ⟨g, c, f, Ss, rfl, hp, hS, hc, hz, hat, hsub, hdis⟩
  · exact .inl h
  · have e := hf g hS
    refine .inr ⟨g, c, f, Ss, rfl, hp, hS, hc, fun j => (World.frozen?_of_block (a := ⟨g, j, none⟩) (w := w) e).trans (hz j), fun i d hi => ?_, hsub, hdis⟩
    obtain ⟨h0, h1, h2, h3⟩ := hat i d hi
    exact ⟨(World.cell?_of_block (a := ⟨g, i * 3, none⟩) (w := w) e).trans h0, (World.cell?_of_block (a := ⟨g, i * 3 + 1, none⟩) (w := w) e).trans h1, (World.cell?_of_block (a := ⟨g, i * 3 + 2, none⟩) (w := w) e).trans h2,
      h3.frame fun k hk => hf k (hsub i k (List.getElem?_eq_some_iff.1 hi).1 hk).1⟩

theorem LtO.mono {w : World} {S S' : Nat → Prop} {v : Value} {l : List Lt} (h : LtO w S v l) (hs : ∀ k, S k → S' k) : LtO w S' v l := by
  rcases h with h | ⟨g, c, f, Ss, rfl, hp, hS, hc, hz, hat, hsub, hdis⟩
  · exact .inl h
  · exact .inr ⟨g, c, f, Ss, rfl, hp, hs g hS, hc, hz, hat, fun i k hi hk => ⟨hs k (hsub i k hi hk).1, (hsub i k hi hk).2⟩, hdis⟩

theorem LtO.kept {w0 w w' : World} {v : Value} {l : List Lt} (h : LtO w (Fresh w0 w) v l) (hb : Below w.heap.size w w') : LtO w' (Fresh w0 w) v l :=
  h.frame fun k hk => hb.block k hk.2
theorem LtO.setCell {w : World} {S : Nat → Prop} {v : Value} {l : List Lt} (h : LtO w S v l) {a : Addr} (ha : ¬ S a.block) (u : Value) : LtO (w.setCell a u) S v l :=
  h.frame fun k hk => Below.heap_setCell _ _ _ _ (fun e => ha (e ▸ hk))

theorem infoLt : (Tryz.prog.info? 86).map (fun i => (i.zero, i.size, i.bytes)) = some (some (.agg #[.bool false, .string ByteArray.empty, .slice none 0 0]), 3, 48) := by kernel_rfl

/-- What a loop that makes the bindings of a list one by one has made. -/
structure MadeC (w0 w : World) (xs : List Value) (l : List Lt) (k : Nat) (f : Nat → Value) (Ss : Nat → Nat → Prop) : Prop where
  cells : ∀ i d, i < k → l[i]? = some d → xs[i * 3]? = some (.bool d.var) ∧ xs[i * 3 + 1]? = some (.string d.tm.name) ∧ xs[i * 3 + 2]? = some (f i)
  own : ∀ i d, i < k → l[i]? = some d → TmO w (Ss i) (f i) d.tm.args
  sub : ∀ i b, i < k → Ss i b → w0.heap.size ≤ b ∧ b < w.heap.size
  dis : ∀ i j b, i < k → j < k → i ≠ j → Ss i b → Ss j b → False

theorem MadeC.start (w0 w : World) (xs : List Value) (l : List Lt) : MadeC w0 w xs l 0 (fun _ => .slice none 0 0) (fun _ _ => False) :=
  ⟨fun i t h => absurd h (Nat.not_lt_zero _), fun i t h => absurd h (Nat.not_lt_zero _), fun i b h => absurd h (Nat.not_lt_zero _), fun i j b h => absurd h (Nat.not_lt_zero _)⟩

theorem MadeC.keep {w0 w w' : World} {xs : List Value} {l : List Lt} {k : Nat} {f : Nat → Value} {Ss : Nat → Nat → Prop} (h : MadeC w0 w xs l k f Ss) (hz : w.heap.size ≤ w'.heap.size)
    (hf : ∀ i b, i < k → Ss i b → w'.heap[b]? = w.heap[b]?) : MadeC w0 w' xs l k f Ss :=
  ⟨h.cells, fun i t hi ht => (h.own i t hi ht).frame fun b hb => hf i b hi hb, fun i b hi hb => ⟨(h.sub i b hi hb).1, Nat.lt_of_lt_of_le (h.sub i b hi hb).2 hz⟩, h.dis⟩

theorem MadeC.next {w0 w w' : World} {xs xs' : List Value} {l : List Lt} {k : Nat} {f : Nat → Value} {Ss : Nat → Nat → Prop} {d : Lt} {va : Value} {S : Nat → Prop} (h : MadeC w0 w xs l k f Ss)
    (ht : l[k]? = some d) (hk : ∀ i, i < k → xs'[i * 3]? = xs[i * 3]? ∧ xs'[i * 3 + 1]? = xs[i * 3 + 1]? ∧ xs'[i * 3 + 2]? = xs[i * 3 + 2]?)
    (h0 : xs'[k * 3]? = some (.bool d.var)) (h1 : xs'[k * 3 + 1]? = some (.string d.tm.name)) (h2 : xs'[k * 3 + 2]? = some va)
    (ho : TmO w' S va d.tm.args) (hS : ∀ b, S b → w.heap.size ≤ b ∧ b < w'.heap.size) (hz : w.heap.size ≤ w'.heap.size) (hw : w0.heap.size ≤ w.heap.size)
    (hf : ∀ i b, i < k → Ss i b → w'.heap[b]? = w.heap[b]?) : MadeC w0 w' xs' l (k + 1) (fun i => if i = k then va else f i) (fun i => if i = k then S else Ss i) := by
  have h' := h.keep hz hf
  refine ⟨fun i s hi hs => ?_, fun i s hi hs => ?_, fun i b hi hb => ?_, fun i j b hi hj hij hb hb' => ?_⟩
  · by_cases e : i = k
    · subst e; rw [ht] at hs; injection hs with hs; subst hs; simp only [if_pos]; exact ⟨h0, h1, h2⟩
    · obtain ⟨k0, k1, k2⟩ := hk i (by omega)
      rw [k0, k1, k2]; simp only [if_neg e]; exact h.cells i s (by omega) hs
  · by_cases e : i = k
    · subst e; rw [ht] at hs; injection hs with hs; subst hs; simp only [if_pos]; exact ho
    · simp only [if_neg e]; exact h'.own i s (by omega) hs
  · by_cases e : i = k
    · subst e; simp only [if_pos] at hb; have := hS b hb; omega
    · simp only [if_neg e] at hb; exact h'.sub i b (by omega) hb
  · by_cases e : i = k
    · by_cases e' : j = k
      · omega
      · simp only [if_pos e] at hb; simp only [if_neg e'] at hb'
        have a := hS b hb
        have c := h.sub j b (by omega) hb'
        omega
    · by_cases e' : j = k
      · simp only [if_neg e] at hb; simp only [if_pos e'] at hb'
        have a := hS b hb'
        have c := h.sub i b (by omega) hb
        omega
      · simp only [if_neg e] at hb; simp only [if_neg e'] at hb'
        exact h.dis i j b (by omega) (by omega) hij hb hb'

theorem MadeC.whole {w0 w : World} {base : Nat} {v : Value} {xs : List Value} {l : List Lt} {f : Nat → Value} {Ss : Nat → Nat → Prop} (hown : w.ownsRow base 86 3 v l.length xs)
    (hm : MadeC w0 w xs l l.length f Ss) (hb : w0.heap.size ≤ base) (hne : ∀ g, v.ownBlock = some g → ∀ i, i < l.length → ¬ Ss i g) : LtO w (Fresh w0 w) v l := by
  rcases hown.2 with ⟨rfl, h0⟩ | ⟨g, cap, cur, rfl, hbg, hg, hnc, hcm, hcs, htake⟩
  · have : l = [] := List.length_eq_zero_iff.1 h0
    subst this; exact .inl ⟨_, _, rfl, rfl⟩
  · by_cases h0 : l.length = 0
    · have : l = [] := List.length_eq_zero_iff.1 h0
      subst this; exact .inl ⟨_, _, rfl, rfl⟩
    · have hlt : g < w.heap.size := (Array.getElem?_eq_some_iff.1 hg).1
      have hcell : ∀ j u, xs[j]? = some u → w.cell? ⟨g, j, none⟩ = some u := fun j u hj => by
        have hjl : j < xs.length := (List.getElem?_eq_some_iff.1 hj).1
        rw [hown.cellAt j (by have := hown.1; omega)]; exact hj
      refine .inr ⟨g, cap, f, Ss, rfl, by omega, ⟨by omega, hlt⟩, hnc, fun j => hown.frozenAt j, fun i d hi => ?_, fun i k hi hk => ⟨hm.sub i k hi hk, fun e => by subst e; exact hne k rfl i hi hk⟩, fun i j k hi hj hij => hm.dis i j k hi hj hij⟩
      have hlt' := (List.getElem?_eq_some_iff.1 hi).1
      obtain ⟨h0, h1, h2⟩ := hm.cells i d hlt' hi
      exact ⟨hcell _ _ h0, hcell _ _ h1, hcell _ _ h2, hm.own i d hlt' hi⟩

end Go.Proofs.YtgpmdfhepanahaaGreat
