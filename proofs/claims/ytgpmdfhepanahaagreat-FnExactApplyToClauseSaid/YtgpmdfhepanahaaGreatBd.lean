/- Bindings, and how a list of them lies in memory. No condition. -/
import Derived.Test.YtgpmdfhepanahaaGreatThr
import Derived.Test.YtgpmdfhepanahaaGreatTmO
import Derived.Test.YtgpmdfhepanahaaGreatSz
import Derived.Test.YtgpmdfhepanahaaGreatTo
import Derived.Test.YtgpmdfhepanahaaGreatEq
namespace Go.Proofs.YtgpmdfhepanahaaGreat
open Go.RowKit
set_option linter.unusedVariables false

/-- A binding: a variable's name and a term. -/
structure Bd where
  var : ByteArray
  tm : Tm

instance : Inhabited Bd := ⟨⟨ByteArray.empty, default⟩⟩

theorem Bd.ext' {a b : Bd} (h1 : a.var = b.var) (h2 : a.tm = b.tm) : a = b := by
  cases a; cases b; simp at h1 h2; rw [h1, h2]

def eqBd (a b : Bd) : Bool := decide (a.var = b.var) && eqT a.tm b.tm
theorem eqBd_iff {a b : Bd} : eqBd a b = true ↔ a = b := by
  unfold eqBd eqT
  rw [Bool.and_eq_true, decide_eq_true_iff, decide_eq_true_iff]
  exact ⟨fun h => Bd.ext' h.1 h.2, fun h => by rw [h]; exact ⟨rfl, rfl⟩⟩
theorem eqBd_self (a : Bd) : eqBd a a = true := eqBd_iff.2 rfl

instance : DecidableEq Bd := fun a b => decidable_of_iff (eqBd a b = true) eqBd_iff

def Bd.wt (d : Bd) : Nat := d.var.size + d.tm.wt
def Bd.lim (m : Nat) (d : Bd) : Prop := d.var.size ≤ m ∧ d.tm.lim m
def limB (m : Nat) (l : List Bd) : Prop := l.length ≤ m ∧ ∀ d ∈ l, d.lim m

def sumB (f : Bd → Nat) : List Bd → Nat
  | [] => 0
  | t :: r => f t + sumB f r

theorem sumB_append (f : Bd → Nat) (a b : List Bd) : sumB f (a ++ b) = sumB f a + sumB f b := by
  induction a with
  | nil => simp [sumB]
  | cons t r ih => simp [sumB, ih]; omega
theorem sumB_next {f : Bd → Nat} {l : List Bd} {k : Nat} {t : Bd} (h : l[k]? = some t) : sumB f (l.take (k + 1)) = sumB f (l.take k) + f t := by
  rw [take_next h, sumB_append]; simp [sumB]
theorem sumB_mem {f : Bd → Nat} {l : List Bd} {t : Bd} (h : t ∈ l) : f t ≤ sumB f l := by
  induction l with
  | nil => cases h
  | cons s r ih =>
    rcases List.mem_cons.1 h with e | h
    · subst e; simp [sumB]
    · have := ih h; simp [sumB]; omega
theorem sumB_take (f : Bd → Nat) (l : List Bd) (k : Nat) : sumB f (l.take k) ≤ sumB f l := by
  have h := sumB_append f (l.take k) (l.drop k)
  rw [List.take_append_drop] at h
  omega
theorem sumB_all {f : Bd → Nat} {l : List Bd} {k : Nat} (h : l.length ≤ k) : sumB f (l.take k) = sumB f l := by
  rw [List.take_of_length_le h]

/-- What the laws' size helper counts of a list of bindings. -/
def wtB (l : List Bd) : Nat := l.length + sumB Bd.wt l
theorem wtB_mem {l : List Bd} {d : Bd} (h : d ∈ l) : d.wt ≤ wtB l := by
  have := sumB_mem (f := Bd.wt) h; unfold wtB; omega
theorem wtB_tm {l : List Bd} {d : Bd} (h : d ∈ l) : d.tm.wt ≤ wtB l := by
  have := wtB_mem h; unfold Bd.wt at this; omega
theorem wtB_var {l : List Bd} {d : Bd} (h : d ∈ l) : d.var.size ≤ wtB l := by
  have := wtB_mem h; unfold Bd.wt at this; omega
theorem wtB_len (l : List Bd) : l.length ≤ wtB l := by unfold wtB; omega


/-- An element of a slice of bindings. -/
def BdAt (w : World) (b off k : Nat) (d : Bd) : Prop :=
  ∃ va, w.cell? ⟨b, off + k * 3, none⟩ = some (.string d.var) ∧ w.cell? ⟨b, off + k * 3 + 1, none⟩ = some (.string d.tm.name) ∧ w.cell? ⟨b, off + k * 3 + 2, none⟩ = some va ∧ TmS w va d.tm.args

/-- The slice value reads, in this world, as the list of bindings. -/
def BdS (w : World) (v : Value) (l : List Bd) : Prop :=
  (∃ a c, v = .slice a 0 c ∧ l = []) ∨ (∃ b off c, v = .slice (some ⟨b, off, none⟩) l.length c ∧ 0 < l.length ∧ ∀ k d, l[k]? = some d → BdAt w b off k d)

theorem BdAt.kept {w w' : World} {b off k : Nat} {d : Bd} (h : BdAt w b off k d) (hb : Below w.heap.size w w') : BdAt w' b off k d := by
  obtain ⟨va, h0, h1, h2, h3⟩ := h
  exact ⟨va, carry_cell h0 hb, carry_cell h1 hb, carry_cell h2 hb, h3.kept hb⟩
theorem BdS.kept {w w' : World} {v : Value} {l : List Bd} (h : BdS w v l) (hb : Below w.heap.size w w') : BdS w' v l := by
  rcases h with h | ⟨b, off, c, hv, hp, hat⟩
  · exact .inl h
  · exact .inr ⟨b, off, c, hv, hp, fun k d hk => (hat k d hk).kept hb⟩
theorem BdS.drew {w : World} {v : Value} {l : List Bd} (h : BdS w v l) : BdS w.drew v l := h.kept (Below.refl _ _).drew
theorem BdS.alloc {w : World} {v : Value} {l : List Bd} (h : BdS w v l) (o : Obj) : BdS (w.alloc o) v l := h.kept ((Below.refl _ _).alloc (Nat.le_refl _) o)
theorem BdS.is_slice {w : World} {v : Value} {l : List Bd} (h : BdS w v l) : ∃ a c, v = .slice a l.length c := by
  rcases h with ⟨a, c, rfl, rfl⟩ | ⟨b, off, c, rfl, hp, hat⟩
  · exact ⟨a, c, rfl⟩
  · exact ⟨_, c, rfl⟩
theorem BdS.get {w : World} {a : Option Addr} {n c : Nat} {l : List Bd} (h : BdS w (.slice a n c) l) {k : Nat} {d : Bd} (hk : l[k]? = some d) : ∃ b off, a = some ⟨b, off, none⟩ ∧ BdAt w b off k d := by
  rcases h with ⟨a', c', hv, h0⟩ | ⟨b, off, c', hv, hp, hat⟩
  · subst h0; cases hk
  · injection hv with h1 h2 h3
    exact ⟨b, off, h1, hat k d hk⟩

/-- The slice value reads as the list of bindings; all blocks lie in S, none is met twice, none is frozen. -/
def BdO (w : World) (S : Nat → Prop) (v : Value) (l : List Bd) : Prop :=
  (∃ a c, v = .slice a 0 c ∧ l = []) ∨
  (∃ (g c : Nat) (f : Nat → Value) (Ss : Nat → Nat → Prop), v = .slice (some ⟨g, 0, none⟩) l.length c ∧ 0 < l.length ∧ S g ∧ l.length ≤ c ∧ (∀ j, w.frozen? ⟨g, j, none⟩ = false) ∧
    (∀ (i : Nat) (d : Bd), l[i]? = some d → w.cell? ⟨g, i * 3, none⟩ = some (.string d.var) ∧ w.cell? ⟨g, i * 3 + 1, none⟩ = some (.string d.tm.name) ∧ w.cell? ⟨g, i * 3 + 2, none⟩ = some (f i) ∧ TmO w (Ss i) (f i) d.tm.args) ∧
    (∀ i k, i < l.length → Ss i k → S k ∧ k ≠ g) ∧ (∀ i j k, i < l.length → j < l.length → i ≠ j → Ss i k → Ss j k → False))

theorem BdO.read {w : World} {S : Nat → Prop} {v : Value} {l : List Bd} (h : BdO w S v l) : BdS w v l := by
  rcases h with h | ⟨g, c, f, Ss, rfl, hp, hS, hc, hz, hat, hsub, hdis⟩
  · exact .inl h
  · refine .inr ⟨g, 0, c, rfl, hp, fun k d hk => ?_⟩
    obtain ⟨h0, h1, h2, h3⟩ := hat k d hk
    exact ⟨f k, by simpa using h0, by simpa using h1, by simpa using h2, h3.read⟩

theorem BdO.frame {w w' : World} {S : Nat → Prop} {v : Value} {l : List Bd} (h : BdO w S v l) (hf : ∀ k, S k → w'.heap[k]? = w.heap[k]?) : BdO w' S v l := by
  rcases h with h | ⟨g, c, f, Ss, rfl, hp, hS, hc, hz, hat, hsub, hdis⟩
  · exact .inl h
  · have e := hf g hS
    refine .inr ⟨g, c, f, Ss, rfl, hp, hS, hc, fun j => (World.frozen?_of_block (a := ⟨g, j, none⟩) (w := w) e).trans (hz j), fun i d hi => ?_, hsub, hdis⟩
    obtain ⟨h0, h1, h2, h3⟩ := hat i d hi
    exact ⟨(World.cell?_of_block (a := ⟨g, i * 3, none⟩) (w := w) e).trans h0, (World.cell?_of_block (a := ⟨g, i * 3 + 1, none⟩) (w := w) e).trans h1, (World.cell?_of_block (a := ⟨g, i * 3 + 2, none⟩) (w := w) e).trans h2,
      h3.frame fun k hk => hf k (hsub i k (List.getElem?_eq_some_iff.1 hi).1 hk).1⟩

theorem BdO.mono {w : World} {S S' : Nat → Prop} {v : Value} {l : List Bd} (h : BdO w S v l) (hs : ∀ k, S k → S' k) : BdO w S' v l := by
  rcases h with h | ⟨g, c, f, Ss, rfl, hp, hS, hc, hz, hat, hsub, hdis⟩
  · exact .inl h
  · exact .inr ⟨g, c, f, Ss, rfl, hp, hs g hS, hc, hz, hat, fun i k hi hk => ⟨hs k (hsub i k hi hk).1, (hsub i k hi hk).2⟩, hdis⟩

theorem BdO.kept {w0 w w' : World} {v : Value} {l : List Bd} (h : BdO w (Fresh w0 w) v l) (hb : Below w.heap.size w w') : BdO w' (Fresh w0 w) v l :=
  h.frame fun k hk => hb.block k hk.2
theorem BdO.setCell {w : World} {S : Nat → Prop} {v : Value} {l : List Bd} (h : BdO w S v l) {a : Addr} (ha : ¬ S a.block) (u : Value) : BdO (w.setCell a u) S v l :=
  h.frame fun k hk => Below.heap_setCell _ _ _ _ (fun e => ha (e ▸ hk))

theorem infoBd : (Tryz.prog.info? 133).map (fun i => (i.zero, i.size, i.bytes)) = some (some (.agg #[.string ByteArray.empty, .string ByteArray.empty, .slice none 0 0]), 3, 56) := by kernel_rfl

/-- What a loop that makes the bindings of a list one by one has made. -/
structure MadeB (w0 w : World) (xs : List Value) (l : List Bd) (k : Nat) (f : Nat → Value) (Ss : Nat → Nat → Prop) : Prop where
  cells : ∀ i d, i < k → l[i]? = some d → xs[i * 3]? = some (.string d.var) ∧ xs[i * 3 + 1]? = some (.string d.tm.name) ∧ xs[i * 3 + 2]? = some (f i)
  own : ∀ i d, i < k → l[i]? = some d → TmO w (Ss i) (f i) d.tm.args
  sub : ∀ i b, i < k → Ss i b → w0.heap.size ≤ b ∧ b < w.heap.size
  dis : ∀ i j b, i < k → j < k → i ≠ j → Ss i b → Ss j b → False

theorem MadeB.start (w0 w : World) (xs : List Value) (l : List Bd) : MadeB w0 w xs l 0 (fun _ => .slice none 0 0) (fun _ _ => False) :=
  ⟨fun i t h => absurd h (Nat.not_lt_zero _), fun i t h => absurd h (Nat.not_lt_zero _), fun i b h => absurd h (Nat.not_lt_zero _), fun i j b h => absurd h (Nat.not_lt_zero _)⟩

theorem MadeB.keep {w0 w w' : World} {xs : List Value} {l : List Bd} {k : Nat} {f : Nat → Value} {Ss : Nat → Nat → Prop} (h : MadeB w0 w xs l k f Ss) (hz : w.heap.size ≤ w'.heap.size)
    (hf : ∀ i b, i < k → Ss i b → w'.heap[b]? = w.heap[b]?) : MadeB w0 w' xs l k f Ss :=
  ⟨h.cells, fun i t hi ht => (h.own i t hi ht).frame fun b hb => hf i b hi hb, fun i b hi hb => ⟨(h.sub i b hi hb).1, Nat.lt_of_lt_of_le (h.sub i b hi hb).2 hz⟩, h.dis⟩

theorem MadeB.next {w0 w w' : World} {xs xs' : List Value} {l : List Bd} {k : Nat} {f : Nat → Value} {Ss : Nat → Nat → Prop} {d : Bd} {va : Value} {S : Nat → Prop} (h : MadeB w0 w xs l k f Ss)
    (ht : l[k]? = some d) (hk : ∀ i, i < k → xs'[i * 3]? = xs[i * 3]? ∧ xs'[i * 3 + 1]? = xs[i * 3 + 1]? ∧ xs'[i * 3 + 2]? = xs[i * 3 + 2]?)
    (h0 : xs'[k * 3]? = some (.string d.var)) (h1 : xs'[k * 3 + 1]? = some (.string d.tm.name)) (h2 : xs'[k * 3 + 2]? = some va)
    (ho : TmO w' S va d.tm.args) (hS : ∀ b, S b → w.heap.size ≤ b ∧ b < w'.heap.size) (hz : w.heap.size ≤ w'.heap.size) (hw : w0.heap.size ≤ w.heap.size)
    (hf : ∀ i b, i < k → Ss i b → w'.heap[b]? = w.heap[b]?) : MadeB w0 w' xs' l (k + 1) (fun i => if i = k then va else f i) (fun i => if i = k then S else Ss i) := by
  have h' := h.keep hz hf
  refine ⟨fun i s hi hs => ?_, fun i s hi hs => ?_, fun i b hi hb => ?_, fun i j b hi hj hij hb hb' => ?_⟩
  · by_cases e : i = k
    · subst e; rw [ht] at hs; injection hs with hs; subst hs; simp only [if_pos]; exact ⟨h0, h1, h2⟩
    · obtain ⟨k0, k1, k2⟩ := hk i (by omega)
      rw [k0, k1, k2]; simp only [if_neg e]; exact h.cells i s (by omega) hs
  · by_cases e : i = k
    · subst e; rw [ht] at hs; injection hs with hs; subst hs; simp only [if_pos]; exact ho
    · simp only [if_neg e]; exact h'.own i s (by omega) hs
  · by_cases e : i = k
    · subst e; simp only [if_pos] at hb; have := hS b hb; omega
    · simp only [if_neg e] at hb; exact h'.sub i b (by omega) hb
  · by_cases e : i = k
    · by_cases e' : j = k
      · omega
      · simp only [if_pos e] at hb; simp only [if_neg e'] at hb'
        have a := hS b hb
        have c := h.sub j b (by omega) hb'
        omega
    · by_cases e' : j = k
      · simp only [if_neg e] at hb; simp only [if_pos e'] at hb'
        have a := hS b hb'
        have c := h.sub i b (by omega) hb
        omega
      · simp only [if_neg e] at hb; simp only [if_neg e'] at hb'
        exact h.dis i j b (by omega) (by omega) hij hb hb'

theorem MadeB.whole {w0 w : World} {base : Nat} {v : Value} {xs : List Value} {l : List Bd} {f : Nat → Value} {Ss : Nat → Nat → Prop} (hown : w.ownsRow base 133 3 v l.length xs)
    (hm : MadeB w0 w xs l l.length f Ss) (hb : w0.heap.size ≤ base) (hne : ∀ g, v.ownBlock = some g → ∀ i, i < l.length → ¬ Ss i g) : BdO w (Fresh w0 w) v l := by
  rcases hown.2 with ⟨rfl, h0⟩ | ⟨g, cap, cur, rfl, hbg, hg, hnc, hcm, hcs, htake⟩
  · have : l = [] := List.length_eq_zero_iff.1 h0
    subst this; exact .inl ⟨_, _, rfl, rfl⟩
  · by_cases h0 : l.length = 0
    · have : l = [] := List.length_eq_zero_iff.1 h0
      subst this; exact .inl ⟨_, _, rfl, rfl⟩
    · have hlt : g < w.heap.size := (Array.getElem?_eq_some_iff.1 hg).1
      have hcell : ∀ j u, xs[j]? = some u → w.cell? ⟨g, j, none⟩ = some u := fun j u hj => by
        have hjl : j < xs.length := (List.getElem?_eq_some_iff.1 hj).1
        rw [hown.cellAt j (by have := hown.1; omega)]; exact hj
      refine .inr ⟨g, cap, f, Ss, rfl, by omega, ⟨by omega, hlt⟩, hnc, fun j => hown.frozenAt j, fun i d hi => ?_, fun i k hi hk => ⟨hm.sub i k hi hk, fun e => by subst e; exact hne k rfl i hi hk⟩, fun i j k hi hj hij => hm.dis i j k hi hj hij⟩
      have hlt' := (List.getElem?_eq_some_iff.1 hi).1
      obtain ⟨h0, h1, h2⟩ := hm.cells i d hlt' hi
      exact ⟨hcell _ _ h0, hcell _ _ h1, hcell _ _ h2, hm.own i d hlt' hi⟩

end Go.Proofs.YtgpmdfhepanahaaGreat
