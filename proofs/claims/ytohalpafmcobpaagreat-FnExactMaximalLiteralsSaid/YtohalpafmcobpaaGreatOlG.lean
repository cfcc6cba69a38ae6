/- Several texts in one: each says what it proves. No condition but theirs. -/
import Derived.Test.YtohalpafmcobpaaGreatThr
import Derived.Test.YtohalpafmcobpaaGreatSz
import Derived.Test.YtohalpafmcobpaaGreatTo
import Derived.Test.YtohalpafmcobpaaGreatEq
import Derived.Test.YtohalpafmcobpaaGreatMuG
import Derived.Test.YtohalpafmcobpaaGreatOeG
import Derived.Test.YtohalpafmcobpaaGreatShelf
import Derived.Test.YtohalpafmcobpaaGreatVnG
import Derived.Test.YtohalpafmcobpaaGreatMkG
import Derived.Laws.CopyOwn
import Derived.Laws.MakeOwn
import Derived.Deep.RegionLaw
import Derived.Deep.QuietTactic
import Derived.Test.YtohalpafmcobpaaGreatFmtS
import Derived.RangeFuncRecord
import Derived.Test.YtohalpafmcobpaaGreatSizes
import Derived.Test.YtohalpafmcobpaaGreatOpenTm
/- Literals, and how a list of them lies in memory. No condition. -/
namespace Go.Proofs.YtohalpafmcobpaaGreat
open Go.RowKit
set_option linter.unusedVariables false

/-- A literal: whether it is positive, and its atom. -/
structure Lt where
  var : Bool
  tm : Tm

instance : Inhabited Lt := ⟨⟨false, default⟩⟩

theorem Lt.ext' {a b : Lt} (h1 : a.var = b.var) (h2 : a.tm = b.tm) : a = b := by
  cases a; cases b; simp at h1 h2; rw [h1, h2]

def eqLt (a b : Lt) : Bool := decide (a.var = b.var) && eqT a.tm b.tm
theorem eqLt_iff {a b : Lt} : eqLt a b = true ↔ a = b := by
  unfold eqLt eqT
  rw [Bool.and_eq_true, decide_eq_true_iff, decide_eq_true_iff]
  exact ⟨fun h => Lt.ext' h.1 h.2, fun h => by rw [h]; exact ⟨rfl, rfl⟩⟩
theorem eqLt_self (a : Lt) : eqLt a a = true := eqLt_iff.2 rfl

instance : DecidableEq Lt := fun a b => decidable_of_iff (eqLt a b = true) eqLt_iff

def Lt.wt (d : Lt) : Nat := d.tm.wt
def Lt.lim (m : Nat) (d : Lt) : Prop := d.tm.lim m
def limC (m : Nat) (l : List Lt) : Prop := l.length ≤ m ∧ ∀ d ∈ l, d.lim m

def sumC (f : Lt → Nat) : List Lt → Nat
  | [] => 0
  | t :: r => f t + sumC f r

theorem sumC_append (f : Lt → Nat) (a b : List Lt) : sumC f (a ++ b) = sumC f a + sumC f b := by
  induction a with
  | nil => simp [sumC]
  | cons t r ih => simp [sumC, ih]; omega
theorem sumC_next {f : Lt → Nat} {l : List Lt} {k : Nat} {t : Lt} (h : l[k]? = some t) : sumC f (l.take (k + 1)) = sumC f (l.take k) + f t := by
  rw [take_next h, sumC_append]; simp [sumC]
theorem sumC_mem {f : Lt → Nat} {l : List Lt} {t : Lt} (h : t ∈ l) : f t ≤ sumC f l := by
  induction l with
  | nil => cases h
  | cons s r ih =>
    rcases List.mem_cons.1 h with e | h
    · subst e; simp [sumC]
    · have := ih h; simp [sumC]; omega
theorem sumC_take (f : Lt → Nat) (l : List Lt) (k : Nat) : sumC f (l.take k) ≤ sumC f l := by
  have h := sumC_append f (l.take k) (l.drop k)
  rw [List.take_append_drop] at h
  omega
theorem sumC_all {f : Lt → Nat} {l : List Lt} {k : Nat} (h : l.length ≤ k) : sumC f (l.take k) = sumC f l := by
  rw [List.take_of_length_le h]

/-- What the laws' size helper counts of a list of bindings. -/
def wtC (l : List Lt) : Nat := l.length + sumC Lt.wt l
theorem wtC_mem {l : List Lt} {d : Lt} (h : d ∈ l) : d.wt ≤ wtC l := by
  have := sumC_mem (f := Lt.wt) h; unfold wtC; omega
theorem wtC_tm {l : List Lt} {d : Lt} (h : d ∈ l) : d.tm.wt ≤ wtC l := by
  have := wtC_mem h; unfold Lt.wt at this; omega
theorem wtC_len (l : List Lt) : l.length ≤ wtC l := by unfold wtC; omega

/-- An element of a slice of bindings. -/
def LtAt (w : World) (b off k : Nat) (d : Lt) : Prop :=
  ∃ va, w.cell? ⟨b, off + k * 3, none⟩ = some (.bool d.var) ∧ w.cell? ⟨b, off + k * 3 + 1, none⟩ = some (.string d.tm.name) ∧ w.cell? ⟨b, off + k * 3 + 2, none⟩ = some va ∧ TmS w va d.tm.args

/-- The slice value reads, in this world, as the list of bindings. -/
def LtS (w : World) (v : Value) (l : List Lt) : Prop :=
  (∃ a c, v = .slice a 0 c ∧ l = []) ∨ (∃ b off c, v = .slice (some ⟨b, off, none⟩) l.length c ∧ 0 < l.length ∧ ∀ k d, l[k]? = some d → LtAt w b off k d)

theorem LtAt.kept {w w' : World} {b off k : Nat} {d : Lt} (h : LtAt w b off k d) (hb : Below w.heap.size w w') : LtAt w' b off k d := by
  obtain ⟨va, h0, h1, h2, h3⟩ := h
  exact ⟨va, carry_cell h0 hb, carry_cell h1 hb, carry_cell h2 hb, h3.kept hb⟩
theorem LtS.kept {w w' : World} {v : Value} {l : List Lt} (h : LtS w v l) (hb : Below w.heap.size w w') : LtS w' v l := by
  rcases h with h | ⟨b, off, c, hv, hp, hat⟩
  · exact .inl h
  · exact .inr ⟨b, off, c, hv, hp, fun k d hk => (hat k d hk).kept hb⟩
theorem LtS.drew {w : World} {v : Value} {l : List Lt} (h : LtS w v l) : LtS w.drew v l := h.kept (Below.refl _ _).drew
theorem LtS.alloc {w : World} {v : Value} {l : List Lt} (h : LtS w v l) (o : Obj) : LtS (w.alloc o) v l := h.kept ((Below.refl _ _).alloc (Nat.le_refl _) o)
theorem LtS.is_slice {w : World} {v : Value} {l : List Lt} (h : LtS w v l) : ∃ a c, v = .slice a l.length c := by
  rcases h with ⟨a, c, rfl, rfl⟩ | ⟨b, off, c, rfl, hp, hat⟩
  · exact ⟨a, c, rfl⟩
  · exact ⟨_, c, rfl⟩
theorem LtS.get {w : World} {a : Option Addr} {n c : Nat} {l : List Lt} (h : LtS w (.slice a n c) l) {k : Nat} {d : Lt} (hk : l[k]? = some d) : ∃ b off, a = some ⟨b, off, none⟩ ∧ LtAt w b off k d := by
  rcases h with ⟨a', c', hv, h0⟩ | ⟨b, off, c', hv, hp, hat⟩
  · subst h0; cases hk
  · injection hv with h1 h2 h3
    exact ⟨b, off, h1, hat k d hk⟩

/-- The slice value reads as the list of bindings; all blocks lie in S, none is met twice, none is frozen. -/
def LtO (w : World) (S : Nat → Prop) (v : Value) (l : List Lt) : Prop :=
  (∃ a c, v = .slice a 0 c ∧ l = []) ∨
  (∃ (g c : Nat) (f : Nat → Value) (Ss : Nat → Nat → Prop), v = .slice (some ⟨g, 0, none⟩) l.length c ∧ 0 < l.length ∧ S g ∧ l.length ≤ c ∧ (∀ j, w.frozen? ⟨g, j, none⟩ = false) ∧
    (∀ (i : Nat) (d : Lt), l[i]? = some d → w.cell? ⟨g, i * 3, none⟩ = some (.bool d.var) ∧ w.cell? ⟨g, i * 3 + 1, none⟩ = some (.string d.tm.name) ∧ w.cell? ⟨g, i * 3 + 2, none⟩ = some (f i) ∧ TmO w (Ss i) (f i) d.tm.args) ∧
    (∀ i k, i < l.length → Ss i k → S k ∧ k ≠ g) ∧ (∀ i j k, i < l.length → j < l.length → i ≠ j → Ss i k → Ss j k → False))

theorem LtO.read {w : World} {S : Nat → Prop} {v : Value} {l : List Lt} (h : LtO w S v l) : LtS w v l := by
  rcases h with h | ⟨g, c, f, Ss, rfl, hp, hS, hc, hz, hat, hsub, hdis⟩
  · exact .inl h
  · refine .inr ⟨g, 0, c, rfl, hp, fun k d hk => ?_⟩
    obtain ⟨h0, h1, h2, h3⟩ := hat k d hk
    exact ⟨f k, by simpa using h0, by simpa using h1, by simpa using h2, h3.read⟩

theorem LtO.frame {w w' : World} {S : Nat → Prop} {v : Value} {l : List Lt} (h : LtO w S v l) (hf : ∀ k, S k → w'.heap[k]? = w.heap[k]?) : LtO w' S v l := by
  rcases h with h | ⟨g, c, f, Ss, rfl, hp, hS, hc, hz, hat, hsub, hdis⟩
  · exact .inl h
  · have e := hf g hS
    refine .inr ⟨g, c, f, Ss, rfl, hp, hS, hc, fun j => (World.frozen?_of_block (a := ⟨g, j, none⟩) (w := w) e).trans (hz j), fun i d hi => ?_, hsub, hdis⟩
    obtain ⟨h0, h1, h2, h3⟩ := hat i d hi
    exact ⟨(World.cell?_of_block (a := ⟨g, i * 3, none⟩) (w := w) e).trans h0, (World.cell?_of_block (a := ⟨g, i * 3 + 1, none⟩) (w := w) e).trans h1, (World.cell?_of_block (a := ⟨g, i * 3 + 2, none⟩) (w := w) e).trans h2,
      h3.frame fun k hk => hf k (hsub i k (List.getElem?_eq_some_iff.1 hi).1 hk).1⟩

theorem LtO.mono {w : World} {S S' : Nat → Prop} {v : Value} {l : List Lt} (h : LtO w S v l) (hs : ∀ k, S k → S' k) : LtO w S' v l := by
  rcases h with h | ⟨g, c, f, Ss, rfl, hp, hS, hc, hz, hat, hsub, hdis⟩
  · exact .inl h
  · exact .inr ⟨g, c, f, Ss, rfl, hp, hs g hS, hc, hz, hat, fun i k hi hk => ⟨hs k (hsub i k hi hk).1, (hsub i k hi hk).2⟩, hdis⟩

theorem LtO.kept {w0 w w' : World} {v : Value} {l : List Lt} (h : LtO w (Fresh w0 w) v l) (hb : Below w.heap.size w w') : LtO w' (Fresh w0 w) v l :=
  h.frame fun k hk => hb.block k hk.2
theorem LtO.setCell {w : World} {S : Nat → Prop} {v : Value} {l : List Lt} (h : LtO w S v l) {a : Addr} (ha : ¬ S a.block) (u : Value) : LtO (w.setCell a u) S v l :=
  h.frame fun k hk => Below.heap_setCell _ _ _ _ (fun e => ha (e ▸ hk))

theorem infoLt : (Tryz.prog.info? 41).map (fun i => (i.zero, i.size, i.bytes)) = some (some (.agg #[.bool false, .string ByteArray.empty, .slice none 0 0]), 3, 48) := by kernel_rfl

/-- What a loop that makes the bindings of a list one by one has made. -/
structure MadeC (w0 w : World) (xs : List Value) (l : List Lt) (k : Nat) (f : Nat → Value) (Ss : Nat → Nat → Prop) : Prop where
  cells : ∀ i d, i < k → l[i]? = some d → xs[i * 3]? = some (.bool d.var) ∧ xs[i * 3 + 1]? = some (.string d.tm.name) ∧ xs[i * 3 + 2]? = some (f i)
  own : ∀ i d, i < k → l[i]? = some d → TmO w (Ss i) (f i) d.tm.args
  sub : ∀ i b, i < k → Ss i b → w0.heap.size ≤ b ∧ b < w.heap.size
  dis : ∀ i j b, i < k → j < k → i ≠ j → Ss i b → Ss j b → False

theorem MadeC.start (w0 w : World) (xs : List Value) (l : List Lt) : MadeC w0 w xs l 0 (fun _ => .slice none 0 0) (fun _ _ => False) :=
  ⟨fun i t h => absurd h (Nat.not_lt_zero _), fun i t h => absurd h (Nat.not_lt_zero _), fun i b h => absurd h (Nat.not_lt_zero _), fun i j b h => absurd h (Nat.not_lt_zero _)⟩

theorem MadeC.keep {w0 w w' : World} {xs : List Value} {l : List Lt} {k : Nat} {f : Nat → Value} {Ss : Nat → Nat → Prop} (h : MadeC w0 w xs l k f Ss) (hz : w.heap.size ≤ w'.heap.size)
    (hf : ∀ i b, i < k → Ss i b → w'.heap[b]? = w.heap[b]?) : MadeC w0 w' xs l k f Ss :=
  ⟨h.cells, fun i t hi ht => (h.own i t hi ht).frame fun b hb => hf i b hi hb, fun i b hi hb => ⟨(h.sub i b hi hb).1, Nat.lt_of_lt_of_le (h.sub i b hi hb).2 hz⟩, h.dis⟩

theorem MadeC.next {w0 w w' : World} {xs xs' : List Value} {l : List Lt} {k : Nat} {f : Nat → Value} {Ss : Nat → Nat → Prop} {d : Lt} {va : Value} {S : Nat → Prop} (h : MadeC w0 w xs l k f Ss)
    (ht : l[k]? = some d) (hk : ∀ i, i < k → xs'[i * 3]? = xs[i * 3]? ∧ xs'[i * 3 + 1]? = xs[i * 3 + 1]? ∧ xs'[i * 3 + 2]? = xs[i * 3 + 2]?)
    (h0 : xs'[k * 3]? = some (.bool d.var)) (h1 : xs'[k * 3 + 1]? = some (.string d.tm.name)) (h2 : xs'[k * 3 + 2]? = some va)
    (ho : TmO w' S va d.tm.args) (hS : ∀ b, S b → w.heap.size ≤ b ∧ b < w'.heap.size) (hz : w.heap.size ≤ w'.heap.size) (hw : w0.heap.size ≤ w.heap.size)
    (hf : ∀ i b, i < k → Ss i b → w'.heap[b]? = w.heap[b]?) : MadeC w0 w' xs' l (k + 1) (fun i => if i = k then va else f i) (fun i => if i = k then S else Ss i) := by
  have h' := h.keep hz hf
  refine ⟨fun i s hi hs => ?_, fun i s hi hs => ?_, fun i b hi hb => ?_, fun i j b hi hj hij hb hb' => ?_⟩
  · by_cases e : i = k
    · subst e; rw [ht] at hs; injection hs with hs; subst hs; simp only [if_pos]; exact ⟨h0, h1, h2⟩
    · obtain ⟨k0, k1, k2⟩ := hk i (by omega)
      rw [k0, k1, k2]; simp only [if_neg e]; exact h.cells i s (by omega) hs
  · by_cases e : i = k
    · subst e; rw [ht] at hs; injection hs with hs; subst hs; simp only [if_pos]; exact ho
    · simp only [if_neg e]; exact h'.own i s (by omega) hs
  · by_cases e : i = k
    · subst e; simp only [if_pos] at hb; have := hS b hb; omega
    · simp only [if_neg e] at hb; exact h'.sub i b (by omega) hb
  · by_cases e : i = k
    · by_cases e' : j = k
      · omega
      · simp only [if_pos e] at hb; simp only [if_neg e'] at hb'
        have a := hS b hb
        have c := h.sub j b (by omega) hb'
        omega
    · by_cases e' : j = k
      · simp only [if_neg e] at hb; simp only [if_pos e'] at hb'
        have a := hS b hb'
        have c := h.sub i b (by omega) hb
        omega
      · simp only [if_neg e] at hb; simp only [if_neg e'] at hb'
        exact h.dis i j b (by omega) (by omega) hij hb hb'

theorem MadeC.whole {w0 w : World} {base : Nat} {v : Value} {xs : List Value} {l : List Lt} {f : Nat → Value} {Ss : Nat → Nat → Prop} (hown : w.ownsRow base 41 3 v l.length xs)
    (hm : MadeC w0 w xs l l.length f Ss) (hb : w0.heap.size ≤ base) (hne : ∀ g, v.ownBlock = some g → ∀ i, i < l.length → ¬ Ss i g) : LtO w (Fresh w0 w) v l := by
  rcases hown.2 with ⟨rfl, h0⟩ | ⟨g, cap, cur, rfl, hbg, hg, hnc, hcm, hcs, htake⟩
  · have : l = [] := List.length_eq_zero_iff.1 h0
    subst this; exact .inl ⟨_, _, rfl, rfl⟩
  · by_cases h0 : l.length = 0
    · have : l = [] := List.length_eq_zero_iff.1 h0
      subst this; exact .inl ⟨_, _, rfl, rfl⟩
    · have hlt : g < w.heap.size := (Array.getElem?_eq_some_iff.1 hg).1
      have hcell : ∀ j u, xs[j]? = some u → w.cell? ⟨g, j, none⟩ = some u := fun j u hj => by
        have hjl : j < xs.length := (List.getElem?_eq_some_iff.1 hj).1
        rw [hown.cellAt j (by have := hown.1; omega)]; exact hj
      refine .inr ⟨g, cap, f, Ss, rfl, by omega, ⟨by omega, hlt⟩, hnc, fun j => hown.frozenAt j, fun i d hi => ?_, fun i k hi hk => ⟨hm.sub i k hi hk, fun e => by subst e; exact hne k rfl i hi hk⟩, fun i j k hi hj hij => hm.dis i j k hi hj hij⟩
      have hlt' := (List.getElem?_eq_some_iff.1 hi).1
      obtain ⟨h0, h1, h2⟩ := hm.cells i d hlt' hi
      exact ⟨hcell _ _ h0, hcell _ _ h1, hcell _ _ h2, hm.own i d hlt' hi⟩

end Go.Proofs.YtohalpafmcobpaaGreat

/- The multisets of two literals: the plain facts. The two sides list their elements in different orders; the comparison does not see it. No condition. -/
namespace Go.Proofs.YtohalpafmcobpaaGreat
open Go.RowKit
set_option linter.unusedVariables false

theorem rem1_perm (t : Tm) {l l' : List Tm} (h : l.Perm l') : (rem1 t l).Perm (rem1 t l') := by
  induction h with
  | nil => exact .nil
  | cons x h ih =>
    rw [rem1, rem1]
    split
    · exact h
    · exact ih.cons x
  | swap x y l =>
    by_cases h1 : eqT x t = true
    · by_cases h2 : eqT y t = true
      · have e1 := eqT_iff.1 h1
        have e2 := eqT_iff.1 h2
        subst e1; subst e2; exact .refl _
      · rw [rem1, if_neg h2, rem1, if_pos h1]
        conv => rhs; rw [rem1, if_pos h1]
    · by_cases h2 : eqT y t = true
      · rw [rem1, if_pos h2]
        conv => rhs; rw [rem1, if_neg h1, rem1, if_pos h2]
      · rw [rem1, if_neg h2, rem1, if_neg h1, rem1, if_neg h1, rem1, if_neg h2]
        exact .swap _ _ _
  | trans h1 h2 ih1 ih2 => exact ih1.trans ih2
theorem wcL_permL {b : List Tm} : ∀ {a a' : List Tm}, a.Perm a' → (wcL a b).Perm (wcL a' b) := by
  induction b with
  | nil => intro a a' h; exact h
  | cons t r ih => intro a a' h; rw [wcL, wcL]; exact ih (rem1_perm t h)
theorem wcL_permR {b b' : List Tm} (h : b.Perm b') : ∀ a : List Tm, wcL a b = wcL a b' := by
  induction h with
  | nil => intro a; rfl
  | cons x h ih => intro a; rw [wcL, wcL]; exact ih _
  | swap x y l => intro a; rw [wcL, wcL, wcL, wcL, rem1_comm]
  | trans h1 h2 ih1 ih2 => intro a; rw [ih1, ih2]
theorem wcL_perm {a a' b b' : List Tm} (h : a.Perm a') (h' : b.Perm b') : (wcL a b).Perm (wcL a' b') := by
  rw [← wcL_permR h']; exact wcL_permL h
theorem any_perm {p : Tm → Bool} {l l' : List Tm} (h : l.Perm l') : l.any p = l'.any p := by
  rw [Bool.eq_iff_iff, List.any_eq_true, List.any_eq_true]
  exact ⟨fun ⟨x, h1, h2⟩ => ⟨x, h.mem_iff.1 h1, h2⟩, fun ⟨x, h1, h2⟩ => ⟨x, h.mem_iff.2 h1, h2⟩⟩
theorem all_perm {p : Tm → Bool} {l l' : List Tm} (h : l.Perm l') : l.all p = l'.all p := by
  rw [Bool.eq_iff_iff, List.all_eq_true, List.all_eq_true]
  exact ⟨fun k x h1 => k x (h.mem_iff.2 h1), fun k x h1 => k x (h.mem_iff.1 h1)⟩
theorem domB_perm {o : Od} {x x' y y' : List Tm} (h : x.Perm x') (h' : y.Perm y') : o.domB x y = o.domB x' y' := by
  unfold Od.domB
  rw [all_perm h']
  congr 1
  funext t
  exact any_perm h
theorem empty_perm {l l' : List Tm} (h : l.Perm l') : l.isEmpty = l'.isEmpty := by
  have := h.length_eq
  cases l <;> cases l' <;> simp_all
theorem mulC_perm {o : Od} {a a' b b' : List Tm} (h : a.Perm a') (h' : b.Perm b') : o.mulC a b = o.mulC a' b' := by
  unfold Od.mulC
  have h1 := wcL_perm h h'
  have h2 := wcL_perm h' h
  rw [empty_perm h1, empty_perm h2, domB_perm h1 h2, domB_perm h2 h1]

/-- The elements of a literal's multiset: each once. -/
def Lt.base (d : Lt) : List Tm := if isEqB d.tm.name then d.tm.args else [d.tm, zT]
/-- As often as the sign says: the program's order, and the model's. -/
def Lt.msI (d : Lt) : List Tm := if d.var then d.base else d.base ++ d.base
def dup (p : Bool) : List Tm → List Tm
  | [] => []
  | t :: r => (if p then [t] else [t, t]) ++ dup p r
def Lt.msS (d : Lt) : List Tm := dup d.var d.base
theorem dup_append (p : Bool) (a b : List Tm) : dup p (a ++ b) = dup p a ++ dup p b := by
  induction a with
  | nil => rfl
  | cons t r ih => rw [List.cons_append, dup, dup, ih, List.append_assoc]
theorem dup_next {p : Bool} {l : List Tm} {k : Nat} {t : Tm} (h : l[k]? = some t) : dup p (l.take (k + 1)) = dup p (l.take k) ++ (if p then [t] else [t, t]) := by
  rw [take_next h, dup_append, dup, dup, List.append_nil]

theorem base_two {d : Lt} (h : atomB d.tm = true) : ∃ p q, d.base = [p, q] := by
  unfold Lt.base
  cases he : isEqB d.tm.name with
  | false => exact ⟨d.tm, zT, rfl⟩
  | true =>
    unfold atomB at h
    rw [he] at h
    simp only [if_true, Bool.and_eq_true, decide_eq_true_eq] at h
    have hl := h.1
    match hh : d.tm.args, hl with
    | [p, q], _ => exact ⟨p, q, by simp⟩
theorem ms_perm {d : Lt} (h : atomB d.tm = true) : d.msI.Perm d.msS := by
  obtain ⟨p, q, e⟩ := base_two h
  unfold Lt.msI Lt.msS
  rw [e]
  cases d.var with
  | true => simp [dup]
  | false =>
    simp only [Bool.false_eq_true, if_false, dup, List.cons_append, List.nil_append]
    exact (List.Perm.swap p q [q]).cons p

/-- A literal whose atom is valid and covered. -/
def Od.litOk (o : Od) (d : Lt) : Bool := if isEqB d.tm.name then o.eqOk d.tm else atomB d.tm && o.cov d.tm
theorem litOk_atom {o : Od} {d : Lt} (h : o.litOk d = true) : atomB d.tm = true := by
  unfold Od.litOk at h
  split at h
  · unfold Od.eqOk at h
    simp only [Bool.and_eq_true] at h
    exact h.2.1
  · rw [Bool.and_eq_true] at h; exact h.1
/-- Whether an element is covered, as the model asks. -/
def Od.elB (o : Od) (t : Tm) : Bool := decide (t.name.size = 0) || o.cov t
theorem atom_good {t : Tm} (h : atomB t = true) (he : isEqB t.name = false) : goodB t = true ∧ t.name.size ≠ 0 := by
  unfold atomB at h
  rw [he] at h
  simp only [Bool.false_eq_true, if_false, Bool.and_eq_true] at h
  exact ⟨h.2, symB_pos h.1⟩
theorem atom_subs {t : Tm} (h : atomB t = true) (he : isEqB t.name = true) : ∀ x ∈ t.args, goodB x = true := by
  unfold atomB at h
  rw [he] at h
  simp only [if_true, Bool.and_eq_true, List.all_eq_true] at h
  intro x hx
  have hn := h.2.2 x hx
  have hf := h.2.1
  unfold goodB
  rw [Bool.and_eq_true]
  refine ⟨?_, hn⟩
  unfold fitsB at hf ⊢
  simp only [Bool.and_eq_true, decide_eq_true_eq] at hf ⊢
  have h1 := sumL_mem (f := Tm.sz) hx
  have h2 := t.sz_eq
  have h3 := maxL_mem (f := Tm.dp) hx
  have h4 := t.dp_eq
  omega
theorem good_pos {t : Tm} (h : goodB t = true) : t.name.size ≠ 0 := by
  unfold goodB at h
  rw [Bool.and_eq_true] at h
  exact nodesB_pos h.2
theorem elB_cov {o : Od} {t : Tm} (h : t.name.size ≠ 0) : o.elB t = o.cov t := by unfold Od.elB; rw [decide_eq_false h]; rfl
theorem litOk_base {o : Od} {d : Lt} (h : atomB d.tm = true) : o.litOk d = d.base.all o.elB := by
  unfold Od.litOk Lt.base
  cases he : isEqB d.tm.name with
  | true =>
    simp only [if_true]
    unfold Od.eqOk
    rw [he, h, Bool.true_and, Bool.true_and, Bool.eq_iff_iff, List.all_eq_true, List.all_eq_true]
    constructor
    · intro k x hx; rw [elB_cov (good_pos (atom_subs h he x hx))]; exact k x hx
    · intro k x hx; rw [← elB_cov (good_pos (atom_subs h he x hx))]; exact k x hx
  | false =>
    simp only [Bool.false_eq_true, if_false]
    rw [h, Bool.true_and]
    have e1 := elB_cov (o := o) (atom_good h he).2
    have e2 : o.elB zT = true := by unfold Od.elB; rw [decide_eq_true (show zT.name.size = 0 from rfl)]; rfl
    simp [e1, e2]
theorem litOk_z {o : Od} {d : Lt} (hw : d.tm.wt ≤ 1048576) (h : o.litOk d = true) : ∀ t ∈ d.base, o.OkZ t := by
  have ha := litOk_atom h
  unfold Od.litOk at h
  unfold Lt.base
  intro t ht
  cases he : isEqB d.tm.name with
  | true =>
    rw [he] at h ht
    simp only [if_true] at h ht
    unfold Od.eqOk at h
    simp only [Bool.and_eq_true, List.all_eq_true] at h
    exact okZ_of (Nat.le_trans (Tm.wt_arg ht) hw) (by rw [atom_subs ha he t ht, h.2.2 t ht]; rfl)
  | false =>
    rw [he] at h ht
    simp only [Bool.false_eq_true, if_false] at h ht
    rcases List.mem_cons.1 ht with rfl | ht
    · rw [Bool.and_eq_true] at h
      exact okZ_of hw (by rw [(atom_good ha he).1, h.2]; rfl)
    · rw [List.mem_singleton.1 ht]; exact .inr rfl
theorem dup_mem {p : Bool} {l : List Tm} {t : Tm} (h : t ∈ dup p l) : t ∈ l := by
  induction l with
  | nil => cases h
  | cons x r ih =>
    rw [dup, List.mem_append] at h
    rcases h with h | h
    · have : t = x := by cases p <;> simpa using h
      rw [this]; exact List.mem_cons_self
    · exact List.mem_cons_of_mem _ (ih h)
theorem msS_z {o : Od} {d : Lt} (hw : d.tm.wt ≤ 1048576) (h : o.litOk d = true) : ∀ t ∈ d.msS, o.OkZ t := fun t ht => litOk_z hw h t (dup_mem ht)
theorem msI_z {o : Od} {d : Lt} (hw : d.tm.wt ≤ 1048576) (h : o.litOk d = true) : ∀ t ∈ d.msI, o.OkZ t := fun t ht => litOk_z hw h t (by
  unfold Lt.msI at ht
  split at ht
  · exact ht
  · rcases List.mem_append.1 ht with h | h <;> exact h)
theorem ms_len {d : Lt} (h : atomB d.tm = true) : d.msS.length ≤ 4 ∧ d.msI.length ≤ 4 := by
  obtain ⟨p, q, e⟩ := base_two h
  unfold Lt.msS Lt.msI
  rw [e]
  cases d.var <;> simp [dup]

/-- What the program asks of a literal. -/
theorem litOk_cov {o : Od} {d : Lt} (hg : o.good = true) : (atomB d.tm && o.covP [d.tm]) = o.litOk d := by
  unfold Od.litOk
  cases he : isEqB d.tm.name with
  | true =>
    simp only [if_true]
    have h := eqOk_eq o d.tm
    rw [he, hg, Bool.true_and, Bool.true_and] at h
    rw [h]
    cases hq : o.eqOk d.tm with
    | false => simp
    | true =>
      unfold Od.eqOk at hq
      simp only [Bool.and_eq_true] at hq
      rw [hq.2.1]; rfl
  | false =>
    simp only [Bool.false_eq_true, if_false]
    have h := cov_one o d.tm
    rw [he] at h
    simp only [Bool.not_false, Bool.and_true] at h
    have h2 : o.covP [d.tm] = (goodB d.tm && o.cov d.tm) := by unfold Od.covP; rw [hg]; simp [h]
    rw [h2]
    cases ha : atomB d.tm with
    | false => rfl
    | true => rw [(atom_good ha he).1]; rfl
theorem covP_g {o : Od} {l : List Tm} (h : o.covP l = true) : o.good = true := by
  unfold Od.covP at h
  rw [Bool.and_eq_true] at h
  exact h.1

def Od.ordOk (o : Od) (a b : Lt) : Bool := o.good && (o.litOk a && o.litOk b)
def Od.ordR (o : Od) (a b : Lt) : Int := if o.ordOk a b then o.mulC a.msS b.msS else 0
theorem ordR_no {o : Od} {a b : Lt} (h : o.ordOk a b = false) : o.ordR a b = 0 := by unfold Od.ordR; rw [h]; rfl
theorem ordR_yes {o : Od} {a b : Lt} (h : o.ordOk a b = true) : o.ordR a b = o.mulC a.msS b.msS := by unfold Od.ordR; rw [h]; rfl
theorem ordR_I {o : Od} {a b : Lt} (ha : atomB a.tm = true) (hb : atomB b.tm = true) : o.mulC a.msI b.msI = o.mulC a.msS b.msS := mulC_perm (ms_perm ha) (ms_perm hb)

end Go.Proofs.YtohalpafmcobpaaGreat

/- The library's Repeat of two terms, twice: a contract. No condition. -/
namespace Go.Proofs.YtohalpafmcobpaaGreat
open Go.RowKit
set_option linter.unusedVariables false
set_option linter.unusedSimpArgs false

/-- The library's copy at elements of several cells. -/
theorem run_copy_rowR {P : Program} (w : World) (dT sT ty elem : TypeId) (g o dLen dCap : Nat) (a : Addr) (sLen sCap : Nat) (cur : Array Value) (t : TypeId) (cs : List Value) (size n : Nat)
    (hu : P.underlying dT = some (.slice elem)) (hs : (P.info? elem).map (·.size) = some size)
    (hg : w.heap[g]? = some (.cells cur t (0, 0))) (hn : Nat.min sLen dLen = n) (hcl : cs.length = n * size)
    (hsrc : ∀ j v, cs[j]? = some v → w.cell? (a.add j) = some v) (hfit : o + cs.length ≤ cur.size) (h1 : ∀ v ∈ cs, v.oneCell' = true) :
    (Builtin.copy_ #[dT, sT] ty #[.slice (some ⟨g, o, none⟩) dLen dCap, .slice (some a) sLen sCap]).run P w =
      .ok (goInt n) (w.setRow g (cur.toList.take o ++ cs ++ cur.toList.drop (o + cs.length)).toArray) := by
  have hl := run_loadCells_list (P := P) w a cs hsrc
  have hst := run_storeCells_at P g o t cs 0 cur w hg (by simpa using hfit) h1
  cases hq : P.info? elem with
  | none => simp [hq] at hs
  | some i =>
    have hi : i.size = size := by simpa [hq] using hs
    rw [hcl] at hl
    simp [Builtin.copy_, run_underlying hu, Builtin.lenOf, Builtin.firstCells, sizeOf, typeInfo, hq, hi, hn, hl, hst]
theorem wpList_copy_runR {P : Program} (w : World) {ops : Array Oper} {rest : List Oper} {o : Oper} {a : Act} {Q : Exit → Act → World → Prop} (hgd : o.guard = none) (d s : Operand) (t t' : TypeId)
    (ho : o.op = .call { callee := .builtin .copy, args := #[d, s], argTypes := #[t, t'] }) (v u : Value) (hd : a.eval d = v) (hs : a.eval s = u) {v' : Value} {w' : World}
    (hr : (Builtin.copy_ #[t, t'] o.type #[v, u]).run P w = .ok v' w') (h : wpList P ops Q rest (a.put o.dst v') w') : wpList P ops Q (o :: rest) a w := by
  refine wpList_plain hgd fun K hK => ?_
  unfold Oper.wp
  simp [execOp, ho, resolve, invoke, builtin, hd, hs, hr, Result.andThen]
  exact hK _ _ h
theorem step_copy_runR {P : Program} {ops : Array Oper} {o : Oper} {a : Act} {w : World} {K : Act → World → Prop} {Q : Exit → Act → World → Prop} {E : Prop}
    (hg : o.guard = none) (d x : Operand) (dT sT : TypeId) (hop : o.op = Op.call { callee := Callee.builtin Builtin.copy, args := #[d, x], argTypes := #[dT, sT] })
    (v u : Value) (hd : a.eval d = v) (hx : a.eval x = u) {v' : Value} {w' : World} (hr : (Builtin.copy_ #[dT, sT] o.type #[v, u]).run P w = .ok v' w') (hK : K (a.put o.dst v') w') :
    if Region.wanted o (yielded ops a.tmps) = true then Oper.wp P o a w K Q else E := by
  have hw : Region.wanted o (yielded ops a.tmps) = true := by simp [Region.wanted, hg]
  rw [if_pos hw]
  unfold Oper.wp
  simp [execOp, hop, resolve, invoke, builtin, hd, hx, hr, Result.andThen]
  exact hK
theorem addrR (g j : Nat) : (⟨g, 0, none⟩ : Addr).add j = ⟨g, j, none⟩ := by unfold Addr.add; split <;> simp_all
theorem addrO (g o j : Nat) : (⟨g, o, none⟩ : Addr).add j = ⟨g, o + j, none⟩ := by unfold Addr.add; split <;> simp_all

/-- A row that fills its block: the block. -/
theorem whole2 {w : World} {base : Nat} {e : TypeId} {g n s : Nat} {xs : List Value} (h : w.ownsRow base e s (.slice (some ⟨g, 0, none⟩) n n) n xs) : w.heap[g]? = some (.cells xs.toArray e (0, 0)) := by
  rcases h.2 with ⟨e1, _⟩ | ⟨g', cap, cur, e1, _, hg, _, _, hcs, ht⟩
  · cases e1
  · injection e1 with e2 e3 e4
    injection e2 with e2
    injection e2 with e2
    subst e2; subst e4
    rw [hg, ← ht, List.take_of_length_le (by simp [hcs])]

/-- Four cells of two terms. -/
def fourC (x : Tm) (vx : Value) (y : Tm) (vy : Value) : List Value := [.string x.name, vx, .string y.name, vy]
def RptEnd (x y : Tm) (w : World) (e : Ending) (w' : World) : Prop := ∃ v, e = .returned v ∧ TmS w' v [x, y, x, y] ∧ Below w.heap.size w w'

theorem rpt_read {w : World} {g c : Nat} {x y : Tm} {vx vy : Value} (hx : TmS w vx x.args) (hy : TmS w vy y.args) {fr : Nat × Nat} {T : TypeId} (hg : w.heap[g]? = some (.cells (fourC x vx y vy ++ fourC x vx y vy).toArray T fr)) :
    TmS w (.slice (some ⟨g, 0, none⟩) 4 c) [x, y, x, y] := by
  have hc : ∀ j u, (fourC x vx y vy ++ fourC x vx y vy)[j]? = some u → w.cell? ⟨g, j, none⟩ = some u := fun j u hj => by
    simp only [World.cell?, hg]
    simpa using hj
  refine .row g 0 c [x, y, x, y] (fun i => if i = 0 then vx else if i = 1 then vy else if i = 2 then vx else vy) (by simp) (fun i s hi => ?_) (fun i s hi => ?_) (fun i s hi => ?_)
  all_goals
    have hi4 : i < 4 := by have := (List.getElem?_eq_some_iff.1 hi).1; simpa using this
    rcases (show i = 0 ∨ i = 1 ∨ i = 2 ∨ i = 3 by omega) with rfl | rfl | rfl | rfl
  all_goals
    have e := (List.getElem?_eq_some_iff.1 hi).2
    simp only [List.getElem_cons_zero, List.getElem_cons_succ] at e
    subst e
  · exact hc 0 _ rfl
  · exact hc 2 _ rfl
  · exact hc 4 _ rfl
  · exact hc 6 _ rfl
  · exact hc 1 _ rfl
  · exact hc 3 _ rfl
  · exact hc 5 _ rfl
  · exact hc 7 _ rfl
  · exact hx
  · exact hy
  · exact hx
  · exact hy

theorem step1 (Z X : List Value) (hX : X.length = 4) (hZ : Z.length = 8) : Z.take 0 ++ X ++ Z.drop (0 + X.length) = X ++ Z.drop 4 := by rw [hX]; simp
theorem step2 (Z X : List Value) (hX : X.length = 4) (hZ : Z.length = 8) : (X ++ Z.drop 4).take 4 ++ X ++ (X ++ Z.drop 4).drop (4 + X.length) = X ++ X := by
  rw [hX, List.take_append_of_le_length (by omega), List.take_of_length_le (by omega), List.drop_eq_nil_of_le (by simp; omega), List.append_nil]

theorem rpt_runs (x y : Tm) (w w1 : World) (g b off c : Nat) (Z X : List Value) (vx vy : Value) (hb : Below w.heap.size w w1) (hg0 : w.heap.size ≤ g) (hg : w1.heap[g]? = some (.cells Z.toArray 39 (0, 0))) (hZ : Z.length = 8) (hX : X = fourC x vx y vy) (hX1 : ∀ u ∈ X, u.oneCell' = true)
    (hsrc : ∀ W, Below w.heap.size w W → ∀ j u, X[j]? = some u → W.cell? ((⟨b, off, none⟩ : Addr).add j) = some u) (hx : TmS w vx x.args) (hy : TmS w vy y.args) :
    ∃ W2 W3 : World, (∀ ty, (Builtin.copy_ #[37, 37] ty #[.slice (some ⟨g, 0, none⟩) 4 4, .slice (some ⟨b, off, none⟩) 2 c]).run Tryz.prog w1 = .ok (.int .i64 2) W2) ∧
      (∀ ty dc sc, (Builtin.copy_ #[37, 37] ty #[.slice (some ⟨g, 4, none⟩) 2 dc, .slice (some ⟨g, 0, none⟩) 2 sc]).run Tryz.prog W2.drew = .ok (.int .i64 2) W3) ∧ TmS W3 (.slice (some ⟨g, 0, none⟩) 4 4) [x, y, x, y] ∧ Below w.heap.size w W3 := by
  obtain ⟨i0, hi, hz0, hz1, hz2⟩ := info_parts infoTm
  have hsz : (Tryz.prog.info? 39).map (·.size) = some 2 := by rw [hi]; simp [hz1]
  have hXl : X.length = 4 := by rw [hX]; rfl
  have h1 := fun ty => run_copy_rowR (P := Tryz.prog) w1 37 37 ty 39 g 0 4 4 ⟨b, off, none⟩ 2 c Z.toArray 39 X 2 2 Tryz.underlying37 hsz hg (by rfl) (by omega) (hsrc w1 hb) (by simp; omega) hX1
  rw [show (Z.toArray.toList.take 0 ++ X ++ Z.toArray.toList.drop (0 + X.length)) = X ++ Z.drop 4 from by simpa using step1 Z X hXl hZ] at h1
  obtain ⟨W2, hW2⟩ : ∃ W2, W2 = w1.setRow g (X ++ Z.drop 4).toArray := ⟨_, rfl⟩
  rw [← hW2] at h1
  have hg2 : W2.heap[g]? = some (.cells (X ++ Z.drop 4).toArray 39 (0, 0)) := by rw [hW2]; exact setRow_heap w1 g _ _ _ _ hg
  have hb2 : Below w.heap.size w W2 := by rw [hW2]; exact below_setRow hb hg0 _
  have hs2 : ∀ j u, X[j]? = some u → W2.drew.cell? ((⟨g, 0, none⟩ : Addr).add j) = some u := fun j u hj => by
    rw [addrR]
    show W2.cell? ⟨g, j, none⟩ = some u
    have hjl := (List.getElem?_eq_some_iff.1 hj).1
    simp only [World.cell?, hg2]
    simp only [List.getElem?_toArray]
    rw [List.getElem?_append_left hjl]; simpa using hj
  have hl2 : (X ++ Z.drop 4).length = 8 := by simp; omega
  have h2 := fun ty dc sc => run_copy_rowR (P := Tryz.prog) W2.drew 37 37 ty 39 g 4 2 dc ⟨g, 0, none⟩ 2 sc (X ++ Z.drop 4).toArray 39 X 2 2 Tryz.underlying37 hsz hg2 (by rfl) (by omega) hs2 (by simp; omega) hX1
  rw [show ((X ++ Z.drop 4).toArray.toList.take 4 ++ X ++ (X ++ Z.drop 4).toArray.toList.drop (4 + X.length)) = X ++ X from by simpa using step2 Z X hXl hZ] at h2
  refine ⟨W2, W2.drew.setRow g (X ++ X).toArray, h1, h2, ?_, ?_⟩
  · have hg3 : (W2.drew.setRow g (X ++ X).toArray).heap[g]? = some (.cells (X ++ X).toArray 39 (0, 0)) := setRow_heap W2.drew g _ _ _ _ hg2
    have hb3 : Below w.heap.size w (W2.drew.setRow g (X ++ X).toArray) := below_setRow hb2.drew hg0 _
    rw [hX] at hg3 hb3 ⊢
    exact rpt_read (hx.kept hb3) (hy.kept hb3) hg3
  · exact below_setRow hb2.drew hg0 _

set_option maxRecDepth 100000 in
set_option maxHeartbeats 4000000 in
theorem rptT_any (x y : Tm) (w : World) (v : Value) (hv : TmS w v [x, y]) : Calls Tryz.prog 126 #[v, .int .i64 2] w (RptEnd x y w) := by
  obtain ⟨i0, hi, hz0, hz1, hz2⟩ := info_parts infoTm
  have hsz : (Tryz.prog.info? 39).map (·.size) = some 2 := by rw [hi]; simp [hz1]
  have CM : ∀ W, Calls Tryz.prog 160 #[.int .u64 2, .int .u64 2] W fun e w' => e = .returned (.tuple #[.int .u64 0, .int .u64 4]) ∧ W = w' := fun W => (Tryz.bits_Mul 2 2 (by omega) (by omega) W).mono fun e w' h => ⟨by simpa using h.1, h.2.symm⟩
  have HCM := Lib.hid CM
  rcases hv.parts with ⟨a', c', rfl, h0⟩ | ⟨b, off, c, rfl, hp, hat⟩
  · cases h0
  obtain ⟨vx, x0, x1, x2⟩ := hat 0 x rfl
  obtain ⟨vy, y0, y1, y2⟩ := hat 1 y rfl
  obtain ⟨px, cx, rfl⟩ := x2.is_slice
  obtain ⟨py, cy, rfl⟩ := y2.is_slice
  simp only [Nat.zero_mul, Nat.add_zero, Nat.one_mul] at x0 x1 y0 y1
  obtain ⟨X, hX⟩ : ∃ X, X = fourC x (.slice px x.args.length cx) y (.slice py y.args.length cy) := ⟨_, rfl⟩
  have hXl : X.length = 4 := by rw [hX]; rfl
  have hX1 : ∀ u ∈ X, u.oneCell' = true := by
    rw [hX]; intro u hu
    simp only [fourC, List.mem_cons, List.not_mem_nil, or_false] at hu
    rcases hu with rfl | rfl | rfl | rfl <;> rfl
  have HSRC : Hid (∀ W, Below w.heap.size w W → ∀ j u, X[j]? = some u → W.cell? ((⟨b, off, none⟩ : Addr).add j) = some u) := Lib.hid (fun W hW j u hj => by
    rw [addrO]
    have hj4 : j < 4 := by have := (List.getElem?_eq_some_iff.1 hj).1; omega
    rw [hX] at hj
    rcases (show j = 0 ∨ j = 1 ∨ j = 2 ∨ j = 3 by omega) with rfl | rfl | rfl | rfl
    · have e : Value.string x.name = u := by simpa [fourC] using hj
      subst e; exact carry_cell x0 hW
    · have e : Value.slice px x.args.length cx = u := by simpa [fourC] using hj
      subst e; exact carry_cell x1 hW
    · have e : Value.string y.name = u := by simpa [fourC] using hj
      subst e; exact carry_cell y0 hW
    · have e : Value.slice py y.args.length cy = u := by simpa [fourC] using hj
      subst e; exact carry_cell y1 hW)
  have HX := Lib.hid x2
  have HY := Lib.hid y2
  have HXX := Lib.hid hX
  clear x0 x1 y0 y1 x2 y2 hat hv hX hp
  go_enter Tryz.func126, Tryz.ntmps126
  go_wp2_with fail
  refine (HCM.out _).mono ?_
  rintro e w0 ⟨rfl, rfl⟩
  go_wp2_with (at_make; refine wpList_make_full _ rfl _ _ 37 rfl w.heap.size 39 i0 (.agg #[.string ByteArray.empty, .slice none 0 0]) 2 Tryz.underlying37 hi hz0 hz1 .i64 .i64 _ _ 4 rfl rfl rfl rfl (by rw [hz2]; omega) (by unfold maxLen; omega) (Nat.le_refl _) ?_; intro w1 hown1 hg1; have HR1 := Lib.hid (whole2 hown1); have HL1 := Lib.hid hown1.1; have HB1 := Lib.hid ((Below.refl w.heap.size w).grown hg1 (Nat.le_refl _) (by simp)); clear hown1 hg1; generalize (madeCells (Value.agg #[Value.string ByteArray.empty, Value.slice none 0 0]).cells (4 * 2)).toList = Z at HR1 HL1; obtain ⟨W2, W3, hcp1, hcp2, hrd, hb3⟩ := rpt_runs x y w w1 w.heap.size b off c Z X _ _ HB1.out (Nat.le_refl _) HR1.out HL1.out HXX.out hX1 HSRC.out HX.out HY.out; have HRD := Lib.hid hrd; have HB3 := Lib.hid hb3; have HC2 := Lib.hid hcp2; clear hrd hb3 hcp2)
  refine wp_loop_rounds 2 ?_
  clear hcp1
  rw [rounds_succ]
  have hcp2 := HC2.out
  go_wp2
  go_region_law (fail)
  all_goals
    go_wp2
    rw [rounds_succ]
    go_wp2
    go_ret
    first
      | exact ⟨_, rfl, HRD.out, HB3.out⟩
      | exact ⟨_, rfl, HRD.out.drew, HB3.out.drew⟩

end Go.Proofs.YtohalpafmcobpaaGreat

/- The model's multiset of a literal, and OrderLiterals, the model's: contracts, for orderings and literals of at most 1048576 names' bytes and elements. -/
namespace Go.Proofs.YtohalpafmcobpaaGreat
open Go.RowKit
set_option linter.unusedVariables false
set_option linter.unusedSimpArgs false

/-- A slice of two terms, just built. -/
theorem tmS_pr {w : World} {s t : Tm} {va vb : Value} (hs : TmS w va s.args) (ht : TmS w vb t.args) (g c : Nat) (h0 : w.cell? ⟨g, 0, none⟩ = some (.string s.name)) (h1 : w.cell? ⟨g, 1, none⟩ = some va) (h2 : w.cell? ⟨g, 2, none⟩ = some (.string t.name)) (h3 : w.cell? ⟨g, 3, none⟩ = some vb) :
    TmS w (.slice (some ⟨g, 0, none⟩) 2 c) [s, t] := by
  refine .row g 0 c [s, t] (fun i => if i = 0 then va else vb) (by simp) (fun i x hi => ?_) (fun i x hi => ?_) (fun i x hi => ?_)
  all_goals
    have hi2 : i < 2 := by have := (List.getElem?_eq_some_iff.1 hi).1; simpa using this
    rcases (show i = 0 ∨ i = 1 by omega) with rfl | rfl
  · have e : s = x := by simpa using hi
    subst e; exact h0
  · have e : t = x := by simpa using hi
    subst e; exact h2
  · have e : s = x := by simpa using hi
    subst e; exact h1
  · have e : t = x := by simpa using hi
    subst e; exact h3
  · have e : s = x := by simpa using hi
    subst e; exact hs
  · have e : t = x := by simpa using hi
    subst e; exact ht
/-- The atom and the special constant, just built. -/
theorem tmS_z {w : World} {d : Lt} {va : Value} (hs : TmS w va d.tm.args) {g : Nat} (hg : g = w.heap.size) : TmS (w.alloc (.cells #[.string d.tm.name, va, .string ⟨#[]⟩, .slice none 0 0] 39)) (.slice (some ⟨g, 0, none⟩) 2 2) [d.tm, zT] :=
  tmS_pr (hs.alloc _) (t := zT) (.emp _ _) g 2 (by rw [World.cell?_alloc_at _ _ _ _ hg]; rfl) (by rw [World.cell?_alloc_at _ _ _ _ hg]; rfl) (by rw [World.cell?_alloc_at _ _ _ _ hg]; rfl) (by rw [World.cell?_alloc_at _ _ _ _ hg]; rfl)
theorem ret_sl {v : Value} {a b : Bool} (h : a = b) : Ending.returned (.tuple #[v, .bool a]) = .returned (.tuple #[v, .bool b]) := by rw [h]
theorem base_eq {d : Lt} (h : isEqB d.tm.name = true) : d.base = d.tm.args := by unfold Lt.base; rw [h]; rfl
theorem base_no {d : Lt} (h : isEqB d.tm.name = false) : d.base = [d.tm, zT] := by unfold Lt.base; rw [h]; rfl
theorem base_len {d : Lt} (h : atomB d.tm = true) : d.base.length = 2 := by obtain ⟨p, q, e⟩ := base_two h; rw [e]; rfl
theorem litOk_no {o : Od} {d : Lt} (h : atomB d.tm = false) : o.litOk d = false := by
  cases hk : o.litOk d with
  | false => rfl
  | true => rw [litOk_atom hk] at h; cases h

theorem own_base {w : World} {b b' s n : Nat} {e : TypeId} {v : Value} {xs : List Value} (h : w.ownsRow b' e s v n xs) (hb : b ≤ b') : w.ownsRow b e s v n xs := by
  refine ⟨h.1, ?_⟩
  rcases h.2 with h1 | ⟨g, cap, cur, h1, h2, h3⟩
  · exact .inl h1
  · exact .inr ⟨g, cap, cur, h1, Nat.le_trans hb h2, h3⟩
theorem RowT.low {w0 w : World} {b b' : Nat} {v : Value} {L : List (Tm × Value)} (h : RowT w0 b' w v L) (hb : b ≤ b') : RowT w0 b w v L := ⟨own_base h.row hb, h.args⟩
/-- The elements of a list of terms that lies in memory, their arguments in a world before. -/
def AtL (w0 W : World) (pa : Option Addr) (l : List Tm) : Prop := ∀ (k : Nat) t, l[k]? = some t → ∃ b off px cx, pa = some ⟨b, off, none⟩ ∧ W.cell? ⟨b, off + k * 2, none⟩ = some (.string t.name) ∧ W.cell? ⟨b, off + k * 2 + 1, none⟩ = some (.slice px t.args.length cx) ∧ TmS w0 (.slice px t.args.length cx) t.args
theorem at_eq {w0 W : World} {pa : Option Addr} {n c : Nat} {l : List Tm} (h : TmS w0 (.slice pa n c) l) (hb : Below w0.heap.size w0 W) : AtL w0 W pa l := fun k t hk => by
  obtain ⟨b, off, e, va, c0, c1, hva⟩ := h.get hk
  obtain ⟨px, cx, rfl⟩ := hva.is_slice
  exact ⟨b, off, px, cx, e, carry_cell c0 hb, carry_cell c1 hb, hva⟩
theorem at_z {w0 w : World} {d : Lt} {pa : Option Addr} {ca : Nat} (hs : TmS w0 (.slice pa d.tm.args.length ca) d.tm.args) {g : Nat} (hg : g = w.heap.size) :
    AtL w0 (w.alloc (.cells #[.string d.tm.name, .slice pa d.tm.args.length ca, .string ⟨#[]⟩, .slice none 0 0] 39)) (some ⟨g, 0, none⟩) [d.tm, zT] := fun k t hk => by
  have hk2 : k < 2 := by have := (List.getElem?_eq_some_iff.1 hk).1; simpa using this
  rcases (show k = 0 ∨ k = 1 by omega) with rfl | rfl
  · have e : d.tm = t := by simpa using hk
    subst e
    exact ⟨g, 0, pa, ca, rfl, by rw [World.cell?_alloc_at _ _ _ _ hg]; rfl, by rw [World.cell?_alloc_at _ _ _ _ hg]; rfl, hs⟩
  · have e : zT = t := by simpa using hk
    subst e
    exact ⟨g, 0, none, 0, rfl, by rw [World.cell?_alloc_at _ _ _ _ hg]; rfl, by rw [World.cell?_alloc_at _ _ _ _ hg]; rfl, .emp _ _⟩

def LitEnd (o : Od) (d : Lt) (w0 w : World) (e : Ending) (w' : World) : Prop := ∃ v L, e = .returned (.tuple #[v, .bool (o.litOk d)]) ∧ RowT w0 w.heap.size w' v L ∧ (o.litOk d = true → tmsE L = d.msS) ∧ Below w.heap.size w w'
/-- What the loop keeps. -/
def OlR (o : Od) (p : Bool) (base : List Tm) (w0 w : World) (k : Nat) (nm : Value) (wr : World) : Prop :=
  ∃ L : List (Tm × Value), RowT w0 w.heap.size wr nm L ∧ tmsE L = dup p (base.take k) ∧ (base.take k).all o.elB = true ∧ L.length ≤ 2 * k ∧ Below w.heap.size w wr

set_option maxRecDepth 100000 in
set_option maxHeartbeats 8000000 in
theorem l6Lit_any (o : Od) (ho : o.wt ≤ 1048576) (d : Lt) (w0 w : World) (hb0 : Below w0.heap.size w0 w) (sv wv va : Value) (hv : OdV w sv wv o) (ht : TmS w0 va d.tm.args) (hw : d.tm.wt ≤ 1048576) :
    Calls Tryz.prog 38 #[.agg #[sv, wv, .int .i64 o.va], .agg #[.bool d.var, .string d.tm.name, va]] w (LitEnd o d w0 w) := by
  obtain ⟨sa, sc, wa, wc, rfl, rfl⟩ := hv.open
  obtain ⟨pa, ca, rfl⟩ := ht.is_slice
  obtain ⟨i1, gi, gz0, gz1, gz2⟩ := info_parts infoTm
  obtain ⟨pv, hpv⟩ : ∃ pv, pv = d.var := ⟨_, rfl⟩
  have HPV := Lib.hid hpv
  rw [← hpv]
  clear hpv
  obtain ⟨w1, hw1⟩ : ∃ w1, (w.alloc (.cells #[.slice sa o.sy.length sc, .slice wa o.ws.length wc, .int .i64 o.va] 35)).alloc (.cells #[.bool pv, .string d.tm.name, .slice pa d.tm.args.length ca] 41) = w1 := ⟨_, rfl⟩
  have HB : Hid (Below w.heap.size w w1) := Lib.hid (by rw [← hw1]; exact ((Below.refl w.heap.size w).alloc (Nat.le_refl _) _).alloc (by simp) _)
  have H3 : Hid (OdB w1 w.heap.size (.slice sa o.sy.length sc) (.slice wa o.ws.length wc) o) := Lib.hid (by rw [← hw1]; exact (thr_new w _ _ _ _ _ rfl).alloc _)
  have HL : Hid (Thr w1 (w.heap.size + 1) (.bool pv) (.string d.tm.name) (.slice pa d.tm.args.length ca)) := Lib.hid (by rw [← hw1]; exact thr_new _ _ _ _ _ (w.heap.size + 1) (by simp))
  have HV := Lib.hid hv
  have HT := Lib.hid ht
  have CA := Lib.hid (fun W (hW : Below w.heap.size w W) => l2Atom_any d.tm W _ (ht.kept (hb0.trans (hW.mono hb0.size))) hw)
  have HB0 := Lib.hid hb0
  clear hv ht hb0
  obtain ⟨b0, b1, b2, b3⟩ := H3.out
  obtain ⟨l0, l1, l2, l3⟩ := HL.out
  go_enter Tryz.func38, Tryz.ntmps38
  go_wp2_with fail
  refine (CA.out _ HB.out).mono ?_
  rintro e w2 ⟨rfl, hb⟩
  replace HB := Lib.hid (carry_below HB.out (Nat.le_refl _) hb)
  replace H3 := Lib.hid (H3.out.kept hb)
  replace HL := Lib.hid (HL.out.kept hb)
  clear hb b0 b1 b2 b3 l0 l1 l2 l3 hw1 CA
  obtain ⟨b0, b1, b2, b3⟩ := H3.out
  obtain ⟨l0, l1, l2, l3⟩ := HL.out
  cases hat : atomB d.tm with
  | false =>
    have HE : Hid (LitEnd o d w0 w (.returned (.tuple #[.slice (some ⟨w2.heap.size, 0, none⟩) 0 0, .bool false])) (w2.alloc (.cells #[] 39))) := Lib.hid ⟨_, [], ret_sl (litOk_no hat).symm, ⟨World.ownsRow_made w2 #[] 0 HB.out.size (by decide) (by simp), fun e he => by cases he⟩, fun h => (by rw [litOk_no hat] at h; cases h), HB.out.alloc HB.out.size _⟩
    clear hat
    go_wp2
    go_ret2
    exact HE.out
  | true =>
    have HAT := Lib.hid hat
    have HBL := Lib.hid (base_len hat)
    have HLB := Lib.hid (litOk_base (o := o) hat)
    obtain ⟨W2, hW2⟩ : ∃ W2, w2.alloc (.cells #[.string d.tm.name, .slice pa d.tm.args.length ca, .string ⟨#[]⟩, .slice none 0 0] 39) = W2 := ⟨_, rfl⟩
    have hb : Below w2.heap.size w2 W2 := by rw [← hW2]; exact (Below.refl _ _).alloc (Nat.le_refl _) _
    have HB2 := Lib.hid (carry_below HB.out (Nat.le_refl _) hb)
    have H32 := Lib.hid (H3.out.kept hb)
    have HL2 := Lib.hid (HL.out.kept hb)
    have HTZ : Hid (AtL w0 W2 (some ⟨w2.heap.size, 0, none⟩) [d.tm, zT]) := Lib.hid (by rw [← hW2]; exact at_z HT.out rfl)
    have HTA : Hid (AtL w0 W2 pa d.tm.args) := Lib.hid (at_eq HT.out (HB0.out.trans (HB2.out.mono HB0.out.size)))
    clear hb hat b0 b1 b2 b3
    obtain ⟨m0, m1, m2, m3⟩ := HL2.out
    cases he : isEqB d.tm.name with
    | true =>
      have hq : (d.tm.name.toList == [61]) = true := he
      obtain ⟨base, hbase⟩ : ∃ base, base = d.base := ⟨_, rfl⟩
      have HBA := Lib.hid hbase
      have HLS : Hid (AtL w0 W2 pa base) := Lib.hid (by rw [hbase, base_eq he]; exact HTA.out)
      have hbl : base.length = 2 := by rw [hbase]; exact HBL.out
      have hln : d.tm.args.length = 2 := by
        first
          | rfl
          | (have := base_eq he; rw [← this]; exact HBL.out)
      have hl2 : 1 < d.tm.args.length := by omega
      have HLN := Lib.hid hln
      have HBN := Lib.hid hbl
      obtain ⟨W3, hW3⟩ : ∃ W3, W2.alloc (.cells #[] 39) = W3 := ⟨_, rfl⟩
      have HR : Hid (OlR o pv base w0 W2 0 (.slice (some ⟨W2.heap.size, 0, none⟩) 0 0) W3) := Lib.hid (by rw [← hW3]; exact ⟨[], ⟨World.ownsRow_made W2 #[] 0 (Nat.le_refl _) (by decide) (by simp), fun e he => by cases he⟩, by simp [dup, tmsE], by simp, by simp, (Below.refl _ _).alloc (Nat.le_refl _) _⟩)
      clear he hbase hbl hln
      go_wp2
      try rw [hW3]
      clear hW3 hW2 l0 l1 l2 l3 m0 m1 m2 m3
      go_loopw [7, 8] (fun ov i wr => ∃ (k : Nat) (nm : Value), k ≤ 2 ∧ i = .int .i64 k ∧ nm = ov ∧ OlR o pv base w0 W2 k nm wr) (fun _ i _ => 2 - (intOf i).toNat)
      case atStart => exact ⟨0, _, by omega, rfl, rfl, HR.out⟩
      case round =>
        obtain ⟨k, nm, hk, rfl, rfl, L, hrt, htm, hel, hll, hb2⟩ := hrel
        have HRT := Lib.hid hrt
        have HTM := Lib.hid htm
        have HEL := Lib.hid hel
        have HB3 := Lib.hid hb2
        obtain ⟨vp, vc, rfl⟩ : ∃ p c, nm = .slice p L.length c := by
          rcases hrt.row.2 with ⟨rfl, h0⟩ | ⟨g, cap, cur, rfl, _⟩
          · exact ⟨none, 0, by rw [h0]⟩
          · exact ⟨_, _, rfl⟩
        clear hrt htm hel hb2
        by_cases hlt : k < 2
        · obtain ⟨t, hs⟩ : ∃ t, base[k]? = some t := ⟨_, List.getElem?_eq_getElem (by have := HBN.out; omega)⟩
          obtain ⟨b, off, px, cx, hbo, x0, x1, hvx⟩ := HLS.out k t hs
          cases hbo
          try simp only [Nat.zero_add] at x0 x1
          have HX0 := Lib.hid x0
          have HX1 := Lib.hid x1
          have HVX := Lib.hid hvx
          have HS := Lib.hid hs
          have hkl : k < d.tm.args.length := by have := HLN.out; omega
          have hwt : t.wt ≤ 1048576 := by
            have hm := mem_of_at hs
            rw [HBA.out] at hm
            unfold Lt.base at hm
            split at hm
            · exact Nat.le_trans (Tm.wt_arg hm) hw
            · rcases List.mem_cons.1 hm with rfl | hm
              · exact hw
              · rw [List.mem_singleton.1 hm]; simp [zT, Tm.wt, Tm.wtL]
          have HDN := Lib.hid (dup_next (p := pv) hs)
          clear hs hvx
          replace x0 := carry_cell x0 HB3.out
          replace x1 := carry_cell x1 HB3.out
          by_cases hn : t.name.size = 0
          · obtain ⟨e1, e2⟩ := str_none0 hn
            have HN : Hid ((base.take (k + 1)).all o.elB = true) := Lib.hid (by rw [all_next HS.out, HEL.out]; unfold Od.elB; rw [decide_eq_true hn]; rfl)
            clear hn
            go_wp2_with fail
            have hB0 : Below wr.heap.size wr wr.drew := (Below.refl _ _).drew
            refine wp_region_held_drew (S := (fun w' => w'.cell? ⟨b, off + k * 2, none⟩ = some (.string t.name) ∧ Below wr.heap.size wr w')) (by kernel_rfl) (by first | exact ⟨by assumption, by assumption⟩ | go_keep) (fun hHeld => ?_)
            refine takeYesE 0 (v := ?_) rfl (by kernel_rfl) (by kernel_rfl) (by kernel_rfl) (by rfl) (fun _ _ _ h => h) (by assumption) ?_ ?_; rotate_left; (intro w hSw; (try dsimp only at hSw); go_simp; try (with_reducible rfl))
            try simp only [Act.put, List.getElem_toArray, List.getElem_cons_zero, List.setIfInBounds_toArray, List.set_cons_zero, List.set_cons_succ]
            refine takeYesE 1 (v := ?_) rfl (by kernel_rfl) (by kernel_rfl) (by kernel_rfl) (by rfl) (fun _ _ _ h => h) (by assumption) ?_ ?_; rotate_left; (intro w hSw; (try dsimp only at hSw); go_simp; try (with_reducible rfl))
            try simp only [Act.put, List.getElem_toArray, List.getElem_cons_zero, List.getElem_cons_succ, List.setIfInBounds_toArray, List.set_cons_zero, List.set_cons_succ]
            refine takeYesE 2 (v := ?_) rfl (by kernel_rfl) (by kernel_rfl) (by kernel_rfl) (by rfl) (fun _ _ _ h => h) (by assumption) ?_ ?_; rotate_left; (intro w hSw; (try dsimp only at hSw); go_simp; try (with_reducible rfl))
            try simp only [Act.put, List.getElem_toArray, List.getElem_cons_zero, List.getElem_cons_succ, List.setIfInBounds_toArray, List.set_cons_zero, List.set_cons_succ]
            refine takeYesE 3 (v := ?_) rfl (by kernel_rfl) (by kernel_rfl) (by kernel_rfl) (by rfl) (fun _ _ _ h => h) (by assumption) ?_ ?_; rotate_left; (intro w hSw; (try dsimp only at hSw); go_simp; try (with_reducible rfl))
            try simp only [Act.put, List.getElem_toArray, List.getElem_cons_zero, List.getElem_cons_succ, List.setIfInBounds_toArray, List.set_cons_zero, List.set_cons_succ]
            refine takeYesE 4 (v := ?_) rfl (by kernel_rfl) (by kernel_rfl) (by kernel_rfl) (by rfl) (fun _ _ _ h => h) (by assumption) ?_ ?_; rotate_left; (intro w hSw; (try dsimp only at hSw); go_simp; try (with_reducible rfl))
            try simp only [Act.put, List.getElem_toArray, List.getElem_cons_zero, List.getElem_cons_succ, List.setIfInBounds_toArray, List.set_cons_zero, List.set_cons_succ]
            refine takeYesE 5 (v := ?_) rfl (by kernel_rfl) (by kernel_rfl) (by kernel_rfl) (by rfl) (fun _ _ _ h => h) (by assumption) ?_ ?_; rotate_left; (intro w hSw; (try dsimp only at hSw); go_simp; try (with_reducible rfl))
            try simp only [Act.put, List.getElem_toArray, List.getElem_cons_zero, List.getElem_cons_succ, List.setIfInBounds_toArray, List.set_cons_zero, List.set_cons_succ]
            refine takeYesE 6 (v := ?_) rfl (by kernel_rfl) (by kernel_rfl) (by kernel_rfl) (by rfl) (fun _ _ _ h => h) (by assumption) ?_ ?_; rotate_left; (intro w hSw; (try dsimp only at hSw); go_simp; try (with_reducible rfl))
            try simp only [Act.put, List.getElem_toArray, List.getElem_cons_zero, List.getElem_cons_succ, List.setIfInBounds_toArray, List.set_cons_zero, List.set_cons_succ]
            refine takeNoE 7 rfl (by kernel_rfl) (by kernel_rfl) (by kernel_rfl) (by rfl) (fun _ _ _ h => h) (by assumption) ?_
            try simp only [Act.put, List.getElem_toArray, List.getElem_cons_zero, List.getElem_cons_succ, List.setIfInBounds_toArray, List.set_cons_zero, List.set_cons_succ]
            refine takeNoE 8 rfl (by kernel_rfl) (by kernel_rfl) (by kernel_rfl) (by rfl) (fun _ _ _ h => h) (by assumption) ?_
            try simp only [Act.put, List.getElem_toArray, List.getElem_cons_zero, List.getElem_cons_succ, List.setIfInBounds_toArray, List.set_cons_zero, List.set_cons_succ]
            refine takeNoE 9 rfl (by kernel_rfl) (by kernel_rfl) (by kernel_rfl) (by rfl) (fun _ _ _ h => h) (by assumption) ?_
            try simp only [Act.put, List.getElem_toArray, List.getElem_cons_zero, List.getElem_cons_succ, List.setIfInBounds_toArray, List.set_cons_zero, List.set_cons_succ]
            refine takeNoE 10 rfl (by kernel_rfl) (by kernel_rfl) (by kernel_rfl) (by rfl) (fun _ _ _ h => h) (by assumption) ?_
            try simp only [Act.put, List.getElem_toArray, List.getElem_cons_zero, List.getElem_cons_succ, List.setIfInBounds_toArray, List.set_cons_zero, List.set_cons_succ]
            refine takeNoE 11 rfl (by kernel_rfl) (by kernel_rfl) (by kernel_rfl) (by rfl) (fun _ _ _ h => h) (by assumption) ?_
            try simp only [Act.put, List.getElem_toArray, List.getElem_cons_zero, List.getElem_cons_succ, List.setIfInBounds_toArray, List.set_cons_zero, List.set_cons_succ]
            refine takeNoE 12 rfl (by kernel_rfl) (by kernel_rfl) (by kernel_rfl) (by rfl) (fun _ _ _ h => h) (by assumption) ?_
            try simp only [Act.put, List.getElem_toArray, List.getElem_cons_zero, List.getElem_cons_succ, List.setIfInBounds_toArray, List.set_cons_zero, List.set_cons_succ]
            refine takeNoE 13 rfl (by kernel_rfl) (by kernel_rfl) (by kernel_rfl) (by rfl) (fun _ _ _ h => h) (by assumption) ?_
            try simp only [Act.put, List.getElem_toArray, List.getElem_cons_zero, List.getElem_cons_succ, List.setIfInBounds_toArray, List.set_cons_zero, List.set_cons_succ]
            refine takeYesE 14 (v := ?_) rfl (by kernel_rfl) (by kernel_rfl) (by kernel_rfl) (by rfl) (fun _ _ _ h => h) (by assumption) ?_ ?_; rotate_left; (intro w hSw; (try dsimp only at hSw); go_simp; try (with_reducible rfl))
            try simp only [Act.put, List.getElem_toArray, List.getElem_cons_zero, List.getElem_cons_succ, List.setIfInBounds_toArray, List.set_cons_zero, List.set_cons_succ]
            refine wpAnyH_done (by kernel_rfl) ?_ _
            obtain ⟨wz, hwz⟩ : ∃ wz, wz = wr.drew := ⟨_, rfl⟩
            have HBW : Hid (Below W2.heap.size W2 wz) := Lib.hid (by rw [hwz]; exact HB3.out.drew)
            have HRW : Hid (RowT w0 W2.heap.size wz (.slice vp L.length vc) L) := Lib.hid (by rw [hwz]; exact HRT.out.kept (Below.refl _ _).drew)
            clear hB0
            rw [← hwz]
            clear hwz x0 x1 HB3 HRT
            have HBW1 := HBW
            obtain ⟨xs, hxs⟩ : ∃ xs, xs = teF L := ⟨_, rfl⟩
            have HXS := Lib.hid hxs
            have HO1 := HRW.out.row
            rw [← hxs] at HO1
            replace HO1 := Lib.hid HO1
            have HAR : Hid (∀ e ∈ L, TmS w0 e.2 e.1.args) := Lib.hid HRW.out.args
            have hsz1 := HBW1.out.size
            clear hxs HRW
            have y01 := carry_cell HX0.out HBW1.out
            have y11 := carry_cell HX1.out HBW1.out
            obtain ⟨l0, l1, l2, l3⟩ := HL2.out.kept HBW1.out
            cases pv with
            | true =>
              go_wp2_with (at_builtin; (refine wpList_append_lies _ rfl _ _ 37 rfl W2.heap.size 39 i1 (.agg #[.string ByteArray.empty, .slice none 0 0]) 2 40 Tryz.underlying37 gi gz0 gz1 gz2 rfl (by omega) (.slice vp L.length vc) (L.length) xs rfl (HO1.out.alloc _) ⟨wz.heap.size, 0, none⟩ 1 1 [.string t.name, .slice px t.args.length cx] rfl rfl (World.news_of_block (cs := #[.string t.name, .slice px t.args.length cx]) (t := 39) (fr := (0, 0)) (heap_alloc_new wz _)) (by simp [Value.oneCell']) (by omega) (by unfold maxLen; omega) (by omega) (by simp; omega) (wz.heap.size + 1) (by simp) ?_; intro g1 cap1 w1' hown hg hat3 hlt3; have HO2 := Lib.hid hown; have HBW2 := Lib.hid ((HBW1.out.alloc HBW1.out.size (.cells #[.string t.name, .slice px t.args.length cx] 39)).grown hg (by simp; omega) (fun r e => (HO1.out.lt r e).1)); clear hown hg hat3 hlt3; have hsz2 := HBW2.out.size; have zz2 := HL2.out.kept HBW2.out; obtain ⟨l02, l12, l22, l32⟩ := zz2; have y02 := carry_cell HX0.out HBW2.out; have y12 := carry_cell HX1.out HBW2.out))
              have HK : Hid (OlR o true base w0 W2 (k + 1) (.slice (some ⟨g1, 0, none⟩) (L.length + 1) cap1) w1') := Lib.hid ⟨L ++ [(t, .slice px t.args.length cx)], ⟨by
                  have h := HO2.out
                  rw [HXS.out] at h
                  rw [teF_append, List.length_append]
                  simpa [teF, teC, Nat.add_assoc] using h, fun e he => by
                  rcases List.mem_append.1 he with he | he
                  · exact HAR.out e he
                  · rw [List.mem_singleton.1 he]; exact HVX.out⟩, by
                  rw [HDN.out, ← HTM.out]; simp [tmsE], HN.out, by rw [List.length_append]; simp; omega, HBW2.out⟩
              go_roundw
              case rel => exact ⟨k + 1, _, by omega, by go_num, rfl, HK.out⟩
              case measure => simp [intOf]; omega
            | false =>
              go_wp2_with (at_builtin; first | (refine wpList_append_lies _ rfl _ _ 37 rfl W2.heap.size 39 i1 (.agg #[.string ByteArray.empty, .slice none 0 0]) 2 40 Tryz.underlying37 gi gz0 gz1 gz2 rfl (by omega) (.slice (some ⟨g1, 0, none⟩) (L.length + 1) cap1) (L.length + 1) (xs ++ [.string t.name, .slice px t.args.length cx]) rfl (HO2.out.alloc _) ⟨w1'.heap.size, 0, none⟩ 1 1 [.string t.name, .slice px t.args.length cx] rfl rfl (World.news_of_block (cs := #[.string t.name, .slice px t.args.length cx]) (t := 39) (fr := (0, 0)) (heap_alloc_new w1' _)) (by simp [Value.oneCell']) (by omega) (by unfold maxLen; omega) (by omega) (by simp; omega) (w1'.heap.size + 1) (by simp) ?_; intro g2 cap2 w2' hown hg hat3 hlt3; have HO3 := Lib.hid hown; have HBW3 := Lib.hid ((HBW2.out.alloc HBW2.out.size (.cells #[.string t.name, .slice px t.args.length cx] 39)).grown hg (by simp; omega) (fun r e => (HO2.out.lt r e).1)); clear hown hg hat3 hlt3; have hsz3 := HBW3.out.size; have zz3 := HL2.out.kept HBW3.out; obtain ⟨l03, l13, l23, l33⟩ := zz3; have y03 := carry_cell HX0.out HBW3.out; have y13 := carry_cell HX1.out HBW3.out) | (refine wpList_append_lies _ rfl _ _ 37 rfl W2.heap.size 39 i1 (.agg #[.string ByteArray.empty, .slice none 0 0]) 2 40 Tryz.underlying37 gi gz0 gz1 gz2 rfl (by omega) (.slice vp L.length vc) (L.length) xs rfl (HO1.out.alloc _) ⟨wz.heap.size, 0, none⟩ 1 1 [.string t.name, .slice px t.args.length cx] rfl rfl (World.news_of_block (cs := #[.string t.name, .slice px t.args.length cx]) (t := 39) (fr := (0, 0)) (heap_alloc_new wz _)) (by simp [Value.oneCell']) (by omega) (by unfold maxLen; omega) (by omega) (by simp; omega) (wz.heap.size + 1) (by simp) ?_; intro g1 cap1 w1' hown hg hat3 hlt3; have HO2 := Lib.hid hown; have HBW2 := Lib.hid ((HBW1.out.alloc HBW1.out.size (.cells #[.string t.name, .slice px t.args.length cx] 39)).grown hg (by simp; omega) (fun r e => (HO1.out.lt r e).1)); clear hown hg hat3 hlt3; have hsz2 := HBW2.out.size; have zz2 := HL2.out.kept HBW2.out; obtain ⟨l02, l12, l22, l32⟩ := zz2; have y02 := carry_cell HX0.out HBW2.out; have y12 := carry_cell HX1.out HBW2.out))
              have HK : Hid (OlR o false base w0 W2 (k + 1) (.slice (some ⟨g2, 0, none⟩) (L.length + 1 + 1) cap2) w2') := Lib.hid ⟨L ++ [(t, .slice px t.args.length cx), (t, .slice px t.args.length cx)], ⟨by
                  have h := HO3.out
                  rw [HXS.out] at h
                  rw [teF_append, List.length_append]
                  simpa [teF, teC, Nat.add_assoc] using h, fun e he => by
                  rcases List.mem_append.1 he with he | he
                  · exact HAR.out e he
                  · (simp only [List.mem_cons, List.not_mem_nil, or_false, or_self] at he; rw [he]; exact HVX.out)⟩, by
                  rw [HDN.out, ← HTM.out]; simp [tmsE], HN.out, by rw [List.length_append]; simp; omega, HBW3.out⟩
              go_roundw
              case rel => exact ⟨k + 1, _, by omega, by go_num, rfl, HK.out⟩
              case measure => simp [intOf]; omega
          · obtain ⟨e1, e2⟩ := str_some0 hn
            have CC : Hid (∀ W, Below wr.heap.size wr W → Calls Tryz.prog 76 #[.agg #[.slice sa o.sy.length sc, .slice wa o.ws.length wc, .int .i64 o.va], .agg #[.string t.name, .slice px t.args.length cx]] W (Ans (.bool (o.cov t)) W)) := Lib.hid (fun W hW => l6Covers_any o ho t W _ _ _ ((HV.out.kept HB2.out).kept (HB3.out.trans (hW.mono HB3.out.size))) (HVX.out.kept (HB0.out.trans ((HB2.out.trans ((HB3.out.trans (hW.mono HB3.out.size)).mono HB2.out.size)).mono HB0.out.size))) hwt)
            obtain ⟨gc, hgc⟩ : ∃ gc, gc = o.cov t := ⟨_, rfl⟩
            rw [← hgc] at CC
            have HGC : Hid (o.elB t = gc) := Lib.hid (by rw [hgc]; exact elB_cov hn)
            clear hn hgc
            obtain ⟨b0, b1, b2, b3⟩ := H32.out.kept HB3.out
            go_wp2_with fail
            have hB0 : Below wr.heap.size wr wr.drew := (Below.refl _ _).drew
            refine wp_region_held_drew (S := (fun w' => w'.cell? ⟨w.heap.size, 0, none⟩ = some (.slice sa o.sy.length sc) ∧ w'.cell? ⟨w.heap.size, 1, none⟩ = some (.slice wa o.ws.length wc) ∧ w'.cell? ⟨w.heap.size, 2, none⟩ = some (.int .i64 o.va) ∧ w'.cell? ⟨b, off + k * 2, none⟩ = some (.string t.name) ∧ w'.cell? ⟨b, off + k * 2 + 1, none⟩ = some (.slice px t.args.length cx) ∧ Below wr.heap.size wr w')) (by kernel_rfl) (by first | exact ⟨by assumption, by assumption, by assumption, by assumption, by assumption, by assumption⟩ | go_keep) (fun hHeld => ?_)
            refine takeYesE 0 (v := ?_) rfl (by kernel_rfl) (by kernel_rfl) (by kernel_rfl) (by rfl) (fun _ _ _ h => h) (by assumption) ?_ ?_; rotate_left; (intro w hSw; (try dsimp only at hSw); go_simp; try (with_reducible rfl))
            try simp only [Act.put, List.getElem_toArray, List.getElem_cons_zero, List.setIfInBounds_toArray, List.set_cons_zero, List.set_cons_succ]
            refine takeYesE 1 (v := ?_) rfl (by kernel_rfl) (by kernel_rfl) (by kernel_rfl) (by rfl) (fun _ _ _ h => h) (by assumption) ?_ ?_; rotate_left; (intro w hSw; (try dsimp only at hSw); go_simp; try (with_reducible rfl))
            try simp only [Act.put, List.getElem_toArray, List.getElem_cons_zero, List.getElem_cons_succ, List.setIfInBounds_toArray, List.set_cons_zero, List.set_cons_succ]
            refine takeYesE 2 (v := ?_) rfl (by kernel_rfl) (by kernel_rfl) (by kernel_rfl) (by rfl) (fun _ _ _ h => h) (by assumption) ?_ ?_; rotate_left; (intro w hSw; (try dsimp only at hSw); go_simp; try (with_reducible rfl))
            try simp only [Act.put, List.getElem_toArray, List.getElem_cons_zero, List.getElem_cons_succ, List.setIfInBounds_toArray, List.set_cons_zero, List.set_cons_succ]
            refine takeYesE 3 (v := ?_) rfl (by kernel_rfl) (by kernel_rfl) (by kernel_rfl) (by rfl) (fun _ _ _ h => h) (by assumption) ?_ ?_; rotate_left; (intro w hSw; (try dsimp only at hSw); go_simp; try (with_reducible rfl))
            try simp only [Act.put, List.getElem_toArray, List.getElem_cons_zero, List.getElem_cons_succ, List.setIfInBounds_toArray, List.set_cons_zero, List.set_cons_succ]
            refine takeYesE 4 (v := ?_) rfl (by kernel_rfl) (by kernel_rfl) (by kernel_rfl) (by rfl) (fun _ _ _ h => h) (by assumption) ?_ ?_; rotate_left; (intro w hSw; (try dsimp only at hSw); go_simp; try (with_reducible rfl))
            try simp only [Act.put, List.getElem_toArray, List.getElem_cons_zero, List.getElem_cons_succ, List.setIfInBounds_toArray, List.set_cons_zero, List.set_cons_succ]
            refine takeYesE 5 (v := ?_) rfl (by kernel_rfl) (by kernel_rfl) (by kernel_rfl) (by rfl) (fun _ _ _ h => h) (by assumption) ?_ ?_; rotate_left; (intro w hSw; (try dsimp only at hSw); go_simp; try (with_reducible rfl))
            try simp only [Act.put, List.getElem_toArray, List.getElem_cons_zero, List.getElem_cons_succ, List.setIfInBounds_toArray, List.set_cons_zero, List.set_cons_succ]
            refine takeYesE 6 (v := ?_) rfl (by kernel_rfl) (by kernel_rfl) (by kernel_rfl) (by rfl) (fun _ _ _ h => h) (by assumption) ?_ ?_; rotate_left; (intro w hSw; (try dsimp only at hSw); go_simp; try (with_reducible rfl))
            try simp only [Act.put, List.getElem_toArray, List.getElem_cons_zero, List.getElem_cons_succ, List.setIfInBounds_toArray, List.set_cons_zero, List.set_cons_succ]
            refine takeYesE 7 (v := ?_) rfl (by kernel_rfl) (by kernel_rfl) (by kernel_rfl) (by rfl) (fun _ _ _ h => h) (by assumption) ?_ ?_; rotate_left; (intro w hSw; (try dsimp only at hSw); go_simp; try (with_reducible rfl))
            try simp only [Act.put, List.getElem_toArray, List.getElem_cons_zero, List.getElem_cons_succ, List.setIfInBounds_toArray, List.set_cons_zero, List.set_cons_succ]
            refine takeYesE 8 (v := ?_) rfl (by kernel_rfl) (by kernel_rfl) (by kernel_rfl) (by rfl) (fun _ _ _ h => h) (by assumption) ?_ ?_; rotate_left; (intro w hSw; (try dsimp only at hSw); go_simp; try (with_reducible rfl))
            try simp only [Act.put, List.getElem_toArray, List.getElem_cons_zero, List.getElem_cons_succ, List.setIfInBounds_toArray, List.set_cons_zero, List.set_cons_succ]
            refine takeYesE 9 (v := ?_) rfl (by kernel_rfl) (by kernel_rfl) (by kernel_rfl) (by rfl) (fun _ _ _ h => h) (by assumption) ?_ ?_; rotate_left; (intro w hSw; (try dsimp only at hSw); go_simp; try (with_reducible rfl))
            try simp only [Act.put, List.getElem_toArray, List.getElem_cons_zero, List.getElem_cons_succ, List.setIfInBounds_toArray, List.set_cons_zero, List.set_cons_succ]
            refine takeYesE 10 (v := ?_) rfl (by kernel_rfl) (by kernel_rfl) (by kernel_rfl) (by rfl) (fun _ _ _ h => h) (by assumption) ?_ ?_; rotate_left; (intro w hSw; (try dsimp only at hSw); go_simp; try (with_reducible rfl))
            try simp only [Act.put, List.getElem_toArray, List.getElem_cons_zero, List.getElem_cons_succ, List.setIfInBounds_toArray, List.set_cons_zero, List.set_cons_succ]
            refine takeYesE 11 (v := ?_) rfl (by kernel_rfl) (by kernel_rfl) (by kernel_rfl) (by rfl) (fun _ _ _ h => h) (by assumption) ?_ ?_; rotate_left; (intro w hSw; (try dsimp only at hSw); go_simp; try (with_reducible rfl))
            try simp only [Act.put, List.getElem_toArray, List.getElem_cons_zero, List.getElem_cons_succ, List.setIfInBounds_toArray, List.set_cons_zero, List.set_cons_succ]
            refine wpAnyH_ready (rs := [12]) (by kernel_rfl) (by simp) ?_
            refine AllReadyH.cons rfl (fun K hK => ?_) AllReadyH.nil
            go_simp
            (go_at_call 76; refine (CC.out _ (by assumption)).mono ?_; rintro e uC ⟨rfl, hb⟩; have qz12_0 : uC.cell? ⟨w.heap.size, 0, none⟩ = some (.slice sa o.sy.length sc) := carry_cell' hb (by assumption); have qz12_1 : uC.cell? ⟨w.heap.size, 1, none⟩ = some (.slice wa o.ws.length wc) := carry_cell' hb (by assumption); have qz12_2 : uC.cell? ⟨w.heap.size, 2, none⟩ = some (.int .i64 o.va) := carry_cell' hb (by assumption); have qz12_3 : uC.cell? ⟨b, off + k * 2, none⟩ = some (.string t.name) := carry_cell' hb (by assumption); have qz12_4 : uC.cell? ⟨b, off + k * 2 + 1, none⟩ = some (.slice px t.args.length cx) := carry_cell' hb (by assumption); have huC : Below wr.heap.size wr uC := carry_below (by assumption) (Nat.le_refl _) hb; clear hb; go_wp2_with fail)
            refine hK.out _ _ (by first | exact ⟨by assumption, by assumption, by assumption, by assumption, by assumption, by assumption⟩ | go_keep) (fun hHeld => ?_)
            clear hK K
            try simp only [Act.put, List.getElem_toArray, List.getElem_cons_zero, List.getElem_cons_succ, List.setIfInBounds_toArray, List.set_cons_zero, List.set_cons_succ]
            refine takeYesE 13 (v := ?_) rfl (by kernel_rfl) (by kernel_rfl) (by kernel_rfl) (by rfl) (fun _ _ _ h => h) (by assumption) ?_ ?_; rotate_left; (intro w hSw; (try dsimp only at hSw); go_simp; try (with_reducible rfl))
            try simp only [Act.put, List.getElem_toArray, List.getElem_cons_zero, List.getElem_cons_succ, List.setIfInBounds_toArray, List.set_cons_zero, List.set_cons_succ]
            refine takeYesE 14 (v := ?_) rfl (by kernel_rfl) (by kernel_rfl) (by kernel_rfl) (by rfl) (fun _ _ _ h => h) (by assumption) ?_ ?_; rotate_left; (intro w hSw; (try dsimp only at hSw); go_simp; try (with_reducible rfl))
            try simp only [Act.put, List.getElem_toArray, List.getElem_cons_zero, List.getElem_cons_succ, List.setIfInBounds_toArray, List.set_cons_zero, List.set_cons_succ]
            refine wpAnyH_done (by kernel_rfl) ?_ _
            have hb : Below wr.heap.size wr uC := by assumption
            have HBW := Lib.hid (carry_below HB3.out (Nat.le_refl _) hb)
            have HRW := Lib.hid (HRT.out.kept hb)
            clear hb hB0 b0 b1 b2 b3 x0 x1 HB3 HRT CC
            cases gc with
            | false =>
              have HE : Hid (LitEnd o d w0 w (.returned (.tuple #[.slice (some ⟨uC.heap.size, 0, none⟩) 0 0, .bool false])) (uC.alloc (.cells #[] 39))) := Lib.hid (by
                have hf : o.litOk d = false := by rw [HLB.out, ← HBA.out]; exact List.all_eq_false.2 ⟨t, mem_of_at HS.out, by rw [HGC.out]; decide⟩
                exact ⟨_, [], ret_sl hf.symm, ⟨World.ownsRow_made uC #[] 0 (Nat.le_trans HB2.out.size HBW.out.size) (by decide) (by simp), fun e he => by cases he⟩, fun h => (by rw [hf] at h; cases h), (HB2.out.trans (HBW.out.mono HB2.out.size)).alloc (Nat.le_trans HB2.out.size HBW.out.size) _⟩)
              go_wp2
              go_ret2
              exact HE.out
            | true =>
              have HN : Hid ((base.take (k + 1)).all o.elB = true) := Lib.hid (by rw [all_next HS.out, HEL.out, HGC.out]; rfl)
              have HBW1 := HBW
              obtain ⟨xs, hxs⟩ : ∃ xs, xs = teF L := ⟨_, rfl⟩
              have HXS := Lib.hid hxs
              have HO1 := HRW.out.row
              rw [← hxs] at HO1
              replace HO1 := Lib.hid HO1
              have HAR : Hid (∀ e ∈ L, TmS w0 e.2 e.1.args) := Lib.hid HRW.out.args
              have hsz1 := HBW1.out.size
              clear hxs HRW
              have y01 := carry_cell HX0.out HBW1.out
              have y11 := carry_cell HX1.out HBW1.out
              obtain ⟨l0, l1, l2, l3⟩ := HL2.out.kept HBW1.out
              cases pv with
              | true =>
                go_wp2_with (at_builtin; (refine wpList_append_lies _ rfl _ _ 37 rfl W2.heap.size 39 i1 (.agg #[.string ByteArray.empty, .slice none 0 0]) 2 40 Tryz.underlying37 gi gz0 gz1 gz2 rfl (by omega) (.slice vp L.length vc) (L.length) xs rfl (HO1.out.alloc _) ⟨uC.heap.size, 0, none⟩ 1 1 [.string t.name, .slice px t.args.length cx] rfl rfl (World.news_of_block (cs := #[.string t.name, .slice px t.args.length cx]) (t := 39) (fr := (0, 0)) (heap_alloc_new uC _)) (by simp [Value.oneCell']) (by omega) (by unfold maxLen; omega) (by omega) (by simp; omega) (uC.heap.size + 1) (by simp) ?_; intro g1 cap1 w1' hown hg hat3 hlt3; have HO2 := Lib.hid hown; have HBW2 := Lib.hid ((HBW1.out.alloc HBW1.out.size (.cells #[.string t.name, .slice px t.args.length cx] 39)).grown hg (by simp; omega) (fun r e => (HO1.out.lt r e).1)); clear hown hg hat3 hlt3; have hsz2 := HBW2.out.size; have zz2 := HL2.out.kept HBW2.out; obtain ⟨l02, l12, l22, l32⟩ := zz2; have y02 := carry_cell HX0.out HBW2.out; have y12 := carry_cell HX1.out HBW2.out))
                have HK : Hid (OlR o true base w0 W2 (k + 1) (.slice (some ⟨g1, 0, none⟩) (L.length + 1) cap1) w1') := Lib.hid ⟨L ++ [(t, .slice px t.args.length cx)], ⟨by
                    have h := HO2.out
                    rw [HXS.out] at h
                    rw [teF_append, List.length_append]
                    simpa [teF, teC, Nat.add_assoc] using h, fun e he => by
                    rcases List.mem_append.1 he with he | he
                    · exact HAR.out e he
                    · rw [List.mem_singleton.1 he]; exact HVX.out⟩, by
                    rw [HDN.out, ← HTM.out]; simp [tmsE], HN.out, by rw [List.length_append]; simp; omega, HBW2.out⟩
                go_roundw
                case rel => exact ⟨k + 1, _, by omega, by go_num, rfl, HK.out⟩
                case measure => simp [intOf]; omega
              | false =>
                go_wp2_with (at_builtin; first | (refine wpList_append_lies _ rfl _ _ 37 rfl W2.heap.size 39 i1 (.agg #[.string ByteArray.empty, .slice none 0 0]) 2 40 Tryz.underlying37 gi gz0 gz1 gz2 rfl (by omega) (.slice (some ⟨g1, 0, none⟩) (L.length + 1) cap1) (L.length + 1) (xs ++ [.string t.name, .slice px t.args.length cx]) rfl (HO2.out.alloc _) ⟨w1'.heap.size, 0, none⟩ 1 1 [.string t.name, .slice px t.args.length cx] rfl rfl (World.news_of_block (cs := #[.string t.name, .slice px t.args.length cx]) (t := 39) (fr := (0, 0)) (heap_alloc_new w1' _)) (by simp [Value.oneCell']) (by omega) (by unfold maxLen; omega) (by omega) (by simp; omega) (w1'.heap.size + 1) (by simp) ?_; intro g2 cap2 w2' hown hg hat3 hlt3; have HO3 := Lib.hid hown; have HBW3 := Lib.hid ((HBW2.out.alloc HBW2.out.size (.cells #[.string t.name, .slice px t.args.length cx] 39)).grown hg (by simp; omega) (fun r e => (HO2.out.lt r e).1)); clear hown hg hat3 hlt3; have hsz3 := HBW3.out.size; have zz3 := HL2.out.kept HBW3.out; obtain ⟨l03, l13, l23, l33⟩ := zz3; have y03 := carry_cell HX0.out HBW3.out; have y13 := carry_cell HX1.out HBW3.out) | (refine wpList_append_lies _ rfl _ _ 37 rfl W2.heap.size 39 i1 (.agg #[.string ByteArray.empty, .slice none 0 0]) 2 40 Tryz.underlying37 gi gz0 gz1 gz2 rfl (by omega) (.slice vp L.length vc) (L.length) xs rfl (HO1.out.alloc _) ⟨uC.heap.size, 0, none⟩ 1 1 [.string t.name, .slice px t.args.length cx] rfl rfl (World.news_of_block (cs := #[.string t.name, .slice px t.args.length cx]) (t := 39) (fr := (0, 0)) (heap_alloc_new uC _)) (by simp [Value.oneCell']) (by omega) (by unfold maxLen; omega) (by omega) (by simp; omega) (uC.heap.size + 1) (by simp) ?_; intro g1 cap1 w1' hown hg hat3 hlt3; have HO2 := Lib.hid hown; have HBW2 := Lib.hid ((HBW1.out.alloc HBW1.out.size (.cells #[.string t.name, .slice px t.args.length cx] 39)).grown hg (by simp; omega) (fun r e => (HO1.out.lt r e).1)); clear hown hg hat3 hlt3; have hsz2 := HBW2.out.size; have zz2 := HL2.out.kept HBW2.out; obtain ⟨l02, l12, l22, l32⟩ := zz2; have y02 := carry_cell HX0.out HBW2.out; have y12 := carry_cell HX1.out HBW2.out))
                have HK : Hid (OlR o false base w0 W2 (k + 1) (.slice (some ⟨g2, 0, none⟩) (L.length + 1 + 1) cap2) w2') := Lib.hid ⟨L ++ [(t, .slice px t.args.length cx), (t, .slice px t.args.length cx)], ⟨by
                    have h := HO3.out
                    rw [HXS.out] at h
                    rw [teF_append, List.length_append]
                    simpa [teF, teC, Nat.add_assoc] using h, fun e he => by
                    rcases List.mem_append.1 he with he | he
                    · exact HAR.out e he
                    · (simp only [List.mem_cons, List.not_mem_nil, or_false, or_self] at he; rw [he]; exact HVX.out)⟩, by
                    rw [HDN.out, ← HTM.out]; simp [tmsE], HN.out, by rw [List.length_append]; simp; omega, HBW3.out⟩
                go_roundw
                case rel => exact ⟨k + 1, _, by omega, by go_num, rfl, HK.out⟩
                case measure => simp [intOf]; omega
        · have hke : k = 2 := by omega
          have HE : Hid (LitEnd o d w0 w (.returned (.tuple #[.slice vp L.length vc, .bool true])) wr) := Lib.hid (by
            have e := HBN.out
            have h1 := HEL.out
            have h2 := HTM.out
            rw [hke, List.take_of_length_le (by omega), HBA.out] at h1 h2
            have hok : o.litOk d = true := by rw [HLB.out]; exact h1
            rw [HPV.out] at h2
            exact ⟨_, L, ret_sl hok.symm, HRT.out.low HB2.out.size, fun _ => h2, HB2.out.trans (HB3.out.mono HB2.out.size)⟩)
          go_wp2
          go_ret2
          exact HE.out
    | false =>
      have hq : (d.tm.name.toList == [61]) = false := he
      obtain ⟨base, hbase⟩ : ∃ base, base = d.base := ⟨_, rfl⟩
      have HBA := Lib.hid hbase
      have HLS : Hid (AtL w0 W2 (some ⟨w2.heap.size, 0, none⟩) base) := Lib.hid (by rw [hbase, base_no he]; exact HTZ.out)
      have hbl : base.length = 2 := by rw [hbase]; exact HBL.out
      have hln : 2 = 2 := by
        first
          | rfl
          | (have := base_no he; rw [← this]; exact HBL.out)
      have hl2 : 1 < 2 := by omega
      have HLN := Lib.hid hln
      have HBN := Lib.hid hbl
      obtain ⟨W3, hW3⟩ : ∃ W3, W2.alloc (.cells #[] 39) = W3 := ⟨_, rfl⟩
      have HR : Hid (OlR o pv base w0 W2 0 (.slice (some ⟨W2.heap.size, 0, none⟩) 0 0) W3) := Lib.hid (by rw [← hW3]; exact ⟨[], ⟨World.ownsRow_made W2 #[] 0 (Nat.le_refl _) (by decide) (by simp), fun e he => by cases he⟩, by simp [dup, tmsE], by simp, by simp, (Below.refl _ _).alloc (Nat.le_refl _) _⟩)
      clear he hbase hbl hln
      go_wp2
      try rw [hW3]
      clear hW3 hW2 l0 l1 l2 l3 m0 m1 m2 m3
      go_loopw [7, 8] (fun ov i wr => ∃ (k : Nat) (nm : Value), k ≤ 2 ∧ i = .int .i64 k ∧ nm = ov ∧ OlR o pv base w0 W2 k nm wr) (fun _ i _ => 2 - (intOf i).toNat)
      case atStart => exact ⟨0, _, by omega, rfl, rfl, HR.out⟩
      case round =>
        obtain ⟨k, nm, hk, rfl, rfl, L, hrt, htm, hel, hll, hb2⟩ := hrel
        have HRT := Lib.hid hrt
        have HTM := Lib.hid htm
        have HEL := Lib.hid hel
        have HB3 := Lib.hid hb2
        obtain ⟨vp, vc, rfl⟩ : ∃ p c, nm = .slice p L.length c := by
          rcases hrt.row.2 with ⟨rfl, h0⟩ | ⟨g, cap, cur, rfl, _⟩
          · exact ⟨none, 0, by rw [h0]⟩
          · exact ⟨_, _, rfl⟩
        clear hrt htm hel hb2
        by_cases hlt : k < 2
        · obtain ⟨t, hs⟩ : ∃ t, base[k]? = some t := ⟨_, List.getElem?_eq_getElem (by have := HBN.out; omega)⟩
          obtain ⟨b, off, px, cx, hbo, x0, x1, hvx⟩ := HLS.out k t hs
          cases hbo
          try simp only [Nat.zero_add] at x0 x1
          have HX0 := Lib.hid x0
          have HX1 := Lib.hid x1
          have HVX := Lib.hid hvx
          have HS := Lib.hid hs
          have hkl : k < 2 := by have := HLN.out; omega
          have hwt : t.wt ≤ 1048576 := by
            have hm := mem_of_at hs
            rw [HBA.out] at hm
            unfold Lt.base at hm
            split at hm
            · exact Nat.le_trans (Tm.wt_arg hm) hw
            · rcases List.mem_cons.1 hm with rfl | hm
              · exact hw
              · rw [List.mem_singleton.1 hm]; simp [zT, Tm.wt, Tm.wtL]
          have HDN := Lib.hid (dup_next (p := pv) hs)
          clear hs hvx
          replace x0 := carry_cell x0 HB3.out
          replace x1 := carry_cell x1 HB3.out
          by_cases hn : t.name.size = 0
          · obtain ⟨e1, e2⟩ := str_none0 hn
            have HN : Hid ((base.take (k + 1)).all o.elB = true) := Lib.hid (by rw [all_next HS.out, HEL.out]; unfold Od.elB; rw [decide_eq_true hn]; rfl)
            clear hn
            go_wp2_with fail
            have hB0 : Below wr.heap.size wr wr.drew := (Below.refl _ _).drew
            refine wp_region_held_drew (S := (fun w' => w'.cell? ⟨w2.heap.size, k * 2, none⟩ = some (.string t.name) ∧ Below wr.heap.size wr w')) (by kernel_rfl) (by first | exact ⟨by assumption, by assumption⟩ | go_keep) (fun hHeld => ?_)
            refine takeYesE 0 (v := ?_) rfl (by kernel_rfl) (by kernel_rfl) (by kernel_rfl) (by rfl) (fun _ _ _ h => h) (by assumption) ?_ ?_; rotate_left; (intro w hSw; (try dsimp only at hSw); go_simp; try (with_reducible rfl))
            try simp only [Act.put, List.getElem_toArray, List.getElem_cons_zero, List.setIfInBounds_toArray, List.set_cons_zero, List.set_cons_succ]
            refine takeYesE 1 (v := ?_) rfl (by kernel_rfl) (by kernel_rfl) (by kernel_rfl) (by rfl) (fun _ _ _ h => h) (by assumption) ?_ ?_; rotate_left; (intro w hSw; (try dsimp only at hSw); go_simp; try (with_reducible rfl))
            try simp only [Act.put, List.getElem_toArray, List.getElem_cons_zero, List.getElem_cons_succ, List.setIfInBounds_toArray, List.set_cons_zero, List.set_cons_succ]
            refine takeYesE 2 (v := ?_) rfl (by kernel_rfl) (by kernel_rfl) (by kernel_rfl) (by rfl) (fun _ _ _ h => h) (by assumption) ?_ ?_; rotate_left; (intro w hSw; (try dsimp only at hSw); go_simp; try (with_reducible rfl))
            try simp only [Act.put, List.getElem_toArray, List.getElem_cons_zero, List.getElem_cons_succ, List.setIfInBounds_toArray, List.set_cons_zero, List.set_cons_succ]
            refine takeYesE 3 (v := ?_) rfl (by kernel_rfl) (by kernel_rfl) (by kernel_rfl) (by rfl) (fun _ _ _ h => h) (by assumption) ?_ ?_; rotate_left; (intro w hSw; (try dsimp only at hSw); go_simp; try (with_reducible rfl))
            try simp only [Act.put, List.getElem_toArray, List.getElem_cons_zero, List.getElem_cons_succ, List.setIfInBounds_toArray, List.set_cons_zero, List.set_cons_succ]
            refine takeYesE 4 (v := ?_) rfl (by kernel_rfl) (by kernel_rfl) (by kernel_rfl) (by rfl) (fun _ _ _ h => h) (by assumption) ?_ ?_; rotate_left; (intro w hSw; (try dsimp only at hSw); go_simp; try (with_reducible rfl))
            try simp only [Act.put, List.getElem_toArray, List.getElem_cons_zero, List.getElem_cons_succ, List.setIfInBounds_toArray, List.set_cons_zero, List.set_cons_succ]
            refine takeYesE 5 (v := ?_) rfl (by kernel_rfl) (by kernel_rfl) (by kernel_rfl) (by rfl) (fun _ _ _ h => h) (by assumption) ?_ ?_; rotate_left; (intro w hSw; (try dsimp only at hSw); go_simp; try (with_reducible rfl))
            try simp only [Act.put, List.getElem_toArray, List.getElem_cons_zero, List.getElem_cons_succ, List.setIfInBounds_toArray, List.set_cons_zero, List.set_cons_succ]
            refine takeYesE 6 (v := ?_) rfl (by kernel_rfl) (by kernel_rfl) (by kernel_rfl) (by rfl) (fun _ _ _ h => h) (by assumption) ?_ ?_; rotate_left; (intro w hSw; (try dsimp only at hSw); go_simp; try (with_reducible rfl))
            try simp only [Act.put, List.getElem_toArray, List.getElem_cons_zero, List.getElem_cons_succ, List.setIfInBounds_toArray, List.set_cons_zero, List.set_cons_succ]
            refine takeNoE 7 rfl (by kernel_rfl) (by kernel_rfl) (by kernel_rfl) (by rfl) (fun _ _ _ h => h) (by assumption) ?_
            try simp only [Act.put, List.getElem_toArray, List.getElem_cons_zero, List.getElem_cons_succ, List.setIfInBounds_toArray, List.set_cons_zero, List.set_cons_succ]
            refine takeNoE 8 rfl (by kernel_rfl) (by kernel_rfl) (by kernel_rfl) (by rfl) (fun _ _ _ h => h) (by assumption) ?_
            try simp only [Act.put, List.getElem_toArray, List.getElem_cons_zero, List.getElem_cons_succ, List.setIfInBounds_toArray, List.set_cons_zero, List.set_cons_succ]
            refine takeNoE 9 rfl (by kernel_rfl) (by kernel_rfl) (by kernel_rfl) (by rfl) (fun _ _ _ h => h) (by assumption) ?_
            try simp only [Act.put, List.getElem_toArray, List.getElem_cons_zero, List.getElem_cons_succ, List.setIfInBounds_toArray, List.set_cons_zero, List.set_cons_succ]
            refine takeNoE 10 rfl (by kernel_rfl) (by kernel_rfl) (by kernel_rfl) (by rfl) (fun _ _ _ h => h) (by assumption) ?_
            try simp only [Act.put, List.getElem_toArray, List.getElem_cons_zero, List.getElem_cons_succ, List.setIfInBounds_toArray, List.set_cons_zero, List.set_cons_succ]
            refine takeNoE 11 rfl (by kernel_rfl) (by kernel_rfl) (by kernel_rfl) (by rfl) (fun _ _ _ h => h) (by assumption) ?_
            try simp only [Act.put, List.getElem_toArray, List.getElem_cons_zero, List.getElem_cons_succ, List.setIfInBounds_toArray, List.set_cons_zero, List.set_cons_succ]
            refine takeNoE 12 rfl (by kernel_rfl) (by kernel_rfl) (by kernel_rfl) (by rfl) (fun _ _ _ h => h) (by assumption) ?_
            try simp only [Act.put, List.getElem_toArray, List.getElem_cons_zero, List.getElem_cons_succ, List.setIfInBounds_toArray, List.set_cons_zero, List.set_cons_succ]
            refine takeNoE 13 rfl (by kernel_rfl) (by kernel_rfl) (by kernel_rfl) (by rfl) (fun _ _ _ h => h) (by assumption) ?_
            try simp only [Act.put, List.getElem_toArray, List.getElem_cons_zero, List.getElem_cons_succ, List.setIfInBounds_toArray, List.set_cons_zero, List.set_cons_succ]
            refine takeYesE 14 (v := ?_) rfl (by kernel_rfl) (by kernel_rfl) (by kernel_rfl) (by rfl) (fun _ _ _ h => h) (by assumption) ?_ ?_; rotate_left; (intro w hSw; (try dsimp only at hSw); go_simp; try (with_reducible rfl))
            try simp only [Act.put, List.getElem_toArray, List.getElem_cons_zero, List.getElem_cons_succ, List.setIfInBounds_toArray, List.set_cons_zero, List.set_cons_succ]
            refine wpAnyH_done (by kernel_rfl) ?_ _
            obtain ⟨wz, hwz⟩ : ∃ wz, wz = wr.drew := ⟨_, rfl⟩
            have HBW : Hid (Below W2.heap.size W2 wz) := Lib.hid (by rw [hwz]; exact HB3.out.drew)
            have HRW : Hid (RowT w0 W2.heap.size wz (.slice vp L.length vc) L) := Lib.hid (by rw [hwz]; exact HRT.out.kept (Below.refl _ _).drew)
            clear hB0
            rw [← hwz]
            clear hwz x0 x1 HB3 HRT
            have HBW1 := HBW
            obtain ⟨xs, hxs⟩ : ∃ xs, xs = teF L := ⟨_, rfl⟩
            have HXS := Lib.hid hxs
            have HO1 := HRW.out.row
            rw [← hxs] at HO1
            replace HO1 := Lib.hid HO1
            have HAR : Hid (∀ e ∈ L, TmS w0 e.2 e.1.args) := Lib.hid HRW.out.args
            have hsz1 := HBW1.out.size
            clear hxs HRW
            have y01 := carry_cell HX0.out HBW1.out
            have y11 := carry_cell HX1.out HBW1.out
            obtain ⟨l0, l1, l2, l3⟩ := HL2.out.kept HBW1.out
            cases pv with
            | true =>
              go_wp2_with (at_builtin; (refine wpList_append_lies _ rfl _ _ 37 rfl W2.heap.size 39 i1 (.agg #[.string ByteArray.empty, .slice none 0 0]) 2 40 Tryz.underlying37 gi gz0 gz1 gz2 rfl (by omega) (.slice vp L.length vc) (L.length) xs rfl (HO1.out.alloc _) ⟨wz.heap.size, 0, none⟩ 1 1 [.string t.name, .slice px t.args.length cx] rfl rfl (World.news_of_block (cs := #[.string t.name, .slice px t.args.length cx]) (t := 39) (fr := (0, 0)) (heap_alloc_new wz _)) (by simp [Value.oneCell']) (by omega) (by unfold maxLen; omega) (by omega) (by simp; omega) (wz.heap.size + 1) (by simp) ?_; intro g1 cap1 w1' hown hg hat3 hlt3; have HO2 := Lib.hid hown; have HBW2 := Lib.hid ((HBW1.out.alloc HBW1.out.size (.cells #[.string t.name, .slice px t.args.length cx] 39)).grown hg (by simp; omega) (fun r e => (HO1.out.lt r e).1)); clear hown hg hat3 hlt3; have hsz2 := HBW2.out.size; have zz2 := HL2.out.kept HBW2.out; obtain ⟨l02, l12, l22, l32⟩ := zz2; have y02 := carry_cell HX0.out HBW2.out; have y12 := carry_cell HX1.out HBW2.out))
              have HK : Hid (OlR o true base w0 W2 (k + 1) (.slice (some ⟨g1, 0, none⟩) (L.length + 1) cap1) w1') := Lib.hid ⟨L ++ [(t, .slice px t.args.length cx)], ⟨by
                  have h := HO2.out
                  rw [HXS.out] at h
                  rw [teF_append, List.length_append]
                  simpa [teF, teC, Nat.add_assoc] using h, fun e he => by
                  rcases List.mem_append.1 he with he | he
                  · exact HAR.out e he
                  · rw [List.mem_singleton.1 he]; exact HVX.out⟩, by
                  rw [HDN.out, ← HTM.out]; simp [tmsE], HN.out, by rw [List.length_append]; simp; omega, HBW2.out⟩
              go_roundw
              case rel => exact ⟨k + 1, _, by omega, by go_num, rfl, HK.out⟩
              case measure => simp [intOf]; omega
            | false =>
              go_wp2_with (at_builtin; first | (refine wpList_append_lies _ rfl _ _ 37 rfl W2.heap.size 39 i1 (.agg #[.string ByteArray.empty, .slice none 0 0]) 2 40 Tryz.underlying37 gi gz0 gz1 gz2 rfl (by omega) (.slice (some ⟨g1, 0, none⟩) (L.length + 1) cap1) (L.length + 1) (xs ++ [.string t.name, .slice px t.args.length cx]) rfl (HO2.out.alloc _) ⟨w1'.heap.size, 0, none⟩ 1 1 [.string t.name, .slice px t.args.length cx] rfl rfl (World.news_of_block (cs := #[.string t.name, .slice px t.args.length cx]) (t := 39) (fr := (0, 0)) (heap_alloc_new w1' _)) (by simp [Value.oneCell']) (by omega) (by unfold maxLen; omega) (by omega) (by simp; omega) (w1'.heap.size + 1) (by simp) ?_; intro g2 cap2 w2' hown hg hat3 hlt3; have HO3 := Lib.hid hown; have HBW3 := Lib.hid ((HBW2.out.alloc HBW2.out.size (.cells #[.string t.name, .slice px t.args.length cx] 39)).grown hg (by simp; omega) (fun r e => (HO2.out.lt r e).1)); clear hown hg hat3 hlt3; have hsz3 := HBW3.out.size; have zz3 := HL2.out.kept HBW3.out; obtain ⟨l03, l13, l23, l33⟩ := zz3; have y03 := carry_cell HX0.out HBW3.out; have y13 := carry_cell HX1.out HBW3.out) | (refine wpList_append_lies _ rfl _ _ 37 rfl W2.heap.size 39 i1 (.agg #[.string ByteArray.empty, .slice none 0 0]) 2 40 Tryz.underlying37 gi gz0 gz1 gz2 rfl (by omega) (.slice vp L.length vc) (L.length) xs rfl (HO1.out.alloc _) ⟨wz.heap.size, 0, none⟩ 1 1 [.string t.name, .slice px t.args.length cx] rfl rfl (World.news_of_block (cs := #[.string t.name, .slice px t.args.length cx]) (t := 39) (fr := (0, 0)) (heap_alloc_new wz _)) (by simp [Value.oneCell']) (by omega) (by unfold maxLen; omega) (by omega) (by simp; omega) (wz.heap.size + 1) (by simp) ?_; intro g1 cap1 w1' hown hg hat3 hlt3; have HO2 := Lib.hid hown; have HBW2 := Lib.hid ((HBW1.out.alloc HBW1.out.size (.cells #[.string t.name, .slice px t.args.length cx] 39)).grown hg (by simp; omega) (fun r e => (HO1.out.lt r e).1)); clear hown hg hat3 hlt3; have hsz2 := HBW2.out.size; have zz2 := HL2.out.kept HBW2.out; obtain ⟨l02, l12, l22, l32⟩ := zz2; have y02 := carry_cell HX0.out HBW2.out; have y12 := carry_cell HX1.out HBW2.out))
              have HK : Hid (OlR o false base w0 W2 (k + 1) (.slice (some ⟨g2, 0, none⟩) (L.length + 1 + 1) cap2) w2') := Lib.hid ⟨L ++ [(t, .slice px t.args.length cx), (t, .slice px t.args.length cx)], ⟨by
                  have h := HO3.out
                  rw [HXS.out] at h
                  rw [teF_append, List.length_append]
                  simpa [teF, teC, Nat.add_assoc] using h, fun e he => by
                  rcases List.mem_append.1 he with he | he
                  · exact HAR.out e he
                  · (simp only [List.mem_cons, List.not_mem_nil, or_false, or_self] at he; rw [he]; exact HVX.out)⟩, by
                  rw [HDN.out, ← HTM.out]; simp [tmsE], HN.out, by rw [List.length_append]; simp; omega, HBW3.out⟩
              go_roundw
              case rel => exact ⟨k + 1, _, by omega, by go_num, rfl, HK.out⟩
              case measure => simp [intOf]; omega
          · obtain ⟨e1, e2⟩ := str_some0 hn
            have CC : Hid (∀ W, Below wr.heap.size wr W → Calls Tryz.prog 76 #[.agg #[.slice sa o.sy.length sc, .slice wa o.ws.length wc, .int .i64 o.va], .agg #[.string t.name, .slice px t.args.length cx]] W (Ans (.bool (o.cov t)) W)) := Lib.hid (fun W hW => l6Covers_any o ho t W _ _ _ ((HV.out.kept HB2.out).kept (HB3.out.trans (hW.mono HB3.out.size))) (HVX.out.kept (HB0.out.trans ((HB2.out.trans ((HB3.out.trans (hW.mono HB3.out.size)).mono HB2.out.size)).mono HB0.out.size))) hwt)
            obtain ⟨gc, hgc⟩ : ∃ gc, gc = o.cov t := ⟨_, rfl⟩
            rw [← hgc] at CC
            have HGC : Hid (o.elB t = gc) := Lib.hid (by rw [hgc]; exact elB_cov hn)
            clear hn hgc
            obtain ⟨b0, b1, b2, b3⟩ := H32.out.kept HB3.out
            go_wp2_with fail
            have hB0 : Below wr.heap.size wr wr.drew := (Below.refl _ _).drew
            refine wp_region_held_drew (S := (fun w' => w'.cell? ⟨w.heap.size, 0, none⟩ = some (.slice sa o.sy.length sc) ∧ w'.cell? ⟨w.heap.size, 1, none⟩ = some (.slice wa o.ws.length wc) ∧ w'.cell? ⟨w.heap.size, 2, none⟩ = some (.int .i64 o.va) ∧ w'.cell? ⟨w2.heap.size, k * 2, none⟩ = some (.string t.name) ∧ w'.cell? ⟨w2.heap.size, k * 2 + 1, none⟩ = some (.slice px t.args.length cx) ∧ Below wr.heap.size wr w')) (by kernel_rfl) (by first | exact ⟨by assumption, by assumption, by assumption, by assumption, by assumption, by assumption⟩ | go_keep) (fun hHeld => ?_)
            refine takeYesE 0 (v := ?_) rfl (by kernel_rfl) (by kernel_rfl) (by kernel_rfl) (by rfl) (fun _ _ _ h => h) (by assumption) ?_ ?_; rotate_left; (intro w hSw; (try dsimp only at hSw); go_simp; try (with_reducible rfl))
            try simp only [Act.put, List.getElem_toArray, List.getElem_cons_zero, List.setIfInBounds_toArray, List.set_cons_zero, List.set_cons_succ]
            refine takeYesE 1 (v := ?_) rfl (by kernel_rfl) (by kernel_rfl) (by kernel_rfl) (by rfl) (fun _ _ _ h => h) (by assumption) ?_ ?_; rotate_left; (intro w hSw; (try dsimp only at hSw); go_simp; try (with_reducible rfl))
            try simp only [Act.put, List.getElem_toArray, List.getElem_cons_zero, List.getElem_cons_succ, List.setIfInBounds_toArray, List.set_cons_zero, List.set_cons_succ]
            refine takeYesE 2 (v := ?_) rfl (by kernel_rfl) (by kernel_rfl) (by kernel_rfl) (by rfl) (fun _ _ _ h => h) (by assumption) ?_ ?_; rotate_left; (intro w hSw; (try dsimp only at hSw); go_simp; try (with_reducible rfl))
            try simp only [Act.put, List.getElem_toArray, List.getElem_cons_zero, List.getElem_cons_succ, List.setIfInBounds_toArray, List.set_cons_zero, List.set_cons_succ]
            refine takeYesE 3 (v := ?_) rfl (by kernel_rfl) (by kernel_rfl) (by kernel_rfl) (by rfl) (fun _ _ _ h => h) (by assumption) ?_ ?_; rotate_left; (intro w hSw; (try dsimp only at hSw); go_simp; try (with_reducible rfl))
            try simp only [Act.put, List.getElem_toArray, List.getElem_cons_zero, List.getElem_cons_succ, List.setIfInBounds_toArray, List.set_cons_zero, List.set_cons_succ]
            refine takeYesE 4 (v := ?_) rfl (by kernel_rfl) (by kernel_rfl) (by kernel_rfl) (by rfl) (fun _ _ _ h => h) (by assumption) ?_ ?_; rotate_left; (intro w hSw; (try dsimp only at hSw); go_simp; try (with_reducible rfl))
            try simp only [Act.put, List.getElem_toArray, List.getElem_cons_zero, List.getElem_cons_succ, List.setIfInBounds_toArray, List.set_cons_zero, List.set_cons_succ]
            refine takeYesE 5 (v := ?_) rfl (by kernel_rfl) (by kernel_rfl) (by kernel_rfl) (by rfl) (fun _ _ _ h => h) (by assumption) ?_ ?_; rotate_left; (intro w hSw; (try dsimp only at hSw); go_simp; try (with_reducible rfl))
            try simp only [Act.put, List.getElem_toArray, List.getElem_cons_zero, List.getElem_cons_succ, List.setIfInBounds_toArray, List.set_cons_zero, List.set_cons_succ]
            refine takeYesE 6 (v := ?_) rfl (by kernel_rfl) (by kernel_rfl) (by kernel_rfl) (by rfl) (fun _ _ _ h => h) (by assumption) ?_ ?_; rotate_left; (intro w hSw; (try dsimp only at hSw); go_simp; try (with_reducible rfl))
            try simp only [Act.put, List.getElem_toArray, List.getElem_cons_zero, List.getElem_cons_succ, List.setIfInBounds_toArray, List.set_cons_zero, List.set_cons_succ]
            refine takeYesE 7 (v := ?_) rfl (by kernel_rfl) (by kernel_rfl) (by kernel_rfl) (by rfl) (fun _ _ _ h => h) (by assumption) ?_ ?_; rotate_left; (intro w hSw; (try dsimp only at hSw); go_simp; try (with_reducible rfl))
            try simp only [Act.put, List.getElem_toArray, List.getElem_cons_zero, List.getElem_cons_succ, List.setIfInBounds_toArray, List.set_cons_zero, List.set_cons_succ]
            refine takeYesE 8 (v := ?_) rfl (by kernel_rfl) (by kernel_rfl) (by kernel_rfl) (by rfl) (fun _ _ _ h => h) (by assumption) ?_ ?_; rotate_left; (intro w hSw; (try dsimp only at hSw); go_simp; try (with_reducible rfl))
            try simp only [Act.put, List.getElem_toArray, List.getElem_cons_zero, List.getElem_cons_succ, List.setIfInBounds_toArray, List.set_cons_zero, List.set_cons_succ]
            refine takeYesE 9 (v := ?_) rfl (by kernel_rfl) (by kernel_rfl) (by kernel_rfl) (by rfl) (fun _ _ _ h => h) (by assumption) ?_ ?_; rotate_left; (intro w hSw; (try dsimp only at hSw); go_simp; try (with_reducible rfl))
            try simp only [Act.put, List.getElem_toArray, List.getElem_cons_zero, List.getElem_cons_succ, List.setIfInBounds_toArray, List.set_cons_zero, List.set_cons_succ]
            refine takeYesE 10 (v := ?_) rfl (by kernel_rfl) (by kernel_rfl) (by kernel_rfl) (by rfl) (fun _ _ _ h => h) (by assumption) ?_ ?_; rotate_left; (intro w hSw; (try dsimp only at hSw); go_simp; try (with_reducible rfl))
            try simp only [Act.put, List.getElem_toArray, List.getElem_cons_zero, List.getElem_cons_succ, List.setIfInBounds_toArray, List.set_cons_zero, List.set_cons_succ]
            refine takeYesE 11 (v := ?_) rfl (by kernel_rfl) (by kernel_rfl) (by kernel_rfl) (by rfl) (fun _ _ _ h => h) (by assumption) ?_ ?_; rotate_left; (intro w hSw; (try dsimp only at hSw); go_simp; try (with_reducible rfl))
            try simp only [Act.put, List.getElem_toArray, List.getElem_cons_zero, List.getElem_cons_succ, List.setIfInBounds_toArray, List.set_cons_zero, List.set_cons_succ]
            refine wpAnyH_ready (rs := [12]) (by kernel_rfl) (by simp) ?_
            refine AllReadyH.cons rfl (fun K hK => ?_) AllReadyH.nil
            go_simp
            (go_at_call 76; refine (CC.out _ (by assumption)).mono ?_; rintro e uC ⟨rfl, hb⟩; have qz12_0 : uC.cell? ⟨w.heap.size, 0, none⟩ = some (.slice sa o.sy.length sc) := carry_cell' hb (by assumption); have qz12_1 : uC.cell? ⟨w.heap.size, 1, none⟩ = some (.slice wa o.ws.length wc) := carry_cell' hb (by assumption); have qz12_2 : uC.cell? ⟨w.heap.size, 2, none⟩ = some (.int .i64 o.va) := carry_cell' hb (by assumption); have qz12_3 : uC.cell? ⟨w2.heap.size, k * 2, none⟩ = some (.string t.name) := carry_cell' hb (by assumption); have qz12_4 : uC.cell? ⟨w2.heap.size, k * 2 + 1, none⟩ = some (.slice px t.args.length cx) := carry_cell' hb (by assumption); have huC : Below wr.heap.size wr uC := carry_below (by assumption) (Nat.le_refl _) hb; clear hb; go_wp2_with fail)
            refine hK.out _ _ (by first | exact ⟨by assumption, by assumption, by assumption, by assumption, by assumption, by assumption⟩ | go_keep) (fun hHeld => ?_)
            clear hK K
            try simp only [Act.put, List.getElem_toArray, List.getElem_cons_zero, List.getElem_cons_succ, List.setIfInBounds_toArray, List.set_cons_zero, List.set_cons_succ]
            refine takeYesE 13 (v := ?_) rfl (by kernel_rfl) (by kernel_rfl) (by kernel_rfl) (by rfl) (fun _ _ _ h => h) (by assumption) ?_ ?_; rotate_left; (intro w hSw; (try dsimp only at hSw); go_simp; try (with_reducible rfl))
            try simp only [Act.put, List.getElem_toArray, List.getElem_cons_zero, List.getElem_cons_succ, List.setIfInBounds_toArray, List.set_cons_zero, List.set_cons_succ]
            refine takeYesE 14 (v := ?_) rfl (by kernel_rfl) (by kernel_rfl) (by kernel_rfl) (by rfl) (fun _ _ _ h => h) (by assumption) ?_ ?_; rotate_left; (intro w hSw; (try dsimp only at hSw); go_simp; try (with_reducible rfl))
            try simp only [Act.put, List.getElem_toArray, List.getElem_cons_zero, List.getElem_cons_succ, List.setIfInBounds_toArray, List.set_cons_zero, List.set_cons_succ]
            refine wpAnyH_done (by kernel_rfl) ?_ _
            have hb : Below wr.heap.size wr uC := by assumption
            have HBW := Lib.hid (carry_below HB3.out (Nat.le_refl _) hb)
            have HRW := Lib.hid (HRT.out.kept hb)
            clear hb hB0 b0 b1 b2 b3 x0 x1 HB3 HRT CC
            cases gc with
            | false =>
              have HE : Hid (LitEnd o d w0 w (.returned (.tuple #[.slice (some ⟨uC.heap.size, 0, none⟩) 0 0, .bool false])) (uC.alloc (.cells #[] 39))) := Lib.hid (by
                have hf : o.litOk d = false := by rw [HLB.out, ← HBA.out]; exact List.all_eq_false.2 ⟨t, mem_of_at HS.out, by rw [HGC.out]; decide⟩
                exact ⟨_, [], ret_sl hf.symm, ⟨World.ownsRow_made uC #[] 0 (Nat.le_trans HB2.out.size HBW.out.size) (by decide) (by simp), fun e he => by cases he⟩, fun h => (by rw [hf] at h; cases h), (HB2.out.trans (HBW.out.mono HB2.out.size)).alloc (Nat.le_trans HB2.out.size HBW.out.size) _⟩)
              go_wp2
              go_ret2
              exact HE.out
            | true =>
              have HN : Hid ((base.take (k + 1)).all o.elB = true) := Lib.hid (by rw [all_next HS.out, HEL.out, HGC.out]; rfl)
              have HBW1 := HBW
              obtain ⟨xs, hxs⟩ : ∃ xs, xs = teF L := ⟨_, rfl⟩
              have HXS := Lib.hid hxs
              have HO1 := HRW.out.row
              rw [← hxs] at HO1
              replace HO1 := Lib.hid HO1
              have HAR : Hid (∀ e ∈ L, TmS w0 e.2 e.1.args) := Lib.hid HRW.out.args
              have hsz1 := HBW1.out.size
              clear hxs HRW
              have y01 := carry_cell HX0.out HBW1.out
              have y11 := carry_cell HX1.out HBW1.out
              obtain ⟨l0, l1, l2, l3⟩ := HL2.out.kept HBW1.out
              cases pv with
              | true =>
                go_wp2_with (at_builtin; (refine wpList_append_lies _ rfl _ _ 37 rfl W2.heap.size 39 i1 (.agg #[.string ByteArray.empty, .slice none 0 0]) 2 40 Tryz.underlying37 gi gz0 gz1 gz2 rfl (by omega) (.slice vp L.length vc) (L.length) xs rfl (HO1.out.alloc _) ⟨uC.heap.size, 0, none⟩ 1 1 [.string t.name, .slice px t.args.length cx] rfl rfl (World.news_of_block (cs := #[.string t.name, .slice px t.args.length cx]) (t := 39) (fr := (0, 0)) (heap_alloc_new uC _)) (by simp [Value.oneCell']) (by omega) (by unfold maxLen; omega) (by omega) (by simp; omega) (uC.heap.size + 1) (by simp) ?_; intro g1 cap1 w1' hown hg hat3 hlt3; have HO2 := Lib.hid hown; have HBW2 := Lib.hid ((HBW1.out.alloc HBW1.out.size (.cells #[.string t.name, .slice px t.args.length cx] 39)).grown hg (by simp; omega) (fun r e => (HO1.out.lt r e).1)); clear hown hg hat3 hlt3; have hsz2 := HBW2.out.size; have zz2 := HL2.out.kept HBW2.out; obtain ⟨l02, l12, l22, l32⟩ := zz2; have y02 := carry_cell HX0.out HBW2.out; have y12 := carry_cell HX1.out HBW2.out))
                have HK : Hid (OlR o true base w0 W2 (k + 1) (.slice (some ⟨g1, 0, none⟩) (L.length + 1) cap1) w1') := Lib.hid ⟨L ++ [(t, .slice px t.args.length cx)], ⟨by
                    have h := HO2.out
                    rw [HXS.out] at h
                    rw [teF_append, List.length_append]
                    simpa [teF, teC, Nat.add_assoc] using h, fun e he => by
                    rcases List.mem_append.1 he with he | he
                    · exact HAR.out e he
                    · rw [List.mem_singleton.1 he]; exact HVX.out⟩, by
                    rw [HDN.out, ← HTM.out]; simp [tmsE], HN.out, by rw [List.length_append]; simp; omega, HBW2.out⟩
                go_roundw
                case rel => exact ⟨k + 1, _, by omega, by go_num, rfl, HK.out⟩
                case measure => simp [intOf]; omega
              | false =>
                go_wp2_with (at_builtin; first | (refine wpList_append_lies _ rfl _ _ 37 rfl W2.heap.size 39 i1 (.agg #[.string ByteArray.empty, .slice none 0 0]) 2 40 Tryz.underlying37 gi gz0 gz1 gz2 rfl (by omega) (.slice (some ⟨g1, 0, none⟩) (L.length + 1) cap1) (L.length + 1) (xs ++ [.string t.name, .slice px t.args.length cx]) rfl (HO2.out.alloc _) ⟨w1'.heap.size, 0, none⟩ 1 1 [.string t.name, .slice px t.args.length cx] rfl rfl (World.news_of_block (cs := #[.string t.name, .slice px t.args.length cx]) (t := 39) (fr := (0, 0)) (heap_alloc_new w1' _)) (by simp [Value.oneCell']) (by omega) (by unfold maxLen; omega) (by omega) (by simp; omega) (w1'.heap.size + 1) (by simp) ?_; intro g2 cap2 w2' hown hg hat3 hlt3; have HO3 := Lib.hid hown; have HBW3 := Lib.hid ((HBW2.out.alloc HBW2.out.size (.cells #[.string t.name, .slice px t.args.length cx] 39)).grown hg (by simp; omega) (fun r e => (HO2.out.lt r e).1)); clear hown hg hat3 hlt3; have hsz3 := HBW3.out.size; have zz3 := HL2.out.kept HBW3.out; obtain ⟨l03, l13, l23, l33⟩ := zz3; have y03 := carry_cell HX0.out HBW3.out; have y13 := carry_cell HX1.out HBW3.out) | (refine wpList_append_lies _ rfl _ _ 37 rfl W2.heap.size 39 i1 (.agg #[.string ByteArray.empty, .slice none 0 0]) 2 40 Tryz.underlying37 gi gz0 gz1 gz2 rfl (by omega) (.slice vp L.length vc) (L.length) xs rfl (HO1.out.alloc _) ⟨uC.heap.size, 0, none⟩ 1 1 [.string t.name, .slice px t.args.length cx] rfl rfl (World.news_of_block (cs := #[.string t.name, .slice px t.args.length cx]) (t := 39) (fr := (0, 0)) (heap_alloc_new uC _)) (by simp [Value.oneCell']) (by omega) (by unfold maxLen; omega) (by omega) (by simp; omega) (uC.heap.size + 1) (by simp) ?_; intro g1 cap1 w1' hown hg hat3 hlt3; have HO2 := Lib.hid hown; have HBW2 := Lib.hid ((HBW1.out.alloc HBW1.out.size (.cells #[.string t.name, .slice px t.args.length cx] 39)).grown hg (by simp; omega) (fun r e => (HO1.out.lt r e).1)); clear hown hg hat3 hlt3; have hsz2 := HBW2.out.size; have zz2 := HL2.out.kept HBW2.out; obtain ⟨l02, l12, l22, l32⟩ := zz2; have y02 := carry_cell HX0.out HBW2.out; have y12 := carry_cell HX1.out HBW2.out))
                have HK : Hid (OlR o false base w0 W2 (k + 1) (.slice (some ⟨g2, 0, none⟩) (L.length + 1 + 1) cap2) w2') := Lib.hid ⟨L ++ [(t, .slice px t.args.length cx), (t, .slice px t.args.length cx)], ⟨by
                    have h := HO3.out
                    rw [HXS.out] at h
                    rw [teF_append, List.length_append]
                    simpa [teF, teC, Nat.add_assoc] using h, fun e he => by
                    rcases List.mem_append.1 he with he | he
                    · exact HAR.out e he
                    · (simp only [List.mem_cons, List.not_mem_nil, or_false, or_self] at he; rw [he]; exact HVX.out)⟩, by
                    rw [HDN.out, ← HTM.out]; simp [tmsE], HN.out, by rw [List.length_append]; simp; omega, HBW3.out⟩
                go_roundw
                case rel => exact ⟨k + 1, _, by omega, by go_num, rfl, HK.out⟩
                case measure => simp [intOf]; omega
        · have hke : k = 2 := by omega
          have HE : Hid (LitEnd o d w0 w (.returned (.tuple #[.slice vp L.length vc, .bool true])) wr) := Lib.hid (by
            have e := HBN.out
            have h1 := HEL.out
            have h2 := HTM.out
            rw [hke, List.take_of_length_le (by omega), HBA.out] at h1 h2
            have hok : o.litOk d = true := by rw [HLB.out]; exact h1
            rw [HPV.out] at h2
            exact ⟨_, L, ret_sl hok.symm, HRT.out.low HB2.out.size, fun _ => h2, HB2.out.trans (HB3.out.mono HB2.out.size)⟩)
          go_wp2
          go_ret2
          exact HE.out

end Go.Proofs.YtohalpafmcobpaaGreat

/- OrderLiterals, the model's: a contract, for orderings and literals of at most 1048576 names' bytes and elements. -/
namespace Go.Proofs.YtohalpafmcobpaaGreat
open Go.RowKit
set_option linter.unusedVariables false
set_option linter.unusedSimpArgs false

theorem ordOk_g {o : Od} {a b : Lt} (h : o.good = false) : o.ordOk a b = false := by unfold Od.ordOk; rw [h]; rfl
theorem ordOk_a {o : Od} {a b : Lt} (h : o.litOk a = false) : o.ordOk a b = false := by unfold Od.ordOk; rw [h]; simp
theorem ordOk_b {o : Od} {a b : Lt} (h : o.litOk b = false) : o.ordOk a b = false := by unfold Od.ordOk; rw [h]; simp
theorem ordOk_y {o : Od} {a b : Lt} (h : o.good = true) (h1 : o.litOk a = true) (h2 : o.litOk b = true) : o.ordOk a b = true := by unfold Od.ordOk; rw [h, h1, h2]; rfl

set_option maxRecDepth 100000 in
set_option maxHeartbeats 8000000 in
theorem specOl_any (o : Od) (ho : o.wt ≤ 1048576) (a b : Lt) (w : World) (sv wv va vb : Value) (hv : OdV w sv wv o) (ha : TmS w va a.tm.args) (hb : TmS w vb b.tm.args) (hwa : a.tm.wt ≤ 1048576) (hwb : b.tm.wt ≤ 1048576) :
    Calls Tryz.prog 9 #[.agg #[sv, wv, .int .i64 o.va], .agg #[.bool a.var, .string a.tm.name, va], .agg #[.bool b.var, .string b.tm.name, vb]] w (Ans (.tuple #[.int .i64 (o.ordR a b), .bool (o.ordOk a b)]) w) := by
  obtain ⟨sa, sc, wa, wc, rfl, rfl⟩ := hv.open
  obtain ⟨pa, ca, rfl⟩ := ha.is_slice
  obtain ⟨pb, cb, rfl⟩ := hb.is_slice
  obtain ⟨w1, hw1⟩ : ∃ w1, ((w.alloc (.cells #[.slice sa o.sy.length sc, .slice wa o.ws.length wc, .int .i64 o.va] 35)).alloc (.cells #[.bool a.var, .string a.tm.name, .slice pa a.tm.args.length ca] 41)).alloc (.cells #[.bool b.var, .string b.tm.name, .slice pb b.tm.args.length cb] 41) = w1 := ⟨_, rfl⟩
  have HB : Hid (Below w.heap.size w w1) := Lib.hid (by rw [← hw1]; exact (((Below.refl w.heap.size w).alloc (Nat.le_refl _) _).alloc (by simp) _).alloc (by simp; omega) _)
  have H3 : Hid (OdB w1 w.heap.size (.slice sa o.sy.length sc) (.slice wa o.ws.length wc) o) := Lib.hid (by rw [← hw1]; exact ((thr_new w _ _ _ _ _ rfl).alloc _).alloc _)
  have HLA : Hid (Thr w1 (w.heap.size + 1) (.bool a.var) (.string a.tm.name) (.slice pa a.tm.args.length ca)) := Lib.hid (by rw [← hw1]; exact (thr_new _ _ _ _ _ (w.heap.size + 1) (by simp)).alloc _)
  have HLB : Hid (Thr w1 (w.heap.size + 1 + 1) (.bool b.var) (.string b.tm.name) (.slice pb b.tm.args.length cb)) := Lib.hid (by rw [← hw1]; exact thr_new _ _ _ _ _ (w.heap.size + 1 + 1) (by simp))
  have HV := Lib.hid hv
  have CG := Lib.hid (fun W (hW : Below w.heap.size w W) => l6Good_any o W _ _ (hv.kept hW) ho)
  have CA := Lib.hid (fun W (hW : Below w.heap.size w W) => l6Lit_any o ho a W W (Below.refl _ _) _ _ _ (hv.kept hW) (ha.kept hW) hwa)
  have CB := Lib.hid (fun W (hW : Below w.heap.size w W) => l6Lit_any o ho b W W (Below.refl _ _) _ _ _ (hv.kept hW) (hb.kept hW) hwb)
  clear hv ha hb
  obtain ⟨b0, b1, b2, b3⟩ := H3.out
  obtain ⟨k0, k1, k2, k3⟩ := HLA.out
  obtain ⟨l0, l1, l2, l3⟩ := HLB.out
  go_enter Tryz.func9, Tryz.ntmps9

  go_wp2_with fail
  refine (CG.out _ HB.out).mono ?_
  rintro e w2 ⟨rfl, hb⟩
  clear hw1
  replace HB := Lib.hid (carry_below HB.out (Nat.le_refl _) hb)
  replace H3 := Lib.hid (H3.out.kept hb)
  replace HLA := Lib.hid (HLA.out.kept hb)
  replace HLB := Lib.hid (HLB.out.kept hb)
  clear hb b0 b1 b2 b3 k0 k1 k2 k3 l0 l1 l2 l3
  obtain ⟨b0, b1, b2, b3⟩ := H3.out
  obtain ⟨k0, k1, k2, k3⟩ := HLA.out
  obtain ⟨l0, l1, l2, l3⟩ := HLB.out
  cases hg : o.good with
  | false =>
    have HO := Lib.hid (ordOk_g (a := a) (b := b) hg)
    have HR := Lib.hid (ordR_no HO.out)
    clear hg
    go_wp2
    go_ret2
    exact ⟨ret_pair HR.out.symm HO.out.symm, HB.out⟩
  | true =>
    have HG := Lib.hid hg
    clear hg
    go_wp2_with fail
    refine (CA.out _ HB.out).mono ?_
    rintro e w3 ⟨x, Lx, rfl, hrx, hxe, hb⟩
    have hx := hrx.read hb
    obtain ⟨lx, hlx⟩ : ∃ lx, tmsE Lx = lx := ⟨_, rfl⟩
    rw [hlx] at hx hxe
    clear hrx hlx
    obtain ⟨qx, dx, rfl⟩ := hx.is_slice
    have HX := Lib.hid hx
    have HXE := Lib.hid hxe
    clear hx hxe
    replace HB := Lib.hid (carry_below HB.out (Nat.le_refl _) hb)
    replace H3 := Lib.hid (H3.out.kept hb)
    replace HLA := Lib.hid (HLA.out.kept hb)
    replace HLB := Lib.hid (HLB.out.kept hb)
    clear hb b0 b1 b2 b3 k0 k1 k2 k3 l0 l1 l2 l3
    obtain ⟨b0, b1, b2, b3⟩ := H3.out
    obtain ⟨k0, k1, k2, k3⟩ := HLA.out
    obtain ⟨l0, l1, l2, l3⟩ := HLB.out
    obtain ⟨ga, hga⟩ : ∃ ga, ga = o.litOk a := ⟨_, rfl⟩
    have HGA := Lib.hid hga
    rw [← hga] at HXE ⊢
    clear hga
    go_wp2_with fail
    refine (CB.out _ HB.out).mono ?_
    rintro e w4 ⟨y, Ly, rfl, hry, hye, hb⟩
    have hy := hry.read hb
    obtain ⟨ly, hly⟩ : ∃ ly, tmsE Ly = ly := ⟨_, rfl⟩
    rw [hly] at hy hye
    clear hry hly
    obtain ⟨qy, dy, rfl⟩ := hy.is_slice
    replace HX := Lib.hid (HX.out.kept hb)
    have HY := Lib.hid hy
    have HYE := Lib.hid hye
    clear hy hye
    replace HB := Lib.hid (carry_below HB.out (Nat.le_refl _) hb)
    replace H3 := Lib.hid (H3.out.kept hb)
    replace HLA := Lib.hid (HLA.out.kept hb)
    replace HLB := Lib.hid (HLB.out.kept hb)
    clear hb b0 b1 b2 b3 k0 k1 k2 k3 l0 l1 l2 l3
    obtain ⟨b0, b1, b2, b3⟩ := H3.out
    obtain ⟨k0, k1, k2, k3⟩ := HLA.out
    obtain ⟨l0, l1, l2, l3⟩ := HLB.out
    obtain ⟨gb, hgb⟩ : ∃ gb, gb = o.litOk b := ⟨_, rfl⟩
    have HGB := Lib.hid hgb
    rw [← hgb] at HYE ⊢
    clear hgb
    cases ga with
    | false =>
      have HO := Lib.hid (ordOk_a (b := b) HGA.out.symm)
      have HR := Lib.hid (ordR_no HO.out)
      go_wp2
      go_ret2
      exact ⟨ret_pair HR.out.symm HO.out.symm, HB.out⟩
    | true =>
      cases gb with
      | false =>
        have HO := Lib.hid (ordOk_b (a := a) HGB.out.symm)
        have HR := Lib.hid (ordR_no HO.out)
        go_wp2
        go_ret2
        exact ⟨ret_pair HR.out.symm HO.out.symm, HB.out⟩
      | true =>
        have HO := Lib.hid (ordOk_y HG.out HGA.out.symm HGB.out.symm)
        have HR := Lib.hid (ordR_yes HO.out)
        have hex := HXE.out rfl
        have hey := HYE.out rfl
        subst hex hey
        have CM := Lib.hid (l6Mul_any o ho (Od.good_fine HG.out) a.msS b.msS w4 _ _ _ _ (HV.out.kept HB.out) HX.out HY.out (Nat.le_trans (ms_len (litOk_atom HGA.out.symm)).1 (by omega)) (Nat.le_trans (ms_len (litOk_atom HGB.out.symm)).1 (by omega)) (msS_z hwa HGA.out.symm) (msS_z hwb HGB.out.symm))
        go_wp2_with fail
        refine CM.out.mono ?_
        rintro e w5 ⟨rfl, hb⟩
        replace HB := Lib.hid (carry_below HB.out (Nat.le_refl _) hb)
        replace H3 := Lib.hid (H3.out.kept hb)
        replace HLA := Lib.hid (HLA.out.kept hb)
        replace HLB := Lib.hid (HLB.out.kept hb)
        clear hb b0 b1 b2 b3 k0 k1 k2 k3 l0 l1 l2 l3
        obtain ⟨b0, b1, b2, b3⟩ := H3.out
        obtain ⟨k0, k1, k2, k3⟩ := HLA.out
        obtain ⟨l0, l1, l2, l3⟩ := HLB.out
        go_wp2
        go_ret2
        exact ⟨ret_pair HR.out.symm HO.out.symm, HB.out⟩

end Go.Proofs.YtohalpafmcobpaaGreat

/- The model's text of an equality, and FormatTerm of the model: contracts, for terms of at most 1048576 names' bytes and arguments. -/
namespace Go.Proofs.YtohalpafmcobpaaGreat
open Go.RowKit
set_option linter.unusedVariables false

theorem run_cat {P : Program} (T : TypeId) (a b : ByteArray) (h : a.size + b.size ≤ 9223372036854775807) (W : World) : (binOp .add T (.string a) (.string b)).run P W = .ok (.string (a ++ b)) W := by
  have h' : ¬ ((a.size + b.size : Nat) : Int) > IntKind.i64.max := by
    show ¬ ((a.size + b.size : Nat) : Int) > 9223372036854775807
    omega
  simp only [binOp, Op.stringOp, if_neg h']
  rfl

theorem any_ways {t : Tm} (h : anyB t = true) : (isEqB t.name = true ∧ ∃ x y, t.args = [x, y] ∧ x.nodesB = true ∧ y.nodesB = true) ∨ (isEqB t.name = false ∧ t.nodesB = true) := by
  unfold anyB at h
  cases hg : goodB t with
  | true =>
    have hn : t.nodesB = true := by unfold goodB at hg; simp only [Bool.and_eq_true] at hg; exact hg.2
    exact .inr ⟨nodes_noteq hn, hn⟩
  | false =>
    rw [hg, Bool.false_or] at h
    unfold atomB at h
    cases he : isEqB t.name with
    | true =>
      rw [he] at h
      simp only [if_true, Bool.and_eq_true, decide_eq_true_eq, List.all_eq_true] at h
      obtain ⟨x, y, hxy⟩ := two_args h.1
      exact .inl ⟨rfl, x, y, hxy, h.2.2 x (by rw [hxy]; simp), h.2.2 y (by rw [hxy]; simp)⟩
    | false =>
      rw [he] at h
      simp only [Bool.false_eq_true, if_false, Bool.and_eq_true] at h
      rw [hg] at h
      cases h.2

theorem txtX_eq {sign : List UInt8} {t : Tm} (h : isEqB t.name = true) : txtX sign t = jn sign t.args := by simp [txtX, h]
theorem txtX_no {sign : List UInt8} {t : Tm} (h : isEqB t.name = false) : txtX sign t = t.txt := by simp [txtX, h]

end Go.Proofs.YtohalpafmcobpaaGreat

/- The program writes the texts of terms into a buffer: a contract, for terms of at most 1048576 names' bytes and arguments. -/
namespace Go.Proofs.YtohalpafmcobpaaGreat
open Go.RowKit
set_option linter.unusedVariables false

/-- What stands while the buffer is written. -/
def Keep (B b : Nat) (W W' : World) : Prop := Below B W W' ∧ Lib.OthersKept 5 (some b) W W'
theorem Keep.refl (B b : Nat) (W : World) : Keep B b W W := ⟨Below.refl _ _, Lib.OthersKept.refl _ _ _⟩
theorem Keep.trans {B b : Nat} {W1 W2 W3 : World} (h : Keep B b W1 W2) (k : Keep B b W2 W3) : Keep B b W1 W3 := ⟨h.1.trans k.1, h.2.trans k.2⟩
theorem Keep.alloc {B b : Nat} {W1 W2 : World} (h : Keep B b W1 W2) (hB : B ≤ W2.heap.size) (o : Obj) : Keep B b W1 (W2.alloc o) := ⟨h.1.alloc hB o, h.2.alloc o⟩
theorem Keep.size {B b : Nat} {W1 W2 : World} (h : Keep B b W1 W2) (hB : B ≤ W1.heap.size) : B ≤ W2.heap.size := Nat.le_trans hB h.1.size

/-- A box that holds a term. -/
def BoxT (W : World) (g : Nat) (n : ByteArray) (v : Value) : Prop := W.heap[g]? = some (Obj.cells #[.string n, v] 39 (0, 0))
theorem BoxT.new (W : World) (n : ByteArray) (v : Value) : BoxT (W.alloc (.cells #[.string n, v] 39)) W.heap.size n v := World.alloc_heap_new W _
theorem BoxT.two {W : World} {g : Nat} {n : ByteArray} {v : Value} (h : BoxT W g n v) : Two W g (.string n) v := by
  have e : W.heap[g]? = _ := h
  exact ⟨by simp [World.cell?, e], by simp [World.cell?, e], fun j => by simp [World.frozen?, e]⟩
theorem BoxT.kept {B b g : Nat} {W W' : World} {n : ByteArray} {v : Value} (h : BoxT W g n v) (hg : g ≠ b) (hk : Keep B b W W') : BoxT W' g n v :=
  hk.2 g _ h (fun e => hg (by injection e)) (fun c fz e => by injection e with _ e2; cases e2)

/-- The slice value's elements can be read while the buffer is written. -/
def RowK (B b : Nat) (w0 W : World) (v : Value) (l : List Tm) : Prop :=
  ∃ a c, v = .slice a l.length c ∧ ∀ (k : Nat) (t : Tm), l[k]? = some t → ∃ g off va, a = some ⟨g, off, none⟩ ∧
    (∀ W', Keep B b W W' → W'.cell? ⟨g, off + k * 2, none⟩ = some (.string t.name) ∧ W'.cell? ⟨g, off + k * 2 + 1, none⟩ = some va) ∧ TmS w0 va t.args

theorem RowK.below {B b : Nat} {w0 W : World} {v : Value} {l : List Tm} (hv : TmS w0 v l) (hB : w0.heap.size = B) (hb : Below B w0 W) : RowK B b w0 W v l := by
  obtain ⟨a, c, rfl⟩ := hv.is_slice
  refine ⟨a, c, rfl, fun k t hk => ?_⟩
  obtain ⟨g, off, e, va, c0, c1, hva⟩ := hv.get hk
  subst hB
  exact ⟨g, off, va, e, fun W' hW' => ⟨carry_cell c0 (hb.trans hW'.1), carry_cell c1 (hb.trans hW'.1)⟩, hva⟩

theorem RowK.one {B b g c : Nat} {w0 W : World} {t : Tm} {va : Value} (hv : TmS w0 va t.args) (hx : BoxT W g t.name va) (hg : g ≠ b) : RowK B b w0 W (.slice (some ⟨g, 0, none⟩) 1 c) [t] := by
  refine ⟨_, c, rfl, fun k s hk => ?_⟩
  have hk0 : k = 0 ∧ s = t := by
    cases k with
    | zero => simp at hk; exact ⟨rfl, hk.symm⟩
    | succ k => simp at hk
  obtain ⟨rfl, rfl⟩ := hk0
  exact ⟨g, 0, va, rfl, fun W' hW' => by
    obtain ⟨h0, h1, _⟩ := (hx.kept hg hW').two
    exact ⟨by simpa using h0, by simpa using h1⟩, hv⟩

theorem sumL_lin : ∀ l : List Tm, sumL (fun s => 3 * s.wt + 10) l = 3 * sumL Tm.wt l + 10 * l.length
  | [] => by simp [sumL]
  | a :: r => by simp only [sumL, sumL_lin r, List.length_cons]; omega

end Go.Proofs.YtohalpafmcobpaaGreat

/- FormatTerm of the program: a contract, for terms of at most 1048576 names' bytes and arguments. -/
namespace Go.Proofs.YtohalpafmcobpaaGreat
open Go.RowKit
set_option linter.unusedVariables false

theorem txtX_len (t : Tm) (hw : t.wt ≤ 1048576) (ha : anyB t = true) (sign : List UInt8) (hs : sign.length ≤ 10) : (txtX sign t).length ≤ 100000000 := by
  cases he : isEqB t.name with
  | false => rw [txtX_no he]; have := t.txt_wt; omega
  | true =>
    rw [txtX_eq he]
    have h2 := jn_len_le sign t.args
    have h3 := sumL_le_of (f := fun s : Tm => s.txt.length + sign.length) (g := fun s => 3 * s.wt + 10) (l := t.args) (fun s hs => by have := s.txt_wt; omega)
    have h4 := sumL_lin t.args
    have h5 := t.wt_eq
    omega

end Go.Proofs.YtohalpafmcobpaaGreat

/- Literals in memory, their texts, and the laws' helpers over them: contracts, for atoms of at most 1048576 names' bytes and arguments. -/
namespace Go.Proofs.YtohalpafmcobpaaGreat
open Go.RowKit
set_option linter.unusedVariables false

/-- A block whose first three cells hold these values, not frozen. -/
def Tri (w : World) (b : Nat) (x y z : Value) : Prop := w.cell? ⟨b, 0, none⟩ = some x ∧ w.cell? ⟨b, 1, none⟩ = some y ∧ w.cell? ⟨b, 2, none⟩ = some z ∧ ∀ j, w.frozen? ⟨b, j, none⟩ = false
theorem tri_new (w : World) (x y z : Value) (T : TypeId) (b : Nat) (hb : b = w.heap.size) : Tri (w.alloc (.cells #[x, y, z] T)) b x y z :=
  ⟨by rw [World.cell?_alloc_at _ _ _ _ hb]; rfl, by rw [World.cell?_alloc_at _ _ _ _ hb]; rfl, by rw [World.cell?_alloc_at _ _ _ _ hb]; rfl, fun j => World.frozen?_alloc_at _ _ _ _ hb⟩
theorem Tri.kept {w w' : World} {b : Nat} {x y z : Value} (h : Tri w b x y z) (hb : Below w.heap.size w w') : Tri w' b x y z :=
  ⟨carry_cell h.1 hb, carry_cell h.2.1 hb, carry_cell h.2.2.1 hb, fun j => (hb.frozen (p := ⟨b, j, none⟩) (World.block_lt_of_cell? w ⟨b, 0, none⟩ h.1)).trans (h.2.2.2 j)⟩
theorem Tri.alloc {w : World} {b : Nat} {x y z : Value} (h : Tri w b x y z) (o : Obj) : Tri (w.alloc o) b x y z := h.kept ((Below.refl _ _).alloc (Nat.le_refl _) o)
theorem Tri.drew {w : World} {b : Nat} {x y z : Value} (h : Tri w b x y z) : Tri w.drew b x y z := h.kept (Below.refl _ _).drew

def litTxt (p : Bool) (t : Tm) : List UInt8 := if p then txtX eqSign t else if isEqB t.name then txtX neSign t else 126 :: txtX neSign t
theorem lit_pos (t : Tm) : litTxt true t = txtX eqSign t := rfl
theorem lit_neq {t : Tm} (h : isEqB t.name = true) : litTxt false t = txtX neSign t := by simp [litTxt, h]
theorem lit_neg {t : Tm} (h : isEqB t.name = false) : litTxt false t = 126 :: txtX neSign t := by simp [litTxt, h]
def fmtL (p : Bool) (t : Tm) : ByteArray := if atomB t then bs (litTxt p t) else bs []
theorem fmtL_yes {p : Bool} {t : Tm} (h : atomB t = true) : fmtL p t = bs (litTxt p t) := by simp [fmtL, h]
theorem fmtL_no {p : Bool} {t : Tm} (h : atomB t = false) : fmtL p t = bs [] := by simp [fmtL, h]
theorem atom_any {t : Tm} (h : atomB t = true) : anyB t = true := by simp [anyB, h]

set_option maxHeartbeats 1000000 in
theorem szLiteral_any (p : Bool) (t : Tm) (w : World) (va : Value) (left : Int) (hv : TmS w va t.args) (hlim : t.lim 9223372036854775807) (h0 : 0 ≤ left) (h1 : left ≤ 1048576) :
    Calls Tryz.prog 8 #[.agg #[.bool p, .string t.name, va], .int .i64 left] w fun e w' => e = .returned (.int .i64 (szR left t.wt)) ∧ Below w.heap.size w w' := by
  obtain ⟨pa, ca, rfl⟩ := hv.is_slice
  have HV := Lib.hid hv
  have HLIM := Lib.hid hlim
  have HB := Lib.hid ((Below.refl w.heap.size w).alloc (Nat.le_refl _) (.cells #[.bool p, .string t.name, .slice pa t.args.length ca] 30))
  clear hv hlim
  go_enter Tryz.func8, Tryz.ntmps8
  go_wp2_with fail
  refine (szTerm_any t _ _ left (HV.out.kept HB.out) HLIM.out h0 h1).mono ?_
  rintro e w1 ⟨rfl, hb⟩
  have HB1 := Lib.hid (carry_below HB.out (Nat.le_refl _) hb)
  clear hb
  rcases szR_cases left t.wt with ⟨c1, c2⟩ | ⟨c1, c2⟩
  · have HC := Lib.hid c2
    rw [c2]
    clear c2
    go_wp2
    go_ret
    exact ⟨ret_int HC.out.symm, HB1.out⟩
  · have HC := Lib.hid c2
    rw [c2]
    clear c2
    have hn : ¬ left - (t.wt : Int) < 0 := by omega
    go_wp2
    go_ret
    exact ⟨ret_int HC.out.symm, HB1.out⟩

set_option maxHeartbeats 1000000 in
theorem eqLiteral_any (p : Bool) (t : Tm) (w : World) (va vb : Value) (ha : TmS w va t.args) (hb : TmS w vb t.args) (hlim : t.lim 1048576) :
    Calls Tryz.prog 14 #[.agg #[.bool p, .string t.name, va], .agg #[.bool p, .string t.name, vb]] w fun e w' => e = .returned (.bool true) ∧ Below w.heap.size w w' := by
  obtain ⟨pa, ca, rfl⟩ := ha.is_slice
  obtain ⟨pb, cb, rfl⟩ := hb.is_slice
  have HA := Lib.hid ha
  have HBB := Lib.hid hb
  have HB := Lib.hid (((Below.refl w.heap.size w).alloc (Nat.le_refl _) (.cells #[.bool p, .string t.name, .slice pa t.args.length ca] 41)).alloc (by simp) (.cells #[.bool p, .string t.name, .slice pb t.args.length cb] 41))
  have CE := eqTerm_any t t _ _ _ (ha.kept HB.out) (hb.kept HB.out) hlim hlim
  rw [eqT_self] at CE
  have HCE := Lib.hid CE
  clear ha hb CE
  go_enter Tryz.func14, Tryz.ntmps14
  go_wp2_with fail
  refine HCE.out.mono ?_
  rintro e w1 ⟨rfl, hb⟩
  have HB1 := Lib.hid (carry_below HB.out (Nat.le_refl _) hb)
  clear hb
  go_wp2
  go_ret
  exact ⟨rfl, HB1.out⟩

def ToLitEnd (p : Bool) (t : Tm) (w : World) (e : Ending) (w' : World) : Prop :=
  ∃ va, e = .returned (.agg #[.bool p, .string t.name, va]) ∧ TmO w' (Fresh w w') va t.args ∧ Below w.heap.size w w'

set_option maxRecDepth 100000 in
set_option maxHeartbeats 1000000 in
theorem toLiteral_any (p : Bool) (t : Tm) (w : World) (va : Value) (hv : TmS w va t.args) (hw : t.wt ≤ 1048576) :
    Calls Tryz.prog 11 #[.agg #[.bool p, .string t.name, va]] w (ToLitEnd p t w) := by
  obtain ⟨pa, ca, rfl⟩ := hv.is_slice
  have HV := Lib.hid hv
  clear hv
  go_enter Tryz.func11, Tryz.ntmps11
  have HB := Lib.hid ((((Below.refl w.heap.size w).alloc (Nat.le_refl _) (.cells #[.bool p, .string t.name, .slice pa t.args.length ca] 30)).alloc (by simp) (.cells #[.bool false, .string ⟨#[]⟩, .slice none 0 0] 41)).alloc (by simp; omega) (.cells #[.bool p, .string ⟨#[]⟩, .slice none 0 0] 41))
  have R2 := Lib.hid ((tri_new (w.alloc (.cells #[.bool p, .string t.name, .slice pa t.args.length ca] 30)) (.bool false) (.string ⟨#[]⟩) (.slice none 0 0) 41 (w.heap.size + 1) (by simp)).alloc (.cells #[.bool p, .string ⟨#[]⟩, .slice none 0 0] 41))
  have O2 := Lib.hid (tri_new ((w.alloc (.cells #[.bool p, .string t.name, .slice pa t.args.length ca] 30)).alloc (.cells #[.bool false, .string ⟨#[]⟩, .slice none 0 0] 41)) (.bool p) (.string ⟨#[]⟩) (.slice none 0 0) 41 (w.heap.size + 1 + 1) (by simp))
  go_wp2_with fail
  refine (toTerm_any t _ _ (HV.out.kept HB.out) hw).mono ?_
  rintro e w1 ⟨v1, rfl, ho, hb⟩
  obtain ⟨qv, qc, rfl⟩ := ho.read.is_slice
  have HB1 := Lib.hid (carry_below HB.out (Nat.le_refl _) hb)
  have HO := Lib.hid ho
  obtain ⟨r0, r1, r2, r3⟩ := R2.out.kept hb
  obtain ⟨o0, o1, o2, o3⟩ := O2.out.kept hb
  have hz := hb.size
  simp at hz
  clear ho hb
  have hne : w.heap.size + 1 + 1 ≠ w.heap.size + 1 := by omega
  have hne' : w.heap.size + 1 ≠ w.heap.size + 1 + 1 := by omega
  -- the world behind the store of the atom
  obtain ⟨W2, hW2⟩ : ∃ W2, (w1.setCell ⟨w.heap.size + 1 + 1, 1, none⟩ (.string t.name)).setCell ⟨w.heap.size + 1 + 1, 2, none⟩ (.slice qv t.args.length qc) = W2 := ⟨_, rfl⟩
  have p0 : W2.cell? ⟨w.heap.size + 1 + 1, 0, none⟩ = some (.bool p) := by rw [← hW2, World.cell?_setCell_other _ _ _ _ (by simp), World.cell?_setCell_other _ _ _ _ (by simp)]; exact o0
  have p1 : W2.cell? ⟨w.heap.size + 1 + 1, 1, none⟩ = some (.string t.name) := by rw [← hW2, World.cell?_setCell_other _ _ _ _ (by simp)]; exact World.cell?_setCell_same _ _ _ o1
  have p2 : W2.cell? ⟨w.heap.size + 1 + 1, 2, none⟩ = some (.slice qv t.args.length qc) := by rw [← hW2]; exact World.cell?_setCell_same _ _ _ ((World.cell?_setCell_other _ _ _ _ (by simp)).trans o2)
  have q0 : W2.cell? ⟨w.heap.size + 1, 0, none⟩ = some (.bool false) := by rw [← hW2, World.cell?_setCell_other _ _ _ _ (by simp), World.cell?_setCell_other _ _ _ _ (by simp)]; exact r0
  have q1 : W2.cell? ⟨w.heap.size + 1, 1, none⟩ = some (.string ⟨#[]⟩) := by rw [← hW2, World.cell?_setCell_other _ _ _ _ (by simp), World.cell?_setCell_other _ _ _ _ (by simp)]; exact r1
  have q2 : W2.cell? ⟨w.heap.size + 1, 2, none⟩ = some (.slice none 0 0) := by rw [← hW2, World.cell?_setCell_other _ _ _ _ (by simp), World.cell?_setCell_other _ _ _ _ (by simp)]; exact r2
  have q3 : ∀ j, W2.frozen? ⟨w.heap.size + 1, j, none⟩ = false := fun j => by rw [← hW2, World.frozen?_setCell, World.frozen?_setCell]; exact r3 j
  have HB2 : Hid (Below w.heap.size w W2) := Lib.hid (by rw [← hW2]; exact (HB1.out.setCell (by simp; omega) _).setCell (by simp; omega) _)
  have HNR : Hid (TmO W2 (fun k => w.heap.size + 1 + 1 < k ∧ k < W2.heap.size) (.slice qv t.args.length qc) t.args) := Lib.hid (by
    rw [← hW2]
    refine ((HO.out.setCell (fun h => by have := h.1; simp at this; omega) _).setCell (fun h => by have := h.1; simp at this; omega) _).mono fun x hx => ⟨?_, ?_⟩
    · have := hx.1; simp at this; omega
    · simp only [size_setCell]; exact hx.2)
  go_wp2
  refine bodyPost_ret (v := .agg #[.bool p, .string t.name, .slice qv t.args.length qc]) (by simp [results, Tryz.results11, go_sem, q0, q1, q2]) rfl ?_
  refine ⟨_, rfl, ?_, ((HB2.out.setCell (by simp) _).setCell (by simp) _).setCell (by simp) _⟩
  refine (((HNR.out.setCell (fun h => by have h1 : w.heap.size + 1 + 1 < w.heap.size + 1 := h.1; omega) _).setCell (fun h => by have h1 : w.heap.size + 1 + 1 < w.heap.size + 1 := h.1; omega) _).setCell (fun h => by have h1 : w.heap.size + 1 + 1 < w.heap.size + 1 := h.1; omega) _).mono fun x hx => ⟨?_, ?_⟩
  · have := hx.1; omega
  · simp only [size_setCell]; exact hx.2

set_option maxHeartbeats 1000000 in
theorem isLiteral_any (p : Bool) (t : Tm) (w : World) (va : Value) (hv : TmS w va t.args) (hw : t.wt ≤ 1048576) :
    Calls Tryz.prog 81 #[.agg #[.bool p, .string t.name, va]] w (Ans (.bool (atomB t)) w) := by
  obtain ⟨pa, ca, rfl⟩ := hv.is_slice
  have HV := Lib.hid hv
  have HB := Lib.hid ((Below.refl w.heap.size w).alloc (Nat.le_refl _) (.cells #[.bool p, .string t.name, .slice pa t.args.length ca] 41))
  clear hv
  go_enter Tryz.func81, Tryz.ntmps81
  go_wp2_with fail
  refine (validAtom_any t _ _ (HV.out.kept HB.out) hw).mono ?_
  rintro e w1 ⟨rfl, hb⟩
  have HB1 := Lib.hid (carry_below HB.out (Nat.le_refl _) hb)
  clear hb
  go_wp2
  go_ret
  exact ⟨rfl, HB1.out⟩

end Go.Proofs.YtohalpafmcobpaaGreat

/- OrderLiterals, the program's: contracts, for orderings and literals of at most 1048576 names' bytes and elements. -/
namespace Go.Proofs.YtohalpafmcobpaaGreat
open Go.RowKit
set_option linter.unusedVariables false
set_option linter.unusedSimpArgs false

def MsEnd (d : Lt) (w : World) (e : Ending) (w' : World) : Prop := ∃ v, e = .returned v ∧ TmS w' v d.msI ∧ Below w.heap.size w w'
theorem msI_pos {d : Lt} (h : d.var = true) : d.msI = d.base := by unfold Lt.msI; rw [h]; rfl
theorem msI_neg {d : Lt} {p q : Tm} (h : d.var = false) (e : d.base = [p, q]) : d.msI = [p, q, p, q] := by unfold Lt.msI; rw [h, e]; rfl

set_option maxRecDepth 100000 in
set_option maxHeartbeats 4000000 in
theorem msetOf_any (d : Lt) (w : World) (va : Value) (ht : TmS w va d.tm.args) (hat : atomB d.tm = true) :
    Calls Tryz.prog 85 #[.agg #[.bool d.var, .string d.tm.name, va]] w (MsEnd d w) := by
  obtain ⟨pa, ca, rfl⟩ := ht.is_slice
  obtain ⟨pv, hpv⟩ : ∃ pv, pv = d.var := ⟨_, rfl⟩
  have HPV := Lib.hid hpv
  rw [← hpv]
  clear hpv
  have HB := Lib.hid ((Below.refl w.heap.size w).alloc (Nat.le_refl _) (.cells #[.bool pv, .string d.tm.name, .slice pa d.tm.args.length ca] 41))
  have HL := Lib.hid (thr_new w (.bool pv) (.string d.tm.name) (.slice pa d.tm.args.length ca) 41 _ rfl)
  obtain ⟨W1, hW1⟩ : ∃ W1, w.alloc (.cells #[.bool pv, .string d.tm.name, .slice pa d.tm.args.length ca] 41) = W1 := ⟨_, rfl⟩
  rw [hW1] at HB HL
  obtain ⟨W2, hW2⟩ : ∃ W2, W1.alloc (.cells #[.string d.tm.name, .slice pa d.tm.args.length ca, .string ⟨#[]⟩, .slice none 0 0] 39) = W2 := ⟨_, rfl⟩
  have hb : Below W1.heap.size W1 W2 := by rw [← hW2]; exact (Below.refl _ _).alloc (Nat.le_refl _) _
  have HB2 := Lib.hid (carry_below HB.out (Nat.le_refl _) hb)
  have HL2 := Lib.hid (HL.out.kept hb)
  have HTZ : Hid (TmS W2 (.slice (some ⟨W1.heap.size, 0, none⟩) 2 2) [d.tm, zT]) := Lib.hid (by rw [← hW2]; exact tmS_z (ht.kept HB.out) rfl)
  have HTA := Lib.hid (ht.kept HB2.out)
  obtain ⟨p, q, hpq⟩ := base_two hat
  have HPQ := Lib.hid hpq
  have CE := Lib.hid (isEq_any d.tm W2 _ HTA.out)
  clear hb hpq ht hat
  obtain ⟨l0, l1, l2, l3⟩ := HL.out
  obtain ⟨m0, m1, m2, m3⟩ := HL2.out
  obtain ⟨ev, hev⟩ : ∃ ev, ev = isEqB d.tm.name := ⟨_, rfl⟩
  have HEV := Lib.hid hev
  rw [← hev] at CE
  clear hev
  go_enter Tryz.func85, Tryz.ntmps85
  go_wp2_with fail
  refine CE.out.mono ?_
  rintro e w3 ⟨rfl, hb⟩
  have HB3 := Lib.hid (carry_below HB2.out (Nat.le_refl _) hb)
  have HTZ3 := Lib.hid (HTZ.out.kept hb)
  have HTA3 := Lib.hid (HTA.out.kept hb)
  have z0 := carry_cell m0 hb
  have z1 := carry_cell m1 hb
  have z2 := carry_cell m2 hb
  clear hb l0 l1 l2 l3 m0 m1 m2 m3 hW1 hW2
  cases ev with
  | false =>
    have HLS : Hid (TmS w3 (.slice (some ⟨W1.heap.size, 0, none⟩) 2 2) d.base) := Lib.hid (by rw [base_no HEV.out.symm]; exact HTZ3.out)
    cases pv with
    | true =>
      have HE : Hid (MsEnd d w (.returned (.slice (some ⟨W1.heap.size, 0, none⟩) 2 2)) w3) := Lib.hid ⟨_, rfl, by rw [msI_pos HPV.out.symm]; exact HLS.out, HB3.out⟩
      go_wp2
      go_ret
      exact HE.out
    | false =>
      have CR := Lib.hid (rptT_any p q w3 _ (by have h := HLS.out; rw [HPQ.out] at h; exact h))
      go_wp2_with fail
      refine CR.out.mono ?_
      rintro e w4 ⟨v, rfl, hr, hb⟩
      obtain ⟨qv, cv, rfl⟩ := hr.is_slice
      have HE : Hid (MsEnd d w (.returned (.slice qv [p, q, p, q].length cv)) w4) := Lib.hid ⟨_, rfl, by rw [msI_neg HPV.out.symm HPQ.out]; exact hr, carry_below HB3.out (Nat.le_refl _) hb⟩
      clear hr hb
      go_wp2
      go_ret
      exact HE.out
  | true =>
    have HLS : Hid (TmS w3 (.slice pa d.tm.args.length ca) d.base) := Lib.hid (by rw [base_eq HEV.out.symm]; exact HTA3.out)
    cases pv with
    | true =>
      have HE : Hid (MsEnd d w (.returned (.slice pa d.tm.args.length ca)) w3) := Lib.hid ⟨_, rfl, by rw [msI_pos HPV.out.symm]; exact HLS.out, HB3.out⟩
      go_wp2
      go_ret
      exact HE.out
    | false =>
      have CR := Lib.hid (rptT_any p q w3 _ (by have h := HLS.out; rw [HPQ.out] at h; exact h))
      go_wp2_with fail
      refine CR.out.mono ?_
      rintro e w4 ⟨v, rfl, hr, hb⟩
      obtain ⟨qv, cv, rfl⟩ := hr.is_slice
      have HE : Hid (MsEnd d w (.returned (.slice qv [p, q, p, q].length cv)) w4) := Lib.hid ⟨_, rfl, by rw [msI_neg HPV.out.symm HPQ.out]; exact hr, carry_below HB3.out (Nat.le_refl _) hb⟩
      clear hr hb
      go_wp2
      go_ret
      exact HE.out

theorem covL_no {o : Od} {l : List Lt} {d : Lt} (hd : d ∈ l) (h : (atomB d.tm && o.covP [d.tm]) = false) : (o.good && l.all o.litOk) = false := by
  cases hg : o.good with
  | false => rfl
  | true =>
    rw [litOk_cov hg] at h
    rw [List.all_eq_false.2 ⟨d, hd, by rw [h]; decide⟩]; rfl
theorem covL_at {o : Od} {d : Lt} (h : (atomB d.tm && o.covP [d.tm]) = true) : o.litOk d = true := by
  have h1 := h
  rw [Bool.and_eq_true] at h1
  rw [← litOk_cov (covP_g h1.2)]; exact h

set_option maxRecDepth 100000 in
set_option maxHeartbeats 4000000 in
theorem covLit_any (o : Od) (ho : o.wt ≤ 1048576) (l : List Lt) (w : World) (sv wv v : Value) (hv : OdV w sv wv o) (ht : LtS w v l) (hl : l.length ≤ 1048576) (hw : ∀ d ∈ l, d.tm.wt ≤ 1048576) :
    Calls Tryz.prog 43 #[.agg #[sv, wv, .int .i64 o.va], v] w (Ans (.bool (o.good && l.all o.litOk)) w) := by
  obtain ⟨sa, sc, wa, wc, rfl, rfl⟩ := hv.open
  have HB := Lib.hid ((Below.refl w.heap.size w).alloc (Nat.le_refl _) (.cells #[.slice sa o.sy.length sc, .slice wa o.ws.length wc, .int .i64 o.va] 35))
  have H3 : Hid (OdB (w.alloc (.cells #[.slice sa o.sy.length sc, .slice wa o.ws.length wc, .int .i64 o.va] 35)) w.heap.size (.slice sa o.sy.length sc) (.slice wa o.ws.length wc) o) := Lib.hid (thr_new w _ _ _ _ _ rfl)
  have HV := Lib.hid hv
  obtain ⟨pa, ca, rfl⟩ := ht.is_slice
  have HT := Lib.hid ht
  have HW := Lib.hid hw
  clear hv ht hw
  go_enter Tryz.func43, Tryz.ntmps43

  go_wp2
  go_loopw [9] (fun i wr => ∃ k : Nat, k ≤ l.length ∧ i = .int .i64 k ∧ (∀ (j : Nat) d, j < k → l[j]? = some d → o.litOk d = true) ∧ OdB wr w.heap.size (.slice sa o.sy.length sc) (.slice wa o.ws.length wc) o ∧ Below w.heap.size w wr) (fun i _ => l.length - (intOf i).toNat)
  case atStart => exact ⟨0, Nat.zero_le _, rfl, fun j d hj => absurd hj (Nat.not_lt_zero _), H3.out, HB.out⟩
  case round =>
    obtain ⟨k, hk, rfl, hq, h3, hbel⟩ := hrel
    have HQ := Lib.hid hq
    replace H3 := Lib.hid h3
    replace HB := Lib.hid hbel
    clear hq h3 hbel
    by_cases hlt : k < l.length
    · obtain ⟨d, hd⟩ : ∃ d, l[k]? = some d := ⟨_, List.getElem?_eq_getElem hlt⟩
      obtain ⟨b, off, rfl, vt, c0, c1, c2, hvt⟩ := HT.out.get hd
      obtain ⟨pt, ct, rfl⟩ := hvt.is_slice
      replace c0 := carry_cell c0 HB.out
      replace c1 := carry_cell c1 HB.out
      replace c2 := carry_cell c2 HB.out
      have HD := Lib.hid hd
      have HVT := Lib.hid hvt
      have hwd := HW.out d (mem_of_at hd)
      obtain ⟨wq, hwq⟩ : ∃ wq, wr.alloc (.cells #[.bool d.var, .string d.tm.name, .slice pt d.tm.args.length ct] 41) = wq := ⟨_, rfl⟩
      have BQ : Hid (Below wr.heap.size wr wq) := Lib.hid (by rw [← hwq]; exact (Below.refl _ _).alloc (Nat.le_refl _) _)
      have TQ : Hid (Thr wq wr.heap.size (.bool d.var) (.string d.tm.name) (.slice pt d.tm.args.length ct)) := Lib.hid (by rw [← hwq]; exact thr_new _ _ _ _ _ _ rfl)
      have HBQ := Lib.hid (carry_below HB.out (Nat.le_refl _) BQ.out)
      have H3Q := Lib.hid (H3.out.kept BQ.out)
      have CI := Lib.hid (isLiteral_any d.var d.tm wq _ (HVT.out.kept HBQ.out) hwd)
      clear hd hvt
      obtain ⟨q0, q1, q2, q3⟩ := TQ.out
      go_wp2_with fail
      refine CI.out.mono ?_
      rintro e w2 ⟨rfl, hb⟩
      replace HB := Lib.hid (carry_below HBQ.out (Nat.le_refl _) hb)
      replace H3 := Lib.hid (H3Q.out.kept hb)
      have T2 := Lib.hid (TQ.out.kept hb)
      clear hb c0 c1 c2 q0 q1 q2 q3 hwq CI
      cases ha : atomB d.tm with
      | false =>
        have HE := Lib.hid (covL_no (o := o) (mem_of_at HD.out) (by rw [ha]; rfl))
        clear ha
        go_wp2
        go_ret
        exact ⟨ret_bool HE.out.symm, HB.out⟩
      | true =>
        have HAT := Lib.hid ha
        clear ha
        obtain ⟨q0, q1, q2, q3⟩ := T2.out
        obtain ⟨b0, b1, b2, b3⟩ := H3.out
        obtain ⟨w3, hw3⟩ : ∃ w3, w2.alloc (.cells #[.string d.tm.name, .slice pt d.tm.args.length ct] 39) = w3 := ⟨_, rfl⟩
        have B3 : Hid (Below w2.heap.size w2 w3) := Lib.hid (by rw [← hw3]; exact (Below.refl _ _).alloc (Nat.le_refl _) _)
        have HB3 := Lib.hid (carry_below HB.out (Nat.le_refl _) B3.out)
        have H33 := Lib.hid (H3.out.kept B3.out)
        have CC := covers_any o [d.tm] w3 _ _ _ (HV.out.kept HB3.out) (tmS_one (HVT.out.kept HB3.out) w2.heap.size 1 (by rw [← hw3, World.cell?_alloc_at _ _ _ _ rfl]; rfl) (by rw [← hw3, World.cell?_alloc_at _ _ _ _ rfl]; rfl)) ho (by simp) (fun s hs => by rw [List.mem_singleton.1 hs]; exact hwd)
        obtain ⟨gc, hgc⟩ : ∃ gc, gc = o.covP [d.tm] := ⟨_, rfl⟩
        rw [← hgc] at CC
        have HGC := Lib.hid hgc
        have HCC := Lib.hid CC
        clear CC hgc
        go_wp2_with fail
        refine HCC.out.mono ?_
        rintro e w4 ⟨rfl, hb⟩
        replace HB := Lib.hid (carry_below HB3.out (Nat.le_refl _) hb)
        replace H3 := Lib.hid (H33.out.kept hb)
        clear hb q0 q1 q2 q3 b0 b1 b2 b3 hw3 HCC
        cases gc with
        | false =>
          have HE := Lib.hid (covL_no (o := o) (mem_of_at HD.out) (by rw [HAT.out, ← HGC.out]; rfl))
          go_wp2
          go_ret
          exact ⟨ret_bool HE.out.symm, HB.out⟩
        | true =>
          have HN : Hid (∀ (j : Nat) x, j < k + 1 → l[j]? = some x → o.litOk x = true) := Lib.hid (fun j x hj hx => by
            by_cases e : j = k
            · subst e; rw [HD.out] at hx; injection hx with hx; rw [← hx]; exact covL_at (by rw [HAT.out, ← HGC.out]; rfl)
            · exact HQ.out j x (by omega) hx)
          go_wp2
          go_roundw
          case rel => exact ⟨k + 1, by omega, by go_num, HN.out, H3.out, HB.out⟩
          case measure => simp [intOf]; omega
    · have HA : Hid ((o.good && l.all o.litOk) = o.good) := Lib.hid (by
        rw [List.all_eq_true.2 (fun x hx => by obtain ⟨j, hj⟩ := List.getElem?_of_mem hx; exact HQ.out j x (by have := (List.getElem?_eq_some_iff.1 hj).1; omega) hj), Bool.and_true])
      obtain ⟨b0, b1, b2, b3⟩ := H3.out
      go_wp2_with fail
      refine (implVOrd_any o _ _ _ (HV.out.kept HB.out) ho).mono ?_
      rintro e w5 ⟨rfl, hb⟩
      replace HB := Lib.hid (carry_below HB.out (Nat.le_refl _) hb)
      clear hb b0 b1 b2 b3
      go_wp2
      go_ret
      exact ⟨ret_bool HA.out.symm, HB.out⟩

set_option maxRecDepth 100000 in
set_option maxHeartbeats 8000000 in
theorem compLit_any (o : Od) (ho : o.wt ≤ 1048576) (hf : o.Fine) (a b : Lt) (w : World) (sv wv va vb : Value) (hv : OdV w sv wv o) (ha : TmS w va a.tm.args) (hb : TmS w vb b.tm.args) (hla : atomB a.tm = true) (hlb : atomB b.tm = true) (hza : ∀ t ∈ a.msI, o.OkZ t) (hzb : ∀ t ∈ b.msI, o.OkZ t) :
    Calls Tryz.prog 44 #[.agg #[sv, wv, .int .i64 o.va], .agg #[.bool a.var, .string a.tm.name, va], .agg #[.bool b.var, .string b.tm.name, vb]] w (Ans (.int .i64 (o.mulC a.msS b.msS)) w) := by
  obtain ⟨sa, sc, wa, wc, rfl, rfl⟩ := hv.open
  obtain ⟨pa, ca, rfl⟩ := ha.is_slice
  obtain ⟨pb, cb, rfl⟩ := hb.is_slice
  obtain ⟨w1, hw1⟩ : ∃ w1, ((w.alloc (.cells #[.slice sa o.sy.length sc, .slice wa o.ws.length wc, .int .i64 o.va] 35)).alloc (.cells #[.bool a.var, .string a.tm.name, .slice pa a.tm.args.length ca] 41)).alloc (.cells #[.bool b.var, .string b.tm.name, .slice pb b.tm.args.length cb] 41) = w1 := ⟨_, rfl⟩
  have HB : Hid (Below w.heap.size w w1) := Lib.hid (by rw [← hw1]; exact (((Below.refl w.heap.size w).alloc (Nat.le_refl _) _).alloc (by simp) _).alloc (by simp; omega) _)
  have H3 : Hid (OdB w1 w.heap.size (.slice sa o.sy.length sc) (.slice wa o.ws.length wc) o) := Lib.hid (by rw [← hw1]; exact ((thr_new w _ _ _ _ _ rfl).alloc _).alloc _)
  have HLA : Hid (Thr w1 (w.heap.size + 1) (.bool a.var) (.string a.tm.name) (.slice pa a.tm.args.length ca)) := Lib.hid (by rw [← hw1]; exact (thr_new _ _ _ _ _ (w.heap.size + 1) (by simp)).alloc _)
  have HLB : Hid (Thr w1 (w.heap.size + 1 + 1) (.bool b.var) (.string b.tm.name) (.slice pb b.tm.args.length cb)) := Lib.hid (by rw [← hw1]; exact thr_new _ _ _ _ _ (w.heap.size + 1 + 1) (by simp))
  have HV := Lib.hid hv
  have HF := Lib.hid hf
  have HZA := Lib.hid hza
  have HZB := Lib.hid hzb
  have HNA := Lib.hid (ms_len hla)
  have HNB := Lib.hid (ms_len hlb)
  have HRI := Lib.hid (ordR_I (o := o) hla hlb)
  have CA := Lib.hid (fun W (hW : Below w.heap.size w W) => msetOf_any a W _ (ha.kept hW) hla)
  have CB := Lib.hid (fun W (hW : Below w.heap.size w W) => msetOf_any b W _ (hb.kept hW) hlb)
  clear hv ha hb hf hza hzb
  obtain ⟨b0, b1, b2, b3⟩ := H3.out
  obtain ⟨k0, k1, k2, k3⟩ := HLA.out
  obtain ⟨l0, l1, l2, l3⟩ := HLB.out
  go_enter Tryz.func44, Tryz.ntmps44

  go_wp2_with fail
  have hB0 : Below w1.heap.size w1 w1.drew := (Below.refl _ _).drew
  refine wp_region_held_drew (S := (fun w' => w'.cell? ⟨w.heap.size, 0, none⟩ = some (.slice sa o.sy.length sc) ∧ w'.cell? ⟨w.heap.size, 1, none⟩ = some (.slice wa o.ws.length wc) ∧ w'.cell? ⟨w.heap.size, 2, none⟩ = some (.int .i64 o.va) ∧ w'.cell? ⟨w.heap.size + 1, 0, none⟩ = some (.bool a.var) ∧ w'.cell? ⟨w.heap.size + 1, 1, none⟩ = some (.string a.tm.name) ∧ w'.cell? ⟨w.heap.size + 1, 2, none⟩ = some ((.slice pa a.tm.args.length ca)) ∧ w'.cell? ⟨w.heap.size + 1 + 1, 0, none⟩ = some (.bool b.var) ∧ w'.cell? ⟨w.heap.size + 1 + 1, 1, none⟩ = some (.string b.tm.name) ∧ w'.cell? ⟨w.heap.size + 1 + 1, 2, none⟩ = some ((.slice pb b.tm.args.length cb)) ∧ Below w1.heap.size w1 w')) (by kernel_rfl) (by first | exact ⟨by assumption, by assumption, by assumption, by assumption, by assumption, by assumption, by assumption, by assumption, by assumption, by assumption⟩ | go_keep) (fun hHeld => ?_)
  refine takeYesE 0 (v := ?_) rfl (by kernel_rfl) (by kernel_rfl) (by kernel_rfl) (by rfl) (fun _ _ _ h => h) (by assumption) ?_ ?_; rotate_left; (intro w hSw; (try dsimp only at hSw); go_simp; try (with_reducible rfl))
  try simp only [Act.put, List.getElem_toArray, List.getElem_cons_zero, List.setIfInBounds_toArray, List.set_cons_zero, List.set_cons_succ]
  refine takeYesE 1 (v := ?_) rfl (by kernel_rfl) (by kernel_rfl) (by kernel_rfl) (by rfl) (fun _ _ _ h => h) (by assumption) ?_ ?_; rotate_left; (intro w hSw; (try dsimp only at hSw); go_simp; try (with_reducible rfl))
  try simp only [Act.put, List.getElem_toArray, List.getElem_cons_zero, List.getElem_cons_succ, List.setIfInBounds_toArray, List.set_cons_zero, List.set_cons_succ]
  refine takeYesE 3 (v := ?_) rfl (by kernel_rfl) (by kernel_rfl) (by kernel_rfl) (by rfl) (fun _ _ _ h => h) (by assumption) ?_ ?_; rotate_left; (intro w hSw; (try dsimp only at hSw); go_simp; try (with_reducible rfl))
  try simp only [Act.put, List.getElem_toArray, List.getElem_cons_zero, List.getElem_cons_succ, List.setIfInBounds_toArray, List.set_cons_zero, List.set_cons_succ]
  refine wpAnyH_ready (rs := [2]) (by kernel_rfl) (by simp) ?_
  refine AllReadyH.cons rfl (fun K hK => ?_) AllReadyH.nil
  go_simp
  (go_at_call 85; refine (CA.out _ (HB.out.trans ((show Below w1.heap.size w1 w1.drew by assumption).mono HB.out.size))).mono ?_; rintro e uA ⟨v1, rfl, hr1, hb⟩; have qz2_0 : uA.cell? ⟨w.heap.size, 0, none⟩ = some (.slice sa o.sy.length sc) := carry_cell' hb (by assumption); have qz2_1 : uA.cell? ⟨w.heap.size, 1, none⟩ = some (.slice wa o.ws.length wc) := carry_cell' hb (by assumption); have qz2_2 : uA.cell? ⟨w.heap.size, 2, none⟩ = some (.int .i64 o.va) := carry_cell' hb (by assumption); have qz2_3 : uA.cell? ⟨w.heap.size + 1, 0, none⟩ = some (.bool a.var) := carry_cell' hb (by assumption); have qz2_4 : uA.cell? ⟨w.heap.size + 1, 1, none⟩ = some (.string a.tm.name) := carry_cell' hb (by assumption); have qz2_5 : uA.cell? ⟨w.heap.size + 1, 2, none⟩ = some ((.slice pa a.tm.args.length ca)) := carry_cell' hb (by assumption); have qz2_6 : uA.cell? ⟨w.heap.size + 1 + 1, 0, none⟩ = some (.bool b.var) := carry_cell' hb (by assumption); have qz2_7 : uA.cell? ⟨w.heap.size + 1 + 1, 1, none⟩ = some (.string b.tm.name) := carry_cell' hb (by assumption); have qz2_8 : uA.cell? ⟨w.heap.size + 1 + 1, 2, none⟩ = some ((.slice pb b.tm.args.length cb)) := carry_cell' hb (by assumption); have huA : Below w1.heap.size w1 uA := carry_below (by assumption) (Nat.le_refl _) hb; have HX1 := Lib.hid hr1; obtain ⟨px, cx, rfl⟩ := HX1.out.is_slice; clear hb hr1; go_wp2_with fail)
  refine hK.out _ _ (by first | exact ⟨by assumption, by assumption, by assumption, by assumption, by assumption, by assumption, by assumption, by assumption, by assumption, by assumption⟩ | go_keep) (fun hHeld => ?_)
  clear hK K
  try simp only [Act.put, List.getElem_toArray, List.getElem_cons_zero, List.getElem_cons_succ, List.setIfInBounds_toArray, List.set_cons_zero, List.set_cons_succ]
  refine wpAnyH_ready (rs := [4]) (by kernel_rfl) (by simp) ?_
  refine AllReadyH.cons rfl (fun K hK => ?_) AllReadyH.nil
  go_simp
  (go_at_call 85; refine (CB.out _ (HB.out.trans (huA.mono HB.out.size))).mono ?_; rintro e uB ⟨v2, rfl, hr2, hb⟩; have qz4_0 : uB.cell? ⟨w.heap.size, 0, none⟩ = some (.slice sa o.sy.length sc) := carry_cell' hb (by assumption); have qz4_1 : uB.cell? ⟨w.heap.size, 1, none⟩ = some (.slice wa o.ws.length wc) := carry_cell' hb (by assumption); have qz4_2 : uB.cell? ⟨w.heap.size, 2, none⟩ = some (.int .i64 o.va) := carry_cell' hb (by assumption); have qz4_3 : uB.cell? ⟨w.heap.size + 1, 0, none⟩ = some (.bool a.var) := carry_cell' hb (by assumption); have qz4_4 : uB.cell? ⟨w.heap.size + 1, 1, none⟩ = some (.string a.tm.name) := carry_cell' hb (by assumption); have qz4_5 : uB.cell? ⟨w.heap.size + 1, 2, none⟩ = some ((.slice pa a.tm.args.length ca)) := carry_cell' hb (by assumption); have qz4_6 : uB.cell? ⟨w.heap.size + 1 + 1, 0, none⟩ = some (.bool b.var) := carry_cell' hb (by assumption); have qz4_7 : uB.cell? ⟨w.heap.size + 1 + 1, 1, none⟩ = some (.string b.tm.name) := carry_cell' hb (by assumption); have qz4_8 : uB.cell? ⟨w.heap.size + 1 + 1, 2, none⟩ = some ((.slice pb b.tm.args.length cb)) := carry_cell' hb (by assumption); have huB : Below w1.heap.size w1 uB := carry_below (by assumption) (Nat.le_refl _) hb; have HX2 := Lib.hid (HX1.out.kept hb); have HY2 := Lib.hid hr2; obtain ⟨py, cy, rfl⟩ := HY2.out.is_slice; clear hb hr2; go_wp2_with fail)
  refine hK.out _ _ (by first | exact ⟨by assumption, by assumption, by assumption, by assumption, by assumption, by assumption, by assumption, by assumption, by assumption, by assumption⟩ | go_keep) (fun hHeld => ?_)
  clear hK K
  try simp only [Act.put, List.getElem_toArray, List.getElem_cons_zero, List.getElem_cons_succ, List.setIfInBounds_toArray, List.set_cons_zero, List.set_cons_succ]
  refine wpAnyH_ready (rs := [5]) (by kernel_rfl) (by simp) ?_
  refine AllReadyH.cons rfl (fun K hK => ?_) AllReadyH.nil
  go_simp
  (go_at_call 84; refine (compMul_any o ho HF.out a.msI b.msI uB _ _ _ _ (HV.out.kept (HB.out.trans (huB.mono HB.out.size))) HX2.out HY2.out (Nat.le_trans HNA.out.2 (by omega)) (Nat.le_trans HNB.out.2 (by omega)) (fun t ht => (HZA.out t ht).P) (fun t ht => (HZB.out t ht).P)).mono ?_; rintro e uC ⟨rfl, hb⟩; have qz5_0 : uC.cell? ⟨w.heap.size, 0, none⟩ = some (.slice sa o.sy.length sc) := carry_cell' hb (by assumption); have qz5_1 : uC.cell? ⟨w.heap.size, 1, none⟩ = some (.slice wa o.ws.length wc) := carry_cell' hb (by assumption); have qz5_2 : uC.cell? ⟨w.heap.size, 2, none⟩ = some (.int .i64 o.va) := carry_cell' hb (by assumption); have qz5_3 : uC.cell? ⟨w.heap.size + 1, 0, none⟩ = some (.bool a.var) := carry_cell' hb (by assumption); have qz5_4 : uC.cell? ⟨w.heap.size + 1, 1, none⟩ = some (.string a.tm.name) := carry_cell' hb (by assumption); have qz5_5 : uC.cell? ⟨w.heap.size + 1, 2, none⟩ = some ((.slice pa a.tm.args.length ca)) := carry_cell' hb (by assumption); have qz5_6 : uC.cell? ⟨w.heap.size + 1 + 1, 0, none⟩ = some (.bool b.var) := carry_cell' hb (by assumption); have qz5_7 : uC.cell? ⟨w.heap.size + 1 + 1, 1, none⟩ = some (.string b.tm.name) := carry_cell' hb (by assumption); have qz5_8 : uC.cell? ⟨w.heap.size + 1 + 1, 2, none⟩ = some ((.slice pb b.tm.args.length cb)) := carry_cell' hb (by assumption); have huC : Below w1.heap.size w1 uC := carry_below (by assumption) (Nat.le_refl _) hb; clear hb; go_wp2_with fail)
  refine hK.out _ _ (by first | exact ⟨by assumption, by assumption, by assumption, by assumption, by assumption, by assumption, by assumption, by assumption, by assumption, by assumption⟩ | go_keep) (fun hHeld => ?_)
  clear hK K
  try simp only [Act.put, List.getElem_toArray, List.getElem_cons_zero, List.getElem_cons_succ, List.setIfInBounds_toArray, List.set_cons_zero, List.set_cons_succ]
  refine takeYesE 6 (v := ?_) rfl (by kernel_rfl) (by kernel_rfl) (by kernel_rfl) (by rfl) (fun _ _ _ h => h) (by assumption) ?_ ?_; rotate_left; (intro w hSw; (try dsimp only at hSw); go_simp; try (with_reducible rfl))
  try simp only [Act.put, List.getElem_toArray, List.getElem_cons_zero, List.getElem_cons_succ, List.setIfInBounds_toArray, List.set_cons_zero, List.set_cons_succ]
  refine wpAnyH_done (by kernel_rfl) ?_ _
  have HBC := Lib.hid (HB.out.trans (huC.mono HB.out.size))
  go_wp2
  go_ret
  exact ⟨ret_int HRI.out, HBC.out⟩

/-- A slice of two literals, just built. -/
theorem ltS_pr {w : World} {a b : Lt} {va vb : Value} (ha : TmS w va a.tm.args) (hb : TmS w vb b.tm.args) {g c : Nat} (h : w.heap[g]? = some (.cells #[.bool a.var, .string a.tm.name, va, .bool b.var, .string b.tm.name, vb] 41 (0, 0))) : LtS w (.slice (some ⟨g, 0, none⟩) 2 c) [a, b] := by
  have hc : ∀ j u, ([.bool a.var, .string a.tm.name, va, .bool b.var, .string b.tm.name, vb] : List Value)[j]? = some u → w.cell? ⟨g, j, none⟩ = some u := fun j u hj => by
    simp only [World.cell?, h]
    simpa using hj
  refine .inr ⟨g, 0, c, rfl, by simp, fun k d hk => ?_⟩
  have hk2 : k < 2 := by have := (List.getElem?_eq_some_iff.1 hk).1; simpa using this
  rcases (show k = 0 ∨ k = 1 by omega) with rfl | rfl
  · have e : a = d := by simpa using hk
    subst e
    exact ⟨va, hc 0 _ rfl, hc 1 _ rfl, hc 2 _ rfl, ha⟩
  · have e : b = d := by simpa using hk
    subst e
    exact ⟨vb, hc 3 _ rfl, hc 4 _ rfl, hc 5 _ rfl, hb⟩
theorem covL_two (o : Od) (a b : Lt) : (o.good && [a, b].all o.litOk) = o.ordOk a b := by unfold Od.ordOk; simp

set_option maxRecDepth 100000 in
set_option maxHeartbeats 8000000 in
theorem implOl_any (o : Od) (ho : o.wt ≤ 1048576) (a b : Lt) (w : World) (sv wv va vb : Value) (hv : OdV w sv wv o) (ha : TmS w va a.tm.args) (hb : TmS w vb b.tm.args) (hwa : a.tm.wt ≤ 1048576) (hwb : b.tm.wt ≤ 1048576) :
    Calls Tryz.prog 12 #[.agg #[sv, wv, .int .i64 o.va], .agg #[.bool a.var, .string a.tm.name, va], .agg #[.bool b.var, .string b.tm.name, vb]] w (Ans (.tuple #[.int .i64 (o.ordR a b), .bool (o.ordOk a b)]) w) := by
  obtain ⟨sa, sc, wa, wc, rfl, rfl⟩ := hv.open
  obtain ⟨pa, ca, rfl⟩ := ha.is_slice
  obtain ⟨pb, cb, rfl⟩ := hb.is_slice
  obtain ⟨w1, hw1⟩ : ∃ w1, ((w.alloc (.cells #[.slice sa o.sy.length sc, .slice wa o.ws.length wc, .int .i64 o.va] 35)).alloc (.cells #[.bool a.var, .string a.tm.name, .slice pa a.tm.args.length ca] 41)).alloc (.cells #[.bool b.var, .string b.tm.name, .slice pb b.tm.args.length cb] 41) = w1 := ⟨_, rfl⟩
  have HB : Hid (Below w.heap.size w w1) := Lib.hid (by rw [← hw1]; exact (((Below.refl w.heap.size w).alloc (Nat.le_refl _) _).alloc (by simp) _).alloc (by simp; omega) _)
  have H3 : Hid (OdB w1 w.heap.size (.slice sa o.sy.length sc) (.slice wa o.ws.length wc) o) := Lib.hid (by rw [← hw1]; exact ((thr_new w _ _ _ _ _ rfl).alloc _).alloc _)
  have HLA : Hid (Thr w1 (w.heap.size + 1) (.bool a.var) (.string a.tm.name) (.slice pa a.tm.args.length ca)) := Lib.hid (by rw [← hw1]; exact (thr_new _ _ _ _ _ (w.heap.size + 1) (by simp)).alloc _)
  have HLB : Hid (Thr w1 (w.heap.size + 1 + 1) (.bool b.var) (.string b.tm.name) (.slice pb b.tm.args.length cb)) := Lib.hid (by rw [← hw1]; exact thr_new _ _ _ _ _ (w.heap.size + 1 + 1) (by simp))
  obtain ⟨w2, hw2⟩ : ∃ w2, w1.alloc (.cells #[.bool a.var, .string a.tm.name, .slice pa a.tm.args.length ca, .bool b.var, .string b.tm.name, .slice pb b.tm.args.length cb] 41) = w2 := ⟨_, rfl⟩
  have HB12 : Hid (Below w1.heap.size w1 w2) := Lib.hid (by rw [← hw2]; exact (Below.refl _ _).alloc (Nat.le_refl _) _)
  have HB2 := Lib.hid (carry_below HB.out (Nat.le_refl _) HB12.out)
  have CG := covLit_any o ho [a, b] w2 _ _ _ (hv.kept HB2.out) (ltS_pr (g := w1.heap.size) (c := 2) (ha.kept HB2.out) (hb.kept HB2.out) (by rw [← hw2]; exact heap_alloc_new w1 _)) (by simp) (fun d hd => by
    rcases List.mem_cons.1 hd with rfl | hd
    · exact hwa
    · rw [List.mem_singleton.1 hd]; exact hwb)
  rw [covL_two] at CG
  have HCG := Lib.hid CG
  have CQ := Lib.hid (fun (hg : o.good = true) (h1 : o.litOk a = true) (h2 : o.litOk b = true) W (hW : Below w.heap.size w W) => compLit_any o ho (Od.good_fine hg) a b W _ _ _ _ (hv.kept hW) (ha.kept hW) (hb.kept hW) (litOk_atom h1) (litOk_atom h2) (msI_z hwa h1) (msI_z hwb h2))
  obtain ⟨gc, hgc⟩ : ∃ gc, gc = o.ordOk a b := ⟨_, rfl⟩
  rw [← hgc] at HCG ⊢
  have HGC := Lib.hid hgc
  clear hv ha hb CG hgc
  obtain ⟨b0, b1, b2, b3⟩ := H3.out
  obtain ⟨k0, k1, k2, k3⟩ := HLA.out
  obtain ⟨l0, l1, l2, l3⟩ := HLB.out
  go_enter Tryz.func12, Tryz.ntmps12

  go_wp2_with fail
  refine HCG.out.mono ?_
  rintro e w3 ⟨rfl, hb⟩
  replace HB := Lib.hid (carry_below HB2.out (Nat.le_refl _) hb)
  replace H3 := Lib.hid ((H3.out.kept HB12.out).kept hb)
  replace HLA := Lib.hid ((HLA.out.kept HB12.out).kept hb)
  replace HLB := Lib.hid ((HLB.out.kept HB12.out).kept hb)
  clear hb b0 b1 b2 b3 k0 k1 k2 k3 l0 l1 l2 l3 hw1 hw2 HCG
  obtain ⟨b0, b1, b2, b3⟩ := H3.out
  obtain ⟨k0, k1, k2, k3⟩ := HLA.out
  obtain ⟨l0, l1, l2, l3⟩ := HLB.out
  cases gc with
  | false =>
    have HR := Lib.hid (ordR_no HGC.out.symm)
    go_wp2
    go_ret2
    exact ⟨ret_pair HR.out.symm rfl, HB.out⟩
  | true =>
    have HR := Lib.hid (ordR_yes HGC.out.symm)
    have h1 := HGC.out.symm
    unfold Od.ordOk at h1
    simp only [Bool.and_eq_true] at h1
    have CQ2 := Lib.hid (CQ.out h1.1 h1.2.1 h1.2.2)
    clear h1
    go_wp2_with fail
    refine (CQ2.out _ HB.out).mono ?_
    rintro e w5 ⟨rfl, hb⟩
    replace HB := Lib.hid (carry_below HB.out (Nat.le_refl _) hb)
    replace H3 := Lib.hid (H3.out.kept hb)
    replace HLA := Lib.hid (HLA.out.kept hb)
    replace HLB := Lib.hid (HLB.out.kept hb)
    clear hb b0 b1 b2 b3 k0 k1 k2 k3 l0 l1 l2 l3
    obtain ⟨b0, b1, b2, b3⟩ := H3.out
    obtain ⟨k0, k1, k2, k3⟩ := HLA.out
    obtain ⟨l0, l1, l2, l3⟩ := HLB.out
    go_wp2
    go_ret2
    exact ⟨ret_pair HR.out.symm rfl, HB.out⟩

end Go.Proofs.YtohalpafmcobpaaGreat
