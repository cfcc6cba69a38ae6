/- Several texts in one: each says what it proves. No condition but theirs. -/
import Derived.Test.YtdpeanpmjhpblaaGreatThr
import Derived.Test.YtdpeanpmjhpblaaGreatSz
import Derived.Test.YtdpeanpmjhpblaaGreatTo
import Derived.Test.YtdpeanpmjhpblaaGreatEq
import Derived.Test.YtdpeanpmjhpblaaGreatFmtS
import Derived.Test.YtdpeanpmjhpblaaGreatShelf
import Derived.RangeFuncRecord
import Derived.Test.YtdpeanpmjhpblaaGreatSizes
import Derived.Test.YtdpeanpmjhpblaaGreatOpenTm
import Derived.Test.YtdpeanpmjhpblaaGreatOrd
import Derived.Test.YtdpeanpmjhpblaaGreatOrdS
/- Literals, and how a list of them lies in memory. No condition. -/
namespace Go.Proofs.YtdpeanpmjhpblaaGreat
open Go.RowKit
set_option linter.unusedVariables false

/-- A literal: whether it is positive, and its atom. -/
structure Lt where
  var : Bool
  tm : Tm

instance : Inhabited Lt := ⟨⟨false, default⟩⟩

theorem Lt.ext' {a b : Lt} (h1 : a.var = b.var) (h2 : a.tm = b.tm) : a = b := by
  cases a; cases b; simp at h1 h2; rw [h1, h2]

def eqLt (a b : Lt) : Bool := decide (a.var = b.var) && eqT a.tm b.tm
theorem eqLt_iff {a b : Lt} : eqLt a b = true ↔ a = b := by
  unfold eqLt eqT
  rw [Bool.and_eq_true, decide_eq_true_iff, decide_eq_true_iff]
  exact ⟨fun h => Lt.ext' h.1 h.2, fun h => by rw [h]; exact ⟨rfl, rfl⟩⟩
theorem eqLt_self (a : Lt) : eqLt a a = true := eqLt_iff.2 rfl

instance : DecidableEq Lt := fun a b => decidable_of_iff (eqLt a b = true) eqLt_iff

def Lt.wt (d : Lt) : Nat := d.tm.wt
def Lt.lim (m : Nat) (d : Lt) : Prop := d.tm.lim m
def limC (m : Nat) (l : List Lt) : Prop := l.length ≤ m ∧ ∀ d ∈ l, d.lim m

def sumC (f : Lt → Nat) : List Lt → Nat
  | [] => 0
  | t :: r => f t + sumC f r

theorem sumC_append (f : Lt → Nat) (a b : List Lt) : sumC f (a ++ b) = sumC f a + sumC f b := by
  induction a with
  | nil => simp [sumC]
  | cons t r ih => simp [sumC, ih]; omega
theorem sumC_next {f : Lt → Nat} {l : List Lt} {k : Nat} {t : Lt} (h : l[k]? = some t) : sumC f (l.take (k + 1)) = sumC f (l.take k) + f t := by
  rw [take_next h, sumC_append]; simp [sumC]
theorem sumC_mem {f : Lt → Nat} {l : List Lt} {t : Lt} (h : t ∈ l) : f t ≤ sumC f l := by
  induction l with
  | nil => cases h
  | cons s r ih =>
    rcases List.mem_cons.1 h with e | h
    · subst e; simp [sumC]
    · have := ih h; simp [sumC]; omega
theorem sumC_take (f : Lt → Nat) (l : List Lt) (k : Nat) : sumC f (l.take k) ≤ sumC f l := by
  have h := sumC_append f (l.take k) (l.drop k)
  rw [List.take_append_drop] at h
  omega
theorem sumC_all {f : Lt → Nat} {l : List Lt} {k : Nat} (h : l.length ≤ k) : sumC f (l.take k) = sumC f l := by
  rw [List.take_of_length_le h]

/-- What the laws' size helper counts of a list of bindings. -/
def wtC (l : List Lt) : Nat := l.length + sumC Lt.wt l
theorem wtC_mem {l : List Lt} {d : Lt} (h : d ∈ l) : d.wt ≤ wtC l := by
  have := sumC_mem (f := Lt.wt) h; unfold wtC; omega
theorem wtC_tm {l : List Lt} {d : Lt} (h : d ∈ l) : d.tm.wt ≤ wtC l := by
  have := wtC_mem h; unfold Lt.wt at this; omega
theorem wtC_len (l : List Lt) : l.length ≤ wtC l := by unfold wtC; omega

/-- An element of a slice of bindings. -/
def LtAt (w : World) (b off k : Nat) (d : Lt) : Prop :=
  ∃ va, w.cell? ⟨b, off + k * 3, none⟩ = some (.bool d.var) ∧ w.cell? ⟨b, off + k * 3 + 1, none⟩ = some (.string d.tm.name) ∧ w.cell? ⟨b, off + k * 3 + 2, none⟩ = some va ∧ TmS w va d.tm.args

/-- The slice value reads, in this world, as the list of bindings. -/
def LtS (w : World) (v : Value) (l : List Lt) : Prop :=
  (∃ a c, v = .slice a 0 c ∧ l = []) ∨ (∃ b off c, v = .slice (some ⟨b, off, none⟩) l.length c ∧ 0 < l.length ∧ ∀ k d, l[k]? = some d → LtAt w b off k d)

theorem LtAt.kept {w w' : World} {b off k : Nat} {d : Lt} (h : LtAt w b off k d) (hb : Below w.heap.size w w') : LtAt w' b off k d := by
  obtain ⟨va, h0, h1, h2, h3⟩ := h
  exact ⟨va, carry_cell h0 hb, carry_cell h1 hb, carry_cell h2 hb, h3.kept hb⟩
theorem LtS.kept {w w' : World} {v : Value} {l : List Lt} (h : LtS w v l) (hb : Below w.heap.size w w') : LtS w' v l := by
  rcases h with h | ⟨b, off, c, hv, hp, hat⟩
  · exact .inl h
  · exact .inr ⟨b, off, c, hv, hp, fun k d hk => (hat k d hk).kept hb⟩
theorem LtS.drew {w : World} {v : Value} {l : List Lt} (h : LtS w v l) : LtS w.drew v l := h.kept (Below.refl _ _).drew
theorem LtS.alloc {w : World} {v : Value} {l : List Lt} (h : LtS w v l) (o : Obj) : LtS (w.alloc o) v l := h.kept ((Below.refl _ _).alloc (Nat.le_refl _) o)
theorem LtS.is_slice {w : World} {v : Value} {l : List Lt} (h : LtS w v l) : ∃ a c, v = .slice a l.length c := by
  rcases h with ⟨a, c, rfl, rfl⟩ | ⟨b, off, c, rfl, hp, hat⟩
  · exact ⟨a, c, rfl⟩
  · exact ⟨_, c, rfl⟩
theorem LtS.get {w : World} {a : Option Addr} {n c : Nat} {l : List Lt} (h : LtS w (.slice a n c) l) {k : Nat} {d : Lt} (hk : l[k]? = some d) : ∃ b off, a = some ⟨b, off, none⟩ ∧ LtAt w b off k d := by
  rcases h with ⟨a', c', hv, h0⟩ | ⟨b, off, c', hv, hp, hat⟩
  · subst h0; cases hk
  · injection hv with h1 h2 h3
    exact ⟨b, off, h1, hat k d hk⟩

/-- The slice value reads as the list of bindings; all blocks lie in S, none is met twice, none is frozen. -/
def LtO (w : World) (S : Nat → Prop) (v : Value) (l : List Lt) : Prop :=
  (∃ a c, v = .slice a 0 c ∧ l = []) ∨
  (∃ (g c : Nat) (f : Nat → Value) (Ss : Nat → Nat → Prop), v = .slice (some ⟨g, 0, none⟩) l.length c ∧ 0 < l.length ∧ S g ∧ l.length ≤ c ∧ (∀ j, w.frozen? ⟨g, j, none⟩ = false) ∧
    (∀ (i : Nat) (d : Lt), l[i]? = some d → w.cell? ⟨g, i * 3, none⟩ = some (.bool d.var) ∧ w.cell? ⟨g, i * 3 + 1, none⟩ = some (.string d.tm.name) ∧ w.cell? ⟨g, i * 3 + 2, none⟩ = some (f i) ∧ TmO w (Ss i) (f i) d.tm.args) ∧
    (∀ i k, i < l.length → Ss i k → S k ∧ k ≠ g) ∧ (∀ i j k, i < l.length → j < l.length → i ≠ j → Ss i k → Ss j k → False))

theorem LtO.read {w : World} {S : Nat → Prop} {v : Value} {l : List Lt} (h : LtO w S v l) : LtS w v l := by
  rcases h with h | ⟨g, c, f, Ss, rfl, hp, hS, hc, hz, hat, hsub, hdis⟩
  · exact .inl h
  · refine .inr ⟨g, 0, c, rfl, hp, fun k d hk => ?_⟩
    obtain ⟨h0, h1, h2, h3⟩ := hat k d hk
    exact ⟨f k, by simpa using h0, by simpa using h1, by simpa using h2, h3.read⟩

theorem LtO.frame {w w' : World} {S : Nat → Prop} {v : Value} {l : List Lt} (h : LtO w S v l) (hf : ∀ k, S k → w'.heap[k]? = w.heap[k]?) : LtO w' S v l := by
  rcases h with h | ⟨g, c, f, Ss, rfl, hp, hS, hc, hz, hat, hsub, hdis⟩
  · exact .inl h
  · have e := hf g hS
    refine .inr ⟨g, c, f, Ss, rfl, hp, hS, hc, fun j => (World.frozen?_of_block (a := ⟨g, j, none⟩) (w := w) e).trans (hz j), fun i d hi => ?_, hsub, hdis⟩
    obtain ⟨h0, h1, h2, h3⟩ := hat i d hi
    exact ⟨(World.cell?_of_block (a := ⟨g, i * 3, none⟩) (w := w) e).trans h0, (World.cell?_of_block (a := ⟨g, i * 3 + 1, none⟩) (w := w) e).trans h1, (World.cell?_of_block (a := ⟨g, i * 3 + 2, none⟩) (w := w) e).trans h2,
      h3.frame fun k hk => hf k (hsub i k (List.getElem?_eq_some_iff.1 hi).1 hk).1⟩

theorem LtO.mono {w : World} {S S' : Nat → Prop} {v : Value} {l : List Lt} (h : LtO w S v l) (hs : ∀ k, S k → S' k) : LtO w S' v l := by
  rcases h with h | ⟨g, c, f, Ss, rfl, hp, hS, hc, hz, hat, hsub, hdis⟩
  · exact .inl h
  · exact .inr ⟨g, c, f, Ss, rfl, hp, hs g hS, hc, hz, hat, fun i k hi hk => ⟨hs k (hsub i k hi hk).1, (hsub i k hi hk).2⟩, hdis⟩

theorem LtO.kept {w0 w w' : World} {v : Value} {l : List Lt} (h : LtO w (Fresh w0 w) v l) (hb : Below w.heap.size w w') : LtO w' (Fresh w0 w) v l :=
  h.frame fun k hk => hb.block k hk.2
theorem LtO.setCell {w : World} {S : Nat → Prop} {v : Value} {l : List Lt} (h : LtO w S v l) {a : Addr} (ha : ¬ S a.block) (u : Value) : LtO (w.setCell a u) S v l :=
  h.frame fun k hk => Below.heap_setCell _ _ _ _ (fun e => ha (e ▸ hk))

theorem infoLt : (Tryz.prog.info? 73).map (fun i => (i.zero, i.size, i.bytes)) = some (some (.agg #[.bool false, .string ByteArray.empty, .slice none 0 0]), 3, 48) := by kernel_rfl

/-- What a loop that makes the bindings of a list one by one has made. -/
structure MadeC (w0 w : World) (xs : List Value) (l : List Lt) (k : Nat) (f : Nat → Value) (Ss : Nat → Nat → Prop) : Prop where
  cells : ∀ i d, i < k → l[i]? = some d → xs[i * 3]? = some (.bool d.var) ∧ xs[i * 3 + 1]? = some (.string d.tm.name) ∧ xs[i * 3 + 2]? = some (f i)
  own : ∀ i d, i < k → l[i]? = some d → TmO w (Ss i) (f i) d.tm.args
  sub : ∀ i b, i < k → Ss i b → w0.heap.size ≤ b ∧ b < w.heap.size
  dis : ∀ i j b, i < k → j < k → i ≠ j → Ss i b → Ss j b → False

theorem MadeC.start (w0 w : World) (xs : List Value) (l : List Lt) : MadeC w0 w xs l 0 (fun _ => .slice none 0 0) (fun _ _ => False) :=
  ⟨fun i t h => absurd h (Nat.not_lt_zero _), fun i t h => absurd h (Nat.not_lt_zero _), fun i b h => absurd h (Nat.not_lt_zero _), fun i j b h => absurd h (Nat.not_lt_zero _)⟩

theorem MadeC.keep {w0 w w' : World} {xs : List Value} {l : List Lt} {k : Nat} {f : Nat → Value} {Ss : Nat → Nat → Prop} (h : MadeC w0 w xs l k f Ss) (hz : w.heap.size ≤ w'.heap.size)
    (hf : ∀ i b, i < k → Ss i b → w'.heap[b]? = w.heap[b]?) : MadeC w0 w' xs l k f Ss :=
  ⟨h.cells, fun i t hi ht => (h.own i t hi ht).frame fun b hb => hf i b hi hb, fun i b hi hb => ⟨(h.sub i b hi hb).1, Nat.lt_of_lt_of_le (h.sub i b hi hb).2 hz⟩, h.dis⟩

theorem MadeC.next {w0 w w' : World} {xs xs' : List Value} {l : List Lt} {k : Nat} {f : Nat → Value} {Ss : Nat → Nat → Prop} {d : Lt} {va : Value} {S : Nat → Prop} (h : MadeC w0 w xs l k f Ss)
    (ht : l[k]? = some d) (hk : ∀ i, i < k → xs'[i * 3]? = xs[i * 3]? ∧ xs'[i * 3 + 1]? = xs[i * 3 + 1]? ∧ xs'[i * 3 + 2]? = xs[i * 3 + 2]?)
    (h0 : xs'[k * 3]? = some (.bool d.var)) (h1 : xs'[k * 3 + 1]? = some (.string d.tm.name)) (h2 : xs'[k * 3 + 2]? = some va)
    (ho : TmO w' S va d.tm.args) (hS : ∀ b, S b → w.heap.size ≤ b ∧ b < w'.heap.size) (hz : w.heap.size ≤ w'.heap.size) (hw : w0.heap.size ≤ w.heap.size)
    (hf : ∀ i b, i < k → Ss i b → w'.heap[b]? = w.heap[b]?) : MadeC w0 w' xs' l (k + 1) (fun i => if i = k then va else f i) (fun i => if i = k then S else Ss i) := by
  have h' := h.keep hz hf
  refine ⟨fun i s hi hs => ?_, fun i s hi hs => ?_, fun i b hi hb => ?_, fun i j b hi hj hij hb hb' => ?_⟩
  · by_cases e : i = k
    · subst e; rw [ht] at hs; injection hs with hs; subst hs; simp only [if_pos]; exact ⟨h0, h1, h2⟩
    · obtain ⟨k0, k1, k2⟩ := hk i (by omega)
      rw [k0, k1, k2]; simp only [if_neg e]; exact h.cells i s (by omega) hs
  · by_cases e : i = k
    · subst e; rw [ht] at hs; injection hs with hs; subst hs; simp only [if_pos]; exact ho
    · simp only [if_neg e]; exact h'.own i s (by omega) hs
  · by_cases e : i = k
    · subst e; simp only [if_pos] at hb; have := hS b hb; omega
    · simp only [if_neg e] at hb; exact h'.sub i b (by omega) hb
  · by_cases e : i = k
    · by_cases e' : j = k
      · omega
      · simp only [if_pos e] at hb; simp only [if_neg e'] at hb'
        have a := hS b hb
        have c := h.sub j b (by omega) hb'
        omega
    · by_cases e' : j = k
      · simp only [if_neg e] at hb; simp only [if_pos e'] at hb'
        have a := hS b hb'
        have c := h.sub i b (by omega) hb
        omega
      · simp only [if_neg e] at hb; simp only [if_neg e'] at hb'
        exact h.dis i j b (by omega) (by omega) hij hb hb'

theorem MadeC.whole {w0 w : World} {base : Nat} {v : Value} {xs : List Value} {l : List Lt} {f : Nat → Value} {Ss : Nat → Nat → Prop} (hown : w.ownsRow base 73 3 v l.length xs)
    (hm : MadeC w0 w xs l l.length f Ss) (hb : w0.heap.size ≤ base) (hne : ∀ g, v.ownBlock = some g → ∀ i, i < l.length → ¬ Ss i g) : LtO w (Fresh w0 w) v l := by
  rcases hown.2 with ⟨rfl, h0⟩ | ⟨g, cap, cur, rfl, hbg, hg, hnc, hcm, hcs, htake⟩
  · have : l = [] := List.length_eq_zero_iff.1 h0
    subst this; exact .inl ⟨_, _, rfl, rfl⟩
  · by_cases h0 : l.length = 0
    · have : l = [] := List.length_eq_zero_iff.1 h0
      subst this; exact .inl ⟨_, _, rfl, rfl⟩
    · have hlt : g < w.heap.size := (Array.getElem?_eq_some_iff.1 hg).1
      have hcell : ∀ j u, xs[j]? = some u → w.cell? ⟨g, j, none⟩ = some u := fun j u hj => by
        have hjl : j < xs.length := (List.getElem?_eq_some_iff.1 hj).1
        rw [hown.cellAt j (by have := hown.1; omega)]; exact hj
      refine .inr ⟨g, cap, f, Ss, rfl, by omega, ⟨by omega, hlt⟩, hnc, fun j => hown.frozenAt j, fun i d hi => ?_, fun i k hi hk => ⟨hm.sub i k hi hk, fun e => by subst e; exact hne k rfl i hi hk⟩, fun i j k hi hj hij => hm.dis i j k hi hj hij⟩
      have hlt' := (List.getElem?_eq_some_iff.1 hi).1
      obtain ⟨h0, h1, h2⟩ := hm.cells i d hlt' hi
      exact ⟨hcell _ _ h0, hcell _ _ h1, hcell _ _ h2, hm.own i d hlt' hi⟩

end Go.Proofs.YtdpeanpmjhpblaaGreat

/- The model's text of an equality, and FormatTerm of the model: contracts, for terms of at most 1048576 names' bytes and arguments. -/
namespace Go.Proofs.YtdpeanpmjhpblaaGreat
open Go.RowKit
set_option linter.unusedVariables false

theorem run_cat {P : Program} (T : TypeId) (a b : ByteArray) (h : a.size + b.size ≤ 9223372036854775807) (W : World) : (binOp .add T (.string a) (.string b)).run P W = .ok (.string (a ++ b)) W := by
  have h' : ¬ ((a.size + b.size : Nat) : Int) > IntKind.i64.max := by
    show ¬ ((a.size + b.size : Nat) : Int) > 9223372036854775807
    omega
  simp only [binOp, Op.stringOp, if_neg h']
  rfl

theorem any_ways {t : Tm} (h : anyB t = true) : (isEqB t.name = true ∧ ∃ x y, t.args = [x, y] ∧ x.nodesB = true ∧ y.nodesB = true) ∨ (isEqB t.name = false ∧ t.nodesB = true) := by
  unfold anyB at h
  cases hg : goodB t with
  | true =>
    have hn : t.nodesB = true := by unfold goodB at hg; simp only [Bool.and_eq_true] at hg; exact hg.2
    exact .inr ⟨nodes_noteq hn, hn⟩
  | false =>
    rw [hg, Bool.false_or] at h
    unfold atomB at h
    cases he : isEqB t.name with
    | true =>
      rw [he] at h
      simp only [if_true, Bool.and_eq_true, decide_eq_true_eq, List.all_eq_true] at h
      obtain ⟨x, y, hxy⟩ := two_args h.1
      exact .inl ⟨rfl, x, y, hxy, h.2.2 x (by rw [hxy]; simp), h.2.2 y (by rw [hxy]; simp)⟩
    | false =>
      rw [he] at h
      simp only [Bool.false_eq_true, if_false, Bool.and_eq_true] at h
      rw [hg] at h
      cases h.2

theorem txtX_eq {sign : List UInt8} {t : Tm} (h : isEqB t.name = true) : txtX sign t = jn sign t.args := by simp [txtX, h]
theorem txtX_no {sign : List UInt8} {t : Tm} (h : isEqB t.name = false) : txtX sign t = t.txt := by simp [txtX, h]

end Go.Proofs.YtdpeanpmjhpblaaGreat

/- The program writes the texts of terms into a buffer: a contract, for terms of at most 1048576 names' bytes and arguments. -/
namespace Go.Proofs.YtdpeanpmjhpblaaGreat
open Go.RowKit
set_option linter.unusedVariables false

/-- What stands while the buffer is written. -/
def Keep (B b : Nat) (W W' : World) : Prop := Below B W W' ∧ Lib.OthersKept 5 (some b) W W'
theorem Keep.refl (B b : Nat) (W : World) : Keep B b W W := ⟨Below.refl _ _, Lib.OthersKept.refl _ _ _⟩
theorem Keep.trans {B b : Nat} {W1 W2 W3 : World} (h : Keep B b W1 W2) (k : Keep B b W2 W3) : Keep B b W1 W3 := ⟨h.1.trans k.1, h.2.trans k.2⟩
theorem Keep.alloc {B b : Nat} {W1 W2 : World} (h : Keep B b W1 W2) (hB : B ≤ W2.heap.size) (o : Obj) : Keep B b W1 (W2.alloc o) := ⟨h.1.alloc hB o, h.2.alloc o⟩
theorem Keep.size {B b : Nat} {W1 W2 : World} (h : Keep B b W1 W2) (hB : B ≤ W1.heap.size) : B ≤ W2.heap.size := Nat.le_trans hB h.1.size

/-- A box that holds a term. -/
def BoxT (W : World) (g : Nat) (n : ByteArray) (v : Value) : Prop := W.heap[g]? = some (Obj.cells #[.string n, v] 31 (0, 0))
theorem BoxT.new (W : World) (n : ByteArray) (v : Value) : BoxT (W.alloc (.cells #[.string n, v] 31)) W.heap.size n v := World.alloc_heap_new W _
theorem BoxT.two {W : World} {g : Nat} {n : ByteArray} {v : Value} (h : BoxT W g n v) : Two W g (.string n) v := by
  have e : W.heap[g]? = _ := h
  exact ⟨by simp [World.cell?, e], by simp [World.cell?, e], fun j => by simp [World.frozen?, e]⟩
theorem BoxT.kept {B b g : Nat} {W W' : World} {n : ByteArray} {v : Value} (h : BoxT W g n v) (hg : g ≠ b) (hk : Keep B b W W') : BoxT W' g n v :=
  hk.2 g _ h (fun e => hg (by injection e)) (fun c fz e => by injection e with _ e2; cases e2)

/-- The slice value's elements can be read while the buffer is written. -/
def RowK (B b : Nat) (w0 W : World) (v : Value) (l : List Tm) : Prop :=
  ∃ a c, v = .slice a l.length c ∧ ∀ (k : Nat) (t : Tm), l[k]? = some t → ∃ g off va, a = some ⟨g, off, none⟩ ∧
    (∀ W', Keep B b W W' → W'.cell? ⟨g, off + k * 2, none⟩ = some (.string t.name) ∧ W'.cell? ⟨g, off + k * 2 + 1, none⟩ = some va) ∧ TmS w0 va t.args

theorem RowK.below {B b : Nat} {w0 W : World} {v : Value} {l : List Tm} (hv : TmS w0 v l) (hB : w0.heap.size = B) (hb : Below B w0 W) : RowK B b w0 W v l := by
  obtain ⟨a, c, rfl⟩ := hv.is_slice
  refine ⟨a, c, rfl, fun k t hk => ?_⟩
  obtain ⟨g, off, e, va, c0, c1, hva⟩ := hv.get hk
  subst hB
  exact ⟨g, off, va, e, fun W' hW' => ⟨carry_cell c0 (hb.trans hW'.1), carry_cell c1 (hb.trans hW'.1)⟩, hva⟩

theorem RowK.one {B b g c : Nat} {w0 W : World} {t : Tm} {va : Value} (hv : TmS w0 va t.args) (hx : BoxT W g t.name va) (hg : g ≠ b) : RowK B b w0 W (.slice (some ⟨g, 0, none⟩) 1 c) [t] := by
  refine ⟨_, c, rfl, fun k s hk => ?_⟩
  have hk0 : k = 0 ∧ s = t := by
    cases k with
    | zero => simp at hk; exact ⟨rfl, hk.symm⟩
    | succ k => simp at hk
  obtain ⟨rfl, rfl⟩ := hk0
  exact ⟨g, 0, va, rfl, fun W' hW' => by
    obtain ⟨h0, h1, _⟩ := (hx.kept hg hW').two
    exact ⟨by simpa using h0, by simpa using h1⟩, hv⟩

theorem sumL_lin : ∀ l : List Tm, sumL (fun s => 3 * s.wt + 10) l = 3 * sumL Tm.wt l + 10 * l.length
  | [] => by simp [sumL]
  | a :: r => by simp only [sumL, sumL_lin r, List.length_cons]; omega

end Go.Proofs.YtdpeanpmjhpblaaGreat

/- FormatTerm of the program: a contract, for terms of at most 1048576 names' bytes and arguments. -/
namespace Go.Proofs.YtdpeanpmjhpblaaGreat
open Go.RowKit
set_option linter.unusedVariables false

theorem txtX_len (t : Tm) (hw : t.wt ≤ 1048576) (ha : anyB t = true) (sign : List UInt8) (hs : sign.length ≤ 10) : (txtX sign t).length ≤ 100000000 := by
  cases he : isEqB t.name with
  | false => rw [txtX_no he]; have := t.txt_wt; omega
  | true =>
    rw [txtX_eq he]
    have h2 := jn_len_le sign t.args
    have h3 := sumL_le_of (f := fun s : Tm => s.txt.length + sign.length) (g := fun s => 3 * s.wt + 10) (l := t.args) (fun s hs => by have := s.txt_wt; omega)
    have h4 := sumL_lin t.args
    have h5 := t.wt_eq
    omega

end Go.Proofs.YtdpeanpmjhpblaaGreat

/- Literals in memory, their texts, and the laws' helpers over them: contracts, for atoms of at most 1048576 names' bytes and arguments. -/
namespace Go.Proofs.YtdpeanpmjhpblaaGreat
open Go.RowKit
set_option linter.unusedVariables false

/-- A block whose first three cells hold these values, not frozen. -/
def Tri (w : World) (b : Nat) (x y z : Value) : Prop := w.cell? ⟨b, 0, none⟩ = some x ∧ w.cell? ⟨b, 1, none⟩ = some y ∧ w.cell? ⟨b, 2, none⟩ = some z ∧ ∀ j, w.frozen? ⟨b, j, none⟩ = false
theorem tri_new (w : World) (x y z : Value) (T : TypeId) (b : Nat) (hb : b = w.heap.size) : Tri (w.alloc (.cells #[x, y, z] T)) b x y z :=
  ⟨by rw [World.cell?_alloc_at _ _ _ _ hb]; rfl, by rw [World.cell?_alloc_at _ _ _ _ hb]; rfl, by rw [World.cell?_alloc_at _ _ _ _ hb]; rfl, fun j => World.frozen?_alloc_at _ _ _ _ hb⟩
theorem Tri.kept {w w' : World} {b : Nat} {x y z : Value} (h : Tri w b x y z) (hb : Below w.heap.size w w') : Tri w' b x y z :=
  ⟨carry_cell h.1 hb, carry_cell h.2.1 hb, carry_cell h.2.2.1 hb, fun j => (hb.frozen (p := ⟨b, j, none⟩) (World.block_lt_of_cell? w ⟨b, 0, none⟩ h.1)).trans (h.2.2.2 j)⟩
theorem Tri.alloc {w : World} {b : Nat} {x y z : Value} (h : Tri w b x y z) (o : Obj) : Tri (w.alloc o) b x y z := h.kept ((Below.refl _ _).alloc (Nat.le_refl _) o)
theorem Tri.drew {w : World} {b : Nat} {x y z : Value} (h : Tri w b x y z) : Tri w.drew b x y z := h.kept (Below.refl _ _).drew

def litTxt (p : Bool) (t : Tm) : List UInt8 := if p then txtX eqSign t else if isEqB t.name then txtX neSign t else 126 :: txtX neSign t
theorem lit_pos (t : Tm) : litTxt true t = txtX eqSign t := rfl
theorem lit_neq {t : Tm} (h : isEqB t.name = true) : litTxt false t = txtX neSign t := by simp [litTxt, h]
theorem lit_neg {t : Tm} (h : isEqB t.name = false) : litTxt false t = 126 :: txtX neSign t := by simp [litTxt, h]
def fmtL (p : Bool) (t : Tm) : ByteArray := if atomB t then bs (litTxt p t) else bs []
theorem fmtL_yes {p : Bool} {t : Tm} (h : atomB t = true) : fmtL p t = bs (litTxt p t) := by simp [fmtL, h]
theorem fmtL_no {p : Bool} {t : Tm} (h : atomB t = false) : fmtL p t = bs [] := by simp [fmtL, h]
theorem atom_any {t : Tm} (h : atomB t = true) : anyB t = true := by simp [anyB, h]

set_option maxHeartbeats 1000000 in
theorem szLiteral_any (p : Bool) (t : Tm) (w : World) (va : Value) (left : Int) (hv : TmS w va t.args) (hlim : t.lim 9223372036854775807) (h0 : 0 ≤ left) (h1 : left ≤ 1048576) :
    Calls Tryz.prog 61 #[.agg #[.bool p, .string t.name, va], .int .i64 left] w fun e w' => e = .returned (.int .i64 (szR left t.wt)) ∧ Below w.heap.size w w' := by
  obtain ⟨pa, ca, rfl⟩ := hv.is_slice
  have HV := Lib.hid hv
  have HLIM := Lib.hid hlim
  have HB := Lib.hid ((Below.refl w.heap.size w).alloc (Nat.le_refl _) (.cells #[.bool p, .string t.name, .slice pa t.args.length ca] 100))
  clear hv hlim
  go_enter Tryz.func61, Tryz.ntmps61
  go_wp2_with fail
  refine (szTerm_any t _ _ left (HV.out.kept HB.out) HLIM.out h0 h1).mono ?_
  rintro e w1 ⟨rfl, hb⟩
  have HB1 := Lib.hid (carry_below HB.out (Nat.le_refl _) hb)
  clear hb
  rcases szR_cases left t.wt with ⟨c1, c2⟩ | ⟨c1, c2⟩
  · have HC := Lib.hid c2
    rw [c2]
    clear c2
    go_wp2
    go_ret
    exact ⟨ret_int HC.out.symm, HB1.out⟩
  · have HC := Lib.hid c2
    rw [c2]
    clear c2
    have hn : ¬ left - (t.wt : Int) < 0 := by omega
    go_wp2
    go_ret
    exact ⟨ret_int HC.out.symm, HB1.out⟩

set_option maxHeartbeats 1000000 in
theorem eqLiteral_any (p : Bool) (t : Tm) (w : World) (va vb : Value) (ha : TmS w va t.args) (hb : TmS w vb t.args) (hlim : t.lim 1048576) :
    Calls Tryz.prog 69 #[.agg #[.bool p, .string t.name, va], .agg #[.bool p, .string t.name, vb]] w fun e w' => e = .returned (.bool true) ∧ Below w.heap.size w w' := by
  obtain ⟨pa, ca, rfl⟩ := ha.is_slice
  obtain ⟨pb, cb, rfl⟩ := hb.is_slice
  have HA := Lib.hid ha
  have HBB := Lib.hid hb
  have HB := Lib.hid (((Below.refl w.heap.size w).alloc (Nat.le_refl _) (.cells #[.bool p, .string t.name, .slice pa t.args.length ca] 73)).alloc (by simp) (.cells #[.bool p, .string t.name, .slice pb t.args.length cb] 73))
  have CE := eqTerm_any t t _ _ _ (ha.kept HB.out) (hb.kept HB.out) hlim hlim
  rw [eqT_self] at CE
  have HCE := Lib.hid CE
  clear ha hb CE
  go_enter Tryz.func69, Tryz.ntmps69
  go_wp2_with fail
  refine HCE.out.mono ?_
  rintro e w1 ⟨rfl, hb⟩
  have HB1 := Lib.hid (carry_below HB.out (Nat.le_refl _) hb)
  clear hb
  go_wp2
  go_ret
  exact ⟨rfl, HB1.out⟩

def ToLitEnd (p : Bool) (t : Tm) (w : World) (e : Ending) (w' : World) : Prop :=
  ∃ va, e = .returned (.agg #[.bool p, .string t.name, va]) ∧ TmO w' (Fresh w w') va t.args ∧ Below w.heap.size w w'

set_option maxRecDepth 100000 in
set_option maxHeartbeats 1000000 in
theorem toLiteral_any (p : Bool) (t : Tm) (w : World) (va : Value) (hv : TmS w va t.args) (hw : t.wt ≤ 1048576) :
    Calls Tryz.prog 65 #[.agg #[.bool p, .string t.name, va]] w (ToLitEnd p t w) := by
  obtain ⟨pa, ca, rfl⟩ := hv.is_slice
  have HV := Lib.hid hv
  clear hv
  go_enter Tryz.func65, Tryz.ntmps65
  have HB := Lib.hid ((((Below.refl w.heap.size w).alloc (Nat.le_refl _) (.cells #[.bool p, .string t.name, .slice pa t.args.length ca] 100)).alloc (by simp) (.cells #[.bool false, .string ⟨#[]⟩, .slice none 0 0] 73)).alloc (by simp; omega) (.cells #[.bool p, .string ⟨#[]⟩, .slice none 0 0] 73))
  have R2 := Lib.hid ((tri_new (w.alloc (.cells #[.bool p, .string t.name, .slice pa t.args.length ca] 100)) (.bool false) (.string ⟨#[]⟩) (.slice none 0 0) 73 (w.heap.size + 1) (by simp)).alloc (.cells #[.bool p, .string ⟨#[]⟩, .slice none 0 0] 73))
  have O2 := Lib.hid (tri_new ((w.alloc (.cells #[.bool p, .string t.name, .slice pa t.args.length ca] 100)).alloc (.cells #[.bool false, .string ⟨#[]⟩, .slice none 0 0] 73)) (.bool p) (.string ⟨#[]⟩) (.slice none 0 0) 73 (w.heap.size + 1 + 1) (by simp))
  go_wp2_with fail
  refine (toTerm_any t _ _ (HV.out.kept HB.out) hw).mono ?_
  rintro e w1 ⟨v1, rfl, ho, hb⟩
  obtain ⟨qv, qc, rfl⟩ := ho.read.is_slice
  have HB1 := Lib.hid (carry_below HB.out (Nat.le_refl _) hb)
  have HO := Lib.hid ho
  obtain ⟨r0, r1, r2, r3⟩ := R2.out.kept hb
  obtain ⟨o0, o1, o2, o3⟩ := O2.out.kept hb
  have hz := hb.size
  simp at hz
  clear ho hb
  have hne : w.heap.size + 1 + 1 ≠ w.heap.size + 1 := by omega
  have hne' : w.heap.size + 1 ≠ w.heap.size + 1 + 1 := by omega
  -- the world behind the store of the atom
  obtain ⟨W2, hW2⟩ : ∃ W2, (w1.setCell ⟨w.heap.size + 1 + 1, 1, none⟩ (.string t.name)).setCell ⟨w.heap.size + 1 + 1, 2, none⟩ (.slice qv t.args.length qc) = W2 := ⟨_, rfl⟩
  have p0 : W2.cell? ⟨w.heap.size + 1 + 1, 0, none⟩ = some (.bool p) := by rw [← hW2, World.cell?_setCell_other _ _ _ _ (by simp), World.cell?_setCell_other _ _ _ _ (by simp)]; exact o0
  have p1 : W2.cell? ⟨w.heap.size + 1 + 1, 1, none⟩ = some (.string t.name) := by rw [← hW2, World.cell?_setCell_other _ _ _ _ (by simp)]; exact World.cell?_setCell_same _ _ _ o1
  have p2 : W2.cell? ⟨w.heap.size + 1 + 1, 2, none⟩ = some (.slice qv t.args.length qc) := by rw [← hW2]; exact World.cell?_setCell_same _ _ _ ((World.cell?_setCell_other _ _ _ _ (by simp)).trans o2)
  have q0 : W2.cell? ⟨w.heap.size + 1, 0, none⟩ = some (.bool false) := by rw [← hW2, World.cell?_setCell_other _ _ _ _ (by simp), World.cell?_setCell_other _ _ _ _ (by simp)]; exact r0
  have q1 : W2.cell? ⟨w.heap.size + 1, 1, none⟩ = some (.string ⟨#[]⟩) := by rw [← hW2, World.cell?_setCell_other _ _ _ _ (by simp), World.cell?_setCell_other _ _ _ _ (by simp)]; exact r1
  have q2 : W2.cell? ⟨w.heap.size + 1, 2, none⟩ = some (.slice none 0 0) := by rw [← hW2, World.cell?_setCell_other _ _ _ _ (by simp), World.cell?_setCell_other _ _ _ _ (by simp)]; exact r2
  have q3 : ∀ j, W2.frozen? ⟨w.heap.size + 1, j, none⟩ = false := fun j => by rw [← hW2, World.frozen?_setCell, World.frozen?_setCell]; exact r3 j
  have HB2 : Hid (Below w.heap.size w W2) := Lib.hid (by rw [← hW2]; exact (HB1.out.setCell (by simp; omega) _).setCell (by simp; omega) _)
  have HNR : Hid (TmO W2 (fun k => w.heap.size + 1 + 1 < k ∧ k < W2.heap.size) (.slice qv t.args.length qc) t.args) := Lib.hid (by
    rw [← hW2]
    refine ((HO.out.setCell (fun h => by have := h.1; simp at this; omega) _).setCell (fun h => by have := h.1; simp at this; omega) _).mono fun x hx => ⟨?_, ?_⟩
    · have := hx.1; simp at this; omega
    · simp only [size_setCell]; exact hx.2)
  go_wp2
  refine bodyPost_ret (v := .agg #[.bool p, .string t.name, .slice qv t.args.length qc]) (by simp [results, Tryz.results65, go_sem, q0, q1, q2]) rfl ?_
  refine ⟨_, rfl, ?_, ((HB2.out.setCell (by simp) _).setCell (by simp) _).setCell (by simp) _⟩
  refine (((HNR.out.setCell (fun h => by have h1 : w.heap.size + 1 + 1 < w.heap.size + 1 := h.1; omega) _).setCell (fun h => by have h1 : w.heap.size + 1 + 1 < w.heap.size + 1 := h.1; omega) _).setCell (fun h => by have h1 : w.heap.size + 1 + 1 < w.heap.size + 1 := h.1; omega) _).mono fun x hx => ⟨?_, ?_⟩
  · have := hx.1; omega
  · simp only [size_setCell]; exact hx.2

set_option maxHeartbeats 1000000 in
theorem isLiteral_any (p : Bool) (t : Tm) (w : World) (va : Value) (hv : TmS w va t.args) (hw : t.wt ≤ 1048576) :
    Calls Tryz.prog 85 #[.agg #[.bool p, .string t.name, va]] w (Ans (.bool (atomB t)) w) := by
  obtain ⟨pa, ca, rfl⟩ := hv.is_slice
  have HV := Lib.hid hv
  have HB := Lib.hid ((Below.refl w.heap.size w).alloc (Nat.le_refl _) (.cells #[.bool p, .string t.name, .slice pa t.args.length ca] 73))
  clear hv
  go_enter Tryz.func85, Tryz.ntmps85
  go_wp2_with fail
  refine (validAtom_any t _ _ (HV.out.kept HB.out) hw).mono ?_
  rintro e w1 ⟨rfl, hb⟩
  have HB1 := Lib.hid (carry_below HB.out (Nat.le_refl _) hb)
  clear hb
  go_wp2
  go_ret
  exact ⟨rfl, HB1.out⟩

end Go.Proofs.YtdpeanpmjhpblaaGreat

/- FormatLiteral, the model's and the program's: contracts, for atoms of at most 1048576 names' bytes and arguments. -/
namespace Go.Proofs.YtdpeanpmjhpblaaGreat
open Go.RowKit
set_option linter.unusedVariables false

theorem atom_ways {t : Tm} (h : atomB t = true) : (isEqB t.name = true ∧ ∃ x y, t.args = [x, y] ∧ x.nodesB = true ∧ y.nodesB = true) ∨ (isEqB t.name = false ∧ t.nodesB = true) := any_ways (atom_any h)

end Go.Proofs.YtdpeanpmjhpblaaGreat

/- Validity and text of a list of literals, as functions: facts on them. No condition. -/
namespace Go.Proofs.YtdpeanpmjhpblaaGreat
open Go.RowKit
set_option linter.unusedVariables false

/-- The order of literals. -/
def ordLt (a b : Lt) : Int := if ordT a.tm b.tm ≠ 0 then ordT a.tm b.tm else if !a.var && b.var then -1 else if a.var && !b.var then 1 else 0
def lessLt (a b : Lt) : Bool := decide (ordT a.tm b.tm < 0) || (decide (ordT a.tm b.tm = 0) && (!a.var && b.var))
theorem less_ord (a b : Lt) : lessLt a b = !decide (0 ≤ ordLt a b) := by
  unfold lessLt ordLt
  by_cases h : ordT a.tm b.tm = 0
  · rw [h]
    cases a.var <;> cases b.var <;> simp
  · rw [if_pos h]
    by_cases h2 : ordT a.tm b.tm < 0
    · simp [h2]
    · simp [h, h2]; omega
theorem ordLt_range (a b : Lt) : -1 ≤ ordLt a b ∧ ordLt a b ≤ 1 := by
  have h := ordT_range a.tm b.tm
  unfold ordLt
  split
  · exact h
  · split
    · omega
    · split <;> omega

def okL (l : List Lt) (k : Nat) (d : Lt) : Bool :=
  atomB d.tm && (match k with
    | 0 => true
    | j + 1 => match l[j]? with
      | some p => lessLt p d
      | none => true)
def okLS (l : List Lt) (k : Nat) : Bool := (List.range k).all fun j => match l[j]? with
  | some d => okL l j d
  | none => true
theorem okLS_next {l : List Lt} {k : Nat} {d : Lt} (h : l[k]? = some d) : okLS l (k + 1) = (okLS l k && okL l k d) := by
  unfold okLS
  rw [List.range_succ, List.all_append]
  simp [h]
theorem okLS_no {l : List Lt} {k : Nat} {d : Lt} (h : l[k]? = some d) (ho : okL l k d = false) : okLS l l.length = false := by
  unfold okLS
  rw [List.all_eq_false]
  refine ⟨k, List.mem_range.2 (List.getElem?_eq_some_iff.1 h).1, ?_⟩
  simp [h, ho]
def goodC (l : List Lt) : Bool := decide (l.length ≤ 8) && okLS l l.length
theorem goodC_len {l : List Lt} (h : 8 < l.length) : goodC l = false := by unfold goodC; rw [decide_eq_false (by omega)]; rfl
theorem goodC_ok {l : List Lt} (h : l.length ≤ 8) : goodC l = okLS l l.length := by unfold goodC; rw [decide_eq_true h]; rfl
theorem goodC_no {l : List Lt} (h : okLS l l.length = false) : goodC l = false := by unfold goodC; rw [h]; simp
theorem okLS_at {l : List Lt} (h : okLS l l.length = true) {k : Nat} {d : Lt} (hk : l[k]? = some d) : okL l k d = true := by
  cases ho : okL l k d with
  | true => rfl
  | false => rw [okLS_no hk ho] at h; cases h
theorem goodC_atom {l : List Lt} (h : goodC l = true) {k : Nat} {d : Lt} (hk : l[k]? = some d) : atomB d.tm = true := by
  unfold goodC at h
  rw [Bool.and_eq_true] at h
  have h2 := okLS_at h.2 hk
  unfold okL at h2
  rw [Bool.and_eq_true] at h2
  exact h2.1
theorem okL_a {l : List Lt} {k : Nat} {d : Lt} (h : atomB d.tm = false) : okL l k d = false := by unfold okL; rw [h]; rfl
theorem okL_l {l : List Lt} {k : Nat} {p d : Lt} (hp : l[k]? = some p) (h : lessLt p d = false) : okL l (k + 1) d = false := by unfold okL; simp [hp, h]
theorem okL_0 {l : List Lt} {d : Lt} (h1 : atomB d.tm = true) : okL l 0 d = true := by unfold okL; simp [h1]
theorem okL_1 {l : List Lt} {k : Nat} {p d : Lt} (h1 : atomB d.tm = true) (hp : l[k]? = some p) (h : lessLt p d = true) : okL l (k + 1) d = true := by unfold okL; simp [h1, hp, h]
theorem limC_of_wt {l : List Lt} {m : Nat} (h : wtC l ≤ m) : limC m l :=
  ⟨Nat.le_trans (wtC_len l) h, fun d hd => Tm.lim_of_wt d.tm m (Nat.le_trans (wtC_tm hd) h)⟩

/-- The text of a literal, and of a list of them. -/
def ltTxt (d : Lt) : List UInt8 := litTxt d.var d.tm
def clC : List Lt → List UInt8
  | [] => []
  | d :: r => 32 :: 124 :: 32 :: (ltTxt d ++ clC r)
def clT : List Lt → List UInt8
  | [] => []
  | d :: r => ltTxt d ++ clC r
theorem clC_append (a b : List Lt) : clC (a ++ b) = clC a ++ clC b := by
  induction a with
  | nil => rfl
  | cons d r ih => simp [clC, ih]
theorem clT_next {l : List Lt} {k : Nat} {d : Lt} (h : l[k]? = some d) (hk : 0 < k) : clT (l.take (k + 1)) = clT (l.take k) ++ 32 :: 124 :: 32 :: ltTxt d := by
  rw [take_next h]
  cases hl : l.take k with
  | nil =>
    have h1 := (List.getElem?_eq_some_iff.1 h).1
    have h2 : (l.take k).length = 0 := by rw [hl]; rfl
    rw [List.length_take] at h2
    omega
  | cons a r =>
    show ltTxt a ++ clC (r ++ [d]) = _
    rw [clC_append]
    simp [clT, clC]
theorem clT_first {l : List Lt} {d : Lt} (h : l[0]? = some d) : clT (l.take 1) = ltTxt d := by
  rw [take_next h]; simp [clT, clC]
theorem clT_all {l : List Lt} {k : Nat} (h : l.length ≤ k) : clT (l.take k) = clT l := by rw [List.take_of_length_le h]

theorem clT_len_append (a b : List Lt) : (clT a).length ≤ (clT (a ++ b)).length := by
  cases a with
  | nil => simp [clT]
  | cons t r => simp only [clT, List.cons_append, clC_append, List.length_append]; omega
theorem clT_len_take (l : List Lt) (k : Nat) : (clT (l.take k)).length ≤ (clT l).length := by
  have h := clT_len_append (l.take k) (l.drop k)
  rw [List.take_append_drop] at h
  exact h
theorem jn_len4 (sep : List UInt8) (hs : sep.length ≤ 4) : ∀ l : List Tm, sumL (fun t => t.txt.length + sep.length) l ≤ 3 * sumL Tm.wt l + 4 * l.length
  | [] => by simp [sumL]
  | t :: r => by
    have h := jn_len4 sep hs r
    have h2 := t.txt_wt
    simp only [sumL, List.length_cons]; omega
theorem txtX_len4 (s : List UInt8) (hs : s.length ≤ 4) (t : Tm) : (txtX s t).length ≤ 4 * t.wt := by
  unfold txtX
  split
  · have h1 := jn_len_le s t.args
    have h2 := jn_len4 s hs t.args
    have h3 := t.wt_eq
    omega
  · have := t.txt_wt; omega
theorem ltTxt_len (d : Lt) : (ltTxt d).length ≤ 4 * d.tm.wt + 1 := by
  have h1 := txtX_len4 eqSign (by decide) d.tm
  have h2 := txtX_len4 neSign (by decide) d.tm
  unfold ltTxt litTxt
  split
  · omega
  · split
    · omega
    · simp only [List.length_cons]; omega
theorem clC_len : ∀ l : List Lt, (clC l).length ≤ 4 * sumC Lt.wt l + 4 * l.length
  | [] => by simp [clC]
  | d :: r => by have h := clC_len r; have h2 := ltTxt_len d; simp only [clC, sumC, Lt.wt, List.length_append, List.length_cons] at *; omega
theorem clT_len (l : List Lt) : (clT l).length ≤ 4 * wtC l := by
  cases l with
  | nil => simp [clT]
  | cons d r => have h := clC_len r; have h2 := ltTxt_len d; unfold wtC; simp only [clT, sumC, Lt.wt, List.length_append, List.length_cons] at *; omega

/-- A valid atom's text is not empty. -/
theorem txtX_ne (s : List UInt8) (hs : s ≠ []) (t : Tm) (h : atomB t = true) : txtX s t ≠ [] := by
  unfold txtX
  unfold atomB at h
  split
  · rename_i he
    rw [if_pos he] at h
    simp only [Bool.and_eq_true, decide_eq_true_iff] at h
    have hl := h.1
    match hh : t.args, hl with
    | [x, y], _ =>
      rw [jn_two]
      cases s with
      | nil => exact absurd rfl hs
      | cons a r => simp
  · rename_i he
    rw [if_neg he] at h
    simp only [Bool.and_eq_true] at h
    have hz : 0 < t.name.size := by
      apply Decidable.byContradiction
      intro hn
      rw [symB_short (by omega)] at h
      cases h.1
    rw [t.txt_eq]
    intro hc
    have hc2 := (List.append_eq_nil_iff.1 hc).1
    have hc3 : t.name.data.toList.length = t.name.size := Array.length_toList
    rw [hc2] at hc3
    simp at hc3; omega
theorem ltTxt_ne {d : Lt} (h : atomB d.tm = true) : ltTxt d ≠ [] := by
  unfold ltTxt litTxt
  split
  · exact txtX_ne _ (by decide) _ h
  · split
    · exact txtX_ne _ (by decide) _ h
    · simp
def falseTxt : ByteArray := ⟨#[36, 102, 97, 108, 115, 101]⟩
def fmtC (l : List Lt) : ByteArray := if goodC l then (if l.length = 0 then falseTxt else bs (clT l)) else bs []
theorem fmtC_yes {l : List Lt} (h : goodC l = true) (h0 : 0 < l.length) : fmtC l = bs (clT l) := by unfold fmtC; rw [if_pos h, if_neg (by omega)]
theorem fmtC_nil {l : List Lt} (h : goodC l = true) (h0 : l.length = 0) : fmtC l = falseTxt := by unfold fmtC; rw [if_pos h, if_pos h0]
theorem fmtC_no {l : List Lt} (h : goodC l = false) : fmtC l = bs [] := by unfold fmtC; rw [if_neg (by rw [h]; simp)]
theorem clT_ne {l : List Lt} (h : goodC l = true) (h0 : 0 < l.length) : clT l ≠ [] := by
  cases l with
  | nil => simp at h0
  | cons d r =>
    have := ltTxt_ne (goodC_atom h (k := 0) (d := d) rfl)
    intro hc
    exact this (List.append_eq_nil_iff.1 hc).1

end Go.Proofs.YtdpeanpmjhpblaaGreat

/- The program's comparison of terms: a contract, for terms of at most 1048576 names' bytes and arguments. -/
namespace Go.Proofs.YtdpeanpmjhpblaaGreat
open Go.RowKit
set_option linter.unusedVariables false

def OrdI (a : Tm) : Prop := ∀ (b : Tm) (w : World) (va vb : Value), TmS w va a.args → TmS w vb b.args → a.wt ≤ 1048576 → b.wt ≤ 1048576 →
  Calls Tryz.prog 115 #[.agg #[.string a.name, va], .agg #[.string b.name, vb]] w (Ans (.int .i64 (ordT a b)) w)

def CmpF (l : List Tm) : Prop := ∀ (r : List Tm) (w : World) (va vb : Value), TmS w va l → TmS w vb r → l.length = r.length → l.length ≤ 1048576 → (∀ s ∈ l, s.wt ≤ 1048576) → (∀ s ∈ r, s.wt ≤ 1048576) →
  Calls Tryz.prog 131 #[va, vb, .func (.func 115) #[] #[]] w (Ans (.int .i64 (ordL l r)) w)

set_option maxHeartbeats 2000000 in
theorem cmpF_of (l : List Tm) (h : ∀ s ∈ l, OrdI s) : CmpF l := by
  intro r w va vb hva hvb hl hll hwa hwb
  have H := Lib.hid h
  have HWA := Lib.hid hwa
  have HWB := Lib.hid hwb
  have HLE := Lib.hid hl
  have hlr : r.length ≤ 1048576 := by omega
  obtain ⟨pa, ca, rfl⟩ := hva.is_slice
  obtain ⟨pb, cb, rfl⟩ := hvb.is_slice
  have HVA := Lib.hid hva
  have HVB := Lib.hid hvb
  clear h hva hvb hwa hwb hl
  go_enter Tryz.func131, Tryz.ntmps131
  go_wp2
  go_loopw [13] (fun i wr => ∃ k : Nat, k ≤ l.length ∧ i = .int .i64 k ∧ Level l r k ∧ Below w.heap.size w wr) (fun i _ => l.length - (intOf i).toNat)
  case atStart => exact ⟨0, Nat.zero_le _, rfl, fun j _ _ hj => absurd hj (Nat.not_lt_zero _), Below.refl _ _⟩
  case round =>
    obtain ⟨k, hk, rfl, hlev, hbel⟩ := hrel
    have HLV := Lib.hid hlev
    have HBE := Lib.hid hbel
    clear hlev hbel
    by_cases hlt : k < l.length
    · have hltb : k < r.length := by have := HLE.out; omega
      obtain ⟨x, hx⟩ : ∃ s, l[k]? = some s := ⟨_, List.getElem?_eq_getElem hlt⟩
      obtain ⟨y, hy⟩ : ∃ s, r[k]? = some s := ⟨_, List.getElem?_eq_getElem hltb⟩
      obtain ⟨b1, o1, rfl, v1, x0, x1, x2⟩ := HVA.out.get hx
      obtain ⟨b2, o2, rfl, v2, y0, y1, y2⟩ := HVB.out.get hy
      have x0' := carry_cell x0 HBE.out
      have x1' := carry_cell x1 HBE.out
      have y0' := carry_cell y0 HBE.out
      have y1' := carry_cell y1 HBE.out
      have X2 := Lib.hid (x2.kept HBE.out)
      have Y2 := Lib.hid (y2.kept HBE.out)
      obtain ⟨p1, c1, rfl⟩ := x2.is_slice
      obtain ⟨p2, c2, rfl⟩ := y2.is_slice
      have y0'' : (wr.alloc (.cells #[.string x.name, .slice p1 x.args.length c1] 31)).cell? ⟨b2, o2 + k * 2, none⟩ = some (.string y.name) := carry_cell' ((Below.refl _ _).alloc (Nat.le_refl _) _) y0'
      have y1'' : (wr.alloc (.cells #[.string x.name, .slice p1 x.args.length c1] 31)).cell? ⟨b2, o2 + k * 2 + 1, none⟩ = some (.slice p2 y.args.length c2) := carry_cell' ((Below.refl _ _).alloc (Nat.le_refl _) _) y1'
      have HXX := Lib.hid hx
      have HYY := Lib.hid hy
      clear hx hy x0 x1 y0 y1 x2 y2
      have HR := Lib.hid (ordT_range x y)
      obtain ⟨q, hq⟩ : ∃ q, q = ordT x y := ⟨_, rfl⟩
      have C0 : Hid (∀ W : World, Below wr.heap.size wr W → Calls Tryz.prog 115 #[.agg #[.string x.name, .slice p1 x.args.length c1], .agg #[.string y.name, .slice p2 y.args.length c2]] W (Ans (.int .i64 q) W)) := Lib.hid (fun W hW => by
        have h := H.out x (mem_of_at HXX.out) y W _ _ (X2.out.kept hW) (Y2.out.kept hW) (HWA.out x (mem_of_at HXX.out)) (HWB.out y (mem_of_at HYY.out))
        rwa [← hq] at h)
      have HQ := Lib.hid hq
      have hdk : decide (r.length ≤ k) = false := by simp; omega
      clear hq
      go_wp2_with fail
      refine (C0.out _ (((Below.refl _ _).alloc (Nat.le_refl _) _).alloc (by simp) _)).mono ?_
      rintro e w6 ⟨rfl, hb⟩
      have HB6 := Lib.hid (carry_below ((HBE.out.alloc HBE.out.size _).alloc (by have := HBE.out.size; simp; omega) _) (Nat.le_refl _) hb)
      clear hb
      by_cases hq0 : q = 0
      · have hqb : (q != 0) = false := by simp [hq0]
        have HN := Lib.hid (HLV.out.next HXX.out HYY.out (HQ.out.symm.trans hq0))
        clear hq0
        go_wp2
        go_roundw
        case rel => exact ⟨k + 1, by omega, by go_num, HN.out, HB6.out⟩
        case measure => simp [intOf]; omega
      · have hqb : (q != 0) = true := by simp [hq0]
        have HN : Hid (q = ordL l r) := Lib.hid (by rw [ordL_first HLV.out HXX.out HYY.out (fun e => hq0 (HQ.out.trans e))]; exact HQ.out)
        clear hq0
        go_wp2
        go_ret
        exact ⟨ret_int HN.out, HB6.out⟩
    · have hke : k = l.length := by omega
      subst hke
      have HN : Hid ((0 : Int) = ordL l r) := Lib.hid (by rw [ordL_all HLV.out])
      have hl2 : decide (l.length < r.length) = false := by have := HLE.out; simp; omega
      go_wp2
      go_ret
      exact ⟨ret_int HN.out, HBE.out⟩

theorem or2_zero {x y : Int} (h : or2 x y = 0) : x = 0 ∧ y = 0 := by
  unfold or2 at h
  split at h
  · omega
  · omega

theorem num3_zero {a b : Nat} (h : num3 a b = 0) : a = b := by
  unfold num3 at h
  split at h
  · omega
  · split at h <;> omega

theorem or2_range {x y : Int} (hx : -1 ≤ x ∧ x ≤ 1) (hy : -1 ≤ y ∧ y ≤ 1) : -1 ≤ or2 x y ∧ or2 x y ≤ 1 := by
  unfold or2; split <;> assumption

theorem num3_range (a b : Nat) : -1 ≤ num3 a b ∧ num3 a b ≤ 1 := by
  unfold num3; split
  · omega
  · split <;> omega

theorem ord_or {a b : Tm} (h : varB a.name = varB b.name) (h0 : or2 (txt a.name b.name) (num3 a.args.length b.args.length) ≠ 0) : ordT a b = or2 (txt a.name b.name) (num3 a.args.length b.args.length) := by
  rw [ord_rest h]
  rcases txt_ways a.name b.name with ⟨_, _, h3, h4⟩ | ⟨_, _, h3, h4⟩ | ⟨_, _, h3, h4⟩
  · rw [if_pos h4, h3]; rfl
  · rw [if_neg (by simp [h4])]
    have e : or2 (txt a.name b.name) (num3 a.args.length b.args.length) = num3 a.args.length b.args.length := by rw [h3]; rfl
    rw [e] at h0 ⊢
    unfold num3 at h0 ⊢
    by_cases h5 : a.args.length < b.args.length
    · rw [if_pos h5, if_pos h5]
    · rw [if_neg h5, if_neg h5]
      by_cases h6 : b.args.length < a.args.length
      · rw [if_pos h6, if_pos h6]
      · rw [if_neg h5, if_neg h6] at h0; exact absurd rfl h0
  · rw [if_pos h4, h3]; rfl

theorem ord_and {a b : Tm} (h : varB a.name = varB b.name) (h0 : or2 (txt a.name b.name) (num3 a.args.length b.args.length) = 0) : a.args.length = b.args.length ∧ ordT a b = ordL a.args b.args := by
  obtain ⟨h1, h2⟩ := or2_zero h0
  have h3 := num3_zero h2
  refine ⟨h3, ?_⟩
  rw [ord_rest h]
  rcases txt_ways a.name b.name with ⟨_, _, h3, h4⟩ | ⟨_, _, h3, h4⟩ | ⟨_, _, h3, h4⟩
  · omega
  · rw [if_neg (by simp [h4]), if_neg (by omega), if_neg (by omega)]
  · omega

set_option maxHeartbeats 4000000 in
theorem ordI_of (a : Tm) (h : ∀ s ∈ a.args, OrdI s) : OrdI a := by
  intro b w va vb hva hvb hwa hwb
  have H := Lib.hid (cmpF_of a.args h)
  have HWA := Lib.hid (fun (s : Tm) (hs : s ∈ a.args) => Nat.le_trans (Tm.wt_arg hs) hwa)
  have HWB := Lib.hid (fun (s : Tm) (hs : s ∈ b.args) => Nat.le_trans (Tm.wt_arg hs) hwb)
  have CA0 := fun W => isVar_any a.name W (by have := Tm.wt_name a; unfold maxLen; omega)
  have CB0 := fun W => isVar_any b.name W (by have := Tm.wt_name b; unfold maxLen; omega)
  have hla := Tm.wt_len a
  have hlb := Tm.wt_len b
  obtain ⟨pa, ca, rfl⟩ := hva.is_slice
  obtain ⟨pb, cb, rfl⟩ := hvb.is_slice
  have HVA := Lib.hid hva
  have HVB := Lib.hid hvb
  have H2A := Lib.hid ((two_new w (.string a.name) (.slice pa a.args.length ca) 31 _ rfl).alloc (.cells #[.string b.name, .slice pb b.args.length cb] 31))
  have H2B := Lib.hid (two_new (w.alloc (.cells #[.string a.name, .slice pa a.args.length ca] 31)) (.string b.name) (.slice pb b.args.length cb) 31 (w.heap.size + 1) (by simp))
  have HB := Lib.hid (((Below.refl w.heap.size w).alloc (Nat.le_refl _) (.cells #[.string a.name, .slice pa a.args.length ca] 31)).alloc (by simp) (.cells #[.string b.name, .slice pb b.args.length cb] 31))
  clear h hva hvb
  obtain ⟨xa, hxa⟩ : ∃ x, x = varB a.name := ⟨_, rfl⟩
  obtain ⟨xb, hxb⟩ : ∃ x, x = varB b.name := ⟨_, rfl⟩
  rw [← hxa] at CA0
  rw [← hxb] at CB0
  have CA := Lib.hid CA0
  have CB := Lib.hid CB0
  clear CA0 CB0
  have hgo : (xa = true ∧ xb = false) ∨ (xa = false ∧ xb = true) ∨ xa = xb := by cases xa <;> cases xb <;> simp
  rcases hgo with ⟨h1, h2⟩ | ⟨h1, h2⟩ | h1
  · subst h1; subst h2
    have HF := Lib.hid (ord_vars hxa.symm hxb.symm)
    clear hxa hxb
    go_enter Tryz.func115, Tryz.ntmps115
    go_wp2_with fail
    go_quiet ((first | (go_at_call_of 75 (Value.string a.name); exact quiet_left (CA.out _)) | (go_at_call_of 75 (Value.string b.name); exact quiet_left (CB.out _))))
    go_wp2
    go_ret
    exact ⟨ret_int HF.out.symm, below_drews HB.out _⟩
  · subst h1; subst h2
    have HF := Lib.hid (ord_vars' hxa.symm hxb.symm)
    clear hxa hxb
    go_enter Tryz.func115, Tryz.ntmps115
    go_wp2_with fail
    go_quiet ((first | (go_at_call_of 75 (Value.string a.name); exact quiet_left (CA.out _)) | (go_at_call_of 75 (Value.string b.name); exact quiet_left (CB.out _))))
    go_wp2
    go_ret
    exact ⟨ret_int HF.out.symm, below_drews HB.out _⟩
  · subst h1
    have HVE := Lib.hid (hxa.symm.trans hxb)
    clear hxa hxb
    have CT := Lib.hid (fun W => cmpText_any a.name b.name W)
    have CI := Lib.hid (fun W => cmpInt_any a.args.length b.args.length W)
    have hr1 := txt_range a.name b.name
    have hr2 := num3_range a.args.length b.args.length
    have hr3 := or2_range hr1 hr2
    have HOR := Lib.hid (ord_or HVE.out)
    have HAND := Lib.hid (ord_and HVE.out)
    generalize txt a.name b.name = tx at *
    generalize num3 a.args.length b.args.length = nu at *
    have CO := Lib.hid (fun g W h0 h1 => or_any tx nu g W h0 h1)
    generalize or2 tx nu = q at *
    go_enter Tryz.func115, Tryz.ntmps115
    go_wp2_with fail
    go_quiet ((first | (go_at_call_of 75 (Value.string a.name); exact quiet_left (CA.out _)) | (go_at_call_of 75 (Value.string b.name); exact quiet_left (CB.out _))))
    have K2A := Lib.hid (H2A.out.drews nq)
    have K2B := Lib.hid (H2B.out.drews nq)
    have KB := Lib.hid (below_drews HB.out nq)
    generalize ((w.alloc (.cells #[.string a.name, .slice pa a.args.length ca] 31)).alloc (.cells #[.string b.name, .slice pb b.args.length cb] 31)).drewN nq = W at *
    obtain ⟨a0, a1, a2⟩ := K2A.out
    obtain ⟨b0, b1, b2⟩ := K2B.out
    have hB0 : Below W.heap.size W W.drew := (Below.refl _ _).drew
    cases xa
    all_goals
      go_wp2
      go_region_held3 (fun w' => w'.cell? ⟨w.heap.size, 0, none⟩ = some (.string a.name) ∧ w'.cell? ⟨w.heap.size, 1, none⟩ = some (.slice pa a.args.length ca) ∧ w'.cell? ⟨w.heap.size + 1, 0, none⟩ = some (.string b.name) ∧ w'.cell? ⟨w.heap.size + 1, 1, none⟩ = some (.slice pb b.args.length cb)) (first | exact ⟨by assumption, by assumption, by assumption, by assumption⟩ | go_keep) (first | (go_at_call 129; refine (CT.out _).mono ?_; rintro e w6 ⟨rfl, rfl⟩) | (go_at_call 130; refine (CI.out _).mono ?_; rintro e w6 ⟨rfl, rfl⟩) | (go_at_call 128; refine (CO.out _ _ (by simp) (by simp)).mono ?_; rintro e w6 ⟨rfl, rfl⟩))
      have HK := Lib.hid (((KB.out.alloc KB.out.size (.cells #[.int .i64 tx, .int .i64 nu] 3))).drew)
      have hz : w.heap.size + 1 < W.heap.size := World.block_lt_of_cell? W _ b0
      by_cases hq0 : q = 0
      · have hqb : (q != 0) = false := by simp [hq0]
        obtain ⟨hle, ho⟩ := HAND.out hq0
        have HF := Lib.hid ho
        have HLE := Lib.hid hle
        clear hq0 hle ho hB0
        go_wp2_with fail
        refine (H.out b.args _ _ _ (HVA.out.kept HK.out) (HVB.out.kept HK.out) HLE.out (by omega) HWA.out HWB.out).mono ?_
        rintro e w8 ⟨rfl, hb⟩
        have HB8 := Lib.hid (carry_below HK.out (Nat.le_refl _) hb)
        clear hb
        go_wp2
        go_ret
        exact ⟨ret_int HF.out.symm, HB8.out⟩
      · have hqb : (q != 0) = true := by simp [hq0]
        have HF := Lib.hid (HOR.out hq0)
        clear hq0 hB0
        go_wp2
        go_ret
        exact ⟨ret_int HF.out.symm, HK.out⟩

theorem compareExpr_any (a : Tm) : OrdI a := Tm.ind (P := OrdI) ordI_of a

def ordA (a b : Tm) : Int := if anyB a = true ∧ anyB b = true then ordT a b else 0
def anyB2 (a b : Tm) : Bool := anyB a && anyB b

/-- A slice of two terms, just built. -/
theorem tmS_two {w : World} {s t : Tm} {va vb : Value} (ha : TmS w va s.args) (hb : TmS w vb t.args) (g c : Nat) (h0 : w.cell? ⟨g, 0, none⟩ = some (.string s.name)) (h1 : w.cell? ⟨g, 1, none⟩ = some va) (h2 : w.cell? ⟨g, 2, none⟩ = some (.string t.name)) (h3 : w.cell? ⟨g, 3, none⟩ = some vb) : TmS w (.slice (some ⟨g, 0, none⟩) 2 c) [s, t] := by
  refine .row g 0 c [s, t] (fun i => if i = 0 then va else vb) (by simp) (fun i x hi => ?_) (fun i x hi => ?_) (fun i x hi => ?_)
  all_goals
    have hi0 : i = 0 ∨ i = 1 := by have := (List.getElem?_eq_some_iff.1 hi).1; simp at this; omega
    rcases hi0 with e | e
    · subst e
      have e : s = x := by simpa using hi
      subst e
      first | exact h0 | exact h1 | exact ha
    · subst e
      have e : t = x := by simpa using hi
      subst e
      first | exact h2 | exact h3 | exact hb

end Go.Proofs.YtdpeanpmjhpblaaGreat

/- The order of literals, the model's and the program's: contracts, for literals of at most 1048576 names' bytes and arguments. -/
namespace Go.Proofs.YtdpeanpmjhpblaaGreat
open Go.RowKit
set_option linter.unusedVariables false

set_option maxHeartbeats 4000000 in
theorem l7Lit_any (a b : Lt) (w : World) (va vb : Value) (ha : TmS w va a.tm.args) (hb : TmS w vb b.tm.args) (hwa : a.tm.wt ≤ 1048576) (hwb : b.tm.wt ≤ 1048576) :
    Calls Tryz.prog 63 #[.agg #[.bool a.var, .string a.tm.name, va], .agg #[.bool b.var, .string b.tm.name, vb]] w (Ans (.int .i64 (ordLt a b)) w) := by
  obtain ⟨pa, ca, rfl⟩ := ha.is_slice
  obtain ⟨pb, cb, rfl⟩ := hb.is_slice
  have HB := Lib.hid (((Below.refl w.heap.size w).alloc (Nat.le_refl _) (.cells #[.bool a.var, .string a.tm.name, .slice pa a.tm.args.length ca] 73)).alloc (by simp) (.cells #[.bool b.var, .string b.tm.name, .slice pb b.tm.args.length cb] 73))
  have A2 := Lib.hid ((thr_new w (.bool a.var) (.string a.tm.name) (.slice pa a.tm.args.length ca) 73 _ rfl).alloc (.cells #[.bool b.var, .string b.tm.name, .slice pb b.tm.args.length cb] 73))
  have B2 := Lib.hid (thr_new (w.alloc (.cells #[.bool a.var, .string a.tm.name, .slice pa a.tm.args.length ca] 73)) (.bool b.var) (.string b.tm.name) (.slice pb b.tm.args.length cb) 73 (w.heap.size + 1) (by simp))
  have HCE := Lib.hid (l2Compare_any a.tm b.tm _ _ _ (ha.kept HB.out) (hb.kept HB.out) hwa hwb)
  have HR := Lib.hid (ordT_range a.tm b.tm)
  obtain ⟨z, hz⟩ : ∃ z, z = ordT a.tm b.tm := ⟨_, rfl⟩
  have HE : Hid (ordLt a b = if z ≠ 0 then z else if !a.var && b.var then -1 else if a.var && !b.var then 1 else 0) := Lib.hid (by rw [hz]; rfl)
  rw [← hz] at HCE HR
  obtain ⟨y, hy⟩ : ∃ y, y = ordLt a b := ⟨_, rfl⟩
  have HE : Hid (y = if z ≠ 0 then z else if !a.var && b.var then -1 else if a.var && !b.var then 1 else 0) := Lib.hid (by rw [hy]; exact HE.out)
  rw [← hy]
  clear ha hb hz hy
  generalize a.var = p at *
  generalize b.var = q at *
  cases p <;> cases q
  all_goals
    obtain ⟨a0, a1, a2, a3⟩ := A2.out
    obtain ⟨b0, b1, b2, b3⟩ := B2.out
    go_enter Tryz.func63, Tryz.ntmps63
    go_wp2_with fail
    refine HCE.out.mono ?_
    rintro e w1 ⟨rfl, hb⟩
    have HB1 := Lib.hid (carry_below HB.out (Nat.le_refl _) hb)
    have A3 := Lib.hid (A2.out.kept hb)
    have B3 := Lib.hid (B2.out.kept hb)
    clear a0 a1 a2 a3 b0 b1 b2 b3 hb
    obtain ⟨a0, a1, a2, a3⟩ := A3.out
    obtain ⟨b0, b1, b2, b3⟩ := B3.out
    by_cases h0 : z = 0
    · subst h0
      have HY := Lib.hid HE.out
      clear HE
      go_wp2
      go_ret
      exact ⟨ret_int (by rw [HY.out]; rfl), HB1.out⟩
    · have hne : (z != 0) = true := by simpa using h0
      have HH := Lib.hid h0
      clear h0
      go_wp2
      go_ret
      exact ⟨ret_int (by rw [HE.out, if_pos HH.out]), HB1.out⟩

set_option maxHeartbeats 4000000 in
theorem isLess_any (a b : Lt) (w : World) (va vb : Value) (ha : TmS w va a.tm.args) (hb : TmS w vb b.tm.args) (hwa : a.tm.wt ≤ 1048576) (hwb : b.tm.wt ≤ 1048576) :
    Calls Tryz.prog 86 #[.agg #[.bool a.var, .string a.tm.name, va], .agg #[.bool b.var, .string b.tm.name, vb]] w (Ans (.bool (lessLt a b)) w) := by
  obtain ⟨pa, ca, rfl⟩ := ha.is_slice
  obtain ⟨pb, cb, rfl⟩ := hb.is_slice
  have HB := Lib.hid (((Below.refl w.heap.size w).alloc (Nat.le_refl _) (.cells #[.bool a.var, .string a.tm.name, .slice pa a.tm.args.length ca] 73)).alloc (by simp) (.cells #[.bool b.var, .string b.tm.name, .slice pb b.tm.args.length cb] 73))
  have A2 := Lib.hid ((thr_new w (.bool a.var) (.string a.tm.name) (.slice pa a.tm.args.length ca) 73 _ rfl).alloc (.cells #[.bool b.var, .string b.tm.name, .slice pb b.tm.args.length cb] 73))
  have B2 := Lib.hid (thr_new (w.alloc (.cells #[.bool a.var, .string a.tm.name, .slice pa a.tm.args.length ca] 73)) (.bool b.var) (.string b.tm.name) (.slice pb b.tm.args.length cb) 73 (w.heap.size + 1) (by simp))
  have HCE := Lib.hid (compareExpr_any a.tm b.tm _ _ _ (ha.kept HB.out) (hb.kept HB.out) hwa hwb)
  have HR := Lib.hid (ordT_range a.tm b.tm)
  obtain ⟨z, hz⟩ : ∃ z, z = ordT a.tm b.tm := ⟨_, rfl⟩
  have HE : Hid (lessLt a b = (decide (z < 0) || (decide (z = 0) && (!a.var && b.var)))) := Lib.hid (by rw [hz]; rfl)
  rw [← hz] at HCE HR
  rw [HE.out]
  clear ha hb hz HE
  generalize a.var = p at *
  generalize b.var = q at *
  obtain ⟨a0, a1, a2, a3⟩ := A2.out
  obtain ⟨b0, b1, b2, b3⟩ := B2.out
  go_enter Tryz.func86, Tryz.ntmps86
  go_wp2_with fail
  refine HCE.out.mono ?_
  rintro e w1 ⟨rfl, hb⟩
  have HB1 := Lib.hid (carry_below HB.out (Nat.le_refl _) hb)
  have A3 := Lib.hid (A2.out.kept hb)
  have B3 := Lib.hid (B2.out.kept hb)
  clear a0 a1 a2 a3 b0 b1 b2 b3 hb
  obtain ⟨a0, a1, a2, a3⟩ := A3.out
  obtain ⟨b0, b1, b2, b3⟩ := B3.out
  by_cases h0 : z = 0
  · subst h0
    cases p <;> cases q <;> (go_wp2; go_ret; exact ⟨rfl, HB1.out⟩)
  · by_cases h1 : z < 0
    · have HF : Hid ((decide (z < 0) || (decide (z = 0) && (!p && q))) = true) := Lib.hid (by simp [h1])
      clear h0
      go_wp2
      go_ret
      exact ⟨ret_bool HF.out.symm, HB1.out⟩
    · have HF : Hid ((decide (z < 0) || (decide (z = 0) && (!p && q))) = false) := Lib.hid (by simp [h1, h0])
      have hne : (z == 0) = false := by simpa using h0
      have hd : decide (z < 0) = false := by simpa using h1
      have HH := Lib.hid hd
      clear h0 h1
      go_wp2
      go_ret
      first | exact ⟨ret_bool HF.out.symm, HB1.out⟩ | exact ⟨ret_bool (by rw [HF.out, HH.out]), HB1.out⟩

end Go.Proofs.YtdpeanpmjhpblaaGreat
