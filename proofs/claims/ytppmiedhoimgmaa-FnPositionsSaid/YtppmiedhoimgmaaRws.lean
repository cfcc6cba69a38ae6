/- Lists of positions in memory: rows of integers, each in a block of its own, in a row that the call owns. No condition. -/
import Derived.Test.YtppmiedhoimgmaaOwnI
import Derived.Test.YtppmiedhoimgmaaOwn
namespace Go.Proofs.Ytppmiedhoimgmaa
open Go.RowKit
set_option linter.unusedVariables false

mutual
/-- The positions of a term at a position: its own, then those of its arguments. -/
def posT (p : List Int) : Tm → List (List Int)
  | .node _ l => p :: posL p 0 l
def posL (p : List Int) (i : Nat) : List Tm → List (List Int)
  | [] => []
  | t :: r => posT (p ++ [(i : Int)]) t ++ posL p (i + 1) r
end

theorem posT_eq (p : List Int) (t : Tm) : posT p t = p :: posL p 0 t.args := by cases t; rw [posT]; rfl

theorem posL_take : ∀ (l : List Tm) (p : List Int) (i k : Nat) (t : Tm), l[k]? = some t → posL p i (l.take (k + 1)) = posL p i (l.take k) ++ posT (p ++ [((i + k : Nat) : Int)]) t
  | [], p, i, k, t, h => by cases h
  | s :: r, p, i, 0, t, h => by
    have e : s = t := by simpa using h
    subst e; simp [posL]
  | s :: r, p, i, k + 1, t, h => by
    have h' : r[k]? = some t := by simpa using h
    have ih := posL_take r p (i + 1) k t h'
    rw [List.take_succ_cons, posL, ih, List.take_succ_cons, posL, List.append_assoc, show i + 1 + k = i + (k + 1) by omega]

mutual
theorem posT_len : ∀ (t : Tm) (p : List Int), (posT p t).length = t.sz
  | .node n l, p => by rw [posT, List.length_cons, posL_len l p 0, Tm.sz_eq]; simp only [Tm.args]; omega
theorem posL_len : ∀ (l : List Tm) (p : List Int) (i : Nat), (posL p i l).length = sumL Tm.sz l
  | [], p, i => rfl
  | t :: r, p, i => by rw [posL, List.length_append, posT_len t _, posL_len r p (i + 1)]; rfl
end

/-- The slice value reads as the integers from the head of a block on. -/
def PosV (w : World) (v : Value) (p : List Int) : Prop :=
  ∃ g c, v = .slice (some ⟨g, 0, none⟩) p.length c ∧ g < w.heap.size ∧ ∀ k x, p[k]? = some x → w.cell? ⟨g, k, none⟩ = some (.int .i64 x)

theorem PosV.kept {w w' : World} {v : Value} {p : List Int} (h : PosV w v p) (hb : Below w.heap.size w w') : PosV w' v p := by
  obtain ⟨g, c, hv, hg, hc⟩ := h
  exact ⟨g, c, hv, Nat.lt_of_lt_of_le hg hb.size, fun k x hk => carry_cell (hc k x hk) hb⟩

theorem PosV.grown {w w' : World} {v : Value} {p : List Int} {row : Option Nat} (h : PosV w v p) (hg : w.grownBy w' row) (hn : row ≠ v.ownBlock) : PosV w' v p := by
  obtain ⟨g, c, rfl, hb, hc⟩ := h
  exact ⟨g, c, rfl, Nat.lt_of_lt_of_le hb hg.size, fun k x hk => hg.cell (hc k x hk) (fun e => hn (by rw [← e]; rfl))⟩

def ints (p : List Int) : List Value := p.map (Value.int .i64)
theorem ints_len (p : List Int) : (ints p).length = p.length := by simp [ints]
theorem ints_at {p : List Int} {k : Nat} {x : Int} (h : p[k]? = some x) : (ints p)[k]? = some (Value.int .i64 x) := by simp [ints, h]
theorem ints_append (p q : List Int) : ints (p ++ q) = ints p ++ ints q := by simp [ints]

/-- A row of integers that a call owns, not nil. -/
def OwnP (w : World) (base : Nat) (v : Value) (p : List Int) : Prop :=
  w.ownsRow base 3 1 v p.length (ints p) ∧ ∃ g c, v = .slice (some ⟨g, 0, none⟩) p.length c

theorem OwnP.read {w : World} {base : Nat} {v : Value} {p : List Int} (h : OwnP w base v p) : PosV w v p := by
  obtain ⟨h1, g, c, rfl⟩ := h
  exact ⟨g, c, rfl, (h1.lt g rfl).2, fun k x hk => by
    rw [h1.cellAt k (by have := (List.getElem?_eq_some_iff.1 hk).1; omega)]; exact ints_at hk⟩

theorem OwnP.kept {w w' : World} {base : Nat} {v : Value} {p : List Int} (h : OwnP w base v p) (hb : Below w.heap.size w w') : OwnP w' base v p := ⟨own_kept h.1 hb, h.2⟩

theorem OwnP.own {w : World} {base : Nat} {v : Value} {p : List Int} (h : OwnP w base v p) : ∃ g, v.ownBlock = some g ∧ base ≤ g ∧ g < w.heap.size ∧ IntsO w (fun b => b = g) v p := by
  obtain ⟨h1, g, c, rfl⟩ := h
  have hl := h1.lt g rfl
  refine ⟨g, rfl, hl.1, hl.2, ?_⟩
  by_cases h0 : p.length = 0
  · exact .inl ⟨_, c, by rw [h0], List.length_eq_zero_iff.1 h0⟩
  · refine .inr ⟨g, c, rfl, by omega, ?_, rfl, fun j => h1.frozenAt j, fun k x hk => ?_⟩
    · rcases h1.2 with ⟨e, _⟩ | ⟨g', cap, cur, e, _, _, hn, _⟩
      · cases e
      · injection e with _ _ e; omega
    · rw [h1.cellAt k (by have := (List.getElem?_eq_some_iff.1 hk).1; omega)]; exact ints_at hk

/-- The values of rows, and their blocks: above a base, none met twice. -/
structure Rws (w : World) (base : Nat) (us : List Value) (L : List (List Int)) (Ss : Nat → Nat → Prop) : Prop where
  len : us.length = L.length
  row : ∀ k p, L[k]? = some p → ∃ u, us[k]? = some u ∧ IntsO w (Ss k) u p
  sub : ∀ k b, k < L.length → Ss k b → base ≤ b ∧ b < w.heap.size
  dis : ∀ i j b, i < L.length → j < L.length → Ss i b → Ss j b → i = j

theorem Rws.nil (w : World) (base : Nat) : Rws w base [] [] (fun _ _ => False) :=
  ⟨rfl, fun k p h => by simp at h, fun k b h => absurd h (Nat.not_lt_zero _), fun i j b h => absurd h (Nat.not_lt_zero _)⟩

theorem Rws.keep {w w' : World} {base : Nat} {us : List Value} {L : List (List Int)} {Ss : Nat → Nat → Prop} (h : Rws w base us L Ss) (hz : w.heap.size ≤ w'.heap.size)
    (hf : ∀ k b, k < L.length → Ss k b → w'.heap[b]? = w.heap[b]?) : Rws w' base us L Ss :=
  ⟨h.len, fun k p hk => by
    obtain ⟨u, hu, ho⟩ := h.row k p hk
    exact ⟨u, hu, ho.frame fun b hb => hf k b (List.getElem?_eq_some_iff.1 hk).1 hb⟩, fun k b hk hb => ⟨(h.sub k b hk hb).1, Nat.lt_of_lt_of_le (h.sub k b hk hb).2 hz⟩, h.dis⟩

theorem Rws.kept {w w' : World} {base : Nat} {us : List Value} {L : List (List Int)} {Ss : Nat → Nat → Prop} (h : Rws w base us L Ss) (hb : Below w.heap.size w w') : Rws w' base us L Ss :=
  h.keep hb.size fun k b hk hs => hb.block b (h.sub k b hk hs).2

theorem Rws.grown {w w' : World} {base : Nat} {us : List Value} {L : List (List Int)} {Ss : Nat → Nat → Prop} {row : Option Nat} (h : Rws w base us L Ss) (hg : w.grownBy w' row)
    (hn : ∀ g, row = some g → ∀ k, k < L.length → ¬ Ss k g) : Rws w' base us L Ss :=
  h.keep hg.size fun k b hk hs => hg.block b (h.sub k b hk hs).2 (fun e => hn b e.symm k hk hs)

theorem Rws.mono {w : World} {base base' : Nat} {us : List Value} {L : List (List Int)} {Ss : Nat → Nat → Prop} (h : Rws w base us L Ss) (hb : base' ≤ base) : Rws w base' us L Ss :=
  ⟨h.len, h.row, fun k b hk hs => ⟨Nat.le_trans hb (h.sub k b hk hs).1, (h.sub k b hk hs).2⟩, h.dis⟩

theorem Rws.one {w : World} {base : Nat} {v : Value} {p : List Int} {S : Nat → Prop} (ho : IntsO w S v p) (hS : ∀ b, S b → base ≤ b ∧ b < w.heap.size) : Rws w base [v] [p] (fun _ => S) :=
  ⟨rfl, fun k q hk => by
    cases k with
    | zero => simp at hk; subst hk; exact ⟨v, rfl, ho⟩
    | succ n => simp at hk, fun k b _ hb => hS b hb, fun i j b hi hj _ _ => by simp at hi hj; omega⟩

/-- Two lists of rows, no block of the one a block of the other. -/
theorem Rws.app {w : World} {base : Nat} {us us' : List Value} {L L' : List (List Int)} {Ss Ss' : Nat → Nat → Prop} (h : Rws w base us L Ss) (h' : Rws w base us' L' Ss')
    (hd : ∀ i j b, i < L.length → j < L'.length → Ss i b → Ss' j b → False) : Rws w base (us ++ us') (L ++ L') (fun k => if k < L.length then Ss k else Ss' (k - L.length)) := by
  have hl := h.len
  refine ⟨by simp [h.len, h'.len], fun k p hk => ?_, fun k b hk hs => ?_, fun i j b hi hj hs hs' => ?_⟩
  · by_cases e : k < L.length
    · rw [List.getElem?_append_left e] at hk
      obtain ⟨u, hu, ho⟩ := h.row k p hk
      exact ⟨u, by rw [List.getElem?_append_left (by omega)]; exact hu, by simp only [if_pos e]; exact ho⟩
    · rw [List.getElem?_append_right (by omega)] at hk
      obtain ⟨u, hu, ho⟩ := h'.row _ p hk
      exact ⟨u, by rw [List.getElem?_append_right (by omega), hl]; exact hu, by simp only [if_neg e]; exact ho⟩
  · by_cases e : k < L.length
    · simp only [if_pos e] at hs; exact h.sub k b e hs
    · simp only [if_neg e] at hs; exact h'.sub _ b (by rw [List.length_append] at hk; omega) hs
  · rw [List.length_append] at hi hj
    by_cases e : i < L.length
    · by_cases e' : j < L.length
      · simp only [if_pos e] at hs; simp only [if_pos e'] at hs'; exact h.dis i j b e e' hs hs'
      · simp only [if_pos e] at hs; simp only [if_neg e'] at hs'; exact (hd i _ b e (by omega) hs hs').elim
    · by_cases e' : j < L.length
      · simp only [if_neg e] at hs; simp only [if_pos e'] at hs'; exact (hd j _ b e' (by omega) hs' hs).elim
      · simp only [if_neg e] at hs; simp only [if_neg e'] at hs'
        have := h'.dis _ _ b (by omega) (by omega) hs hs'; omega

/-- A row of rows that a call owns. -/
def Acc (w : World) (base : Nat) (v : Value) (L : List (List Int)) : Prop :=
  ∃ us Ss, w.ownsRow base 36 1 v L.length us ∧ Rws w base us L Ss ∧ ∀ g, v.ownBlock = some g → ∀ k, k < L.length → ¬ Ss k g

theorem Acc.kept {w w' : World} {base : Nat} {v : Value} {L : List (List Int)} (h : Acc w base v L) (hb : Below w.heap.size w w') : Acc w' base v L := by
  obtain ⟨us, Ss, h1, h2, h3⟩ := h
  exact ⟨us, Ss, own_kept h1 hb, h2.kept hb, h3⟩

theorem Acc.nil (w : World) (base : Nat) : Acc w base (.slice none 0 0) [] := ⟨[], _, World.ownsRow_nil _ _ _ _, Rws.nil _ _, fun g hg => by simp [Value.ownBlock] at hg⟩

/-- Rws that have been appended: what owns them now. -/
theorem Acc.appended {w w1 : World} {base g cap m : Nat} {v : Value} {us us' : List Value} {L L' : List (List Int)} {Ss : Nat → Nat → Prop}
    (hr : Rws w base (us ++ us') (L ++ L') Ss) (hn : ∀ g, v.ownBlock = some g → ∀ k, k < (L ++ L').length → ¬ Ss k g) (hm : m = (L ++ L').length)
    (hown : w1.ownsRow base 36 1 (.slice (some ⟨g, 0, none⟩) m cap) m (us ++ us')) (hgr : w.grownBy w1 v.ownBlock) (hat : v.ownBlock = some g ∨ w.heap.size ≤ g) :
    Acc w1 base (.slice (some ⟨g, 0, none⟩) m cap) (L ++ L') := by
  subst hm
  refine ⟨_, Ss, hown, hr.grown hgr hn, fun g' hg' k hk hs => ?_⟩
  have e : g' = g := by simp [Value.ownBlock] at hg'; exact hg'.symm
  subst e
  rcases hat with h1 | h1
  · exact hn g' h1 k hk hs
  · have := (hr.sub k g' hk hs).2; omega

theorem infoInts : (Try.prog.info? 36).map (fun i => (i.zero, i.size, i.bytes)) = some (some (.slice none 0 0), 1, 24) := by kernel_rfl

theorem grown_trans {a b c : World} {r r' : Option Nat} (h : a.grownBy b r) (k : b.grownBy c r') (hr : r' = r ∨ ∀ g, r' = some g → a.heap.size ≤ g) : a.grownBy c r :=
  ⟨k.os.trans h.os, k.tape.trans h.tape, k.output.trans h.output, Nat.le_trans h.size k.size, fun i hi hn => by
    refine (k.block i (Nat.lt_of_lt_of_le hi h.size) (fun e => ?_)).trans (h.block i hi hn)
    rcases hr with hr | hr
    · exact hn (e.trans hr)
    · have := hr i e.symm; omega⟩

theorem below_grown {B : Nat} {w0 a b : World} {row : Option Nat} (h : Below B w0 a) (hB : B ≤ w0.heap.size) (hg : a.grownBy b row) (hr : ∀ g, row = some g → B ≤ g) : Below B w0 b :=
  ⟨hg.os.trans h.os, hg.tape.trans h.tape, hg.output.trans h.output, Nat.le_trans h.size hg.size, fun i hi => (hg.block i (by have := h.size; omega) (fun e => by have := hr i e.symm; omega)).trans (h.block i hi)⟩

theorem Two.grown {a b : World} {g : Nat} {x y : Value} {row : Option Nat} (h : Two a g x y) (hg : a.grownBy b row) (hn : some g ≠ row) : Two b g x y :=
  ⟨hg.cell h.1 hn, hg.cell h.2.1 hn, fun j => by
    have hlt := World.block_lt_of_cell? a ⟨g, 0, none⟩ h.1
    exact (World.frozen?_of_block (w := a) (a := ⟨g, j, none⟩) (hg.block g hlt hn)).trans (h.2.2 j)⟩

end Go.Proofs.Ytppmiedhoimgmaa
