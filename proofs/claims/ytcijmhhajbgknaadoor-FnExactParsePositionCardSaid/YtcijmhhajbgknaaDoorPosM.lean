/- Positions read from a text: the plain model that both ParsePosition functions are held against. No condition. -/
import Derived.Test.YtcijmhhajbgknaaDoorPosG
import Derived.Test.YtcijmhhajbgknaaDoorSplit2F
import Derived.Test.YtcijmhhajbgknaaDoorRead2F
namespace Go.Proofs.YtcijmhhajbgknaaDoor
open Go.RowKit
set_option linter.unusedVariables false

open Classical in
/-- The number whose numeral the bytes are. -/
noncomputable def readL (p : List UInt8) : Option Int := if h : ∃ m : Int, -999999 ≤ m ∧ m ≤ 999999 ∧ Lib.itoa m = p then some h.choose else none

theorem read_yes {p : List UInt8} {n : Int} (h0 : -999999 ≤ n) (h1 : n ≤ 999999) (h : Lib.itoa n = p) : readL p = some n := by
  have ex : ∃ m : Int, -999999 ≤ m ∧ m ≤ 999999 ∧ Lib.itoa m = p := ⟨n, h0, h1, h⟩
  unfold readL
  rw [dif_pos ex]
  obtain ⟨k0, k1, k2⟩ := ex.choose_spec
  rw [itoa_inj k0 k1 h0 h1 (k2.trans h.symm)]
theorem read_no {p : List UInt8} (h : ∀ m : Int, -999999 ≤ m → m ≤ 999999 → Lib.itoa m ≠ p) : readL p = none := by
  unfold readL
  rw [dif_neg]
  rintro ⟨m, h0, h1, e⟩
  exact h m h0 h1 e
theorem PRes.read {p : List UInt8} {n : Int} {ok : Bool} (h : PRes p n ok) : (ok = true ∧ readL p = some n) ∨ (ok = false ∧ readL p = none) := by
  rcases h with ⟨rfl, h0, h1, h2⟩ | ⟨rfl, _, h⟩
  · exact .inl ⟨rfl, read_yes h0 h1 h2⟩
  · exact .inr ⟨rfl, read_no h⟩
theorem read_short {p : List UInt8} {n : Int} (h : readL p = some n) : p.length ≤ 7 := by
  unfold readL at h
  split at h
  · rename_i ex
    obtain ⟨m, k0, k1, k2⟩ := ex
    rw [← k2]
    unfold Lib.itoa
    have h1 := dec_len 5 m.natAbs (by omega)
    have h2 := dec_len 5 m.toNat (by omega)
    split
    · simp only [List.length_cons]; omega
    · omega
  · cases h

noncomputable def readAll : List (List UInt8) → Option (List Int)
  | [] => some []
  | p :: r => match readL p, readAll r with
    | some n, some l => some (n :: l)
    | _, _ => none

theorem readAll_snoc : ∀ (A : List (List UInt8)) (l : List Int) (p : List UInt8) (n : Int), readAll A = some l → readL p = some n → readAll (A ++ [p]) = some (l ++ [n])
  | [], l, p, n, h, hp => by
    cases h
    simp [readAll, hp]
  | q :: r, l, p, n, h, hp => by
    unfold readAll at h
    cases hq : readL q with
    | none => rw [hq] at h; simp at h
    | some m =>
      cases hr : readAll r with
      | none => rw [hq, hr] at h; simp at h
      | some l2 =>
        rw [hq, hr] at h
        simp at h
        subst h
        have e := readAll_snoc r l2 p n hr hp
        show readAll (q :: (r ++ [p])) = _
        rw [readAll, hq, e]
        rfl
theorem readAll_none : ∀ (A : List (List UInt8)) (p : List UInt8), p ∈ A → readL p = none → readAll A = none
  | q :: r, p, h, hp => by
    unfold readAll
    rcases List.mem_cons.1 h with rfl | h
    · rw [hp]
    · rw [readAll_none r p h hp]
      cases readL q <;> rfl
theorem readAll_len : ∀ (A : List (List UInt8)) (l : List Int), readAll A = some l → l.length = A.length ∧ Lib.lens A ≤ 7 * A.length
  | [], l, h => by cases h; simp [Lib.lens]
  | q :: r, l, h => by
    unfold readAll at h
    cases hq : readL q with
    | none => rw [hq] at h; simp at h
    | some m =>
      cases hr : readAll r with
      | none => rw [hq, hr] at h; simp at h
      | some l2 =>
        rw [hq, hr] at h
        simp at h
        subst h
        obtain ⟨h1, h2⟩ := readAll_len r l2 hr
        have := read_short hq
        simp only [Lib.lens, List.map_cons, List.sum_cons, List.length_cons] at h2 ⊢
        omega

theorem fold_total (c : UInt8) (l : List UInt8) : ∀ st : List (List UInt8) × List UInt8,
    Lib.lens (l.foldl (splStep c) st).1 + (l.foldl (splStep c) st).1.length + (l.foldl (splStep c) st).2.length = Lib.lens st.1 + st.1.length + st.2.length + l.length := by
  induction l with
  | nil => intro st; rfl
  | cons x r ih =>
    intro st
    rw [List.foldl_cons, ih]
    unfold splStep
    split
    · have e : ∀ A B : List (List UInt8), Lib.lens (A ++ B) = Lib.lens A + Lib.lens B := fun A B => by simp [Lib.lens]
      simp only [e, List.length_append, List.length_cons, List.length_nil]
      have : Lib.lens [st.2] = st.2.length := by simp [Lib.lens]
      omega
    · simp only [List.length_append, List.length_cons, List.length_nil]; omega
theorem split_total (c : UInt8) (l : List UInt8) : Lib.lens (splitL c l) + (splitL c l).length = l.length + 1 := by
  have h := fold_total c l ([], [])
  have e : ∀ A B : List (List UInt8), Lib.lens (A ++ B) = Lib.lens A + Lib.lens B := fun A B => by simp [Lib.lens]
  have e1 : ∀ p : List UInt8, Lib.lens [p] = p.length := fun p => by simp [Lib.lens]
  have e0 : Lib.lens ([] : List (List UInt8)) = 0 := rfl
  unfold splitL splFold
  rw [e, e1, List.length_append, List.length_singleton]
  simp only [e0, List.length_nil] at h
  omega
theorem lens_mem {p : List UInt8} : ∀ {A : List (List UInt8)}, p ∈ A → p.length ≤ Lib.lens A
  | q :: r, h => by
    have e : Lib.lens (q :: r) = q.length + Lib.lens r := by simp [Lib.lens]
    rw [e]
    rcases List.mem_cons.1 h with rfl | h
    · omega
    · have := lens_mem h; omega
theorem split_part {c : UInt8} {l p : List UInt8} (h : p ∈ splitL c l) : p.length ≤ l.length := by
  have h1 := split_total c l
  have h2 := lens_mem h
  have h3 := split_len c l
  omega

/-- What ParsePosition reads. -/
noncomputable def ppL (l : List UInt8) : Option (List Int) :=
  if l = [45] then some [] else match readAll (splitL 46 l) with
    | some is => if pOk is then some is else none
    | none => none

theorem pp_dash : ppL [45] = some [] := by simp [ppL]
theorem pp_bad {l : List UInt8} (h0 : l ≠ [45]) (h : readAll (splitL 46 l) = none) : ppL l = none := by simp [ppL, h0, h]
theorem pp_not {l : List UInt8} {is : List Int} (h0 : l ≠ [45]) (h : readAll (splitL 46 l) = some is) (hp : pOk is = false) : ppL l = none := by simp [ppL, h0, h, hp]
theorem pp_yes {l : List UInt8} {is : List Int} (h0 : l ≠ [45]) (h : readAll (splitL 46 l) = some is) (hp : pOk is = true) : ppL l = some is := by simp [ppL, h0, h, hp]
theorem pp_long {l : List UInt8} (h : 4000 < l.length) : ppL l = none := by
  have h0 : l ≠ [45] := by rintro rfl; simp at h
  cases hr : readAll (splitL 46 l) with
  | none => exact pp_bad h0 hr
  | some is =>
    refine pp_not h0 hr ?_
    cases hp : pOk is with
    | false => rfl
    | true =>
      have h1 := pOk_len hp
      obtain ⟨h2, h3⟩ := readAll_len _ _ hr
      have h4 := split_total 46 l
      omega
theorem pp_len {l : List UInt8} : ((ppL l).getD []).length ≤ 8 := by
  unfold ppL
  split
  · simp
  · split
    · split
      · rename_i h; simpa using pOk_len h
      · simp
    · simp

/-- What both functions end in. -/
def PPEnd (s : ByteArray) (w : World) (e : Ending) (w' : World) : Prop :=
  ∃ v, e = .returned (.tuple #[v, .bool (ppL s.data.toList).isSome]) ∧ IntsO w' (Fresh w w') v ((ppL s.data.toList).getD []) ∧ Below w.heap.size w w'

theorem ppEnd_no {s : ByteArray} {w w' : World} {v : Value} {a : Option Addr} {c : Nat} (hv : v = .slice a 0 c) (h : ppL s.data.toList = none) (hb : Below w.heap.size w w') : PPEnd s w (.returned (.tuple #[v, .bool false])) w' :=
  ⟨v, by rw [h]; rfl, by rw [h]; exact .inl ⟨a, c, hv, rfl⟩, hb⟩
theorem ppEnd_yes {s : ByteArray} {w w' : World} {v : Value} {is : List Int} (hv : IntsO w' (Fresh w w') v is) (h : ppL s.data.toList = some is) (hb : Below w.heap.size w w') : PPEnd s w (.returned (.tuple #[v, .bool true])) w' :=
  ⟨v, by rw [h]; rfl, by rw [h]; exact hv, hb⟩

/-- What the loops have read after k parts. -/
def PRow (w wr : World) (v : Value) (b : Nat) (ss : List ByteArray) (P : List (List UInt8)) (k : Nat) : Prop :=
  ∃ is : List Int, is.length = k ∧ readAll (P.take k) = some is ∧ wr.ownsRow w.heap.size 3 1 v k (is.map (Value.int .i64)) ∧ v.ownBlock ≠ some b ∧ (∀ i, i < ss.length → wr.cell? ⟨b, i, none⟩ = some (.string (ss.getD i ByteArray.empty))) ∧ Below w.heap.size w wr

theorem PRow.shape {w wr : World} {v : Value} {b k : Nat} {ss : List ByteArray} {P : List (List UInt8)} (h : PRow w wr v b ss P k) : ∃ a c, v = .slice a k c := by
  obtain ⟨is, hl, h1, h2, _⟩ := h
  rcases h2.2 with ⟨rfl, h0⟩ | ⟨g, cap, cur, rfl, _⟩
  · exact ⟨none, 0, by rw [h0]⟩
  · exact ⟨_, cap, rfl⟩
theorem PRow.below {w wr : World} {v : Value} {b k : Nat} {ss : List ByteArray} {P : List (List UInt8)} (h : PRow w wr v b ss P k) : Below w.heap.size w wr := by
  obtain ⟨is, _, _, _, _, _, h⟩ := h; exact h
theorem PRow.cell {w wr : World} {v : Value} {b k : Nat} {ss : List ByteArray} {P : List (List UInt8)} (h : PRow w wr v b ss P k) {i : Nat} (hi : i < ss.length) : wr.cell? ⟨b, i, none⟩ = some (.string (ss.getD i ByteArray.empty)) := by
  obtain ⟨is, _, _, _, _, h, _⟩ := h; exact h i hi
theorem PRow.kept {w wr w' : World} {v : Value} {b k : Nat} {ss : List ByteArray} {P : List (List UInt8)} (h : PRow w wr v b ss P k) (hb : Below wr.heap.size wr w') : PRow w w' v b ss P k := by
  obtain ⟨is, h1, h2, h3, h4, h5, h6⟩ := h
  refine ⟨is, h1, h2, ?_, h4, fun i hi => carry_cell (h5 i hi) hb, carry_below h6 (Nat.le_refl _) hb⟩
  refine h3.kept (grown_of_below hb none) ?_
  cases v.ownBlock with
  | none => exact .inl rfl
  | some g => exact .inr (by simp)
theorem PRow.start {w wr : World} {v : Value} {b : Nat} {ss : List ByteArray} {P : List (List UInt8)} (h : wr.ownsRow w.heap.size 3 1 v 0 []) (hb : v.ownBlock ≠ some b) (hc : ∀ i, i < ss.length → wr.cell? ⟨b, i, none⟩ = some (.string (ss.getD i ByteArray.empty))) (hB : Below w.heap.size w wr) : PRow w wr v b ss P 0 :=
  ⟨[], rfl, rfl, h, hb, hc, hB⟩
/-- One part more. -/
theorem PRow.next {w wr w2 : World} {v v2 : Value} {b k : Nat} {ss : List ByteArray} {P : List (List UInt8)} {p : List UInt8} {n : Int} {o : Obj} {is : List Int} (h : PRow w wr v b ss P k) (h1 : is.length = k) (h2 : readAll (P.take k) = some is) (h3 : wr.ownsRow w.heap.size 3 1 v k (is.map (Value.int .i64)))
    (hp : P[k]? = some p) (hn : readL p = some n) (hk : k < ss.length)
    (ho : w2.ownsRow w.heap.size 3 1 v2 (k + 1) (is.map (Value.int .i64) ++ [.int .i64 n])) (hg : (wr.alloc o).grownBy w2 v.ownBlock) : PRow w w2 v2 b ss P (k + 1) := by
  obtain ⟨_, _, _, _, h4, h5, h6⟩ := h
  have hc2 : ∀ i, i < ss.length → w2.cell? ⟨b, i, none⟩ = some (.string (ss.getD i ByteArray.empty)) := fun i hi =>
    hg.cell (carry_cell (h5 i hi) ((Below.refl _ _).alloc (Nat.le_refl _) o)) (fun e => h4 e.symm)
  refine ⟨is ++ [n], by rw [List.length_append, h1]; rfl, ?_, by rw [List.map_append]; exact ho, fun e => ?_, hc2, ?_⟩
  · rw [List.take_add_one, hp]
    exact readAll_snoc _ _ _ _ h2 hn
  · obtain ⟨g, cap, rfl⟩ := ownsRow_succ ho
    simp [Value.ownBlock] at e
    subst e
    have h0 := hc2 0 (by omega)
    have hx := ho.cellAt 0 (by omega)
    rw [h0] at hx
    cases is with
    | nil => simp at hx
    | cons x r => simp at hx
  · refine (h6.alloc h6.size o).grown hg (by have := h6.size; simp; omega) (fun g hg2 => (h3.lt g hg2).1)
theorem PRow.done {w wr : World} {v : Value} {b k : Nat} {ss : List ByteArray} {P : List (List UInt8)} (h : PRow w wr v b ss P k) (hk : P.length ≤ k) : ∃ is, readAll P = some is ∧ IntsO wr (Fresh w wr) v is := by
  obtain ⟨is, h1, h2, h3, h4, h5, h6⟩ := h
  rw [List.take_of_length_le hk] at h2
  subst h1
  exact ⟨is, h2, intsO_of_owns h3 (fun j x hx => by rw [List.getElem?_map, hx]; rfl)⟩

end Go.Proofs.YtcijmhhajbgknaaDoor
