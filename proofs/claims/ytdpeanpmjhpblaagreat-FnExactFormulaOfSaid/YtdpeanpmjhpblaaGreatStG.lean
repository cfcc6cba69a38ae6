/- Several texts in one: each says what it proves. No condition but theirs. -/
import Derived.Test.YtdpeanpmjhpblaaGreatOpenI
import Derived.Test.YtdpeanpmjhpblaaGreatFmtS
import Derived.Test.YtdpeanpmjhpblaaGreatName
import Derived.Test.YtdpeanpmjhpblaaGreatRows
import Derived.WalkKit
import Derived.WalkSpells
import Derived.WalkLawsBesides
import Derived.Lib.Hide
import Derived.Deep.QuietTactic
import Derived.Laws.OwnMore
import Derived.BigQuiet
import Derived.ProofKit
import Derived.Deep.RegionHeld3
import Derived.Test.YtdpeanpmjhpblaaGreatOwnI
import Derived.Deep.AppendLies
import Derived.Deep.RegionLaw
import Derived.Maps.AppendAt
import Derived.RangeFuncBox
import Derived.Test.YtdpeanpmjhpblaaGreatNameS
import Derived.Test.YtdpeanpmjhpblaaGreatSizes
import Derived.Test.YtdpeanpmjhpblaaGreatSpecV
import Derived.Test.YtdpeanpmjhpblaaGreatCnG
import Derived.Sort.OwnSorted
import Derived.Lib.SlicesCompact
import Derived.Lib.RowBridge
import Derived.Sort.Walk0
/- Plain facts on lists of bytes and integers that the walks use: the checksum of a list of bytes. No condition. -/
namespace Go.Proofs.YtdpeanpmjhpblaaGreat

theorem take_snoc (s : ByteArray) (k : Nat) (h : k < s.size) : s.data.toList.take (k + 1) = s.data.toList.take k ++ [s[k]] := by
  rw [List.take_succ_eq_append_getElem (by simpa using h)]; rfl

theorem take_all (s : ByteArray) (k : Nat) (h : s.size ≤ k) : s.data.toList.take k = s.data.toList := by
  rw [List.take_of_length_le]; simpa using h

end Go.Proofs.YtdpeanpmjhpblaaGreat

/- The model's test whether a byte stands in a string: a contract for every string. No condition beyond the length that any string has. -/
namespace Go.Proofs.YtdpeanpmjhpblaaGreat
open Go.RowKit

/-- Whether a byte stands in a list. -/
def hasB (c : UInt8) (l : List UInt8) : Bool := decide (c ∈ l)

theorem byte_eq {a b : UInt8} (h : a = b) : ((a.toNat : Int) == (b.toNat : Int)) = true := by simp [h]
theorem byte_ne {a b : UInt8} (h : a ≠ b) : ((a.toNat : Int) == (b.toNat : Int)) = false := by
  simp only [beq_eq_false_iff_ne, ne_eq]
  intro e
  exact h (UInt8.toNat_inj.1 (by omega))

theorem getElem_toList (s : ByteArray) (k : Nat) (h : k < s.size) : s.data.toList[k]'(by simpa using h) = s[k] := rfl

theorem quiet_leftF {P : Program} {f : FuncId} {args : Array Value} {w : World} {n : Nat} {v : Value}
    (h : Calls P f args (w.drewN n) fun e w' => e = .returned v ∧ w.drewN n = w') : Calls P f args (w.drewN n) fun e w'' => e = .returned v ∧ ∃ m, w'' = w.drewN m :=
  h.mono fun _ _ ⟨he, hm⟩ => ⟨he, n, hm.symm⟩

end Go.Proofs.YtdpeanpmjhpblaaGreat

/- Slices of strings as the walks see them, worlds that have only drawn or only grown: small facts that the contracts share. No condition. -/
namespace Go.Proofs.YtdpeanpmjhpblaaGreat
open Go.RowKit

theorem hide {p : Prop} (h : p) : Hid p := h

theorem unhide {p : Prop} (h : Hid p) : p := h

/-- A slice value reads as a list of strings: it has no element, or each element's cell is there. -/
def StrsV (w : World) (v : Value) (ss : List ByteArray) : Prop :=
  (∃ a c, v = .slice a 0 c ∧ ss = []) ∨
  (∃ b off c, v = .slice (some ⟨b, off, none⟩) ss.length c ∧ 0 < ss.length ∧ ∀ i, i < ss.length → w.cell? ⟨b, off + i, none⟩ = some (.string (ss.getD i ByteArray.empty)))

/-- In a later world in which nothing below B has changed, a slice that lay in the earlier world still reads so. -/
theorem StrsV.below {w w' : World} {v : Value} {ss : List ByteArray} (h : StrsV w v ss) (hb : Below w.heap.size w w') : StrsV w' v ss := by
  rcases h with h | ⟨b, off, c, hv, hp, hc⟩
  · exact .inl h
  · refine .inr ⟨b, off, c, hv, hp, fun i hi => ?_⟩
    have h1 := hc i hi
    exact (hb.cell (p := ⟨b, off + i, none⟩) (World.block_lt_of_cell? w _ h1)).trans h1

/-- What an owned row of strings reads as. -/
theorem strsV_of_owns {w : World} {base : Nat} {v : Value} {ss : List ByteArray} (h : w.ownsRow base 9 1 v ss.length (ss.map Value.string)) : StrsV w v ss := by
  rcases h.2 with ⟨hv, h0⟩ | ⟨g, cap, cur, hv, rest⟩
  · exact .inl ⟨none, 0, by rw [hv], List.length_eq_zero_iff.1 h0⟩
  · by_cases h0 : ss.length = 0
    · exact .inl ⟨some ⟨g, 0, none⟩, cap, by rw [hv, h0], List.length_eq_zero_iff.1 h0⟩
    · subst hv
      refine .inr ⟨g, 0, cap, rfl, by omega, fun i hi => ?_⟩
      rw [Nat.zero_add, h.cellAt i (by omega)]
      simp [hi]

theorem getD_eq {l : List ByteArray} {i : Nat} (h : i < l.length) : l.getD i ByteArray.empty = l[i] := by simp [h]

theorem list_ext_getD {a b : List ByteArray} (hl : a.length = b.length) (h : ∀ i, i < a.length → a.getD i ByteArray.empty = b.getD i ByteArray.empty) : a = b := by
  apply List.ext_getElem hl
  intro i h1 h2
  have := h i h1
  rwa [getD_eq h1, getD_eq h2] at this

/-- An argument that the reader has opened reads as the strings of its elements. -/
theorem strsV_of_open {w : World} {a : Addr} {len cap : Nat} {ss : List ByteArray} (hl : len ≤ ss.length) (hcell : ∀ i, i < ss.length → w.cell? (a.add i) = some (.string (ss.getD i ByteArray.empty))) :
    StrsV w (.slice (some a) len cap) (ss.take len) := by
  have hlen : (ss.take len).length = len := by simp; omega
  by_cases h0 : len = 0
  · subst h0; exact .inl ⟨some a, cap, rfl, by simp⟩
  · obtain ⟨b, off, spot⟩ := a
    have hc := hcell 0 (by omega)
    have hspot : spot = none := by simpa [Addr.add] using World.cell?_spot hc
    subst hspot
    refine .inr ⟨b, off, cap, by rw [hlen], by omega, fun i hi => ?_⟩
    rw [hlen] at hi
    have h1 := hcell i (by omega)
    have h2 : (ss.take len).getD i ByteArray.empty = ss.getD i ByteArray.empty := by simp [hi]
    rw [h2]
    have e : Addr.add ⟨b, off, none⟩ i = ⟨b, off + i, none⟩ := by
      simp only [Addr.add]; split <;> simp_all
    rw [e] at h1; exact h1

theorem owns_cap {w : World} {base e size n : Nat} {v : Value} {xs : List Value} (h : w.ownsRow base e size v n xs) : ∀ a m c, v = .slice a m c → m ≤ c := by
  intro a m c hv
  rcases h.2 with ⟨h1, _⟩ | ⟨g, cap, cur, h1, _, _, h2, _⟩
  · rw [h1] at hv; injection hv with _ e1 e2; omega
  · rw [h1] at hv; injection hv with _ e1 e2; omega

theorem infoStr : (Tryz.prog.info? 9).map (fun i => (i.zero, i.size, i.bytes)) = some (some (.string ByteArray.empty), 1, 16) := by kernel_rfl

/-- A row whose cells are known one by one. -/
theorem row_known {w : World} {base : Nat} {v : Value} {n : Nat} {xs : List Value} {ss : List ByteArray} (h : w.ownsRow base 9 1 v n xs) (hn : n = ss.length)
    (hx : ∀ j, j < n → xs[j]? = some (.string (ss.getD j ByteArray.empty))) : w.ownsRow base 9 1 v ss.length (ss.map Value.string) := by
  subst hn
  have e : xs = ss.map Value.string := by
    apply List.ext_getElem?
    intro j
    by_cases hj : j < ss.length
    · rw [hx j hj]; simp [hj]
    · have hl := h.1
      rw [List.getElem?_eq_none (by omega), List.getElem?_eq_none (by simp; omega)]
  rw [← e]; exact h

theorem drewN_two (w : World) (a b : Nat) : (w.drewN a).drewN b = w.drewN (a + b) := by
  simp [World.drewN, Nat.add_assoc]

/-- A world that has only drawn. -/
def Drawn (w w' : World) : Prop := ∃ n, w' = w.drewN n

theorem Drawn.refl (w : World) : Drawn w w := ⟨0, rfl⟩

theorem Drawn.cell {w w' : World} {a : Addr} {v : Value} (h : Drawn w w') (hc : w.cell? a = some v) : w'.cell? a = some v := by
  obtain ⟨n, rfl⟩ := h; exact hc

theorem Drawn.then {w w' : World} (h : Drawn w w') (m : Nat) : Drawn w (w'.drewN m) := by
  obtain ⟨n, rfl⟩ := h; exact ⟨n + m, drewN_two _ _ _⟩

theorem Drawn.below {w w' : World} (h : Drawn w w') (B : Nat) : Below B w w' := by
  obtain ⟨n, rfl⟩ := h; exact ⟨rfl, rfl, rfl, Nat.le_refl _, fun _ _ => rfl⟩

theorem owns_base {W : World} {base base' : Nat} {e : TypeId} {size : Nat} {v : Value} {k : Nat} {xs : List Value} (h : W.ownsRow base e size v k xs) (hb : base' ≤ base) : W.ownsRow base' e size v k xs := by
  refine ⟨h.1, ?_⟩
  rcases h.2 with hn | ⟨g, cap, cur, hv, hbg, rest⟩
  · exact .inl hn
  · exact .inr ⟨g, cap, cur, hv, Nat.le_trans hb hbg, rest⟩

theorem below_app {w wr w1 : World} {e size n : Nat} {v : Value} {xs : List Value} {o : Obj} (hb : Below w.heap.size w wr) (hown : wr.ownsRow w.heap.size e size v n xs) (hg : (wr.alloc o).grownBy w1 v.ownBlock) : Below w.heap.size w w1 :=
  (hb.alloc hb.size o).grown hg (by have := hb.size; simp; omega) (fun j e' => (hown.lt j e').1)

theorem grown_step {a b c : World} {row : Option Nat} (h : a.grownBy b row) (k : b.grownBy c row) : a.grownBy c row :=
  ⟨k.os.trans h.os, k.tape.trans h.tape, k.output.trans h.output, Nat.le_trans h.size k.size, fun i hi hne => (k.block i (Nat.lt_of_lt_of_le hi h.size) hne).trans (h.block i hi hne)⟩

theorem grown_refl (a : World) (row : Option Nat) : a.grownBy a row := ⟨rfl, rfl, rfl, Nat.le_refl _, fun _ _ _ => rfl⟩

end Go.Proofs.YtdpeanpmjhpblaaGreat

/- Slices of strings as the walks see them, and the laws' own helpers over such slices (equality, copy, size): contracts. A slice has at most the length that any slice has. -/
namespace Go.Proofs.YtdpeanpmjhpblaaGreat
open Go.RowKit

/-- Equality of two lists of strings, as a Bool. -/
def eqSs (a b : List ByteArray) : Bool := decide (a = b)

theorem eqSs_self (a : List ByteArray) : eqSs a a = true := by simp [eqSs]

/-- What a copying loop has written after k rounds. -/
def CopyRel (g : Nat) (ss : List ByteArray) (k : Nat) (wr : World) : Prop :=
  ∃ xs, wr.ownsRow g 9 1 (.slice (some ⟨g, 0, none⟩) ss.length ss.length) ss.length xs ∧ ∀ j, j < k → xs[j]? = some (.string (ss.getD j ByteArray.empty))

/-- What the size helper answers: below 0, or the slice has at most 'left' elements. -/
def SzRes (ss : List ByteArray) (e : Ending) : Prop := e = .returned (.int .i64 (-1)) ∨ ∃ r : Int, 0 ≤ r ∧ r ≤ 1048576 ∧ ss.length ≤ 1048576 ∧ (∀ j, j < ss.length → (ss.getD j ByteArray.empty).size ≤ 1048576) ∧ e = .returned (.int .i64 r)

end Go.Proofs.YtdpeanpmjhpblaaGreat

/- The laws' helpers that write marks into a slice of strings and look for them again: contracts, for slices of at most 1048577 elements. -/
namespace Go.Proofs.YtdpeanpmjhpblaaGreat
open Go.RowKit

/-- The strings that the marking loop writes. -/
def marks (n : Nat) : List ByteArray := (List.range n).map fun i => markB (1 + i)
theorem marks_len (n : Nat) : (marks n).length = n := by simp [marks]
theorem marks_get {n i : Nat} (h : i < n) : (marks n).getD i ByteArray.empty = markB (1 + i) := by simp [marks, h]

/-- j elements have their mark. -/
def MRel (base : Nat) (v : Value) (n j : Nat) (wr : World) : Prop := ∃ xs, wr.ownsRow base 9 1 v n xs ∧ ∀ q, q < j → xs[q]? = some (.string (markB (1 + q)))

def MarkEnd (base n : Nat) (v : Value) (w : World) (e : Ending) (w' : World) : Prop :=
  e = .returned (.int .i64 (1 + (n : Int))) ∧ w'.ownsRow base 9 1 v (marks n).length ((marks n).map Value.string) ∧ w.grownBy w' v.ownBlock

theorem MRel.full {base n : Nat} {v : Value} {wr : World} (h : MRel base v n n wr) : wr.ownsRow base 9 1 v (marks n).length ((marks n).map Value.string) := by
  obtain ⟨xs, hown, hx⟩ := h
  exact row_known hown (marks_len n).symm (fun j hj => by rw [hx j hj, marks_get hj])

theorem MRel.cell {base g n cap j : Nat} {wr : World} (h : MRel base (.slice (some ⟨g, 0, none⟩) n cap) n j wr) (hj : j < n) : ∃ u, wr.cell? ⟨g, j, none⟩ = some u := by
  obtain ⟨xs, hown, _⟩ := h
  have := hown.1
  exact ⟨xs[j]'(by omega), by rw [hown.cellAt j (by omega), List.getElem?_eq_getElem (by omega)]⟩
theorem MRel.free {base g n cap j : Nat} {wr : World} (h : MRel base (.slice (some ⟨g, 0, none⟩) n cap) n j wr) : wr.frozen? ⟨g, j, none⟩ = false := by
  obtain ⟨xs, hown, _⟩ := h
  exact hown.frozenAt j
theorem MRel.below {base g n cap j : Nat} {wr w1 : World} (h : MRel base (.slice (some ⟨g, 0, none⟩) n cap) n j wr) (hb : Below wr.heap.size wr w1) : MRel base (.slice (some ⟨g, 0, none⟩) n cap) n j w1 := by
  obtain ⟨xs, hown, hx⟩ := h
  exact ⟨xs, hown.kept (grown_of_below hb none) (.inr (by simp [Value.ownBlock])), hx⟩
theorem MRel.step {base g n cap j : Nat} {w1 : World} (h : MRel base (.slice (some ⟨g, 0, none⟩) n cap) n j w1) (hj : j < n) : MRel base (.slice (some ⟨g, 0, none⟩) n cap) n (j + 1) (w1.setCell ⟨g, j, none⟩ (.string (markB (1 + j)))) := by
  obtain ⟨xs, hown, hx⟩ := h
  have hl := hown.1
  refine ⟨_, (hown.stored j (.string (markB (1 + j)))).1, fun q hq => ?_⟩
  by_cases e : q = j
  · subst e; rw [List.getElem?_set_self (by omega)]
  · rw [List.getElem?_set_ne (by omega)]; exact hx q (by omega)
theorem MRel.grown {base g n cap j : Nat} {w w1 : World} {u : Value} (h : MRel base (.slice (some ⟨g, 0, none⟩) n cap) n j w1) (hg : w.grownBy w1 (some g)) : w.grownBy (w1.setCell ⟨g, j, none⟩ u) (some g) := by
  obtain ⟨xs, hown, _⟩ := h
  exact grown_step hg (hown.stored j u).2

def HeldEnd (n : Nat) (w : World) (e : Ending) (w' : World) : Prop := e = .returned (.int .i64 (1 + (n : Int))) ∧ Below w.heap.size w w'

end Go.Proofs.YtdpeanpmjhpblaaGreat

/- A slice of strings as an argument of a law: what the law's helpers do with it: contracts. -/
namespace Go.Proofs.YtdpeanpmjhpblaaGreat
open Go.RowKit
set_option linter.unusedVariables false

/-- A slice of strings of the law's own, in numbered blocks. -/
def OwnS (w : World) (lo hi : Nat) (v : Value) (ss : List ByteArray) : Prop :=
  w.ownsRow lo 9 1 v ss.length (ss.map Value.string) ∧ (∀ g, v.ownBlock = some g → lo ≤ g ∧ g < hi) ∧ hi ≤ w.heap.size
theorem OwnS.fresh {w w' : World} {v : Value} {ss : List ByteArray} (h : w'.ownsRow w.heap.size 9 1 v ss.length (ss.map Value.string)) : OwnS w' w.heap.size w'.heap.size v ss :=
  ⟨h, fun g hg => h.lt g hg, Nat.le_refl _⟩
theorem OwnS.freshAt {w w' : World} {v : Value} {ss : List ByteArray} (h : w'.ownsRow w.heap.size 9 1 v ss.length (ss.map Value.string)) {n : Nat} (e : w.heap.size = n) : OwnS w' n w'.heap.size v ss := e ▸ OwnS.fresh h
theorem OwnS.kept {w w' : World} {lo hi : Nat} {v : Value} {ss : List ByteArray} (h : OwnS w lo hi v ss) (hb : Below w.heap.size w w') : OwnS w' lo hi v ss := by
  refine ⟨h.1.kept (grown_of_below hb none) ?_, h.2.1, Nat.le_trans h.2.2 hb.size⟩
  cases v.ownBlock with
  | none => exact .inl rfl
  | some g => exact .inr (by simp)
theorem OwnS.read {w : World} {lo hi : Nat} {v : Value} {ss : List ByteArray} (h : OwnS w lo hi v ss) : StrsV w v ss := strsV_of_owns h.1
theorem OwnS.outside {a b : World} {lo hi lo' hi' : Nat} {v : Value} {ss : List ByteArray} (h : OwnS a lo hi v ss) (ho : Outside (Ivl lo' hi') a b) (hd : hi ≤ lo' ∨ hi' ≤ lo) : OwnS b lo hi v ss := by
  refine ⟨⟨h.1.1, ?_⟩, h.2.1, Nat.le_trans h.2.2 ho.size⟩
  rcases h.1.2 with h2 | ⟨g, cap, cur, h3, hbg, hgb, rest⟩
  · exact .inl h2
  · have hg := h.2.1 g (by rw [h3]; rfl)
    exact .inr ⟨g, cap, cur, h3, hbg, (ho.block g (Array.getElem?_eq_some_iff.1 hgb).1 (fun hk => by have h1 := hk.1; have h2 := hk.2; omega)).trans hgb, rest⟩

/-- What a size helper leaves of an allowance. -/
def SzSL (ss : List ByteArray) (e : Ending) : Prop := e = .returned (.int .i64 (-1)) ∨ ∃ r : Int, 0 ≤ r ∧ r ≤ 1048576 ∧ ss.length ≤ 1048576 ∧ e = .returned (.int .i64 r)

end Go.Proofs.YtdpeanpmjhpblaaGreat

/- The model's insertion of a string into an ascending list: a contract. -/
namespace Go.Proofs.YtdpeanpmjhpblaaGreat
open Go.RowKit
set_option linter.unusedVariables false

/-- A slice, not nil, that starts at its block's first cell and reads as these strings. -/
def LV (w : World) (v : Value) (ss : List ByteArray) : Prop :=
  ∃ b cp, v = .slice (some ⟨b, 0, none⟩) ss.length cp ∧ ss.length ≤ cp ∧ b < w.heap.size ∧ ∀ i, i < ss.length → w.cell? ⟨b, i, none⟩ = some (.string (ss.getD i ByteArray.empty))
theorem LV.kept {w w' : World} {v : Value} {ss : List ByteArray} (h : LV w v ss) (hb : Below w.heap.size w w') : LV w' v ss := by
  obtain ⟨b, cp, hv, hc, hl, hx⟩ := h
  exact ⟨b, cp, hv, hc, Nat.lt_of_lt_of_le hl hb.size, fun i hi => carry_cell (hx i hi) hb⟩
theorem LV.of_own {w : World} {base g cap : Nat} {ss : List ByteArray} (h : w.ownsRow base 9 1 (.slice (some ⟨g, 0, none⟩) ss.length cap) ss.length (ss.map Value.string)) : LV w (.slice (some ⟨g, 0, none⟩) ss.length cap) ss := by
  refine ⟨g, cap, rfl, owns_cap h _ _ _ rfl, ?_, fun i hi => ?_⟩
  · exact (h.lt g (by simp [Value.ownBlock])).2
  · rw [h.cellAt i (by omega), List.getElem?_map, List.getElem?_eq_getElem hi, List.getD_eq_getElem?_getD, List.getElem?_eq_getElem hi]
    rfl

theorem str_news {w W : World} {b k : Nat} {ss : List ByteArray} (hc : ∀ i, i < ss.length → w.cell? ⟨b, i, none⟩ = some (.string (ss.getD i ByteArray.empty))) (hB : Below w.heap.size w W) (n2 : List ByteArray) (hn : ∀ j x, n2[j]? = some x → ss[k + j]? = some x) :
    ∀ j u, (n2.map Value.string)[j]? = some u → W.cell? ((⟨b, k, none⟩ : Addr).add j) = some u := by
  intro j u hj
  rw [List.getElem?_map] at hj
  cases hx : n2[j]? with
  | none => rw [hx] at hj; cases hj
  | some x =>
    rw [hx] at hj
    cases hj
    have h := hn j x hx
    have hl := (List.getElem?_eq_some_iff.1 h).1
    have h2 := carry_cell (hc (k + j) hl) hB
    rw [List.getD_eq_getElem?_getD, h, Option.getD_some] at h2
    unfold Addr.add
    split
    · rename_i e
      subst e
      exact h2
    · exact h2

theorem one_strs (l : List ByteArray) : ∀ u ∈ l.map Value.string, u.oneCell' = true := fun u hu => by
  obtain ⟨x, _, rfl⟩ := List.mem_map.1 hu; rfl

theorem cc1 (w : World) (s : ByteArray) : ∀ (j : Nat) (u : Value), [Value.string s][j]? = some u → ((w.alloc (.cells #[] 9)).alloc (.cells #[.string s] 9)).cell? ((⟨w.heap.size + 1, 0, none⟩ : Addr).add j) = some u := fun j u hj => by
  have h := cell_one_new (w.alloc (.cells #[] 9)) (.string s) 9 j u hj
  have e : (w.alloc (.cells #[] 9)).heap.size = w.heap.size + 1 := by simp
  rw [e] at h
  exact h
theorem own_b (w : World) (s : ByteArray) : ((w.alloc (.cells #[.string s] 9)).alloc (.cells #[] 9)).ownsRow w.heap.size 9 1 (.slice (some ⟨w.heap.size + 1, 0, none⟩) 0 0) 0 [] := by
  have h := World.ownsRow_lit (base := w.heap.size) (size := 1) (e := 9) (w.alloc (.cells #[.string s] 9)) #[] 0 (by simp) (Nat.zero_le _) rfl
  have e : (w.alloc (.cells #[.string s] 9)).heap.size = w.heap.size + 1 := by simp
  rw [e] at h
  exact h
theorem add_block (p : Addr) (j : Nat) : (p.add j).block = p.block := by
  unfold Addr.add
  split <;> rfl
theorem c_after {w w7 : World} {s : ByteArray} (hg : ((w.alloc (.cells #[] 9)).alloc (.cells #[.string s] 9)).drew.grownBy w7 (some w.heap.size)) : ∀ (j : Nat) (u : Value), [Value.string s][j]? = some u → w7.cell? ((⟨w.heap.size + 1, 0, none⟩ : Addr).add j) = some u := fun j u hj =>
  hg.cell (carry_cell (cc1 w s j u hj) (Below.refl _ _).drew) (by rw [add_block]; simp)
theorem c_before {w w7 : World} {s : ByteArray} (hg : ((w.alloc (.cells #[.string s] 9)).alloc (.cells #[] 9)).drew.grownBy w7 (some (w.heap.size + 1))) : ∀ (j : Nat) (u : Value), [Value.string s][j]? = some u → w7.cell? ((⟨w.heap.size, 0, none⟩ : Addr).add j) = some u := fun j u hj =>
  hg.cell (carry_cell (cell_one_new w (.string s) 9 j u hj) ((Below.refl _ _).alloc (Nat.le_refl _) _).drew) (by rw [add_block]; simp)

theorem step_app {P : Program} (w : World) {ops : Array Oper} {o : Oper} {a : Act} {K : Act → World → Prop} {Q : Exit → Act → World → Prop} {E : Prop} (hgd : o.guard = none) (s x : Operand) (t : TypeId)
    (ho : o.op = .call { callee := .builtin .append, args := #[s, x], argTypes := #[t, t] })
    (base : Nat) (e : TypeId) (i : TypeInfo) (z : Value) (size bytes : Nat) (ht : P.underlying t = some (.slice e)) (hi : P.info? e = some i) (hz : i.zero = some z)
    (hsize : i.size = size) (hby : i.bytes = bytes) (hzs : z.cells.size = size) (hsz : 0 < size)
    (g0 cap0 : Nat) (n : Nat) (xs : List Value) (hs : a.eval s = .slice (some ⟨g0, 0, none⟩) n cap0) (hown : w.ownsRow base e size (.slice (some ⟨g0, 0, none⟩) n cap0) n xs)
    (ad : Addr) (m c : Nat) (news : List Value) (hx : a.eval x = .slice (some ad) m c) (hl : news.length = m * size) (hnews : ∀ j u, news[j]? = some u → w.cell? (ad.add j) = some u) (h1 : ∀ u ∈ news, u.oneCell' = true)
    (h63 : n + m ≤ maxLen) (hbytes : (n + m) * bytes ≤ 140737488355328) (hbase : base ≤ w.heap.size)
    (h : ∀ g cap w', w'.ownsRow base e size (.slice (some ⟨g, 0, none⟩) (n + m) cap) (n + m) (xs ++ news) → w.grownBy w' (some g0) → K (a.put o.dst (.slice (some ⟨g, 0, none⟩) (n + m) cap)) w') :
    if Region.wanted o (yielded ops a.tmps) = true then Oper.wp P o a w K Q else E := by
  have hw : Region.wanted o (yielded ops a.tmps) = true := by simp [Region.wanted, hgd]
  rw [if_pos hw]
  refine wp_append_own w s x t ho base e i z size bytes ht hi hz hsize hby hzs hsz _ n xs hs hown ad m c news hx hl hnews h1 h63 hbytes hbase fun v' w' h2 h3 h4 => ?_
  rcases id h2.2 with ⟨rfl, h0⟩ | ⟨g, cap, cur, rfl, _⟩
  · have := h4.1 rfl
    simp at this
  · exact h _ _ _ h2 h3

theorem take_at {ss : List ByteArray} (k : Nat) : ∀ j x, (ss.take k)[j]? = some x → ss[0 + j]? = some x := fun j x h => by
  rw [List.getElem?_take] at h
  rw [Nat.zero_add]
  split at h
  · exact h
  · cases h
theorem drop_at {ss : List ByteArray} (k : Nat) : ∀ j x, (ss.drop k)[j]? = some x → ss[k + j]? = some x := fun j x h => by
  rwa [List.getElem?_drop] at h

theorem cut_lo {b n cp k : Nat} (h : k ≤ n) (hc : n ≤ cp) (W : World) : (Instr.slice 59 (.slice (some ⟨b, 0, none⟩) n cp) none (some (.int .i64 (k : Int))) none).run Tryz.prog W = .ok (.slice (some ⟨b, 0, none⟩) k cp) W := by
  have h := run_slice_h (P := Tryz.prog) W 59 (some ⟨b, 0, none⟩) n cp (by kernel_rfl) .i64 (k : Int) (by omega) (by omega)
  rw [h]
  have e : (sizeOf (Tryz.prog.elem 59)).run Tryz.prog W = .ok 1 W := by kernel_rfl
  rw [e]
  simp [Result.andThen, sliced]
  intro _; rfl
theorem cut_hi {b n cp k : Nat} (h : k ≤ n) (hc : n ≤ cp) (W : World) : (Instr.slice 59 (.slice (some ⟨b, 0, none⟩) n cp) (some (.int .i64 (k : Int))) none none).run Tryz.prog W = .ok (.slice (some ⟨b, if cp = k then 0 else k, none⟩) (n - k) (cp - k)) W := by
  have h := run_slice_l (P := Tryz.prog) W 59 (some ⟨b, 0, none⟩) n cp (by kernel_rfl) .i64 (k : Int) (by omega) (by omega)
  rw [h]
  have e : (sizeOf (Tryz.prog.elem 59)).run Tryz.prog W = .ok 1 W := by kernel_rfl
  rw [e]
  simp only [Result.andThen, sliced, Int.toNat_natCast]
  split <;> simp [Addr.add]
  omega

theorem LV.of_own' {w : World} {base g cap n : Nat} {ss : List ByteArray} (hn : ss.length = n) (h : w.ownsRow base 9 1 (.slice (some ⟨g, 0, none⟩) n cap) n (ss.map Value.string)) : LV w (.slice (some ⟨g, 0, none⟩) n cap) ss := by
  subst hn; exact LV.of_own h

/-- The model's insertion. -/
def lessB (a b : ByteArray) : Bool := Op.bytesLess a.toList b.toList
def putS (s : ByteArray) : List ByteArray → List ByteArray
  | [] => [s]
  | q :: r => if lessB q s then q :: putS s r else if q.toList == s.toList then q :: r else s :: q :: r
theorem putS_skip (s : ByteArray) : ∀ (ss : List ByteArray) (k : Nat), k ≤ ss.length → (∀ j, j < k → lessB (ss.getD j ByteArray.empty) s = true) → putS s ss = ss.take k ++ putS s (ss.drop k)
  | ss, 0, _, _ => by simp
  | [], k + 1, h, _ => by simp at h
  | q :: r, k + 1, h, hj => by
    have h0 := hj 0 (by omega)
    simp at h0
    rw [putS, if_pos h0, putS_skip s r k (by simpa using h) (fun j hjk => by have := hj (j + 1) (by omega); simpa using this)]
    rfl
theorem putS_end {s : ByteArray} {ss : List ByteArray} {k : Nat} (hk : k ≤ ss.length) (hj : ∀ j, j < k → lessB (ss.getD j ByteArray.empty) s = true) (he : k = ss.length) : putS s ss = ss.take k ++ [s] ++ ss.drop k := by
  rw [putS_skip s ss k hk hj, List.drop_of_length_le (by omega)]
  simp [putS]
theorem putS_here {s : ByteArray} {ss : List ByteArray} {k : Nat} (hk : k < ss.length) (hj : ∀ j, j < k → lessB (ss.getD j ByteArray.empty) s = true) (h1 : lessB (ss.getD k ByteArray.empty) s = false) (h2 : ((ss.getD k ByteArray.empty).toList == s.toList) = false) : putS s ss = ss.take k ++ [s] ++ ss.drop k := by
  rw [putS_skip s ss k (by omega) hj]
  have e : ss.drop k = ss.getD k ByteArray.empty :: ss.drop (k + 1) := by rw [List.drop_eq_getElem_cons hk]; simp [hk]
  rw [e, putS, if_neg (by rw [h1]; simp), if_neg (by rw [h2]; simp)]
  simp
theorem putS_same {s : ByteArray} {ss : List ByteArray} {k : Nat} (hk : k < ss.length) (hj : ∀ j, j < k → lessB (ss.getD j ByteArray.empty) s = true) (h1 : lessB (ss.getD k ByteArray.empty) s = false) (h2 : ((ss.getD k ByteArray.empty).toList == s.toList) = true) : putS s ss = ss := by
  rw [putS_skip s ss k (by omega) hj]
  have e : ss.drop k = ss.getD k ByteArray.empty :: ss.drop (k + 1) := by rw [List.drop_eq_getElem_cons hk]; simp [hk]
  rw [e, putS, if_neg (by rw [h1]; simp), if_pos h2, ← e, List.take_append_drop]

set_option maxRecDepth 100000 in
set_option maxHeartbeats 4000000 in
theorem put_any (ss : List ByteArray) (v : Value) (s : ByteArray) (w : World) (hv : LV w v ss) (hn : ss.length ≤ 1048576) :
    Calls Tryz.prog 92 #[v, .string s] w fun e w' => ∃ v', e = .returned v' ∧ LV w' v' (putS s ss) ∧ Below w.heap.size w w' := by
  obtain ⟨i0, hi, hz0, hz1, hz2⟩ := info_parts infoStr
  have HV := Lib.hid hv
  obtain ⟨b, cp, rfl, hcp, hbw, hc⟩ := hv
  have HC := Lib.hid hc
  clear hc
  go_enter Tryz.func92, Tryz.ntmps92
  go_wp2
  go_loop [5] (fun i => ∃ k : Nat, k ≤ ss.length ∧ i = .int .i64 k ∧ ∀ j, j < k → lessB (ss.getD j ByteArray.empty) s = true) (fun i => ss.length - (intOf i).toNat)
  case atStart => exact ⟨0, Nat.zero_le _, rfl, fun j hj => absurd hj (Nat.not_lt_zero _)⟩
  case round =>
    obtain ⟨k, hk, rfl, hj⟩ := hrel
    have HJ := Lib.hid hj
    clear hj
    have T1 : Hid (∀ j x, (ss.take k)[j]? = some x → ss[0 + j]? = some x) := Lib.hid (take_at k)
    have T2 : Hid (∀ j x, (ss.drop k)[j]? = some x → ss[k + j]? = some x) := Lib.hid (drop_at k)
    have L1 : ((ss.take k).map Value.string).length = k * 1 := by simp; omega
    have L2 : ((ss.drop k).map Value.string).length = (ss.length - k) * 1 := by simp
    have HL1 := Lib.hid L1
    have HL2 := Lib.hid L2
    have hs1 := cut_lo (b := b) hk hcp
    have hs2 := cut_hi (b := b) hk hcp
    obtain ⟨o2, ho2⟩ : ∃ o2, o2 = if cp = k then 0 else k := ⟨_, rfl⟩
    rw [← ho2] at hs2
    have N2 : Hid (∀ W, Below w.heap.size w W → ∀ j u, ((ss.drop k).map Value.string)[j]? = some u → W.cell? ((⟨b, o2, none⟩ : Addr).add j) = some u) := Lib.hid (fun W hW => by
      by_cases e : cp = k
      · have : ss.drop k = [] := List.drop_of_length_le (by omega)
        intro j u hj
        rw [this] at hj; cases hj
      · rw [ho2, if_neg e]; exact str_news HC.out hW _ T2.out)
    obtain ⟨m2, hm2⟩ : ∃ m2, m2 = ss.length - k := ⟨_, rfl⟩
    rw [← hm2] at hs2 HL2
    have HM := Lib.hid hm2
    have hm2b : m2 ≤ 1048576 := by omega
    clear L1 L2 ho2 hm2
    by_cases hlt : k < ss.length
    · have hcr := HC.out k hlt
      obtain ⟨q, hq⟩ : ∃ q, q = ss.getD k ByteArray.empty := ⟨_, rfl⟩
      rw [← hq] at hcr
      have HQ := Lib.hid hq
      clear hq
      cases h1 : Op.bytesLess q.toList s.toList with
      | true =>
        have HN : Hid (∀ j, j < k + 1 → lessB (ss.getD j ByteArray.empty) s = true) := Lib.hid (fun j hj => by
          by_cases e : j = k
          · rw [e, ← HQ.out]; exact h1
          · exact HJ.out j (by omega))
        clear hs1 hs2
        go_wp2
        go_round
        case rel => exact ⟨k + 1, by omega, by go_num, HN.out⟩
        case measure => simp [intOf]; omega
      | false =>
        cases h2 : (q.toList == s.toList) with
        | true =>
          have HE : Hid (putS s ss = ss) := Lib.hid (putS_same hlt HJ.out (by rw [← HQ.out]; exact h1) (by rw [← HQ.out]; exact h2))
          clear hs1 hs2
          go_wp2
          go_ret
          exact ⟨_, rfl, by rw [HE.out]; exact HV.out, Below.refl _ _⟩
        | false =>
          have HPUT : Hid (putS s ss = ss.take k ++ [s] ++ ss.drop k) := Lib.hid (putS_here hlt HJ.out (by rw [← HQ.out]; exact h1) (by rw [← HQ.out]; exact h2))
          go_wp2_with fail
          go_region_law (first
            | (refine step_app _ (by rfl) (.tmp 33) (.tmp 36) _ (by rfl) w.heap.size 9 i0 _ 1 16 Tryz.underlying59 hi hz0 hz1 hz2 rfl (Nat.one_pos) _ 0 0 [] (by rfl) (by repeat (first | exact own_b _ _ | exact World.ownsRow_lit _ #[] 0 (by simp) (Nat.zero_le _) rfl | with_reducible refine World.ownsRow.alloc ?_ _ | with_reducible refine World.ownsRow.drew ?_)) ⟨b, 0, none⟩ k cp ((ss.take k).map Value.string) (by rfl) HL1.out (str_news HC.out (by repeat (first | with_reducible exact Below.refl _ _ | with_reducible refine Below.alloc ?_ (by first | omega | (simp; done) | (simp; omega)) _ | with_reducible refine Below.drew ?_)) _ T1.out) (one_strs _) (by unfold maxLen; omega) (by omega) (by first | omega | (simp; done) | (simp; omega)) ?_; intro g7 c7 w7 hown7 hgrow7; have HO7 : Hid (w7.ownsRow w.heap.size 9 1 (.slice (some ⟨g7, 0, none⟩) k c7) k ((ss.take k).map Value.string)) := Lib.hid (by simpa using hown7); have HB7 : Hid (Below w.heap.size w w7) := Lib.hid (Below.grown (by repeat (first | with_reducible exact Below.refl _ _ | with_reducible refine Below.alloc ?_ (by first | omega | (simp; done) | (simp; omega)) _ | with_reducible refine Below.drew ?_)) hgrow7 (by first | omega | (simp; done) | (simp; omega)) (by simp)); have hz7 := HB7.out.size; (first | (have HC7 := Lib.hid (c_after hgrow7); clear hown7 hgrow7) | (have HC7 := Lib.hid (c_before hgrow7); clear hown7 hgrow7) | (clear hown7 hgrow7)))
            | (refine step_app _ (by rfl) (.tmp 37) (.tmp 39) _ (by rfl) w.heap.size 9 i0 _ 1 16 Tryz.underlying59 hi hz0 hz1 hz2 rfl (Nat.one_pos) g7 c7 k ((ss.take k).map Value.string) (by rfl) (by repeat (first | with_reducible exact HO7.out | with_reducible refine World.ownsRow.alloc ?_ _ | with_reducible refine World.ownsRow.drew ?_)) _ 1 1 [.string s] (by rfl) rfl (by first | exact HC7.out | exact cell_one_new _ _ _) (one_strs [s]) (by unfold maxLen; omega) (by omega) (by first | omega | (simp; done) | (simp; omega)) ?_; intro g8 c8 w8 hown8 hgrow8; have HO8 := Lib.hid hown8; have HG8 := Lib.hid hgrow8; have HB8 : Hid (Below w.heap.size w w8) := Lib.hid (Below.grown (by repeat (first | with_reducible exact HB7.out | with_reducible exact Below.refl _ _ | with_reducible refine Below.alloc ?_ (by first | omega | (simp; done) | (simp; omega)) _ | with_reducible refine Below.drew ?_)) hgrow8 (by first | omega | (simp; done) | (simp; omega)) (fun g hg => by cases hg; exact (HO7.out.lt g7 (by simp [Value.ownBlock])).1)); have hz8 := HB8.out.size; clear hown8 hgrow8)
            | (refine step_app _ (by rfl) (.tmp 40) (.tmp 43) _ (by rfl) w.heap.size 9 i0 _ 1 16 Tryz.underlying59 hi hz0 hz1 hz2 rfl (Nat.one_pos) g8 c8 (k + 1) ((ss.take k).map Value.string ++ [.string s]) (by rfl) (by repeat (first | with_reducible exact HO8.out | with_reducible refine World.ownsRow.alloc ?_ _ | with_reducible refine World.ownsRow.drew ?_)) ⟨b, o2, none⟩ m2 (cp - k) ((ss.drop k).map Value.string) (by rfl) HL2.out (N2.out _ (by repeat (first | with_reducible exact HB8.out | with_reducible exact Below.refl _ _ | with_reducible refine Below.alloc ?_ (by first | omega | (simp; done) | (simp; omega)) _ | with_reducible refine Below.drew ?_))) (one_strs _) (by unfold maxLen; omega) (by omega) (by first | omega | (simp; done) | (simp; omega)) ?_; intro g9 c9 w9 hown9 hgrow9; have HO9 := Lib.hid hown9; have HB9 : Hid (Below w.heap.size w w9) := Lib.hid (Below.grown (by repeat (first | with_reducible exact HB8.out | with_reducible exact Below.refl _ _ | with_reducible refine Below.alloc ?_ (by first | omega | (simp; done) | (simp; omega)) _ | with_reducible refine Below.drew ?_)) hgrow9 (by first | omega | (simp; done) | (simp; omega)) (fun g hg => by cases hg; exact (HO8.out.lt g8 (by simp [Value.ownBlock])).1)); clear hown9 hgrow9)
            | fail)
          all_goals
            have HE : Hid (LV w9 (.slice (some ⟨g9, 0, none⟩) (k + 1 + m2) c9) (putS s ss)) := Lib.hid (by
              refine LV.of_own' (base := w.heap.size) (by rw [HPUT.out]; simp; have := HM.out; omega) ?_
              have h := HO9.out
              rw [HPUT.out, List.map_append, List.map_append]
              exact h)
            have HZ := Lib.hid HB9.out
            clear hs1 hs2
            go_wp2
            go_ret
            exact ⟨_, rfl, HE.out, HZ.out⟩
    · have HPUT : Hid (putS s ss = ss.take k ++ [s] ++ ss.drop k) := Lib.hid (putS_end hk HJ.out (by omega))
      go_wp2_with fail
      go_region_law (first
        | (refine step_app _ (by rfl) (.tmp 33) (.tmp 36) _ (by rfl) w.heap.size 9 i0 _ 1 16 Tryz.underlying59 hi hz0 hz1 hz2 rfl (Nat.one_pos) _ 0 0 [] (by rfl) (by repeat (first | exact own_b _ _ | exact World.ownsRow_lit _ #[] 0 (by simp) (Nat.zero_le _) rfl | with_reducible refine World.ownsRow.alloc ?_ _ | with_reducible refine World.ownsRow.drew ?_)) ⟨b, 0, none⟩ k cp ((ss.take k).map Value.string) (by rfl) HL1.out (str_news HC.out (by repeat (first | with_reducible exact Below.refl _ _ | with_reducible refine Below.alloc ?_ (by first | omega | (simp; done) | (simp; omega)) _ | with_reducible refine Below.drew ?_)) _ T1.out) (one_strs _) (by unfold maxLen; omega) (by omega) (by first | omega | (simp; done) | (simp; omega)) ?_; intro g7 c7 w7 hown7 hgrow7; have HO7 : Hid (w7.ownsRow w.heap.size 9 1 (.slice (some ⟨g7, 0, none⟩) k c7) k ((ss.take k).map Value.string)) := Lib.hid (by simpa using hown7); have HB7 : Hid (Below w.heap.size w w7) := Lib.hid (Below.grown (by repeat (first | with_reducible exact Below.refl _ _ | with_reducible refine Below.alloc ?_ (by first | omega | (simp; done) | (simp; omega)) _ | with_reducible refine Below.drew ?_)) hgrow7 (by first | omega | (simp; done) | (simp; omega)) (by simp)); have hz7 := HB7.out.size; (first | (have HC7 := Lib.hid (c_after hgrow7); clear hown7 hgrow7) | (have HC7 := Lib.hid (c_before hgrow7); clear hown7 hgrow7) | (clear hown7 hgrow7)))
        | (refine step_app _ (by rfl) (.tmp 37) (.tmp 39) _ (by rfl) w.heap.size 9 i0 _ 1 16 Tryz.underlying59 hi hz0 hz1 hz2 rfl (Nat.one_pos) g7 c7 k ((ss.take k).map Value.string) (by rfl) (by repeat (first | with_reducible exact HO7.out | with_reducible refine World.ownsRow.alloc ?_ _ | with_reducible refine World.ownsRow.drew ?_)) _ 1 1 [.string s] (by rfl) rfl (by first | exact HC7.out | exact cell_one_new _ _ _) (one_strs [s]) (by unfold maxLen; omega) (by omega) (by first | omega | (simp; done) | (simp; omega)) ?_; intro g8 c8 w8 hown8 hgrow8; have HO8 := Lib.hid hown8; have HG8 := Lib.hid hgrow8; have HB8 : Hid (Below w.heap.size w w8) := Lib.hid (Below.grown (by repeat (first | with_reducible exact HB7.out | with_reducible exact Below.refl _ _ | with_reducible refine Below.alloc ?_ (by first | omega | (simp; done) | (simp; omega)) _ | with_reducible refine Below.drew ?_)) hgrow8 (by first | omega | (simp; done) | (simp; omega)) (fun g hg => by cases hg; exact (HO7.out.lt g7 (by simp [Value.ownBlock])).1)); have hz8 := HB8.out.size; clear hown8 hgrow8)
        | (refine step_app _ (by rfl) (.tmp 40) (.tmp 43) _ (by rfl) w.heap.size 9 i0 _ 1 16 Tryz.underlying59 hi hz0 hz1 hz2 rfl (Nat.one_pos) g8 c8 (k + 1) ((ss.take k).map Value.string ++ [.string s]) (by rfl) (by repeat (first | with_reducible exact HO8.out | with_reducible refine World.ownsRow.alloc ?_ _ | with_reducible refine World.ownsRow.drew ?_)) ⟨b, o2, none⟩ m2 (cp - k) ((ss.drop k).map Value.string) (by rfl) HL2.out (N2.out _ (by repeat (first | with_reducible exact HB8.out | with_reducible exact Below.refl _ _ | with_reducible refine Below.alloc ?_ (by first | omega | (simp; done) | (simp; omega)) _ | with_reducible refine Below.drew ?_))) (one_strs _) (by unfold maxLen; omega) (by omega) (by first | omega | (simp; done) | (simp; omega)) ?_; intro g9 c9 w9 hown9 hgrow9; have HO9 := Lib.hid hown9; have HB9 : Hid (Below w.heap.size w w9) := Lib.hid (Below.grown (by repeat (first | with_reducible exact HB8.out | with_reducible exact Below.refl _ _ | with_reducible refine Below.alloc ?_ (by first | omega | (simp; done) | (simp; omega)) _ | with_reducible refine Below.drew ?_)) hgrow9 (by first | omega | (simp; done) | (simp; omega)) (fun g hg => by cases hg; exact (HO8.out.lt g8 (by simp [Value.ownBlock])).1)); clear hown9 hgrow9)
        | fail)
      all_goals
        have HE : Hid (LV w9 (.slice (some ⟨g9, 0, none⟩) (k + 1 + m2) c9) (putS s ss)) := Lib.hid (by
          refine LV.of_own' (base := w.heap.size) (by rw [HPUT.out]; simp; have := HM.out; omega) ?_
          have h := HO9.out
          rw [HPUT.out, List.map_append, List.map_append]
          exact h)
        have HZ := Lib.hid HB9.out
        clear hs1 hs2
        go_wp2
        go_ret
        exact ⟨_, rfl, HE.out, HZ.out⟩

end Go.Proofs.YtdpeanpmjhpblaaGreat

/- The model's list of a term's variables: a contract. -/
namespace Go.Proofs.YtdpeanpmjhpblaaGreat
open Go.RowKit
set_option linter.unusedVariables false

mutual
def Tm.into : Tm → List ByteArray → List ByteArray
  | .node n a, l => if varB n then putS n l else Tm.intoL a l
def Tm.intoL : List Tm → List ByteArray → List ByteArray
  | [], l => l
  | t :: r, l => Tm.intoL r (Tm.into t l)
end

theorem Tm.into_eq (t : Tm) (l : List ByteArray) : t.into l = if varB t.name then putS t.name l else Tm.intoL t.args l := by
  cases t with
  | node n a => rw [Tm.into]; rfl
theorem Tm.intoL_append : ∀ (a b : List Tm) (l : List ByteArray), Tm.intoL (a ++ b) l = Tm.intoL b (Tm.intoL a l)
  | [], b, l => by simp [Tm.intoL]
  | t :: r, b, l => by simp [Tm.intoL, Tm.intoL_append r b]
theorem Tm.intoL_next {a : List Tm} {k : Nat} {t : Tm} (h : a[k]? = some t) (l : List ByteArray) : Tm.intoL (a.take (k + 1)) l = t.into (Tm.intoL (a.take k) l) := by
  rw [take_next h, Tm.intoL_append]; simp [Tm.intoL]
theorem putS_len (s : ByteArray) : ∀ l : List ByteArray, (putS s l).length ≤ l.length + 1
  | [] => by simp [putS]
  | q :: r => by
    unfold putS
    split
    · have := putS_len s r; simp; omega
    · split <;> simp
theorem Tm.into_len : ∀ t : Tm, ∀ l, (t.into l).length ≤ l.length + t.sz := Tm.ind fun t ih => by
  have h : ∀ (a : List Tm), (∀ s ∈ a, ∀ l, (s.into l).length ≤ l.length + s.sz) → ∀ l, (Tm.intoL a l).length ≤ l.length + sumL Tm.sz a := by
    intro a
    induction a with
    | nil => intro _ l; simp [Tm.intoL, sumL]
    | cons t r ih2 =>
      intro hh l
      have h1 := hh t List.mem_cons_self l
      have h2 := ih2 (fun s hs => hh s (List.mem_cons_of_mem _ hs)) (t.into l)
      have e : sumL Tm.sz (t :: r) = t.sz + sumL Tm.sz r := by simp [sumL]
      rw [Tm.intoL, e]; omega
  intro l
  rw [Tm.into_eq]
  have e := t.sz_eq
  split
  · have := putS_len t.name l; omega
  · have := h t.args ih l; omega
theorem Tm.intoL_len (a : List Tm) (k : Nat) (l : List ByteArray) : (Tm.intoL (a.take k) l).length ≤ l.length + sumL Tm.sz (a.take k) := by
  generalize a.take k = b
  induction b generalizing l with
  | nil => simp [Tm.intoL, sumL]
  | cons t r ih =>
    have h1 := t.into_len l
    have h2 := ih (t.into l)
    have e : sumL Tm.sz (t :: r) = t.sz + sumL Tm.sz r := by simp [sumL]
    rw [Tm.intoL, e]; omega

def IntoEnd (t : Tm) (l : List ByteArray) (w : World) (e : Ending) (w' : World) : Prop := ∃ v', e = .returned v' ∧ LV w' v' (t.into l) ∧ Below w.heap.size w w'

def IntoT (t : Tm) : Prop := ∀ (w : World) (va vl : Value) (l : List ByteArray), TmS w va t.args → LV w vl l → t.wt ≤ 1048576 → l.length + t.sz ≤ 1048576 →
  Calls Tryz.prog 116 #[vl, .agg #[.string t.name, va]] w (IntoEnd t l w)

set_option maxRecDepth 100000 in
set_option maxHeartbeats 2000000 in
theorem into_of (t : Tm) (h : ∀ s ∈ t.args, IntoT s) : IntoT t := by
  intro w va vl l hv hl hw hn
  have H := Lib.hid h
  have HL := Lib.hid (fun (s : Tm) (hs : s ∈ t.args) => Nat.le_trans (Tm.wt_arg hs) hw)
  have hlen := Tm.wt_len t
  obtain ⟨a, c, rfl⟩ := hv.is_slice
  have HV := Lib.hid hv
  have H2 := Lib.hid (two_new w (.string t.name) (.slice a t.args.length c) 31 _ rfl)
  have HLV := Lib.hid (hl.kept ((Below.refl w.heap.size w).alloc (Nat.le_refl _) (.cells #[.string t.name, .slice a t.args.length c] 31)))
  have CV := Lib.hid (fun W => l2Var_any t.name W (by have := t.wt_name; unfold maxLen; omega))
  obtain ⟨vb, cb, rfl, _⟩ := id hl
  have hsz := t.sz_eq
  have HSZ := Lib.hid hsz
  clear h hv hl hsz
  cases hb : varB t.name with
  | true =>
    have HE : Hid (t.into l = putS t.name l) := Lib.hid (by rw [Tm.into_eq, if_pos hb])
    rw [hb] at CV
    clear hb
    go_enter Tryz.func116, Tryz.ntmps116
    obtain ⟨b0, b1, b2⟩ := H2.out
    go_wp2_with (go_at_call 89; refine (CV.out _).mono ?_; rintro e w' ⟨rfl, rfl⟩)
    refine (put_any l _ t.name _ HLV.out (by omega)).mono ?_
    rintro e w2 ⟨v2, rfl, hv2, hb2⟩
    have HR : Hid (IntoEnd t l w (.returned v2) w2) := Lib.hid ⟨_, rfl, by rw [HE.out]; exact hv2, carry_below ((Below.refl _ _).alloc (Nat.le_refl _) _) (by simp) hb2⟩
    obtain ⟨b3, c3, rfl, _⟩ := hv2
    go_wp2
    go_ret
    exact HR.out
  | false =>
    have HE : Hid (t.into l = Tm.intoL t.args l) := Lib.hid (by rw [Tm.into_eq, hb]; rfl)
    rw [hb] at CV
    clear hb
    go_enter Tryz.func116, Tryz.ntmps116
    obtain ⟨b0, b1, b2⟩ := H2.out
    go_wp2_with (go_at_call 89; refine (CV.out _).mono ?_; rintro e w' ⟨rfl, rfl⟩)
    go_loopw [0, 5] (fun z i wr => ∃ k : Nat, k ≤ t.args.length ∧ i = .int .i64 k ∧ LV wr z (Tm.intoL (t.args.take k) l) ∧ Two wr w.heap.size (.string t.name) (.slice a t.args.length c) ∧ Below w.heap.size w wr) (fun _ i _ => t.args.length - (intOf i).toNat)
    case atStart => exact ⟨0, Nat.zero_le _, rfl, by simpa [Tm.intoL] using HLV.out, H2.out, (Below.refl _ _).alloc (Nat.le_refl _) _⟩
    case round =>
      obtain ⟨k, hk, rfl, hlv, htwo, hbel⟩ := hrel
      have HLW := Lib.hid hlv
      have HB := Lib.hid hbel
      have H2W := Lib.hid htwo
      obtain ⟨d0, d1, d2⟩ := htwo
      obtain ⟨vb2, cb2, rfl, _⟩ := hlv
      clear hbel b0 b1 b2
      by_cases hlt : k < t.args.length
      · obtain ⟨s, hs⟩ : ∃ s, t.args[k]? = some s := ⟨_, List.getElem?_eq_getElem hlt⟩
        obtain ⟨b, off, rfl, va, c0, c1, hva⟩ := HV.out.get hs
        have c0' := carry_cell c0 HB.out
        have c1' := carry_cell c1 HB.out
        have HVA := Lib.hid (hva.kept HB.out)
        have HS := Lib.hid hs
        clear hs c0 c1 hva
        have hroom : (Tm.intoL (t.args.take k) l).length + s.sz ≤ 1048576 := by
          have h1 := Tm.intoL_len t.args k l
          have h2 := sumL_next (f := Tm.sz) HS.out
          have h3 := sumL_take Tm.sz t.args (k + 1)
          have := HSZ.out
          omega
        go_wp2_with fail
        refine (H.out s (mem_of_at HS.out) _ va _ _ HVA.out HLW.out (HL.out s (mem_of_at HS.out)) hroom).mono ?_
        rintro e w' ⟨v', rfl, hv', hb⟩
        have HB2 := Lib.hid (carry_below HB.out (Nat.le_refl _) hb)
        have H2W2 := Lib.hid (H2W.out.kept hb)
        obtain ⟨e0, e1, e2⟩ := H2W.out.kept hb
        have HLV2 : Hid (LV w' v' (Tm.intoL (t.args.take (k + 1)) l)) := Lib.hid (by rw [Tm.intoL_next HS.out]; exact hv')
        obtain ⟨vb3, cb3, rfl, _⟩ := hv'
        clear hb hroom
        go_wp2
        go_roundw
        case rel => exact ⟨k + 1, by omega, by go_num, HLV2.out, H2W2.out, HB2.out⟩
        case measure => simp [intOf]; omega
      · have hke : k = t.args.length := by omega
        have HR : Hid (IntoEnd t l w (.returned (.slice (some ⟨vb2, 0, none⟩) (Tm.intoL (t.args.take k) l).length cb2)) wr) := Lib.hid ⟨_, rfl, by rw [HE.out]; have h := HLW.out; rw [hke, List.take_length] at h ⊢; exact h, HB.out⟩
        go_wp2
        go_ret
        exact HR.out

end Go.Proofs.YtdpeanpmjhpblaaGreat

/- The model's TermVariables: a contract. -/
namespace Go.Proofs.YtdpeanpmjhpblaaGreat
open Go.RowKit
set_option linter.unusedVariables false

theorem into_any (t : Tm) : IntoT t := Tm.ind (P := IntoT) (fun t ih => into_of t ih) t

theorem lv_nil (w : World) : LV (w.alloc (.cells #[] 9)) (.slice (some ⟨w.heap.size, 0, none⟩) 0 0) [] :=
  ⟨w.heap.size, 0, rfl, Nat.le_refl _, by simp, fun i hi => by simp at hi⟩

theorem vars_any (t : Tm) (w : World) (va : Value) (hv : TmS w va t.args) (hw : t.wt ≤ 1048576) (hz : t.sz ≤ 1048576) :
    Calls Tryz.prog 90 #[.agg #[.string t.name, va]] w (IntoEnd t [] w) := by
  obtain ⟨a, c, rfl⟩ := hv.is_slice
  have hB1 := (Below.refl w.heap.size w).alloc (Nat.le_refl _) (.cells #[.string t.name, .slice a t.args.length c] 31)
  have hB2 := hB1.alloc hB1.size (.cells #[] 9)
  have HB2 := Lib.hid hB2
  have HV := Lib.hid (hv.kept hB2)
  have HL := Lib.hid (lv_nil (w.alloc (.cells #[.string t.name, .slice a t.args.length c] 31)))
  have h2 := two_new w (.string t.name) (.slice a t.args.length c) 31 _ rfl
  have HC := Lib.hid (into_any t _ _ _ _ HV.out HL.out hw (by simpa using hz))
  have e : (w.alloc (.cells #[.string t.name, .slice a t.args.length c] 31)).heap.size = w.heap.size + 1 := by simp
  rw [e] at HC
  obtain ⟨b0, b1, b2⟩ := h2.alloc (.cells #[] 9)
  clear hB1 hB2 hv h2 e
  go_enter Tryz.func90, Tryz.ntmps90
  go_wp2_with fail
  refine HC.out.mono ?_
  rintro e w2 ⟨v2, rfl, hv2, hb2⟩
  have HR : Hid (IntoEnd t [] w (.returned v2) w2) := Lib.hid ⟨_, rfl, hv2, carry_below HB2.out (Nat.le_refl _) hb2⟩
  obtain ⟨b3, c3, rfl, _⟩ := hv2
  go_wp2
  go_ret
  exact HR.out

def varsL (t : Tm) : List ByteArray := if anyB t then t.into [] else []
def SVEnd (t : Tm) (w : World) (e : Ending) (w' : World) : Prop := ∃ v, e = .returned (.tuple #[v, .bool (anyB t)]) ∧ LV w' v (varsL t) ∧ Below w.heap.size w w'

end Go.Proofs.YtdpeanpmjhpblaaGreat

/- TermVariables, the program's: a contract, for terms of at most 1048576 names' bytes and arguments. -/
namespace Go.Proofs.YtdpeanpmjhpblaaGreat
open Go.RowKit Go.Shelf
set_option linter.unusedVariables false

attribute [local go_sem] Oper.semAt_some

/-- The names of the variables among the nodes. -/
def vn (l : List Tm) : List ByteArray := (l.filter fun s => varB s.name).map Tm.name
theorem vn_yes (l : List Tm) {s : Tm} (h : varB s.name = true) : vn (l ++ [s]) = vn l ++ [s.name] := by simp [vn, List.filter_append, h]
theorem vn_no (l : List Tm) {s : Tm} (h : varB s.name = false) : vn (l ++ [s]) = vn l := by simp [vn, List.filter_append, h]
theorem vn_len (l : List Tm) : (vn l).length ≤ l.length := by simp [vn]; exact List.length_filter_le _ _

def rawL (l : List ByteArray) : List (List UInt8) := l.map (·.data.toList)
def sortL (l : List ByteArray) : List (List UInt8) := (rawL l).mergeSort fun x y => decide (x ≤ y)
def outL (l : List ByteArray) : List (List UInt8) := Lib.compact (sortL l)
def bsL (l : List (List UInt8)) : List ByteArray := l.map fun x => ⟨x.toArray⟩
def ivL (t : Tm) : List ByteArray := if anyB t then bsL (outL (vn t.nds)) else []

def IVEnd (t : Tm) (w : World) (e : Ending) (w' : World) : Prop :=
  ∃ g cap, e = .returned (.tuple #[.slice (some ⟨g, 0, none⟩) (ivL t).length cap, .bool (anyB t)]) ∧ w'.ownsRow w.heap.size 9 1 (.slice (some ⟨g, 0, none⟩) (ivL t).length cap) (ivL t).length ((ivL t).map Value.string) ∧ Below w.heap.size w w'

theorem keepTm_app {W w1 : World} {base n : Nat} {v v' : Value} {xs : List Value} {o : Obj} {B : Nat} (hrow : W.ownsRow base 9 1 v n xs) (hg : (W.alloc o).grownBy w1 v.ownBlock) (hb : Boxed w1 B 59 v) : KeepTm W (w1.setCell ⟨B, 0, none⟩ v') := by
  refine (((KeepTm.refl W).alloc o).trans (KeepTm.grown hg fun r e a fz hr => ?_)).trans (KeepTm.grown (grownBy_setCell' w1 B _) fun r e a fz hr => ?_)
  · rcases (hrow.alloc o).2 with ⟨rfl, _⟩ | ⟨g, cap, cur, rfl, _, hgb, _⟩
    · simp [Value.ownBlock] at e
    · obtain rfl : g = r := by simpa [Value.ownBlock] using e
      rw [hgb] at hr
      cases hr
  · cases e
    rw [show w1.heap[B]? = _ from hb] at hr
    cases hr

theorem word_big (s : ByteArray) (w : World) (h1 : 4 < s.size) :
    Calls Tryz.prog 95 #[.string s, .int .i64 4] w fun e w' => e = .returned (.bool false) ∧ w = w' := by
  go_enter Tryz.func95, Tryz.ntmps95
  go_wp2
  go_ret
  exact ⟨rfl, rfl⟩
theorem isVar_all (s : ByteArray) (w : World) :
    Calls Tryz.prog 75 #[.string s] w fun e w' => e = .returned (.bool (varB s)) ∧ w = w' := by
  by_cases h : 4 < s.size
  · have C := Lib.hid (word_big s w h)
    have H : Hid (varB s = false) := Lib.hid (varB_short (by omega))
    clear h
    go_enter Tryz.func75, Tryz.ntmps75
    go_wp2_with fail
    refine C.out.mono ?_
    rintro e w' ⟨rfl, rfl⟩
    go_wp2
    go_ret
    exact ⟨ret_bool H.out.symm, rfl⟩
  · exact isVar_any s w (by unfold maxLen; omega)

open Go.Sort in
theorem enc_raw (l : List ByteArray) : l.map Value.string = (rawL l).map encStr := by simp [rawL, encStr]
theorem owns_shrink {W : World} {base g n m cap : Nat} {e : TypeId} {xs : List Value} (h : W.ownsRow base e 1 (.slice (some ⟨g, 0, none⟩) n cap) n xs) (hm : m ≤ n) : W.ownsRow base e 1 (.slice (some ⟨g, 0, none⟩) m cap) m (xs.take m) := by
  have hl := h.1
  refine ⟨by rw [List.length_take]; omega, ?_⟩
  rcases h.2 with ⟨h0, _⟩ | ⟨g', cap', cur, h0, hbg, hgb, hnc, hcm, hcs, ht⟩
  · cases h0
  · cases h0
    refine .inr ⟨_, _, cur, rfl, hbg, hgb, by omega, hcm, hcs, ?_⟩
    rw [← ht, List.take_take]
    congr 1
    omega

end Go.Proofs.YtdpeanpmjhpblaaGreat

/- The two lists of a term's variables are one: plain facts on ascending lists. No condition. -/
namespace Go.Proofs.YtdpeanpmjhpblaaGreat
open Go.RowKit
set_option linter.unusedVariables false

theorem vn_cons (t : Tm) (l : List Tm) : vn (t :: l) = if varB t.name then t.name :: vn l else vn l := by
  unfold vn
  rw [List.filter_cons]
  split <;> simp
theorem vn_append (a b : List Tm) : vn (a ++ b) = vn a ++ vn b := by simp [vn]

def putAll (n : List ByteArray) (l : List ByteArray) : List ByteArray := n.foldl (fun l s => putS s l) l
theorem putAll_append (a b l : List ByteArray) : putAll (a ++ b) l = putAll b (putAll a l) := by simp [putAll]

theorem into_fold : ∀ t : Tm, (∀ s ∈ t.nds, varB s.name = true → s.args = []) → ∀ l, t.into l = putAll (vn t.nds) l := Tm.ind fun t ih => by
  intro h l
  rw [Tm.into_eq, t.nds_eq, vn_cons]
  cases hv : varB t.name with
  | true =>
    have he := h t (by rw [t.nds_eq]; exact List.mem_cons_self) hv
    rw [he]
    simp [Tm.ndsL, vn, putAll]
  | false =>
    have hh : ∀ s ∈ Tm.ndsL t.args, varB s.name = true → s.args = [] := fun s hs => h s (by rw [t.nds_eq]; exact List.mem_cons_of_mem _ hs)
    clear h
    have key : ∀ (a : List Tm), (∀ x ∈ a, (∀ s ∈ x.nds, varB s.name = true → s.args = []) → ∀ l, x.into l = putAll (vn x.nds) l) → (∀ s ∈ Tm.ndsL a, varB s.name = true → s.args = []) → ∀ l, Tm.intoL a l = putAll (vn (Tm.ndsL a)) l := by
      intro a
      induction a with
      | nil => intro _ _ l; simp [Tm.intoL, Tm.ndsL, vn, putAll]
      | cons x r ih2 =>
        intro h1 h2 l
        rw [Tm.intoL, Tm.ndsL, vn_append, putAll_append]
        rw [h1 x List.mem_cons_self (fun s hs => h2 s (by rw [Tm.ndsL]; exact List.mem_append_left _ hs)) l]
        exact ih2 (fun y hy => h1 y (List.mem_cons_of_mem _ hy)) (fun s hs => h2 s (by rw [Tm.ndsL]; exact List.mem_append_right _ hs)) _
    exact key t.args ih hh l

theorem ndsL_mem {s : Tm} : ∀ {a : List Tm}, s ∈ Tm.ndsL a → ∃ x ∈ a, s ∈ x.nds
  | x :: r, h => by
    rw [Tm.ndsL] at h
    rcases List.mem_append.1 h with h | h
    · exact ⟨x, List.mem_cons_self, h⟩
    · obtain ⟨y, hy, hs⟩ := ndsL_mem h
      exact ⟨y, List.mem_cons_of_mem _ hy, hs⟩
theorem nodes_leaf : ∀ t : Tm, t.nodesB = true → ∀ s ∈ t.nds, varB s.name = true → s.args = [] := Tm.ind fun t ih => by
  intro h s hs hv
  rw [t.nds_eq] at hs
  rcases List.mem_cons.1 hs with rfl | hs
  · rw [Tm.nodesB_var hv] at h
    exact List.isEmpty_iff.1 h
  · obtain ⟨x, hx, hsx⟩ := ndsL_mem hs
    exact ih x hx (nodes_args h x hx) s hsx hv
theorem any_leaf {t : Tm} (h : anyB t = true) : ∀ s ∈ t.nds, varB s.name = true → s.args = [] := by
  unfold anyB at h
  rcases Bool.or_eq_true _ _ ▸ h with h | h
  · unfold goodB at h
    simp only [Bool.and_eq_true] at h
    exact nodes_leaf t h.2
  · unfold atomB at h
    split at h
    · rename_i he
      simp only [Bool.and_eq_true, List.all_eq_true] at h
      intro s hs hv
      rw [t.nds_eq] at hs
      rcases List.mem_cons.1 hs with rfl | hs
      · rw [eq_name he, var_eq] at hv; cases hv
      · obtain ⟨x, hx, hsx⟩ := ndsL_mem hs
        exact nodes_leaf x (h.2.2 x hx) s hsx hv
    · unfold goodB at h
      simp only [Bool.and_eq_true] at h
      exact nodes_leaf t h.2.2

/-! ### Ascending lists -/
abbrev B8 := List UInt8
theorem asc_unique : ∀ a b : List B8, a.Pairwise (· < ·) → b.Pairwise (· < ·) → (∀ x, x ∈ a ↔ x ∈ b) → a = b
  | [], [], _, _, _ => rfl
  | [], y :: b, _, _, h => by have := (h y).2 List.mem_cons_self; cases this
  | x :: a, [], _, _, h => by have := (h x).1 List.mem_cons_self; cases this
  | x :: a, y :: b, ha, hb, h => by
    obtain ⟨ha1, ha2⟩ := List.pairwise_cons.1 ha
    obtain ⟨hb1, hb2⟩ := List.pairwise_cons.1 hb
    have e : x = y := by
      rcases List.mem_cons.1 ((h x).1 List.mem_cons_self) with e | h1
      · exact e
      · rcases List.mem_cons.1 ((h y).2 List.mem_cons_self) with e | h2
        · exact e.symm
        · exact absurd (hb1 x h1) (List.lt_asymm (ha1 y h2))
    subst e
    rw [asc_unique a b ha2 hb2 fun z => ⟨fun hz => ?_, fun hz => ?_⟩]
    · rcases List.mem_cons.1 ((h z).1 (List.mem_cons_of_mem _ hz)) with e | h1
      · subst e; exact absurd (ha1 z hz) (List.lt_irrefl _)
      · exact h1
    · rcases List.mem_cons.1 ((h z).2 (List.mem_cons_of_mem _ hz)) with e | h1
      · subst e; exact absurd (hb1 z hz) (List.lt_irrefl _)
      · exact h1

theorem lessB_iff {a b : ByteArray} : lessB a b = true ↔ a.data.toList < b.data.toList := by
  unfold lessB
  rw [ByteArray.toList_eq, ByteArray.toList_eq, bytesLess_eq, decide_eq_true_iff]
theorem put_mem (s : ByteArray) : ∀ (l : List ByteArray) (x : ByteArray), x ∈ putS s l ↔ x = s ∨ x ∈ l
  | [], x => by simp [putS]
  | q :: r, x => by
    unfold putS
    split
    · simp only [List.mem_cons, put_mem s r x]
      constructor
      · rintro (h | h | h) <;> simp [h]
      · rintro (h | h | h) <;> simp [h]
    · split
      · rename_i h
        have e : q = s := by rw [beq_iff_eq] at h; exact toList_inj h
        subst e
        simp
      · simp
theorem put_asc (s : ByteArray) : ∀ l : List ByteArray, (rawL l).Pairwise (· < ·) → (rawL (putS s l)).Pairwise (· < ·)
  | [], _ => by simp [putS, rawL]
  | q :: r, h => by
    have h' : (q.data.toList :: rawL r).Pairwise (· < ·) := h
    obtain ⟨h1, h2⟩ := List.pairwise_cons.1 h'
    unfold putS
    split
    · rename_i hl
      refine List.pairwise_cons.2 ⟨fun y hy => ?_, put_asc s r h2⟩
      obtain ⟨z, hz, rfl⟩ := List.mem_map.1 hy
      rcases (put_mem s r z).1 hz with rfl | hz
      · exact lessB_iff.1 hl
      · exact h1 _ (List.mem_map_of_mem hz)
    · rename_i hl
      split
      · exact h
      · rename_i he
        have hlt : s.data.toList < q.data.toList := by
          have n1 : ¬ q.data.toList < s.data.toList := fun hh => hl (lessB_iff.2 hh)
          have n2 : q.data.toList ≠ s.data.toList := fun hh => he (by rw [beq_iff_eq, ByteArray.toList_eq, ByteArray.toList_eq]; exact hh)
          rcases List.le_total s.data.toList q.data.toList with h3 | h3
          · rcases Classical.em (s.data.toList < q.data.toList) with h4 | h4
            · exact h4
            · exact absurd (List.le_antisymm (List.not_lt.1 h4) h3) n2
          · rcases Classical.em (q.data.toList = s.data.toList) with h4 | h4
            · exact absurd h4 n2
            · exact absurd (List.le_antisymm h3 (List.not_lt.1 n1)) n2
        refine List.pairwise_cons.2 ⟨fun y hy => ?_, h⟩
        rcases List.mem_cons.1 hy with rfl | hy
        · exact hlt
        · exact List.lt_trans hlt (h1 y hy)

theorem putAll_asc : ∀ (n l : List ByteArray), (rawL l).Pairwise (· < ·) → (rawL (putAll n l)).Pairwise (· < ·)
  | [], l, h => h
  | s :: r, l, h => putAll_asc r _ (put_asc s l h)
theorem putAll_mem : ∀ (n l : List ByteArray) (x : ByteArray), x ∈ putAll n l ↔ x ∈ n ∨ x ∈ l
  | [], l, x => by simp [putAll]
  | s :: r, l, x => by
    show x ∈ putAll r (putS s l) ↔ _
    rw [putAll_mem r _ x, put_mem, List.mem_cons]
    constructor
    · rintro (h | h | h) <;> simp [h]
    · rintro ((h | h) | h) <;> simp [h]

theorem comp_step (zs : List B8) (hz : zs.Pairwise (· ≤ ·)) : ∀ m, m ≤ zs.length → (Lib.compactUpTo zs.toArray m).Pairwise (· < ·) ∧ ∀ x, x ∈ Lib.compactUpTo zs.toArray m ↔ ∃ j, j < m ∧ zs[j]? = some x
  | 0, _ => by simp [Lib.compactUpTo]
  | m + 1, hm => by
    obtain ⟨h1, h2⟩ := comp_step zs hz m (by omega)
    have hget : ∀ j, j < zs.length → zs[j]? = some (zs.toArray[j]!) := fun j hj => by simp [hj]
    rw [Lib.compactUpTo_succ]
    by_cases hk : Lib.keeps zs.toArray m = true
    · rw [if_pos hk]
      refine ⟨List.pairwise_append.2 ⟨h1, by simp, fun x hx y hy => ?_⟩, fun x => ?_⟩
      · have hy' : y = zs.toArray[m]! := by simpa using hy
        obtain ⟨j, hj, hxj⟩ := (h2 x).1 hx
        have hm0 : m ≠ 0 := by omega
        have hne : zs.toArray[m]! ≠ zs.toArray[m - 1]! := by
          simp only [Lib.keeps, decide_eq_true_eq] at hk
          rcases hk with h | h
          · exact absurd h hm0
          · exact h
        have hpw := List.pairwise_iff_getElem.1 hz
        have e1 : zs.toArray[m]! = zs[m] := by simp [show m < zs.length by omega]
        have e2 : zs.toArray[m - 1]! = zs[m - 1] := by simp [show m - 1 < zs.length by omega]
        have e3 : x = zs[j] := by rw [List.getElem?_eq_getElem (by omega)] at hxj; exact (Option.some.inj hxj).symm
        rw [e1, e2] at hne
        have l2 : zs[m - 1] ≤ zs[m] := hpw (m - 1) m (by omega) (by omega) (by omega)
        have l1 : zs[j] ≤ zs[m - 1] := by
          by_cases e : j = m - 1
          · subst e; exact List.le_refl _
          · exact hpw j (m - 1) (by omega) (by omega) (by omega)
        rw [hy', e1, e3]
        rcases Classical.em (zs[j] < zs[m]) with h | h
        · exact h
        · have l3 := List.not_lt.1 h
          exact absurd (List.le_antisymm (List.le_trans l3 l1) l2) hne
      · rw [List.mem_append, h2 x]
        constructor
        · rintro (⟨j, hj, h⟩ | h)
          · exact ⟨j, by omega, h⟩
          · have : x = zs.toArray[m]! := by simpa using h
            exact ⟨m, by omega, by rw [hget m (by omega), this]⟩
        · rintro ⟨j, hj, h⟩
          by_cases e : j = m
          · subst e; rw [hget j (by omega)] at h; right; simpa using (Option.some.inj h).symm
          · exact .inl ⟨j, by omega, h⟩
    · rw [if_neg hk, List.append_nil]
      refine ⟨h1, fun x => ?_⟩
      rw [h2 x]
      constructor
      · rintro ⟨j, hj, h⟩; exact ⟨j, by omega, h⟩
      · rintro ⟨j, hj, h⟩
        by_cases e : j = m
        · subst e
          have hk' : j ≠ 0 ∧ zs.toArray[j]! = zs.toArray[j - 1]! := by
            simp only [Lib.keeps, decide_eq_true_eq] at hk
            constructor
            · intro h0; exact hk (.inl h0)
            · exact Classical.byContradiction fun h0 => hk (.inr h0)
          refine ⟨j - 1, by omega, ?_⟩
          rw [hget j (by omega), hk'.2] at h
          rw [hget (j - 1) (by omega)]; exact h
        · exact ⟨j, by omega, h⟩

theorem sortL_asc (l : List ByteArray) : (sortL l).Pairwise (· ≤ ·) := by
  have h := List.pairwise_mergeSort (le := fun (x y : B8) => decide (x ≤ y)) (fun a b c h1 h2 => by
    simp only [decide_eq_true_eq] at h1 h2 ⊢; exact List.le_trans h1 h2) (fun a b => by
    simp only [Bool.or_eq_true, decide_eq_true_eq]; exact List.le_total a b) (rawL l)
  exact h.imp fun h => by simpa using h
theorem outL_asc (l : List ByteArray) : (outL l).Pairwise (· < ·) := (comp_step _ (sortL_asc l) _ (Nat.le_refl _)).1
theorem outL_mem (l : List ByteArray) (x : B8) : x ∈ outL l ↔ x ∈ rawL l := by
  have h := (comp_step _ (sortL_asc l) _ (Nat.le_refl _)).2 x
  show x ∈ Lib.compactUpTo _ _ ↔ _
  rw [h]
  have e : x ∈ sortL l ↔ x ∈ rawL l := by unfold sortL; exact List.mem_mergeSort
  rw [← e]
  constructor
  · rintro ⟨j, _, hj⟩; exact List.mem_of_getElem? hj
  · intro hx
    obtain ⟨j, hj, he⟩ := List.getElem_of_mem hx
    exact ⟨j, hj, by rw [List.getElem?_eq_getElem hj, he]⟩

theorem raw_bs (l : List B8) : rawL (bsL l) = l := by simp [rawL, bsL, Function.comp_def]
theorem raw_inj {a b : List ByteArray} (h : rawL a = rawL b) : a = b := by
  have e : ∀ l : List ByteArray, bsL (rawL l) = l := fun l => by simp [rawL, bsL, Function.comp_def]
  rw [← e a, h, e b]
theorem raw_mem {l : List ByteArray} {x : B8} : x ∈ rawL l ↔ ∃ s ∈ l, s.data.toList = x := by simp [rawL]

theorem vars_one (t : Tm) : varsL t = ivL t := by
  unfold varsL ivL
  cases h : anyB t with
  | false => rfl
  | true =>
    simp only [if_true]
    rw [into_fold t (any_leaf h)]
    refine raw_inj ?_
    rw [raw_bs]
    refine asc_unique _ _ (putAll_asc _ _ (by simp [rawL])) (outL_asc _) fun x => ?_
    rw [outL_mem, raw_mem, raw_mem]
    constructor
    · rintro ⟨s, hs, rfl⟩
      rcases (putAll_mem _ _ s).1 hs with h | h
      · exact ⟨s, h, rfl⟩
      · cases h
    · rintro ⟨s, hs, rfl⟩
      exact ⟨s, (putAll_mem _ _ s).2 (.inl hs), rfl⟩

end Go.Proofs.YtdpeanpmjhpblaaGreat
