/- Several texts in one: each says what it proves. No condition but theirs. -/
import Derived.Test.YtgpmdfhepanahaaGreatOpenI
import Derived.Test.YtgpmdfhepanahaaGreatFmtS
import Derived.Test.YtgpmdfhepanahaaGreatName
import Derived.Test.YtgpmdfhepanahaaGreatRows
import Derived.WalkKit
import Derived.WalkSpells
import Derived.WalkLawsBesides
import Derived.Lib.Hide
import Derived.Deep.QuietTactic
import Derived.Laws.OwnMore
import Derived.BigQuiet
import Derived.ProofKit
import Derived.Deep.AppendLies
import Derived.Deep.RegionLaw
import Derived.Maps.AppendAt
import Derived.RangeFuncBox
import Derived.Test.YtgpmdfhepanahaaGreatNameS
import Derived.Test.YtgpmdfhepanahaaGreatSizes
import Derived.Test.YtgpmdfhepanahaaGreatSpecV
import Derived.Test.YtgpmdfhepanahaaGreatTmV
import Derived.RangeFuncLeaves
import Derived.RangeFuncNested
import Derived.RangeFuncBound
import Derived.RangeFuncCalls
import Derived.Shelf.Abstract
import Derived.OwnWalkIn
import Derived.TacticsInMore
import Derived.LoopNIn
import Derived.LoopIn
import Derived.Scope
import Derived.ControlIn
import Derived.WalkMore
import Derived.Test.YtgpmdfhepanahaaGreatSubM
/- Plain facts on lists of bytes and integers that the walks use: the checksum of a list of bytes. No condition. -/
namespace Go.Proofs.YtgpmdfhepanahaaGreat

theorem take_snoc (s : ByteArray) (k : Nat) (h : k < s.size) : s.data.toList.take (k + 1) = s.data.toList.take k ++ [s[k]] := by
  rw [List.take_succ_eq_append_getElem (by simpa using h)]; rfl

theorem take_all (s : ByteArray) (k : Nat) (h : s.size ≤ k) : s.data.toList.take k = s.data.toList := by
  rw [List.take_of_length_le]; simpa using h

end Go.Proofs.YtgpmdfhepanahaaGreat

/- The model's test whether a byte stands in a string: a contract for every string. No condition beyond the length that any string has. -/
namespace Go.Proofs.YtgpmdfhepanahaaGreat
open Go.RowKit

/-- Whether a byte stands in a list. -/
def hasB (c : UInt8) (l : List UInt8) : Bool := decide (c ∈ l)

theorem byte_eq {a b : UInt8} (h : a = b) : ((a.toNat : Int) == (b.toNat : Int)) = true := by simp [h]
theorem byte_ne {a b : UInt8} (h : a ≠ b) : ((a.toNat : Int) == (b.toNat : Int)) = false := by
  simp only [beq_eq_false_iff_ne, ne_eq]
  intro e
  exact h (UInt8.toNat_inj.1 (by omega))

theorem getElem_toList (s : ByteArray) (k : Nat) (h : k < s.size) : s.data.toList[k]'(by simpa using h) = s[k] := rfl

theorem quiet_leftF {P : Program} {f : FuncId} {args : Array Value} {w : World} {n : Nat} {v : Value}
    (h : Calls P f args (w.drewN n) fun e w' => e = .returned v ∧ w.drewN n = w') : Calls P f args (w.drewN n) fun e w'' => e = .returned v ∧ ∃ m, w'' = w.drewN m :=
  h.mono fun _ _ ⟨he, hm⟩ => ⟨he, n, hm.symm⟩

end Go.Proofs.YtgpmdfhepanahaaGreat

/- Slices of strings as the walks see them, worlds that have only drawn or only grown: small facts that the contracts share. No condition. -/
namespace Go.Proofs.YtgpmdfhepanahaaGreat
open Go.RowKit

theorem hide {p : Prop} (h : p) : Hid p := h

theorem unhide {p : Prop} (h : Hid p) : p := h

/-- A slice value reads as a list of strings: it has no element, or each element's cell is there. -/
def StrsV (w : World) (v : Value) (ss : List ByteArray) : Prop :=
  (∃ a c, v = .slice a 0 c ∧ ss = []) ∨
  (∃ b off c, v = .slice (some ⟨b, off, none⟩) ss.length c ∧ 0 < ss.length ∧ ∀ i, i < ss.length → w.cell? ⟨b, off + i, none⟩ = some (.string (ss.getD i ByteArray.empty)))

/-- In a later world in which nothing below B has changed, a slice that lay in the earlier world still reads so. -/
theorem StrsV.below {w w' : World} {v : Value} {ss : List ByteArray} (h : StrsV w v ss) (hb : Below w.heap.size w w') : StrsV w' v ss := by
  rcases h with h | ⟨b, off, c, hv, hp, hc⟩
  · exact .inl h
  · refine .inr ⟨b, off, c, hv, hp, fun i hi => ?_⟩
    have h1 := hc i hi
    exact (hb.cell (p := ⟨b, off + i, none⟩) (World.block_lt_of_cell? w _ h1)).trans h1

/-- What an owned row of strings reads as. -/
theorem strsV_of_owns {w : World} {base : Nat} {v : Value} {ss : List ByteArray} (h : w.ownsRow base 9 1 v ss.length (ss.map Value.string)) : StrsV w v ss := by
  rcases h.2 with ⟨hv, h0⟩ | ⟨g, cap, cur, hv, rest⟩
  · exact .inl ⟨none, 0, by rw [hv], List.length_eq_zero_iff.1 h0⟩
  · by_cases h0 : ss.length = 0
    · exact .inl ⟨some ⟨g, 0, none⟩, cap, by rw [hv, h0], List.length_eq_zero_iff.1 h0⟩
    · subst hv
      refine .inr ⟨g, 0, cap, rfl, by omega, fun i hi => ?_⟩
      rw [Nat.zero_add, h.cellAt i (by omega)]
      simp [hi]

theorem getD_eq {l : List ByteArray} {i : Nat} (h : i < l.length) : l.getD i ByteArray.empty = l[i] := by simp [h]

theorem list_ext_getD {a b : List ByteArray} (hl : a.length = b.length) (h : ∀ i, i < a.length → a.getD i ByteArray.empty = b.getD i ByteArray.empty) : a = b := by
  apply List.ext_getElem hl
  intro i h1 h2
  have := h i h1
  rwa [getD_eq h1, getD_eq h2] at this

/-- An argument that the reader has opened reads as the strings of its elements. -/
theorem strsV_of_open {w : World} {a : Addr} {len cap : Nat} {ss : List ByteArray} (hl : len ≤ ss.length) (hcell : ∀ i, i < ss.length → w.cell? (a.add i) = some (.string (ss.getD i ByteArray.empty))) :
    StrsV w (.slice (some a) len cap) (ss.take len) := by
  have hlen : (ss.take len).length = len := by simp; omega
  by_cases h0 : len = 0
  · subst h0; exact .inl ⟨some a, cap, rfl, by simp⟩
  · obtain ⟨b, off, spot⟩ := a
    have hc := hcell 0 (by omega)
    have hspot : spot = none := by simpa [Addr.add] using World.cell?_spot hc
    subst hspot
    refine .inr ⟨b, off, cap, by rw [hlen], by omega, fun i hi => ?_⟩
    rw [hlen] at hi
    have h1 := hcell i (by omega)
    have h2 : (ss.take len).getD i ByteArray.empty = ss.getD i ByteArray.empty := by simp [hi]
    rw [h2]
    have e : Addr.add ⟨b, off, none⟩ i = ⟨b, off + i, none⟩ := by
      simp only [Addr.add]; split <;> simp_all
    rw [e] at h1; exact h1

theorem owns_cap {w : World} {base e size n : Nat} {v : Value} {xs : List Value} (h : w.ownsRow base e size v n xs) : ∀ a m c, v = .slice a m c → m ≤ c := by
  intro a m c hv
  rcases h.2 with ⟨h1, _⟩ | ⟨g, cap, cur, h1, _, _, h2, _⟩
  · rw [h1] at hv; injection hv with _ e1 e2; omega
  · rw [h1] at hv; injection hv with _ e1 e2; omega

theorem infoStr : (Tryz.prog.info? 9).map (fun i => (i.zero, i.size, i.bytes)) = some (some (.string ByteArray.empty), 1, 16) := by kernel_rfl

/-- A row whose cells are known one by one. -/
theorem row_known {w : World} {base : Nat} {v : Value} {n : Nat} {xs : List Value} {ss : List ByteArray} (h : w.ownsRow base 9 1 v n xs) (hn : n = ss.length)
    (hx : ∀ j, j < n → xs[j]? = some (.string (ss.getD j ByteArray.empty))) : w.ownsRow base 9 1 v ss.length (ss.map Value.string) := by
  subst hn
  have e : xs = ss.map Value.string := by
    apply List.ext_getElem?
    intro j
    by_cases hj : j < ss.length
    · rw [hx j hj]; simp [hj]
    · have hl := h.1
      rw [List.getElem?_eq_none (by omega), List.getElem?_eq_none (by simp; omega)]
  rw [← e]; exact h

theorem drewN_two (w : World) (a b : Nat) : (w.drewN a).drewN b = w.drewN (a + b) := by
  simp [World.drewN, Nat.add_assoc]

/-- A world that has only drawn. -/
def Drawn (w w' : World) : Prop := ∃ n, w' = w.drewN n

theorem Drawn.refl (w : World) : Drawn w w := ⟨0, rfl⟩

theorem Drawn.cell {w w' : World} {a : Addr} {v : Value} (h : Drawn w w') (hc : w.cell? a = some v) : w'.cell? a = some v := by
  obtain ⟨n, rfl⟩ := h; exact hc

theorem Drawn.then {w w' : World} (h : Drawn w w') (m : Nat) : Drawn w (w'.drewN m) := by
  obtain ⟨n, rfl⟩ := h; exact ⟨n + m, drewN_two _ _ _⟩

theorem Drawn.below {w w' : World} (h : Drawn w w') (B : Nat) : Below B w w' := by
  obtain ⟨n, rfl⟩ := h; exact ⟨rfl, rfl, rfl, Nat.le_refl _, fun _ _ => rfl⟩

theorem owns_base {W : World} {base base' : Nat} {e : TypeId} {size : Nat} {v : Value} {k : Nat} {xs : List Value} (h : W.ownsRow base e size v k xs) (hb : base' ≤ base) : W.ownsRow base' e size v k xs := by
  refine ⟨h.1, ?_⟩
  rcases h.2 with hn | ⟨g, cap, cur, hv, hbg, rest⟩
  · exact .inl hn
  · exact .inr ⟨g, cap, cur, hv, Nat.le_trans hb hbg, rest⟩

theorem below_app {w wr w1 : World} {e size n : Nat} {v : Value} {xs : List Value} {o : Obj} (hb : Below w.heap.size w wr) (hown : wr.ownsRow w.heap.size e size v n xs) (hg : (wr.alloc o).grownBy w1 v.ownBlock) : Below w.heap.size w w1 :=
  (hb.alloc hb.size o).grown hg (by have := hb.size; simp; omega) (fun j e' => (hown.lt j e').1)

theorem grown_step {a b c : World} {row : Option Nat} (h : a.grownBy b row) (k : b.grownBy c row) : a.grownBy c row :=
  ⟨k.os.trans h.os, k.tape.trans h.tape, k.output.trans h.output, Nat.le_trans h.size k.size, fun i hi hne => (k.block i (Nat.lt_of_lt_of_le hi h.size) hne).trans (h.block i hi hne)⟩

theorem grown_refl (a : World) (row : Option Nat) : a.grownBy a row := ⟨rfl, rfl, rfl, Nat.le_refl _, fun _ _ _ => rfl⟩

end Go.Proofs.YtgpmdfhepanahaaGreat

/- Slices of strings as the walks see them, and the laws' own helpers over such slices (equality, copy, size): contracts. A slice has at most the length that any slice has. -/
namespace Go.Proofs.YtgpmdfhepanahaaGreat
open Go.RowKit

/-- Equality of two lists of strings, as a Bool. -/
def eqSs (a b : List ByteArray) : Bool := decide (a = b)

theorem eqSs_self (a : List ByteArray) : eqSs a a = true := by simp [eqSs]

/-- What a copying loop has written after k rounds. -/
def CopyRel (g : Nat) (ss : List ByteArray) (k : Nat) (wr : World) : Prop :=
  ∃ xs, wr.ownsRow g 9 1 (.slice (some ⟨g, 0, none⟩) ss.length ss.length) ss.length xs ∧ ∀ j, j < k → xs[j]? = some (.string (ss.getD j ByteArray.empty))

/-- What the size helper answers: below 0, or the slice has at most 'left' elements. -/
def SzRes (ss : List ByteArray) (e : Ending) : Prop := e = .returned (.int .i64 (-1)) ∨ ∃ r : Int, 0 ≤ r ∧ r ≤ 1048576 ∧ ss.length ≤ 1048576 ∧ (∀ j, j < ss.length → (ss.getD j ByteArray.empty).size ≤ 1048576) ∧ e = .returned (.int .i64 r)

end Go.Proofs.YtgpmdfhepanahaaGreat

/- The model's insertion of a string into an ascending list: a contract. -/
namespace Go.Proofs.YtgpmdfhepanahaaGreat
open Go.RowKit
set_option linter.unusedVariables false

/-- A slice, not nil, that starts at its block's first cell and reads as these strings. -/
def LV (w : World) (v : Value) (ss : List ByteArray) : Prop :=
  ∃ b cp, v = .slice (some ⟨b, 0, none⟩) ss.length cp ∧ ss.length ≤ cp ∧ b < w.heap.size ∧ ∀ i, i < ss.length → w.cell? ⟨b, i, none⟩ = some (.string (ss.getD i ByteArray.empty))
theorem LV.kept {w w' : World} {v : Value} {ss : List ByteArray} (h : LV w v ss) (hb : Below w.heap.size w w') : LV w' v ss := by
  obtain ⟨b, cp, hv, hc, hl, hx⟩ := h
  exact ⟨b, cp, hv, hc, Nat.lt_of_lt_of_le hl hb.size, fun i hi => carry_cell (hx i hi) hb⟩
theorem LV.of_own {w : World} {base g cap : Nat} {ss : List ByteArray} (h : w.ownsRow base 9 1 (.slice (some ⟨g, 0, none⟩) ss.length cap) ss.length (ss.map Value.string)) : LV w (.slice (some ⟨g, 0, none⟩) ss.length cap) ss := by
  refine ⟨g, cap, rfl, owns_cap h _ _ _ rfl, ?_, fun i hi => ?_⟩
  · exact (h.lt g (by simp [Value.ownBlock])).2
  · rw [h.cellAt i (by omega), List.getElem?_map, List.getElem?_eq_getElem hi, List.getD_eq_getElem?_getD, List.getElem?_eq_getElem hi]
    rfl

theorem str_news {w W : World} {b k : Nat} {ss : List ByteArray} (hc : ∀ i, i < ss.length → w.cell? ⟨b, i, none⟩ = some (.string (ss.getD i ByteArray.empty))) (hB : Below w.heap.size w W) (n2 : List ByteArray) (hn : ∀ j x, n2[j]? = some x → ss[k + j]? = some x) :
    ∀ j u, (n2.map Value.string)[j]? = some u → W.cell? ((⟨b, k, none⟩ : Addr).add j) = some u := by
  intro j u hj
  rw [List.getElem?_map] at hj
  cases hx : n2[j]? with
  | none => rw [hx] at hj; cases hj
  | some x =>
    rw [hx] at hj
    cases hj
    have h := hn j x hx
    have hl := (List.getElem?_eq_some_iff.1 h).1
    have h2 := carry_cell (hc (k + j) hl) hB
    rw [List.getD_eq_getElem?_getD, h, Option.getD_some] at h2
    unfold Addr.add
    split
    · rename_i e
      subst e
      exact h2
    · exact h2

theorem one_strs (l : List ByteArray) : ∀ u ∈ l.map Value.string, u.oneCell' = true := fun u hu => by
  obtain ⟨x, _, rfl⟩ := List.mem_map.1 hu; rfl

theorem cc1 (w : World) (s : ByteArray) : ∀ (j : Nat) (u : Value), [Value.string s][j]? = some u → ((w.alloc (.cells #[] 9)).alloc (.cells #[.string s] 9)).cell? ((⟨w.heap.size + 1, 0, none⟩ : Addr).add j) = some u := fun j u hj => by
  have h := cell_one_new (w.alloc (.cells #[] 9)) (.string s) 9 j u hj
  have e : (w.alloc (.cells #[] 9)).heap.size = w.heap.size + 1 := by simp
  rw [e] at h
  exact h
theorem own_b (w : World) (s : ByteArray) : ((w.alloc (.cells #[.string s] 9)).alloc (.cells #[] 9)).ownsRow w.heap.size 9 1 (.slice (some ⟨w.heap.size + 1, 0, none⟩) 0 0) 0 [] := by
  have h := World.ownsRow_lit (base := w.heap.size) (size := 1) (e := 9) (w.alloc (.cells #[.string s] 9)) #[] 0 (by simp) (Nat.zero_le _) rfl
  have e : (w.alloc (.cells #[.string s] 9)).heap.size = w.heap.size + 1 := by simp
  rw [e] at h
  exact h
theorem add_block (p : Addr) (j : Nat) : (p.add j).block = p.block := by
  unfold Addr.add
  split <;> rfl
theorem c_after {w w7 : World} {s : ByteArray} (hg : ((w.alloc (.cells #[] 9)).alloc (.cells #[.string s] 9)).drew.grownBy w7 (some w.heap.size)) : ∀ (j : Nat) (u : Value), [Value.string s][j]? = some u → w7.cell? ((⟨w.heap.size + 1, 0, none⟩ : Addr).add j) = some u := fun j u hj =>
  hg.cell (carry_cell (cc1 w s j u hj) (Below.refl _ _).drew) (by rw [add_block]; simp)
theorem c_before {w w7 : World} {s : ByteArray} (hg : ((w.alloc (.cells #[.string s] 9)).alloc (.cells #[] 9)).drew.grownBy w7 (some (w.heap.size + 1))) : ∀ (j : Nat) (u : Value), [Value.string s][j]? = some u → w7.cell? ((⟨w.heap.size, 0, none⟩ : Addr).add j) = some u := fun j u hj =>
  hg.cell (carry_cell (cell_one_new w (.string s) 9 j u hj) ((Below.refl _ _).alloc (Nat.le_refl _) _).drew) (by rw [add_block]; simp)

theorem step_app {P : Program} (w : World) {ops : Array Oper} {o : Oper} {a : Act} {K : Act → World → Prop} {Q : Exit → Act → World → Prop} {E : Prop} (hgd : o.guard = none) (s x : Operand) (t : TypeId)
    (ho : o.op = .call { callee := .builtin .append, args := #[s, x], argTypes := #[t, t] })
    (base : Nat) (e : TypeId) (i : TypeInfo) (z : Value) (size bytes : Nat) (ht : P.underlying t = some (.slice e)) (hi : P.info? e = some i) (hz : i.zero = some z)
    (hsize : i.size = size) (hby : i.bytes = bytes) (hzs : z.cells.size = size) (hsz : 0 < size)
    (g0 cap0 : Nat) (n : Nat) (xs : List Value) (hs : a.eval s = .slice (some ⟨g0, 0, none⟩) n cap0) (hown : w.ownsRow base e size (.slice (some ⟨g0, 0, none⟩) n cap0) n xs)
    (ad : Addr) (m c : Nat) (news : List Value) (hx : a.eval x = .slice (some ad) m c) (hl : news.length = m * size) (hnews : ∀ j u, news[j]? = some u → w.cell? (ad.add j) = some u) (h1 : ∀ u ∈ news, u.oneCell' = true)
    (h63 : n + m ≤ maxLen) (hbytes : (n + m) * bytes ≤ 140737488355328) (hbase : base ≤ w.heap.size)
    (h : ∀ g cap w', w'.ownsRow base e size (.slice (some ⟨g, 0, none⟩) (n + m) cap) (n + m) (xs ++ news) → w.grownBy w' (some g0) → K (a.put o.dst (.slice (some ⟨g, 0, none⟩) (n + m) cap)) w') :
    if Region.wanted o (yielded ops a.tmps) = true then Oper.wp P o a w K Q else E := by
  have hw : Region.wanted o (yielded ops a.tmps) = true := by simp [Region.wanted, hgd]
  rw [if_pos hw]
  refine wp_append_own w s x t ho base e i z size bytes ht hi hz hsize hby hzs hsz _ n xs hs hown ad m c news hx hl hnews h1 h63 hbytes hbase fun v' w' h2 h3 h4 => ?_
  rcases id h2.2 with ⟨rfl, h0⟩ | ⟨g, cap, cur, rfl, _⟩
  · have := h4.1 rfl
    simp at this
  · exact h _ _ _ h2 h3

theorem take_at {ss : List ByteArray} (k : Nat) : ∀ j x, (ss.take k)[j]? = some x → ss[0 + j]? = some x := fun j x h => by
  rw [List.getElem?_take] at h
  rw [Nat.zero_add]
  split at h
  · exact h
  · cases h
theorem drop_at {ss : List ByteArray} (k : Nat) : ∀ j x, (ss.drop k)[j]? = some x → ss[k + j]? = some x := fun j x h => by
  rwa [List.getElem?_drop] at h

theorem cut_lo {b n cp k : Nat} (h : k ≤ n) (hc : n ≤ cp) (W : World) : (Instr.slice 72 (.slice (some ⟨b, 0, none⟩) n cp) none (some (.int .i64 (k : Int))) none).run Tryz.prog W = .ok (.slice (some ⟨b, 0, none⟩) k cp) W := by
  have h := run_slice_h (P := Tryz.prog) W 72 (some ⟨b, 0, none⟩) n cp (by kernel_rfl) .i64 (k : Int) (by omega) (by omega)
  rw [h]
  have e : (sizeOf (Tryz.prog.elem 72)).run Tryz.prog W = .ok 1 W := by kernel_rfl
  rw [e]
  simp [Result.andThen, sliced]
  intro _; rfl
theorem cut_hi {b n cp k : Nat} (h : k ≤ n) (hc : n ≤ cp) (W : World) : (Instr.slice 72 (.slice (some ⟨b, 0, none⟩) n cp) (some (.int .i64 (k : Int))) none none).run Tryz.prog W = .ok (.slice (some ⟨b, if cp = k then 0 else k, none⟩) (n - k) (cp - k)) W := by
  have h := run_slice_l (P := Tryz.prog) W 72 (some ⟨b, 0, none⟩) n cp (by kernel_rfl) .i64 (k : Int) (by omega) (by omega)
  rw [h]
  have e : (sizeOf (Tryz.prog.elem 72)).run Tryz.prog W = .ok 1 W := by kernel_rfl
  rw [e]
  simp only [Result.andThen, sliced, Int.toNat_natCast]
  split <;> simp [Addr.add]
  omega

theorem LV.of_own' {w : World} {base g cap n : Nat} {ss : List ByteArray} (hn : ss.length = n) (h : w.ownsRow base 9 1 (.slice (some ⟨g, 0, none⟩) n cap) n (ss.map Value.string)) : LV w (.slice (some ⟨g, 0, none⟩) n cap) ss := by
  subst hn; exact LV.of_own h

/-- The model's insertion. -/
def lessB (a b : ByteArray) : Bool := Op.bytesLess a.toList b.toList
def putS (s : ByteArray) : List ByteArray → List ByteArray
  | [] => [s]
  | q :: r => if lessB q s then q :: putS s r else if q.toList == s.toList then q :: r else s :: q :: r
theorem putS_skip (s : ByteArray) : ∀ (ss : List ByteArray) (k : Nat), k ≤ ss.length → (∀ j, j < k → lessB (ss.getD j ByteArray.empty) s = true) → putS s ss = ss.take k ++ putS s (ss.drop k)
  | ss, 0, _, _ => by simp
  | [], k + 1, h, _ => by simp at h
  | q :: r, k + 1, h, hj => by
    have h0 := hj 0 (by omega)
    simp at h0
    rw [putS, if_pos h0, putS_skip s r k (by simpa using h) (fun j hjk => by have := hj (j + 1) (by omega); simpa using this)]
    rfl
theorem putS_end {s : ByteArray} {ss : List ByteArray} {k : Nat} (hk : k ≤ ss.length) (hj : ∀ j, j < k → lessB (ss.getD j ByteArray.empty) s = true) (he : k = ss.length) : putS s ss = ss.take k ++ [s] ++ ss.drop k := by
  rw [putS_skip s ss k hk hj, List.drop_of_length_le (by omega)]
  simp [putS]
theorem putS_here {s : ByteArray} {ss : List ByteArray} {k : Nat} (hk : k < ss.length) (hj : ∀ j, j < k → lessB (ss.getD j ByteArray.empty) s = true) (h1 : lessB (ss.getD k ByteArray.empty) s = false) (h2 : ((ss.getD k ByteArray.empty).toList == s.toList) = false) : putS s ss = ss.take k ++ [s] ++ ss.drop k := by
  rw [putS_skip s ss k (by omega) hj]
  have e : ss.drop k = ss.getD k ByteArray.empty :: ss.drop (k + 1) := by rw [List.drop_eq_getElem_cons hk]; simp [hk]
  rw [e, putS, if_neg (by rw [h1]; simp), if_neg (by rw [h2]; simp)]
  simp
theorem putS_same {s : ByteArray} {ss : List ByteArray} {k : Nat} (hk : k < ss.length) (hj : ∀ j, j < k → lessB (ss.getD j ByteArray.empty) s = true) (h1 : lessB (ss.getD k ByteArray.empty) s = false) (h2 : ((ss.getD k ByteArray.empty).toList == s.toList) = true) : putS s ss = ss := by
  rw [putS_skip s ss k (by omega) hj]
  have e : ss.drop k = ss.getD k ByteArray.empty :: ss.drop (k + 1) := by rw [List.drop_eq_getElem_cons hk]; simp [hk]
  rw [e, putS, if_neg (by rw [h1]; simp), if_pos h2, ← e, List.take_append_drop]

set_option maxRecDepth 100000 in
set_option maxHeartbeats 4000000 in
theorem put_any (ss : List ByteArray) (v : Value) (s : ByteArray) (w : World) (hv : LV w v ss) (hn : ss.length ≤ 1048576) :
    Calls Tryz.prog 134 #[v, .string s] w fun e w' => ∃ v', e = .returned v' ∧ LV w' v' (putS s ss) ∧ Below w.heap.size w w' := by
  obtain ⟨i0, hi, hz0, hz1, hz2⟩ := info_parts infoStr
  have HV := Lib.hid hv
  obtain ⟨b, cp, rfl, hcp, hbw, hc⟩ := hv
  have HC := Lib.hid hc
  clear hc
  go_enter Tryz.func134, Tryz.ntmps134
  go_wp2
  go_loop [5] (fun i => ∃ k : Nat, k ≤ ss.length ∧ i = .int .i64 k ∧ ∀ j, j < k → lessB (ss.getD j ByteArray.empty) s = true) (fun i => ss.length - (intOf i).toNat)
  case atStart => exact ⟨0, Nat.zero_le _, rfl, fun j hj => absurd hj (Nat.not_lt_zero _)⟩
  case round =>
    obtain ⟨k, hk, rfl, hj⟩ := hrel
    have HJ := Lib.hid hj
    clear hj
    have T1 : Hid (∀ j x, (ss.take k)[j]? = some x → ss[0 + j]? = some x) := Lib.hid (take_at k)
    have T2 : Hid (∀ j x, (ss.drop k)[j]? = some x → ss[k + j]? = some x) := Lib.hid (drop_at k)
    have L1 : ((ss.take k).map Value.string).length = k * 1 := by simp; omega
    have L2 : ((ss.drop k).map Value.string).length = (ss.length - k) * 1 := by simp
    have HL1 := Lib.hid L1
    have HL2 := Lib.hid L2
    have hs1 := cut_lo (b := b) hk hcp
    have hs2 := cut_hi (b := b) hk hcp
    obtain ⟨o2, ho2⟩ : ∃ o2, o2 = if cp = k then 0 else k := ⟨_, rfl⟩
    rw [← ho2] at hs2
    have N2 : Hid (∀ W, Below w.heap.size w W → ∀ j u, ((ss.drop k).map Value.string)[j]? = some u → W.cell? ((⟨b, o2, none⟩ : Addr).add j) = some u) := Lib.hid (fun W hW => by
      by_cases e : cp = k
      · have : ss.drop k = [] := List.drop_of_length_le (by omega)
        intro j u hj
        rw [this] at hj; cases hj
      · rw [ho2, if_neg e]; exact str_news HC.out hW _ T2.out)
    obtain ⟨m2, hm2⟩ : ∃ m2, m2 = ss.length - k := ⟨_, rfl⟩
    rw [← hm2] at hs2 HL2
    have HM := Lib.hid hm2
    have hm2b : m2 ≤ 1048576 := by omega
    clear L1 L2 ho2 hm2
    by_cases hlt : k < ss.length
    · have hcr := HC.out k hlt
      obtain ⟨q, hq⟩ : ∃ q, q = ss.getD k ByteArray.empty := ⟨_, rfl⟩
      rw [← hq] at hcr
      have HQ := Lib.hid hq
      clear hq
      cases h1 : Op.bytesLess q.toList s.toList with
      | true =>
        have HN : Hid (∀ j, j < k + 1 → lessB (ss.getD j ByteArray.empty) s = true) := Lib.hid (fun j hj => by
          by_cases e : j = k
          · rw [e, ← HQ.out]; exact h1
          · exact HJ.out j (by omega))
        clear hs1 hs2
        go_wp2
        go_round
        case rel => exact ⟨k + 1, by omega, by go_num, HN.out⟩
        case measure => simp [intOf]; omega
      | false =>
        cases h2 : (q.toList == s.toList) with
        | true =>
          have HE : Hid (putS s ss = ss) := Lib.hid (putS_same hlt HJ.out (by rw [← HQ.out]; exact h1) (by rw [← HQ.out]; exact h2))
          clear hs1 hs2
          go_wp2
          go_ret
          exact ⟨_, rfl, by rw [HE.out]; exact HV.out, Below.refl _ _⟩
        | false =>
          have HPUT : Hid (putS s ss = ss.take k ++ [s] ++ ss.drop k) := Lib.hid (putS_here hlt HJ.out (by rw [← HQ.out]; exact h1) (by rw [← HQ.out]; exact h2))
          go_wp2_with fail
          go_region_law (first
            | (refine step_app _ (by rfl) (.tmp 33) (.tmp 36) _ (by rfl) w.heap.size 9 i0 _ 1 16 Tryz.underlying72 hi hz0 hz1 hz2 rfl (Nat.one_pos) _ 0 0 [] (by rfl) (by repeat (first | exact own_b _ _ | exact World.ownsRow_lit _ #[] 0 (by simp) (Nat.zero_le _) rfl | with_reducible refine World.ownsRow.alloc ?_ _ | with_reducible refine World.ownsRow.drew ?_)) ⟨b, 0, none⟩ k cp ((ss.take k).map Value.string) (by rfl) HL1.out (str_news HC.out (by repeat (first | with_reducible exact Below.refl _ _ | with_reducible refine Below.alloc ?_ (by first | omega | (simp; done) | (simp; omega)) _ | with_reducible refine Below.drew ?_)) _ T1.out) (one_strs _) (by unfold maxLen; omega) (by omega) (by first | omega | (simp; done) | (simp; omega)) ?_; intro g7 c7 w7 hown7 hgrow7; have HO7 : Hid (w7.ownsRow w.heap.size 9 1 (.slice (some ⟨g7, 0, none⟩) k c7) k ((ss.take k).map Value.string)) := Lib.hid (by simpa using hown7); have HB7 : Hid (Below w.heap.size w w7) := Lib.hid (Below.grown (by repeat (first | with_reducible exact Below.refl _ _ | with_reducible refine Below.alloc ?_ (by first | omega | (simp; done) | (simp; omega)) _ | with_reducible refine Below.drew ?_)) hgrow7 (by first | omega | (simp; done) | (simp; omega)) (by simp)); have hz7 := HB7.out.size; (first | (have HC7 := Lib.hid (c_after hgrow7); clear hown7 hgrow7) | (have HC7 := Lib.hid (c_before hgrow7); clear hown7 hgrow7) | (clear hown7 hgrow7)))
            | (refine step_app _ (by rfl) (.tmp 37) (.tmp 39) _ (by rfl) w.heap.size 9 i0 _ 1 16 Tryz.underlying72 hi hz0 hz1 hz2 rfl (Nat.one_pos) g7 c7 k ((ss.take k).map Value.string) (by rfl) (by repeat (first | with_reducible exact HO7.out | with_reducible refine World.ownsRow.alloc ?_ _ | with_reducible refine World.ownsRow.drew ?_)) _ 1 1 [.string s] (by rfl) rfl (by first | exact HC7.out | exact cell_one_new _ _ _) (one_strs [s]) (by unfold maxLen; omega) (by omega) (by first | omega | (simp; done) | (simp; omega)) ?_; intro g8 c8 w8 hown8 hgrow8; have HO8 := Lib.hid hown8; have HG8 := Lib.hid hgrow8; have HB8 : Hid (Below w.heap.size w w8) := Lib.hid (Below.grown (by repeat (first | with_reducible exact HB7.out | with_reducible exact Below.refl _ _ | with_reducible refine Below.alloc ?_ (by first | omega | (simp; done) | (simp; omega)) _ | with_reducible refine Below.drew ?_)) hgrow8 (by first | omega | (simp; done) | (simp; omega)) (fun g hg => by cases hg; exact (HO7.out.lt g7 (by simp [Value.ownBlock])).1)); have hz8 := HB8.out.size; clear hown8 hgrow8)
            | (refine step_app _ (by rfl) (.tmp 40) (.tmp 43) _ (by rfl) w.heap.size 9 i0 _ 1 16 Tryz.underlying72 hi hz0 hz1 hz2 rfl (Nat.one_pos) g8 c8 (k + 1) ((ss.take k).map Value.string ++ [.string s]) (by rfl) (by repeat (first | with_reducible exact HO8.out | with_reducible refine World.ownsRow.alloc ?_ _ | with_reducible refine World.ownsRow.drew ?_)) ⟨b, o2, none⟩ m2 (cp - k) ((ss.drop k).map Value.string) (by rfl) HL2.out (N2.out _ (by repeat (first | with_reducible exact HB8.out | with_reducible exact Below.refl _ _ | with_reducible refine Below.alloc ?_ (by first | omega | (simp; done) | (simp; omega)) _ | with_reducible refine Below.drew ?_))) (one_strs _) (by unfold maxLen; omega) (by omega) (by first | omega | (simp; done) | (simp; omega)) ?_; intro g9 c9 w9 hown9 hgrow9; have HO9 := Lib.hid hown9; have HB9 : Hid (Below w.heap.size w w9) := Lib.hid (Below.grown (by repeat (first | with_reducible exact HB8.out | with_reducible exact Below.refl _ _ | with_reducible refine Below.alloc ?_ (by first | omega | (simp; done) | (simp; omega)) _ | with_reducible refine Below.drew ?_)) hgrow9 (by first | omega | (simp; done) | (simp; omega)) (fun g hg => by cases hg; exact (HO8.out.lt g8 (by simp [Value.ownBlock])).1)); clear hown9 hgrow9)
            | fail)
          all_goals
            have HE : Hid (LV w9 (.slice (some ⟨g9, 0, none⟩) (k + 1 + m2) c9) (putS s ss)) := Lib.hid (by
              refine LV.of_own' (base := w.heap.size) (by rw [HPUT.out]; simp; have := HM.out; omega) ?_
              have h := HO9.out
              rw [HPUT.out, List.map_append, List.map_append]
              exact h)
            have HZ := Lib.hid HB9.out
            clear hs1 hs2
            go_wp2
            go_ret
            exact ⟨_, rfl, HE.out, HZ.out⟩
    · have HPUT : Hid (putS s ss = ss.take k ++ [s] ++ ss.drop k) := Lib.hid (putS_end hk HJ.out (by omega))
      go_wp2_with fail
      go_region_law (first
        | (refine step_app _ (by rfl) (.tmp 33) (.tmp 36) _ (by rfl) w.heap.size 9 i0 _ 1 16 Tryz.underlying72 hi hz0 hz1 hz2 rfl (Nat.one_pos) _ 0 0 [] (by rfl) (by repeat (first | exact own_b _ _ | exact World.ownsRow_lit _ #[] 0 (by simp) (Nat.zero_le _) rfl | with_reducible refine World.ownsRow.alloc ?_ _ | with_reducible refine World.ownsRow.drew ?_)) ⟨b, 0, none⟩ k cp ((ss.take k).map Value.string) (by rfl) HL1.out (str_news HC.out (by repeat (first | with_reducible exact Below.refl _ _ | with_reducible refine Below.alloc ?_ (by first | omega | (simp; done) | (simp; omega)) _ | with_reducible refine Below.drew ?_)) _ T1.out) (one_strs _) (by unfold maxLen; omega) (by omega) (by first | omega | (simp; done) | (simp; omega)) ?_; intro g7 c7 w7 hown7 hgrow7; have HO7 : Hid (w7.ownsRow w.heap.size 9 1 (.slice (some ⟨g7, 0, none⟩) k c7) k ((ss.take k).map Value.string)) := Lib.hid (by simpa using hown7); have HB7 : Hid (Below w.heap.size w w7) := Lib.hid (Below.grown (by repeat (first | with_reducible exact Below.refl _ _ | with_reducible refine Below.alloc ?_ (by first | omega | (simp; done) | (simp; omega)) _ | with_reducible refine Below.drew ?_)) hgrow7 (by first | omega | (simp; done) | (simp; omega)) (by simp)); have hz7 := HB7.out.size; (first | (have HC7 := Lib.hid (c_after hgrow7); clear hown7 hgrow7) | (have HC7 := Lib.hid (c_before hgrow7); clear hown7 hgrow7) | (clear hown7 hgrow7)))
        | (refine step_app _ (by rfl) (.tmp 37) (.tmp 39) _ (by rfl) w.heap.size 9 i0 _ 1 16 Tryz.underlying72 hi hz0 hz1 hz2 rfl (Nat.one_pos) g7 c7 k ((ss.take k).map Value.string) (by rfl) (by repeat (first | with_reducible exact HO7.out | with_reducible refine World.ownsRow.alloc ?_ _ | with_reducible refine World.ownsRow.drew ?_)) _ 1 1 [.string s] (by rfl) rfl (by first | exact HC7.out | exact cell_one_new _ _ _) (one_strs [s]) (by unfold maxLen; omega) (by omega) (by first | omega | (simp; done) | (simp; omega)) ?_; intro g8 c8 w8 hown8 hgrow8; have HO8 := Lib.hid hown8; have HG8 := Lib.hid hgrow8; have HB8 : Hid (Below w.heap.size w w8) := Lib.hid (Below.grown (by repeat (first | with_reducible exact HB7.out | with_reducible exact Below.refl _ _ | with_reducible refine Below.alloc ?_ (by first | omega | (simp; done) | (simp; omega)) _ | with_reducible refine Below.drew ?_)) hgrow8 (by first | omega | (simp; done) | (simp; omega)) (fun g hg => by cases hg; exact (HO7.out.lt g7 (by simp [Value.ownBlock])).1)); have hz8 := HB8.out.size; clear hown8 hgrow8)
        | (refine step_app _ (by rfl) (.tmp 40) (.tmp 43) _ (by rfl) w.heap.size 9 i0 _ 1 16 Tryz.underlying72 hi hz0 hz1 hz2 rfl (Nat.one_pos) g8 c8 (k + 1) ((ss.take k).map Value.string ++ [.string s]) (by rfl) (by repeat (first | with_reducible exact HO8.out | with_reducible refine World.ownsRow.alloc ?_ _ | with_reducible refine World.ownsRow.drew ?_)) ⟨b, o2, none⟩ m2 (cp - k) ((ss.drop k).map Value.string) (by rfl) HL2.out (N2.out _ (by repeat (first | with_reducible exact HB8.out | with_reducible exact Below.refl _ _ | with_reducible refine Below.alloc ?_ (by first | omega | (simp; done) | (simp; omega)) _ | with_reducible refine Below.drew ?_))) (one_strs _) (by unfold maxLen; omega) (by omega) (by first | omega | (simp; done) | (simp; omega)) ?_; intro g9 c9 w9 hown9 hgrow9; have HO9 := Lib.hid hown9; have HB9 : Hid (Below w.heap.size w w9) := Lib.hid (Below.grown (by repeat (first | with_reducible exact HB8.out | with_reducible exact Below.refl _ _ | with_reducible refine Below.alloc ?_ (by first | omega | (simp; done) | (simp; omega)) _ | with_reducible refine Below.drew ?_)) hgrow9 (by first | omega | (simp; done) | (simp; omega)) (fun g hg => by cases hg; exact (HO8.out.lt g8 (by simp [Value.ownBlock])).1)); clear hown9 hgrow9)
        | fail)
      all_goals
        have HE : Hid (LV w9 (.slice (some ⟨g9, 0, none⟩) (k + 1 + m2) c9) (putS s ss)) := Lib.hid (by
          refine LV.of_own' (base := w.heap.size) (by rw [HPUT.out]; simp; have := HM.out; omega) ?_
          have h := HO9.out
          rw [HPUT.out, List.map_append, List.map_append]
          exact h)
        have HZ := Lib.hid HB9.out
        clear hs1 hs2
        go_wp2
        go_ret
        exact ⟨_, rfl, HE.out, HZ.out⟩

end Go.Proofs.YtgpmdfhepanahaaGreat

/- The model's list of a term's variables: a contract. -/
namespace Go.Proofs.YtgpmdfhepanahaaGreat
open Go.RowKit
set_option linter.unusedVariables false

mutual
def Tm.into : Tm → List ByteArray → List ByteArray
  | .node n a, l => if varB n then putS n l else Tm.intoL a l
def Tm.intoL : List Tm → List ByteArray → List ByteArray
  | [], l => l
  | t :: r, l => Tm.intoL r (Tm.into t l)
end

theorem Tm.into_eq (t : Tm) (l : List ByteArray) : t.into l = if varB t.name then putS t.name l else Tm.intoL t.args l := by
  cases t with
  | node n a => rw [Tm.into]; rfl
theorem Tm.intoL_append : ∀ (a b : List Tm) (l : List ByteArray), Tm.intoL (a ++ b) l = Tm.intoL b (Tm.intoL a l)
  | [], b, l => by simp [Tm.intoL]
  | t :: r, b, l => by simp [Tm.intoL, Tm.intoL_append r b]
theorem Tm.intoL_next {a : List Tm} {k : Nat} {t : Tm} (h : a[k]? = some t) (l : List ByteArray) : Tm.intoL (a.take (k + 1)) l = t.into (Tm.intoL (a.take k) l) := by
  rw [take_next h, Tm.intoL_append]; simp [Tm.intoL]
theorem putS_len (s : ByteArray) : ∀ l : List ByteArray, (putS s l).length ≤ l.length + 1
  | [] => by simp [putS]
  | q :: r => by
    unfold putS
    split
    · have := putS_len s r; simp; omega
    · split <;> simp
theorem Tm.into_len : ∀ t : Tm, ∀ l, (t.into l).length ≤ l.length + t.sz := Tm.ind fun t ih => by
  have h : ∀ (a : List Tm), (∀ s ∈ a, ∀ l, (s.into l).length ≤ l.length + s.sz) → ∀ l, (Tm.intoL a l).length ≤ l.length + sumL Tm.sz a := by
    intro a
    induction a with
    | nil => intro _ l; simp [Tm.intoL, sumL]
    | cons t r ih2 =>
      intro hh l
      have h1 := hh t List.mem_cons_self l
      have h2 := ih2 (fun s hs => hh s (List.mem_cons_of_mem _ hs)) (t.into l)
      have e : sumL Tm.sz (t :: r) = t.sz + sumL Tm.sz r := by simp [sumL]
      rw [Tm.intoL, e]; omega
  intro l
  rw [Tm.into_eq]
  have e := t.sz_eq
  split
  · have := putS_len t.name l; omega
  · have := h t.args ih l; omega
theorem Tm.intoL_len (a : List Tm) (k : Nat) (l : List ByteArray) : (Tm.intoL (a.take k) l).length ≤ l.length + sumL Tm.sz (a.take k) := by
  generalize a.take k = b
  induction b generalizing l with
  | nil => simp [Tm.intoL, sumL]
  | cons t r ih =>
    have h1 := t.into_len l
    have h2 := ih (t.into l)
    have e : sumL Tm.sz (t :: r) = t.sz + sumL Tm.sz r := by simp [sumL]
    rw [Tm.intoL, e]; omega

def IntoEnd (t : Tm) (l : List ByteArray) (w : World) (e : Ending) (w' : World) : Prop := ∃ v', e = .returned v' ∧ LV w' v' (t.into l) ∧ Below w.heap.size w w'

def IntoT (t : Tm) : Prop := ∀ (w : World) (va vl : Value) (l : List ByteArray), TmS w va t.args → LV w vl l → t.wt ≤ 1048576 → l.length + t.sz ≤ 1048576 →
  Calls Tryz.prog 160 #[vl, .agg #[.string t.name, va]] w (IntoEnd t l w)

set_option maxRecDepth 100000 in
set_option maxHeartbeats 2000000 in
theorem into_of (t : Tm) (h : ∀ s ∈ t.args, IntoT s) : IntoT t := by
  intro w va vl l hv hl hw hn
  have H := Lib.hid h
  have HL := Lib.hid (fun (s : Tm) (hs : s ∈ t.args) => Nat.le_trans (Tm.wt_arg hs) hw)
  have hlen := Tm.wt_len t
  obtain ⟨a, c, rfl⟩ := hv.is_slice
  have HV := Lib.hid hv
  have H2 := Lib.hid (two_new w (.string t.name) (.slice a t.args.length c) 31 _ rfl)
  have HLV := Lib.hid (hl.kept ((Below.refl w.heap.size w).alloc (Nat.le_refl _) (.cells #[.string t.name, .slice a t.args.length c] 31)))
  have CV := Lib.hid (fun W => l2Var_any t.name W (by have := t.wt_name; unfold maxLen; omega))
  obtain ⟨vb, cb, rfl, _⟩ := id hl
  have hsz := t.sz_eq
  have HSZ := Lib.hid hsz
  clear h hv hl hsz
  cases hb : varB t.name with
  | true =>
    have HE : Hid (t.into l = putS t.name l) := Lib.hid (by rw [Tm.into_eq, if_pos hb])
    rw [hb] at CV
    clear hb
    go_enter Tryz.func160, Tryz.ntmps160
    obtain ⟨b0, b1, b2⟩ := H2.out
    go_wp2_with (go_at_call 89; refine (CV.out _).mono ?_; rintro e w' ⟨rfl, rfl⟩)
    refine (put_any l _ t.name _ HLV.out (by omega)).mono ?_
    rintro e w2 ⟨v2, rfl, hv2, hb2⟩
    have HR : Hid (IntoEnd t l w (.returned v2) w2) := Lib.hid ⟨_, rfl, by rw [HE.out]; exact hv2, carry_below ((Below.refl _ _).alloc (Nat.le_refl _) _) (by simp) hb2⟩
    obtain ⟨b3, c3, rfl, _⟩ := hv2
    go_wp2
    go_ret
    exact HR.out
  | false =>
    have HE : Hid (t.into l = Tm.intoL t.args l) := Lib.hid (by rw [Tm.into_eq, hb]; rfl)
    rw [hb] at CV
    clear hb
    go_enter Tryz.func160, Tryz.ntmps160
    obtain ⟨b0, b1, b2⟩ := H2.out
    go_wp2_with (go_at_call 89; refine (CV.out _).mono ?_; rintro e w' ⟨rfl, rfl⟩)
    go_loopw [0, 5] (fun z i wr => ∃ k : Nat, k ≤ t.args.length ∧ i = .int .i64 k ∧ LV wr z (Tm.intoL (t.args.take k) l) ∧ Two wr w.heap.size (.string t.name) (.slice a t.args.length c) ∧ Below w.heap.size w wr) (fun _ i _ => t.args.length - (intOf i).toNat)
    case atStart => exact ⟨0, Nat.zero_le _, rfl, by simpa [Tm.intoL] using HLV.out, H2.out, (Below.refl _ _).alloc (Nat.le_refl _) _⟩
    case round =>
      obtain ⟨k, hk, rfl, hlv, htwo, hbel⟩ := hrel
      have HLW := Lib.hid hlv
      have HB := Lib.hid hbel
      have H2W := Lib.hid htwo
      obtain ⟨d0, d1, d2⟩ := htwo
      obtain ⟨vb2, cb2, rfl, _⟩ := hlv
      clear hbel b0 b1 b2
      by_cases hlt : k < t.args.length
      · obtain ⟨s, hs⟩ : ∃ s, t.args[k]? = some s := ⟨_, List.getElem?_eq_getElem hlt⟩
        obtain ⟨b, off, rfl, va, c0, c1, hva⟩ := HV.out.get hs
        have c0' := carry_cell c0 HB.out
        have c1' := carry_cell c1 HB.out
        have HVA := Lib.hid (hva.kept HB.out)
        have HS := Lib.hid hs
        clear hs c0 c1 hva
        have hroom : (Tm.intoL (t.args.take k) l).length + s.sz ≤ 1048576 := by
          have h1 := Tm.intoL_len t.args k l
          have h2 := sumL_next (f := Tm.sz) HS.out
          have h3 := sumL_take Tm.sz t.args (k + 1)
          have := HSZ.out
          omega
        go_wp2_with fail
        refine (H.out s (mem_of_at HS.out) _ va _ _ HVA.out HLW.out (HL.out s (mem_of_at HS.out)) hroom).mono ?_
        rintro e w' ⟨v', rfl, hv', hb⟩
        have HB2 := Lib.hid (carry_below HB.out (Nat.le_refl _) hb)
        have H2W2 := Lib.hid (H2W.out.kept hb)
        obtain ⟨e0, e1, e2⟩ := H2W.out.kept hb
        have HLV2 : Hid (LV w' v' (Tm.intoL (t.args.take (k + 1)) l)) := Lib.hid (by rw [Tm.intoL_next HS.out]; exact hv')
        obtain ⟨vb3, cb3, rfl, _⟩ := hv'
        clear hb hroom
        go_wp2
        go_roundw
        case rel => exact ⟨k + 1, by omega, by go_num, HLV2.out, H2W2.out, HB2.out⟩
        case measure => simp [intOf]; omega
      · have hke : k = t.args.length := by omega
        have HR : Hid (IntoEnd t l w (.returned (.slice (some ⟨vb2, 0, none⟩) (Tm.intoL (t.args.take k) l).length cb2)) wr) := Lib.hid ⟨_, rfl, by rw [HE.out]; have h := HLW.out; rw [hke, List.take_length] at h ⊢; exact h, HB.out⟩
        go_wp2
        go_ret
        exact HR.out

end Go.Proofs.YtgpmdfhepanahaaGreat

/- The model's TermVariables: a contract. -/
namespace Go.Proofs.YtgpmdfhepanahaaGreat
open Go.RowKit
set_option linter.unusedVariables false

theorem into_any (t : Tm) : IntoT t := Tm.ind (P := IntoT) (fun t ih => into_of t ih) t

theorem lv_nil (w : World) : LV (w.alloc (.cells #[] 9)) (.slice (some ⟨w.heap.size, 0, none⟩) 0 0) [] :=
  ⟨w.heap.size, 0, rfl, Nat.le_refl _, by simp, fun i hi => by simp at hi⟩

theorem vars_any (t : Tm) (w : World) (va : Value) (hv : TmS w va t.args) (hw : t.wt ≤ 1048576) (hz : t.sz ≤ 1048576) :
    Calls Tryz.prog 132 #[.agg #[.string t.name, va]] w (IntoEnd t [] w) := by
  obtain ⟨a, c, rfl⟩ := hv.is_slice
  have hB1 := (Below.refl w.heap.size w).alloc (Nat.le_refl _) (.cells #[.string t.name, .slice a t.args.length c] 31)
  have hB2 := hB1.alloc hB1.size (.cells #[] 9)
  have HB2 := Lib.hid hB2
  have HV := Lib.hid (hv.kept hB2)
  have HL := Lib.hid (lv_nil (w.alloc (.cells #[.string t.name, .slice a t.args.length c] 31)))
  have h2 := two_new w (.string t.name) (.slice a t.args.length c) 31 _ rfl
  have HC := Lib.hid (into_any t _ _ _ _ HV.out HL.out hw (by simpa using hz))
  have e : (w.alloc (.cells #[.string t.name, .slice a t.args.length c] 31)).heap.size = w.heap.size + 1 := by simp
  rw [e] at HC
  obtain ⟨b0, b1, b2⟩ := h2.alloc (.cells #[] 9)
  clear hB1 hB2 hv h2 e
  go_enter Tryz.func132, Tryz.ntmps132
  go_wp2_with fail
  refine HC.out.mono ?_
  rintro e w2 ⟨v2, rfl, hv2, hb2⟩
  have HR : Hid (IntoEnd t [] w (.returned v2) w2) := Lib.hid ⟨_, rfl, hv2, carry_below HB2.out (Nat.le_refl _) hb2⟩
  obtain ⟨b3, c3, rfl, _⟩ := hv2
  go_wp2
  go_ret
  exact HR.out

def varsL (t : Tm) : List ByteArray := if anyB t then t.into [] else []
def SVEnd (t : Tm) (w : World) (e : Ending) (w' : World) : Prop := ∃ v, e = .returned (.tuple #[v, .bool (anyB t)]) ∧ LV w' v (varsL t) ∧ Below w.heap.size w w'

end Go.Proofs.YtgpmdfhepanahaaGreat

/- The program's iterator over the nodes of a term hands over all nodes in preorder: a contract, for every term that lies in memory, whatever the loop's body does beside it. No condition. -/
namespace Go.Proofs.YtgpmdfhepanahaaGreat
open Go.RowKit Go.Shelf
set_option linter.unusedVariables false

attribute [local go_sem] Oper.semAt_some

mutual
/-- The nodes of a term, itself first. -/
def Tm.nds : Tm → List Tm
  | .node n l => .node n l :: Tm.ndsL l
def Tm.ndsL : List Tm → List Tm
  | [] => []
  | t :: r => Tm.nds t ++ Tm.ndsL r
end

theorem Tm.nds_eq (t : Tm) : t.nds = t :: Tm.ndsL t.args := by
  cases t with
  | node n l => rw [Tm.nds]; rfl
theorem Tm.ndsL_append : ∀ a b : List Tm, Tm.ndsL (a ++ b) = Tm.ndsL a ++ Tm.ndsL b
  | [], b => by simp [Tm.ndsL]
  | t :: r, b => by simp [Tm.ndsL, Tm.ndsL_append r b]
theorem Tm.ndsL_next {l : List Tm} {k : Nat} {t : Tm} (h : l[k]? = some t) : Tm.ndsL (l.take (k + 1)) = Tm.ndsL (l.take k) ++ t.nds := by
  rw [take_next h, Tm.ndsL_append]; simp [Tm.ndsL]
theorem Tm.ndsL_all {l : List Tm} {k : Nat} (h : l.length ≤ k) : Tm.ndsL (l.take k) = Tm.ndsL l := by rw [List.take_of_length_le h]
theorem Tm.ndsL_len (l : List Tm) (k : Nat) : (Tm.ndsL (l.take k)).length ≤ (Tm.ndsL l).length := by
  have h := Tm.ndsL_append (l.take k) (l.drop k)
  rw [List.take_append_drop] at h
  rw [h, List.length_append]; omega
theorem Tm.nds_len : ∀ t : Tm, t.nds.length = t.sz := Tm.ind fun t ih => by
  rw [t.nds_eq, t.sz_eq, List.length_cons]
  have : ∀ l : List Tm, (∀ s ∈ l, s.nds.length = s.sz) → (Tm.ndsL l).length = sumL Tm.sz l := by
    intro l
    induction l with
    | nil => intro _; simp [Tm.ndsL, sumL]
    | cons a r ih2 =>
      intro h
      rw [Tm.ndsL, List.length_append, h a List.mem_cons_self, ih2 fun s hs => h s (List.mem_cons_of_mem _ hs)]
      simp [sumL]
  rw [this _ ih]; omega

/-- A node as a round of the loop is handed it: the term, and where its arguments lie. -/
structure Nd where
  tm : Tm
  a : Option Addr
  c : Nat
def Nd.enc (x : Nd) : Array Value := #[.agg #[.string x.tm.name, .slice x.a x.tm.args.length x.c]]

/-- Blocks of terms lie as they lay. -/
def KeepTm (W W' : World) : Prop := ∀ (k : Nat) (a : Array Value) (fz : Nat × Nat), W.heap[k]? = some (Obj.cells a 31 fz) → W'.heap[k]? = some (Obj.cells a 31 fz)
/-- What a round keeps: what lay below, and blocks of terms. -/
def KpT (n₀ : Nat) (W W' : World) : Prop := Below n₀ W W' ∧ KeepTm W W'

theorem KeepTm.refl (W : World) : KeepTm W W := fun _ _ _ h => h
theorem KeepTm.trans {A B C : World} (h : KeepTm A B) (k : KeepTm B C) : KeepTm A C := fun i a fz hi => k i a fz (h i a fz hi)
theorem KeepTm.drew {A B : World} (h : KeepTm A B) : KeepTm A B.drew := h
theorem KeepTm.grown {A B : World} {row : Option Nat} (hg : A.grownBy B row) (hr : ∀ r, row = some r → ∀ (a : Array Value) (fz : Nat × Nat), A.heap[r]? ≠ some (Obj.cells a 31 fz)) : KeepTm A B := fun k a fz h => by
  have hlt : k < A.heap.size := (Array.getElem?_eq_some_iff.1 h).1
  exact (hg.block k hlt (fun e => hr k e.symm a fz h)).trans h
theorem KeepTm.alloc {A B : World} (h : KeepTm A B) (o : Obj) : KeepTm A (B.alloc o) := h.trans (.grown (World.grownBy_alloc B o none) (fun r e => by cases e))

theorem KpT.refl (n₀ : Nat) (W : World) : KpT n₀ W W := ⟨Below.refl _ _, KeepTm.refl _⟩
theorem KpT.trans {n₀ : Nat} {A B C : World} (h : KpT n₀ A B) (k : KpT n₀ B C) : KpT n₀ A C := ⟨h.1.trans k.1, h.2.trans k.2⟩
theorem KpT.alloc {n₀ : Nat} {A B : World} (h : KpT n₀ A B) (hn : n₀ ≤ B.heap.size) (o : Obj) : KpT n₀ A (B.alloc o) := ⟨h.1.alloc hn o, h.2.alloc o⟩
theorem KpT.book {n₀ : Nat} {w : World} (hn : n₀ ≤ w.heap.size) (W : World) (l : Nat) (o o' : Obj) (hl : w.heap.size ≤ l) (h : W.heap[l]? = some o) (hc : o.isCells = false) (hw : o.isWalk = false) : KpT n₀ W (W.putObj l o') :=
  ⟨belowK_b hn W l o o' hl h hc hw, .grown (grownBy_putObj' W l o') (fun r e a fz hr => by cases e; rw [h] at hr; cases hr; cases hc)⟩

/-- A term's own box behind a round. -/
theorem KeepTm.two {A B : World} (h : KeepTm A B) {b : Nat} {x y : Value} (hb : A.heap[b]? = some (Obj.cells #[x, y] 31 (0, 0))) : Two B b x y := by
  have e := h b _ _ hb
  exact ⟨by simp [World.cell?, e], by simp [World.cell?, e], fun j => by simp [World.frozen?, e]⟩

theorem abides_alloc {β : Type} {B : Nat} {J : β → World → Prop} (h : AbidesFrom B J) {s : β} {W : World} (hs : J s W) (o : Obj) : J s (W.alloc o) := h s W _ none hs (World.grownBy_alloc W o none) (fun r e => by cases e)
theorem abides_drew {β : Type} {B : Nat} {J : β → World → Prop} (h : AbidesFrom B J) {s : β} {W : World} (hs : J s W) : J s W.drew := h s W _ none hs ⟨rfl, rfl, rfl, Nat.le_refl _, fun _ _ _ => rfl⟩ (fun r e => by cases e)

theorem roundAny {m m' : Nat} {P : Program} {l : Nat} {f : FuncId} {tmps : Array Value} {assign body : Code} {w : World} {R : Ending → World → Prop}
    (h : RoundIn Fence.wide m P l f tmps assign body w R) : RoundIn Fence.wide m' P l f tmps assign body w R := ⟨h.1, fun c cs _ => h.2 c cs (fun d h => by cases h)⟩
theorem yieldAny {m : Nat} (m' : Nat) {P : Program} {l : Nat} {args : Array Value} {W : World} {R : Ending → World → Prop} (h : YieldAt Fence.wide m P l args W R) : YieldAt Fence.wide m' P l args W R := by
  obtain ⟨fn, tmps, assign, body, hy, hR⟩ := h
  exact ⟨fn, tmps, assign, body, hy, roundAny hR⟩

section
variable (l N : Nat) (w0 : World) (J Jx : List Nd → World → Prop)

/-- What the recursive helper answers. -/
def YEnd (t : List Tm) (pre : List Nd) (W : World) (e : Ending) (W' : World) : Prop :=
  (e = .returned (.bool true) ∧ ∃ xs : List Nd, xs.map Nd.tm = t ∧ J (pre ++ xs) W' ∧ KpT w0.heap.size W W') ∨ (e = .returned (.bool false) ∧ ∃ q, Jx (pre ++ q) W')

def YieldT (t : Tm) : Prop := ∀ (n : Nat) (va : Value) (pre : List Nd) (W : World), TmS w0 va t.args → Below w0.heap.size w0 W → J pre W → pre.length + t.nds.length ≤ N → t.args.length ≤ 9223372036854775806 →
  CallsIn Fence.wide n Tryz.prog 136 #[.agg #[.string t.name, va], .func (.yield l) #[] #[]] W (YEnd w0 J Jx t.nds pre W)
end

set_option maxRecDepth 100000 in
set_option maxHeartbeats 4000000 in
theorem yield_of (l N B : Nat) (w0 : World) (J Jx : List Nd → World → Prop) (hJ : AbidesFrom B J) (hlim : Nat)
    (hY : ∀ m pre (x : Nd) W, J pre W → pre.length < N → YieldAt Fence.wide m Tryz.prog l x.enc W fun e W' =>
      (e = .returned (.bool true) ∧ J (pre ++ [x]) W' ∧ KpT w0.heap.size W W') ∨ (e = .returned (.bool false) ∧ Jx (pre ++ [x]) W'))
    (t : Tm) (ht : t.lim 9223372036854775806) (h : ∀ s ∈ t.args, s.lim 9223372036854775806 → YieldT l N w0 J Jx s) : YieldT l N w0 J Jx t := by
  intro n va pre W hv hB hj hN hl
  obtain ⟨a, c, rfl⟩ := hv.is_slice
  have hdd : ∀ k : Nat, (Fence.wide.depth.isSome = true → 1 ≤ k) := fun k h => by cases h
  have HJ := Lib.hid hJ
  have H := Lib.hid h
  have HV := Lib.hid hv
  have HB := Lib.hid hB
  have HT := Lib.hid ht
  have hN1 : pre.length + 1 + (Tm.ndsL t.args).length ≤ N := by rw [t.nds_eq, List.length_cons] at hN; omega
  obtain ⟨W1, hW1⟩ : ∃ W1, W.alloc (.cells #[.string t.name, .slice a t.args.length c] 31) = W1 := ⟨_, rfl⟩
  have hbox : W1.heap[W.heap.size]? = some (Obj.cells #[.string t.name, .slice a t.args.length c] 31 (0, 0)) := by rw [← hW1]; exact World.alloc_heap_new W _
  have K1 : Hid (KpT w0.heap.size W W1) := Lib.hid (by rw [← hW1]; exact (KpT.refl _ _).alloc hB.size _)
  have two1 : Two W1 W.heap.size (.string t.name) (.slice a t.args.length c) := by rw [← hW1]; exact two_new W _ _ _ _ rfl
  have HJ1 : J pre W1 := by rw [← hW1]; exact abides_alloc hJ hj _
  obtain ⟨b0, b1, b2⟩ := two1
  have hy1 : YieldAt Fence.wide (n - 1) Tryz.prog l (Nd.mk t a c).enc W1 fun e W2 =>
      (e = .returned (.bool true) ∧ J (pre ++ [Nd.mk t a c]) W2 ∧ KpT w0.heap.size W W2 ∧ W2.cell? ⟨W.heap.size, 1, none⟩ = some (.slice a t.args.length c)) ∨ (e = .returned (.bool false) ∧ Jx (pre ++ [Nd.mk t a c]) W2) :=
    YieldAt.mono (hY (n - 1) pre (Nd.mk t a c) W1 HJ1 (by omega)) fun e W2 h => h.elim (fun ⟨he, hj2, hk2⟩ => .inl ⟨he, hj2, K1.out.trans hk2, (hk2.2.two hbox).2.1⟩) .inr
  simp only [Nd.enc] at hy1
  obtain ⟨fn, tmps, assign, body, hy, hR⟩ := hy1
  clear hY hJ h hv ht K1 hN hj
  refine callsIn_of_wp Tryz.func136 rfl trivial ?_ rfl
  simp only [Tryz.ntmps136, List.size_toArray, List.length_cons, List.length_nil, Nat.reduceAdd, Nat.reduceSub, Array.replicate_succ, Array.replicate_zero, List.push_toArray, List.append_toArray, List.nil_append, List.cons_append]
  gi_wp2
  ((try refine ⟨hdd _, ?_⟩); refine hR.mono ?_; clear hR; rintro e W2 (⟨rfl, hJ2, hk2, c2⟩ | ⟨rfl, hx2⟩))
  · have HK2 := Lib.hid hk2
    have HJ2 := Lib.hid hJ2
    clear hJ2 hk2 HJ1 hW1 hbox b0 b1 b2 hy
    gi_wp2
    gi_loopw [14] (fun i wr => ∃ (k : Nat) (xs : List Nd), k ≤ t.args.length ∧ i = .int .i64 k ∧ xs.map Nd.tm = t :: Tm.ndsL (t.args.take k) ∧ J (pre ++ xs) wr ∧ KpT w0.heap.size W wr) (fun i _ => t.args.length - (intOf i).toNat)
    case atStart => exact ⟨0, [Nd.mk t a c], Nat.zero_le _, rfl, by simp [Tm.ndsL], HJ2.out, HK2.out⟩
    case round =>
      obtain ⟨k, xs, hk, rfl, hxs, hjs, hks⟩ := hrel
      have HX := Lib.hid hxs
      have HJS := Lib.hid hjs
      have HKS := Lib.hid hks
      clear hxs hjs hks
      by_cases hlt : k < t.args.length
      · obtain ⟨s, hs⟩ : ∃ s, t.args[k]? = some s := ⟨_, List.getElem?_eq_getElem hlt⟩
        obtain ⟨b, off, rfl, va, c0, c1, hva⟩ := HV.out.get hs
        have HBW : Hid (Below w0.heap.size w0 wr) := Lib.hid (HB.out.trans HKS.out.1)
        have c0' := carry_cell c0 HBW.out
        have c1' := carry_cell c1 HBW.out
        obtain ⟨a', c', rfl⟩ := hva.is_slice
        have HVA := Lib.hid hva
        have HS := Lib.hid hs
        have hsl : s.lim 9223372036854775806 := (Tm.lim_eq.1 HT.out).2.2 s (mem_of_at hs)
        have hlen : xs.length = 1 + (Tm.ndsL (t.args.take k)).length := by have := congrArg List.length HX.out; simp at this; omega
        have hroom : (pre ++ xs).length + s.nds.length ≤ N := by
          have h1 := Tm.ndsL_len t.args (k + 1)
          rw [Tm.ndsL_next HS.out, List.length_append] at h1
          rw [List.length_append]; omega
        have HC := Lib.hid (fun (n : Nat) (W' : World) (hj : J (pre ++ xs) W') (hb : Below w0.heap.size w0 W') => H.out s (mem_of_at HS.out) hsl n _ (pre ++ xs) W' HVA.out hb hj hroom (Tm.lim_eq.1 hsl).2.1)
        have HJA := Lib.hid (abides_alloc HJ.out HJS.out (.cells #[.string s.name, .slice a' s.args.length c'] 31))
        have HKA := Lib.hid (HKS.out.alloc (Nat.le_trans HB.out.size HKS.out.1.size) (.cells #[.string s.name, .slice a' s.args.length c'] 31))
        clear hs c0 c1 hva hroom
        gi_wp2
        refine ⟨trivial, hdd _, ?_⟩
        refine (HC.out _ _ HJA.out (HB.out.trans HKA.out.1)).mono ?_; (rintro e W3 (⟨rfl, ys, hys, hj3, hk3⟩ | ⟨rfl, q, hx3⟩))
        · have HN : Hid ((xs ++ ys).map Nd.tm = t :: Tm.ndsL (t.args.take (k + 1))) := Lib.hid (by rw [List.map_append, HX.out, hys, Tm.ndsL_next HS.out]; rfl)
          have HJ3 : Hid (J (pre ++ (xs ++ ys)) W3) := Lib.hid (by rw [← List.append_assoc]; exact hj3)
          have HK3 := Lib.hid (HKA.out.trans hk3)
          clear hys hj3 hk3
          gi_wp2
          go_roundw
          case rel => exact ⟨k + 1, xs ++ ys, by omega, by go_num, HN.out, HJ3.out, HK3.out⟩
          case measure => simp [intOf]; omega
        · have HX3 : Hid (Jx (pre ++ (xs ++ q)) W3) := Lib.hid (by rw [← List.append_assoc]; exact hx3)
          clear hx3
          gi_wp2
          go_ret
          exact .inr ⟨rfl, xs ++ q, HX3.out⟩
      · have hke : k = t.args.length := by omega
        have HN : Hid (xs.map Nd.tm = t.nds) := Lib.hid (by rw [HX.out, hke, Tm.ndsL_all (Nat.le_refl _), t.nds_eq])
        gi_wp2
        go_ret
        exact .inl ⟨rfl, xs, HN.out, HJS.out, HKS.out⟩
  · gi_wp2
    go_ret
    exact .inr ⟨rfl, [Nd.mk t a c], hx2⟩

theorem yield_any (l N B : Nat) (w0 : World) (J Jx : List Nd → World → Prop) (hJ : AbidesFrom B J)
    (hY : ∀ m pre (x : Nd) W, J pre W → pre.length < N → YieldAt Fence.wide m Tryz.prog l x.enc W fun e W' =>
      (e = .returned (.bool true) ∧ J (pre ++ [x]) W' ∧ KpT w0.heap.size W W') ∨ (e = .returned (.bool false) ∧ Jx (pre ++ [x]) W')) :
    ∀ t : Tm, t.lim 9223372036854775806 → YieldT l N w0 J Jx t :=
  Tm.ind fun t ih ht => yield_of l N B w0 J Jx hJ 0 hY t ht ih

/-- The closure that the iterator is. -/
theorem nodes1_in (n l N B Bt : Nat) (w0 : World) (t : Tm) (va : Value) (ht : t.lim 9223372036854775806) (J Jx : List Nd → World → Prop) (hv : TmS w0 va t.args) (hN : t.nds.length ≤ N)
    (hY : ∀ pre (x : Nd) W, J pre W → pre.length < N → YieldAt Fence.wide (n - 1) Tryz.prog l x.enc W fun e W' =>
      (e = .returned (.bool true) ∧ J (pre ++ [x]) W' ∧ KpT w0.heap.size W W') ∨ (e = .returned (.bool false) ∧ Jx (pre ++ [x]) W'))
    (W : World) (hJ : AbidesFrom B J) (hb : Below w0.heap.size w0 W) (h2 : Two W Bt (.string t.name) va) (h0 : J [] W) :
    CallsIn Fence.wide n Tryz.prog 135 #[.func (.yield l) #[] #[], .pointer (some ⟨Bt, 0, none⟩)] W fun e W' => (∃ v, e = .returned v) ∧
      ((∃ xs : List Nd, xs.map Nd.tm = t.nds ∧ J xs W') ∨ (∃ pre, True ∧ Jx pre W')) := by
  have hdd : ∀ k : Nat, (Fence.wide.depth.isSome = true → 1 ≤ k) := fun k h => by cases h
  have HP := Lib.hid (yield_any l N B w0 J Jx hJ (fun m pre x W hj hl => yieldAny m (hY pre x W hj hl)) t ht (n - 1) va [] W hv hb h0 (by simpa using hN) (Tm.lim_eq.1 ht).2.1)
  obtain ⟨pa, pc, rfl⟩ := hv.is_slice
  obtain ⟨b0, b1, b2⟩ := h2
  clear hY hJ
  refine callsIn_of_wp Tryz.func135 rfl trivial ?_ rfl
  simp only [Tryz.ntmps135, List.size_toArray, List.length_cons, List.length_nil, Nat.reduceAdd, Nat.reduceSub, Array.replicate_succ, Array.replicate_zero, List.push_toArray, List.append_toArray, List.nil_append, List.cons_append]
  gi_wp2
  refine ⟨trivial, hdd _, ?_⟩; refine HP.out.mono ?_; clear HP; (rintro e W1 (⟨rfl, xs, hxs, hJ1, _⟩ | ⟨rfl, q, hx⟩))
  · gi_wp2
    go_end0
    exact ⟨⟨_, rfl⟩, .inl ⟨xs, hxs, by simpa using hJ1⟩⟩
  · gi_wp2
    go_end0
    exact ⟨⟨_, rfl⟩, .inr ⟨_, trivial, hx⟩⟩

/-- The iterator's contract. -/
theorem nodes_stops (n Bt : Nat) (w0 : World) (t : Tm) (va : Value) (ht : t.lim 9223372036854775806) (hv : TmS w0 va t.args) (w : World) (hb : Below w0.heap.size w0 w) (hw : w0.heap.size ≤ w.heap.size) (h2 : Two w Bt (.string t.name) va) :
    SeqStopsK Fence.wide n Tryz.prog 135 #[.pointer (some ⟨Bt, 0, none⟩)] Nd.enc (KpT w0.heap.size) (fun xs => xs.map Nd.tm = t.nds) (fun _ => True) t.nds.length w := fun l J Jx W hW hJ _ hY h =>
  nodes1_in n l _ _ Bt w0 t va ht J Jx hv (Nat.le_refl _) hY W hJ (hb.trans (hW.mono hw)) (h2.kept hW) h

theorem nodesOf_any (t : Tm) (va : Value) (w : World) (hv : TmS w va t.args) :
    Calls Tryz.prog 106 #[.agg #[.string t.name, va]] w fun e w' => e = .returned (.func (.func 135) #[] #[.pointer (some ⟨w.heap.size, 0, none⟩)]) ∧ w' = w.alloc (.cells #[.string t.name, va] 31) := by
  obtain ⟨pa, pc, rfl⟩ := hv.is_slice
  clear hv
  go_enter Tryz.func106, Tryz.ntmps106
  go_wp2
  go_ret
  exact ⟨rfl, rfl⟩

end Go.Proofs.YtgpmdfhepanahaaGreat

/- The list of a term's variables, and its nodes: plain facts. No condition. -/
namespace Go.Proofs.YtgpmdfhepanahaaGreat
open Go.RowKit
set_option linter.unusedVariables false

/-- The variables' names among these nodes. -/
def vn (l : List Tm) : List ByteArray := (l.filter fun s => varB s.name).map Tm.name

theorem vn_cons (t : Tm) (l : List Tm) : vn (t :: l) = if varB t.name then t.name :: vn l else vn l := by
  unfold vn
  rw [List.filter_cons]
  split <;> simp
theorem vn_append (a b : List Tm) : vn (a ++ b) = vn a ++ vn b := by simp [vn]

def putAll (n : List ByteArray) (l : List ByteArray) : List ByteArray := n.foldl (fun l s => putS s l) l
theorem putAll_append (a b l : List ByteArray) : putAll (a ++ b) l = putAll b (putAll a l) := by simp [putAll]

theorem into_fold : ∀ t : Tm, (∀ s ∈ t.nds, varB s.name = true → s.args = []) → ∀ l, t.into l = putAll (vn t.nds) l := Tm.ind fun t ih => by
  intro h l
  rw [Tm.into_eq, t.nds_eq, vn_cons]
  cases hv : varB t.name with
  | true =>
    have he := h t (by rw [t.nds_eq]; exact List.mem_cons_self) hv
    rw [he]
    simp [Tm.ndsL, vn, putAll]
  | false =>
    have hh : ∀ s ∈ Tm.ndsL t.args, varB s.name = true → s.args = [] := fun s hs => h s (by rw [t.nds_eq]; exact List.mem_cons_of_mem _ hs)
    clear h
    have key : ∀ (a : List Tm), (∀ x ∈ a, (∀ s ∈ x.nds, varB s.name = true → s.args = []) → ∀ l, x.into l = putAll (vn x.nds) l) → (∀ s ∈ Tm.ndsL a, varB s.name = true → s.args = []) → ∀ l, Tm.intoL a l = putAll (vn (Tm.ndsL a)) l := by
      intro a
      induction a with
      | nil => intro _ _ l; simp [Tm.intoL, Tm.ndsL, vn, putAll]
      | cons x r ih2 =>
        intro h1 h2 l
        rw [Tm.intoL, Tm.ndsL, vn_append, putAll_append]
        rw [h1 x List.mem_cons_self (fun s hs => h2 s (by rw [Tm.ndsL]; exact List.mem_append_left _ hs)) l]
        exact ih2 (fun y hy => h1 y (List.mem_cons_of_mem _ hy)) (fun s hs => h2 s (by rw [Tm.ndsL]; exact List.mem_append_right _ hs)) _
    exact key t.args ih hh l

theorem ndsL_mem {s : Tm} : ∀ {a : List Tm}, s ∈ Tm.ndsL a → ∃ x ∈ a, s ∈ x.nds
  | x :: r, h => by
    rw [Tm.ndsL] at h
    rcases List.mem_append.1 h with h | h
    · exact ⟨x, List.mem_cons_self, h⟩
    · obtain ⟨y, hy, hs⟩ := ndsL_mem h
      exact ⟨y, List.mem_cons_of_mem _ hy, hs⟩
theorem nodes_leaf : ∀ t : Tm, t.nodesB = true → ∀ s ∈ t.nds, varB s.name = true → s.args = [] := Tm.ind fun t ih => by
  intro h s hs hv
  rw [t.nds_eq] at hs
  rcases List.mem_cons.1 hs with rfl | hs
  · rw [Tm.nodesB_var hv] at h
    exact List.isEmpty_iff.1 h
  · obtain ⟨x, hx, hsx⟩ := ndsL_mem hs
    exact ih x hx (nodes_args h x hx) s hsx hv
theorem any_leaf {t : Tm} (h : anyB t = true) : ∀ s ∈ t.nds, varB s.name = true → s.args = [] := by
  unfold anyB at h
  rcases Bool.or_eq_true _ _ ▸ h with h | h
  · unfold goodB at h
    simp only [Bool.and_eq_true] at h
    exact nodes_leaf t h.2
  · unfold atomB at h
    split at h
    · rename_i he
      simp only [Bool.and_eq_true, List.all_eq_true] at h
      intro s hs hv
      rw [t.nds_eq] at hs
      rcases List.mem_cons.1 hs with rfl | hs
      · rw [eq_name he, var_eq] at hv; cases hv
      · obtain ⟨x, hx, hsx⟩ := ndsL_mem hs
        exact nodes_leaf x (h.2.2 x hx) s hsx hv
    · unfold goodB at h
      simp only [Bool.and_eq_true] at h
      exact nodes_leaf t h.2.2

theorem put_mem (s : ByteArray) : ∀ (l : List ByteArray) (x : ByteArray), x ∈ putS s l ↔ x = s ∨ x ∈ l
  | [], x => by simp [putS]
  | q :: r, x => by
    unfold putS
    split
    · simp only [List.mem_cons, put_mem s r x]
      constructor
      · rintro (h | h | h) <;> simp [h]
      · rintro (h | h | h) <;> simp [h]
    · split
      · rename_i h
        have e : q = s := by rw [beq_iff_eq] at h; exact toList_inj h
        subst e
        simp
      · simp
theorem putAll_mem : ∀ (n l : List ByteArray) (x : ByteArray), x ∈ putAll n l ↔ x ∈ n ∨ x ∈ l
  | [], l, x => by simp [putAll]
  | s :: r, l, x => by
    show x ∈ putAll r (putS s l) ↔ _
    rw [putAll_mem r _ x, put_mem, List.mem_cons]
    constructor
    · rintro (h | h | h) <;> simp [h]
    · rintro ((h | h) | h) <;> simp [h]


theorem vn_mem {l : List Tm} {x : ByteArray} : x ∈ vn l ↔ ∃ s ∈ l, varB s.name = true ∧ s.name = x := by
  unfold vn
  rw [List.mem_map]
  constructor
  · rintro ⟨s, hs, e⟩
    rw [List.mem_filter] at hs
    exact ⟨s, hs.1, hs.2, e⟩
  · rintro ⟨s, hs, hv, e⟩
    exact ⟨s, List.mem_filter.2 ⟨hs, hv⟩, e⟩

/-- A valid term's variables, as the model lists them: the names of its nodes that are variables. -/
theorem into_mem {t : Tm} (h : goodB t = true) (x : ByteArray) : x ∈ t.into [] ↔ ∃ s ∈ t.nds, varB s.name = true ∧ s.name = x := by
  have hn : t.nodesB = true := by unfold goodB at h; simp only [Bool.and_eq_true] at h; exact h.2
  rw [into_fold t (nodes_leaf t hn) [], putAll_mem, vn_mem]
  simp

end Go.Proofs.YtgpmdfhepanahaaGreat

/- Whether a list of bindings is idempotent, as a Bool: facts on it. No condition. -/
namespace Go.Proofs.YtgpmdfhepanahaaGreat
open Go.RowKit
set_option linter.unusedVariables false

/-- A variable of this name is bound. -/
def boundB (l : List Bd) (nm : ByteArray) : Bool := l.any fun d => decide (d.var = nm)
theorem bound_iff {l : List Bd} {nm : ByteArray} : boundB l nm = true ↔ ∃ d ∈ l, d.var = nm := by
  unfold boundB
  rw [List.any_eq_true]
  constructor
  · rintro ⟨d, hd, h⟩; exact ⟨d, hd, of_decide_eq_true h⟩
  · rintro ⟨d, hd, h⟩; exact ⟨d, hd, decide_eq_true h⟩
theorem bound_no {l : List Bd} {nm : ByteArray} : boundB l nm = false ↔ ∀ d ∈ l, d.var ≠ nm := by
  rw [← Bool.not_eq_true, bound_iff]
  constructor
  · intro h d hd e; exact h ⟨d, hd, e⟩
  · rintro h ⟨d, hd, e⟩; exact h d hd e

/-- None of the first k names is bound. -/
def freeS (l : List Bd) (ss : List ByteArray) (k : Nat) : Bool := (ss.take k).all fun x => !boundB l x
theorem freeS_next {l : List Bd} {ss : List ByteArray} {k : Nat} {x : ByteArray} (h : ss[k]? = some x) : freeS l ss (k + 1) = (freeS l ss k && !boundB l x) := by
  unfold freeS
  rw [List.take_add_one, h, List.all_append]
  simp
theorem freeS_no {l : List Bd} {ss : List ByteArray} {k : Nat} {x : ByteArray} (h : ss[k]? = some x) (hb : boundB l x = true) : freeS l ss ss.length = false := by
  unfold freeS
  rw [List.take_length, List.all_eq_false]
  exact ⟨x, List.mem_of_getElem? h, by simp [hb]⟩

def ideAt (l : List Bd) (d : Bd) : Bool := freeS l (d.tm.into []) (d.tm.into []).length
def ideS (l : List Bd) (k : Nat) : Bool := (l.take k).all (ideAt l)
theorem ideS_next {l : List Bd} {k : Nat} {d : Bd} (h : l[k]? = some d) : ideS l (k + 1) = (ideS l k && ideAt l d) := by
  unfold ideS
  rw [List.take_add_one, h, List.all_append]
  simp
theorem ideS_no {l : List Bd} {k : Nat} {d : Bd} (h : l[k]? = some d) (ho : ideAt l d = false) : ideS l l.length = false := by
  unfold ideS
  rw [List.take_length, List.all_eq_false]
  exact ⟨d, List.mem_of_getElem? h, by simp [ho]⟩

def ide (l : List Bd) : Bool := goodS l && ideS l l.length
theorem ide_bad {l : List Bd} (h : goodS l = false) : ide l = false := by unfold ide; rw [h]; rfl
theorem ide_good {l : List Bd} (h : goodS l = true) : ide l = ideS l l.length := by unfold ide; rw [h]; rfl

/-- The names of the nodes say the same, as the bound names are variables' names. -/
theorem ide_nds {l : List Bd} {k : Nat} {d : Bd} (h : goodS l = true) (hd : l[k]? = some d) : ideAt l d = (d.tm.nds.map Tm.name).all fun x => !boundB l x := by
  have hg := okAt_good (goodS_at h hd)
  unfold ideAt freeS
  rw [List.take_length, Bool.eq_iff_iff, List.all_eq_true, List.all_eq_true]
  constructor
  · intro hh x hx
    obtain ⟨s, hs, e⟩ := List.mem_map.1 hx
    cases hb : boundB l x with
    | false => rfl
    | true =>
      obtain ⟨p, hp, e2⟩ := bound_iff.1 hb
      obtain ⟨j, hj⟩ := List.getElem?_of_mem hp
      have hv := okAt_var (goodS_at h hj)
      have := hh x ((into_mem hg x).2 ⟨s, hs, by rw [e, ← e2]; exact hv, e⟩)
      rw [hb] at this; exact this
  · intro hh x hx
    obtain ⟨s, hs, _, e⟩ := (into_mem hg x).1 hx
    exact hh x (List.mem_map.2 ⟨s, hs, e⟩)

end Go.Proofs.YtgpmdfhepanahaaGreat

/- A substitution applied to a term, as a function of trees: facts on it. No condition. -/
namespace Go.Proofs.YtgpmdfhepanahaaGreat
open Go.RowKit
set_option linter.unusedVariables false

/-- The term that a list of bindings gives for a variable's name. -/
def look (l : List Bd) (n : ByteArray) : Tm := match l.find? (fun d => decide (d.var = n)) with
  | some d => d.tm
  | none => .node n []
theorem look_some {l : List Bd} {n : ByteArray} {k : Nat} {d : Bd} (hk : l[k]? = some d) (hn : d.var = n) (hf : ∀ j x, j < k → l[j]? = some x → x.var ≠ n) : look l n = d.tm := by
  have h : l.find? (fun d => decide (d.var = n)) = some d := by
    induction l generalizing k with
    | nil => cases hk
    | cons a r ih =>
      cases k with
      | zero =>
        simp at hk; subst hk
        rw [List.find?_cons_of_pos (by simp [hn])]
      | succ k =>
        have ha := hf 0 a (by omega) rfl
        rw [List.find?_cons_of_neg (by simp [ha])]
        exact ih (k := k) (by simpa using hk) (fun j x hj hx => hf (j + 1) x (by omega) (by simpa using hx))
  unfold look; rw [h]
theorem look_none {l : List Bd} {n : ByteArray} (h : boundB l n = false) : look l n = .node n [] := by
  have h2 := bound_no.1 h
  have : l.find? (fun d => decide (d.var = n)) = none := by
    rw [List.find?_eq_none]
    intro d hd
    simp [h2 d hd]
  unfold look; rw [this]

mutual
/-- The term with its variables replaced. -/
def Tm.app (l : List Bd) : Tm → Tm
  | .node n a => if varB n then look l n else .node n (Tm.appL l a)
def Tm.appL (l : List Bd) : List Tm → List Tm
  | [] => []
  | t :: r => t.app l :: Tm.appL l r
end

theorem Tm.app_var {l : List Bd} {t : Tm} (h : varB t.name = true) : t.app l = look l t.name := by
  cases t with
  | node n a => rw [Tm.app]; exact if_pos h
theorem Tm.app_sym {l : List Bd} {t : Tm} (h : varB t.name = false) : t.app l = .node t.name (Tm.appL l t.args) := by
  cases t with
  | node n a => rw [Tm.app, if_neg (by simpa [Tm.name] using h)]; rfl
theorem Tm.appL_len (l : List Bd) : ∀ r : List Tm, (Tm.appL l r).length = r.length
  | [] => rfl
  | t :: r => by rw [Tm.appL, List.length_cons, Tm.appL_len l r, List.length_cons]
theorem Tm.appL_at {l : List Bd} : ∀ {r : List Tm} {k : Nat} {t : Tm}, r[k]? = some t → (Tm.appL l r)[k]? = some (t.app l)
  | [], _, _, h => by cases h
  | a :: r, 0, t, h => by simp at h; subst h; rw [Tm.appL]; rfl
  | a :: r, k + 1, t, h => by rw [Tm.appL]; simpa using Tm.appL_at (r := r) (k := k) (by simpa using h)

/-- What ApplySubstitution answers. -/
def appOk (l : List Bd) (t : Tm) : Bool := goodS l && (anyB t && anyB (t.app l))
def appR (l : List Bd) (t : Tm) : Tm := if appOk l t then t.app l else .node ByteArray.empty []
theorem appR_yes {l : List Bd} {t : Tm} (h : appOk l t = true) : appR l t = t.app l := if_pos h
theorem appR_no {l : List Bd} {t : Tm} (h : appOk l t = false) : appR l t = .node ByteArray.empty [] := if_neg (by rw [h]; simp)

theorem varB_size {s : ByteArray} (h : varB s = true) : s.size ≤ 4 := by
  apply Decidable.byContradiction
  intro hn
  rw [varB_short (by omega)] at h; cases h
theorem symB_size {s : ByteArray} (h : symB s = true) : s.size ≤ 6 := by
  apply Decidable.byContradiction
  intro hn
  rw [symB_short (by omega)] at h; cases h
theorem sumL_le_mul {f g : Tm → Nat} {c : Nat} : ∀ {l : List Tm}, (∀ t ∈ l, f t + 1 ≤ c * g t) → sumL f l + l.length ≤ c * sumL g l
  | [], _ => by simp [sumL]
  | t :: r, h => by
    have h1 := h t List.mem_cons_self
    have h2 := sumL_le_mul (l := r) (fun s hs => h s (List.mem_cons_of_mem _ hs))
    simp only [sumL, List.length_cons, Nat.mul_add]; omega
theorem nodes_wt : ∀ t : Tm, t.nodesB = true → t.wt + 1 ≤ 7 * t.sz := Tm.ind fun t ih => by
  intro h
  rw [t.wt_eq, t.sz_eq]
  cases hv : varB t.name with
  | true =>
    rw [Tm.nodesB_var hv, List.isEmpty_iff] at h
    rw [h]
    have := varB_size hv
    simp [sumL]; omega
  | false =>
    rw [Tm.nodesB_sym hv] at h
    simp only [Bool.and_eq_true, List.all_eq_true, decide_eq_true_iff] at h
    have h1 := symB_size h.1
    have h2 := sumL_le_mul (f := Tm.wt) (g := Tm.sz) (c := 7) (l := t.args) (fun s hs => ih s hs (h.2.2 s hs))
    omega
theorem isEq_size {s : ByteArray} (h : isEqB s = true) : s.size ≤ 1 := by
  unfold isEqB at h
  have e := eq_of_beq h
  rw [ByteArray.toList_eq] at e
  have h2 : s.data.toList.length = 1 := by rw [e]; rfl
  have h3 : s.data.toList.length = s.size := Array.length_toList
  omega
theorem goodB_wt {t : Tm} (h : goodB t = true) : t.wt ≤ 210 := by
  unfold goodB at h
  simp only [Bool.and_eq_true] at h
  have h1 := nodes_wt t h.2
  have h2 : t.sz ≤ 30 := by have := h.1; simp [fitsB] at this; exact this.1
  omega
theorem anyB_wt {t : Tm} (h : anyB t = true) : t.wt ≤ 210 := by
  have hf := anyB_fits h
  have hz : t.sz ≤ 30 := by simp [fitsB] at hf; exact hf.1
  unfold anyB at h
  rcases (Bool.or_eq_true _ _).mp h with h | h
  · exact goodB_wt h
  · unfold atomB at h
    split at h
    · rename_i he
      simp only [Bool.and_eq_true, List.all_eq_true] at h
      have h1 := isEq_size he
      have h2 := sumL_le_mul (f := Tm.wt) (g := Tm.sz) (c := 7) (l := t.args) (fun s hs => nodes_wt s (h.2.2 s hs))
      rw [t.wt_eq]
      rw [t.sz_eq] at hz
      omega
    · simp only [Bool.and_eq_true] at h
      exact goodB_wt h.2

theorem look_wt {l : List Bd} {n : ByteArray} {M : Nat} (h : ∀ d ∈ l, d.tm.wt ≤ M) : (look l n).wt ≤ n.size + M := by
  unfold look
  split
  · rename_i d hd
    have := h d (List.mem_of_find?_eq_some hd); omega
  · rw [Tm.wt_eq]; simp [Tm.name, Tm.args, sumL]
theorem sumL_app {l : List Bd} {M : Nat} : ∀ {r : List Tm}, (∀ s ∈ r, (s.app l).wt ≤ s.wt + s.sz * M) → sumL Tm.wt (Tm.appL l r) ≤ sumL Tm.wt r + sumL Tm.sz r * M
  | [], _ => by simp [Tm.appL, sumL]
  | t :: r, h => by
    have h1 := h t List.mem_cons_self
    have h2 := sumL_app (r := r) (fun s hs => h s (List.mem_cons_of_mem _ hs))
    rw [Tm.appL]
    simp only [sumL, Nat.add_mul]; omega
theorem app_wt {l : List Bd} {M : Nat} (h : ∀ d ∈ l, d.tm.wt ≤ M) : ∀ t : Tm, (t.app l).wt ≤ t.wt + t.sz * M := Tm.ind fun t ih => by
  cases hv : varB t.name with
  | true =>
    rw [Tm.app_var hv]
    have h1 := look_wt (n := t.name) h
    have h2 := t.wt_name
    have h3 : M ≤ t.sz * M := Nat.le_mul_of_pos_left M t.sz_pos
    omega
  | false =>
    rw [Tm.app_sym hv, Tm.wt_eq (.node _ _), t.wt_eq, t.sz_eq]
    show t.name.size + (Tm.appL l t.args).length + sumL Tm.wt (Tm.appL l t.args) ≤ _
    rw [Tm.appL_len]
    have h2 := sumL_app (r := t.args) ih
    rw [Nat.add_mul, Nat.one_mul]; omega
theorem app_wt_good {l : List Bd} {t : Tm} (hl : goodS l = true) (ht : anyB t = true) : (t.app l).wt ≤ 6510 := by
  have h1 := app_wt (l := l) (M := 210) (fun d hd => by obtain ⟨k, hk⟩ := List.getElem?_of_mem hd; exact goodB_wt (okAt_good (goodS_at hl hk))) t
  have hf := anyB_fits ht
  have hz : t.sz ≤ 30 := by simp [fitsB] at hf; exact hf.1
  have h2 := anyB_wt ht
  have h3 : t.sz * 210 ≤ 30 * 210 := Nat.mul_le_mul_right _ hz
  omega
theorem appR_wt (l : List Bd) (t : Tm) : (appR l t).wt ≤ 1048576 := by
  cases h : appOk l t with
  | true =>
    rw [appR_yes h]
    unfold appOk at h
    simp only [Bool.and_eq_true] at h
    have := anyB_wt h.2.2; omega
  | false => rw [appR_no h, Tm.wt_eq]; simp [Tm.name, Tm.args, sumL]

end Go.Proofs.YtgpmdfhepanahaaGreat
