/- Several texts in one: each says what it proves. No condition but theirs. -/
import Derived.Test.YtdpeanpmjhpblaaGreatStG
import Derived.Test.YtdpeanpmjhpblaaGreatThr
import Derived.Test.YtdpeanpmjhpblaaGreatSz
import Derived.Test.YtdpeanpmjhpblaaGreatInts
import Derived.Test.YtdpeanpmjhpblaaGreatOpenI
import Derived.Test.YtdpeanpmjhpblaaGreatTmV
import Derived.Test.YtdpeanpmjhpblaaGreatCnG
import Derived.Test.YtdpeanpmjhpblaaGreatSizes
/- Orderings: symbols, weights and the weight of variables; how one lies in memory; the laws' helpers on one: contracts. Lists are no longer than any slice is. -/
namespace Go.Proofs.YtdpeanpmjhpblaaGreat
open Go.RowKit
set_option linter.unusedVariables false

/-- An ordering. -/
structure Od where
  sy : List ByteArray
  ws : List Int
  va : Int

/-- How its two lists lie. -/
structure OdV (w : World) (sv wv : Value) (o : Od) : Prop where
  st : StrsV w sv o.sy
  is : IntsV w wv o.ws
  cp : ∀ a m c, sv = .slice a m c → m ≤ c
theorem OdV.kept {w w' : World} {sv wv : Value} {o : Od} (h : OdV w sv wv o) (hb : Below w.heap.size w w') : OdV w' sv wv o := ⟨h.st.below hb, h.is.kept hb, h.cp⟩

/-- The elements of a slice of strings. -/
def StrG (w : World) (a : Option Addr) (ss : List ByteArray) : Prop := ∀ k x, ss[k]? = some x → ∃ b off, a = some ⟨b, off, none⟩ ∧ w.cell? ⟨b, off + k, none⟩ = some (.string x)
theorem StrsV.parts {w : World} {v : Value} {ss : List ByteArray} (h : StrsV w v ss) : ∃ a c, v = .slice a ss.length c ∧ StrG w a ss := by
  rcases h with ⟨a, c, rfl, rfl⟩ | ⟨b, off, c, rfl, hp, hc⟩
  · exact ⟨a, c, rfl, fun k x hk => by cases hk⟩
  · refine ⟨_, c, rfl, fun k x hk => ⟨b, off, rfl, ?_⟩⟩
    have hlt : k < ss.length := (List.getElem?_eq_some_iff.1 hk).1
    rw [hc k hlt, getD_eq hlt]
    rw [List.getElem?_eq_getElem hlt] at hk
    injection hk with hk
    rw [hk]
theorem StrG.of {w : World} {a : Option Addr} {n c : Nat} {ss : List ByteArray} (h : StrsV w (.slice a n c) ss) : StrG w a ss := by
  obtain ⟨a', c', e, hg⟩ := h.parts
  injection e with e1 e2 e3
  rw [e1]; exact hg
theorem StrG.below {w w' : World} {a : Option Addr} {ss : List ByteArray} (h : StrG w a ss) (hb : Below w.heap.size w w') : StrG w' a ss := fun k x hk => by
  obtain ⟨b, off, ha, hc⟩ := h k x hk
  exact ⟨b, off, ha, carry_cell hc hb⟩
/-- A first part of such a slice. -/
theorem StrG.first {w : World} {a : Option Addr} {ss : List ByteArray} (h : StrG w a ss) (k c : Nat) (hk : k ≤ ss.length) : StrsV w (.slice a k c) (ss.take k) := by
  by_cases h0 : k = 0
  · subst h0; exact .inl ⟨a, c, rfl, by simp⟩
  · obtain ⟨b, off, rfl, _⟩ := h 0 _ (List.getElem?_eq_getElem (by omega))
    have hl : (ss.take k).length = k := by rw [List.length_take]; omega
    refine .inr ⟨b, off, c, by rw [hl], by omega, fun i hi => ?_⟩
    obtain ⟨b', off', e, hc⟩ := h i _ (List.getElem?_eq_getElem (show i < ss.length by omega))
    injection e with e
    injection e with e1 e2
    subst e1 e2
    rw [hc, getD_eq hi, List.getElem_take]

def IntG (w : World) (a : Option Addr) (is : List Int) : Prop := ∀ k x, is[k]? = some x → ∃ b off, a = some ⟨b, off, none⟩ ∧ w.cell? ⟨b, off + k, none⟩ = some (.int .i64 x)
theorem IntG.of {w : World} {a : Option Addr} {n c : Nat} {is : List Int} (h : IntsV w (.slice a n c) is) : IntG w a is := by
  obtain ⟨a', c', e, hg⟩ := h
  injection e with e1 e2 e3
  rw [e1]; exact hg
theorem IntG.below {w w' : World} {a : Option Addr} {is : List Int} (h : IntG w a is) (hb : Below w.heap.size w w') : IntG w' a is := fun k x hk => by
  obtain ⟨b, off, ha, hc⟩ := h k x hk
  exact ⟨b, off, ha, carry_cell hc hb⟩

/-- Both lists' values, opened. -/
theorem OdV.open {w : World} {sv wv : Value} {o : Od} (h : OdV w sv wv o) : ∃ sa sc wa wc, sv = .slice sa o.sy.length sc ∧ wv = .slice wa o.ws.length wc := by
  obtain ⟨sa, sc, e1, _⟩ := h.st.parts
  obtain ⟨wa, wc, e2, _⟩ := h.is
  exact ⟨sa, sc, wa, wc, e1, e2⟩

/-- The bytes of all strings. -/
def sumS : List ByteArray → Nat
  | [] => 0
  | s :: r => s.size + sumS r
theorem sumS_append (a b : List ByteArray) : sumS (a ++ b) = sumS a + sumS b := by
  induction a with
  | nil => simp [sumS]
  | cons t r ih => simp [sumS, ih]; omega
theorem sumS_next {l : List ByteArray} {k : Nat} {t : ByteArray} (h : l[k]? = some t) : sumS (l.take (k + 1)) = sumS (l.take k) + t.size := by
  rw [take_next h, sumS_append]; simp [sumS]
theorem sumS_take (l : List ByteArray) (k : Nat) : sumS (l.take k) ≤ sumS l := by
  have h := sumS_append (l.take k) (l.drop k)
  rw [List.take_append_drop] at h
  omega
theorem sumS_mem {l : List ByteArray} {t : ByteArray} (h : t ∈ l) : t.size ≤ sumS l := by
  induction l with
  | nil => cases h
  | cons s r ih =>
    rcases List.mem_cons.1 h with e | h
    · subst e; simp [sumS]
    · have := ih h; simp [sumS]; omega
/-- What the laws' size helper counts. -/
def Od.wt (o : Od) : Nat := o.sy.length + sumS o.sy + o.ws.length
def Od.lim (m : Nat) (o : Od) : Prop := o.sy.length ≤ m ∧ (∀ s ∈ o.sy, s.size ≤ m) ∧ o.ws.length ≤ m
theorem Od.lim_of_wt (o : Od) (m : Nat) (h : o.wt ≤ m) : o.lim m := by
  unfold Od.wt at h
  exact ⟨by omega, fun s hs => by have := sumS_mem hs; omega, by omega⟩

/-- A copy of an ordering that the law made. -/
def OdO (w : World) (lo mid hi : Nat) (sv wv : Value) (o : Od) : Prop := OwnS w lo mid sv o.sy ∧ IntsO w (Ivl mid hi) wv o.ws ∧ hi ≤ w.heap.size ∧ lo ≤ mid ∧ mid ≤ hi
theorem OdO.read {w : World} {lo mid hi : Nat} {sv wv : Value} {o : Od} (h : OdO w lo mid hi sv wv o) : OdV w sv wv o := ⟨h.1.read, h.2.1.read, owns_cap h.1.1⟩
theorem OdO.kept {w w' : World} {lo mid hi : Nat} {sv wv : Value} {o : Od} (h : OdO w lo mid hi sv wv o) (hb : Below w.heap.size w w') : OdO w' lo mid hi sv wv o :=
  ⟨h.1.kept hb, h.2.1.frame fun k hk => hb.block k (Nat.lt_of_lt_of_le hk.2 h.2.2.1), Nat.le_trans h.2.2.1 hb.size, h.2.2.2⟩

def ToOEnd (o : Od) (w : World) (e : Ending) (w' : World) : Prop :=
  ∃ sv wv mid, e = .returned (.agg #[sv, wv, .int .i64 o.va]) ∧ OdO w' w.heap.size mid w'.heap.size sv wv o ∧ Below w.heap.size w w'

end Go.Proofs.YtdpeanpmjhpblaaGreat

/- Orderings: validity, rank, covered terms, weights, as plain facts. No condition. -/
namespace Go.Proofs.YtdpeanpmjhpblaaGreat
open Go.RowKit
set_option linter.unusedVariables false

/-- The i-th symbol and its weight may stand there. -/
def Od.step (o : Od) (i : Nat) : Bool := symB (o.sy.getD i ByteArray.empty) && !Lib.containsS (o.sy.take i) (o.sy.getD i ByteArray.empty) && inB (o.ws.getD i 0) o.va 100
def Od.heads (o : Od) : Bool := inB (o.sy.length : Int) 1 12 && decide (o.ws.length = o.sy.length) && inB o.va 1 100
def Od.good (o : Od) : Bool := o.heads && (List.range o.sy.length).all o.step
theorem Od.good_steps {o : Od} (h : o.heads = true) (hs : ∀ i, i < o.sy.length → o.step i = true) : o.good = true := by
  unfold Od.good
  rw [h, Bool.true_and, List.all_eq_true]
  intro i hi
  exact hs i (List.mem_range.1 hi)
theorem Od.good_no {o : Od} {i : Nat} (hi : i < o.sy.length) (h : o.step i = false) : o.good = false := by
  unfold Od.good
  have : (List.range o.sy.length).all o.step = false := by
    rw [List.all_eq_false]; exact ⟨i, List.mem_range.2 hi, by rw [h]; simp⟩
  rw [this, Bool.and_false]
theorem Od.good_head {o : Od} (h : o.heads = false) : o.good = false := by unfold Od.good; rw [h, Bool.false_and]
theorem inB_iff {x a b : Int} : inB x a b = true ↔ a ≤ x ∧ x ≤ b := by simp [inB]
structure Od.Fine (o : Od) : Prop where
  n1 : 1 ≤ o.sy.length
  n2 : o.sy.length ≤ 12
  wn : o.ws.length = o.sy.length
  v1 : 1 ≤ o.va
  v2 : o.va ≤ 100
  stp : ∀ i, i < o.sy.length → o.step i = true
theorem Od.good_fine {o : Od} (h : o.good = true) : o.Fine := by
  unfold Od.good Od.heads at h
  simp only [Bool.and_eq_true, decide_eq_true_eq, inB_iff, List.all_eq_true] at h
  obtain ⟨⟨⟨h1, h2⟩, h3⟩, h4⟩ := h
  exact ⟨by omega, by omega, h2, h3.1, h3.2, fun i hi => h4 i (List.mem_range.2 hi)⟩
theorem Od.Fine.sym {o : Od} (h : o.Fine) {i : Nat} {s : ByteArray} (hi : o.sy[i]? = some s) : symB s = true := by
  have hlt := (List.getElem?_eq_some_iff.1 hi).1
  have hs := h.stp i hlt
  unfold Od.step at hs
  simp only [Bool.and_eq_true] at hs
  rw [List.getD_eq_getElem?_getD, hi] at hs
  exact hs.1.1
theorem Od.Fine.weight {o : Od} (h : o.Fine) {i : Nat} {x : Int} (hi : o.ws[i]? = some x) : 1 ≤ x ∧ x ≤ 100 := by
  have hlt := (List.getElem?_eq_some_iff.1 hi).1
  have hs := h.stp i (by have := h.wn; omega)
  unfold Od.step at hs
  simp only [Bool.and_eq_true, inB_iff] at hs
  rw [List.getD_eq_getElem?_getD (l := o.ws), hi] at hs
  have := hs.2
  have := h.v1
  simp at *
  omega

/-- The index of a name in a list, or -1. -/
def rk (l : List ByteArray) (nm : ByteArray) : Int := match l.findIdx? (fun s => decide (s = nm)) with
  | some k => (k : Int)
  | none => -1
theorem rk_at {l : List ByteArray} {nm : ByteArray} {k : Nat} (h : l[k]? = some nm) (hb : ∀ j, j < k → l[j]? ≠ some nm) : rk l nm = k := by
  have hlt := (List.getElem?_eq_some_iff.1 h).1
  have e : l.findIdx? (fun s => decide (s = nm)) = some k := by
    rw [List.findIdx?_eq_some_iff_getElem]
    refine ⟨hlt, ?_, fun j hj => ?_⟩
    · rw [List.getElem?_eq_getElem hlt] at h; injection h with h; simp [h]
    · have := hb j hj
      rw [List.getElem?_eq_getElem (by omega)] at this
      simp at this ⊢
      exact this
  unfold rk; rw [e]
theorem rk_no {l : List ByteArray} {nm : ByteArray} (h : nm ∉ l) : rk l nm = -1 := by
  have e : l.findIdx? (fun s => decide (s = nm)) = none := by
    rw [List.findIdx?_eq_none_iff]
    intro s hs
    have : s ≠ nm := fun e => h (e ▸ hs)
    simp [this]
  unfold rk; rw [e]
theorem rk_none {l : List ByteArray} {nm : ByteArray} (h : ∀ j, j < l.length → l[j]? ≠ some nm) : rk l nm = -1 := rk_no fun hm => by
  obtain ⟨j, hj⟩ := List.mem_iff_getElem?.1 hm
  exact h j (List.getElem?_eq_some_iff.1 hj).1 hj
theorem rk_ways (l : List ByteArray) (nm : ByteArray) : (nm ∉ l ∧ rk l nm = -1) ∨ ∃ k : Nat, rk l nm = k ∧ k < l.length ∧ l[k]? = some nm := by
  unfold rk
  cases e : l.findIdx? (fun s => decide (s = nm)) with
  | none =>
    rw [List.findIdx?_eq_none_iff] at e
    exact .inl ⟨fun hm => by simpa using e nm hm, rfl⟩
  | some k =>
    obtain ⟨h1, h2, _⟩ := List.findIdx?_eq_some_iff_getElem.1 e
    refine .inr ⟨k, rfl, h1, ?_⟩
    rw [List.getElem?_eq_getElem h1]
    simp at h2
    rw [h2]
theorem rk_has {l : List ByteArray} {nm : ByteArray} : (0 ≤ rk l nm) ↔ nm ∈ l := by
  rcases rk_ways l nm with ⟨h1, h2⟩ | ⟨k, h1, h2, h3⟩
  · rw [h2]; exact ⟨fun h => by omega, fun h => absurd h h1⟩
  · rw [h1]; exact ⟨fun _ => List.mem_of_getElem? h3, fun _ => by omega⟩
theorem rk_inj {l : List ByteArray} {a b : ByteArray} (ha : a ∈ l) (h : rk l a = rk l b) : a = b := by
  rcases rk_ways l a with ⟨h1, h2⟩ | ⟨k, h1, h2, h3⟩
  · exact absurd ha h1
  · rcases rk_ways l b with ⟨g1, g2⟩ | ⟨j, g1, g2, g3⟩
    · omega
    · have : k = j := by omega
      subst this
      rw [h3] at g3; injection g3
theorem rk_lt (l : List ByteArray) (nm : ByteArray) : rk l nm < l.length ∧ -1 ≤ rk l nm := by
  rcases rk_ways l nm with ⟨h1, h2⟩ | ⟨k, h1, h2, h3⟩ <;> omega

/-- A node that the ordering covers. -/
def Od.nodeC (o : Od) (s : Tm) : Bool := varB s.name || decide (0 ≤ rk o.sy s.name)
def Od.cov (o : Od) (t : Tm) : Bool := t.nds.all o.nodeC
def Od.covL (o : Od) (l : List Tm) : Bool := (Tm.ndsL l).all o.nodeC
theorem Od.cov_eq (o : Od) (t : Tm) : o.cov t = (o.nodeC t && o.covL t.args) := by
  unfold Od.cov Od.covL; rw [t.nds_eq, List.all_cons]
theorem Od.covL_next {o : Od} {l : List Tm} {k : Nat} {t : Tm} (h : l[k]? = some t) : o.covL (l.take (k + 1)) = (o.covL (l.take k) && o.cov t) := by
  unfold Od.covL Od.cov; rw [Tm.ndsL_next h, List.all_append]
theorem Od.covL_all {o : Od} {l : List Tm} : o.covL l = l.all o.cov := by
  induction l with
  | nil => simp [Od.covL, Tm.ndsL]
  | cons t r ih =>
    rw [List.all_cons, ← ih]
    unfold Od.covL Od.cov
    rw [Tm.ndsL, List.all_append]
theorem Od.cov_arg {o : Od} {t s : Tm} (h : o.cov t = true) (hs : s ∈ t.args) : o.cov s = true := by
  rw [Od.cov_eq, Bool.and_eq_true, Od.covL_all, List.all_eq_true] at h
  exact h.2 s hs
theorem Od.cov_no {o : Od} {t s : Tm} (hs : s ∈ t.args) (h : o.cov s = false) : o.cov t = false := by
  cases e : o.cov t with
  | false => rfl
  | true => rw [Od.cov_arg e hs] at h; cases h

/-- The weight of a node, and of terms. -/
def Od.wN (o : Od) (s : Tm) : Int := if varB s.name then o.va else if 0 ≤ rk o.sy s.name then o.ws.getD (rk o.sy s.name).toNat 0 else 0
def Od.wNs (o : Od) : List Tm → Int
  | [] => 0
  | s :: r => o.wN s + o.wNs r
def Od.wT (o : Od) (t : Tm) : Int := o.wNs t.nds
theorem Od.wNs_append (o : Od) (a b : List Tm) : o.wNs (a ++ b) = o.wNs a + o.wNs b := by
  induction a with
  | nil => simp [Od.wNs]
  | cons t r ih => simp [Od.wNs, ih]; omega
theorem Od.wT_eq (o : Od) (t : Tm) : o.wT t = o.wN t + o.wNs (Tm.ndsL t.args) := by unfold Od.wT; rw [t.nds_eq]; rfl
theorem Od.wNs_next {o : Od} {l : List Tm} {k : Nat} {t : Tm} (h : l[k]? = some t) : o.wNs (Tm.ndsL (l.take (k + 1))) = o.wNs (Tm.ndsL (l.take k)) + o.wT t := by
  rw [Tm.ndsL_next h, Od.wNs_append]; rfl
theorem Od.Fine.wN_le {o : Od} (h : o.Fine) (s : Tm) : 0 ≤ o.wN s ∧ o.wN s ≤ 100 := by
  unfold Od.wN
  split
  · have := h.v1; have := h.v2; omega
  · split
    · rcases rk_ways o.sy s.name with ⟨h1, h2⟩ | ⟨k, h1, h2, h3⟩
      · omega
      · rw [h1]
        have hk : k < o.ws.length := by have := h.wn; omega
        have := h.weight (List.getElem?_eq_getElem hk)
        rw [List.getD_eq_getElem?_getD, Int.toNat_natCast, List.getElem?_eq_getElem hk]
        simp; omega
    · omega
theorem Od.Fine.wNs_le {o : Od} (h : o.Fine) (l : List Tm) : 0 ≤ o.wNs l ∧ o.wNs l ≤ 100 * l.length := by
  induction l with
  | nil => simp [Od.wNs]
  | cons s r ih =>
    have := h.wN_le s
    simp [Od.wNs]; omega
theorem Od.Fine.wT_le {o : Od} (h : o.Fine) (t : Tm) : 0 ≤ o.wT t ∧ o.wT t ≤ 100 * t.sz := by
  have := h.wNs_le t.nds
  rw [Tm.nds_len] at this
  exact this

/-- A valid ordering and a valid term that it covers. -/
def Od.okT (o : Od) (t : Tm) : Bool := o.good && (goodB t && o.cov t)
def Od.wR (o : Od) (t : Tm) : Int := if o.okT t then o.wT t else 0

end Go.Proofs.YtdpeanpmjhpblaaGreat

/- Orderings, the model's side: validity, rank, covered terms, weight: contracts, for orderings and terms of at most 1048576 names' bytes and elements. -/
namespace Go.Proofs.YtdpeanpmjhpblaaGreat
open Go.RowKit
set_option linter.unusedVariables false

theorem Od.wt_sy (o : Od) : o.sy.length ≤ o.wt := by unfold Od.wt; omega
theorem Od.wt_ws (o : Od) : o.ws.length ≤ o.wt := by unfold Od.wt; omega
theorem Od.wt_str {o : Od} {s : ByteArray} (h : s ∈ o.sy) : s.size ≤ o.wt := by have := sumS_mem h; unfold Od.wt; omega

theorem getD_at {l : List ByteArray} {k : Nat} {s : ByteArray} (h : l[k]? = some s) : l.getD k ByteArray.empty = s := by rw [List.getD_eq_getElem?_getD, h]; rfl
theorem getD_atI {l : List Int} {k : Nat} {s : Int} (h : l[k]? = some s) : l.getD k 0 = s := by rw [List.getD_eq_getElem?_getD, h]; rfl
theorem Od.step_eq {o : Od} {k : Nat} {s : ByteArray} {x : Int} (h : o.sy[k]? = some s) (h' : o.ws[k]? = some x) : o.step k = (symB s && !Lib.containsS (o.sy.take k) s && inB x o.va 100) := by
  unfold Od.step; rw [getD_at h, getD_atI h']

theorem str_eqO {s x : ByteArray} (h : s = x) : (s.toList == x.toList) = true := by rw [h]; simp
theorem str_neO {s x : ByteArray} (h : s ≠ x) : (s.toList == x.toList) = false := by
  rw [beq_eq_false_iff_ne]; intro e; exact h (toList_inj e)
theorem contains_yes {ss : List ByteArray} {x : ByteArray} {k : Nat} (h : ss[k]? = some x) : Lib.containsS ss x = true := (Lib.containsS_iff _ _).2 (List.mem_of_getElem? h)
theorem contains_no {ss : List ByteArray} {x : ByteArray} (h : ∀ j, j < ss.length → ss[j]? ≠ some x) : Lib.containsS ss x = false := by
  rw [← Bool.not_eq_true, Lib.containsS_iff]
  intro hm
  obtain ⟨j, hj⟩ := List.mem_iff_getElem?.1 hm
  exact h j (List.getElem?_eq_some_iff.1 hj).1 hj

set_option maxHeartbeats 1000000 in
theorem l2In_same (a : Option Addr) (c : Nat) (ss : List ByteArray) (x : ByteArray) (w : World) (hv : StrG w a ss) (hn : ss.length ≤ 1048576) :
    Calls Tryz.prog 91 #[.slice a ss.length c, .string x] w fun e w' => e = .returned (.bool (Lib.containsS ss x)) ∧ w = w' := by
  have HV := Lib.hid hv
  clear hv
  go_enter Tryz.func91, Tryz.ntmps91
  go_wp2
  go_loop [5] (fun i => ∃ k : Nat, k ≤ ss.length ∧ i = .int .i64 k ∧ (∀ j, j < k → ss[j]? ≠ some x)) (fun i => ss.length - (intOf i).toNat)
  case atStart => exact ⟨0, Nat.zero_le _, rfl, fun j hj => absurd hj (Nat.not_lt_zero _)⟩
  case round =>
    obtain ⟨k, hk, rfl, hq⟩ := hrel
    have HQ := Lib.hid hq
    clear hq
    by_cases hlt : k < ss.length
    · obtain ⟨s, hs⟩ : ∃ s, ss[k]? = some s := ⟨_, List.getElem?_eq_getElem hlt⟩
      obtain ⟨b, off, rfl, hc⟩ := HV.out k s hs
      have HS := Lib.hid hs
      clear hs
      by_cases he : s = x
      · have hq : (s.toList == x.toList) = true := str_eqO he
        have HF : Hid (Lib.containsS ss x = true) := Lib.hid (contains_yes (by rw [HS.out, he]))
        clear he
        go_wp2
        go_ret
        exact ⟨ret_bool HF.out.symm, rfl⟩
      · have hq : (s.toList == x.toList) = false := str_neO he
        have HF : Hid (∀ j, j < k + 1 → ss[j]? ≠ some x) := Lib.hid (fun j hj => by
          by_cases e : j = k
          · rw [e, HS.out]; intro h; injection h with h; exact he h
          · exact HQ.out j (by omega))
        clear he
        go_wp2
        go_round
        case rel => exact ⟨k + 1, by omega, by go_num, HF.out⟩
        case measure => simp [intOf]; omega
    · have HF : Hid (Lib.containsS ss x = false) := Lib.hid (contains_no (fun j hj => HQ.out j (by omega)))
      go_wp2
      go_ret
      exact ⟨ret_bool HF.out.symm, rfl⟩

end Go.Proofs.YtdpeanpmjhpblaaGreat
