/- Orderings: validity, rank, covered terms, weights, as plain facts. No condition. -/
import Derived.Test.YtohalpafmcobpaaOg
import Derived.Test.YtohalpafmcobpaaTmV
import Derived.Test.YtohalpafmcobpaaCnt
namespace Go.Proofs.Ytohalpafmcobpaa
open Go.RowKit
set_option linter.unusedVariables false

/-- The i-th symbol and its weight may stand there. -/
def Od.step (o : Od) (i : Nat) : Bool := symB (o.sy.getD i ByteArray.empty) && !Lib.containsS (o.sy.take i) (o.sy.getD i ByteArray.empty) && inB (o.ws.getD i 0) o.va 100
def Od.heads (o : Od) : Bool := inB (o.sy.length : Int) 1 12 && decide (o.ws.length = o.sy.length) && inB o.va 1 100
def Od.good (o : Od) : Bool := o.heads && (List.range o.sy.length).all o.step
theorem Od.good_steps {o : Od} (h : o.heads = true) (hs : ∀ i, i < o.sy.length → o.step i = true) : o.good = true := by
  unfold Od.good
  rw [h, Bool.true_and, List.all_eq_true]
  intro i hi
  exact hs i (List.mem_range.1 hi)
theorem Od.good_no {o : Od} {i : Nat} (hi : i < o.sy.length) (h : o.step i = false) : o.good = false := by
  unfold Od.good
  have : (List.range o.sy.length).all o.step = false := by
    rw [List.all_eq_false]; exact ⟨i, List.mem_range.2 hi, by rw [h]; simp⟩
  rw [this, Bool.and_false]
theorem Od.good_head {o : Od} (h : o.heads = false) : o.good = false := by unfold Od.good; rw [h, Bool.false_and]
theorem inB_iff {x a b : Int} : inB x a b = true ↔ a ≤ x ∧ x ≤ b := by simp [inB]
structure Od.Fine (o : Od) : Prop where
  n1 : 1 ≤ o.sy.length
  n2 : o.sy.length ≤ 12
  wn : o.ws.length = o.sy.length
  v1 : 1 ≤ o.va
  v2 : o.va ≤ 100
  stp : ∀ i, i < o.sy.length → o.step i = true
theorem Od.good_fine {o : Od} (h : o.good = true) : o.Fine := by
  unfold Od.good Od.heads at h
  simp only [Bool.and_eq_true, decide_eq_true_eq, inB_iff, List.all_eq_true] at h
  obtain ⟨⟨⟨h1, h2⟩, h3⟩, h4⟩ := h
  exact ⟨by omega, by omega, h2, h3.1, h3.2, fun i hi => h4 i (List.mem_range.2 hi)⟩
theorem Od.Fine.sym {o : Od} (h : o.Fine) {i : Nat} {s : ByteArray} (hi : o.sy[i]? = some s) : symB s = true := by
  have hlt := (List.getElem?_eq_some_iff.1 hi).1
  have hs := h.stp i hlt
  unfold Od.step at hs
  simp only [Bool.and_eq_true] at hs
  rw [List.getD_eq_getElem?_getD, hi] at hs
  exact hs.1.1
theorem Od.Fine.weight {o : Od} (h : o.Fine) {i : Nat} {x : Int} (hi : o.ws[i]? = some x) : 1 ≤ x ∧ x ≤ 100 := by
  have hlt := (List.getElem?_eq_some_iff.1 hi).1
  have hs := h.stp i (by have := h.wn; omega)
  unfold Od.step at hs
  simp only [Bool.and_eq_true, inB_iff] at hs
  rw [List.getD_eq_getElem?_getD (l := o.ws), hi] at hs
  have := hs.2
  have := h.v1
  simp at *
  omega

/-- The index of a name in a list, or -1. -/
def rk (l : List ByteArray) (nm : ByteArray) : Int := match l.findIdx? (fun s => decide (s = nm)) with
  | some k => (k : Int)
  | none => -1
theorem rk_at {l : List ByteArray} {nm : ByteArray} {k : Nat} (h : l[k]? = some nm) (hb : ∀ j, j < k → l[j]? ≠ some nm) : rk l nm = k := by
  have hlt := (List.getElem?_eq_some_iff.1 h).1
  have e : l.findIdx? (fun s => decide (s = nm)) = some k := by
    rw [List.findIdx?_eq_some_iff_getElem]
    refine ⟨hlt, ?_, fun j hj => ?_⟩
    · rw [List.getElem?_eq_getElem hlt] at h; injection h with h; simp [h]
    · have := hb j hj
      rw [List.getElem?_eq_getElem (by omega)] at this
      simp at this ⊢
      exact this
  unfold rk; rw [e]
theorem rk_no {l : List ByteArray} {nm : ByteArray} (h : nm ∉ l) : rk l nm = -1 := by
  have e : l.findIdx? (fun s => decide (s = nm)) = none := by
    rw [List.findIdx?_eq_none_iff]
    intro s hs
    have : s ≠ nm := fun e => h (e ▸ hs)
    simp [this]
  unfold rk; rw [e]
theorem rk_none {l : List ByteArray} {nm : ByteArray} (h : ∀ j, j < l.length → l[j]? ≠ some nm) : rk l nm = -1 := rk_no fun hm => by
  obtain ⟨j, hj⟩ := List.mem_iff_getElem?.1 hm
  exact h j (List.getElem?_eq_some_iff.1 hj).1 hj
theorem rk_ways (l : List ByteArray) (nm : ByteArray) : (nm ∉ l ∧ rk l nm = -1) ∨ ∃ k : Nat, rk l nm = k ∧ k < l.length ∧ l[k]? = some nm := by
  unfold rk
  cases e : l.findIdx? (fun s => decide (s = nm)) with
  | none =>
    rw [List.findIdx?_eq_none_iff] at e
    exact .inl ⟨fun hm => by simpa using e nm hm, rfl⟩
  | some k =>
    obtain ⟨h1, h2, _⟩ := List.findIdx?_eq_some_iff_getElem.1 e
    refine .inr ⟨k, rfl, h1, ?_⟩
    rw [List.getElem?_eq_getElem h1]
    simp at h2
    rw [h2]
theorem rk_has {l : List ByteArray} {nm : ByteArray} : (0 ≤ rk l nm) ↔ nm ∈ l := by
  rcases rk_ways l nm with ⟨h1, h2⟩ | ⟨k, h1, h2, h3⟩
  · rw [h2]; exact ⟨fun h => by omega, fun h => absurd h h1⟩
  · rw [h1]; exact ⟨fun _ => List.mem_of_getElem? h3, fun _ => by omega⟩
theorem rk_inj {l : List ByteArray} {a b : ByteArray} (ha : a ∈ l) (h : rk l a = rk l b) : a = b := by
  rcases rk_ways l a with ⟨h1, h2⟩ | ⟨k, h1, h2, h3⟩
  · exact absurd ha h1
  · rcases rk_ways l b with ⟨g1, g2⟩ | ⟨j, g1, g2, g3⟩
    · omega
    · have : k = j := by omega
      subst this
      rw [h3] at g3; injection g3
theorem rk_lt (l : List ByteArray) (nm : ByteArray) : rk l nm < l.length ∧ -1 ≤ rk l nm := by
  rcases rk_ways l nm with ⟨h1, h2⟩ | ⟨k, h1, h2, h3⟩ <;> omega

/-- A node that the ordering covers. -/
def Od.nodeC (o : Od) (s : Tm) : Bool := varB s.name || decide (0 ≤ rk o.sy s.name)
def Od.cov (o : Od) (t : Tm) : Bool := t.nds.all o.nodeC
def Od.covL (o : Od) (l : List Tm) : Bool := (Tm.ndsL l).all o.nodeC
theorem Od.cov_eq (o : Od) (t : Tm) : o.cov t = (o.nodeC t && o.covL t.args) := by
  unfold Od.cov Od.covL; rw [t.nds_eq, List.all_cons]
theorem Od.covL_next {o : Od} {l : List Tm} {k : Nat} {t : Tm} (h : l[k]? = some t) : o.covL (l.take (k + 1)) = (o.covL (l.take k) && o.cov t) := by
  unfold Od.covL Od.cov; rw [Tm.ndsL_next h, List.all_append]
theorem Od.covL_all {o : Od} {l : List Tm} : o.covL l = l.all o.cov := by
  induction l with
  | nil => simp [Od.covL, Tm.ndsL]
  | cons t r ih =>
    rw [List.all_cons, ← ih]
    unfold Od.covL Od.cov
    rw [Tm.ndsL, List.all_append]
theorem Od.cov_arg {o : Od} {t s : Tm} (h : o.cov t = true) (hs : s ∈ t.args) : o.cov s = true := by
  rw [Od.cov_eq, Bool.and_eq_true, Od.covL_all, List.all_eq_true] at h
  exact h.2 s hs
theorem Od.cov_no {o : Od} {t s : Tm} (hs : s ∈ t.args) (h : o.cov s = false) : o.cov t = false := by
  cases e : o.cov t with
  | false => rfl
  | true => rw [Od.cov_arg e hs] at h; cases h

/-- The weight of a node, and of terms. -/
def Od.wN (o : Od) (s : Tm) : Int := if varB s.name then o.va else if 0 ≤ rk o.sy s.name then o.ws.getD (rk o.sy s.name).toNat 0 else 0
def Od.wNs (o : Od) : List Tm → Int
  | [] => 0
  | s :: r => o.wN s + o.wNs r
def Od.wT (o : Od) (t : Tm) : Int := o.wNs t.nds
theorem Od.wNs_append (o : Od) (a b : List Tm) : o.wNs (a ++ b) = o.wNs a + o.wNs b := by
  induction a with
  | nil => simp [Od.wNs]
  | cons t r ih => simp [Od.wNs, ih]; omega
theorem Od.wT_eq (o : Od) (t : Tm) : o.wT t = o.wN t + o.wNs (Tm.ndsL t.args) := by unfold Od.wT; rw [t.nds_eq]; rfl
theorem Od.wNs_next {o : Od} {l : List Tm} {k : Nat} {t : Tm} (h : l[k]? = some t) : o.wNs (Tm.ndsL (l.take (k + 1))) = o.wNs (Tm.ndsL (l.take k)) + o.wT t := by
  rw [Tm.ndsL_next h, Od.wNs_append]; rfl
theorem Od.Fine.wN_le {o : Od} (h : o.Fine) (s : Tm) : 0 ≤ o.wN s ∧ o.wN s ≤ 100 := by
  unfold Od.wN
  split
  · have := h.v1; have := h.v2; omega
  · split
    · rcases rk_ways o.sy s.name with ⟨h1, h2⟩ | ⟨k, h1, h2, h3⟩
      · omega
      · rw [h1]
        have hk : k < o.ws.length := by have := h.wn; omega
        have := h.weight (List.getElem?_eq_getElem hk)
        rw [List.getD_eq_getElem?_getD, Int.toNat_natCast, List.getElem?_eq_getElem hk]
        simp; omega
    · omega
theorem Od.Fine.wNs_le {o : Od} (h : o.Fine) (l : List Tm) : 0 ≤ o.wNs l ∧ o.wNs l ≤ 100 * l.length := by
  induction l with
  | nil => simp [Od.wNs]
  | cons s r ih =>
    have := h.wN_le s
    simp [Od.wNs]; omega
theorem Od.Fine.wT_le {o : Od} (h : o.Fine) (t : Tm) : 0 ≤ o.wT t ∧ o.wT t ≤ 100 * t.sz := by
  have := h.wNs_le t.nds
  rw [Tm.nds_len] at this
  exact this

/-- A valid ordering and a valid term that it covers. -/
def Od.okT (o : Od) (t : Tm) : Bool := o.good && (goodB t && o.cov t)
def Od.wR (o : Od) (t : Tm) : Int := if o.okT t then o.wT t else 0

end Go.Proofs.Ytohalpafmcobpaa
