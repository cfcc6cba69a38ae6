/- The laws' copying helper over formulas: a contract, for formulas of at most 1048576 names' bytes, arguments and parts. -/
import Derived.Test.YtppmiedhoimgmaaTo
import Derived.Test.YtppmiedhoimgmaaFmW
namespace Go.Proofs.Ytppmiedhoimgmaa
open Go.RowKit
set_option linter.unusedVariables false

theorem infoFm : (Try.prog.info? 68).map (fun i => (i.zero, i.size, i.bytes)) = some (some (.agg #[.int .i64 0, .string ByteArray.empty, .slice none 0 0, .string ByteArray.empty, .slice none 0 0]), 5, 88) := by kernel_rfl

/-- A formula of the call's own, by value. -/
def ToFmEnd (t : Fm) (w : World) (e : Ending) (w' : World) : Prop :=
  ∃ va vp, e = .returned (.agg #[.int .i64 t.op, .string t.atom.name, va, .string t.var, vp]) ∧ FOwn w' (Fresh w w') t va vp ∧ Below w.heap.size w w'
def ToFm (t : Fm) : Prop := ∀ (w : World) (va vp : Value), TmS w va t.atom.args → FmS w vp t.parts → t.wt ≤ 1048576 →
  Calls Try.prog 36 #[.agg #[.int .i64 t.op, .string t.atom.name, va, .string t.var, vp]] w (ToFmEnd t w)

def ToFsEnd (l : List Fm) (w : World) (e : Ending) (w' : World) : Prop :=
  ∃ v, e = .returned v ∧ FmO w' (Fresh w w') v l ∧ Below w.heap.size w w'
def ToFs (l : List Fm) : Prop := ∀ (w : World) (v : Value), FmS w v l → l.length + sumG Fm.wt l ≤ 1048576 →
  Calls Try.prog 88 #[v] w (ToFsEnd l w)

set_option maxRecDepth 100000 in
set_option maxHeartbeats 1000000 in
theorem toFormula_of (t : Fm) (h : ToFs t.parts) : ToFm t := by
  intro w va vp hv hp hw
  obtain ⟨pa, ca, rfl⟩ := hv.is_slice
  obtain ⟨pp, cp, rfl⟩ := hp.is_slice
  have HV := Lib.hid hv
  have HP := Lib.hid hp
  have H := Lib.hid h
  have HWA := Lib.hid (Nat.le_trans t.wt_atom hw)
  have HWP : Hid (t.parts.length + sumG Fm.wt t.parts ≤ 1048576) := Lib.hid (by have := t.wt_eq; omega)
  clear hv hp hw h
  go_enter Try.func36, Try.ntmps36
  have HB := Lib.hid ((((Below.refl w.heap.size w).alloc (Nat.le_refl _) (.cells #[.int .i64 t.op, .string t.atom.name, .slice pa t.atom.args.length ca, .string t.var, .slice pp t.parts.length cp] 63)).alloc (by simp) (.cells #[.int .i64 0, .string ⟨#[]⟩, .slice none 0 0, .string ⟨#[]⟩, .slice none 0 0] 68)).alloc (by simp; omega) (.cells #[.int .i64 t.op, .string ⟨#[]⟩, .slice none 0 0, .string ⟨#[]⟩, .slice none 0 0] 68))
  have P2 := Lib.hid (((fivB_new w (.int .i64 t.op) (.string t.atom.name) (.slice pa t.atom.args.length ca) (.string t.var) (.slice pp t.parts.length cp) 63 _ rfl).alloc (.cells #[.int .i64 0, .string ⟨#[]⟩, .slice none 0 0, .string ⟨#[]⟩, .slice none 0 0] 68)).alloc (.cells #[.int .i64 t.op, .string ⟨#[]⟩, .slice none 0 0, .string ⟨#[]⟩, .slice none 0 0] 68))
  have R2 := Lib.hid ((fivB_new (w.alloc (.cells #[.int .i64 t.op, .string t.atom.name, .slice pa t.atom.args.length ca, .string t.var, .slice pp t.parts.length cp] 63)) (.int .i64 0) (.string ⟨#[]⟩) (.slice none 0 0) (.string ⟨#[]⟩) (.slice none 0 0) 68 (w.heap.size + 1) (by simp)).alloc (.cells #[.int .i64 t.op, .string ⟨#[]⟩, .slice none 0 0, .string ⟨#[]⟩, .slice none 0 0] 68))
  have O2 := Lib.hid (fivB_new ((w.alloc (.cells #[.int .i64 t.op, .string t.atom.name, .slice pa t.atom.args.length ca, .string t.var, .slice pp t.parts.length cp] 63)).alloc (.cells #[.int .i64 0, .string ⟨#[]⟩, .slice none 0 0, .string ⟨#[]⟩, .slice none 0 0] 68)) (.int .i64 t.op) (.string ⟨#[]⟩) (.slice none 0 0) (.string ⟨#[]⟩) (.slice none 0 0) 68 (w.heap.size + 1 + 1) (by simp))
  go_wp2_with fail
  refine (toTerm_any t.atom _ _ (HV.out.kept HB.out) HWA.out).mono ?_
  rintro e w1 ⟨v1, rfl, ho, hb⟩
  obtain ⟨qv, qc, rfl⟩ := ho.read.is_slice
  have HB1 := Lib.hid (carry_below HB.out (Nat.le_refl _) hb)
  have HO := Lib.hid ho
  have P3 := Lib.hid (P2.out.kept hb)
  have R3 := Lib.hid (R2.out.kept hb)
  have O3 := Lib.hid (O2.out.kept hb)
  have hz := hb.size
  simp at hz
  clear ho hb
  have hne : w.heap.size + 1 + 1 ≠ w.heap.size + 1 := by omega
  have hne' : w.heap.size + 1 ≠ w.heap.size + 1 + 1 := by omega
  obtain ⟨a0, a1, a2, a3, a4, a5⟩ := P3.out
  obtain ⟨o0, o1, o2, o3, o4, o5⟩ := O3.out
  -- the world behind the stores of the atom
  obtain ⟨W2, hW2⟩ : ∃ W2, (w1.setCell ⟨w.heap.size + 1 + 1, 1, none⟩ (.string t.atom.name)).setCell ⟨w.heap.size + 1 + 1, 2, none⟩ (.slice qv t.atom.args.length qc) = W2 := ⟨_, rfl⟩
  have O4 : Hid (FivB W2 (w.heap.size + 1 + 1) (.int .i64 t.op) (.string t.atom.name) (.slice qv t.atom.args.length qc) (.string ⟨#[]⟩) (.slice none 0 0)) := Lib.hid (by rw [← hW2]; exact (O3.out.set1 _).set2 _)
  have R4 : Hid (FivB W2 (w.heap.size + 1) (.int .i64 0) (.string ⟨#[]⟩) (.slice none 0 0) (.string ⟨#[]⟩) (.slice none 0 0)) := Lib.hid (by rw [← hW2]; exact (R3.out.setFar hne _).setFar hne _)
  have P4 : Hid (FivB W2 w.heap.size (.int .i64 t.op) (.string t.atom.name) (.slice pa t.atom.args.length ca) (.string t.var) (.slice pp t.parts.length cp)) := Lib.hid (by rw [← hW2]; exact (P3.out.setFar (by simp; omega) _).setFar (by simp; omega) _)
  have HB2 : Hid (Below w.heap.size w W2) := Lib.hid (by rw [← hW2]; exact (HB1.out.setCell (by simp; omega) _).setCell (by simp; omega) _)
  have HO2 : Hid (TmO W2 (fun k => w.heap.size + 1 + 1 < k ∧ k < W2.heap.size) (.slice qv t.atom.args.length qc) t.atom.args) := Lib.hid (by
    rw [← hW2]
    refine ((HO.out.setCell (fun h => by have := h.1; simp at this; omega) _).setCell (fun h => by have := h.1; simp at this; omega) _).mono fun x hx => ⟨?_, ?_⟩
    · have := hx.1; simp at this; omega
    · simp only [size_setCell]; exact hx.2)
  have hz2 : w.heap.size + 1 + 1 + 1 ≤ W2.heap.size := by rw [← hW2]; simp only [size_setCell]; omega
  obtain ⟨c0, c1, c2, c3, c4, c5⟩ := O4.out
  obtain ⟨d0, d1, d2, d3, d4, d5⟩ := P4.out
  -- the world behind the store of the variable
  obtain ⟨W3, hW3⟩ : ∃ W3, W2.setCell ⟨w.heap.size + 1 + 1, 3, none⟩ (.string t.var) = W3 := ⟨_, rfl⟩
  have O5 : Hid (FivB W3 (w.heap.size + 1 + 1) (.int .i64 t.op) (.string t.atom.name) (.slice qv t.atom.args.length qc) (.string t.var) (.slice none 0 0)) := Lib.hid (by rw [← hW3]; exact O4.out.set3 _)
  have R5 : Hid (FivB W3 (w.heap.size + 1) (.int .i64 0) (.string ⟨#[]⟩) (.slice none 0 0) (.string ⟨#[]⟩) (.slice none 0 0)) := Lib.hid (by rw [← hW3]; exact R4.out.setFar hne _)
  have P5 : Hid (FivB W3 w.heap.size (.int .i64 t.op) (.string t.atom.name) (.slice pa t.atom.args.length ca) (.string t.var) (.slice pp t.parts.length cp)) := Lib.hid (by rw [← hW3]; exact P4.out.setFar (by simp; omega) _)
  have HB3 : Hid (Below w.heap.size w W3) := Lib.hid (by rw [← hW3]; exact HB2.out.setCell (by simp; omega) _)
  have HO3 : Hid (TmO W3 (fun k => w.heap.size + 1 + 1 < k ∧ k < W3.heap.size) (.slice qv t.atom.args.length qc) t.atom.args) := Lib.hid (by
    rw [← hW3]
    refine (HO2.out.setCell (fun h => by have := h.1; simp at this) _).mono fun x hx => ⟨hx.1, by simp only [size_setCell]; exact hx.2⟩)
  have hz3 : w.heap.size + 1 + 1 + 1 ≤ W3.heap.size := by rw [← hW3]; simp only [size_setCell]; omega
  obtain ⟨e0, e1, e2, e3, e4, e5⟩ := P5.out
  go_wp2_with fail
  refine (H.out _ _ (HP.out.kept HB3.out) HWP.out).mono ?_
  rintro e w4 ⟨v4, rfl, ho, hb⟩
  obtain ⟨qp, qd, rfl⟩ := ho.read.is_slice
  have HB4 := Lib.hid (carry_below HB3.out (Nat.le_refl _) hb)
  have HQ := Lib.hid ho
  have HT4 : Hid (TmO w4 (fun k => w.heap.size + 1 + 1 < k ∧ k < W3.heap.size) (.slice qv t.atom.args.length qc) t.atom.args) := Lib.hid (HO3.out.frame fun k hk => hb.block k hk.2)
  have R6 := Lib.hid (R5.out.kept hb)
  have O6 := Lib.hid (O5.out.kept hb)
  have hz4 := hb.size
  clear ho hb
  obtain ⟨f0, f1, f2, f3, f4, f5⟩ := O6.out
  -- the world behind the store of the parts
  obtain ⟨W5, hW5⟩ : ∃ W5, w4.setCell ⟨w.heap.size + 1 + 1, 4, none⟩ (.slice qp t.parts.length qd) = W5 := ⟨_, rfl⟩
  have O7 : Hid (FivB W5 (w.heap.size + 1 + 1) (.int .i64 t.op) (.string t.atom.name) (.slice qv t.atom.args.length qc) (.string t.var) (.slice qp t.parts.length qd)) := Lib.hid (by rw [← hW5]; exact O6.out.set4 _)
  have R7 : Hid (FivB W5 (w.heap.size + 1) (.int .i64 0) (.string ⟨#[]⟩) (.slice none 0 0) (.string ⟨#[]⟩) (.slice none 0 0)) := Lib.hid (by rw [← hW5]; exact R6.out.setFar hne _)
  have HB5 : Hid (Below w.heap.size w W5) := Lib.hid (by rw [← hW5]; exact HB4.out.setCell (by simp; omega) _)
  have HT5 : Hid (TmO W5 (fun k => w.heap.size + 1 + 1 < k ∧ k < W3.heap.size) (.slice qv t.atom.args.length qc) t.atom.args) := Lib.hid (by rw [← hW5]; exact HT4.out.setCell (fun h => by have := h.1; simp at this) _)
  have HQ5 : Hid (FmO W5 (Fresh W3 w4) (.slice qp t.parts.length qd) t.parts) := Lib.hid (by rw [← hW5]; exact HQ.out.setCell (fun h => by have := h.1; simp at this; omega) _)
  have hz5 : W5.heap.size = w4.heap.size := by rw [← hW5]; simp only [size_setCell]
  have HZ5 := Lib.hid hz5
  clear hz5
  obtain ⟨p0, p1, p2, p3, p4, p5⟩ := O7.out
  obtain ⟨q0, q1, q2, q3, q4, q5⟩ := R7.out
  go_wp2
  refine bodyPost_ret (v := .agg #[.int .i64 t.op, .string t.atom.name, .slice qv t.atom.args.length qc, .string t.var, .slice qp t.parts.length qd]) (by simp [results, Try.results36, go_sem, q0, q1, q2, q3, q4]) rfl ?_
  refine ⟨_, _, rfl, ?_, ((((HB5.out.setCell (by simp) _).setCell (by simp) _).setCell (by simp) _).setCell (by simp) _).setCell (by simp) _⟩
  have F5 : FOwn W5 (fun k => w.heap.size + 1 + 1 < k ∧ k < W5.heap.size) t (.slice qv t.atom.args.length qc) (.slice qp t.parts.length qd) :=
    ⟨_, _, HT5.out, HQ5.out, fun k hk => ⟨hk.1, by have := HZ5.out; have := hk.2; omega⟩, fun k hk => ⟨by have := hk.1; omega, by have := HZ5.out; have := hk.2; omega⟩, fun k h1 h2 => by have := h1.2; have := h2.1; omega⟩
  refine (((((F5.setCell (fun h => by have h1 : w.heap.size + 1 + 1 < w.heap.size + 1 := h.1; omega) _).setCell (fun h => by have h1 : w.heap.size + 1 + 1 < w.heap.size + 1 := h.1; omega) _).setCell (fun h => by have h1 : w.heap.size + 1 + 1 < w.heap.size + 1 := h.1; omega) _).setCell (fun h => by have h1 : w.heap.size + 1 + 1 < w.heap.size + 1 := h.1; omega) _).setCell (fun h => by have h1 : w.heap.size + 1 + 1 < w.heap.size + 1 := h.1; omega) _).mono fun x hx => ⟨?_, ?_⟩
  · have := hx.1; omega
  · simp only [size_setCell]; exact hx.2

def ToRelF (w wr : World) (l : List Fm) (k : Nat) : Prop :=
  ∃ xs f p Q, wr.ownsRow w.heap.size 68 5 (.slice (some ⟨w.heap.size, 0, none⟩) l.length l.length) l.length xs ∧ MadeF w wr xs l k f p Q ∧ (∀ j, j < 2 * k → ¬ Q j w.heap.size) ∧ Below w.heap.size w wr

theorem set_five {α : Type} (xs : List α) (m : Nat) (x0 x1 x2 x3 x4 : α) (i : Nat) (h : i < m ∨ m + 5 ≤ i) : (((((xs.set m x0).set (m + 1) x1).set (m + 2) x2).set (m + 3) x3).set (m + 4) x4)[i]? = xs[i]? := by
  rw [List.getElem?_set_ne (by omega), List.getElem?_set_ne (by omega), List.getElem?_set_ne (by omega), List.getElem?_set_ne (by omega), List.getElem?_set_ne (by omega)]
theorem get_five {α : Type} (xs : List α) (m : Nat) (x0 x1 x2 x3 x4 : α) (h : m + 5 ≤ xs.length) : (((((xs.set m x0).set (m + 1) x1).set (m + 2) x2).set (m + 3) x3).set (m + 4) x4)[m]? = some x0 ∧ (((((xs.set m x0).set (m + 1) x1).set (m + 2) x2).set (m + 3) x3).set (m + 4) x4)[m + 1]? = some x1 ∧
    (((((xs.set m x0).set (m + 1) x1).set (m + 2) x2).set (m + 3) x3).set (m + 4) x4)[m + 2]? = some x2 ∧ (((((xs.set m x0).set (m + 1) x1).set (m + 2) x2).set (m + 3) x3).set (m + 4) x4)[m + 3]? = some x3 ∧ (((((xs.set m x0).set (m + 1) x1).set (m + 2) x2).set (m + 3) x3).set (m + 4) x4)[m + 4]? = some x4 := by
  refine ⟨?_, ?_, ?_, ?_, ?_⟩
  · rw [List.getElem?_set_ne (by omega), List.getElem?_set_ne (by omega), List.getElem?_set_ne (by omega), List.getElem?_set_ne (by omega), List.getElem?_set_self (by omega)]
  · rw [List.getElem?_set_ne (by omega), List.getElem?_set_ne (by omega), List.getElem?_set_ne (by omega), List.getElem?_set_self (by simp; omega)]
  · rw [List.getElem?_set_ne (by omega), List.getElem?_set_ne (by omega), List.getElem?_set_self (by simp; omega)]
  · rw [List.getElem?_set_ne (by omega), List.getElem?_set_self (by simp; omega)]
  · rw [List.getElem?_set_self (by simp; omega)]

theorem ToRelF.next {w wr w' : World} {l : List Fm} {k : Nat} {t : Fm} {va vp : Value} {xs : List Value} {f p : Nat → Value} {Q : Nat → Nat → Prop}
    (hown : wr.ownsRow w.heap.size 68 5 (.slice (some ⟨w.heap.size, 0, none⟩) l.length l.length) l.length xs) (hm : MadeF w wr xs l k f p Q) (hne : ∀ j, j < 2 * k → ¬ Q j w.heap.size) (hb : Below w.heap.size w wr)
    (ht : l[k]? = some t) (ho : FOwn w' (Fresh wr w') t va vp) (hb' : Below wr.heap.size wr w') (hg : w.heap.size < wr.heap.size) :
    ToRelF w (((((w'.setCell ⟨w.heap.size, k * 5, none⟩ (.int .i64 t.op)).setCell ⟨w.heap.size, k * 5 + 1, none⟩ (.string t.atom.name)).setCell ⟨w.heap.size, k * 5 + 2, none⟩ va).setCell ⟨w.heap.size, k * 5 + 3, none⟩ (.string t.var)).setCell ⟨w.heap.size, k * 5 + 4, none⟩ vp) l (k + 1) := by
  have hlt : k < l.length := (List.getElem?_eq_some_iff.1 ht).1
  have h0 := hown.kept (grown_of_below hb' none) (.inr (by simp [Value.ownBlock]))
  have h1 := (h0.stored (k * 5) (.int .i64 t.op)).1
  have h2 := (h1.stored (k * 5 + 1) (.string t.atom.name)).1
  have h3 := (h2.stored (k * 5 + 2) va).1
  have h4 := (h3.stored (k * 5 + 3) (.string t.var)).1
  have h5 := (h4.stored (k * 5 + 4) vp).1
  have hl := hown.1
  have hfar : ∀ S : Nat → Prop, (∀ b, S b → b ≠ w.heap.size) → ∀ b, S b → (((((w'.setCell ⟨w.heap.size, k * 5, none⟩ (.int .i64 t.op)).setCell ⟨w.heap.size, k * 5 + 1, none⟩ (.string t.atom.name)).setCell ⟨w.heap.size, k * 5 + 2, none⟩ va).setCell ⟨w.heap.size, k * 5 + 3, none⟩ (.string t.var)).setCell ⟨w.heap.size, k * 5 + 4, none⟩ vp).heap[b]? = w'.heap[b]? := fun S hS b hb => by
    have e := hS b hb
    rw [Below.heap_setCell _ _ _ _ (by simpa using e), Below.heap_setCell _ _ _ _ (by simpa using e), Below.heap_setCell _ _ _ _ (by simpa using e), Below.heap_setCell _ _ _ _ (by simpa using e), Below.heap_setCell _ _ _ _ (by simpa using e)]
  obtain ⟨Q', hq, hq'⟩ := hm.next (w' := ((((w'.setCell ⟨w.heap.size, k * 5, none⟩ (.int .i64 t.op)).setCell ⟨w.heap.size, k * 5 + 1, none⟩ (.string t.atom.name)).setCell ⟨w.heap.size, k * 5 + 2, none⟩ va).setCell ⟨w.heap.size, k * 5 + 3, none⟩ (.string t.var)).setCell ⟨w.heap.size, k * 5 + 4, none⟩ vp) (xs' := ((((xs.set (k * 5) (.int .i64 t.op)).set (k * 5 + 1) (.string t.atom.name)).set (k * 5 + 2) va).set (k * 5 + 3) (.string t.var)).set (k * 5 + 4) vp) (va := va) (vp := vp) (S := Fresh wr w') ht
    (fun i j hi hj => set_five _ _ _ _ _ _ _ _ (by omega)) (get_five _ _ _ _ _ _ _ (by omega))
    (ho.frame (hfar _ fun b hb e => by have := hb.1; omega)) (fun b hb => ⟨hb.1, by simp only [size_setCell]; exact hb.2⟩) (by simp only [size_setCell]; exact hb'.size) hb.size
    (fun j b hj hs => by
      have e : b ≠ w.heap.size := fun e => hne j hj (e ▸ hs)
      rw [hfar (fun x => x = b) (fun x hx => by rw [hx]; exact e) b rfl]
      exact hb'.block b (hm.sub j b hj hs).2)
  refine ⟨_, _, _, _, h5, hq, fun j hj h => ?_, ?_⟩
  · rcases hq' j _ hj h with ⟨h1, h2⟩ | h2
    · exact hne j h1 h2
    · have := h2.1; omega
  · exact (((((carry_below hb (Nat.le_refl _) hb').setCell (by simp) _).setCell (by simp) _).setCell (by simp) _).setCell (by simp) _).setCell (by simp) _

set_option maxRecDepth 100000 in
set_option maxHeartbeats 1000000 in
theorem toFormulaS_of (l : List Fm) (h : ∀ t ∈ l, ToFm t) : ToFs l := by
  intro w v hv hw
  have H := Lib.hid h
  clear h
  obtain ⟨i0, hi, hz0, hz1, hz2⟩ := info_parts infoFm
  rcases hv.partsOf with ⟨a, c, rfl, rfl⟩ | ⟨b, off, c, rfl, hp, hat⟩
  · clear hv
    go_enter Try.func88, Try.ntmps88
    go_wp2_with (at_make; refine wpList_make_full _ rfl _ _ 66 rfl w.heap.size 68 i0 (.agg #[.int .i64 0, .string ByteArray.empty, .slice none 0 0, .string ByteArray.empty, .slice none 0 0]) 5 Try.underlying66 hi hz0 hz1 .i64 .i64 _ _ 0 rfl rfl rfl rfl (by omega) (by decide) (Nat.le_refl _) ?_; intro w1 hown1 hg1)
    have HG : Hid (w.grownBy w1 none) := Lib.hid hg1
    clear hg1 hown1
    refine wp_loop_rounds 1 ?_
    rw [rounds_succ]
    go_wp2
    go_ret
    exact ⟨_, rfl, .emp _ _ _, (Below.refl _ _).grown HG.out (Nat.le_refl _) (by simp)⟩
  · have HA := Lib.hid hat
    have HW := Lib.hid hw
    have hl6 : l.length ≤ 1048576 := by omega
    clear hat hv hw
    go_enter Try.func88, Try.ntmps88
    go_wp2_with (at_make; refine wpList_make_full _ rfl _ _ 66 rfl w.heap.size 68 i0 (.agg #[.int .i64 0, .string ByteArray.empty, .slice none 0 0, .string ByteArray.empty, .slice none 0 0]) 5 Try.underlying66 hi hz0 hz1 .i64 .i64 _ _ l.length rfl rfl rfl rfl (by rw [hz2]; have := HW.out; omega) (by unfold maxLen; have := HW.out; omega) (Nat.le_refl _) ?_; intro w1 hown1 hg1)
    have HG : Hid (w.grownBy w1 none) := Lib.hid hg1
    have HO1 : Hid (w1.ownsRow w.heap.size 68 5 (.slice (some ⟨w.heap.size, 0, none⟩) l.length l.length) l.length _) := Lib.hid hown1
    clear hg1 hown1
    go_loopw [4] (fun i wr => ∃ k : Nat, k ≤ l.length ∧ i = .int .i64 k ∧ ToRelF w wr l k) (fun i _ => l.length - (intOf i).toNat)
    case atStart => exact ⟨0, Nat.zero_le _, rfl, _, _, _, _, HO1.out, MadeF.start _ _ _ _, fun i hi => absurd hi (Nat.not_lt_zero _), (Below.refl _ _).grown HG.out (Nat.le_refl _) (by simp)⟩
    case round =>
      obtain ⟨k, hk, rfl, hrel⟩ := hrel
      have HR : Hid (ToRelF w wr l k) := Lib.hid hrel
      clear hrel
      obtain ⟨xs, f, p, Q, hown, hm, hne, hbel⟩ := HR.out
      have HB := Lib.hid hbel
      have HM := Lib.hid hm
      have HO := Lib.hid hown
      have HN := Lib.hid hne
      clear hbel hm hown hne
      by_cases hlt : k < l.length
      · obtain ⟨t, ht⟩ : ∃ t, l[k]? = some t := ⟨_, List.getElem?_eq_getElem hlt⟩
        obtain ⟨va, vp, hc, hva, hvp⟩ := HA.out k t ht
        obtain ⟨g0, g1, g2, g3, g4⟩ := hc.kept HB.out
        have HV := Lib.hid (hva.kept HB.out)
        have HP := Lib.hid (hvp.kept HB.out)
        have HT : Hid (l[k]? = some t) := Lib.hid ht
        clear ht hc hva hvp
        go_wp2_with fail
        refine (H.out t (mem_of_at HT.out) _ va vp HV.out HP.out (by have := HW.out; have := sumG_mem (f := Fm.wt) (mem_of_at HT.out); omega)).mono ?_
        rintro e w' ⟨va', vp', rfl, ho, hb⟩
        obtain ⟨p', c', rfl⟩ := ho.atom.is_slice
        obtain ⟨p2, c2, rfl⟩ := ho.parts.is_slice
        have hlen := HO.out.1
        have hx : ∀ j, j < 5 → ∃ x, wr.cell? ⟨w.heap.size, k * 5 + j, none⟩ = some x := fun j hj => by
          have h := HO.out.cellAt (k * 5 + j) (by omega)
          rw [List.getElem?_eq_getElem (by omega)] at h
          exact ⟨_, h⟩
        obtain ⟨x0, hx0⟩ := hx 0 (by omega)
        rw [Nat.add_zero] at hx0
        obtain ⟨x1, hx1⟩ := hx 1 (by omega)
        obtain ⟨x2, hx2⟩ := hx 2 (by omega)
        obtain ⟨x3, hx3⟩ := hx 3 (by omega)
        obtain ⟨x4, hx4⟩ := hx 4 (by omega)
        have hx0' := carry_cell hx0 hb
        have hx1' := carry_cell hx1 hb
        have hx2' := carry_cell hx2 hb
        have hx3' := carry_cell hx3 hb
        have hx4' := carry_cell hx4 hb
        have hg : w.heap.size < wr.heap.size := World.block_lt_of_cell? _ _ hx0
        have hf : ∀ j, w'.frozen? ⟨w.heap.size, j, none⟩ = false := fun j => (hb.frozen (p := ⟨w.heap.size, j, none⟩) hg).trans (HO.out.frozenAt _)
        have hf0 := hf (k * 5)
        have hy1 : (w'.setCell ⟨w.heap.size, k * 5, none⟩ (.int .i64 t.op)).cell? ⟨w.heap.size, k * 5 + 1, none⟩ = some x1 := (World.cell?_setCell_other _ _ _ _ (by simp)).trans hx1'
        have hf1 : (w'.setCell ⟨w.heap.size, k * 5, none⟩ (.int .i64 t.op)).frozen? ⟨w.heap.size, k * 5 + 1, none⟩ = false := by rw [World.frozen?_setCell]; exact hf _
        have hy2 : ((w'.setCell ⟨w.heap.size, k * 5, none⟩ (.int .i64 t.op)).setCell ⟨w.heap.size, k * 5 + 1, none⟩ (.string t.atom.name)).cell? ⟨w.heap.size, k * 5 + 2, none⟩ = some x2 := (World.cell?_setCell_other _ _ _ _ (by simp)).trans ((World.cell?_setCell_other _ _ _ _ (by simp)).trans hx2')
        have hf2 : ((w'.setCell ⟨w.heap.size, k * 5, none⟩ (.int .i64 t.op)).setCell ⟨w.heap.size, k * 5 + 1, none⟩ (.string t.atom.name)).frozen? ⟨w.heap.size, k * 5 + 2, none⟩ = false := by rw [World.frozen?_setCell, World.frozen?_setCell]; exact hf _
        have hy3 : (((w'.setCell ⟨w.heap.size, k * 5, none⟩ (.int .i64 t.op)).setCell ⟨w.heap.size, k * 5 + 1, none⟩ (.string t.atom.name)).setCell ⟨w.heap.size, k * 5 + 2, none⟩ (.slice p' t.atom.args.length c')).cell? ⟨w.heap.size, k * 5 + 3, none⟩ = some x3 := (World.cell?_setCell_other _ _ _ _ (by simp)).trans ((World.cell?_setCell_other _ _ _ _ (by simp)).trans ((World.cell?_setCell_other _ _ _ _ (by simp)).trans hx3'))
        have hf3 : (((w'.setCell ⟨w.heap.size, k * 5, none⟩ (.int .i64 t.op)).setCell ⟨w.heap.size, k * 5 + 1, none⟩ (.string t.atom.name)).setCell ⟨w.heap.size, k * 5 + 2, none⟩ (.slice p' t.atom.args.length c')).frozen? ⟨w.heap.size, k * 5 + 3, none⟩ = false := by rw [World.frozen?_setCell, World.frozen?_setCell, World.frozen?_setCell]; exact hf _
        have hy4 : ((((w'.setCell ⟨w.heap.size, k * 5, none⟩ (.int .i64 t.op)).setCell ⟨w.heap.size, k * 5 + 1, none⟩ (.string t.atom.name)).setCell ⟨w.heap.size, k * 5 + 2, none⟩ (.slice p' t.atom.args.length c')).setCell ⟨w.heap.size, k * 5 + 3, none⟩ (.string t.var)).cell? ⟨w.heap.size, k * 5 + 4, none⟩ = some x4 := (World.cell?_setCell_other _ _ _ _ (by simp)).trans ((World.cell?_setCell_other _ _ _ _ (by simp)).trans ((World.cell?_setCell_other _ _ _ _ (by simp)).trans ((World.cell?_setCell_other _ _ _ _ (by simp)).trans hx4')))
        have hf4 : ((((w'.setCell ⟨w.heap.size, k * 5, none⟩ (.int .i64 t.op)).setCell ⟨w.heap.size, k * 5 + 1, none⟩ (.string t.atom.name)).setCell ⟨w.heap.size, k * 5 + 2, none⟩ (.slice p' t.atom.args.length c')).setCell ⟨w.heap.size, k * 5 + 3, none⟩ (.string t.var)).frozen? ⟨w.heap.size, k * 5 + 4, none⟩ = false := by rw [World.frozen?_setCell, World.frozen?_setCell, World.frozen?_setCell, World.frozen?_setCell]; exact hf _
        have HOT := Lib.hid ho
        have HBB := Lib.hid hb
        have HLN := Lib.hid hlen
        clear ho hb hx hx0 hx1 hx2 hx3 hx4 g0 g1 g2 g3 g4 hlen hf
        have HNX := Lib.hid (ToRelF.next HO.out HM.out HN.out HB.out HT.out HOT.out HBB.out hg)
        go_wp2
        go_roundw
        case rel => exact ⟨k + 1, by omega, by go_num, HNX.out⟩
        case measure => simp [intOf]; omega
      · have hke : k = l.length := by omega
        subst hke
        have HE : Hid (FmO wr (Fresh w wr) (.slice (some ⟨w.heap.size, 0, none⟩) l.length l.length) l) := Lib.hid (MadeF.whole HO.out HM.out (Nat.le_refl _) (fun g hg i hi => by
          simp [Value.ownBlock] at hg; subst hg; exact HN.out i hi))
        go_wp2
        go_ret
        exact ⟨_, rfl, HE.out, HB.out⟩

theorem toFormula_any (t : Fm) : ToFm t := Fm.ind (P := ToFm) (fun t ih => toFormula_of t (toFormulaS_of t.parts ih)) t

theorem toFmV_any (t : Fm) (w : World) (va vp : Value) (h : FmV w va vp t) (hw : t.wt ≤ 1048576) :
    Calls Try.prog 36 #[.agg #[.int .i64 t.op, .string t.atom.name, va, .string t.var, vp]] w (ToFmEnd t w) :=
  toFormula_any t w va vp h.1 h.2 hw

end Go.Proofs.Ytppmiedhoimgmaa
