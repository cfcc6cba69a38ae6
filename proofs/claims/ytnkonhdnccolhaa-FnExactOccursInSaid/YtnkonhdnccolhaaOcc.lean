/- OccursIn, the model's and the program's: contracts, for terms of at most 1048576 names' bytes and arguments. -/
import Derived.Test.YtnkonhdnccolhaaIdeI
import Derived.Test.YtnkonhdnccolhaaVarS
import Derived.Test.YtnkonhdnccolhaaVarQ
import Derived.Test.YtnkonhdnccolhaaRestM
namespace Go.Proofs.Ytnkonhdnccolhaa
open Go.RowKit Go.Shelf
set_option linter.unusedVariables false

attribute [local go_sem] Oper.semAt_some

/-- A node of the term has the name. -/
def hasN (nm : ByteArray) (t : Tm) : Bool := t.nds.any fun s => decide (s.name = nm)
theorem hasN_yes {nm : ByteArray} {t s : Tm} (h : s ∈ t.nds) (hn : s.name = nm) : hasN nm t = true := by
  unfold hasN; rw [List.any_eq_true]; exact ⟨s, h, decide_eq_true hn⟩
theorem hasN_no {nm : ByteArray} {t : Tm} (h : ∀ s ∈ t.nds, s.name ≠ nm) : hasN nm t = false := by
  rw [← Bool.not_eq_true]
  unfold hasN; rw [List.any_eq_true]
  rintro ⟨s, hs, he⟩
  exact h s hs (of_decide_eq_true he)
theorem into_memA {t : Tm} (h : anyB t = true) (x : ByteArray) : x ∈ t.into [] ↔ ∃ s ∈ t.nds, varB s.name = true ∧ s.name = x := by
  rw [into_fold t (any_leaf h) [], putAll_mem, vn_mem]
  simp
theorem hasN_into {nm : ByteArray} {t : Tm} (hv : varB nm = true) (h : anyB t = true) : Lib.containsS (t.into []) nm = hasN nm t := by
  rw [Bool.eq_iff_iff, Lib.containsS_iff, into_memA h]
  unfold hasN
  rw [List.any_eq_true]
  constructor
  · rintro ⟨s, hs, _, e⟩; exact ⟨s, hs, decide_eq_true e⟩
  · rintro ⟨s, hs, e⟩
    have e := of_decide_eq_true e
    exact ⟨s, hs, by rw [e]; exact hv, e⟩

def occOk (nm : ByteArray) (t : Tm) : Bool := varB nm && anyB t
def occR (nm : ByteArray) (t : Tm) : Bool := occOk nm t && hasN nm t
theorem occ_v {nm : ByteArray} {t : Tm} (h : varB nm = false) : occOk nm t = false ∧ occR nm t = false := by unfold occR occOk; rw [h]; exact ⟨rfl, rfl⟩
theorem occ_a {nm : ByteArray} {t : Tm} (h : anyB t = false) : occOk nm t = false ∧ occR nm t = false := by unfold occR occOk; rw [h]; simp
theorem occ_y {nm : ByteArray} {t : Tm} (h : varB nm = true) (h' : anyB t = true) : occOk nm t = true ∧ occR nm t = hasN nm t := by unfold occR occOk; rw [h, h']; simp

theorem strs_of_lv {w : World} {v : Value} {ss : List ByteArray} (h : LV w v ss) : StrsV w v ss := by
  obtain ⟨b, cp, rfl, hc, hl, hx⟩ := h
  by_cases h0 : ss.length = 0
  · have e := List.length_eq_zero_iff.1 h0
    subst e; exact .inl ⟨_, _, rfl, rfl⟩
  · exact .inr ⟨b, 0, cp, rfl, by omega, fun i hi => by rw [Nat.zero_add]; exact hx i hi⟩
theorem into_len : ∀ t : Tm, ∀ l : List ByteArray, (t.into l).length ≤ l.length + t.sz := by
  exact Tm.into_len

set_option maxHeartbeats 2000000 in
theorem specOcc_any (nm : ByteArray) (hnm : nm.size ≤ 1048576) (t : Tm) (w : World) (va : Value) (hv : TmS w va t.args) (hw : t.wt ≤ 1048576) :
    Calls Try.prog 30 #[.string nm, .agg #[.string t.name, va]] w (Ans (.tuple #[.bool (occR nm t), .bool (occOk nm t)]) w) := by
  obtain ⟨a, c, rfl⟩ := hv.is_slice
  have HV := Lib.hid hv
  have H2 := Lib.hid (two_new w (.string t.name) (.slice a t.args.length c) 38 _ rfl)
  have HB := Lib.hid ((Below.refl w.heap.size w).alloc (Nat.le_refl _) (.cells #[.string t.name, .slice a t.args.length c] 38))
  have CV := Lib.hid (fun W => l2Var_any nm W (by unfold maxLen; omega))
  clear hv
  obtain ⟨b0, b1, b2⟩ := H2.out
  cases hvar : varB nm with
  | false =>
    have HF := Lib.hid (occ_v (t := t) hvar)
    rw [hvar] at CV
    clear hvar
    go_enter Try.func30, Try.ntmps30
    go_wp2_with fail
    refine (CV.out _).mono ?_
    rintro e w3 ⟨rfl, rfl⟩
    go_wp2
    go_ret2
    exact ⟨ret_bbJ HF.out.2.symm HF.out.1.symm, HB.out⟩
  | true =>
    have HVAR := Lib.hid hvar
    rw [hvar] at CV
    clear hvar
    go_enter Try.func30, Try.ntmps30
    go_wp2_with fail
    refine (CV.out _).mono ?_
    rintro e w3 ⟨rfl, rfl⟩
    go_wp2_with fail
    refine (l2Any_any t _ _ (HV.out.kept HB.out) hw).mono ?_
    rintro e w4 ⟨rfl, hb⟩
    have HB4 := Lib.hid (carry_below HB.out (Nat.le_refl _) hb)
    clear b0 b1 b2
    obtain ⟨b0, b1, b2⟩ := H2.out.kept hb
    clear hb
    cases hf : anyB t with
    | false =>
      have HF := Lib.hid (occ_a (nm := nm) hf)
      clear hf
      go_wp2
      go_ret2
      exact ⟨ret_bbJ HF.out.2.symm HF.out.1.symm, HB4.out⟩
    | true =>
      have HF := Lib.hid (occ_y HVAR.out hf)
      have HI := Lib.hid (hasN_into HVAR.out hf)
      have hsz : t.sz ≤ 30 := by have h := anyB_fits hf; simp [fitsB] at h; exact h.1
      have hil : (t.into []).length ≤ 1048576 := by have := into_len t []; simp at this; omega
      clear hf
      go_wp2_with fail
      refine (vars_any t _ _ (HV.out.kept HB4.out) hw (by omega)).mono ?_
      rintro e w5 ⟨v5, rfl, hl5, hb⟩
      have HB5 := Lib.hid (carry_below HB4.out (Nat.le_refl _) hb)
      have HS := Lib.hid (strs_of_lv hl5)
      obtain ⟨g5, c5, rfl, _⟩ := hl5
      clear hb
      have CI := Lib.hid (l2In_any _ _ nm _ HS.out hil)
      rw [HI.out] at CI
      go_wp2_with fail
      refine CI.out.mono ?_
      rintro e w6 ⟨rfl, hb⟩
      have HB6 := Lib.hid (carry_below HB5.out (Nat.le_refl _) hb)
      clear hb
      go_wp2
      go_ret2
      exact ⟨ret_bbJ HF.out.2.symm HF.out.1.symm, HB6.out⟩

/-- The result's cell, at a function's end. -/
structure Fin1 (w : World) (x : Bool) (W : World) : Prop where
  c1 : W.cell? ⟨w.heap.size + 1 + 1, 0, none⟩ = some (.bool x)
  bel : Below w.heap.size w W
theorem Fin1.put {w : World} {x : Bool} {W : World} {D : Nat} (h : Fin1 w x W) (hB : w.heap.size ≤ D) (hD : W.heap[D]? = some (.deferred (some []))) : Fin1 w x (W.putObj D (.deferred none)) :=
  ⟨cell_kept h.c1 (grownBy_putObj' W D _) (fun r e => by cases e; exact ⟨_, hD, rfl⟩), h.bel.trans (belowK_b (w := w) (Nat.le_refl _) W D _ _ hB hD rfl rfl)⟩
theorem Fin1.set {w W : World} {x x' : Bool} (h1 : W.cell? ⟨w.heap.size + 1 + 1, 0, none⟩ = some (.bool x')) (hb : Below w.heap.size w W) : Fin1 w x (W.setCell ⟨w.heap.size + 1 + 1, 0, none⟩ (.bool x)) :=
  ⟨World.cell?_setCell_same _ _ _ h1, hb.setCell (by simp; omega) _⟩
theorem fin1_own (w : World) (x : Bool) (B : Nat) (hw : w.heap.size ≤ B) : OwnFrom B (fun (_ : List Nd) W => Fin1 w x W) := fun s X Y row hs hg hr =>
  ⟨cell_kept hs.c1 hg (fun r e => (hr r e).2), hs.bel.grown hg (Nat.le_trans (Nat.le_refl _) hs.bel.size) (fun k e => Nat.le_trans hw (hr k e).1)⟩

set_option maxRecDepth 100000 in
set_option maxHeartbeats 8000000 in
theorem contVar_in (nm : ByteArray) (t : Tm) (w : World) (va : Value) (hv : TmS w va t.args) (hw : t.wt ≤ 1048576) :
    CallsIn Fence.wide 9 Try.prog 92 #[.agg #[.string t.name, va], .string nm] w (Ans (.bool (hasN nm t)) w) := by
  have HW := Lib.hid hw
  obtain ⟨a, c, rfl⟩ := hv.is_slice
  have hdd : ∀ k : Nat, (Fence.wide.depth.isSome = true → 1 ≤ k) := fun k h => by cases h
  have HV := Lib.hid hv
  obtain ⟨w0, hw0⟩ : ∃ w0, ((w.alloc (.cells #[.string t.name, .slice a t.args.length c] 38)).alloc (.cells #[.string nm] 9)).alloc (.cells #[.bool false] 4) = w0 := ⟨_, rfl⟩
  have HB0 : Hid (Below w.heap.size w w0) := Lib.hid (by rw [← hw0]; exact (((Below.refl w.heap.size w).alloc (Nat.le_refl _) _).alloc (by simp) _).alloc (by simp; omega) _)
  have H10 : Hid (Two w0 w.heap.size (.string t.name) (.slice a t.args.length c)) := Lib.hid (by rw [← hw0]; exact ((two_new w _ _ 38 _ rfl).alloc _).alloc _)
  have H20 : Hid (Oner w0 (w.heap.size + 1) (.string nm)) := Lib.hid (by rw [← hw0]; exact (oner_new _ (.string nm) 9 (w.heap.size + 1) (by simp)).alloc _)
  have H30 : Hid (Oner w0 (w.heap.size + 1 + 1) (.bool false)) := Lib.hid (by rw [← hw0]; exact oner_new _ (.bool false) 4 (w.heap.size + 1 + 1) (by simp))
  have hz0 : w0.heap.size = w.heap.size + 3 := by rw [← hw0]; simp
  clear hv hw
  refine callsIn_of_wp_marks Try.func92 rfl trivial ?_ rfl
  simp only [Try.ntmps92, List.size_toArray, List.length_cons, List.length_nil, Nat.reduceAdd, Nat.reduceSub, Array.replicate_succ, Array.replicate_zero, List.push_toArray, List.append_toArray, List.nil_append, List.cons_append]
  obtain ⟨b0, b1, b2⟩ := H10.out
  gi_wp2
  refine ⟨trivial, ?_⟩
  refine (callsIn_wide.2 (nodesOf_any t _ _ (HV.out.kept HB0.out))).mono ?_
  rintro e w3 ⟨rfl, rfl⟩
  have hlim : t.lim 9223372036854775806 := Tm.lim_of_wt t _ (by have := HW.out; omega)
  obtain ⟨W0, hW0⟩ : ∃ W0, w0.alloc (.cells #[.string t.name, .slice a t.args.length c] 38) = W0 := ⟨_, rfl⟩
  have X5 : Hid (Two W0 w0.heap.size (.string t.name) (.slice a t.args.length c)) := Lib.hid (by rw [← hW0]; exact two_new _ _ _ _ _ rfl)
  have HB3 : Hid (Below w0.heap.size w0 W0) := Lib.hid (by rw [← hW0]; exact (Below.refl _ _).alloc (Nat.le_refl _) _)
  have HB4 : Hid (Below w.heap.size w W0) := Lib.hid (HB0.out.trans (HB3.out.mono HB0.out.size))
  have hwz : w.heap.size + 1 + 1 < W0.heap.size := by have := HB3.out.size; omega
  have h2 := H20.out.kept HB3.out
  have h3 := H30.out.kept HB3.out
  have HVT := Lib.hid (HV.out.kept HB4.out)
  rw [hW0]
  clear hW0 b0 b1 b2 hw0
  have hzz := Lib.hid hz0
  clear hz0
  gi_wp2
  refine wpIn_rangeFunc_ownH rfl (by omega) (gf := 168) (lb := #[.pointer (some ⟨w0.heap.size, 0, none⟩)]) rfl trivial (enters_of Try.func168 (by kernel_rfl) rfl)
    (nodesM_stops (9 - 1) w0.heap.size W0 t _ hlim HVT.out W0 (Below.refl _ _) (Nat.le_refl _) X5.out) (fun h k => h.trans k) (KpT.book (Nat.le_refl _)) (Below.refl _ _) (fun _ => rfl)
    (fun pre W => (∀ y ∈ pre, y.tm.name ≠ nm) ∧ Below W0.heap.size W0 W)
    (fun cc pre W => cc = .ret ∧ (∃ y ∈ pre, y.tm.name = nm) ∧ Fin1 w true W)
    (OwnFrom.and (ownFrom_pure _ _) (ownFrom_below (Nat.le_refl _) (Nat.le_refl _)))
    (fun cc => OwnFrom.and (ownFrom_pure _ (fun _ => cc = .ret)) (OwnFrom.and (ownFrom_pure _ _) (fin1_own w true _ (by omega))))
    ⟨fun y hy => (by cases hy), Below.refl _ _⟩
    (fun x a' W => ∃ (Bx : Nat), NdBox W Bx x ∧ a' = { tmps := #[.agg #[.string t.name, .slice a t.args.length c], .string nm, .pointer (some ⟨w.heap.size, 0, none⟩), .pointer (some ⟨w.heap.size + 1, 0, none⟩), .pointer (some ⟨w.heap.size + 1 + 1, 0, none⟩), .pointer (some ⟨Bx, 0, none⟩), .agg #[.string t.name, .slice a t.args.length c], .func (.func 168) #[] #[.pointer (some ⟨w0.heap.size, 0, none⟩)], .agg #[.string x.tm.name, .slice x.a x.tm.args.length x.c], undef, undef, undef, undef], defers := [] })
    (fun x a' _ X Y row hs hg hr => by obtain ⟨Bx, h2, h3⟩ := hs; exact ⟨Bx, ndBox_own Bx (fun _ => x) () X Y row h2 hg (fun r e => (hr r e).2), h3⟩)
    ?assign ?body ?done ?stop
  case assign =>
    rintro ll pre x W K ⟨hp, hB1⟩ hK
    simp only [Nd.enc]
    gi_wp2
    exact hK _ _ ((KeepsOthers.alloc _ _).from _) ((KpT.refl _ W).alloc hB1.size _) ⟨hp, hB1.alloc hB1.size _⟩ ⟨W.heap.size, NdBox.new W x, rfl⟩
  case body =>
    rintro ll pre x a' W hl ⟨r, hr⟩ ⟨hp, hB1⟩ ⟨Bx, hbx, rfl⟩ hlt2
    obtain ⟨x0, x1⟩ := hbx.cells
    have n0 := (h2.kept hB1).1
    have HP := Lib.hid hp
    have HB1 := Lib.hid hB1
    have m3 := h3.kept hB1
    obtain ⟨p2, p3⟩ := m3
    clear hp hB1
    rcases name_ways x.tm.name nm with ⟨hn, he⟩ | ⟨hn, he⟩
    · have HX : Hid (∃ y ∈ pre ++ [x], y.tm.name = nm) := Lib.hid ⟨x, by simp, hn⟩
      have HFO : Hid (Fin1 w true (W.setCell ⟨w.heap.size + 1 + 1, 0, none⟩ (.bool true))) := Lib.hid (Fin1.set p2 (HB4.out.trans (HB1.out.mono HB4.out.size)))
      have HKF : Hid (KeepsFrom W0.heap.size W (W.setCell ⟨w.heap.size + 1 + 1, 0, none⟩ (.bool true))) := Lib.hid ((KeepsOthers.setCell _ _ _).from _)
      clear hn
      gi_wp2
      exact ⟨HKF.out, rfl, HX.out, HFO.out⟩
    · have HX : Hid (∀ y ∈ pre ++ [x], y.tm.name ≠ nm) := Lib.hid (fun y hy => by
        rcases List.mem_append.1 hy with hy | hy
        · exact HP.out y hy
        · rw [List.mem_singleton.1 hy]; exact hn)
      clear hn
      gi_wp2
      exact ⟨KeepsFrom.refl _ _, KpT.refl _ _, HX.out, HB1.out⟩
  case done =>
    rintro D xs W hD hS ⟨hp, hB1⟩ hK
    have HF : Hid (hasN nm t = false) := Lib.hid (hasN_no fun s hs => by
      rw [← hS] at hs
      obtain ⟨y, hy, rfl⟩ := List.mem_map.1 hs
      exact hp y hy)
    obtain ⟨p2, p3⟩ := h3.kept hB1
    have HFO : Hid (Fin1 w false (W.setCell ⟨w.heap.size + 1 + 1, 0, none⟩ (.bool false))) := Lib.hid (Fin1.set p2 (HB4.out.trans (hB1.mono HB4.out.size)))
    have HOPN : Hid (Open (w.heap.size + 3) (W.setCell ⟨w.heap.size + 1 + 1, 0, none⟩ (.bool false)) [D]) := Lib.hid (((Open.nil _ _).cons (by omega) hK (by simp)).set (by simp) _)
    clear hp hB1 hS
    gi_wp2
    refine leaves_open (Fin1 w false) (w.heap.size + 3) (fun W D h hB hD => h.put (by omega) hD) (fun W h => ?_) [D] _ HOPN.out HFO.out
    obtain ⟨r1, rb⟩ := h
    exact ⟨.bool false, by simp [results, Try.results92, go_sem, r1], ret_bool HF.out.symm, rb⟩
  case stop =>
    rintro D cc pre W hD hS ⟨rfl, hx, hfo⟩ hK
    have HF2 : Hid (hasN nm t = true) := Lib.hid (by
      obtain ⟨y, hy, hyb⟩ := hx
      exact hasN_yes (hS y hy) hyb)
    have HFO := Lib.hid hfo
    have HOPN : Hid (Open (w.heap.size + 3) W [D]) := Lib.hid ((Open.nil _ _).cons (by omega) hK (by simp))
    clear hx hfo hS
    gi_wp2
    refine leaves_open (Fin1 w true) (w.heap.size + 3) (fun W D h hB hD => h.put (by omega) hD) (fun W h => ?_) [D] _ HOPN.out HFO.out
    obtain ⟨r1, rb⟩ := h
    exact ⟨.bool true, by simp [results, Try.results92, go_sem, r1], ret_bool HF2.out.symm, rb⟩

theorem contVar_any (nm : ByteArray) (t : Tm) (w : World) (va : Value) (hv : TmS w va t.args) (hw : t.wt ≤ 1048576) :
    Calls Try.prog 92 #[.agg #[.string t.name, va], .string nm] w (Ans (.bool (hasN nm t)) w) := callsIn_wide.1 (contVar_in nm t w va hv hw)

set_option maxHeartbeats 2000000 in
theorem implOcc_any (nm : ByteArray) (hnm : nm.size ≤ 1048576) (t : Tm) (w : World) (va : Value) (hv : TmS w va t.args) (hw : t.wt ≤ 1048576) :
    Calls Try.prog 31 #[.string nm, .agg #[.string t.name, va]] w (Ans (.tuple #[.bool (occR nm t), .bool (occOk nm t)]) w) := by
  obtain ⟨a, c, rfl⟩ := hv.is_slice
  have HV := Lib.hid hv
  have H2 := Lib.hid (two_new w (.string t.name) (.slice a t.args.length c) 38 _ rfl)
  have HB := Lib.hid ((Below.refl w.heap.size w).alloc (Nat.le_refl _) (.cells #[.string t.name, .slice a t.args.length c] 38))
  have CV := Lib.hid (fun W => isVar_any nm W (by unfold maxLen; omega))
  clear hv
  cases hvar : varB nm with
  | false =>
    have HF := Lib.hid (occ_v (t := t) hvar)
    rw [hvar] at CV
    clear hvar
    obtain ⟨b0, b1, b2⟩ := H2.out
    go_enter Try.func31, Try.ntmps31
    go_wp2_with fail
    refine (CV.out _).mono ?_
    rintro e w3 ⟨rfl, rfl⟩
    go_wp2
    go_ret2
    exact ⟨ret_bbJ HF.out.2.symm HF.out.1.symm, HB.out⟩
  | true =>
    have HVAR := Lib.hid hvar
    rw [hvar] at CV
    clear hvar
    obtain ⟨W1, hW1⟩ : ∃ W1, w.alloc (.cells #[.string t.name, .slice a t.args.length c] 38) = W1 := ⟨_, rfl⟩
    have T1 : Hid (Two W1 w.heap.size (.string t.name) (.slice a t.args.length c)) := Lib.hid (by rw [← hW1]; exact H2.out)
    have B1 : Hid (Below w.heap.size w W1) := Lib.hid (by rw [← hW1]; exact HB.out)
    have L1 := Lib.hid (two_new W1 (.string t.name) (.slice a t.args.length c) 38 _ rfl)
    have B11 : Hid (Below W1.heap.size W1 (W1.alloc (.cells #[.string t.name, .slice a t.args.length c] 38))) := Lib.hid ((Below.refl _ _).alloc (Nat.le_refl _) _)
    obtain ⟨b0, b1, b2⟩ := T1.out
    go_enter Try.func31, Try.ntmps31
    go_wp2_with fail
    refine (CV.out _).mono ?_
    rintro e w3 ⟨rfl, rfl⟩
    go_wp2_with fail
    refine (areExpr_one t _ _ _ _ ((HV.out.kept B1.out).kept B11.out) L1.out.1 L1.out.2.1 hw).mono ?_
    rintro e w4 ⟨rfl, hb⟩
    have hb := carry_below B11.out (Nat.le_refl _) hb
    have HB4 := Lib.hid (carry_below B1.out (Nat.le_refl _) hb)
    clear b0 b1 b2
    obtain ⟨b0, b1, b2⟩ := T1.out.kept hb
    clear hb hW1
    cases hf : anyB t with
    | false =>
      have HF := Lib.hid (occ_a (nm := nm) hf)
      clear hf
      go_wp2
      go_ret2
      exact ⟨ret_bbJ HF.out.2.symm HF.out.1.symm, HB4.out⟩
    | true =>
      have HF := Lib.hid (occ_y HVAR.out hf)
      clear hf
      go_wp2_with fail
      refine (contVar_any nm t _ _ (HV.out.kept HB4.out) hw).mono ?_
      rintro e w5 ⟨rfl, hb⟩
      have HB5 := Lib.hid (carry_below HB4.out (Nat.le_refl _) hb)
      clear hb
      go_wp2
      go_ret2
      exact ⟨ret_bbJ HF.out.2.symm HF.out.1.symm, HB5.out⟩

end Go.Proofs.Ytnkonhdnccolhaa
