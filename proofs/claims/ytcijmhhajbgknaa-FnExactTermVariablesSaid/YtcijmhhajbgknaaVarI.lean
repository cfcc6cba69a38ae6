/- TermVariables, the program's: a contract, for terms of at most 1048576 names' bytes and arguments. -/
import Derived.Test.YtcijmhhajbgknaaCntI
import Derived.Test.YtcijmhhajbgknaaVarS
import Derived.Sort.OwnSorted
import Derived.Lib.SlicesCompact
import Derived.Lib.RowBridge
namespace Go.Proofs.Ytcijmhhajbgknaa
open Go.RowKit Go.Shelf
set_option linter.unusedVariables false

attribute [local go_sem] Oper.semAt_some

/-- The names of the variables among the nodes. -/
def vn (l : List Tm) : List ByteArray := (l.filter fun s => varB s.name).map Tm.name
theorem vn_yes (l : List Tm) {s : Tm} (h : varB s.name = true) : vn (l ++ [s]) = vn l ++ [s.name] := by simp [vn, List.filter_append, h]
theorem vn_no (l : List Tm) {s : Tm} (h : varB s.name = false) : vn (l ++ [s]) = vn l := by simp [vn, List.filter_append, h]
theorem vn_len (l : List Tm) : (vn l).length ≤ l.length := by simp [vn]; exact List.length_filter_le _ _

def rawL (l : List ByteArray) : List (List UInt8) := l.map (·.data.toList)
def sortL (l : List ByteArray) : List (List UInt8) := (rawL l).mergeSort fun x y => decide (x ≤ y)
def outL (l : List ByteArray) : List (List UInt8) := Lib.compact (sortL l)
def bsL (l : List (List UInt8)) : List ByteArray := l.map fun x => ⟨x.toArray⟩
def ivL (t : Tm) : List ByteArray := if anyB t then bsL (outL (vn t.nds)) else []

def IVEnd (t : Tm) (w : World) (e : Ending) (w' : World) : Prop :=
  ∃ g cap, e = .returned (.tuple #[.slice (some ⟨g, 0, none⟩) (ivL t).length cap, .bool (anyB t)]) ∧ w'.ownsRow w.heap.size 9 1 (.slice (some ⟨g, 0, none⟩) (ivL t).length cap) (ivL t).length ((ivL t).map Value.string) ∧ Below w.heap.size w w'

theorem keepTm_app {W w1 : World} {base n : Nat} {v v' : Value} {xs : List Value} {o : Obj} {B : Nat} (hrow : W.ownsRow base 9 1 v n xs) (hg : (W.alloc o).grownBy w1 v.ownBlock) (hb : Boxed w1 B 50 v) : KeepTm W (w1.setCell ⟨B, 0, none⟩ v') := by
  refine (((KeepTm.refl W).alloc o).trans (KeepTm.grown hg fun r e a fz hr => ?_)).trans (KeepTm.grown (grownBy_setCell' w1 B _) fun r e a fz hr => ?_)
  · rcases (hrow.alloc o).2 with ⟨rfl, _⟩ | ⟨g, cap, cur, rfl, _, hgb, _⟩
    · simp [Value.ownBlock] at e
    · obtain rfl : g = r := by simpa [Value.ownBlock] using e
      rw [hgb] at hr
      cases hr
  · cases e
    rw [show w1.heap[B]? = _ from hb] at hr
    cases hr

theorem word_big (s : ByteArray) (w : World) (h1 : 4 < s.size) :
    Calls Try.prog 99 #[.string s, .int .i64 4] w fun e w' => e = .returned (.bool false) ∧ w = w' := by
  go_enter Try.func99, Try.ntmps99
  go_wp2
  go_ret
  exact ⟨rfl, rfl⟩
theorem isVar_all (s : ByteArray) (w : World) :
    Calls Try.prog 71 #[.string s] w fun e w' => e = .returned (.bool (varB s)) ∧ w = w' := by
  by_cases h : 4 < s.size
  · have C := Lib.hid (word_big s w h)
    have H : Hid (varB s = false) := Lib.hid (varB_short (by omega))
    clear h
    go_enter Try.func71, Try.ntmps71
    go_wp2_with fail
    refine C.out.mono ?_
    rintro e w' ⟨rfl, rfl⟩
    go_wp2
    go_ret
    exact ⟨ret_bool H.out.symm, rfl⟩
  · exact isVar_any s w (by unfold maxLen; omega)

open Go.Sort in
theorem enc_raw (l : List ByteArray) : l.map Value.string = (rawL l).map encStr := by simp [rawL, encStr]
theorem owns_shrink {W : World} {base g n m cap : Nat} {e : TypeId} {xs : List Value} (h : W.ownsRow base e 1 (.slice (some ⟨g, 0, none⟩) n cap) n xs) (hm : m ≤ n) : W.ownsRow base e 1 (.slice (some ⟨g, 0, none⟩) m cap) m (xs.take m) := by
  have hl := h.1
  refine ⟨by rw [List.length_take]; omega, ?_⟩
  rcases h.2 with ⟨h0, _⟩ | ⟨g', cap', cur, h0, hbg, hgb, hnc, hcm, hcs, ht⟩
  · cases h0
  · cases h0
    refine .inr ⟨_, _, cur, rfl, hbg, hgb, by omega, hcm, hcs, ?_⟩
    rw [← ht, List.take_take]
    congr 1
    omega

set_option maxRecDepth 100000 in
set_option maxHeartbeats 4000000 in
theorem implVars_in (t : Tm) (w : World) (va : Value) (hv : TmS w va t.args) (hw : t.wt ≤ 1048576) :
    CallsIn Fence.wide 9 Try.prog 33 #[.agg #[.string t.name, va]] w (IVEnd t w) := by
  obtain ⟨a, c, rfl⟩ := hv.is_slice
  obtain ⟨i0, hi, hz0, hz1, hz2⟩ := info_parts infoStr
  have HV := Lib.hid hv
  have B3 := Lib.hid (((Below.refl w.heap.size w).alloc (Nat.le_refl _) (.cells #[.string t.name, .slice a t.args.length c] 24)).alloc (by simp) (.cells #[.string t.name, .slice a t.args.length c] 24))
  have T3 := Lib.hid ((two_new w (.string t.name) (.slice a t.args.length c) 24 _ rfl).alloc (.cells #[.string t.name, .slice a t.args.length c] 24))
  have S3 := Lib.hid (two_new (w.alloc (.cells #[.string t.name, .slice a t.args.length c] 24)) (.string t.name) (.slice a t.args.length c) 24 (w.heap.size + 1) (by simp))
  clear hv
  refine callsIn_of_wp_marks Try.func33 rfl trivial ?_ rfl
  simp only [Try.ntmps33, List.size_toArray, List.length_cons, List.length_nil, Nat.reduceAdd, Nat.reduceSub, Array.replicate_succ, Array.replicate_zero, List.push_toArray, List.append_toArray, List.nil_append, List.cons_append]
  gi_wp2
  refine ⟨trivial, ?_⟩
  refine (callsIn_wide.2 (areExpr_one t _ _ _ _ (HV.out.kept B3.out) S3.out.1 S3.out.2.1 hw)).mono ?_
  rintro e w' ⟨rfl, hb⟩
  have HB := Lib.hid (carry_below B3.out (Nat.le_refl _) hb)
  have T4 := Lib.hid (T3.out.kept hb)
  have S4 := Lib.hid (S3.out.kept hb)
  obtain ⟨b0, b1, b2⟩ := T3.out.kept hb
  clear hb
  cases hf : anyB t with
  | false =>
    have HE : Hid (IVEnd t w (.returned (.tuple #[.slice (some ⟨w'.heap.size, 0, none⟩) 0 0, .bool false])) (w'.alloc (.cells #[] 9))) := Lib.hid (by
      have e : ivL t = [] := by simp [ivL, hf]
      refine ⟨w'.heap.size, 0, by rw [e, hf]; rfl, ?_, HB.out.alloc HB.out.size _⟩
      rw [e]
      exact World.ownsRow_lit w' #[] 0 HB.out.size (Nat.zero_le _) rfl)
    clear hf
    gi_wp2
    refine ⟨_, results_tmp2 rfl _ _ _, ?_⟩
    exact HE.out
  | true =>
    have HFF := Lib.hid hf
    clear hf
    have B5 := Lib.hid ((HB.out.alloc HB.out.size (.cells #[] 9)).alloc (by have := HB.out.size; simp; omega) (.cells #[.slice (some ⟨w'.heap.size, 0, none⟩) 0 0] 50))
    obtain ⟨d0, d1, d2⟩ := (T4.out.alloc (.cells #[] 9)).alloc (.cells #[.slice (some ⟨w'.heap.size, 0, none⟩) 0 0] 50)
    have q0 := T4.out.1
    have q1 := T4.out.2.1
    gi_wp2
    refine ⟨trivial, ?_⟩
    refine (callsIn_wide.2 (nodesOf_any t _ _ (HV.out.kept B5.out))).mono ?_
    rintro e w2 ⟨rfl, rfl⟩
    have C5 : Hid (Boxed (((w'.alloc (.cells #[] 9)).alloc (.cells #[.slice (some ⟨w'.heap.size, 0, none⟩) 0 0] 50)).alloc (.cells #[.string t.name, .slice a t.args.length c] 24)) (w'.heap.size + 1) 50 (.slice (some ⟨w'.heap.size, 0, none⟩) 0 0)) := Lib.hid (by
      have h := Boxed.new (w'.alloc (.cells #[] 9)) 50 (.slice (some ⟨w'.heap.size, 0, none⟩) 0 0)
      have e : (w'.alloc (.cells #[] 9)).heap.size = w'.heap.size + 1 := by simp
      rw [e] at h
      exact h.alloc _)
    have R5 : Hid ((((w'.alloc (.cells #[] 9)).alloc (.cells #[.slice (some ⟨w'.heap.size, 0, none⟩) 0 0] 50)).alloc (.cells #[.string t.name, .slice a t.args.length c] 24)).ownsRow w.heap.size 9 1 (.slice (some ⟨w'.heap.size, 0, none⟩) 0 0) 0 []) := Lib.hid (((World.ownsRow_lit w' #[] 0 HB.out.size (Nat.zero_le _) rfl).alloc _).alloc _)
    have X5 := Lib.hid (two_new ((w'.alloc (.cells #[] 9)).alloc (.cells #[.slice (some ⟨w'.heap.size, 0, none⟩) 0 0] 50)) (.string t.name) (.slice a t.args.length c) 24 (w'.heap.size + 1 + 1) (by simp))
    have B6 := Lib.hid (B5.out.alloc B5.out.size (.cells #[.string t.name, .slice a t.args.length c] 24))
    have hz : w.heap.size + 1 < w'.heap.size := by have := World.block_lt_of_cell? w' _ S4.out.1; simpa using this
    obtain ⟨W0, hW0⟩ : ∃ W0, ((w'.alloc (.cells #[] 9)).alloc (.cells #[.slice (some ⟨w'.heap.size, 0, none⟩) 0 0] 50)).alloc (.cells #[.string t.name, .slice a t.args.length c] 24) = W0 := ⟨_, rfl⟩
    have hW0s : W0.heap.size = w'.heap.size + 3 := by rw [← hW0]; simp
    rw [hW0] at C5 R5 X5 B6 ⊢
    clear hW0 d0 d1 d2 q0 q1
    gi_wp2
    have hlim : t.lim 9223372036854775806 := Tm.lim_of_wt t _ (by omega)
    have hfit := anyB_fits HFF.out
    have hft : t.sz ≤ 30 ∧ t.dp ≤ 8 := by simpa [fitsB] using hfit
    have hN : t.nds.length ≤ 30 := by rw [Tm.nds_len]; exact hft.1
    clear hfit
    refine wpIn_rangeFunc_ownH rfl (by omega) (gf := 96) (lb := #[.pointer (some ⟨w'.heap.size + 1 + 1, 0, none⟩)]) rfl trivial (enters_of Try.func96 (by kernel_rfl) rfl)
      (nodes_stops (9 - 1) (w'.heap.size + 1 + 1) w t _ hlim HV.out W0 B6.out (by omega) X5.out) (fun h k => h.trans k) (KpT.book (by omega)) (Below.refl _ _) (fun _ => rfl)
      (fun pre W => (∃ v, Boxed W (w'.heap.size + 1) 50 v ∧ W.ownsRow w.heap.size 9 1 v (vn (pre.map Nd.tm)).length ((vn (pre.map Nd.tm)).map Value.string) ∧ v ≠ .slice none 0 0) ∧ Below w.heap.size w W)
      (fun _ _ _ => False)
      (OwnFrom.and (Own.from (holdsRow_own w.heap.size (w'.heap.size + 1) 50 9 1 (fun pre : List Nd => (vn (pre.map Nd.tm)).length) (fun pre => (vn (pre.map Nd.tm)).map Value.string) (fun _ v => v ≠ .slice none 0 0)) _) (ownFrom_below (Nat.le_refl _) (by omega)))
      (fun _ _ _ _ _ hs _ _ => hs)
      ⟨⟨_, C5.out, by simpa [vn] using R5.out, by simp⟩, B6.out⟩
      (fun x a' W => ∃ Bx, NdBox W Bx x ∧ a' = { tmps := #[.agg #[.string t.name, .slice a t.args.length c], .pointer (some ⟨w.heap.size, 0, none⟩), .slice none 0 0, .bool false, .pointer (some ⟨w'.heap.size + 1, 0, none⟩), .pointer (some ⟨Bx, 0, none⟩), .agg #[.string t.name, .slice a t.args.length c], .slice (some ⟨w.heap.size + 1, 0, none⟩) 1 1, .bool true, .bool false, undef, .slice (some ⟨w'.heap.size, 0, none⟩) 0 0, .agg #[.string t.name, .slice a t.args.length c], .func (.func 96) #[] #[.pointer (some ⟨w'.heap.size + 1 + 1, 0, none⟩)], .agg #[.string x.tm.name, .slice x.a x.tm.args.length x.c], undef, undef, undef, undef, undef, undef, undef, undef, undef, undef, undef, undef], defers := [] })
      (fun x a' _ X Y row hs hg hr => by obtain ⟨Bx, h2, h3⟩ := hs; exact ⟨Bx, ndBox_own Bx (fun _ => x) () X Y row h2 hg (fun r e => (hr r e).2), h3⟩)
      ?assign ?body ?done ?stop
    case assign =>
      rintro l pre x W K ⟨⟨v, hbv, hrow, hnn⟩, hB1⟩ hK
      simp only [Nd.enc]
      gi_wp2
      exact hK _ _ ((KeepsOthers.alloc _ _).from _) ((KpT.refl _ W).alloc hB1.size _) ⟨⟨v, hbv.alloc _, hrow.alloc _, hnn⟩, hB1.alloc hB1.size _⟩ ⟨W.heap.size, NdBox.new W x, rfl⟩
    case body =>
      rintro l pre x a' W hl ⟨r, hr⟩ ⟨⟨v, hbv, hrow, hnn⟩, hB1⟩ ⟨Bx, hbx, rfl⟩ hlt
      obtain ⟨x0, x1⟩ := hbx.cells
      have k0 := hbv.cell
      have k1 := hbv.frozen
      have hvl := vn_len (pre.map Nd.tm)
      rw [List.length_map] at hvl
      have C := Lib.hid (isVar_all x.tm.name W)
      cases hb : varB x.tm.name with
      | false =>
        have HE : Hid (vn ((pre ++ [x]).map Nd.tm) = vn (pre.map Nd.tm)) := Lib.hid (by rw [List.map_append]; exact vn_no _ hb)
        rw [hb] at C
        clear hb
        gi_wp2
        refine ⟨trivial, ?_⟩
        refine (callsIn_wide.2 C.out).mono ?_
        rintro e w2 ⟨rfl, rfl⟩
        gi_wp2
        exact ⟨KeepsFrom.refl _ _, KpT.refl _ _, ⟨v, hbv, by rw [HE.out]; exact hrow, hnn⟩, hB1⟩
      | true =>
        have HE : Hid (vn ((pre ++ [x]).map Nd.tm) = vn (pre.map Nd.tm) ++ [x.tm.name]) := Lib.hid (by rw [List.map_append]; exact vn_yes _ hb)
        rw [hb] at C
        clear hb
        gi_wp2
        refine ⟨trivial, ?_⟩
        refine (callsIn_wide.2 C.out).mono ?_
        rintro e w2 ⟨rfl, rfl⟩
        gi_wp2_with (gi_at_builtin; go_loud (refine wpListIn_append_own _ rfl _ _ 50 rfl w.heap.size 9 i0 (.string ByteArray.empty) 1 16 Try.underlying50 hi hz0 hz1 hz2 rfl (by decide) _ _ _ rfl (hrow.alloc _) ⟨W.heap.size, 0, none⟩ 1 1 [.string x.tm.name] rfl rfl (cell_one_new _ _ _) (by simp [Value.oneCell']) (by unfold maxLen; omega) (by omega) (by have := hB1.size; simp; omega) ?_); intro v' w1 hown' hgrow _; obtain ⟨g', cap', rfl⟩ := ownsRow_succ hown'; obtain ⟨hv1, hv2, hr2, hk2, hb2⟩ := hbv.appended (by decide) hrow hB1.size (by omega) hown' hgrow; have hc1 := hv1.cell; have hf1 := hv1.frozen)
        exact ⟨hk2.from _, ⟨hb2, keepTm_app hrow hgrow hv1⟩, ⟨_, hv2, by rw [HE.out, List.length_append, List.map_append]; exact hr2, by simp⟩, hB1.trans hb2⟩
    case done =>
      rintro D xs W hD hS ⟨⟨v, hbv, hrow, hnn⟩, hB1⟩ hK
      rw [hS] at hrow
      rcases id hrow.2 with ⟨rfl, _⟩ | ⟨g, cap, cur, rfl, hbg, hgb, hnc, hcm, hcs, htake⟩
      · exact absurd rfl hnn
      have hll : (vn t.nds).length = (rawL (vn t.nds)).length := by simp [rawL]
      have hsl : (sortL (vn t.nds)).length = (rawL (vn t.nds)).length := by simp [sortL, List.length_mergeSort]
      have hvl := vn_len t.nds
      have hgl : g < W.heap.size := (Array.getElem?_eq_some_iff.1 hgb).1
      have hH := holds_of_block (ss := rawL (vn t.nds)) hgb (by rw [← enc_raw, ← hll]; simpa using htake)
      have hcl : (outL (vn t.nds)).length ≤ (sortL (vn t.nds)).length := Lib.compact_length_le _
      have CS := Try.slices_Sort_string g 0 cap (rawL (vn t.nds)) W hH hgl (by omega)
      rw [← hll] at CS
      have HCS := Lib.hid CS
      have k0 := hbv.cell
      have HLL := Lib.hid hll
      have HSL := Lib.hid hsl
      have HCL := Lib.hid hcl
      have hDl : D < W.heap.size := (Array.getElem?_eq_some_iff.1 hK).1
      have hDg : D ≠ g := fun e => by rw [e, hgb] at hK; cases hK
      have hNg : w'.heap.size + 1 ≠ g := fun e => by rw [e] at hbv; rw [show W.heap[g]? = _ from hbv] at hgb; cases hgb
      have HHH := Lib.hid hH
      clear CS hH hll hsl hcl
      gi_wp2
      refine ⟨trivial, ?_⟩
      refine (callsIn_wide.2 HCS.out).mono ?_
      rintro e w4 ⟨rfl, q, os, hw4⟩
      have hg4 : W.grownBy w4 (some g) := by rw [hw4]; exact grownBy_sorted _
      have hb4 : w4.heap[g]? = some (.cells (Sort.putCells encStr 0 (sortL (vn t.nds)).toArray cur) 9 (0, 0)) := by rw [hw4]; exact heap_sorted _ hgb
      have hbv4 := hbv.kept hg4 (by simpa using hNg)
      have hK4 : w4.heap[D]? = _ := (hg4.block D hDl (by simpa using hDg)).trans hK
      have hB4 := hB1.grown hg4 hB1.size (fun r e => by cases e; exact hbg)
      have hH4 := holds_of_block (ss := sortL (vn t.nds)) hb4 (take_putCells cur _ (by have := HSL.out; have := HLL.out; omega))
      have CC := Try.slices_Compact_string g 0 cap (sortL (vn t.nds)) w4 hH4 (by have := HSL.out; have := HLL.out; omega) (by have := HSL.out; have := HLL.out; omega)
      rw [HSL.out, ← HLL.out] at CC
      have HCC := Lib.hid CC
      have k4 := hbv4.cell
      have hcs4 : (Sort.putCells encStr 0 (sortL (vn t.nds)).toArray cur).size = cap * 1 := by simp [Sort.putCells, hcs]
      have HB4 := Lib.hid hb4
      have HK4 := Lib.hid hK4
      have HW4 := Lib.hid hw4
      clear hw4 CC hH4 hb4 hK4 hK k0
      gi_wp2
      refine ⟨trivial, ?_⟩
      refine (callsIn_wide.2 HCC.out).mono ?_
      rintro e w5 ⟨rfl, q2, hw5⟩
      have hw5' : w5 = Sort.grow (Sort.putRow encStr (Sort.ahead w4 q2) g 0 (outL (vn t.nds) ++ List.replicate ((vn t.nds).length - (outL (vn t.nds)).length) []).toArray) #[] := by rw [Sort.grow_empty]; exact hw5
      have hg5 : w4.grownBy w5 (some g) := by rw [hw5']; exact grownBy_sorted _
      have hK5 : w5.heap[D]? = _ := (hg5.block D (Array.getElem?_eq_some_iff.1 HK4.out).1 (by simpa using hDg)).trans HK4.out
      have hB5 := hB4.grown hg5 hB4.size (fun r e => by cases e; exact hbg)
      have own5 := ownsRow_sorted (w := w4) (n := q2) (os := #[]) (base := w.heap.size) (ss := sortL (vn t.nds)) (ts := outL (vn t.nds) ++ List.replicate ((vn t.nds).length - (outL (vn t.nds)).length) []) (by have := HSL.out; have := HLL.out; have := HCL.out; simp; omega) hbg HB4.out (by have := HSL.out; have := HLL.out; omega) hcm hcs4
      rw [← hw5'] at own5
      have own6 := owns_shrink own5 HCL.out
      have hiv : ivL t = bsL (outL (vn t.nds)) := by simp [ivL, HFF.out]
      have hivl : (ivL t).length = (outL (vn t.nds)).length := by rw [hiv]; simp [bsL]
      have hxs : (((outL (vn t.nds) ++ List.replicate ((vn t.nds).length - (outL (vn t.nds)).length) []).map encStr).take (outL (vn t.nds)).length) = (ivL t).map Value.string := by
        rw [hiv, List.map_append, List.take_left' (by simp)]
        simp [bsL, encStr]
      rw [hxs] at own6
      have OWN := Lib.hid own6
      have HK5 := Lib.hid hK5
      have HB5 := Lib.hid hB5
      have HIV := Lib.hid hivl
      clear hw5 hw5' own5 own6 hxs hK5 hB5 hiv hivl k4 hcs4
      gi_wp2
      refine ⟨by simp, .inl ⟨_, _, rfl, run_takeDeferred HK5.out, ?_⟩⟩
      refine ⟨_, results_tmp2 rfl _ _ _, g, cap, ?_, ?_, HB5.out.trans (belowK_b (w := w) (Nat.le_refl _) w5 D _ _ (by omega) HK5.out rfl rfl)⟩
      · rw [HIV.out, HFF.out]
        rfl
      · rw [HIV.out]
        exact ownsRow_putObj OWN.out _ HK5.out rfl
    case stop =>
      rintro D c pre W _ _ h _
      exact h.elim

theorem implVars_any (t : Tm) (w : World) (va : Value) (hv : TmS w va t.args) (hw : t.wt ≤ 1048576) :
    Calls Try.prog 33 #[.agg #[.string t.name, va]] w (IVEnd t w) := callsIn_wide.1 (implVars_in t w va hv hw)

end Go.Proofs.Ytcijmhhajbgknaa
