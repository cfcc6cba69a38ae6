/- CountSymbol, the program's: a contract, for terms of at most 1048576 names' bytes and arguments. -/
import Derived.Test.YtcijmhhajbgknaaCnt
namespace Go.Proofs.Ytcijmhhajbgknaa
open Go.RowKit Go.Shelf
set_option linter.unusedVariables false

attribute [local go_sem] Oper.semAt_some

/-- A node's own box. -/
def NdBox (W : World) (B : Nat) (x : Nd) : Prop := W.heap[B]? = some (Obj.cells #[.string x.tm.name, .slice x.a x.tm.args.length x.c] 24 (0, 0))
theorem NdBox.cells {W : World} {B : Nat} {x : Nd} (h : NdBox W B x) : W.cell? ⟨B, 0, none⟩ = some (.string x.tm.name) ∧ W.cell? ⟨B, 1, none⟩ = some (.slice x.a x.tm.args.length x.c) := by
  have e : W.heap[B]? = _ := h
  constructor <;> simp [World.cell?, e]
theorem ndBox_own (B : Nat) (f : Unit → Nd) : Own (fun s W => NdBox W B (f s)) := fun s X Y row hs hg hrow =>
  (hg.block B (Array.getElem?_eq_some_iff.1 hs).1 (fun e' => by
    obtain ⟨o, ho, hc⟩ := hrow B e'.symm
    rw [show X.heap[B]? = _ from hs] at ho; cases ho; cases hc)).trans hs
theorem NdBox.new (W : World) (x : Nd) : NdBox (W.alloc (.cells #[.string x.tm.name, .slice x.a x.tm.args.length x.c] 24)) W.heap.size x := World.alloc_heap_new W _

set_option maxRecDepth 100000 in
set_option maxHeartbeats 2000000 in
theorem implCount_in (nm : ByteArray) (t : Tm) (w : World) (va : Value) (hv : TmS w va t.args) (hw : t.wt ≤ 1048576) :
    CallsIn Fence.wide 9 Try.prog 31 #[.agg #[.string t.name, va], .string nm] w (Ans (.tuple #[.int .i64 (cntA t nm), .bool (anyB t)]) w) := by
  obtain ⟨a, c, rfl⟩ := hv.is_slice
  have hdd : ∀ k : Nat, (Fence.wide.depth.isSome = true → 1 ≤ k) := fun k h => by cases h
  have HV := Lib.hid hv
  have B3 := Lib.hid ((((Below.refl w.heap.size w).alloc (Nat.le_refl _) (.cells #[.string t.name, .slice a t.args.length c] 24)).alloc (by simp) (.cells #[.string nm] 9)).alloc (by simp; omega) (.cells #[.string t.name, .slice a t.args.length c] 24))
  have T3 := Lib.hid (((two_new w (.string t.name) (.slice a t.args.length c) 24 _ rfl).alloc (.cells #[.string nm] 9)).alloc (.cells #[.string t.name, .slice a t.args.length c] 24))
  have S3 := Lib.hid (two_new ((w.alloc (.cells #[.string t.name, .slice a t.args.length c] 24)).alloc (.cells #[.string nm] 9)) (.string t.name) (.slice a t.args.length c) 24 (w.heap.size + 1 + 1) (by simp))
  have N3 := Lib.hid ((Boxed.new (w.alloc (.cells #[.string t.name, .slice a t.args.length c] 24)) 9 (.string nm)).alloc (.cells #[.string t.name, .slice a t.args.length c] 24))
  clear hv
  refine callsIn_of_wp_marks Try.func31 rfl trivial ?_ rfl
  simp only [Try.ntmps31, List.size_toArray, List.length_cons, List.length_nil, Nat.reduceAdd, Nat.reduceSub, Array.replicate_succ, Array.replicate_zero, List.push_toArray, List.append_toArray, List.nil_append, List.cons_append]
  gi_wp2
  refine ⟨trivial, ?_⟩
  refine (callsIn_wide.2 (areExpr_one t _ _ _ _ (HV.out.kept B3.out) S3.out.1 S3.out.2.1 hw)).mono ?_
  rintro e w' ⟨rfl, hb⟩
  have HB := Lib.hid (carry_below B3.out (Nat.le_refl _) hb)
  have N4 := Lib.hid (N3.out.kept ⟨hb.os, hb.tape, hb.output, hb.size, fun k hk _ => hb.block k hk⟩ (row := none) (by simp))
  have T4 := Lib.hid (T3.out.kept hb)
  have S4 := Lib.hid (S3.out.kept hb)
  obtain ⟨b0, b1, b2⟩ := T3.out.kept hb
  clear hb
  cases hf : anyB t with
  | false =>
    have HF := Lib.hid (cntA_no (nm := nm) hf)
    have HFF := Lib.hid hf
    clear hf
    gi_wp2
    refine ⟨_, results_tmp2 rfl _ _ _, ?_, HB.out⟩
    exact ret_pair HF.out.symm HFF.out.symm
  | true =>
    have HF := Lib.hid (cntA_yes (nm := nm) hf)
    have HFF := Lib.hid hf
    clear hf
    have B5 := Lib.hid (HB.out.alloc HB.out.size (.cells #[.int .i64 0] 3))
    obtain ⟨d0, d1, d2⟩ := T4.out.alloc (.cells #[.int .i64 0] 3)
    clear b0 b1 b2
    gi_wp2
    refine ⟨trivial, ?_⟩
    refine (callsIn_wide.2 (nodesOf_any t _ _ (HV.out.kept B5.out))).mono ?_
    rintro e w2 ⟨rfl, rfl⟩
    have C5 := Lib.hid ((Boxed.new w' 3 (.int .i64 0)).alloc (.cells #[.string t.name, .slice a t.args.length c] 24))
    have N5 := Lib.hid ((N4.out.alloc (.cells #[.int .i64 0] 3)).alloc (.cells #[.string t.name, .slice a t.args.length c] 24))
    have X5 := Lib.hid (two_new (w'.alloc (.cells #[.int .i64 0] 3)) (.string t.name) (.slice a t.args.length c) 24 (w'.heap.size + 1) (by simp))
    have B6 := Lib.hid (B5.out.alloc B5.out.size (.cells #[.string t.name, .slice a t.args.length c] 24))
    have hz : w.heap.size + 2 < w'.heap.size := by have := World.block_lt_of_cell? w' _ S4.out.1; simpa using this
    obtain ⟨W0, hW0⟩ : ∃ W0, (w'.alloc (.cells #[.int .i64 0] 3)).alloc (.cells #[.string t.name, .slice a t.args.length c] 24) = W0 := ⟨_, rfl⟩
    have hW0s : W0.heap.size = w'.heap.size + 2 := by rw [← hW0]; simp
    rw [hW0] at C5 N5 X5 B6 ⊢
    clear hW0 d0 d1 d2
    gi_wp2
    have hlim : t.lim 9223372036854775806 := Tm.lim_of_wt t _ (by omega)
    have hfit := anyB_fits HFF.out
    have hft : t.sz ≤ 30 ∧ t.dp ≤ 8 := by simpa [fitsB] using hfit
    have hN : t.nds.length ≤ 30 := by rw [Tm.nds_len]; exact hft.1
    clear hfit
    refine wpIn_rangeFunc_ownH rfl (by omega) (gf := 96) (lb := #[.pointer (some ⟨w'.heap.size + 1, 0, none⟩)]) rfl trivial (enters_of Try.func96 (by kernel_rfl) rfl)
      (nodes_stops (9 - 1) (w'.heap.size + 1) w t _ hlim HV.out W0 B6.out (by omega) X5.out) (fun h k => h.trans k) (KpT.book (by omega)) (Below.refl _ _) (fun _ => rfl)
      (fun pre W => (Boxed W w'.heap.size 3 (.int .i64 (cnt nm (pre.map Nd.tm) : Nat)) ∧ Boxed W (w.heap.size + 1) 9 (.string nm)) ∧ Below w.heap.size w W)
      (fun _ _ _ => False)
      (OwnFrom.and (OwnFrom.and (Own.from (boxed_own _ _ _) _) (Own.from (boxed_own _ _ _) _)) (ownFrom_below (Nat.le_refl _) (by omega)))
      (fun _ _ _ _ _ hs _ _ => hs)
      ⟨⟨by simpa [cnt] using C5.out, by simpa using N5.out⟩, B6.out⟩
      (fun x a' W => ∃ Bx, NdBox W Bx x ∧ a' = { tmps := #[.agg #[.string t.name, .slice a t.args.length c], .string nm, .pointer (some ⟨w.heap.size, 0, none⟩), .pointer (some ⟨w.heap.size + 1, 0, none⟩), .int .i64 0, .bool false, .pointer (some ⟨w'.heap.size, 0, none⟩), .pointer (some ⟨Bx, 0, none⟩), .agg #[.string t.name, .slice a t.args.length c], .slice (some ⟨w.heap.size + 1 + 1, 0, none⟩) 1 1, .bool true, .bool false, .agg #[.string t.name, .slice a t.args.length c], .func (.func 96) #[] #[.pointer (some ⟨w'.heap.size + 1, 0, none⟩)], .agg #[.string x.tm.name, .slice x.a x.tm.args.length x.c], undef, undef, undef, undef, undef, undef, undef], defers := [] })
      (fun x a' _ X Y row hs hg hr => by obtain ⟨Bx, h2, h3⟩ := hs; exact ⟨Bx, ndBox_own Bx (fun _ => x) () X Y row h2 hg (fun r e => (hr r e).2), h3⟩)
      ?assign ?body ?done ?stop
    case assign =>
      rintro l pre x W K ⟨⟨bC, bN⟩, hB1⟩ hK
      simp only [Nd.enc]
      gi_wp2
      exact hK _ _ ((KeepsOthers.alloc _ _).from _) ((KpT.refl _ W).alloc hB1.size _) ⟨⟨bC.alloc _, bN.alloc _⟩, hB1.alloc hB1.size _⟩ ⟨W.heap.size, NdBox.new W x, rfl⟩
    case body =>
      rintro l pre x a' W hl ⟨r, hr⟩ ⟨⟨bC, bN⟩, hB1⟩ ⟨Bx, hbx, rfl⟩ hlt
      obtain ⟨x0, x1⟩ := hbx.cells
      have n0 := bN.cell
      have k0 := bC.cell
      have k1 := bC.frozen
      have hcl := cnt_le nm (pre.map Nd.tm)
      rw [List.length_map] at hcl
      rcases name_ways x.tm.name nm with ⟨hn, he⟩ | ⟨hn, he⟩
      · have HE : Hid (cnt nm ((pre ++ [x]).map Nd.tm) = cnt nm (pre.map Nd.tm) + 1) := Lib.hid (by rw [List.map_append, cnt_append]; simp [cnt, hn])
        clear hn
        gi_wp2
        exact ⟨(KeepsOthers.setCell _ _ _).from _, ⟨(Below.refl _ W).setCell (p := ⟨w'.heap.size, 0, none⟩) (by simp; omega) _, KeepTm.grown (grownBy_setCell' W w'.heap.size _) (fun r e aa fz hr => by
            cases e
            rw [show W.heap[w'.heap.size]? = _ from bC] at hr
            cases hr)⟩, ⟨by rw [HE.out]; exact bC.set _, bN.other (by omega) _⟩, hB1.setCell (p := ⟨w'.heap.size, 0, none⟩) (by simp; omega) _⟩
      · have HE : Hid (cnt nm ((pre ++ [x]).map Nd.tm) = cnt nm (pre.map Nd.tm)) := Lib.hid (by rw [List.map_append, cnt_append]; simp [cnt, hn])
        clear hn
        gi_wp2
        exact ⟨KeepsFrom.refl _ _, KpT.refl _ _, ⟨by rw [HE.out]; exact bC, bN⟩, hB1⟩
    case done =>
      rintro D xs W hD hS ⟨⟨bC, bN⟩, hB1⟩ hK
      have k0 := bC.cell
      gi_wp2
      refine ⟨by simp, .inl ⟨_, _, rfl, run_takeDeferred hK, ?_⟩⟩
      refine ⟨_, results_tmp2 rfl _ _ _, ?_, hB1.trans (belowK_b (w := w) (Nat.le_refl _) W D _ _ (by omega) hK rfl rfl)⟩
      exact ret_pair HF.out.symm HFF.out.symm
    case stop =>
      rintro D c pre W _ _ h _
      exact h.elim

theorem implCount_any (nm : ByteArray) (t : Tm) (w : World) (va : Value) (hv : TmS w va t.args) (hw : t.wt ≤ 1048576) :
    Calls Try.prog 31 #[.agg #[.string t.name, va], .string nm] w (Ans (.tuple #[.int .i64 (cntA t nm), .bool (anyB t)]) w) := callsIn_wide.1 (implCount_in nm t w va hv hw)

end Go.Proofs.Ytcijmhhajbgknaa
