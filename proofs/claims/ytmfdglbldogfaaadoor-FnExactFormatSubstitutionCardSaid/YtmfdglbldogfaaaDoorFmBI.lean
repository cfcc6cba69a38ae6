/- FormatSubstitution, the program's: a contract, for bindings of at most 1048576 names' bytes, bindings and arguments. -/
import Derived.Test.YtmfdglbldogfaaaDoorSubP
import Derived.Test.YtmfdglbldogfaaaDoorFmBM
import Derived.Test.YtmfdglbldogfaaaDoorWrE
namespace Go.Proofs.YtmfdglbldogfaaaDoor
open Go.RowKit
set_option linter.unusedVariables false

/-- A box that holds a binding. -/
def BoxB (W : World) (g : Nat) (d : Bd) (v : Value) : Prop := W.heap[g]? = some (Obj.cells #[.string d.var, .string d.tm.name, v] 40 (0, 0))
theorem BoxB.new (W : World) (d : Bd) (v : Value) : BoxB (W.alloc (.cells #[.string d.var, .string d.tm.name, v] 40)) W.heap.size d v := World.alloc_heap_new W _
theorem BoxB.thr {W : World} {g : Nat} {d : Bd} {v : Value} (h : BoxB W g d v) : Thr W g (.string d.var) (.string d.tm.name) v := by
  have e : W.heap[g]? = _ := h
  exact ⟨by simp [World.cell?, e], by simp [World.cell?, e], by simp [World.cell?, e], fun j => by simp [World.frozen?, e]⟩
theorem BoxB.kept {B b g : Nat} {W W' : World} {d : Bd} {v : Value} (h : BoxB W g d v) (hg : g ≠ b) (hk : Keep B b W W') : BoxB W' g d v :=
  hk.2 g _ h (fun e => hg (by injection e)) (fun c fz e => by injection e with _ e2; cases e2)

theorem good_nodesI {t : Tm} (h : goodB t = true) : t.nodesB = true := by
  unfold goodB at h; simp only [Bool.and_eq_true] at h; exact h.2

set_option maxRecDepth 100000 in
set_option maxHeartbeats 4000000 in
theorem implFmtSub_any (l : List Bd) (w : World) (v : Value) (hv : BdS w v l) (hw : wtB l ≤ 1048576) :
    Calls Tryd.prog 7 #[.agg #[v]] w (Ans (.tuple #[.string (fmtB l), .bool (goodS l)]) w) := by
  have hl6 : l.length ≤ 1048576 := Nat.le_trans (wtB_len l) hw
  have HW := Lib.hid hw
  obtain ⟨a, c, rfl⟩ := hv.is_slice
  have HV := Lib.hid hv
  have H1 := Lib.hid (oner_new w (.slice a l.length c) 30 _ rfl)
  have HB0 := Lib.hid ((Below.refl w.heap.size w).alloc (Nat.le_refl _) (.cells #[.slice a l.length c] 30))
  clear hv hw
  obtain ⟨b0, b1⟩ := H1.out
  go_enter Tryd.func7, Tryd.ntmps7
  go_wp2_with fail
  refine (implIsValidSub_any l _ _ (HV.out.alloc _) HW.out).mono ?_
  rintro e w1 ⟨rfl, hb⟩
  have HB1 := Lib.hid (carry_below HB0.out (Nat.le_refl _) hb)
  have H11 := Lib.hid (H1.out.kept hb)
  clear hb b0 b1
  cases hg : goodS l with
  | false =>
    have HF := Lib.hid (fmtB_no hg)
    have HG := Lib.hid hg
    clear hg
    go_wp2
    go_ret2
    exact ⟨ret_strb HF.out.symm HG.out.symm, HB1.out⟩
  | true =>
    have HF := Lib.hid (fmtB_yes hg)
    have HG := Lib.hid hg
    have HLEN : Hid (∀ k, (sbT (l.take k)).length ≤ 4000000) := Lib.hid (fun k => by have h1 := sbT_len_take l k; have h2 := sbT_len l; have h3 := HW.out; omega)
    have HBA := Lib.hid ((Below.refl w1.heap.size w1).alloc (Nat.le_refl _) (.cells #[.slice none 0 0, .int .i64 0, .int .i8 0] 47))
    have HU0 : Hid (IsBuf w1.heap.size w1.heap.size [] (w1.alloc (.cells #[.slice none 0 0, .int .i64 0, .int .i8 0] 47))) := Lib.hid (Lib.fresh_isBuffer 47 5 w1)
    obtain ⟨b0, b1⟩ := H11.out.alloc (.cells #[.slice none 0 0, .int .i64 0, .int .i8 0] 47)
    obtain ⟨W0, hW0⟩ : ∃ W0, w1.alloc (.cells #[.slice none 0 0, .int .i64 0, .int .i8 0] 47) = W0 := ⟨_, rfl⟩
    rw [hW0] at HBA HU0 b0 b1
    have hB0 : w1.heap.size ≤ W0.heap.size := by rw [← hW0]; simp
    clear hg
    go_wp2
    go_loopw [13] (fun i wr => ∃ k : Nat, k ≤ l.length ∧ i = .int .i64 k ∧ IsBuf w1.heap.size w1.heap.size (sbT (l.take k)) wr ∧ Keep w1.heap.size w1.heap.size W0 wr) (fun i _ => l.length - (intOf i).toNat)
    case atStart => exact ⟨0, Nat.zero_le _, rfl, by simpa [sbT] using HU0.out, Keep.refl _ _ _⟩
    case round =>
      obtain ⟨k, hk, rfl, hbuf, hkeep⟩ := hrel
      have HU := Lib.hid hbuf
      have HK := Lib.hid hkeep
      have hBr : w1.heap.size ≤ wr.heap.size := hkeep.size hB0
      have hbr : w1.heap.size < wr.heap.size := Lib.IsBuffer.lt hbuf
      have HBK : Hid (∀ W, Keep w1.heap.size w1.heap.size W0 W → Below w1.heap.size w1 W) := Lib.hid (fun W h => HBA.out.trans h.1)
      have HBW : Hid (Below w.heap.size w wr) := Lib.hid (HB1.out.trans ((HBK.out wr HK.out).mono HB1.out.size))
      clear hbuf hkeep b0 b1
      by_cases hlt : k < l.length
      · obtain ⟨d, hd⟩ : ∃ d, l[k]? = some d := ⟨_, List.getElem?_eq_getElem hlt⟩
        obtain ⟨b, off, rfl, va, c0, c1, c2, hva⟩ := HV.out.get hd
        obtain ⟨pa, ca, rfl⟩ := hva.is_slice
        have c0' := carry_cell c0 HBW.out
        have c1' := carry_cell c1 HBW.out
        have c2' := carry_cell c2 HBW.out
        have HVA := Lib.hid (hva.kept HB1.out)
        have HD := Lib.hid hd
        have hwd : d.tm.wt ≤ 1048576 := Nat.le_trans (wtB_tm (mem_of_at hd)) HW.out
        have hvs : d.var.size ≤ 1048576 := Nat.le_trans (wtB_var (mem_of_at hd)) HW.out
        have htl : d.tm.txt.length ≤ 4000000 := by have := d.tm.txt_wt; omega
        have hvl : d.var.data.toList.length = d.var.size := by rw [Array.length_toList]; rfl
        have hlk := HLEN.out k
        clear hd hva c0 c1 c2
        have BX1 := Lib.hid (BoxB.new wr d (.slice pa d.tm.args.length ca))
        have HU1 := Lib.hid (isBuf_alloc HU.out (.cells #[.string d.var, .string d.tm.name, .slice pa d.tm.args.length ca] 40))
        have HK1 := Lib.hid (HK.out.alloc hBr (.cells #[.string d.var, .string d.tm.name, .slice pa d.tm.args.length ca] 40))
        obtain ⟨W1, hW1⟩ : ∃ W1, wr.alloc (.cells #[.string d.var, .string d.tm.name, .slice pa d.tm.args.length ca] 40) = W1 := ⟨_, rfl⟩
        rw [hW1] at BX1 HU1 HK1
        have hne : wr.heap.size ≠ w1.heap.size := by omega
        have hB1 : w1.heap.size ≤ W1.heap.size := HK1.out.size hB0
        obtain ⟨x0, x1, x2, x3⟩ := BX1.out.thr
        clear HU HK
        by_cases hk0 : k = 0
        · have hk0' : ¬ (0 : Int) < (k : Int) := by omega
          have HT : Hid (sbT (l.take (k + 1)) = sbT (l.take k) ++ bdTxt d) := Lib.hid (by
            have h1 := HD.out
            subst hk0
            rw [sbT_first h1]; simp [sbT])
          clear hk0
          have HWc := Lib.hid (wr_any w1.heap.size w1.heap.size (sbT (l.take k)) d.var W1 HU1.out hB1 (by omega))
          go_wp2_with fail
          refine HWc.out.mono ?_
          rintro e W2 ⟨rfl, hu, hkk⟩
          have HU2 := Lib.hid hu
          have HK2 := Lib.hid (HK1.out.trans hkk)
          have BX2 := Lib.hid (BX1.out.kept hne hkk)
          have hB2 := HK2.out.size hB0
          clear HU1 HK1 BX1 x0 x1 x2 x3 hu hkk HWc
          obtain ⟨x0, x1, x2, x3⟩ := BX2.out.thr
          have HWc := Lib.hid (wr_any w1.heap.size w1.heap.size (sbT (l.take k) ++ d.var.data.toList) ⟨#[58, 61]⟩ W2 HU2.out hB2 (by simp only [List.length_append]; show _ + 2 ≤ _; omega))
          go_wp2_with fail
          refine HWc.out.mono ?_
          rintro e W3 ⟨rfl, hu, hkk⟩
          have HU3 := Lib.hid hu
          have HK3 := Lib.hid (HK2.out.trans hkk)
          have BX3 := Lib.hid (BX2.out.kept hne hkk)
          have hB3 := HK3.out.size hB0
          clear HU2 HK2 BX2 x0 x1 x2 x3 hu hkk HWc
          obtain ⟨x0, x1, x2, x3⟩ := BX3.out.thr
          have HBc : Hid (Below w1.heap.size w1 W3) := Lib.hid (HBK.out W3 HK3.out)
          have HWc := Lib.hid (write_any [d.tm] [44] (sbT (l.take k) ++ d.var.data.toList ++ [58, 61]) w1.heap.size w1.heap.size w1 (W3.alloc (.cells #[.string d.tm.name, .slice pa d.tm.args.length ca] 38)) (.slice (some ⟨W3.heap.size, 0, none⟩) 1 1) (isBuf_alloc HU3.out _) (by simp; omega) rfl (HBc.out.alloc hB3 _) (RowK.one (c := 1) HVA.out (BoxT.new W3 d.tm.name (.slice pa d.tm.args.length ca)) (by have := Lib.IsBuffer.lt HU3.out; omega)) (by simp [sumL]; omega) (by rw [jn_one]; simp only [List.length_append, List.length_cons, List.length_nil]; omega) (by simp))
          have HKA := Lib.hid (HK3.out.alloc hB3 (.cells #[.string d.tm.name, .slice pa d.tm.args.length ca] 38))
          rw [jn_one] at HWc
          go_wp2_with fail
          refine HWc.out.mono ?_
          rintro e W9 ⟨rfl, hu, hkk⟩
          have HU9 : Hid (IsBuf w1.heap.size w1.heap.size (sbT (l.take (k + 1))) W9) := Lib.hid (by
            rw [HT.out]
            simpa [bdTxt] using hu)
          have HK9 := Lib.hid (HKA.out.trans hkk)
          clear hu hkk
          go_wp2
          go_roundw
          case rel => exact ⟨k + 1, by omega, by go_num, HU9.out, HK9.out⟩
          case measure => simp [intOf]; omega
        · have hk0' : (0 : Int) < (k : Int) := by omega
          have HT := Lib.hid (sbT_next HD.out (by omega))
          clear hk0
          have HWc := Lib.hid (wr_any w1.heap.size w1.heap.size (sbT (l.take k)) ⟨#[59]⟩ W1 HU1.out hB1 (by show _ + 1 ≤ _; omega))
          go_wp2_with fail
          refine HWc.out.mono ?_
          rintro e W2 ⟨rfl, hu, hkk⟩
          have HU2 := Lib.hid hu
          have HK2 := Lib.hid (HK1.out.trans hkk)
          have BX2 := Lib.hid (BX1.out.kept hne hkk)
          have hB2 := HK2.out.size hB0
          clear HU1 HK1 BX1 x0 x1 x2 x3 hu hkk HWc
          obtain ⟨x0, x1, x2, x3⟩ := BX2.out.thr
          have HWc := Lib.hid (wr_any w1.heap.size w1.heap.size (sbT (l.take k) ++ [59]) d.var W2 HU2.out hB2 (by simp only [List.length_append, List.length_cons, List.length_nil]; omega))
          go_wp2_with fail
          refine HWc.out.mono ?_
          rintro e W3 ⟨rfl, hu, hkk⟩
          have HU3 := Lib.hid hu
          have HK3 := Lib.hid (HK2.out.trans hkk)
          have BX3 := Lib.hid (BX2.out.kept hne hkk)
          have hB3 := HK3.out.size hB0
          clear HU2 HK2 BX2 x0 x1 x2 x3 hu hkk HWc
          obtain ⟨x0, x1, x2, x3⟩ := BX3.out.thr
          have HWc := Lib.hid (wr_any w1.heap.size w1.heap.size (sbT (l.take k) ++ [59] ++ d.var.data.toList) ⟨#[58, 61]⟩ W3 HU3.out hB3 (by simp only [List.length_append, List.length_cons, List.length_nil]; show _ + 2 ≤ _; omega))
          go_wp2_with fail
          refine HWc.out.mono ?_
          rintro e W4 ⟨rfl, hu, hkk⟩
          have HU4 := Lib.hid hu
          have HK4 := Lib.hid (HK3.out.trans hkk)
          have BX4 := Lib.hid (BX3.out.kept hne hkk)
          have hB4 := HK4.out.size hB0
          clear HU3 HK3 BX3 x0 x1 x2 x3 hu hkk HWc
          obtain ⟨x0, x1, x2, x3⟩ := BX4.out.thr
          have HBc : Hid (Below w1.heap.size w1 W4) := Lib.hid (HBK.out W4 HK4.out)
          have HWc := Lib.hid (write_any [d.tm] [44] (sbT (l.take k) ++ [59] ++ d.var.data.toList ++ [58, 61]) w1.heap.size w1.heap.size w1 (W4.alloc (.cells #[.string d.tm.name, .slice pa d.tm.args.length ca] 38)) (.slice (some ⟨W4.heap.size, 0, none⟩) 1 1) (isBuf_alloc HU4.out _) (by simp; omega) rfl (HBc.out.alloc hB4 _) (RowK.one (c := 1) HVA.out (BoxT.new W4 d.tm.name (.slice pa d.tm.args.length ca)) (by have := Lib.IsBuffer.lt HU4.out; omega)) (by simp [sumL]; omega) (by rw [jn_one]; simp only [List.length_append, List.length_cons, List.length_nil]; omega) (by simp))
          have HKA := Lib.hid (HK4.out.alloc hB4 (.cells #[.string d.tm.name, .slice pa d.tm.args.length ca] 38))
          rw [jn_one] at HWc
          go_wp2_with fail
          refine HWc.out.mono ?_
          rintro e W9 ⟨rfl, hu, hkk⟩
          have HU9 : Hid (IsBuf w1.heap.size w1.heap.size (sbT (l.take (k + 1))) W9) := Lib.hid (by
            rw [HT.out]
            simpa [bdTxt] using hu)
          have HK9 := Lib.hid (HKA.out.trans hkk)
          clear hu hkk
          go_wp2
          go_roundw
          case rel => exact ⟨k + 1, by omega, by go_num, HU9.out, HK9.out⟩
          case measure => simp [intOf]; omega
      · have hke : k = l.length := by omega
        have HU2 : Hid (IsBuf w1.heap.size w1.heap.size (sbT l) wr) := Lib.hid (by have h := HU.out; rw [sbT_all (by omega)] at h; exact h)
        have HS := Lib.hid (Tryd.Buffer_String w1.heap.size w1.heap.size _ wr HU2.out)
        go_wp2_with fail
        refine HS.out.mono ?_
        rintro e w3 ⟨rfl, n, rfl⟩
        go_wp2
        go_ret2
        exact ⟨ret_strb HF.out.symm HG.out.symm, ⟨HBW.out.os, HBW.out.tape, HBW.out.output, HBW.out.size, HBW.out.block⟩⟩

end Go.Proofs.YtmfdglbldogfaaaDoor
