/- FormatClause, the program's: a contract, for lists of at most 1048576 names' bytes, literals and arguments. -/
import Derived.Test.YtmfdglbldogfaabDoorClP
import Derived.Test.YtmfdglbldogfaabDoorLitF
namespace Go.Proofs.YtmfdglbldogfaabDoor
open Go.RowKit
set_option linter.unusedVariables false

/-- A box that holds a literal. -/
def BoxC (W : World) (g : Nat) (d : Lt) (v : Value) : Prop := W.heap[g]? = some (Obj.cells #[.bool d.var, .string d.tm.name, v] 51 (0, 0))
theorem BoxC.new (W : World) (d : Lt) (v : Value) : BoxC (W.alloc (.cells #[.bool d.var, .string d.tm.name, v] 51)) W.heap.size d v := World.alloc_heap_new W _
theorem BoxC.thr {W : World} {g : Nat} {d : Lt} {v : Value} (h : BoxC W g d v) : Thr W g (.bool d.var) (.string d.tm.name) v := by
  have e : W.heap[g]? = _ := h
  exact ⟨by simp [World.cell?, e], by simp [World.cell?, e], by simp [World.cell?, e], fun j => by simp [World.frozen?, e]⟩
theorem BoxC.kept {B b g : Nat} {W W' : World} {d : Lt} {v : Value} (h : BoxC W g d v) (hg : g ≠ b) (hk : Keep B b W W') : BoxC W' g d v :=
  hk.2 g _ h (fun e => hg (by injection e)) (fun c fz e => by injection e with _ e2; cases e2)

set_option maxRecDepth 100000 in
set_option maxHeartbeats 4000000 in
theorem implFmtC_any (l : List Lt) (w : World) (v : Value) (hv : LtS w v l) (hw : wtC l ≤ 1048576) :
    Calls Tryd.prog 8 #[.agg #[v]] w (Ans (.tuple #[.string (fmtC l), .bool (goodC l)]) w) := by
  have hl6 : l.length ≤ 1048576 := Nat.le_trans (wtC_len l) hw
  have HW := Lib.hid hw
  obtain ⟨a, c, rfl⟩ := hv.is_slice
  have HV := Lib.hid hv
  have H1 := Lib.hid (oner_new w (.slice a l.length c) 30 _ rfl)
  have HB0 := Lib.hid ((Below.refl w.heap.size w).alloc (Nat.le_refl _) (.cells #[.slice a l.length c] 30))
  clear hv hw
  obtain ⟨b0, b1⟩ := H1.out
  go_enter Tryd.func8, Tryd.ntmps8
  go_wp2_with fail
  refine (isClause_any l _ _ (HV.out.alloc _) HW.out).mono ?_
  rintro e w1 ⟨rfl, hb⟩
  have HB1 := Lib.hid (carry_below HB0.out (Nat.le_refl _) hb)
  have H11 := Lib.hid (H1.out.kept hb)
  clear hb b0 b1
  cases hg : goodC l with
  | false =>
    have HF := Lib.hid (fmtC_no hg)
    have HG := Lib.hid hg
    clear hg
    go_wp2
    go_ret2
    exact ⟨ret_strb HF.out.symm HG.out.symm, HB1.out⟩
  | true =>
    have HG := Lib.hid hg
    by_cases hl0 : l.length = 0
    · have HF := Lib.hid (fmtC_nil hg hl0)
      obtain ⟨b0, b1⟩ := H11.out
      clear hg
      have hz : ((l.length : Int) == 0) = true := by simp [hl0]
      clear hl0
      go_wp2
      go_ret2
      exact ⟨ret_strb HF.out.symm HG.out.symm, HB1.out⟩
    have HF := Lib.hid (fmtC_yes hg (by omega))
    have hz : ((l.length : Int) == 0) = false := by simpa using hl0
    clear hl0
    have HLEN : Hid (∀ k, (clT (l.take k)).length ≤ 4194305) := Lib.hid (fun k => by have h1 := clT_len_take l k; have h2 := clT_len l; have h3 := HW.out; omega)
    have HBA := Lib.hid ((Below.refl w1.heap.size w1).alloc (Nat.le_refl _) (.cells #[.slice none 0 0, .int .i64 0, .int .i8 0] 46))
    have HU0 : Hid (IsBuf w1.heap.size w1.heap.size [] (w1.alloc (.cells #[.slice none 0 0, .int .i64 0, .int .i8 0] 46))) := Lib.hid (Lib.fresh_isBuffer 46 5 w1)
    obtain ⟨b0, b1⟩ := H11.out.alloc (.cells #[.slice none 0 0, .int .i64 0, .int .i8 0] 46)
    obtain ⟨g0, g1⟩ := H11.out
    obtain ⟨W0, hW0⟩ : ∃ W0, w1.alloc (.cells #[.slice none 0 0, .int .i64 0, .int .i8 0] 46) = W0 := ⟨_, rfl⟩
    rw [hW0] at HBA HU0 b0 b1
    have hB0 : w1.heap.size ≤ W0.heap.size := by rw [← hW0]; simp
    clear hg
    go_wp2
    go_loopw [17] (fun i wr => ∃ k : Nat, k ≤ l.length ∧ i = .int .i64 k ∧ IsBuf w1.heap.size w1.heap.size (clT (l.take k)) wr ∧ Keep w1.heap.size w1.heap.size W0 wr) (fun i _ => l.length - (intOf i).toNat)
    case atStart => exact ⟨0, Nat.zero_le _, rfl, by simpa [clT] using HU0.out, Keep.refl _ _ _⟩
    case round =>
      obtain ⟨k, hk, rfl, hbuf, hkeep⟩ := hrel
      have HU := Lib.hid hbuf
      have HK := Lib.hid hkeep
      have hBr : w1.heap.size ≤ wr.heap.size := hkeep.size hB0
      have hbr : w1.heap.size < wr.heap.size := Lib.IsBuffer.lt hbuf
      have HBK : Hid (∀ W, Keep w1.heap.size w1.heap.size W0 W → Below w1.heap.size w1 W) := Lib.hid (fun W h => HBA.out.trans h.1)
      have HBW : Hid (Below w.heap.size w wr) := Lib.hid (HB1.out.trans ((HBK.out wr HK.out).mono HB1.out.size))
      clear hbuf hkeep b0 b1 g0 g1
      by_cases hlt : k < l.length
      · obtain ⟨d, hd⟩ : ∃ d, l[k]? = some d := ⟨_, List.getElem?_eq_getElem hlt⟩
        obtain ⟨b, off, rfl, va, c0, c1, c2, hva⟩ := HV.out.get hd
        obtain ⟨pa, ca, rfl⟩ := hva.is_slice
        have c0' := carry_cell c0 HBW.out
        have c1' := carry_cell c1 HBW.out
        have c2' := carry_cell c2 HBW.out
        have HVA := Lib.hid (hva.kept HB1.out)
        have HD := Lib.hid hd
        have hwd : d.tm.wt ≤ 1048576 := Nat.le_trans (wtC_tm (mem_of_at hd)) HW.out
        have HAT := Lib.hid (atom_any (goodC_atom HG.out hd))
        have hlk := HLEN.out k
        clear hd hva c0 c1 c2
        have BX1 := Lib.hid (BoxC.new wr d (.slice pa d.tm.args.length ca))
        have HU1 := Lib.hid (isBuf_alloc HU.out (.cells #[.bool d.var, .string d.tm.name, .slice pa d.tm.args.length ca] 51))
        have HK1 := Lib.hid (HK.out.alloc hBr (.cells #[.bool d.var, .string d.tm.name, .slice pa d.tm.args.length ca] 51))
        obtain ⟨W1, hW1⟩ : ∃ W1, wr.alloc (.cells #[.bool d.var, .string d.tm.name, .slice pa d.tm.args.length ca] 51) = W1 := ⟨_, rfl⟩
        rw [hW1] at BX1 HU1 HK1
        have hne : wr.heap.size ≠ w1.heap.size := by omega
        have hB1 : w1.heap.size ≤ W1.heap.size := HK1.out.size hB0
        obtain ⟨x0, x1, x2, x3⟩ := BX1.out.thr
        clear HU HK
        by_cases hk0 : k = 0
        · have hk0' : ¬ (0 : Int) < (k : Int) := by omega
          have HT : Hid (clT (l.take (k + 1)) = clT (l.take k) ++ ltTxt d) := Lib.hid (by
            have h1 := HD.out
            subst hk0
            rw [clT_first h1]; simp [clT])
          clear hk0
          have HBc : Hid (Below w1.heap.size w1 W1) := Lib.hid (HBK.out W1 HK1.out)
          have HWc := Lib.hid (writeLit_any d.var d.tm (clT (l.take k)) w1.heap.size w1.heap.size w1 W1 _ HU1.out hB1 rfl HBc.out HVA.out hwd HAT.out (by omega))
          go_wp2_with fail
          refine HWc.out.mono ?_
          rintro e W9 ⟨rfl, hu, hkk⟩
          have HU9 : Hid (IsBuf w1.heap.size w1.heap.size (clT (l.take (k + 1))) W9) := Lib.hid (by
            rw [HT.out]
            simpa [ltTxt] using hu)
          have HK9 := Lib.hid (HK1.out.trans hkk)
          clear hu hkk
          go_wp2
          go_roundw
          case rel => exact ⟨k + 1, by omega, by go_num, HU9.out, HK9.out⟩
          case measure => simp [intOf]; omega
        · have hk0' : (0 : Int) < (k : Int) := by omega
          have HT := Lib.hid (clT_next HD.out (by omega))
          clear hk0
          have HWc := Lib.hid (wr_any w1.heap.size w1.heap.size (clT (l.take k)) ⟨#[32, 124, 32]⟩ W1 HU1.out hB1 (by show _ + 3 ≤ _; omega))
          go_wp2_with fail
          refine HWc.out.mono ?_
          rintro e W2 ⟨rfl, hu, hkk⟩
          have HU2 := Lib.hid hu
          have HK2 := Lib.hid (HK1.out.trans hkk)
          have BX2 := Lib.hid (BX1.out.kept hne hkk)
          have hB2 := HK2.out.size hB0
          clear HU1 HK1 BX1 x0 x1 x2 x3 hu hkk HWc
          obtain ⟨x0, x1, x2, x3⟩ := BX2.out.thr
          have HBc : Hid (Below w1.heap.size w1 W2) := Lib.hid (HBK.out W2 HK2.out)
          have HWc := Lib.hid (writeLit_any d.var d.tm (clT (l.take k) ++ [32, 124, 32]) w1.heap.size w1.heap.size w1 W2 _ HU2.out hB2 rfl HBc.out HVA.out hwd HAT.out (by simp only [List.length_append, List.length_cons, List.length_nil]; omega))
          go_wp2_with fail
          refine HWc.out.mono ?_
          rintro e W9 ⟨rfl, hu, hkk⟩
          have HU9 : Hid (IsBuf w1.heap.size w1.heap.size (clT (l.take (k + 1))) W9) := Lib.hid (by
            rw [HT.out]
            simpa [ltTxt] using hu)
          have HK9 := Lib.hid (HK2.out.trans hkk)
          clear hu hkk
          go_wp2
          go_roundw
          case rel => exact ⟨k + 1, by omega, by go_num, HU9.out, HK9.out⟩
          case measure => simp [intOf]; omega
      · have hke : k = l.length := by omega
        have HU2 : Hid (IsBuf w1.heap.size w1.heap.size (clT l) wr) := Lib.hid (by have h := HU.out; rw [clT_all (by omega)] at h; exact h)
        have HS := Lib.hid (Tryd.Buffer_String w1.heap.size w1.heap.size _ wr HU2.out)
        go_wp2_with fail
        refine HS.out.mono ?_
        rintro e w3 ⟨rfl, n, rfl⟩
        go_wp2
        go_ret2
        exact ⟨ret_strb HF.out.symm HG.out.symm, ⟨HBW.out.os, HBW.out.tape, HBW.out.output, HBW.out.size, HBW.out.block⟩⟩

end Go.Proofs.YtmfdglbldogfaabDoor
