/- MakeClause answers as its model for every list of literals: no condition. -/
import Derived.Test.YtmlenhjhkpgcnaaMkG
import Derived.Test.YtmlenhjhkpgcnaaOwG
import Derived.Test.YtmlenhjhkpgcnaaSzC
import Derived.Test.YtmlenhjhkpgcnaaToC
import Derived.Test.YtmlenhjhkpgcnaaEqC
import Derived.Test.YtmlenhjhkpgcnaaOpenC
import Derived.Test.YtmlenhjhkpgcnaaOpenTm
import Derived.Test.YtmlenhjhkpgcnaaJf
import Derived.Deep.RegionWith
import Derived.Deep.Cut
import Derived.OpenShut
import Derived.ShutString
import Derived.ChangeOld
namespace Go.Proofs.Ytmlenhjhkpgcnaa.fnExactMakeClause
open Go.ChangeShapes Go.WideShapes Go.ChangeAt Go.RowKit
open Go.ChangeMaps (open_string shut_string)
set_option linter.unusedVariables false

theorem own : ownKnob Try.prog.godebug = none := by kernel_rfl
theorem laidOut : laidOutB Try.prog = true := by kernel_rfl

/-- What both functions answer, as the law sees it. -/
def ResEnd (r : List Lt) (ok : Bool) (w : World) (e : Ending) (w' : World) : Prop :=
  ∃ va, e = .returned (.tuple #[.agg #[va], .bool ok]) ∧ LtO w' (Fresh w w') va r ∧ Below w.heap.size w w'

set_option maxRecDepth 100000 in
set_option maxHeartbeats 16000000 in
theorem core (t0 : List Lt) (va0 : Value) (r : List Lt) (ok : Bool) (w : World) (h0 : LtS w va0 t0) (l0 : limC 9223372036854775807 t0) (hr : wtC t0 ≤ 1048576 → wtC r ≤ 1048576)
    (hcs : wtC t0 ≤ 1048576 → ∀ (W : World) (q0 : Value), LtS W q0 t0 → Calls Try.prog 27 #[q0] W (ResEnd r ok W))
    (hci : wtC t0 ≤ 1048576 → ∀ (W : World) (q0 : Value), LtS W q0 t0 → Calls Try.prog 29 #[q0] W (ResEnd r ok W)) :
    Calls Try.prog 6 #[va0] w fun e w' => e = .returned (.bool true) ∧ Below w.heap.size w w' := by
  obtain ⟨pa0, ca0, rfl⟩ := h0.is_slice
  have HV0 := Lib.hid h0
  have HLIM0 := Lib.hid l0
  have HRW0 := Lib.hid hr
  have HCS0 := Lib.hid hcs
  have HCI0 := Lib.hid hci
  clear hr hcs hci h0 l0
  have HB_0 := Lib.hid (Below.refl w.heap.size w)
  go_enter Try.func6, Try.ntmps6
  go_wp2_with fail
  refine (szLiteralS_any t0 _ _ 1048576 HV0.out HLIM0.out (by omega) (by omega)).mono ?_
  rintro e w1 ⟨rfl, hb⟩
  have HB_1 := Lib.hid (carry_below HB_0.out (Nat.le_refl _) hb)
  have z_1 : w.heap.size ≤ w1.heap.size := hb.size
  clear hb
  rcases szR_cases 1048576 (wtC t0) with ⟨c0a, c0b⟩ | ⟨c0a, c0b⟩
  · rw [c0b]
    clear c0b
    go_wp2
    go_ret
    exact ⟨rfl, HB_1.out⟩
  rw [c0b]
  clear c0b
  have hcl0 : (0 : Int) ≤ 1048576 - ((wtC t0 : Nat) : Int) := by omega
  have hcn0 : ¬ 1048576 - ((wtC t0 : Nat) : Int) < 0 := by omega
  have hw0 : wtC t0 ≤ 1048576 := by omega
  have HL0 := Lib.hid (limC_of_wt (l := t0) hw0)
  have HRW := Lib.hid (HRW0.out hw0)
  have HLR := Lib.hid (limC_of_wt (l := r) HRW.out)
  have HCS := Lib.hid (HCS0.out hw0)
  have HCI := Lib.hid (HCI0.out hw0)
  have hm0 : sumC Lt.n t0 ≤ 4000000 := by have := sumCn_wt t0; omega
  have hmr : sumC Lt.n r ≤ 4000000 := by have := sumCn_wt r; have := HRW.out; omega
  have hln : t0.length ≤ 1048576 := Nat.le_trans (wtC_len t0) hw0
  go_wp2_with fail
  refine (toLiteralS_any t0 _ _ (HV0.out.kept HB_1.out) hw0).mono ?_
  rintro e w2 ⟨u2, rfl, ho, hb⟩
  obtain ⟨u2p, u2c, rfl⟩ := ho.read.is_slice
  have HB_2 := Lib.hid (carry_below HB_1.out (Nat.le_refl _) hb)
  have z_2 : w1.heap.size ≤ w2.heap.size := hb.size
  clear HB_1
  have A0_2 := Lib.hid ((OwnLt.fresh ho))
  clear hb ho
  go_wp2_with fail
  refine (HCS.out _ _ A0_2.out.read).mono ?_
  rintro e w3 ⟨u3, rfl, ho, hb⟩
  obtain ⟨u3p, u3c, rfl⟩ := ho.read.is_slice
  have HB_3 := Lib.hid (carry_below HB_2.out (Nat.le_refl _) hb)
  have A0_3 := Lib.hid (A0_2.out.kept hb)
  have z_3 : w2.heap.size ≤ w3.heap.size := hb.size
  clear HB_2 A0_2
  have W0_3 := Lib.hid ((OwnLt.fresh ho))
  clear hb ho
  have HB_4 := Lib.hid (HB_3.out.alloc HB_3.out.size (.cells #[.slice u3p r.length u3c] 44))
  have A0_4 := Lib.hid (A0_3.out.kept ((Below.refl w3.heap.size w3).alloc (Nat.le_refl _) (.cells #[.slice u3p r.length u3c] 44)))
  have W0_4 := Lib.hid (W0_3.out.kept ((Below.refl w3.heap.size w3).alloc (Nat.le_refl _) (.cells #[.slice u3p r.length u3c] 44)))
  clear HB_3 A0_3 W0_3
  have BW_4 := Lib.hid (oner_new w3 (.slice u3p r.length u3c) 44 _ rfl)
  go_wp2_with fail
  refine (toLiteralS_any t0 _ _ (HV0.out.kept HB_4.out) hw0).mono ?_
  rintro e w4 ⟨u4, rfl, ho, hb⟩
  obtain ⟨u4p, u4c, rfl⟩ := ho.read.is_slice
  have HB_5 := Lib.hid (carry_below HB_4.out (Nat.le_refl _) hb)
  have W0_5 := Lib.hid (W0_4.out.kept hb)
  have BW_5 := Lib.hid (BW_4.out.kept hb)
  have z_5 : w3.heap.size + 1 ≤ w4.heap.size := by have := hb.size; simpa using this
  clear HB_4 W0_4 BW_4
  have X0_5 := Lib.hid ((OwnLt.freshAt ho (n := w3.heap.size + 1) (by simp)))
  clear hb ho
  obtain ⟨BWr0, BWr2⟩ := BW_5.out
  have BWlt : w3.heap.size < w4.heap.size := World.block_lt_of_cell? w4 ⟨w3.heap.size, 0, none⟩ BWr0
  go_wp2_with fail
  refine (HCI.out _ _ X0_5.out.read).mono ?_
  rintro e w5 ⟨u5, rfl, ho, hb⟩
  obtain ⟨u5p, u5c, rfl⟩ := ho.read.is_slice
  clear BWr0 BWr2 BWlt
  have HB_6 := Lib.hid (carry_below HB_5.out (Nat.le_refl _) hb)
  have W0_6 := Lib.hid (W0_5.out.kept hb)
  have BW_6 := Lib.hid (BW_5.out.kept hb)
  have X0_6 := Lib.hid (X0_5.out.kept hb)
  have z_6 : w4.heap.size ≤ w5.heap.size := hb.size
  clear HB_5 W0_5 BW_5 X0_5
  have G_6 := Lib.hid ((OwnLt.fresh ho))
  clear hb ho
  obtain ⟨BWr0, BWr2⟩ := BW_6.out
  have BWlt : w3.heap.size < w5.heap.size := World.block_lt_of_cell? w5 ⟨w3.heap.size, 0, none⟩ BWr0
  have HB_7 := Lib.hid (HB_6.out.alloc HB_6.out.size (.cells #[.slice u5p r.length u5c] 44))
  have W0_7 := Lib.hid (W0_6.out.kept ((Below.refl w5.heap.size w5).alloc (Nat.le_refl _) (.cells #[.slice u5p r.length u5c] 44)))
  have BW_7 := Lib.hid (BW_6.out.kept ((Below.refl w5.heap.size w5).alloc (Nat.le_refl _) (.cells #[.slice u5p r.length u5c] 44)))
  have X0_7 := Lib.hid (X0_6.out.kept ((Below.refl w5.heap.size w5).alloc (Nat.le_refl _) (.cells #[.slice u5p r.length u5c] 44)))
  have G_7 := Lib.hid (G_6.out.kept ((Below.refl w5.heap.size w5).alloc (Nat.le_refl _) (.cells #[.slice u5p r.length u5c] 44)))
  clear HB_6 W0_6 BW_6 X0_6 G_6
  have BG_7 := Lib.hid (oner_new w5 (.slice u5p r.length u5c) 44 _ rfl)
  have CE := eqClause_any r r _ _ _ G_7.out.read W0_7.out.read HLR.out HLR.out
  rw [eqCs_self] at CE
  have HCE := Lib.hid CE
  clear CE
  go_wp2_with fail
  refine HCE.out.mono ?_
  rintro e w6 ⟨rfl, hb⟩
  clear BWr0 BWr2 BWlt
  have HB_8 := Lib.hid (carry_below HB_7.out (Nat.le_refl _) hb)
  have W0_8 := Lib.hid (W0_7.out.kept hb)
  have BW_8 := Lib.hid (BW_7.out.kept hb)
  have X0_8 := Lib.hid (X0_7.out.kept hb)
  have G_8 := Lib.hid (G_7.out.kept hb)
  have BG_8 := Lib.hid (BG_7.out.kept hb)
  have z_8 : w5.heap.size + 1 ≤ w6.heap.size := by have := hb.size; simpa using this
  clear HB_7 W0_7 BW_7 X0_7 G_7 BG_7
  clear hb HCE
  obtain ⟨BWr0, BWr2⟩ := BW_8.out
  have BWlt : w3.heap.size < w6.heap.size := World.block_lt_of_cell? w6 ⟨w3.heap.size, 0, none⟩ BWr0
  obtain ⟨BGr0, BGr2⟩ := BG_8.out
  have BGlt : w5.heap.size < w6.heap.size := World.block_lt_of_cell? w6 ⟨w5.heap.size, 0, none⟩ BGr0
  go_wp2_with fail
  refine (toLiteralS_any t0 _ _ (HV0.out.kept HB_8.out) hw0).mono ?_
  rintro e w7 ⟨u7, rfl, ho, hb⟩
  obtain ⟨u7p, u7c, rfl⟩ := ho.read.is_slice
  clear BWr0 BWr2 BWlt BGr0 BGr2 BGlt
  have HB_9 := Lib.hid (carry_below HB_8.out (Nat.le_refl _) hb)
  have W0_9 := Lib.hid (W0_8.out.kept hb)
  have BW_9 := Lib.hid (BW_8.out.kept hb)
  have X0_9 := Lib.hid (X0_8.out.kept hb)
  have G_9 := Lib.hid (G_8.out.kept hb)
  have BG_9 := Lib.hid (BG_8.out.kept hb)
  have z_9 : w6.heap.size ≤ w7.heap.size := hb.size
  clear HB_8 W0_8 BW_8 X0_8 G_8 BG_8
  have Y0_9 := Lib.hid ((OwnLt.fresh ho))
  clear hb ho
  obtain ⟨BWr0, BWr2⟩ := BW_9.out
  have BWlt : w3.heap.size < w7.heap.size := World.block_lt_of_cell? w7 ⟨w3.heap.size, 0, none⟩ BWr0
  obtain ⟨BGr0, BGr2⟩ := BG_9.out
  have BGlt : w5.heap.size < w7.heap.size := World.block_lt_of_cell? w7 ⟨w5.heap.size, 0, none⟩ BGr0
  have CE := eqLiteralS_any t0 t0 _ _ _ X0_9.out.read Y0_9.out.read HL0.out HL0.out
  rw [eqCs_self] at CE
  have HCE := Lib.hid CE
  clear CE
  go_wp2_with fail
  refine HCE.out.mono ?_
  rintro e w8 ⟨rfl, hb⟩
  clear BWr0 BWr2 BWlt BGr0 BGr2 BGlt
  have HB_10 := Lib.hid (carry_below HB_9.out (Nat.le_refl _) hb)
  have W0_10 := Lib.hid (W0_9.out.kept hb)
  have BW_10 := Lib.hid (BW_9.out.kept hb)
  have X0_10 := Lib.hid (X0_9.out.kept hb)
  have G_10 := Lib.hid (G_9.out.kept hb)
  have BG_10 := Lib.hid (BG_9.out.kept hb)
  have Y0_10 := Lib.hid (Y0_9.out.kept hb)
  have z_10 : w7.heap.size ≤ w8.heap.size := hb.size
  clear HB_9 W0_9 BW_9 X0_9 G_9 BG_9 Y0_9
  clear hb HCE
  obtain ⟨BWr0, BWr2⟩ := BW_10.out
  have BWlt : w3.heap.size < w8.heap.size := World.block_lt_of_cell? w8 ⟨w3.heap.size, 0, none⟩ BWr0
  obtain ⟨BGr0, BGr2⟩ := BG_10.out
  have BGlt : w5.heap.size < w8.heap.size := World.block_lt_of_cell? w8 ⟨w5.heap.size, 0, none⟩ BGr0
  have CM := markLs_any t0 1 _ _ _ X0_10.out.1 X0_10.out.bound (by omega) (by omega) (by omega)
  have HCM := Lib.hid CM
  clear CM
  go_wp2_with fail
  refine HCM.out.mono ?_
  rintro e w9 ⟨rfl, ho, hout⟩
  clear BWr0 BWr2 BWlt BGr0 BGr2 BGlt
  have HB_11 := Lib.hid (below_outside HB_10.out hout (by omega))
  have W0_11 := Lib.hid (W0_10.out.outside hout (by omega))
  have BW_11 := Lib.hid (BW_10.out.outside hout (by omega))
  have G_11 := Lib.hid (G_10.out.outside hout (by omega))
  have BG_11 := Lib.hid (BG_10.out.outside hout (by omega))
  have z_11 : w8.heap.size ≤ w9.heap.size := hout.size
  clear HB_10 W0_10 BW_10 G_10 BG_10
  clear ho hout HCM
  obtain ⟨BWr0, BWr2⟩ := BW_11.out
  have BWlt : w3.heap.size < w9.heap.size := World.block_lt_of_cell? w9 ⟨w3.heap.size, 0, none⟩ BWr0
  obtain ⟨BGr0, BGr2⟩ := BG_11.out
  have BGlt : w5.heap.size < w9.heap.size := World.block_lt_of_cell? w9 ⟨w5.heap.size, 0, none⟩ BGr0
  have hk0 : decide (((1 + sumC Lt.n t0 : Nat) : Int) < 0) = false := by simp; omega
  generalize 1 + sumC Lt.n t0 = kk at *
  have CE := eqClause_any r r _ _ _ G_11.out.read W0_11.out.read HLR.out HLR.out
  rw [eqCs_self] at CE
  have HCE := Lib.hid CE
  clear CE
  go_wp2_with fail
  refine HCE.out.mono ?_
  rintro e w10 ⟨rfl, hb⟩
  clear BWr0 BWr2 BWlt BGr0 BGr2 BGlt
  have HB_12 := Lib.hid (carry_below HB_11.out (Nat.le_refl _) hb)
  have W0_12 := Lib.hid (W0_11.out.kept hb)
  have BW_12 := Lib.hid (BW_11.out.kept hb)
  have G_12 := Lib.hid (G_11.out.kept hb)
  have BG_12 := Lib.hid (BG_11.out.kept hb)
  have z_12 : w9.heap.size ≤ w10.heap.size := hb.size
  clear HB_11 W0_11 BW_11 G_11 BG_11
  clear hb HCE
  obtain ⟨BWr0, BWr2⟩ := BW_12.out
  have BWlt : w3.heap.size < w10.heap.size := World.block_lt_of_cell? w10 ⟨w3.heap.size, 0, none⟩ BWr0
  obtain ⟨BGr0, BGr2⟩ := BG_12.out
  have BGlt : w5.heap.size < w10.heap.size := World.block_lt_of_cell? w10 ⟨w5.heap.size, 0, none⟩ BGr0
  have CM := markCl_any r 1 _ _ _ G_12.out.1 G_12.out.bound (by omega) (by omega)
  have HCM := Lib.hid CM
  clear CM
  go_wp2_with fail
  refine HCM.out.mono ?_
  rintro e w11 ⟨rfl, ho, hout⟩
  clear BWr0 BWr2 BWlt BGr0 BGr2 BGlt
  have HB_13 := Lib.hid (below_outside HB_12.out hout (by omega))
  have W0_13 := Lib.hid (W0_12.out.outside hout (by omega))
  have BW_13 := Lib.hid (BW_12.out.outside hout (by omega))
  have BG_13 := Lib.hid (BG_12.out.outside hout (by omega))
  have z_13 : w10.heap.size ≤ w11.heap.size := hout.size
  clear HB_12 W0_12 BW_12 BG_12
  have M_13 := Lib.hid ((show OwnLt w11 _ _ _ _ from ⟨ho, Nat.le_trans G_12.out.2 hout.size⟩))
  clear ho hout HCM
  obtain ⟨BWr0, BWr2⟩ := BW_13.out
  have BWlt : w3.heap.size < w11.heap.size := World.block_lt_of_cell? w11 ⟨w3.heap.size, 0, none⟩ BWr0
  obtain ⟨BGr0, BGr2⟩ := BG_13.out
  have BGlt : w5.heap.size < w11.heap.size := World.block_lt_of_cell? w11 ⟨w5.heap.size, 0, none⟩ BGr0
  have CE := heldCl_any r 1 _ _ M_13.out.read (Nat.le_refl _) (by omega)
  have HCE := Lib.hid CE
  clear CE
  go_wp2_with fail
  refine HCE.out.mono ?_
  rintro e w12 ⟨rfl, hb⟩
  clear BWr0 BWr2 BWlt BGr0 BGr2 BGlt
  have HB_14 := Lib.hid (carry_below HB_13.out (Nat.le_refl _) hb)
  have W0_14 := Lib.hid (W0_13.out.kept hb)
  have BW_14 := Lib.hid (BW_13.out.kept hb)
  have BG_14 := Lib.hid (BG_13.out.kept hb)
  have M_14 := Lib.hid (M_13.out.kept hb)
  have z_14 : w11.heap.size ≤ w12.heap.size := hb.size
  clear HB_13 W0_13 BW_13 BG_13 M_13
  clear hb HCE
  obtain ⟨BWr0, BWr2⟩ := BW_14.out
  have BWlt : w3.heap.size < w12.heap.size := World.block_lt_of_cell? w12 ⟨w3.heap.size, 0, none⟩ BWr0
  obtain ⟨BGr0, BGr2⟩ := BG_14.out
  have BGlt : w5.heap.size < w12.heap.size := World.block_lt_of_cell? w12 ⟨w5.heap.size, 0, none⟩ BGr0
  have hmr0 : decide (((1 + sumC Lt.n r : Nat) : Int) < 0) = false := by simp; omega
  go_wp2_with fail
  refine (toLiteralS_any t0 _ _ (HV0.out.kept HB_14.out) hw0).mono ?_
  rintro e w13 ⟨u13, rfl, ho, hb⟩
  obtain ⟨u13p, u13c, rfl⟩ := ho.read.is_slice
  clear BWr0 BWr2 BWlt BGr0 BGr2 BGlt
  have HB_15 := Lib.hid (carry_below HB_14.out (Nat.le_refl _) hb)
  have W0_15 := Lib.hid (W0_14.out.kept hb)
  have BW_15 := Lib.hid (BW_14.out.kept hb)
  have BG_15 := Lib.hid (BG_14.out.kept hb)
  have M_15 := Lib.hid (M_14.out.kept hb)
  have z_15 : w12.heap.size ≤ w13.heap.size := hb.size
  clear HB_14 W0_14 BW_14 BG_14 M_14
  have A1_15 := Lib.hid ((OwnLt.fresh ho))
  clear hb ho
  obtain ⟨BWr0, BWr2⟩ := BW_15.out
  have BWlt : w3.heap.size < w13.heap.size := World.block_lt_of_cell? w13 ⟨w3.heap.size, 0, none⟩ BWr0
  obtain ⟨BGr0, BGr2⟩ := BG_15.out
  have BGlt : w5.heap.size < w13.heap.size := World.block_lt_of_cell? w13 ⟨w5.heap.size, 0, none⟩ BGr0
  go_wp2_with fail
  refine (HCI.out _ _ A1_15.out.read).mono ?_
  rintro e w14 ⟨u14, rfl, ho, hb⟩
  obtain ⟨u14p, u14c, rfl⟩ := ho.read.is_slice
  clear BWr0 BWr2 BWlt BGr0 BGr2 BGlt
  have HB_16 := Lib.hid (carry_below HB_15.out (Nat.le_refl _) hb)
  have W0_16 := Lib.hid (W0_15.out.kept hb)
  have BW_16 := Lib.hid (BW_15.out.kept hb)
  have BG_16 := Lib.hid (BG_15.out.kept hb)
  have M_16 := Lib.hid (M_15.out.kept hb)
  have A1_16 := Lib.hid (A1_15.out.kept hb)
  have z_16 : w13.heap.size ≤ w14.heap.size := hb.size
  clear HB_15 W0_15 BW_15 BG_15 M_15 A1_15
  have H_16 := Lib.hid ((OwnLt.fresh ho))
  clear hb ho
  obtain ⟨BWr0, BWr2⟩ := BW_16.out
  have BWlt : w3.heap.size < w14.heap.size := World.block_lt_of_cell? w14 ⟨w3.heap.size, 0, none⟩ BWr0
  obtain ⟨BGr0, BGr2⟩ := BG_16.out
  have BGlt : w5.heap.size < w14.heap.size := World.block_lt_of_cell? w14 ⟨w5.heap.size, 0, none⟩ BGr0
  have HB_17 := Lib.hid (HB_16.out.alloc HB_16.out.size (.cells #[.slice u14p r.length u14c] 44))
  have W0_17 := Lib.hid (W0_16.out.kept ((Below.refl w14.heap.size w14).alloc (Nat.le_refl _) (.cells #[.slice u14p r.length u14c] 44)))
  have BW_17 := Lib.hid (BW_16.out.kept ((Below.refl w14.heap.size w14).alloc (Nat.le_refl _) (.cells #[.slice u14p r.length u14c] 44)))
  have BG_17 := Lib.hid (BG_16.out.kept ((Below.refl w14.heap.size w14).alloc (Nat.le_refl _) (.cells #[.slice u14p r.length u14c] 44)))
  have M_17 := Lib.hid (M_16.out.kept ((Below.refl w14.heap.size w14).alloc (Nat.le_refl _) (.cells #[.slice u14p r.length u14c] 44)))
  have A1_17 := Lib.hid (A1_16.out.kept ((Below.refl w14.heap.size w14).alloc (Nat.le_refl _) (.cells #[.slice u14p r.length u14c] 44)))
  have H_17 := Lib.hid (H_16.out.kept ((Below.refl w14.heap.size w14).alloc (Nat.le_refl _) (.cells #[.slice u14p r.length u14c] 44)))
  clear HB_16 W0_16 BW_16 BG_16 M_16 A1_16 H_16
  have BH_17 := Lib.hid (oner_new w14 (.slice u14p r.length u14c) 44 _ rfl)
  have CE := eqClause_any r r _ _ _ H_17.out.read W0_17.out.read HLR.out HLR.out
  rw [eqCs_self] at CE
  have HCE := Lib.hid CE
  clear CE
  go_wp2_with fail
  refine HCE.out.mono ?_
  rintro e w15 ⟨rfl, hb⟩
  clear BWr0 BWr2 BWlt BGr0 BGr2 BGlt
  have HB_18 := Lib.hid (carry_below HB_17.out (Nat.le_refl _) hb)
  have W0_18 := Lib.hid (W0_17.out.kept hb)
  have BW_18 := Lib.hid (BW_17.out.kept hb)
  have BG_18 := Lib.hid (BG_17.out.kept hb)
  have M_18 := Lib.hid (M_17.out.kept hb)
  have H_18 := Lib.hid (H_17.out.kept hb)
  have BH_18 := Lib.hid (BH_17.out.kept hb)
  have z_18 : w14.heap.size + 1 ≤ w15.heap.size := by have := hb.size; simpa using this
  clear HB_17 W0_17 BW_17 BG_17 M_17 H_17 BH_17
  clear hb HCE
  obtain ⟨BWr0, BWr2⟩ := BW_18.out
  have BWlt : w3.heap.size < w15.heap.size := World.block_lt_of_cell? w15 ⟨w3.heap.size, 0, none⟩ BWr0
  obtain ⟨BGr0, BGr2⟩ := BG_18.out
  have BGlt : w5.heap.size < w15.heap.size := World.block_lt_of_cell? w15 ⟨w5.heap.size, 0, none⟩ BGr0
  obtain ⟨BHr0, BHr2⟩ := BH_18.out
  have BHlt : w14.heap.size < w15.heap.size := World.block_lt_of_cell? w15 ⟨w14.heap.size, 0, none⟩ BHr0
  have CE := heldCl_any r 1 _ _ M_18.out.read (Nat.le_refl _) (by omega)
  have HCE := Lib.hid CE
  clear CE
  go_wp2_with fail
  refine HCE.out.mono ?_
  rintro e w16 ⟨rfl, hb⟩
  clear BWr0 BWr2 BWlt BGr0 BGr2 BGlt BHr0 BHr2 BHlt
  have HB_19 := Lib.hid (carry_below HB_18.out (Nat.le_refl _) hb)
  have W0_19 := Lib.hid (W0_18.out.kept hb)
  have BW_19 := Lib.hid (BW_18.out.kept hb)
  have BG_19 := Lib.hid (BG_18.out.kept hb)
  have M_19 := Lib.hid (M_18.out.kept hb)
  have H_19 := Lib.hid (H_18.out.kept hb)
  have BH_19 := Lib.hid (BH_18.out.kept hb)
  have z_19 : w15.heap.size ≤ w16.heap.size := hb.size
  clear HB_18 W0_18 BW_18 BG_18 M_18 H_18 BH_18
  clear hb HCE
  obtain ⟨BWr0, BWr2⟩ := BW_19.out
  have BWlt : w3.heap.size < w16.heap.size := World.block_lt_of_cell? w16 ⟨w3.heap.size, 0, none⟩ BWr0
  obtain ⟨BGr0, BGr2⟩ := BG_19.out
  have BGlt : w5.heap.size < w16.heap.size := World.block_lt_of_cell? w16 ⟨w5.heap.size, 0, none⟩ BGr0
  obtain ⟨BHr0, BHr2⟩ := BH_19.out
  have BHlt : w14.heap.size < w16.heap.size := World.block_lt_of_cell? w16 ⟨w14.heap.size, 0, none⟩ BHr0
  go_wp2
  go_ret
  exact ⟨rfl, HB_19.out⟩

theorem walk (t0 : List Lt) (va0 : Value) (w : World) (h0 : LtS w va0 t0) (l0 : limC 9223372036854775807 t0) :
    Calls Try.prog 6 #[va0] w fun e w' => e = .returned (.bool true) ∧ Below w.heap.size w w' :=
  core t0 va0 (lit.mkR t0) (lit.mkOk t0) w h0 l0 (fun h => Nat.le_trans (lit.mkR_wt t0) h)
    (fun hs W q0 a => (lit.specMake_any t0 W q0 a (by omega)).mono fun e w' h => h)
    (fun hs W q0 a => (lit.implMake_any t0 W q0 a (by omega)).mono fun e w' h => h)

/-! ### THE ROW's STEP: WRITTEN OUT: LEAVE IT -/
set_option maxRecDepth 100000 in
theorem lifted (os : Os) (started : os.Started) (H : Type) (enc : TypeId × Value → H) :
    ReturnsInHanded {} Try.checked os 6 .any (Rows.fnExactMakeClauseSpec.pre6 enc Try.prog Try.f6 Rows.fnExactMakeClauseRow.domain false) (Rows.fnExactMakeClauseSpec.post enc Try.prog Try.f6 false true false false) := by
  refine returnsInHanded_of_change (C := Try.checked) own started (by kernel_rfl) Try.func6
    (ChangeSpec.witness6 (enc := enc) (C := Try.checked) false ⟨#[], #[.slice none 0 0], []⟩ 8 (by kernel_rfl) (by kernel_rfl) (by kernel_rfl) (by kernel_rfl)) ?_
  intro W base args ds gs before hval0 hW hcnd _
  have hval : ∀ (j : Nat) t v, Try.f6.params[j]? = some t → args[j]? = some v → Value.okWide Try.prog W .any base t v := hval0
  have hW' := hW
  obtain ⟨p, q, hA0, hV, rfl, hfz, hnd⟩ := hW
  have hA : DataW.TrodAll enc Try.prog W 0 (fun _ => true) true Try.f6.params.toList args.toList ds p := hA0
  rw [Try.params6] at hA hval
  obtain ⟨v0, vs0, d0, ds0, p0, q0, hargs, rfl, rfl, h0, r0⟩ := trodAll_cons hA
  obtain ⟨rfl, rfl, rfl⟩ := trodAll_nil r0
  obtain rfl : args = #[v0] := by cases args; simp_all
  obtain ⟨rfl, rfl⟩ := trodVars_none hV
  have k0 := h0
  have lt0 : ∀ x ∈ p0, x.block < W.heap.size := by obtain ⟨m, hm⟩ := k0; exact DataW.trod_lt m _ _ _ hm
  obtain ⟨a0, len0, cap0, rfl⟩ := okWide_slice Try.underlying37 (hval 0 37 v0 rfl rfl)
  obtain ⟨t0, tm0, lim0⟩ : ∃ l, LtS W (.slice a0 len0 cap0) l ∧ limC 9223372036854775807 l := by
    obtain ⟨fuel, hf⟩ := h0
    obtain ⟨v', l, hcs, hb, hl⟩ := open_literals 9223372036854775807 (by unfold maxLen; omega) hf
    simp [Value.cells] at hcs
    subst hcs
    exact ⟨l, hb, hl⟩
  clear hA0 hval0
  refine (walk t0 (.slice a0 len0 cap0) W tm0 lim0).mono fun e W' ⟨he, bel⟩ => ?_
  subst he
  exact ⟨_, rfl, _, _, _, [], _, [], hW', trodAll_mk1 (shut_bool Try.underlying4 _), (trodAll_cons_mk (Below.trod laidOut (by kernel_rfl) (of_decide_eq_true (by kernel_rfl)) k0 bel lt0) trodAll_mk0), rfl, bel.frame _, fun h => by cases h⟩


theorem jfPlace : (Rows.fnExactMakeClauseRow.inPlace == Try.prog.inPlace 6) = true := by kernel_rfl
theorem jfFollow : (Rows.fnExactMakeClauseRow.unfollowed == Try.prog.unfollowed 6) = true := by kernel_rfl
theorem jfRecurses : (Rows.fnExactMakeClauseRow.recurses == Try.prog.recurses 6) = true := by kernel_rfl
theorem jfNamed : (Rows.fnExactMakeClauseRow.named == Try.prog.varsNamed 6) = true := by kernel_rfl
theorem jfKeys : (Rows.fnExactMakeClauseRow.plainKeys == Try.prog.plainKeys) = true := by kernel_rfl
theorem facts : joinedFacts Try.prog 6 Try.f6 Rows.fnExactMakeClauseSpec Rows.fnExactMakeClauseRow = true :=
  jf_of (P := Try.prog) jfLaid jfRowed jfHeard jfEnter jfLifts (by kernel_rfl) (by kernel_rfl) (by kernel_rfl) (by kernel_rfl) (by kernel_rfl) (by kernel_rfl) (by kernel_rfl)
    jfPlace jfFollow jfRecurses jfNamed (by kernel_rfl) (by kernel_rfl) (by kernel_rfl) (by kernel_rfl) (by kernel_rfl) (by kernel_rfl) (by kernel_rfl) (by kernel_rfl) (by kernel_rfl)
    jfKeys (by kernel_rfl) (by kernel_rfl) (by kernel_rfl) (by kernel_rfl) (by kernel_rfl) (by kernel_rfl)

theorem over : Rows.fnExactMakeClauseRow.holds Try.pinned (OpenSpec.ofChange Rows.fnExactMakeClauseSpec) :=
  OpenClaim.holds_of_wide 6 Try.f6 rfl rfl rfl rfl rfl rfl rfl ⟨rfl, rfl, rfl, rfl, rfl⟩ rfl rfl rfl rfl rfl (by kernel_rfl) Try.func6 facts
    (of_decide_eq_true (by kernel_rfl)) (by unfold Func.isWrapper; first | (rw [if_pos (by decide +kernel)]; kernel_rfl) | (rw [if_neg (by decide +kernel)]; exact ⟨rfl, rfl⟩))
    (fun os started H enc _ => lifted os started H enc)

/-- ████ THE STATEMENT ████ -/
theorem proved : Rows.FnExactMakeClauseSaid := over
end Go.Proofs.Ytmlenhjhkpgcnaa.fnExactMakeClause
