/- Positions answers as its model for every term: no condition. -/
import Derived.Test.YtojlijbmjmigjaaRwsN
import Derived.Test.YtojlijbmjmigjaaSz
import Derived.Test.YtojlijbmjmigjaaOpenTm
import Derived.Test.YtojlijbmjmigjaaOpenI
import Derived.Deep.RegionWith
import Derived.OpenShut
import Derived.ShutString
import Derived.ChangeOld
namespace Go.Proofs.Ytojlijbmjmigjaa.fnExactPositions
open Go.ChangeShapes Go.WideShapes Go.ChangeAt Go.RowKit
open Go.ChangeMaps (open_string shut_string)
set_option linter.unusedVariables false

theorem own : ownKnob Try.prog.godebug = none := by kernel_rfl
theorem laidOut : laidOutB Try.prog = true := by kernel_rfl

/-- What both functions answer, as the law sees it. -/
def ResEnd (n : Nat) (M : Nat → List Int) (ok : Bool) (w : World) (e : Ending) (w' : World) : Prop :=
  ∃ v, e = .returned (.tuple #[v, .bool ok]) ∧ RowsI w' w.heap.size w'.heap.size v n M ∧ Below w.heap.size w w'

set_option maxRecDepth 100000 in
set_option maxHeartbeats 8000000 in
theorem core (t : Tm) (va : Value) (n : Nat) (M : Nat → List Int) (ok : Bool) (w : World) (hv : TmS w va t.args) (hlim : t.lim 9223372036854775807)
    (hr : t.wt ≤ 1048576 → n ≤ 1048576 ∧ (∀ k, k < n → (M k).length ≤ 1048576) ∧ 1 + offM M n ≤ 1048576)
    (hcs : t.wt ≤ 1048576 → ∀ (W : World) (v : Value), TmS W v t.args → Calls Try.prog 44 #[.agg #[.string t.name, v]] W (ResEnd n M ok W))
    (hci : t.wt ≤ 1048576 → ∀ (W : World) (v : Value), TmS W v t.args → Calls Try.prog 45 #[.agg #[.string t.name, v]] W (ResEnd n M ok W)) :
    Calls Try.prog 12 #[.agg #[.string t.name, va]] w fun e w' => e = .returned (.bool true) ∧ Below w.heap.size w w' := by
  obtain ⟨pa, ca, rfl⟩ := hv.is_slice
  have HV := Lib.hid hv
  have HLIM := Lib.hid hlim
  have HR0 := Lib.hid hr
  have HCS0 := Lib.hid hcs
  have HCI0 := Lib.hid hci
  clear hv hlim hr hcs hci
  have HB_0 := Lib.hid ((Below.refl w.heap.size w).alloc (Nat.le_refl _) (.cells #[.string t.name, .slice pa t.args.length ca] 24))
  have A_0 := Lib.hid (two_new w (.string t.name) (.slice pa t.args.length ca) 24 _ rfl)
  go_enter Try.func12, Try.ntmps12
  go_wp2_with fail
  refine (szTerm_any t _ _ 1048576 (HV.out.kept HB_0.out) HLIM.out (by omega) (by omega)).mono ?_
  rintro e w1 ⟨rfl, hb⟩
  have HB_1 := Lib.hid (carry_below HB_0.out (Nat.le_refl _) hb)
  have A_1 := Lib.hid (A_0.out.kept hb)
  have z_1 : w.heap.size + 1 ≤ w1.heap.size := by have := hb.size; simpa using this
  clear hb
  obtain ⟨Ar0, Ar1, Ar2⟩ := A_1.out
  have Alt : w.heap.size < w1.heap.size := World.block_lt_of_cell? w1 ⟨w.heap.size, 0, none⟩ Ar0
  rcases szR_cases 1048576 t.wt with ⟨c1, c2⟩ | ⟨c1, c2⟩
  · rw [c2]
    clear c2
    go_wp2
    go_ret
    exact ⟨rfl, HB_1.out⟩
  rw [c2]
  clear c2
  have hw : t.wt ≤ 1048576 := by omega
  have HL := Lib.hid (Tm.lim_of_wt t 1048576 hw)
  obtain ⟨hn, hM, hO⟩ := HR0.out hw
  have HMM := Lib.hid hM
  clear hM
  have HCS := Lib.hid (HCS0.out hw)
  have HCI := Lib.hid (HCI0.out hw)
  have htl : sumL Tm.sz t.args ≤ 1048577 := by have := t.sz_eq; have := Tm.sz_wt t; omega
  go_wp2_with fail
  refine (toTerm_any t _ _ (HV.out.kept HB_1.out) hw).mono ?_
  rintro e w2 ⟨u2, rfl, ho, hb⟩
  obtain ⟨u2p, u2c, rfl⟩ := ho.read.is_slice
  clear Ar0 Ar1 Ar2 Alt
  have HB_2 := Lib.hid (carry_below HB_1.out (Nat.le_refl _) hb)
  have A_2 := Lib.hid (A_1.out.kept hb)
  have z_2 : w1.heap.size ≤ w2.heap.size := hb.size
  clear HB_1 A_1
  have T2_2 := Lib.hid ((OwnI.fresh ho))
  clear hb ho
  obtain ⟨Ar0, Ar1, Ar2⟩ := A_2.out
  have Alt : w.heap.size < w2.heap.size := World.block_lt_of_cell? w2 ⟨w.heap.size, 0, none⟩ Ar0
  go_wp2_with fail
  refine (HCS.out _ _ T2_2.out.read).mono ?_
  rintro e w3 ⟨u3, rfl, ho, hb⟩
  obtain ⟨u3p, u3c, rfl⟩ := ho.read.is_slice
  clear Ar0 Ar1 Ar2 Alt
  have HB_3 := Lib.hid (carry_below HB_2.out (Nat.le_refl _) hb)
  have A_3 := Lib.hid (A_2.out.kept hb)
  have T2_3 := Lib.hid (T2_2.out.kept hb)
  have z_3 : w2.heap.size ≤ w3.heap.size := hb.size
  clear HB_2 A_2 T2_2
  have W0_3 := Lib.hid (ho)
  clear hb ho
  obtain ⟨Ar0, Ar1, Ar2⟩ := A_3.out
  have Alt : w.heap.size < w3.heap.size := World.block_lt_of_cell? w3 ⟨w.heap.size, 0, none⟩ Ar0
  go_wp2_with fail
  refine (toTerm_any t _ _ (HV.out.kept HB_3.out) hw).mono ?_
  rintro e w4 ⟨u4, rfl, ho, hb⟩
  obtain ⟨u4p, u4c, rfl⟩ := ho.read.is_slice
  clear Ar0 Ar1 Ar2 Alt
  have HB_4 := Lib.hid (carry_below HB_3.out (Nat.le_refl _) hb)
  have A_4 := Lib.hid (A_3.out.kept hb)
  have W0_4 := Lib.hid (W0_3.out.kept hb)
  have z_4 : w3.heap.size ≤ w4.heap.size := hb.size
  clear HB_3 A_3 W0_3
  have X_4 := Lib.hid ((OwnI.fresh ho))
  clear hb ho
  obtain ⟨Ar0, Ar1, Ar2⟩ := A_4.out
  have Alt : w.heap.size < w4.heap.size := World.block_lt_of_cell? w4 ⟨w.heap.size, 0, none⟩ Ar0
  have HB_5 := Lib.hid (HB_4.out.alloc HB_4.out.size (.cells #[.string t.name, .slice u4p t.args.length u4c] 29))
  have A_5 := Lib.hid (A_4.out.kept ((Below.refl w4.heap.size w4).alloc (Nat.le_refl _) (.cells #[.string t.name, .slice u4p t.args.length u4c] 29)))
  have W0_5 := Lib.hid (W0_4.out.kept ((Below.refl w4.heap.size w4).alloc (Nat.le_refl _) (.cells #[.string t.name, .slice u4p t.args.length u4c] 29)))
  have X_5 := Lib.hid (X_4.out.kept ((Below.refl w4.heap.size w4).alloc (Nat.le_refl _) (.cells #[.string t.name, .slice u4p t.args.length u4c] 29)))
  clear HB_4 A_4 W0_4 X_4
  have BX_5 := Lib.hid (two_new w4 (.string t.name) (.slice u4p t.args.length u4c) 29 _ rfl)
  go_wp2_with fail
  refine (HCI.out _ _ X_5.out.read).mono ?_
  rintro e w5 ⟨u5, rfl, ho, hb⟩
  obtain ⟨u5p, u5c, rfl⟩ := ho.read.is_slice
  clear Ar0 Ar1 Ar2 Alt
  have HB_6 := Lib.hid (carry_below HB_5.out (Nat.le_refl _) hb)
  have A_6 := Lib.hid (A_5.out.kept hb)
  have W0_6 := Lib.hid (W0_5.out.kept hb)
  have X_6 := Lib.hid (X_5.out.kept hb)
  have BX_6 := Lib.hid (BX_5.out.kept hb)
  have z_6 : w4.heap.size + 1 ≤ w5.heap.size := by have := hb.size; simpa using this
  clear HB_5 A_5 W0_5 X_5 BX_5
  have G_6 := Lib.hid ((show RowsI w5 (w4.heap.size + 1) _ _ _ _ from (by simpa using ho)))
  clear hb ho
  obtain ⟨Ar0, Ar1, Ar2⟩ := A_6.out
  have Alt : w.heap.size < w5.heap.size := World.block_lt_of_cell? w5 ⟨w.heap.size, 0, none⟩ Ar0
  obtain ⟨BXr0, BXr1, BXr2⟩ := BX_6.out
  have BXlt : w4.heap.size < w5.heap.size := World.block_lt_of_cell? w5 ⟨w4.heap.size, 0, none⟩ BXr0
  have CE := Lib.hid (eqIntSS_any n M _ _ _ G_6.out.read W0_6.out.read hn HMM.out)
  go_wp2_with fail
  refine CE.out.mono ?_
  rintro e w6 ⟨rfl, hb⟩
  clear Ar0 Ar1 Ar2 Alt BXr0 BXr1 BXr2 BXlt
  have HB_7 := Lib.hid (carry_below HB_6.out (Nat.le_refl _) hb)
  have A_7 := Lib.hid (A_6.out.kept hb)
  have W0_7 := Lib.hid (W0_6.out.kept hb)
  have X_7 := Lib.hid (X_6.out.kept hb)
  have BX_7 := Lib.hid (BX_6.out.kept hb)
  have G_7 := Lib.hid (G_6.out.kept hb)
  have z_7 : w5.heap.size ≤ w6.heap.size := hb.size
  clear HB_6 A_6 W0_6 X_6 BX_6 G_6
  clear hb CE
  obtain ⟨Ar0, Ar1, Ar2⟩ := A_7.out
  have Alt : w.heap.size < w6.heap.size := World.block_lt_of_cell? w6 ⟨w.heap.size, 0, none⟩ Ar0
  obtain ⟨BXr0, BXr1, BXr2⟩ := BX_7.out
  have BXlt : w4.heap.size < w6.heap.size := World.block_lt_of_cell? w6 ⟨w4.heap.size, 0, none⟩ BXr0
  have CT : Hid (∀ W : World, Below w6.heap.size w6 W → Calls Try.prog 17 #[.agg #[.string t.name, .slice pa t.args.length ca]] W (ToEnd t W)) := Lib.hid (fun W hW => toTerm_any t W _ ((HV.out.kept HB_7.out).kept hW) hw)
  have CE : Hid (∀ (W : World) (v : Value), Below w6.heap.size w6 W → TmS W v t.args → Calls Try.prog 19 #[.agg #[.string t.name, .slice u4p t.args.length u4c], .agg #[.string t.name, v]] W (EqEnd true W)) := Lib.hid (fun W v hW hv => by
    have h := eqTerm_any t t W _ v (X_7.out.read.kept hW) hv HL.out HL.out
    rwa [eqT_self] at h)
  have hB0 : Below w6.heap.size w6 w6.drew := (Below.refl _ _).drew
  go_wp2_with fail
  go_region_held3 (fun w' => w'.cell? ⟨w.heap.size, 0, none⟩ = some (.string t.name) ∧ w'.cell? ⟨w.heap.size, 1, none⟩ = some (.slice pa t.args.length ca) ∧ w'.cell? ⟨w4.heap.size, 0, none⟩ = some (.string t.name) ∧ w'.cell? ⟨w4.heap.size, 1, none⟩ = some (.slice u4p t.args.length u4c) ∧ Below w6.heap.size w6 w') (first | exact ⟨by assumption, by assumption, by assumption, by assumption, by assumption⟩ | go_keep) (first | (go_at_call 17; refine (CT.out _ hB0).mono ?_; rintro e w7a ⟨v6, rfl, ho, hb⟩; have q0 : w7a.cell? ⟨w.heap.size, 0, none⟩ = some (.string t.name) := carry_cell' hb (by assumption); have q1 : w7a.cell? ⟨w.heap.size, 1, none⟩ = some (.slice pa t.args.length ca) := carry_cell' hb (by assumption); have q2 : w7a.cell? ⟨w4.heap.size, 0, none⟩ = some (.string t.name) := carry_cell' hb (by assumption); have q3 : w7a.cell? ⟨w4.heap.size, 1, none⟩ = some (.slice u4p t.args.length u4c) := carry_cell' hb (by assumption); have hB6 := carry_below hB0 (Nat.le_refl _) hb; have HT6 := Lib.hid ho.read; clear hb ho) | (go_at_call 19; refine (CE.out _ _ hB6 HT6.out).mono ?_; rintro e w7 ⟨rfl, hb⟩; have r0 : w7.cell? ⟨w.heap.size, 0, none⟩ = some (.string t.name) := carry_cell' hb (by assumption); have r1 : w7.cell? ⟨w.heap.size, 1, none⟩ = some (.slice pa t.args.length ca) := carry_cell' hb (by assumption); have r2 : w7.cell? ⟨w4.heap.size, 0, none⟩ = some (.string t.name) := carry_cell' hb (by assumption); have r3 : w7.cell? ⟨w4.heap.size, 1, none⟩ = some (.slice u4p t.args.length u4c) := carry_cell' hb (by assumption); have hB7 := carry_below hB6 (Nat.le_refl _) hb; clear hb))
  clear Ar0 Ar1 Ar2 Alt BXr0 BXr1 BXr2 BXlt
  have HB_8 := Lib.hid (carry_below HB_7.out (Nat.le_refl _) hB7)
  have A_8 := Lib.hid (A_7.out.kept hB7)
  have W0_8 := Lib.hid (W0_7.out.kept hB7)
  have X_8 := Lib.hid (X_7.out.kept hB7)
  have BX_8 := Lib.hid (BX_7.out.kept hB7)
  have G_8 := Lib.hid (G_7.out.kept hB7)
  have z_8 : w6.heap.size ≤ w7.heap.size := hB7.size
  clear HB_7 A_7 W0_7 X_7 BX_7 G_7
  clear hB7 hB6 hB0 q0 q1 q2 q3 r0 r1 r2 r3 HT6 CT CE
  obtain ⟨Ar0, Ar1, Ar2⟩ := A_8.out
  have Alt : w.heap.size < w7.heap.size := World.block_lt_of_cell? w7 ⟨w.heap.size, 0, none⟩ Ar0
  obtain ⟨BXr0, BXr1, BXr2⟩ := BX_8.out
  have BXlt : w4.heap.size < w7.heap.size := World.block_lt_of_cell? w7 ⟨w4.heap.size, 0, none⟩ BXr0
  have CM := markTerm_any t 1 _ _ _ X_8.out.1 X_8.out.bound (Nat.le_refl _) (by omega)
  have HCM := Lib.hid CM
  clear CM
  have hk0 : decide (((1 + sumL Tm.sz t.args : Nat) : Int) < 0) = false := by simp; omega
  go_wp2_with fail
  refine HCM.out.mono ?_
  rintro e w8 ⟨rfl, ho, hout⟩
  clear Ar0 Ar1 Ar2 Alt BXr0 BXr1 BXr2 BXlt
  have HB_9 := Lib.hid (below_outside HB_8.out hout (by omega))
  have A_9 := Lib.hid (A_8.out.outside hout (by omega))
  have W0_9 := Lib.hid (W0_8.out.outside hout (by omega))
  have BX_9 := Lib.hid (BX_8.out.outside hout (by omega))
  have G_9 := Lib.hid (G_8.out.outside hout (by omega))
  have z_9 : w7.heap.size ≤ w8.heap.size := hout.size
  clear HB_8 A_8 W0_8 BX_8 G_8
  clear ho hout HCM
  obtain ⟨Ar0, Ar1, Ar2⟩ := A_9.out
  have Alt : w.heap.size < w8.heap.size := World.block_lt_of_cell? w8 ⟨w.heap.size, 0, none⟩ Ar0
  obtain ⟨BXr0, BXr1, BXr2⟩ := BX_9.out
  have BXlt : w4.heap.size < w8.heap.size := World.block_lt_of_cell? w8 ⟨w4.heap.size, 0, none⟩ BXr0
  generalize 1 + sumL Tm.sz t.args = kk at *
  have CE := Lib.hid (eqIntSS_any n M _ _ _ G_9.out.read W0_9.out.read hn HMM.out)
  go_wp2_with fail
  refine CE.out.mono ?_
  rintro e w9 ⟨rfl, hb⟩
  clear Ar0 Ar1 Ar2 Alt BXr0 BXr1 BXr2 BXlt
  have HB_10 := Lib.hid (carry_below HB_9.out (Nat.le_refl _) hb)
  have A_10 := Lib.hid (A_9.out.kept hb)
  have W0_10 := Lib.hid (W0_9.out.kept hb)
  have BX_10 := Lib.hid (BX_9.out.kept hb)
  have G_10 := Lib.hid (G_9.out.kept hb)
  have z_10 : w8.heap.size ≤ w9.heap.size := hb.size
  clear HB_9 A_9 W0_9 BX_9 G_9
  clear hb CE
  obtain ⟨Ar0, Ar1, Ar2⟩ := A_10.out
  have Alt : w.heap.size < w9.heap.size := World.block_lt_of_cell? w9 ⟨w.heap.size, 0, none⟩ Ar0
  obtain ⟨BXr0, BXr1, BXr2⟩ := BX_10.out
  have BXlt : w4.heap.size < w9.heap.size := World.block_lt_of_cell? w9 ⟨w4.heap.size, 0, none⟩ BXr0
  have CM2 := Lib.hid (markSS_any n M 1 _ _ _ _ G_10.out hn (by omega))
  go_wp2_with fail
  refine CM2.out.mono ?_
  rintro e w10 ⟨rfl, ho, hout⟩
  clear Ar0 Ar1 Ar2 Alt BXr0 BXr1 BXr2 BXlt
  have HB_11 := Lib.hid (below_outside HB_10.out hout (by omega))
  have A_11 := Lib.hid (A_10.out.outside hout (by omega))
  have W0_11 := Lib.hid (W0_10.out.outside hout (by omega))
  have BX_11 := Lib.hid (BX_10.out.outside hout (by omega))
  have z_11 : w9.heap.size ≤ w10.heap.size := hout.size
  clear HB_10 A_10 W0_10 BX_10
  have M_11 := Lib.hid (ho)
  clear ho hout CM2
  obtain ⟨Ar0, Ar1, Ar2⟩ := A_11.out
  have Alt : w.heap.size < w10.heap.size := World.block_lt_of_cell? w10 ⟨w.heap.size, 0, none⟩ Ar0
  obtain ⟨BXr0, BXr1, BXr2⟩ := BX_11.out
  have BXlt : w4.heap.size < w10.heap.size := World.block_lt_of_cell? w10 ⟨w4.heap.size, 0, none⟩ BXr0
  have HO1 := Lib.hid hO
  have hm0 : decide (((1 + offM M n : Nat) : Int) < 0) = false := by simp; omega
  have CH := Lib.hid (heldSS_any n M 1 _ _ M_11.out.read hn HO1.out)
  go_wp2_with fail
  refine CH.out.mono ?_
  rintro e w11 ⟨rfl, hb⟩
  clear Ar0 Ar1 Ar2 Alt BXr0 BXr1 BXr2 BXlt
  have HB_12 := Lib.hid (carry_below HB_11.out (Nat.le_refl _) hb)
  have A_12 := Lib.hid (A_11.out.kept hb)
  have W0_12 := Lib.hid (W0_11.out.kept hb)
  have BX_12 := Lib.hid (BX_11.out.kept hb)
  have M_12 := Lib.hid (M_11.out.kept hb)
  have z_12 : w10.heap.size ≤ w11.heap.size := hb.size
  clear HB_11 A_11 W0_11 BX_11 M_11
  clear hb CH
  obtain ⟨Ar0, Ar1, Ar2⟩ := A_12.out
  have Alt : w.heap.size < w11.heap.size := World.block_lt_of_cell? w11 ⟨w.heap.size, 0, none⟩ Ar0
  obtain ⟨BXr0, BXr1, BXr2⟩ := BX_12.out
  have BXlt : w4.heap.size < w11.heap.size := World.block_lt_of_cell? w11 ⟨w4.heap.size, 0, none⟩ BXr0
  go_wp2_with fail
  refine (toTerm_any t _ _ (HV.out.kept HB_12.out) hw).mono ?_
  rintro e w12 ⟨u12, rfl, ho, hb⟩
  obtain ⟨u12p, u12c, rfl⟩ := ho.read.is_slice
  clear Ar0 Ar1 Ar2 Alt BXr0 BXr1 BXr2 BXlt
  have HB_13 := Lib.hid (carry_below HB_12.out (Nat.le_refl _) hb)
  have A_13 := Lib.hid (A_12.out.kept hb)
  have W0_13 := Lib.hid (W0_12.out.kept hb)
  have BX_13 := Lib.hid (BX_12.out.kept hb)
  have M_13 := Lib.hid (M_12.out.kept hb)
  have z_13 : w11.heap.size ≤ w12.heap.size := hb.size
  clear HB_12 A_12 W0_12 BX_12 M_12
  have T12_13 := Lib.hid ((OwnI.fresh ho))
  clear hb ho
  obtain ⟨Ar0, Ar1, Ar2⟩ := A_13.out
  have Alt : w.heap.size < w12.heap.size := World.block_lt_of_cell? w12 ⟨w.heap.size, 0, none⟩ Ar0
  obtain ⟨BXr0, BXr1, BXr2⟩ := BX_13.out
  have BXlt : w4.heap.size < w12.heap.size := World.block_lt_of_cell? w12 ⟨w4.heap.size, 0, none⟩ BXr0
  go_wp2_with fail
  refine (HCI.out _ _ T12_13.out.read).mono ?_
  rintro e w13 ⟨u13, rfl, ho, hb⟩
  obtain ⟨u13p, u13c, rfl⟩ := ho.read.is_slice
  clear Ar0 Ar1 Ar2 Alt BXr0 BXr1 BXr2 BXlt
  have HB_14 := Lib.hid (carry_below HB_13.out (Nat.le_refl _) hb)
  have A_14 := Lib.hid (A_13.out.kept hb)
  have W0_14 := Lib.hid (W0_13.out.kept hb)
  have BX_14 := Lib.hid (BX_13.out.kept hb)
  have M_14 := Lib.hid (M_13.out.kept hb)
  have T12_14 := Lib.hid (T12_13.out.kept hb)
  have z_14 : w12.heap.size ≤ w13.heap.size := hb.size
  clear HB_13 A_13 W0_13 BX_13 M_13 T12_13
  have H_14 := Lib.hid (ho)
  clear hb ho
  obtain ⟨Ar0, Ar1, Ar2⟩ := A_14.out
  have Alt : w.heap.size < w13.heap.size := World.block_lt_of_cell? w13 ⟨w.heap.size, 0, none⟩ Ar0
  obtain ⟨BXr0, BXr1, BXr2⟩ := BX_14.out
  have BXlt : w4.heap.size < w13.heap.size := World.block_lt_of_cell? w13 ⟨w4.heap.size, 0, none⟩ BXr0
  have CE := Lib.hid (eqIntSS_any n M _ _ _ H_14.out.read W0_14.out.read hn HMM.out)
  go_wp2_with fail
  refine CE.out.mono ?_
  rintro e w14 ⟨rfl, hb⟩
  clear Ar0 Ar1 Ar2 Alt BXr0 BXr1 BXr2 BXlt
  have HB_15 := Lib.hid (carry_below HB_14.out (Nat.le_refl _) hb)
  have A_15 := Lib.hid (A_14.out.kept hb)
  have W0_15 := Lib.hid (W0_14.out.kept hb)
  have BX_15 := Lib.hid (BX_14.out.kept hb)
  have M_15 := Lib.hid (M_14.out.kept hb)
  have H_15 := Lib.hid (H_14.out.kept hb)
  have z_15 : w13.heap.size ≤ w14.heap.size := hb.size
  clear HB_14 A_14 W0_14 BX_14 M_14 H_14
  clear hb CE
  obtain ⟨Ar0, Ar1, Ar2⟩ := A_15.out
  have Alt : w.heap.size < w14.heap.size := World.block_lt_of_cell? w14 ⟨w.heap.size, 0, none⟩ Ar0
  obtain ⟨BXr0, BXr1, BXr2⟩ := BX_15.out
  have BXlt : w4.heap.size < w14.heap.size := World.block_lt_of_cell? w14 ⟨w4.heap.size, 0, none⟩ BXr0
  have CH := Lib.hid (heldSS_any n M 1 _ _ M_15.out.read hn HO1.out)
  go_wp2_with fail
  refine CH.out.mono ?_
  rintro e w15 ⟨rfl, hb⟩
  clear Ar0 Ar1 Ar2 Alt BXr0 BXr1 BXr2 BXlt
  have HB_16 := Lib.hid (carry_below HB_15.out (Nat.le_refl _) hb)
  have A_16 := Lib.hid (A_15.out.kept hb)
  have W0_16 := Lib.hid (W0_15.out.kept hb)
  have BX_16 := Lib.hid (BX_15.out.kept hb)
  have M_16 := Lib.hid (M_15.out.kept hb)
  have H_16 := Lib.hid (H_15.out.kept hb)
  have z_16 : w14.heap.size ≤ w15.heap.size := hb.size
  clear HB_15 A_15 W0_15 BX_15 M_15 H_15
  clear hb CH
  obtain ⟨Ar0, Ar1, Ar2⟩ := A_16.out
  have Alt : w.heap.size < w15.heap.size := World.block_lt_of_cell? w15 ⟨w.heap.size, 0, none⟩ Ar0
  obtain ⟨BXr0, BXr1, BXr2⟩ := BX_16.out
  have BXlt : w4.heap.size < w15.heap.size := World.block_lt_of_cell? w15 ⟨w4.heap.size, 0, none⟩ BXr0
  go_wp2
  go_ret
  exact ⟨rfl, HB_16.out⟩

mutual
theorem posT_mem : ∀ (t : Tm) (p q : List Int), q ∈ posT p t → q.length ≤ p.length + t.dp
  | .node n l, p, q, h => by
    rw [posT] at h
    rw [Tm.dp_eq]
    simp only [Tm.args]
    rcases List.mem_cons.1 h with e | h
    · subst e; omega
    · have := posL_mem l p 0 q h; omega
theorem posL_mem : ∀ (l : List Tm) (p : List Int) (i : Nat) (q : List Int), q ∈ posL p i l → q.length ≤ p.length + 1 + maxL Tm.dp l
  | [], p, i, q, h => by simp [posL] at h
  | t :: r, p, i, q, h => by
    rw [posL] at h
    simp only [maxL]
    rcases List.mem_append.1 h with h | h
    · have := posT_mem t _ _ h
      simp only [List.length_append, List.length_cons, List.length_nil] at this
      omega
    · have := posL_mem r p (i + 1) q h; omega
end

theorem offM_le (M : Nat → List Int) (B : Nat) : ∀ n, (∀ k, k < n → (M k).length ≤ B) → offM M n ≤ n * B
  | 0, _ => by simp [offM]
  | n + 1, h => by
    have h1 := offM_le M B n (fun k hk => h k (by omega))
    have h2 := h n (by omega)
    simp only [offM, Nat.succ_mul]; omega

theorem posA_small (t : Tm) : (posA t).length ≤ 30 ∧ ∀ k, k < (posA t).length → (rowsOf (posA t) k).length ≤ 8 := by
  by_cases h : anyB t = true
  · have hf := fits_iff.1 (anyB_fits h)
    have e : posA t = posT [] t := by simp [posA, h]
    rw [e]
    refine ⟨by rw [posT_len]; exact hf.1, fun k hk => ?_⟩
    have hm := posT_mem t [] _ (List.getElem_mem hk)
    simp only [rowsOf, List.getElem?_eq_getElem hk, Option.getD_some]
    simp at hm; omega
  · have e : posA t = [] := by simp [posA, h]
    rw [e]; simp

theorem walk (t : Tm) (va : Value) (w : World) (hv : TmS w va t.args) (hlim : t.lim 9223372036854775807) :
    Calls Try.prog 12 #[.agg #[.string t.name, va]] w fun e w' => e = .returned (.bool true) ∧ Below w.heap.size w w' :=
  core t va (posA t).length (rowsOf (posA t)) (anyB t) w hv hlim (fun _ => by
      obtain ⟨h1, h2⟩ := posA_small t
      have h3 := offM_le (rowsOf (posA t)) 8 _ h2
      exact ⟨by omega, fun k hk => by have := h2 k hk; omega, by omega⟩)
    (fun hw W v h1 => (specPos_any t W v h1 hw).mono fun e w' ⟨x, h3, h4, h5⟩ => ⟨x, h3, RowsI.of_acc h4, h5⟩)
    (fun hw W v h1 => (implPos_any t W v h1 hw).mono fun e w' ⟨x, h3, h4, h5⟩ => ⟨x, h3, RowsI.of_acc h4, h5⟩)

/-! ### THE ROW's STEP: WRITTEN OUT: LEAVE IT -/
set_option maxRecDepth 100000 in
theorem lifted (os : Os) (started : os.Started) (H : Type) (enc : TypeId × Value → H) :
    ReturnsInHanded {} Try.checked os 12 .any (Rows.fnExactPositionsSpec.pre6 enc Try.prog Try.f12 Rows.fnExactPositionsRow.domain false) (Rows.fnExactPositionsSpec.post enc Try.prog Try.f12 false true false false) := by
  refine returnsInHanded_of_change (C := Try.checked) own started (by kernel_rfl) Try.func12
    (ChangeSpec.witness6 (enc := enc) (C := Try.checked) false ⟨#[], #[.agg #[.string ByteArray.empty, .slice none 0 0]], []⟩ 8 (by kernel_rfl) (by kernel_rfl) (by kernel_rfl) (by kernel_rfl)) ?_
  intro W base args ds gs before hval0 hW hcnd _
  have hval : ∀ (j : Nat) t v, Try.f12.params[j]? = some t → args[j]? = some v → Value.okWide Try.prog W .any base t v := hval0
  have hW' := hW
  obtain ⟨p, q, hA0, hV, rfl, hfz, hnd⟩ := hW
  have hA : DataW.TrodAll enc Try.prog W 0 (fun _ => true) true Try.f12.params.toList args.toList ds p := hA0
  rw [Try.params12] at hA hval
  obtain ⟨v0, vs0, d0, ds0, p0, q0, hargs, rfl, rfl, h0, r0⟩ := trodAll_cons hA
  obtain ⟨rfl, rfl, rfl⟩ := trodAll_nil r0
  obtain rfl : args = #[v0] := by cases args; simp_all
  obtain ⟨rfl, rfl⟩ := trodVars_none hV
  have k0 := h0
  have lt0 : ∀ x ∈ p0, x.block < W.heap.size := by obtain ⟨m, hm⟩ := k0; exact DataW.trod_lt m _ _ _ hm
  obtain ⟨t0, va0, rfl, tm0, lim0⟩ := open_term 9223372036854775807 (by unfold maxLen; omega) (hval 0 24 v0 rfl rfl) h0
  clear hA0 hval0
  refine (walk t0 va0 W tm0 lim0).mono fun e W' ⟨he, bel⟩ => ?_
  subst he
  exact ⟨_, rfl, _, _, _, [], _, [], hW', trodAll_mk1 (shut_bool Try.underlying4 _), (trodAll_cons_mk (Below.trod laidOut (by kernel_rfl) (of_decide_eq_true (by kernel_rfl)) k0 bel lt0) trodAll_mk0), rfl, bel.frame _, fun h => by cases h⟩

theorem over : Rows.fnExactPositionsRow.holds Try.pinned (OpenSpec.ofChange Rows.fnExactPositionsSpec) :=
  OpenClaim.holds_of_wide 12 Try.f12 rfl rfl rfl rfl rfl rfl rfl ⟨rfl, rfl, rfl, rfl, rfl⟩ rfl rfl rfl rfl rfl (by kernel_rfl) Try.func12 (by kernel_rfl)
    (of_decide_eq_true (by kernel_rfl)) (by unfold Func.isWrapper; first | (rw [if_pos (by decide +kernel)]; kernel_rfl) | (rw [if_neg (by decide +kernel)]; exact ⟨rfl, rfl⟩))
    (fun os started H enc _ => lifted os started H enc)

/-- ████ THE STATEMENT ████ -/
theorem proved : Rows.FnExactPositionsSaid := over
end Go.Proofs.Ytojlijbmjmigjaa.fnExactPositions
