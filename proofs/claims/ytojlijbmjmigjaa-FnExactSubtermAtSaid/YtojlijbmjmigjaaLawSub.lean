/- SubtermAt answers as its model for every term and every position: no condition. -/
import Derived.Test.YtojlijbmjmigjaaSubI
import Derived.Test.YtojlijbmjmigjaaOwnI
import Derived.Test.YtojlijbmjmigjaaSz
import Derived.Test.YtojlijbmjmigjaaOpenTm
import Derived.Test.YtojlijbmjmigjaaOpenI
import Derived.Deep.RegionWith
import Derived.OpenShut
import Derived.ShutString
import Derived.ChangeOld
namespace Go.Proofs.Ytojlijbmjmigjaa.fnExactSubtermAt
open Go.ChangeShapes Go.WideShapes Go.ChangeAt Go.RowKit
open Go.ChangeMaps (open_string shut_string)
set_option linter.unusedVariables false

theorem own : ownKnob Try.prog.godebug = none := by kernel_rfl
theorem laidOut : laidOutB Try.prog = true := by kernel_rfl

/-- What both functions answer, as the law sees it. -/
def ResEnd (r : Tm) (ok : Bool) (w : World) (e : Ending) (w' : World) : Prop :=
  ∃ va, e = .returned (.tuple #[.agg #[.string r.name, va], .bool ok]) ∧ TmO w' (Fresh w w') va r.args ∧ Below w.heap.size w w'

set_option maxRecDepth 100000 in
set_option maxHeartbeats 8000000 in
theorem core (t : Tm) (va : Value) (p : List Int) (vp : Value) (r : Tm) (ok : Bool) (w : World) (hv : TmS w va t.args) (hlim : t.lim 9223372036854775807) (hp : IntsV w vp p) (hlp : p.length ≤ 9223372036854775807)
    (hr : t.wt ≤ 1048576 → r.wt ≤ 1048576)
    (hcs : t.wt ≤ 1048576 → p.length ≤ 1048576 → ∀ (W : World) (v q : Value), TmS W v t.args → IntsV W q p → Calls Try.prog 36 #[.agg #[.string t.name, v], q] W (ResEnd r ok W))
    (hci : t.wt ≤ 1048576 → p.length ≤ 1048576 → ∀ (W : World) (v q : Value), TmS W v t.args → IntsV W q p → Calls Try.prog 38 #[.agg #[.string t.name, v], q] W (ResEnd r ok W)) :
    Calls Try.prog 10 #[.agg #[.string t.name, va], vp] w fun e w' => e = .returned (.bool true) ∧ Below w.heap.size w w' := by
  obtain ⟨pa, ca, rfl⟩ := hv.is_slice
  have HV := Lib.hid hv
  have HP := Lib.hid hp
  have HLIM := Lib.hid hlim
  have HR0 := Lib.hid hr
  have HCS0 := Lib.hid hcs
  have HCI0 := Lib.hid hci
  obtain ⟨qa, qc, rfl, _⟩ := hp
  clear hv hlim hr hcs hci
  by_cases hbig : (1048576 : Int) < p.length
  · go_enter Try.func10, Try.ntmps10
    go_wp2
    go_ret
    exact ⟨rfl, (Below.refl _ _).alloc (Nat.le_refl _) _⟩
  have hpl : p.length ≤ 1048576 := by omega
  have HB_0 := Lib.hid ((Below.refl w.heap.size w).alloc (Nat.le_refl _) (.cells #[.string t.name, .slice pa t.args.length ca] 24))
  have A_0 := Lib.hid (two_new w (.string t.name) (.slice pa t.args.length ca) 24 _ rfl)
  go_enter Try.func10, Try.ntmps10
  go_wp2_with fail
  refine (szTerm_any t _ _ 1048576 (HV.out.kept HB_0.out) HLIM.out (by omega) (by omega)).mono ?_
  rintro e w1 ⟨rfl, hb⟩
  have HB_1 := Lib.hid (carry_below HB_0.out (Nat.le_refl _) hb)
  have A_1 := Lib.hid (A_0.out.kept hb)
  have z_1 : w.heap.size + 1 ≤ w1.heap.size := by have := hb.size; simpa using this
  clear hb
  obtain ⟨Ar0, Ar1, Ar2⟩ := A_1.out
  have Alt : w.heap.size < w1.heap.size := World.block_lt_of_cell? w1 ⟨w.heap.size, 0, none⟩ Ar0
  rcases szR_cases 1048576 t.wt with ⟨c1, c2⟩ | ⟨c1, c2⟩
  · rw [c2]
    clear c2
    go_wp2
    go_ret
    exact ⟨rfl, HB_1.out⟩
  rw [c2]
  clear c2
  have hw : t.wt ≤ 1048576 := by omega
  have HL := Lib.hid (Tm.lim_of_wt t 1048576 hw)
  have HRW := Lib.hid (HR0.out hw)
  have HLR := Lib.hid (Tm.lim_of_wt r 1048576 HRW.out)
  have HCS := Lib.hid (HCS0.out hw hpl)
  have HCI := Lib.hid (HCI0.out hw hpl)
  have hrl : sumL Tm.sz r.args ≤ 1048577 := by have := r.sz_eq; have := Tm.sz_wt r; have := HRW.out; omega
  have htl : sumL Tm.sz t.args ≤ 1048577 := by have := t.sz_eq; have := Tm.sz_wt t; omega
  go_wp2_with fail
  refine (toTerm_any t _ _ (HV.out.kept HB_1.out) hw).mono ?_
  rintro e w2 ⟨u2, rfl, ho, hb⟩
  obtain ⟨u2p, u2c, rfl⟩ := ho.read.is_slice
  clear Ar0 Ar1 Ar2 Alt
  have HB_2 := Lib.hid (carry_below HB_1.out (Nat.le_refl _) hb)
  have A_2 := Lib.hid (A_1.out.kept hb)
  have z_2 : w1.heap.size ≤ w2.heap.size := hb.size
  clear HB_1 A_1
  have T2_2 := Lib.hid ((OwnI.fresh ho))
  clear hb ho
  obtain ⟨Ar0, Ar1, Ar2⟩ := A_2.out
  have Alt : w.heap.size < w2.heap.size := World.block_lt_of_cell? w2 ⟨w.heap.size, 0, none⟩ Ar0
  go_wp2_with fail
  refine (toIntS_any p _ _ (HP.out.kept HB_2.out) hpl).mono ?_
  rintro e w3 ⟨u3, rfl, ho, hb⟩
  obtain ⟨u3p, u3c, rfl, _⟩ := ho.read
  clear Ar0 Ar1 Ar2 Alt
  have HB_3 := Lib.hid (carry_below HB_2.out (Nat.le_refl _) hb)
  have A_3 := Lib.hid (A_2.out.kept hb)
  have T2_3 := Lib.hid (T2_2.out.kept hb)
  have z_3 : w2.heap.size ≤ w3.heap.size := hb.size
  clear HB_2 A_2 T2_2
  have P3_3 := Lib.hid ((IntsI.fresh ho))
  clear hb ho
  obtain ⟨Ar0, Ar1, Ar2⟩ := A_3.out
  have Alt : w.heap.size < w3.heap.size := World.block_lt_of_cell? w3 ⟨w.heap.size, 0, none⟩ Ar0
  go_wp2_with fail
  refine (HCS.out _ _ _ T2_3.out.read P3_3.out.read).mono ?_
  rintro e w4 ⟨u4, rfl, ho, hb⟩
  obtain ⟨u4p, u4c, rfl⟩ := ho.read.is_slice
  clear Ar0 Ar1 Ar2 Alt
  have HB_4 := Lib.hid (carry_below HB_3.out (Nat.le_refl _) hb)
  have A_4 := Lib.hid (A_3.out.kept hb)
  have T2_4 := Lib.hid (T2_3.out.kept hb)
  have P3_4 := Lib.hid (P3_3.out.kept hb)
  have z_4 : w3.heap.size ≤ w4.heap.size := hb.size
  clear HB_3 A_3 T2_3 P3_3
  have W0_4 := Lib.hid ((OwnI.fresh ho))
  clear hb ho
  obtain ⟨Ar0, Ar1, Ar2⟩ := A_4.out
  have Alt : w.heap.size < w4.heap.size := World.block_lt_of_cell? w4 ⟨w.heap.size, 0, none⟩ Ar0
  have HB_5 := Lib.hid (HB_4.out.alloc HB_4.out.size (.cells #[.string r.name, .slice u4p r.args.length u4c] 29))
  have A_5 := Lib.hid (A_4.out.kept ((Below.refl w4.heap.size w4).alloc (Nat.le_refl _) (.cells #[.string r.name, .slice u4p r.args.length u4c] 29)))
  have W0_5 := Lib.hid (W0_4.out.kept ((Below.refl w4.heap.size w4).alloc (Nat.le_refl _) (.cells #[.string r.name, .slice u4p r.args.length u4c] 29)))
  clear HB_4 A_4 W0_4
  have BW_5 := Lib.hid (two_new w4 (.string r.name) (.slice u4p r.args.length u4c) 29 _ rfl)
  go_wp2_with fail
  refine (toTerm_any t _ _ (HV.out.kept HB_5.out) hw).mono ?_
  rintro e w5 ⟨u5, rfl, ho, hb⟩
  obtain ⟨u5p, u5c, rfl⟩ := ho.read.is_slice
  clear Ar0 Ar1 Ar2 Alt
  have HB_6 := Lib.hid (carry_below HB_5.out (Nat.le_refl _) hb)
  have A_6 := Lib.hid (A_5.out.kept hb)
  have W0_6 := Lib.hid (W0_5.out.kept hb)
  have BW_6 := Lib.hid (BW_5.out.kept hb)
  have z_6 : w4.heap.size + 1 ≤ w5.heap.size := by have := hb.size; simpa using this
  clear HB_5 A_5 W0_5 BW_5
  have X_6 := Lib.hid ((OwnI.freshAt ho (n := w4.heap.size + 1) (by simp)))
  clear hb ho
  obtain ⟨Ar0, Ar1, Ar2⟩ := A_6.out
  have Alt : w.heap.size < w5.heap.size := World.block_lt_of_cell? w5 ⟨w.heap.size, 0, none⟩ Ar0
  obtain ⟨BWr0, BWr1, BWr2⟩ := BW_6.out
  have BWlt : w4.heap.size < w5.heap.size := World.block_lt_of_cell? w5 ⟨w4.heap.size, 0, none⟩ BWr0
  have HB_7 := Lib.hid (HB_6.out.alloc HB_6.out.size (.cells #[.string t.name, .slice u5p t.args.length u5c] 29))
  have A_7 := Lib.hid (A_6.out.kept ((Below.refl w5.heap.size w5).alloc (Nat.le_refl _) (.cells #[.string t.name, .slice u5p t.args.length u5c] 29)))
  have W0_7 := Lib.hid (W0_6.out.kept ((Below.refl w5.heap.size w5).alloc (Nat.le_refl _) (.cells #[.string t.name, .slice u5p t.args.length u5c] 29)))
  have BW_7 := Lib.hid (BW_6.out.kept ((Below.refl w5.heap.size w5).alloc (Nat.le_refl _) (.cells #[.string t.name, .slice u5p t.args.length u5c] 29)))
  have X_7 := Lib.hid (X_6.out.kept ((Below.refl w5.heap.size w5).alloc (Nat.le_refl _) (.cells #[.string t.name, .slice u5p t.args.length u5c] 29)))
  clear HB_6 A_6 W0_6 BW_6 X_6
  have BX_7 := Lib.hid (two_new w5 (.string t.name) (.slice u5p t.args.length u5c) 29 _ rfl)
  go_wp2_with fail
  refine (toIntS_any p _ _ (HP.out.kept HB_7.out) hpl).mono ?_
  rintro e w6 ⟨u6, rfl, ho, hb⟩
  obtain ⟨u6p, u6c, rfl, _⟩ := ho.read
  clear Ar0 Ar1 Ar2 Alt BWr0 BWr1 BWr2 BWlt
  have HB_8 := Lib.hid (carry_below HB_7.out (Nat.le_refl _) hb)
  have A_8 := Lib.hid (A_7.out.kept hb)
  have W0_8 := Lib.hid (W0_7.out.kept hb)
  have BW_8 := Lib.hid (BW_7.out.kept hb)
  have X_8 := Lib.hid (X_7.out.kept hb)
  have BX_8 := Lib.hid (BX_7.out.kept hb)
  have z_8 : w5.heap.size + 1 ≤ w6.heap.size := by have := hb.size; simpa using this
  clear HB_7 A_7 W0_7 BW_7 X_7 BX_7
  have Q_8 := Lib.hid ((IntsI.freshAt ho (n := w5.heap.size + 1) (by simp)))
  clear hb ho
  obtain ⟨Ar0, Ar1, Ar2⟩ := A_8.out
  have Alt : w.heap.size < w6.heap.size := World.block_lt_of_cell? w6 ⟨w.heap.size, 0, none⟩ Ar0
  obtain ⟨BWr0, BWr1, BWr2⟩ := BW_8.out
  have BWlt : w4.heap.size < w6.heap.size := World.block_lt_of_cell? w6 ⟨w4.heap.size, 0, none⟩ BWr0
  obtain ⟨BXr0, BXr1, BXr2⟩ := BX_8.out
  have BXlt : w5.heap.size < w6.heap.size := World.block_lt_of_cell? w6 ⟨w5.heap.size, 0, none⟩ BXr0
  go_wp2_with fail
  refine (HCI.out _ _ _ X_8.out.read Q_8.out.read).mono ?_
  rintro e w7 ⟨u7, rfl, ho, hb⟩
  obtain ⟨u7p, u7c, rfl⟩ := ho.read.is_slice
  clear Ar0 Ar1 Ar2 Alt BWr0 BWr1 BWr2 BWlt BXr0 BXr1 BXr2 BXlt
  have HB_9 := Lib.hid (carry_below HB_8.out (Nat.le_refl _) hb)
  have A_9 := Lib.hid (A_8.out.kept hb)
  have W0_9 := Lib.hid (W0_8.out.kept hb)
  have BW_9 := Lib.hid (BW_8.out.kept hb)
  have X_9 := Lib.hid (X_8.out.kept hb)
  have BX_9 := Lib.hid (BX_8.out.kept hb)
  have Q_9 := Lib.hid (Q_8.out.kept hb)
  have z_9 : w6.heap.size ≤ w7.heap.size := hb.size
  clear HB_8 A_8 W0_8 BW_8 X_8 BX_8 Q_8
  have G_9 := Lib.hid ((OwnI.fresh ho))
  clear hb ho
  obtain ⟨Ar0, Ar1, Ar2⟩ := A_9.out
  have Alt : w.heap.size < w7.heap.size := World.block_lt_of_cell? w7 ⟨w.heap.size, 0, none⟩ Ar0
  obtain ⟨BWr0, BWr1, BWr2⟩ := BW_9.out
  have BWlt : w4.heap.size < w7.heap.size := World.block_lt_of_cell? w7 ⟨w4.heap.size, 0, none⟩ BWr0
  obtain ⟨BXr0, BXr1, BXr2⟩ := BX_9.out
  have BXlt : w5.heap.size < w7.heap.size := World.block_lt_of_cell? w7 ⟨w5.heap.size, 0, none⟩ BXr0
  have HB_10 := Lib.hid (HB_9.out.alloc HB_9.out.size (.cells #[.string r.name, .slice u7p r.args.length u7c] 29))
  have A_10 := Lib.hid (A_9.out.kept ((Below.refl w7.heap.size w7).alloc (Nat.le_refl _) (.cells #[.string r.name, .slice u7p r.args.length u7c] 29)))
  have W0_10 := Lib.hid (W0_9.out.kept ((Below.refl w7.heap.size w7).alloc (Nat.le_refl _) (.cells #[.string r.name, .slice u7p r.args.length u7c] 29)))
  have BW_10 := Lib.hid (BW_9.out.kept ((Below.refl w7.heap.size w7).alloc (Nat.le_refl _) (.cells #[.string r.name, .slice u7p r.args.length u7c] 29)))
  have X_10 := Lib.hid (X_9.out.kept ((Below.refl w7.heap.size w7).alloc (Nat.le_refl _) (.cells #[.string r.name, .slice u7p r.args.length u7c] 29)))
  have BX_10 := Lib.hid (BX_9.out.kept ((Below.refl w7.heap.size w7).alloc (Nat.le_refl _) (.cells #[.string r.name, .slice u7p r.args.length u7c] 29)))
  have Q_10 := Lib.hid (Q_9.out.kept ((Below.refl w7.heap.size w7).alloc (Nat.le_refl _) (.cells #[.string r.name, .slice u7p r.args.length u7c] 29)))
  have G_10 := Lib.hid (G_9.out.kept ((Below.refl w7.heap.size w7).alloc (Nat.le_refl _) (.cells #[.string r.name, .slice u7p r.args.length u7c] 29)))
  clear HB_9 A_9 W0_9 BW_9 X_9 BX_9 Q_9 G_9
  have BG_10 := Lib.hid (two_new w7 (.string r.name) (.slice u7p r.args.length u7c) 29 _ rfl)
  have CE := eqTerm_any r r _ _ _ G_10.out.read W0_10.out.read HLR.out HLR.out
  rw [eqT_self] at CE
  have HCE := Lib.hid CE
  clear CE
  go_wp2_with fail
  refine HCE.out.mono ?_
  rintro e w8 ⟨rfl, hb⟩
  clear Ar0 Ar1 Ar2 Alt BWr0 BWr1 BWr2 BWlt BXr0 BXr1 BXr2 BXlt
  have HB_11 := Lib.hid (carry_below HB_10.out (Nat.le_refl _) hb)
  have A_11 := Lib.hid (A_10.out.kept hb)
  have W0_11 := Lib.hid (W0_10.out.kept hb)
  have BW_11 := Lib.hid (BW_10.out.kept hb)
  have X_11 := Lib.hid (X_10.out.kept hb)
  have BX_11 := Lib.hid (BX_10.out.kept hb)
  have Q_11 := Lib.hid (Q_10.out.kept hb)
  have G_11 := Lib.hid (G_10.out.kept hb)
  have BG_11 := Lib.hid (BG_10.out.kept hb)
  have z_11 : w7.heap.size + 1 ≤ w8.heap.size := by have := hb.size; simpa using this
  clear HB_10 A_10 W0_10 BW_10 X_10 BX_10 Q_10 G_10 BG_10
  clear hb HCE
  obtain ⟨Ar0, Ar1, Ar2⟩ := A_11.out
  have Alt : w.heap.size < w8.heap.size := World.block_lt_of_cell? w8 ⟨w.heap.size, 0, none⟩ Ar0
  obtain ⟨BWr0, BWr1, BWr2⟩ := BW_11.out
  have BWlt : w4.heap.size < w8.heap.size := World.block_lt_of_cell? w8 ⟨w4.heap.size, 0, none⟩ BWr0
  obtain ⟨BXr0, BXr1, BXr2⟩ := BX_11.out
  have BXlt : w5.heap.size < w8.heap.size := World.block_lt_of_cell? w8 ⟨w5.heap.size, 0, none⟩ BXr0
  obtain ⟨BGr0, BGr1, BGr2⟩ := BG_11.out
  have BGlt : w7.heap.size < w8.heap.size := World.block_lt_of_cell? w8 ⟨w7.heap.size, 0, none⟩ BGr0
  have CT : Hid (∀ W : World, Below w8.heap.size w8 W → Calls Try.prog 17 #[.agg #[.string t.name, .slice pa t.args.length ca]] W (ToEnd t W)) := Lib.hid (fun W hW => toTerm_any t W _ ((HV.out.kept HB_11.out).kept hW) hw)
  have CE : Hid (∀ (W : World) (v : Value), Below w8.heap.size w8 W → TmS W v t.args → Calls Try.prog 19 #[.agg #[.string t.name, .slice u5p t.args.length u5c], .agg #[.string t.name, v]] W (EqEnd true W)) := Lib.hid (fun W v hW hv => by
    have h := eqTerm_any t t W _ v (X_11.out.read.kept hW) hv HL.out HL.out
    rwa [eqT_self] at h)
  have hB0 : Below w8.heap.size w8 w8.drew := (Below.refl _ _).drew
  go_wp2_with fail
  go_region_held3 (fun w' => w'.cell? ⟨w.heap.size, 0, none⟩ = some (.string t.name) ∧ w'.cell? ⟨w.heap.size, 1, none⟩ = some (.slice pa t.args.length ca) ∧ w'.cell? ⟨w5.heap.size, 0, none⟩ = some (.string t.name) ∧ w'.cell? ⟨w5.heap.size, 1, none⟩ = some (.slice u5p t.args.length u5c) ∧ Below w8.heap.size w8 w') (first | exact ⟨by assumption, by assumption, by assumption, by assumption, by assumption⟩ | go_keep) (first | (go_at_call 17; refine (CT.out _ hB0).mono ?_; rintro e w9a ⟨v6, rfl, ho, hb⟩; have q0 : w9a.cell? ⟨w.heap.size, 0, none⟩ = some (.string t.name) := carry_cell' hb (by assumption); have q1 : w9a.cell? ⟨w.heap.size, 1, none⟩ = some (.slice pa t.args.length ca) := carry_cell' hb (by assumption); have q2 : w9a.cell? ⟨w5.heap.size, 0, none⟩ = some (.string t.name) := carry_cell' hb (by assumption); have q3 : w9a.cell? ⟨w5.heap.size, 1, none⟩ = some (.slice u5p t.args.length u5c) := carry_cell' hb (by assumption); have hB6 := carry_below hB0 (Nat.le_refl _) hb; have HT6 := Lib.hid ho.read; clear hb ho) | (go_at_call 19; refine (CE.out _ _ hB6 HT6.out).mono ?_; rintro e w9 ⟨rfl, hb⟩; have r0 : w9.cell? ⟨w.heap.size, 0, none⟩ = some (.string t.name) := carry_cell' hb (by assumption); have r1 : w9.cell? ⟨w.heap.size, 1, none⟩ = some (.slice pa t.args.length ca) := carry_cell' hb (by assumption); have r2 : w9.cell? ⟨w5.heap.size, 0, none⟩ = some (.string t.name) := carry_cell' hb (by assumption); have r3 : w9.cell? ⟨w5.heap.size, 1, none⟩ = some (.slice u5p t.args.length u5c) := carry_cell' hb (by assumption); have hB7 := carry_below hB6 (Nat.le_refl _) hb; clear hb))
  clear Ar0 Ar1 Ar2 Alt BWr0 BWr1 BWr2 BWlt BXr0 BXr1 BXr2 BXlt BGr0 BGr1 BGr2 BGlt
  have HB_12 := Lib.hid (carry_below HB_11.out (Nat.le_refl _) hB7)
  have A_12 := Lib.hid (A_11.out.kept hB7)
  have W0_12 := Lib.hid (W0_11.out.kept hB7)
  have BW_12 := Lib.hid (BW_11.out.kept hB7)
  have X_12 := Lib.hid (X_11.out.kept hB7)
  have BX_12 := Lib.hid (BX_11.out.kept hB7)
  have Q_12 := Lib.hid (Q_11.out.kept hB7)
  have G_12 := Lib.hid (G_11.out.kept hB7)
  have BG_12 := Lib.hid (BG_11.out.kept hB7)
  have z_12 : w8.heap.size ≤ w9.heap.size := hB7.size
  clear HB_11 A_11 W0_11 BW_11 X_11 BX_11 Q_11 G_11 BG_11
  clear hB7 hB6 hB0 q0 q1 q2 q3 r0 r1 r2 r3 HT6 CT CE
  obtain ⟨Ar0, Ar1, Ar2⟩ := A_12.out
  have Alt : w.heap.size < w9.heap.size := World.block_lt_of_cell? w9 ⟨w.heap.size, 0, none⟩ Ar0
  obtain ⟨BWr0, BWr1, BWr2⟩ := BW_12.out
  have BWlt : w4.heap.size < w9.heap.size := World.block_lt_of_cell? w9 ⟨w4.heap.size, 0, none⟩ BWr0
  obtain ⟨BXr0, BXr1, BXr2⟩ := BX_12.out
  have BXlt : w5.heap.size < w9.heap.size := World.block_lt_of_cell? w9 ⟨w5.heap.size, 0, none⟩ BXr0
  obtain ⟨BGr0, BGr1, BGr2⟩ := BG_12.out
  have BGlt : w7.heap.size < w9.heap.size := World.block_lt_of_cell? w9 ⟨w7.heap.size, 0, none⟩ BGr0
  go_wp2_with fail
  refine (toIntS_any p _ _ (HP.out.kept HB_12.out) hpl).mono ?_
  rintro e w10 ⟨u10, rfl, ho, hb⟩
  obtain ⟨u10p, u10c, rfl, _⟩ := ho.read
  clear Ar0 Ar1 Ar2 Alt BWr0 BWr1 BWr2 BWlt BXr0 BXr1 BXr2 BXlt BGr0 BGr1 BGr2 BGlt
  have HB_13 := Lib.hid (carry_below HB_12.out (Nat.le_refl _) hb)
  have A_13 := Lib.hid (A_12.out.kept hb)
  have W0_13 := Lib.hid (W0_12.out.kept hb)
  have BW_13 := Lib.hid (BW_12.out.kept hb)
  have X_13 := Lib.hid (X_12.out.kept hb)
  have BX_13 := Lib.hid (BX_12.out.kept hb)
  have Q_13 := Lib.hid (Q_12.out.kept hb)
  have G_13 := Lib.hid (G_12.out.kept hb)
  have BG_13 := Lib.hid (BG_12.out.kept hb)
  have z_13 : w9.heap.size ≤ w10.heap.size := hb.size
  clear HB_12 A_12 W0_12 BW_12 X_12 BX_12 Q_12 G_12 BG_12
  have R_13 := Lib.hid ((IntsI.fresh ho))
  clear hb ho
  obtain ⟨Ar0, Ar1, Ar2⟩ := A_13.out
  have Alt : w.heap.size < w10.heap.size := World.block_lt_of_cell? w10 ⟨w.heap.size, 0, none⟩ Ar0
  obtain ⟨BWr0, BWr1, BWr2⟩ := BW_13.out
  have BWlt : w4.heap.size < w10.heap.size := World.block_lt_of_cell? w10 ⟨w4.heap.size, 0, none⟩ BWr0
  obtain ⟨BXr0, BXr1, BXr2⟩ := BX_13.out
  have BXlt : w5.heap.size < w10.heap.size := World.block_lt_of_cell? w10 ⟨w5.heap.size, 0, none⟩ BXr0
  obtain ⟨BGr0, BGr1, BGr2⟩ := BG_13.out
  have BGlt : w7.heap.size < w10.heap.size := World.block_lt_of_cell? w10 ⟨w7.heap.size, 0, none⟩ BGr0
  go_wp2_with fail
  refine (eqIntS_any p _ _ _ Q_13.out.read R_13.out.read hpl).mono ?_
  rintro e w11 ⟨rfl, hb⟩
  clear Ar0 Ar1 Ar2 Alt BWr0 BWr1 BWr2 BWlt BXr0 BXr1 BXr2 BXlt BGr0 BGr1 BGr2 BGlt
  have HB_14 := Lib.hid (carry_below HB_13.out (Nat.le_refl _) hb)
  have A_14 := Lib.hid (A_13.out.kept hb)
  have W0_14 := Lib.hid (W0_13.out.kept hb)
  have BW_14 := Lib.hid (BW_13.out.kept hb)
  have X_14 := Lib.hid (X_13.out.kept hb)
  have BX_14 := Lib.hid (BX_13.out.kept hb)
  have Q_14 := Lib.hid (Q_13.out.kept hb)
  have G_14 := Lib.hid (G_13.out.kept hb)
  have BG_14 := Lib.hid (BG_13.out.kept hb)
  have R_14 := Lib.hid (R_13.out.kept hb)
  have z_14 : w10.heap.size ≤ w11.heap.size := hb.size
  clear HB_13 A_13 W0_13 BW_13 X_13 BX_13 Q_13 G_13 BG_13 R_13
  clear hb
  obtain ⟨Ar0, Ar1, Ar2⟩ := A_14.out
  have Alt : w.heap.size < w11.heap.size := World.block_lt_of_cell? w11 ⟨w.heap.size, 0, none⟩ Ar0
  obtain ⟨BWr0, BWr1, BWr2⟩ := BW_14.out
  have BWlt : w4.heap.size < w11.heap.size := World.block_lt_of_cell? w11 ⟨w4.heap.size, 0, none⟩ BWr0
  obtain ⟨BXr0, BXr1, BXr2⟩ := BX_14.out
  have BXlt : w5.heap.size < w11.heap.size := World.block_lt_of_cell? w11 ⟨w5.heap.size, 0, none⟩ BXr0
  obtain ⟨BGr0, BGr1, BGr2⟩ := BG_14.out
  have BGlt : w7.heap.size < w11.heap.size := World.block_lt_of_cell? w11 ⟨w7.heap.size, 0, none⟩ BGr0
  have CM := markTerm_any t 1 _ _ _ X_14.out.1 X_14.out.bound (Nat.le_refl _) (by omega)
  have HCM := Lib.hid CM
  clear CM
  go_wp2_with fail
  refine HCM.out.mono ?_
  rintro e w12 ⟨rfl, ho, hout⟩
  clear Ar0 Ar1 Ar2 Alt BWr0 BWr1 BWr2 BWlt BXr0 BXr1 BXr2 BXlt BGr0 BGr1 BGr2 BGlt
  have HB_15 := Lib.hid (below_outside HB_14.out hout (by omega))
  have A_15 := Lib.hid (A_14.out.outside hout (by omega))
  have W0_15 := Lib.hid (W0_14.out.outside hout (by omega))
  have BW_15 := Lib.hid (BW_14.out.outside hout (by omega))
  have BX_15 := Lib.hid (BX_14.out.outside hout (by omega))
  have Q_15 := Lib.hid (Q_14.out.outside hout (by omega))
  have G_15 := Lib.hid (G_14.out.outside hout (by omega))
  have BG_15 := Lib.hid (BG_14.out.outside hout (by omega))
  have z_15 : w11.heap.size ≤ w12.heap.size := hout.size
  clear HB_14 A_14 W0_14 BW_14 BX_14 Q_14 G_14 BG_14
  clear ho hout HCM
  obtain ⟨Ar0, Ar1, Ar2⟩ := A_15.out
  have Alt : w.heap.size < w12.heap.size := World.block_lt_of_cell? w12 ⟨w.heap.size, 0, none⟩ Ar0
  obtain ⟨BWr0, BWr1, BWr2⟩ := BW_15.out
  have BWlt : w4.heap.size < w12.heap.size := World.block_lt_of_cell? w12 ⟨w4.heap.size, 0, none⟩ BWr0
  obtain ⟨BXr0, BXr1, BXr2⟩ := BX_15.out
  have BXlt : w5.heap.size < w12.heap.size := World.block_lt_of_cell? w12 ⟨w5.heap.size, 0, none⟩ BXr0
  obtain ⟨BGr0, BGr1, BGr2⟩ := BG_15.out
  have BGlt : w7.heap.size < w12.heap.size := World.block_lt_of_cell? w12 ⟨w7.heap.size, 0, none⟩ BGr0
  have CM2 := markIntS_any p (1 + sumL Tm.sz t.args) _ _ _ Q_15.out.1 (by omega)
  have HCM2 := Lib.hid CM2
  clear CM2
  go_wp2_with fail
  refine HCM2.out.mono ?_
  rintro e w13 ⟨rfl, ho, hout⟩
  clear Ar0 Ar1 Ar2 Alt BWr0 BWr1 BWr2 BWlt BXr0 BXr1 BXr2 BXlt BGr0 BGr1 BGr2 BGlt
  have HB_16 := Lib.hid (below_outside HB_15.out hout (by omega))
  have A_16 := Lib.hid (A_15.out.outside hout (by omega))
  have W0_16 := Lib.hid (W0_15.out.outside hout (by omega))
  have BW_16 := Lib.hid (BW_15.out.outside hout (by omega))
  have BX_16 := Lib.hid (BX_15.out.outside hout (by omega))
  have G_16 := Lib.hid (G_15.out.outside hout (by omega))
  have BG_16 := Lib.hid (BG_15.out.outside hout (by omega))
  have z_16 : w12.heap.size ≤ w13.heap.size := hout.size
  clear HB_15 A_15 W0_15 BW_15 BX_15 G_15 BG_15
  clear ho hout HCM2
  obtain ⟨Ar0, Ar1, Ar2⟩ := A_16.out
  have Alt : w.heap.size < w13.heap.size := World.block_lt_of_cell? w13 ⟨w.heap.size, 0, none⟩ Ar0
  obtain ⟨BWr0, BWr1, BWr2⟩ := BW_16.out
  have BWlt : w4.heap.size < w13.heap.size := World.block_lt_of_cell? w13 ⟨w4.heap.size, 0, none⟩ BWr0
  obtain ⟨BXr0, BXr1, BXr2⟩ := BX_16.out
  have BXlt : w5.heap.size < w13.heap.size := World.block_lt_of_cell? w13 ⟨w5.heap.size, 0, none⟩ BXr0
  obtain ⟨BGr0, BGr1, BGr2⟩ := BG_16.out
  have BGlt : w7.heap.size < w13.heap.size := World.block_lt_of_cell? w13 ⟨w7.heap.size, 0, none⟩ BGr0
  have hk0 : decide (((1 + sumL Tm.sz t.args + p.length : Nat) : Int) < 0) = false := by simp; omega
  generalize 1 + sumL Tm.sz t.args + p.length = kk at *
  have CE := eqTerm_any r r _ _ _ G_16.out.read W0_16.out.read HLR.out HLR.out
  rw [eqT_self] at CE
  have HCE := Lib.hid CE
  clear CE
  go_wp2_with fail
  refine HCE.out.mono ?_
  rintro e w14 ⟨rfl, hb⟩
  clear Ar0 Ar1 Ar2 Alt BWr0 BWr1 BWr2 BWlt BXr0 BXr1 BXr2 BXlt BGr0 BGr1 BGr2 BGlt
  have HB_17 := Lib.hid (carry_below HB_16.out (Nat.le_refl _) hb)
  have A_17 := Lib.hid (A_16.out.kept hb)
  have W0_17 := Lib.hid (W0_16.out.kept hb)
  have BW_17 := Lib.hid (BW_16.out.kept hb)
  have BX_17 := Lib.hid (BX_16.out.kept hb)
  have G_17 := Lib.hid (G_16.out.kept hb)
  have BG_17 := Lib.hid (BG_16.out.kept hb)
  have z_17 : w13.heap.size ≤ w14.heap.size := hb.size
  clear HB_16 A_16 W0_16 BW_16 BX_16 G_16 BG_16
  clear hb HCE
  obtain ⟨Ar0, Ar1, Ar2⟩ := A_17.out
  have Alt : w.heap.size < w14.heap.size := World.block_lt_of_cell? w14 ⟨w.heap.size, 0, none⟩ Ar0
  obtain ⟨BWr0, BWr1, BWr2⟩ := BW_17.out
  have BWlt : w4.heap.size < w14.heap.size := World.block_lt_of_cell? w14 ⟨w4.heap.size, 0, none⟩ BWr0
  obtain ⟨BXr0, BXr1, BXr2⟩ := BX_17.out
  have BXlt : w5.heap.size < w14.heap.size := World.block_lt_of_cell? w14 ⟨w5.heap.size, 0, none⟩ BXr0
  obtain ⟨BGr0, BGr1, BGr2⟩ := BG_17.out
  have BGlt : w7.heap.size < w14.heap.size := World.block_lt_of_cell? w14 ⟨w7.heap.size, 0, none⟩ BGr0
  have CM := markTerm_any r 1 _ _ _ G_17.out.1 G_17.out.bound (Nat.le_refl _) (by omega)
  have HCM := Lib.hid CM
  clear CM
  go_wp2_with fail
  refine HCM.out.mono ?_
  rintro e w15 ⟨rfl, ho, hout⟩
  clear Ar0 Ar1 Ar2 Alt BWr0 BWr1 BWr2 BWlt BXr0 BXr1 BXr2 BXlt BGr0 BGr1 BGr2 BGlt
  have HB_18 := Lib.hid (below_outside HB_17.out hout (by omega))
  have A_18 := Lib.hid (A_17.out.outside hout (by omega))
  have W0_18 := Lib.hid (W0_17.out.outside hout (by omega))
  have BW_18 := Lib.hid (BW_17.out.outside hout (by omega))
  have BX_18 := Lib.hid (BX_17.out.outside hout (by omega))
  have BG_18 := Lib.hid (BG_17.out.outside hout (by omega))
  have z_18 : w14.heap.size ≤ w15.heap.size := hout.size
  clear HB_17 A_17 W0_17 BW_17 BX_17 BG_17
  have M_18 := Lib.hid ((show OwnI w15 _ _ _ _ from ⟨ho, Nat.le_trans G_17.out.2 hout.size⟩))
  clear ho hout HCM
  obtain ⟨Ar0, Ar1, Ar2⟩ := A_18.out
  have Alt : w.heap.size < w15.heap.size := World.block_lt_of_cell? w15 ⟨w.heap.size, 0, none⟩ Ar0
  obtain ⟨BWr0, BWr1, BWr2⟩ := BW_18.out
  have BWlt : w4.heap.size < w15.heap.size := World.block_lt_of_cell? w15 ⟨w4.heap.size, 0, none⟩ BWr0
  obtain ⟨BXr0, BXr1, BXr2⟩ := BX_18.out
  have BXlt : w5.heap.size < w15.heap.size := World.block_lt_of_cell? w15 ⟨w5.heap.size, 0, none⟩ BXr0
  obtain ⟨BGr0, BGr1, BGr2⟩ := BG_18.out
  have BGlt : w7.heap.size < w15.heap.size := World.block_lt_of_cell? w15 ⟨w7.heap.size, 0, none⟩ BGr0
  have CH := heldTerm_any r r.name 1 _ _ M_18.out.read (Nat.le_refl _) (by omega)
  have HCH := Lib.hid CH
  clear CH
  go_wp2_with fail
  refine HCH.out.mono ?_
  rintro e w16 ⟨rfl, hb⟩
  clear Ar0 Ar1 Ar2 Alt BWr0 BWr1 BWr2 BWlt BXr0 BXr1 BXr2 BXlt BGr0 BGr1 BGr2 BGlt
  have HB_19 := Lib.hid (carry_below HB_18.out (Nat.le_refl _) hb)
  have A_19 := Lib.hid (A_18.out.kept hb)
  have W0_19 := Lib.hid (W0_18.out.kept hb)
  have BW_19 := Lib.hid (BW_18.out.kept hb)
  have BX_19 := Lib.hid (BX_18.out.kept hb)
  have BG_19 := Lib.hid (BG_18.out.kept hb)
  have M_19 := Lib.hid (M_18.out.kept hb)
  have z_19 : w15.heap.size ≤ w16.heap.size := hb.size
  clear HB_18 A_18 W0_18 BW_18 BX_18 BG_18 M_18
  clear hb HCH
  obtain ⟨Ar0, Ar1, Ar2⟩ := A_19.out
  have Alt : w.heap.size < w16.heap.size := World.block_lt_of_cell? w16 ⟨w.heap.size, 0, none⟩ Ar0
  obtain ⟨BWr0, BWr1, BWr2⟩ := BW_19.out
  have BWlt : w4.heap.size < w16.heap.size := World.block_lt_of_cell? w16 ⟨w4.heap.size, 0, none⟩ BWr0
  obtain ⟨BXr0, BXr1, BXr2⟩ := BX_19.out
  have BXlt : w5.heap.size < w16.heap.size := World.block_lt_of_cell? w16 ⟨w5.heap.size, 0, none⟩ BXr0
  obtain ⟨BGr0, BGr1, BGr2⟩ := BG_19.out
  have BGlt : w7.heap.size < w16.heap.size := World.block_lt_of_cell? w16 ⟨w7.heap.size, 0, none⟩ BGr0
  have hm0 : decide (((1 + sumL Tm.sz r.args : Nat) : Int) < 0) = false := by simp; omega
  go_wp2_with fail
  refine (toTerm_any t _ _ (HV.out.kept HB_19.out) hw).mono ?_
  rintro e w17 ⟨u17, rfl, ho, hb⟩
  obtain ⟨u17p, u17c, rfl⟩ := ho.read.is_slice
  clear Ar0 Ar1 Ar2 Alt BWr0 BWr1 BWr2 BWlt BXr0 BXr1 BXr2 BXlt BGr0 BGr1 BGr2 BGlt
  have HB_20 := Lib.hid (carry_below HB_19.out (Nat.le_refl _) hb)
  have A_20 := Lib.hid (A_19.out.kept hb)
  have W0_20 := Lib.hid (W0_19.out.kept hb)
  have BW_20 := Lib.hid (BW_19.out.kept hb)
  have BX_20 := Lib.hid (BX_19.out.kept hb)
  have BG_20 := Lib.hid (BG_19.out.kept hb)
  have M_20 := Lib.hid (M_19.out.kept hb)
  have z_20 : w16.heap.size ≤ w17.heap.size := hb.size
  clear HB_19 A_19 W0_19 BW_19 BX_19 BG_19 M_19
  have T17_20 := Lib.hid ((OwnI.fresh ho))
  clear hb ho
  obtain ⟨Ar0, Ar1, Ar2⟩ := A_20.out
  have Alt : w.heap.size < w17.heap.size := World.block_lt_of_cell? w17 ⟨w.heap.size, 0, none⟩ Ar0
  obtain ⟨BWr0, BWr1, BWr2⟩ := BW_20.out
  have BWlt : w4.heap.size < w17.heap.size := World.block_lt_of_cell? w17 ⟨w4.heap.size, 0, none⟩ BWr0
  obtain ⟨BXr0, BXr1, BXr2⟩ := BX_20.out
  have BXlt : w5.heap.size < w17.heap.size := World.block_lt_of_cell? w17 ⟨w5.heap.size, 0, none⟩ BXr0
  obtain ⟨BGr0, BGr1, BGr2⟩ := BG_20.out
  have BGlt : w7.heap.size < w17.heap.size := World.block_lt_of_cell? w17 ⟨w7.heap.size, 0, none⟩ BGr0
  go_wp2_with fail
  refine (toIntS_any p _ _ (HP.out.kept HB_20.out) hpl).mono ?_
  rintro e w18 ⟨u18, rfl, ho, hb⟩
  obtain ⟨u18p, u18c, rfl, _⟩ := ho.read
  clear Ar0 Ar1 Ar2 Alt BWr0 BWr1 BWr2 BWlt BXr0 BXr1 BXr2 BXlt BGr0 BGr1 BGr2 BGlt
  have HB_21 := Lib.hid (carry_below HB_20.out (Nat.le_refl _) hb)
  have A_21 := Lib.hid (A_20.out.kept hb)
  have W0_21 := Lib.hid (W0_20.out.kept hb)
  have BW_21 := Lib.hid (BW_20.out.kept hb)
  have BX_21 := Lib.hid (BX_20.out.kept hb)
  have BG_21 := Lib.hid (BG_20.out.kept hb)
  have M_21 := Lib.hid (M_20.out.kept hb)
  have T17_21 := Lib.hid (T17_20.out.kept hb)
  have z_21 : w17.heap.size ≤ w18.heap.size := hb.size
  clear HB_20 A_20 W0_20 BW_20 BX_20 BG_20 M_20 T17_20
  have P18_21 := Lib.hid ((IntsI.fresh ho))
  clear hb ho
  obtain ⟨Ar0, Ar1, Ar2⟩ := A_21.out
  have Alt : w.heap.size < w18.heap.size := World.block_lt_of_cell? w18 ⟨w.heap.size, 0, none⟩ Ar0
  obtain ⟨BWr0, BWr1, BWr2⟩ := BW_21.out
  have BWlt : w4.heap.size < w18.heap.size := World.block_lt_of_cell? w18 ⟨w4.heap.size, 0, none⟩ BWr0
  obtain ⟨BXr0, BXr1, BXr2⟩ := BX_21.out
  have BXlt : w5.heap.size < w18.heap.size := World.block_lt_of_cell? w18 ⟨w5.heap.size, 0, none⟩ BXr0
  obtain ⟨BGr0, BGr1, BGr2⟩ := BG_21.out
  have BGlt : w7.heap.size < w18.heap.size := World.block_lt_of_cell? w18 ⟨w7.heap.size, 0, none⟩ BGr0
  go_wp2_with fail
  refine (HCI.out _ _ _ T17_21.out.read P18_21.out.read).mono ?_
  rintro e w19 ⟨u19, rfl, ho, hb⟩
  obtain ⟨u19p, u19c, rfl⟩ := ho.read.is_slice
  clear Ar0 Ar1 Ar2 Alt BWr0 BWr1 BWr2 BWlt BXr0 BXr1 BXr2 BXlt BGr0 BGr1 BGr2 BGlt
  have HB_22 := Lib.hid (carry_below HB_21.out (Nat.le_refl _) hb)
  have A_22 := Lib.hid (A_21.out.kept hb)
  have W0_22 := Lib.hid (W0_21.out.kept hb)
  have BW_22 := Lib.hid (BW_21.out.kept hb)
  have BX_22 := Lib.hid (BX_21.out.kept hb)
  have BG_22 := Lib.hid (BG_21.out.kept hb)
  have M_22 := Lib.hid (M_21.out.kept hb)
  have T17_22 := Lib.hid (T17_21.out.kept hb)
  have P18_22 := Lib.hid (P18_21.out.kept hb)
  have z_22 : w18.heap.size ≤ w19.heap.size := hb.size
  clear HB_21 A_21 W0_21 BW_21 BX_21 BG_21 M_21 T17_21 P18_21
  have H_22 := Lib.hid ((OwnI.fresh ho))
  clear hb ho
  obtain ⟨Ar0, Ar1, Ar2⟩ := A_22.out
  have Alt : w.heap.size < w19.heap.size := World.block_lt_of_cell? w19 ⟨w.heap.size, 0, none⟩ Ar0
  obtain ⟨BWr0, BWr1, BWr2⟩ := BW_22.out
  have BWlt : w4.heap.size < w19.heap.size := World.block_lt_of_cell? w19 ⟨w4.heap.size, 0, none⟩ BWr0
  obtain ⟨BXr0, BXr1, BXr2⟩ := BX_22.out
  have BXlt : w5.heap.size < w19.heap.size := World.block_lt_of_cell? w19 ⟨w5.heap.size, 0, none⟩ BXr0
  obtain ⟨BGr0, BGr1, BGr2⟩ := BG_22.out
  have BGlt : w7.heap.size < w19.heap.size := World.block_lt_of_cell? w19 ⟨w7.heap.size, 0, none⟩ BGr0
  have HB_23 := Lib.hid (HB_22.out.alloc HB_22.out.size (.cells #[.string r.name, .slice u19p r.args.length u19c] 29))
  have A_23 := Lib.hid (A_22.out.kept ((Below.refl w19.heap.size w19).alloc (Nat.le_refl _) (.cells #[.string r.name, .slice u19p r.args.length u19c] 29)))
  have W0_23 := Lib.hid (W0_22.out.kept ((Below.refl w19.heap.size w19).alloc (Nat.le_refl _) (.cells #[.string r.name, .slice u19p r.args.length u19c] 29)))
  have BW_23 := Lib.hid (BW_22.out.kept ((Below.refl w19.heap.size w19).alloc (Nat.le_refl _) (.cells #[.string r.name, .slice u19p r.args.length u19c] 29)))
  have BX_23 := Lib.hid (BX_22.out.kept ((Below.refl w19.heap.size w19).alloc (Nat.le_refl _) (.cells #[.string r.name, .slice u19p r.args.length u19c] 29)))
  have BG_23 := Lib.hid (BG_22.out.kept ((Below.refl w19.heap.size w19).alloc (Nat.le_refl _) (.cells #[.string r.name, .slice u19p r.args.length u19c] 29)))
  have M_23 := Lib.hid (M_22.out.kept ((Below.refl w19.heap.size w19).alloc (Nat.le_refl _) (.cells #[.string r.name, .slice u19p r.args.length u19c] 29)))
  have H_23 := Lib.hid (H_22.out.kept ((Below.refl w19.heap.size w19).alloc (Nat.le_refl _) (.cells #[.string r.name, .slice u19p r.args.length u19c] 29)))
  clear HB_22 A_22 W0_22 BW_22 BX_22 BG_22 M_22 H_22
  have BH_23 := Lib.hid (two_new w19 (.string r.name) (.slice u19p r.args.length u19c) 29 _ rfl)
  have CE := eqTerm_any r r _ _ _ H_23.out.read W0_23.out.read HLR.out HLR.out
  rw [eqT_self] at CE
  have HCE := Lib.hid CE
  clear CE
  go_wp2_with fail
  refine HCE.out.mono ?_
  rintro e w20 ⟨rfl, hb⟩
  clear Ar0 Ar1 Ar2 Alt BWr0 BWr1 BWr2 BWlt BXr0 BXr1 BXr2 BXlt BGr0 BGr1 BGr2 BGlt
  have HB_24 := Lib.hid (carry_below HB_23.out (Nat.le_refl _) hb)
  have A_24 := Lib.hid (A_23.out.kept hb)
  have W0_24 := Lib.hid (W0_23.out.kept hb)
  have BW_24 := Lib.hid (BW_23.out.kept hb)
  have BX_24 := Lib.hid (BX_23.out.kept hb)
  have BG_24 := Lib.hid (BG_23.out.kept hb)
  have M_24 := Lib.hid (M_23.out.kept hb)
  have H_24 := Lib.hid (H_23.out.kept hb)
  have BH_24 := Lib.hid (BH_23.out.kept hb)
  have z_24 : w19.heap.size + 1 ≤ w20.heap.size := by have := hb.size; simpa using this
  clear HB_23 A_23 W0_23 BW_23 BX_23 BG_23 M_23 H_23 BH_23
  clear hb HCE
  obtain ⟨Ar0, Ar1, Ar2⟩ := A_24.out
  have Alt : w.heap.size < w20.heap.size := World.block_lt_of_cell? w20 ⟨w.heap.size, 0, none⟩ Ar0
  obtain ⟨BWr0, BWr1, BWr2⟩ := BW_24.out
  have BWlt : w4.heap.size < w20.heap.size := World.block_lt_of_cell? w20 ⟨w4.heap.size, 0, none⟩ BWr0
  obtain ⟨BXr0, BXr1, BXr2⟩ := BX_24.out
  have BXlt : w5.heap.size < w20.heap.size := World.block_lt_of_cell? w20 ⟨w5.heap.size, 0, none⟩ BXr0
  obtain ⟨BGr0, BGr1, BGr2⟩ := BG_24.out
  have BGlt : w7.heap.size < w20.heap.size := World.block_lt_of_cell? w20 ⟨w7.heap.size, 0, none⟩ BGr0
  obtain ⟨BHr0, BHr1, BHr2⟩ := BH_24.out
  have BHlt : w19.heap.size < w20.heap.size := World.block_lt_of_cell? w20 ⟨w19.heap.size, 0, none⟩ BHr0
  have CH := heldTerm_any r r.name 1 _ _ M_24.out.read (Nat.le_refl _) (by omega)
  have HCH := Lib.hid CH
  clear CH
  go_wp2_with fail
  refine HCH.out.mono ?_
  rintro e w21 ⟨rfl, hb⟩
  clear Ar0 Ar1 Ar2 Alt BWr0 BWr1 BWr2 BWlt BXr0 BXr1 BXr2 BXlt BGr0 BGr1 BGr2 BGlt BHr0 BHr1 BHr2 BHlt
  have HB_25 := Lib.hid (carry_below HB_24.out (Nat.le_refl _) hb)
  have A_25 := Lib.hid (A_24.out.kept hb)
  have W0_25 := Lib.hid (W0_24.out.kept hb)
  have BW_25 := Lib.hid (BW_24.out.kept hb)
  have BX_25 := Lib.hid (BX_24.out.kept hb)
  have BG_25 := Lib.hid (BG_24.out.kept hb)
  have M_25 := Lib.hid (M_24.out.kept hb)
  have H_25 := Lib.hid (H_24.out.kept hb)
  have BH_25 := Lib.hid (BH_24.out.kept hb)
  have z_25 : w20.heap.size ≤ w21.heap.size := hb.size
  clear HB_24 A_24 W0_24 BW_24 BX_24 BG_24 M_24 H_24 BH_24
  clear hb HCH
  obtain ⟨Ar0, Ar1, Ar2⟩ := A_25.out
  have Alt : w.heap.size < w21.heap.size := World.block_lt_of_cell? w21 ⟨w.heap.size, 0, none⟩ Ar0
  obtain ⟨BWr0, BWr1, BWr2⟩ := BW_25.out
  have BWlt : w4.heap.size < w21.heap.size := World.block_lt_of_cell? w21 ⟨w4.heap.size, 0, none⟩ BWr0
  obtain ⟨BXr0, BXr1, BXr2⟩ := BX_25.out
  have BXlt : w5.heap.size < w21.heap.size := World.block_lt_of_cell? w21 ⟨w5.heap.size, 0, none⟩ BXr0
  obtain ⟨BGr0, BGr1, BGr2⟩ := BG_25.out
  have BGlt : w7.heap.size < w21.heap.size := World.block_lt_of_cell? w21 ⟨w7.heap.size, 0, none⟩ BGr0
  obtain ⟨BHr0, BHr1, BHr2⟩ := BH_25.out
  have BHlt : w19.heap.size < w21.heap.size := World.block_lt_of_cell? w21 ⟨w19.heap.size, 0, none⟩ BHr0
  go_wp2
  go_ret
  exact ⟨rfl, HB_25.out⟩

theorem walk (t : Tm) (va : Value) (vp : Value) (p : List Int) (w : World) (hv : TmS w va t.args) (hlim : t.lim 9223372036854775807) (hp : IntsV w vp p) (hlp : p.length ≤ 9223372036854775807) :
    Calls Try.prog 10 #[.agg #[.string t.name, va], vp] w fun e w' => e = .returned (.bool true) ∧ Below w.heap.size w w' :=
  core t va p vp (subR t p) (subA t p).isSome w hv hlim hp hlp (fun hw => Nat.le_trans (subR_wt t p) hw)
    (fun hw hl W v q h1 h2 => (specSub_any t p W v q h1 h2 hw hl).mono fun e w' ⟨x, h3, h4, h5⟩ => ⟨x, h3, h4, h5⟩)
    (fun hw hl W v q h1 h2 => (implSub_any t p W v q h1 h2 hw hl).mono fun e w' ⟨x, h3, h4, h5⟩ => ⟨x, h3, h4, h5⟩)

/-! ### THE ROW's STEP: WRITTEN OUT: LEAVE IT -/
set_option maxRecDepth 100000 in
theorem lifted (os : Os) (started : os.Started) (H : Type) (enc : TypeId × Value → H) :
    ReturnsInHanded {} Try.checked os 10 .any (Rows.fnExactSubtermAtSpec.pre6 enc Try.prog Try.f10 Rows.fnExactSubtermAtRow.domain false) (Rows.fnExactSubtermAtSpec.post enc Try.prog Try.f10 false true false false) := by
  refine returnsInHanded_of_change (C := Try.checked) own started (by kernel_rfl) Try.func10
    (ChangeSpec.witness6 (enc := enc) (C := Try.checked) false ⟨#[], #[.agg #[.string ByteArray.empty, .slice none 0 0], .slice none 0 0], []⟩ 8 (by kernel_rfl) (by kernel_rfl) (by kernel_rfl) (by kernel_rfl)) ?_
  intro W base args ds gs before hval0 hW hcnd _
  have hval : ∀ (j : Nat) t v, Try.f10.params[j]? = some t → args[j]? = some v → Value.okWide Try.prog W .any base t v := hval0
  have hW' := hW
  obtain ⟨p, q, hA0, hV, rfl, hfz, hnd⟩ := hW
  have hA : DataW.TrodAll enc Try.prog W 0 (fun _ => true) true Try.f10.params.toList args.toList ds p := hA0
  rw [Try.params10] at hA hval
  obtain ⟨v0, vs0, d0, ds0, p0, q0, hargs, rfl, rfl, h0, r0⟩ := trodAll_cons hA
  obtain ⟨v1, vs1, d1, ds1, p1, q1, rfl, rfl, rfl, h1, r1⟩ := trodAll_cons r0
  obtain ⟨rfl, rfl, rfl⟩ := trodAll_nil r1
  obtain rfl : args = #[v0, v1] := by cases args; simp_all
  obtain ⟨rfl, rfl⟩ := trodVars_none hV
  have k0 := h0
  have lt0 : ∀ x ∈ p0, x.block < W.heap.size := by obtain ⟨m, hm⟩ := k0; exact DataW.trod_lt m _ _ _ hm
  obtain ⟨t0, va0, rfl, tm0, lim0⟩ := open_term 9223372036854775807 (by unfold maxLen; omega) (hval 0 24 v0 rfl rfl) h0
  have k1 := h1
  have lt1 : ∀ x ∈ p1, x.block < W.heap.size := by obtain ⟨m, hm⟩ := k1; exact DataW.trod_lt m _ _ _ hm
  obtain ⟨is1, iv1, il1⟩ := open_intv (hval 1 43 v1 rfl rfl) h1
  clear hA0 hval0
  refine (walk t0 va0 v1 is1 W tm0 lim0 iv1 il1).mono fun e W' ⟨he, bel⟩ => ?_
  subst he
  exact ⟨_, rfl, _, _, _, [], _, [], hW', trodAll_mk1 (shut_bool Try.underlying4 _), (trodAll_cons_mk (Below.trod laidOut (by kernel_rfl) (of_decide_eq_true (by kernel_rfl)) k0 bel lt0) (trodAll_cons_mk (Below.trod laidOut (by kernel_rfl) (of_decide_eq_true (by kernel_rfl)) k1 bel lt1) trodAll_mk0)), rfl, bel.frame _, fun h => by cases h⟩

theorem over : Rows.fnExactSubtermAtRow.holds Try.pinned (OpenSpec.ofChange Rows.fnExactSubtermAtSpec) :=
  OpenClaim.holds_of_wide 10 Try.f10 rfl rfl rfl rfl rfl rfl rfl ⟨rfl, rfl, rfl, rfl, rfl⟩ rfl rfl rfl rfl rfl (by kernel_rfl) Try.func10 (by kernel_rfl)
    (of_decide_eq_true (by kernel_rfl)) (by unfold Func.isWrapper; first | (rw [if_pos (by decide +kernel)]; kernel_rfl) | (rw [if_neg (by decide +kernel)]; exact ⟨rfl, rfl⟩))
    (fun os started H enc _ => lifted os started H enc)

/-- ████ THE STATEMENT ████ -/
theorem proved : Rows.FnExactSubtermAtSaid := over
end Go.Proofs.Ytojlijbmjmigjaa.fnExactSubtermAt
