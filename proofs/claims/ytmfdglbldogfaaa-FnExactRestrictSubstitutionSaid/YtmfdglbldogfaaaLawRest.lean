/- RestrictSubstitution answers as its model for every substitution and every slice of strings: no condition. -/
import Derived.Test.YtmfdglbldogfaaaRestI
import Derived.Test.YtmfdglbldogfaaaStr5
import Derived.Test.YtmfdglbldogfaaaOwnBd
import Derived.Test.YtmfdglbldogfaaaSzB
import Derived.Test.YtmfdglbldogfaaaToB
import Derived.Test.YtmfdglbldogfaaaEqB
import Derived.Test.YtmfdglbldogfaaaOpenB
import Derived.Test.YtmfdglbldogfaaaJf
import Derived.Deep.RegionWith
import Derived.Deep.Cut
import Derived.OpenShut
import Derived.ShutString
import Derived.ChangeOld
namespace Go.Proofs.Ytmfdglbldogfaaa.fnExactRestrictSubstitution
open Go.ChangeShapes Go.WideShapes Go.ChangeAt Go.RowKit
open Go.ChangeMaps (open_string shut_string)
set_option linter.unusedVariables false

theorem own : ownKnob Try.prog.godebug = none := by kernel_rfl
theorem laidOut : laidOutB Try.prog = true := by kernel_rfl
theorem strs_slice {w : World} {v : Value} {ss : List ByteArray} (h : StrsV w v ss) : ∃ p n c, v = .slice p n c := by
  rcases h with ⟨a, c, h, _⟩ | ⟨b, off, c, h, _⟩ <;> exact ⟨_, _, _, h⟩
theorem getD_small {l : List ByteArray} (h : ∀ s ∈ l, s.size ≤ maxLen) (i : Nat) : (l.getD i ByteArray.empty).size ≤ maxLen := by
  by_cases hi : i < l.length
  · rw [getD_eq hi]; exact h _ (List.getElem_mem hi)
  · rw [List.getD_eq_getElem?_getD, List.getElem?_eq_none (by omega)]; exact Nat.zero_le _
theorem owns_slice {w : World} {lo hi : Nat} {v : Value} {ss : List ByteArray} (h : OwnS w lo hi v ss) : ∃ p n c, v = .slice p n c := strs_slice h.read

set_option maxRecDepth 100000 in
set_option maxHeartbeats 16000000 in
theorem core (t0 : List Bd) (va0 : Value) (ss : List ByteArray) (vs : Value) (r : List Bd) (ok : Bool) (w : World) (h0 : BdS w va0 t0) (l0 : limB 9223372036854775807 t0)
    (h1 : StrsV w vs ss) (l1 : ss.length ≤ 9223372036854775807) (l2 : ∀ i, (ss.getD i ByteArray.empty).size ≤ maxLen)
    (hr : wtB t0 ≤ 1048576 → wtB r ≤ 1048576)
    (hcs : wtB t0 ≤ 1048576 → ss.length ≤ 1048576 → ∀ (W : World) (q0 q1 : Value), BdS W q0 t0 → StrsV W q1 ss → Calls Try.prog 33 #[.agg #[q0], q1] W (BdOkEnd r ok W))
    (hci : wtB t0 ≤ 1048576 → ss.length ≤ 1048576 → ∀ (W : World) (q0 q1 : Value), BdS W q0 t0 → StrsV W q1 ss → Calls Try.prog 35 #[.agg #[q0], q1] W (BdOkEnd r ok W)) :
    Calls Try.prog 6 #[.agg #[va0], vs] w fun e w' => e = .returned (.bool true) ∧ Below w.heap.size w w' := by
  obtain ⟨pa0, ca0, rfl⟩ := h0.is_slice
  have HV0 := Lib.hid h0
  have HLIM0 := Lib.hid l0
  have HVS := Lib.hid h1
  have HL2 := Lib.hid l2
  have HRW0 := Lib.hid hr
  have HCS0 := Lib.hid hcs
  have HCI0 := Lib.hid hci
  obtain ⟨sp, sn, sc, rfl⟩ := strs_slice h1
  clear hr hcs hci h0 l0 h1 l2
  have HB_0 := Lib.hid ((Below.refl w.heap.size w).alloc (Nat.le_refl _) (.cells #[.slice pa0 t0.length ca0] 24))
  have A0_0 := Lib.hid (oner_new w (.slice pa0 t0.length ca0) 24 _ rfl)
  go_enter Try.func6, Try.ntmps6
  go_wp2_with fail
  refine (szSub_any t0 _ _ 1048576 (HV0.out.kept HB_0.out) HLIM0.out (by omega) (by omega)).mono ?_
  rintro e w1 ⟨rfl, hb⟩
  have HB_1 := Lib.hid (carry_below HB_0.out (Nat.le_refl _) hb)
  have A0_1 := Lib.hid (A0_0.out.kept hb)
  have z_1 : w.heap.size + 1 ≤ w1.heap.size := by have := hb.size; simpa using this
  have z_0 : w.heap.size + 1 ≤ w1.heap.size := z_1
  clear hb
  obtain ⟨A0r0, A0r2⟩ := A0_1.out
  have A0lt : w.heap.size < w1.heap.size := World.block_lt_of_cell? w1 ⟨w.heap.size, 0, none⟩ A0r0
  rcases szR_cases 1048576 (wtB t0) with ⟨c0a, c0b⟩ | ⟨c0a, c0b⟩
  · rw [c0b]
    clear c0b
    go_wp2
    go_ret
    exact ⟨rfl, HB_1.out⟩
  rw [c0b]
  clear c0b
  have hcl0 : (0 : Int) ≤ 1048576 - ((wtB t0 : Nat) : Int) := by omega
  have hcn0 : ¬ 1048576 - ((wtB t0 : Nat) : Int) < 0 := by omega
  go_wp2_with fail
  refine (szStrL_any _ ss _ _ hcl0 (by omega) (HVS.out.below HB_1.out) l1 HL2.out).mono ?_
  rintro e w1x ⟨hs, rfl⟩
  rcases hs with rfl | ⟨rr, hr0, hr1, hsn, rfl⟩
  · go_wp2
    go_ret
    exact ⟨rfl, HB_1.out⟩
  have hrn : ¬ rr < 0 := by omega
  have hw0 : wtB t0 ≤ 1048576 := by omega
  have HL0 := Lib.hid (limB_of_wt (l := t0) hw0)
  have hm0 : sumB Bd.n t0 ≤ 4000000 := by have := sumB_wt t0; omega
  have HRW := Lib.hid (HRW0.out hw0)
  have HLR := Lib.hid (limB_of_wt (l := r) HRW.out)
  have hmr : sumB Bd.n r ≤ 4000000 := by have := sumB_wt r; have := HRW.out; omega
  have HCS := Lib.hid (HCS0.out hw0 hsn)
  have HCI := Lib.hid (HCI0.out hw0 hsn)
  go_wp2_with fail
  refine (toSub_any t0 _ _ (HV0.out.kept HB_1.out) hw0).mono ?_
  rintro e w2 ⟨u2, rfl, ho, hb⟩
  obtain ⟨u2p, u2c, rfl⟩ := ho.read.is_slice
  clear A0r0 A0r2 A0lt
  have HB_2 := Lib.hid (carry_below HB_1.out (Nat.le_refl _) hb)
  have A0_2 := Lib.hid (A0_1.out.kept hb)
  have z_2 : w1.heap.size ≤ w2.heap.size := hb.size
  clear HB_1 A0_1
  have P_2 := Lib.hid ((OwnBd.fresh ho))
  clear hb ho
  obtain ⟨A0r0, A0r2⟩ := A0_2.out
  have A0lt : w.heap.size < w2.heap.size := World.block_lt_of_cell? w2 ⟨w.heap.size, 0, none⟩ A0r0
  go_wp2_with fail
  refine (toStringS_any _ ss _ (HVS.out.below HB_2.out) (by omega)).mono ?_
  rintro e w3 ⟨u3, rfl, ho, hb⟩
  clear A0r0 A0r2 A0lt
  have HB_3 := Lib.hid (carry_below HB_2.out (Nat.le_refl _) hb)
  have A0_3 := Lib.hid (A0_2.out.kept hb)
  have P_3 := Lib.hid (P_2.out.kept hb)
  have z_3 : w2.heap.size ≤ w3.heap.size := hb.size
  clear HB_2 A0_2 P_2
  have Q_3 := Lib.hid ((OwnS.fresh ho))
  obtain ⟨u3p, u3n, u3c, rfl⟩ := owns_slice Q_3.out
  clear hb ho
  obtain ⟨A0r0, A0r2⟩ := A0_3.out
  have A0lt : w.heap.size < w3.heap.size := World.block_lt_of_cell? w3 ⟨w.heap.size, 0, none⟩ A0r0
  go_wp2_with fail
  refine (HCS.out _ _ _ P_3.out.read Q_3.out.read).mono ?_
  rintro e w4 ⟨u4, rfl, ho, hb⟩
  obtain ⟨u4p, u4c, rfl⟩ := ho.read.is_slice
  clear A0r0 A0r2 A0lt
  have HB_4 := Lib.hid (carry_below HB_3.out (Nat.le_refl _) hb)
  have A0_4 := Lib.hid (A0_3.out.kept hb)
  have P_4 := Lib.hid (P_3.out.kept hb)
  have Q_4 := Lib.hid (Q_3.out.kept hb)
  have z_4 : w3.heap.size ≤ w4.heap.size := hb.size
  clear HB_3 A0_3 P_3 Q_3
  have W0_4 := Lib.hid ((OwnBd.fresh ho))
  clear hb ho
  obtain ⟨A0r0, A0r2⟩ := A0_4.out
  have A0lt : w.heap.size < w4.heap.size := World.block_lt_of_cell? w4 ⟨w.heap.size, 0, none⟩ A0r0
  have HB_5 := Lib.hid (HB_4.out.alloc HB_4.out.size (.cells #[.slice u4p r.length u4c] 29))
  have A0_5 := Lib.hid (A0_4.out.kept ((Below.refl w4.heap.size w4).alloc (Nat.le_refl _) (.cells #[.slice u4p r.length u4c] 29)))
  have P_5 := Lib.hid (P_4.out.kept ((Below.refl w4.heap.size w4).alloc (Nat.le_refl _) (.cells #[.slice u4p r.length u4c] 29)))
  have Q_5 := Lib.hid (Q_4.out.kept ((Below.refl w4.heap.size w4).alloc (Nat.le_refl _) (.cells #[.slice u4p r.length u4c] 29)))
  have W0_5 := Lib.hid (W0_4.out.kept ((Below.refl w4.heap.size w4).alloc (Nat.le_refl _) (.cells #[.slice u4p r.length u4c] 29)))
  clear HB_4 A0_4 P_4 Q_4 W0_4
  have BW_5 := Lib.hid (oner_new w4 (.slice u4p r.length u4c) 29 _ rfl)
  go_wp2_with fail
  refine (toSub_any t0 _ _ (HV0.out.kept HB_5.out) hw0).mono ?_
  rintro e w5 ⟨u5, rfl, ho, hb⟩
  obtain ⟨u5p, u5c, rfl⟩ := ho.read.is_slice
  clear A0r0 A0r2 A0lt
  have HB_6 := Lib.hid (carry_below HB_5.out (Nat.le_refl _) hb)
  have A0_6 := Lib.hid (A0_5.out.kept hb)
  have W0_6 := Lib.hid (W0_5.out.kept hb)
  have BW_6 := Lib.hid (BW_5.out.kept hb)
  have z_6 : w4.heap.size + 1 ≤ w5.heap.size := by have := hb.size; simpa using this
  clear HB_5 A0_5 W0_5 BW_5
  have X0_6 := Lib.hid ((OwnBd.freshAt ho (n := w4.heap.size + 1) (by simp)))
  clear hb ho
  obtain ⟨A0r0, A0r2⟩ := A0_6.out
  have A0lt : w.heap.size < w5.heap.size := World.block_lt_of_cell? w5 ⟨w.heap.size, 0, none⟩ A0r0
  obtain ⟨BWr0, BWr2⟩ := BW_6.out
  have BWlt : w4.heap.size < w5.heap.size := World.block_lt_of_cell? w5 ⟨w4.heap.size, 0, none⟩ BWr0
  have HB_7 := Lib.hid (HB_6.out.alloc HB_6.out.size (.cells #[.slice u5p t0.length u5c] 29))
  have A0_7 := Lib.hid (A0_6.out.kept ((Below.refl w5.heap.size w5).alloc (Nat.le_refl _) (.cells #[.slice u5p t0.length u5c] 29)))
  have W0_7 := Lib.hid (W0_6.out.kept ((Below.refl w5.heap.size w5).alloc (Nat.le_refl _) (.cells #[.slice u5p t0.length u5c] 29)))
  have BW_7 := Lib.hid (BW_6.out.kept ((Below.refl w5.heap.size w5).alloc (Nat.le_refl _) (.cells #[.slice u5p t0.length u5c] 29)))
  have X0_7 := Lib.hid (X0_6.out.kept ((Below.refl w5.heap.size w5).alloc (Nat.le_refl _) (.cells #[.slice u5p t0.length u5c] 29)))
  clear HB_6 A0_6 W0_6 BW_6 X0_6
  have BX0_7 := Lib.hid (oner_new w5 (.slice u5p t0.length u5c) 29 _ rfl)
  go_wp2_with fail
  refine (toStringS_any _ ss _ (HVS.out.below HB_7.out) (by omega)).mono ?_
  rintro e w6 ⟨u6, rfl, ho, hb⟩
  clear A0r0 A0r2 A0lt BWr0 BWr2 BWlt
  have HB_8 := Lib.hid (carry_below HB_7.out (Nat.le_refl _) hb)
  have A0_8 := Lib.hid (A0_7.out.kept hb)
  have W0_8 := Lib.hid (W0_7.out.kept hb)
  have BW_8 := Lib.hid (BW_7.out.kept hb)
  have X0_8 := Lib.hid (X0_7.out.kept hb)
  have BX0_8 := Lib.hid (BX0_7.out.kept hb)
  have z_8 : w5.heap.size + 1 ≤ w6.heap.size := by have := hb.size; simpa using this
  clear HB_7 A0_7 W0_7 BW_7 X0_7 BX0_7
  have X1_8 := Lib.hid ((OwnS.freshAt ho (n := w5.heap.size + 1) (by simp)))
  obtain ⟨u6p, u6n, u6c, rfl⟩ := owns_slice X1_8.out
  clear hb ho
  obtain ⟨A0r0, A0r2⟩ := A0_8.out
  have A0lt : w.heap.size < w6.heap.size := World.block_lt_of_cell? w6 ⟨w.heap.size, 0, none⟩ A0r0
  obtain ⟨BWr0, BWr2⟩ := BW_8.out
  have BWlt : w4.heap.size < w6.heap.size := World.block_lt_of_cell? w6 ⟨w4.heap.size, 0, none⟩ BWr0
  obtain ⟨BX0r0, BX0r2⟩ := BX0_8.out
  have BX0lt : w5.heap.size < w6.heap.size := World.block_lt_of_cell? w6 ⟨w5.heap.size, 0, none⟩ BX0r0
  go_wp2_with fail
  refine (HCI.out _ _ _ X0_8.out.read X1_8.out.read).mono ?_
  rintro e w7 ⟨u7, rfl, ho, hb⟩
  obtain ⟨u7p, u7c, rfl⟩ := ho.read.is_slice
  clear A0r0 A0r2 A0lt BWr0 BWr2 BWlt BX0r0 BX0r2 BX0lt
  have HB_9 := Lib.hid (carry_below HB_8.out (Nat.le_refl _) hb)
  have A0_9 := Lib.hid (A0_8.out.kept hb)
  have W0_9 := Lib.hid (W0_8.out.kept hb)
  have BW_9 := Lib.hid (BW_8.out.kept hb)
  have X0_9 := Lib.hid (X0_8.out.kept hb)
  have BX0_9 := Lib.hid (BX0_8.out.kept hb)
  have X1_9 := Lib.hid (X1_8.out.kept hb)
  have z_9 : w6.heap.size ≤ w7.heap.size := hb.size
  clear HB_8 A0_8 W0_8 BW_8 X0_8 BX0_8 X1_8
  have G_9 := Lib.hid ((OwnBd.fresh ho))
  clear hb ho
  obtain ⟨A0r0, A0r2⟩ := A0_9.out
  have A0lt : w.heap.size < w7.heap.size := World.block_lt_of_cell? w7 ⟨w.heap.size, 0, none⟩ A0r0
  obtain ⟨BWr0, BWr2⟩ := BW_9.out
  have BWlt : w4.heap.size < w7.heap.size := World.block_lt_of_cell? w7 ⟨w4.heap.size, 0, none⟩ BWr0
  obtain ⟨BX0r0, BX0r2⟩ := BX0_9.out
  have BX0lt : w5.heap.size < w7.heap.size := World.block_lt_of_cell? w7 ⟨w5.heap.size, 0, none⟩ BX0r0
  have HB_10 := Lib.hid (HB_9.out.alloc HB_9.out.size (.cells #[.slice u7p r.length u7c] 29))
  have A0_10 := Lib.hid (A0_9.out.kept ((Below.refl w7.heap.size w7).alloc (Nat.le_refl _) (.cells #[.slice u7p r.length u7c] 29)))
  have W0_10 := Lib.hid (W0_9.out.kept ((Below.refl w7.heap.size w7).alloc (Nat.le_refl _) (.cells #[.slice u7p r.length u7c] 29)))
  have BW_10 := Lib.hid (BW_9.out.kept ((Below.refl w7.heap.size w7).alloc (Nat.le_refl _) (.cells #[.slice u7p r.length u7c] 29)))
  have X0_10 := Lib.hid (X0_9.out.kept ((Below.refl w7.heap.size w7).alloc (Nat.le_refl _) (.cells #[.slice u7p r.length u7c] 29)))
  have BX0_10 := Lib.hid (BX0_9.out.kept ((Below.refl w7.heap.size w7).alloc (Nat.le_refl _) (.cells #[.slice u7p r.length u7c] 29)))
  have X1_10 := Lib.hid (X1_9.out.kept ((Below.refl w7.heap.size w7).alloc (Nat.le_refl _) (.cells #[.slice u7p r.length u7c] 29)))
  have G_10 := Lib.hid (G_9.out.kept ((Below.refl w7.heap.size w7).alloc (Nat.le_refl _) (.cells #[.slice u7p r.length u7c] 29)))
  clear HB_9 A0_9 W0_9 BW_9 X0_9 BX0_9 X1_9 G_9
  have BG_10 := Lib.hid (oner_new w7 (.slice u7p r.length u7c) 29 _ rfl)
  have CE := eqSub_any r r _ _ _ G_10.out.read W0_10.out.read HLR.out HLR.out
  rw [eqBs_self] at CE
  have HCE := Lib.hid CE
  clear CE
  go_wp2_with fail
  refine HCE.out.mono ?_
  rintro e w8 ⟨rfl, hb⟩
  clear A0r0 A0r2 A0lt BWr0 BWr2 BWlt BX0r0 BX0r2 BX0lt
  have HB_11 := Lib.hid (carry_below HB_10.out (Nat.le_refl _) hb)
  have A0_11 := Lib.hid (A0_10.out.kept hb)
  have W0_11 := Lib.hid (W0_10.out.kept hb)
  have BW_11 := Lib.hid (BW_10.out.kept hb)
  have X0_11 := Lib.hid (X0_10.out.kept hb)
  have BX0_11 := Lib.hid (BX0_10.out.kept hb)
  have X1_11 := Lib.hid (X1_10.out.kept hb)
  have G_11 := Lib.hid (G_10.out.kept hb)
  have BG_11 := Lib.hid (BG_10.out.kept hb)
  have z_11 : w7.heap.size + 1 ≤ w8.heap.size := by have := hb.size; simpa using this
  clear HB_10 A0_10 W0_10 BW_10 X0_10 BX0_10 X1_10 G_10 BG_10
  clear hb HCE
  obtain ⟨A0r0, A0r2⟩ := A0_11.out
  have A0lt : w.heap.size < w8.heap.size := World.block_lt_of_cell? w8 ⟨w.heap.size, 0, none⟩ A0r0
  obtain ⟨BWr0, BWr2⟩ := BW_11.out
  have BWlt : w4.heap.size < w8.heap.size := World.block_lt_of_cell? w8 ⟨w4.heap.size, 0, none⟩ BWr0
  obtain ⟨BX0r0, BX0r2⟩ := BX0_11.out
  have BX0lt : w5.heap.size < w8.heap.size := World.block_lt_of_cell? w8 ⟨w5.heap.size, 0, none⟩ BX0r0
  obtain ⟨BGr0, BGr2⟩ := BG_11.out
  have BGlt : w7.heap.size < w8.heap.size := World.block_lt_of_cell? w8 ⟨w7.heap.size, 0, none⟩ BGr0
  have CT : Hid (∀ W : World, Below w8.heap.size w8 W → Calls Try.prog 18 #[.agg #[.slice pa0 t0.length ca0]] W (ToSubEnd t0 W)) := Lib.hid (fun W hW => toSub_any t0 W _ ((HV0.out.kept HB_11.out).kept hW) hw0)
  have CE : Hid (∀ (W : World) (v : Value), Below w8.heap.size w8 W → BdS W v t0 → Calls Try.prog 20 #[.agg #[.slice u5p t0.length u5c], .agg #[v]] W (EqEnd true W)) := Lib.hid (fun W v hW hv => by
    have h := eqSub_any t0 t0 W _ v (X0_11.out.read.kept hW) hv HL0.out HL0.out
    rwa [eqBs_self] at h)
  have hB0 : Below w8.heap.size w8 w8.drew := (Below.refl _ _).drew
  go_wp2_with fail
  go_region_held3 (fun w' => w'.cell? ⟨w.heap.size, 0, none⟩ = some (.slice pa0 t0.length ca0) ∧ w'.cell? ⟨w5.heap.size, 0, none⟩ = some (.slice u5p t0.length u5c) ∧ Below w8.heap.size w8 w') (first | exact ⟨by assumption, by assumption, by assumption⟩ | go_keep) (first | (go_at_call 18; refine (CT.out _ hB0).mono ?_; rintro e w9a ⟨v6, rfl, ho, hb⟩; have q0 : w9a.cell? ⟨w.heap.size, 0, none⟩ = some (.slice pa0 t0.length ca0) := carry_cell' hb (by assumption); have q1 : w9a.cell? ⟨w5.heap.size, 0, none⟩ = some (.slice u5p t0.length u5c) := carry_cell' hb (by assumption); have hB6 := carry_below hB0 (Nat.le_refl _) hb; have HT6 := Lib.hid ho.read; clear hb ho) | (go_at_call 20; refine (CE.out _ _ hB6 HT6.out).mono ?_; rintro e w9 ⟨rfl, hb⟩; have r0 : w9.cell? ⟨w.heap.size, 0, none⟩ = some (.slice pa0 t0.length ca0) := carry_cell' hb (by assumption); have r1 : w9.cell? ⟨w5.heap.size, 0, none⟩ = some (.slice u5p t0.length u5c) := carry_cell' hb (by assumption); have hB7 := carry_below hB6 (Nat.le_refl _) hb; clear hb))
  clear A0r0 A0r2 A0lt BWr0 BWr2 BWlt BX0r0 BX0r2 BX0lt BGr0 BGr2 BGlt
  have HB_12 := Lib.hid (carry_below HB_11.out (Nat.le_refl _) hB7)
  have A0_12 := Lib.hid (A0_11.out.kept hB7)
  have W0_12 := Lib.hid (W0_11.out.kept hB7)
  have BW_12 := Lib.hid (BW_11.out.kept hB7)
  have X0_12 := Lib.hid (X0_11.out.kept hB7)
  have BX0_12 := Lib.hid (BX0_11.out.kept hB7)
  have X1_12 := Lib.hid (X1_11.out.kept hB7)
  have G_12 := Lib.hid (G_11.out.kept hB7)
  have BG_12 := Lib.hid (BG_11.out.kept hB7)
  have z_12 : w8.heap.size ≤ w9.heap.size := hB7.size
  clear HB_11 A0_11 W0_11 BW_11 X0_11 BX0_11 X1_11 G_11 BG_11
  clear hB7 hB6 hB0 q0 q1 r0 r1 HT6 CT CE
  obtain ⟨A0r0, A0r2⟩ := A0_12.out
  have A0lt : w.heap.size < w9.heap.size := World.block_lt_of_cell? w9 ⟨w.heap.size, 0, none⟩ A0r0
  obtain ⟨BWr0, BWr2⟩ := BW_12.out
  have BWlt : w4.heap.size < w9.heap.size := World.block_lt_of_cell? w9 ⟨w4.heap.size, 0, none⟩ BWr0
  obtain ⟨BX0r0, BX0r2⟩ := BX0_12.out
  have BX0lt : w5.heap.size < w9.heap.size := World.block_lt_of_cell? w9 ⟨w5.heap.size, 0, none⟩ BX0r0
  obtain ⟨BGr0, BGr2⟩ := BG_12.out
  have BGlt : w7.heap.size < w9.heap.size := World.block_lt_of_cell? w9 ⟨w7.heap.size, 0, none⟩ BGr0
  go_wp2_with fail
  refine (toStringS_any _ ss _ (HVS.out.below HB_12.out) (by omega)).mono ?_
  rintro e w10 ⟨u10, rfl, ho, hb⟩
  clear A0r0 A0r2 A0lt BWr0 BWr2 BWlt BX0r0 BX0r2 BX0lt BGr0 BGr2 BGlt
  have HB_13 := Lib.hid (carry_below HB_12.out (Nat.le_refl _) hb)
  have A0_13 := Lib.hid (A0_12.out.kept hb)
  have W0_13 := Lib.hid (W0_12.out.kept hb)
  have BW_13 := Lib.hid (BW_12.out.kept hb)
  have X0_13 := Lib.hid (X0_12.out.kept hb)
  have BX0_13 := Lib.hid (BX0_12.out.kept hb)
  have X1_13 := Lib.hid (X1_12.out.kept hb)
  have G_13 := Lib.hid (G_12.out.kept hb)
  have BG_13 := Lib.hid (BG_12.out.kept hb)
  have z_13 : w9.heap.size ≤ w10.heap.size := hb.size
  clear HB_12 A0_12 W0_12 BW_12 X0_12 BX0_12 X1_12 G_12 BG_12
  have Y_13 := Lib.hid ((OwnS.fresh ho))
  obtain ⟨u10p, u10n, u10c, rfl⟩ := owns_slice Y_13.out
  clear hb ho
  obtain ⟨A0r0, A0r2⟩ := A0_13.out
  have A0lt : w.heap.size < w10.heap.size := World.block_lt_of_cell? w10 ⟨w.heap.size, 0, none⟩ A0r0
  obtain ⟨BWr0, BWr2⟩ := BW_13.out
  have BWlt : w4.heap.size < w10.heap.size := World.block_lt_of_cell? w10 ⟨w4.heap.size, 0, none⟩ BWr0
  obtain ⟨BX0r0, BX0r2⟩ := BX0_13.out
  have BX0lt : w5.heap.size < w10.heap.size := World.block_lt_of_cell? w10 ⟨w5.heap.size, 0, none⟩ BX0r0
  obtain ⟨BGr0, BGr2⟩ := BG_13.out
  have BGlt : w7.heap.size < w10.heap.size := World.block_lt_of_cell? w10 ⟨w7.heap.size, 0, none⟩ BGr0
  have CE := eqStringS_any _ _ ss ss _ X1_13.out.read Y_13.out.read (by omega) (by omega)
  rw [eqSs_self] at CE
  have HCE := Lib.hid CE
  clear CE
  go_wp2_with fail
  refine HCE.out.mono ?_
  rintro e w11 ⟨rfl, hd⟩
  have hb := hd.below w10.heap.size
  clear A0r0 A0r2 A0lt BWr0 BWr2 BWlt BX0r0 BX0r2 BX0lt BGr0 BGr2 BGlt
  have HB_14 := Lib.hid (carry_below HB_13.out (Nat.le_refl _) hb)
  have A0_14 := Lib.hid (A0_13.out.kept hb)
  have W0_14 := Lib.hid (W0_13.out.kept hb)
  have BW_14 := Lib.hid (BW_13.out.kept hb)
  have X0_14 := Lib.hid (X0_13.out.kept hb)
  have BX0_14 := Lib.hid (BX0_13.out.kept hb)
  have X1_14 := Lib.hid (X1_13.out.kept hb)
  have G_14 := Lib.hid (G_13.out.kept hb)
  have BG_14 := Lib.hid (BG_13.out.kept hb)
  have Y_14 := Lib.hid (Y_13.out.kept hb)
  have z_14 : w10.heap.size ≤ w11.heap.size := hb.size
  clear HB_13 A0_13 W0_13 BW_13 X0_13 BX0_13 X1_13 G_13 BG_13 Y_13
  clear hb hd HCE
  obtain ⟨A0r0, A0r2⟩ := A0_14.out
  have A0lt : w.heap.size < w11.heap.size := World.block_lt_of_cell? w11 ⟨w.heap.size, 0, none⟩ A0r0
  obtain ⟨BWr0, BWr2⟩ := BW_14.out
  have BWlt : w4.heap.size < w11.heap.size := World.block_lt_of_cell? w11 ⟨w4.heap.size, 0, none⟩ BWr0
  obtain ⟨BX0r0, BX0r2⟩ := BX0_14.out
  have BX0lt : w5.heap.size < w11.heap.size := World.block_lt_of_cell? w11 ⟨w5.heap.size, 0, none⟩ BX0r0
  obtain ⟨BGr0, BGr2⟩ := BG_14.out
  have BGlt : w7.heap.size < w11.heap.size := World.block_lt_of_cell? w11 ⟨w7.heap.size, 0, none⟩ BGr0
  have CM := markSub_any t0 1 _ _ _ X0_14.out.1 X0_14.out.bound (by omega) (by omega)
  have HCM := Lib.hid CM
  clear CM
  go_wp2_with fail
  refine HCM.out.mono ?_
  rintro e w12 ⟨rfl, ho, hout⟩
  clear A0r0 A0r2 A0lt BWr0 BWr2 BWlt BX0r0 BX0r2 BX0lt BGr0 BGr2 BGlt
  have HB_15 := Lib.hid (below_outside HB_14.out hout (by omega))
  have A0_15 := Lib.hid (A0_14.out.outside hout (by omega))
  have W0_15 := Lib.hid (W0_14.out.outside hout (by omega))
  have BW_15 := Lib.hid (BW_14.out.outside hout (by omega))
  have BX0_15 := Lib.hid (BX0_14.out.outside hout (by omega))
  have X1_15 := Lib.hid (X1_14.out.outside hout (by omega))
  have G_15 := Lib.hid (G_14.out.outside hout (by omega))
  have BG_15 := Lib.hid (BG_14.out.outside hout (by omega))
  have z_15 : w11.heap.size ≤ w12.heap.size := hout.size
  clear HB_14 A0_14 W0_14 BW_14 BX0_14 X1_14 G_14 BG_14
  clear ho hout HCM
  obtain ⟨A0r0, A0r2⟩ := A0_15.out
  have A0lt : w.heap.size < w12.heap.size := World.block_lt_of_cell? w12 ⟨w.heap.size, 0, none⟩ A0r0
  obtain ⟨BWr0, BWr2⟩ := BW_15.out
  have BWlt : w4.heap.size < w12.heap.size := World.block_lt_of_cell? w12 ⟨w4.heap.size, 0, none⟩ BWr0
  obtain ⟨BX0r0, BX0r2⟩ := BX0_15.out
  have BX0lt : w5.heap.size < w12.heap.size := World.block_lt_of_cell? w12 ⟨w5.heap.size, 0, none⟩ BX0r0
  obtain ⟨BGr0, BGr2⟩ := BG_15.out
  have BGlt : w7.heap.size < w12.heap.size := World.block_lt_of_cell? w12 ⟨w7.heap.size, 0, none⟩ BGr0
  have CM := markStrL_any (1 + sumB Bd.n t0) ss _ _ _ _ X1_15.out (by omega) (by omega)
  have HCM := Lib.hid CM
  clear CM
  go_wp2_with fail
  refine HCM.out.mono ?_
  rintro e w13 ⟨rfl, hout⟩
  clear A0r0 A0r2 A0lt BWr0 BWr2 BWlt BX0r0 BX0r2 BX0lt BGr0 BGr2 BGlt
  have HB_16 := Lib.hid (below_outside HB_15.out hout (by omega))
  have A0_16 := Lib.hid (A0_15.out.outside hout (by omega))
  have W0_16 := Lib.hid (W0_15.out.outside hout (by omega))
  have BW_16 := Lib.hid (BW_15.out.outside hout (by omega))
  have BX0_16 := Lib.hid (BX0_15.out.outside hout (by omega))
  have G_16 := Lib.hid (G_15.out.outside hout (by omega))
  have BG_16 := Lib.hid (BG_15.out.outside hout (by omega))
  have z_16 : w12.heap.size ≤ w13.heap.size := hout.size
  clear HB_15 A0_15 W0_15 BW_15 BX0_15 G_15 BG_15
  clear hout HCM
  obtain ⟨A0r0, A0r2⟩ := A0_16.out
  have A0lt : w.heap.size < w13.heap.size := World.block_lt_of_cell? w13 ⟨w.heap.size, 0, none⟩ A0r0
  obtain ⟨BWr0, BWr2⟩ := BW_16.out
  have BWlt : w4.heap.size < w13.heap.size := World.block_lt_of_cell? w13 ⟨w4.heap.size, 0, none⟩ BWr0
  obtain ⟨BX0r0, BX0r2⟩ := BX0_16.out
  have BX0lt : w5.heap.size < w13.heap.size := World.block_lt_of_cell? w13 ⟨w5.heap.size, 0, none⟩ BX0r0
  obtain ⟨BGr0, BGr2⟩ := BG_16.out
  have BGlt : w7.heap.size < w13.heap.size := World.block_lt_of_cell? w13 ⟨w7.heap.size, 0, none⟩ BGr0
  have hk0 : decide (((1 + sumB Bd.n t0 + ss.length : Nat) : Int) < 0) = false := by simp; omega
  generalize 1 + sumB Bd.n t0 + ss.length = kk at *
  have CE := eqSub_any r r _ _ _ G_16.out.read W0_16.out.read HLR.out HLR.out
  rw [eqBs_self] at CE
  have HCE := Lib.hid CE
  clear CE
  go_wp2_with fail
  refine HCE.out.mono ?_
  rintro e w14 ⟨rfl, hb⟩
  clear A0r0 A0r2 A0lt BWr0 BWr2 BWlt BX0r0 BX0r2 BX0lt BGr0 BGr2 BGlt
  have HB_17 := Lib.hid (carry_below HB_16.out (Nat.le_refl _) hb)
  have A0_17 := Lib.hid (A0_16.out.kept hb)
  have W0_17 := Lib.hid (W0_16.out.kept hb)
  have BW_17 := Lib.hid (BW_16.out.kept hb)
  have BX0_17 := Lib.hid (BX0_16.out.kept hb)
  have G_17 := Lib.hid (G_16.out.kept hb)
  have BG_17 := Lib.hid (BG_16.out.kept hb)
  have z_17 : w13.heap.size ≤ w14.heap.size := hb.size
  clear HB_16 A0_16 W0_16 BW_16 BX0_16 G_16 BG_16
  clear hb HCE
  obtain ⟨A0r0, A0r2⟩ := A0_17.out
  have A0lt : w.heap.size < w14.heap.size := World.block_lt_of_cell? w14 ⟨w.heap.size, 0, none⟩ A0r0
  obtain ⟨BWr0, BWr2⟩ := BW_17.out
  have BWlt : w4.heap.size < w14.heap.size := World.block_lt_of_cell? w14 ⟨w4.heap.size, 0, none⟩ BWr0
  obtain ⟨BX0r0, BX0r2⟩ := BX0_17.out
  have BX0lt : w5.heap.size < w14.heap.size := World.block_lt_of_cell? w14 ⟨w5.heap.size, 0, none⟩ BX0r0
  obtain ⟨BGr0, BGr2⟩ := BG_17.out
  have BGlt : w7.heap.size < w14.heap.size := World.block_lt_of_cell? w14 ⟨w7.heap.size, 0, none⟩ BGr0
  have CM := markSub_any r 1 _ _ _ G_17.out.1 G_17.out.bound (by omega) (by omega)
  have HCM := Lib.hid CM
  clear CM
  go_wp2_with fail
  refine HCM.out.mono ?_
  rintro e w15 ⟨rfl, ho, hout⟩
  clear A0r0 A0r2 A0lt BWr0 BWr2 BWlt BX0r0 BX0r2 BX0lt BGr0 BGr2 BGlt
  have HB_18 := Lib.hid (below_outside HB_17.out hout (by omega))
  have A0_18 := Lib.hid (A0_17.out.outside hout (by omega))
  have W0_18 := Lib.hid (W0_17.out.outside hout (by omega))
  have BW_18 := Lib.hid (BW_17.out.outside hout (by omega))
  have BX0_18 := Lib.hid (BX0_17.out.outside hout (by omega))
  have BG_18 := Lib.hid (BG_17.out.outside hout (by omega))
  have z_18 : w14.heap.size ≤ w15.heap.size := hout.size
  clear HB_17 A0_17 W0_17 BW_17 BX0_17 BG_17
  have M_18 := Lib.hid ((show OwnBd w15 _ _ _ _ from ⟨ho, Nat.le_trans G_17.out.2 hout.size⟩))
  clear ho hout HCM
  obtain ⟨A0r0, A0r2⟩ := A0_18.out
  have A0lt : w.heap.size < w15.heap.size := World.block_lt_of_cell? w15 ⟨w.heap.size, 0, none⟩ A0r0
  obtain ⟨BWr0, BWr2⟩ := BW_18.out
  have BWlt : w4.heap.size < w15.heap.size := World.block_lt_of_cell? w15 ⟨w4.heap.size, 0, none⟩ BWr0
  obtain ⟨BX0r0, BX0r2⟩ := BX0_18.out
  have BX0lt : w5.heap.size < w15.heap.size := World.block_lt_of_cell? w15 ⟨w5.heap.size, 0, none⟩ BX0r0
  obtain ⟨BGr0, BGr2⟩ := BG_18.out
  have BGlt : w7.heap.size < w15.heap.size := World.block_lt_of_cell? w15 ⟨w7.heap.size, 0, none⟩ BGr0
  have CH := heldSub_any r 1 _ _ M_18.out.read (Nat.le_refl _) (by omega)
  have HCH := Lib.hid CH
  clear CH
  go_wp2_with fail
  refine HCH.out.mono ?_
  rintro e w16 ⟨rfl, hb⟩
  clear A0r0 A0r2 A0lt BWr0 BWr2 BWlt BX0r0 BX0r2 BX0lt BGr0 BGr2 BGlt
  have HB_19 := Lib.hid (carry_below HB_18.out (Nat.le_refl _) hb)
  have A0_19 := Lib.hid (A0_18.out.kept hb)
  have W0_19 := Lib.hid (W0_18.out.kept hb)
  have BW_19 := Lib.hid (BW_18.out.kept hb)
  have BX0_19 := Lib.hid (BX0_18.out.kept hb)
  have BG_19 := Lib.hid (BG_18.out.kept hb)
  have M_19 := Lib.hid (M_18.out.kept hb)
  have z_19 : w15.heap.size ≤ w16.heap.size := hb.size
  clear HB_18 A0_18 W0_18 BW_18 BX0_18 BG_18 M_18
  clear hb HCH
  obtain ⟨A0r0, A0r2⟩ := A0_19.out
  have A0lt : w.heap.size < w16.heap.size := World.block_lt_of_cell? w16 ⟨w.heap.size, 0, none⟩ A0r0
  obtain ⟨BWr0, BWr2⟩ := BW_19.out
  have BWlt : w4.heap.size < w16.heap.size := World.block_lt_of_cell? w16 ⟨w4.heap.size, 0, none⟩ BWr0
  obtain ⟨BX0r0, BX0r2⟩ := BX0_19.out
  have BX0lt : w5.heap.size < w16.heap.size := World.block_lt_of_cell? w16 ⟨w5.heap.size, 0, none⟩ BX0r0
  obtain ⟨BGr0, BGr2⟩ := BG_19.out
  have BGlt : w7.heap.size < w16.heap.size := World.block_lt_of_cell? w16 ⟨w7.heap.size, 0, none⟩ BGr0
  have hm0' : decide (((1 + sumB Bd.n r : Nat) : Int) < 0) = false := by simp; omega
  go_wp2_with fail
  refine (toSub_any t0 _ _ (HV0.out.kept HB_19.out) hw0).mono ?_
  rintro e w17 ⟨u17, rfl, ho, hb⟩
  obtain ⟨u17p, u17c, rfl⟩ := ho.read.is_slice
  clear A0r0 A0r2 A0lt BWr0 BWr2 BWlt BX0r0 BX0r2 BX0lt BGr0 BGr2 BGlt
  have HB_20 := Lib.hid (carry_below HB_19.out (Nat.le_refl _) hb)
  have A0_20 := Lib.hid (A0_19.out.kept hb)
  have W0_20 := Lib.hid (W0_19.out.kept hb)
  have BW_20 := Lib.hid (BW_19.out.kept hb)
  have BX0_20 := Lib.hid (BX0_19.out.kept hb)
  have BG_20 := Lib.hid (BG_19.out.kept hb)
  have M_20 := Lib.hid (M_19.out.kept hb)
  have z_20 : w16.heap.size ≤ w17.heap.size := hb.size
  clear HB_19 A0_19 W0_19 BW_19 BX0_19 BG_19 M_19
  have P_20 := Lib.hid ((OwnBd.fresh ho))
  clear hb ho
  obtain ⟨A0r0, A0r2⟩ := A0_20.out
  have A0lt : w.heap.size < w17.heap.size := World.block_lt_of_cell? w17 ⟨w.heap.size, 0, none⟩ A0r0
  obtain ⟨BWr0, BWr2⟩ := BW_20.out
  have BWlt : w4.heap.size < w17.heap.size := World.block_lt_of_cell? w17 ⟨w4.heap.size, 0, none⟩ BWr0
  obtain ⟨BX0r0, BX0r2⟩ := BX0_20.out
  have BX0lt : w5.heap.size < w17.heap.size := World.block_lt_of_cell? w17 ⟨w5.heap.size, 0, none⟩ BX0r0
  obtain ⟨BGr0, BGr2⟩ := BG_20.out
  have BGlt : w7.heap.size < w17.heap.size := World.block_lt_of_cell? w17 ⟨w7.heap.size, 0, none⟩ BGr0
  go_wp2_with fail
  refine (toStringS_any _ ss _ (HVS.out.below HB_20.out) (by omega)).mono ?_
  rintro e w18 ⟨u18, rfl, ho, hb⟩
  clear A0r0 A0r2 A0lt BWr0 BWr2 BWlt BX0r0 BX0r2 BX0lt BGr0 BGr2 BGlt
  have HB_21 := Lib.hid (carry_below HB_20.out (Nat.le_refl _) hb)
  have A0_21 := Lib.hid (A0_20.out.kept hb)
  have W0_21 := Lib.hid (W0_20.out.kept hb)
  have BW_21 := Lib.hid (BW_20.out.kept hb)
  have BX0_21 := Lib.hid (BX0_20.out.kept hb)
  have BG_21 := Lib.hid (BG_20.out.kept hb)
  have M_21 := Lib.hid (M_20.out.kept hb)
  have P_21 := Lib.hid (P_20.out.kept hb)
  have z_21 : w17.heap.size ≤ w18.heap.size := hb.size
  clear HB_20 A0_20 W0_20 BW_20 BX0_20 BG_20 M_20 P_20
  have Q_21 := Lib.hid ((OwnS.fresh ho))
  obtain ⟨u18p, u18n, u18c, rfl⟩ := owns_slice Q_21.out
  clear hb ho
  obtain ⟨A0r0, A0r2⟩ := A0_21.out
  have A0lt : w.heap.size < w18.heap.size := World.block_lt_of_cell? w18 ⟨w.heap.size, 0, none⟩ A0r0
  obtain ⟨BWr0, BWr2⟩ := BW_21.out
  have BWlt : w4.heap.size < w18.heap.size := World.block_lt_of_cell? w18 ⟨w4.heap.size, 0, none⟩ BWr0
  obtain ⟨BX0r0, BX0r2⟩ := BX0_21.out
  have BX0lt : w5.heap.size < w18.heap.size := World.block_lt_of_cell? w18 ⟨w5.heap.size, 0, none⟩ BX0r0
  obtain ⟨BGr0, BGr2⟩ := BG_21.out
  have BGlt : w7.heap.size < w18.heap.size := World.block_lt_of_cell? w18 ⟨w7.heap.size, 0, none⟩ BGr0
  go_wp2_with fail
  refine (HCI.out _ _ _ P_21.out.read Q_21.out.read).mono ?_
  rintro e w19 ⟨u19, rfl, ho, hb⟩
  obtain ⟨u19p, u19c, rfl⟩ := ho.read.is_slice
  clear A0r0 A0r2 A0lt BWr0 BWr2 BWlt BX0r0 BX0r2 BX0lt BGr0 BGr2 BGlt
  have HB_22 := Lib.hid (carry_below HB_21.out (Nat.le_refl _) hb)
  have A0_22 := Lib.hid (A0_21.out.kept hb)
  have W0_22 := Lib.hid (W0_21.out.kept hb)
  have BW_22 := Lib.hid (BW_21.out.kept hb)
  have BX0_22 := Lib.hid (BX0_21.out.kept hb)
  have BG_22 := Lib.hid (BG_21.out.kept hb)
  have M_22 := Lib.hid (M_21.out.kept hb)
  have P_22 := Lib.hid (P_21.out.kept hb)
  have Q_22 := Lib.hid (Q_21.out.kept hb)
  have z_22 : w18.heap.size ≤ w19.heap.size := hb.size
  clear HB_21 A0_21 W0_21 BW_21 BX0_21 BG_21 M_21 P_21 Q_21
  have H_22 := Lib.hid ((OwnBd.fresh ho))
  clear hb ho
  obtain ⟨A0r0, A0r2⟩ := A0_22.out
  have A0lt : w.heap.size < w19.heap.size := World.block_lt_of_cell? w19 ⟨w.heap.size, 0, none⟩ A0r0
  obtain ⟨BWr0, BWr2⟩ := BW_22.out
  have BWlt : w4.heap.size < w19.heap.size := World.block_lt_of_cell? w19 ⟨w4.heap.size, 0, none⟩ BWr0
  obtain ⟨BX0r0, BX0r2⟩ := BX0_22.out
  have BX0lt : w5.heap.size < w19.heap.size := World.block_lt_of_cell? w19 ⟨w5.heap.size, 0, none⟩ BX0r0
  obtain ⟨BGr0, BGr2⟩ := BG_22.out
  have BGlt : w7.heap.size < w19.heap.size := World.block_lt_of_cell? w19 ⟨w7.heap.size, 0, none⟩ BGr0
  have HB_23 := Lib.hid (HB_22.out.alloc HB_22.out.size (.cells #[.slice u19p r.length u19c] 29))
  have A0_23 := Lib.hid (A0_22.out.kept ((Below.refl w19.heap.size w19).alloc (Nat.le_refl _) (.cells #[.slice u19p r.length u19c] 29)))
  have W0_23 := Lib.hid (W0_22.out.kept ((Below.refl w19.heap.size w19).alloc (Nat.le_refl _) (.cells #[.slice u19p r.length u19c] 29)))
  have BW_23 := Lib.hid (BW_22.out.kept ((Below.refl w19.heap.size w19).alloc (Nat.le_refl _) (.cells #[.slice u19p r.length u19c] 29)))
  have BX0_23 := Lib.hid (BX0_22.out.kept ((Below.refl w19.heap.size w19).alloc (Nat.le_refl _) (.cells #[.slice u19p r.length u19c] 29)))
  have BG_23 := Lib.hid (BG_22.out.kept ((Below.refl w19.heap.size w19).alloc (Nat.le_refl _) (.cells #[.slice u19p r.length u19c] 29)))
  have M_23 := Lib.hid (M_22.out.kept ((Below.refl w19.heap.size w19).alloc (Nat.le_refl _) (.cells #[.slice u19p r.length u19c] 29)))
  have P_23 := Lib.hid (P_22.out.kept ((Below.refl w19.heap.size w19).alloc (Nat.le_refl _) (.cells #[.slice u19p r.length u19c] 29)))
  have Q_23 := Lib.hid (Q_22.out.kept ((Below.refl w19.heap.size w19).alloc (Nat.le_refl _) (.cells #[.slice u19p r.length u19c] 29)))
  have H_23 := Lib.hid (H_22.out.kept ((Below.refl w19.heap.size w19).alloc (Nat.le_refl _) (.cells #[.slice u19p r.length u19c] 29)))
  clear HB_22 A0_22 W0_22 BW_22 BX0_22 BG_22 M_22 P_22 Q_22 H_22
  have BH_23 := Lib.hid (oner_new w19 (.slice u19p r.length u19c) 29 _ rfl)
  have CE := eqSub_any r r _ _ _ H_23.out.read W0_23.out.read HLR.out HLR.out
  rw [eqBs_self] at CE
  have HCE := Lib.hid CE
  clear CE
  go_wp2_with fail
  refine HCE.out.mono ?_
  rintro e w20 ⟨rfl, hb⟩
  clear A0r0 A0r2 A0lt BWr0 BWr2 BWlt BX0r0 BX0r2 BX0lt BGr0 BGr2 BGlt
  have HB_24 := Lib.hid (carry_below HB_23.out (Nat.le_refl _) hb)
  have A0_24 := Lib.hid (A0_23.out.kept hb)
  have W0_24 := Lib.hid (W0_23.out.kept hb)
  have BW_24 := Lib.hid (BW_23.out.kept hb)
  have BX0_24 := Lib.hid (BX0_23.out.kept hb)
  have BG_24 := Lib.hid (BG_23.out.kept hb)
  have M_24 := Lib.hid (M_23.out.kept hb)
  have H_24 := Lib.hid (H_23.out.kept hb)
  have BH_24 := Lib.hid (BH_23.out.kept hb)
  have z_24 : w19.heap.size + 1 ≤ w20.heap.size := by have := hb.size; simpa using this
  clear HB_23 A0_23 W0_23 BW_23 BX0_23 BG_23 M_23 H_23 BH_23
  clear hb HCE
  obtain ⟨A0r0, A0r2⟩ := A0_24.out
  have A0lt : w.heap.size < w20.heap.size := World.block_lt_of_cell? w20 ⟨w.heap.size, 0, none⟩ A0r0
  obtain ⟨BWr0, BWr2⟩ := BW_24.out
  have BWlt : w4.heap.size < w20.heap.size := World.block_lt_of_cell? w20 ⟨w4.heap.size, 0, none⟩ BWr0
  obtain ⟨BX0r0, BX0r2⟩ := BX0_24.out
  have BX0lt : w5.heap.size < w20.heap.size := World.block_lt_of_cell? w20 ⟨w5.heap.size, 0, none⟩ BX0r0
  obtain ⟨BGr0, BGr2⟩ := BG_24.out
  have BGlt : w7.heap.size < w20.heap.size := World.block_lt_of_cell? w20 ⟨w7.heap.size, 0, none⟩ BGr0
  obtain ⟨BHr0, BHr2⟩ := BH_24.out
  have BHlt : w19.heap.size < w20.heap.size := World.block_lt_of_cell? w20 ⟨w19.heap.size, 0, none⟩ BHr0
  have CH := heldSub_any r 1 _ _ M_24.out.read (Nat.le_refl _) (by omega)
  have HCH := Lib.hid CH
  clear CH
  go_wp2_with fail
  refine HCH.out.mono ?_
  rintro e w21 ⟨rfl, hb⟩
  clear A0r0 A0r2 A0lt BWr0 BWr2 BWlt BX0r0 BX0r2 BX0lt BGr0 BGr2 BGlt BHr0 BHr2 BHlt
  have HB_25 := Lib.hid (carry_below HB_24.out (Nat.le_refl _) hb)
  have A0_25 := Lib.hid (A0_24.out.kept hb)
  have W0_25 := Lib.hid (W0_24.out.kept hb)
  have BW_25 := Lib.hid (BW_24.out.kept hb)
  have BX0_25 := Lib.hid (BX0_24.out.kept hb)
  have BG_25 := Lib.hid (BG_24.out.kept hb)
  have M_25 := Lib.hid (M_24.out.kept hb)
  have H_25 := Lib.hid (H_24.out.kept hb)
  have BH_25 := Lib.hid (BH_24.out.kept hb)
  have z_25 : w20.heap.size ≤ w21.heap.size := hb.size
  clear HB_24 A0_24 W0_24 BW_24 BX0_24 BG_24 M_24 H_24 BH_24
  clear hb HCH
  obtain ⟨A0r0, A0r2⟩ := A0_25.out
  have A0lt : w.heap.size < w21.heap.size := World.block_lt_of_cell? w21 ⟨w.heap.size, 0, none⟩ A0r0
  obtain ⟨BWr0, BWr2⟩ := BW_25.out
  have BWlt : w4.heap.size < w21.heap.size := World.block_lt_of_cell? w21 ⟨w4.heap.size, 0, none⟩ BWr0
  obtain ⟨BX0r0, BX0r2⟩ := BX0_25.out
  have BX0lt : w5.heap.size < w21.heap.size := World.block_lt_of_cell? w21 ⟨w5.heap.size, 0, none⟩ BX0r0
  obtain ⟨BGr0, BGr2⟩ := BG_25.out
  have BGlt : w7.heap.size < w21.heap.size := World.block_lt_of_cell? w21 ⟨w7.heap.size, 0, none⟩ BGr0
  obtain ⟨BHr0, BHr2⟩ := BH_25.out
  have BHlt : w19.heap.size < w21.heap.size := World.block_lt_of_cell? w21 ⟨w19.heap.size, 0, none⟩ BHr0
  go_wp2
  go_ret
  exact ⟨rfl, HB_25.out⟩

theorem walk (t0 : List Bd) (va0 : Value) (ss : List ByteArray) (vs : Value) (w : World) (h0 : BdS w va0 t0) (l0 : limB 9223372036854775807 t0) (h1 : StrsV w vs ss) (l1 : ss.length ≤ 9223372036854775807) (l2 : ∀ i, (ss.getD i ByteArray.empty).size ≤ maxLen) :
    Calls Try.prog 6 #[.agg #[va0], vs] w fun e w' => e = .returned (.bool true) ∧ Below w.heap.size w w' :=
  core t0 va0 ss vs (restr t0 ss) (goodS t0) w h0 l0 h1 l1 l2 (fun h => Nat.le_trans (restr_wt t0 ss) h)
    (fun hw hn W q0 q1 a b => specRestrict_any t0 ss W q0 q1 a b hw hn)
    (fun hw hn W q0 q1 a b => implRestrict_any t0 ss W q0 q1 a b hw hn)

/-! ### THE ROW's STEP: WRITTEN OUT: LEAVE IT -/
set_option maxRecDepth 100000 in
theorem lifted (os : Os) (started : os.Started) (H : Type) (enc : TypeId × Value → H) :
    ReturnsInHanded {} Try.checked os 6 .any (Rows.fnExactRestrictSubstitutionSpec.pre6 enc Try.prog Try.f6 Rows.fnExactRestrictSubstitutionRow.domain false) (Rows.fnExactRestrictSubstitutionSpec.post enc Try.prog Try.f6 false true false false) := by
  refine returnsInHanded_of_change (C := Try.checked) own started (by kernel_rfl) Try.func6
    (ChangeSpec.witness6 (enc := enc) (C := Try.checked) false ⟨#[], #[.agg #[.slice none 0 0], .slice none 0 0], []⟩ 8 (by kernel_rfl) (by kernel_rfl) (by kernel_rfl) (by kernel_rfl)) ?_
  intro W base args ds gs before hval0 hW hcnd _
  have hval : ∀ (j : Nat) t v, Try.f6.params[j]? = some t → args[j]? = some v → Value.okWide Try.prog W .any base t v := hval0
  have hW' := hW
  obtain ⟨p, q, hA0, hV, rfl, hfz, hnd⟩ := hW
  have hA : DataW.TrodAll enc Try.prog W 0 (fun _ => true) true Try.f6.params.toList args.toList ds p := hA0
  rw [Try.params6] at hA hval
  obtain ⟨v0, vs0, d0, ds0, p0, q0, hargs, rfl, rfl, h0, r0⟩ := trodAll_cons hA
  obtain ⟨v1, vs1, d1, ds1, p1, q1, rfl, rfl, rfl, h1, r1⟩ := trodAll_cons r0
  obtain ⟨rfl, rfl, rfl⟩ := trodAll_nil r1
  obtain rfl : args = #[v0, v1] := by cases args; simp_all
  obtain ⟨rfl, rfl⟩ := trodVars_none hV
  have k0 := h0
  have lt0 : ∀ x ∈ p0, x.block < W.heap.size := by obtain ⟨m, hm⟩ := k0; exact DataW.trod_lt m _ _ _ hm
  obtain ⟨va0, l0, rfl, bs0, lim0⟩ := open_sub 9223372036854775807 (by unfold maxLen; omega) (hval 0 24 v0 rfl rfl) h0
  obtain ⟨a1, len1, cap1, rfl⟩ := okWide_slice Try.underlying50 (hval 1 50 v1 rfl rfl)
  have k1 := h1
  have lt1 : ∀ x ∈ p1, x.block < W.heap.size := by obtain ⟨m, hm⟩ := k1; exact DataW.trod_lt m _ _ _ hm
  obtain ⟨z1, w1, wn1, wz1⟩ : ∃ ss, StrsV W (.slice a1 len1 cap1) ss ∧ ss.length ≤ 9223372036854775807 ∧ ∀ i, (ss.getD i ByteArray.empty).size ≤ maxLen := by
    obtain ⟨fuel, hf⟩ := h1
    rcases open_strings Try.underlying50 Try.underlying9 (by kernel_rfl) hf with ⟨hcs, _⟩ | ⟨x, l, c, ss, hcs, _, hl, hm, hz, _, hcell, hwz⟩
    · simp [Value.cells] at hcs
      obtain ⟨rfl, rfl, rfl⟩ := hcs
      exact ⟨[], .inl ⟨_, _, rfl, rfl⟩, by simp, fun i => by simp⟩
    · simp [Value.cells] at hcs
      obtain ⟨rfl, rfl, rfl⟩ := hcs
      have hz' : ss.length = cap1 := by simpa using hz
      refine ⟨ss.take len1, strsV_of_open (by omega) hcell, by unfold maxLen at hm; simp; omega, fun i => ?_⟩
      exact getD_small (fun s hs => hwz s (List.mem_of_mem_take hs)) i
  clear hA0 hval0
  refine (walk l0 va0 z1 (.slice a1 len1 cap1) W bs0 lim0 w1 wn1 wz1).mono fun e W' ⟨he, bel⟩ => ?_
  subst he
  exact ⟨_, rfl, _, _, _, [], _, [], hW', trodAll_mk1 (shut_bool Try.underlying4 _), (trodAll_cons_mk (Below.trod laidOut (by kernel_rfl) (of_decide_eq_true (by kernel_rfl)) k0 bel lt0) (trodAll_cons_mk (Below.trod laidOut (by kernel_rfl) (of_decide_eq_true (by kernel_rfl)) k1 bel lt1) trodAll_mk0)), rfl, bel.frame _, fun h => by cases h⟩


theorem jfPlace : (Rows.fnExactRestrictSubstitutionRow.inPlace == Try.prog.inPlace 6) = true := by kernel_rfl
theorem jfFollow : (Rows.fnExactRestrictSubstitutionRow.unfollowed == Try.prog.unfollowed 6) = true := by kernel_rfl
theorem jfRecurses : (Rows.fnExactRestrictSubstitutionRow.recurses == Try.prog.recurses 6) = true := by kernel_rfl
theorem jfNamed : (Rows.fnExactRestrictSubstitutionRow.named == Try.prog.varsNamed 6) = true := by kernel_rfl
theorem jfKeys : (Rows.fnExactRestrictSubstitutionRow.plainKeys == Try.prog.plainKeys) = true := by kernel_rfl
theorem facts : joinedFacts Try.prog 6 Try.f6 Rows.fnExactRestrictSubstitutionSpec Rows.fnExactRestrictSubstitutionRow = true :=
  jf_of (P := Try.prog) jfLaid jfRowed jfHeard jfEnter jfLifts (by kernel_rfl) (by kernel_rfl) (by kernel_rfl) (by kernel_rfl) (by kernel_rfl) (by kernel_rfl) (by kernel_rfl)
    jfPlace jfFollow jfRecurses jfNamed (by kernel_rfl) (by kernel_rfl) (by kernel_rfl) (by kernel_rfl) (by kernel_rfl) (by kernel_rfl) (by kernel_rfl) (by kernel_rfl) (by kernel_rfl)
    jfKeys (by kernel_rfl) (by kernel_rfl) (by kernel_rfl) (by kernel_rfl) (by kernel_rfl) (by kernel_rfl)

theorem over : Rows.fnExactRestrictSubstitutionRow.holds Try.pinned (OpenSpec.ofChange Rows.fnExactRestrictSubstitutionSpec) :=
  OpenClaim.holds_of_wide 6 Try.f6 rfl rfl rfl rfl rfl rfl rfl ⟨rfl, rfl, rfl, rfl, rfl⟩ rfl rfl rfl rfl rfl (by kernel_rfl) Try.func6 facts
    (of_decide_eq_true (by kernel_rfl)) (by unfold Func.isWrapper; first | (rw [if_pos (by decide +kernel)]; kernel_rfl) | (rw [if_neg (by decide +kernel)]; exact ⟨rfl, rfl⟩))
    (fun os started H enc _ => lifted os started H enc)

/-- ████ THE STATEMENT ████ -/
theorem proved : Rows.FnExactRestrictSubstitutionSaid := over
end Go.Proofs.Ytmfdglbldogfaaa.fnExactRestrictSubstitution
