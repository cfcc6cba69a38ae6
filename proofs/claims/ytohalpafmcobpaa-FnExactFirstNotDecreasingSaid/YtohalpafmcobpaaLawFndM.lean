/- FirstNotDecreasing answers as its model for every ordering and every list of terms: no condition. -/
import Derived.Test.YtohalpafmcobpaaFnG
import Derived.Test.YtohalpafmcobpaaOgO
import Derived.Test.YtohalpafmcobpaaOpenTm
import Derived.Test.YtohalpafmcobpaaJf
import Derived.Deep.RegionWith
import Derived.Deep.Cut
import Derived.OpenShut
import Derived.ShutString
import Derived.ChangeOld
namespace Go.Proofs.Ytohalpafmcobpaa.fnExactFirstNotDecreasing
open Go.ChangeShapes Go.WideShapes Go.ChangeAt Go.RowKit
open Go.ChangeMaps (open_string shut_string)
set_option linter.unusedVariables false

theorem own : ownKnob Try.prog.godebug = none := by kernel_rfl
theorem laidOut : laidOutB Try.prog = true := by kernel_rfl

/-- What a statement leaves that calls the model. -/
def Got (r : Int) (ok : Bool) (w : World) (x y : Value) (w' : World) : Prop := x = .int .i64 r ∧ y = .bool ok ∧ Below w.heap.size w w'

set_option maxRecDepth 100000 in
set_option maxHeartbeats 16000000 in
theorem core (t0 : Od) (sv0 wv0 : Value) (t1 : List Tm) (va1 : Value) (r : Int) (ok : Bool) (w : World) (h0 : OdV w sv0 wv0 t0) (l0 : t0.lim 9223372036854775807) (h1 : TmS w va1 t1) (l1 : limTs 9223372036854775807 t1)
    (hcs : t0.wt + wtTs t1 ≤ 1048576 → ∀ (W : World) (q0s q0w q1 : Value), OdV W q0s q0w t0 → TmS W q1 t1 → Calls Try.prog 9 #[.agg #[q0s, q0w, .int .i64 t0.va], q1] W (Ans (.tuple #[.int .i64 r, .bool ok]) W))
    (hci : t0.wt + wtTs t1 ≤ 1048576 → ∀ (W : World) (q0s q0w q1 : Value), OdV W q0s q0w t0 → TmS W q1 t1 → Calls Try.prog 12 #[.agg #[q0s, q0w, .int .i64 t0.va], q1] W (Ans (.tuple #[.int .i64 r, .bool ok]) W)) :
    Calls Try.prog 3 #[.agg #[sv0, wv0, .int .i64 t0.va], va1] w fun e w' => e = .returned (.bool true) ∧ Below w.heap.size w w' := by
  obtain ⟨sa0, sc0, wa0, wc0, rfl, rfl⟩ := h0.open
  obtain ⟨pa1, ca1, rfl⟩ := h1.is_slice
  have HV0 := Lib.hid h0
  have HLIM0 := Lib.hid l0
  have HV1 := Lib.hid h1
  have HLIM1 := Lib.hid l1
  have HCS0 := Lib.hid hcs
  have HCI0 := Lib.hid hci
  clear hcs hci h0 l0 h1 l1
  have HB_0 := Lib.hid ((Below.refl w.heap.size w).alloc (Nat.le_refl _) (.cells #[.slice sa0 t0.sy.length sc0, .slice wa0 t0.ws.length wc0, .int .i64 t0.va] 25))
  have A0_0 := Lib.hid (thr_new w (.slice sa0 t0.sy.length sc0) (.slice wa0 t0.ws.length wc0) (.int .i64 t0.va) 25 _ rfl)
  go_enter Try.func3, Try.ntmps3
  go_wp2_with fail
  refine (szOd_any t0 _ _ _ 1048576 (HV0.out.kept HB_0.out) HLIM0.out (by omega) (by omega)).mono ?_
  rintro e w1 ⟨rfl, hb⟩
  have HB_1 := Lib.hid (carry_below HB_0.out (Nat.le_refl _) hb)
  have A0_1 := Lib.hid (A0_0.out.kept hb)
  have z_1 : w.heap.size + 1 ≤ w1.heap.size := by have := hb.size; simpa using this
  have z_0 : w.heap.size + 1 ≤ w1.heap.size := z_1
  clear hb
  obtain ⟨A0r0, A0r1, A0r3, A0r2⟩ := A0_1.out
  have A0lt : w.heap.size < w1.heap.size := World.block_lt_of_cell? w1 ⟨w.heap.size, 0, none⟩ A0r0
  rcases szR_cases 1048576 (t0.wt) with ⟨c0a, c0b⟩ | ⟨c0a, c0b⟩
  · rw [c0b]
    clear c0b
    go_wp2
    go_ret
    exact ⟨rfl, HB_1.out⟩
  rw [c0b]
  clear c0b
  have hcl0 : (0 : Int) ≤ 1048576 - ((t0.wt : Nat) : Int) := by omega
  have hcn0 : ¬ 1048576 - ((t0.wt : Nat) : Int) < 0 := by omega
  go_wp2_with fail
  refine (szTs_any t1 _ _ (1048576 - ((t0.wt : Nat) : Int)) (HV1.out.kept HB_1.out) HLIM1.out (by omega) (by omega)).mono ?_
  rintro e w2 ⟨rfl, hb⟩
  clear A0r0 A0r1 A0r3 A0r2 A0lt
  have HB_2 := Lib.hid (carry_below HB_1.out (Nat.le_refl _) hb)
  have A0_2 := Lib.hid (A0_1.out.kept hb)
  have z_2 : w1.heap.size ≤ w2.heap.size := hb.size
  clear HB_1 A0_1
  clear hb
  obtain ⟨A0r0, A0r1, A0r3, A0r2⟩ := A0_2.out
  have A0lt : w.heap.size < w2.heap.size := World.block_lt_of_cell? w2 ⟨w.heap.size, 0, none⟩ A0r0
  rcases szR_cases (1048576 - ((t0.wt : Nat) : Int)) (wtTs t1) with ⟨c1a, c1b⟩ | ⟨c1a, c1b⟩
  · rw [c1b]
    clear c1b
    go_wp2
    go_ret
    exact ⟨rfl, HB_2.out⟩
  rw [c1b]
  clear c1b
  have hcl1 : (0 : Int) ≤ 1048576 - ((t0.wt : Nat) : Int) - ((wtTs t1 : Nat) : Int) := by omega
  have hcn1 : ¬ 1048576 - ((t0.wt : Nat) : Int) - ((wtTs t1 : Nat) : Int) < 0 := by omega
  have hsum : t0.wt + wtTs t1 ≤ 1048576 := by omega
  have hw0 : t0.wt ≤ 1048576 := by omega
  have HL0 := Lib.hid (Od.lim_of_wt t0 1048576 hw0)
  have hw1 : wtTs t1 ≤ 1048576 := by omega
  have HL1 := Lib.hid (limTs_of_wt t1 1048576 hw1)
  have HCS := Lib.hid (HCS0.out hsum)
  have HCI := Lib.hid (HCI0.out hsum)
  go_wp2_with fail
  refine (toOd_any t0 _ _ _ (HV0.out.kept HB_2.out) hw0).mono ?_
  rintro e w3 ⟨u3s, u3w, u3m, rfl, ho, hb⟩
  obtain ⟨u3p, u3c, u3wp, u3wc, rfl, rfl⟩ := ho.read.open
  clear A0r0 A0r1 A0r3 A0r2 A0lt
  have HB_3 := Lib.hid (carry_below HB_2.out (Nat.le_refl _) hb)
  have A0_3 := Lib.hid (A0_2.out.kept hb)
  have z_3 : w2.heap.size ≤ w3.heap.size := hb.size
  clear HB_2 A0_2
  have Q0_3 := Lib.hid (ho.read)
  clear hb ho
  obtain ⟨A0r0, A0r1, A0r3, A0r2⟩ := A0_3.out
  have A0lt : w.heap.size < w3.heap.size := World.block_lt_of_cell? w3 ⟨w.heap.size, 0, none⟩ A0r0
  go_wp2_with fail
  refine (toTs_any t1 _ _ (HV1.out.kept HB_3.out) hw1).mono ?_
  rintro e w4 ⟨u4, rfl, ho, hb⟩
  obtain ⟨u4p, u4c, rfl⟩ := ho.read.is_slice
  clear A0r0 A0r1 A0r3 A0r2 A0lt
  have HB_4 := Lib.hid (carry_below HB_3.out (Nat.le_refl _) hb)
  have A0_4 := Lib.hid (A0_3.out.kept hb)
  have Q0_4 := Lib.hid (Q0_3.out.kept hb)
  have z_4 : w3.heap.size ≤ w4.heap.size := hb.size
  clear HB_3 A0_3 Q0_3
  have Q1_4 := Lib.hid (ho.read)
  clear hb ho
  obtain ⟨A0r0, A0r1, A0r3, A0r2⟩ := A0_4.out
  have A0lt : w.heap.size < w4.heap.size := World.block_lt_of_cell? w4 ⟨w.heap.size, 0, none⟩ A0r0
  go_wp2_with fail
  refine (HCS.out _ _ _ _ Q0_4.out Q1_4.out).mono ?_
  rintro e w5 ⟨rfl, hb⟩
  clear A0r0 A0r1 A0r3 A0r2 A0lt
  have HB_5 := Lib.hid (carry_below HB_4.out (Nat.le_refl _) hb)
  have A0_5 := Lib.hid (A0_4.out.kept hb)
  have Q0_5 := Lib.hid (Q0_4.out.kept hb)
  have Q1_5 := Lib.hid (Q1_4.out.kept hb)
  have z_5 : w4.heap.size ≤ w5.heap.size := hb.size
  clear HB_4 A0_4 Q0_4 Q1_4
  clear hb
  obtain ⟨A0r0, A0r1, A0r3, A0r2⟩ := A0_5.out
  have A0lt : w.heap.size < w5.heap.size := World.block_lt_of_cell? w5 ⟨w.heap.size, 0, none⟩ A0r0
  go_wp2_with fail
  refine (toOd_any t0 _ _ _ (HV0.out.kept HB_5.out) hw0).mono ?_
  rintro e w6 ⟨u6s, u6w, u6m, rfl, ho, hb⟩
  obtain ⟨u6p, u6c, u6wp, u6wc, rfl, rfl⟩ := ho.read.open
  clear A0r0 A0r1 A0r3 A0r2 A0lt
  have HB_6 := Lib.hid (carry_below HB_5.out (Nat.le_refl _) hb)
  have A0_6 := Lib.hid (A0_5.out.kept hb)
  have z_6 : w5.heap.size ≤ w6.heap.size := hb.size
  clear HB_5 A0_5
  have X0_6 := Lib.hid (ho.read)
  clear hb ho
  obtain ⟨A0r0, A0r1, A0r3, A0r2⟩ := A0_6.out
  have A0lt : w.heap.size < w6.heap.size := World.block_lt_of_cell? w6 ⟨w.heap.size, 0, none⟩ A0r0
  have HB_7 := Lib.hid (HB_6.out.alloc HB_6.out.size (.cells #[.slice u6p t0.sy.length u6c, .slice u6wp t0.ws.length u6wc, .int .i64 t0.va] 31))
  have A0_7 := Lib.hid (A0_6.out.kept ((Below.refl w6.heap.size w6).alloc (Nat.le_refl _) (.cells #[.slice u6p t0.sy.length u6c, .slice u6wp t0.ws.length u6wc, .int .i64 t0.va] 31)))
  have X0_7 := Lib.hid (X0_6.out.kept ((Below.refl w6.heap.size w6).alloc (Nat.le_refl _) (.cells #[.slice u6p t0.sy.length u6c, .slice u6wp t0.ws.length u6wc, .int .i64 t0.va] 31)))
  clear HB_6 A0_6 X0_6
  have BX0_7 := Lib.hid (thr_new w6 (.slice u6p t0.sy.length u6c) (.slice u6wp t0.ws.length u6wc) (.int .i64 t0.va) 31 _ rfl)
  go_wp2_with fail
  refine (toTs_any t1 _ _ (HV1.out.kept HB_7.out) hw1).mono ?_
  rintro e w7 ⟨u7, rfl, ho, hb⟩
  obtain ⟨u7p, u7c, rfl⟩ := ho.read.is_slice
  clear A0r0 A0r1 A0r3 A0r2 A0lt
  have HB_8 := Lib.hid (carry_below HB_7.out (Nat.le_refl _) hb)
  have A0_8 := Lib.hid (A0_7.out.kept hb)
  have X0_8 := Lib.hid (X0_7.out.kept hb)
  have BX0_8 := Lib.hid (BX0_7.out.kept hb)
  have z_8 : w6.heap.size + 1 ≤ w7.heap.size := by have := hb.size; simpa using this
  clear HB_7 A0_7 X0_7 BX0_7
  have X1_8 := Lib.hid (ho.read)
  clear hb ho
  obtain ⟨A0r0, A0r1, A0r3, A0r2⟩ := A0_8.out
  have A0lt : w.heap.size < w7.heap.size := World.block_lt_of_cell? w7 ⟨w.heap.size, 0, none⟩ A0r0
  obtain ⟨BX0r0, BX0r1, BX0r3, BX0r2⟩ := BX0_8.out
  have BX0lt : w6.heap.size < w7.heap.size := World.block_lt_of_cell? w7 ⟨w6.heap.size, 0, none⟩ BX0r0
  go_wp2_with fail
  refine (HCI.out _ _ _ _ X0_8.out X1_8.out).mono ?_
  rintro e w8 ⟨rfl, hb⟩
  clear A0r0 A0r1 A0r3 A0r2 A0lt BX0r0 BX0r1 BX0r3 BX0r2 BX0lt
  have HB_9 := Lib.hid (carry_below HB_8.out (Nat.le_refl _) hb)
  have A0_9 := Lib.hid (A0_8.out.kept hb)
  have X0_9 := Lib.hid (X0_8.out.kept hb)
  have BX0_9 := Lib.hid (BX0_8.out.kept hb)
  have X1_9 := Lib.hid (X1_8.out.kept hb)
  have z_9 : w7.heap.size ≤ w8.heap.size := hb.size
  clear HB_8 A0_8 X0_8 BX0_8 X1_8
  clear hb
  obtain ⟨A0r0, A0r1, A0r3, A0r2⟩ := A0_9.out
  have A0lt : w.heap.size < w8.heap.size := World.block_lt_of_cell? w8 ⟨w.heap.size, 0, none⟩ A0r0
  obtain ⟨BX0r0, BX0r1, BX0r3, BX0r2⟩ := BX0_9.out
  have BX0lt : w6.heap.size < w8.heap.size := World.block_lt_of_cell? w8 ⟨w6.heap.size, 0, none⟩ BX0r0
  have CT : Hid (∀ W : World, Below w8.heap.size w8 W → Calls Try.prog 10 #[.agg #[.slice sa0 t0.sy.length sc0, .slice wa0 t0.ws.length wc0, .int .i64 t0.va]] W (ToOEnd t0 W)) := Lib.hid (fun W hW => toOd_any t0 W _ _ (HV0.out.kept ((HB_9.out).trans (hW.mono HB_9.out.size))) hw0)
  have CE : Hid (∀ (W : World) (q0s q0w : Value), Below w8.heap.size w8 W → OdV W q0s q0w t0 → Calls Try.prog 13 #[.agg #[.slice u6p t0.sy.length u6c, .slice u6wp t0.ws.length u6wc, .int .i64 t0.va], .agg #[q0s, q0w, .int .i64 t0.va]] W (Ans (.bool true) W)) := Lib.hid (fun W q0s q0w hW hv => by
    exact eqOd_any t0 W _ _ _ _ (X0_9.out.kept hW) hv hw0)
  have hB0 : Below w8.heap.size w8 w8.drew := (Below.refl _ _).drew
  go_wp2_with fail
  go_region_held3 (fun w' => w'.cell? ⟨w.heap.size, 0, none⟩ = some (.slice sa0 t0.sy.length sc0) ∧ w'.cell? ⟨w.heap.size, 1, none⟩ = some (.slice wa0 t0.ws.length wc0) ∧ w'.cell? ⟨w.heap.size, 2, none⟩ = some (.int .i64 t0.va) ∧ w'.cell? ⟨w6.heap.size, 0, none⟩ = some (.slice u6p t0.sy.length u6c) ∧ w'.cell? ⟨w6.heap.size, 1, none⟩ = some (.slice u6wp t0.ws.length u6wc) ∧ w'.cell? ⟨w6.heap.size, 2, none⟩ = some (.int .i64 t0.va) ∧ Below w8.heap.size w8 w') (first | exact ⟨by assumption, by assumption, by assumption, by assumption, by assumption, by assumption, by assumption⟩ | go_keep) (first | (go_at_call 10; refine (CT.out _ hB0).mono ?_; rintro e w9a ⟨v6s, v6w, v6m, rfl, ho, hb⟩; have q0 : w9a.cell? ⟨w.heap.size, 0, none⟩ = some (.slice sa0 t0.sy.length sc0) := carry_cell' hb (by assumption); have q1 : w9a.cell? ⟨w.heap.size, 1, none⟩ = some (.slice wa0 t0.ws.length wc0) := carry_cell' hb (by assumption); have q2 : w9a.cell? ⟨w.heap.size, 2, none⟩ = some (.int .i64 t0.va) := carry_cell' hb (by assumption); have q3 : w9a.cell? ⟨w6.heap.size, 0, none⟩ = some (.slice u6p t0.sy.length u6c) := carry_cell' hb (by assumption); have q4 : w9a.cell? ⟨w6.heap.size, 1, none⟩ = some (.slice u6wp t0.ws.length u6wc) := carry_cell' hb (by assumption); have q5 : w9a.cell? ⟨w6.heap.size, 2, none⟩ = some (.int .i64 t0.va) := carry_cell' hb (by assumption); have hB6 := carry_below hB0 (Nat.le_refl _) hb; have HT6 := Lib.hid ho.read; clear hb ho) | (go_at_call 13; refine (CE.out _ _ _ hB6 HT6.out).mono ?_; rintro e w9 ⟨rfl, hb⟩; have r0 : w9.cell? ⟨w.heap.size, 0, none⟩ = some (.slice sa0 t0.sy.length sc0) := carry_cell' hb (by assumption); have r1 : w9.cell? ⟨w.heap.size, 1, none⟩ = some (.slice wa0 t0.ws.length wc0) := carry_cell' hb (by assumption); have r2 : w9.cell? ⟨w.heap.size, 2, none⟩ = some (.int .i64 t0.va) := carry_cell' hb (by assumption); have r3 : w9.cell? ⟨w6.heap.size, 0, none⟩ = some (.slice u6p t0.sy.length u6c) := carry_cell' hb (by assumption); have r4 : w9.cell? ⟨w6.heap.size, 1, none⟩ = some (.slice u6wp t0.ws.length u6wc) := carry_cell' hb (by assumption); have r5 : w9.cell? ⟨w6.heap.size, 2, none⟩ = some (.int .i64 t0.va) := carry_cell' hb (by assumption); have hB7 := carry_below hB6 (Nat.le_refl _) hb; clear hb))
  clear A0r0 A0r1 A0r3 A0r2 A0lt BX0r0 BX0r1 BX0r3 BX0r2 BX0lt
  have HB_10 := Lib.hid (carry_below HB_9.out (Nat.le_refl _) hB7)
  have A0_10 := Lib.hid (A0_9.out.kept hB7)
  have X0_10 := Lib.hid (X0_9.out.kept hB7)
  have BX0_10 := Lib.hid (BX0_9.out.kept hB7)
  have X1_10 := Lib.hid (X1_9.out.kept hB7)
  have z_10 : w8.heap.size ≤ w9.heap.size := hB7.size
  clear HB_9 A0_9 X0_9 BX0_9 X1_9
  clear hB7 hB6 hB0 q0 r0 q1 r1 q2 r2 q3 r3 q4 r4 q5 r5 HT6 CT CE
  obtain ⟨A0r0, A0r1, A0r3, A0r2⟩ := A0_10.out
  have A0lt : w.heap.size < w9.heap.size := World.block_lt_of_cell? w9 ⟨w.heap.size, 0, none⟩ A0r0
  obtain ⟨BX0r0, BX0r1, BX0r3, BX0r2⟩ := BX0_10.out
  have BX0lt : w6.heap.size < w9.heap.size := World.block_lt_of_cell? w9 ⟨w6.heap.size, 0, none⟩ BX0r0
  have CT : Hid (∀ W : World, Below w9.heap.size w9 W → Calls Try.prog 11 #[.slice pa1 t1.length ca1] W (ToTsEnd t1 W)) := Lib.hid (fun W hW => toTs_any t1 W _ (HV1.out.kept ((HB_10.out).trans (hW.mono HB_10.out.size))) hw1)
  have CE : Hid (∀ (W : World) (q1 : Value), Below w9.heap.size w9 W → TmS W q1 t1 → Calls Try.prog 14 #[.slice u7p t1.length u7c, q1] W (EqEnd true W)) := Lib.hid (fun W q1 hW hv => by
    have h := eqTs_any t1 t1 W _ _ (X1_10.out.kept hW) hv HL1.out HL1.out
    rwa [eqTs_self] at h)
  go_wp2_with fail
  refine (CT.out _ (Below.refl _ _)).mono ?_
  rintro e w10 ⟨u10, rfl, ho, hb⟩
  obtain ⟨u10p, u10c, rfl⟩ := ho.read.is_slice
  have HCE := Lib.hid (CE.out _ _ hb ho.read)
  clear A0r0 A0r1 A0r3 A0r2 A0lt BX0r0 BX0r1 BX0r3 BX0r2 BX0lt
  have HB_11 := Lib.hid (carry_below HB_10.out (Nat.le_refl _) hb)
  have A0_11 := Lib.hid (A0_10.out.kept hb)
  have X0_11 := Lib.hid (X0_10.out.kept hb)
  have BX0_11 := Lib.hid (BX0_10.out.kept hb)
  have X1_11 := Lib.hid (X1_10.out.kept hb)
  have z_11 : w9.heap.size ≤ w10.heap.size := hb.size
  clear HB_10 A0_10 X0_10 BX0_10 X1_10
  clear hb ho CT CE
  obtain ⟨A0r0, A0r1, A0r3, A0r2⟩ := A0_11.out
  have A0lt : w.heap.size < w10.heap.size := World.block_lt_of_cell? w10 ⟨w.heap.size, 0, none⟩ A0r0
  obtain ⟨BX0r0, BX0r1, BX0r3, BX0r2⟩ := BX0_11.out
  have BX0lt : w6.heap.size < w10.heap.size := World.block_lt_of_cell? w10 ⟨w6.heap.size, 0, none⟩ BX0r0
  go_wp2_with fail
  refine HCE.out.mono ?_
  rintro e w11 ⟨rfl, hb⟩
  clear A0r0 A0r1 A0r3 A0r2 A0lt BX0r0 BX0r1 BX0r3 BX0r2 BX0lt
  have HB_12 := Lib.hid (carry_below HB_11.out (Nat.le_refl _) hb)
  have A0_12 := Lib.hid (A0_11.out.kept hb)
  have X0_12 := Lib.hid (X0_11.out.kept hb)
  have BX0_12 := Lib.hid (BX0_11.out.kept hb)
  have X1_12 := Lib.hid (X1_11.out.kept hb)
  have z_12 : w10.heap.size ≤ w11.heap.size := hb.size
  clear HB_11 A0_11 X0_11 BX0_11 X1_11
  clear hb HCE
  obtain ⟨A0r0, A0r1, A0r3, A0r2⟩ := A0_12.out
  have A0lt : w.heap.size < w11.heap.size := World.block_lt_of_cell? w11 ⟨w.heap.size, 0, none⟩ A0r0
  obtain ⟨BX0r0, BX0r1, BX0r3, BX0r2⟩ := BX0_12.out
  have BX0lt : w6.heap.size < w11.heap.size := World.block_lt_of_cell? w11 ⟨w6.heap.size, 0, none⟩ BX0r0
  go_wp2
  go_ret
  exact ⟨rfl, HB_12.out⟩

theorem walk (t0 : Od) (sv0 wv0 : Value) (t1 : List Tm) (va1 : Value) (w : World) (h0 : OdV w sv0 wv0 t0) (l0 : t0.lim 9223372036854775807) (h1 : TmS w va1 t1) (l1 : limTs 9223372036854775807 t1) :
    Calls Try.prog 3 #[.agg #[sv0, wv0, .int .i64 t0.va], va1] w fun e w' => e = .returned (.bool true) ∧ Below w.heap.size w w' :=
  core t0 sv0 wv0 t1 va1 (t0.fndR t1) (t0.fndOk t1) w h0 l0 h1 l1
    (fun hs W q0s q0w q1 h0 h1 => specFnd_any t0 (by omega) t1 W _ _ _ h0 h1 (by omega))
    (fun hs W q0s q0w q1 h0 h1 => implFnd_any t0 (by omega) t1 W _ _ _ h0 h1 (by omega))

/-! ### THE ROW's STEP: WRITTEN OUT: LEAVE IT -/
set_option maxRecDepth 100000 in
theorem lifted (os : Os) (started : os.Started) (H : Type) (enc : TypeId × Value → H) :
    ReturnsInHanded {} Try.checked os 3 .any (Rows.fnExactFirstNotDecreasingSpec.pre6 enc Try.prog Try.f3 Rows.fnExactFirstNotDecreasingRow.domain false) (Rows.fnExactFirstNotDecreasingSpec.post enc Try.prog Try.f3 false true false false) := by
  refine returnsInHanded_of_change (C := Try.checked) own started (by kernel_rfl) Try.func3
    (ChangeSpec.witness6 (enc := enc) (C := Try.checked) false ⟨#[], #[.agg #[.slice none 0 0, .slice none 0 0, .int .i64 0], .slice none 0 0], []⟩ 8 (by kernel_rfl) (by kernel_rfl) (by kernel_rfl) (by kernel_rfl)) ?_
  intro W base args ds gs before hval0 hW hcnd _
  have hval : ∀ (j : Nat) t v, Try.f3.params[j]? = some t → args[j]? = some v → Value.okWide Try.prog W .any base t v := hval0
  have hW' := hW
  obtain ⟨p, q, hA0, hV, rfl, hfz, hnd⟩ := hW
  have hA : DataW.TrodAll enc Try.prog W 0 (fun _ => true) true Try.f3.params.toList args.toList ds p := hA0
  rw [Try.params3] at hA hval
  obtain ⟨v0, vs0, d0, ds0, p0, q0, hargs, rfl, rfl, h0, r0⟩ := trodAll_cons hA
  obtain ⟨v1, vs1, d1, ds1, p1, q1, rfl, rfl, rfl, h1, r1⟩ := trodAll_cons r0
  obtain ⟨rfl, rfl, rfl⟩ := trodAll_nil r1
  obtain rfl : args = #[v0, v1] := by cases args; simp_all
  obtain ⟨rfl, rfl⟩ := trodVars_none hV
  have k0 := h0
  have lt0 : ∀ x ∈ p0, x.block < W.heap.size := by obtain ⟨m, hm⟩ := k0; exact DataW.trod_lt m _ _ _ hm
  obtain ⟨o0, sv0, wv0, rfl, ov0, lim0⟩ := open_ord (hval 0 25 v0 rfl rfl) h0
  have k1 := h1
  have lt1 : ∀ x ∈ p1, x.block < W.heap.size := by obtain ⟨m, hm⟩ := k1; exact DataW.trod_lt m _ _ _ hm
  obtain ⟨ts1, tv1, lim1⟩ := open_ts (hval 1 26 v1 rfl rfl) h1
  clear hA0 hval0
  refine (walk o0 sv0 wv0 ts1 v1 W ov0 lim0 tv1 lim1).mono fun e W' ⟨he, bel⟩ => ?_
  subst he
  exact ⟨_, rfl, _, _, _, [], _, [], hW', trodAll_mk1 (shut_bool Try.underlying4 _), (trodAll_cons_mk (Below.trod laidOut (by kernel_rfl) (of_decide_eq_true (by kernel_rfl)) k0 bel lt0) (trodAll_cons_mk (Below.trod laidOut (by kernel_rfl) (of_decide_eq_true (by kernel_rfl)) k1 bel lt1) trodAll_mk0)), rfl, bel.frame _, fun h => by cases h⟩


theorem jfPlace : (Rows.fnExactFirstNotDecreasingRow.inPlace == Try.prog.inPlace 3) = true := by kernel_rfl
theorem jfFollow : (Rows.fnExactFirstNotDecreasingRow.unfollowed == Try.prog.unfollowed 3) = true := by kernel_rfl
theorem jfRecurses : (Rows.fnExactFirstNotDecreasingRow.recurses == Try.prog.recurses 3) = true := by kernel_rfl
theorem jfNamed : (Rows.fnExactFirstNotDecreasingRow.named == Try.prog.varsNamed 3) = true := by kernel_rfl
theorem jfKeys : (Rows.fnExactFirstNotDecreasingRow.plainKeys == Try.prog.plainKeys) = true := by kernel_rfl
theorem facts : joinedFacts Try.prog 3 Try.f3 Rows.fnExactFirstNotDecreasingSpec Rows.fnExactFirstNotDecreasingRow = true :=
  jf_of (P := Try.prog) jfLaid jfRowed jfHeard jfEnter jfLifts (by kernel_rfl) (by kernel_rfl) (by kernel_rfl) (by kernel_rfl) (by kernel_rfl) (by kernel_rfl) (by kernel_rfl)
    jfPlace jfFollow jfRecurses jfNamed (by kernel_rfl) (by kernel_rfl) (by kernel_rfl) (by kernel_rfl) (by kernel_rfl) (by kernel_rfl) (by kernel_rfl) (by kernel_rfl) (by kernel_rfl)
    jfKeys (by kernel_rfl) (by kernel_rfl) (by kernel_rfl) (by kernel_rfl) (by kernel_rfl) (by kernel_rfl)

theorem over : Rows.fnExactFirstNotDecreasingRow.holds Try.pinned (OpenSpec.ofChange Rows.fnExactFirstNotDecreasingSpec) :=
  OpenClaim.holds_of_wide 3 Try.f3 rfl rfl rfl rfl rfl rfl rfl ⟨rfl, rfl, rfl, rfl, rfl⟩ rfl rfl rfl rfl rfl (by kernel_rfl) Try.func3 facts
    (of_decide_eq_true (by kernel_rfl)) (by unfold Func.isWrapper; first | (rw [if_pos (by decide +kernel)]; kernel_rfl) | (rw [if_neg (by decide +kernel)]; exact ⟨rfl, rfl⟩))
    (fun os started H enc _ => lifted os started H enc)

/-- ████ THE STATEMENT ████ -/
theorem proved : Rows.FnExactFirstNotDecreasingSaid := over
end Go.Proofs.Ytohalpafmcobpaa.fnExactFirstNotDecreasing
