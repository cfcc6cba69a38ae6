/- TermWeight answers as its model for every ordering and every term: no condition. -/
import Derived.Test.YtnabjnlphelccaaOg
import Derived.Test.YtnabjnlphelccaaOgO
import Derived.Test.YtnabjnlphelccaaSz
import Derived.Test.YtnabjnlphelccaaTo
import Derived.Test.YtnabjnlphelccaaEq
import Derived.Test.YtnabjnlphelccaaOpenTm
import Derived.Test.YtnabjnlphelccaaJf
import Derived.Test.YtnabjnlphelccaaOgT
import Derived.Test.YtnabjnlphelccaaOgW
import Derived.Deep.RegionWith
import Derived.Deep.Cut
import Derived.OpenShut
import Derived.ShutString
import Derived.ChangeOld
namespace Go.Proofs.Ytnabjnlphelccaa.fnExactTermWeight
open Go.ChangeShapes Go.WideShapes Go.ChangeAt Go.RowKit
open Go.ChangeMaps (open_string shut_string)
set_option linter.unusedVariables false

theorem own : ownKnob Try.prog.godebug = none := by kernel_rfl
theorem laidOut : laidOutB Try.prog = true := by kernel_rfl

/-- What a statement leaves that calls the model. -/
def Got (r : Int) (ok : Bool) (w : World) (x y : Value) (w' : World) : Prop := x = .int .i64 r ∧ y = .bool ok ∧ Below w.heap.size w w'

set_option maxRecDepth 100000 in
set_option maxHeartbeats 16000000 in
theorem core (t0 : Od) (sv0 wv0 : Value) (t1 : Tm) (va1 : Value) (r : Int) (ok : Bool) (w : World) (h0 : OdV w sv0 wv0 t0) (l0 : t0.lim 9223372036854775807) (h1 : TmS w va1 t1.args) (l1 : t1.lim 9223372036854775807)
    (hcs : t0.wt + t1.wt ≤ 1048576 → ∀ (W : World) (q0s q0w q1 : Value), OdV W q0s q0w t0 → TmS W q1 t1.args → Calls Try.prog 33 #[.agg #[q0s, q0w, .int .i64 t0.va], .agg #[.string t1.name, q1]] W (Ans (.tuple #[.int .i64 r, .bool ok]) W))
    (hci : t0.wt + t1.wt ≤ 1048576 → ∀ (W : World) (q0s q0w q1 : Value), OdV W q0s q0w t0 → TmS W q1 t1.args → Calls Try.prog 34 #[.agg #[q0s, q0w, .int .i64 t0.va], .agg #[.string t1.name, q1]] W (Ans (.tuple #[.int .i64 r, .bool ok]) W)) :
    Calls Try.prog 6 #[.agg #[sv0, wv0, .int .i64 t0.va], .agg #[.string t1.name, va1]] w fun e w' => e = .returned (.bool true) ∧ Below w.heap.size w w' := by
  obtain ⟨sa0, sc0, wa0, wc0, rfl, rfl⟩ := h0.open
  obtain ⟨pa1, ca1, rfl⟩ := h1.is_slice
  have HV0 := Lib.hid h0
  have HLIM0 := Lib.hid l0
  have HV1 := Lib.hid h1
  have HLIM1 := Lib.hid l1
  have HCS0 := Lib.hid hcs
  have HCI0 := Lib.hid hci
  clear hcs hci h0 l0 h1 l1
  have HB_0 := Lib.hid (((Below.refl w.heap.size w).alloc (Nat.le_refl _) (.cells #[.slice sa0 t0.sy.length sc0, .slice wa0 t0.ws.length wc0, .int .i64 t0.va] 50)).alloc (by simp) (.cells #[.string t1.name, .slice pa1 t1.args.length ca1] 41))
  have A0_0 := Lib.hid ((thr_new w (.slice sa0 t0.sy.length sc0) (.slice wa0 t0.ws.length wc0) (.int .i64 t0.va) 50 _ rfl).alloc (.cells #[.string t1.name, .slice pa1 t1.args.length ca1] 41))
  have A1_0 := Lib.hid (two_new (w.alloc (.cells #[.slice sa0 t0.sy.length sc0, .slice wa0 t0.ws.length wc0, .int .i64 t0.va] 50)) (.string t1.name) (.slice pa1 t1.args.length ca1) 41 (w.heap.size + 1) (by simp))
  go_enter Try.func6, Try.ntmps6
  go_wp2_with fail
  refine (szOd_any t0 _ _ _ 1048576 (HV0.out.kept HB_0.out) HLIM0.out (by omega) (by omega)).mono ?_
  rintro e w1 ⟨rfl, hb⟩
  have HB_1 := Lib.hid (carry_below HB_0.out (Nat.le_refl _) hb)
  have A0_1 := Lib.hid (A0_0.out.kept hb)
  have A1_1 := Lib.hid (A1_0.out.kept hb)
  have z_1 : (w.alloc (.cells #[.slice sa0 t0.sy.length sc0, .slice wa0 t0.ws.length wc0, .int .i64 t0.va] 50)).heap.size + 1 ≤ w1.heap.size := by have := hb.size; simpa using this
  have z_0 : w.heap.size + 2 ≤ w1.heap.size := by have h := z_1; simp only [World.size_alloc] at h; omega
  clear hb
  obtain ⟨A0r0, A0r1, A0r3, A0r2⟩ := A0_1.out
  have A0lt : w.heap.size < w1.heap.size := World.block_lt_of_cell? w1 ⟨w.heap.size, 0, none⟩ A0r0
  obtain ⟨A1r0, A1r1, A1r2⟩ := A1_1.out
  have A1lt : (w.heap.size + 1) < w1.heap.size := World.block_lt_of_cell? w1 ⟨(w.heap.size + 1), 0, none⟩ A1r0
  rcases szR_cases 1048576 (t0.wt) with ⟨c0a, c0b⟩ | ⟨c0a, c0b⟩
  · rw [c0b]
    clear c0b
    go_wp2
    go_ret
    exact ⟨rfl, HB_1.out⟩
  rw [c0b]
  clear c0b
  have hcl0 : (0 : Int) ≤ 1048576 - ((t0.wt : Nat) : Int) := by omega
  have hcn0 : ¬ 1048576 - ((t0.wt : Nat) : Int) < 0 := by omega
  go_wp2_with fail
  refine (szTerm_any t1 _ _ (1048576 - ((t0.wt : Nat) : Int)) (HV1.out.kept HB_1.out) HLIM1.out (by omega) (by omega)).mono ?_
  rintro e w2 ⟨rfl, hb⟩
  clear A0r0 A0r1 A0r3 A0r2 A0lt A1r0 A1r1 A1r2 A1lt
  have HB_2 := Lib.hid (carry_below HB_1.out (Nat.le_refl _) hb)
  have A0_2 := Lib.hid (A0_1.out.kept hb)
  have A1_2 := Lib.hid (A1_1.out.kept hb)
  have z_2 : w1.heap.size ≤ w2.heap.size := hb.size
  clear HB_1 A0_1 A1_1
  clear hb
  obtain ⟨A0r0, A0r1, A0r3, A0r2⟩ := A0_2.out
  have A0lt : w.heap.size < w2.heap.size := World.block_lt_of_cell? w2 ⟨w.heap.size, 0, none⟩ A0r0
  obtain ⟨A1r0, A1r1, A1r2⟩ := A1_2.out
  have A1lt : (w.heap.size + 1) < w2.heap.size := World.block_lt_of_cell? w2 ⟨(w.heap.size + 1), 0, none⟩ A1r0
  rcases szR_cases (1048576 - ((t0.wt : Nat) : Int)) (t1.wt) with ⟨c1a, c1b⟩ | ⟨c1a, c1b⟩
  · rw [c1b]
    clear c1b
    go_wp2
    go_ret
    exact ⟨rfl, HB_2.out⟩
  rw [c1b]
  clear c1b
  have hcl1 : (0 : Int) ≤ 1048576 - ((t0.wt : Nat) : Int) - ((t1.wt : Nat) : Int) := by omega
  have hcn1 : ¬ 1048576 - ((t0.wt : Nat) : Int) - ((t1.wt : Nat) : Int) < 0 := by omega
  have hsum : t0.wt + t1.wt ≤ 1048576 := by omega
  have hw0 : t0.wt ≤ 1048576 := by omega
  have HL0 := Lib.hid (Od.lim_of_wt t0 1048576 hw0)
  have hw1 : t1.wt ≤ 1048576 := by omega
  have HL1 := Lib.hid (Tm.lim_of_wt t1 1048576 hw1)
  have HCS := Lib.hid (HCS0.out hsum)
  have HCI := Lib.hid (HCI0.out hsum)
  go_wp2_with fail
  have CCog : Hid (∀ (W : World), Below w2.heap.size w2 W → Calls Try.prog 30 #[.agg #[.slice sa0 t0.sy.length sc0, .slice wa0 t0.ws.length wc0, .int .i64 t0.va]] W (ToOEnd t0 W)) := Lib.hid (fun W hW => toOd_any t0 W _ _ (HV0.out.kept ((HB_2.out).trans (hW.mono HB_2.out.size))) hw0)
  have CCtm : Hid (∀ (W : World), Below w2.heap.size w2 W → Calls Try.prog 21 #[.agg #[.string t1.name, .slice pa1 t1.args.length ca1]] W (ToEnd t1 W)) := Lib.hid (fun W hW => toTerm_any t1 W _ (HV1.out.kept ((HB_2.out).trans (hW.mono HB_2.out.size))) hw1)
  go_cut [6, 7] from 30 (fun x y wx => Got r ok w2 x y wx)
  case first =>
    have hB : Below w2.heap.size w2 w2.drew := (Below.refl _ _).drew
    go_region_held3 (fun w' => w'.cell? ⟨w.heap.size, 0, none⟩ = some (.slice sa0 t0.sy.length sc0) ∧ w'.cell? ⟨w.heap.size, 1, none⟩ = some (.slice wa0 t0.ws.length wc0) ∧ w'.cell? ⟨w.heap.size, 2, none⟩ = some (.int .i64 t0.va) ∧ w'.cell? ⟨w.heap.size + 1, 0, none⟩ = some (.string t1.name) ∧ w'.cell? ⟨w.heap.size + 1, 1, none⟩ = some (.slice pa1 t1.args.length ca1)) (first | exact ⟨by assumption, by assumption, by assumption, by assumption, by assumption⟩ | go_keep) (first | (go_at_call 30; refine (CCog.out _ hB).mono ?_; rintro e wn ⟨us, uw, um, rfl, ho, hb⟩; obtain ⟨up, uc, uwp, uwc, rfl, rfl⟩ := ho.read.open; have hb' := hb; have q0 : wn.cell? ⟨w.heap.size, 0, none⟩ = some (.slice sa0 t0.sy.length sc0) := carry_cell' hb' (by assumption); have q1 : wn.cell? ⟨w.heap.size, 1, none⟩ = some (.slice wa0 t0.ws.length wc0) := carry_cell' hb' (by assumption); have q2 : wn.cell? ⟨w.heap.size, 2, none⟩ = some (.int .i64 t0.va) := carry_cell' hb' (by assumption); have q3 : wn.cell? ⟨w.heap.size + 1, 0, none⟩ = some (.string t1.name) := carry_cell' hb' (by assumption); have q4 : wn.cell? ⟨w.heap.size + 1, 1, none⟩ = some (.slice pa1 t1.args.length ca1) := carry_cell' hb' (by assumption); (try have HTtm1 := Lib.hid (HTtm1.out.kept hb')); (try have HTtm2 := Lib.hid (HTtm2.out.kept hb')); (try have HTog2 := Lib.hid (HTog1.out.kept hb')); have hB := carry_below hB (Nat.le_refl _) hb'; have HTog1 := Lib.hid ho.read; clear hb ho) | (go_at_call 21; refine (CCtm.out _ hB).mono ?_; rintro e wn ⟨u, rfl, ho, hb⟩; obtain ⟨up, uc, rfl⟩ := ho.read.is_slice; have hb' := hb; have q0 : wn.cell? ⟨w.heap.size, 0, none⟩ = some (.slice sa0 t0.sy.length sc0) := carry_cell' hb' (by assumption); have q1 : wn.cell? ⟨w.heap.size, 1, none⟩ = some (.slice wa0 t0.ws.length wc0) := carry_cell' hb' (by assumption); have q2 : wn.cell? ⟨w.heap.size, 2, none⟩ = some (.int .i64 t0.va) := carry_cell' hb' (by assumption); have q3 : wn.cell? ⟨w.heap.size + 1, 0, none⟩ = some (.string t1.name) := carry_cell' hb' (by assumption); have q4 : wn.cell? ⟨w.heap.size + 1, 1, none⟩ = some (.slice pa1 t1.args.length ca1) := carry_cell' hb' (by assumption); (try have HTog1 := Lib.hid (HTog1.out.kept hb')); (try have HTog2 := Lib.hid (HTog2.out.kept hb')); (try have HTtm2 := Lib.hid (HTtm1.out.kept hb')); have hB := carry_below hB (Nat.le_refl _) hb'; have HTtm1 := Lib.hid ho.read; clear hb ho) | (go_at_call 33; refine (HCS.out _ _ _ _ (by first | exact HTog1.out | exact HTog2.out) (by first | exact HTtm1.out | exact HTtm2.out)).mono ?_; rintro e wn ⟨rfl, hb⟩; have hb' := hb; have q0 : wn.cell? ⟨w.heap.size, 0, none⟩ = some (.slice sa0 t0.sy.length sc0) := carry_cell' hb' (by assumption); have q1 : wn.cell? ⟨w.heap.size, 1, none⟩ = some (.slice wa0 t0.ws.length wc0) := carry_cell' hb' (by assumption); have q2 : wn.cell? ⟨w.heap.size, 2, none⟩ = some (.int .i64 t0.va) := carry_cell' hb' (by assumption); have q3 : wn.cell? ⟨w.heap.size + 1, 0, none⟩ = some (.string t1.name) := carry_cell' hb' (by assumption); have q4 : wn.cell? ⟨w.heap.size + 1, 1, none⟩ = some (.slice pa1 t1.args.length ca1) := carry_cell' hb' (by assumption); have hB := carry_below hB (Nat.le_refl _) hb'; clear hb))
    all_goals (go_wp2_with fail; go_meet)
    all_goals (exact ⟨rfl, rfl, hB⟩)
  case rest =>
    obtain ⟨rfl, rfl, hb⟩ := hcut
    clear CCog CCtm
    obtain ⟨w3, hw3⟩ : ∃ x, x = wc := ⟨_, rfl⟩
    rw [← hw3] at hb ⊢
    clear hw3
    clear A0r0 A0r1 A0r3 A0r2 A0lt A1r0 A1r1 A1r2 A1lt
    have HB_3 := Lib.hid (carry_below HB_2.out (Nat.le_refl _) hb)
    have A0_3 := Lib.hid (A0_2.out.kept hb)
    have A1_3 := Lib.hid (A1_2.out.kept hb)
    have z_3 : w2.heap.size ≤ w3.heap.size := hb.size
    clear HB_2 A0_2 A1_2
    clear hb
    obtain ⟨A0r0, A0r1, A0r3, A0r2⟩ := A0_3.out
    have A0lt : w.heap.size < w3.heap.size := World.block_lt_of_cell? w3 ⟨w.heap.size, 0, none⟩ A0r0
    obtain ⟨A1r0, A1r1, A1r2⟩ := A1_3.out
    have A1lt : (w.heap.size + 1) < w3.heap.size := World.block_lt_of_cell? w3 ⟨(w.heap.size + 1), 0, none⟩ A1r0
    go_wp2_with fail
    refine (toOd_any t0 _ _ _ (HV0.out.kept HB_3.out) hw0).mono ?_
    rintro e w4 ⟨u4s, u4w, u4m, rfl, ho, hb⟩
    obtain ⟨u4p, u4c, u4wp, u4wc, rfl, rfl⟩ := ho.read.open
    clear A0r0 A0r1 A0r3 A0r2 A0lt A1r0 A1r1 A1r2 A1lt
    have HB_4 := Lib.hid (carry_below HB_3.out (Nat.le_refl _) hb)
    have A0_4 := Lib.hid (A0_3.out.kept hb)
    have A1_4 := Lib.hid (A1_3.out.kept hb)
    have z_4 : w3.heap.size ≤ w4.heap.size := hb.size
    clear HB_3 A0_3 A1_3
    have X0_4 := Lib.hid (ho.read)
    clear hb ho
    obtain ⟨A0r0, A0r1, A0r3, A0r2⟩ := A0_4.out
    have A0lt : w.heap.size < w4.heap.size := World.block_lt_of_cell? w4 ⟨w.heap.size, 0, none⟩ A0r0
    obtain ⟨A1r0, A1r1, A1r2⟩ := A1_4.out
    have A1lt : (w.heap.size + 1) < w4.heap.size := World.block_lt_of_cell? w4 ⟨(w.heap.size + 1), 0, none⟩ A1r0
    have HB_5 := Lib.hid (HB_4.out.alloc HB_4.out.size (.cells #[.slice u4p t0.sy.length u4c, .slice u4wp t0.ws.length u4wc, .int .i64 t0.va] 27))
    have A0_5 := Lib.hid (A0_4.out.kept ((Below.refl w4.heap.size w4).alloc (Nat.le_refl _) (.cells #[.slice u4p t0.sy.length u4c, .slice u4wp t0.ws.length u4wc, .int .i64 t0.va] 27)))
    have A1_5 := Lib.hid (A1_4.out.kept ((Below.refl w4.heap.size w4).alloc (Nat.le_refl _) (.cells #[.slice u4p t0.sy.length u4c, .slice u4wp t0.ws.length u4wc, .int .i64 t0.va] 27)))
    have X0_5 := Lib.hid (X0_4.out.kept ((Below.refl w4.heap.size w4).alloc (Nat.le_refl _) (.cells #[.slice u4p t0.sy.length u4c, .slice u4wp t0.ws.length u4wc, .int .i64 t0.va] 27)))
    clear HB_4 A0_4 A1_4 X0_4
    have BX0_5 := Lib.hid (thr_new w4 (.slice u4p t0.sy.length u4c) (.slice u4wp t0.ws.length u4wc) (.int .i64 t0.va) 27 _ rfl)
    go_wp2_with fail
    refine (toTerm_any t1 _ _ (HV1.out.kept HB_5.out) hw1).mono ?_
    rintro e w5 ⟨u5, rfl, ho, hb⟩
    obtain ⟨u5p, u5c, rfl⟩ := ho.read.is_slice
    clear A0r0 A0r1 A0r3 A0r2 A0lt A1r0 A1r1 A1r2 A1lt
    have HB_6 := Lib.hid (carry_below HB_5.out (Nat.le_refl _) hb)
    have A0_6 := Lib.hid (A0_5.out.kept hb)
    have A1_6 := Lib.hid (A1_5.out.kept hb)
    have X0_6 := Lib.hid (X0_5.out.kept hb)
    have BX0_6 := Lib.hid (BX0_5.out.kept hb)
    have z_6 : w4.heap.size + 1 ≤ w5.heap.size := by have := hb.size; simpa using this
    clear HB_5 A0_5 A1_5 X0_5 BX0_5
    have X1_6 := Lib.hid (ho.read)
    clear hb ho
    obtain ⟨A0r0, A0r1, A0r3, A0r2⟩ := A0_6.out
    have A0lt : w.heap.size < w5.heap.size := World.block_lt_of_cell? w5 ⟨w.heap.size, 0, none⟩ A0r0
    obtain ⟨A1r0, A1r1, A1r2⟩ := A1_6.out
    have A1lt : (w.heap.size + 1) < w5.heap.size := World.block_lt_of_cell? w5 ⟨(w.heap.size + 1), 0, none⟩ A1r0
    obtain ⟨BX0r0, BX0r1, BX0r3, BX0r2⟩ := BX0_6.out
    have BX0lt : w4.heap.size < w5.heap.size := World.block_lt_of_cell? w5 ⟨w4.heap.size, 0, none⟩ BX0r0
    have HB_7 := Lib.hid (HB_6.out.alloc HB_6.out.size (.cells #[.string t1.name, .slice u5p t1.args.length u5c] 30))
    have A0_7 := Lib.hid (A0_6.out.kept ((Below.refl w5.heap.size w5).alloc (Nat.le_refl _) (.cells #[.string t1.name, .slice u5p t1.args.length u5c] 30)))
    have A1_7 := Lib.hid (A1_6.out.kept ((Below.refl w5.heap.size w5).alloc (Nat.le_refl _) (.cells #[.string t1.name, .slice u5p t1.args.length u5c] 30)))
    have X0_7 := Lib.hid (X0_6.out.kept ((Below.refl w5.heap.size w5).alloc (Nat.le_refl _) (.cells #[.string t1.name, .slice u5p t1.args.length u5c] 30)))
    have BX0_7 := Lib.hid (BX0_6.out.kept ((Below.refl w5.heap.size w5).alloc (Nat.le_refl _) (.cells #[.string t1.name, .slice u5p t1.args.length u5c] 30)))
    have X1_7 := Lib.hid (X1_6.out.kept ((Below.refl w5.heap.size w5).alloc (Nat.le_refl _) (.cells #[.string t1.name, .slice u5p t1.args.length u5c] 30)))
    clear HB_6 A0_6 A1_6 X0_6 BX0_6 X1_6
    have BX1_7 := Lib.hid (two_new w5 (.string t1.name) (.slice u5p t1.args.length u5c) 30 _ rfl)
    go_wp2_with fail
    refine (HCI.out _ _ _ _ X0_7.out X1_7.out).mono ?_
    rintro e w6 ⟨rfl, hb⟩
    clear A0r0 A0r1 A0r3 A0r2 A0lt A1r0 A1r1 A1r2 A1lt BX0r0 BX0r1 BX0r3 BX0r2 BX0lt
    have HB_8 := Lib.hid (carry_below HB_7.out (Nat.le_refl _) hb)
    have A0_8 := Lib.hid (A0_7.out.kept hb)
    have A1_8 := Lib.hid (A1_7.out.kept hb)
    have X0_8 := Lib.hid (X0_7.out.kept hb)
    have BX0_8 := Lib.hid (BX0_7.out.kept hb)
    have X1_8 := Lib.hid (X1_7.out.kept hb)
    have BX1_8 := Lib.hid (BX1_7.out.kept hb)
    have z_8 : w5.heap.size + 1 ≤ w6.heap.size := by have := hb.size; simpa using this
    clear HB_7 A0_7 A1_7 X0_7 BX0_7 X1_7 BX1_7
    clear hb
    obtain ⟨A0r0, A0r1, A0r3, A0r2⟩ := A0_8.out
    have A0lt : w.heap.size < w6.heap.size := World.block_lt_of_cell? w6 ⟨w.heap.size, 0, none⟩ A0r0
    obtain ⟨A1r0, A1r1, A1r2⟩ := A1_8.out
    have A1lt : (w.heap.size + 1) < w6.heap.size := World.block_lt_of_cell? w6 ⟨(w.heap.size + 1), 0, none⟩ A1r0
    obtain ⟨BX0r0, BX0r1, BX0r3, BX0r2⟩ := BX0_8.out
    have BX0lt : w4.heap.size < w6.heap.size := World.block_lt_of_cell? w6 ⟨w4.heap.size, 0, none⟩ BX0r0
    obtain ⟨BX1r0, BX1r1, BX1r2⟩ := BX1_8.out
    have BX1lt : w5.heap.size < w6.heap.size := World.block_lt_of_cell? w6 ⟨w5.heap.size, 0, none⟩ BX1r0
    have CT : Hid (∀ W : World, Below w6.heap.size w6 W → Calls Try.prog 30 #[.agg #[.slice sa0 t0.sy.length sc0, .slice wa0 t0.ws.length wc0, .int .i64 t0.va]] W (ToOEnd t0 W)) := Lib.hid (fun W hW => toOd_any t0 W _ _ (HV0.out.kept ((HB_8.out).trans (hW.mono HB_8.out.size))) hw0)
    have CE : Hid (∀ (W : World) (q0s q0w : Value), Below w6.heap.size w6 W → OdV W q0s q0w t0 → Calls Try.prog 32 #[.agg #[.slice u4p t0.sy.length u4c, .slice u4wp t0.ws.length u4wc, .int .i64 t0.va], .agg #[q0s, q0w, .int .i64 t0.va]] W (Ans (.bool true) W)) := Lib.hid (fun W q0s q0w hW hv => by
      exact eqOd_any t0 W _ _ _ _ (X0_8.out.kept hW) hv hw0)
    have hB0 : Below w6.heap.size w6 w6.drew := (Below.refl _ _).drew
    go_wp2_with fail
    go_region_held3 (fun w' => w'.cell? ⟨w.heap.size, 0, none⟩ = some (.slice sa0 t0.sy.length sc0) ∧ w'.cell? ⟨w.heap.size, 1, none⟩ = some (.slice wa0 t0.ws.length wc0) ∧ w'.cell? ⟨w.heap.size, 2, none⟩ = some (.int .i64 t0.va) ∧ w'.cell? ⟨w4.heap.size, 0, none⟩ = some (.slice u4p t0.sy.length u4c) ∧ w'.cell? ⟨w4.heap.size, 1, none⟩ = some (.slice u4wp t0.ws.length u4wc) ∧ w'.cell? ⟨w4.heap.size, 2, none⟩ = some (.int .i64 t0.va) ∧ Below w6.heap.size w6 w') (first | exact ⟨by assumption, by assumption, by assumption, by assumption, by assumption, by assumption, by assumption⟩ | go_keep) (first | (go_at_call 30; refine (CT.out _ hB0).mono ?_; rintro e w7a ⟨v6s, v6w, v6m, rfl, ho, hb⟩; have q0 : w7a.cell? ⟨w.heap.size, 0, none⟩ = some (.slice sa0 t0.sy.length sc0) := carry_cell' hb (by assumption); have q1 : w7a.cell? ⟨w.heap.size, 1, none⟩ = some (.slice wa0 t0.ws.length wc0) := carry_cell' hb (by assumption); have q2 : w7a.cell? ⟨w.heap.size, 2, none⟩ = some (.int .i64 t0.va) := carry_cell' hb (by assumption); have q3 : w7a.cell? ⟨w4.heap.size, 0, none⟩ = some (.slice u4p t0.sy.length u4c) := carry_cell' hb (by assumption); have q4 : w7a.cell? ⟨w4.heap.size, 1, none⟩ = some (.slice u4wp t0.ws.length u4wc) := carry_cell' hb (by assumption); have q5 : w7a.cell? ⟨w4.heap.size, 2, none⟩ = some (.int .i64 t0.va) := carry_cell' hb (by assumption); have hB6 := carry_below hB0 (Nat.le_refl _) hb; have HT6 := Lib.hid ho.read; clear hb ho) | (go_at_call 32; refine (CE.out _ _ _ hB6 HT6.out).mono ?_; rintro e w7 ⟨rfl, hb⟩; have r0 : w7.cell? ⟨w.heap.size, 0, none⟩ = some (.slice sa0 t0.sy.length sc0) := carry_cell' hb (by assumption); have r1 : w7.cell? ⟨w.heap.size, 1, none⟩ = some (.slice wa0 t0.ws.length wc0) := carry_cell' hb (by assumption); have r2 : w7.cell? ⟨w.heap.size, 2, none⟩ = some (.int .i64 t0.va) := carry_cell' hb (by assumption); have r3 : w7.cell? ⟨w4.heap.size, 0, none⟩ = some (.slice u4p t0.sy.length u4c) := carry_cell' hb (by assumption); have r4 : w7.cell? ⟨w4.heap.size, 1, none⟩ = some (.slice u4wp t0.ws.length u4wc) := carry_cell' hb (by assumption); have r5 : w7.cell? ⟨w4.heap.size, 2, none⟩ = some (.int .i64 t0.va) := carry_cell' hb (by assumption); have hB7 := carry_below hB6 (Nat.le_refl _) hb; clear hb))
    clear A0r0 A0r1 A0r3 A0r2 A0lt A1r0 A1r1 A1r2 A1lt BX0r0 BX0r1 BX0r3 BX0r2 BX0lt BX1r0 BX1r1 BX1r2 BX1lt
    have HB_9 := Lib.hid (carry_below HB_8.out (Nat.le_refl _) hB7)
    have A0_9 := Lib.hid (A0_8.out.kept hB7)
    have A1_9 := Lib.hid (A1_8.out.kept hB7)
    have X0_9 := Lib.hid (X0_8.out.kept hB7)
    have BX0_9 := Lib.hid (BX0_8.out.kept hB7)
    have X1_9 := Lib.hid (X1_8.out.kept hB7)
    have BX1_9 := Lib.hid (BX1_8.out.kept hB7)
    have z_9 : w6.heap.size ≤ w7.heap.size := hB7.size
    clear HB_8 A0_8 A1_8 X0_8 BX0_8 X1_8 BX1_8
    clear hB7 hB6 hB0 q0 r0 q1 r1 q2 r2 q3 r3 q4 r4 q5 r5 HT6 CT CE
    obtain ⟨A0r0, A0r1, A0r3, A0r2⟩ := A0_9.out
    have A0lt : w.heap.size < w7.heap.size := World.block_lt_of_cell? w7 ⟨w.heap.size, 0, none⟩ A0r0
    obtain ⟨A1r0, A1r1, A1r2⟩ := A1_9.out
    have A1lt : (w.heap.size + 1) < w7.heap.size := World.block_lt_of_cell? w7 ⟨(w.heap.size + 1), 0, none⟩ A1r0
    obtain ⟨BX0r0, BX0r1, BX0r3, BX0r2⟩ := BX0_9.out
    have BX0lt : w4.heap.size < w7.heap.size := World.block_lt_of_cell? w7 ⟨w4.heap.size, 0, none⟩ BX0r0
    obtain ⟨BX1r0, BX1r1, BX1r2⟩ := BX1_9.out
    have BX1lt : w5.heap.size < w7.heap.size := World.block_lt_of_cell? w7 ⟨w5.heap.size, 0, none⟩ BX1r0
    have CT : Hid (∀ W : World, Below w7.heap.size w7 W → Calls Try.prog 21 #[.agg #[.string t1.name, .slice pa1 t1.args.length ca1]] W (ToEnd t1 W)) := Lib.hid (fun W hW => toTerm_any t1 W _ (HV1.out.kept ((HB_9.out).trans (hW.mono HB_9.out.size))) hw1)
    have CE : Hid (∀ (W : World) (q1 : Value), Below w7.heap.size w7 W → TmS W q1 t1.args → Calls Try.prog 24 #[.agg #[.string t1.name, .slice u5p t1.args.length u5c], .agg #[.string t1.name, q1]] W (EqEnd true W)) := Lib.hid (fun W q1 hW hv => by
      have h := eqTerm_any t1 t1 W _ _ (X1_9.out.kept hW) hv HL1.out HL1.out
      rwa [eqT_self] at h)
    have hB0 : Below w7.heap.size w7 w7.drew := (Below.refl _ _).drew
    go_wp2_with fail
    go_region_held3 (fun w' => w'.cell? ⟨w.heap.size + 1, 0, none⟩ = some (.string t1.name) ∧ w'.cell? ⟨w.heap.size + 1, 1, none⟩ = some (.slice pa1 t1.args.length ca1) ∧ w'.cell? ⟨w5.heap.size, 0, none⟩ = some (.string t1.name) ∧ w'.cell? ⟨w5.heap.size, 1, none⟩ = some (.slice u5p t1.args.length u5c) ∧ Below w7.heap.size w7 w') (first | exact ⟨by assumption, by assumption, by assumption, by assumption, by assumption⟩ | go_keep) (first | (go_at_call 21; refine (CT.out _ hB0).mono ?_; rintro e w8a ⟨v6, rfl, ho, hb⟩; have q0 : w8a.cell? ⟨w.heap.size + 1, 0, none⟩ = some (.string t1.name) := carry_cell' hb (by assumption); have q1 : w8a.cell? ⟨w.heap.size + 1, 1, none⟩ = some (.slice pa1 t1.args.length ca1) := carry_cell' hb (by assumption); have q2 : w8a.cell? ⟨w5.heap.size, 0, none⟩ = some (.string t1.name) := carry_cell' hb (by assumption); have q3 : w8a.cell? ⟨w5.heap.size, 1, none⟩ = some (.slice u5p t1.args.length u5c) := carry_cell' hb (by assumption); have hB6 := carry_below hB0 (Nat.le_refl _) hb; have HT6 := Lib.hid ho.read; clear hb ho) | (go_at_call 24; refine (CE.out _ _ hB6 HT6.out).mono ?_; rintro e w8 ⟨rfl, hb⟩; have r0 : w8.cell? ⟨w.heap.size + 1, 0, none⟩ = some (.string t1.name) := carry_cell' hb (by assumption); have r1 : w8.cell? ⟨w.heap.size + 1, 1, none⟩ = some (.slice pa1 t1.args.length ca1) := carry_cell' hb (by assumption); have r2 : w8.cell? ⟨w5.heap.size, 0, none⟩ = some (.string t1.name) := carry_cell' hb (by assumption); have r3 : w8.cell? ⟨w5.heap.size, 1, none⟩ = some (.slice u5p t1.args.length u5c) := carry_cell' hb (by assumption); have hB7 := carry_below hB6 (Nat.le_refl _) hb; clear hb))
    clear A0r0 A0r1 A0r3 A0r2 A0lt A1r0 A1r1 A1r2 A1lt BX0r0 BX0r1 BX0r3 BX0r2 BX0lt BX1r0 BX1r1 BX1r2 BX1lt
    have HB_10 := Lib.hid (carry_below HB_9.out (Nat.le_refl _) hB7)
    have A0_10 := Lib.hid (A0_9.out.kept hB7)
    have A1_10 := Lib.hid (A1_9.out.kept hB7)
    have X0_10 := Lib.hid (X0_9.out.kept hB7)
    have BX0_10 := Lib.hid (BX0_9.out.kept hB7)
    have X1_10 := Lib.hid (X1_9.out.kept hB7)
    have BX1_10 := Lib.hid (BX1_9.out.kept hB7)
    have z_10 : w7.heap.size ≤ w8.heap.size := hB7.size
    clear HB_9 A0_9 A1_9 X0_9 BX0_9 X1_9 BX1_9
    clear hB7 hB6 hB0 q0 r0 q1 r1 q2 r2 q3 r3 HT6 CT CE
    obtain ⟨A0r0, A0r1, A0r3, A0r2⟩ := A0_10.out
    have A0lt : w.heap.size < w8.heap.size := World.block_lt_of_cell? w8 ⟨w.heap.size, 0, none⟩ A0r0
    obtain ⟨A1r0, A1r1, A1r2⟩ := A1_10.out
    have A1lt : (w.heap.size + 1) < w8.heap.size := World.block_lt_of_cell? w8 ⟨(w.heap.size + 1), 0, none⟩ A1r0
    obtain ⟨BX0r0, BX0r1, BX0r3, BX0r2⟩ := BX0_10.out
    have BX0lt : w4.heap.size < w8.heap.size := World.block_lt_of_cell? w8 ⟨w4.heap.size, 0, none⟩ BX0r0
    obtain ⟨BX1r0, BX1r1, BX1r2⟩ := BX1_10.out
    have BX1lt : w5.heap.size < w8.heap.size := World.block_lt_of_cell? w8 ⟨w5.heap.size, 0, none⟩ BX1r0
    go_wp2
    go_ret
    exact ⟨rfl, HB_10.out⟩

theorem walk (t0 : Od) (sv0 wv0 : Value) (t1 : Tm) (va1 : Value) (w : World) (h0 : OdV w sv0 wv0 t0) (l0 : t0.lim 9223372036854775807) (h1 : TmS w va1 t1.args) (l1 : t1.lim 9223372036854775807) :
    Calls Try.prog 6 #[.agg #[sv0, wv0, .int .i64 t0.va], .agg #[.string t1.name, va1]] w fun e w' => e = .returned (.bool true) ∧ Below w.heap.size w w' :=
  core t0 sv0 wv0 t1 va1 (t0.wR t1) (t0.okT t1) w h0 l0 h1 l1
    (fun hs W q0s q0w q1 h0 h1 => specWeight_any t0 (by omega) t1 W _ _ _ h0 h1 (by omega))
    (fun hs W q0s q0w q1 h0 h1 => implWeight_any t0 (by omega) t1 W _ _ _ h0 h1 (by omega))

/-! ### THE ROW's STEP: WRITTEN OUT: LEAVE IT -/
set_option maxRecDepth 100000 in
theorem lifted (os : Os) (started : os.Started) (H : Type) (enc : TypeId × Value → H) :
    ReturnsInHanded {} Try.checked os 6 .any (Rows.fnExactTermWeightSpec.pre6 enc Try.prog Try.f6 Rows.fnExactTermWeightRow.domain false) (Rows.fnExactTermWeightSpec.post enc Try.prog Try.f6 false true false false) := by
  refine returnsInHanded_of_change (C := Try.checked) own started (by kernel_rfl) Try.func6
    (ChangeSpec.witness6 (enc := enc) (C := Try.checked) false ⟨#[], #[.agg #[.slice none 0 0, .slice none 0 0, .int .i64 0], .agg #[.string ByteArray.empty, .slice none 0 0]], []⟩ 8 (by kernel_rfl) (by kernel_rfl) (by kernel_rfl) (by kernel_rfl)) ?_
  intro W base args ds gs before hval0 hW hcnd _
  have hval : ∀ (j : Nat) t v, Try.f6.params[j]? = some t → args[j]? = some v → Value.okWide Try.prog W .any base t v := hval0
  have hW' := hW
  obtain ⟨p, q, hA0, hV, rfl, hfz, hnd⟩ := hW
  have hA : DataW.TrodAll enc Try.prog W 0 (fun _ => true) true Try.f6.params.toList args.toList ds p := hA0
  rw [Try.params6] at hA hval
  obtain ⟨v0, vs0, d0, ds0, p0, q0, hargs, rfl, rfl, h0, r0⟩ := trodAll_cons hA
  obtain ⟨v1, vs1, d1, ds1, p1, q1, rfl, rfl, rfl, h1, r1⟩ := trodAll_cons r0
  obtain ⟨rfl, rfl, rfl⟩ := trodAll_nil r1
  obtain rfl : args = #[v0, v1] := by cases args; simp_all
  obtain ⟨rfl, rfl⟩ := trodVars_none hV
  have k0 := h0
  have lt0 : ∀ x ∈ p0, x.block < W.heap.size := by obtain ⟨m, hm⟩ := k0; exact DataW.trod_lt m _ _ _ hm
  obtain ⟨o0, sv0, wv0, rfl, ov0, lim0⟩ := open_ord (hval 0 50 v0 rfl rfl) h0
  have k1 := h1
  have lt1 : ∀ x ∈ p1, x.block < W.heap.size := by obtain ⟨m, hm⟩ := k1; exact DataW.trod_lt m _ _ _ hm
  obtain ⟨t1, va1, rfl, tm1, lim1⟩ := open_term 9223372036854775807 (by unfold maxLen; omega) (hval 1 41 v1 rfl rfl) h1
  clear hA0 hval0
  refine (walk o0 sv0 wv0 t1 va1 W ov0 lim0 tm1 lim1).mono fun e W' ⟨he, bel⟩ => ?_
  subst he
  exact ⟨_, rfl, _, _, _, [], _, [], hW', trodAll_mk1 (shut_bool Try.underlying4 _), (trodAll_cons_mk (Below.trod laidOut (by kernel_rfl) (of_decide_eq_true (by kernel_rfl)) k0 bel lt0) (trodAll_cons_mk (Below.trod laidOut (by kernel_rfl) (of_decide_eq_true (by kernel_rfl)) k1 bel lt1) trodAll_mk0)), rfl, bel.frame _, fun h => by cases h⟩


theorem jfPlace : (Rows.fnExactTermWeightRow.inPlace == Try.prog.inPlace 6) = true := by kernel_rfl
theorem jfFollow : (Rows.fnExactTermWeightRow.unfollowed == Try.prog.unfollowed 6) = true := by kernel_rfl
theorem jfRecurses : (Rows.fnExactTermWeightRow.recurses == Try.prog.recurses 6) = true := by kernel_rfl
theorem jfNamed : (Rows.fnExactTermWeightRow.named == Try.prog.varsNamed 6) = true := by kernel_rfl
theorem jfKeys : (Rows.fnExactTermWeightRow.plainKeys == Try.prog.plainKeys) = true := by kernel_rfl
theorem facts : joinedFacts Try.prog 6 Try.f6 Rows.fnExactTermWeightSpec Rows.fnExactTermWeightRow = true :=
  jf_of (P := Try.prog) jfLaid jfRowed jfHeard jfEnter jfLifts (by kernel_rfl) (by kernel_rfl) (by kernel_rfl) (by kernel_rfl) (by kernel_rfl) (by kernel_rfl) (by kernel_rfl)
    jfPlace jfFollow jfRecurses jfNamed (by kernel_rfl) (by kernel_rfl) (by kernel_rfl) (by kernel_rfl) (by kernel_rfl) (by kernel_rfl) (by kernel_rfl) (by kernel_rfl) (by kernel_rfl)
    jfKeys (by kernel_rfl) (by kernel_rfl) (by kernel_rfl) (by kernel_rfl) (by kernel_rfl) (by kernel_rfl)

theorem over : Rows.fnExactTermWeightRow.holds Try.pinned (OpenSpec.ofChange Rows.fnExactTermWeightSpec) :=
  OpenClaim.holds_of_wide 6 Try.f6 rfl rfl rfl rfl rfl rfl rfl ⟨rfl, rfl, rfl, rfl, rfl⟩ rfl rfl rfl rfl rfl (by kernel_rfl) Try.func6 facts
    (of_decide_eq_true (by kernel_rfl)) (by unfold Func.isWrapper; first | (rw [if_pos (by decide +kernel)]; kernel_rfl) | (rw [if_neg (by decide +kernel)]; exact ⟨rfl, rfl⟩))
    (fun os started H enc _ => lifted os started H enc)

/-- ████ THE STATEMENT ████ -/
theorem proved : Rows.FnExactTermWeightSaid := over
end Go.Proofs.Ytnabjnlphelccaa.fnExactTermWeight
