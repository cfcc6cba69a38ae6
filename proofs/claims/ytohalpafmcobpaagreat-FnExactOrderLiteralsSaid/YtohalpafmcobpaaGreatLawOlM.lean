/- OrderLiterals answers as its model for every ordering and all literals: no condition. -/
import Derived.Test.YtohalpafmcobpaaGreatOlG
import Derived.Test.YtohalpafmcobpaaGreatOgG
import Derived.Test.YtohalpafmcobpaaGreatOpenL
import Derived.Test.YtohalpafmcobpaaGreatOpenTm
import Derived.Test.YtohalpafmcobpaaGreatJf
import Derived.Deep.RegionWith
import Derived.Deep.Cut
import Derived.OpenShut
import Derived.ShutString
import Derived.ChangeOld
namespace Go.Proofs.YtohalpafmcobpaaGreat.fnExactOrderLiterals
open Go.ChangeShapes Go.WideShapes Go.ChangeAt Go.RowKit
open Go.ChangeMaps (open_string shut_string)
set_option linter.unusedVariables false

theorem own : ownKnob Tryz.prog.godebug = none := by kernel_rfl
theorem laidOut : laidOutB Tryz.prog = true := by kernel_rfl

/-- What a statement leaves that calls the model. -/
def Got (r : Int) (ok : Bool) (w : World) (x y : Value) (w' : World) : Prop := x = .int .i64 r ∧ y = .bool ok ∧ Below w.heap.size w w'

set_option maxRecDepth 100000 in
set_option maxHeartbeats 16000000 in
theorem core (t0 : Od) (sv0 wv0 : Value) (t1 : Lt) (va1 : Value) (t2 : Lt) (va2 : Value) (r : Int) (ok : Bool) (w : World) (h0 : OdV w sv0 wv0 t0) (l0 : t0.lim 9223372036854775807) (h1 : TmS w va1 t1.tm.args) (l1 : t1.tm.lim 9223372036854775807) (h2 : TmS w va2 t2.tm.args) (l2 : t2.tm.lim 9223372036854775807)
    (hcs : t0.wt + t1.tm.wt + t2.tm.wt ≤ 1048576 → ∀ (W : World) (q0s q0w q1 q2 : Value), OdV W q0s q0w t0 → TmS W q1 t1.tm.args → TmS W q2 t2.tm.args → Calls Tryz.prog 9 #[.agg #[q0s, q0w, .int .i64 t0.va], .agg #[.bool t1.var, .string t1.tm.name, q1], .agg #[.bool t2.var, .string t2.tm.name, q2]] W (Ans (.tuple #[.int .i64 r, .bool ok]) W))
    (hci : t0.wt + t1.tm.wt + t2.tm.wt ≤ 1048576 → ∀ (W : World) (q0s q0w q1 q2 : Value), OdV W q0s q0w t0 → TmS W q1 t1.tm.args → TmS W q2 t2.tm.args → Calls Tryz.prog 12 #[.agg #[q0s, q0w, .int .i64 t0.va], .agg #[.bool t1.var, .string t1.tm.name, q1], .agg #[.bool t2.var, .string t2.tm.name, q2]] W (Ans (.tuple #[.int .i64 r, .bool ok]) W)) :
    Calls Tryz.prog 3 #[.agg #[sv0, wv0, .int .i64 t0.va], .agg #[.bool t1.var, .string t1.tm.name, va1], .agg #[.bool t2.var, .string t2.tm.name, va2]] w fun e w' => e = .returned (.bool true) ∧ Below w.heap.size w w' := by
  obtain ⟨sa0, sc0, wa0, wc0, rfl, rfl⟩ := h0.open
  obtain ⟨pa1, ca1, rfl⟩ := h1.is_slice
  obtain ⟨pa2, ca2, rfl⟩ := h2.is_slice
  have HV0 := Lib.hid h0
  have HLIM0 := Lib.hid l0
  have HV1 := Lib.hid h1
  have HLIM1 := Lib.hid l1
  have HV2 := Lib.hid h2
  have HLIM2 := Lib.hid l2
  have HCS0 := Lib.hid hcs
  have HCI0 := Lib.hid hci
  clear hcs hci h0 l0 h1 l1 h2 l2
  have HB_0 := Lib.hid ((((Below.refl w.heap.size w).alloc (Nat.le_refl _) (.cells #[.slice sa0 t0.sy.length sc0, .slice wa0 t0.ws.length wc0, .int .i64 t0.va] 25)).alloc (by simp) (.cells #[.bool t1.var, .string t1.tm.name, .slice pa1 t1.tm.args.length ca1] 30)).alloc (by simp; omega) (.cells #[.bool t2.var, .string t2.tm.name, .slice pa2 t2.tm.args.length ca2] 30))
  have A0_0 := Lib.hid (((thr_new w (.slice sa0 t0.sy.length sc0) (.slice wa0 t0.ws.length wc0) (.int .i64 t0.va) 25 _ rfl).alloc (.cells #[.bool t1.var, .string t1.tm.name, .slice pa1 t1.tm.args.length ca1] 30)).alloc (.cells #[.bool t2.var, .string t2.tm.name, .slice pa2 t2.tm.args.length ca2] 30))
  have A1_0 := Lib.hid ((thr_new (w.alloc (.cells #[.slice sa0 t0.sy.length sc0, .slice wa0 t0.ws.length wc0, .int .i64 t0.va] 25)) (.bool t1.var) (.string t1.tm.name) (.slice pa1 t1.tm.args.length ca1) 30 (w.heap.size + 1) (by simp)).alloc (.cells #[.bool t2.var, .string t2.tm.name, .slice pa2 t2.tm.args.length ca2] 30))
  have A2_0 := Lib.hid (thr_new ((w.alloc (.cells #[.slice sa0 t0.sy.length sc0, .slice wa0 t0.ws.length wc0, .int .i64 t0.va] 25)).alloc (.cells #[.bool t1.var, .string t1.tm.name, .slice pa1 t1.tm.args.length ca1] 30)) (.bool t2.var) (.string t2.tm.name) (.slice pa2 t2.tm.args.length ca2) 30 (w.heap.size + 1 + 1) (by simp))
  go_enter Tryz.func3, Tryz.ntmps3
  go_wp2_with fail
  refine (szOd_any t0 _ _ _ 1048576 (HV0.out.kept HB_0.out) HLIM0.out (by omega) (by omega)).mono ?_
  rintro e w1 ⟨rfl, hb⟩
  have HB_1 := Lib.hid (carry_below HB_0.out (Nat.le_refl _) hb)
  have A0_1 := Lib.hid (A0_0.out.kept hb)
  have A1_1 := Lib.hid (A1_0.out.kept hb)
  have A2_1 := Lib.hid (A2_0.out.kept hb)
  have z_1 : ((w.alloc (.cells #[.slice sa0 t0.sy.length sc0, .slice wa0 t0.ws.length wc0, .int .i64 t0.va] 25)).alloc (.cells #[.bool t1.var, .string t1.tm.name, .slice pa1 t1.tm.args.length ca1] 30)).heap.size + 1 ≤ w1.heap.size := by have := hb.size; simpa using this
  have z_0 : w.heap.size + 3 ≤ w1.heap.size := by have h := z_1; simp only [World.size_alloc] at h; omega
  clear hb
  obtain ⟨A0r0, A0r1, A0r3, A0r2⟩ := A0_1.out
  have A0lt : w.heap.size < w1.heap.size := World.block_lt_of_cell? w1 ⟨w.heap.size, 0, none⟩ A0r0
  obtain ⟨A1r0, A1r1, A1r3, A1r2⟩ := A1_1.out
  have A1lt : (w.heap.size + 1) < w1.heap.size := World.block_lt_of_cell? w1 ⟨(w.heap.size + 1), 0, none⟩ A1r0
  obtain ⟨A2r0, A2r1, A2r3, A2r2⟩ := A2_1.out
  have A2lt : (w.heap.size + 1 + 1) < w1.heap.size := World.block_lt_of_cell? w1 ⟨(w.heap.size + 1 + 1), 0, none⟩ A2r0
  rcases szR_cases 1048576 (t0.wt) with ⟨c0a, c0b⟩ | ⟨c0a, c0b⟩
  · rw [c0b]
    clear c0b
    go_wp2
    go_ret
    exact ⟨rfl, HB_1.out⟩
  rw [c0b]
  clear c0b
  have hcl0 : (0 : Int) ≤ 1048576 - ((t0.wt : Nat) : Int) := by omega
  have hcn0 : ¬ 1048576 - ((t0.wt : Nat) : Int) < 0 := by omega
  go_wp2_with fail
  refine (szLiteral_any t1.var t1.tm _ _ (1048576 - ((t0.wt : Nat) : Int)) (HV1.out.kept HB_1.out) HLIM1.out (by omega) (by omega)).mono ?_
  rintro e w2 ⟨rfl, hb⟩
  clear A0r0 A0r1 A0r3 A0r2 A0lt A1r0 A1r1 A1r3 A1r2 A1lt A2r0 A2r1 A2r3 A2r2 A2lt
  have HB_2 := Lib.hid (carry_below HB_1.out (Nat.le_refl _) hb)
  have A0_2 := Lib.hid (A0_1.out.kept hb)
  have A1_2 := Lib.hid (A1_1.out.kept hb)
  have A2_2 := Lib.hid (A2_1.out.kept hb)
  have z_2 : w1.heap.size ≤ w2.heap.size := hb.size
  clear HB_1 A0_1 A1_1 A2_1
  clear hb
  obtain ⟨A0r0, A0r1, A0r3, A0r2⟩ := A0_2.out
  have A0lt : w.heap.size < w2.heap.size := World.block_lt_of_cell? w2 ⟨w.heap.size, 0, none⟩ A0r0
  obtain ⟨A1r0, A1r1, A1r3, A1r2⟩ := A1_2.out
  have A1lt : (w.heap.size + 1) < w2.heap.size := World.block_lt_of_cell? w2 ⟨(w.heap.size + 1), 0, none⟩ A1r0
  obtain ⟨A2r0, A2r1, A2r3, A2r2⟩ := A2_2.out
  have A2lt : (w.heap.size + 1 + 1) < w2.heap.size := World.block_lt_of_cell? w2 ⟨(w.heap.size + 1 + 1), 0, none⟩ A2r0
  rcases szR_cases (1048576 - ((t0.wt : Nat) : Int)) (t1.tm.wt) with ⟨c1a, c1b⟩ | ⟨c1a, c1b⟩
  · rw [c1b]
    clear c1b
    go_wp2
    go_ret
    exact ⟨rfl, HB_2.out⟩
  rw [c1b]
  clear c1b
  have hcl1 : (0 : Int) ≤ 1048576 - ((t0.wt : Nat) : Int) - ((t1.tm.wt : Nat) : Int) := by omega
  have hcn1 : ¬ 1048576 - ((t0.wt : Nat) : Int) - ((t1.tm.wt : Nat) : Int) < 0 := by omega
  go_wp2_with fail
  refine (szLiteral_any t2.var t2.tm _ _ (1048576 - ((t0.wt : Nat) : Int) - ((t1.tm.wt : Nat) : Int)) (HV2.out.kept HB_2.out) HLIM2.out (by omega) (by omega)).mono ?_
  rintro e w3 ⟨rfl, hb⟩
  clear A0r0 A0r1 A0r3 A0r2 A0lt A1r0 A1r1 A1r3 A1r2 A1lt A2r0 A2r1 A2r3 A2r2 A2lt
  have HB_3 := Lib.hid (carry_below HB_2.out (Nat.le_refl _) hb)
  have A0_3 := Lib.hid (A0_2.out.kept hb)
  have A1_3 := Lib.hid (A1_2.out.kept hb)
  have A2_3 := Lib.hid (A2_2.out.kept hb)
  have z_3 : w2.heap.size ≤ w3.heap.size := hb.size
  clear HB_2 A0_2 A1_2 A2_2
  clear hb
  obtain ⟨A0r0, A0r1, A0r3, A0r2⟩ := A0_3.out
  have A0lt : w.heap.size < w3.heap.size := World.block_lt_of_cell? w3 ⟨w.heap.size, 0, none⟩ A0r0
  obtain ⟨A1r0, A1r1, A1r3, A1r2⟩ := A1_3.out
  have A1lt : (w.heap.size + 1) < w3.heap.size := World.block_lt_of_cell? w3 ⟨(w.heap.size + 1), 0, none⟩ A1r0
  obtain ⟨A2r0, A2r1, A2r3, A2r2⟩ := A2_3.out
  have A2lt : (w.heap.size + 1 + 1) < w3.heap.size := World.block_lt_of_cell? w3 ⟨(w.heap.size + 1 + 1), 0, none⟩ A2r0
  rcases szR_cases (1048576 - ((t0.wt : Nat) : Int) - ((t1.tm.wt : Nat) : Int)) (t2.tm.wt) with ⟨c2a, c2b⟩ | ⟨c2a, c2b⟩
  · rw [c2b]
    clear c2b
    go_wp2
    go_ret
    exact ⟨rfl, HB_3.out⟩
  rw [c2b]
  clear c2b
  have hcl2 : (0 : Int) ≤ 1048576 - ((t0.wt : Nat) : Int) - ((t1.tm.wt : Nat) : Int) - ((t2.tm.wt : Nat) : Int) := by omega
  have hcn2 : ¬ 1048576 - ((t0.wt : Nat) : Int) - ((t1.tm.wt : Nat) : Int) - ((t2.tm.wt : Nat) : Int) < 0 := by omega
  have hsum : t0.wt + t1.tm.wt + t2.tm.wt ≤ 1048576 := by omega
  have hw0 : t0.wt ≤ 1048576 := by omega
  have HL0 := Lib.hid (Od.lim_of_wt t0 1048576 hw0)
  have hw1 : t1.tm.wt ≤ 1048576 := by omega
  have HL1 := Lib.hid (Tm.lim_of_wt t1.tm 1048576 hw1)
  have hw2 : t2.tm.wt ≤ 1048576 := by omega
  have HL2 := Lib.hid (Tm.lim_of_wt t2.tm 1048576 hw2)
  have HCS := Lib.hid (HCS0.out hsum)
  have HCI := Lib.hid (HCI0.out hsum)
  go_wp2_with fail
  have CCog : Hid (∀ (W : World), Below w3.heap.size w3 W → Calls Tryz.prog 10 #[.agg #[.slice sa0 t0.sy.length sc0, .slice wa0 t0.ws.length wc0, .int .i64 t0.va]] W (ToOEnd t0 W)) := Lib.hid (fun W hW => toOd_any t0 W _ _ (HV0.out.kept ((HB_3.out).trans (hW.mono HB_3.out.size))) hw0)
  have CCli : Hid (∀ (x : Lt) (v : Value) (W : World), Below w3.heap.size w3 W → (x = t1 ∧ v = .slice pa1 t1.tm.args.length ca1) ∨ (x = t2 ∧ v = .slice pa2 t2.tm.args.length ca2) → Calls Tryz.prog 11 #[.agg #[.bool x.var, .string x.tm.name, v]] W (ToLitEnd x.var x.tm W)) := Lib.hid (fun x v W hW h => by
    rcases h with ⟨rfl, rfl⟩ | ⟨rfl, rfl⟩
    · exact toLiteral_any _ _ W _ (HV1.out.kept ((HB_3.out).trans (hW.mono HB_3.out.size))) hw1
    · exact toLiteral_any _ _ W _ (HV2.out.kept ((HB_3.out).trans (hW.mono HB_3.out.size))) hw2)
  go_cut [8, 9] from 31 (fun x y wx => Got r ok w3 x y wx)
  case first =>
    have hB : Below w3.heap.size w3 w3.drew := (Below.refl _ _).drew
    go_region_held3 (fun w' => w'.cell? ⟨w.heap.size, 0, none⟩ = some (.slice sa0 t0.sy.length sc0) ∧ w'.cell? ⟨w.heap.size, 1, none⟩ = some (.slice wa0 t0.ws.length wc0) ∧ w'.cell? ⟨w.heap.size, 2, none⟩ = some (.int .i64 t0.va) ∧ w'.cell? ⟨w.heap.size + 1, 0, none⟩ = some (.bool t1.var) ∧ w'.cell? ⟨w.heap.size + 1, 1, none⟩ = some (.string t1.tm.name) ∧ w'.cell? ⟨w.heap.size + 1, 2, none⟩ = some (.slice pa1 t1.tm.args.length ca1) ∧ w'.cell? ⟨w.heap.size + 1 + 1, 0, none⟩ = some (.bool t2.var) ∧ w'.cell? ⟨w.heap.size + 1 + 1, 1, none⟩ = some (.string t2.tm.name) ∧ w'.cell? ⟨w.heap.size + 1 + 1, 2, none⟩ = some (.slice pa2 t2.tm.args.length ca2)) (first | exact ⟨by assumption, by assumption, by assumption, by assumption, by assumption, by assumption, by assumption, by assumption, by assumption⟩ | go_keep) (first | (go_at_call 10; refine (CCog.out _ hB).mono ?_; rintro e wn ⟨us, uw, um, rfl, ho, hb⟩; obtain ⟨up, uc, uwp, uwc, rfl, rfl⟩ := ho.read.open; have hb' := hb; have q0 : wn.cell? ⟨w.heap.size, 0, none⟩ = some (.slice sa0 t0.sy.length sc0) := carry_cell' hb' (by assumption); have q1 : wn.cell? ⟨w.heap.size, 1, none⟩ = some (.slice wa0 t0.ws.length wc0) := carry_cell' hb' (by assumption); have q2 : wn.cell? ⟨w.heap.size, 2, none⟩ = some (.int .i64 t0.va) := carry_cell' hb' (by assumption); have q3 : wn.cell? ⟨w.heap.size + 1, 0, none⟩ = some (.bool t1.var) := carry_cell' hb' (by assumption); have q4 : wn.cell? ⟨w.heap.size + 1, 1, none⟩ = some (.string t1.tm.name) := carry_cell' hb' (by assumption); have q5 : wn.cell? ⟨w.heap.size + 1, 2, none⟩ = some (.slice pa1 t1.tm.args.length ca1) := carry_cell' hb' (by assumption); have q6 : wn.cell? ⟨w.heap.size + 1 + 1, 0, none⟩ = some (.bool t2.var) := carry_cell' hb' (by assumption); have q7 : wn.cell? ⟨w.heap.size + 1 + 1, 1, none⟩ = some (.string t2.tm.name) := carry_cell' hb' (by assumption); have q8 : wn.cell? ⟨w.heap.size + 1 + 1, 2, none⟩ = some (.slice pa2 t2.tm.args.length ca2) := carry_cell' hb' (by assumption); (try have HTli1 := Lib.hid (HTli1.out.kept hb')); (try have HTli2 := Lib.hid (HTli2.out.kept hb')); (try have HTog2 := Lib.hid (HTog1.out.kept hb')); have hB := carry_below hB (Nat.le_refl _) hb'; have HTog1 := Lib.hid ho.read; clear hb ho) | (go_at_call 11; refine (CCli.out _ _ _ hB (by first | exact .inl ⟨rfl, rfl⟩ | exact .inr ⟨rfl, rfl⟩)).mono ?_; rintro e wn ⟨u, rfl, ho, hb⟩; obtain ⟨up, uc, rfl⟩ := ho.read.is_slice; have hb' := hb; have q0 : wn.cell? ⟨w.heap.size, 0, none⟩ = some (.slice sa0 t0.sy.length sc0) := carry_cell' hb' (by assumption); have q1 : wn.cell? ⟨w.heap.size, 1, none⟩ = some (.slice wa0 t0.ws.length wc0) := carry_cell' hb' (by assumption); have q2 : wn.cell? ⟨w.heap.size, 2, none⟩ = some (.int .i64 t0.va) := carry_cell' hb' (by assumption); have q3 : wn.cell? ⟨w.heap.size + 1, 0, none⟩ = some (.bool t1.var) := carry_cell' hb' (by assumption); have q4 : wn.cell? ⟨w.heap.size + 1, 1, none⟩ = some (.string t1.tm.name) := carry_cell' hb' (by assumption); have q5 : wn.cell? ⟨w.heap.size + 1, 2, none⟩ = some (.slice pa1 t1.tm.args.length ca1) := carry_cell' hb' (by assumption); have q6 : wn.cell? ⟨w.heap.size + 1 + 1, 0, none⟩ = some (.bool t2.var) := carry_cell' hb' (by assumption); have q7 : wn.cell? ⟨w.heap.size + 1 + 1, 1, none⟩ = some (.string t2.tm.name) := carry_cell' hb' (by assumption); have q8 : wn.cell? ⟨w.heap.size + 1 + 1, 2, none⟩ = some (.slice pa2 t2.tm.args.length ca2) := carry_cell' hb' (by assumption); (try have HTog1 := Lib.hid (HTog1.out.kept hb')); (try have HTog2 := Lib.hid (HTog2.out.kept hb')); (try have HTli2 := Lib.hid (HTli1.out.kept hb')); have hB := carry_below hB (Nat.le_refl _) hb'; have HTli1 := Lib.hid ho.read; clear hb ho) | (go_at_call 9; refine (HCS.out _ _ _ _ _ (by first | exact HTog1.out | exact HTog2.out) (by first | exact HTli1.out | exact HTli2.out) (by first | exact HTli1.out | exact HTli2.out)).mono ?_; rintro e wn ⟨rfl, hb⟩; have hb' := hb; have q0 : wn.cell? ⟨w.heap.size, 0, none⟩ = some (.slice sa0 t0.sy.length sc0) := carry_cell' hb' (by assumption); have q1 : wn.cell? ⟨w.heap.size, 1, none⟩ = some (.slice wa0 t0.ws.length wc0) := carry_cell' hb' (by assumption); have q2 : wn.cell? ⟨w.heap.size, 2, none⟩ = some (.int .i64 t0.va) := carry_cell' hb' (by assumption); have q3 : wn.cell? ⟨w.heap.size + 1, 0, none⟩ = some (.bool t1.var) := carry_cell' hb' (by assumption); have q4 : wn.cell? ⟨w.heap.size + 1, 1, none⟩ = some (.string t1.tm.name) := carry_cell' hb' (by assumption); have q5 : wn.cell? ⟨w.heap.size + 1, 2, none⟩ = some (.slice pa1 t1.tm.args.length ca1) := carry_cell' hb' (by assumption); have q6 : wn.cell? ⟨w.heap.size + 1 + 1, 0, none⟩ = some (.bool t2.var) := carry_cell' hb' (by assumption); have q7 : wn.cell? ⟨w.heap.size + 1 + 1, 1, none⟩ = some (.string t2.tm.name) := carry_cell' hb' (by assumption); have q8 : wn.cell? ⟨w.heap.size + 1 + 1, 2, none⟩ = some (.slice pa2 t2.tm.args.length ca2) := carry_cell' hb' (by assumption); have hB := carry_below hB (Nat.le_refl _) hb'; clear hb))
    all_goals (go_wp2_with fail; go_meet)
    all_goals (exact ⟨rfl, rfl, hB⟩)
  case rest =>
    obtain ⟨rfl, rfl, hb⟩ := hcut
    clear CCog CCli
    obtain ⟨w4, hw4⟩ : ∃ x, x = wc := ⟨_, rfl⟩
    rw [← hw4] at hb ⊢
    clear hw4
    clear A0r0 A0r1 A0r3 A0r2 A0lt A1r0 A1r1 A1r3 A1r2 A1lt A2r0 A2r1 A2r3 A2r2 A2lt
    have HB_4 := Lib.hid (carry_below HB_3.out (Nat.le_refl _) hb)
    have A0_4 := Lib.hid (A0_3.out.kept hb)
    have A1_4 := Lib.hid (A1_3.out.kept hb)
    have A2_4 := Lib.hid (A2_3.out.kept hb)
    have z_4 : w3.heap.size ≤ w4.heap.size := hb.size
    clear HB_3 A0_3 A1_3 A2_3
    clear hb
    obtain ⟨A0r0, A0r1, A0r3, A0r2⟩ := A0_4.out
    have A0lt : w.heap.size < w4.heap.size := World.block_lt_of_cell? w4 ⟨w.heap.size, 0, none⟩ A0r0
    obtain ⟨A1r0, A1r1, A1r3, A1r2⟩ := A1_4.out
    have A1lt : (w.heap.size + 1) < w4.heap.size := World.block_lt_of_cell? w4 ⟨(w.heap.size + 1), 0, none⟩ A1r0
    obtain ⟨A2r0, A2r1, A2r3, A2r2⟩ := A2_4.out
    have A2lt : (w.heap.size + 1 + 1) < w4.heap.size := World.block_lt_of_cell? w4 ⟨(w.heap.size + 1 + 1), 0, none⟩ A2r0
    go_wp2_with fail
    refine (toOd_any t0 _ _ _ (HV0.out.kept HB_4.out) hw0).mono ?_
    rintro e w5 ⟨u5s, u5w, u5m, rfl, ho, hb⟩
    obtain ⟨u5p, u5c, u5wp, u5wc, rfl, rfl⟩ := ho.read.open
    clear A0r0 A0r1 A0r3 A0r2 A0lt A1r0 A1r1 A1r3 A1r2 A1lt A2r0 A2r1 A2r3 A2r2 A2lt
    have HB_5 := Lib.hid (carry_below HB_4.out (Nat.le_refl _) hb)
    have A0_5 := Lib.hid (A0_4.out.kept hb)
    have A1_5 := Lib.hid (A1_4.out.kept hb)
    have A2_5 := Lib.hid (A2_4.out.kept hb)
    have z_5 : w4.heap.size ≤ w5.heap.size := hb.size
    clear HB_4 A0_4 A1_4 A2_4
    have X0_5 := Lib.hid (ho.read)
    clear hb ho
    obtain ⟨A0r0, A0r1, A0r3, A0r2⟩ := A0_5.out
    have A0lt : w.heap.size < w5.heap.size := World.block_lt_of_cell? w5 ⟨w.heap.size, 0, none⟩ A0r0
    obtain ⟨A1r0, A1r1, A1r3, A1r2⟩ := A1_5.out
    have A1lt : (w.heap.size + 1) < w5.heap.size := World.block_lt_of_cell? w5 ⟨(w.heap.size + 1), 0, none⟩ A1r0
    obtain ⟨A2r0, A2r1, A2r3, A2r2⟩ := A2_5.out
    have A2lt : (w.heap.size + 1 + 1) < w5.heap.size := World.block_lt_of_cell? w5 ⟨(w.heap.size + 1 + 1), 0, none⟩ A2r0
    have HB_6 := Lib.hid (HB_5.out.alloc HB_5.out.size (.cells #[.slice u5p t0.sy.length u5c, .slice u5wp t0.ws.length u5wc, .int .i64 t0.va] 35))
    have A0_6 := Lib.hid (A0_5.out.kept ((Below.refl w5.heap.size w5).alloc (Nat.le_refl _) (.cells #[.slice u5p t0.sy.length u5c, .slice u5wp t0.ws.length u5wc, .int .i64 t0.va] 35)))
    have A1_6 := Lib.hid (A1_5.out.kept ((Below.refl w5.heap.size w5).alloc (Nat.le_refl _) (.cells #[.slice u5p t0.sy.length u5c, .slice u5wp t0.ws.length u5wc, .int .i64 t0.va] 35)))
    have A2_6 := Lib.hid (A2_5.out.kept ((Below.refl w5.heap.size w5).alloc (Nat.le_refl _) (.cells #[.slice u5p t0.sy.length u5c, .slice u5wp t0.ws.length u5wc, .int .i64 t0.va] 35)))
    have X0_6 := Lib.hid (X0_5.out.kept ((Below.refl w5.heap.size w5).alloc (Nat.le_refl _) (.cells #[.slice u5p t0.sy.length u5c, .slice u5wp t0.ws.length u5wc, .int .i64 t0.va] 35)))
    clear HB_5 A0_5 A1_5 A2_5 X0_5
    have BX0_6 := Lib.hid (thr_new w5 (.slice u5p t0.sy.length u5c) (.slice u5wp t0.ws.length u5wc) (.int .i64 t0.va) 35 _ rfl)
    go_wp2_with fail
    refine (toLiteral_any t1.var t1.tm _ _ (HV1.out.kept HB_6.out) hw1).mono ?_
    rintro e w6 ⟨u6, rfl, ho, hb⟩
    obtain ⟨u6p, u6c, rfl⟩ := ho.read.is_slice
    clear A0r0 A0r1 A0r3 A0r2 A0lt A1r0 A1r1 A1r3 A1r2 A1lt A2r0 A2r1 A2r3 A2r2 A2lt
    have HB_7 := Lib.hid (carry_below HB_6.out (Nat.le_refl _) hb)
    have A0_7 := Lib.hid (A0_6.out.kept hb)
    have A1_7 := Lib.hid (A1_6.out.kept hb)
    have A2_7 := Lib.hid (A2_6.out.kept hb)
    have X0_7 := Lib.hid (X0_6.out.kept hb)
    have BX0_7 := Lib.hid (BX0_6.out.kept hb)
    have z_7 : w5.heap.size + 1 ≤ w6.heap.size := by have := hb.size; simpa using this
    clear HB_6 A0_6 A1_6 A2_6 X0_6 BX0_6
    have X1_7 := Lib.hid (ho.read)
    clear hb ho
    obtain ⟨A0r0, A0r1, A0r3, A0r2⟩ := A0_7.out
    have A0lt : w.heap.size < w6.heap.size := World.block_lt_of_cell? w6 ⟨w.heap.size, 0, none⟩ A0r0
    obtain ⟨A1r0, A1r1, A1r3, A1r2⟩ := A1_7.out
    have A1lt : (w.heap.size + 1) < w6.heap.size := World.block_lt_of_cell? w6 ⟨(w.heap.size + 1), 0, none⟩ A1r0
    obtain ⟨A2r0, A2r1, A2r3, A2r2⟩ := A2_7.out
    have A2lt : (w.heap.size + 1 + 1) < w6.heap.size := World.block_lt_of_cell? w6 ⟨(w.heap.size + 1 + 1), 0, none⟩ A2r0
    obtain ⟨BX0r0, BX0r1, BX0r3, BX0r2⟩ := BX0_7.out
    have BX0lt : w5.heap.size < w6.heap.size := World.block_lt_of_cell? w6 ⟨w5.heap.size, 0, none⟩ BX0r0
    have HB_8 := Lib.hid (HB_7.out.alloc HB_7.out.size (.cells #[.bool t1.var, .string t1.tm.name, .slice u6p t1.tm.args.length u6c] 41))
    have A0_8 := Lib.hid (A0_7.out.kept ((Below.refl w6.heap.size w6).alloc (Nat.le_refl _) (.cells #[.bool t1.var, .string t1.tm.name, .slice u6p t1.tm.args.length u6c] 41)))
    have A1_8 := Lib.hid (A1_7.out.kept ((Below.refl w6.heap.size w6).alloc (Nat.le_refl _) (.cells #[.bool t1.var, .string t1.tm.name, .slice u6p t1.tm.args.length u6c] 41)))
    have A2_8 := Lib.hid (A2_7.out.kept ((Below.refl w6.heap.size w6).alloc (Nat.le_refl _) (.cells #[.bool t1.var, .string t1.tm.name, .slice u6p t1.tm.args.length u6c] 41)))
    have X0_8 := Lib.hid (X0_7.out.kept ((Below.refl w6.heap.size w6).alloc (Nat.le_refl _) (.cells #[.bool t1.var, .string t1.tm.name, .slice u6p t1.tm.args.length u6c] 41)))
    have BX0_8 := Lib.hid (BX0_7.out.kept ((Below.refl w6.heap.size w6).alloc (Nat.le_refl _) (.cells #[.bool t1.var, .string t1.tm.name, .slice u6p t1.tm.args.length u6c] 41)))
    have X1_8 := Lib.hid (X1_7.out.kept ((Below.refl w6.heap.size w6).alloc (Nat.le_refl _) (.cells #[.bool t1.var, .string t1.tm.name, .slice u6p t1.tm.args.length u6c] 41)))
    clear HB_7 A0_7 A1_7 A2_7 X0_7 BX0_7 X1_7
    have BX1_8 := Lib.hid (thr_new w6 (.bool t1.var) (.string t1.tm.name) (.slice u6p t1.tm.args.length u6c) 41 _ rfl)
    go_wp2_with fail
    refine (toLiteral_any t2.var t2.tm _ _ (HV2.out.kept HB_8.out) hw2).mono ?_
    rintro e w7 ⟨u7, rfl, ho, hb⟩
    obtain ⟨u7p, u7c, rfl⟩ := ho.read.is_slice
    clear A0r0 A0r1 A0r3 A0r2 A0lt A1r0 A1r1 A1r3 A1r2 A1lt A2r0 A2r1 A2r3 A2r2 A2lt BX0r0 BX0r1 BX0r3 BX0r2 BX0lt
    have HB_9 := Lib.hid (carry_below HB_8.out (Nat.le_refl _) hb)
    have A0_9 := Lib.hid (A0_8.out.kept hb)
    have A1_9 := Lib.hid (A1_8.out.kept hb)
    have A2_9 := Lib.hid (A2_8.out.kept hb)
    have X0_9 := Lib.hid (X0_8.out.kept hb)
    have BX0_9 := Lib.hid (BX0_8.out.kept hb)
    have X1_9 := Lib.hid (X1_8.out.kept hb)
    have BX1_9 := Lib.hid (BX1_8.out.kept hb)
    have z_9 : w6.heap.size + 1 ≤ w7.heap.size := by have := hb.size; simpa using this
    clear HB_8 A0_8 A1_8 A2_8 X0_8 BX0_8 X1_8 BX1_8
    have X2_9 := Lib.hid (ho.read)
    clear hb ho
    obtain ⟨A0r0, A0r1, A0r3, A0r2⟩ := A0_9.out
    have A0lt : w.heap.size < w7.heap.size := World.block_lt_of_cell? w7 ⟨w.heap.size, 0, none⟩ A0r0
    obtain ⟨A1r0, A1r1, A1r3, A1r2⟩ := A1_9.out
    have A1lt : (w.heap.size + 1) < w7.heap.size := World.block_lt_of_cell? w7 ⟨(w.heap.size + 1), 0, none⟩ A1r0
    obtain ⟨A2r0, A2r1, A2r3, A2r2⟩ := A2_9.out
    have A2lt : (w.heap.size + 1 + 1) < w7.heap.size := World.block_lt_of_cell? w7 ⟨(w.heap.size + 1 + 1), 0, none⟩ A2r0
    obtain ⟨BX0r0, BX0r1, BX0r3, BX0r2⟩ := BX0_9.out
    have BX0lt : w5.heap.size < w7.heap.size := World.block_lt_of_cell? w7 ⟨w5.heap.size, 0, none⟩ BX0r0
    obtain ⟨BX1r0, BX1r1, BX1r3, BX1r2⟩ := BX1_9.out
    have BX1lt : w6.heap.size < w7.heap.size := World.block_lt_of_cell? w7 ⟨w6.heap.size, 0, none⟩ BX1r0
    have HB_10 := Lib.hid (HB_9.out.alloc HB_9.out.size (.cells #[.bool t2.var, .string t2.tm.name, .slice u7p t2.tm.args.length u7c] 41))
    have A0_10 := Lib.hid (A0_9.out.kept ((Below.refl w7.heap.size w7).alloc (Nat.le_refl _) (.cells #[.bool t2.var, .string t2.tm.name, .slice u7p t2.tm.args.length u7c] 41)))
    have A1_10 := Lib.hid (A1_9.out.kept ((Below.refl w7.heap.size w7).alloc (Nat.le_refl _) (.cells #[.bool t2.var, .string t2.tm.name, .slice u7p t2.tm.args.length u7c] 41)))
    have A2_10 := Lib.hid (A2_9.out.kept ((Below.refl w7.heap.size w7).alloc (Nat.le_refl _) (.cells #[.bool t2.var, .string t2.tm.name, .slice u7p t2.tm.args.length u7c] 41)))
    have X0_10 := Lib.hid (X0_9.out.kept ((Below.refl w7.heap.size w7).alloc (Nat.le_refl _) (.cells #[.bool t2.var, .string t2.tm.name, .slice u7p t2.tm.args.length u7c] 41)))
    have BX0_10 := Lib.hid (BX0_9.out.kept ((Below.refl w7.heap.size w7).alloc (Nat.le_refl _) (.cells #[.bool t2.var, .string t2.tm.name, .slice u7p t2.tm.args.length u7c] 41)))
    have X1_10 := Lib.hid (X1_9.out.kept ((Below.refl w7.heap.size w7).alloc (Nat.le_refl _) (.cells #[.bool t2.var, .string t2.tm.name, .slice u7p t2.tm.args.length u7c] 41)))
    have BX1_10 := Lib.hid (BX1_9.out.kept ((Below.refl w7.heap.size w7).alloc (Nat.le_refl _) (.cells #[.bool t2.var, .string t2.tm.name, .slice u7p t2.tm.args.length u7c] 41)))
    have X2_10 := Lib.hid (X2_9.out.kept ((Below.refl w7.heap.size w7).alloc (Nat.le_refl _) (.cells #[.bool t2.var, .string t2.tm.name, .slice u7p t2.tm.args.length u7c] 41)))
    clear HB_9 A0_9 A1_9 A2_9 X0_9 BX0_9 X1_9 BX1_9 X2_9
    have BX2_10 := Lib.hid (thr_new w7 (.bool t2.var) (.string t2.tm.name) (.slice u7p t2.tm.args.length u7c) 41 _ rfl)
    go_wp2_with fail
    refine (HCI.out _ _ _ _ _ X0_10.out X1_10.out X2_10.out).mono ?_
    rintro e w8 ⟨rfl, hb⟩
    clear A0r0 A0r1 A0r3 A0r2 A0lt A1r0 A1r1 A1r3 A1r2 A1lt A2r0 A2r1 A2r3 A2r2 A2lt BX0r0 BX0r1 BX0r3 BX0r2 BX0lt BX1r0 BX1r1 BX1r3 BX1r2 BX1lt
    have HB_11 := Lib.hid (carry_below HB_10.out (Nat.le_refl _) hb)
    have A0_11 := Lib.hid (A0_10.out.kept hb)
    have A1_11 := Lib.hid (A1_10.out.kept hb)
    have A2_11 := Lib.hid (A2_10.out.kept hb)
    have X0_11 := Lib.hid (X0_10.out.kept hb)
    have BX0_11 := Lib.hid (BX0_10.out.kept hb)
    have X1_11 := Lib.hid (X1_10.out.kept hb)
    have BX1_11 := Lib.hid (BX1_10.out.kept hb)
    have X2_11 := Lib.hid (X2_10.out.kept hb)
    have BX2_11 := Lib.hid (BX2_10.out.kept hb)
    have z_11 : w7.heap.size + 1 ≤ w8.heap.size := by have := hb.size; simpa using this
    clear HB_10 A0_10 A1_10 A2_10 X0_10 BX0_10 X1_10 BX1_10 X2_10 BX2_10
    clear hb
    obtain ⟨A0r0, A0r1, A0r3, A0r2⟩ := A0_11.out
    have A0lt : w.heap.size < w8.heap.size := World.block_lt_of_cell? w8 ⟨w.heap.size, 0, none⟩ A0r0
    obtain ⟨A1r0, A1r1, A1r3, A1r2⟩ := A1_11.out
    have A1lt : (w.heap.size + 1) < w8.heap.size := World.block_lt_of_cell? w8 ⟨(w.heap.size + 1), 0, none⟩ A1r0
    obtain ⟨A2r0, A2r1, A2r3, A2r2⟩ := A2_11.out
    have A2lt : (w.heap.size + 1 + 1) < w8.heap.size := World.block_lt_of_cell? w8 ⟨(w.heap.size + 1 + 1), 0, none⟩ A2r0
    obtain ⟨BX0r0, BX0r1, BX0r3, BX0r2⟩ := BX0_11.out
    have BX0lt : w5.heap.size < w8.heap.size := World.block_lt_of_cell? w8 ⟨w5.heap.size, 0, none⟩ BX0r0
    obtain ⟨BX1r0, BX1r1, BX1r3, BX1r2⟩ := BX1_11.out
    have BX1lt : w6.heap.size < w8.heap.size := World.block_lt_of_cell? w8 ⟨w6.heap.size, 0, none⟩ BX1r0
    obtain ⟨BX2r0, BX2r1, BX2r3, BX2r2⟩ := BX2_11.out
    have BX2lt : w7.heap.size < w8.heap.size := World.block_lt_of_cell? w8 ⟨w7.heap.size, 0, none⟩ BX2r0
    have CT : Hid (∀ W : World, Below w8.heap.size w8 W → Calls Tryz.prog 10 #[.agg #[.slice sa0 t0.sy.length sc0, .slice wa0 t0.ws.length wc0, .int .i64 t0.va]] W (ToOEnd t0 W)) := Lib.hid (fun W hW => toOd_any t0 W _ _ (HV0.out.kept ((HB_11.out).trans (hW.mono HB_11.out.size))) hw0)
    have CE : Hid (∀ (W : World) (q0s q0w : Value), Below w8.heap.size w8 W → OdV W q0s q0w t0 → Calls Tryz.prog 13 #[.agg #[.slice u5p t0.sy.length u5c, .slice u5wp t0.ws.length u5wc, .int .i64 t0.va], .agg #[q0s, q0w, .int .i64 t0.va]] W (Ans (.bool true) W)) := Lib.hid (fun W q0s q0w hW hv => by
      exact eqOd_any t0 W _ _ _ _ (X0_11.out.kept hW) hv hw0)
    have hB0 : Below w8.heap.size w8 w8.drew := (Below.refl _ _).drew
    go_wp2_with fail
    go_region_held3 (fun w' => w'.cell? ⟨w.heap.size, 0, none⟩ = some (.slice sa0 t0.sy.length sc0) ∧ w'.cell? ⟨w.heap.size, 1, none⟩ = some (.slice wa0 t0.ws.length wc0) ∧ w'.cell? ⟨w.heap.size, 2, none⟩ = some (.int .i64 t0.va) ∧ w'.cell? ⟨w5.heap.size, 0, none⟩ = some (.slice u5p t0.sy.length u5c) ∧ w'.cell? ⟨w5.heap.size, 1, none⟩ = some (.slice u5wp t0.ws.length u5wc) ∧ w'.cell? ⟨w5.heap.size, 2, none⟩ = some (.int .i64 t0.va) ∧ Below w8.heap.size w8 w') (first | exact ⟨by assumption, by assumption, by assumption, by assumption, by assumption, by assumption, by assumption⟩ | go_keep) (first | (go_at_call 10; refine (CT.out _ hB0).mono ?_; rintro e w9a ⟨v6s, v6w, v6m, rfl, ho, hb⟩; have q0 : w9a.cell? ⟨w.heap.size, 0, none⟩ = some (.slice sa0 t0.sy.length sc0) := carry_cell' hb (by assumption); have q1 : w9a.cell? ⟨w.heap.size, 1, none⟩ = some (.slice wa0 t0.ws.length wc0) := carry_cell' hb (by assumption); have q2 : w9a.cell? ⟨w.heap.size, 2, none⟩ = some (.int .i64 t0.va) := carry_cell' hb (by assumption); have q3 : w9a.cell? ⟨w5.heap.size, 0, none⟩ = some (.slice u5p t0.sy.length u5c) := carry_cell' hb (by assumption); have q4 : w9a.cell? ⟨w5.heap.size, 1, none⟩ = some (.slice u5wp t0.ws.length u5wc) := carry_cell' hb (by assumption); have q5 : w9a.cell? ⟨w5.heap.size, 2, none⟩ = some (.int .i64 t0.va) := carry_cell' hb (by assumption); have hB6 := carry_below hB0 (Nat.le_refl _) hb; have HT6 := Lib.hid ho.read; clear hb ho) | (go_at_call 13; refine (CE.out _ _ _ hB6 HT6.out).mono ?_; rintro e w9 ⟨rfl, hb⟩; have r0 : w9.cell? ⟨w.heap.size, 0, none⟩ = some (.slice sa0 t0.sy.length sc0) := carry_cell' hb (by assumption); have r1 : w9.cell? ⟨w.heap.size, 1, none⟩ = some (.slice wa0 t0.ws.length wc0) := carry_cell' hb (by assumption); have r2 : w9.cell? ⟨w.heap.size, 2, none⟩ = some (.int .i64 t0.va) := carry_cell' hb (by assumption); have r3 : w9.cell? ⟨w5.heap.size, 0, none⟩ = some (.slice u5p t0.sy.length u5c) := carry_cell' hb (by assumption); have r4 : w9.cell? ⟨w5.heap.size, 1, none⟩ = some (.slice u5wp t0.ws.length u5wc) := carry_cell' hb (by assumption); have r5 : w9.cell? ⟨w5.heap.size, 2, none⟩ = some (.int .i64 t0.va) := carry_cell' hb (by assumption); have hB7 := carry_below hB6 (Nat.le_refl _) hb; clear hb))
    clear A0r0 A0r1 A0r3 A0r2 A0lt A1r0 A1r1 A1r3 A1r2 A1lt A2r0 A2r1 A2r3 A2r2 A2lt BX0r0 BX0r1 BX0r3 BX0r2 BX0lt BX1r0 BX1r1 BX1r3 BX1r2 BX1lt BX2r0 BX2r1 BX2r3 BX2r2 BX2lt
    have HB_12 := Lib.hid (carry_below HB_11.out (Nat.le_refl _) hB7)
    have A0_12 := Lib.hid (A0_11.out.kept hB7)
    have A1_12 := Lib.hid (A1_11.out.kept hB7)
    have A2_12 := Lib.hid (A2_11.out.kept hB7)
    have X0_12 := Lib.hid (X0_11.out.kept hB7)
    have BX0_12 := Lib.hid (BX0_11.out.kept hB7)
    have X1_12 := Lib.hid (X1_11.out.kept hB7)
    have BX1_12 := Lib.hid (BX1_11.out.kept hB7)
    have X2_12 := Lib.hid (X2_11.out.kept hB7)
    have BX2_12 := Lib.hid (BX2_11.out.kept hB7)
    have z_12 : w8.heap.size ≤ w9.heap.size := hB7.size
    clear HB_11 A0_11 A1_11 A2_11 X0_11 BX0_11 X1_11 BX1_11 X2_11 BX2_11
    clear hB7 hB6 hB0 q0 r0 q1 r1 q2 r2 q3 r3 q4 r4 q5 r5 HT6 CT CE
    obtain ⟨A0r0, A0r1, A0r3, A0r2⟩ := A0_12.out
    have A0lt : w.heap.size < w9.heap.size := World.block_lt_of_cell? w9 ⟨w.heap.size, 0, none⟩ A0r0
    obtain ⟨A1r0, A1r1, A1r3, A1r2⟩ := A1_12.out
    have A1lt : (w.heap.size + 1) < w9.heap.size := World.block_lt_of_cell? w9 ⟨(w.heap.size + 1), 0, none⟩ A1r0
    obtain ⟨A2r0, A2r1, A2r3, A2r2⟩ := A2_12.out
    have A2lt : (w.heap.size + 1 + 1) < w9.heap.size := World.block_lt_of_cell? w9 ⟨(w.heap.size + 1 + 1), 0, none⟩ A2r0
    obtain ⟨BX0r0, BX0r1, BX0r3, BX0r2⟩ := BX0_12.out
    have BX0lt : w5.heap.size < w9.heap.size := World.block_lt_of_cell? w9 ⟨w5.heap.size, 0, none⟩ BX0r0
    obtain ⟨BX1r0, BX1r1, BX1r3, BX1r2⟩ := BX1_12.out
    have BX1lt : w6.heap.size < w9.heap.size := World.block_lt_of_cell? w9 ⟨w6.heap.size, 0, none⟩ BX1r0
    obtain ⟨BX2r0, BX2r1, BX2r3, BX2r2⟩ := BX2_12.out
    have BX2lt : w7.heap.size < w9.heap.size := World.block_lt_of_cell? w9 ⟨w7.heap.size, 0, none⟩ BX2r0
    have CT : Hid (∀ W : World, Below w9.heap.size w9 W → Calls Tryz.prog 11 #[.agg #[.bool t1.var, .string t1.tm.name, .slice pa1 t1.tm.args.length ca1]] W (ToLitEnd t1.var t1.tm W)) := Lib.hid (fun W hW => toLiteral_any t1.var t1.tm W _ (HV1.out.kept ((HB_12.out).trans (hW.mono HB_12.out.size))) hw1)
    have CE : Hid (∀ (W : World) (q1 : Value), Below w9.heap.size w9 W → TmS W q1 t1.tm.args → Calls Tryz.prog 14 #[.agg #[.bool t1.var, .string t1.tm.name, .slice u6p t1.tm.args.length u6c], .agg #[.bool t1.var, .string t1.tm.name, q1]] W (Ans (.bool true) W)) := Lib.hid (fun W q1 hW hv => by
      exact eqLiteral_any t1.var t1.tm W _ _ (X1_12.out.kept hW) hv HL1.out)
    have hB0 : Below w9.heap.size w9 w9.drew := (Below.refl _ _).drew
    go_wp2_with fail
    go_region_held3 (fun w' => w'.cell? ⟨w.heap.size + 1, 0, none⟩ = some (.bool t1.var) ∧ w'.cell? ⟨w.heap.size + 1, 1, none⟩ = some (.string t1.tm.name) ∧ w'.cell? ⟨w.heap.size + 1, 2, none⟩ = some (.slice pa1 t1.tm.args.length ca1) ∧ w'.cell? ⟨w6.heap.size, 0, none⟩ = some (.bool t1.var) ∧ w'.cell? ⟨w6.heap.size, 1, none⟩ = some (.string t1.tm.name) ∧ w'.cell? ⟨w6.heap.size, 2, none⟩ = some (.slice u6p t1.tm.args.length u6c) ∧ Below w9.heap.size w9 w') (first | exact ⟨by assumption, by assumption, by assumption, by assumption, by assumption, by assumption, by assumption⟩ | go_keep) (first | (go_at_call 11; refine (CT.out _ hB0).mono ?_; rintro e w10a ⟨v6, rfl, ho, hb⟩; have q0 : w10a.cell? ⟨w.heap.size + 1, 0, none⟩ = some (.bool t1.var) := carry_cell' hb (by assumption); have q1 : w10a.cell? ⟨w.heap.size + 1, 1, none⟩ = some (.string t1.tm.name) := carry_cell' hb (by assumption); have q2 : w10a.cell? ⟨w.heap.size + 1, 2, none⟩ = some (.slice pa1 t1.tm.args.length ca1) := carry_cell' hb (by assumption); have q3 : w10a.cell? ⟨w6.heap.size, 0, none⟩ = some (.bool t1.var) := carry_cell' hb (by assumption); have q4 : w10a.cell? ⟨w6.heap.size, 1, none⟩ = some (.string t1.tm.name) := carry_cell' hb (by assumption); have q5 : w10a.cell? ⟨w6.heap.size, 2, none⟩ = some (.slice u6p t1.tm.args.length u6c) := carry_cell' hb (by assumption); have hB6 := carry_below hB0 (Nat.le_refl _) hb; have HT6 := Lib.hid ho.read; clear hb ho) | (go_at_call 14; refine (CE.out _ _ hB6 HT6.out).mono ?_; rintro e w10 ⟨rfl, hb⟩; have r0 : w10.cell? ⟨w.heap.size + 1, 0, none⟩ = some (.bool t1.var) := carry_cell' hb (by assumption); have r1 : w10.cell? ⟨w.heap.size + 1, 1, none⟩ = some (.string t1.tm.name) := carry_cell' hb (by assumption); have r2 : w10.cell? ⟨w.heap.size + 1, 2, none⟩ = some (.slice pa1 t1.tm.args.length ca1) := carry_cell' hb (by assumption); have r3 : w10.cell? ⟨w6.heap.size, 0, none⟩ = some (.bool t1.var) := carry_cell' hb (by assumption); have r4 : w10.cell? ⟨w6.heap.size, 1, none⟩ = some (.string t1.tm.name) := carry_cell' hb (by assumption); have r5 : w10.cell? ⟨w6.heap.size, 2, none⟩ = some (.slice u6p t1.tm.args.length u6c) := carry_cell' hb (by assumption); have hB7 := carry_below hB6 (Nat.le_refl _) hb; clear hb))
    clear A0r0 A0r1 A0r3 A0r2 A0lt A1r0 A1r1 A1r3 A1r2 A1lt A2r0 A2r1 A2r3 A2r2 A2lt BX0r0 BX0r1 BX0r3 BX0r2 BX0lt BX1r0 BX1r1 BX1r3 BX1r2 BX1lt BX2r0 BX2r1 BX2r3 BX2r2 BX2lt
    have HB_13 := Lib.hid (carry_below HB_12.out (Nat.le_refl _) hB7)
    have A0_13 := Lib.hid (A0_12.out.kept hB7)
    have A1_13 := Lib.hid (A1_12.out.kept hB7)
    have A2_13 := Lib.hid (A2_12.out.kept hB7)
    have X0_13 := Lib.hid (X0_12.out.kept hB7)
    have BX0_13 := Lib.hid (BX0_12.out.kept hB7)
    have X1_13 := Lib.hid (X1_12.out.kept hB7)
    have BX1_13 := Lib.hid (BX1_12.out.kept hB7)
    have X2_13 := Lib.hid (X2_12.out.kept hB7)
    have BX2_13 := Lib.hid (BX2_12.out.kept hB7)
    have z_13 : w9.heap.size ≤ w10.heap.size := hB7.size
    clear HB_12 A0_12 A1_12 A2_12 X0_12 BX0_12 X1_12 BX1_12 X2_12 BX2_12
    clear hB7 hB6 hB0 q0 r0 q1 r1 q2 r2 q3 r3 q4 r4 q5 r5 HT6 CT CE
    obtain ⟨A0r0, A0r1, A0r3, A0r2⟩ := A0_13.out
    have A0lt : w.heap.size < w10.heap.size := World.block_lt_of_cell? w10 ⟨w.heap.size, 0, none⟩ A0r0
    obtain ⟨A1r0, A1r1, A1r3, A1r2⟩ := A1_13.out
    have A1lt : (w.heap.size + 1) < w10.heap.size := World.block_lt_of_cell? w10 ⟨(w.heap.size + 1), 0, none⟩ A1r0
    obtain ⟨A2r0, A2r1, A2r3, A2r2⟩ := A2_13.out
    have A2lt : (w.heap.size + 1 + 1) < w10.heap.size := World.block_lt_of_cell? w10 ⟨(w.heap.size + 1 + 1), 0, none⟩ A2r0
    obtain ⟨BX0r0, BX0r1, BX0r3, BX0r2⟩ := BX0_13.out
    have BX0lt : w5.heap.size < w10.heap.size := World.block_lt_of_cell? w10 ⟨w5.heap.size, 0, none⟩ BX0r0
    obtain ⟨BX1r0, BX1r1, BX1r3, BX1r2⟩ := BX1_13.out
    have BX1lt : w6.heap.size < w10.heap.size := World.block_lt_of_cell? w10 ⟨w6.heap.size, 0, none⟩ BX1r0
    obtain ⟨BX2r0, BX2r1, BX2r3, BX2r2⟩ := BX2_13.out
    have BX2lt : w7.heap.size < w10.heap.size := World.block_lt_of_cell? w10 ⟨w7.heap.size, 0, none⟩ BX2r0
    have CT : Hid (∀ W : World, Below w10.heap.size w10 W → Calls Tryz.prog 11 #[.agg #[.bool t2.var, .string t2.tm.name, .slice pa2 t2.tm.args.length ca2]] W (ToLitEnd t2.var t2.tm W)) := Lib.hid (fun W hW => toLiteral_any t2.var t2.tm W _ (HV2.out.kept ((HB_13.out).trans (hW.mono HB_13.out.size))) hw2)
    have CE : Hid (∀ (W : World) (q2 : Value), Below w10.heap.size w10 W → TmS W q2 t2.tm.args → Calls Tryz.prog 14 #[.agg #[.bool t2.var, .string t2.tm.name, .slice u7p t2.tm.args.length u7c], .agg #[.bool t2.var, .string t2.tm.name, q2]] W (Ans (.bool true) W)) := Lib.hid (fun W q2 hW hv => by
      exact eqLiteral_any t2.var t2.tm W _ _ (X2_13.out.kept hW) hv HL2.out)
    have hB0 : Below w10.heap.size w10 w10.drew := (Below.refl _ _).drew
    go_wp2_with fail
    go_region_held3 (fun w' => w'.cell? ⟨w.heap.size + 1 + 1, 0, none⟩ = some (.bool t2.var) ∧ w'.cell? ⟨w.heap.size + 1 + 1, 1, none⟩ = some (.string t2.tm.name) ∧ w'.cell? ⟨w.heap.size + 1 + 1, 2, none⟩ = some (.slice pa2 t2.tm.args.length ca2) ∧ w'.cell? ⟨w7.heap.size, 0, none⟩ = some (.bool t2.var) ∧ w'.cell? ⟨w7.heap.size, 1, none⟩ = some (.string t2.tm.name) ∧ w'.cell? ⟨w7.heap.size, 2, none⟩ = some (.slice u7p t2.tm.args.length u7c) ∧ Below w10.heap.size w10 w') (first | exact ⟨by assumption, by assumption, by assumption, by assumption, by assumption, by assumption, by assumption⟩ | go_keep) (first | (go_at_call 11; refine (CT.out _ hB0).mono ?_; rintro e w11a ⟨v6, rfl, ho, hb⟩; have q0 : w11a.cell? ⟨w.heap.size + 1 + 1, 0, none⟩ = some (.bool t2.var) := carry_cell' hb (by assumption); have q1 : w11a.cell? ⟨w.heap.size + 1 + 1, 1, none⟩ = some (.string t2.tm.name) := carry_cell' hb (by assumption); have q2 : w11a.cell? ⟨w.heap.size + 1 + 1, 2, none⟩ = some (.slice pa2 t2.tm.args.length ca2) := carry_cell' hb (by assumption); have q3 : w11a.cell? ⟨w7.heap.size, 0, none⟩ = some (.bool t2.var) := carry_cell' hb (by assumption); have q4 : w11a.cell? ⟨w7.heap.size, 1, none⟩ = some (.string t2.tm.name) := carry_cell' hb (by assumption); have q5 : w11a.cell? ⟨w7.heap.size, 2, none⟩ = some (.slice u7p t2.tm.args.length u7c) := carry_cell' hb (by assumption); have hB6 := carry_below hB0 (Nat.le_refl _) hb; have HT6 := Lib.hid ho.read; clear hb ho) | (go_at_call 14; refine (CE.out _ _ hB6 HT6.out).mono ?_; rintro e w11 ⟨rfl, hb⟩; have r0 : w11.cell? ⟨w.heap.size + 1 + 1, 0, none⟩ = some (.bool t2.var) := carry_cell' hb (by assumption); have r1 : w11.cell? ⟨w.heap.size + 1 + 1, 1, none⟩ = some (.string t2.tm.name) := carry_cell' hb (by assumption); have r2 : w11.cell? ⟨w.heap.size + 1 + 1, 2, none⟩ = some (.slice pa2 t2.tm.args.length ca2) := carry_cell' hb (by assumption); have r3 : w11.cell? ⟨w7.heap.size, 0, none⟩ = some (.bool t2.var) := carry_cell' hb (by assumption); have r4 : w11.cell? ⟨w7.heap.size, 1, none⟩ = some (.string t2.tm.name) := carry_cell' hb (by assumption); have r5 : w11.cell? ⟨w7.heap.size, 2, none⟩ = some (.slice u7p t2.tm.args.length u7c) := carry_cell' hb (by assumption); have hB7 := carry_below hB6 (Nat.le_refl _) hb; clear hb))
    clear A0r0 A0r1 A0r3 A0r2 A0lt A1r0 A1r1 A1r3 A1r2 A1lt A2r0 A2r1 A2r3 A2r2 A2lt BX0r0 BX0r1 BX0r3 BX0r2 BX0lt BX1r0 BX1r1 BX1r3 BX1r2 BX1lt BX2r0 BX2r1 BX2r3 BX2r2 BX2lt
    have HB_14 := Lib.hid (carry_below HB_13.out (Nat.le_refl _) hB7)
    have A0_14 := Lib.hid (A0_13.out.kept hB7)
    have A1_14 := Lib.hid (A1_13.out.kept hB7)
    have A2_14 := Lib.hid (A2_13.out.kept hB7)
    have X0_14 := Lib.hid (X0_13.out.kept hB7)
    have BX0_14 := Lib.hid (BX0_13.out.kept hB7)
    have X1_14 := Lib.hid (X1_13.out.kept hB7)
    have BX1_14 := Lib.hid (BX1_13.out.kept hB7)
    have X2_14 := Lib.hid (X2_13.out.kept hB7)
    have BX2_14 := Lib.hid (BX2_13.out.kept hB7)
    have z_14 : w10.heap.size ≤ w11.heap.size := hB7.size
    clear HB_13 A0_13 A1_13 A2_13 X0_13 BX0_13 X1_13 BX1_13 X2_13 BX2_13
    clear hB7 hB6 hB0 q0 r0 q1 r1 q2 r2 q3 r3 q4 r4 q5 r5 HT6 CT CE
    obtain ⟨A0r0, A0r1, A0r3, A0r2⟩ := A0_14.out
    have A0lt : w.heap.size < w11.heap.size := World.block_lt_of_cell? w11 ⟨w.heap.size, 0, none⟩ A0r0
    obtain ⟨A1r0, A1r1, A1r3, A1r2⟩ := A1_14.out
    have A1lt : (w.heap.size + 1) < w11.heap.size := World.block_lt_of_cell? w11 ⟨(w.heap.size + 1), 0, none⟩ A1r0
    obtain ⟨A2r0, A2r1, A2r3, A2r2⟩ := A2_14.out
    have A2lt : (w.heap.size + 1 + 1) < w11.heap.size := World.block_lt_of_cell? w11 ⟨(w.heap.size + 1 + 1), 0, none⟩ A2r0
    obtain ⟨BX0r0, BX0r1, BX0r3, BX0r2⟩ := BX0_14.out
    have BX0lt : w5.heap.size < w11.heap.size := World.block_lt_of_cell? w11 ⟨w5.heap.size, 0, none⟩ BX0r0
    obtain ⟨BX1r0, BX1r1, BX1r3, BX1r2⟩ := BX1_14.out
    have BX1lt : w6.heap.size < w11.heap.size := World.block_lt_of_cell? w11 ⟨w6.heap.size, 0, none⟩ BX1r0
    obtain ⟨BX2r0, BX2r1, BX2r3, BX2r2⟩ := BX2_14.out
    have BX2lt : w7.heap.size < w11.heap.size := World.block_lt_of_cell? w11 ⟨w7.heap.size, 0, none⟩ BX2r0
    go_wp2
    go_ret
    exact ⟨rfl, HB_14.out⟩

theorem walk (t0 : Od) (sv0 wv0 : Value) (t1 : Lt) (va1 : Value) (t2 : Lt) (va2 : Value) (w : World) (h0 : OdV w sv0 wv0 t0) (l0 : t0.lim 9223372036854775807) (h1 : TmS w va1 t1.tm.args) (l1 : t1.tm.lim 9223372036854775807) (h2 : TmS w va2 t2.tm.args) (l2 : t2.tm.lim 9223372036854775807) :
    Calls Tryz.prog 3 #[.agg #[sv0, wv0, .int .i64 t0.va], .agg #[.bool t1.var, .string t1.tm.name, va1], .agg #[.bool t2.var, .string t2.tm.name, va2]] w fun e w' => e = .returned (.bool true) ∧ Below w.heap.size w w' :=
  core t0 sv0 wv0 t1 va1 t2 va2 (t0.ordR t1 t2) (t0.ordOk t1 t2) w h0 l0 h1 l1 h2 l2
    (fun hs W q0s q0w q1 q2 h0 h1 h2 => specOl_any t0 (by omega) t1 t2 W _ _ _ _ h0 h1 h2 (by omega) (by omega))
    (fun hs W q0s q0w q1 q2 h0 h1 h2 => implOl_any t0 (by omega) t1 t2 W _ _ _ _ h0 h1 h2 (by omega) (by omega))

/-! ### THE ROW's STEP: WRITTEN OUT: LEAVE IT -/
set_option maxRecDepth 100000 in
theorem lifted (os : Os) (started : os.Started) (H : Type) (enc : TypeId × Value → H) :
    ReturnsInHanded {} Tryz.checked os 3 .any (Rows.fnExactOrderLiteralsSpec.pre6 enc Tryz.prog Tryz.f3 Rows.fnExactOrderLiteralsRow.domain false) (Rows.fnExactOrderLiteralsSpec.post enc Tryz.prog Tryz.f3 false true false false) := by
  refine returnsInHanded_of_change (C := Tryz.checked) own started (by kernel_rfl) Tryz.func3
    (ChangeSpec.witness6 (enc := enc) (C := Tryz.checked) false ⟨#[], #[.agg #[.slice none 0 0, .slice none 0 0, .int .i64 0], .agg #[.bool false, .string ByteArray.empty, .slice none 0 0], .agg #[.bool false, .string ByteArray.empty, .slice none 0 0]], []⟩ 8 (by kernel_rfl) (by kernel_rfl) (by kernel_rfl) (by kernel_rfl)) ?_
  intro W base args ds gs before hval0 hW hcnd _
  have hval : ∀ (j : Nat) t v, Tryz.f3.params[j]? = some t → args[j]? = some v → Value.okWide Tryz.prog W .any base t v := hval0
  have hW' := hW
  obtain ⟨p, q, hA0, hV, rfl, hfz, hnd⟩ := hW
  have hA : DataW.TrodAll enc Tryz.prog W 0 (fun _ => true) true Tryz.f3.params.toList args.toList ds p := hA0
  rw [Tryz.params3] at hA hval
  obtain ⟨v0, vs0, d0, ds0, p0, q0, hargs, rfl, rfl, h0, r0⟩ := trodAll_cons hA
  obtain ⟨v1, vs1, d1, ds1, p1, q1, rfl, rfl, rfl, h1, r1⟩ := trodAll_cons r0
  obtain ⟨v2, vs2, d2, ds2, p2, q2, rfl, rfl, rfl, h2, r2⟩ := trodAll_cons r1
  obtain ⟨rfl, rfl, rfl⟩ := trodAll_nil r2
  obtain rfl : args = #[v0, v1, v2] := by cases args; simp_all
  obtain ⟨rfl, rfl⟩ := trodVars_none hV
  have k0 := h0
  have lt0 : ∀ x ∈ p0, x.block < W.heap.size := by obtain ⟨m, hm⟩ := k0; exact DataW.trod_lt m _ _ _ hm
  obtain ⟨o0, sv0, wv0, rfl, ov0, lim0⟩ := open_ord (hval 0 25 v0 rfl rfl) h0
  have k1 := h1
  have lt1 : ∀ x ∈ p1, x.block < W.heap.size := by obtain ⟨m, hm⟩ := k1; exact DataW.trod_lt m _ _ _ hm
  obtain ⟨pp1, tt1, va1, rfl, tm1, lim1⟩ := open_literal 9223372036854775807 (by unfold maxLen; omega) (hval 1 30 v1 rfl rfl) h1
  have k2 := h2
  have lt2 : ∀ x ∈ p2, x.block < W.heap.size := by obtain ⟨m, hm⟩ := k2; exact DataW.trod_lt m _ _ _ hm
  obtain ⟨pp2, tt2, va2, rfl, tm2, lim2⟩ := open_literal 9223372036854775807 (by unfold maxLen; omega) (hval 2 30 v2 rfl rfl) h2
  clear hA0 hval0
  refine (walk o0 sv0 wv0 ⟨pp1, tt1⟩ va1 ⟨pp2, tt2⟩ va2 W ov0 lim0 tm1 lim1 tm2 lim2).mono fun e W' ⟨he, bel⟩ => ?_
  subst he
  exact ⟨_, rfl, _, _, _, [], _, [], hW', trodAll_mk1 (shut_bool Tryz.underlying4 _), (trodAll_cons_mk (Below.trod laidOut (by kernel_rfl) (of_decide_eq_true (by kernel_rfl)) k0 bel lt0) (trodAll_cons_mk (Below.trod laidOut (by kernel_rfl) (of_decide_eq_true (by kernel_rfl)) k1 bel lt1) (trodAll_cons_mk (Below.trod laidOut (by kernel_rfl) (of_decide_eq_true (by kernel_rfl)) k2 bel lt2) trodAll_mk0))), rfl, bel.frame _, fun h => by cases h⟩


theorem jfPlace : (Rows.fnExactOrderLiteralsRow.inPlace == Tryz.prog.inPlace 3) = true := by kernel_rfl
theorem jfFollow : (Rows.fnExactOrderLiteralsRow.unfollowed == Tryz.prog.unfollowed 3) = true := by kernel_rfl
theorem jfRecurses : (Rows.fnExactOrderLiteralsRow.recurses == Tryz.prog.recurses 3) = true := by kernel_rfl
theorem jfNamed : (Rows.fnExactOrderLiteralsRow.named == Tryz.prog.varsNamed 3) = true := by kernel_rfl
theorem jfKeys : (Rows.fnExactOrderLiteralsRow.plainKeys == Tryz.prog.plainKeys) = true := by kernel_rfl
theorem facts : joinedFacts Tryz.prog 3 Tryz.f3 Rows.fnExactOrderLiteralsSpec Rows.fnExactOrderLiteralsRow = true :=
  jf_of (P := Tryz.prog) jfLaid jfRowed jfHeard jfEnter jfLifts (by kernel_rfl) (by kernel_rfl) (by kernel_rfl) (by kernel_rfl) (by kernel_rfl) (by kernel_rfl) (by kernel_rfl)
    jfPlace jfFollow jfRecurses jfNamed (by kernel_rfl) (by kernel_rfl) (by kernel_rfl) (by kernel_rfl) (by kernel_rfl) (by kernel_rfl) (by kernel_rfl) (by kernel_rfl) (by kernel_rfl)
    jfKeys (by kernel_rfl) (by kernel_rfl) (by kernel_rfl) (by kernel_rfl) (by kernel_rfl) (by kernel_rfl)

theorem over : Rows.fnExactOrderLiteralsRow.holds Tryz.pinned (OpenSpec.ofChange Rows.fnExactOrderLiteralsSpec) :=
  OpenClaim.holds_of_wide 3 Tryz.f3 rfl rfl rfl rfl rfl rfl rfl ⟨rfl, rfl, rfl, rfl, rfl⟩ rfl rfl rfl rfl rfl (by kernel_rfl) Tryz.func3 facts
    (of_decide_eq_true (by kernel_rfl)) (by unfold Func.isWrapper; first | (rw [if_pos (by decide +kernel)]; kernel_rfl) | (rw [if_neg (by decide +kernel)]; exact ⟨rfl, rfl⟩))
    (fun os started H enc _ => lifted os started H enc)

/-- ████ THE STATEMENT ████ -/
theorem proved : Rows.FnExactOrderLiteralsSaid := over
end Go.Proofs.YtohalpafmcobpaaGreat.fnExactOrderLiterals
