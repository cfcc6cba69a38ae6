/- CompareLiterals answers as its model for every two literals: no condition. -/
import Derived.Test.YtmlenhjhkpgcnaaSz
import Derived.Test.YtmlenhjhkpgcnaaTo
import Derived.Test.YtmlenhjhkpgcnaaEq
import Derived.Test.YtmlenhjhkpgcnaaOpenTm
import Derived.Test.YtmlenhjhkpgcnaaJf
import Derived.Test.YtmlenhjhkpgcnaaOpenL
import Derived.Test.YtmlenhjhkpgcnaaVl7
import Derived.Deep.RegionWith
import Derived.Deep.Cut
import Derived.OpenShut
import Derived.ShutString
import Derived.ChangeOld
namespace Go.Proofs.Ytmlenhjhkpgcnaa.fnExactCompareLiterals
open Go.ChangeShapes Go.WideShapes Go.ChangeAt Go.RowKit
open Go.ChangeMaps (open_string shut_string)
set_option linter.unusedVariables false

theorem own : ownKnob Try.prog.godebug = none := by kernel_rfl
theorem laidOut : laidOutB Try.prog = true := by kernel_rfl

/-- What a statement leaves that calls the model. -/
def Got (r : Int) (ok : Bool) (w : World) (x y : Value) (w' : World) : Prop := x = .int .i64 r ∧ y = .bool ok ∧ Below w.heap.size w w'

set_option maxRecDepth 100000 in
set_option maxHeartbeats 16000000 in
theorem core (t0 : Lt) (va0 : Value) (t1 : Lt) (va1 : Value) (r : Int) (ok : Bool) (w : World) (h0 : TmS w va0 t0.tm.args) (l0 : t0.tm.lim 9223372036854775807) (h1 : TmS w va1 t1.tm.args) (l1 : t1.tm.lim 9223372036854775807)
    (hcs : t0.tm.wt + t1.tm.wt ≤ 1048576 → ∀ (W : World) (q0 q1 : Value), TmS W q0 t0.tm.args → TmS W q1 t1.tm.args → Calls Try.prog 24 #[.agg #[.bool t0.var, .string t0.tm.name, q0], .agg #[.bool t1.var, .string t1.tm.name, q1]] W (Ans (.tuple #[.int .i64 r, .bool ok]) W))
    (hci : t0.tm.wt + t1.tm.wt ≤ 1048576 → ∀ (W : World) (q0 q1 : Value), TmS W q0 t0.tm.args → TmS W q1 t1.tm.args → Calls Try.prog 25 #[.agg #[.bool t0.var, .string t0.tm.name, q0], .agg #[.bool t1.var, .string t1.tm.name, q1]] W (Ans (.tuple #[.int .i64 r, .bool ok]) W)) :
    Calls Try.prog 5 #[.agg #[.bool t0.var, .string t0.tm.name, va0], .agg #[.bool t1.var, .string t1.tm.name, va1]] w fun e w' => e = .returned (.bool true) ∧ Below w.heap.size w w' := by
  obtain ⟨pa0, ca0, rfl⟩ := h0.is_slice
  obtain ⟨pa1, ca1, rfl⟩ := h1.is_slice
  have HV0 := Lib.hid h0
  have HLIM0 := Lib.hid l0
  have HV1 := Lib.hid h1
  have HLIM1 := Lib.hid l1
  have HCS0 := Lib.hid hcs
  have HCI0 := Lib.hid hci
  clear hcs hci h0 l0 h1 l1
  have HB_0 := Lib.hid (((Below.refl w.heap.size w).alloc (Nat.le_refl _) (.cells #[.bool t0.var, .string t0.tm.name, .slice pa0 t0.tm.args.length ca0] 26)).alloc (by simp) (.cells #[.bool t1.var, .string t1.tm.name, .slice pa1 t1.tm.args.length ca1] 26))
  have A0_0 := Lib.hid ((thr_new w (.bool t0.var) (.string t0.tm.name) (.slice pa0 t0.tm.args.length ca0) 26 _ rfl).alloc (.cells #[.bool t1.var, .string t1.tm.name, .slice pa1 t1.tm.args.length ca1] 26))
  have A1_0 := Lib.hid (thr_new (w.alloc (.cells #[.bool t0.var, .string t0.tm.name, .slice pa0 t0.tm.args.length ca0] 26)) (.bool t1.var) (.string t1.tm.name) (.slice pa1 t1.tm.args.length ca1) 26 (w.heap.size + 1) (by simp))
  go_enter Try.func5, Try.ntmps5
  go_wp2_with fail
  refine (szLiteral_any t0.var t0.tm _ _ 1048576 (HV0.out.kept HB_0.out) HLIM0.out (by omega) (by omega)).mono ?_
  rintro e w1 ⟨rfl, hb⟩
  have HB_1 := Lib.hid (carry_below HB_0.out (Nat.le_refl _) hb)
  have A0_1 := Lib.hid (A0_0.out.kept hb)
  have A1_1 := Lib.hid (A1_0.out.kept hb)
  have z_1 : (w.alloc (.cells #[.bool t0.var, .string t0.tm.name, .slice pa0 t0.tm.args.length ca0] 26)).heap.size + 1 ≤ w1.heap.size := by have := hb.size; simpa using this
  have z_0 : w.heap.size + 2 ≤ w1.heap.size := by have h := z_1; simp only [World.size_alloc] at h; omega
  clear hb
  obtain ⟨A0r0, A0r1, A0r3, A0r2⟩ := A0_1.out
  have A0lt : w.heap.size < w1.heap.size := World.block_lt_of_cell? w1 ⟨w.heap.size, 0, none⟩ A0r0
  obtain ⟨A1r0, A1r1, A1r3, A1r2⟩ := A1_1.out
  have A1lt : (w.heap.size + 1) < w1.heap.size := World.block_lt_of_cell? w1 ⟨(w.heap.size + 1), 0, none⟩ A1r0
  rcases szR_cases 1048576 (t0.tm.wt) with ⟨c0a, c0b⟩ | ⟨c0a, c0b⟩
  · rw [c0b]
    clear c0b
    go_wp2
    go_ret
    exact ⟨rfl, HB_1.out⟩
  rw [c0b]
  clear c0b
  have hcl0 : (0 : Int) ≤ 1048576 - ((t0.tm.wt : Nat) : Int) := by omega
  have hcn0 : ¬ 1048576 - ((t0.tm.wt : Nat) : Int) < 0 := by omega
  go_wp2_with fail
  refine (szLiteral_any t1.var t1.tm _ _ (1048576 - ((t0.tm.wt : Nat) : Int)) (HV1.out.kept HB_1.out) HLIM1.out (by omega) (by omega)).mono ?_
  rintro e w2 ⟨rfl, hb⟩
  clear A0r0 A0r1 A0r3 A0r2 A0lt A1r0 A1r1 A1r3 A1r2 A1lt
  have HB_2 := Lib.hid (carry_below HB_1.out (Nat.le_refl _) hb)
  have A0_2 := Lib.hid (A0_1.out.kept hb)
  have A1_2 := Lib.hid (A1_1.out.kept hb)
  have z_2 : w1.heap.size ≤ w2.heap.size := hb.size
  clear HB_1 A0_1 A1_1
  clear hb
  obtain ⟨A0r0, A0r1, A0r3, A0r2⟩ := A0_2.out
  have A0lt : w.heap.size < w2.heap.size := World.block_lt_of_cell? w2 ⟨w.heap.size, 0, none⟩ A0r0
  obtain ⟨A1r0, A1r1, A1r3, A1r2⟩ := A1_2.out
  have A1lt : (w.heap.size + 1) < w2.heap.size := World.block_lt_of_cell? w2 ⟨(w.heap.size + 1), 0, none⟩ A1r0
  rcases szR_cases (1048576 - ((t0.tm.wt : Nat) : Int)) (t1.tm.wt) with ⟨c1a, c1b⟩ | ⟨c1a, c1b⟩
  · rw [c1b]
    clear c1b
    go_wp2
    go_ret
    exact ⟨rfl, HB_2.out⟩
  rw [c1b]
  clear c1b
  have hcl1 : (0 : Int) ≤ 1048576 - ((t0.tm.wt : Nat) : Int) - ((t1.tm.wt : Nat) : Int) := by omega
  have hcn1 : ¬ 1048576 - ((t0.tm.wt : Nat) : Int) - ((t1.tm.wt : Nat) : Int) < 0 := by omega
  have hsum : t0.tm.wt + t1.tm.wt ≤ 1048576 := by omega
  have hw0 : t0.tm.wt ≤ 1048576 := by omega
  have HL0 := Lib.hid (Tm.lim_of_wt t0.tm 1048576 hw0)
  have hw1 : t1.tm.wt ≤ 1048576 := by omega
  have HL1 := Lib.hid (Tm.lim_of_wt t1.tm 1048576 hw1)
  have HCS := Lib.hid (HCS0.out hsum)
  have HCI := Lib.hid (HCI0.out hsum)
  go_wp2_with fail
  have CCli : Hid (∀ (x : Lt) (v : Value) (W : World), Below w2.heap.size w2 W → (x = t0 ∧ v = .slice pa0 t0.tm.args.length ca0) ∨ (x = t1 ∧ v = .slice pa1 t1.tm.args.length ca1) → Calls Try.prog 16 #[.agg #[.bool x.var, .string x.tm.name, v]] W (ToLitEnd x.var x.tm W)) := Lib.hid (fun x v W hW h => by
    rcases h with ⟨rfl, rfl⟩ | ⟨rfl, rfl⟩
    · exact toLiteral_any _ _ W _ (HV0.out.kept ((HB_2.out).trans (hW.mono HB_2.out.size))) hw0
    · exact toLiteral_any _ _ W _ (HV1.out.kept ((HB_2.out).trans (hW.mono HB_2.out.size))) hw1)
  go_cut [6, 7] from 30 (fun x y wx => Got r ok w2 x y wx)
  case first =>
    have hB : Below w2.heap.size w2 w2.drew := (Below.refl _ _).drew
    go_region_held3 (fun w' => w'.cell? ⟨w.heap.size, 0, none⟩ = some (.bool t0.var) ∧ w'.cell? ⟨w.heap.size, 1, none⟩ = some (.string t0.tm.name) ∧ w'.cell? ⟨w.heap.size, 2, none⟩ = some (.slice pa0 t0.tm.args.length ca0) ∧ w'.cell? ⟨w.heap.size + 1, 0, none⟩ = some (.bool t1.var) ∧ w'.cell? ⟨w.heap.size + 1, 1, none⟩ = some (.string t1.tm.name) ∧ w'.cell? ⟨w.heap.size + 1, 2, none⟩ = some (.slice pa1 t1.tm.args.length ca1)) (first | exact ⟨by assumption, by assumption, by assumption, by assumption, by assumption, by assumption⟩ | go_keep) (first | (go_at_call 16; refine (CCli.out _ _ _ hB (by first | exact .inl ⟨rfl, rfl⟩ | exact .inr ⟨rfl, rfl⟩)).mono ?_; rintro e wn ⟨u, rfl, ho, hb⟩; obtain ⟨up, uc, rfl⟩ := ho.read.is_slice; have hb' := hb; have q0 : wn.cell? ⟨w.heap.size, 0, none⟩ = some (.bool t0.var) := carry_cell' hb' (by assumption); have q1 : wn.cell? ⟨w.heap.size, 1, none⟩ = some (.string t0.tm.name) := carry_cell' hb' (by assumption); have q2 : wn.cell? ⟨w.heap.size, 2, none⟩ = some (.slice pa0 t0.tm.args.length ca0) := carry_cell' hb' (by assumption); have q3 : wn.cell? ⟨w.heap.size + 1, 0, none⟩ = some (.bool t1.var) := carry_cell' hb' (by assumption); have q4 : wn.cell? ⟨w.heap.size + 1, 1, none⟩ = some (.string t1.tm.name) := carry_cell' hb' (by assumption); have q5 : wn.cell? ⟨w.heap.size + 1, 2, none⟩ = some (.slice pa1 t1.tm.args.length ca1) := carry_cell' hb' (by assumption); (try have HTli2 := Lib.hid (HTli1.out.kept hb')); have hB := carry_below hB (Nat.le_refl _) hb'; have HTli1 := Lib.hid ho.read; clear hb ho) | (go_at_call 24; refine (HCS.out _ _ _ (by first | exact HTli1.out | exact HTli2.out) (by first | exact HTli1.out | exact HTli2.out)).mono ?_; rintro e wn ⟨rfl, hb⟩; have hb' := hb; have q0 : wn.cell? ⟨w.heap.size, 0, none⟩ = some (.bool t0.var) := carry_cell' hb' (by assumption); have q1 : wn.cell? ⟨w.heap.size, 1, none⟩ = some (.string t0.tm.name) := carry_cell' hb' (by assumption); have q2 : wn.cell? ⟨w.heap.size, 2, none⟩ = some (.slice pa0 t0.tm.args.length ca0) := carry_cell' hb' (by assumption); have q3 : wn.cell? ⟨w.heap.size + 1, 0, none⟩ = some (.bool t1.var) := carry_cell' hb' (by assumption); have q4 : wn.cell? ⟨w.heap.size + 1, 1, none⟩ = some (.string t1.tm.name) := carry_cell' hb' (by assumption); have q5 : wn.cell? ⟨w.heap.size + 1, 2, none⟩ = some (.slice pa1 t1.tm.args.length ca1) := carry_cell' hb' (by assumption); have hB := carry_below hB (Nat.le_refl _) hb'; clear hb))
    all_goals (go_wp2_with fail; go_meet)
    all_goals (exact ⟨rfl, rfl, hB⟩)
  case rest =>
    obtain ⟨rfl, rfl, hb⟩ := hcut
    clear CCli
    obtain ⟨w3, hw3⟩ : ∃ x, x = wc := ⟨_, rfl⟩
    rw [← hw3] at hb ⊢
    clear hw3
    clear A0r0 A0r1 A0r3 A0r2 A0lt A1r0 A1r1 A1r3 A1r2 A1lt
    have HB_3 := Lib.hid (carry_below HB_2.out (Nat.le_refl _) hb)
    have A0_3 := Lib.hid (A0_2.out.kept hb)
    have A1_3 := Lib.hid (A1_2.out.kept hb)
    have z_3 : w2.heap.size ≤ w3.heap.size := hb.size
    clear HB_2 A0_2 A1_2
    clear hb
    obtain ⟨A0r0, A0r1, A0r3, A0r2⟩ := A0_3.out
    have A0lt : w.heap.size < w3.heap.size := World.block_lt_of_cell? w3 ⟨w.heap.size, 0, none⟩ A0r0
    obtain ⟨A1r0, A1r1, A1r3, A1r2⟩ := A1_3.out
    have A1lt : (w.heap.size + 1) < w3.heap.size := World.block_lt_of_cell? w3 ⟨(w.heap.size + 1), 0, none⟩ A1r0
    go_wp2_with fail
    refine (toLiteral_any t0.var t0.tm _ _ (HV0.out.kept HB_3.out) hw0).mono ?_
    rintro e w4 ⟨u4, rfl, ho, hb⟩
    obtain ⟨u4p, u4c, rfl⟩ := ho.read.is_slice
    clear A0r0 A0r1 A0r3 A0r2 A0lt A1r0 A1r1 A1r3 A1r2 A1lt
    have HB_4 := Lib.hid (carry_below HB_3.out (Nat.le_refl _) hb)
    have A0_4 := Lib.hid (A0_3.out.kept hb)
    have A1_4 := Lib.hid (A1_3.out.kept hb)
    have z_4 : w3.heap.size ≤ w4.heap.size := hb.size
    clear HB_3 A0_3 A1_3
    have X0_4 := Lib.hid (ho.read)
    clear hb ho
    obtain ⟨A0r0, A0r1, A0r3, A0r2⟩ := A0_4.out
    have A0lt : w.heap.size < w4.heap.size := World.block_lt_of_cell? w4 ⟨w.heap.size, 0, none⟩ A0r0
    obtain ⟨A1r0, A1r1, A1r3, A1r2⟩ := A1_4.out
    have A1lt : (w.heap.size + 1) < w4.heap.size := World.block_lt_of_cell? w4 ⟨(w.heap.size + 1), 0, none⟩ A1r0
    have HB_5 := Lib.hid (HB_4.out.alloc HB_4.out.size (.cells #[.bool t0.var, .string t0.tm.name, .slice u4p t0.tm.args.length u4c] 33))
    have A0_5 := Lib.hid (A0_4.out.kept ((Below.refl w4.heap.size w4).alloc (Nat.le_refl _) (.cells #[.bool t0.var, .string t0.tm.name, .slice u4p t0.tm.args.length u4c] 33)))
    have A1_5 := Lib.hid (A1_4.out.kept ((Below.refl w4.heap.size w4).alloc (Nat.le_refl _) (.cells #[.bool t0.var, .string t0.tm.name, .slice u4p t0.tm.args.length u4c] 33)))
    have X0_5 := Lib.hid (X0_4.out.kept ((Below.refl w4.heap.size w4).alloc (Nat.le_refl _) (.cells #[.bool t0.var, .string t0.tm.name, .slice u4p t0.tm.args.length u4c] 33)))
    clear HB_4 A0_4 A1_4 X0_4
    have BX0_5 := Lib.hid (thr_new w4 (.bool t0.var) (.string t0.tm.name) (.slice u4p t0.tm.args.length u4c) 33 _ rfl)
    go_wp2_with fail
    refine (toLiteral_any t1.var t1.tm _ _ (HV1.out.kept HB_5.out) hw1).mono ?_
    rintro e w5 ⟨u5, rfl, ho, hb⟩
    obtain ⟨u5p, u5c, rfl⟩ := ho.read.is_slice
    clear A0r0 A0r1 A0r3 A0r2 A0lt A1r0 A1r1 A1r3 A1r2 A1lt
    have HB_6 := Lib.hid (carry_below HB_5.out (Nat.le_refl _) hb)
    have A0_6 := Lib.hid (A0_5.out.kept hb)
    have A1_6 := Lib.hid (A1_5.out.kept hb)
    have X0_6 := Lib.hid (X0_5.out.kept hb)
    have BX0_6 := Lib.hid (BX0_5.out.kept hb)
    have z_6 : w4.heap.size + 1 ≤ w5.heap.size := by have := hb.size; simpa using this
    clear HB_5 A0_5 A1_5 X0_5 BX0_5
    have X1_6 := Lib.hid (ho.read)
    clear hb ho
    obtain ⟨A0r0, A0r1, A0r3, A0r2⟩ := A0_6.out
    have A0lt : w.heap.size < w5.heap.size := World.block_lt_of_cell? w5 ⟨w.heap.size, 0, none⟩ A0r0
    obtain ⟨A1r0, A1r1, A1r3, A1r2⟩ := A1_6.out
    have A1lt : (w.heap.size + 1) < w5.heap.size := World.block_lt_of_cell? w5 ⟨(w.heap.size + 1), 0, none⟩ A1r0
    obtain ⟨BX0r0, BX0r1, BX0r3, BX0r2⟩ := BX0_6.out
    have BX0lt : w4.heap.size < w5.heap.size := World.block_lt_of_cell? w5 ⟨w4.heap.size, 0, none⟩ BX0r0
    have HB_7 := Lib.hid (HB_6.out.alloc HB_6.out.size (.cells #[.bool t1.var, .string t1.tm.name, .slice u5p t1.tm.args.length u5c] 33))
    have A0_7 := Lib.hid (A0_6.out.kept ((Below.refl w5.heap.size w5).alloc (Nat.le_refl _) (.cells #[.bool t1.var, .string t1.tm.name, .slice u5p t1.tm.args.length u5c] 33)))
    have A1_7 := Lib.hid (A1_6.out.kept ((Below.refl w5.heap.size w5).alloc (Nat.le_refl _) (.cells #[.bool t1.var, .string t1.tm.name, .slice u5p t1.tm.args.length u5c] 33)))
    have X0_7 := Lib.hid (X0_6.out.kept ((Below.refl w5.heap.size w5).alloc (Nat.le_refl _) (.cells #[.bool t1.var, .string t1.tm.name, .slice u5p t1.tm.args.length u5c] 33)))
    have BX0_7 := Lib.hid (BX0_6.out.kept ((Below.refl w5.heap.size w5).alloc (Nat.le_refl _) (.cells #[.bool t1.var, .string t1.tm.name, .slice u5p t1.tm.args.length u5c] 33)))
    have X1_7 := Lib.hid (X1_6.out.kept ((Below.refl w5.heap.size w5).alloc (Nat.le_refl _) (.cells #[.bool t1.var, .string t1.tm.name, .slice u5p t1.tm.args.length u5c] 33)))
    clear HB_6 A0_6 A1_6 X0_6 BX0_6 X1_6
    have BX1_7 := Lib.hid (thr_new w5 (.bool t1.var) (.string t1.tm.name) (.slice u5p t1.tm.args.length u5c) 33 _ rfl)
    go_wp2_with fail
    refine (HCI.out _ _ _ X0_7.out X1_7.out).mono ?_
    rintro e w6 ⟨rfl, hb⟩
    clear A0r0 A0r1 A0r3 A0r2 A0lt A1r0 A1r1 A1r3 A1r2 A1lt BX0r0 BX0r1 BX0r3 BX0r2 BX0lt
    have HB_8 := Lib.hid (carry_below HB_7.out (Nat.le_refl _) hb)
    have A0_8 := Lib.hid (A0_7.out.kept hb)
    have A1_8 := Lib.hid (A1_7.out.kept hb)
    have X0_8 := Lib.hid (X0_7.out.kept hb)
    have BX0_8 := Lib.hid (BX0_7.out.kept hb)
    have X1_8 := Lib.hid (X1_7.out.kept hb)
    have BX1_8 := Lib.hid (BX1_7.out.kept hb)
    have z_8 : w5.heap.size + 1 ≤ w6.heap.size := by have := hb.size; simpa using this
    clear HB_7 A0_7 A1_7 X0_7 BX0_7 X1_7 BX1_7
    clear hb
    obtain ⟨A0r0, A0r1, A0r3, A0r2⟩ := A0_8.out
    have A0lt : w.heap.size < w6.heap.size := World.block_lt_of_cell? w6 ⟨w.heap.size, 0, none⟩ A0r0
    obtain ⟨A1r0, A1r1, A1r3, A1r2⟩ := A1_8.out
    have A1lt : (w.heap.size + 1) < w6.heap.size := World.block_lt_of_cell? w6 ⟨(w.heap.size + 1), 0, none⟩ A1r0
    obtain ⟨BX0r0, BX0r1, BX0r3, BX0r2⟩ := BX0_8.out
    have BX0lt : w4.heap.size < w6.heap.size := World.block_lt_of_cell? w6 ⟨w4.heap.size, 0, none⟩ BX0r0
    obtain ⟨BX1r0, BX1r1, BX1r3, BX1r2⟩ := BX1_8.out
    have BX1lt : w5.heap.size < w6.heap.size := World.block_lt_of_cell? w6 ⟨w5.heap.size, 0, none⟩ BX1r0
    have CT : Hid (∀ W : World, Below w6.heap.size w6 W → Calls Try.prog 16 #[.agg #[.bool t0.var, .string t0.tm.name, .slice pa0 t0.tm.args.length ca0]] W (ToLitEnd t0.var t0.tm W)) := Lib.hid (fun W hW => toLiteral_any t0.var t0.tm W _ (HV0.out.kept ((HB_8.out).trans (hW.mono HB_8.out.size))) hw0)
    have CE : Hid (∀ (W : World) (q0 : Value), Below w6.heap.size w6 W → TmS W q0 t0.tm.args → Calls Try.prog 18 #[.agg #[.bool t0.var, .string t0.tm.name, .slice u4p t0.tm.args.length u4c], .agg #[.bool t0.var, .string t0.tm.name, q0]] W (Ans (.bool true) W)) := Lib.hid (fun W q0 hW hv => by
      exact eqLiteral_any t0.var t0.tm W _ _ (X0_8.out.kept hW) hv HL0.out)
    have hB0 : Below w6.heap.size w6 w6.drew := (Below.refl _ _).drew
    go_wp2_with fail
    go_region_held3 (fun w' => w'.cell? ⟨w.heap.size, 0, none⟩ = some (.bool t0.var) ∧ w'.cell? ⟨w.heap.size, 1, none⟩ = some (.string t0.tm.name) ∧ w'.cell? ⟨w.heap.size, 2, none⟩ = some (.slice pa0 t0.tm.args.length ca0) ∧ w'.cell? ⟨w4.heap.size, 0, none⟩ = some (.bool t0.var) ∧ w'.cell? ⟨w4.heap.size, 1, none⟩ = some (.string t0.tm.name) ∧ w'.cell? ⟨w4.heap.size, 2, none⟩ = some (.slice u4p t0.tm.args.length u4c) ∧ Below w6.heap.size w6 w') (first | exact ⟨by assumption, by assumption, by assumption, by assumption, by assumption, by assumption, by assumption⟩ | go_keep) (first | (go_at_call 16; refine (CT.out _ hB0).mono ?_; rintro e w7a ⟨v6, rfl, ho, hb⟩; have q0 : w7a.cell? ⟨w.heap.size, 0, none⟩ = some (.bool t0.var) := carry_cell' hb (by assumption); have q1 : w7a.cell? ⟨w.heap.size, 1, none⟩ = some (.string t0.tm.name) := carry_cell' hb (by assumption); have q2 : w7a.cell? ⟨w.heap.size, 2, none⟩ = some (.slice pa0 t0.tm.args.length ca0) := carry_cell' hb (by assumption); have q3 : w7a.cell? ⟨w4.heap.size, 0, none⟩ = some (.bool t0.var) := carry_cell' hb (by assumption); have q4 : w7a.cell? ⟨w4.heap.size, 1, none⟩ = some (.string t0.tm.name) := carry_cell' hb (by assumption); have q5 : w7a.cell? ⟨w4.heap.size, 2, none⟩ = some (.slice u4p t0.tm.args.length u4c) := carry_cell' hb (by assumption); have hB6 := carry_below hB0 (Nat.le_refl _) hb; have HT6 := Lib.hid ho.read; clear hb ho) | (go_at_call 18; refine (CE.out _ _ hB6 HT6.out).mono ?_; rintro e w7 ⟨rfl, hb⟩; have r0 : w7.cell? ⟨w.heap.size, 0, none⟩ = some (.bool t0.var) := carry_cell' hb (by assumption); have r1 : w7.cell? ⟨w.heap.size, 1, none⟩ = some (.string t0.tm.name) := carry_cell' hb (by assumption); have r2 : w7.cell? ⟨w.heap.size, 2, none⟩ = some (.slice pa0 t0.tm.args.length ca0) := carry_cell' hb (by assumption); have r3 : w7.cell? ⟨w4.heap.size, 0, none⟩ = some (.bool t0.var) := carry_cell' hb (by assumption); have r4 : w7.cell? ⟨w4.heap.size, 1, none⟩ = some (.string t0.tm.name) := carry_cell' hb (by assumption); have r5 : w7.cell? ⟨w4.heap.size, 2, none⟩ = some (.slice u4p t0.tm.args.length u4c) := carry_cell' hb (by assumption); have hB7 := carry_below hB6 (Nat.le_refl _) hb; clear hb))
    clear A0r0 A0r1 A0r3 A0r2 A0lt A1r0 A1r1 A1r3 A1r2 A1lt BX0r0 BX0r1 BX0r3 BX0r2 BX0lt BX1r0 BX1r1 BX1r3 BX1r2 BX1lt
    have HB_9 := Lib.hid (carry_below HB_8.out (Nat.le_refl _) hB7)
    have A0_9 := Lib.hid (A0_8.out.kept hB7)
    have A1_9 := Lib.hid (A1_8.out.kept hB7)
    have X0_9 := Lib.hid (X0_8.out.kept hB7)
    have BX0_9 := Lib.hid (BX0_8.out.kept hB7)
    have X1_9 := Lib.hid (X1_8.out.kept hB7)
    have BX1_9 := Lib.hid (BX1_8.out.kept hB7)
    have z_9 : w6.heap.size ≤ w7.heap.size := hB7.size
    clear HB_8 A0_8 A1_8 X0_8 BX0_8 X1_8 BX1_8
    clear hB7 hB6 hB0 q0 r0 q1 r1 q2 r2 q3 r3 q4 r4 q5 r5 HT6 CT CE
    obtain ⟨A0r0, A0r1, A0r3, A0r2⟩ := A0_9.out
    have A0lt : w.heap.size < w7.heap.size := World.block_lt_of_cell? w7 ⟨w.heap.size, 0, none⟩ A0r0
    obtain ⟨A1r0, A1r1, A1r3, A1r2⟩ := A1_9.out
    have A1lt : (w.heap.size + 1) < w7.heap.size := World.block_lt_of_cell? w7 ⟨(w.heap.size + 1), 0, none⟩ A1r0
    obtain ⟨BX0r0, BX0r1, BX0r3, BX0r2⟩ := BX0_9.out
    have BX0lt : w4.heap.size < w7.heap.size := World.block_lt_of_cell? w7 ⟨w4.heap.size, 0, none⟩ BX0r0
    obtain ⟨BX1r0, BX1r1, BX1r3, BX1r2⟩ := BX1_9.out
    have BX1lt : w5.heap.size < w7.heap.size := World.block_lt_of_cell? w7 ⟨w5.heap.size, 0, none⟩ BX1r0
    have CT : Hid (∀ W : World, Below w7.heap.size w7 W → Calls Try.prog 16 #[.agg #[.bool t1.var, .string t1.tm.name, .slice pa1 t1.tm.args.length ca1]] W (ToLitEnd t1.var t1.tm W)) := Lib.hid (fun W hW => toLiteral_any t1.var t1.tm W _ (HV1.out.kept ((HB_9.out).trans (hW.mono HB_9.out.size))) hw1)
    have CE : Hid (∀ (W : World) (q1 : Value), Below w7.heap.size w7 W → TmS W q1 t1.tm.args → Calls Try.prog 18 #[.agg #[.bool t1.var, .string t1.tm.name, .slice u5p t1.tm.args.length u5c], .agg #[.bool t1.var, .string t1.tm.name, q1]] W (Ans (.bool true) W)) := Lib.hid (fun W q1 hW hv => by
      exact eqLiteral_any t1.var t1.tm W _ _ (X1_9.out.kept hW) hv HL1.out)
    have hB0 : Below w7.heap.size w7 w7.drew := (Below.refl _ _).drew
    go_wp2_with fail
    go_region_held3 (fun w' => w'.cell? ⟨w.heap.size + 1, 0, none⟩ = some (.bool t1.var) ∧ w'.cell? ⟨w.heap.size + 1, 1, none⟩ = some (.string t1.tm.name) ∧ w'.cell? ⟨w.heap.size + 1, 2, none⟩ = some (.slice pa1 t1.tm.args.length ca1) ∧ w'.cell? ⟨w5.heap.size, 0, none⟩ = some (.bool t1.var) ∧ w'.cell? ⟨w5.heap.size, 1, none⟩ = some (.string t1.tm.name) ∧ w'.cell? ⟨w5.heap.size, 2, none⟩ = some (.slice u5p t1.tm.args.length u5c) ∧ Below w7.heap.size w7 w') (first | exact ⟨by assumption, by assumption, by assumption, by assumption, by assumption, by assumption, by assumption⟩ | go_keep) (first | (go_at_call 16; refine (CT.out _ hB0).mono ?_; rintro e w8a ⟨v6, rfl, ho, hb⟩; have q0 : w8a.cell? ⟨w.heap.size + 1, 0, none⟩ = some (.bool t1.var) := carry_cell' hb (by assumption); have q1 : w8a.cell? ⟨w.heap.size + 1, 1, none⟩ = some (.string t1.tm.name) := carry_cell' hb (by assumption); have q2 : w8a.cell? ⟨w.heap.size + 1, 2, none⟩ = some (.slice pa1 t1.tm.args.length ca1) := carry_cell' hb (by assumption); have q3 : w8a.cell? ⟨w5.heap.size, 0, none⟩ = some (.bool t1.var) := carry_cell' hb (by assumption); have q4 : w8a.cell? ⟨w5.heap.size, 1, none⟩ = some (.string t1.tm.name) := carry_cell' hb (by assumption); have q5 : w8a.cell? ⟨w5.heap.size, 2, none⟩ = some (.slice u5p t1.tm.args.length u5c) := carry_cell' hb (by assumption); have hB6 := carry_below hB0 (Nat.le_refl _) hb; have HT6 := Lib.hid ho.read; clear hb ho) | (go_at_call 18; refine (CE.out _ _ hB6 HT6.out).mono ?_; rintro e w8 ⟨rfl, hb⟩; have r0 : w8.cell? ⟨w.heap.size + 1, 0, none⟩ = some (.bool t1.var) := carry_cell' hb (by assumption); have r1 : w8.cell? ⟨w.heap.size + 1, 1, none⟩ = some (.string t1.tm.name) := carry_cell' hb (by assumption); have r2 : w8.cell? ⟨w.heap.size + 1, 2, none⟩ = some (.slice pa1 t1.tm.args.length ca1) := carry_cell' hb (by assumption); have r3 : w8.cell? ⟨w5.heap.size, 0, none⟩ = some (.bool t1.var) := carry_cell' hb (by assumption); have r4 : w8.cell? ⟨w5.heap.size, 1, none⟩ = some (.string t1.tm.name) := carry_cell' hb (by assumption); have r5 : w8.cell? ⟨w5.heap.size, 2, none⟩ = some (.slice u5p t1.tm.args.length u5c) := carry_cell' hb (by assumption); have hB7 := carry_below hB6 (Nat.le_refl _) hb; clear hb))
    clear A0r0 A0r1 A0r3 A0r2 A0lt A1r0 A1r1 A1r3 A1r2 A1lt BX0r0 BX0r1 BX0r3 BX0r2 BX0lt BX1r0 BX1r1 BX1r3 BX1r2 BX1lt
    have HB_10 := Lib.hid (carry_below HB_9.out (Nat.le_refl _) hB7)
    have A0_10 := Lib.hid (A0_9.out.kept hB7)
    have A1_10 := Lib.hid (A1_9.out.kept hB7)
    have X0_10 := Lib.hid (X0_9.out.kept hB7)
    have BX0_10 := Lib.hid (BX0_9.out.kept hB7)
    have X1_10 := Lib.hid (X1_9.out.kept hB7)
    have BX1_10 := Lib.hid (BX1_9.out.kept hB7)
    have z_10 : w7.heap.size ≤ w8.heap.size := hB7.size
    clear HB_9 A0_9 A1_9 X0_9 BX0_9 X1_9 BX1_9
    clear hB7 hB6 hB0 q0 r0 q1 r1 q2 r2 q3 r3 q4 r4 q5 r5 HT6 CT CE
    obtain ⟨A0r0, A0r1, A0r3, A0r2⟩ := A0_10.out
    have A0lt : w.heap.size < w8.heap.size := World.block_lt_of_cell? w8 ⟨w.heap.size, 0, none⟩ A0r0
    obtain ⟨A1r0, A1r1, A1r3, A1r2⟩ := A1_10.out
    have A1lt : (w.heap.size + 1) < w8.heap.size := World.block_lt_of_cell? w8 ⟨(w.heap.size + 1), 0, none⟩ A1r0
    obtain ⟨BX0r0, BX0r1, BX0r3, BX0r2⟩ := BX0_10.out
    have BX0lt : w4.heap.size < w8.heap.size := World.block_lt_of_cell? w8 ⟨w4.heap.size, 0, none⟩ BX0r0
    obtain ⟨BX1r0, BX1r1, BX1r3, BX1r2⟩ := BX1_10.out
    have BX1lt : w5.heap.size < w8.heap.size := World.block_lt_of_cell? w8 ⟨w5.heap.size, 0, none⟩ BX1r0
    go_wp2
    go_ret
    exact ⟨rfl, HB_10.out⟩

theorem walk (t0 : Lt) (va0 : Value) (t1 : Lt) (va1 : Value) (w : World) (h0 : TmS w va0 t0.tm.args) (l0 : t0.tm.lim 9223372036854775807) (h1 : TmS w va1 t1.tm.args) (l1 : t1.tm.lim 9223372036854775807) :
    Calls Try.prog 5 #[.agg #[.bool t0.var, .string t0.tm.name, va0], .agg #[.bool t1.var, .string t1.tm.name, va1]] w fun e w' => e = .returned (.bool true) ∧ Below w.heap.size w w' :=
  core t0 va0 t1 va1 (cmpLA t0 t1) (cmpLB t0 t1) w h0 l0 h1 l1
    (fun hs W q0 q1 h0 h1 => specCmpL_any t0 t1 W _ _ h0 h1 (by omega) (by omega))
    (fun hs W q0 q1 h0 h1 => implCmpL_any t0 t1 W _ _ h0 h1 (by omega) (by omega))

/-! ### THE ROW's STEP: WRITTEN OUT: LEAVE IT -/
set_option maxRecDepth 100000 in
theorem lifted (os : Os) (started : os.Started) (H : Type) (enc : TypeId × Value → H) :
    ReturnsInHanded {} Try.checked os 5 .any (Rows.fnExactCompareLiteralsSpec.pre6 enc Try.prog Try.f5 Rows.fnExactCompareLiteralsRow.domain false) (Rows.fnExactCompareLiteralsSpec.post enc Try.prog Try.f5 false true false false) := by
  refine returnsInHanded_of_change (C := Try.checked) own started (by kernel_rfl) Try.func5
    (ChangeSpec.witness6 (enc := enc) (C := Try.checked) false ⟨#[], #[.agg #[.bool false, .string ByteArray.empty, .slice none 0 0], .agg #[.bool false, .string ByteArray.empty, .slice none 0 0]], []⟩ 8 (by kernel_rfl) (by kernel_rfl) (by kernel_rfl) (by kernel_rfl)) ?_
  intro W base args ds gs before hval0 hW hcnd _
  have hval : ∀ (j : Nat) t v, Try.f5.params[j]? = some t → args[j]? = some v → Value.okWide Try.prog W .any base t v := hval0
  have hW' := hW
  obtain ⟨p, q, hA0, hV, rfl, hfz, hnd⟩ := hW
  have hA : DataW.TrodAll enc Try.prog W 0 (fun _ => true) true Try.f5.params.toList args.toList ds p := hA0
  rw [Try.params5] at hA hval
  obtain ⟨v0, vs0, d0, ds0, p0, q0, hargs, rfl, rfl, h0, r0⟩ := trodAll_cons hA
  obtain ⟨v1, vs1, d1, ds1, p1, q1, rfl, rfl, rfl, h1, r1⟩ := trodAll_cons r0
  obtain ⟨rfl, rfl, rfl⟩ := trodAll_nil r1
  obtain rfl : args = #[v0, v1] := by cases args; simp_all
  obtain ⟨rfl, rfl⟩ := trodVars_none hV
  have k0 := h0
  have lt0 : ∀ x ∈ p0, x.block < W.heap.size := by obtain ⟨m, hm⟩ := k0; exact DataW.trod_lt m _ _ _ hm
  obtain ⟨pp0, tt0, va0, rfl, tm0, lim0⟩ := open_literal 9223372036854775807 (by unfold maxLen; omega) (hval 0 26 v0 rfl rfl) h0
  have k1 := h1
  have lt1 : ∀ x ∈ p1, x.block < W.heap.size := by obtain ⟨m, hm⟩ := k1; exact DataW.trod_lt m _ _ _ hm
  obtain ⟨pp1, tt1, va1, rfl, tm1, lim1⟩ := open_literal 9223372036854775807 (by unfold maxLen; omega) (hval 1 26 v1 rfl rfl) h1
  clear hA0 hval0
  refine (walk ⟨pp0, tt0⟩ va0 ⟨pp1, tt1⟩ va1 W tm0 lim0 tm1 lim1).mono fun e W' ⟨he, bel⟩ => ?_
  subst he
  exact ⟨_, rfl, _, _, _, [], _, [], hW', trodAll_mk1 (shut_bool Try.underlying4 _), (trodAll_cons_mk (Below.trod laidOut (by kernel_rfl) (of_decide_eq_true (by kernel_rfl)) k0 bel lt0) (trodAll_cons_mk (Below.trod laidOut (by kernel_rfl) (of_decide_eq_true (by kernel_rfl)) k1 bel lt1) trodAll_mk0)), rfl, bel.frame _, fun h => by cases h⟩


theorem jfPlace : (Rows.fnExactCompareLiteralsRow.inPlace == Try.prog.inPlace 5) = true := by kernel_rfl
theorem jfFollow : (Rows.fnExactCompareLiteralsRow.unfollowed == Try.prog.unfollowed 5) = true := by kernel_rfl
theorem jfRecurses : (Rows.fnExactCompareLiteralsRow.recurses == Try.prog.recurses 5) = true := by kernel_rfl
theorem jfNamed : (Rows.fnExactCompareLiteralsRow.named == Try.prog.varsNamed 5) = true := by kernel_rfl
theorem jfKeys : (Rows.fnExactCompareLiteralsRow.plainKeys == Try.prog.plainKeys) = true := by kernel_rfl
theorem facts : joinedFacts Try.prog 5 Try.f5 Rows.fnExactCompareLiteralsSpec Rows.fnExactCompareLiteralsRow = true :=
  jf_of (P := Try.prog) jfLaid jfRowed jfHeard jfEnter jfLifts (by kernel_rfl) (by kernel_rfl) (by kernel_rfl) (by kernel_rfl) (by kernel_rfl) (by kernel_rfl) (by kernel_rfl)
    jfPlace jfFollow jfRecurses jfNamed (by kernel_rfl) (by kernel_rfl) (by kernel_rfl) (by kernel_rfl) (by kernel_rfl) (by kernel_rfl) (by kernel_rfl) (by kernel_rfl) (by kernel_rfl)
    jfKeys (by kernel_rfl) (by kernel_rfl) (by kernel_rfl) (by kernel_rfl) (by kernel_rfl) (by kernel_rfl)

theorem over : Rows.fnExactCompareLiteralsRow.holds Try.pinned (OpenSpec.ofChange Rows.fnExactCompareLiteralsSpec) :=
  OpenClaim.holds_of_wide 5 Try.f5 rfl rfl rfl rfl rfl rfl rfl ⟨rfl, rfl, rfl, rfl, rfl⟩ rfl rfl rfl rfl rfl (by kernel_rfl) Try.func5 facts
    (of_decide_eq_true (by kernel_rfl)) (by unfold Func.isWrapper; first | (rw [if_pos (by decide +kernel)]; kernel_rfl) | (rw [if_neg (by decide +kernel)]; exact ⟨rfl, rfl⟩))
    (fun os started H enc _ => lifted os started H enc)

/-- ████ THE STATEMENT ████ -/
theorem proved : Rows.FnExactCompareLiteralsSaid := over
end Go.Proofs.Ytmlenhjhkpgcnaa.fnExactCompareLiterals
