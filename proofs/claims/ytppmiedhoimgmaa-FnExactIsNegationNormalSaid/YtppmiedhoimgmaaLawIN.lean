/- IsNegationNormal answers as its model for every formula: no condition. -/
import Derived.Test.YtppmiedhoimgmaaSzF
import Derived.Test.YtppmiedhoimgmaaToF
import Derived.Test.YtppmiedhoimgmaaEqF
import Derived.Test.YtppmiedhoimgmaaOpenF
import Derived.Test.YtppmiedhoimgmaaFmI
import Derived.Test.YtppmiedhoimgmaaJf
import Derived.Test.YtppmiedhoimgmaaInI
import Derived.Deep.RegionWith
import Derived.Deep.Cut
import Derived.OpenShut
import Derived.ShutString
import Derived.ChangeOld
namespace Go.Proofs.Ytppmiedhoimgmaa.fnExactIsNegationNormal
open Go.ChangeShapes Go.WideShapes Go.ChangeAt Go.RowKit
open Go.ChangeMaps (open_string shut_string)
set_option linter.unusedVariables false

theorem own : ownKnob Try.prog.godebug = none := by kernel_rfl
theorem laidOut : laidOutB Try.prog = true := by kernel_rfl

/-- What a statement leaves that calls the model. -/
def Got (r ok : Bool) (w : World) (x y : Value) (w' : World) : Prop := x = .bool r ∧ y = .bool ok ∧ Below w.heap.size w w'

set_option maxRecDepth 100000 in
set_option maxHeartbeats 16000000 in
theorem core (t0 : Fm) (va0 vp0 : Value) (r ok : Bool) (w : World) (h0 : FmV w va0 vp0 t0) (l0 : t0.lim 9223372036854775807)
    (hcs : t0.wt ≤ 1048576 → ∀ (W : World) (q0a q0p : Value), FmV W q0a q0p t0 → Calls Try.prog 46 #[.agg #[.int .i64 t0.op, .string t0.atom.name, q0a, .string t0.var, q0p]] W (Ans (.tuple #[.bool r, .bool ok]) W))
    (hci : t0.wt ≤ 1048576 → ∀ (W : World) (q0a q0p : Value), FmV W q0a q0p t0 → Calls Try.prog 47 #[.agg #[.int .i64 t0.op, .string t0.atom.name, q0a, .string t0.var, q0p]] W (Ans (.tuple #[.bool r, .bool ok]) W)) :
    Calls Try.prog 8 #[.agg #[.int .i64 t0.op, .string t0.atom.name, va0, .string t0.var, vp0]] w fun e w' => e = .returned (.bool true) ∧ Below w.heap.size w w' := by
  obtain ⟨pa0, ca0, pp0, cp0, rfl, rfl⟩ := h0.open
  have HV0 := Lib.hid h0
  have HLIM0 := Lib.hid l0
  have HCS0 := Lib.hid hcs
  have HCI0 := Lib.hid hci
  clear hcs hci h0 l0
  have HB_0 := Lib.hid ((Below.refl w.heap.size w).alloc (Nat.le_refl _) (.cells #[.int .i64 t0.op, .string t0.atom.name, .slice pa0 t0.atom.args.length ca0, .string t0.var, .slice pp0 t0.parts.length cp0] 63))
  have A0_0 := Lib.hid (fivB_new w (.int .i64 t0.op) (.string t0.atom.name) (.slice pa0 t0.atom.args.length ca0) (.string t0.var) (.slice pp0 t0.parts.length cp0) 63 _ rfl)
  go_enter Try.func8, Try.ntmps8
  go_wp2_with fail
  refine (szFmV_any t0 _ _ _ 1048576 (HV0.out.kept HB_0.out) HLIM0.out (by omega) (by omega)).mono ?_
  rintro e w1 ⟨rfl, hb⟩
  have HB_1 := Lib.hid (carry_below HB_0.out (Nat.le_refl _) hb)
  have A0_1 := Lib.hid (A0_0.out.kept hb)
  have z_1 : w.heap.size + 1 ≤ w1.heap.size := by have := hb.size; simpa using this
  have z_0 : w.heap.size + 1 ≤ w1.heap.size := z_1
  clear hb
  obtain ⟨A0r0, A0r1, A0r2, A0r3, A0r4, A0r5⟩ := A0_1.out
  have A0lt : w.heap.size < w1.heap.size := World.block_lt_of_cell? w1 ⟨w.heap.size, 0, none⟩ A0r0
  rcases szR_cases 1048576 (t0.wt) with ⟨c0a, c0b⟩ | ⟨c0a, c0b⟩
  · rw [c0b]
    clear c0b
    go_wp2
    go_ret
    exact ⟨rfl, HB_1.out⟩
  rw [c0b]
  clear c0b
  have hcl0 : (0 : Int) ≤ 1048576 - ((t0.wt : Nat) : Int) := by omega
  have hcn0 : ¬ 1048576 - ((t0.wt : Nat) : Int) < 0 := by omega
  have hsum : t0.wt ≤ 1048576 := by omega
  have hw0 : t0.wt ≤ 1048576 := by omega
  have HL0 := Lib.hid (Fm.lim_of_wt t0 1048576 hw0)
  have HCS := Lib.hid (HCS0.out hsum)
  have HCI := Lib.hid (HCI0.out hsum)
  go_wp2_with fail
  refine (toFmV_any t0 _ _ _ (HV0.out.kept HB_1.out) hw0).mono ?_
  rintro e w2 ⟨u2a, u2q, rfl, ho, hb⟩
  obtain ⟨u2p, u2c, u2pp, u2pc, rfl, rfl⟩ := ho.read.open
  clear A0r0 A0r1 A0r2 A0r3 A0r4 A0r5 A0lt
  have HB_2 := Lib.hid (carry_below HB_1.out (Nat.le_refl _) hb)
  have A0_2 := Lib.hid (A0_1.out.kept hb)
  have z_2 : w1.heap.size ≤ w2.heap.size := hb.size
  clear HB_1 A0_1
  have Q0_2 := Lib.hid (ho.read)
  clear hb ho
  obtain ⟨A0r0, A0r1, A0r2, A0r3, A0r4, A0r5⟩ := A0_2.out
  have A0lt : w.heap.size < w2.heap.size := World.block_lt_of_cell? w2 ⟨w.heap.size, 0, none⟩ A0r0
  go_wp2_with fail
  refine (HCS.out _ _ _ Q0_2.out).mono ?_
  rintro e w3 ⟨rfl, hb⟩
  clear A0r0 A0r1 A0r2 A0r3 A0r4 A0r5 A0lt
  have HB_3 := Lib.hid (carry_below HB_2.out (Nat.le_refl _) hb)
  have A0_3 := Lib.hid (A0_2.out.kept hb)
  have Q0_3 := Lib.hid (Q0_2.out.kept hb)
  have z_3 : w2.heap.size ≤ w3.heap.size := hb.size
  clear HB_2 A0_2 Q0_2
  clear hb
  obtain ⟨A0r0, A0r1, A0r2, A0r3, A0r4, A0r5⟩ := A0_3.out
  have A0lt : w.heap.size < w3.heap.size := World.block_lt_of_cell? w3 ⟨w.heap.size, 0, none⟩ A0r0
  go_wp2_with fail
  refine (toFmV_any t0 _ _ _ (HV0.out.kept HB_3.out) hw0).mono ?_
  rintro e w4 ⟨u4a, u4q, rfl, ho, hb⟩
  obtain ⟨u4p, u4c, u4pp, u4pc, rfl, rfl⟩ := ho.read.open
  clear A0r0 A0r1 A0r2 A0r3 A0r4 A0r5 A0lt
  have HB_4 := Lib.hid (carry_below HB_3.out (Nat.le_refl _) hb)
  have A0_4 := Lib.hid (A0_3.out.kept hb)
  have z_4 : w3.heap.size ≤ w4.heap.size := hb.size
  clear HB_3 A0_3
  have X0_4 := Lib.hid (ho.read)
  clear hb ho
  obtain ⟨A0r0, A0r1, A0r2, A0r3, A0r4, A0r5⟩ := A0_4.out
  have A0lt : w.heap.size < w4.heap.size := World.block_lt_of_cell? w4 ⟨w.heap.size, 0, none⟩ A0r0
  have HB_5 := Lib.hid (HB_4.out.alloc HB_4.out.size (.cells #[.int .i64 t0.op, .string t0.atom.name, .slice u4p t0.atom.args.length u4c, .string t0.var, .slice u4pp t0.parts.length u4pc] 68))
  have A0_5 := Lib.hid (A0_4.out.kept ((Below.refl w4.heap.size w4).alloc (Nat.le_refl _) (.cells #[.int .i64 t0.op, .string t0.atom.name, .slice u4p t0.atom.args.length u4c, .string t0.var, .slice u4pp t0.parts.length u4pc] 68)))
  have X0_5 := Lib.hid (X0_4.out.kept ((Below.refl w4.heap.size w4).alloc (Nat.le_refl _) (.cells #[.int .i64 t0.op, .string t0.atom.name, .slice u4p t0.atom.args.length u4c, .string t0.var, .slice u4pp t0.parts.length u4pc] 68)))
  clear HB_4 A0_4 X0_4
  have BX0_5 := Lib.hid (fivB_new w4 (.int .i64 t0.op) (.string t0.atom.name) (.slice u4p t0.atom.args.length u4c) (.string t0.var) (.slice u4pp t0.parts.length u4pc) 68 _ rfl)
  go_wp2_with fail
  refine (HCI.out _ _ _ X0_5.out).mono ?_
  rintro e w5 ⟨rfl, hb⟩
  clear A0r0 A0r1 A0r2 A0r3 A0r4 A0r5 A0lt
  have HB_6 := Lib.hid (carry_below HB_5.out (Nat.le_refl _) hb)
  have A0_6 := Lib.hid (A0_5.out.kept hb)
  have X0_6 := Lib.hid (X0_5.out.kept hb)
  have BX0_6 := Lib.hid (BX0_5.out.kept hb)
  have z_6 : w4.heap.size + 1 ≤ w5.heap.size := by have := hb.size; simpa using this
  clear HB_5 A0_5 X0_5 BX0_5
  clear hb
  obtain ⟨A0r0, A0r1, A0r2, A0r3, A0r4, A0r5⟩ := A0_6.out
  have A0lt : w.heap.size < w5.heap.size := World.block_lt_of_cell? w5 ⟨w.heap.size, 0, none⟩ A0r0
  obtain ⟨BX0r0, BX0r1, BX0r2, BX0r3, BX0r4, BX0r5⟩ := BX0_6.out
  have BX0lt : w4.heap.size < w5.heap.size := World.block_lt_of_cell? w5 ⟨w4.heap.size, 0, none⟩ BX0r0
  have CT : Hid (∀ W : World, Below w5.heap.size w5 W → Calls Try.prog 36 #[.agg #[.int .i64 t0.op, .string t0.atom.name, .slice pa0 t0.atom.args.length ca0, .string t0.var, .slice pp0 t0.parts.length cp0]] W (ToFmEnd t0 W)) := Lib.hid (fun W hW => toFmV_any t0 W _ _ (HV0.out.kept ((HB_6.out).trans (hW.mono HB_6.out.size))) hw0)
  have CE : Hid (∀ (W : World) (q0a q0p : Value), Below w5.heap.size w5 W → FmV W q0a q0p t0 → Calls Try.prog 39 #[.agg #[.int .i64 t0.op, .string t0.atom.name, .slice u4p t0.atom.args.length u4c, .string t0.var, .slice u4pp t0.parts.length u4pc], .agg #[.int .i64 t0.op, .string t0.atom.name, q0a, .string t0.var, q0p]] W (EqEnd true W)) := Lib.hid (fun W q0a q0p hW hv => by
    have h := eqFmV_any t0 W _ _ _ _ (X0_6.out.kept hW) hv HL0.out
    exact h)
  have hB0 : Below w5.heap.size w5 w5.drew := (Below.refl _ _).drew
  go_wp2_with fail
  go_region_held3 (fun w' => w'.cell? ⟨w.heap.size, 0, none⟩ = some (.int .i64 t0.op) ∧ w'.cell? ⟨w.heap.size, 1, none⟩ = some (.string t0.atom.name) ∧ w'.cell? ⟨w.heap.size, 2, none⟩ = some (.slice pa0 t0.atom.args.length ca0) ∧ w'.cell? ⟨w.heap.size, 3, none⟩ = some (.string t0.var) ∧ w'.cell? ⟨w.heap.size, 4, none⟩ = some (.slice pp0 t0.parts.length cp0) ∧ w'.cell? ⟨w4.heap.size, 0, none⟩ = some (.int .i64 t0.op) ∧ w'.cell? ⟨w4.heap.size, 1, none⟩ = some (.string t0.atom.name) ∧ w'.cell? ⟨w4.heap.size, 2, none⟩ = some (.slice u4p t0.atom.args.length u4c) ∧ w'.cell? ⟨w4.heap.size, 3, none⟩ = some (.string t0.var) ∧ w'.cell? ⟨w4.heap.size, 4, none⟩ = some (.slice u4pp t0.parts.length u4pc) ∧ Below w5.heap.size w5 w') (first | exact ⟨by assumption, by assumption, by assumption, by assumption, by assumption, by assumption, by assumption, by assumption, by assumption, by assumption, by assumption⟩ | go_keep) (first | (go_at_call 36; refine (CT.out _ hB0).mono ?_; rintro e w6a ⟨v6a, v6q, rfl, ho, hb⟩; have q0 : w6a.cell? ⟨w.heap.size, 0, none⟩ = some (.int .i64 t0.op) := carry_cell' hb (by assumption); have q1 : w6a.cell? ⟨w.heap.size, 1, none⟩ = some (.string t0.atom.name) := carry_cell' hb (by assumption); have q2 : w6a.cell? ⟨w.heap.size, 2, none⟩ = some (.slice pa0 t0.atom.args.length ca0) := carry_cell' hb (by assumption); have q3 : w6a.cell? ⟨w.heap.size, 3, none⟩ = some (.string t0.var) := carry_cell' hb (by assumption); have q4 : w6a.cell? ⟨w.heap.size, 4, none⟩ = some (.slice pp0 t0.parts.length cp0) := carry_cell' hb (by assumption); have q5 : w6a.cell? ⟨w4.heap.size, 0, none⟩ = some (.int .i64 t0.op) := carry_cell' hb (by assumption); have q6 : w6a.cell? ⟨w4.heap.size, 1, none⟩ = some (.string t0.atom.name) := carry_cell' hb (by assumption); have q7 : w6a.cell? ⟨w4.heap.size, 2, none⟩ = some (.slice u4p t0.atom.args.length u4c) := carry_cell' hb (by assumption); have q8 : w6a.cell? ⟨w4.heap.size, 3, none⟩ = some (.string t0.var) := carry_cell' hb (by assumption); have q9 : w6a.cell? ⟨w4.heap.size, 4, none⟩ = some (.slice u4pp t0.parts.length u4pc) := carry_cell' hb (by assumption); have hB6 := carry_below hB0 (Nat.le_refl _) hb; have HT6 := Lib.hid ho.read; clear hb ho) | (go_at_call 39; refine (CE.out _ _ _ hB6 HT6.out).mono ?_; rintro e w6 ⟨rfl, hb⟩; have r0 : w6.cell? ⟨w.heap.size, 0, none⟩ = some (.int .i64 t0.op) := carry_cell' hb (by assumption); have r1 : w6.cell? ⟨w.heap.size, 1, none⟩ = some (.string t0.atom.name) := carry_cell' hb (by assumption); have r2 : w6.cell? ⟨w.heap.size, 2, none⟩ = some (.slice pa0 t0.atom.args.length ca0) := carry_cell' hb (by assumption); have r3 : w6.cell? ⟨w.heap.size, 3, none⟩ = some (.string t0.var) := carry_cell' hb (by assumption); have r4 : w6.cell? ⟨w.heap.size, 4, none⟩ = some (.slice pp0 t0.parts.length cp0) := carry_cell' hb (by assumption); have r5 : w6.cell? ⟨w4.heap.size, 0, none⟩ = some (.int .i64 t0.op) := carry_cell' hb (by assumption); have r6 : w6.cell? ⟨w4.heap.size, 1, none⟩ = some (.string t0.atom.name) := carry_cell' hb (by assumption); have r7 : w6.cell? ⟨w4.heap.size, 2, none⟩ = some (.slice u4p t0.atom.args.length u4c) := carry_cell' hb (by assumption); have r8 : w6.cell? ⟨w4.heap.size, 3, none⟩ = some (.string t0.var) := carry_cell' hb (by assumption); have r9 : w6.cell? ⟨w4.heap.size, 4, none⟩ = some (.slice u4pp t0.parts.length u4pc) := carry_cell' hb (by assumption); have hB7 := carry_below hB6 (Nat.le_refl _) hb; clear hb))
  clear A0r0 A0r1 A0r2 A0r3 A0r4 A0r5 A0lt BX0r0 BX0r1 BX0r2 BX0r3 BX0r4 BX0r5 BX0lt
  have HB_7 := Lib.hid (carry_below HB_6.out (Nat.le_refl _) hB7)
  have A0_7 := Lib.hid (A0_6.out.kept hB7)
  have X0_7 := Lib.hid (X0_6.out.kept hB7)
  have BX0_7 := Lib.hid (BX0_6.out.kept hB7)
  have z_7 : w5.heap.size ≤ w6.heap.size := hB7.size
  clear HB_6 A0_6 X0_6 BX0_6
  clear hB7 hB6 hB0 q0 r0 q1 r1 q2 r2 q3 r3 q4 r4 q5 r5 q6 r6 q7 r7 q8 r8 q9 r9 HT6 CT CE
  obtain ⟨A0r0, A0r1, A0r2, A0r3, A0r4, A0r5⟩ := A0_7.out
  have A0lt : w.heap.size < w6.heap.size := World.block_lt_of_cell? w6 ⟨w.heap.size, 0, none⟩ A0r0
  obtain ⟨BX0r0, BX0r1, BX0r2, BX0r3, BX0r4, BX0r5⟩ := BX0_7.out
  have BX0lt : w4.heap.size < w6.heap.size := World.block_lt_of_cell? w6 ⟨w4.heap.size, 0, none⟩ BX0r0
  go_wp2
  go_ret
  exact ⟨rfl, HB_7.out⟩

theorem walk (t0 : Fm) (va0 vp0 : Value) (w : World) (h0 : FmV w va0 vp0 t0) (l0 : t0.lim 9223372036854775807) :
    Calls Try.prog 8 #[.agg #[.int .i64 t0.op, .string t0.atom.name, va0, .string t0.var, vp0]] w fun e w' => e = .returned (.bool true) ∧ Below w.heap.size w w' :=
  core t0 va0 vp0 (inR t0) (fgoodB t0) w h0 l0
    (fun hs W q0a q0p h0 => specIn_any t0 W _ _ h0 (by omega))
    (fun hs W q0a q0p h0 => implIn_any t0 W _ _ h0 (by omega))

/-! ### THE ROW's STEP: WRITTEN OUT: LEAVE IT -/
set_option maxRecDepth 100000 in
theorem lifted (os : Os) (started : os.Started) (H : Type) (enc : TypeId × Value → H) :
    ReturnsInHanded {} Try.checked os 8 .any (Rows.fnExactIsNegationNormalSpec.pre6 enc Try.prog Try.f8 Rows.fnExactIsNegationNormalRow.domain false) (Rows.fnExactIsNegationNormalSpec.post enc Try.prog Try.f8 false true false false) := by
  refine returnsInHanded_of_change (C := Try.checked) own started (by kernel_rfl) Try.func8
    (ChangeSpec.witness6 (enc := enc) (C := Try.checked) false ⟨#[], #[.agg #[.int .i64 0, .string ByteArray.empty, .slice none 0 0, .string ByteArray.empty, .slice none 0 0]], []⟩ 8 (by kernel_rfl) (by kernel_rfl) (by kernel_rfl) (by kernel_rfl)) ?_
  intro W base args ds gs before hval0 hW hcnd _
  have hval : ∀ (j : Nat) t v, Try.f8.params[j]? = some t → args[j]? = some v → Value.okWide Try.prog W .any base t v := hval0
  have hW' := hW
  obtain ⟨p, q, hA0, hV, rfl, hfz, hnd⟩ := hW
  have hA : DataW.TrodAll enc Try.prog W 0 (fun _ => true) true Try.f8.params.toList args.toList ds p := hA0
  rw [Try.params8] at hA hval
  obtain ⟨v0, vs0, d0, ds0, p0, q0, hargs, rfl, rfl, h0, r0⟩ := trodAll_cons hA
  obtain ⟨rfl, rfl, rfl⟩ := trodAll_nil r0
  obtain rfl : args = #[v0] := by cases args; simp_all
  obtain ⟨rfl, rfl⟩ := trodVars_none hV
  have k0 := h0
  have lt0 : ∀ x ∈ p0, x.block < W.heap.size := by obtain ⟨m, hm⟩ := k0; exact DataW.trod_lt m _ _ _ hm
  obtain ⟨t0, va0, vp0, rfl, tm0, fm0, lim0⟩ := open_formula 9223372036854775807 (by unfold maxLen; omega) (hval 0 63 v0 rfl rfl) h0
  clear hA0 hval0
  refine (walk t0 va0 vp0 W ⟨tm0, fm0⟩ lim0).mono fun e W' ⟨he, bel⟩ => ?_
  subst he
  exact ⟨_, rfl, _, _, _, [], _, [], hW', trodAll_mk1 (shut_bool Try.underlying4 _), (trodAll_cons_mk (Below.trod laidOut (by kernel_rfl) (of_decide_eq_true (by kernel_rfl)) k0 bel lt0) trodAll_mk0), rfl, bel.frame _, fun h => by cases h⟩


theorem jfPlace : (Rows.fnExactIsNegationNormalRow.inPlace == Try.prog.inPlace 8) = true := by kernel_rfl
theorem jfFollow : (Rows.fnExactIsNegationNormalRow.unfollowed == Try.prog.unfollowed 8) = true := by kernel_rfl
theorem jfRecurses : (Rows.fnExactIsNegationNormalRow.recurses == Try.prog.recurses 8) = true := by kernel_rfl
theorem jfNamed : (Rows.fnExactIsNegationNormalRow.named == Try.prog.varsNamed 8) = true := by kernel_rfl
theorem jfKeys : (Rows.fnExactIsNegationNormalRow.plainKeys == Try.prog.plainKeys) = true := by kernel_rfl
theorem facts : joinedFacts Try.prog 8 Try.f8 Rows.fnExactIsNegationNormalSpec Rows.fnExactIsNegationNormalRow = true :=
  jf_of (P := Try.prog) jfLaid jfRowed jfHeard jfEnter jfLifts (by kernel_rfl) (by kernel_rfl) (by kernel_rfl) (by kernel_rfl) (by kernel_rfl) (by kernel_rfl) (by kernel_rfl)
    jfPlace jfFollow jfRecurses jfNamed (by kernel_rfl) (by kernel_rfl) (by kernel_rfl) (by kernel_rfl) (by kernel_rfl) (by kernel_rfl) (by kernel_rfl) (by kernel_rfl) (by kernel_rfl)
    jfKeys (by kernel_rfl) (by kernel_rfl) (by kernel_rfl) (by kernel_rfl) (by kernel_rfl) (by kernel_rfl)

theorem over : Rows.fnExactIsNegationNormalRow.holds Try.pinned (OpenSpec.ofChange Rows.fnExactIsNegationNormalSpec) :=
  OpenClaim.holds_of_wide 8 Try.f8 rfl rfl rfl rfl rfl rfl rfl ⟨rfl, rfl, rfl, rfl, rfl⟩ rfl rfl rfl rfl rfl (by kernel_rfl) Try.func8 facts
    (of_decide_eq_true (by kernel_rfl)) (by unfold Func.isWrapper; first | (rw [if_pos (by decide +kernel)]; kernel_rfl) | (rw [if_neg (by decide +kernel)]; exact ⟨rfl, rfl⟩))
    (fun os started H enc _ => lifted os started H enc)

/-- ████ THE STATEMENT ████ -/
theorem proved : Rows.FnExactIsNegationNormalSaid := over
end Go.Proofs.Ytppmiedhoimgmaa.fnExactIsNegationNormal
