/- FormatClause answers as its model for every list of literals: no condition (the library's sentinel is tied to the program's text by the card). -/
import Derived.Test.YtmfdglbldogfaabDoorFmC
import Derived.Test.YtmfdglbldogfaabDoorFmCI
import Derived.Test.YtmfdglbldogfaabDoorSzC
import Derived.Test.YtmfdglbldogfaabDoorToC
import Derived.Test.YtmfdglbldogfaabDoorEqC
import Derived.Test.YtmfdglbldogfaabDoorOpenC
import Derived.Test.YtmfdglbldogfaabDoorCards
import Derived.Test.YtmfdglbldogfaabDoorTie
import Derived.ProofKit
import Derived.OpenShut
import Derived.ShutString
import Derived.ChangeOld
import Derived.Below
import Derived.LaidMore
import Derived.Stop.LaidErr
import Derived.Stop.Joined
import Derived.Lib.LaidTab
import Derived.SevenTiedAt
namespace Go.Proofs.YtmfdglbldogfaabDoor.fnExactFormatClause
open Go.ChangeShapes Go.WideShapes Go.ChangeAt Go.RowKit
open Go.ChangeMaps (open_string shut_string)
set_option linter.unusedVariables false

theorem own : ownKnob Tryd.prog.godebug = none := by kernel_rfl
theorem laidOut : laidOutB Tryd.prog = true := by kernel_rfl

set_option maxHeartbeats 2000000 in
theorem walk (l : List Lt) (va : Value) (w : World) (hv : LtS w va l) (hlim : limC 9223372036854775807 l) :
    Calls Tryd.prog 3 #[.agg #[va]] w fun e w' => e = .returned (.bool true) ∧ Below w.heap.size w w' := by
  obtain ⟨pa, ca, rfl⟩ := hv.is_slice
  have HV := Lib.hid hv
  have HLIM := Lib.hid hlim
  have H2 := Lib.hid (oner_new w (.slice pa l.length ca) 24 _ rfl)
  have HB := Lib.hid ((Below.refl w.heap.size w).alloc (Nat.le_refl _) (.cells #[.slice pa l.length ca] 24))
  clear hv hlim
  go_enter Tryd.func3, Tryd.ntmps3
  go_wp2_with fail
  refine (szClause_any l _ _ 1048576 (HV.out.kept HB.out) HLIM.out (by omega) (by omega)).mono ?_
  rintro e w1 ⟨rfl, hb⟩
  have HB1 := Lib.hid (carry_below HB.out (Nat.le_refl _) hb)
  have H21 := Lib.hid (H2.out.kept hb)
  obtain ⟨a0, a1⟩ := H2.out.kept hb
  clear hb
  rcases szR_cases 1048576 (wtC l) with ⟨c1, c2⟩ | ⟨c1, c2⟩
  · rw [c2]
    clear c2
    go_wp2
    go_ret
    exact ⟨rfl, HB1.out⟩
  · rw [c2]
    clear c2
    have hw : wtC l ≤ 1048576 := by omega
    have HL := Lib.hid (limC_of_wt hw)
    go_wp2_with fail
    refine (toClause_any l _ _ (HV.out.kept HB1.out) hw).mono ?_
    rintro e w2 ⟨v2, rfl, ho, hb⟩
    have HB2 := Lib.hid (carry_below HB1.out (Nat.le_refl _) hb)
    have H22 := Lib.hid (H21.out.kept hb)
    obtain ⟨a0, a1⟩ := H21.out.kept hb
    have HT2 := Lib.hid ho.read
    clear hb ho
    go_wp2_with fail
    refine (specFmtC_any l _ _ HT2.out hw).mono ?_
    rintro e w3 ⟨rfl, hb⟩
    have HB3 := Lib.hid (carry_below HB2.out (Nat.le_refl _) hb)
    have H23 := Lib.hid (H22.out.kept hb)
    obtain ⟨a0, a1⟩ := H22.out.kept hb
    clear hb
    go_wp2_with fail
    refine (toClause_any l _ _ (HV.out.kept HB3.out) hw).mono ?_
    rintro e w4 ⟨v4, rfl, ho, hb⟩
    have HB4 := Lib.hid (carry_below HB3.out (Nat.le_refl _) hb)
    have H24 := Lib.hid (H23.out.kept hb)
    obtain ⟨a0, a1⟩ := H23.out.kept hb
    have HT4 := Lib.hid ho.read
    obtain ⟨px, cx, rfl⟩ := ho.read.is_slice
    have HBX := Lib.hid (HB4.out.alloc HB4.out.size (.cells #[.slice px l.length cx] 30))
    have HTX := Lib.hid (HT4.out.alloc (.cells #[.slice px l.length cx] 30))
    have H2X := Lib.hid (H24.out.alloc (.cells #[.slice px l.length cx] 30))
    have X2X := Lib.hid (oner_new w4 (.slice px l.length cx) 30 _ rfl)
    clear hb ho
    go_wp2_with fail
    refine (implFmtC_any l _ _ HTX.out hw).mono ?_
    rintro e w5 ⟨rfl, hb⟩
    have HB5 := Lib.hid (carry_below HBX.out (Nat.le_refl _) hb)
    obtain ⟨a0, a1⟩ := H2X.out.kept hb
    obtain ⟨x0, x1⟩ := X2X.out.kept hb
    have HTX5 := Lib.hid (HTX.out.kept hb)
    clear hb
    have CT : Hid (∀ W : World, Below w5.heap.size w5 W → Calls Tryd.prog 7 #[.agg #[.slice pa l.length ca]] W (ToClEnd l W)) := Lib.hid (fun W hW => toClause_any l W _ ((HV.out.kept HB5.out).kept hW) hw)
    have CE : Hid (∀ (W : World) (v : Value), Below w5.heap.size w5 W → LtS W v l → Calls Tryd.prog 9 #[.agg #[.slice px l.length cx], .agg #[v]] W (EqEnd true W)) := Lib.hid (fun W v hW hv => by
      have h := eqClause_any l l W _ v (HTX5.out.kept hW) hv HL.out HL.out
      rwa [eqCs_self] at h)
    have hB0 : Below w5.heap.size w5 w5.drew := (Below.refl _ _).drew
    go_wp2_with fail
    go_region_held3 (fun w' => w'.cell? ⟨w.heap.size, 0, none⟩ = some (.slice pa l.length ca) ∧ w'.cell? ⟨w4.heap.size, 0, none⟩ = some (.slice px l.length cx) ∧ Below w5.heap.size w5 w') (first | exact ⟨by assumption, by assumption, by assumption⟩ | go_keep) (first | (go_at_call 7; refine (CT.out _ hB0).mono ?_; rintro e w6 ⟨v6, rfl, ho, hb⟩; have y0 := carry_cell' hb a0; have y2 := carry_cell' hb x0; have hB6 := carry_below hB0 (Nat.le_refl _) hb; have HT6 := Lib.hid ho.read; clear hb ho) | (go_at_call 9; refine (CE.out _ _ hB6 HT6.out).mono ?_; rintro e w7 ⟨rfl, hb⟩; have z0 := carry_cell' hb y0; have z2 := carry_cell' hb y2; have hB7 := carry_below hB6 (Nat.le_refl _) hb; clear hb))
    have HB7 := Lib.hid (carry_below HB5.out (Nat.le_refl _) hB7)
    clear hB7 hB6 hB0
    go_wp2
    go_ret
    exact ⟨rfl, HB7.out⟩

theorem door_met (os : Os) (args : Array Value) : laidMetH Tryd.prog Rows.fnExactFormatClauseRow.laid ((World.doorLaid Tryd.prog 400 os).forCall (fun _ _ => 0) ⟨#[], args, []⟩).memory :=
  laidMetH_of_parts3 (fuel := 8) (laidMet_of_run' 8 (by kernel_rfl) (by kernel_rfl)) (by kernel_rfl) (by kernel_rfl)

set_option maxRecDepth 100000 in
theorem lifted (os : Os) (started : os.Started) (H : Type) (enc : TypeId × Value → H) :
    ReturnsInHanded {} Tryd.checked os 3 .any (fun w args => (Rows.fnExactFormatClauseSpec.pre enc Tryd.prog Tryd.f3 [] false w args ∧ laidMetH Tryd.prog Rows.fnExactFormatClauseRow.laid w) ∧ sizedMet enc Tryd.prog Tryd.f3 (OpenSpec.ofChange Rows.fnExactFormatClauseSpec) false w args)
      (Rows.fnExactFormatClauseSpec.post enc Tryd.prog Tryd.f3 false true false false) := by
  refine returnsInHanded_of_change_and (C := Tryd.checked) (X := fun w _ => laidMetH Tryd.prog Rows.fnExactFormatClauseRow.laid w) (fun _ _ _ hh h => h.of_heap hh) own started (by kernel_rfl) Tryd.func3
    (ChangeSpec.witness_shaped (enc := enc) (C := Tryd.checked) (os := os) (X := fun w _ => laidMetH Tryd.prog Rows.fnExactFormatClauseRow.laid w) false (World.doorLaid Tryd.prog 400 os) #[.agg #[.slice none 0 0]] 8 rfl (World.shaped_of_RefB (by kernel_rfl) (by kernel_rfl)) (by kernel_rfl) (by kernel_rfl) (by kernel_rfl) (door_met os _)) ?_
  intro W base args ds gs before hval0 hW _ _ hL _
  have hval : ∀ (j : Nat) t v, Tryd.f3.params[j]? = some t → args[j]? = some v → Value.okWide Tryd.prog W .any base t v := hval0
  have hW' := hW
  obtain ⟨p, q, hA0, hV, rfl, hfz, hnd⟩ := hW
  have hA : DataW.TrodAll enc Tryd.prog W 0 (fun _ => true) true Tryd.f3.params.toList args.toList ds p := hA0
  rw [Tryd.params3] at hA hval
  obtain ⟨v0, vs0, d0, ds0, p0, q0, hargs, rfl, rfl, h0, r0⟩ := trodAll_cons hA
  obtain ⟨rfl, rfl, rfl⟩ := trodAll_nil r0
  obtain rfl : args = #[v0] := by cases args; simp_all
  obtain ⟨rfl, rfl⟩ := trodVars_none hV
  have k0 := h0
  have lt0 : ∀ x ∈ p0, x.block < W.heap.size := by obtain ⟨m, hm⟩ := k0; exact DataW.trod_lt m _ _ _ hm
  obtain ⟨vl0, l0, rfl, ls0, lim0⟩ := open_clause 9223372036854775807 (by unfold maxLen; omega) (hval 0 24 v0 rfl rfl) h0
  clear hA0 hval0
  refine (walk l0 vl0 W ls0 lim0).mono fun e W' ⟨he, bel⟩ => ?_
  subst he
  exact ⟨_, rfl, _, _, _, [], _, [], hW', trodAll_mk1 (shut_bool Tryd.underlying4 _), (trodAll_cons_mk (Below.trod laidOut (by kernel_rfl) (of_decide_eq_true (by kernel_rfl)) k0 bel lt0) trodAll_mk0), rfl, bel.frame _, fun h => by cases h⟩


theorem said : Rows.FnExactFormatClauseSaid :=
  OpenClaim.holds_of_wide 3 Tryd.f3 rfl rfl rfl rfl rfl rfl rfl ⟨rfl, rfl, rfl, rfl, rfl⟩ rfl rfl rfl rfl rfl (by kernel_rfl) Tryd.func3 (by kernel_rfl)
    (of_decide_eq_true (by kernel_rfl)) (by unfold Func.isWrapper; first | (rw [if_pos (by decide +kernel)]; kernel_rfl) | (rw [if_neg (by decide +kernel)]; exact ⟨rfl, rfl⟩))
    (fun os started H enc _ => lifted os started H enc)

/-- No parameter wants a stand-in; the program's own looks are on or off as the card says. -/
theorem plain (f : FuncId) (fn : Func) (hf : Tryd.pinned.checked.prog.funcNamed "loop.example/g00892/laws.FnExactFormatClause" = some f) (hfn : Tryd.pinned.checked.prog.funcs[f]? = some fn) :
    false = Tryd.pinned.checked.prog.looks [] ∧ ∀ (j : Nat) t, fn.params[j]? = some t → Tryd.pinned.checked.prog.wantsStandIn t = false := by
  obtain rfl : f = 3 := Option.some.inj ((show Tryd.prog.funcNamed "loop.example/g00892/laws.FnExactFormatClause" = some 3 by kernel_rfl).symm.trans hf) |>.symm
  obtain rfl : fn = Tryd.f3 := (Option.some.inj (Tryd.func3.symm.trans hfn)).symm
  refine ⟨by kernel_rfl, fun j t ht => ?_⟩
  rw [Tryd.params3] at ht
  obtain rfl : t = 24 := by simpa using Array.mem_of_getElem? ht
  exact (show Tryd.prog.wantsStandIn 24 = false by kernel_rfl)

theorem card : Rows.FnExactFormatClauseCardSaid :=
  Claim7.holds_tied_plain_at .later [] _ _ _ _ said (fun _ h => by cases h) (by kernel_rfl) (fun _ h => by cases h) fnExactFormatClause_row_tie rfl ⟨rfl, rfl⟩ (by kernel_rfl) rfl plain (by kernel_rfl)
end Go.Proofs.YtmfdglbldogfaabDoor.fnExactFormatClause
