/- OccursIn answers as its model for every string and every term: no condition. -/
import Derived.Test.YtnkonhdnccolhaaOcc
import Derived.Test.YtnkonhdnccolhaaJf
import Derived.Test.YtnkonhdnccolhaaSz
import Derived.Test.YtnkonhdnccolhaaTo
import Derived.Test.YtnkonhdnccolhaaEq
import Derived.Test.YtnkonhdnccolhaaOpenTm
import Derived.OpenShut
import Derived.ShutString
import Derived.ChangeOld
namespace Go.Proofs.Ytnkonhdnccolhaa.fnExactOccursIn
open Go.ChangeShapes Go.WideShapes Go.ChangeAt Go.RowKit
open Go.ChangeMaps (open_string shut_string)
set_option linter.unusedVariables false

theorem own : ownKnob Try.prog.godebug = none := by kernel_rfl
theorem laidOut : laidOutB Try.prog = true := by kernel_rfl

set_option maxHeartbeats 2000000 in
theorem walk (nm : ByteArray) (t : Tm) (va : Value) (w : World) (hn : nm.size ≤ maxLen) (hv : TmS w va t.args) (hlim : t.lim 9223372036854775807) :
    Calls Try.prog 5 #[.string nm, .agg #[.string t.name, va]] w fun e w' => e = .returned (.bool true) ∧ Below w.heap.size w w' := by
  obtain ⟨pa, ca, rfl⟩ := hv.is_slice
  have HV := Lib.hid hv
  have HLIM := Lib.hid hlim
  have H2 := Lib.hid (two_new w (.string t.name) (.slice pa t.args.length ca) 27 _ rfl)
  have HB := Lib.hid ((Below.refl w.heap.size w).alloc (Nat.le_refl _) (.cells #[.string t.name, .slice pa t.args.length ca] 27))
  clear hv hlim
  unfold maxLen at hn
  by_cases hbig : (1048576 : Int) < nm.size
  · go_enter Try.func5, Try.ntmps5
    go_wp2
    go_ret
    exact ⟨rfl, HB.out⟩
  have hnm : nm.size ≤ 1048576 := by omega
  go_enter Try.func5, Try.ntmps5
  go_wp2_with fail
  refine (szTerm_any t _ _ 1048576 (HV.out.kept HB.out) HLIM.out (by omega) (by omega)).mono ?_
  rintro e w1 ⟨rfl, hb⟩
  have HB1 := Lib.hid (carry_below HB.out (Nat.le_refl _) hb)
  have H21 := Lib.hid (H2.out.kept hb)
  obtain ⟨a0, a1, a2⟩ := H2.out.kept hb
  clear hb
  rcases szR_cases 1048576 t.wt with ⟨c1, c2⟩ | ⟨c1, c2⟩
  · rw [c2]
    clear c2
    go_wp2
    go_ret
    exact ⟨rfl, HB1.out⟩
  · rw [c2]
    clear c2
    have hw : t.wt ≤ 1048576 := by omega
    have HL := Lib.hid (Tm.lim_of_wt t 1048576 hw)
    go_wp2_with fail
    refine (toTerm_any t _ _ (HV.out.kept HB1.out) hw).mono ?_
    rintro e w2 ⟨v2, rfl, ho, hb⟩
    have HB2 := Lib.hid (carry_below HB1.out (Nat.le_refl _) hb)
    have H22 := Lib.hid (H21.out.kept hb)
    obtain ⟨a0, a1, a2⟩ := H21.out.kept hb
    have HT2 := Lib.hid ho.read
    clear hb ho
    go_wp2_with fail
    refine (specOcc_any nm hnm t _ _ HT2.out hw).mono ?_
    rintro e w3 ⟨rfl, hb⟩
    have HB3 := Lib.hid (carry_below HB2.out (Nat.le_refl _) hb)
    have H23 := Lib.hid (H22.out.kept hb)
    obtain ⟨a0, a1, a2⟩ := H22.out.kept hb
    clear hb
    go_wp2_with fail
    refine (toTerm_any t _ _ (HV.out.kept HB3.out) hw).mono ?_
    rintro e w4 ⟨v4, rfl, ho, hb⟩
    have HB4 := Lib.hid (carry_below HB3.out (Nat.le_refl _) hb)
    have H24 := Lib.hid (H23.out.kept hb)
    obtain ⟨a0, a1, a2⟩ := H23.out.kept hb
    have HT4 := Lib.hid ho.read
    obtain ⟨px, cx, rfl⟩ := ho.read.is_slice
    have HBX := Lib.hid (HB4.out.alloc HB4.out.size (.cells #[.string t.name, .slice px t.args.length cx] 38))
    have HTX := Lib.hid (HT4.out.alloc (.cells #[.string t.name, .slice px t.args.length cx] 38))
    have H2X := Lib.hid (H24.out.alloc (.cells #[.string t.name, .slice px t.args.length cx] 38))
    have X2X := Lib.hid (two_new w4 (.string t.name) (.slice px t.args.length cx) 38 _ rfl)
    clear hb ho
    go_wp2_with fail
    refine (implOcc_any nm hnm t _ _ HTX.out hw).mono ?_
    rintro e w5 ⟨rfl, hb⟩
    have HB5 := Lib.hid (carry_below HBX.out (Nat.le_refl _) hb)
    obtain ⟨a0, a1, a2⟩ := H2X.out.kept hb
    obtain ⟨x0, x1, x2⟩ := X2X.out.kept hb
    have HTX5 := Lib.hid (HTX.out.kept hb)
    clear hb
    have CT : Hid (∀ W : World, Below w5.heap.size w5 W → Calls Try.prog 20 #[.agg #[.string t.name, .slice pa t.args.length ca]] W (ToEnd t W)) := Lib.hid (fun W hW => toTerm_any t W _ ((HV.out.kept HB5.out).kept hW) hw)
    have CE : Hid (∀ (W : World) (v : Value), Below w5.heap.size w5 W → TmS W v t.args → Calls Try.prog 23 #[.agg #[.string t.name, .slice px t.args.length cx], .agg #[.string t.name, v]] W (EqEnd true W)) := Lib.hid (fun W v hW hv => by
      have h := eqTerm_any t t W _ v (HTX5.out.kept hW) hv HL.out HL.out
      rwa [eqT_self] at h)
    have hB0 : Below w5.heap.size w5 w5.drew := (Below.refl _ _).drew
    go_wp2_with fail
    go_region_held3 (fun w' => w'.cell? ⟨w.heap.size, 0, none⟩ = some (.string t.name) ∧ w'.cell? ⟨w.heap.size, 1, none⟩ = some (.slice pa t.args.length ca) ∧ w'.cell? ⟨w4.heap.size, 0, none⟩ = some (.string t.name) ∧ w'.cell? ⟨w4.heap.size, 1, none⟩ = some (.slice px t.args.length cx) ∧ Below w5.heap.size w5 w') (first | exact ⟨by assumption, by assumption, by assumption, by assumption, by assumption⟩ | go_keep) (first | (go_at_call 20; refine (CT.out _ hB0).mono ?_; rintro e w6 ⟨v6, rfl, ho, hb⟩; have y0 := carry_cell' hb a0; have y1 := carry_cell' hb a1; have y2 := carry_cell' hb x0; have y3 := carry_cell' hb x1; have hB6 := carry_below hB0 (Nat.le_refl _) hb; have HT6 := Lib.hid ho.read; clear hb ho) | (go_at_call 23; refine (CE.out _ _ hB6 HT6.out).mono ?_; rintro e w7 ⟨rfl, hb⟩; have z0 := carry_cell' hb y0; have z1 := carry_cell' hb y1; have z2 := carry_cell' hb y2; have z3 := carry_cell' hb y3; have hB7 := carry_below hB6 (Nat.le_refl _) hb; clear hb))
    have HB7 := Lib.hid (carry_below HB5.out (Nat.le_refl _) hB7)
    clear hB7 hB6 hB0
    go_wp2
    go_ret
    exact ⟨rfl, HB7.out⟩

/-! ### THE ROW's STEP: WRITTEN OUT: LEAVE IT -/
set_option maxRecDepth 100000 in
theorem lifted (os : Os) (started : os.Started) (H : Type) (enc : TypeId × Value → H) :
    ReturnsInHanded {} Try.checked os 5 .any (Rows.fnExactOccursInSpec.pre6 enc Try.prog Try.f5 Rows.fnExactOccursInRow.domain false) (Rows.fnExactOccursInSpec.post enc Try.prog Try.f5 false true false false) := by
  refine returnsInHanded_of_change (C := Try.checked) own started (by kernel_rfl) Try.func5
    (ChangeSpec.witness6 (enc := enc) (C := Try.checked) false ⟨#[], #[.string ByteArray.empty, .agg #[.string ByteArray.empty, .slice none 0 0]], []⟩ 8 (by kernel_rfl) (by kernel_rfl) (by kernel_rfl) (by kernel_rfl)) ?_
  intro W base args ds gs before hval0 hW hcnd _
  have hval : ∀ (j : Nat) t v, Try.f5.params[j]? = some t → args[j]? = some v → Value.okWide Try.prog W .any base t v := hval0
  have hW' := hW
  obtain ⟨p, q, hA0, hV, rfl, hfz, hnd⟩ := hW
  have hA : DataW.TrodAll enc Try.prog W 0 (fun _ => true) true Try.f5.params.toList args.toList ds p := hA0
  rw [Try.params5] at hA hval
  obtain ⟨v0, vs0, d0, ds0, p0, q0, hargs, rfl, rfl, h0, r0⟩ := trodAll_cons hA
  obtain ⟨v1, vs1, d1, ds1, p1, q1, rfl, rfl, rfl, h1, r1⟩ := trodAll_cons r0
  obtain ⟨rfl, rfl, rfl⟩ := trodAll_nil r1
  obtain rfl : args = #[v0, v1] := by cases args; simp_all
  obtain ⟨rfl, rfl⟩ := trodVars_none hV
  obtain ⟨a0, rfl, rfl, rfl, w0⟩ := open_string Try.underlying9 (hval 0 9 v0 rfl rfl) h0
  have k1 := h1
  have lt1 : ∀ x ∈ p1, x.block < W.heap.size := by obtain ⟨m, hm⟩ := k1; exact DataW.trod_lt m _ _ _ hm
  obtain ⟨t1, va1, rfl, tm1, lim1⟩ := open_term 9223372036854775807 (by unfold maxLen; omega) (hval 1 27 v1 rfl rfl) h1
  clear hA0 hval0
  refine (walk a0 t1 va1 W w0 tm1 lim1).mono fun e W' ⟨he, bel⟩ => ?_
  subst he
  exact ⟨_, rfl, _, _, _, [], _, [], hW', trodAll_mk1 (shut_bool Try.underlying4 _), (trodAll_cons_mk (shut_string Try.underlying9 w0) (trodAll_cons_mk (Below.trod laidOut (by kernel_rfl) (of_decide_eq_true (by kernel_rfl)) k1 bel lt1) trodAll_mk0)), rfl, bel.frame _, fun h => by cases h⟩


theorem jfPlace : (Rows.fnExactOccursInRow.inPlace == Try.prog.inPlace 5) = true := by kernel_rfl
theorem jfFollow : (Rows.fnExactOccursInRow.unfollowed == Try.prog.unfollowed 5) = true := by kernel_rfl
theorem jfRecurses : (Rows.fnExactOccursInRow.recurses == Try.prog.recurses 5) = true := by kernel_rfl
theorem jfNamed : (Rows.fnExactOccursInRow.named == Try.prog.varsNamed 5) = true := by kernel_rfl
theorem jfKeys : (Rows.fnExactOccursInRow.plainKeys == Try.prog.plainKeys) = true := by kernel_rfl
theorem facts : joinedFacts Try.prog 5 Try.f5 Rows.fnExactOccursInSpec Rows.fnExactOccursInRow = true :=
  jf_of (P := Try.prog) jfLaid jfRowed jfHeard jfEnter jfLifts (by kernel_rfl) (by kernel_rfl) (by kernel_rfl) (by kernel_rfl) (by kernel_rfl) (by kernel_rfl) (by kernel_rfl)
    jfPlace jfFollow jfRecurses jfNamed (by kernel_rfl) (by kernel_rfl) (by kernel_rfl) (by kernel_rfl) (by kernel_rfl) (by kernel_rfl) (by kernel_rfl) (by kernel_rfl) (by kernel_rfl)
    jfKeys (by kernel_rfl) (by kernel_rfl) (by kernel_rfl) (by kernel_rfl) (by kernel_rfl) (by kernel_rfl)

theorem over : Rows.fnExactOccursInRow.holds Try.pinned (OpenSpec.ofChange Rows.fnExactOccursInSpec) :=
  OpenClaim.holds_of_wide 5 Try.f5 rfl rfl rfl rfl rfl rfl rfl ⟨rfl, rfl, rfl, rfl, rfl⟩ rfl rfl rfl rfl rfl (by kernel_rfl) Try.func5 facts
    (of_decide_eq_true (by kernel_rfl)) (by unfold Func.isWrapper; first | (rw [if_pos (by decide +kernel)]; kernel_rfl) | (rw [if_neg (by decide +kernel)]; exact ⟨rfl, rfl⟩))
    (fun os started H enc _ => lifted os started H enc)

/-- ████ THE STATEMENT ████ -/
theorem proved : Rows.FnExactOccursInSaid := over
end Go.Proofs.Ytnkonhdnccolhaa.fnExactOccursIn
