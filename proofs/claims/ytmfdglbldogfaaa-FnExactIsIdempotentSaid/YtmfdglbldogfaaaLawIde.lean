/- IsIdempotent answers as its model for every substitution: no condition. -/
import Derived.Test.YtmfdglbldogfaaaIdeS
import Derived.Test.YtmfdglbldogfaaaIdeI
import Derived.Test.YtmfdglbldogfaaaSzB
import Derived.Test.YtmfdglbldogfaaaToB
import Derived.Test.YtmfdglbldogfaaaEqB
import Derived.Test.YtmfdglbldogfaaaOpenB
import Derived.Test.YtmfdglbldogfaaaJf
import Derived.OpenShut
import Derived.ShutString
import Derived.ChangeOld
namespace Go.Proofs.Ytmfdglbldogfaaa.fnExactIsIdempotent
open Go.ChangeShapes Go.WideShapes Go.ChangeAt Go.RowKit
open Go.ChangeMaps (open_string shut_string)
set_option linter.unusedVariables false

theorem own : ownKnob Try.prog.godebug = none := by kernel_rfl
theorem laidOut : laidOutB Try.prog = true := by kernel_rfl

set_option maxHeartbeats 2000000 in
theorem walk (l : List Bd) (va : Value) (w : World) (hv : BdS w va l) (hlim : limB 9223372036854775807 l) :
    Calls Try.prog 7 #[.agg #[va]] w fun e w' => e = .returned (.bool true) ∧ Below w.heap.size w w' := by
  obtain ⟨pa, ca, rfl⟩ := hv.is_slice
  have HV := Lib.hid hv
  have HLIM := Lib.hid hlim
  have H2 := Lib.hid (oner_new w (.slice pa l.length ca) 24 _ rfl)
  have HB := Lib.hid ((Below.refl w.heap.size w).alloc (Nat.le_refl _) (.cells #[.slice pa l.length ca] 24))
  clear hv hlim
  go_enter Try.func7, Try.ntmps7
  go_wp2_with fail
  refine (szSub_any l _ _ 1048576 (HV.out.kept HB.out) HLIM.out (by omega) (by omega)).mono ?_
  rintro e w1 ⟨rfl, hb⟩
  have HB1 := Lib.hid (carry_below HB.out (Nat.le_refl _) hb)
  have H21 := Lib.hid (H2.out.kept hb)
  obtain ⟨a0, a1⟩ := H2.out.kept hb
  clear hb
  rcases szR_cases 1048576 (wtB l) with ⟨c1, c2⟩ | ⟨c1, c2⟩
  · rw [c2]
    clear c2
    go_wp2
    go_ret
    exact ⟨rfl, HB1.out⟩
  · rw [c2]
    clear c2
    have hw : wtB l ≤ 1048576 := by omega
    have HL := Lib.hid (limB_of_wt hw)
    go_wp2_with fail
    refine (toSub_any l _ _ (HV.out.kept HB1.out) hw).mono ?_
    rintro e w2 ⟨v2, rfl, ho, hb⟩
    have HB2 := Lib.hid (carry_below HB1.out (Nat.le_refl _) hb)
    have H22 := Lib.hid (H21.out.kept hb)
    obtain ⟨a0, a1⟩ := H21.out.kept hb
    have HT2 := Lib.hid ho.read
    clear hb ho
    go_wp2_with fail
    refine (specIsIdempotent_any l _ _ HT2.out hw).mono ?_
    rintro e w3 ⟨rfl, hb⟩
    have HB3 := Lib.hid (carry_below HB2.out (Nat.le_refl _) hb)
    have H23 := Lib.hid (H22.out.kept hb)
    obtain ⟨a0, a1⟩ := H22.out.kept hb
    clear hb
    go_wp2_with fail
    refine (toSub_any l _ _ (HV.out.kept HB3.out) hw).mono ?_
    rintro e w4 ⟨v4, rfl, ho, hb⟩
    have HB4 := Lib.hid (carry_below HB3.out (Nat.le_refl _) hb)
    have H24 := Lib.hid (H23.out.kept hb)
    obtain ⟨a0, a1⟩ := H23.out.kept hb
    have HT4 := Lib.hid ho.read
    obtain ⟨px, cx, rfl⟩ := ho.read.is_slice
    have HBX := Lib.hid (HB4.out.alloc HB4.out.size (.cells #[.slice px l.length cx] 29))
    have HTX := Lib.hid (HT4.out.alloc (.cells #[.slice px l.length cx] 29))
    have H2X := Lib.hid (H24.out.alloc (.cells #[.slice px l.length cx] 29))
    have X2X := Lib.hid (oner_new w4 (.slice px l.length cx) 29 _ rfl)
    clear hb ho
    go_wp2_with fail
    refine (implIsIdempotent_any l _ _ HTX.out hw).mono ?_
    rintro e w5 ⟨rfl, hb⟩
    have HB5 := Lib.hid (carry_below HBX.out (Nat.le_refl _) hb)
    obtain ⟨a0, a1⟩ := H2X.out.kept hb
    obtain ⟨x0, x1⟩ := X2X.out.kept hb
    have HTX5 := Lib.hid (HTX.out.kept hb)
    clear hb
    have CT : Hid (∀ W : World, Below w5.heap.size w5 W → Calls Try.prog 18 #[.agg #[.slice pa l.length ca]] W (ToSubEnd l W)) := Lib.hid (fun W hW => toSub_any l W _ ((HV.out.kept HB5.out).kept hW) hw)
    have CE : Hid (∀ (W : World) (v : Value), Below w5.heap.size w5 W → BdS W v l → Calls Try.prog 20 #[.agg #[.slice px l.length cx], .agg #[v]] W (EqEnd true W)) := Lib.hid (fun W v hW hv => by
      have h := eqSub_any l l W _ v (HTX5.out.kept hW) hv HL.out HL.out
      rwa [eqBs_self] at h)
    have hB0 : Below w5.heap.size w5 w5.drew := (Below.refl _ _).drew
    go_wp2_with fail
    go_region_held3 (fun w' => w'.cell? ⟨w.heap.size, 0, none⟩ = some (.slice pa l.length ca) ∧ w'.cell? ⟨w4.heap.size, 0, none⟩ = some (.slice px l.length cx) ∧ Below w5.heap.size w5 w') (first | exact ⟨by assumption, by assumption, by assumption⟩ | go_keep) (first | (go_at_call 18; refine (CT.out _ hB0).mono ?_; rintro e w6 ⟨v6, rfl, ho, hb⟩; have y0 := carry_cell' hb a0; have y2 := carry_cell' hb x0; have hB6 := carry_below hB0 (Nat.le_refl _) hb; have HT6 := Lib.hid ho.read; clear hb ho) | (go_at_call 20; refine (CE.out _ _ hB6 HT6.out).mono ?_; rintro e w7 ⟨rfl, hb⟩; have z0 := carry_cell' hb y0; have z2 := carry_cell' hb y2; have hB7 := carry_below hB6 (Nat.le_refl _) hb; clear hb))
    have HB7 := Lib.hid (carry_below HB5.out (Nat.le_refl _) hB7)
    clear hB7 hB6 hB0
    go_wp2
    go_ret
    exact ⟨rfl, HB7.out⟩

/-! ### THE ROW's STEP: WRITTEN OUT: LEAVE IT -/
set_option maxRecDepth 100000 in
theorem lifted (os : Os) (started : os.Started) (H : Type) (enc : TypeId × Value → H) :
    ReturnsInHanded {} Try.checked os 7 .any (Rows.fnExactIsIdempotentSpec.pre6 enc Try.prog Try.f7 Rows.fnExactIsIdempotentRow.domain false) (Rows.fnExactIsIdempotentSpec.post enc Try.prog Try.f7 false true false false) := by
  refine returnsInHanded_of_change (C := Try.checked) own started (by kernel_rfl) Try.func7
    (ChangeSpec.witness6 (enc := enc) (C := Try.checked) false ⟨#[], #[.agg #[.slice none 0 0]], []⟩ 8 (by kernel_rfl) (by kernel_rfl) (by kernel_rfl) (by kernel_rfl)) ?_
  intro W base args ds gs before hval0 hW hcnd _
  have hval : ∀ (j : Nat) t v, Try.f7.params[j]? = some t → args[j]? = some v → Value.okWide Try.prog W .any base t v := hval0
  have hW' := hW
  obtain ⟨p, q, hA0, hV, rfl, hfz, hnd⟩ := hW
  have hA : DataW.TrodAll enc Try.prog W 0 (fun _ => true) true Try.f7.params.toList args.toList ds p := hA0
  rw [Try.params7] at hA hval
  obtain ⟨v0, vs0, d0, ds0, p0, q0, hargs, rfl, rfl, h0, r0⟩ := trodAll_cons hA
  obtain ⟨rfl, rfl, rfl⟩ := trodAll_nil r0
  obtain rfl : args = #[v0] := by cases args; simp_all
  obtain ⟨rfl, rfl⟩ := trodVars_none hV
  have k0 := h0
  have lt0 : ∀ x ∈ p0, x.block < W.heap.size := by obtain ⟨m, hm⟩ := k0; exact DataW.trod_lt m _ _ _ hm
  obtain ⟨va0, l0, rfl, bs0, lim0⟩ := open_sub 9223372036854775807 (by unfold maxLen; omega) (hval 0 24 v0 rfl rfl) h0
  clear hA0 hval0
  refine (walk l0 va0 W bs0 lim0).mono fun e W' ⟨he, bel⟩ => ?_
  subst he
  exact ⟨_, rfl, _, _, _, [], _, [], hW', trodAll_mk1 (shut_bool Try.underlying4 _), (trodAll_cons_mk (Below.trod laidOut (by kernel_rfl) (of_decide_eq_true (by kernel_rfl)) k0 bel lt0) trodAll_mk0), rfl, bel.frame _, fun h => by cases h⟩


theorem jfPlace : (Rows.fnExactIsIdempotentRow.inPlace == Try.prog.inPlace 7) = true := by kernel_rfl
theorem jfFollow : (Rows.fnExactIsIdempotentRow.unfollowed == Try.prog.unfollowed 7) = true := by kernel_rfl
theorem jfRecurses : (Rows.fnExactIsIdempotentRow.recurses == Try.prog.recurses 7) = true := by kernel_rfl
theorem jfNamed : (Rows.fnExactIsIdempotentRow.named == Try.prog.varsNamed 7) = true := by kernel_rfl
theorem jfKeys : (Rows.fnExactIsIdempotentRow.plainKeys == Try.prog.plainKeys) = true := by kernel_rfl
theorem facts : joinedFacts Try.prog 7 Try.f7 Rows.fnExactIsIdempotentSpec Rows.fnExactIsIdempotentRow = true :=
  jf_of (P := Try.prog) jfLaid jfRowed jfHeard jfEnter jfLifts (by kernel_rfl) (by kernel_rfl) (by kernel_rfl) (by kernel_rfl) (by kernel_rfl) (by kernel_rfl) (by kernel_rfl)
    jfPlace jfFollow jfRecurses jfNamed (by kernel_rfl) (by kernel_rfl) (by kernel_rfl) (by kernel_rfl) (by kernel_rfl) (by kernel_rfl) (by kernel_rfl) (by kernel_rfl) (by kernel_rfl)
    jfKeys (by kernel_rfl) (by kernel_rfl) (by kernel_rfl) (by kernel_rfl) (by kernel_rfl) (by kernel_rfl)

theorem over : Rows.fnExactIsIdempotentRow.holds Try.pinned (OpenSpec.ofChange Rows.fnExactIsIdempotentSpec) :=
  OpenClaim.holds_of_wide 7 Try.f7 rfl rfl rfl rfl rfl rfl rfl ⟨rfl, rfl, rfl, rfl, rfl⟩ rfl rfl rfl rfl rfl (by kernel_rfl) Try.func7 facts
    (of_decide_eq_true (by kernel_rfl)) (by unfold Func.isWrapper; first | (rw [if_pos (by decide +kernel)]; kernel_rfl) | (rw [if_neg (by decide +kernel)]; exact ⟨rfl, rfl⟩))
    (fun os started H enc _ => lifted os started H enc)

/-- ████ THE STATEMENT ████ -/
theorem proved : Rows.FnExactIsIdempotentSaid := over
end Go.Proofs.Ytmfdglbldogfaaa.fnExactIsIdempotent
