/- CompareTerms answers as its model for every two terms: no condition. -/
import Derived.Test.YtojlijbmjmigjaaOrdI
import Derived.Test.YtojlijbmjmigjaaSz
import Derived.Test.YtojlijbmjmigjaaTo
import Derived.Test.YtojlijbmjmigjaaEq
import Derived.Test.YtojlijbmjmigjaaOpenTm
import Derived.Deep.RegionWith
import Derived.OpenShut
import Derived.ShutString
import Derived.ChangeOld
namespace Go.Proofs.Ytojlijbmjmigjaa.fnExactCompareTerms
open Go.ChangeShapes Go.WideShapes Go.ChangeAt Go.RowKit
open Go.ChangeMaps (open_string shut_string)
set_option linter.unusedVariables false

theorem own : ownKnob Try.prog.godebug = none := by kernel_rfl
theorem laidOut : laidOutB Try.prog = true := by kernel_rfl

set_option maxHeartbeats 4000000 in
theorem walk (a : Tm) (va : Value) (b : Tm) (vb : Value) (w : World) (hva : TmS w va a.args) (hlima : a.lim 9223372036854775807) (hvb : TmS w vb b.args) (hlimb : b.lim 9223372036854775807) :
    Calls Try.prog 9 #[.agg #[.string a.name, va], .agg #[.string b.name, vb]] w fun e w' => e = .returned (.bool true) ∧ Below w.heap.size w w' := by
  obtain ⟨pa, ca, rfl⟩ := hva.is_slice
  obtain ⟨pb, cb, rfl⟩ := hvb.is_slice
  have HVA := Lib.hid hva
  have HVB := Lib.hid hvb
  have HLIMA := Lib.hid hlima
  have HLIMB := Lib.hid hlimb
  have H2A := Lib.hid ((two_new w (.string a.name) (.slice pa a.args.length ca) 24 _ rfl).alloc (.cells #[.string b.name, .slice pb b.args.length cb] 24))
  have H2B := Lib.hid (two_new (w.alloc (.cells #[.string a.name, .slice pa a.args.length ca] 24)) (.string b.name) (.slice pb b.args.length cb) 24 (w.heap.size + 1) (by simp))
  have HB := Lib.hid (((Below.refl w.heap.size w).alloc (Nat.le_refl _) (.cells #[.string a.name, .slice pa a.args.length ca] 24)).alloc (by simp) (.cells #[.string b.name, .slice pb b.args.length cb] 24))
  clear hva hvb hlima hlimb
  go_enter Try.func9, Try.ntmps9
  go_wp2_with fail
  refine (szTerm_any a _ _ 1048576 (HVA.out.kept HB.out) HLIMA.out (by omega) (by omega)).mono ?_
  rintro e w1 ⟨rfl, hb⟩
  have HB1 := Lib.hid (carry_below HB.out (Nat.le_refl _) hb)
  have H2A1 := Lib.hid (H2A.out.kept hb)
  have H2B1 := Lib.hid (H2B.out.kept hb)
  obtain ⟨a0, a1, a2⟩ := H2A.out.kept hb
  obtain ⟨b0, b1, b2⟩ := H2B.out.kept hb
  clear hb
  rcases szR_cases 1048576 a.wt with ⟨c1, c2⟩ | ⟨c1, c2⟩
  · rw [c2]
    clear c2
    go_wp2
    go_ret
    exact ⟨rfl, HB1.out⟩
  rw [c2]
  clear c2
  have hwa : a.wt ≤ 1048576 := by omega
  go_wp2_with fail
  refine (szTerm_any b _ _ _ (HVB.out.kept HB1.out) HLIMB.out (by omega) (by omega)).mono ?_
  rintro e w2 ⟨rfl, hb⟩
  have HB2 := Lib.hid (carry_below HB1.out (Nat.le_refl _) hb)
  have H2A2 := Lib.hid (H2A1.out.kept hb)
  have H2B2 := Lib.hid (H2B1.out.kept hb)
  obtain ⟨a0, a1, a2⟩ := H2A1.out.kept hb
  obtain ⟨b0, b1, b2⟩ := H2B1.out.kept hb
  clear hb
  rcases szR_cases (1048576 - (a.wt : Int)) b.wt with ⟨d1, d2⟩ | ⟨d1, d2⟩
  · rw [d2]
    clear d2
    go_wp2
    go_ret
    exact ⟨rfl, HB2.out⟩
  rw [d2]
  clear d2
  have hwb : b.wt ≤ 1048576 := by omega
  have HLA := Lib.hid (Tm.lim_of_wt a 1048576 hwa)
  have HLB := Lib.hid (Tm.lim_of_wt b 1048576 hwb)
  have CTA : Hid (∀ W : World, Below w2.heap.size w2 W → Calls Try.prog 17 #[.agg #[.string a.name, .slice pa a.args.length ca]] W (ToEnd a W)) := Lib.hid (fun W hW => toTerm_any a W _ ((HVA.out.kept HB2.out).kept hW) hwa)
  have CTB : Hid (∀ W : World, Below w2.heap.size w2 W → Calls Try.prog 17 #[.agg #[.string b.name, .slice pb b.args.length cb]] W (ToEnd b W)) := Lib.hid (fun W hW => toTerm_any b W _ ((HVB.out.kept HB2.out).kept hW) hwb)
  have CSP := Lib.hid (fun (W : World) (v1 v2 : Value) (h1 : TmS W v1 a.args) (h2 : TmS W v2 b.args) => specCompare_any a b W v1 v2 h1 h2 hwa hwb)
  have hB0 : Below w2.heap.size w2 w2.drew := (Below.refl _ _).drew
  go_wp2_with fail
  go_region_held3 (fun w' => w'.cell? ⟨w.heap.size, 0, none⟩ = some (.string a.name) ∧ w'.cell? ⟨w.heap.size, 1, none⟩ = some (.slice pa a.args.length ca) ∧ w'.cell? ⟨w.heap.size + 1, 0, none⟩ = some (.string b.name) ∧ w'.cell? ⟨w.heap.size + 1, 1, none⟩ = some (.slice pb b.args.length cb) ∧ Below w2.heap.size w2 w') (first | exact ⟨by assumption, by assumption, by assumption, by assumption, by assumption⟩ | go_keep) (first
    | (go_at_call_of 17 (Value.string a.name); refine (CTA.out _ (by assumption)).mono ?_; rintro e w6 ⟨v6, rfl, ho, hb⟩; have y0 : w6.cell? ⟨w.heap.size, 0, none⟩ = some (.string a.name) := carry_cell' hb (by assumption); have y1 : w6.cell? ⟨w.heap.size, 1, none⟩ = some (.slice pa a.args.length ca) := carry_cell' hb (by assumption); have y2 : w6.cell? ⟨w.heap.size + 1, 0, none⟩ = some (.string b.name) := carry_cell' hb (by assumption); have y3 : w6.cell? ⟨w.heap.size + 1, 1, none⟩ = some (.slice pb b.args.length cb) := carry_cell' hb (by assumption); have hB6 : Below w2.heap.size w2 w6 := carry_below (by assumption) (Nat.le_refl _) hb; have hTA := Lib.hid ho.read; (try have hTB2 := Lib.hid (hTB.out.kept hb)); clear hb ho)
    | (go_at_call_of 17 (Value.string b.name); refine (CTB.out _ (by assumption)).mono ?_; rintro e w7 ⟨v7, rfl, ho, hb⟩; have z0 : w7.cell? ⟨w.heap.size, 0, none⟩ = some (.string a.name) := carry_cell' hb (by assumption); have z1 : w7.cell? ⟨w.heap.size, 1, none⟩ = some (.slice pa a.args.length ca) := carry_cell' hb (by assumption); have z2 : w7.cell? ⟨w.heap.size + 1, 0, none⟩ = some (.string b.name) := carry_cell' hb (by assumption); have z3 : w7.cell? ⟨w.heap.size + 1, 1, none⟩ = some (.slice pb b.args.length cb) := carry_cell' hb (by assumption); have hB7 : Below w2.heap.size w2 w7 := carry_below (by assumption) (Nat.le_refl _) hb; have hTB := Lib.hid ho.read; (try have hTA2 := Lib.hid (hTA.out.kept hb)); clear hb ho)
    | (go_at_call 34; (first | refine (CSP.out _ _ _ hTA.out hTB2.out).mono ?_ | refine (CSP.out _ _ _ hTA2.out hTB.out).mono ?_); rintro e w8 ⟨rfl, hb⟩; have x0 : w8.cell? ⟨w.heap.size, 0, none⟩ = some (.string a.name) := carry_cell' hb (by assumption); have x1 : w8.cell? ⟨w.heap.size, 1, none⟩ = some (.slice pa a.args.length ca) := carry_cell' hb (by assumption); have x2 : w8.cell? ⟨w.heap.size + 1, 0, none⟩ = some (.string b.name) := carry_cell' hb (by assumption); have x3 : w8.cell? ⟨w.heap.size + 1, 1, none⟩ = some (.slice pb b.args.length cb) := carry_cell' hb (by assumption); have hB8 : Below w2.heap.size w2 w8 := carry_below (by assumption) (Nat.le_refl _) hb; clear hb))
  have HB8 := Lib.hid (carry_below HB2.out (Nat.le_refl _) hB8)
  have H2A8 := Lib.hid (H2A2.out.kept hB8)
  have H2B8 := Lib.hid (H2B2.out.kept hB8)
  obtain ⟨a0, a1, a2⟩ := H2A8.out
  obtain ⟨b0, b1, b2⟩ := H2B8.out
  clear hB8 hB7 hB6 hB0 y0 y1 y2 y3 z0 z1 z2 z3 x0 x1 x2 x3 hTA hTB hTA2
  go_wp2_with fail
  refine (toTerm_any a _ _ (HVA.out.kept HB8.out) hwa).mono ?_
  rintro e w9 ⟨v9, rfl, ho, hb⟩
  have HB9 := Lib.hid (carry_below HB8.out (Nat.le_refl _) hb)
  have H2A9 := Lib.hid (H2A8.out.kept hb)
  have H2B9 := Lib.hid (H2B8.out.kept hb)
  obtain ⟨a0, a1, a2⟩ := H2A8.out.kept hb
  obtain ⟨b0, b1, b2⟩ := H2B8.out.kept hb
  have hz9 : w.heap.size + 1 < w9.heap.size := World.block_lt_of_cell? w9 _ b0
  have HT9 := Lib.hid ho.read
  obtain ⟨px, cx, rfl⟩ := ho.read.is_slice
  have HBX := Lib.hid (HB9.out.alloc HB9.out.size (.cells #[.string a.name, .slice px a.args.length cx] 29))
  have HTX := Lib.hid (HT9.out.alloc (.cells #[.string a.name, .slice px a.args.length cx] 29))
  have H2AX := Lib.hid (H2A9.out.alloc (.cells #[.string a.name, .slice px a.args.length cx] 29))
  have H2BX := Lib.hid (H2B9.out.alloc (.cells #[.string a.name, .slice px a.args.length cx] 29))
  have X2X := Lib.hid (two_new w9 (.string a.name) (.slice px a.args.length cx) 29 _ rfl)
  clear hb ho
  go_wp2_with fail
  refine (toTerm_any b _ _ (HVB.out.kept HBX.out) hwb).mono ?_
  rintro e w10 ⟨v10, rfl, ho, hb⟩
  have HB10 := Lib.hid (carry_below HBX.out (Nat.le_refl _) hb)
  have H2A10 := Lib.hid (H2AX.out.kept hb)
  have H2B10 := Lib.hid (H2BX.out.kept hb)
  have X210 := Lib.hid (X2X.out.kept hb)
  obtain ⟨a0, a1, a2⟩ := H2AX.out.kept hb
  obtain ⟨b0, b1, b2⟩ := H2BX.out.kept hb
  obtain ⟨x0, x1, x2⟩ := X2X.out.kept hb
  have hz10 : w9.heap.size < w10.heap.size := World.block_lt_of_cell? w10 _ x0
  have hz10' : w.heap.size + 1 < w10.heap.size := World.block_lt_of_cell? w10 _ b0
  have HTX10 := Lib.hid (HTX.out.kept hb)
  have HT10 := Lib.hid ho.read
  obtain ⟨py, cy, rfl⟩ := ho.read.is_slice
  have HBY := Lib.hid (HB10.out.alloc HB10.out.size (.cells #[.string b.name, .slice py b.args.length cy] 29))
  have HTXY := Lib.hid (HTX10.out.alloc (.cells #[.string b.name, .slice py b.args.length cy] 29))
  have HTY := Lib.hid (HT10.out.alloc (.cells #[.string b.name, .slice py b.args.length cy] 29))
  have H2AY := Lib.hid (H2A10.out.alloc (.cells #[.string b.name, .slice py b.args.length cy] 29))
  have H2BY := Lib.hid (H2B10.out.alloc (.cells #[.string b.name, .slice py b.args.length cy] 29))
  have X2Y := Lib.hid (X210.out.alloc (.cells #[.string b.name, .slice py b.args.length cy] 29))
  have Y2Y := Lib.hid (two_new w10 (.string b.name) (.slice py b.args.length cy) 29 _ rfl)
  clear hb ho
  go_wp2_with fail
  refine (implCompare_any a b _ _ _ HTXY.out HTY.out hwa hwb).mono ?_
  rintro e w11 ⟨rfl, hb⟩
  have HB11 := Lib.hid (carry_below HBY.out (Nat.le_refl _) hb)
  have H2A11 := Lib.hid (H2AY.out.kept hb)
  have H2B11 := Lib.hid (H2BY.out.kept hb)
  have X211 := Lib.hid (X2Y.out.kept hb)
  have Y211 := Lib.hid (Y2Y.out.kept hb)
  obtain ⟨a0, a1, a2⟩ := H2AY.out.kept hb
  obtain ⟨b0, b1, b2⟩ := H2BY.out.kept hb
  obtain ⟨x0, x1, x2⟩ := X2Y.out.kept hb
  obtain ⟨y0, y1, y2⟩ := Y2Y.out.kept hb
  have HTX11 := Lib.hid (HTXY.out.kept hb)
  have HTY11 := Lib.hid (HTY.out.kept hb)
  clear hb
  have CT11 : Hid (∀ W : World, Below w11.heap.size w11 W → Calls Try.prog 17 #[.agg #[.string a.name, .slice pa a.args.length ca]] W (ToEnd a W)) := Lib.hid (fun W hW => toTerm_any a W _ ((HVA.out.kept HB11.out).kept hW) hwa)
  have CE11 : Hid (∀ (W : World) (v : Value), Below w11.heap.size w11 W → TmS W v a.args → Calls Try.prog 19 #[.agg #[.string a.name, .slice px a.args.length cx], .agg #[.string a.name, v]] W (EqEnd true W)) := Lib.hid (fun W v hW hv => by
    have h := eqTerm_any a a W _ v (HTX11.out.kept hW) hv HLA.out HLA.out
    rwa [eqT_self] at h)
  have hB0 : Below w11.heap.size w11 w11.drew := (Below.refl _ _).drew
  go_wp2_with fail
  go_region_held3 (fun w' => w'.cell? ⟨w.heap.size, 0, none⟩ = some (.string a.name) ∧ w'.cell? ⟨w.heap.size, 1, none⟩ = some (.slice pa a.args.length ca) ∧ w'.cell? ⟨w9.heap.size, 0, none⟩ = some (.string a.name) ∧ w'.cell? ⟨w9.heap.size, 1, none⟩ = some (.slice px a.args.length cx) ∧ Below w11.heap.size w11 w') (first | exact ⟨by assumption, by assumption, by assumption, by assumption, by assumption⟩ | go_keep) (first
    | (go_at_call 17; refine (CT11.out _ hB0).mono ?_; rintro e w6 ⟨v6, rfl, ho, hb⟩; have q0 : w6.cell? ⟨w.heap.size, 0, none⟩ = some (.string a.name) := carry_cell' hb (by assumption); have q1 : w6.cell? ⟨w.heap.size, 1, none⟩ = some (.slice pa a.args.length ca) := carry_cell' hb (by assumption); have q2 : w6.cell? ⟨w9.heap.size, 0, none⟩ = some (.string a.name) := carry_cell' hb (by assumption); have q3 : w6.cell? ⟨w9.heap.size, 1, none⟩ = some (.slice px a.args.length cx) := carry_cell' hb (by assumption); have hB6 := carry_below hB0 (Nat.le_refl _) hb; have HT6 := Lib.hid ho.read; clear hb ho)
    | (go_at_call 19; refine (CE11.out _ _ hB6 HT6.out).mono ?_; rintro e w7 ⟨rfl, hb⟩; have r0 : w7.cell? ⟨w.heap.size, 0, none⟩ = some (.string a.name) := carry_cell' hb (by assumption); have r1 : w7.cell? ⟨w.heap.size, 1, none⟩ = some (.slice pa a.args.length ca) := carry_cell' hb (by assumption); have r2 : w7.cell? ⟨w9.heap.size, 0, none⟩ = some (.string a.name) := carry_cell' hb (by assumption); have r3 : w7.cell? ⟨w9.heap.size, 1, none⟩ = some (.slice px a.args.length cx) := carry_cell' hb (by assumption); have hB7 := carry_below hB6 (Nat.le_refl _) hb; clear hb))
  have HB12 := Lib.hid (carry_below HB11.out (Nat.le_refl _) hB7)
  have H2B12 := Lib.hid (H2B11.out.kept hB7)
  have Y212 := Lib.hid (Y211.out.kept hB7)
  have HTY12 := Lib.hid (HTY11.out.kept hB7)
  obtain ⟨b0, b1, b2⟩ := H2B12.out
  obtain ⟨y0, y1, y2⟩ := Y212.out
  clear hB7 hB6 hB0 q0 q1 q2 q3 r0 r1 r2 r3 HT6
  rename_i _ w12 _
  have CT12 : Hid (∀ W : World, Below w7.heap.size w7 W → Calls Try.prog 17 #[.agg #[.string b.name, .slice pb b.args.length cb]] W (ToEnd b W)) := Lib.hid (fun W hW => toTerm_any b W _ ((HVB.out.kept HB12.out).kept hW) hwb)
  have CE12 : Hid (∀ (W : World) (v : Value), Below w7.heap.size w7 W → TmS W v b.args → Calls Try.prog 19 #[.agg #[.string b.name, .slice py b.args.length cy], .agg #[.string b.name, v]] W (EqEnd true W)) := Lib.hid (fun W v hW hv => by
    have h := eqTerm_any b b W _ v (HTY12.out.kept hW) hv HLB.out HLB.out
    rwa [eqT_self] at h)
  have hB0 : Below w7.heap.size w7 w7.drew := (Below.refl _ _).drew
  go_wp2_with fail
  go_region_held3 (fun w' => w'.cell? ⟨w.heap.size + 1, 0, none⟩ = some (.string b.name) ∧ w'.cell? ⟨w.heap.size + 1, 1, none⟩ = some (.slice pb b.args.length cb) ∧ w'.cell? ⟨w10.heap.size, 0, none⟩ = some (.string b.name) ∧ w'.cell? ⟨w10.heap.size, 1, none⟩ = some (.slice py b.args.length cy) ∧ Below w7.heap.size w7 w') (first | exact ⟨by assumption, by assumption, by assumption, by assumption, by assumption⟩ | go_keep) (first
    | (go_at_call 17; refine (CT12.out _ hB0).mono ?_; rintro e w16 ⟨v6, rfl, ho, hb⟩; have q0 : w16.cell? ⟨w.heap.size + 1, 0, none⟩ = some (.string b.name) := carry_cell' hb (by assumption); have q1 : w16.cell? ⟨w.heap.size + 1, 1, none⟩ = some (.slice pb b.args.length cb) := carry_cell' hb (by assumption); have q2 : w16.cell? ⟨w10.heap.size, 0, none⟩ = some (.string b.name) := carry_cell' hb (by assumption); have q3 : w16.cell? ⟨w10.heap.size, 1, none⟩ = some (.slice py b.args.length cy) := carry_cell' hb (by assumption); have hB6 := carry_below hB0 (Nat.le_refl _) hb; have HT6 := Lib.hid ho.read; clear hb ho)
    | (go_at_call 19; refine (CE12.out _ _ hB6 HT6.out).mono ?_; rintro e w17 ⟨rfl, hb⟩; have r0 : w17.cell? ⟨w.heap.size + 1, 0, none⟩ = some (.string b.name) := carry_cell' hb (by assumption); have r1 : w17.cell? ⟨w.heap.size + 1, 1, none⟩ = some (.slice pb b.args.length cb) := carry_cell' hb (by assumption); have r2 : w17.cell? ⟨w10.heap.size, 0, none⟩ = some (.string b.name) := carry_cell' hb (by assumption); have r3 : w17.cell? ⟨w10.heap.size, 1, none⟩ = some (.slice py b.args.length cy) := carry_cell' hb (by assumption); have hB7 := carry_below hB6 (Nat.le_refl _) hb; clear hb))
  have HB13 := Lib.hid (carry_below HB12.out (Nat.le_refl _) hB7)
  clear hB7 hB6 hB0
  go_wp2
  go_ret
  exact ⟨rfl, HB13.out⟩

/-! ### THE ROW's STEP: WRITTEN OUT: LEAVE IT -/
set_option maxRecDepth 100000 in
theorem lifted (os : Os) (started : os.Started) (H : Type) (enc : TypeId × Value → H) :
    ReturnsInHanded {} Try.checked os 9 .any (Rows.fnExactCompareTermsSpec.pre6 enc Try.prog Try.f9 Rows.fnExactCompareTermsRow.domain false) (Rows.fnExactCompareTermsSpec.post enc Try.prog Try.f9 false true false false) := by
  refine returnsInHanded_of_change (C := Try.checked) own started (by kernel_rfl) Try.func9
    (ChangeSpec.witness6 (enc := enc) (C := Try.checked) false ⟨#[], #[.agg #[.string ByteArray.empty, .slice none 0 0], .agg #[.string ByteArray.empty, .slice none 0 0]], []⟩ 8 (by kernel_rfl) (by kernel_rfl) (by kernel_rfl) (by kernel_rfl)) ?_
  intro W base args ds gs before hval0 hW hcnd _
  have hval : ∀ (j : Nat) t v, Try.f9.params[j]? = some t → args[j]? = some v → Value.okWide Try.prog W .any base t v := hval0
  have hW' := hW
  obtain ⟨p, q, hA0, hV, rfl, hfz, hnd⟩ := hW
  have hA : DataW.TrodAll enc Try.prog W 0 (fun _ => true) true Try.f9.params.toList args.toList ds p := hA0
  rw [Try.params9] at hA hval
  obtain ⟨v0, vs0, d0, ds0, p0, q0, hargs, rfl, rfl, h0, r0⟩ := trodAll_cons hA
  obtain ⟨v1, vs1, d1, ds1, p1, q1, rfl, rfl, rfl, h1, r1⟩ := trodAll_cons r0
  obtain ⟨rfl, rfl, rfl⟩ := trodAll_nil r1
  obtain rfl : args = #[v0, v1] := by cases args; simp_all
  obtain ⟨rfl, rfl⟩ := trodVars_none hV
  have k0 := h0
  have lt0 : ∀ x ∈ p0, x.block < W.heap.size := by obtain ⟨m, hm⟩ := k0; exact DataW.trod_lt m _ _ _ hm
  obtain ⟨t0, va0, rfl, tm0, lim0⟩ := open_term 9223372036854775807 (by unfold maxLen; omega) (hval 0 24 v0 rfl rfl) h0
  have k1 := h1
  have lt1 : ∀ x ∈ p1, x.block < W.heap.size := by obtain ⟨m, hm⟩ := k1; exact DataW.trod_lt m _ _ _ hm
  obtain ⟨t1, va1, rfl, tm1, lim1⟩ := open_term 9223372036854775807 (by unfold maxLen; omega) (hval 1 24 v1 rfl rfl) h1
  clear hA0 hval0
  refine (walk t0 va0 t1 va1 W tm0 lim0 tm1 lim1).mono fun e W' ⟨he, bel⟩ => ?_
  subst he
  exact ⟨_, rfl, _, _, _, [], _, [], hW', trodAll_mk1 (shut_bool Try.underlying4 _), (trodAll_cons_mk (Below.trod laidOut (by kernel_rfl) (of_decide_eq_true (by kernel_rfl)) k0 bel lt0) (trodAll_cons_mk (Below.trod laidOut (by kernel_rfl) (of_decide_eq_true (by kernel_rfl)) k1 bel lt1) trodAll_mk0)), rfl, bel.frame _, fun h => by cases h⟩

theorem over : Rows.fnExactCompareTermsRow.holds Try.pinned (OpenSpec.ofChange Rows.fnExactCompareTermsSpec) :=
  OpenClaim.holds_of_wide 9 Try.f9 rfl rfl rfl rfl rfl rfl rfl ⟨rfl, rfl, rfl, rfl, rfl⟩ rfl rfl rfl rfl rfl (by kernel_rfl) Try.func9 (by kernel_rfl)
    (of_decide_eq_true (by kernel_rfl)) (by unfold Func.isWrapper; first | (rw [if_pos (by decide +kernel)]; kernel_rfl) | (rw [if_neg (by decide +kernel)]; exact ⟨rfl, rfl⟩))
    (fun os started H enc _ => lifted os started H enc)

/-- ████ THE STATEMENT ████ -/
theorem proved : Rows.FnExactCompareTermsSaid := over
end Go.Proofs.Ytojlijbmjmigjaa.fnExactCompareTerms
