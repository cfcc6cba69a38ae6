/- NegationNormalForm answers as its model for every formula: no condition. -/
import Derived.Test.YtppmiedhoimgmaaNnR
import Derived.Test.YtppmiedhoimgmaaHeF
import Derived.Test.YtppmiedhoimgmaaOwnF
import Derived.Test.YtppmiedhoimgmaaSzF
import Derived.Test.YtppmiedhoimgmaaToF
import Derived.Test.YtppmiedhoimgmaaEqF
import Derived.Test.YtppmiedhoimgmaaOpenF
import Derived.Test.YtppmiedhoimgmaaJf
import Derived.Deep.RegionWith
import Derived.Deep.Cut
import Derived.OpenShut
import Derived.ShutString
import Derived.ChangeOld
namespace Go.Proofs.Ytppmiedhoimgmaa.fnExactNegationNormalForm
open Go.ChangeShapes Go.WideShapes Go.ChangeAt Go.RowKit
open Go.ChangeMaps (open_string shut_string)
set_option linter.unusedVariables false

theorem own : ownKnob Try.prog.godebug = none := by kernel_rfl
theorem laidOut : laidOutB Try.prog = true := by kernel_rfl

/-- What both functions answer, as the law sees it. -/
def ResEnd (r : Fm) (ok : Bool) (w : World) (e : Ending) (w' : World) : Prop :=
  ∃ va vp, e = .returned (.tuple #[.agg #[.int .i64 r.op, .string r.atom.name, va, .string r.var, vp], .bool ok]) ∧ FOwn w' (Fresh w w') r va vp ∧ Below w.heap.size w w'
theorem below_out {w0 a b : World} {lo hi : Nat} (h : Below w0.heap.size w0 a) (ho : Outside (Ivl lo hi) a b) (hl : w0.heap.size ≤ lo) : Below w0.heap.size w0 b :=
  ho.below h (Nat.le_refl _) (fun k hk => Nat.le_trans hl hk.1)

set_option maxRecDepth 100000 in
set_option maxHeartbeats 16000000 in
theorem core (t : Fm) (va vp : Value) (r : Fm) (ok : Bool) (w : World) (hv : FmV w va vp t) (hlim : t.lim 9223372036854775807)
    (hr : t.wt ≤ 1048576 → r.wt ≤ 1048576)
    (hcs : t.wt ≤ 1048576 → ∀ (W : World) (q0a q0p : Value), FmV W q0a q0p t → Calls Try.prog 44 #[.agg #[.int .i64 t.op, .string t.atom.name, q0a, .string t.var, q0p]] W (ResEnd r ok W))
    (hci : t.wt ≤ 1048576 → ∀ (W : World) (q0a q0p : Value), FmV W q0a q0p t → Calls Try.prog 45 #[.agg #[.int .i64 t.op, .string t.atom.name, q0a, .string t.var, q0p]] W (ResEnd r ok W)) :
    Calls Try.prog 7 #[.agg #[.int .i64 t.op, .string t.atom.name, va, .string t.var, vp]] w fun e w' => e = .returned (.bool true) ∧ Below w.heap.size w w' := by
  obtain ⟨pa, ca, pp, cp, rfl, rfl⟩ := hv.open
  have HV := Lib.hid hv
  have HLIM := Lib.hid hlim
  have HCS0 := Lib.hid hcs
  have HCI0 := Lib.hid hci
  have HR0 := Lib.hid hr
  clear hv hlim hcs hci hr
  have HB_0 := Lib.hid ((Below.refl w.heap.size w).alloc (Nat.le_refl _) (.cells #[.int .i64 t.op, .string t.atom.name, .slice pa t.atom.args.length ca, .string t.var, .slice pp t.parts.length cp] 63))
  have FA_0 := Lib.hid (fivB_new w (.int .i64 t.op) (.string t.atom.name) (.slice pa t.atom.args.length ca) (.string t.var) (.slice pp t.parts.length cp) 63 _ rfl)
  go_enter Try.func7, Try.ntmps7
  go_wp2_with fail
  refine (szFmV_any t _ _ _ 1048576 (HV.out.kept HB_0.out) HLIM.out (by omega) (by omega)).mono ?_
  rintro e w1 ⟨rfl, hb⟩
  have HB_1 := Lib.hid (carry_below HB_0.out (Nat.le_refl _) hb)
  have FA_1 := Lib.hid (FA_0.out.kept hb)
  clear HB_0 FA_0
  clear hb
  have hfa1 := FA_1.out.1
  have hfa2 : w.heap.size < w1.heap.size := World.block_lt_of_cell? w1 ⟨w.heap.size, 0, none⟩ hfa1
  clear hfa1
  obtain ⟨a0, a1, a2, a3, a4, a5⟩ := FA_1.out
  have alt : w.heap.size < w1.heap.size := World.block_lt_of_cell? w1 ⟨w.heap.size, 0, none⟩ a0
  rcases szR_cases 1048576 t.wt with ⟨c1, c2⟩ | ⟨c1, c2⟩
  · rw [c2]
    clear c2
    go_wp2
    go_ret
    exact ⟨rfl, HB_1.out⟩
  rw [c2]
  clear c2
  have hw : t.wt ≤ 1048576 := by omega
  have HL := Lib.hid (Fm.lim_of_wt t 1048576 hw)
  have HLR := Lib.hid (Fm.lim_of_wt r 1048576 (HR0.out hw))
  have HCS := Lib.hid (HCS0.out hw)
  have HCI := Lib.hid (HCI0.out hw)
  have hmn : 1 + sumL Tm.sz t.atom.args + sumG Fm.mn t.parts ≤ 100000000 := by have := t.mn_eq; have := t.mn_wt; omega
  have hmr : 1 + sumL Tm.sz r.atom.args + sumG Fm.mn r.parts ≤ 100000000 := by have := r.mn_eq; have := r.mn_wt; have := HR0.out hw; omega
  clear HR0
  go_wp2_with fail
  refine (toFmV_any t _ _ _ (HV.out.kept HB_1.out) hw).mono ?_
  rintro e w2 ⟨u2a, u2q, rfl, ho, hb⟩
  obtain ⟨p2, c2_, pp2, cp2, rfl, rfl⟩ := ho.read.open
  have hz2 := hb.size
  clear a0 a1 a2 a3 a4 a5 alt
  have HB_2 := Lib.hid (carry_below HB_1.out (Nat.le_refl _) hb)
  have FA_2 := Lib.hid (FA_1.out.kept hb)
  clear HB_1 FA_1
  have HT2 := Lib.hid ho.read
  clear ho hb
  obtain ⟨a0, a1, a2, a3, a4, a5⟩ := FA_2.out
  have alt : w.heap.size < w2.heap.size := World.block_lt_of_cell? w2 ⟨w.heap.size, 0, none⟩ a0
  go_wp2_with fail
  refine (HCS.out _ _ _ HT2.out).mono ?_
  rintro e w3 ⟨v3a, v3p, rfl, ho, hb⟩
  obtain ⟨p3, c3_, pp3, cp3, rfl, rfl⟩ := ho.read.open
  have hz3 := hb.size
  have HB_3 := Lib.hid (carry_below HB_2.out (Nat.le_refl _) hb)
  have FA_3 := Lib.hid (FA_2.out.kept hb)
  clear HB_2 FA_2
  clear a0 a1 a2 a3 a4 a5 alt
  have K_0 := Lib.hid (OwnFm.fresh ho)
  clear ho hb HT2
  obtain ⟨a0, a1, a2, a3, a4, a5⟩ := FA_3.out
  have alt : w.heap.size < w3.heap.size := World.block_lt_of_cell? w3 ⟨w.heap.size, 0, none⟩ a0
  have hbA : Below w3.heap.size w3 (w3.alloc (.cells #[.int .i64 r.op, .string r.atom.name, .slice p3 r.atom.args.length c3_, .string r.var, .slice pp3 r.parts.length cp3] 68)) := (Below.refl _ _).alloc (Nat.le_refl _) _
  have HB_4 := Lib.hid (carry_below HB_3.out (Nat.le_refl _) hbA)
  have FA_4 := Lib.hid (FA_3.out.kept hbA)
  have K_1 := Lib.hid (K_0.out.kept hbA)
  clear HB_3 FA_3 K_0
  clear hbA
  have BK_0 := Lib.hid (fivB_new w3 (.int .i64 r.op) (.string r.atom.name) (.slice p3 r.atom.args.length c3_) (.string r.var) (.slice pp3 r.parts.length cp3) 68 _ rfl)
  go_wp2_with fail
  refine (toFmV_any t _ _ _ (HV.out.kept HB_4.out) hw).mono ?_
  rintro e w4 ⟨u4a, u4q, rfl, ho, hb⟩
  obtain ⟨p4, c4_, pp4, cp4, rfl, rfl⟩ := ho.read.open
  have hz4 := hb.size
  clear a0 a1 a2 a3 a4 a5 alt
  have HB_5 := Lib.hid (carry_below HB_4.out (Nat.le_refl _) hb)
  have FA_5 := Lib.hid (FA_4.out.kept hb)
  have K_2 := Lib.hid (K_1.out.kept hb)
  have BK_1 := Lib.hid (BK_0.out.kept hb)
  clear HB_4 FA_4 K_1 BK_0
  have X_0 := Lib.hid (OwnFm.fresh ho)
  clear ho hb
  obtain ⟨a0, a1, a2, a3, a4, a5⟩ := FA_5.out
  have alt : w.heap.size < w4.heap.size := World.block_lt_of_cell? w4 ⟨w.heap.size, 0, none⟩ a0
  have hbA : Below w4.heap.size w4 (w4.alloc (.cells #[.int .i64 t.op, .string t.atom.name, .slice p4 t.atom.args.length c4_, .string t.var, .slice pp4 t.parts.length cp4] 68)) := (Below.refl _ _).alloc (Nat.le_refl _) _
  have HB_6 := Lib.hid (carry_below HB_5.out (Nat.le_refl _) hbA)
  have FA_6 := Lib.hid (FA_5.out.kept hbA)
  have K_3 := Lib.hid (K_2.out.kept hbA)
  have BK_2 := Lib.hid (BK_1.out.kept hbA)
  have X_1 := Lib.hid (X_0.out.kept hbA)
  clear HB_5 FA_5 K_2 BK_1 X_0
  clear hbA
  have BX_0 := Lib.hid (fivB_new w4 (.int .i64 t.op) (.string t.atom.name) (.slice p4 t.atom.args.length c4_) (.string t.var) (.slice pp4 t.parts.length cp4) 68 _ rfl)
  go_wp2_with fail
  refine (HCI.out _ _ _ X_1.out.read).mono ?_
  rintro e w5 ⟨v5a, v5p, rfl, ho, hb⟩
  obtain ⟨p5, c5_, pp5, cp5, rfl, rfl⟩ := ho.read.open
  have hz5 := hb.size
  have HB_7 := Lib.hid (carry_below HB_6.out (Nat.le_refl _) hb)
  have FA_7 := Lib.hid (FA_6.out.kept hb)
  have K_4 := Lib.hid (K_3.out.kept hb)
  have BK_3 := Lib.hid (BK_2.out.kept hb)
  have X_2 := Lib.hid (X_1.out.kept hb)
  have BX_1 := Lib.hid (BX_0.out.kept hb)
  clear HB_6 FA_6 K_3 BK_2 X_1 BX_0
  clear a0 a1 a2 a3 a4 a5 alt
  have G_0 := Lib.hid (OwnFm.fresh ho)
  clear ho hb
  obtain ⟨k0, k1, k2, k3, k4, k5⟩ := BK_3.out
  have klt : w3.heap.size < w5.heap.size := World.block_lt_of_cell? w5 ⟨w3.heap.size, 0, none⟩ k0
  have hbA : Below w5.heap.size w5 (w5.alloc (.cells #[.int .i64 r.op, .string r.atom.name, .slice p5 r.atom.args.length c5_, .string r.var, .slice pp5 r.parts.length cp5] 68)) := (Below.refl _ _).alloc (Nat.le_refl _) _
  have HB_8 := Lib.hid (carry_below HB_7.out (Nat.le_refl _) hbA)
  have FA_8 := Lib.hid (FA_7.out.kept hbA)
  have K_5 := Lib.hid (K_4.out.kept hbA)
  have BK_4 := Lib.hid (BK_3.out.kept hbA)
  have X_3 := Lib.hid (X_2.out.kept hbA)
  have BX_2 := Lib.hid (BX_1.out.kept hbA)
  have G_1 := Lib.hid (G_0.out.kept hbA)
  clear HB_7 FA_7 K_4 BK_3 X_2 BX_1 G_0
  clear hbA
  have BG_0 := Lib.hid (fivB_new w5 (.int .i64 r.op) (.string r.atom.name) (.slice p5 r.atom.args.length c5_) (.string r.var) (.slice pp5 r.parts.length cp5) 68 _ rfl)
  have y3 : (w3.alloc (.cells #[.int .i64 r.op, .string r.atom.name, .slice p3 r.atom.args.length c3_, .string r.var, .slice pp3 r.parts.length cp3] 68)).heap.size = w3.heap.size + 1 := by simp
  have y4 : (w4.alloc (.cells #[.int .i64 t.op, .string t.atom.name, .slice p4 t.atom.args.length c4_, .string t.var, .slice pp4 t.parts.length cp4] 68)).heap.size = w4.heap.size + 1 := by simp
  have y5 : (w5.alloc (.cells #[.int .i64 r.op, .string r.atom.name, .slice p5 r.atom.args.length c5_, .string r.var, .slice pp5 r.parts.length cp5] 68)).heap.size = w5.heap.size + 1 := by simp
  have CE := Lib.hid (eqFmV_any r _ _ _ _ _ G_1.out.read K_5.out.read HLR.out)
  go_wp2_with fail
  refine CE.out.mono ?_
  rintro e w6 ⟨rfl, hb⟩
  have hz6 := hb.size
  clear k0 k1 k2 k3 k4 k5 klt
  have HB_9 := Lib.hid (carry_below HB_8.out (Nat.le_refl _) hb)
  have FA_9 := Lib.hid (FA_8.out.kept hb)
  have K_6 := Lib.hid (K_5.out.kept hb)
  have BK_5 := Lib.hid (BK_4.out.kept hb)
  have X_4 := Lib.hid (X_3.out.kept hb)
  have BX_3 := Lib.hid (BX_2.out.kept hb)
  have G_2 := Lib.hid (G_1.out.kept hb)
  have BG_1 := Lib.hid (BG_0.out.kept hb)
  clear HB_8 FA_8 K_5 BK_4 X_3 BX_2 G_1 BG_0
  clear hb CE
  obtain ⟨a0, a1, a2, a3, a4, a5⟩ := FA_9.out
  have alt : w.heap.size < w6.heap.size := World.block_lt_of_cell? w6 ⟨w.heap.size, 0, none⟩ a0
  obtain ⟨x0, x1, x2, x3, x4, x5⟩ := BX_3.out
  have xlt : w4.heap.size < w6.heap.size := World.block_lt_of_cell? w6 ⟨w4.heap.size, 0, none⟩ x0
  have CT : Hid (∀ W : World, Below w6.heap.size w6 W → Calls Try.prog 36 #[.agg #[.int .i64 t.op, .string t.atom.name, .slice pa t.atom.args.length ca, .string t.var, .slice pp t.parts.length cp]] W (ToFmEnd t W)) := Lib.hid (fun W hW => toFmV_any t W _ _ ((HV.out.kept HB_9.out).kept hW) hw)
  have CE : Hid (∀ (W : World) (q0a q0p : Value), Below w6.heap.size w6 W → FmV W q0a q0p t → Calls Try.prog 39 #[.agg #[.int .i64 t.op, .string t.atom.name, .slice p4 t.atom.args.length c4_, .string t.var, .slice pp4 t.parts.length cp4], .agg #[.int .i64 t.op, .string t.atom.name, q0a, .string t.var, q0p]] W (EqEnd true W)) := Lib.hid (fun W q0a q0p hW hv => eqFmV_any t W _ _ _ _ (X_4.out.read.kept hW) hv HL.out)
  have hB0 : Below w6.heap.size w6 w6.drew := (Below.refl _ _).drew
  go_wp2_with fail
  go_region_held3 (fun w' => w'.cell? ⟨w.heap.size, 0, none⟩ = some (.int .i64 t.op) ∧ w'.cell? ⟨w.heap.size, 1, none⟩ = some (.string t.atom.name) ∧ w'.cell? ⟨w.heap.size, 2, none⟩ = some (.slice pa t.atom.args.length ca) ∧ w'.cell? ⟨w.heap.size, 3, none⟩ = some (.string t.var) ∧ w'.cell? ⟨w.heap.size, 4, none⟩ = some (.slice pp t.parts.length cp) ∧ w'.cell? ⟨w4.heap.size, 0, none⟩ = some (.int .i64 t.op) ∧ w'.cell? ⟨w4.heap.size, 1, none⟩ = some (.string t.atom.name) ∧ w'.cell? ⟨w4.heap.size, 2, none⟩ = some (.slice p4 t.atom.args.length c4_) ∧ w'.cell? ⟨w4.heap.size, 3, none⟩ = some (.string t.var) ∧ w'.cell? ⟨w4.heap.size, 4, none⟩ = some (.slice pp4 t.parts.length cp4) ∧ Below w6.heap.size w6 w') (first | exact ⟨by assumption, by assumption, by assumption, by assumption, by assumption, by assumption, by assumption, by assumption, by assumption, by assumption, by assumption⟩ | go_keep) (first | (go_at_call 36; refine (CT.out _ hB0).mono ?_; rintro e w66 ⟨v66a, v66q, rfl, ho, hb⟩; have y0' := carry_cell' hb a0; have y1' := carry_cell' hb a1; have y2' := carry_cell' hb a2; have y3' := carry_cell' hb a3; have y4' := carry_cell' hb a4; have y5' := carry_cell' hb x0; have y6' := carry_cell' hb x1; have y7' := carry_cell' hb x2; have y8' := carry_cell' hb x3; have y9' := carry_cell' hb x4; have hB66 := carry_below hB0 (Nat.le_refl _) hb; have HT66 := Lib.hid ho.read; clear hb ho) | (go_at_call 39; refine (CE.out _ _ _ hB66 HT66.out).mono ?_; rintro e w7 ⟨rfl, hb⟩; have z0' := carry_cell' hb y0'; have z1' := carry_cell' hb y1'; have z2' := carry_cell' hb y2'; have z3' := carry_cell' hb y3'; have z4' := carry_cell' hb y4'; have z5' := carry_cell' hb y5'; have z6' := carry_cell' hb y6'; have z7' := carry_cell' hb y7'; have z8' := carry_cell' hb y8'; have z9' := carry_cell' hb y9'; have hB7 := carry_below hB66 (Nat.le_refl _) hb; clear hb))
  clear a0 a1 a2 a3 a4 a5 alt x0 x1 x2 x3 x4 x5 xlt
  have hz7 := hB7.size
  have HB_10 := Lib.hid (carry_below HB_9.out (Nat.le_refl _) hB7)
  have FA_10 := Lib.hid (FA_9.out.kept hB7)
  have K_7 := Lib.hid (K_6.out.kept hB7)
  have BK_6 := Lib.hid (BK_5.out.kept hB7)
  have X_5 := Lib.hid (X_4.out.kept hB7)
  have BX_4 := Lib.hid (BX_3.out.kept hB7)
  have G_3 := Lib.hid (G_2.out.kept hB7)
  have BG_2 := Lib.hid (BG_1.out.kept hB7)
  clear HB_9 FA_9 K_6 BK_5 X_4 BX_3 G_2 BG_1
  clear hB7 hB66 hB0 y0' z0' y1' z1' y2' z2' y3' z3' y4' z4' y5' z5' y6' z6' y7' z7' y8' z8' y9' z9' HT66 CT CE
  have wlt : w.heap.size < w2.heap.size := by omega
  obtain ⟨x0, x1, x2, x3, x4, x5⟩ := BX_4.out
  have xlt : w4.heap.size < w7.heap.size := World.block_lt_of_cell? w7 ⟨w4.heap.size, 0, none⟩ x0
  have CM := Lib.hid (markFm_any t 1 _ _ _ _ X_5.out.1 X_5.out.bound (by omega) hmn)
  go_wp2_with fail
  refine CM.out.mono ?_
  rintro e w8 ⟨rfl, hout, ho⟩
  have hz8 := hout.size
  clear x0 x1 x2 x3 x4 x5 xlt
  have HB_11 := Lib.hid (below_out HB_10.out hout (by omega))
  have FA_11 := Lib.hid (FA_10.out.outside hout (fun h => by have h1 := h.1; have h2 := h.2; omega))
  have K_8 := Lib.hid (K_7.out.outside hout (by omega))
  have BK_7 := Lib.hid (BK_6.out.outside hout (fun h => by have h1 := h.1; have h2 := h.2; omega))
  have G_4 := Lib.hid (G_3.out.outside hout (by omega))
  have BG_3 := Lib.hid (BG_2.out.outside hout (fun h => by have h1 := h.1; have h2 := h.2; omega))
  clear HB_10 FA_10 K_7 BK_6 G_3 BG_2
  clear X_5 BX_4
  obtain ⟨kk, hkk⟩ : ∃ kk, kk = 1 + sumL Tm.sz t.atom.args + sumG Fm.mn t.parts := ⟨_, rfl⟩
  rw [← hkk]
  have hk0 : decide (((kk : Nat) : Int) < 0) = false := by first | (simp; done) | (simp; omega)
  clear hkk ho hout CM
  obtain ⟨g0, g1, g2, g3, g4, g5⟩ := BG_3.out
  have glt : w5.heap.size < w8.heap.size := World.block_lt_of_cell? w8 ⟨w5.heap.size, 0, none⟩ g0
  obtain ⟨k0, k1, k2, k3, k4, k5⟩ := BK_7.out
  have klt : w3.heap.size < w8.heap.size := World.block_lt_of_cell? w8 ⟨w3.heap.size, 0, none⟩ k0
  have CE := Lib.hid (eqFmV_any r _ _ _ _ _ G_4.out.read K_8.out.read HLR.out)
  go_wp2_with fail
  refine CE.out.mono ?_
  rintro e w9 ⟨rfl, hb⟩
  have hz9 := hb.size
  clear g0 g1 g2 g3 g4 g5 glt k0 k1 k2 k3 k4 k5 klt
  have HB_12 := Lib.hid (carry_below HB_11.out (Nat.le_refl _) hb)
  have FA_12 := Lib.hid (FA_11.out.kept hb)
  have K_9 := Lib.hid (K_8.out.kept hb)
  have BK_8 := Lib.hid (BK_7.out.kept hb)
  have G_5 := Lib.hid (G_4.out.kept hb)
  have BG_4 := Lib.hid (BG_3.out.kept hb)
  clear HB_11 FA_11 K_8 BK_7 G_4 BG_3
  clear hb CE
  obtain ⟨g0, g1, g2, g3, g4, g5⟩ := BG_4.out
  have glt : w5.heap.size < w9.heap.size := World.block_lt_of_cell? w9 ⟨w5.heap.size, 0, none⟩ g0
  have CM := Lib.hid (markFm_any r 1 _ _ _ _ G_5.out.1 G_5.out.bound (by omega) hmr)
  go_wp2_with fail
  refine CM.out.mono ?_
  rintro e w10 ⟨rfl, hout, Sa, Sp, -, -, -, hma, hmp⟩
  have hz10 := hout.size
  clear g0 g1 g2 g3 g4 g5 glt
  have HB_13 := Lib.hid (below_out HB_12.out hout (by omega))
  have FA_13 := Lib.hid (FA_12.out.outside hout (fun h => by have h1 := h.1; have h2 := h.2; omega))
  have K_10 := Lib.hid (K_9.out.outside hout (by omega))
  have BK_9 := Lib.hid (BK_8.out.outside hout (fun h => by have h1 := h.1; have h2 := h.2; omega))
  have BG_5 := Lib.hid (BG_4.out.outside hout (fun h => by have h1 := h.1; have h2 := h.2; omega))
  clear HB_12 FA_12 K_9 BK_8 BG_4
  clear G_5
  have MA_0 := Lib.hid (hma.read)
  have MP_0 := Lib.hid (hmp.read)
  obtain ⟨mm, hmm⟩ : ∃ mm, mm = 1 + sumL Tm.sz r.atom.args + sumG Fm.mn r.parts := ⟨_, rfl⟩
  rw [← hmm]
  have HMM := Lib.hid hmm
  have hm0 : decide (((mm : Nat) : Int) < 0) = false := by first | (simp; done) | (simp; omega)
  have hm1 : decide ((mm : Int) ≠ (mm : Int)) = false := by simp
  clear hmm hma hmp hout CM
  obtain ⟨g0, g1, g2, g3, g4, g5⟩ := BG_5.out
  have glt : w5.heap.size < w10.heap.size := World.block_lt_of_cell? w10 ⟨w5.heap.size, 0, none⟩ g0
  have CH := Lib.hid (heldFm_any r r.op r.atom.name r.var 1 _ _ _ MA_0.out MP_0.out (Nat.le_refl _) hmr)
  go_wp2_with fail
  refine CH.out.mono ?_
  rintro e w11 ⟨rfl, hb⟩
  rw [← HMM.out]
  have hz11 := hb.size
  clear g0 g1 g2 g3 g4 g5 glt
  have HB_14 := Lib.hid (carry_below HB_13.out (Nat.le_refl _) hb)
  have FA_14 := Lib.hid (FA_13.out.kept hb)
  have K_11 := Lib.hid (K_10.out.kept hb)
  have BK_10 := Lib.hid (BK_9.out.kept hb)
  have BG_6 := Lib.hid (BG_5.out.kept hb)
  have MA_1 := Lib.hid (MA_0.out.kept hb)
  have MP_1 := Lib.hid (MP_0.out.kept hb)
  clear HB_13 FA_13 K_10 BK_9 BG_5 MA_0 MP_0
  clear hb CH
  obtain ⟨a0, a1, a2, a3, a4, a5⟩ := FA_14.out
  have alt : w.heap.size < w11.heap.size := World.block_lt_of_cell? w11 ⟨w.heap.size, 0, none⟩ a0
  go_wp2_with fail
  refine (toFmV_any t _ _ _ (HV.out.kept HB_14.out) hw).mono ?_
  rintro e w12 ⟨u12a, u12q, rfl, ho, hb⟩
  obtain ⟨p12, c12_, pp12, cp12, rfl, rfl⟩ := ho.read.open
  have hz12 := hb.size
  clear a0 a1 a2 a3 a4 a5 alt
  have HB_15 := Lib.hid (carry_below HB_14.out (Nat.le_refl _) hb)
  have FA_15 := Lib.hid (FA_14.out.kept hb)
  have K_12 := Lib.hid (K_11.out.kept hb)
  have BK_11 := Lib.hid (BK_10.out.kept hb)
  have BG_7 := Lib.hid (BG_6.out.kept hb)
  have MA_2 := Lib.hid (MA_1.out.kept hb)
  have MP_2 := Lib.hid (MP_1.out.kept hb)
  clear HB_14 FA_14 K_11 BK_10 BG_6 MA_1 MP_1
  have HT12 := Lib.hid ho.read
  clear ho hb
  go_wp2_with fail
  refine (HCI.out _ _ _ HT12.out).mono ?_
  rintro e w13 ⟨v13a, v13p, rfl, ho, hb⟩
  obtain ⟨p13, c13_, pp13, cp13, rfl, rfl⟩ := ho.read.open
  have hz13 := hb.size
  have HB_16 := Lib.hid (carry_below HB_15.out (Nat.le_refl _) hb)
  have FA_16 := Lib.hid (FA_15.out.kept hb)
  have K_13 := Lib.hid (K_12.out.kept hb)
  have BK_12 := Lib.hid (BK_11.out.kept hb)
  have BG_8 := Lib.hid (BG_7.out.kept hb)
  have MA_3 := Lib.hid (MA_2.out.kept hb)
  have MP_3 := Lib.hid (MP_2.out.kept hb)
  clear HB_15 FA_15 K_12 BK_11 BG_7 MA_2 MP_2
  have H_0 := Lib.hid (OwnFm.fresh ho)
  clear ho hb HT12
  obtain ⟨k0, k1, k2, k3, k4, k5⟩ := BK_12.out
  have klt : w3.heap.size < w13.heap.size := World.block_lt_of_cell? w13 ⟨w3.heap.size, 0, none⟩ k0
  have hbA : Below w13.heap.size w13 (w13.alloc (.cells #[.int .i64 r.op, .string r.atom.name, .slice p13 r.atom.args.length c13_, .string r.var, .slice pp13 r.parts.length cp13] 68)) := (Below.refl _ _).alloc (Nat.le_refl _) _
  have HB_17 := Lib.hid (carry_below HB_16.out (Nat.le_refl _) hbA)
  have FA_17 := Lib.hid (FA_16.out.kept hbA)
  have K_14 := Lib.hid (K_13.out.kept hbA)
  have BK_13 := Lib.hid (BK_12.out.kept hbA)
  have BG_9 := Lib.hid (BG_8.out.kept hbA)
  have MA_4 := Lib.hid (MA_3.out.kept hbA)
  have MP_4 := Lib.hid (MP_3.out.kept hbA)
  have H_1 := Lib.hid (H_0.out.kept hbA)
  clear HB_16 FA_16 K_13 BK_12 BG_8 MA_3 MP_3 H_0
  clear hbA
  have CE := Lib.hid (eqFmV_any r _ _ _ _ _ H_1.out.read K_14.out.read HLR.out)
  go_wp2_with fail
  refine CE.out.mono ?_
  rintro e w14 ⟨rfl, hb⟩
  have hz14 := hb.size
  clear k0 k1 k2 k3 k4 k5 klt
  have HB_18 := Lib.hid (carry_below HB_17.out (Nat.le_refl _) hb)
  have FA_18 := Lib.hid (FA_17.out.kept hb)
  have K_15 := Lib.hid (K_14.out.kept hb)
  have BK_14 := Lib.hid (BK_13.out.kept hb)
  have BG_10 := Lib.hid (BG_9.out.kept hb)
  have MA_5 := Lib.hid (MA_4.out.kept hb)
  have MP_5 := Lib.hid (MP_4.out.kept hb)
  have H_2 := Lib.hid (H_1.out.kept hb)
  clear HB_17 FA_17 K_14 BK_13 BG_9 MA_4 MP_4 H_1
  clear hb CE
  obtain ⟨g0, g1, g2, g3, g4, g5⟩ := BG_10.out
  have glt : w5.heap.size < w14.heap.size := World.block_lt_of_cell? w14 ⟨w5.heap.size, 0, none⟩ g0
  have CH := Lib.hid (heldFm_any r r.op r.atom.name r.var 1 _ _ _ MA_5.out MP_5.out (Nat.le_refl _) hmr)
  go_wp2_with fail
  refine CH.out.mono ?_
  rintro e w15 ⟨rfl, hb⟩
  rw [← HMM.out]
  have hz15 := hb.size
  clear g0 g1 g2 g3 g4 g5 glt
  have HB_19 := Lib.hid (carry_below HB_18.out (Nat.le_refl _) hb)
  have FA_19 := Lib.hid (FA_18.out.kept hb)
  have K_16 := Lib.hid (K_15.out.kept hb)
  have BK_15 := Lib.hid (BK_14.out.kept hb)
  have BG_11 := Lib.hid (BG_10.out.kept hb)
  have MA_6 := Lib.hid (MA_5.out.kept hb)
  have MP_6 := Lib.hid (MP_5.out.kept hb)
  have H_3 := Lib.hid (H_2.out.kept hb)
  clear HB_18 FA_18 K_15 BK_14 BG_10 MA_5 MP_5 H_2
  clear hb CH
  go_wp2
  go_ret
  exact ⟨rfl, HB_19.out⟩

theorem walk (t0 : Fm) (va0 vp0 : Value) (w : World) (h0 : FmV w va0 vp0 t0) (l0 : t0.lim 9223372036854775807) :
    Calls Try.prog 7 #[.agg #[.int .i64 t0.op, .string t0.atom.name, va0, .string t0.var, vp0]] w fun e w' => e = .returned (.bool true) ∧ Below w.heap.size w w' :=
  core t0 va0 vp0 (nnA t0) (nnB t0) w h0 l0 (fun h => by have := nnA_wt t0; omega)
    (fun hs W q0a q0p h0 => specNn_any t0 W _ _ h0 hs)
    (fun hs W q0a q0p h0 => implNn_any t0 W _ _ h0 hs)

/-! ### THE ROW's STEP: WRITTEN OUT: LEAVE IT -/
set_option maxRecDepth 100000 in
theorem lifted (os : Os) (started : os.Started) (H : Type) (enc : TypeId × Value → H) :
    ReturnsInHanded {} Try.checked os 7 .any (Rows.fnExactNegationNormalFormSpec.pre6 enc Try.prog Try.f7 Rows.fnExactNegationNormalFormRow.domain false) (Rows.fnExactNegationNormalFormSpec.post enc Try.prog Try.f7 false true false false) := by
  refine returnsInHanded_of_change (C := Try.checked) own started (by kernel_rfl) Try.func7
    (ChangeSpec.witness6 (enc := enc) (C := Try.checked) false ⟨#[], #[.agg #[.int .i64 0, .string ByteArray.empty, .slice none 0 0, .string ByteArray.empty, .slice none 0 0]], []⟩ 8 (by kernel_rfl) (by kernel_rfl) (by kernel_rfl) (by kernel_rfl)) ?_
  intro W base args ds gs before hval0 hW hcnd _
  have hval : ∀ (j : Nat) t v, Try.f7.params[j]? = some t → args[j]? = some v → Value.okWide Try.prog W .any base t v := hval0
  have hW' := hW
  obtain ⟨p, q, hA0, hV, rfl, hfz, hnd⟩ := hW
  have hA : DataW.TrodAll enc Try.prog W 0 (fun _ => true) true Try.f7.params.toList args.toList ds p := hA0
  rw [Try.params7] at hA hval
  obtain ⟨v0, vs0, d0, ds0, p0, q0, hargs, rfl, rfl, h0, r0⟩ := trodAll_cons hA
  obtain ⟨rfl, rfl, rfl⟩ := trodAll_nil r0
  obtain rfl : args = #[v0] := by cases args; simp_all
  obtain ⟨rfl, rfl⟩ := trodVars_none hV
  have k0 := h0
  have lt0 : ∀ x ∈ p0, x.block < W.heap.size := by obtain ⟨m, hm⟩ := k0; exact DataW.trod_lt m _ _ _ hm
  obtain ⟨t0, va0, vp0, rfl, tm0, fm0, lim0⟩ := open_formula 9223372036854775807 (by unfold maxLen; omega) (hval 0 63 v0 rfl rfl) h0
  clear hA0 hval0
  refine (walk t0 va0 vp0 W ⟨tm0, fm0⟩ lim0).mono fun e W' ⟨he, bel⟩ => ?_
  subst he
  exact ⟨_, rfl, _, _, _, [], _, [], hW', trodAll_mk1 (shut_bool Try.underlying4 _), (trodAll_cons_mk (Below.trod laidOut (by kernel_rfl) (of_decide_eq_true (by kernel_rfl)) k0 bel lt0) trodAll_mk0), rfl, bel.frame _, fun h => by cases h⟩


theorem jfPlace : (Rows.fnExactNegationNormalFormRow.inPlace == Try.prog.inPlace 7) = true := by kernel_rfl
theorem jfFollow : (Rows.fnExactNegationNormalFormRow.unfollowed == Try.prog.unfollowed 7) = true := by kernel_rfl
theorem jfRecurses : (Rows.fnExactNegationNormalFormRow.recurses == Try.prog.recurses 7) = true := by kernel_rfl
theorem jfNamed : (Rows.fnExactNegationNormalFormRow.named == Try.prog.varsNamed 7) = true := by kernel_rfl
theorem jfKeys : (Rows.fnExactNegationNormalFormRow.plainKeys == Try.prog.plainKeys) = true := by kernel_rfl
theorem facts : joinedFacts Try.prog 7 Try.f7 Rows.fnExactNegationNormalFormSpec Rows.fnExactNegationNormalFormRow = true :=
  jf_of (P := Try.prog) jfLaid jfRowed jfHeard jfEnter jfLifts (by kernel_rfl) (by kernel_rfl) (by kernel_rfl) (by kernel_rfl) (by kernel_rfl) (by kernel_rfl) (by kernel_rfl)
    jfPlace jfFollow jfRecurses jfNamed (by kernel_rfl) (by kernel_rfl) (by kernel_rfl) (by kernel_rfl) (by kernel_rfl) (by kernel_rfl) (by kernel_rfl) (by kernel_rfl) (by kernel_rfl)
    jfKeys (by kernel_rfl) (by kernel_rfl) (by kernel_rfl) (by kernel_rfl) (by kernel_rfl) (by kernel_rfl)

theorem over : Rows.fnExactNegationNormalFormRow.holds Try.pinned (OpenSpec.ofChange Rows.fnExactNegationNormalFormSpec) :=
  OpenClaim.holds_of_wide 7 Try.f7 rfl rfl rfl rfl rfl rfl rfl ⟨rfl, rfl, rfl, rfl, rfl⟩ rfl rfl rfl rfl rfl (by kernel_rfl) Try.func7 facts
    (of_decide_eq_true (by kernel_rfl)) (by unfold Func.isWrapper; first | (rw [if_pos (by decide +kernel)]; kernel_rfl) | (rw [if_neg (by decide +kernel)]; exact ⟨rfl, rfl⟩))
    (fun os started H enc _ => lifted os started H enc)

/-- ████ THE STATEMENT ████ -/
theorem proved : Rows.FnExactNegationNormalFormSaid := over
end Go.Proofs.Ytppmiedhoimgmaa.fnExactNegationNormalForm
