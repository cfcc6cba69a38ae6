/- FreeVariables answers as its model for every formula: no condition. -/
import Derived.Test.YtdpeanpmjhpblaaFiG
import Derived.Test.YtdpeanpmjhpblaaStG
import Derived.Test.YtdpeanpmjhpblaaMfG
import Derived.Test.YtdpeanpmjhpblaaEqG
import Derived.Test.YtdpeanpmjhpblaaJf
import Derived.Deep.RegionWith
import Derived.Deep.Cut
import Derived.OpenShut
import Derived.ShutString
import Derived.ChangeOld
namespace Go.Proofs.Ytdpeanpmjhpblaa.fnExactFreeVariables
open Go.ChangeShapes Go.WideShapes Go.ChangeAt Go.RowKit
open Go.ChangeMaps (open_string shut_string)
set_option linter.unusedVariables false

theorem own : ownKnob Try.prog.godebug = none := by kernel_rfl
theorem laidOut : laidOutB Try.prog = true := by kernel_rfl


/-- A slice of strings that lies below the block N. -/
def LVB (w : World) (N : Nat) (v : Value) (ss : List ByteArray) : Prop :=
  ∃ b cp, v = .slice (some ⟨b, 0, none⟩) ss.length cp ∧ b < N ∧ N ≤ w.heap.size ∧ ∀ i, i < ss.length → w.cell? ⟨b, i, none⟩ = some (.string (ss.getD i ByteArray.empty))
theorem LVB.of {w : World} {v : Value} {ss : List ByteArray} (h : LV w v ss) : LVB w w.heap.size v ss := by
  obtain ⟨b, cp, hv, hc, hl, hx⟩ := h
  exact ⟨b, cp, hv, hl, Nat.le_refl _, hx⟩
theorem LVB.kept {w w' : World} {N : Nat} {v : Value} {ss : List ByteArray} (h : LVB w N v ss) (hb : Below w.heap.size w w') : LVB w' N v ss := by
  obtain ⟨b, cp, hv, hl, hn, hx⟩ := h
  exact ⟨b, cp, hv, hl, Nat.le_trans hn hb.size, fun i hi => carry_cell (hx i hi) hb⟩
theorem LVB.outside {w w' : World} {N lo hi : Nat} {v : Value} {ss : List ByteArray} (h : LVB w N v ss) (ho : Outside (Ivl lo hi) w w') (hd : N ≤ lo) : LVB w' N v ss := by
  obtain ⟨b, cp, hv, hl, hn, hx⟩ := h
  exact ⟨b, cp, hv, hl, Nat.le_trans hn ho.size, fun i hi => ho.cell (hx i hi) (fun hk => by have := hk.1; simp at this; omega)⟩
theorem LVB.grown {w w' : World} {N g : Nat} {v : Value} {ss : List ByteArray} (h : LVB w N v ss) (ho : w.grownBy w' (some g)) (hd : N ≤ g) : LVB w' N v ss := by
  obtain ⟨b, cp, hv, hl, hn, hx⟩ := h
  exact ⟨b, cp, hv, hl, Nat.le_trans hn ho.size, fun i hi => ho.cell (hx i hi) (by simp; omega)⟩
theorem LVB.strs {w : World} {N : Nat} {v : Value} {ss : List ByteArray} (h : LVB w N v ss) : StrsV w v ss := by
  obtain ⟨b, cp, rfl, hl, hn, hx⟩ := h
  by_cases h0 : ss.length = 0
  · have e : ss = [] := List.length_eq_zero_iff.1 h0
    subst e
    exact .inl ⟨_, _, rfl, rfl⟩
  · exact .inr ⟨b, 0, cp, rfl, by omega, fun i hi => by rw [Nat.zero_add]; exact hx i hi⟩
theorem two_grown {w w' : World} {b g : Nat} {x y : Value} (h : Two w b x y) (hg : w.grownBy w' (some g)) (hne : b ≠ g) : Two w' b x y :=
  ⟨hg.cell h.1 (by simpa using hne), hg.cell h.2.1 (by simpa using hne), fun j =>
    (World.frozen?_of_block (w := w) (a := ⟨b, j, none⟩) (hg.block b (World.block_lt_of_cell? w ⟨b, 0, none⟩ h.1) (by simpa using hne))).trans (h.2.2 j)⟩
theorem own_below {w w' : World} {base : Nat} {e : TypeId} {size : Nat} {v : Value} {n : Nat} {xs : List Value} (h : w.ownsRow base e size v n xs) (hb : Below w.heap.size w w') : w'.ownsRow base e size v n xs := by
  refine h.kept (grown_of_below hb none) ?_
  cases v.ownBlock with
  | none => exact .inl rfl
  | some g => exact .inr (by simp)
theorem own_outside {w w' : World} {base lo hi : Nat} {e : TypeId} {size : Nat} {v : Value} {n : Nat} {xs : List Value} (h : w.ownsRow base e size v n xs) (ho : Outside (Ivl lo hi) w w') (hd : hi ≤ base) : w'.ownsRow base e size v n xs := by
  refine ⟨h.1, ?_⟩
  rcases h.2 with h2 | ⟨g, cap, cur, h3, hbg, hgb, rest⟩
  · exact .inl h2
  · exact .inr ⟨g, cap, cur, h3, hbg, (ho.block g (Array.getElem?_eq_some_iff.1 hgb).1 (fun hk => by have := hk.2; omega)).trans hgb, rest⟩

set_option maxRecDepth 100000 in
set_option maxHeartbeats 16000000 in
theorem walk (t : Fm) (va vp : Value) (w : World) (hv : FmV w va vp t) (hlim : t.lim 9223372036854775807) :
    Calls Try.prog 3 #[.agg #[.int .i64 t.op, .string t.atom.name, va, .string t.var, vp]] w fun e w' => e = .returned (.bool true) ∧ Below w.heap.size w w' := by
  obtain ⟨pa, ca, pp, cp, rfl, rfl⟩ := hv.open
  have HV := Lib.hid hv
  have HLIM := Lib.hid hlim
  have H2 := Lib.hid (fivB_new w (.int .i64 t.op) (.string t.atom.name) (.slice pa t.atom.args.length ca) (.string t.var) (.slice pp t.parts.length cp) 27 _ rfl)
  have HB := Lib.hid ((Below.refl w.heap.size w).alloc (Nat.le_refl _) (.cells #[.int .i64 t.op, .string t.atom.name, .slice pa t.atom.args.length ca, .string t.var, .slice pp t.parts.length cp] 27))
  clear hv hlim
  go_enter Try.func3, Try.ntmps3
  go_wp2_with fail
  refine (szFmV_any t _ _ _ 1048576 (HV.out.kept HB.out) HLIM.out (by omega) (by omega)).mono ?_
  rintro e w1 ⟨rfl, hb⟩
  have HB1 := Lib.hid (carry_below HB.out (Nat.le_refl _) hb)
  have H21 := Lib.hid (H2.out.kept hb)
  obtain ⟨a0, a1, a2, a3, a4, a5⟩ := H2.out.kept hb
  clear hb
  rcases szR_cases 1048576 t.wt with ⟨c1, c2⟩ | ⟨c1, c2⟩
  · rw [c2]
    clear c2
    go_wp2
    go_ret
    exact ⟨rfl, HB1.out⟩
  · rw [c2]
    clear c2
    have hw : t.wt ≤ 1048576 := by omega
    have HL := Lib.hid (Fm.lim_of_wt t 1048576 hw)
    have hmn : 1 + sumL Tm.sz t.atom.args + sumG Fm.mn t.parts ≤ 100000000 := by have := t.mn_eq; have := t.mn_wt; omega
    have hvn : (fvA t).length ≤ 1048576 := by
      unfold fvA
      split
      · rename_i ha
        have := t.fv_len [] []
        have := fgood_az ha
        simp at *; omega
      · simp
    go_wp2_with fail
    refine (toFmV_any t _ _ _ (HV.out.kept HB1.out) hw).mono ?_
    rintro e w2 ⟨v2a, v2q, rfl, ho, hb⟩
    have HB2 := Lib.hid (carry_below HB1.out (Nat.le_refl _) hb)
    have H22 := Lib.hid (H21.out.kept hb)
    obtain ⟨a0, a1, a2, a3, a4, a5⟩ := H21.out.kept hb
    obtain ⟨p2, c2', pp2, cp2, rfl, rfl⟩ := ho.read.open
    have HT2 := Lib.hid ho.read
    clear hb ho
    go_wp2_with fail
    refine (specFv_any t _ _ _ HT2.out hw (fun h => fgood_az h)).mono ?_
    rintro e w3 ⟨v3, rfl, hv3, hb⟩
    have HB3 := Lib.hid (carry_below HB2.out (Nat.le_refl _) hb)
    have H23 := Lib.hid (H22.out.kept hb)
    obtain ⟨a0, a1, a2, a3, a4, a5⟩ := H22.out.kept hb
    have L3 := Lib.hid (LVB.of hv3)
    generalize hO : fgoodB t = O
    obtain ⟨b3, c3, rfl, _⟩ := hv3
    obtain ⟨n3, hn3⟩ : ∃ n, n = (fvA t).length := ⟨_, rfl⟩
    rw [← hn3] at L3 ⊢
    have HN3 := Lib.hid hn3
    clear hb hn3
    go_wp2_with fail
    refine (toFmV_any t _ _ _ (HV.out.kept HB3.out) hw).mono ?_
    rintro e w4 ⟨v4a, v4q, rfl, ho, hb⟩
    have HB4 := Lib.hid (carry_below HB3.out (Nat.le_refl _) hb)
    have H24 := Lib.hid (H23.out.kept hb)
    obtain ⟨a0, a1, a2, a3, a4, a5⟩ := H23.out.kept hb
    have L4 := Lib.hid (L3.out.kept hb)
    have hz34 := hb.size
    obtain ⟨px, cx, ppx, cpx, rfl, rfl⟩ := ho.read.open
    have hbA : Below w4.heap.size w4 (w4.alloc (.cells #[.int .i64 t.op, .string t.atom.name, .slice px t.atom.args.length cx, .string t.var, .slice ppx t.parts.length cpx] 37)) := (Below.refl _ _).alloc (Nat.le_refl _) _
    have HBX := Lib.hid (carry_below HB4.out (Nat.le_refl _) hbA)
    have OX := Lib.hid ((OwnFm.fresh ho).kept hbA)
    have H2X := Lib.hid (H24.out.kept hbA)
    have LX := Lib.hid (L4.out.kept hbA)
    have X2X := Lib.hid (fivB_new w4 (.int .i64 t.op) (.string t.atom.name) (.slice px t.atom.args.length cx) (.string t.var) (.slice ppx t.parts.length cpx) 37 _ rfl)
    have e4 : (w4.alloc (.cells #[.int .i64 t.op, .string t.atom.name, .slice px t.atom.args.length cx, .string t.var, .slice ppx t.parts.length cpx] 37)).heap.size = w4.heap.size + 1 := by simp
    clear hb ho hbA
    go_wp2_with fail
    refine (implFv_any t _ _ _ OX.out.read hw).mono ?_
    rintro e w5 ⟨g5, c5, rfl, hown, hb⟩
    have HB5 := Lib.hid (carry_below HBX.out (Nat.le_refl _) hb)
    rw [e4] at hown
    rw [← fv_one t hw] at hown ⊢
    rw [hO, ← HN3.out]
    have R5 := Lib.hid hown
    have H25 := Lib.hid (H2X.out.kept hb)
    have X25 := Lib.hid (X2X.out.kept hb)
    have O5 := Lib.hid (OX.out.kept hb)
    have L5 := Lib.hid (LX.out.kept hb)
    have hg5 : w4.heap.size + 1 ≤ g5 := (hown.lt g5 (by simp [Value.ownBlock])).1
    obtain ⟨a0, a1, a2, a3, a4, a5⟩ := H25.out
    clear hb hown e4
    have CQ := Lib.hid (eqStringS_any _ _ (fvA t) (fvA t) w5 (strsV_of_owns R5.out) L5.out.strs (by omega) (by omega))
    rw [eqSs_self, ← HN3.out] at CQ
    go_wp2_with fail
    refine CQ.out.mono ?_
    rintro e w6 ⟨rfl, hd⟩
    have hb := hd.below w5.heap.size
    have HB6 := Lib.hid (carry_below HB5.out (Nat.le_refl _) hb)
    have H26 := Lib.hid (H25.out.kept hb)
    have X26 := Lib.hid (X25.out.kept hb)
    have O6 := Lib.hid (O5.out.kept hb)
    have L6 := Lib.hid (L5.out.kept hb)
    have R6 := Lib.hid (own_below R5.out hb)
    have HTX6 := Lib.hid O6.out.read
    obtain ⟨a0, a1, a2, a3, a4, a5⟩ := H26.out
    obtain ⟨x0, x1, x2, x3, x4, x5⟩ := X26.out
    clear hb hd CQ
    have CT : Hid (∀ W : World, Below w6.heap.size w6 W → Calls Try.prog 7 #[.agg #[.int .i64 t.op, .string t.atom.name, .slice pa t.atom.args.length ca, .string t.var, .slice pp t.parts.length cp]] W (ToFmEnd t W)) := Lib.hid (fun W hW => toFmV_any t W _ _ ((HV.out.kept HB6.out).kept hW) hw)
    have CE : Hid (∀ (W : World) (q0a q0p : Value), Below w6.heap.size w6 W → FmV W q0a q0p t → Calls Try.prog 10 #[.agg #[.int .i64 t.op, .string t.atom.name, .slice px t.atom.args.length cx, .string t.var, .slice ppx t.parts.length cpx], .agg #[.int .i64 t.op, .string t.atom.name, q0a, .string t.var, q0p]] W (EqEnd true W)) := Lib.hid (fun W q0a q0p hW hv => eqFmV_any t W _ _ _ _ (HTX6.out.kept hW) hv HL.out)
    have hB0 : Below w6.heap.size w6 w6.drew := (Below.refl _ _).drew
    go_wp2_with fail
    go_region_held3 (fun w' => w'.cell? ⟨w.heap.size, 0, none⟩ = some (.int .i64 t.op) ∧ w'.cell? ⟨w.heap.size, 1, none⟩ = some (.string t.atom.name) ∧ w'.cell? ⟨w.heap.size, 2, none⟩ = some (.slice pa t.atom.args.length ca) ∧ w'.cell? ⟨w.heap.size, 3, none⟩ = some (.string t.var) ∧ w'.cell? ⟨w.heap.size, 4, none⟩ = some (.slice pp t.parts.length cp) ∧ w'.cell? ⟨w4.heap.size, 0, none⟩ = some (.int .i64 t.op) ∧ w'.cell? ⟨w4.heap.size, 1, none⟩ = some (.string t.atom.name) ∧ w'.cell? ⟨w4.heap.size, 2, none⟩ = some (.slice px t.atom.args.length cx) ∧ w'.cell? ⟨w4.heap.size, 3, none⟩ = some (.string t.var) ∧ w'.cell? ⟨w4.heap.size, 4, none⟩ = some (.slice ppx t.parts.length cpx) ∧ Below w6.heap.size w6 w') (first | exact ⟨by assumption, by assumption, by assumption, by assumption, by assumption, by assumption, by assumption, by assumption, by assumption, by assumption, by assumption⟩ | go_keep) (first | (go_at_call 7; refine (CT.out _ hB0).mono ?_; rintro e w66 ⟨v66a, v66q, rfl, ho, hb⟩; have y0 := carry_cell' hb a0; have y1 := carry_cell' hb a1; have y2 := carry_cell' hb a2; have y3 := carry_cell' hb a3; have y4 := carry_cell' hb a4; have y5 := carry_cell' hb x0; have y6 := carry_cell' hb x1; have y7 := carry_cell' hb x2; have y8 := carry_cell' hb x3; have y9 := carry_cell' hb x4; have hB66 := carry_below hB0 (Nat.le_refl _) hb; have HT66 := Lib.hid ho.read; clear hb ho) | (go_at_call 10; refine (CE.out _ _ _ hB66 HT66.out).mono ?_; rintro e w7 ⟨rfl, hb⟩; have z0 := carry_cell' hb y0; have z1 := carry_cell' hb y1; have z2 := carry_cell' hb y2; have z3 := carry_cell' hb y3; have z4 := carry_cell' hb y4; have z5 := carry_cell' hb y5; have z6 := carry_cell' hb y6; have z7 := carry_cell' hb y7; have z8 := carry_cell' hb y8; have z9 := carry_cell' hb y9; have hB7 := carry_below hB66 (Nat.le_refl _) hb; clear hb))
    have HB7 := Lib.hid (carry_below HB6.out (Nat.le_refl _) hB7)
    have H27 := Lib.hid (H26.out.kept hB7)
    have O7 := Lib.hid (O6.out.kept hB7)
    have L7 := Lib.hid (L6.out.kept hB7)
    have R7 := Lib.hid (own_below R6.out hB7)
    have X27 := Lib.hid (X26.out.kept hB7)
    obtain ⟨m0, m1, m2, m3, m4, _⟩ := X27.out
    have hlt3 : w.heap.size < w3.heap.size := World.block_lt_of_cell? w3 ⟨w.heap.size, 0, none⟩ H23.out.1
    clear hB7 hB66 hB0 a0 a1 a2 a3 a4 a5 x0 x1 x2 x3 x4 x5 y0 y1 y2 y3 y4 y5 y6 y7 y8 y9 z0 z1 z2 z3 z4 z5 z6 z7 z8 z9 HT66 CT CE
    have CM := Lib.hid (markFm_any t 1 _ _ _ _ O7.out.1 O7.out.bound (by omega) hmn)
    go_wp2_with fail
    refine CM.out.mono ?_
    rintro e w8 ⟨rfl, hout, ho⟩
    have HB8 := Lib.hid (below_outside HB7.out hout (by omega))
    have H28 := Lib.hid (H27.out.outside hout (fun h => by have := h.1; omega))
    have L8 := Lib.hid (L7.out.outside hout (Nat.le_refl _))
    have R8 := Lib.hid (own_outside R7.out hout (by omega))
    have hm0 : decide (((1 + sumL Tm.sz t.atom.args + sumG Fm.mn t.parts : Nat) : Int) < 0) = false := by simp; omega
    generalize 1 + sumL Tm.sz t.atom.args + sumG Fm.mn t.parts = kk at *
    clear ho hout CM m0 m1 m2 m3 m4
    have CQ := Lib.hid (eqStringS_any _ _ (fvA t) (fvA t) w8 (strsV_of_owns R8.out) L8.out.strs (by omega) (by omega))
    rw [eqSs_self, ← HN3.out] at CQ
    go_wp2_with fail
    refine CQ.out.mono ?_
    rintro e w9 ⟨rfl, hd⟩
    have hb := hd.below w8.heap.size
    have HB9 := Lib.hid (carry_below HB8.out (Nat.le_refl _) hb)
    have H29 := Lib.hid (H28.out.kept hb)
    have L9 := Lib.hid (L8.out.kept hb)
    have R9 := Lib.hid (own_below R8.out hb)
    clear hb hd CQ
    have CS := Lib.hid (markStringS_any (w4.heap.size + 1) (fvA t).length _ _ w9 R9.out (by omega))
    rw [← HN3.out] at CS
    go_wp2_with fail
    refine CS.out.mono ?_
    rintro e w10 ⟨rfl, hown, hg⟩
    have hg' : w9.grownBy w10 (some g5) := hg
    have HB10 := Lib.hid (HB9.out.grown hg' HB9.out.size (fun r e => by cases e; omega))
    have H210 := Lib.hid (H29.out.grown hg' (by omega))
    have L10 := Lib.hid (L9.out.grown hg' (by omega))
    have R10 := Lib.hid hown
    have hn3b : n3 ≤ 1048576 := by rw [HN3.out]; exact hvn
    clear hown hg hg' CS
    have CH := Lib.hid (heldStringS_any n3 _ w10 (strsV_of_owns R10.out) (by omega))
    go_wp2_with fail
    refine CH.out.mono ?_
    rintro e w11 ⟨rfl, hb⟩
    have HB11 := Lib.hid (carry_below HB10.out (Nat.le_refl _) hb)
    have H211 := Lib.hid (H210.out.kept hb)
    have L11 := Lib.hid (L10.out.kept hb)
    have R11 := Lib.hid (own_below R10.out hb)
    obtain ⟨a0, a1, a2, a3, a4, a5⟩ := H211.out
    have hm1 : decide ((1 + (n3 : Int)) < 0) = false := by simp; omega
    clear hb CH
    go_wp2_with fail
    refine (toFmV_any t _ _ _ (HV.out.kept HB11.out) hw).mono ?_
    rintro e w12 ⟨v12a, v12q, rfl, ho, hb⟩
    obtain ⟨p12, c12, pp12, cp12, rfl, rfl⟩ := ho.read.open
    have HB12 := Lib.hid (carry_below HB11.out (Nat.le_refl _) hb)
    have L12 := Lib.hid (L11.out.kept hb)
    have R12 := Lib.hid (own_below R11.out hb)
    have HT12 := Lib.hid ho.read
    clear hb ho a0 a1 a2 a3 a4 a5
    go_wp2_with fail
    refine (implFv_any t _ _ _ HT12.out hw).mono ?_
    rintro e w13 ⟨g13, c13, rfl, hown, hb⟩
    rw [← fv_one t hw] at hown ⊢
    rw [hO, ← HN3.out]
    have HB13 := Lib.hid (carry_below HB12.out (Nat.le_refl _) hb)
    have L13 := Lib.hid (L12.out.kept hb)
    have R13 := Lib.hid (own_below R12.out hb)
    have CQ := Lib.hid (eqStringS_any _ _ (fvA t) (fvA t) w13 (strsV_of_owns hown) L13.out.strs (by omega) (by omega))
    rw [eqSs_self, ← HN3.out] at CQ
    clear hb hown
    go_wp2_with fail
    refine CQ.out.mono ?_
    rintro e w14 ⟨rfl, hd⟩
    have hb := hd.below w13.heap.size
    have HB14 := Lib.hid (carry_below HB13.out (Nat.le_refl _) hb)
    have R14 := Lib.hid (own_below R13.out hb)
    clear hb hd CQ
    have CH := Lib.hid (heldStringS_any n3 _ w14 (strsV_of_owns R14.out) (by omega))
    go_wp2_with fail
    refine CH.out.mono ?_
    rintro e w15 ⟨rfl, hb⟩
    have HB15 := Lib.hid (carry_below HB14.out (Nat.le_refl _) hb)
    clear hb CH
    go_wp2
    go_ret
    exact ⟨rfl, HB15.out⟩

/-! ### THE ROW's STEP: WRITTEN OUT: LEAVE IT -/
set_option maxRecDepth 100000 in
theorem lifted (os : Os) (started : os.Started) (H : Type) (enc : TypeId × Value → H) :
    ReturnsInHanded {} Try.checked os 3 .any (Rows.fnExactFreeVariablesSpec.pre6 enc Try.prog Try.f3 Rows.fnExactFreeVariablesRow.domain false) (Rows.fnExactFreeVariablesSpec.post enc Try.prog Try.f3 false true false false) := by
  refine returnsInHanded_of_change (C := Try.checked) own started (by kernel_rfl) Try.func3
    (ChangeSpec.witness6 (enc := enc) (C := Try.checked) false ⟨#[], #[.agg #[.int .i64 0, .string ByteArray.empty, .slice none 0 0, .string ByteArray.empty, .slice none 0 0]], []⟩ 8 (by kernel_rfl) (by kernel_rfl) (by kernel_rfl) (by kernel_rfl)) ?_
  intro W base args ds gs before hval0 hW hcnd _
  have hval : ∀ (j : Nat) t v, Try.f3.params[j]? = some t → args[j]? = some v → Value.okWide Try.prog W .any base t v := hval0
  have hW' := hW
  obtain ⟨p, q, hA0, hV, rfl, hfz, hnd⟩ := hW
  have hA : DataW.TrodAll enc Try.prog W 0 (fun _ => true) true Try.f3.params.toList args.toList ds p := hA0
  rw [Try.params3] at hA hval
  obtain ⟨v0, vs0, d0, ds0, p0, q0, hargs, rfl, rfl, h0, r0⟩ := trodAll_cons hA
  obtain ⟨rfl, rfl, rfl⟩ := trodAll_nil r0
  obtain rfl : args = #[v0] := by cases args; simp_all
  obtain ⟨rfl, rfl⟩ := trodVars_none hV
  have k0 := h0
  have lt0 : ∀ x ∈ p0, x.block < W.heap.size := by obtain ⟨m, hm⟩ := k0; exact DataW.trod_lt m _ _ _ hm
  obtain ⟨t0, va0, vp0, rfl, tm0, fm0, lim0⟩ := open_formula 9223372036854775807 (by unfold maxLen; omega) (hval 0 27 v0 rfl rfl) h0
  clear hA0 hval0
  refine (walk t0 va0 vp0 W ⟨tm0, fm0⟩ lim0).mono fun e W' ⟨he, bel⟩ => ?_
  subst he
  exact ⟨_, rfl, _, _, _, [], _, [], hW', trodAll_mk1 (shut_bool Try.underlying4 _), (trodAll_cons_mk (Below.trod laidOut (by kernel_rfl) (of_decide_eq_true (by kernel_rfl)) k0 bel lt0) trodAll_mk0), rfl, bel.frame _, fun h => by cases h⟩


theorem jfPlace : (Rows.fnExactFreeVariablesRow.inPlace == Try.prog.inPlace 3) = true := by kernel_rfl
theorem jfFollow : (Rows.fnExactFreeVariablesRow.unfollowed == Try.prog.unfollowed 3) = true := by kernel_rfl
theorem jfRecurses : (Rows.fnExactFreeVariablesRow.recurses == Try.prog.recurses 3) = true := by kernel_rfl
theorem jfNamed : (Rows.fnExactFreeVariablesRow.named == Try.prog.varsNamed 3) = true := by kernel_rfl
theorem jfKeys : (Rows.fnExactFreeVariablesRow.plainKeys == Try.prog.plainKeys) = true := by kernel_rfl
theorem facts : joinedFacts Try.prog 3 Try.f3 Rows.fnExactFreeVariablesSpec Rows.fnExactFreeVariablesRow = true :=
  jf_of (P := Try.prog) jfLaid jfRowed jfHeard jfEnter jfLifts (by kernel_rfl) (by kernel_rfl) (by kernel_rfl) (by kernel_rfl) (by kernel_rfl) (by kernel_rfl) (by kernel_rfl)
    jfPlace jfFollow jfRecurses jfNamed (by kernel_rfl) (by kernel_rfl) (by kernel_rfl) (by kernel_rfl) (by kernel_rfl) (by kernel_rfl) (by kernel_rfl) (by kernel_rfl) (by kernel_rfl)
    jfKeys (by kernel_rfl) (by kernel_rfl) (by kernel_rfl) (by kernel_rfl) (by kernel_rfl) (by kernel_rfl)

theorem over : Rows.fnExactFreeVariablesRow.holds Try.pinned (OpenSpec.ofChange Rows.fnExactFreeVariablesSpec) :=
  OpenClaim.holds_of_wide 3 Try.f3 rfl rfl rfl rfl rfl rfl rfl ⟨rfl, rfl, rfl, rfl, rfl⟩ rfl rfl rfl rfl rfl (by kernel_rfl) Try.func3 facts
    (of_decide_eq_true (by kernel_rfl)) (by unfold Func.isWrapper; first | (rw [if_pos (by decide +kernel)]; kernel_rfl) | (rw [if_neg (by decide +kernel)]; exact ⟨rfl, rfl⟩))
    (fun os started H enc _ => lifted os started H enc)

/-- ████ THE STATEMENT ████ -/
theorem proved : Rows.FnExactFreeVariablesSaid := over
end Go.Proofs.Ytdpeanpmjhpblaa.fnExactFreeVariables
