/- MaximalLiterals answers as its model for every ordering and every clause: no condition. -/
import Derived.Test.YtohalpafmcobpaaGreatMxG
import Derived.Test.YtohalpafmcobpaaGreatOgG
import Derived.Test.YtohalpafmcobpaaGreatOwnI
import Derived.Test.YtohalpafmcobpaaGreatOwG
import Derived.Test.YtohalpafmcobpaaGreatOpenTm
import Derived.Test.YtohalpafmcobpaaGreatClG
import Derived.Test.YtohalpafmcobpaaGreatJf
import Derived.Deep.RegionWith
import Derived.Deep.Cut
import Derived.OpenShut
import Derived.ShutString
import Derived.ChangeOld
namespace Go.Proofs.YtohalpafmcobpaaGreat.fnExactMaximalLiterals
open Go.ChangeShapes Go.WideShapes Go.ChangeAt Go.RowKit
open Go.ChangeMaps (open_string shut_string)
set_option linter.unusedVariables false

theorem own : ownKnob Tryz.prog.godebug = none := by kernel_rfl
theorem laidOut : laidOutB Tryz.prog = true := by kernel_rfl

/-- Integers in memory below a block. -/
def IntsL (w : World) (lo hi : Nat) (v : Value) (is : List Int) : Prop :=
  hi ≤ w.heap.size ∧ ∃ a c, v = .slice a is.length c ∧ ∀ k x, is[k]? = some x → ∃ b off, a = some ⟨b, off, none⟩ ∧ b < hi ∧ w.cell? ⟨b, off + k, none⟩ = some (.int .i64 x)
theorem IntsL.read {w : World} {lo hi : Nat} {v : Value} {is : List Int} (h : IntsL w lo hi v is) : IntsV w v is := by
  obtain ⟨_, a, c, hv, hc⟩ := h
  exact ⟨a, c, hv, fun k x hk => by obtain ⟨b, off, e, _, hx⟩ := hc k x hk; exact ⟨b, off, e, hx⟩⟩
theorem IntsL.kept {w w' : World} {lo hi : Nat} {v : Value} {is : List Int} (h : IntsL w lo hi v is) (hb : Below w.heap.size w w') : IntsL w' lo hi v is := by
  obtain ⟨h0, a, c, hv, hc⟩ := h
  exact ⟨Nat.le_trans h0 hb.size, a, c, hv, fun k x hk => by obtain ⟨b, off, e, hl, hx⟩ := hc k x hk; exact ⟨b, off, e, hl, carry_cell hx hb⟩⟩
theorem IntsL.outside {a b : World} {lo hi lo' hi' : Nat} {v : Value} {is : List Int} (h : IntsL a lo hi v is) (ho : Outside (Ivl lo' hi') a b) (hd : hi ≤ lo') : IntsL b lo hi v is := by
  obtain ⟨h0, p, c, hv, hc⟩ := h
  refine ⟨Nat.le_trans h0 ho.size, p, c, hv, fun k x hk => ?_⟩
  obtain ⟨g, off, e, hl, hx⟩ := hc k x hk
  exact ⟨g, off, e, hl, (World.cell?_of_block (a := ⟨g, off + k, none⟩) (w := a) (ho.block g (by omega) (fun hk' => by have := hk'.1; omega))).trans hx⟩
theorem IntsL.ofO {w w' : World} {v : Value} {is : List Int} (h : IntsO w' (Fresh w w') v is) : IntsL w' 0 w'.heap.size v is := by
  rcases h with ⟨a, c, rfl, rfl⟩ | ⟨g, c, rfl, _, _, hg, _, hc⟩
  · exact ⟨Nat.le_refl _, a, c, rfl, fun k x hk => by cases hk⟩
  · exact ⟨Nat.le_refl _, _, c, rfl, fun k x hk => ⟨g, 0, rfl, hg.2, by rw [Nat.zero_add]; exact hc k x hk⟩⟩

/-- What both functions answer, as the law sees it. -/
def ResS (r : List Int) (ok : Bool) (w : World) (e : Ending) (w' : World) : Prop := ∃ v, e = .returned (.tuple #[v, .bool ok]) ∧ IntsL w' 0 w'.heap.size v r ∧ Below w.heap.size w w'
def ResI (r : List Int) (ok : Bool) (w : World) (e : Ending) (w' : World) : Prop := ∃ v, e = .returned (.tuple #[v, .bool ok]) ∧ IntsO w' (Fresh w w') v r ∧ Below w.heap.size w w'
theorem ResI.s {r : List Int} {ok : Bool} {w w' : World} {e : Ending} (h : ResI r ok w e w') : ResS r ok w e w' := by
  obtain ⟨v, he, ho, hb⟩ := h
  exact ⟨v, he, .ofO ho, hb⟩
/-- What a statement leaves that calls one of them. -/
def Got (r : List Int) (ok : Bool) (w : World) (x y : Value) (w' : World) : Prop := y = .bool ok ∧ (∃ hi, IntsL w' 0 hi x r) ∧ Below w.heap.size w w'

theorem far1 {W : World} {g x o1 j : Nat} {u z : Value} (h : x ≠ g) (hc : W.cell? ⟨x, j, none⟩ = some z) : (W.setCell ⟨g, o1, none⟩ u).cell? ⟨x, j, none⟩ = some z :=
  (World.cell?_setCell_other _ _ _ _ (fun e => h (by cases e; rfl))).trans hc
theorem far {W : World} {g x o1 o2 j : Nat} {u v z : Value} (h : x ≠ g) (hc : W.cell? ⟨x, j, none⟩ = some z) : ((W.setCell ⟨g, o1, none⟩ u).setCell ⟨g, o2, none⟩ v).cell? ⟨x, j, none⟩ = some z := far1 h (far1 h hc)
theorem pre_alloc2 {w w' : World} {o : Obj} (hb : Below (w.alloc o).drew.heap.size (w.alloc o).drew w') : Below w.drew.heap.size w.drew w' :=
  Below.trans (show Below w.drew.heap.size w.drew (w.alloc o).drew from (Below.refl w.drew.heap.size w.drew).alloc (Nat.le_refl _) o) (hb.mono (by show w.heap.size ≤ (w.alloc o).heap.size; simp))
theorem pre_alloc {w w' : World} {o : Obj} (hb : Below (w.alloc o).heap.size (w.alloc o) w') : Below w.heap.size w w' := ((Below.refl w.heap.size w).alloc (Nat.le_refl _) o).trans (hb.mono (by simp))

set_option maxRecDepth 100000 in
set_option maxHeartbeats 16000000 in
theorem core (t0 : Od) (sv0 wv0 : Value) (t1 : List Lt) (va1 : Value) (r : List Int) (ok : Bool) (w : World) (h0 : OdV w sv0 wv0 t0) (l0 : t0.lim 9223372036854775807) (h1 : LtS w va1 t1) (l1 : limC 9223372036854775807 t1)
    (hr : r.length ≤ 1048576)
    (hcs : t0.wt + wtC t1 ≤ 1048576 → ∀ (W : World) (q0s q0w q1 : Value), OdV W q0s q0w t0 → LtS W q1 t1 → Calls Tryz.prog 16 #[.agg #[q0s, q0w, .int .i64 t0.va], .agg #[q1]] W (ResI r ok W))
    (hci : t0.wt + wtC t1 ≤ 1048576 → ∀ (W : World) (q0s q0w q1 : Value), OdV W q0s q0w t0 → LtS W q1 t1 → Calls Tryz.prog 18 #[.agg #[q0s, q0w, .int .i64 t0.va], .agg #[q1]] W (ResI r ok W)) :
    Calls Tryz.prog 4 #[.agg #[sv0, wv0, .int .i64 t0.va], .agg #[va1]] w fun e w' => e = .returned (.bool true) ∧ Below w.heap.size w w' := by
  obtain ⟨sa0, sc0, wa0, wc0, rfl, rfl⟩ := h0.open
  obtain ⟨pa1, ca1, rfl⟩ := h1.is_slice
  have HV0 := Lib.hid h0
  have HLIM0 := Lib.hid l0
  have HV1 := Lib.hid h1
  have HLIM1 := Lib.hid l1
  have HCS0 := Lib.hid hcs
  have HCI0 := Lib.hid hci
  clear hcs hci h0 l0 h1 l1
  have HB_0 := Lib.hid (((Below.refl w.heap.size w).alloc (Nat.le_refl _) (.cells #[.slice sa0 t0.sy.length sc0, .slice wa0 t0.ws.length wc0, .int .i64 t0.va] 25)).alloc (by simp) (.cells #[.slice pa1 t1.length ca1] 48))
  have A0_0 := Lib.hid ((thr_new w (.slice sa0 t0.sy.length sc0) (.slice wa0 t0.ws.length wc0) (.int .i64 t0.va) 25 _ rfl).alloc (.cells #[.slice pa1 t1.length ca1] 48))
  have A1_0 := Lib.hid (oner_new (w.alloc (.cells #[.slice sa0 t0.sy.length sc0, .slice wa0 t0.ws.length wc0, .int .i64 t0.va] 25)) (.slice pa1 t1.length ca1) 48 (w.heap.size + 1) (by simp))
  go_enter Tryz.func4, Tryz.ntmps4
  go_wp2_with fail
  refine (szOd_any t0 _ _ _ 1048576 (HV0.out.kept HB_0.out) HLIM0.out (by omega) (by omega)).mono ?_
  rintro e w1 ⟨rfl, hb⟩
  have HB_1 := Lib.hid (carry_below HB_0.out (Nat.le_refl _) hb)
  have A0_1 := Lib.hid (A0_0.out.kept hb)
  have A1_1 := Lib.hid (A1_0.out.kept hb)
  have z_1 : (w.alloc (.cells #[.slice sa0 t0.sy.length sc0, .slice wa0 t0.ws.length wc0, .int .i64 t0.va] 25)).heap.size + 1 ≤ w1.heap.size := by have := hb.size; simpa using this
  have z_0 : w.heap.size + 2 ≤ w1.heap.size := by have h := z_1; simp only [World.size_alloc] at h; omega
  clear hb
  obtain ⟨A0r0, A0r1, A0r3, A0r2⟩ := A0_1.out
  have A0lt : w.heap.size < w1.heap.size := World.block_lt_of_cell? w1 ⟨w.heap.size, 0, none⟩ A0r0
  obtain ⟨A1r0, A1r2⟩ := A1_1.out
  have A1lt : (w.heap.size + 1) < w1.heap.size := World.block_lt_of_cell? w1 ⟨(w.heap.size + 1), 0, none⟩ A1r0
  rcases szR_cases 1048576 (t0.wt) with ⟨c0a, c0b⟩ | ⟨c0a, c0b⟩
  · rw [c0b]
    clear c0b
    go_wp2
    go_ret
    exact ⟨rfl, HB_1.out⟩
  rw [c0b]
  clear c0b
  have hcl0 : (0 : Int) ≤ 1048576 - ((t0.wt : Nat) : Int) := by omega
  have hcn0 : ¬ 1048576 - ((t0.wt : Nat) : Int) < 0 := by omega
  go_wp2_with fail
  refine (szClause_any t1 _ _ (1048576 - ((t0.wt : Nat) : Int)) (HV1.out.kept HB_1.out) HLIM1.out (by omega) (by omega)).mono ?_
  rintro e w2 ⟨rfl, hb⟩
  clear A0r0 A0r1 A0r3 A0r2 A0lt A1r0 A1r2 A1lt
  have HB_2 := Lib.hid (carry_below HB_1.out (Nat.le_refl _) hb)
  have A0_2 := Lib.hid (A0_1.out.kept hb)
  have A1_2 := Lib.hid (A1_1.out.kept hb)
  have z_2 : w1.heap.size ≤ w2.heap.size := hb.size
  clear HB_1 A0_1 A1_1
  clear hb
  obtain ⟨A0r0, A0r1, A0r3, A0r2⟩ := A0_2.out
  have A0lt : w.heap.size < w2.heap.size := World.block_lt_of_cell? w2 ⟨w.heap.size, 0, none⟩ A0r0
  obtain ⟨A1r0, A1r2⟩ := A1_2.out
  have A1lt : (w.heap.size + 1) < w2.heap.size := World.block_lt_of_cell? w2 ⟨(w.heap.size + 1), 0, none⟩ A1r0
  rcases szR_cases (1048576 - ((t0.wt : Nat) : Int)) (wtC t1) with ⟨c1a, c1b⟩ | ⟨c1a, c1b⟩
  · rw [c1b]
    clear c1b
    go_wp2
    go_ret
    exact ⟨rfl, HB_2.out⟩
  rw [c1b]
  clear c1b
  have hcl1 : (0 : Int) ≤ 1048576 - ((t0.wt : Nat) : Int) - ((wtC t1 : Nat) : Int) := by omega
  have hcn1 : ¬ 1048576 - ((t0.wt : Nat) : Int) - ((wtC t1 : Nat) : Int) < 0 := by omega
  have hsum : t0.wt + wtC t1 ≤ 1048576 := by omega
  have hw0 : t0.wt ≤ 1048576 := by omega
  have HL0 := Lib.hid (Od.lim_of_wt t0 1048576 hw0)
  have hm0 : t0.sy.length + t0.ws.length ≤ 2097152 := by have := t0.wt_sy; have := t0.wt_ws; omega
  have hw1 : wtC t1 ≤ 1048576 := by omega
  have HL1 := Lib.hid (limC_of_wt hw1)
  have hm1 : sumC Lt.n t1 ≤ 4000000 := by have := sumCn_wt t1; omega
  have HCS := Lib.hid (HCS0.out hsum)
  have HCI := Lib.hid (HCI0.out hsum)
  have HCT := Lib.hid (fun W q0s q0w q1 k0 k1 => (HCS0.out hsum W q0s q0w q1 k0 k1).mono fun e w' h => ResI.s h)
  have HCJ := Lib.hid (fun W q0s q0w q1 k0 k1 => (HCI0.out hsum W q0s q0w q1 k0 k1).mono fun e w' h => ResI.s h)
  go_wp2_with fail
  have CCog : Hid (∀ (W : World), Below w2.heap.size w2 W → Calls Tryz.prog 10 #[.agg #[.slice sa0 t0.sy.length sc0, .slice wa0 t0.ws.length wc0, .int .i64 t0.va]] W (ToOEnd t0 W)) := Lib.hid (fun W hW => toOd_any t0 W _ _ (HV0.out.kept ((HB_2.out).trans (hW.mono HB_2.out.size))) hw0)
  have CCcl : Hid (∀ (W : World), Below w2.heap.size w2 W → Calls Tryz.prog 17 #[.agg #[.slice pa1 t1.length ca1]] W (ToClEnd t1 W)) := Lib.hid (fun W hW => toClause_any t1 W _ (HV1.out.kept ((HB_2.out).trans (hW.mono HB_2.out.size))) hw1)
  go_cut [6, 7] from 28 (fun x y wx => Got r ok w2 x y wx)
  case first =>
    have hB : Below w2.heap.size w2 w2.drew := (Below.refl _ _).drew
    go_region_held3 (fun w' => w'.cell? ⟨w.heap.size, 0, none⟩ = some (.slice sa0 t0.sy.length sc0) ∧ w'.cell? ⟨w.heap.size, 1, none⟩ = some (.slice wa0 t0.ws.length wc0) ∧ w'.cell? ⟨w.heap.size, 2, none⟩ = some (.int .i64 t0.va) ∧ w'.cell? ⟨w.heap.size + 1, 0, none⟩ = some (.slice pa1 t1.length ca1)) (first | exact ⟨by assumption, by assumption, by assumption, by assumption⟩ | go_keep) (first | (go_at_call 10; refine (CCog.out _ (by first | exact hB | exact hB.alloc hB.size _)).mono ?_; rintro e wn ⟨us, uw, um, rfl, ho, hb⟩; obtain ⟨up, uc, uwp, uwc, rfl, rfl⟩ := ho.read.open; have hb' := hb; (first | replace hb' := pre_alloc2 hb' | replace hb' := pre_alloc hb' | skip); have q0 : wn.cell? ⟨w.heap.size, 0, none⟩ = some (.slice sa0 t0.sy.length sc0) := carry_cell' hb' (by assumption); have q1 : wn.cell? ⟨w.heap.size, 1, none⟩ = some (.slice wa0 t0.ws.length wc0) := carry_cell' hb' (by assumption); have q2 : wn.cell? ⟨w.heap.size, 2, none⟩ = some (.int .i64 t0.va) := carry_cell' hb' (by assumption); have q3 : wn.cell? ⟨w.heap.size + 1, 0, none⟩ = some (.slice pa1 t1.length ca1) := carry_cell' hb' (by assumption); (try have HTcl1 := Lib.hid (HTcl1.out.kept hb')); (try have HTcl2 := Lib.hid (HTcl2.out.kept hb')); (try have HTog2 := Lib.hid (HTog1.out.kept hb')); have hB := carry_below hB (Nat.le_refl _) hb'; have HTog1 := Lib.hid ho.read; clear hb ho) | (go_at_call 17; refine (CCcl.out _ (by first | exact hB | exact hB.alloc hB.size _)).mono ?_; rintro e wn ⟨u, rfl, ho, hb⟩; obtain ⟨up, uc, rfl⟩ := ho.read.is_slice; have hb' := hb; (first | replace hb' := pre_alloc2 hb' | replace hb' := pre_alloc hb' | skip); have q0 : wn.cell? ⟨w.heap.size, 0, none⟩ = some (.slice sa0 t0.sy.length sc0) := carry_cell' hb' (by assumption); have q1 : wn.cell? ⟨w.heap.size, 1, none⟩ = some (.slice wa0 t0.ws.length wc0) := carry_cell' hb' (by assumption); have q2 : wn.cell? ⟨w.heap.size, 2, none⟩ = some (.int .i64 t0.va) := carry_cell' hb' (by assumption); have q3 : wn.cell? ⟨w.heap.size + 1, 0, none⟩ = some (.slice pa1 t1.length ca1) := carry_cell' hb' (by assumption); (try have HTog1 := Lib.hid (HTog1.out.kept hb')); (try have HTog2 := Lib.hid (HTog2.out.kept hb')); (try have HTcl2 := Lib.hid (HTcl1.out.kept hb')); have hB := carry_below hB (Nat.le_refl _) hb'; have HTcl1 := Lib.hid ho.read; clear hb ho) | (go_at_call 16; refine (HCT.out _ _ _ _ (by first | exact HTog1.out | exact HTog2.out | exact HTog1.out.kept ((Below.refl _ _).alloc (Nat.le_refl _) _) | exact HTog2.out.kept ((Below.refl _ _).alloc (Nat.le_refl _) _)) (by first | exact HTcl1.out | exact HTcl2.out | exact HTcl1.out.kept ((Below.refl _ _).alloc (Nat.le_refl _) _) | exact HTcl2.out.kept ((Below.refl _ _).alloc (Nat.le_refl _) _))).mono ?_; rintro e wn ⟨vn, rfl, ho, hb⟩; have HGO := Lib.hid ho; obtain ⟨_, up, uc, rfl, _⟩ := ho; have hb' := hb; (first | replace hb' := pre_alloc2 hb' | replace hb' := pre_alloc hb' | skip); have q0 : wn.cell? ⟨w.heap.size, 0, none⟩ = some (.slice sa0 t0.sy.length sc0) := carry_cell' hb' (by assumption); have q1 : wn.cell? ⟨w.heap.size, 1, none⟩ = some (.slice wa0 t0.ws.length wc0) := carry_cell' hb' (by assumption); have q2 : wn.cell? ⟨w.heap.size, 2, none⟩ = some (.int .i64 t0.va) := carry_cell' hb' (by assumption); have q3 : wn.cell? ⟨w.heap.size + 1, 0, none⟩ = some (.slice pa1 t1.length ca1) := carry_cell' hb' (by assumption); have hB := carry_below hB (Nat.le_refl _) hb'; clear hb))
    all_goals (go_wp2_with fail; go_meet)
    all_goals (exact ⟨rfl, ⟨_, HGO.out⟩, hB⟩)
  case rest =>
    obtain ⟨rfl, ⟨BWhi, how⟩, hb⟩ := hcut
    clear CCog CCcl
    obtain ⟨w3, hw3⟩ : ∃ x, x = wc := ⟨_, rfl⟩
    rw [← hw3] at how hb ⊢
    clear hw3
    have BWhi1 := how.1
    have HOW := Lib.hid how
    obtain ⟨_, BWp, BWc, rfl, _⟩ := how
    clear A0r0 A0r1 A0r3 A0r2 A0lt A1r0 A1r2 A1lt
    have HB_3 := Lib.hid (carry_below HB_2.out (Nat.le_refl _) hb)
    have A0_3 := Lib.hid (A0_2.out.kept hb)
    have A1_3 := Lib.hid (A1_2.out.kept hb)
    have z_3 : w2.heap.size ≤ w3.heap.size := hb.size
    clear HB_2 A0_2 A1_2
    have W0_3 := Lib.hid (HOW.out)
    clear hb HOW
    obtain ⟨A0r0, A0r1, A0r3, A0r2⟩ := A0_3.out
    have A0lt : w.heap.size < w3.heap.size := World.block_lt_of_cell? w3 ⟨w.heap.size, 0, none⟩ A0r0
    obtain ⟨A1r0, A1r2⟩ := A1_3.out
    have A1lt : (w.heap.size + 1) < w3.heap.size := World.block_lt_of_cell? w3 ⟨(w.heap.size + 1), 0, none⟩ A1r0
    go_wp2_with fail
    refine (toOd_any t0 _ _ _ (HV0.out.kept HB_3.out) hw0).mono ?_
    rintro e w4 ⟨u4s, u4w, u4m, rfl, ho, hb⟩
    obtain ⟨u4p, u4c, u4wp, u4wc, rfl, rfl⟩ := ho.read.open
    clear A0r0 A0r1 A0r3 A0r2 A0lt A1r0 A1r2 A1lt
    have HB_4 := Lib.hid (carry_below HB_3.out (Nat.le_refl _) hb)
    have A0_4 := Lib.hid (A0_3.out.kept hb)
    have A1_4 := Lib.hid (A1_3.out.kept hb)
    have W0_4 := Lib.hid (W0_3.out.kept hb)
    have z_4 : w3.heap.size ≤ w4.heap.size := hb.size
    clear HB_3 A0_3 A1_3 W0_3
    have X0_4 := Lib.hid ((OdI.fresh ho))
    clear hb ho
    obtain ⟨A0r0, A0r1, A0r3, A0r2⟩ := A0_4.out
    have A0lt : w.heap.size < w4.heap.size := World.block_lt_of_cell? w4 ⟨w.heap.size, 0, none⟩ A0r0
    obtain ⟨A1r0, A1r2⟩ := A1_4.out
    have A1lt : (w.heap.size + 1) < w4.heap.size := World.block_lt_of_cell? w4 ⟨(w.heap.size + 1), 0, none⟩ A1r0
    have HB_5 := Lib.hid (HB_4.out.alloc HB_4.out.size (.cells #[.slice u4p t0.sy.length u4c, .slice u4wp t0.ws.length u4wc, .int .i64 t0.va] 35))
    have A0_5 := Lib.hid (A0_4.out.kept ((Below.refl w4.heap.size w4).alloc (Nat.le_refl _) (.cells #[.slice u4p t0.sy.length u4c, .slice u4wp t0.ws.length u4wc, .int .i64 t0.va] 35)))
    have A1_5 := Lib.hid (A1_4.out.kept ((Below.refl w4.heap.size w4).alloc (Nat.le_refl _) (.cells #[.slice u4p t0.sy.length u4c, .slice u4wp t0.ws.length u4wc, .int .i64 t0.va] 35)))
    have W0_5 := Lib.hid (W0_4.out.kept ((Below.refl w4.heap.size w4).alloc (Nat.le_refl _) (.cells #[.slice u4p t0.sy.length u4c, .slice u4wp t0.ws.length u4wc, .int .i64 t0.va] 35)))
    have X0_5 := Lib.hid (X0_4.out.kept ((Below.refl w4.heap.size w4).alloc (Nat.le_refl _) (.cells #[.slice u4p t0.sy.length u4c, .slice u4wp t0.ws.length u4wc, .int .i64 t0.va] 35)))
    clear HB_4 A0_4 A1_4 W0_4 X0_4
    have BX0_5 := Lib.hid (thr_new w4 (.slice u4p t0.sy.length u4c) (.slice u4wp t0.ws.length u4wc) (.int .i64 t0.va) 35 _ rfl)
    go_wp2_with fail
    refine (toClause_any t1 _ _ (HV1.out.kept HB_5.out) hw1).mono ?_
    rintro e w5 ⟨u5, rfl, ho, hb⟩
    obtain ⟨u5p, u5c, rfl⟩ := ho.read.is_slice
    clear A0r0 A0r1 A0r3 A0r2 A0lt A1r0 A1r2 A1lt
    have HB_6 := Lib.hid (carry_below HB_5.out (Nat.le_refl _) hb)
    have A0_6 := Lib.hid (A0_5.out.kept hb)
    have A1_6 := Lib.hid (A1_5.out.kept hb)
    have W0_6 := Lib.hid (W0_5.out.kept hb)
    have X0_6 := Lib.hid (X0_5.out.kept hb)
    have BX0_6 := Lib.hid (BX0_5.out.kept hb)
    have z_6 : w4.heap.size + 1 ≤ w5.heap.size := by have := hb.size; simpa using this
    clear HB_5 A0_5 A1_5 W0_5 X0_5 BX0_5
    have X1_6 := Lib.hid ((OwnLt.freshAt ho (n := w4.heap.size + 1) (by simp)))
    clear hb ho
    obtain ⟨A0r0, A0r1, A0r3, A0r2⟩ := A0_6.out
    have A0lt : w.heap.size < w5.heap.size := World.block_lt_of_cell? w5 ⟨w.heap.size, 0, none⟩ A0r0
    obtain ⟨A1r0, A1r2⟩ := A1_6.out
    have A1lt : (w.heap.size + 1) < w5.heap.size := World.block_lt_of_cell? w5 ⟨(w.heap.size + 1), 0, none⟩ A1r0
    obtain ⟨BX0r0, BX0r1, BX0r3, BX0r2⟩ := BX0_6.out
    have BX0lt : w4.heap.size < w5.heap.size := World.block_lt_of_cell? w5 ⟨w4.heap.size, 0, none⟩ BX0r0
    have HB_7 := Lib.hid (HB_6.out.alloc HB_6.out.size (.cells #[.slice u5p t1.length u5c] 54))
    have A0_7 := Lib.hid (A0_6.out.kept ((Below.refl w5.heap.size w5).alloc (Nat.le_refl _) (.cells #[.slice u5p t1.length u5c] 54)))
    have A1_7 := Lib.hid (A1_6.out.kept ((Below.refl w5.heap.size w5).alloc (Nat.le_refl _) (.cells #[.slice u5p t1.length u5c] 54)))
    have W0_7 := Lib.hid (W0_6.out.kept ((Below.refl w5.heap.size w5).alloc (Nat.le_refl _) (.cells #[.slice u5p t1.length u5c] 54)))
    have X0_7 := Lib.hid (X0_6.out.kept ((Below.refl w5.heap.size w5).alloc (Nat.le_refl _) (.cells #[.slice u5p t1.length u5c] 54)))
    have BX0_7 := Lib.hid (BX0_6.out.kept ((Below.refl w5.heap.size w5).alloc (Nat.le_refl _) (.cells #[.slice u5p t1.length u5c] 54)))
    have X1_7 := Lib.hid (X1_6.out.kept ((Below.refl w5.heap.size w5).alloc (Nat.le_refl _) (.cells #[.slice u5p t1.length u5c] 54)))
    clear HB_6 A0_6 A1_6 W0_6 X0_6 BX0_6 X1_6
    have BX1_7 := Lib.hid (oner_new w5 (.slice u5p t1.length u5c) 54 _ rfl)
    go_wp2_with fail
    refine (HCI.out _ _ _ _ X0_7.out.read X1_7.out.read).mono ?_
    rintro e w6 ⟨u6, rfl, ho, hb⟩
    obtain ⟨u6p, u6c, rfl, _⟩ := ho.read
    clear A0r0 A0r1 A0r3 A0r2 A0lt A1r0 A1r2 A1lt BX0r0 BX0r1 BX0r3 BX0r2 BX0lt
    have HB_8 := Lib.hid (carry_below HB_7.out (Nat.le_refl _) hb)
    have A0_8 := Lib.hid (A0_7.out.kept hb)
    have A1_8 := Lib.hid (A1_7.out.kept hb)
    have W0_8 := Lib.hid (W0_7.out.kept hb)
    have X0_8 := Lib.hid (X0_7.out.kept hb)
    have BX0_8 := Lib.hid (BX0_7.out.kept hb)
    have X1_8 := Lib.hid (X1_7.out.kept hb)
    have BX1_8 := Lib.hid (BX1_7.out.kept hb)
    have z_8 : w5.heap.size + 1 ≤ w6.heap.size := by have := hb.size; simpa using this
    clear HB_7 A0_7 A1_7 W0_7 X0_7 BX0_7 X1_7 BX1_7
    have G_8 := Lib.hid ((IntsI.freshAt ho (n := w5.heap.size + 1) (by simp)))
    clear hb ho
    obtain ⟨A0r0, A0r1, A0r3, A0r2⟩ := A0_8.out
    have A0lt : w.heap.size < w6.heap.size := World.block_lt_of_cell? w6 ⟨w.heap.size, 0, none⟩ A0r0
    obtain ⟨A1r0, A1r2⟩ := A1_8.out
    have A1lt : (w.heap.size + 1) < w6.heap.size := World.block_lt_of_cell? w6 ⟨(w.heap.size + 1), 0, none⟩ A1r0
    obtain ⟨BX0r0, BX0r1, BX0r3, BX0r2⟩ := BX0_8.out
    have BX0lt : w4.heap.size < w6.heap.size := World.block_lt_of_cell? w6 ⟨w4.heap.size, 0, none⟩ BX0r0
    obtain ⟨BX1r0, BX1r2⟩ := BX1_8.out
    have BX1lt : w5.heap.size < w6.heap.size := World.block_lt_of_cell? w6 ⟨w5.heap.size, 0, none⟩ BX1r0
    have HCE := Lib.hid (eqIntS_any r _ _ _ G_8.out.read W0_8.out.read hr)
    go_wp2_with fail
    refine HCE.out.mono ?_
    rintro e w7 ⟨rfl, hb⟩
    clear A0r0 A0r1 A0r3 A0r2 A0lt A1r0 A1r2 A1lt BX0r0 BX0r1 BX0r3 BX0r2 BX0lt BX1r0 BX1r2 BX1lt
    have HB_9 := Lib.hid (carry_below HB_8.out (Nat.le_refl _) hb)
    have A0_9 := Lib.hid (A0_8.out.kept hb)
    have A1_9 := Lib.hid (A1_8.out.kept hb)
    have W0_9 := Lib.hid (W0_8.out.kept hb)
    have X0_9 := Lib.hid (X0_8.out.kept hb)
    have BX0_9 := Lib.hid (BX0_8.out.kept hb)
    have X1_9 := Lib.hid (X1_8.out.kept hb)
    have BX1_9 := Lib.hid (BX1_8.out.kept hb)
    have G_9 := Lib.hid (G_8.out.kept hb)
    have z_9 : w6.heap.size ≤ w7.heap.size := hb.size
    clear HB_8 A0_8 A1_8 W0_8 X0_8 BX0_8 X1_8 BX1_8 G_8
    clear hb HCE
    obtain ⟨A0r0, A0r1, A0r3, A0r2⟩ := A0_9.out
    have A0lt : w.heap.size < w7.heap.size := World.block_lt_of_cell? w7 ⟨w.heap.size, 0, none⟩ A0r0
    obtain ⟨A1r0, A1r2⟩ := A1_9.out
    have A1lt : (w.heap.size + 1) < w7.heap.size := World.block_lt_of_cell? w7 ⟨(w.heap.size + 1), 0, none⟩ A1r0
    obtain ⟨BX0r0, BX0r1, BX0r3, BX0r2⟩ := BX0_9.out
    have BX0lt : w4.heap.size < w7.heap.size := World.block_lt_of_cell? w7 ⟨w4.heap.size, 0, none⟩ BX0r0
    obtain ⟨BX1r0, BX1r2⟩ := BX1_9.out
    have BX1lt : w5.heap.size < w7.heap.size := World.block_lt_of_cell? w7 ⟨w5.heap.size, 0, none⟩ BX1r0
    have CT : Hid (∀ W : World, Below w7.heap.size w7 W → Calls Tryz.prog 10 #[.agg #[.slice sa0 t0.sy.length sc0, .slice wa0 t0.ws.length wc0, .int .i64 t0.va]] W (ToOEnd t0 W)) := Lib.hid (fun W hW => toOd_any t0 W _ _ (HV0.out.kept ((HB_9.out).trans (hW.mono HB_9.out.size))) hw0)
    have CE : Hid (∀ (W : World) (q0s q0w : Value), Below w7.heap.size w7 W → OdV W q0s q0w t0 → Calls Tryz.prog 13 #[.agg #[.slice u4p t0.sy.length u4c, .slice u4wp t0.ws.length u4wc, .int .i64 t0.va], .agg #[q0s, q0w, .int .i64 t0.va]] W (Ans (.bool true) W)) := Lib.hid (fun W q0s q0w hW hv => by
      exact eqOd_any t0 W _ _ _ _ (X0_9.out.read.kept hW) hv hw0)
    have hB0 : Below w7.heap.size w7 w7.drew := (Below.refl _ _).drew
    go_wp2_with fail
    go_region_held3 (fun w' => w'.cell? ⟨w.heap.size, 0, none⟩ = some (.slice sa0 t0.sy.length sc0) ∧ w'.cell? ⟨w.heap.size, 1, none⟩ = some (.slice wa0 t0.ws.length wc0) ∧ w'.cell? ⟨w.heap.size, 2, none⟩ = some (.int .i64 t0.va) ∧ w'.cell? ⟨w4.heap.size, 0, none⟩ = some (.slice u4p t0.sy.length u4c) ∧ w'.cell? ⟨w4.heap.size, 1, none⟩ = some (.slice u4wp t0.ws.length u4wc) ∧ w'.cell? ⟨w4.heap.size, 2, none⟩ = some (.int .i64 t0.va) ∧ Below w7.heap.size w7 w') (first | exact ⟨by assumption, by assumption, by assumption, by assumption, by assumption, by assumption, by assumption⟩ | go_keep) (first | (go_at_call 10; refine (CT.out _ hB0).mono ?_; rintro e w8a ⟨v6s, v6w, v6m, rfl, ho, hb⟩; have q0 : w8a.cell? ⟨w.heap.size, 0, none⟩ = some (.slice sa0 t0.sy.length sc0) := carry_cell' hb (by assumption); have q1 : w8a.cell? ⟨w.heap.size, 1, none⟩ = some (.slice wa0 t0.ws.length wc0) := carry_cell' hb (by assumption); have q2 : w8a.cell? ⟨w.heap.size, 2, none⟩ = some (.int .i64 t0.va) := carry_cell' hb (by assumption); have q3 : w8a.cell? ⟨w4.heap.size, 0, none⟩ = some (.slice u4p t0.sy.length u4c) := carry_cell' hb (by assumption); have q4 : w8a.cell? ⟨w4.heap.size, 1, none⟩ = some (.slice u4wp t0.ws.length u4wc) := carry_cell' hb (by assumption); have q5 : w8a.cell? ⟨w4.heap.size, 2, none⟩ = some (.int .i64 t0.va) := carry_cell' hb (by assumption); have hB6 := carry_below hB0 (Nat.le_refl _) hb; have HT6 := Lib.hid ho.read; clear hb ho) | (go_at_call 13; refine (CE.out _ _ _ hB6 HT6.out).mono ?_; rintro e w8 ⟨rfl, hb⟩; have r0 : w8.cell? ⟨w.heap.size, 0, none⟩ = some (.slice sa0 t0.sy.length sc0) := carry_cell' hb (by assumption); have r1 : w8.cell? ⟨w.heap.size, 1, none⟩ = some (.slice wa0 t0.ws.length wc0) := carry_cell' hb (by assumption); have r2 : w8.cell? ⟨w.heap.size, 2, none⟩ = some (.int .i64 t0.va) := carry_cell' hb (by assumption); have r3 : w8.cell? ⟨w4.heap.size, 0, none⟩ = some (.slice u4p t0.sy.length u4c) := carry_cell' hb (by assumption); have r4 : w8.cell? ⟨w4.heap.size, 1, none⟩ = some (.slice u4wp t0.ws.length u4wc) := carry_cell' hb (by assumption); have r5 : w8.cell? ⟨w4.heap.size, 2, none⟩ = some (.int .i64 t0.va) := carry_cell' hb (by assumption); have hB7 := carry_below hB6 (Nat.le_refl _) hb; clear hb))
    clear A0r0 A0r1 A0r3 A0r2 A0lt A1r0 A1r2 A1lt BX0r0 BX0r1 BX0r3 BX0r2 BX0lt BX1r0 BX1r2 BX1lt
    have HB_10 := Lib.hid (carry_below HB_9.out (Nat.le_refl _) hB7)
    have A0_10 := Lib.hid (A0_9.out.kept hB7)
    have A1_10 := Lib.hid (A1_9.out.kept hB7)
    have W0_10 := Lib.hid (W0_9.out.kept hB7)
    have X0_10 := Lib.hid (X0_9.out.kept hB7)
    have BX0_10 := Lib.hid (BX0_9.out.kept hB7)
    have X1_10 := Lib.hid (X1_9.out.kept hB7)
    have BX1_10 := Lib.hid (BX1_9.out.kept hB7)
    have G_10 := Lib.hid (G_9.out.kept hB7)
    have z_10 : w7.heap.size ≤ w8.heap.size := hB7.size
    clear HB_9 A0_9 A1_9 W0_9 X0_9 BX0_9 X1_9 BX1_9 G_9
    clear hB7 hB6 hB0 q0 r0 q1 r1 q2 r2 q3 r3 q4 r4 q5 r5 HT6 CT CE
    obtain ⟨A0r0, A0r1, A0r3, A0r2⟩ := A0_10.out
    have A0lt : w.heap.size < w8.heap.size := World.block_lt_of_cell? w8 ⟨w.heap.size, 0, none⟩ A0r0
    obtain ⟨A1r0, A1r2⟩ := A1_10.out
    have A1lt : (w.heap.size + 1) < w8.heap.size := World.block_lt_of_cell? w8 ⟨(w.heap.size + 1), 0, none⟩ A1r0
    obtain ⟨BX0r0, BX0r1, BX0r3, BX0r2⟩ := BX0_10.out
    have BX0lt : w4.heap.size < w8.heap.size := World.block_lt_of_cell? w8 ⟨w4.heap.size, 0, none⟩ BX0r0
    obtain ⟨BX1r0, BX1r2⟩ := BX1_10.out
    have BX1lt : w5.heap.size < w8.heap.size := World.block_lt_of_cell? w8 ⟨w5.heap.size, 0, none⟩ BX1r0
    have CT : Hid (∀ W : World, Below w8.heap.size w8 W → Calls Tryz.prog 17 #[.agg #[.slice pa1 t1.length ca1]] W (ToClEnd t1 W)) := Lib.hid (fun W hW => toClause_any t1 W _ (HV1.out.kept ((HB_10.out).trans (hW.mono HB_10.out.size))) hw1)
    have CE : Hid (∀ (W : World) (q1 : Value), Below w8.heap.size w8 W → LtS W q1 t1 → Calls Tryz.prog 20 #[.agg #[.slice u5p t1.length u5c], .agg #[q1]] W (EqEnd true W)) := Lib.hid (fun W q1 hW hv => by
      have h := eqClause_any t1 t1 W _ _ (X1_10.out.read.kept hW) hv HL1.out HL1.out
      rwa [eqCs_self] at h)
    have hB0 : Below w8.heap.size w8 w8.drew := (Below.refl _ _).drew
    go_wp2_with fail
    go_region_held3 (fun w' => w'.cell? ⟨w.heap.size + 1, 0, none⟩ = some (.slice pa1 t1.length ca1) ∧ w'.cell? ⟨w5.heap.size, 0, none⟩ = some (.slice u5p t1.length u5c) ∧ Below w8.heap.size w8 w') (first | exact ⟨by assumption, by assumption, by assumption⟩ | go_keep) (first | (go_at_call 17; refine (CT.out _ hB0).mono ?_; rintro e w9a ⟨v6, rfl, ho, hb⟩; have q0 : w9a.cell? ⟨w.heap.size + 1, 0, none⟩ = some (.slice pa1 t1.length ca1) := carry_cell' hb (by assumption); have q1 : w9a.cell? ⟨w5.heap.size, 0, none⟩ = some (.slice u5p t1.length u5c) := carry_cell' hb (by assumption); have hB6 := carry_below hB0 (Nat.le_refl _) hb; have HT6 := Lib.hid ho.read; clear hb ho) | (go_at_call 20; refine (CE.out _ _ hB6 HT6.out).mono ?_; rintro e w9 ⟨rfl, hb⟩; have r0 : w9.cell? ⟨w.heap.size + 1, 0, none⟩ = some (.slice pa1 t1.length ca1) := carry_cell' hb (by assumption); have r1 : w9.cell? ⟨w5.heap.size, 0, none⟩ = some (.slice u5p t1.length u5c) := carry_cell' hb (by assumption); have hB7 := carry_below hB6 (Nat.le_refl _) hb; clear hb))
    clear A0r0 A0r1 A0r3 A0r2 A0lt A1r0 A1r2 A1lt BX0r0 BX0r1 BX0r3 BX0r2 BX0lt BX1r0 BX1r2 BX1lt
    have HB_11 := Lib.hid (carry_below HB_10.out (Nat.le_refl _) hB7)
    have A0_11 := Lib.hid (A0_10.out.kept hB7)
    have A1_11 := Lib.hid (A1_10.out.kept hB7)
    have W0_11 := Lib.hid (W0_10.out.kept hB7)
    have X0_11 := Lib.hid (X0_10.out.kept hB7)
    have BX0_11 := Lib.hid (BX0_10.out.kept hB7)
    have X1_11 := Lib.hid (X1_10.out.kept hB7)
    have BX1_11 := Lib.hid (BX1_10.out.kept hB7)
    have G_11 := Lib.hid (G_10.out.kept hB7)
    have z_11 : w8.heap.size ≤ w9.heap.size := hB7.size
    clear HB_10 A0_10 A1_10 W0_10 X0_10 BX0_10 X1_10 BX1_10 G_10
    clear hB7 hB6 hB0 q0 r0 q1 r1 HT6 CT CE
    obtain ⟨A0r0, A0r1, A0r3, A0r2⟩ := A0_11.out
    have A0lt : w.heap.size < w9.heap.size := World.block_lt_of_cell? w9 ⟨w.heap.size, 0, none⟩ A0r0
    obtain ⟨A1r0, A1r2⟩ := A1_11.out
    have A1lt : (w.heap.size + 1) < w9.heap.size := World.block_lt_of_cell? w9 ⟨(w.heap.size + 1), 0, none⟩ A1r0
    obtain ⟨BX0r0, BX0r1, BX0r3, BX0r2⟩ := BX0_11.out
    have BX0lt : w4.heap.size < w9.heap.size := World.block_lt_of_cell? w9 ⟨w4.heap.size, 0, none⟩ BX0r0
    obtain ⟨BX1r0, BX1r2⟩ := BX1_11.out
    have BX1lt : w5.heap.size < w9.heap.size := World.block_lt_of_cell? w9 ⟨w5.heap.size, 0, none⟩ BX1r0
    have CM := markOd_any t0 1 _ _ _ _ _ X0_11.out (by omega) (by omega)
    have HCM := Lib.hid CM
    clear CM
    go_wp2_with fail
    refine HCM.out.mono ?_
    rintro e w10 ⟨rfl, hout⟩
    clear A0r0 A0r1 A0r3 A0r2 A0lt A1r0 A1r2 A1lt BX0r0 BX0r1 BX0r3 BX0r2 BX0lt BX1r0 BX1r2 BX1lt
    have HB_12 := Lib.hid (below_outside HB_11.out hout (by omega))
    have A0_12 := Lib.hid (A0_11.out.outside hout (by omega))
    have A1_12 := Lib.hid (A1_11.out.outside hout (by omega))
    have W0_12 := Lib.hid (W0_11.out.outside hout (by omega))
    have BX0_12 := Lib.hid (BX0_11.out.outside hout (by omega))
    have X1_12 := Lib.hid (X1_11.out.outside hout (by omega))
    have BX1_12 := Lib.hid (BX1_11.out.outside hout (by omega))
    have G_12 := Lib.hid (G_11.out.outside hout (by omega))
    have z_12 : w9.heap.size ≤ w10.heap.size := hout.size
    clear HB_11 A0_11 A1_11 W0_11 BX0_11 X1_11 BX1_11 G_11
    clear hout HCM
    obtain ⟨A0r0, A0r1, A0r3, A0r2⟩ := A0_12.out
    have A0lt : w.heap.size < w10.heap.size := World.block_lt_of_cell? w10 ⟨w.heap.size, 0, none⟩ A0r0
    obtain ⟨A1r0, A1r2⟩ := A1_12.out
    have A1lt : (w.heap.size + 1) < w10.heap.size := World.block_lt_of_cell? w10 ⟨(w.heap.size + 1), 0, none⟩ A1r0
    obtain ⟨BX0r0, BX0r1, BX0r3, BX0r2⟩ := BX0_12.out
    have BX0lt : w4.heap.size < w10.heap.size := World.block_lt_of_cell? w10 ⟨w4.heap.size, 0, none⟩ BX0r0
    obtain ⟨BX1r0, BX1r2⟩ := BX1_12.out
    have BX1lt : w5.heap.size < w10.heap.size := World.block_lt_of_cell? w10 ⟨w5.heap.size, 0, none⟩ BX1r0
    have CM := markCl_any t1 (1 + (t0.sy.length + t0.ws.length)) _ _ _ X1_12.out.1 X1_12.out.bound (by omega) (by omega)
    have HCM := Lib.hid CM
    clear CM
    go_wp2_with fail
    refine HCM.out.mono ?_
    rintro e w11 ⟨rfl, ho, hout⟩
    clear A0r0 A0r1 A0r3 A0r2 A0lt A1r0 A1r2 A1lt BX0r0 BX0r1 BX0r3 BX0r2 BX0lt BX1r0 BX1r2 BX1lt
    have HB_13 := Lib.hid (below_outside HB_12.out hout (by omega))
    have A0_13 := Lib.hid (A0_12.out.outside hout (by omega))
    have A1_13 := Lib.hid (A1_12.out.outside hout (by omega))
    have W0_13 := Lib.hid (W0_12.out.outside hout (by omega))
    have BX0_13 := Lib.hid (BX0_12.out.outside hout (by omega))
    have BX1_13 := Lib.hid (BX1_12.out.outside hout (by omega))
    have G_13 := Lib.hid (G_12.out.outside hout (by omega))
    have z_13 : w10.heap.size ≤ w11.heap.size := hout.size
    clear HB_12 A0_12 A1_12 W0_12 BX0_12 BX1_12 G_12
    clear ho hout HCM
    obtain ⟨A0r0, A0r1, A0r3, A0r2⟩ := A0_13.out
    have A0lt : w.heap.size < w11.heap.size := World.block_lt_of_cell? w11 ⟨w.heap.size, 0, none⟩ A0r0
    obtain ⟨A1r0, A1r2⟩ := A1_13.out
    have A1lt : (w.heap.size + 1) < w11.heap.size := World.block_lt_of_cell? w11 ⟨(w.heap.size + 1), 0, none⟩ A1r0
    obtain ⟨BX0r0, BX0r1, BX0r3, BX0r2⟩ := BX0_13.out
    have BX0lt : w4.heap.size < w11.heap.size := World.block_lt_of_cell? w11 ⟨w4.heap.size, 0, none⟩ BX0r0
    obtain ⟨BX1r0, BX1r2⟩ := BX1_13.out
    have BX1lt : w5.heap.size < w11.heap.size := World.block_lt_of_cell? w11 ⟨w5.heap.size, 0, none⟩ BX1r0
    have hk0 : decide (((1 + (t0.sy.length + t0.ws.length) + sumC Lt.n t1 : Nat) : Int) < 0) = false := by simp; omega
    generalize 1 + (t0.sy.length + t0.ws.length) + sumC Lt.n t1 = kk at *
    have HCE := Lib.hid (eqIntS_any r _ _ _ G_13.out.read W0_13.out.read hr)
    go_wp2_with fail
    refine HCE.out.mono ?_
    rintro e w12 ⟨rfl, hb⟩
    clear A0r0 A0r1 A0r3 A0r2 A0lt A1r0 A1r2 A1lt BX0r0 BX0r1 BX0r3 BX0r2 BX0lt BX1r0 BX1r2 BX1lt
    have HB_14 := Lib.hid (carry_below HB_13.out (Nat.le_refl _) hb)
    have A0_14 := Lib.hid (A0_13.out.kept hb)
    have A1_14 := Lib.hid (A1_13.out.kept hb)
    have W0_14 := Lib.hid (W0_13.out.kept hb)
    have BX0_14 := Lib.hid (BX0_13.out.kept hb)
    have BX1_14 := Lib.hid (BX1_13.out.kept hb)
    have G_14 := Lib.hid (G_13.out.kept hb)
    have z_14 : w11.heap.size ≤ w12.heap.size := hb.size
    clear HB_13 A0_13 A1_13 W0_13 BX0_13 BX1_13 G_13
    clear hb HCE
    obtain ⟨A0r0, A0r1, A0r3, A0r2⟩ := A0_14.out
    have A0lt : w.heap.size < w12.heap.size := World.block_lt_of_cell? w12 ⟨w.heap.size, 0, none⟩ A0r0
    obtain ⟨A1r0, A1r2⟩ := A1_14.out
    have A1lt : (w.heap.size + 1) < w12.heap.size := World.block_lt_of_cell? w12 ⟨(w.heap.size + 1), 0, none⟩ A1r0
    obtain ⟨BX0r0, BX0r1, BX0r3, BX0r2⟩ := BX0_14.out
    have BX0lt : w4.heap.size < w12.heap.size := World.block_lt_of_cell? w12 ⟨w4.heap.size, 0, none⟩ BX0r0
    obtain ⟨BX1r0, BX1r2⟩ := BX1_14.out
    have BX1lt : w5.heap.size < w12.heap.size := World.block_lt_of_cell? w12 ⟨w5.heap.size, 0, none⟩ BX1r0
    have HCM := Lib.hid (markIntS_any r 1 _ _ _ G_14.out.1 (by omega))
    go_wp2_with fail
    refine HCM.out.mono ?_
    rintro e w13 ⟨rfl, ho, hout⟩
    clear A0r0 A0r1 A0r3 A0r2 A0lt A1r0 A1r2 A1lt BX0r0 BX0r1 BX0r3 BX0r2 BX0lt BX1r0 BX1r2 BX1lt
    have HB_15 := Lib.hid (below_outside HB_14.out hout (by omega))
    have A0_15 := Lib.hid (A0_14.out.outside hout (by omega))
    have A1_15 := Lib.hid (A1_14.out.outside hout (by omega))
    have W0_15 := Lib.hid (W0_14.out.outside hout (by omega))
    have BX0_15 := Lib.hid (BX0_14.out.outside hout (by omega))
    have BX1_15 := Lib.hid (BX1_14.out.outside hout (by omega))
    have z_15 : w12.heap.size ≤ w13.heap.size := hout.size
    clear HB_14 A0_14 A1_14 W0_14 BX0_14 BX1_14
    have M_15 := Lib.hid ((show IntsI w13 _ _ _ _ from ⟨ho, Nat.le_trans G_14.out.2 hout.size⟩))
    clear ho hout HCM
    obtain ⟨A0r0, A0r1, A0r3, A0r2⟩ := A0_15.out
    have A0lt : w.heap.size < w13.heap.size := World.block_lt_of_cell? w13 ⟨w.heap.size, 0, none⟩ A0r0
    obtain ⟨A1r0, A1r2⟩ := A1_15.out
    have A1lt : (w.heap.size + 1) < w13.heap.size := World.block_lt_of_cell? w13 ⟨(w.heap.size + 1), 0, none⟩ A1r0
    obtain ⟨BX0r0, BX0r1, BX0r3, BX0r2⟩ := BX0_15.out
    have BX0lt : w4.heap.size < w13.heap.size := World.block_lt_of_cell? w13 ⟨w4.heap.size, 0, none⟩ BX0r0
    obtain ⟨BX1r0, BX1r2⟩ := BX1_15.out
    have BX1lt : w5.heap.size < w13.heap.size := World.block_lt_of_cell? w13 ⟨w5.heap.size, 0, none⟩ BX1r0
    have HCH := Lib.hid (heldIntS_any 1 r.length _ _ M_15.out.1.read (by omega) (by omega))
    go_wp2_with fail
    refine HCH.out.mono ?_
    rintro e w14 ⟨rfl, hb⟩
    clear A0r0 A0r1 A0r3 A0r2 A0lt A1r0 A1r2 A1lt BX0r0 BX0r1 BX0r3 BX0r2 BX0lt BX1r0 BX1r2 BX1lt
    have HB_16 := Lib.hid (carry_below HB_15.out (Nat.le_refl _) hb)
    have A0_16 := Lib.hid (A0_15.out.kept hb)
    have A1_16 := Lib.hid (A1_15.out.kept hb)
    have W0_16 := Lib.hid (W0_15.out.kept hb)
    have BX0_16 := Lib.hid (BX0_15.out.kept hb)
    have BX1_16 := Lib.hid (BX1_15.out.kept hb)
    have M_16 := Lib.hid (M_15.out.kept hb)
    have z_16 : w13.heap.size ≤ w14.heap.size := hb.size
    clear HB_15 A0_15 A1_15 W0_15 BX0_15 BX1_15 M_15
    clear hb HCH
    obtain ⟨A0r0, A0r1, A0r3, A0r2⟩ := A0_16.out
    have A0lt : w.heap.size < w14.heap.size := World.block_lt_of_cell? w14 ⟨w.heap.size, 0, none⟩ A0r0
    obtain ⟨A1r0, A1r2⟩ := A1_16.out
    have A1lt : (w.heap.size + 1) < w14.heap.size := World.block_lt_of_cell? w14 ⟨(w.heap.size + 1), 0, none⟩ A1r0
    obtain ⟨BX0r0, BX0r1, BX0r3, BX0r2⟩ := BX0_16.out
    have BX0lt : w4.heap.size < w14.heap.size := World.block_lt_of_cell? w14 ⟨w4.heap.size, 0, none⟩ BX0r0
    obtain ⟨BX1r0, BX1r2⟩ := BX1_16.out
    have BX1lt : w5.heap.size < w14.heap.size := World.block_lt_of_cell? w14 ⟨w5.heap.size, 0, none⟩ BX1r0
    have hm0 : decide (((1 + r.length : Nat) : Int) < 0) = false := by simp; omega
    go_wp2_with fail
    have CCog : Hid (∀ (W : World), Below w14.heap.size w14 W → Calls Tryz.prog 10 #[.agg #[.slice sa0 t0.sy.length sc0, .slice wa0 t0.ws.length wc0, .int .i64 t0.va]] W (ToOEnd t0 W)) := Lib.hid (fun W hW => toOd_any t0 W _ _ (HV0.out.kept ((HB_16.out).trans (hW.mono HB_16.out.size))) hw0)
    have CCcl : Hid (∀ (W : World), Below w14.heap.size w14 W → Calls Tryz.prog 17 #[.agg #[.slice pa1 t1.length ca1]] W (ToClEnd t1 W)) := Lib.hid (fun W hW => toClause_any t1 W _ (HV1.out.kept ((HB_16.out).trans (hW.mono HB_16.out.size))) hw1)
    go_cut [15, 16] from 95 (fun x y wx => Got r ok w14 x y wx)
    case first =>
      have hB : Below w14.heap.size w14 w14.drew := (Below.refl _ _).drew
      go_region_held3 (fun w' => w'.cell? ⟨w.heap.size, 0, none⟩ = some (.slice sa0 t0.sy.length sc0) ∧ w'.cell? ⟨w.heap.size, 1, none⟩ = some (.slice wa0 t0.ws.length wc0) ∧ w'.cell? ⟨w.heap.size, 2, none⟩ = some (.int .i64 t0.va) ∧ w'.cell? ⟨w.heap.size + 1, 0, none⟩ = some (.slice pa1 t1.length ca1)) (first | exact ⟨by assumption, by assumption, by assumption, by assumption⟩ | go_keep) (first | (go_at_call 10; refine (CCog.out _ (by first | exact hB | exact hB.alloc hB.size _)).mono ?_; rintro e wn ⟨us, uw, um, rfl, ho, hb⟩; obtain ⟨up, uc, uwp, uwc, rfl, rfl⟩ := ho.read.open; have hb' := hb; (first | replace hb' := pre_alloc2 hb' | replace hb' := pre_alloc hb' | skip); have q0 : wn.cell? ⟨w.heap.size, 0, none⟩ = some (.slice sa0 t0.sy.length sc0) := carry_cell' hb' (by assumption); have q1 : wn.cell? ⟨w.heap.size, 1, none⟩ = some (.slice wa0 t0.ws.length wc0) := carry_cell' hb' (by assumption); have q2 : wn.cell? ⟨w.heap.size, 2, none⟩ = some (.int .i64 t0.va) := carry_cell' hb' (by assumption); have q3 : wn.cell? ⟨w.heap.size + 1, 0, none⟩ = some (.slice pa1 t1.length ca1) := carry_cell' hb' (by assumption); (try have HTcl1 := Lib.hid (HTcl1.out.kept hb')); (try have HTcl2 := Lib.hid (HTcl2.out.kept hb')); (try have HTog2 := Lib.hid (HTog1.out.kept hb')); have hB := carry_below hB (Nat.le_refl _) hb'; have HTog1 := Lib.hid ho.read; clear hb ho) | (go_at_call 17; refine (CCcl.out _ (by first | exact hB | exact hB.alloc hB.size _)).mono ?_; rintro e wn ⟨u, rfl, ho, hb⟩; obtain ⟨up, uc, rfl⟩ := ho.read.is_slice; have hb' := hb; (first | replace hb' := pre_alloc2 hb' | replace hb' := pre_alloc hb' | skip); have q0 : wn.cell? ⟨w.heap.size, 0, none⟩ = some (.slice sa0 t0.sy.length sc0) := carry_cell' hb' (by assumption); have q1 : wn.cell? ⟨w.heap.size, 1, none⟩ = some (.slice wa0 t0.ws.length wc0) := carry_cell' hb' (by assumption); have q2 : wn.cell? ⟨w.heap.size, 2, none⟩ = some (.int .i64 t0.va) := carry_cell' hb' (by assumption); have q3 : wn.cell? ⟨w.heap.size + 1, 0, none⟩ = some (.slice pa1 t1.length ca1) := carry_cell' hb' (by assumption); (try have HTog1 := Lib.hid (HTog1.out.kept hb')); (try have HTog2 := Lib.hid (HTog2.out.kept hb')); (try have HTcl2 := Lib.hid (HTcl1.out.kept hb')); have hB := carry_below hB (Nat.le_refl _) hb'; have HTcl1 := Lib.hid ho.read; clear hb ho) | (go_at_call 18; refine (HCJ.out _ _ _ _ (by first | exact HTog1.out | exact HTog2.out | exact HTog1.out.kept ((Below.refl _ _).alloc (Nat.le_refl _) _) | exact HTog2.out.kept ((Below.refl _ _).alloc (Nat.le_refl _) _)) (by first | exact HTcl1.out | exact HTcl2.out | exact HTcl1.out.kept ((Below.refl _ _).alloc (Nat.le_refl _) _) | exact HTcl2.out.kept ((Below.refl _ _).alloc (Nat.le_refl _) _))).mono ?_; rintro e wn ⟨vn, rfl, ho, hb⟩; have HGO := Lib.hid ho; obtain ⟨_, up, uc, rfl, _⟩ := ho; have hb' := hb; (first | replace hb' := pre_alloc2 hb' | replace hb' := pre_alloc hb' | skip); have q0 : wn.cell? ⟨w.heap.size, 0, none⟩ = some (.slice sa0 t0.sy.length sc0) := carry_cell' hb' (by assumption); have q1 : wn.cell? ⟨w.heap.size, 1, none⟩ = some (.slice wa0 t0.ws.length wc0) := carry_cell' hb' (by assumption); have q2 : wn.cell? ⟨w.heap.size, 2, none⟩ = some (.int .i64 t0.va) := carry_cell' hb' (by assumption); have q3 : wn.cell? ⟨w.heap.size + 1, 0, none⟩ = some (.slice pa1 t1.length ca1) := carry_cell' hb' (by assumption); have hB := carry_below hB (Nat.le_refl _) hb'; clear hb))
      all_goals (go_wp2_with fail; go_meet)
      all_goals (exact ⟨rfl, ⟨_, HGO.out⟩, hB⟩)
    case rest =>
      obtain ⟨rfl, ⟨BHhi, how⟩, hb⟩ := hcut
      clear CCog CCcl
      obtain ⟨w15, hw15⟩ : ∃ x, x = wc := ⟨_, rfl⟩
      rw [← hw15] at how hb ⊢
      clear hw15
      have BHhi1 := how.1
      have HOW := Lib.hid how
      obtain ⟨_, BHp, BHc, rfl, _⟩ := how
      clear A0r0 A0r1 A0r3 A0r2 A0lt A1r0 A1r2 A1lt BX0r0 BX0r1 BX0r3 BX0r2 BX0lt BX1r0 BX1r2 BX1lt
      have HB_17 := Lib.hid (carry_below HB_16.out (Nat.le_refl _) hb)
      have A0_17 := Lib.hid (A0_16.out.kept hb)
      have A1_17 := Lib.hid (A1_16.out.kept hb)
      have W0_17 := Lib.hid (W0_16.out.kept hb)
      have BX0_17 := Lib.hid (BX0_16.out.kept hb)
      have BX1_17 := Lib.hid (BX1_16.out.kept hb)
      have M_17 := Lib.hid (M_16.out.kept hb)
      have z_17 : w14.heap.size ≤ w15.heap.size := hb.size
      clear HB_16 A0_16 A1_16 W0_16 BX0_16 BX1_16 M_16
      have H_17 := Lib.hid (HOW.out)
      clear hb HOW
      obtain ⟨A0r0, A0r1, A0r3, A0r2⟩ := A0_17.out
      have A0lt : w.heap.size < w15.heap.size := World.block_lt_of_cell? w15 ⟨w.heap.size, 0, none⟩ A0r0
      obtain ⟨A1r0, A1r2⟩ := A1_17.out
      have A1lt : (w.heap.size + 1) < w15.heap.size := World.block_lt_of_cell? w15 ⟨(w.heap.size + 1), 0, none⟩ A1r0
      obtain ⟨BX0r0, BX0r1, BX0r3, BX0r2⟩ := BX0_17.out
      have BX0lt : w4.heap.size < w15.heap.size := World.block_lt_of_cell? w15 ⟨w4.heap.size, 0, none⟩ BX0r0
      obtain ⟨BX1r0, BX1r2⟩ := BX1_17.out
      have BX1lt : w5.heap.size < w15.heap.size := World.block_lt_of_cell? w15 ⟨w5.heap.size, 0, none⟩ BX1r0
      have HCE := Lib.hid (eqIntS_any r _ _ _ H_17.out.read W0_17.out.read hr)
      go_wp2_with fail
      refine HCE.out.mono ?_
      rintro e w16 ⟨rfl, hb⟩
      clear A0r0 A0r1 A0r3 A0r2 A0lt A1r0 A1r2 A1lt BX0r0 BX0r1 BX0r3 BX0r2 BX0lt BX1r0 BX1r2 BX1lt
      have HB_18 := Lib.hid (carry_below HB_17.out (Nat.le_refl _) hb)
      have A0_18 := Lib.hid (A0_17.out.kept hb)
      have A1_18 := Lib.hid (A1_17.out.kept hb)
      have W0_18 := Lib.hid (W0_17.out.kept hb)
      have BX0_18 := Lib.hid (BX0_17.out.kept hb)
      have BX1_18 := Lib.hid (BX1_17.out.kept hb)
      have M_18 := Lib.hid (M_17.out.kept hb)
      have H_18 := Lib.hid (H_17.out.kept hb)
      have z_18 : w15.heap.size ≤ w16.heap.size := hb.size
      clear HB_17 A0_17 A1_17 W0_17 BX0_17 BX1_17 M_17 H_17
      clear hb HCE
      obtain ⟨A0r0, A0r1, A0r3, A0r2⟩ := A0_18.out
      have A0lt : w.heap.size < w16.heap.size := World.block_lt_of_cell? w16 ⟨w.heap.size, 0, none⟩ A0r0
      obtain ⟨A1r0, A1r2⟩ := A1_18.out
      have A1lt : (w.heap.size + 1) < w16.heap.size := World.block_lt_of_cell? w16 ⟨(w.heap.size + 1), 0, none⟩ A1r0
      obtain ⟨BX0r0, BX0r1, BX0r3, BX0r2⟩ := BX0_18.out
      have BX0lt : w4.heap.size < w16.heap.size := World.block_lt_of_cell? w16 ⟨w4.heap.size, 0, none⟩ BX0r0
      obtain ⟨BX1r0, BX1r2⟩ := BX1_18.out
      have BX1lt : w5.heap.size < w16.heap.size := World.block_lt_of_cell? w16 ⟨w5.heap.size, 0, none⟩ BX1r0
      have HCH := Lib.hid (heldIntS_any 1 r.length _ _ M_18.out.1.read (by omega) (by omega))
      go_wp2_with fail
      refine HCH.out.mono ?_
      rintro e w17 ⟨rfl, hb⟩
      clear A0r0 A0r1 A0r3 A0r2 A0lt A1r0 A1r2 A1lt BX0r0 BX0r1 BX0r3 BX0r2 BX0lt BX1r0 BX1r2 BX1lt
      have HB_19 := Lib.hid (carry_below HB_18.out (Nat.le_refl _) hb)
      have A0_19 := Lib.hid (A0_18.out.kept hb)
      have A1_19 := Lib.hid (A1_18.out.kept hb)
      have W0_19 := Lib.hid (W0_18.out.kept hb)
      have BX0_19 := Lib.hid (BX0_18.out.kept hb)
      have BX1_19 := Lib.hid (BX1_18.out.kept hb)
      have M_19 := Lib.hid (M_18.out.kept hb)
      have H_19 := Lib.hid (H_18.out.kept hb)
      have z_19 : w16.heap.size ≤ w17.heap.size := hb.size
      clear HB_18 A0_18 A1_18 W0_18 BX0_18 BX1_18 M_18 H_18
      clear hb HCH
      obtain ⟨A0r0, A0r1, A0r3, A0r2⟩ := A0_19.out
      have A0lt : w.heap.size < w17.heap.size := World.block_lt_of_cell? w17 ⟨w.heap.size, 0, none⟩ A0r0
      obtain ⟨A1r0, A1r2⟩ := A1_19.out
      have A1lt : (w.heap.size + 1) < w17.heap.size := World.block_lt_of_cell? w17 ⟨(w.heap.size + 1), 0, none⟩ A1r0
      obtain ⟨BX0r0, BX0r1, BX0r3, BX0r2⟩ := BX0_19.out
      have BX0lt : w4.heap.size < w17.heap.size := World.block_lt_of_cell? w17 ⟨w4.heap.size, 0, none⟩ BX0r0
      obtain ⟨BX1r0, BX1r2⟩ := BX1_19.out
      have BX1lt : w5.heap.size < w17.heap.size := World.block_lt_of_cell? w17 ⟨w5.heap.size, 0, none⟩ BX1r0
      go_wp2
      go_ret
      exact ⟨rfl, HB_19.out⟩

theorem walk (t0 : Od) (sv0 wv0 : Value) (t1 : List Lt) (va1 : Value) (w : World) (h0 : OdV w sv0 wv0 t0) (l0 : t0.lim 9223372036854775807) (h1 : LtS w va1 t1) (l1 : limC 9223372036854775807 t1) :
    Calls Tryz.prog 4 #[.agg #[sv0, wv0, .int .i64 t0.va], .agg #[va1]] w fun e w' => e = .returned (.bool true) ∧ Below w.heap.size w w' :=
  core t0 sv0 wv0 t1 va1 (t0.mxR t1) (t0.mxOk t1) w h0 l0 h1 l1 (by have := mxR_len t0 t1; omega)
    (fun hs W q0s q0w q1 a0 a1 => (specMax_any t0 (by omega) t1 W _ _ _ a0 a1 (by omega)).mono fun e w' h => h)
    (fun hs W q0s q0w q1 a0 a1 => (implMax_any t0 (by omega) t1 W _ _ _ a0 a1 (by omega)).mono fun e w' h => h)

/-! ### THE ROW's STEP: WRITTEN OUT: LEAVE IT -/
set_option maxRecDepth 100000 in
theorem lifted (os : Os) (started : os.Started) (H : Type) (enc : TypeId × Value → H) :
    ReturnsInHanded {} Tryz.checked os 4 .any (Rows.fnExactMaximalLiteralsSpec.pre6 enc Tryz.prog Tryz.f4 Rows.fnExactMaximalLiteralsRow.domain false) (Rows.fnExactMaximalLiteralsSpec.post enc Tryz.prog Tryz.f4 false true false false) := by
  refine returnsInHanded_of_change (C := Tryz.checked) own started (by kernel_rfl) Tryz.func4
    (ChangeSpec.witness6 (enc := enc) (C := Tryz.checked) false ⟨#[], #[.agg #[.slice none 0 0, .slice none 0 0, .int .i64 0], .agg #[.slice none 0 0]], []⟩ 8 (by kernel_rfl) (by kernel_rfl) (by kernel_rfl) (by kernel_rfl)) ?_
  intro W base args ds gs before hval0 hW hcnd _
  have hval : ∀ (j : Nat) t v, Tryz.f4.params[j]? = some t → args[j]? = some v → Value.okWide Tryz.prog W .any base t v := hval0
  have hW' := hW
  obtain ⟨p, q, hA0, hV, rfl, hfz, hnd⟩ := hW
  have hA : DataW.TrodAll enc Tryz.prog W 0 (fun _ => true) true Tryz.f4.params.toList args.toList ds p := hA0
  rw [Tryz.params4] at hA hval
  obtain ⟨v0, vs0, d0, ds0, p0, q0, hargs, rfl, rfl, h0, r0⟩ := trodAll_cons hA
  obtain ⟨v1, vs1, d1, ds1, p1, q1, rfl, rfl, rfl, h1, r1⟩ := trodAll_cons r0
  obtain ⟨rfl, rfl, rfl⟩ := trodAll_nil r1
  obtain rfl : args = #[v0, v1] := by cases args; simp_all
  obtain ⟨rfl, rfl⟩ := trodVars_none hV
  have k0 := h0
  have lt0 : ∀ x ∈ p0, x.block < W.heap.size := by obtain ⟨m, hm⟩ := k0; exact DataW.trod_lt m _ _ _ hm
  obtain ⟨o0, sv0, wv0, rfl, ov0, lim0⟩ := open_ord (hval 0 25 v0 rfl rfl) h0
  have k1 := h1
  have lt1 : ∀ x ∈ p1, x.block < W.heap.size := by obtain ⟨m, hm⟩ := k1; exact DataW.trod_lt m _ _ _ hm
  obtain ⟨va1, t1, rfl, tm1, lim1⟩ := open_clause 9223372036854775807 (by unfold maxLen; omega) (hval 1 48 v1 rfl rfl) h1
  clear hA0 hval0
  refine (walk o0 sv0 wv0 t1 va1 W ov0 lim0 tm1 lim1).mono fun e W' ⟨he, bel⟩ => ?_
  subst he
  exact ⟨_, rfl, _, _, _, [], _, [], hW', trodAll_mk1 (shut_bool Tryz.underlying4 _), (trodAll_cons_mk (Below.trod laidOut (by kernel_rfl) (of_decide_eq_true (by kernel_rfl)) k0 bel lt0) (trodAll_cons_mk (Below.trod laidOut (by kernel_rfl) (of_decide_eq_true (by kernel_rfl)) k1 bel lt1) trodAll_mk0)), rfl, bel.frame _, fun h => by cases h⟩


theorem jfPlace : (Rows.fnExactMaximalLiteralsRow.inPlace == Tryz.prog.inPlace 4) = true := by kernel_rfl
theorem jfFollow : (Rows.fnExactMaximalLiteralsRow.unfollowed == Tryz.prog.unfollowed 4) = true := by kernel_rfl
theorem jfRecurses : (Rows.fnExactMaximalLiteralsRow.recurses == Tryz.prog.recurses 4) = true := by kernel_rfl
theorem jfNamed : (Rows.fnExactMaximalLiteralsRow.named == Tryz.prog.varsNamed 4) = true := by kernel_rfl
theorem jfKeys : (Rows.fnExactMaximalLiteralsRow.plainKeys == Tryz.prog.plainKeys) = true := by kernel_rfl
theorem facts : joinedFacts Tryz.prog 4 Tryz.f4 Rows.fnExactMaximalLiteralsSpec Rows.fnExactMaximalLiteralsRow = true :=
  jf_of (P := Tryz.prog) jfLaid jfRowed jfHeard jfEnter jfLifts (by kernel_rfl) (by kernel_rfl) (by kernel_rfl) (by kernel_rfl) (by kernel_rfl) (by kernel_rfl) (by kernel_rfl)
    jfPlace jfFollow jfRecurses jfNamed (by kernel_rfl) (by kernel_rfl) (by kernel_rfl) (by kernel_rfl) (by kernel_rfl) (by kernel_rfl) (by kernel_rfl) (by kernel_rfl) (by kernel_rfl)
    jfKeys (by kernel_rfl) (by kernel_rfl) (by kernel_rfl) (by kernel_rfl) (by kernel_rfl) (by kernel_rfl)

theorem over : Rows.fnExactMaximalLiteralsRow.holds Tryz.pinned (OpenSpec.ofChange Rows.fnExactMaximalLiteralsSpec) :=
  OpenClaim.holds_of_wide 4 Tryz.f4 rfl rfl rfl rfl rfl rfl rfl ⟨rfl, rfl, rfl, rfl, rfl⟩ rfl rfl rfl rfl rfl (by kernel_rfl) Tryz.func4 facts
    (of_decide_eq_true (by kernel_rfl)) (by unfold Func.isWrapper; first | (rw [if_pos (by decide +kernel)]; kernel_rfl) | (rw [if_neg (by decide +kernel)]; exact ⟨rfl, rfl⟩))
    (fun os started H enc _ => lifted os started H enc)

/-- ████ THE STATEMENT ████ -/
theorem proved : Rows.FnExactMaximalLiteralsSaid := over
end Go.Proofs.YtohalpafmcobpaaGreat.fnExactMaximalLiterals
