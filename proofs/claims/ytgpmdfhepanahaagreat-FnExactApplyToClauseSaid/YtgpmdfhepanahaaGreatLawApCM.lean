/- ApplyToClause answers as its model for every substitution and every clause: no condition. -/
import Derived.Test.YtgpmdfhepanahaaGreatApG
import Derived.Test.YtgpmdfhepanahaaGreatOwG
import Derived.Test.YtgpmdfhepanahaaGreatBG
import Derived.Test.YtgpmdfhepanahaaGreatOpenTm
import Derived.Test.YtgpmdfhepanahaaGreatCG
import Derived.Test.YtgpmdfhepanahaaGreatJf
import Derived.Deep.RegionWith
import Derived.Deep.Cut
import Derived.OpenShut
import Derived.ShutString
import Derived.ChangeOld
namespace Go.Proofs.YtgpmdfhepanahaaGreat.fnExactApplyToClause
open Go.ChangeShapes Go.WideShapes Go.ChangeAt Go.RowKit
open Go.ChangeMaps (open_string shut_string)
set_option linter.unusedVariables false

theorem own : ownKnob Tryz.prog.godebug = none := by kernel_rfl
theorem laidOut : laidOutB Tryz.prog = true := by kernel_rfl

/-- What both functions answer, as the law sees it. -/
def ResEnd (r : List Lt) (ok : Bool) (w : World) (e : Ending) (w' : World) : Prop :=
  ∃ va, e = .returned (.tuple #[.agg #[va], .bool ok]) ∧ LtO w' (Fresh w w') va r ∧ Below w.heap.size w w'
/-- What a statement leaves that calls one of them. -/
def Got (r : List Lt) (ok : Bool) (w : World) (x y : Value) (w' : World) : Prop :=
  ∃ B v lo hi, x = .pointer (some ⟨B, 0, none⟩) ∧ y = .bool ok ∧ w.heap.size ≤ B ∧ w.heap.size ≤ lo ∧ (B < lo ∨ hi ≤ B) ∧ Oner w' B v ∧ OwnLt w' lo hi v r ∧ Below w.heap.size w w'
theorem Got.of {r : List Lt} {ok : Bool} {w wa wb : World} {v : Value} (hb : Below w.heap.size w wa) (h : Below wa.heap.size wa wb) (ho : LtO wb (Fresh wa wb) v r) :
    Got r ok w (.pointer (some ⟨wb.heap.size, 0, none⟩)) (.bool ok) (wb.alloc (.cells #[v] 48)) := by
  have hb2 := carry_below hb (Nat.le_refl _) h
  refine ⟨wb.heap.size, v, wa.heap.size, wb.heap.size, rfl, rfl, hb2.size, hb.size, .inr (Nat.le_refl _), oner_new _ _ _ _ rfl, ⟨?_, ?_⟩, hb2.alloc hb2.size _⟩
  · exact (ho.frame fun k hk => ((Below.refl wb.heap.size wb).alloc (Nat.le_refl _) _).block k hk.2).mono fun k hk => hk
  · simp
theorem Got.st {r : List Lt} {ok : Bool} {w wa wb : World} {v x : Value} {B : Nat} (h1 : w.heap.size ≤ B) (h2 : B < wa.heap.size) (hb : Below w.heap.size w wa) (h : Below wa.heap.size wa wb) (ho : LtO wb (Fresh wa wb) v r) (hz : Oner wb B x) :
    Got r ok w (.pointer (some ⟨B, 0, none⟩)) (.bool ok) (wb.setCell ⟨B, 0, none⟩ v) := by
  have hb2 := carry_below hb (Nat.le_refl _) h
  refine ⟨B, v, wa.heap.size, wb.heap.size, rfl, rfl, h1, hb.size, .inl h2, hz.setIt _, ⟨?_, ?_⟩, hb2.setCell h1 _⟩
  · exact (ho.setCell (fun h => by have := h.1; simp at this; omega) _).mono fun k hk => hk
  · simp only [size_setCell]; exact Nat.le_refl _
theorem two_new2 (w : World) (x : Value) (T : TypeId) : Oner ((w.alloc (.cells #[x] T)).drew) w.heap.size x := (oner_new w x T _ rfl).drew
theorem far1 {W : World} {g x o1 j : Nat} {u z : Value} (h : x ≠ g) (hc : W.cell? ⟨x, j, none⟩ = some z) : (W.setCell ⟨g, o1, none⟩ u).cell? ⟨x, j, none⟩ = some z :=
  (World.cell?_setCell_other _ _ _ _ (fun e => h (by cases e; rfl))).trans hc
theorem far {W : World} {g x o1 o2 j : Nat} {u v z : Value} (h : x ≠ g) (hc : W.cell? ⟨x, j, none⟩ = some z) : ((W.setCell ⟨g, o1, none⟩ u).setCell ⟨g, o2, none⟩ v).cell? ⟨x, j, none⟩ = some z := far1 h (far1 h hc)
theorem pre_alloc2 {w w' : World} {o : Obj} (hb : Below (w.alloc o).drew.heap.size (w.alloc o).drew w') : Below w.drew.heap.size w.drew w' :=
  Below.trans (show Below w.drew.heap.size w.drew (w.alloc o).drew from (Below.refl w.drew.heap.size w.drew).alloc (Nat.le_refl _) o) (hb.mono (by show w.heap.size ≤ (w.alloc o).heap.size; simp))
theorem pre_alloc {w w' : World} {o : Obj} (hb : Below (w.alloc o).heap.size (w.alloc o) w') : Below w.heap.size w w' := ((Below.refl w.heap.size w).alloc (Nat.le_refl _) o).trans (hb.mono (by simp))

set_option maxRecDepth 100000 in
set_option maxHeartbeats 16000000 in
theorem core (t0 : List Bd) (va0 : Value) (t1 : List Lt) (va1 : Value) (r : List Lt) (ok : Bool) (w : World) (h0 : BdS w va0 t0) (l0 : limB 9223372036854775807 t0) (h1 : LtS w va1 t1) (l1 : limC 9223372036854775807 t1)
    (hr : wtC r ≤ 1048576)
    (hcs : wtB t0 + wtC t1 ≤ 1048576 → ∀ (W : World) (q0 q1 : Value), BdS W q0 t0 → LtS W q1 t1 → Calls Tryz.prog 20 #[.agg #[q0], .agg #[q1]] W (ResEnd r ok W))
    (hci : wtB t0 + wtC t1 ≤ 1048576 → ∀ (W : World) (q0 q1 : Value), BdS W q0 t0 → LtS W q1 t1 → Calls Tryz.prog 22 #[.agg #[q0], .agg #[q1]] W (ResEnd r ok W)) :
    Calls Tryz.prog 5 #[.agg #[va0], .agg #[va1]] w fun e w' => e = .returned (.bool true) ∧ Below w.heap.size w w' := by
  obtain ⟨pa0, ca0, rfl⟩ := h0.is_slice
  obtain ⟨pa1, ca1, rfl⟩ := h1.is_slice
  have HV0 := Lib.hid h0
  have HLIM0 := Lib.hid l0
  have HV1 := Lib.hid h1
  have HLIM1 := Lib.hid l1
  have HRW := Lib.hid hr
  have HCS0 := Lib.hid hcs
  have HCI0 := Lib.hid hci
  clear hr hcs hci h0 l0 h1 l1
  have HB_0 := Lib.hid (((Below.refl w.heap.size w).alloc (Nat.le_refl _) (.cells #[.slice pa0 t0.length ca0] 55)).alloc (by simp) (.cells #[.slice pa1 t1.length ca1] 43))
  have A0_0 := Lib.hid ((oner_new w (.slice pa0 t0.length ca0) 55 _ rfl).alloc (.cells #[.slice pa1 t1.length ca1] 43))
  have A1_0 := Lib.hid (oner_new (w.alloc (.cells #[.slice pa0 t0.length ca0] 55)) (.slice pa1 t1.length ca1) 43 (w.heap.size + 1) (by simp))
  go_enter Tryz.func5, Tryz.ntmps5
  go_wp2_with fail
  refine (szSub_any t0 _ _ 1048576 (HV0.out.kept HB_0.out) HLIM0.out (by omega) (by omega)).mono ?_
  rintro e w1 ⟨rfl, hb⟩
  have HB_1 := Lib.hid (carry_below HB_0.out (Nat.le_refl _) hb)
  have A0_1 := Lib.hid (A0_0.out.kept hb)
  have A1_1 := Lib.hid (A1_0.out.kept hb)
  have z_1 : (w.alloc (.cells #[.slice pa0 t0.length ca0] 55)).heap.size + 1 ≤ w1.heap.size := by have := hb.size; simpa using this
  have z_0 : w.heap.size + 2 ≤ w1.heap.size := by have h := z_1; simp only [World.size_alloc] at h; omega
  clear hb
  obtain ⟨A0r0, A0r2⟩ := A0_1.out
  have A0lt : w.heap.size < w1.heap.size := World.block_lt_of_cell? w1 ⟨w.heap.size, 0, none⟩ A0r0
  obtain ⟨A1r0, A1r2⟩ := A1_1.out
  have A1lt : (w.heap.size + 1) < w1.heap.size := World.block_lt_of_cell? w1 ⟨(w.heap.size + 1), 0, none⟩ A1r0
  rcases szR_cases 1048576 (wtB t0) with ⟨c0a, c0b⟩ | ⟨c0a, c0b⟩
  · rw [c0b]
    clear c0b
    go_wp2
    go_ret
    exact ⟨rfl, HB_1.out⟩
  rw [c0b]
  clear c0b
  have hcl0 : (0 : Int) ≤ 1048576 - ((wtB t0 : Nat) : Int) := by omega
  have hcn0 : ¬ 1048576 - ((wtB t0 : Nat) : Int) < 0 := by omega
  go_wp2_with fail
  refine (szClause_any t1 _ _ (1048576 - ((wtB t0 : Nat) : Int)) (HV1.out.kept HB_1.out) HLIM1.out (by omega) (by omega)).mono ?_
  rintro e w2 ⟨rfl, hb⟩
  clear A0r0 A0r2 A0lt A1r0 A1r2 A1lt
  have HB_2 := Lib.hid (carry_below HB_1.out (Nat.le_refl _) hb)
  have A0_2 := Lib.hid (A0_1.out.kept hb)
  have A1_2 := Lib.hid (A1_1.out.kept hb)
  have z_2 : w1.heap.size ≤ w2.heap.size := hb.size
  clear HB_1 A0_1 A1_1
  clear hb
  obtain ⟨A0r0, A0r2⟩ := A0_2.out
  have A0lt : w.heap.size < w2.heap.size := World.block_lt_of_cell? w2 ⟨w.heap.size, 0, none⟩ A0r0
  obtain ⟨A1r0, A1r2⟩ := A1_2.out
  have A1lt : (w.heap.size + 1) < w2.heap.size := World.block_lt_of_cell? w2 ⟨(w.heap.size + 1), 0, none⟩ A1r0
  rcases szR_cases (1048576 - ((wtB t0 : Nat) : Int)) (wtC t1) with ⟨c1a, c1b⟩ | ⟨c1a, c1b⟩
  · rw [c1b]
    clear c1b
    go_wp2
    go_ret
    exact ⟨rfl, HB_2.out⟩
  rw [c1b]
  clear c1b
  have hcl1 : (0 : Int) ≤ 1048576 - ((wtB t0 : Nat) : Int) - ((wtC t1 : Nat) : Int) := by omega
  have hcn1 : ¬ 1048576 - ((wtB t0 : Nat) : Int) - ((wtC t1 : Nat) : Int) < 0 := by omega
  have hsum : wtB t0 + wtC t1 ≤ 1048576 := by omega
  have hw0 : wtB t0 ≤ 1048576 := by omega
  have HL0 := Lib.hid (limB_of_wt (l := t0) hw0)
  have hm0 : sumB Bd.n t0 ≤ 4000000 := by have := sumB_wt t0; omega
  have hw1 : wtC t1 ≤ 1048576 := by omega
  have HL1 := Lib.hid (limC_of_wt (l := t1) hw1)
  have hm1 : sumC Lt.n t1 ≤ 4000000 := by have := sumCn_wt t1; omega
  have HLR := Lib.hid (limC_of_wt (l := r) HRW.out)
  have HCS := Lib.hid (HCS0.out hsum)
  have HCI := Lib.hid (HCI0.out hsum)
  have hmr : sumC Lt.n r ≤ 4000000 := by have := sumCn_wt r; have := HRW.out; omega
  go_wp2_with fail
  have CCsub : Hid (∀ (x : List Bd) (v : Value) (W : World), Below w2.heap.size w2 W → (x = t0 ∧ v = .slice pa0 t0.length ca0) → Calls Tryz.prog 21 #[.agg #[v]] W (ToSubEnd x W)) := Lib.hid (fun x v W hW h => by
    rcases h with ⟨rfl, rfl⟩
    · exact toSub_any _ W _ ((HV0.out.kept HB_2.out).kept hW) hw0)
  have CCcl : Hid (∀ (x : List Lt) (v : Value) (W : World), Below w2.heap.size w2 W → (x = t1 ∧ v = .slice pa1 t1.length ca1) → Calls Tryz.prog 15 #[.agg #[v]] W (ToClEnd x W)) := Lib.hid (fun x v W hW h => by
    rcases h with ⟨rfl, rfl⟩
    · exact toClause_any _ W _ ((HV1.out.kept HB_2.out).kept hW) hw1)
  go_cut [6, 7] from 27 (fun x y wx => Got r ok w2 x y wx)
  case first =>
    have hB : Below w2.heap.size w2 w2.drew := (Below.refl _ _).drew
    go_region_held3 (fun w' => w'.cell? ⟨w.heap.size, 0, none⟩ = some (.slice pa0 t0.length ca0) ∧ w'.cell? ⟨w.heap.size + 1, 0, none⟩ = some (.slice pa1 t1.length ca1)) (first | exact ⟨by assumption, by assumption⟩ | exact ⟨far1 (by omega) (by assumption), far1 (by omega) (by assumption)⟩ | go_keep) (first | (go_at_call 21; refine (CCsub.out _ _ _ (by first | exact hB | exact hB.alloc hB.size _) ⟨rfl, rfl⟩).mono ?_; rintro e wn ⟨vn, rfl, ho, hb⟩; obtain ⟨up, uc, rfl⟩ := ho.read.is_slice; have hb' := hb; (first | replace hb' := pre_alloc2 hb' | replace hb' := pre_alloc hb' | skip); have q0 : wn.cell? ⟨w.heap.size, 0, none⟩ = some (.slice pa0 t0.length ca0) := carry_cell' hb' (by assumption); have q1 : wn.cell? ⟨w.heap.size + 1, 0, none⟩ = some (.slice pa1 t1.length ca1) := carry_cell' hb' (by assumption); (first | (have hz := (two_new2 _ _ _).kept hb; have hzB := hB.size) | (have hz := (oner_new _ _ _ _ rfl).kept hb; have hzB := hB.size) | have hz := hz.kept hb | skip); (try have hz0 := hz.1); (try have hz1 := hz.2); (try have HTcl1 := Lib.hid (HTcl1.out.kept hb')); (try have HTcl2 := Lib.hid (HTcl2.out.kept hb')); (try have HTsub2 := Lib.hid (HTsub1.out.kept hb')); have hB := carry_below hB (Nat.le_refl _) hb'; have HTsub1 := Lib.hid ho.read; clear hb ho) | (go_at_call 15; refine (CCcl.out _ _ _ (by first | exact hB | exact hB.alloc hB.size _) ⟨rfl, rfl⟩).mono ?_; rintro e wn ⟨vn, rfl, ho, hb⟩; obtain ⟨up, uc, rfl⟩ := ho.read.is_slice; have hb' := hb; (first | replace hb' := pre_alloc2 hb' | replace hb' := pre_alloc hb' | skip); have q0 : wn.cell? ⟨w.heap.size, 0, none⟩ = some (.slice pa0 t0.length ca0) := carry_cell' hb' (by assumption); have q1 : wn.cell? ⟨w.heap.size + 1, 0, none⟩ = some (.slice pa1 t1.length ca1) := carry_cell' hb' (by assumption); (first | (have hz := (two_new2 _ _ _).kept hb; have hzB := hB.size) | (have hz := (oner_new _ _ _ _ rfl).kept hb; have hzB := hB.size) | have hz := hz.kept hb | skip); (try have hz0 := hz.1); (try have hz1 := hz.2); (try have HTsub1 := Lib.hid (HTsub1.out.kept hb')); (try have HTsub2 := Lib.hid (HTsub2.out.kept hb')); (try have HTcl2 := Lib.hid (HTcl1.out.kept hb')); have hB := carry_below hB (Nat.le_refl _) hb'; have HTcl1 := Lib.hid ho.read; clear hb ho) | (go_at_call 20; have hBW := hB; refine (HCS.out _ _ _ (by first | exact HTsub1.out | exact HTsub2.out | exact HTsub1.out.alloc _ | exact HTsub2.out.alloc _) (by first | exact HTcl1.out | exact HTcl2.out | exact HTcl1.out.alloc _ | exact HTcl2.out.alloc _)).mono ?_; rintro e wn ⟨vn, rfl, ho, hb⟩; obtain ⟨up, uc, rfl⟩ := ho.read.is_slice; (try have hzl := World.block_lt_of_cell? _ _ hz.1); have hb' := hb; (first | replace hb' := pre_alloc2 hb' | replace hb' := pre_alloc hb' | skip); have q0 : wn.cell? ⟨w.heap.size, 0, none⟩ = some (.slice pa0 t0.length ca0) := carry_cell' hb' (by assumption); have q1 : wn.cell? ⟨w.heap.size + 1, 0, none⟩ = some (.slice pa1 t1.length ca1) := carry_cell' hb' (by assumption); (first | (have hz := (two_new2 _ _ _).kept hb; have hzB := hB.size) | (have hz := (oner_new _ _ _ _ rfl).kept hb; have hzB := hB.size) | have hz := hz.kept hb | skip); (try have hz0 := hz.1); (try have hz1 := hz.2); have HGO := Lib.hid ho; have HGB := Lib.hid hb; have hB := carry_below hB (Nat.le_refl _) hb'; clear hb ho))
    all_goals (go_wp2_with fail; go_meet)
    all_goals (first | exact Got.of hBW HGB.out HGO.out | exact Got.st hzB hzl hBW HGB.out HGO.out hz | exact Got.st hzB (by simp) (hBW.alloc hBW.size _) HGB.out HGO.out hz)
  case rest =>
    obtain ⟨BWB, BWv, BWlo, BWhi, rfl, rfl, BWle, BWlo1, BWdis, htw, how, hb⟩ := hcut
    have BWhi1 := how.2
    obtain ⟨BWp, BWc, rfl⟩ := how.read.is_slice
    clear CCsub CCcl
    obtain ⟨w3, hw3⟩ : ∃ x, x = wc := ⟨_, rfl⟩
    rw [← hw3] at htw how hb BWhi1 ⊢
    clear hw3
    have BWbl : BWB < w3.heap.size := World.block_lt_of_cell? w3 ⟨BWB, 0, none⟩ htw.1
    clear A0r0 A0r2 A0lt A1r0 A1r2 A1lt
    have HB_3 := Lib.hid (carry_below HB_2.out (Nat.le_refl _) hb)
    have A0_3 := Lib.hid (A0_2.out.kept hb)
    have A1_3 := Lib.hid (A1_2.out.kept hb)
    have z_3 : w2.heap.size ≤ w3.heap.size := hb.size
    clear HB_2 A0_2 A1_2
    have BW_3 := Lib.hid htw
    have W0_3 := Lib.hid (how)
    clear htw how hb
    obtain ⟨A0r0, A0r2⟩ := A0_3.out
    have A0lt : w.heap.size < w3.heap.size := World.block_lt_of_cell? w3 ⟨w.heap.size, 0, none⟩ A0r0
    obtain ⟨A1r0, A1r2⟩ := A1_3.out
    have A1lt : (w.heap.size + 1) < w3.heap.size := World.block_lt_of_cell? w3 ⟨(w.heap.size + 1), 0, none⟩ A1r0
    obtain ⟨BWr0, BWr2⟩ := BW_3.out
    have BWlt : BWB < w3.heap.size := World.block_lt_of_cell? w3 ⟨BWB, 0, none⟩ BWr0
    go_wp2_with fail
    refine (toSub_any t0 _ _ (HV0.out.kept HB_3.out) hw0).mono ?_
    rintro e w4 ⟨u4, rfl, ho, hb⟩
    obtain ⟨u4p, u4c, rfl⟩ := ho.read.is_slice
    clear A0r0 A0r2 A0lt A1r0 A1r2 A1lt BWr0 BWr2 BWlt
    have HB_4 := Lib.hid (carry_below HB_3.out (Nat.le_refl _) hb)
    have A0_4 := Lib.hid (A0_3.out.kept hb)
    have A1_4 := Lib.hid (A1_3.out.kept hb)
    have BW_4 := Lib.hid (BW_3.out.kept hb)
    have W0_4 := Lib.hid (W0_3.out.kept hb)
    have z_4 : w3.heap.size ≤ w4.heap.size := hb.size
    clear HB_3 A0_3 A1_3 BW_3 W0_3
    have X0_4 := Lib.hid ((OwnBd.fresh ho))
    clear hb ho
    obtain ⟨A0r0, A0r2⟩ := A0_4.out
    have A0lt : w.heap.size < w4.heap.size := World.block_lt_of_cell? w4 ⟨w.heap.size, 0, none⟩ A0r0
    obtain ⟨A1r0, A1r2⟩ := A1_4.out
    have A1lt : (w.heap.size + 1) < w4.heap.size := World.block_lt_of_cell? w4 ⟨(w.heap.size + 1), 0, none⟩ A1r0
    obtain ⟨BWr0, BWr2⟩ := BW_4.out
    have BWlt : BWB < w4.heap.size := World.block_lt_of_cell? w4 ⟨BWB, 0, none⟩ BWr0
    have HB_5 := Lib.hid (HB_4.out.alloc HB_4.out.size (.cells #[.slice u4p t0.length u4c] 61))
    have A0_5 := Lib.hid (A0_4.out.kept ((Below.refl w4.heap.size w4).alloc (Nat.le_refl _) (.cells #[.slice u4p t0.length u4c] 61)))
    have A1_5 := Lib.hid (A1_4.out.kept ((Below.refl w4.heap.size w4).alloc (Nat.le_refl _) (.cells #[.slice u4p t0.length u4c] 61)))
    have BW_5 := Lib.hid (BW_4.out.kept ((Below.refl w4.heap.size w4).alloc (Nat.le_refl _) (.cells #[.slice u4p t0.length u4c] 61)))
    have W0_5 := Lib.hid (W0_4.out.kept ((Below.refl w4.heap.size w4).alloc (Nat.le_refl _) (.cells #[.slice u4p t0.length u4c] 61)))
    have X0_5 := Lib.hid (X0_4.out.kept ((Below.refl w4.heap.size w4).alloc (Nat.le_refl _) (.cells #[.slice u4p t0.length u4c] 61)))
    clear HB_4 A0_4 A1_4 BW_4 W0_4 X0_4
    have BX0_5 := Lib.hid (oner_new w4 (.slice u4p t0.length u4c) 61 _ rfl)
    go_wp2_with fail
    refine (toClause_any t1 _ _ (HV1.out.kept HB_5.out) hw1).mono ?_
    rintro e w5 ⟨u5, rfl, ho, hb⟩
    obtain ⟨u5p, u5c, rfl⟩ := ho.read.is_slice
    clear A0r0 A0r2 A0lt A1r0 A1r2 A1lt BWr0 BWr2 BWlt
    have HB_6 := Lib.hid (carry_below HB_5.out (Nat.le_refl _) hb)
    have A0_6 := Lib.hid (A0_5.out.kept hb)
    have A1_6 := Lib.hid (A1_5.out.kept hb)
    have BW_6 := Lib.hid (BW_5.out.kept hb)
    have W0_6 := Lib.hid (W0_5.out.kept hb)
    have X0_6 := Lib.hid (X0_5.out.kept hb)
    have BX0_6 := Lib.hid (BX0_5.out.kept hb)
    have z_6 : w4.heap.size + 1 ≤ w5.heap.size := by have := hb.size; simpa using this
    clear HB_5 A0_5 A1_5 BW_5 W0_5 X0_5 BX0_5
    have X1_6 := Lib.hid ((OwnLt.freshAt ho (n := w4.heap.size + 1) (by simp)))
    clear hb ho
    obtain ⟨A0r0, A0r2⟩ := A0_6.out
    have A0lt : w.heap.size < w5.heap.size := World.block_lt_of_cell? w5 ⟨w.heap.size, 0, none⟩ A0r0
    obtain ⟨A1r0, A1r2⟩ := A1_6.out
    have A1lt : (w.heap.size + 1) < w5.heap.size := World.block_lt_of_cell? w5 ⟨(w.heap.size + 1), 0, none⟩ A1r0
    obtain ⟨BWr0, BWr2⟩ := BW_6.out
    have BWlt : BWB < w5.heap.size := World.block_lt_of_cell? w5 ⟨BWB, 0, none⟩ BWr0
    obtain ⟨BX0r0, BX0r2⟩ := BX0_6.out
    have BX0lt : w4.heap.size < w5.heap.size := World.block_lt_of_cell? w5 ⟨w4.heap.size, 0, none⟩ BX0r0
    have HB_7 := Lib.hid (HB_6.out.alloc HB_6.out.size (.cells #[.slice u5p t1.length u5c] 48))
    have A0_7 := Lib.hid (A0_6.out.kept ((Below.refl w5.heap.size w5).alloc (Nat.le_refl _) (.cells #[.slice u5p t1.length u5c] 48)))
    have A1_7 := Lib.hid (A1_6.out.kept ((Below.refl w5.heap.size w5).alloc (Nat.le_refl _) (.cells #[.slice u5p t1.length u5c] 48)))
    have BW_7 := Lib.hid (BW_6.out.kept ((Below.refl w5.heap.size w5).alloc (Nat.le_refl _) (.cells #[.slice u5p t1.length u5c] 48)))
    have W0_7 := Lib.hid (W0_6.out.kept ((Below.refl w5.heap.size w5).alloc (Nat.le_refl _) (.cells #[.slice u5p t1.length u5c] 48)))
    have X0_7 := Lib.hid (X0_6.out.kept ((Below.refl w5.heap.size w5).alloc (Nat.le_refl _) (.cells #[.slice u5p t1.length u5c] 48)))
    have BX0_7 := Lib.hid (BX0_6.out.kept ((Below.refl w5.heap.size w5).alloc (Nat.le_refl _) (.cells #[.slice u5p t1.length u5c] 48)))
    have X1_7 := Lib.hid (X1_6.out.kept ((Below.refl w5.heap.size w5).alloc (Nat.le_refl _) (.cells #[.slice u5p t1.length u5c] 48)))
    clear HB_6 A0_6 A1_6 BW_6 W0_6 X0_6 BX0_6 X1_6
    have BX1_7 := Lib.hid (oner_new w5 (.slice u5p t1.length u5c) 48 _ rfl)
    go_wp2_with fail
    refine (HCI.out _ _ _ X0_7.out.read X1_7.out.read).mono ?_
    rintro e w6 ⟨u6, rfl, ho, hb⟩
    obtain ⟨u6p, u6c, rfl⟩ := ho.read.is_slice
    clear A0r0 A0r2 A0lt A1r0 A1r2 A1lt BWr0 BWr2 BWlt BX0r0 BX0r2 BX0lt
    have HB_8 := Lib.hid (carry_below HB_7.out (Nat.le_refl _) hb)
    have A0_8 := Lib.hid (A0_7.out.kept hb)
    have A1_8 := Lib.hid (A1_7.out.kept hb)
    have BW_8 := Lib.hid (BW_7.out.kept hb)
    have W0_8 := Lib.hid (W0_7.out.kept hb)
    have X0_8 := Lib.hid (X0_7.out.kept hb)
    have BX0_8 := Lib.hid (BX0_7.out.kept hb)
    have X1_8 := Lib.hid (X1_7.out.kept hb)
    have BX1_8 := Lib.hid (BX1_7.out.kept hb)
    have z_8 : w5.heap.size + 1 ≤ w6.heap.size := by have := hb.size; simpa using this
    clear HB_7 A0_7 A1_7 BW_7 W0_7 X0_7 BX0_7 X1_7 BX1_7
    have G_8 := Lib.hid ((OwnLt.freshAt ho (n := w5.heap.size + 1) (by simp)))
    clear hb ho
    obtain ⟨A0r0, A0r2⟩ := A0_8.out
    have A0lt : w.heap.size < w6.heap.size := World.block_lt_of_cell? w6 ⟨w.heap.size, 0, none⟩ A0r0
    obtain ⟨A1r0, A1r2⟩ := A1_8.out
    have A1lt : (w.heap.size + 1) < w6.heap.size := World.block_lt_of_cell? w6 ⟨(w.heap.size + 1), 0, none⟩ A1r0
    obtain ⟨BWr0, BWr2⟩ := BW_8.out
    have BWlt : BWB < w6.heap.size := World.block_lt_of_cell? w6 ⟨BWB, 0, none⟩ BWr0
    obtain ⟨BX0r0, BX0r2⟩ := BX0_8.out
    have BX0lt : w4.heap.size < w6.heap.size := World.block_lt_of_cell? w6 ⟨w4.heap.size, 0, none⟩ BX0r0
    obtain ⟨BX1r0, BX1r2⟩ := BX1_8.out
    have BX1lt : w5.heap.size < w6.heap.size := World.block_lt_of_cell? w6 ⟨w5.heap.size, 0, none⟩ BX1r0
    have HB_9 := Lib.hid (HB_8.out.alloc HB_8.out.size (.cells #[.slice u6p r.length u6c] 48))
    have A0_9 := Lib.hid (A0_8.out.kept ((Below.refl w6.heap.size w6).alloc (Nat.le_refl _) (.cells #[.slice u6p r.length u6c] 48)))
    have A1_9 := Lib.hid (A1_8.out.kept ((Below.refl w6.heap.size w6).alloc (Nat.le_refl _) (.cells #[.slice u6p r.length u6c] 48)))
    have BW_9 := Lib.hid (BW_8.out.kept ((Below.refl w6.heap.size w6).alloc (Nat.le_refl _) (.cells #[.slice u6p r.length u6c] 48)))
    have W0_9 := Lib.hid (W0_8.out.kept ((Below.refl w6.heap.size w6).alloc (Nat.le_refl _) (.cells #[.slice u6p r.length u6c] 48)))
    have X0_9 := Lib.hid (X0_8.out.kept ((Below.refl w6.heap.size w6).alloc (Nat.le_refl _) (.cells #[.slice u6p r.length u6c] 48)))
    have BX0_9 := Lib.hid (BX0_8.out.kept ((Below.refl w6.heap.size w6).alloc (Nat.le_refl _) (.cells #[.slice u6p r.length u6c] 48)))
    have X1_9 := Lib.hid (X1_8.out.kept ((Below.refl w6.heap.size w6).alloc (Nat.le_refl _) (.cells #[.slice u6p r.length u6c] 48)))
    have BX1_9 := Lib.hid (BX1_8.out.kept ((Below.refl w6.heap.size w6).alloc (Nat.le_refl _) (.cells #[.slice u6p r.length u6c] 48)))
    have G_9 := Lib.hid (G_8.out.kept ((Below.refl w6.heap.size w6).alloc (Nat.le_refl _) (.cells #[.slice u6p r.length u6c] 48)))
    clear HB_8 A0_8 A1_8 BW_8 W0_8 X0_8 BX0_8 X1_8 BX1_8 G_8
    have BG_9 := Lib.hid (oner_new w6 (.slice u6p r.length u6c) 48 _ rfl)
    have CE := eqClause_any r r _ _ _ G_9.out.read W0_9.out.read HLR.out HLR.out
    rw [eqCs_self] at CE
    have HCE := Lib.hid CE
    clear CE
    go_wp2_with fail
    refine HCE.out.mono ?_
    rintro e w7 ⟨rfl, hb⟩
    clear A0r0 A0r2 A0lt A1r0 A1r2 A1lt BWr0 BWr2 BWlt BX0r0 BX0r2 BX0lt BX1r0 BX1r2 BX1lt
    have HB_10 := Lib.hid (carry_below HB_9.out (Nat.le_refl _) hb)
    have A0_10 := Lib.hid (A0_9.out.kept hb)
    have A1_10 := Lib.hid (A1_9.out.kept hb)
    have BW_10 := Lib.hid (BW_9.out.kept hb)
    have W0_10 := Lib.hid (W0_9.out.kept hb)
    have X0_10 := Lib.hid (X0_9.out.kept hb)
    have BX0_10 := Lib.hid (BX0_9.out.kept hb)
    have X1_10 := Lib.hid (X1_9.out.kept hb)
    have BX1_10 := Lib.hid (BX1_9.out.kept hb)
    have G_10 := Lib.hid (G_9.out.kept hb)
    have BG_10 := Lib.hid (BG_9.out.kept hb)
    have z_10 : w6.heap.size + 1 ≤ w7.heap.size := by have := hb.size; simpa using this
    clear HB_9 A0_9 A1_9 BW_9 W0_9 X0_9 BX0_9 X1_9 BX1_9 G_9 BG_9
    clear hb HCE
    obtain ⟨A0r0, A0r2⟩ := A0_10.out
    have A0lt : w.heap.size < w7.heap.size := World.block_lt_of_cell? w7 ⟨w.heap.size, 0, none⟩ A0r0
    obtain ⟨A1r0, A1r2⟩ := A1_10.out
    have A1lt : (w.heap.size + 1) < w7.heap.size := World.block_lt_of_cell? w7 ⟨(w.heap.size + 1), 0, none⟩ A1r0
    obtain ⟨BWr0, BWr2⟩ := BW_10.out
    have BWlt : BWB < w7.heap.size := World.block_lt_of_cell? w7 ⟨BWB, 0, none⟩ BWr0
    obtain ⟨BX0r0, BX0r2⟩ := BX0_10.out
    have BX0lt : w4.heap.size < w7.heap.size := World.block_lt_of_cell? w7 ⟨w4.heap.size, 0, none⟩ BX0r0
    obtain ⟨BX1r0, BX1r2⟩ := BX1_10.out
    have BX1lt : w5.heap.size < w7.heap.size := World.block_lt_of_cell? w7 ⟨w5.heap.size, 0, none⟩ BX1r0
    obtain ⟨BGr0, BGr2⟩ := BG_10.out
    have BGlt : w6.heap.size < w7.heap.size := World.block_lt_of_cell? w7 ⟨w6.heap.size, 0, none⟩ BGr0
    have CT : Hid (∀ W : World, Below w7.heap.size w7 W → Calls Tryz.prog 21 #[.agg #[.slice pa0 t0.length ca0]] W (ToSubEnd t0 W)) := Lib.hid (fun W hW => toSub_any t0 W _ ((HV0.out.kept HB_10.out).kept hW) hw0)
    have CE : Hid (∀ (W : World) (v : Value), Below w7.heap.size w7 W → BdS W v t0 → Calls Tryz.prog 23 #[.agg #[.slice u4p t0.length u4c], .agg #[v]] W (EqEnd true W)) := Lib.hid (fun W v hW hv => by
      have h := eqSub_any t0 t0 W _ v (X0_10.out.read.kept hW) hv HL0.out HL0.out
      rwa [eqBs_self] at h)
    have hB0 : Below w7.heap.size w7 w7.drew := (Below.refl _ _).drew
    go_wp2_with fail
    go_region_held3 (fun w' => w'.cell? ⟨w.heap.size, 0, none⟩ = some (.slice pa0 t0.length ca0) ∧ w'.cell? ⟨w4.heap.size, 0, none⟩ = some (.slice u4p t0.length u4c) ∧ Below w7.heap.size w7 w') (first | exact ⟨by assumption, by assumption, by assumption⟩ | go_keep) (first | (go_at_call 21; refine (CT.out _ hB0).mono ?_; rintro e w8a ⟨v6, rfl, ho, hb⟩; have q0 : w8a.cell? ⟨w.heap.size, 0, none⟩ = some (.slice pa0 t0.length ca0) := carry_cell' hb (by assumption); have q1 : w8a.cell? ⟨w4.heap.size, 0, none⟩ = some (.slice u4p t0.length u4c) := carry_cell' hb (by assumption); have hB6 := carry_below hB0 (Nat.le_refl _) hb; have HT6 := Lib.hid ho.read; clear hb ho) | (go_at_call 23; refine (CE.out _ _ hB6 HT6.out).mono ?_; rintro e w8 ⟨rfl, hb⟩; have r0 : w8.cell? ⟨w.heap.size, 0, none⟩ = some (.slice pa0 t0.length ca0) := carry_cell' hb (by assumption); have r1 : w8.cell? ⟨w4.heap.size, 0, none⟩ = some (.slice u4p t0.length u4c) := carry_cell' hb (by assumption); have hB7 := carry_below hB6 (Nat.le_refl _) hb; clear hb))
    clear A0r0 A0r2 A0lt A1r0 A1r2 A1lt BWr0 BWr2 BWlt BX0r0 BX0r2 BX0lt BX1r0 BX1r2 BX1lt BGr0 BGr2 BGlt
    have HB_11 := Lib.hid (carry_below HB_10.out (Nat.le_refl _) hB7)
    have A0_11 := Lib.hid (A0_10.out.kept hB7)
    have A1_11 := Lib.hid (A1_10.out.kept hB7)
    have BW_11 := Lib.hid (BW_10.out.kept hB7)
    have W0_11 := Lib.hid (W0_10.out.kept hB7)
    have X0_11 := Lib.hid (X0_10.out.kept hB7)
    have BX0_11 := Lib.hid (BX0_10.out.kept hB7)
    have X1_11 := Lib.hid (X1_10.out.kept hB7)
    have BX1_11 := Lib.hid (BX1_10.out.kept hB7)
    have G_11 := Lib.hid (G_10.out.kept hB7)
    have BG_11 := Lib.hid (BG_10.out.kept hB7)
    have z_11 : w7.heap.size ≤ w8.heap.size := hB7.size
    clear HB_10 A0_10 A1_10 BW_10 W0_10 X0_10 BX0_10 X1_10 BX1_10 G_10 BG_10
    clear hB7 hB6 hB0 q0 r0 q1 r1 HT6 CT CE
    obtain ⟨A0r0, A0r2⟩ := A0_11.out
    have A0lt : w.heap.size < w8.heap.size := World.block_lt_of_cell? w8 ⟨w.heap.size, 0, none⟩ A0r0
    obtain ⟨A1r0, A1r2⟩ := A1_11.out
    have A1lt : (w.heap.size + 1) < w8.heap.size := World.block_lt_of_cell? w8 ⟨(w.heap.size + 1), 0, none⟩ A1r0
    obtain ⟨BWr0, BWr2⟩ := BW_11.out
    have BWlt : BWB < w8.heap.size := World.block_lt_of_cell? w8 ⟨BWB, 0, none⟩ BWr0
    obtain ⟨BX0r0, BX0r2⟩ := BX0_11.out
    have BX0lt : w4.heap.size < w8.heap.size := World.block_lt_of_cell? w8 ⟨w4.heap.size, 0, none⟩ BX0r0
    obtain ⟨BX1r0, BX1r2⟩ := BX1_11.out
    have BX1lt : w5.heap.size < w8.heap.size := World.block_lt_of_cell? w8 ⟨w5.heap.size, 0, none⟩ BX1r0
    obtain ⟨BGr0, BGr2⟩ := BG_11.out
    have BGlt : w6.heap.size < w8.heap.size := World.block_lt_of_cell? w8 ⟨w6.heap.size, 0, none⟩ BGr0
    have CT : Hid (∀ W : World, Below w8.heap.size w8 W → Calls Tryz.prog 15 #[.agg #[.slice pa1 t1.length ca1]] W (ToClEnd t1 W)) := Lib.hid (fun W hW => toClause_any t1 W _ ((HV1.out.kept HB_11.out).kept hW) hw1)
    have CE : Hid (∀ (W : World) (v : Value), Below w8.heap.size w8 W → LtS W v t1 → Calls Tryz.prog 17 #[.agg #[.slice u5p t1.length u5c], .agg #[v]] W (EqEnd true W)) := Lib.hid (fun W v hW hv => by
      have h := eqClause_any t1 t1 W _ v (X1_11.out.read.kept hW) hv HL1.out HL1.out
      rwa [eqCs_self] at h)
    have hB0 : Below w8.heap.size w8 w8.drew := (Below.refl _ _).drew
    go_wp2_with fail
    go_region_held3 (fun w' => w'.cell? ⟨w.heap.size + 1, 0, none⟩ = some (.slice pa1 t1.length ca1) ∧ w'.cell? ⟨w5.heap.size, 0, none⟩ = some (.slice u5p t1.length u5c) ∧ Below w8.heap.size w8 w') (first | exact ⟨by assumption, by assumption, by assumption⟩ | go_keep) (first | (go_at_call 15; refine (CT.out _ hB0).mono ?_; rintro e w9a ⟨v6, rfl, ho, hb⟩; have q0 : w9a.cell? ⟨w.heap.size + 1, 0, none⟩ = some (.slice pa1 t1.length ca1) := carry_cell' hb (by assumption); have q1 : w9a.cell? ⟨w5.heap.size, 0, none⟩ = some (.slice u5p t1.length u5c) := carry_cell' hb (by assumption); have hB6 := carry_below hB0 (Nat.le_refl _) hb; have HT6 := Lib.hid ho.read; clear hb ho) | (go_at_call 17; refine (CE.out _ _ hB6 HT6.out).mono ?_; rintro e w9 ⟨rfl, hb⟩; have r0 : w9.cell? ⟨w.heap.size + 1, 0, none⟩ = some (.slice pa1 t1.length ca1) := carry_cell' hb (by assumption); have r1 : w9.cell? ⟨w5.heap.size, 0, none⟩ = some (.slice u5p t1.length u5c) := carry_cell' hb (by assumption); have hB7 := carry_below hB6 (Nat.le_refl _) hb; clear hb))
    clear A0r0 A0r2 A0lt A1r0 A1r2 A1lt BWr0 BWr2 BWlt BX0r0 BX0r2 BX0lt BX1r0 BX1r2 BX1lt BGr0 BGr2 BGlt
    have HB_12 := Lib.hid (carry_below HB_11.out (Nat.le_refl _) hB7)
    have A0_12 := Lib.hid (A0_11.out.kept hB7)
    have A1_12 := Lib.hid (A1_11.out.kept hB7)
    have BW_12 := Lib.hid (BW_11.out.kept hB7)
    have W0_12 := Lib.hid (W0_11.out.kept hB7)
    have X0_12 := Lib.hid (X0_11.out.kept hB7)
    have BX0_12 := Lib.hid (BX0_11.out.kept hB7)
    have X1_12 := Lib.hid (X1_11.out.kept hB7)
    have BX1_12 := Lib.hid (BX1_11.out.kept hB7)
    have G_12 := Lib.hid (G_11.out.kept hB7)
    have BG_12 := Lib.hid (BG_11.out.kept hB7)
    have z_12 : w8.heap.size ≤ w9.heap.size := hB7.size
    clear HB_11 A0_11 A1_11 BW_11 W0_11 X0_11 BX0_11 X1_11 BX1_11 G_11 BG_11
    clear hB7 hB6 hB0 q0 r0 q1 r1 HT6 CT CE
    obtain ⟨A0r0, A0r2⟩ := A0_12.out
    have A0lt : w.heap.size < w9.heap.size := World.block_lt_of_cell? w9 ⟨w.heap.size, 0, none⟩ A0r0
    obtain ⟨A1r0, A1r2⟩ := A1_12.out
    have A1lt : (w.heap.size + 1) < w9.heap.size := World.block_lt_of_cell? w9 ⟨(w.heap.size + 1), 0, none⟩ A1r0
    obtain ⟨BWr0, BWr2⟩ := BW_12.out
    have BWlt : BWB < w9.heap.size := World.block_lt_of_cell? w9 ⟨BWB, 0, none⟩ BWr0
    obtain ⟨BX0r0, BX0r2⟩ := BX0_12.out
    have BX0lt : w4.heap.size < w9.heap.size := World.block_lt_of_cell? w9 ⟨w4.heap.size, 0, none⟩ BX0r0
    obtain ⟨BX1r0, BX1r2⟩ := BX1_12.out
    have BX1lt : w5.heap.size < w9.heap.size := World.block_lt_of_cell? w9 ⟨w5.heap.size, 0, none⟩ BX1r0
    obtain ⟨BGr0, BGr2⟩ := BG_12.out
    have BGlt : w6.heap.size < w9.heap.size := World.block_lt_of_cell? w9 ⟨w6.heap.size, 0, none⟩ BGr0
    have CM := markSub_any t0 1 _ _ _ X0_12.out.1 X0_12.out.bound (by omega) (by omega)
    have HCM := Lib.hid CM
    clear CM
    go_wp2_with fail
    refine HCM.out.mono ?_
    rintro e w10 ⟨rfl, ho, hout⟩
    clear A0r0 A0r2 A0lt A1r0 A1r2 A1lt BWr0 BWr2 BWlt BX0r0 BX0r2 BX0lt BX1r0 BX1r2 BX1lt BGr0 BGr2 BGlt
    have HB_13 := Lib.hid (below_outside HB_12.out hout (by omega))
    have A0_13 := Lib.hid (A0_12.out.outside hout (by omega))
    have A1_13 := Lib.hid (A1_12.out.outside hout (by omega))
    have BW_13 := Lib.hid (BW_12.out.outside hout (by omega))
    have W0_13 := Lib.hid (W0_12.out.outside hout (by omega))
    have BX0_13 := Lib.hid (BX0_12.out.outside hout (by omega))
    have X1_13 := Lib.hid (X1_12.out.outside hout (by omega))
    have BX1_13 := Lib.hid (BX1_12.out.outside hout (by omega))
    have G_13 := Lib.hid (G_12.out.outside hout (by omega))
    have BG_13 := Lib.hid (BG_12.out.outside hout (by omega))
    have z_13 : w9.heap.size ≤ w10.heap.size := hout.size
    clear HB_12 A0_12 A1_12 BW_12 W0_12 BX0_12 X1_12 BX1_12 G_12 BG_12
    clear ho hout HCM
    obtain ⟨A0r0, A0r2⟩ := A0_13.out
    have A0lt : w.heap.size < w10.heap.size := World.block_lt_of_cell? w10 ⟨w.heap.size, 0, none⟩ A0r0
    obtain ⟨A1r0, A1r2⟩ := A1_13.out
    have A1lt : (w.heap.size + 1) < w10.heap.size := World.block_lt_of_cell? w10 ⟨(w.heap.size + 1), 0, none⟩ A1r0
    obtain ⟨BWr0, BWr2⟩ := BW_13.out
    have BWlt : BWB < w10.heap.size := World.block_lt_of_cell? w10 ⟨BWB, 0, none⟩ BWr0
    obtain ⟨BX0r0, BX0r2⟩ := BX0_13.out
    have BX0lt : w4.heap.size < w10.heap.size := World.block_lt_of_cell? w10 ⟨w4.heap.size, 0, none⟩ BX0r0
    obtain ⟨BX1r0, BX1r2⟩ := BX1_13.out
    have BX1lt : w5.heap.size < w10.heap.size := World.block_lt_of_cell? w10 ⟨w5.heap.size, 0, none⟩ BX1r0
    obtain ⟨BGr0, BGr2⟩ := BG_13.out
    have BGlt : w6.heap.size < w10.heap.size := World.block_lt_of_cell? w10 ⟨w6.heap.size, 0, none⟩ BGr0
    have CM := markCl_any t1 (1 + sumB Bd.n t0) _ _ _ X1_13.out.1 X1_13.out.bound (by omega) (by omega)
    have HCM := Lib.hid CM
    clear CM
    go_wp2_with fail
    refine HCM.out.mono ?_
    rintro e w11 ⟨rfl, ho, hout⟩
    clear A0r0 A0r2 A0lt A1r0 A1r2 A1lt BWr0 BWr2 BWlt BX0r0 BX0r2 BX0lt BX1r0 BX1r2 BX1lt BGr0 BGr2 BGlt
    have HB_14 := Lib.hid (below_outside HB_13.out hout (by omega))
    have A0_14 := Lib.hid (A0_13.out.outside hout (by omega))
    have A1_14 := Lib.hid (A1_13.out.outside hout (by omega))
    have BW_14 := Lib.hid (BW_13.out.outside hout (by omega))
    have W0_14 := Lib.hid (W0_13.out.outside hout (by omega))
    have BX0_14 := Lib.hid (BX0_13.out.outside hout (by omega))
    have BX1_14 := Lib.hid (BX1_13.out.outside hout (by omega))
    have G_14 := Lib.hid (G_13.out.outside hout (by omega))
    have BG_14 := Lib.hid (BG_13.out.outside hout (by omega))
    have z_14 : w10.heap.size ≤ w11.heap.size := hout.size
    clear HB_13 A0_13 A1_13 BW_13 W0_13 BX0_13 BX1_13 G_13 BG_13
    clear ho hout HCM
    obtain ⟨A0r0, A0r2⟩ := A0_14.out
    have A0lt : w.heap.size < w11.heap.size := World.block_lt_of_cell? w11 ⟨w.heap.size, 0, none⟩ A0r0
    obtain ⟨A1r0, A1r2⟩ := A1_14.out
    have A1lt : (w.heap.size + 1) < w11.heap.size := World.block_lt_of_cell? w11 ⟨(w.heap.size + 1), 0, none⟩ A1r0
    obtain ⟨BWr0, BWr2⟩ := BW_14.out
    have BWlt : BWB < w11.heap.size := World.block_lt_of_cell? w11 ⟨BWB, 0, none⟩ BWr0
    obtain ⟨BX0r0, BX0r2⟩ := BX0_14.out
    have BX0lt : w4.heap.size < w11.heap.size := World.block_lt_of_cell? w11 ⟨w4.heap.size, 0, none⟩ BX0r0
    obtain ⟨BX1r0, BX1r2⟩ := BX1_14.out
    have BX1lt : w5.heap.size < w11.heap.size := World.block_lt_of_cell? w11 ⟨w5.heap.size, 0, none⟩ BX1r0
    obtain ⟨BGr0, BGr2⟩ := BG_14.out
    have BGlt : w6.heap.size < w11.heap.size := World.block_lt_of_cell? w11 ⟨w6.heap.size, 0, none⟩ BGr0
    have hk0 : decide (((1 + sumB Bd.n t0 + sumC Lt.n t1 : Nat) : Int) < 0) = false := by simp; omega
    generalize 1 + sumB Bd.n t0 + sumC Lt.n t1 = kk at *
    have CE := eqClause_any r r _ _ _ G_14.out.read W0_14.out.read HLR.out HLR.out
    rw [eqCs_self] at CE
    have HCE := Lib.hid CE
    clear CE
    go_wp2_with fail
    refine HCE.out.mono ?_
    rintro e w12 ⟨rfl, hb⟩
    clear A0r0 A0r2 A0lt A1r0 A1r2 A1lt BWr0 BWr2 BWlt BX0r0 BX0r2 BX0lt BX1r0 BX1r2 BX1lt BGr0 BGr2 BGlt
    have HB_15 := Lib.hid (carry_below HB_14.out (Nat.le_refl _) hb)
    have A0_15 := Lib.hid (A0_14.out.kept hb)
    have A1_15 := Lib.hid (A1_14.out.kept hb)
    have BW_15 := Lib.hid (BW_14.out.kept hb)
    have W0_15 := Lib.hid (W0_14.out.kept hb)
    have BX0_15 := Lib.hid (BX0_14.out.kept hb)
    have BX1_15 := Lib.hid (BX1_14.out.kept hb)
    have G_15 := Lib.hid (G_14.out.kept hb)
    have BG_15 := Lib.hid (BG_14.out.kept hb)
    have z_15 : w11.heap.size ≤ w12.heap.size := hb.size
    clear HB_14 A0_14 A1_14 BW_14 W0_14 BX0_14 BX1_14 G_14 BG_14
    clear hb HCE
    obtain ⟨A0r0, A0r2⟩ := A0_15.out
    have A0lt : w.heap.size < w12.heap.size := World.block_lt_of_cell? w12 ⟨w.heap.size, 0, none⟩ A0r0
    obtain ⟨A1r0, A1r2⟩ := A1_15.out
    have A1lt : (w.heap.size + 1) < w12.heap.size := World.block_lt_of_cell? w12 ⟨(w.heap.size + 1), 0, none⟩ A1r0
    obtain ⟨BWr0, BWr2⟩ := BW_15.out
    have BWlt : BWB < w12.heap.size := World.block_lt_of_cell? w12 ⟨BWB, 0, none⟩ BWr0
    obtain ⟨BX0r0, BX0r2⟩ := BX0_15.out
    have BX0lt : w4.heap.size < w12.heap.size := World.block_lt_of_cell? w12 ⟨w4.heap.size, 0, none⟩ BX0r0
    obtain ⟨BX1r0, BX1r2⟩ := BX1_15.out
    have BX1lt : w5.heap.size < w12.heap.size := World.block_lt_of_cell? w12 ⟨w5.heap.size, 0, none⟩ BX1r0
    obtain ⟨BGr0, BGr2⟩ := BG_15.out
    have BGlt : w6.heap.size < w12.heap.size := World.block_lt_of_cell? w12 ⟨w6.heap.size, 0, none⟩ BGr0
    have CM := markCl_any r 1 _ _ _ G_15.out.1 G_15.out.bound (by omega) (by omega)
    have HCM := Lib.hid CM
    clear CM
    go_wp2_with fail
    refine HCM.out.mono ?_
    rintro e w13 ⟨rfl, ho, hout⟩
    clear A0r0 A0r2 A0lt A1r0 A1r2 A1lt BWr0 BWr2 BWlt BX0r0 BX0r2 BX0lt BX1r0 BX1r2 BX1lt BGr0 BGr2 BGlt
    have HB_16 := Lib.hid (below_outside HB_15.out hout (by omega))
    have A0_16 := Lib.hid (A0_15.out.outside hout (by omega))
    have A1_16 := Lib.hid (A1_15.out.outside hout (by omega))
    have BW_16 := Lib.hid (BW_15.out.outside hout (by omega))
    have W0_16 := Lib.hid (W0_15.out.outside hout (by omega))
    have BX0_16 := Lib.hid (BX0_15.out.outside hout (by omega))
    have BX1_16 := Lib.hid (BX1_15.out.outside hout (by omega))
    have BG_16 := Lib.hid (BG_15.out.outside hout (by omega))
    have z_16 : w12.heap.size ≤ w13.heap.size := hout.size
    clear HB_15 A0_15 A1_15 BW_15 W0_15 BX0_15 BX1_15 BG_15
    have M_16 := Lib.hid ((show OwnLt w13 _ _ _ _ from ⟨ho, Nat.le_trans G_15.out.2 hout.size⟩))
    clear ho hout HCM
    obtain ⟨A0r0, A0r2⟩ := A0_16.out
    have A0lt : w.heap.size < w13.heap.size := World.block_lt_of_cell? w13 ⟨w.heap.size, 0, none⟩ A0r0
    obtain ⟨A1r0, A1r2⟩ := A1_16.out
    have A1lt : (w.heap.size + 1) < w13.heap.size := World.block_lt_of_cell? w13 ⟨(w.heap.size + 1), 0, none⟩ A1r0
    obtain ⟨BWr0, BWr2⟩ := BW_16.out
    have BWlt : BWB < w13.heap.size := World.block_lt_of_cell? w13 ⟨BWB, 0, none⟩ BWr0
    obtain ⟨BX0r0, BX0r2⟩ := BX0_16.out
    have BX0lt : w4.heap.size < w13.heap.size := World.block_lt_of_cell? w13 ⟨w4.heap.size, 0, none⟩ BX0r0
    obtain ⟨BX1r0, BX1r2⟩ := BX1_16.out
    have BX1lt : w5.heap.size < w13.heap.size := World.block_lt_of_cell? w13 ⟨w5.heap.size, 0, none⟩ BX1r0
    obtain ⟨BGr0, BGr2⟩ := BG_16.out
    have BGlt : w6.heap.size < w13.heap.size := World.block_lt_of_cell? w13 ⟨w6.heap.size, 0, none⟩ BGr0
    have CH := heldCl_any r 1 _ _ M_16.out.read (Nat.le_refl _) (by omega)
    have HCH := Lib.hid CH
    clear CH
    go_wp2_with fail
    refine HCH.out.mono ?_
    rintro e w14 ⟨rfl, hb⟩
    clear A0r0 A0r2 A0lt A1r0 A1r2 A1lt BWr0 BWr2 BWlt BX0r0 BX0r2 BX0lt BX1r0 BX1r2 BX1lt BGr0 BGr2 BGlt
    have HB_17 := Lib.hid (carry_below HB_16.out (Nat.le_refl _) hb)
    have A0_17 := Lib.hid (A0_16.out.kept hb)
    have A1_17 := Lib.hid (A1_16.out.kept hb)
    have BW_17 := Lib.hid (BW_16.out.kept hb)
    have W0_17 := Lib.hid (W0_16.out.kept hb)
    have BX0_17 := Lib.hid (BX0_16.out.kept hb)
    have BX1_17 := Lib.hid (BX1_16.out.kept hb)
    have BG_17 := Lib.hid (BG_16.out.kept hb)
    have M_17 := Lib.hid (M_16.out.kept hb)
    have z_17 : w13.heap.size ≤ w14.heap.size := hb.size
    clear HB_16 A0_16 A1_16 BW_16 W0_16 BX0_16 BX1_16 BG_16 M_16
    clear hb HCH
    obtain ⟨A0r0, A0r2⟩ := A0_17.out
    have A0lt : w.heap.size < w14.heap.size := World.block_lt_of_cell? w14 ⟨w.heap.size, 0, none⟩ A0r0
    obtain ⟨A1r0, A1r2⟩ := A1_17.out
    have A1lt : (w.heap.size + 1) < w14.heap.size := World.block_lt_of_cell? w14 ⟨(w.heap.size + 1), 0, none⟩ A1r0
    obtain ⟨BWr0, BWr2⟩ := BW_17.out
    have BWlt : BWB < w14.heap.size := World.block_lt_of_cell? w14 ⟨BWB, 0, none⟩ BWr0
    obtain ⟨BX0r0, BX0r2⟩ := BX0_17.out
    have BX0lt : w4.heap.size < w14.heap.size := World.block_lt_of_cell? w14 ⟨w4.heap.size, 0, none⟩ BX0r0
    obtain ⟨BX1r0, BX1r2⟩ := BX1_17.out
    have BX1lt : w5.heap.size < w14.heap.size := World.block_lt_of_cell? w14 ⟨w5.heap.size, 0, none⟩ BX1r0
    obtain ⟨BGr0, BGr2⟩ := BG_17.out
    have BGlt : w6.heap.size < w14.heap.size := World.block_lt_of_cell? w14 ⟨w6.heap.size, 0, none⟩ BGr0
    have hm0 : decide (((1 + sumC Lt.n r : Nat) : Int) < 0) = false := by simp; omega
    go_wp2_with fail
    have CCsub : Hid (∀ (x : List Bd) (v : Value) (W : World), Below w14.heap.size w14 W → (x = t0 ∧ v = .slice pa0 t0.length ca0) → Calls Tryz.prog 21 #[.agg #[v]] W (ToSubEnd x W)) := Lib.hid (fun x v W hW h => by
      rcases h with ⟨rfl, rfl⟩
      · exact toSub_any _ W _ ((HV0.out.kept HB_17.out).kept hW) hw0)
    have CCcl : Hid (∀ (x : List Lt) (v : Value) (W : World), Below w14.heap.size w14 W → (x = t1 ∧ v = .slice pa1 t1.length ca1) → Calls Tryz.prog 15 #[.agg #[v]] W (ToClEnd x W)) := Lib.hid (fun x v W hW h => by
      rcases h with ⟨rfl, rfl⟩
      · exact toClause_any _ W _ ((HV1.out.kept HB_17.out).kept hW) hw1)
    go_cut [15, 16] from 94 (fun x y wx => Got r ok w14 x y wx)
    case first =>
      have hB : Below w14.heap.size w14 w14.drew := (Below.refl _ _).drew
      go_region_held3 (fun w' => w'.cell? ⟨w.heap.size, 0, none⟩ = some (.slice pa0 t0.length ca0) ∧ w'.cell? ⟨w.heap.size + 1, 0, none⟩ = some (.slice pa1 t1.length ca1)) (first | exact ⟨by assumption, by assumption⟩ | exact ⟨far1 (by omega) (by assumption), far1 (by omega) (by assumption)⟩ | go_keep) (first | (go_at_call 21; refine (CCsub.out _ _ _ (by first | exact hB | exact hB.alloc hB.size _) ⟨rfl, rfl⟩).mono ?_; rintro e wn ⟨vn, rfl, ho, hb⟩; obtain ⟨up, uc, rfl⟩ := ho.read.is_slice; have hb' := hb; (first | replace hb' := pre_alloc2 hb' | replace hb' := pre_alloc hb' | skip); have q0 : wn.cell? ⟨w.heap.size, 0, none⟩ = some (.slice pa0 t0.length ca0) := carry_cell' hb' (by assumption); have q1 : wn.cell? ⟨w.heap.size + 1, 0, none⟩ = some (.slice pa1 t1.length ca1) := carry_cell' hb' (by assumption); (first | (have hz := (two_new2 _ _ _).kept hb; have hzB := hB.size) | (have hz := (oner_new _ _ _ _ rfl).kept hb; have hzB := hB.size) | have hz := hz.kept hb | skip); (try have hz0 := hz.1); (try have hz1 := hz.2); (try have HTcl1 := Lib.hid (HTcl1.out.kept hb')); (try have HTcl2 := Lib.hid (HTcl2.out.kept hb')); (try have HTsub2 := Lib.hid (HTsub1.out.kept hb')); have hB := carry_below hB (Nat.le_refl _) hb'; have HTsub1 := Lib.hid ho.read; clear hb ho) | (go_at_call 15; refine (CCcl.out _ _ _ (by first | exact hB | exact hB.alloc hB.size _) ⟨rfl, rfl⟩).mono ?_; rintro e wn ⟨vn, rfl, ho, hb⟩; obtain ⟨up, uc, rfl⟩ := ho.read.is_slice; have hb' := hb; (first | replace hb' := pre_alloc2 hb' | replace hb' := pre_alloc hb' | skip); have q0 : wn.cell? ⟨w.heap.size, 0, none⟩ = some (.slice pa0 t0.length ca0) := carry_cell' hb' (by assumption); have q1 : wn.cell? ⟨w.heap.size + 1, 0, none⟩ = some (.slice pa1 t1.length ca1) := carry_cell' hb' (by assumption); (first | (have hz := (two_new2 _ _ _).kept hb; have hzB := hB.size) | (have hz := (oner_new _ _ _ _ rfl).kept hb; have hzB := hB.size) | have hz := hz.kept hb | skip); (try have hz0 := hz.1); (try have hz1 := hz.2); (try have HTsub1 := Lib.hid (HTsub1.out.kept hb')); (try have HTsub2 := Lib.hid (HTsub2.out.kept hb')); (try have HTcl2 := Lib.hid (HTcl1.out.kept hb')); have hB := carry_below hB (Nat.le_refl _) hb'; have HTcl1 := Lib.hid ho.read; clear hb ho) | (go_at_call 22; have hBW := hB; refine (HCI.out _ _ _ (by first | exact HTsub1.out | exact HTsub2.out | exact HTsub1.out.alloc _ | exact HTsub2.out.alloc _) (by first | exact HTcl1.out | exact HTcl2.out | exact HTcl1.out.alloc _ | exact HTcl2.out.alloc _)).mono ?_; rintro e wn ⟨vn, rfl, ho, hb⟩; obtain ⟨up, uc, rfl⟩ := ho.read.is_slice; (try have hzl := World.block_lt_of_cell? _ _ hz.1); have hb' := hb; (first | replace hb' := pre_alloc2 hb' | replace hb' := pre_alloc hb' | skip); have q0 : wn.cell? ⟨w.heap.size, 0, none⟩ = some (.slice pa0 t0.length ca0) := carry_cell' hb' (by assumption); have q1 : wn.cell? ⟨w.heap.size + 1, 0, none⟩ = some (.slice pa1 t1.length ca1) := carry_cell' hb' (by assumption); (first | (have hz := (two_new2 _ _ _).kept hb; have hzB := hB.size) | (have hz := (oner_new _ _ _ _ rfl).kept hb; have hzB := hB.size) | have hz := hz.kept hb | skip); (try have hz0 := hz.1); (try have hz1 := hz.2); have HGO := Lib.hid ho; have HGB := Lib.hid hb; have hB := carry_below hB (Nat.le_refl _) hb'; clear hb ho))
      all_goals (go_wp2_with fail; go_meet)
      all_goals (first | exact Got.of hBW HGB.out HGO.out | exact Got.st hzB hzl hBW HGB.out HGO.out hz | exact Got.st hzB (by simp) (hBW.alloc hBW.size _) HGB.out HGO.out hz)
    case rest =>
      obtain ⟨BHB, BHv, BHlo, BHhi, rfl, rfl, BHle, BHlo1, BHdis, htw, how, hb⟩ := hcut
      have BHhi1 := how.2
      obtain ⟨BHp, BHc, rfl⟩ := how.read.is_slice
      clear CCsub CCcl
      obtain ⟨w15, hw15⟩ : ∃ x, x = wc := ⟨_, rfl⟩
      rw [← hw15] at htw how hb BHhi1 ⊢
      clear hw15
      have BHbl : BHB < w15.heap.size := World.block_lt_of_cell? w15 ⟨BHB, 0, none⟩ htw.1
      clear A0r0 A0r2 A0lt A1r0 A1r2 A1lt BWr0 BWr2 BWlt BX0r0 BX0r2 BX0lt BX1r0 BX1r2 BX1lt BGr0 BGr2 BGlt
      have HB_18 := Lib.hid (carry_below HB_17.out (Nat.le_refl _) hb)
      have A0_18 := Lib.hid (A0_17.out.kept hb)
      have A1_18 := Lib.hid (A1_17.out.kept hb)
      have BW_18 := Lib.hid (BW_17.out.kept hb)
      have W0_18 := Lib.hid (W0_17.out.kept hb)
      have BX0_18 := Lib.hid (BX0_17.out.kept hb)
      have BX1_18 := Lib.hid (BX1_17.out.kept hb)
      have BG_18 := Lib.hid (BG_17.out.kept hb)
      have M_18 := Lib.hid (M_17.out.kept hb)
      have z_18 : w14.heap.size ≤ w15.heap.size := hb.size
      clear HB_17 A0_17 A1_17 BW_17 W0_17 BX0_17 BX1_17 BG_17 M_17
      have BH_18 := Lib.hid htw
      have H_18 := Lib.hid (how)
      clear htw how hb
      obtain ⟨A0r0, A0r2⟩ := A0_18.out
      have A0lt : w.heap.size < w15.heap.size := World.block_lt_of_cell? w15 ⟨w.heap.size, 0, none⟩ A0r0
      obtain ⟨A1r0, A1r2⟩ := A1_18.out
      have A1lt : (w.heap.size + 1) < w15.heap.size := World.block_lt_of_cell? w15 ⟨(w.heap.size + 1), 0, none⟩ A1r0
      obtain ⟨BWr0, BWr2⟩ := BW_18.out
      have BWlt : BWB < w15.heap.size := World.block_lt_of_cell? w15 ⟨BWB, 0, none⟩ BWr0
      obtain ⟨BX0r0, BX0r2⟩ := BX0_18.out
      have BX0lt : w4.heap.size < w15.heap.size := World.block_lt_of_cell? w15 ⟨w4.heap.size, 0, none⟩ BX0r0
      obtain ⟨BX1r0, BX1r2⟩ := BX1_18.out
      have BX1lt : w5.heap.size < w15.heap.size := World.block_lt_of_cell? w15 ⟨w5.heap.size, 0, none⟩ BX1r0
      obtain ⟨BGr0, BGr2⟩ := BG_18.out
      have BGlt : w6.heap.size < w15.heap.size := World.block_lt_of_cell? w15 ⟨w6.heap.size, 0, none⟩ BGr0
      obtain ⟨BHr0, BHr2⟩ := BH_18.out
      have BHlt : BHB < w15.heap.size := World.block_lt_of_cell? w15 ⟨BHB, 0, none⟩ BHr0
      have CE := eqClause_any r r _ _ _ H_18.out.read W0_18.out.read HLR.out HLR.out
      rw [eqCs_self] at CE
      have HCE := Lib.hid CE
      clear CE
      go_wp2_with fail
      refine HCE.out.mono ?_
      rintro e w16 ⟨rfl, hb⟩
      clear A0r0 A0r2 A0lt A1r0 A1r2 A1lt BWr0 BWr2 BWlt BX0r0 BX0r2 BX0lt BX1r0 BX1r2 BX1lt BGr0 BGr2 BGlt BHr0 BHr2 BHlt
      have HB_19 := Lib.hid (carry_below HB_18.out (Nat.le_refl _) hb)
      have A0_19 := Lib.hid (A0_18.out.kept hb)
      have A1_19 := Lib.hid (A1_18.out.kept hb)
      have BW_19 := Lib.hid (BW_18.out.kept hb)
      have W0_19 := Lib.hid (W0_18.out.kept hb)
      have BX0_19 := Lib.hid (BX0_18.out.kept hb)
      have BX1_19 := Lib.hid (BX1_18.out.kept hb)
      have BG_19 := Lib.hid (BG_18.out.kept hb)
      have M_19 := Lib.hid (M_18.out.kept hb)
      have BH_19 := Lib.hid (BH_18.out.kept hb)
      have H_19 := Lib.hid (H_18.out.kept hb)
      have z_19 : w15.heap.size ≤ w16.heap.size := hb.size
      clear HB_18 A0_18 A1_18 BW_18 W0_18 BX0_18 BX1_18 BG_18 M_18 BH_18 H_18
      clear hb HCE
      obtain ⟨A0r0, A0r2⟩ := A0_19.out
      have A0lt : w.heap.size < w16.heap.size := World.block_lt_of_cell? w16 ⟨w.heap.size, 0, none⟩ A0r0
      obtain ⟨A1r0, A1r2⟩ := A1_19.out
      have A1lt : (w.heap.size + 1) < w16.heap.size := World.block_lt_of_cell? w16 ⟨(w.heap.size + 1), 0, none⟩ A1r0
      obtain ⟨BWr0, BWr2⟩ := BW_19.out
      have BWlt : BWB < w16.heap.size := World.block_lt_of_cell? w16 ⟨BWB, 0, none⟩ BWr0
      obtain ⟨BX0r0, BX0r2⟩ := BX0_19.out
      have BX0lt : w4.heap.size < w16.heap.size := World.block_lt_of_cell? w16 ⟨w4.heap.size, 0, none⟩ BX0r0
      obtain ⟨BX1r0, BX1r2⟩ := BX1_19.out
      have BX1lt : w5.heap.size < w16.heap.size := World.block_lt_of_cell? w16 ⟨w5.heap.size, 0, none⟩ BX1r0
      obtain ⟨BGr0, BGr2⟩ := BG_19.out
      have BGlt : w6.heap.size < w16.heap.size := World.block_lt_of_cell? w16 ⟨w6.heap.size, 0, none⟩ BGr0
      obtain ⟨BHr0, BHr2⟩ := BH_19.out
      have BHlt : BHB < w16.heap.size := World.block_lt_of_cell? w16 ⟨BHB, 0, none⟩ BHr0
      have CH := heldCl_any r 1 _ _ M_19.out.read (Nat.le_refl _) (by omega)
      have HCH := Lib.hid CH
      clear CH
      go_wp2_with fail
      refine HCH.out.mono ?_
      rintro e w17 ⟨rfl, hb⟩
      clear A0r0 A0r2 A0lt A1r0 A1r2 A1lt BWr0 BWr2 BWlt BX0r0 BX0r2 BX0lt BX1r0 BX1r2 BX1lt BGr0 BGr2 BGlt BHr0 BHr2 BHlt
      have HB_20 := Lib.hid (carry_below HB_19.out (Nat.le_refl _) hb)
      have A0_20 := Lib.hid (A0_19.out.kept hb)
      have A1_20 := Lib.hid (A1_19.out.kept hb)
      have BW_20 := Lib.hid (BW_19.out.kept hb)
      have W0_20 := Lib.hid (W0_19.out.kept hb)
      have BX0_20 := Lib.hid (BX0_19.out.kept hb)
      have BX1_20 := Lib.hid (BX1_19.out.kept hb)
      have BG_20 := Lib.hid (BG_19.out.kept hb)
      have M_20 := Lib.hid (M_19.out.kept hb)
      have BH_20 := Lib.hid (BH_19.out.kept hb)
      have H_20 := Lib.hid (H_19.out.kept hb)
      have z_20 : w16.heap.size ≤ w17.heap.size := hb.size
      clear HB_19 A0_19 A1_19 BW_19 W0_19 BX0_19 BX1_19 BG_19 M_19 BH_19 H_19
      clear hb HCH
      obtain ⟨A0r0, A0r2⟩ := A0_20.out
      have A0lt : w.heap.size < w17.heap.size := World.block_lt_of_cell? w17 ⟨w.heap.size, 0, none⟩ A0r0
      obtain ⟨A1r0, A1r2⟩ := A1_20.out
      have A1lt : (w.heap.size + 1) < w17.heap.size := World.block_lt_of_cell? w17 ⟨(w.heap.size + 1), 0, none⟩ A1r0
      obtain ⟨BWr0, BWr2⟩ := BW_20.out
      have BWlt : BWB < w17.heap.size := World.block_lt_of_cell? w17 ⟨BWB, 0, none⟩ BWr0
      obtain ⟨BX0r0, BX0r2⟩ := BX0_20.out
      have BX0lt : w4.heap.size < w17.heap.size := World.block_lt_of_cell? w17 ⟨w4.heap.size, 0, none⟩ BX0r0
      obtain ⟨BX1r0, BX1r2⟩ := BX1_20.out
      have BX1lt : w5.heap.size < w17.heap.size := World.block_lt_of_cell? w17 ⟨w5.heap.size, 0, none⟩ BX1r0
      obtain ⟨BGr0, BGr2⟩ := BG_20.out
      have BGlt : w6.heap.size < w17.heap.size := World.block_lt_of_cell? w17 ⟨w6.heap.size, 0, none⟩ BGr0
      obtain ⟨BHr0, BHr2⟩ := BH_20.out
      have BHlt : BHB < w17.heap.size := World.block_lt_of_cell? w17 ⟨BHB, 0, none⟩ BHr0
      go_wp2
      go_ret
      exact ⟨rfl, HB_20.out⟩

theorem walk (t0 : List Bd) (va0 : Value) (t1 : List Lt) (va1 : Value) (w : World) (h0 : BdS w va0 t0) (l0 : limB 9223372036854775807 t0) (h1 : LtS w va1 t1) (l1 : limC 9223372036854775807 t1) :
    Calls Tryz.prog 5 #[.agg #[va0], .agg #[va1]] w fun e w' => e = .returned (.bool true) ∧ Below w.heap.size w w' :=
  core t0 va0 t1 va1 (lit.apR t0 t1) (lit.apOk t0 t1) w h0 l0 h1 l1 (lit.apR_wt t0 t1)
    (fun hs W q0 q1 a0 a1 => (lit.specApC_any t0 t1 W q0 q1 a0 a1 (by omega) (by omega)).mono fun e w' h => h)
    (fun hs W q0 q1 a0 a1 => (lit.implApC_any t0 t1 W q0 q1 a0 a1 (by omega) (by omega)).mono fun e w' h => h)

/-! ### THE ROW's STEP: WRITTEN OUT: LEAVE IT -/
set_option maxRecDepth 100000 in
theorem lifted (os : Os) (started : os.Started) (H : Type) (enc : TypeId × Value → H) :
    ReturnsInHanded {} Tryz.checked os 5 .any (Rows.fnExactApplyToClauseSpec.pre6 enc Tryz.prog Tryz.f5 Rows.fnExactApplyToClauseRow.domain false) (Rows.fnExactApplyToClauseSpec.post enc Tryz.prog Tryz.f5 false true false false) := by
  refine returnsInHanded_of_change (C := Tryz.checked) own started (by kernel_rfl) Tryz.func5
    (ChangeSpec.witness6 (enc := enc) (C := Tryz.checked) false ⟨#[], #[.agg #[.slice none 0 0], .agg #[.slice none 0 0]], []⟩ 8 (by kernel_rfl) (by kernel_rfl) (by kernel_rfl) (by kernel_rfl)) ?_
  intro W base args ds gs before hval0 hW hcnd _
  have hval : ∀ (j : Nat) t v, Tryz.f5.params[j]? = some t → args[j]? = some v → Value.okWide Tryz.prog W .any base t v := hval0
  have hW' := hW
  obtain ⟨p, q, hA0, hV, rfl, hfz, hnd⟩ := hW
  have hA : DataW.TrodAll enc Tryz.prog W 0 (fun _ => true) true Tryz.f5.params.toList args.toList ds p := hA0
  rw [Tryz.params5] at hA hval
  obtain ⟨v0, vs0, d0, ds0, p0, q0, hargs, rfl, rfl, h0, r0⟩ := trodAll_cons hA
  obtain ⟨v1, vs1, d1, ds1, p1, q1, rfl, rfl, rfl, h1, r1⟩ := trodAll_cons r0
  obtain ⟨rfl, rfl, rfl⟩ := trodAll_nil r1
  obtain rfl : args = #[v0, v1] := by cases args; simp_all
  obtain ⟨rfl, rfl⟩ := trodVars_none hV
  have k0 := h0
  have lt0 : ∀ x ∈ p0, x.block < W.heap.size := by obtain ⟨m, hm⟩ := k0; exact DataW.trod_lt m _ _ _ hm
  obtain ⟨va0, l0, rfl, bs0, lim0⟩ := open_sub 9223372036854775807 (by unfold maxLen; omega) (hval 0 55 v0 rfl rfl) h0
  have k1 := h1
  have lt1 : ∀ x ∈ p1, x.block < W.heap.size := by obtain ⟨m, hm⟩ := k1; exact DataW.trod_lt m _ _ _ hm
  obtain ⟨va1, t1, rfl, tm1, lim1⟩ := open_clause 9223372036854775807 (by unfold maxLen; omega) (hval 1 43 v1 rfl rfl) h1
  clear hA0 hval0
  refine (walk l0 va0 t1 va1 W bs0 lim0 tm1 lim1).mono fun e W' ⟨he, bel⟩ => ?_
  subst he
  exact ⟨_, rfl, _, _, _, [], _, [], hW', trodAll_mk1 (shut_bool Tryz.underlying4 _), (trodAll_cons_mk (Below.trod laidOut (by kernel_rfl) (of_decide_eq_true (by kernel_rfl)) k0 bel lt0) (trodAll_cons_mk (Below.trod laidOut (by kernel_rfl) (of_decide_eq_true (by kernel_rfl)) k1 bel lt1) trodAll_mk0)), rfl, bel.frame _, fun h => by cases h⟩


theorem jfPlace : (Rows.fnExactApplyToClauseRow.inPlace == Tryz.prog.inPlace 5) = true := by kernel_rfl
theorem jfFollow : (Rows.fnExactApplyToClauseRow.unfollowed == Tryz.prog.unfollowed 5) = true := by kernel_rfl
theorem jfRecurses : (Rows.fnExactApplyToClauseRow.recurses == Tryz.prog.recurses 5) = true := by kernel_rfl
theorem jfNamed : (Rows.fnExactApplyToClauseRow.named == Tryz.prog.varsNamed 5) = true := by kernel_rfl
theorem jfKeys : (Rows.fnExactApplyToClauseRow.plainKeys == Tryz.prog.plainKeys) = true := by kernel_rfl
theorem facts : joinedFacts Tryz.prog 5 Tryz.f5 Rows.fnExactApplyToClauseSpec Rows.fnExactApplyToClauseRow = true :=
  jf_of (P := Tryz.prog) jfLaid jfRowed jfHeard jfEnter jfLifts (by kernel_rfl) (by kernel_rfl) (by kernel_rfl) (by kernel_rfl) (by kernel_rfl) (by kernel_rfl) (by kernel_rfl)
    jfPlace jfFollow jfRecurses jfNamed (by kernel_rfl) (by kernel_rfl) (by kernel_rfl) (by kernel_rfl) (by kernel_rfl) (by kernel_rfl) (by kernel_rfl) (by kernel_rfl) (by kernel_rfl)
    jfKeys (by kernel_rfl) (by kernel_rfl) (by kernel_rfl) (by kernel_rfl) (by kernel_rfl) (by kernel_rfl)

theorem over : Rows.fnExactApplyToClauseRow.holds Tryz.pinned (OpenSpec.ofChange Rows.fnExactApplyToClauseSpec) :=
  OpenClaim.holds_of_wide 5 Tryz.f5 rfl rfl rfl rfl rfl rfl rfl ⟨rfl, rfl, rfl, rfl, rfl⟩ rfl rfl rfl rfl rfl (by kernel_rfl) Tryz.func5 facts
    (of_decide_eq_true (by kernel_rfl)) (by unfold Func.isWrapper; first | (rw [if_pos (by decide +kernel)]; kernel_rfl) | (rw [if_neg (by decide +kernel)]; exact ⟨rfl, rfl⟩))
    (fun os started H enc _ => lifted os started H enc)

/-- ████ THE STATEMENT ████ -/
theorem proved : Rows.FnExactApplyToClauseSaid := over
end Go.Proofs.YtgpmdfhepanahaaGreat.fnExactApplyToClause
