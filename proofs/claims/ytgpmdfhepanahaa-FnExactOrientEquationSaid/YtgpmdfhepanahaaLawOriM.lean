/- OrientEquation answers as its model for every ordering and every term: no condition. -/
import Derived.Test.YtgpmdfhepanahaaOrG
import Derived.Test.YtgpmdfhepanahaaLwG
import Derived.Test.YtgpmdfhepanahaaOwnI
import Derived.Test.YtgpmdfhepanahaaSz
import Derived.Test.YtgpmdfhepanahaaTo
import Derived.Test.YtgpmdfhepanahaaEq
import Derived.Test.YtgpmdfhepanahaaOpenTm
import Derived.Test.YtgpmdfhepanahaaJf
import Derived.Deep.RegionWith
import Derived.Deep.Cut
import Derived.OpenShut
import Derived.ShutString
import Derived.ChangeOld
namespace Go.Proofs.Ytgpmdfhepanahaa.fnExactOrientEquation
open Go.ChangeShapes Go.WideShapes Go.ChangeAt Go.RowKit
open Go.ChangeMaps (open_string shut_string)
set_option linter.unusedVariables false

theorem own : ownKnob Try.prog.godebug = none := by kernel_rfl
theorem laidOut : laidOutB Try.prog = true := by kernel_rfl

/-- What both functions answer, as the law sees it. -/
def ResEnd (r : Tm) (b ok : Bool) (w : World) (e : Ending) (w' : World) : Prop :=
  ∃ va, e = .returned (.tuple #[.agg #[.string r.name, va], .bool b, .bool ok]) ∧ TmO w' (Fresh w w') va r.args ∧ Below w.heap.size w w'
/-- What a statement leaves that calls one of them. -/
def Got (r : Tm) (b ok : Bool) (w : World) (x y0 y1 : Value) (w' : World) : Prop :=
  ∃ B v lo hi, x = .pointer (some ⟨B, 0, none⟩) ∧ y0 = .bool b ∧ y1 = .bool ok ∧ w.heap.size ≤ B ∧ w.heap.size ≤ lo ∧ (B < lo ∨ hi ≤ B) ∧ Two w' B (.string r.name) v ∧ OwnI w' lo hi v r.args ∧ Below w.heap.size w w'
theorem Got.of {r : Tm} {b ok : Bool} {w wa wb : World} {v : Value} (hb : Below w.heap.size w wa) (h : Below wa.heap.size wa wb) (ho : TmO wb (Fresh wa wb) v r.args) :
    Got r b ok w (.pointer (some ⟨wb.heap.size, 0, none⟩)) (.bool b) (.bool ok) (wb.alloc (.cells #[.string r.name, v] 32)) := by
  have hb2 := carry_below hb (Nat.le_refl _) h
  refine ⟨wb.heap.size, v, wa.heap.size, wb.heap.size, rfl, rfl, rfl, hb2.size, hb.size, .inr (Nat.le_refl _), two_new _ _ _ _ _ rfl, ⟨?_, ?_⟩, hb2.alloc hb2.size _⟩
  · exact (ho.frame fun k hk => ((Below.refl wb.heap.size wb).alloc (Nat.le_refl _) _).block k hk.2).mono fun k hk => hk
  · simp
theorem Got.st {r : Tm} {b ok : Bool} {w wa wb : World} {v x y : Value} {B : Nat} (h1 : w.heap.size ≤ B) (h2 : B < wa.heap.size) (hb : Below w.heap.size w wa) (h : Below wa.heap.size wa wb) (ho : TmO wb (Fresh wa wb) v r.args) (hz : Two wb B x y) :
    Got r b ok w (.pointer (some ⟨B, 0, none⟩)) (.bool b) (.bool ok) ((wb.setCell ⟨B, 0, none⟩ (.string r.name)).setCell ⟨B, 1, none⟩ v) := by
  have hb2 := carry_below hb (Nat.le_refl _) h
  refine ⟨B, v, wa.heap.size, wb.heap.size, rfl, rfl, rfl, h1, hb.size, .inl h2, (hz.setNil _).setOne _, ⟨?_, ?_⟩, (hb2.setCell h1 _).setCell h1 _⟩
  · exact ((ho.setCell (fun h => by have := h.1; simp at this; omega) _).setCell (fun h => by have := h.1; simp at this; omega) _).mono fun k hk => hk
  · simp only [size_setCell]; exact Nat.le_refl _
theorem two_new2 (w : World) (x y : Value) (T : TypeId) : Two ((w.alloc (.cells #[x, y] T)).drew) w.heap.size x y := (two_new w x y T _ rfl).drew
theorem far1 {W : World} {g x o1 j : Nat} {u z : Value} (h : x ≠ g) (hc : W.cell? ⟨x, j, none⟩ = some z) : (W.setCell ⟨g, o1, none⟩ u).cell? ⟨x, j, none⟩ = some z :=
  (World.cell?_setCell_other _ _ _ _ (fun e => h (by cases e; rfl))).trans hc
theorem far {W : World} {g x o1 o2 j : Nat} {u v z : Value} (h : x ≠ g) (hc : W.cell? ⟨x, j, none⟩ = some z) : ((W.setCell ⟨g, o1, none⟩ u).setCell ⟨g, o2, none⟩ v).cell? ⟨x, j, none⟩ = some z := far1 h (far1 h hc)
theorem pre_alloc2 {w w' : World} {o : Obj} (hb : Below (w.alloc o).drew.heap.size (w.alloc o).drew w') : Below w.drew.heap.size w.drew w' :=
  Below.trans (show Below w.drew.heap.size w.drew (w.alloc o).drew from (Below.refl w.drew.heap.size w.drew).alloc (Nat.le_refl _) o) (hb.mono (by show w.heap.size ≤ (w.alloc o).heap.size; simp))
theorem pre_alloc {w w' : World} {o : Obj} (hb : Below (w.alloc o).heap.size (w.alloc o) w') : Below w.heap.size w w' := ((Below.refl w.heap.size w).alloc (Nat.le_refl _) o).trans (hb.mono (by simp))

set_option maxRecDepth 100000 in
set_option maxHeartbeats 16000000 in
theorem core (t0 : Od) (sv0 wv0 : Value) (t1 : Tm) (va1 : Value) (r : Tm) (b ok : Bool) (w : World) (h0 : OdV w sv0 wv0 t0) (l0 : t0.lim 9223372036854775807) (h1 : TmS w va1 t1.args) (l1 : t1.lim 9223372036854775807)
    (hr : t0.wt + t1.wt ≤ 1048576 → r.wt ≤ 1048576)
    (hcs : t0.wt + t1.wt ≤ 1048576 → ∀ (W : World) (q0s q0w q1 : Value), OdV W q0s q0w t0 → TmS W q1 t1.args → Calls Try.prog 37 #[.agg #[q0s, q0w, .int .i64 t0.va], .agg #[.string t1.name, q1]] W (ResEnd r b ok W))
    (hci : t0.wt + t1.wt ≤ 1048576 → ∀ (W : World) (q0s q0w q1 : Value), OdV W q0s q0w t0 → TmS W q1 t1.args → Calls Try.prog 39 #[.agg #[q0s, q0w, .int .i64 t0.va], .agg #[.string t1.name, q1]] W (ResEnd r b ok W)) :
    Calls Try.prog 9 #[.agg #[sv0, wv0, .int .i64 t0.va], .agg #[.string t1.name, va1]] w fun e w' => e = .returned (.bool true) ∧ Below w.heap.size w w' := by
  obtain ⟨sa0, sc0, wa0, wc0, rfl, rfl⟩ := h0.open
  obtain ⟨pa1, ca1, rfl⟩ := h1.is_slice
  have HV0 := Lib.hid h0
  have HLIM0 := Lib.hid l0
  have HV1 := Lib.hid h1
  have HLIM1 := Lib.hid l1
  have HRW0 := Lib.hid hr
  have HCS0 := Lib.hid hcs
  have HCI0 := Lib.hid hci
  clear hr hcs hci h0 l0 h1 l1
  have HB_0 := Lib.hid (((Below.refl w.heap.size w).alloc (Nat.le_refl _) (.cells #[.slice sa0 t0.sy.length sc0, .slice wa0 t0.ws.length wc0, .int .i64 t0.va] 60)).alloc (by simp) (.cells #[.string t1.name, .slice pa1 t1.args.length ca1] 24))
  have A0_0 := Lib.hid ((thr_new w (.slice sa0 t0.sy.length sc0) (.slice wa0 t0.ws.length wc0) (.int .i64 t0.va) 60 _ rfl).alloc (.cells #[.string t1.name, .slice pa1 t1.args.length ca1] 24))
  have A1_0 := Lib.hid (two_new (w.alloc (.cells #[.slice sa0 t0.sy.length sc0, .slice wa0 t0.ws.length wc0, .int .i64 t0.va] 60)) (.string t1.name) (.slice pa1 t1.args.length ca1) 24 (w.heap.size + 1) (by simp))
  go_enter Try.func9, Try.ntmps9
  go_wp2_with fail
  refine (szOd_any t0 _ _ _ 1048576 (HV0.out.kept HB_0.out) HLIM0.out (by omega) (by omega)).mono ?_
  rintro e w1 ⟨rfl, hb⟩
  have HB_1 := Lib.hid (carry_below HB_0.out (Nat.le_refl _) hb)
  have A0_1 := Lib.hid (A0_0.out.kept hb)
  have A1_1 := Lib.hid (A1_0.out.kept hb)
  have z_1 : (w.alloc (.cells #[.slice sa0 t0.sy.length sc0, .slice wa0 t0.ws.length wc0, .int .i64 t0.va] 60)).heap.size + 1 ≤ w1.heap.size := by have := hb.size; simpa using this
  have z_0 : w.heap.size + 2 ≤ w1.heap.size := by have h := z_1; simp only [World.size_alloc] at h; omega
  clear hb
  obtain ⟨A0r0, A0r1, A0r3, A0r2⟩ := A0_1.out
  have A0lt : w.heap.size < w1.heap.size := World.block_lt_of_cell? w1 ⟨w.heap.size, 0, none⟩ A0r0
  obtain ⟨A1r0, A1r1, A1r2⟩ := A1_1.out
  have A1lt : (w.heap.size + 1) < w1.heap.size := World.block_lt_of_cell? w1 ⟨(w.heap.size + 1), 0, none⟩ A1r0
  rcases szR_cases 1048576 (t0.wt) with ⟨c0a, c0b⟩ | ⟨c0a, c0b⟩
  · rw [c0b]
    clear c0b
    go_wp2
    go_ret
    exact ⟨rfl, HB_1.out⟩
  rw [c0b]
  clear c0b
  have hcl0 : (0 : Int) ≤ 1048576 - ((t0.wt : Nat) : Int) := by omega
  have hcn0 : ¬ 1048576 - ((t0.wt : Nat) : Int) < 0 := by omega
  go_wp2_with fail
  refine (szTerm_any t1 _ _ (1048576 - ((t0.wt : Nat) : Int)) (HV1.out.kept HB_1.out) HLIM1.out (by omega) (by omega)).mono ?_
  rintro e w2 ⟨rfl, hb⟩
  clear A0r0 A0r1 A0r3 A0r2 A0lt A1r0 A1r1 A1r2 A1lt
  have HB_2 := Lib.hid (carry_below HB_1.out (Nat.le_refl _) hb)
  have A0_2 := Lib.hid (A0_1.out.kept hb)
  have A1_2 := Lib.hid (A1_1.out.kept hb)
  have z_2 : w1.heap.size ≤ w2.heap.size := hb.size
  clear HB_1 A0_1 A1_1
  clear hb
  obtain ⟨A0r0, A0r1, A0r3, A0r2⟩ := A0_2.out
  have A0lt : w.heap.size < w2.heap.size := World.block_lt_of_cell? w2 ⟨w.heap.size, 0, none⟩ A0r0
  obtain ⟨A1r0, A1r1, A1r2⟩ := A1_2.out
  have A1lt : (w.heap.size + 1) < w2.heap.size := World.block_lt_of_cell? w2 ⟨(w.heap.size + 1), 0, none⟩ A1r0
  rcases szR_cases (1048576 - ((t0.wt : Nat) : Int)) (t1.wt) with ⟨c1a, c1b⟩ | ⟨c1a, c1b⟩
  · rw [c1b]
    clear c1b
    go_wp2
    go_ret
    exact ⟨rfl, HB_2.out⟩
  rw [c1b]
  clear c1b
  have hcl1 : (0 : Int) ≤ 1048576 - ((t0.wt : Nat) : Int) - ((t1.wt : Nat) : Int) := by omega
  have hcn1 : ¬ 1048576 - ((t0.wt : Nat) : Int) - ((t1.wt : Nat) : Int) < 0 := by omega
  have hsum : t0.wt + t1.wt ≤ 1048576 := by omega
  have hw0 : t0.wt ≤ 1048576 := by omega
  have HL0 := Lib.hid (Od.lim_of_wt t0 1048576 hw0)
  have hm0 : t0.sy.length + t0.ws.length ≤ 2097152 := by have := t0.wt_sy; have := t0.wt_ws; omega
  have hw1 : t1.wt ≤ 1048576 := by omega
  have HL1 := Lib.hid (Tm.lim_of_wt t1 1048576 hw1)
  have hm1 : sumL Tm.sz t1.args ≤ 2000000 := by have := t1.sz_eq; have := Tm.sz_wt t1; omega
  have HRW := Lib.hid (HRW0.out hsum)
  have HLR := Lib.hid (Tm.lim_of_wt r 1048576 HRW.out)
  have HCS := Lib.hid (HCS0.out hsum)
  have HCI := Lib.hid (HCI0.out hsum)
  have hmr : sumL Tm.sz r.args ≤ 2000000 := by have := r.sz_eq; have := Tm.sz_wt r; have := HRW.out; omega
  go_wp2_with fail
  have CCog : Hid (∀ (W : World), Below w2.heap.size w2 W → Calls Try.prog 38 #[.agg #[.slice sa0 t0.sy.length sc0, .slice wa0 t0.ws.length wc0, .int .i64 t0.va]] W (ToOEnd t0 W)) := Lib.hid (fun W hW => toOd_any t0 W _ _ (HV0.out.kept ((HB_2.out).trans (hW.mono HB_2.out.size))) hw0)
  have CCtm : Hid (∀ (W : World), Below w2.heap.size w2 W → Calls Try.prog 29 #[.agg #[.string t1.name, .slice pa1 t1.args.length ca1]] W (ToEnd t1 W)) := Lib.hid (fun W hW => toTerm_any t1 W _ (HV1.out.kept ((HB_2.out).trans (hW.mono HB_2.out.size))) hw1)
  go_cut [6, 7, 8] from 30 (fun x y0 y1 wx => Got r b ok w2 x y0 y1 wx)
  case first =>
    have hB : Below w2.heap.size w2 w2.drew := (Below.refl _ _).drew
    go_region_held3 (fun w' => w'.cell? ⟨w.heap.size, 0, none⟩ = some (.slice sa0 t0.sy.length sc0) ∧ w'.cell? ⟨w.heap.size, 1, none⟩ = some (.slice wa0 t0.ws.length wc0) ∧ w'.cell? ⟨w.heap.size, 2, none⟩ = some (.int .i64 t0.va) ∧ w'.cell? ⟨w.heap.size + 1, 0, none⟩ = some (.string t1.name) ∧ w'.cell? ⟨w.heap.size + 1, 1, none⟩ = some (.slice pa1 t1.args.length ca1)) (first | exact ⟨by assumption, by assumption, by assumption, by assumption, by assumption⟩ | exact ⟨far (by omega) (by assumption), far (by omega) (by assumption), far (by omega) (by assumption), far (by omega) (by assumption), far (by omega) (by assumption)⟩ | go_keep) (first | (go_at_call 38; refine (CCog.out _ (by first | exact hB | exact hB.alloc hB.size _)).mono ?_; rintro e wn ⟨us, uw, um, rfl, ho, hb⟩; obtain ⟨up, uc, uwp, uwc, rfl, rfl⟩ := ho.read.open; have hb' := hb; (first | replace hb' := pre_alloc2 hb' | replace hb' := pre_alloc hb' | skip); have q0 : wn.cell? ⟨w.heap.size, 0, none⟩ = some (.slice sa0 t0.sy.length sc0) := carry_cell' hb' (by assumption); have q1 : wn.cell? ⟨w.heap.size, 1, none⟩ = some (.slice wa0 t0.ws.length wc0) := carry_cell' hb' (by assumption); have q2 : wn.cell? ⟨w.heap.size, 2, none⟩ = some (.int .i64 t0.va) := carry_cell' hb' (by assumption); have q3 : wn.cell? ⟨w.heap.size + 1, 0, none⟩ = some (.string t1.name) := carry_cell' hb' (by assumption); have q4 : wn.cell? ⟨w.heap.size + 1, 1, none⟩ = some (.slice pa1 t1.args.length ca1) := carry_cell' hb' (by assumption); (first | (have hz := (two_new2 _ _ _ _).kept hb; have hzB := hB.size) | (have hz := (two_new _ _ _ _ _ rfl).kept hb; have hzB := hB.size) | have hz := hz.kept hb | skip); (try have hz0 := hz.1); (try have hz1 := hz.2.1); (try have hz2 := hz.2.2); (try have HTtm1 := Lib.hid (HTtm1.out.kept hb')); (try have HTtm2 := Lib.hid (HTtm2.out.kept hb')); (try have HTog2 := Lib.hid (HTog1.out.kept hb')); have hB := carry_below hB (Nat.le_refl _) hb'; have HTog1 := Lib.hid ho.read; clear hb ho) | (go_at_call 29; refine (CCtm.out _ (by first | exact hB | exact hB.alloc hB.size _)).mono ?_; rintro e wn ⟨u, rfl, ho, hb⟩; obtain ⟨up, uc, rfl⟩ := ho.read.is_slice; have hb' := hb; (first | replace hb' := pre_alloc2 hb' | replace hb' := pre_alloc hb' | skip); have q0 : wn.cell? ⟨w.heap.size, 0, none⟩ = some (.slice sa0 t0.sy.length sc0) := carry_cell' hb' (by assumption); have q1 : wn.cell? ⟨w.heap.size, 1, none⟩ = some (.slice wa0 t0.ws.length wc0) := carry_cell' hb' (by assumption); have q2 : wn.cell? ⟨w.heap.size, 2, none⟩ = some (.int .i64 t0.va) := carry_cell' hb' (by assumption); have q3 : wn.cell? ⟨w.heap.size + 1, 0, none⟩ = some (.string t1.name) := carry_cell' hb' (by assumption); have q4 : wn.cell? ⟨w.heap.size + 1, 1, none⟩ = some (.slice pa1 t1.args.length ca1) := carry_cell' hb' (by assumption); (first | (have hz := (two_new2 _ _ _ _).kept hb; have hzB := hB.size) | (have hz := (two_new _ _ _ _ _ rfl).kept hb; have hzB := hB.size) | have hz := hz.kept hb | skip); (try have hz0 := hz.1); (try have hz1 := hz.2.1); (try have hz2 := hz.2.2); (try have HTog1 := Lib.hid (HTog1.out.kept hb')); (try have HTog2 := Lib.hid (HTog2.out.kept hb')); (try have HTtm2 := Lib.hid (HTtm1.out.kept hb')); have hB := carry_below hB (Nat.le_refl _) hb'; have HTtm1 := Lib.hid ho.read; clear hb ho) | (go_at_call 37; have hBW := hB; refine (HCS.out _ _ _ _ (by first | exact HTog1.out | exact HTog2.out | exact HTog1.out.kept ((Below.refl _ _).alloc (Nat.le_refl _) _) | exact HTog2.out.kept ((Below.refl _ _).alloc (Nat.le_refl _) _)) (by first | exact HTtm1.out | exact HTtm2.out | exact HTtm1.out.kept ((Below.refl _ _).alloc (Nat.le_refl _) _) | exact HTtm2.out.kept ((Below.refl _ _).alloc (Nat.le_refl _) _))).mono ?_; rintro e wn ⟨vn, rfl, ho, hb⟩; obtain ⟨up, uc, rfl⟩ := ho.read.is_slice; (try have hzl := World.block_lt_of_cell? _ _ hz.1); have hb' := hb; (first | replace hb' := pre_alloc2 hb' | replace hb' := pre_alloc hb' | skip); have q0 : wn.cell? ⟨w.heap.size, 0, none⟩ = some (.slice sa0 t0.sy.length sc0) := carry_cell' hb' (by assumption); have q1 : wn.cell? ⟨w.heap.size, 1, none⟩ = some (.slice wa0 t0.ws.length wc0) := carry_cell' hb' (by assumption); have q2 : wn.cell? ⟨w.heap.size, 2, none⟩ = some (.int .i64 t0.va) := carry_cell' hb' (by assumption); have q3 : wn.cell? ⟨w.heap.size + 1, 0, none⟩ = some (.string t1.name) := carry_cell' hb' (by assumption); have q4 : wn.cell? ⟨w.heap.size + 1, 1, none⟩ = some (.slice pa1 t1.args.length ca1) := carry_cell' hb' (by assumption); (first | (have hz := (two_new2 _ _ _ _).kept hb; have hzB := hB.size) | (have hz := (two_new _ _ _ _ _ rfl).kept hb; have hzB := hB.size) | have hz := hz.kept hb | skip); (try have hz0 := hz.1); (try have hz1 := hz.2.1); (try have hz2 := hz.2.2); have HGO := Lib.hid ho; have HGB := Lib.hid hb; have hB := carry_below hB (Nat.le_refl _) hb'; clear hb ho))
    all_goals (go_wp2_with fail; go_meet)
    all_goals (first | exact Got.of hBW HGB.out HGO.out | exact Got.st hzB hzl hBW HGB.out HGO.out hz | exact Got.st hzB (by simp) (hBW.alloc hBW.size _) HGB.out HGO.out hz)
  case rest =>
    obtain ⟨BWB, BWv, BWlo, BWhi, rfl, rfl, rfl, BWle, BWlo1, BWdis, htw, how, hb⟩ := hcut
    have BWhi1 := how.2
    obtain ⟨BWp, BWc, rfl⟩ := how.read.is_slice
    clear CCog CCtm
    obtain ⟨w3, hw3⟩ : ∃ x, x = wc := ⟨_, rfl⟩
    rw [← hw3] at htw how hb BWhi1 ⊢
    clear hw3
    have BWbl : BWB < w3.heap.size := World.block_lt_of_cell? w3 ⟨BWB, 0, none⟩ htw.1
    clear A0r0 A0r1 A0r3 A0r2 A0lt A1r0 A1r1 A1r2 A1lt
    have HB_3 := Lib.hid (carry_below HB_2.out (Nat.le_refl _) hb)
    have A0_3 := Lib.hid (A0_2.out.kept hb)
    have A1_3 := Lib.hid (A1_2.out.kept hb)
    have z_3 : w2.heap.size ≤ w3.heap.size := hb.size
    clear HB_2 A0_2 A1_2
    have BW_3 := Lib.hid htw
    have W0_3 := Lib.hid (how)
    clear htw how hb
    obtain ⟨A0r0, A0r1, A0r3, A0r2⟩ := A0_3.out
    have A0lt : w.heap.size < w3.heap.size := World.block_lt_of_cell? w3 ⟨w.heap.size, 0, none⟩ A0r0
    obtain ⟨A1r0, A1r1, A1r2⟩ := A1_3.out
    have A1lt : (w.heap.size + 1) < w3.heap.size := World.block_lt_of_cell? w3 ⟨(w.heap.size + 1), 0, none⟩ A1r0
    obtain ⟨BWr0, BWr1, BWr2⟩ := BW_3.out
    have BWlt : BWB < w3.heap.size := World.block_lt_of_cell? w3 ⟨BWB, 0, none⟩ BWr0
    go_wp2_with fail
    refine (toOd_any t0 _ _ _ (HV0.out.kept HB_3.out) hw0).mono ?_
    rintro e w4 ⟨u4s, u4w, u4m, rfl, ho, hb⟩
    obtain ⟨u4p, u4c, u4wp, u4wc, rfl, rfl⟩ := ho.read.open
    clear A0r0 A0r1 A0r3 A0r2 A0lt A1r0 A1r1 A1r2 A1lt BWr0 BWr1 BWr2 BWlt
    have HB_4 := Lib.hid (carry_below HB_3.out (Nat.le_refl _) hb)
    have A0_4 := Lib.hid (A0_3.out.kept hb)
    have A1_4 := Lib.hid (A1_3.out.kept hb)
    have BW_4 := Lib.hid (BW_3.out.kept hb)
    have W0_4 := Lib.hid (W0_3.out.kept hb)
    have z_4 : w3.heap.size ≤ w4.heap.size := hb.size
    clear HB_3 A0_3 A1_3 BW_3 W0_3
    have X0_4 := Lib.hid ((OdI.fresh ho))
    clear hb ho
    obtain ⟨A0r0, A0r1, A0r3, A0r2⟩ := A0_4.out
    have A0lt : w.heap.size < w4.heap.size := World.block_lt_of_cell? w4 ⟨w.heap.size, 0, none⟩ A0r0
    obtain ⟨A1r0, A1r1, A1r2⟩ := A1_4.out
    have A1lt : (w.heap.size + 1) < w4.heap.size := World.block_lt_of_cell? w4 ⟨(w.heap.size + 1), 0, none⟩ A1r0
    obtain ⟨BWr0, BWr1, BWr2⟩ := BW_4.out
    have BWlt : BWB < w4.heap.size := World.block_lt_of_cell? w4 ⟨BWB, 0, none⟩ BWr0
    have HB_5 := Lib.hid (HB_4.out.alloc HB_4.out.size (.cells #[.slice u4p t0.sy.length u4c, .slice u4wp t0.ws.length u4wc, .int .i64 t0.va] 64))
    have A0_5 := Lib.hid (A0_4.out.kept ((Below.refl w4.heap.size w4).alloc (Nat.le_refl _) (.cells #[.slice u4p t0.sy.length u4c, .slice u4wp t0.ws.length u4wc, .int .i64 t0.va] 64)))
    have A1_5 := Lib.hid (A1_4.out.kept ((Below.refl w4.heap.size w4).alloc (Nat.le_refl _) (.cells #[.slice u4p t0.sy.length u4c, .slice u4wp t0.ws.length u4wc, .int .i64 t0.va] 64)))
    have BW_5 := Lib.hid (BW_4.out.kept ((Below.refl w4.heap.size w4).alloc (Nat.le_refl _) (.cells #[.slice u4p t0.sy.length u4c, .slice u4wp t0.ws.length u4wc, .int .i64 t0.va] 64)))
    have W0_5 := Lib.hid (W0_4.out.kept ((Below.refl w4.heap.size w4).alloc (Nat.le_refl _) (.cells #[.slice u4p t0.sy.length u4c, .slice u4wp t0.ws.length u4wc, .int .i64 t0.va] 64)))
    have X0_5 := Lib.hid (X0_4.out.kept ((Below.refl w4.heap.size w4).alloc (Nat.le_refl _) (.cells #[.slice u4p t0.sy.length u4c, .slice u4wp t0.ws.length u4wc, .int .i64 t0.va] 64)))
    clear HB_4 A0_4 A1_4 BW_4 W0_4 X0_4
    have BX0_5 := Lib.hid (thr_new w4 (.slice u4p t0.sy.length u4c) (.slice u4wp t0.ws.length u4wc) (.int .i64 t0.va) 64 _ rfl)
    go_wp2_with fail
    refine (toTerm_any t1 _ _ (HV1.out.kept HB_5.out) hw1).mono ?_
    rintro e w5 ⟨u5, rfl, ho, hb⟩
    obtain ⟨u5p, u5c, rfl⟩ := ho.read.is_slice
    clear A0r0 A0r1 A0r3 A0r2 A0lt A1r0 A1r1 A1r2 A1lt BWr0 BWr1 BWr2 BWlt
    have HB_6 := Lib.hid (carry_below HB_5.out (Nat.le_refl _) hb)
    have A0_6 := Lib.hid (A0_5.out.kept hb)
    have A1_6 := Lib.hid (A1_5.out.kept hb)
    have BW_6 := Lib.hid (BW_5.out.kept hb)
    have W0_6 := Lib.hid (W0_5.out.kept hb)
    have X0_6 := Lib.hid (X0_5.out.kept hb)
    have BX0_6 := Lib.hid (BX0_5.out.kept hb)
    have z_6 : w4.heap.size + 1 ≤ w5.heap.size := by have := hb.size; simpa using this
    clear HB_5 A0_5 A1_5 BW_5 W0_5 X0_5 BX0_5
    have X1_6 := Lib.hid ((OwnI.freshAt ho (n := w4.heap.size + 1) (by simp)))
    clear hb ho
    obtain ⟨A0r0, A0r1, A0r3, A0r2⟩ := A0_6.out
    have A0lt : w.heap.size < w5.heap.size := World.block_lt_of_cell? w5 ⟨w.heap.size, 0, none⟩ A0r0
    obtain ⟨A1r0, A1r1, A1r2⟩ := A1_6.out
    have A1lt : (w.heap.size + 1) < w5.heap.size := World.block_lt_of_cell? w5 ⟨(w.heap.size + 1), 0, none⟩ A1r0
    obtain ⟨BWr0, BWr1, BWr2⟩ := BW_6.out
    have BWlt : BWB < w5.heap.size := World.block_lt_of_cell? w5 ⟨BWB, 0, none⟩ BWr0
    obtain ⟨BX0r0, BX0r1, BX0r3, BX0r2⟩ := BX0_6.out
    have BX0lt : w4.heap.size < w5.heap.size := World.block_lt_of_cell? w5 ⟨w4.heap.size, 0, none⟩ BX0r0
    have HB_7 := Lib.hid (HB_6.out.alloc HB_6.out.size (.cells #[.string t1.name, .slice u5p t1.args.length u5c] 32))
    have A0_7 := Lib.hid (A0_6.out.kept ((Below.refl w5.heap.size w5).alloc (Nat.le_refl _) (.cells #[.string t1.name, .slice u5p t1.args.length u5c] 32)))
    have A1_7 := Lib.hid (A1_6.out.kept ((Below.refl w5.heap.size w5).alloc (Nat.le_refl _) (.cells #[.string t1.name, .slice u5p t1.args.length u5c] 32)))
    have BW_7 := Lib.hid (BW_6.out.kept ((Below.refl w5.heap.size w5).alloc (Nat.le_refl _) (.cells #[.string t1.name, .slice u5p t1.args.length u5c] 32)))
    have W0_7 := Lib.hid (W0_6.out.kept ((Below.refl w5.heap.size w5).alloc (Nat.le_refl _) (.cells #[.string t1.name, .slice u5p t1.args.length u5c] 32)))
    have X0_7 := Lib.hid (X0_6.out.kept ((Below.refl w5.heap.size w5).alloc (Nat.le_refl _) (.cells #[.string t1.name, .slice u5p t1.args.length u5c] 32)))
    have BX0_7 := Lib.hid (BX0_6.out.kept ((Below.refl w5.heap.size w5).alloc (Nat.le_refl _) (.cells #[.string t1.name, .slice u5p t1.args.length u5c] 32)))
    have X1_7 := Lib.hid (X1_6.out.kept ((Below.refl w5.heap.size w5).alloc (Nat.le_refl _) (.cells #[.string t1.name, .slice u5p t1.args.length u5c] 32)))
    clear HB_6 A0_6 A1_6 BW_6 W0_6 X0_6 BX0_6 X1_6
    have BX1_7 := Lib.hid (two_new w5 (.string t1.name) (.slice u5p t1.args.length u5c) 32 _ rfl)
    go_wp2_with fail
    refine (HCI.out _ _ _ _ X0_7.out.read X1_7.out.read).mono ?_
    rintro e w6 ⟨u6, rfl, ho, hb⟩
    obtain ⟨u6p, u6c, rfl⟩ := ho.read.is_slice
    clear A0r0 A0r1 A0r3 A0r2 A0lt A1r0 A1r1 A1r2 A1lt BWr0 BWr1 BWr2 BWlt BX0r0 BX0r1 BX0r3 BX0r2 BX0lt
    have HB_8 := Lib.hid (carry_below HB_7.out (Nat.le_refl _) hb)
    have A0_8 := Lib.hid (A0_7.out.kept hb)
    have A1_8 := Lib.hid (A1_7.out.kept hb)
    have BW_8 := Lib.hid (BW_7.out.kept hb)
    have W0_8 := Lib.hid (W0_7.out.kept hb)
    have X0_8 := Lib.hid (X0_7.out.kept hb)
    have BX0_8 := Lib.hid (BX0_7.out.kept hb)
    have X1_8 := Lib.hid (X1_7.out.kept hb)
    have BX1_8 := Lib.hid (BX1_7.out.kept hb)
    have z_8 : w5.heap.size + 1 ≤ w6.heap.size := by have := hb.size; simpa using this
    clear HB_7 A0_7 A1_7 BW_7 W0_7 X0_7 BX0_7 X1_7 BX1_7
    have G_8 := Lib.hid ((OwnI.freshAt ho (n := w5.heap.size + 1) (by simp)))
    clear hb ho
    obtain ⟨A0r0, A0r1, A0r3, A0r2⟩ := A0_8.out
    have A0lt : w.heap.size < w6.heap.size := World.block_lt_of_cell? w6 ⟨w.heap.size, 0, none⟩ A0r0
    obtain ⟨A1r0, A1r1, A1r2⟩ := A1_8.out
    have A1lt : (w.heap.size + 1) < w6.heap.size := World.block_lt_of_cell? w6 ⟨(w.heap.size + 1), 0, none⟩ A1r0
    obtain ⟨BWr0, BWr1, BWr2⟩ := BW_8.out
    have BWlt : BWB < w6.heap.size := World.block_lt_of_cell? w6 ⟨BWB, 0, none⟩ BWr0
    obtain ⟨BX0r0, BX0r1, BX0r3, BX0r2⟩ := BX0_8.out
    have BX0lt : w4.heap.size < w6.heap.size := World.block_lt_of_cell? w6 ⟨w4.heap.size, 0, none⟩ BX0r0
    obtain ⟨BX1r0, BX1r1, BX1r2⟩ := BX1_8.out
    have BX1lt : w5.heap.size < w6.heap.size := World.block_lt_of_cell? w6 ⟨w5.heap.size, 0, none⟩ BX1r0
    have HB_9 := Lib.hid (HB_8.out.alloc HB_8.out.size (.cells #[.string r.name, .slice u6p r.args.length u6c] 32))
    have A0_9 := Lib.hid (A0_8.out.kept ((Below.refl w6.heap.size w6).alloc (Nat.le_refl _) (.cells #[.string r.name, .slice u6p r.args.length u6c] 32)))
    have A1_9 := Lib.hid (A1_8.out.kept ((Below.refl w6.heap.size w6).alloc (Nat.le_refl _) (.cells #[.string r.name, .slice u6p r.args.length u6c] 32)))
    have BW_9 := Lib.hid (BW_8.out.kept ((Below.refl w6.heap.size w6).alloc (Nat.le_refl _) (.cells #[.string r.name, .slice u6p r.args.length u6c] 32)))
    have W0_9 := Lib.hid (W0_8.out.kept ((Below.refl w6.heap.size w6).alloc (Nat.le_refl _) (.cells #[.string r.name, .slice u6p r.args.length u6c] 32)))
    have X0_9 := Lib.hid (X0_8.out.kept ((Below.refl w6.heap.size w6).alloc (Nat.le_refl _) (.cells #[.string r.name, .slice u6p r.args.length u6c] 32)))
    have BX0_9 := Lib.hid (BX0_8.out.kept ((Below.refl w6.heap.size w6).alloc (Nat.le_refl _) (.cells #[.string r.name, .slice u6p r.args.length u6c] 32)))
    have X1_9 := Lib.hid (X1_8.out.kept ((Below.refl w6.heap.size w6).alloc (Nat.le_refl _) (.cells #[.string r.name, .slice u6p r.args.length u6c] 32)))
    have BX1_9 := Lib.hid (BX1_8.out.kept ((Below.refl w6.heap.size w6).alloc (Nat.le_refl _) (.cells #[.string r.name, .slice u6p r.args.length u6c] 32)))
    have G_9 := Lib.hid (G_8.out.kept ((Below.refl w6.heap.size w6).alloc (Nat.le_refl _) (.cells #[.string r.name, .slice u6p r.args.length u6c] 32)))
    clear HB_8 A0_8 A1_8 BW_8 W0_8 X0_8 BX0_8 X1_8 BX1_8 G_8
    have BG_9 := Lib.hid (two_new w6 (.string r.name) (.slice u6p r.args.length u6c) 32 _ rfl)
    have CE := eqTerm_any r r _ _ _ G_9.out.read W0_9.out.read HLR.out HLR.out
    rw [eqT_self] at CE
    have HCE := Lib.hid CE
    clear CE
    go_wp2_with fail
    refine HCE.out.mono ?_
    rintro e w7 ⟨rfl, hb⟩
    clear A0r0 A0r1 A0r3 A0r2 A0lt A1r0 A1r1 A1r2 A1lt BWr0 BWr1 BWr2 BWlt BX0r0 BX0r1 BX0r3 BX0r2 BX0lt BX1r0 BX1r1 BX1r2 BX1lt
    have HB_10 := Lib.hid (carry_below HB_9.out (Nat.le_refl _) hb)
    have A0_10 := Lib.hid (A0_9.out.kept hb)
    have A1_10 := Lib.hid (A1_9.out.kept hb)
    have BW_10 := Lib.hid (BW_9.out.kept hb)
    have W0_10 := Lib.hid (W0_9.out.kept hb)
    have X0_10 := Lib.hid (X0_9.out.kept hb)
    have BX0_10 := Lib.hid (BX0_9.out.kept hb)
    have X1_10 := Lib.hid (X1_9.out.kept hb)
    have BX1_10 := Lib.hid (BX1_9.out.kept hb)
    have G_10 := Lib.hid (G_9.out.kept hb)
    have BG_10 := Lib.hid (BG_9.out.kept hb)
    have z_10 : w6.heap.size + 1 ≤ w7.heap.size := by have := hb.size; simpa using this
    clear HB_9 A0_9 A1_9 BW_9 W0_9 X0_9 BX0_9 X1_9 BX1_9 G_9 BG_9
    clear hb HCE
    obtain ⟨A0r0, A0r1, A0r3, A0r2⟩ := A0_10.out
    have A0lt : w.heap.size < w7.heap.size := World.block_lt_of_cell? w7 ⟨w.heap.size, 0, none⟩ A0r0
    obtain ⟨A1r0, A1r1, A1r2⟩ := A1_10.out
    have A1lt : (w.heap.size + 1) < w7.heap.size := World.block_lt_of_cell? w7 ⟨(w.heap.size + 1), 0, none⟩ A1r0
    obtain ⟨BWr0, BWr1, BWr2⟩ := BW_10.out
    have BWlt : BWB < w7.heap.size := World.block_lt_of_cell? w7 ⟨BWB, 0, none⟩ BWr0
    obtain ⟨BX0r0, BX0r1, BX0r3, BX0r2⟩ := BX0_10.out
    have BX0lt : w4.heap.size < w7.heap.size := World.block_lt_of_cell? w7 ⟨w4.heap.size, 0, none⟩ BX0r0
    obtain ⟨BX1r0, BX1r1, BX1r2⟩ := BX1_10.out
    have BX1lt : w5.heap.size < w7.heap.size := World.block_lt_of_cell? w7 ⟨w5.heap.size, 0, none⟩ BX1r0
    obtain ⟨BGr0, BGr1, BGr2⟩ := BG_10.out
    have BGlt : w6.heap.size < w7.heap.size := World.block_lt_of_cell? w7 ⟨w6.heap.size, 0, none⟩ BGr0
    have CT : Hid (∀ W : World, Below w7.heap.size w7 W → Calls Try.prog 38 #[.agg #[.slice sa0 t0.sy.length sc0, .slice wa0 t0.ws.length wc0, .int .i64 t0.va]] W (ToOEnd t0 W)) := Lib.hid (fun W hW => toOd_any t0 W _ _ (HV0.out.kept ((HB_10.out).trans (hW.mono HB_10.out.size))) hw0)
    have CE : Hid (∀ (W : World) (q0s q0w : Value), Below w7.heap.size w7 W → OdV W q0s q0w t0 → Calls Try.prog 40 #[.agg #[.slice u4p t0.sy.length u4c, .slice u4wp t0.ws.length u4wc, .int .i64 t0.va], .agg #[q0s, q0w, .int .i64 t0.va]] W (Ans (.bool true) W)) := Lib.hid (fun W q0s q0w hW hv => by
      exact eqOd_any t0 W _ _ _ _ (X0_10.out.read.kept hW) hv hw0)
    have hB0 : Below w7.heap.size w7 w7.drew := (Below.refl _ _).drew
    go_wp2_with fail
    go_region_held3 (fun w' => w'.cell? ⟨w.heap.size, 0, none⟩ = some (.slice sa0 t0.sy.length sc0) ∧ w'.cell? ⟨w.heap.size, 1, none⟩ = some (.slice wa0 t0.ws.length wc0) ∧ w'.cell? ⟨w.heap.size, 2, none⟩ = some (.int .i64 t0.va) ∧ w'.cell? ⟨w4.heap.size, 0, none⟩ = some (.slice u4p t0.sy.length u4c) ∧ w'.cell? ⟨w4.heap.size, 1, none⟩ = some (.slice u4wp t0.ws.length u4wc) ∧ w'.cell? ⟨w4.heap.size, 2, none⟩ = some (.int .i64 t0.va) ∧ Below w7.heap.size w7 w') (first | exact ⟨by assumption, by assumption, by assumption, by assumption, by assumption, by assumption, by assumption⟩ | go_keep) (first | (go_at_call 38; refine (CT.out _ hB0).mono ?_; rintro e w8a ⟨v6s, v6w, v6m, rfl, ho, hb⟩; have q0 : w8a.cell? ⟨w.heap.size, 0, none⟩ = some (.slice sa0 t0.sy.length sc0) := carry_cell' hb (by assumption); have q1 : w8a.cell? ⟨w.heap.size, 1, none⟩ = some (.slice wa0 t0.ws.length wc0) := carry_cell' hb (by assumption); have q2 : w8a.cell? ⟨w.heap.size, 2, none⟩ = some (.int .i64 t0.va) := carry_cell' hb (by assumption); have q3 : w8a.cell? ⟨w4.heap.size, 0, none⟩ = some (.slice u4p t0.sy.length u4c) := carry_cell' hb (by assumption); have q4 : w8a.cell? ⟨w4.heap.size, 1, none⟩ = some (.slice u4wp t0.ws.length u4wc) := carry_cell' hb (by assumption); have q5 : w8a.cell? ⟨w4.heap.size, 2, none⟩ = some (.int .i64 t0.va) := carry_cell' hb (by assumption); have hB6 := carry_below hB0 (Nat.le_refl _) hb; have HT6 := Lib.hid ho.read; clear hb ho) | (go_at_call 40; refine (CE.out _ _ _ hB6 HT6.out).mono ?_; rintro e w8 ⟨rfl, hb⟩; have r0 : w8.cell? ⟨w.heap.size, 0, none⟩ = some (.slice sa0 t0.sy.length sc0) := carry_cell' hb (by assumption); have r1 : w8.cell? ⟨w.heap.size, 1, none⟩ = some (.slice wa0 t0.ws.length wc0) := carry_cell' hb (by assumption); have r2 : w8.cell? ⟨w.heap.size, 2, none⟩ = some (.int .i64 t0.va) := carry_cell' hb (by assumption); have r3 : w8.cell? ⟨w4.heap.size, 0, none⟩ = some (.slice u4p t0.sy.length u4c) := carry_cell' hb (by assumption); have r4 : w8.cell? ⟨w4.heap.size, 1, none⟩ = some (.slice u4wp t0.ws.length u4wc) := carry_cell' hb (by assumption); have r5 : w8.cell? ⟨w4.heap.size, 2, none⟩ = some (.int .i64 t0.va) := carry_cell' hb (by assumption); have hB7 := carry_below hB6 (Nat.le_refl _) hb; clear hb))
    clear A0r0 A0r1 A0r3 A0r2 A0lt A1r0 A1r1 A1r2 A1lt BWr0 BWr1 BWr2 BWlt BX0r0 BX0r1 BX0r3 BX0r2 BX0lt BX1r0 BX1r1 BX1r2 BX1lt BGr0 BGr1 BGr2 BGlt
    have HB_11 := Lib.hid (carry_below HB_10.out (Nat.le_refl _) hB7)
    have A0_11 := Lib.hid (A0_10.out.kept hB7)
    have A1_11 := Lib.hid (A1_10.out.kept hB7)
    have BW_11 := Lib.hid (BW_10.out.kept hB7)
    have W0_11 := Lib.hid (W0_10.out.kept hB7)
    have X0_11 := Lib.hid (X0_10.out.kept hB7)
    have BX0_11 := Lib.hid (BX0_10.out.kept hB7)
    have X1_11 := Lib.hid (X1_10.out.kept hB7)
    have BX1_11 := Lib.hid (BX1_10.out.kept hB7)
    have G_11 := Lib.hid (G_10.out.kept hB7)
    have BG_11 := Lib.hid (BG_10.out.kept hB7)
    have z_11 : w7.heap.size ≤ w8.heap.size := hB7.size
    clear HB_10 A0_10 A1_10 BW_10 W0_10 X0_10 BX0_10 X1_10 BX1_10 G_10 BG_10
    clear hB7 hB6 hB0 q0 r0 q1 r1 q2 r2 q3 r3 q4 r4 q5 r5 HT6 CT CE
    obtain ⟨A0r0, A0r1, A0r3, A0r2⟩ := A0_11.out
    have A0lt : w.heap.size < w8.heap.size := World.block_lt_of_cell? w8 ⟨w.heap.size, 0, none⟩ A0r0
    obtain ⟨A1r0, A1r1, A1r2⟩ := A1_11.out
    have A1lt : (w.heap.size + 1) < w8.heap.size := World.block_lt_of_cell? w8 ⟨(w.heap.size + 1), 0, none⟩ A1r0
    obtain ⟨BWr0, BWr1, BWr2⟩ := BW_11.out
    have BWlt : BWB < w8.heap.size := World.block_lt_of_cell? w8 ⟨BWB, 0, none⟩ BWr0
    obtain ⟨BX0r0, BX0r1, BX0r3, BX0r2⟩ := BX0_11.out
    have BX0lt : w4.heap.size < w8.heap.size := World.block_lt_of_cell? w8 ⟨w4.heap.size, 0, none⟩ BX0r0
    obtain ⟨BX1r0, BX1r1, BX1r2⟩ := BX1_11.out
    have BX1lt : w5.heap.size < w8.heap.size := World.block_lt_of_cell? w8 ⟨w5.heap.size, 0, none⟩ BX1r0
    obtain ⟨BGr0, BGr1, BGr2⟩ := BG_11.out
    have BGlt : w6.heap.size < w8.heap.size := World.block_lt_of_cell? w8 ⟨w6.heap.size, 0, none⟩ BGr0
    have CT : Hid (∀ W : World, Below w8.heap.size w8 W → Calls Try.prog 29 #[.agg #[.string t1.name, .slice pa1 t1.args.length ca1]] W (ToEnd t1 W)) := Lib.hid (fun W hW => toTerm_any t1 W _ (HV1.out.kept ((HB_11.out).trans (hW.mono HB_11.out.size))) hw1)
    have CE : Hid (∀ (W : World) (q1 : Value), Below w8.heap.size w8 W → TmS W q1 t1.args → Calls Try.prog 31 #[.agg #[.string t1.name, .slice u5p t1.args.length u5c], .agg #[.string t1.name, q1]] W (EqEnd true W)) := Lib.hid (fun W q1 hW hv => by
      have h := eqTerm_any t1 t1 W _ _ (X1_11.out.read.kept hW) hv HL1.out HL1.out
      rwa [eqT_self] at h)
    have hB0 : Below w8.heap.size w8 w8.drew := (Below.refl _ _).drew
    go_wp2_with fail
    go_region_held3 (fun w' => w'.cell? ⟨w.heap.size + 1, 0, none⟩ = some (.string t1.name) ∧ w'.cell? ⟨w.heap.size + 1, 1, none⟩ = some (.slice pa1 t1.args.length ca1) ∧ w'.cell? ⟨w5.heap.size, 0, none⟩ = some (.string t1.name) ∧ w'.cell? ⟨w5.heap.size, 1, none⟩ = some (.slice u5p t1.args.length u5c) ∧ Below w8.heap.size w8 w') (first | exact ⟨by assumption, by assumption, by assumption, by assumption, by assumption⟩ | go_keep) (first | (go_at_call 29; refine (CT.out _ hB0).mono ?_; rintro e w9a ⟨v6, rfl, ho, hb⟩; have q0 : w9a.cell? ⟨w.heap.size + 1, 0, none⟩ = some (.string t1.name) := carry_cell' hb (by assumption); have q1 : w9a.cell? ⟨w.heap.size + 1, 1, none⟩ = some (.slice pa1 t1.args.length ca1) := carry_cell' hb (by assumption); have q2 : w9a.cell? ⟨w5.heap.size, 0, none⟩ = some (.string t1.name) := carry_cell' hb (by assumption); have q3 : w9a.cell? ⟨w5.heap.size, 1, none⟩ = some (.slice u5p t1.args.length u5c) := carry_cell' hb (by assumption); have hB6 := carry_below hB0 (Nat.le_refl _) hb; have HT6 := Lib.hid ho.read; clear hb ho) | (go_at_call 31; refine (CE.out _ _ hB6 HT6.out).mono ?_; rintro e w9 ⟨rfl, hb⟩; have r0 : w9.cell? ⟨w.heap.size + 1, 0, none⟩ = some (.string t1.name) := carry_cell' hb (by assumption); have r1 : w9.cell? ⟨w.heap.size + 1, 1, none⟩ = some (.slice pa1 t1.args.length ca1) := carry_cell' hb (by assumption); have r2 : w9.cell? ⟨w5.heap.size, 0, none⟩ = some (.string t1.name) := carry_cell' hb (by assumption); have r3 : w9.cell? ⟨w5.heap.size, 1, none⟩ = some (.slice u5p t1.args.length u5c) := carry_cell' hb (by assumption); have hB7 := carry_below hB6 (Nat.le_refl _) hb; clear hb))
    clear A0r0 A0r1 A0r3 A0r2 A0lt A1r0 A1r1 A1r2 A1lt BWr0 BWr1 BWr2 BWlt BX0r0 BX0r1 BX0r3 BX0r2 BX0lt BX1r0 BX1r1 BX1r2 BX1lt BGr0 BGr1 BGr2 BGlt
    have HB_12 := Lib.hid (carry_below HB_11.out (Nat.le_refl _) hB7)
    have A0_12 := Lib.hid (A0_11.out.kept hB7)
    have A1_12 := Lib.hid (A1_11.out.kept hB7)
    have BW_12 := Lib.hid (BW_11.out.kept hB7)
    have W0_12 := Lib.hid (W0_11.out.kept hB7)
    have X0_12 := Lib.hid (X0_11.out.kept hB7)
    have BX0_12 := Lib.hid (BX0_11.out.kept hB7)
    have X1_12 := Lib.hid (X1_11.out.kept hB7)
    have BX1_12 := Lib.hid (BX1_11.out.kept hB7)
    have G_12 := Lib.hid (G_11.out.kept hB7)
    have BG_12 := Lib.hid (BG_11.out.kept hB7)
    have z_12 : w8.heap.size ≤ w9.heap.size := hB7.size
    clear HB_11 A0_11 A1_11 BW_11 W0_11 X0_11 BX0_11 X1_11 BX1_11 G_11 BG_11
    clear hB7 hB6 hB0 q0 r0 q1 r1 q2 r2 q3 r3 HT6 CT CE
    obtain ⟨A0r0, A0r1, A0r3, A0r2⟩ := A0_12.out
    have A0lt : w.heap.size < w9.heap.size := World.block_lt_of_cell? w9 ⟨w.heap.size, 0, none⟩ A0r0
    obtain ⟨A1r0, A1r1, A1r2⟩ := A1_12.out
    have A1lt : (w.heap.size + 1) < w9.heap.size := World.block_lt_of_cell? w9 ⟨(w.heap.size + 1), 0, none⟩ A1r0
    obtain ⟨BWr0, BWr1, BWr2⟩ := BW_12.out
    have BWlt : BWB < w9.heap.size := World.block_lt_of_cell? w9 ⟨BWB, 0, none⟩ BWr0
    obtain ⟨BX0r0, BX0r1, BX0r3, BX0r2⟩ := BX0_12.out
    have BX0lt : w4.heap.size < w9.heap.size := World.block_lt_of_cell? w9 ⟨w4.heap.size, 0, none⟩ BX0r0
    obtain ⟨BX1r0, BX1r1, BX1r2⟩ := BX1_12.out
    have BX1lt : w5.heap.size < w9.heap.size := World.block_lt_of_cell? w9 ⟨w5.heap.size, 0, none⟩ BX1r0
    obtain ⟨BGr0, BGr1, BGr2⟩ := BG_12.out
    have BGlt : w6.heap.size < w9.heap.size := World.block_lt_of_cell? w9 ⟨w6.heap.size, 0, none⟩ BGr0
    have CM := markOd_any t0 1 _ _ _ _ _ X0_12.out (by omega) (by omega)
    have HCM := Lib.hid CM
    clear CM
    go_wp2_with fail
    refine HCM.out.mono ?_
    rintro e w10 ⟨rfl, hout⟩
    clear A0r0 A0r1 A0r3 A0r2 A0lt A1r0 A1r1 A1r2 A1lt BWr0 BWr1 BWr2 BWlt BX0r0 BX0r1 BX0r3 BX0r2 BX0lt BX1r0 BX1r1 BX1r2 BX1lt BGr0 BGr1 BGr2 BGlt
    have HB_13 := Lib.hid (below_outside HB_12.out hout (by omega))
    have A0_13 := Lib.hid (A0_12.out.outside hout (by omega))
    have A1_13 := Lib.hid (A1_12.out.outside hout (by omega))
    have BW_13 := Lib.hid (BW_12.out.outside hout (by omega))
    have W0_13 := Lib.hid (W0_12.out.outside hout (by omega))
    have BX0_13 := Lib.hid (BX0_12.out.outside hout (by omega))
    have X1_13 := Lib.hid (X1_12.out.outside hout (by omega))
    have BX1_13 := Lib.hid (BX1_12.out.outside hout (by omega))
    have G_13 := Lib.hid (G_12.out.outside hout (by omega))
    have BG_13 := Lib.hid (BG_12.out.outside hout (by omega))
    have z_13 : w9.heap.size ≤ w10.heap.size := hout.size
    clear HB_12 A0_12 A1_12 BW_12 W0_12 BX0_12 X1_12 BX1_12 G_12 BG_12
    clear hout HCM
    obtain ⟨A0r0, A0r1, A0r3, A0r2⟩ := A0_13.out
    have A0lt : w.heap.size < w10.heap.size := World.block_lt_of_cell? w10 ⟨w.heap.size, 0, none⟩ A0r0
    obtain ⟨A1r0, A1r1, A1r2⟩ := A1_13.out
    have A1lt : (w.heap.size + 1) < w10.heap.size := World.block_lt_of_cell? w10 ⟨(w.heap.size + 1), 0, none⟩ A1r0
    obtain ⟨BWr0, BWr1, BWr2⟩ := BW_13.out
    have BWlt : BWB < w10.heap.size := World.block_lt_of_cell? w10 ⟨BWB, 0, none⟩ BWr0
    obtain ⟨BX0r0, BX0r1, BX0r3, BX0r2⟩ := BX0_13.out
    have BX0lt : w4.heap.size < w10.heap.size := World.block_lt_of_cell? w10 ⟨w4.heap.size, 0, none⟩ BX0r0
    obtain ⟨BX1r0, BX1r1, BX1r2⟩ := BX1_13.out
    have BX1lt : w5.heap.size < w10.heap.size := World.block_lt_of_cell? w10 ⟨w5.heap.size, 0, none⟩ BX1r0
    obtain ⟨BGr0, BGr1, BGr2⟩ := BG_13.out
    have BGlt : w6.heap.size < w10.heap.size := World.block_lt_of_cell? w10 ⟨w6.heap.size, 0, none⟩ BGr0
    have CM := markTerm_any t1 (1 + (t0.sy.length + t0.ws.length)) _ _ _ X1_13.out.1 X1_13.out.bound (by omega) (by omega)
    have HCM := Lib.hid CM
    clear CM
    go_wp2_with fail
    refine HCM.out.mono ?_
    rintro e w11 ⟨rfl, ho, hout⟩
    clear A0r0 A0r1 A0r3 A0r2 A0lt A1r0 A1r1 A1r2 A1lt BWr0 BWr1 BWr2 BWlt BX0r0 BX0r1 BX0r3 BX0r2 BX0lt BX1r0 BX1r1 BX1r2 BX1lt BGr0 BGr1 BGr2 BGlt
    have HB_14 := Lib.hid (below_outside HB_13.out hout (by omega))
    have A0_14 := Lib.hid (A0_13.out.outside hout (by omega))
    have A1_14 := Lib.hid (A1_13.out.outside hout (by omega))
    have BW_14 := Lib.hid (BW_13.out.outside hout (by omega))
    have W0_14 := Lib.hid (W0_13.out.outside hout (by omega))
    have BX0_14 := Lib.hid (BX0_13.out.outside hout (by omega))
    have BX1_14 := Lib.hid (BX1_13.out.outside hout (by omega))
    have G_14 := Lib.hid (G_13.out.outside hout (by omega))
    have BG_14 := Lib.hid (BG_13.out.outside hout (by omega))
    have z_14 : w10.heap.size ≤ w11.heap.size := hout.size
    clear HB_13 A0_13 A1_13 BW_13 W0_13 BX0_13 BX1_13 G_13 BG_13
    clear ho hout HCM
    obtain ⟨A0r0, A0r1, A0r3, A0r2⟩ := A0_14.out
    have A0lt : w.heap.size < w11.heap.size := World.block_lt_of_cell? w11 ⟨w.heap.size, 0, none⟩ A0r0
    obtain ⟨A1r0, A1r1, A1r2⟩ := A1_14.out
    have A1lt : (w.heap.size + 1) < w11.heap.size := World.block_lt_of_cell? w11 ⟨(w.heap.size + 1), 0, none⟩ A1r0
    obtain ⟨BWr0, BWr1, BWr2⟩ := BW_14.out
    have BWlt : BWB < w11.heap.size := World.block_lt_of_cell? w11 ⟨BWB, 0, none⟩ BWr0
    obtain ⟨BX0r0, BX0r1, BX0r3, BX0r2⟩ := BX0_14.out
    have BX0lt : w4.heap.size < w11.heap.size := World.block_lt_of_cell? w11 ⟨w4.heap.size, 0, none⟩ BX0r0
    obtain ⟨BX1r0, BX1r1, BX1r2⟩ := BX1_14.out
    have BX1lt : w5.heap.size < w11.heap.size := World.block_lt_of_cell? w11 ⟨w5.heap.size, 0, none⟩ BX1r0
    obtain ⟨BGr0, BGr1, BGr2⟩ := BG_14.out
    have BGlt : w6.heap.size < w11.heap.size := World.block_lt_of_cell? w11 ⟨w6.heap.size, 0, none⟩ BGr0
    have hk0 : decide (((1 + (t0.sy.length + t0.ws.length) + sumL Tm.sz t1.args : Nat) : Int) < 0) = false := by simp; omega
    generalize 1 + (t0.sy.length + t0.ws.length) + sumL Tm.sz t1.args = kk at *
    have CE := eqTerm_any r r _ _ _ G_14.out.read W0_14.out.read HLR.out HLR.out
    rw [eqT_self] at CE
    have HCE := Lib.hid CE
    clear CE
    go_wp2_with fail
    refine HCE.out.mono ?_
    rintro e w12 ⟨rfl, hb⟩
    clear A0r0 A0r1 A0r3 A0r2 A0lt A1r0 A1r1 A1r2 A1lt BWr0 BWr1 BWr2 BWlt BX0r0 BX0r1 BX0r3 BX0r2 BX0lt BX1r0 BX1r1 BX1r2 BX1lt BGr0 BGr1 BGr2 BGlt
    have HB_15 := Lib.hid (carry_below HB_14.out (Nat.le_refl _) hb)
    have A0_15 := Lib.hid (A0_14.out.kept hb)
    have A1_15 := Lib.hid (A1_14.out.kept hb)
    have BW_15 := Lib.hid (BW_14.out.kept hb)
    have W0_15 := Lib.hid (W0_14.out.kept hb)
    have BX0_15 := Lib.hid (BX0_14.out.kept hb)
    have BX1_15 := Lib.hid (BX1_14.out.kept hb)
    have G_15 := Lib.hid (G_14.out.kept hb)
    have BG_15 := Lib.hid (BG_14.out.kept hb)
    have z_15 : w11.heap.size ≤ w12.heap.size := hb.size
    clear HB_14 A0_14 A1_14 BW_14 W0_14 BX0_14 BX1_14 G_14 BG_14
    clear hb HCE
    obtain ⟨A0r0, A0r1, A0r3, A0r2⟩ := A0_15.out
    have A0lt : w.heap.size < w12.heap.size := World.block_lt_of_cell? w12 ⟨w.heap.size, 0, none⟩ A0r0
    obtain ⟨A1r0, A1r1, A1r2⟩ := A1_15.out
    have A1lt : (w.heap.size + 1) < w12.heap.size := World.block_lt_of_cell? w12 ⟨(w.heap.size + 1), 0, none⟩ A1r0
    obtain ⟨BWr0, BWr1, BWr2⟩ := BW_15.out
    have BWlt : BWB < w12.heap.size := World.block_lt_of_cell? w12 ⟨BWB, 0, none⟩ BWr0
    obtain ⟨BX0r0, BX0r1, BX0r3, BX0r2⟩ := BX0_15.out
    have BX0lt : w4.heap.size < w12.heap.size := World.block_lt_of_cell? w12 ⟨w4.heap.size, 0, none⟩ BX0r0
    obtain ⟨BX1r0, BX1r1, BX1r2⟩ := BX1_15.out
    have BX1lt : w5.heap.size < w12.heap.size := World.block_lt_of_cell? w12 ⟨w5.heap.size, 0, none⟩ BX1r0
    obtain ⟨BGr0, BGr1, BGr2⟩ := BG_15.out
    have BGlt : w6.heap.size < w12.heap.size := World.block_lt_of_cell? w12 ⟨w6.heap.size, 0, none⟩ BGr0
    have CM := markTerm_any r 1 _ _ _ G_15.out.1 G_15.out.bound (by omega) (by omega)
    have HCM := Lib.hid CM
    clear CM
    go_wp2_with fail
    refine HCM.out.mono ?_
    rintro e w13 ⟨rfl, ho, hout⟩
    clear A0r0 A0r1 A0r3 A0r2 A0lt A1r0 A1r1 A1r2 A1lt BWr0 BWr1 BWr2 BWlt BX0r0 BX0r1 BX0r3 BX0r2 BX0lt BX1r0 BX1r1 BX1r2 BX1lt BGr0 BGr1 BGr2 BGlt
    have HB_16 := Lib.hid (below_outside HB_15.out hout (by omega))
    have A0_16 := Lib.hid (A0_15.out.outside hout (by omega))
    have A1_16 := Lib.hid (A1_15.out.outside hout (by omega))
    have BW_16 := Lib.hid (BW_15.out.outside hout (by omega))
    have W0_16 := Lib.hid (W0_15.out.outside hout (by omega))
    have BX0_16 := Lib.hid (BX0_15.out.outside hout (by omega))
    have BX1_16 := Lib.hid (BX1_15.out.outside hout (by omega))
    have BG_16 := Lib.hid (BG_15.out.outside hout (by omega))
    have z_16 : w12.heap.size ≤ w13.heap.size := hout.size
    clear HB_15 A0_15 A1_15 BW_15 W0_15 BX0_15 BX1_15 BG_15
    have M_16 := Lib.hid ((show OwnI w13 _ _ _ _ from ⟨ho, Nat.le_trans G_15.out.2 hout.size⟩))
    clear ho hout HCM
    obtain ⟨A0r0, A0r1, A0r3, A0r2⟩ := A0_16.out
    have A0lt : w.heap.size < w13.heap.size := World.block_lt_of_cell? w13 ⟨w.heap.size, 0, none⟩ A0r0
    obtain ⟨A1r0, A1r1, A1r2⟩ := A1_16.out
    have A1lt : (w.heap.size + 1) < w13.heap.size := World.block_lt_of_cell? w13 ⟨(w.heap.size + 1), 0, none⟩ A1r0
    obtain ⟨BWr0, BWr1, BWr2⟩ := BW_16.out
    have BWlt : BWB < w13.heap.size := World.block_lt_of_cell? w13 ⟨BWB, 0, none⟩ BWr0
    obtain ⟨BX0r0, BX0r1, BX0r3, BX0r2⟩ := BX0_16.out
    have BX0lt : w4.heap.size < w13.heap.size := World.block_lt_of_cell? w13 ⟨w4.heap.size, 0, none⟩ BX0r0
    obtain ⟨BX1r0, BX1r1, BX1r2⟩ := BX1_16.out
    have BX1lt : w5.heap.size < w13.heap.size := World.block_lt_of_cell? w13 ⟨w5.heap.size, 0, none⟩ BX1r0
    obtain ⟨BGr0, BGr1, BGr2⟩ := BG_16.out
    have BGlt : w6.heap.size < w13.heap.size := World.block_lt_of_cell? w13 ⟨w6.heap.size, 0, none⟩ BGr0
    have CH := heldTerm_any r r.name 1 _ _ M_16.out.read (Nat.le_refl _) (by omega)
    have HCH := Lib.hid CH
    clear CH
    go_wp2_with fail
    refine HCH.out.mono ?_
    rintro e w14 ⟨rfl, hb⟩
    clear A0r0 A0r1 A0r3 A0r2 A0lt A1r0 A1r1 A1r2 A1lt BWr0 BWr1 BWr2 BWlt BX0r0 BX0r1 BX0r3 BX0r2 BX0lt BX1r0 BX1r1 BX1r2 BX1lt BGr0 BGr1 BGr2 BGlt
    have HB_17 := Lib.hid (carry_below HB_16.out (Nat.le_refl _) hb)
    have A0_17 := Lib.hid (A0_16.out.kept hb)
    have A1_17 := Lib.hid (A1_16.out.kept hb)
    have BW_17 := Lib.hid (BW_16.out.kept hb)
    have W0_17 := Lib.hid (W0_16.out.kept hb)
    have BX0_17 := Lib.hid (BX0_16.out.kept hb)
    have BX1_17 := Lib.hid (BX1_16.out.kept hb)
    have BG_17 := Lib.hid (BG_16.out.kept hb)
    have M_17 := Lib.hid (M_16.out.kept hb)
    have z_17 : w13.heap.size ≤ w14.heap.size := hb.size
    clear HB_16 A0_16 A1_16 BW_16 W0_16 BX0_16 BX1_16 BG_16 M_16
    clear hb HCH
    obtain ⟨A0r0, A0r1, A0r3, A0r2⟩ := A0_17.out
    have A0lt : w.heap.size < w14.heap.size := World.block_lt_of_cell? w14 ⟨w.heap.size, 0, none⟩ A0r0
    obtain ⟨A1r0, A1r1, A1r2⟩ := A1_17.out
    have A1lt : (w.heap.size + 1) < w14.heap.size := World.block_lt_of_cell? w14 ⟨(w.heap.size + 1), 0, none⟩ A1r0
    obtain ⟨BWr0, BWr1, BWr2⟩ := BW_17.out
    have BWlt : BWB < w14.heap.size := World.block_lt_of_cell? w14 ⟨BWB, 0, none⟩ BWr0
    obtain ⟨BX0r0, BX0r1, BX0r3, BX0r2⟩ := BX0_17.out
    have BX0lt : w4.heap.size < w14.heap.size := World.block_lt_of_cell? w14 ⟨w4.heap.size, 0, none⟩ BX0r0
    obtain ⟨BX1r0, BX1r1, BX1r2⟩ := BX1_17.out
    have BX1lt : w5.heap.size < w14.heap.size := World.block_lt_of_cell? w14 ⟨w5.heap.size, 0, none⟩ BX1r0
    obtain ⟨BGr0, BGr1, BGr2⟩ := BG_17.out
    have BGlt : w6.heap.size < w14.heap.size := World.block_lt_of_cell? w14 ⟨w6.heap.size, 0, none⟩ BGr0
    have hm0 : decide (((1 + sumL Tm.sz r.args : Nat) : Int) < 0) = false := by simp; omega
    go_wp2_with fail
    have CCog : Hid (∀ (W : World), Below w14.heap.size w14 W → Calls Try.prog 38 #[.agg #[.slice sa0 t0.sy.length sc0, .slice wa0 t0.ws.length wc0, .int .i64 t0.va]] W (ToOEnd t0 W)) := Lib.hid (fun W hW => toOd_any t0 W _ _ (HV0.out.kept ((HB_17.out).trans (hW.mono HB_17.out.size))) hw0)
    have CCtm : Hid (∀ (W : World), Below w14.heap.size w14 W → Calls Try.prog 29 #[.agg #[.string t1.name, .slice pa1 t1.args.length ca1]] W (ToEnd t1 W)) := Lib.hid (fun W hW => toTerm_any t1 W _ (HV1.out.kept ((HB_17.out).trans (hW.mono HB_17.out.size))) hw1)
    go_cut [17, 18, 19] from 109 (fun x y0 y1 wx => Got r b ok w14 x y0 y1 wx)
    case first =>
      have hB : Below w14.heap.size w14 w14.drew := (Below.refl _ _).drew
      go_region_held3 (fun w' => w'.cell? ⟨w.heap.size, 0, none⟩ = some (.slice sa0 t0.sy.length sc0) ∧ w'.cell? ⟨w.heap.size, 1, none⟩ = some (.slice wa0 t0.ws.length wc0) ∧ w'.cell? ⟨w.heap.size, 2, none⟩ = some (.int .i64 t0.va) ∧ w'.cell? ⟨w.heap.size + 1, 0, none⟩ = some (.string t1.name) ∧ w'.cell? ⟨w.heap.size + 1, 1, none⟩ = some (.slice pa1 t1.args.length ca1)) (first | exact ⟨by assumption, by assumption, by assumption, by assumption, by assumption⟩ | exact ⟨far (by omega) (by assumption), far (by omega) (by assumption), far (by omega) (by assumption), far (by omega) (by assumption), far (by omega) (by assumption)⟩ | go_keep) (first | (go_at_call 38; refine (CCog.out _ (by first | exact hB | exact hB.alloc hB.size _)).mono ?_; rintro e wn ⟨us, uw, um, rfl, ho, hb⟩; obtain ⟨up, uc, uwp, uwc, rfl, rfl⟩ := ho.read.open; have hb' := hb; (first | replace hb' := pre_alloc2 hb' | replace hb' := pre_alloc hb' | skip); have q0 : wn.cell? ⟨w.heap.size, 0, none⟩ = some (.slice sa0 t0.sy.length sc0) := carry_cell' hb' (by assumption); have q1 : wn.cell? ⟨w.heap.size, 1, none⟩ = some (.slice wa0 t0.ws.length wc0) := carry_cell' hb' (by assumption); have q2 : wn.cell? ⟨w.heap.size, 2, none⟩ = some (.int .i64 t0.va) := carry_cell' hb' (by assumption); have q3 : wn.cell? ⟨w.heap.size + 1, 0, none⟩ = some (.string t1.name) := carry_cell' hb' (by assumption); have q4 : wn.cell? ⟨w.heap.size + 1, 1, none⟩ = some (.slice pa1 t1.args.length ca1) := carry_cell' hb' (by assumption); (first | (have hz := (two_new2 _ _ _ _).kept hb; have hzB := hB.size) | (have hz := (two_new _ _ _ _ _ rfl).kept hb; have hzB := hB.size) | have hz := hz.kept hb | skip); (try have hz0 := hz.1); (try have hz1 := hz.2.1); (try have hz2 := hz.2.2); (try have HTtm1 := Lib.hid (HTtm1.out.kept hb')); (try have HTtm2 := Lib.hid (HTtm2.out.kept hb')); (try have HTog2 := Lib.hid (HTog1.out.kept hb')); have hB := carry_below hB (Nat.le_refl _) hb'; have HTog1 := Lib.hid ho.read; clear hb ho) | (go_at_call 29; refine (CCtm.out _ (by first | exact hB | exact hB.alloc hB.size _)).mono ?_; rintro e wn ⟨u, rfl, ho, hb⟩; obtain ⟨up, uc, rfl⟩ := ho.read.is_slice; have hb' := hb; (first | replace hb' := pre_alloc2 hb' | replace hb' := pre_alloc hb' | skip); have q0 : wn.cell? ⟨w.heap.size, 0, none⟩ = some (.slice sa0 t0.sy.length sc0) := carry_cell' hb' (by assumption); have q1 : wn.cell? ⟨w.heap.size, 1, none⟩ = some (.slice wa0 t0.ws.length wc0) := carry_cell' hb' (by assumption); have q2 : wn.cell? ⟨w.heap.size, 2, none⟩ = some (.int .i64 t0.va) := carry_cell' hb' (by assumption); have q3 : wn.cell? ⟨w.heap.size + 1, 0, none⟩ = some (.string t1.name) := carry_cell' hb' (by assumption); have q4 : wn.cell? ⟨w.heap.size + 1, 1, none⟩ = some (.slice pa1 t1.args.length ca1) := carry_cell' hb' (by assumption); (first | (have hz := (two_new2 _ _ _ _).kept hb; have hzB := hB.size) | (have hz := (two_new _ _ _ _ _ rfl).kept hb; have hzB := hB.size) | have hz := hz.kept hb | skip); (try have hz0 := hz.1); (try have hz1 := hz.2.1); (try have hz2 := hz.2.2); (try have HTog1 := Lib.hid (HTog1.out.kept hb')); (try have HTog2 := Lib.hid (HTog2.out.kept hb')); (try have HTtm2 := Lib.hid (HTtm1.out.kept hb')); have hB := carry_below hB (Nat.le_refl _) hb'; have HTtm1 := Lib.hid ho.read; clear hb ho) | (go_at_call 39; have hBW := hB; refine (HCI.out _ _ _ _ (by first | exact HTog1.out | exact HTog2.out | exact HTog1.out.kept ((Below.refl _ _).alloc (Nat.le_refl _) _) | exact HTog2.out.kept ((Below.refl _ _).alloc (Nat.le_refl _) _)) (by first | exact HTtm1.out | exact HTtm2.out | exact HTtm1.out.kept ((Below.refl _ _).alloc (Nat.le_refl _) _) | exact HTtm2.out.kept ((Below.refl _ _).alloc (Nat.le_refl _) _))).mono ?_; rintro e wn ⟨vn, rfl, ho, hb⟩; obtain ⟨up, uc, rfl⟩ := ho.read.is_slice; (try have hzl := World.block_lt_of_cell? _ _ hz.1); have hb' := hb; (first | replace hb' := pre_alloc2 hb' | replace hb' := pre_alloc hb' | skip); have q0 : wn.cell? ⟨w.heap.size, 0, none⟩ = some (.slice sa0 t0.sy.length sc0) := carry_cell' hb' (by assumption); have q1 : wn.cell? ⟨w.heap.size, 1, none⟩ = some (.slice wa0 t0.ws.length wc0) := carry_cell' hb' (by assumption); have q2 : wn.cell? ⟨w.heap.size, 2, none⟩ = some (.int .i64 t0.va) := carry_cell' hb' (by assumption); have q3 : wn.cell? ⟨w.heap.size + 1, 0, none⟩ = some (.string t1.name) := carry_cell' hb' (by assumption); have q4 : wn.cell? ⟨w.heap.size + 1, 1, none⟩ = some (.slice pa1 t1.args.length ca1) := carry_cell' hb' (by assumption); (first | (have hz := (two_new2 _ _ _ _).kept hb; have hzB := hB.size) | (have hz := (two_new _ _ _ _ _ rfl).kept hb; have hzB := hB.size) | have hz := hz.kept hb | skip); (try have hz0 := hz.1); (try have hz1 := hz.2.1); (try have hz2 := hz.2.2); have HGO := Lib.hid ho; have HGB := Lib.hid hb; have hB := carry_below hB (Nat.le_refl _) hb'; clear hb ho))
      all_goals (go_wp2_with fail; go_meet)
      all_goals (first | exact Got.of hBW HGB.out HGO.out | exact Got.st hzB hzl hBW HGB.out HGO.out hz | exact Got.st hzB (by simp) (hBW.alloc hBW.size _) HGB.out HGO.out hz)
    case rest =>
      obtain ⟨BHB, BHv, BHlo, BHhi, rfl, rfl, rfl, BHle, BHlo1, BHdis, htw, how, hb⟩ := hcut
      have BHhi1 := how.2
      obtain ⟨BHp, BHc, rfl⟩ := how.read.is_slice
      clear CCog CCtm
      obtain ⟨w15, hw15⟩ : ∃ x, x = wc := ⟨_, rfl⟩
      rw [← hw15] at htw how hb BHhi1 ⊢
      clear hw15
      have BHbl : BHB < w15.heap.size := World.block_lt_of_cell? w15 ⟨BHB, 0, none⟩ htw.1
      clear A0r0 A0r1 A0r3 A0r2 A0lt A1r0 A1r1 A1r2 A1lt BWr0 BWr1 BWr2 BWlt BX0r0 BX0r1 BX0r3 BX0r2 BX0lt BX1r0 BX1r1 BX1r2 BX1lt BGr0 BGr1 BGr2 BGlt
      have HB_18 := Lib.hid (carry_below HB_17.out (Nat.le_refl _) hb)
      have A0_18 := Lib.hid (A0_17.out.kept hb)
      have A1_18 := Lib.hid (A1_17.out.kept hb)
      have BW_18 := Lib.hid (BW_17.out.kept hb)
      have W0_18 := Lib.hid (W0_17.out.kept hb)
      have BX0_18 := Lib.hid (BX0_17.out.kept hb)
      have BX1_18 := Lib.hid (BX1_17.out.kept hb)
      have BG_18 := Lib.hid (BG_17.out.kept hb)
      have M_18 := Lib.hid (M_17.out.kept hb)
      have z_18 : w14.heap.size ≤ w15.heap.size := hb.size
      clear HB_17 A0_17 A1_17 BW_17 W0_17 BX0_17 BX1_17 BG_17 M_17
      have BH_18 := Lib.hid htw
      have H_18 := Lib.hid (how)
      clear htw how hb
      obtain ⟨A0r0, A0r1, A0r3, A0r2⟩ := A0_18.out
      have A0lt : w.heap.size < w15.heap.size := World.block_lt_of_cell? w15 ⟨w.heap.size, 0, none⟩ A0r0
      obtain ⟨A1r0, A1r1, A1r2⟩ := A1_18.out
      have A1lt : (w.heap.size + 1) < w15.heap.size := World.block_lt_of_cell? w15 ⟨(w.heap.size + 1), 0, none⟩ A1r0
      obtain ⟨BWr0, BWr1, BWr2⟩ := BW_18.out
      have BWlt : BWB < w15.heap.size := World.block_lt_of_cell? w15 ⟨BWB, 0, none⟩ BWr0
      obtain ⟨BX0r0, BX0r1, BX0r3, BX0r2⟩ := BX0_18.out
      have BX0lt : w4.heap.size < w15.heap.size := World.block_lt_of_cell? w15 ⟨w4.heap.size, 0, none⟩ BX0r0
      obtain ⟨BX1r0, BX1r1, BX1r2⟩ := BX1_18.out
      have BX1lt : w5.heap.size < w15.heap.size := World.block_lt_of_cell? w15 ⟨w5.heap.size, 0, none⟩ BX1r0
      obtain ⟨BGr0, BGr1, BGr2⟩ := BG_18.out
      have BGlt : w6.heap.size < w15.heap.size := World.block_lt_of_cell? w15 ⟨w6.heap.size, 0, none⟩ BGr0
      obtain ⟨BHr0, BHr1, BHr2⟩ := BH_18.out
      have BHlt : BHB < w15.heap.size := World.block_lt_of_cell? w15 ⟨BHB, 0, none⟩ BHr0
      have CE := eqTerm_any r r _ _ _ H_18.out.read W0_18.out.read HLR.out HLR.out
      rw [eqT_self] at CE
      have HCE := Lib.hid CE
      clear CE
      go_wp2_with fail
      refine HCE.out.mono ?_
      rintro e w16 ⟨rfl, hb⟩
      clear A0r0 A0r1 A0r3 A0r2 A0lt A1r0 A1r1 A1r2 A1lt BWr0 BWr1 BWr2 BWlt BX0r0 BX0r1 BX0r3 BX0r2 BX0lt BX1r0 BX1r1 BX1r2 BX1lt BGr0 BGr1 BGr2 BGlt BHr0 BHr1 BHr2 BHlt
      have HB_19 := Lib.hid (carry_below HB_18.out (Nat.le_refl _) hb)
      have A0_19 := Lib.hid (A0_18.out.kept hb)
      have A1_19 := Lib.hid (A1_18.out.kept hb)
      have BW_19 := Lib.hid (BW_18.out.kept hb)
      have W0_19 := Lib.hid (W0_18.out.kept hb)
      have BX0_19 := Lib.hid (BX0_18.out.kept hb)
      have BX1_19 := Lib.hid (BX1_18.out.kept hb)
      have BG_19 := Lib.hid (BG_18.out.kept hb)
      have M_19 := Lib.hid (M_18.out.kept hb)
      have BH_19 := Lib.hid (BH_18.out.kept hb)
      have H_19 := Lib.hid (H_18.out.kept hb)
      have z_19 : w15.heap.size ≤ w16.heap.size := hb.size
      clear HB_18 A0_18 A1_18 BW_18 W0_18 BX0_18 BX1_18 BG_18 M_18 BH_18 H_18
      clear hb HCE
      obtain ⟨A0r0, A0r1, A0r3, A0r2⟩ := A0_19.out
      have A0lt : w.heap.size < w16.heap.size := World.block_lt_of_cell? w16 ⟨w.heap.size, 0, none⟩ A0r0
      obtain ⟨A1r0, A1r1, A1r2⟩ := A1_19.out
      have A1lt : (w.heap.size + 1) < w16.heap.size := World.block_lt_of_cell? w16 ⟨(w.heap.size + 1), 0, none⟩ A1r0
      obtain ⟨BWr0, BWr1, BWr2⟩ := BW_19.out
      have BWlt : BWB < w16.heap.size := World.block_lt_of_cell? w16 ⟨BWB, 0, none⟩ BWr0
      obtain ⟨BX0r0, BX0r1, BX0r3, BX0r2⟩ := BX0_19.out
      have BX0lt : w4.heap.size < w16.heap.size := World.block_lt_of_cell? w16 ⟨w4.heap.size, 0, none⟩ BX0r0
      obtain ⟨BX1r0, BX1r1, BX1r2⟩ := BX1_19.out
      have BX1lt : w5.heap.size < w16.heap.size := World.block_lt_of_cell? w16 ⟨w5.heap.size, 0, none⟩ BX1r0
      obtain ⟨BGr0, BGr1, BGr2⟩ := BG_19.out
      have BGlt : w6.heap.size < w16.heap.size := World.block_lt_of_cell? w16 ⟨w6.heap.size, 0, none⟩ BGr0
      obtain ⟨BHr0, BHr1, BHr2⟩ := BH_19.out
      have BHlt : BHB < w16.heap.size := World.block_lt_of_cell? w16 ⟨BHB, 0, none⟩ BHr0
      have CH := heldTerm_any r r.name 1 _ _ M_19.out.read (Nat.le_refl _) (by omega)
      have HCH := Lib.hid CH
      clear CH
      go_wp2_with fail
      refine HCH.out.mono ?_
      rintro e w17 ⟨rfl, hb⟩
      clear A0r0 A0r1 A0r3 A0r2 A0lt A1r0 A1r1 A1r2 A1lt BWr0 BWr1 BWr2 BWlt BX0r0 BX0r1 BX0r3 BX0r2 BX0lt BX1r0 BX1r1 BX1r2 BX1lt BGr0 BGr1 BGr2 BGlt BHr0 BHr1 BHr2 BHlt
      have HB_20 := Lib.hid (carry_below HB_19.out (Nat.le_refl _) hb)
      have A0_20 := Lib.hid (A0_19.out.kept hb)
      have A1_20 := Lib.hid (A1_19.out.kept hb)
      have BW_20 := Lib.hid (BW_19.out.kept hb)
      have W0_20 := Lib.hid (W0_19.out.kept hb)
      have BX0_20 := Lib.hid (BX0_19.out.kept hb)
      have BX1_20 := Lib.hid (BX1_19.out.kept hb)
      have BG_20 := Lib.hid (BG_19.out.kept hb)
      have M_20 := Lib.hid (M_19.out.kept hb)
      have BH_20 := Lib.hid (BH_19.out.kept hb)
      have H_20 := Lib.hid (H_19.out.kept hb)
      have z_20 : w16.heap.size ≤ w17.heap.size := hb.size
      clear HB_19 A0_19 A1_19 BW_19 W0_19 BX0_19 BX1_19 BG_19 M_19 BH_19 H_19
      clear hb HCH
      obtain ⟨A0r0, A0r1, A0r3, A0r2⟩ := A0_20.out
      have A0lt : w.heap.size < w17.heap.size := World.block_lt_of_cell? w17 ⟨w.heap.size, 0, none⟩ A0r0
      obtain ⟨A1r0, A1r1, A1r2⟩ := A1_20.out
      have A1lt : (w.heap.size + 1) < w17.heap.size := World.block_lt_of_cell? w17 ⟨(w.heap.size + 1), 0, none⟩ A1r0
      obtain ⟨BWr0, BWr1, BWr2⟩ := BW_20.out
      have BWlt : BWB < w17.heap.size := World.block_lt_of_cell? w17 ⟨BWB, 0, none⟩ BWr0
      obtain ⟨BX0r0, BX0r1, BX0r3, BX0r2⟩ := BX0_20.out
      have BX0lt : w4.heap.size < w17.heap.size := World.block_lt_of_cell? w17 ⟨w4.heap.size, 0, none⟩ BX0r0
      obtain ⟨BX1r0, BX1r1, BX1r2⟩ := BX1_20.out
      have BX1lt : w5.heap.size < w17.heap.size := World.block_lt_of_cell? w17 ⟨w5.heap.size, 0, none⟩ BX1r0
      obtain ⟨BGr0, BGr1, BGr2⟩ := BG_20.out
      have BGlt : w6.heap.size < w17.heap.size := World.block_lt_of_cell? w17 ⟨w6.heap.size, 0, none⟩ BGr0
      obtain ⟨BHr0, BHr1, BHr2⟩ := BH_20.out
      have BHlt : BHB < w17.heap.size := World.block_lt_of_cell? w17 ⟨BHB, 0, none⟩ BHr0
      go_wp2
      go_ret
      exact ⟨rfl, HB_20.out⟩

theorem walk (t0 : Od) (sv0 wv0 : Value) (t1 : Tm) (va1 : Value) (w : World) (h0 : OdV w sv0 wv0 t0) (l0 : t0.lim 9223372036854775807) (h1 : TmS w va1 t1.args) (l1 : t1.lim 9223372036854775807) :
    Calls Try.prog 9 #[.agg #[sv0, wv0, .int .i64 t0.va], .agg #[.string t1.name, va1]] w fun e w' => e = .returned (.bool true) ∧ Below w.heap.size w w' :=
  core t0 sv0 wv0 t1 va1 (t0.oriR t1) (t0.oriB t1) (t0.oriOk t1) w h0 l0 h1 l1 (fun h => oriR_wt t0 t1 (by omega))
    (fun hs W q0s q0w q1 a0 a1 => (specOri_any t0 (by omega) t1 W _ _ _ a0 a1 (by omega)).mono fun e w' h => h)
    (fun hs W q0s q0w q1 a0 a1 => (implOri_any t0 (by omega) t1 W _ _ _ a0 a1 (by omega)).mono fun e w' h => h)

/-! ### THE ROW's STEP: WRITTEN OUT: LEAVE IT -/
set_option maxRecDepth 100000 in
theorem lifted (os : Os) (started : os.Started) (H : Type) (enc : TypeId × Value → H) :
    ReturnsInHanded {} Try.checked os 9 .any (Rows.fnExactOrientEquationSpec.pre6 enc Try.prog Try.f9 Rows.fnExactOrientEquationRow.domain false) (Rows.fnExactOrientEquationSpec.post enc Try.prog Try.f9 false true false false) := by
  refine returnsInHanded_of_change (C := Try.checked) own started (by kernel_rfl) Try.func9
    (ChangeSpec.witness6 (enc := enc) (C := Try.checked) false ⟨#[], #[.agg #[.slice none 0 0, .slice none 0 0, .int .i64 0], .agg #[.string ByteArray.empty, .slice none 0 0]], []⟩ 8 (by kernel_rfl) (by kernel_rfl) (by kernel_rfl) (by kernel_rfl)) ?_
  intro W base args ds gs before hval0 hW hcnd _
  have hval : ∀ (j : Nat) t v, Try.f9.params[j]? = some t → args[j]? = some v → Value.okWide Try.prog W .any base t v := hval0
  have hW' := hW
  obtain ⟨p, q, hA0, hV, rfl, hfz, hnd⟩ := hW
  have hA : DataW.TrodAll enc Try.prog W 0 (fun _ => true) true Try.f9.params.toList args.toList ds p := hA0
  rw [Try.params9] at hA hval
  obtain ⟨v0, vs0, d0, ds0, p0, q0, hargs, rfl, rfl, h0, r0⟩ := trodAll_cons hA
  obtain ⟨v1, vs1, d1, ds1, p1, q1, rfl, rfl, rfl, h1, r1⟩ := trodAll_cons r0
  obtain ⟨rfl, rfl, rfl⟩ := trodAll_nil r1
  obtain rfl : args = #[v0, v1] := by cases args; simp_all
  obtain ⟨rfl, rfl⟩ := trodVars_none hV
  have k0 := h0
  have lt0 : ∀ x ∈ p0, x.block < W.heap.size := by obtain ⟨m, hm⟩ := k0; exact DataW.trod_lt m _ _ _ hm
  obtain ⟨o0, sv0, wv0, rfl, ov0, lim0⟩ := open_ord (hval 0 60 v0 rfl rfl) h0
  have k1 := h1
  have lt1 : ∀ x ∈ p1, x.block < W.heap.size := by obtain ⟨m, hm⟩ := k1; exact DataW.trod_lt m _ _ _ hm
  obtain ⟨t1, va1, rfl, tm1, lim1⟩ := open_term 9223372036854775807 (by unfold maxLen; omega) (hval 1 24 v1 rfl rfl) h1
  clear hA0 hval0
  refine (walk o0 sv0 wv0 t1 va1 W ov0 lim0 tm1 lim1).mono fun e W' ⟨he, bel⟩ => ?_
  subst he
  exact ⟨_, rfl, _, _, _, [], _, [], hW', trodAll_mk1 (shut_bool Try.underlying4 _), (trodAll_cons_mk (Below.trod laidOut (by kernel_rfl) (of_decide_eq_true (by kernel_rfl)) k0 bel lt0) (trodAll_cons_mk (Below.trod laidOut (by kernel_rfl) (of_decide_eq_true (by kernel_rfl)) k1 bel lt1) trodAll_mk0)), rfl, bel.frame _, fun h => by cases h⟩


theorem jfPlace : (Rows.fnExactOrientEquationRow.inPlace == Try.prog.inPlace 9) = true := by kernel_rfl
theorem jfFollow : (Rows.fnExactOrientEquationRow.unfollowed == Try.prog.unfollowed 9) = true := by kernel_rfl
theorem jfRecurses : (Rows.fnExactOrientEquationRow.recurses == Try.prog.recurses 9) = true := by kernel_rfl
theorem jfNamed : (Rows.fnExactOrientEquationRow.named == Try.prog.varsNamed 9) = true := by kernel_rfl
theorem jfKeys : (Rows.fnExactOrientEquationRow.plainKeys == Try.prog.plainKeys) = true := by kernel_rfl
theorem facts : joinedFacts Try.prog 9 Try.f9 Rows.fnExactOrientEquationSpec Rows.fnExactOrientEquationRow = true :=
  jf_of (P := Try.prog) jfLaid jfRowed jfHeard jfEnter jfLifts (by kernel_rfl) (by kernel_rfl) (by kernel_rfl) (by kernel_rfl) (by kernel_rfl) (by kernel_rfl) (by kernel_rfl)
    jfPlace jfFollow jfRecurses jfNamed (by kernel_rfl) (by kernel_rfl) (by kernel_rfl) (by kernel_rfl) (by kernel_rfl) (by kernel_rfl) (by kernel_rfl) (by kernel_rfl) (by kernel_rfl)
    jfKeys (by kernel_rfl) (by kernel_rfl) (by kernel_rfl) (by kernel_rfl) (by kernel_rfl) (by kernel_rfl)

theorem over : Rows.fnExactOrientEquationRow.holds Try.pinned (OpenSpec.ofChange Rows.fnExactOrientEquationSpec) :=
  OpenClaim.holds_of_wide 9 Try.f9 rfl rfl rfl rfl rfl rfl rfl ⟨rfl, rfl, rfl, rfl, rfl⟩ rfl rfl rfl rfl rfl (by kernel_rfl) Try.func9 facts
    (of_decide_eq_true (by kernel_rfl)) (by unfold Func.isWrapper; first | (rw [if_pos (by decide +kernel)]; kernel_rfl) | (rw [if_neg (by decide +kernel)]; exact ⟨rfl, rfl⟩))
    (fun os started H enc _ => lifted os started H enc)

/-- ████ THE STATEMENT ████ -/
theorem proved : Rows.FnExactOrientEquationSaid := over
end Go.Proofs.Ytgpmdfhepanahaa.fnExactOrientEquation
