/- ReplaceAt answers as its model for all terms and every position: no condition. -/
import Derived.Test.YtcijmhhajbgknaaRepI
import Derived.Test.YtcijmhhajbgknaaOwnI
import Derived.Test.YtcijmhhajbgknaaSz
import Derived.Test.YtcijmhhajbgknaaOpenTm
import Derived.Test.YtcijmhhajbgknaaOpenI
import Derived.Deep.RegionWith
import Derived.Deep.Cut
import Derived.OpenShut
import Derived.ShutString
import Derived.ChangeOld
namespace Go.Proofs.Ytcijmhhajbgknaa.fnExactReplaceAt
open Go.ChangeShapes Go.WideShapes Go.ChangeAt Go.RowKit
open Go.ChangeMaps (open_string shut_string)
set_option linter.unusedVariables false

theorem own : ownKnob Try.prog.godebug = none := by kernel_rfl
theorem laidOut : laidOutB Try.prog = true := by kernel_rfl

/-- What both functions answer, as the law sees it. -/
def ResEnd (r : Tm) (ok : Bool) (w : World) (e : Ending) (w' : World) : Prop :=
  ∃ va, e = .returned (.tuple #[.agg #[.string r.name, va], .bool ok]) ∧ TmO w' (Fresh w w') va r.args ∧ Below w.heap.size w w'
/-- What a statement leaves that calls one of them. -/
def Got (r : Tm) (ok : Bool) (w : World) (x y : Value) (w' : World) : Prop :=
  ∃ B v lo hi, x = .pointer (some ⟨B, 0, none⟩) ∧ y = .bool ok ∧ w.heap.size ≤ B ∧ w.heap.size ≤ lo ∧ (B < lo ∨ hi ≤ B) ∧ Two w' B (.string r.name) v ∧ OwnI w' lo hi v r.args ∧ Below w.heap.size w w'
theorem Got.of {r : Tm} {ok : Bool} {w wa wb : World} {v : Value} (hb : Below w.heap.size w wa) (h : Below wa.heap.size wa wb) (ho : TmO wb (Fresh wa wb) v r.args) :
    Got r ok w (.pointer (some ⟨wb.heap.size, 0, none⟩)) (.bool ok) (wb.alloc (.cells #[.string r.name, v] 24)) := by
  have hb2 := carry_below hb (Nat.le_refl _) h
  refine ⟨wb.heap.size, v, wa.heap.size, wb.heap.size, rfl, rfl, hb2.size, hb.size, .inr (Nat.le_refl _), two_new _ _ _ _ _ rfl, ⟨?_, ?_⟩, hb2.alloc hb2.size _⟩
  · exact (ho.frame fun k hk => ((Below.refl wb.heap.size wb).alloc (Nat.le_refl _) _).block k hk.2).mono fun k hk => hk
  · simp
theorem Got.st {r : Tm} {ok : Bool} {w wa wb : World} {v x y : Value} {B : Nat} (h1 : w.heap.size ≤ B) (h2 : B < wa.heap.size) (hb : Below w.heap.size w wa) (h : Below wa.heap.size wa wb) (ho : TmO wb (Fresh wa wb) v r.args) (hz : Two wb B x y) :
    Got r ok w (.pointer (some ⟨B, 0, none⟩)) (.bool ok) ((wb.setCell ⟨B, 0, none⟩ (.string r.name)).setCell ⟨B, 1, none⟩ v) := by
  have hb2 := carry_below hb (Nat.le_refl _) h
  refine ⟨B, v, wa.heap.size, wb.heap.size, rfl, rfl, h1, hb.size, .inl h2, (hz.setNil _).setOne _, ⟨?_, ?_⟩, (hb2.setCell h1 _).setCell h1 _⟩
  · exact ((ho.setCell (fun h => by have := h.1; simp at this; omega) _).setCell (fun h => by have := h.1; simp at this; omega) _).mono fun k hk => hk
  · simp only [size_setCell]; exact Nat.le_refl _
theorem pre_alloc2 {w w' : World} {o : Obj} (hb : Below (w.alloc o).drew.heap.size (w.alloc o).drew w') : Below w.drew.heap.size w.drew w' :=
  Below.trans (show Below w.drew.heap.size w.drew (w.alloc o).drew from (Below.refl w.drew.heap.size w.drew).alloc (Nat.le_refl _) o) (hb.mono (by show w.heap.size ≤ (w.alloc o).heap.size; simp))
theorem two_new2 (w : World) (x y : Value) (T : TypeId) : Two ((w.alloc (.cells #[x, y] T)).drew) w.heap.size x y := (two_new w x y T _ rfl).drew
theorem pre_alloc {w w' : World} {o : Obj} (hb : Below (w.alloc o).heap.size (w.alloc o) w') : Below w.heap.size w w' := ((Below.refl w.heap.size w).alloc (Nat.le_refl _) o).trans (hb.mono (by simp))

set_option maxRecDepth 100000 in
set_option maxHeartbeats 16000000 in
theorem core (t s : Tm) (va vs : Value) (p : List Int) (vp : Value) (r : Tm) (ok : Bool) (w : World) (hv : TmS w va t.args) (hlim : t.lim 9223372036854775807) (hp : IntsV w vp p) (hlp : p.length ≤ 9223372036854775807) (hs : TmS w vs s.args) (hlims : s.lim 9223372036854775807)
    (hr : t.wt + s.wt ≤ 1048576 → r.wt ≤ 1048576)
    (hcs : t.wt + s.wt ≤ 1048576 → p.length ≤ 1048576 → ∀ (W : World) (v q v2 : Value), TmS W v t.args → IntsC W q p → TmS W v2 s.args → Calls Try.prog 24 #[.agg #[.string t.name, v], q, .agg #[.string s.name, v2]] W (ResEnd r ok W))
    (hci : t.wt + s.wt ≤ 1048576 → p.length ≤ 1048576 → ∀ (W : World) (v q v2 : Value), TmS W v t.args → IntsC W q p → TmS W v2 s.args → Calls Try.prog 27 #[.agg #[.string t.name, v], q, .agg #[.string s.name, v2]] W (ResEnd r ok W)) :
    Calls Try.prog 6 #[.agg #[.string t.name, va], vp, .agg #[.string s.name, vs]] w fun e w' => e = .returned (.bool true) ∧ Below w.heap.size w w' := by
  obtain ⟨pa, ca, rfl⟩ := hv.is_slice
  obtain ⟨sa, sc, rfl⟩ := hs.is_slice
  have HV := Lib.hid hv
  have HVS := Lib.hid hs
  have HP := Lib.hid hp
  have HLIM := Lib.hid hlim
  have HLIMS := Lib.hid hlims
  have HR0 := Lib.hid hr
  have HCS0 := Lib.hid hcs
  have HCI0 := Lib.hid hci
  obtain ⟨qa, qc, rfl, _⟩ := hp
  clear hv hlim hr hcs hci hs hlims
  by_cases hbig : (1048576 : Int) < p.length
  · go_enter Try.func6, Try.ntmps6
    go_wp2
    go_ret
    exact ⟨rfl, ((Below.refl _ _).alloc (Nat.le_refl _) _).alloc (by simp) _⟩
  have hpl : p.length ≤ 1048576 := by omega
  have HB_0 := Lib.hid (((Below.refl w.heap.size w).alloc (Nat.le_refl _) (.cells #[.string t.name, .slice pa t.args.length ca] 38)).alloc (by simp) (.cells #[.string s.name, .slice sa s.args.length sc] 38))
  have A_0 := Lib.hid ((two_new w (.string t.name) (.slice pa t.args.length ca) 38 _ rfl).alloc (.cells #[.string s.name, .slice sa s.args.length sc] 38))
  have B_0 := Lib.hid (two_new (w.alloc (.cells #[.string t.name, .slice pa t.args.length ca] 38)) (.string s.name) (.slice sa s.args.length sc) 38 (w.heap.size + 1) (by simp))
  go_enter Try.func6, Try.ntmps6
  go_wp2_with fail
  refine (szTerm_any t _ _ 1048576 (HV.out.kept HB_0.out) HLIM.out (by omega) (by omega)).mono ?_
  rintro e w1 ⟨rfl, hb⟩
  have HB_1 := Lib.hid (carry_below HB_0.out (Nat.le_refl _) hb)
  have A_1 := Lib.hid (A_0.out.kept hb)
  have B_1 := Lib.hid (B_0.out.kept hb)
  have z_1 : (w.alloc (.cells #[.string t.name, .slice pa t.args.length ca] 38)).heap.size + 1 ≤ w1.heap.size := by have := hb.size; simpa using this
  have z_0 : w.heap.size + 2 ≤ w1.heap.size := by have h := z_1; simp only [World.size_alloc] at h; omega
  clear hb
  obtain ⟨Ar0, Ar1, Ar2⟩ := A_1.out
  have Alt : w.heap.size < w1.heap.size := World.block_lt_of_cell? w1 ⟨w.heap.size, 0, none⟩ Ar0
  obtain ⟨Br0, Br1, Br2⟩ := B_1.out
  have Blt : (w.heap.size + 1) < w1.heap.size := World.block_lt_of_cell? w1 ⟨(w.heap.size + 1), 0, none⟩ Br0
  rcases szR_cases 1048576 t.wt with ⟨c1, c2⟩ | ⟨c1, c2⟩
  · rw [c2]
    clear c2
    go_wp2
    go_ret
    exact ⟨rfl, HB_1.out⟩
  rw [c2]
  clear c2
  have hcl : (0 : Int) ≤ 1048576 - (t.wt : Int) := by omega
  go_wp2_with fail
  refine (szTerm_any s _ _ (1048576 - (t.wt : Int)) (HVS.out.kept HB_1.out) HLIMS.out (by omega) (by omega)).mono ?_
  rintro e w2 ⟨rfl, hb⟩
  clear Ar0 Ar1 Ar2 Alt Br0 Br1 Br2 Blt
  have HB_2 := Lib.hid (carry_below HB_1.out (Nat.le_refl _) hb)
  have A_2 := Lib.hid (A_1.out.kept hb)
  have B_2 := Lib.hid (B_1.out.kept hb)
  have z_2 : w1.heap.size ≤ w2.heap.size := hb.size
  clear HB_1 A_1 B_1
  clear hb
  obtain ⟨Ar0, Ar1, Ar2⟩ := A_2.out
  have Alt : w.heap.size < w2.heap.size := World.block_lt_of_cell? w2 ⟨w.heap.size, 0, none⟩ Ar0
  obtain ⟨Br0, Br1, Br2⟩ := B_2.out
  have Blt : (w.heap.size + 1) < w2.heap.size := World.block_lt_of_cell? w2 ⟨(w.heap.size + 1), 0, none⟩ Br0
  rcases szR_cases (1048576 - (t.wt : Int)) s.wt with ⟨d1, d2⟩ | ⟨d1, d2⟩
  · rw [d2]
    clear d2
    go_wp2
    go_ret
    exact ⟨rfl, HB_2.out⟩
  rw [d2]
  clear d2
  have hsum : t.wt + s.wt ≤ 1048576 := by omega
  have hw : t.wt ≤ 1048576 := by omega
  have hws : s.wt ≤ 1048576 := by omega
  have HL := Lib.hid (Tm.lim_of_wt t 1048576 hw)
  have HLS := Lib.hid (Tm.lim_of_wt s 1048576 hws)
  have HRW := Lib.hid (HR0.out hsum)
  have HLR := Lib.hid (Tm.lim_of_wt r 1048576 HRW.out)
  have HCS := Lib.hid (HCS0.out hsum hpl)
  have HCI := Lib.hid (HCI0.out hsum hpl)
  have hrl : sumL Tm.sz r.args ≤ 1048577 := by have := r.sz_eq; have := Tm.sz_wt r; have := HRW.out; omega
  have htl : sumL Tm.sz t.args ≤ 1048577 := by have := t.sz_eq; have := Tm.sz_wt t; omega
  have hsl : sumL Tm.sz s.args ≤ 1048577 := by have := s.sz_eq; have := Tm.sz_wt s; omega
  have hd1 : ¬ (1048576 : Int) - (t.wt : Int) - (s.wt : Int) < 0 := by omega
  go_wp2_with fail
  have CC : Hid (∀ (x : Tm) (v : Value) (W : World), Below w2.heap.size w2 W → (x = t ∧ v = .slice pa t.args.length ca) ∨ (x = s ∧ v = .slice sa s.args.length sc) → Calls Try.prog 25 #[.agg #[.string x.name, v]] W (ToEnd x W)) := Lib.hid (fun x v W hW h => by
    rcases h with ⟨rfl, rfl⟩ | ⟨rfl, rfl⟩
    · exact toTerm_any x W _ ((HV.out.kept HB_2.out).kept hW) hw
    · exact toTerm_any x W _ ((HVS.out.kept HB_2.out).kept hW) hws)
  have CP : Hid (∀ W : World, Below w2.heap.size w2 W → Calls Try.prog 26 #[.slice qa p.length qc] W (ToIEnd p W)) := Lib.hid (fun W hW => toIntS_any p _ W ((HP.out.kept HB_2.out).kept hW) hpl)
  go_cut [8, 9] from 33 (fun x y wx => Got r ok w2 x y wx)
  case first =>
    have hB : Below w2.heap.size w2 w2.drew := (Below.refl _ _).drew
    go_region_held3 (fun w' => w'.cell? ⟨w.heap.size, 0, none⟩ = some (.string t.name) ∧ w'.cell? ⟨w.heap.size, 1, none⟩ = some (.slice pa t.args.length ca) ∧ w'.cell? ⟨w.heap.size + 1, 0, none⟩ = some (.string s.name) ∧ w'.cell? ⟨w.heap.size + 1, 1, none⟩ = some (.slice sa s.args.length sc)) (first | exact ⟨by assumption, by assumption, by assumption, by assumption⟩ | exact ⟨far (by omega) (by assumption), far (by omega) (by assumption), far (by omega) (by assumption), far (by omega) (by assumption)⟩ | go_keep) (first | (go_at_call 25; refine (CC.out _ _ _ (by first | exact hB | exact hB.alloc hB.size _) (by first | exact .inl ⟨rfl, rfl⟩ | exact .inr ⟨rfl, rfl⟩)).mono ?_; rintro e wn ⟨vn, rfl, ho, hb⟩; obtain ⟨up, uc, rfl⟩ := ho.read.is_slice; have hb' := hb; (first | replace hb' := pre_alloc2 hb' | replace hb' := pre_alloc hb' | skip); have q0 : wn.cell? ⟨w.heap.size, 0, none⟩ = some (.string t.name) := carry_cell' hb' (by assumption); have q1 : wn.cell? ⟨w.heap.size, 1, none⟩ = some (.slice pa t.args.length ca) := carry_cell' hb' (by assumption); have q2 : wn.cell? ⟨w.heap.size + 1, 0, none⟩ = some (.string s.name) := carry_cell' hb' (by assumption); have q3 : wn.cell? ⟨w.heap.size + 1, 1, none⟩ = some (.slice sa s.args.length sc) := carry_cell' hb' (by assumption); (first | (have hz := (two_new2 _ _ _ _).kept hb; have hzB := hB.size) | (have hz := (two_new _ _ _ _ _ rfl).kept hb; have hzB := hB.size) | have hz := hz.kept hb | skip); (try have hz0 := hz.1); (try have hz1 := hz.2.1); (try have hz2 := hz.2.2); (try have HTp := Lib.hid (HTp.out.kept hb')); (try have HT2 := Lib.hid (HT1.out.kept hb')); have hB := carry_below hB (Nat.le_refl _) hb'; have HT1 := Lib.hid ho.read; clear hb ho) | (go_at_call 26; refine (CP.out _ (by first | exact hB | exact hB.alloc hB.size _)).mono ?_; rintro e wn ⟨vn, rfl, ho, hb⟩; obtain ⟨up, uc, rfl, _⟩ := ho.read; have hb' := hb; (first | replace hb' := pre_alloc2 hb' | replace hb' := pre_alloc hb' | skip); have q0 : wn.cell? ⟨w.heap.size, 0, none⟩ = some (.string t.name) := carry_cell' hb' (by assumption); have q1 : wn.cell? ⟨w.heap.size, 1, none⟩ = some (.slice pa t.args.length ca) := carry_cell' hb' (by assumption); have q2 : wn.cell? ⟨w.heap.size + 1, 0, none⟩ = some (.string s.name) := carry_cell' hb' (by assumption); have q3 : wn.cell? ⟨w.heap.size + 1, 1, none⟩ = some (.slice sa s.args.length sc) := carry_cell' hb' (by assumption); (first | (have hz := (two_new2 _ _ _ _).kept hb; have hzB := hB.size) | (have hz := (two_new _ _ _ _ _ rfl).kept hb; have hzB := hB.size) | have hz := hz.kept hb | skip); (try have hz0 := hz.1); (try have hz1 := hz.2.1); (try have hz2 := hz.2.2); (try have HT2 := Lib.hid (HT2.out.kept hb')); (try have HT1 := Lib.hid (HT1.out.kept hb')); have hB := carry_below hB (Nat.le_refl _) hb'; have HTp := Lib.hid ho.readC; clear hb ho) | (go_at_call 24; have hBW := hB; refine (HCS.out _ _ _ _ (by first | exact HT1.out | exact HT2.out | exact HT1.out.alloc _ | exact HT2.out.alloc _) (by first | exact HTp.out | exact HTp.out.kept ((Below.refl _ _).alloc (Nat.le_refl _) _)) (by first | exact HT1.out | exact HT2.out | exact HT1.out.alloc _ | exact HT2.out.alloc _)).mono ?_; rintro e wn ⟨vn, rfl, ho, hb⟩; obtain ⟨up, uc, rfl⟩ := ho.read.is_slice; (try have hzl := World.block_lt_of_cell? _ _ hz.1); have hb' := hb; (first | replace hb' := pre_alloc2 hb' | replace hb' := pre_alloc hb' | skip); have q0 : wn.cell? ⟨w.heap.size, 0, none⟩ = some (.string t.name) := carry_cell' hb' (by assumption); have q1 : wn.cell? ⟨w.heap.size, 1, none⟩ = some (.slice pa t.args.length ca) := carry_cell' hb' (by assumption); have q2 : wn.cell? ⟨w.heap.size + 1, 0, none⟩ = some (.string s.name) := carry_cell' hb' (by assumption); have q3 : wn.cell? ⟨w.heap.size + 1, 1, none⟩ = some (.slice sa s.args.length sc) := carry_cell' hb' (by assumption); (first | (have hz := (two_new2 _ _ _ _).kept hb; have hzB := hB.size) | (have hz := (two_new _ _ _ _ _ rfl).kept hb; have hzB := hB.size) | have hz := hz.kept hb | skip); (try have hz0 := hz.1); (try have hz1 := hz.2.1); (try have hz2 := hz.2.2); have HGO := Lib.hid ho; have HGB := Lib.hid hb; have hB := carry_below hB (Nat.le_refl _) hb'; clear hb ho))
    all_goals (go_wp2_with fail; go_meet)
    all_goals (first | exact Got.of hBW HGB.out HGO.out | exact Got.st hzB hzl hBW HGB.out HGO.out hz | exact Got.st hzB (by simp) (hBW.alloc hBW.size _) HGB.out HGO.out hz)
  case rest =>
    obtain ⟨BWB, BWv, BWlo, BWhi, rfl, rfl, BWle, BWlo1, BWdis, htw, how, hb⟩ := hcut
    have BWhi1 := how.2
    obtain ⟨BWp, BWc, rfl⟩ := how.read.is_slice
    clear CC CP
    obtain ⟨w3, hw3⟩ : ∃ x, x = wc := ⟨_, rfl⟩
    rw [← hw3] at htw how hb BWhi1 ⊢
    clear hw3
    have BWbl : BWB < w3.heap.size := World.block_lt_of_cell? w3 ⟨BWB, 0, none⟩ htw.1
    clear Ar0 Ar1 Ar2 Alt Br0 Br1 Br2 Blt
    have HB_3 := Lib.hid (carry_below HB_2.out (Nat.le_refl _) hb)
    have A_3 := Lib.hid (A_2.out.kept hb)
    have B_3 := Lib.hid (B_2.out.kept hb)
    have z_3 : w2.heap.size ≤ w3.heap.size := hb.size
    clear HB_2 A_2 B_2
    have BW_3 := Lib.hid htw
    have W0_3 := Lib.hid (how)
    clear htw how hb
    obtain ⟨Ar0, Ar1, Ar2⟩ := A_3.out
    have Alt : w.heap.size < w3.heap.size := World.block_lt_of_cell? w3 ⟨w.heap.size, 0, none⟩ Ar0
    obtain ⟨Br0, Br1, Br2⟩ := B_3.out
    have Blt : (w.heap.size + 1) < w3.heap.size := World.block_lt_of_cell? w3 ⟨(w.heap.size + 1), 0, none⟩ Br0
    obtain ⟨BWr0, BWr1, BWr2⟩ := BW_3.out
    have BWlt : BWB < w3.heap.size := World.block_lt_of_cell? w3 ⟨BWB, 0, none⟩ BWr0
    go_wp2_with fail
    refine (toTerm_any t _ _ (HV.out.kept HB_3.out) hw).mono ?_
    rintro e w4 ⟨u4, rfl, ho, hb⟩
    obtain ⟨u4p, u4c, rfl⟩ := ho.read.is_slice
    clear Ar0 Ar1 Ar2 Alt Br0 Br1 Br2 Blt BWr0 BWr1 BWr2 BWlt
    have HB_4 := Lib.hid (carry_below HB_3.out (Nat.le_refl _) hb)
    have A_4 := Lib.hid (A_3.out.kept hb)
    have B_4 := Lib.hid (B_3.out.kept hb)
    have BW_4 := Lib.hid (BW_3.out.kept hb)
    have W0_4 := Lib.hid (W0_3.out.kept hb)
    have z_4 : w3.heap.size ≤ w4.heap.size := hb.size
    clear HB_3 A_3 B_3 BW_3 W0_3
    have X_4 := Lib.hid ((OwnI.fresh ho))
    clear hb ho
    obtain ⟨Ar0, Ar1, Ar2⟩ := A_4.out
    have Alt : w.heap.size < w4.heap.size := World.block_lt_of_cell? w4 ⟨w.heap.size, 0, none⟩ Ar0
    obtain ⟨Br0, Br1, Br2⟩ := B_4.out
    have Blt : (w.heap.size + 1) < w4.heap.size := World.block_lt_of_cell? w4 ⟨(w.heap.size + 1), 0, none⟩ Br0
    obtain ⟨BWr0, BWr1, BWr2⟩ := BW_4.out
    have BWlt : BWB < w4.heap.size := World.block_lt_of_cell? w4 ⟨BWB, 0, none⟩ BWr0
    have HB_5 := Lib.hid (HB_4.out.alloc HB_4.out.size (.cells #[.string t.name, .slice u4p t.args.length u4c] 24))
    have A_5 := Lib.hid (A_4.out.kept ((Below.refl w4.heap.size w4).alloc (Nat.le_refl _) (.cells #[.string t.name, .slice u4p t.args.length u4c] 24)))
    have B_5 := Lib.hid (B_4.out.kept ((Below.refl w4.heap.size w4).alloc (Nat.le_refl _) (.cells #[.string t.name, .slice u4p t.args.length u4c] 24)))
    have BW_5 := Lib.hid (BW_4.out.kept ((Below.refl w4.heap.size w4).alloc (Nat.le_refl _) (.cells #[.string t.name, .slice u4p t.args.length u4c] 24)))
    have W0_5 := Lib.hid (W0_4.out.kept ((Below.refl w4.heap.size w4).alloc (Nat.le_refl _) (.cells #[.string t.name, .slice u4p t.args.length u4c] 24)))
    have X_5 := Lib.hid (X_4.out.kept ((Below.refl w4.heap.size w4).alloc (Nat.le_refl _) (.cells #[.string t.name, .slice u4p t.args.length u4c] 24)))
    clear HB_4 A_4 B_4 BW_4 W0_4 X_4
    have BX_5 := Lib.hid (two_new w4 (.string t.name) (.slice u4p t.args.length u4c) 24 _ rfl)
    go_wp2_with fail
    refine (toIntS_any p _ _ (HP.out.kept HB_5.out) hpl).mono ?_
    rintro e w5 ⟨u5, rfl, ho, hb⟩
    obtain ⟨u5p, u5c, rfl, _⟩ := ho.read
    clear Ar0 Ar1 Ar2 Alt Br0 Br1 Br2 Blt BWr0 BWr1 BWr2 BWlt
    have HB_6 := Lib.hid (carry_below HB_5.out (Nat.le_refl _) hb)
    have A_6 := Lib.hid (A_5.out.kept hb)
    have B_6 := Lib.hid (B_5.out.kept hb)
    have BW_6 := Lib.hid (BW_5.out.kept hb)
    have W0_6 := Lib.hid (W0_5.out.kept hb)
    have X_6 := Lib.hid (X_5.out.kept hb)
    have BX_6 := Lib.hid (BX_5.out.kept hb)
    have z_6 : w4.heap.size + 1 ≤ w5.heap.size := by have := hb.size; simpa using this
    clear HB_5 A_5 B_5 BW_5 W0_5 X_5 BX_5
    have Q_6 := Lib.hid ((IntsI.freshAt ho (n := w4.heap.size + 1) (by simp)))
    clear hb ho
    obtain ⟨Ar0, Ar1, Ar2⟩ := A_6.out
    have Alt : w.heap.size < w5.heap.size := World.block_lt_of_cell? w5 ⟨w.heap.size, 0, none⟩ Ar0
    obtain ⟨Br0, Br1, Br2⟩ := B_6.out
    have Blt : (w.heap.size + 1) < w5.heap.size := World.block_lt_of_cell? w5 ⟨(w.heap.size + 1), 0, none⟩ Br0
    obtain ⟨BWr0, BWr1, BWr2⟩ := BW_6.out
    have BWlt : BWB < w5.heap.size := World.block_lt_of_cell? w5 ⟨BWB, 0, none⟩ BWr0
    obtain ⟨BXr0, BXr1, BXr2⟩ := BX_6.out
    have BXlt : w4.heap.size < w5.heap.size := World.block_lt_of_cell? w5 ⟨w4.heap.size, 0, none⟩ BXr0
    go_wp2_with fail
    refine (toTerm_any s _ _ (HVS.out.kept HB_6.out) hws).mono ?_
    rintro e w6 ⟨u6, rfl, ho, hb⟩
    obtain ⟨u6p, u6c, rfl⟩ := ho.read.is_slice
    clear Ar0 Ar1 Ar2 Alt Br0 Br1 Br2 Blt BWr0 BWr1 BWr2 BWlt BXr0 BXr1 BXr2 BXlt
    have HB_7 := Lib.hid (carry_below HB_6.out (Nat.le_refl _) hb)
    have A_7 := Lib.hid (A_6.out.kept hb)
    have B_7 := Lib.hid (B_6.out.kept hb)
    have BW_7 := Lib.hid (BW_6.out.kept hb)
    have W0_7 := Lib.hid (W0_6.out.kept hb)
    have X_7 := Lib.hid (X_6.out.kept hb)
    have BX_7 := Lib.hid (BX_6.out.kept hb)
    have Q_7 := Lib.hid (Q_6.out.kept hb)
    have z_7 : w5.heap.size ≤ w6.heap.size := hb.size
    clear HB_6 A_6 B_6 BW_6 W0_6 X_6 BX_6 Q_6
    have Z_7 := Lib.hid ((OwnI.fresh ho))
    clear hb ho
    obtain ⟨Ar0, Ar1, Ar2⟩ := A_7.out
    have Alt : w.heap.size < w6.heap.size := World.block_lt_of_cell? w6 ⟨w.heap.size, 0, none⟩ Ar0
    obtain ⟨Br0, Br1, Br2⟩ := B_7.out
    have Blt : (w.heap.size + 1) < w6.heap.size := World.block_lt_of_cell? w6 ⟨(w.heap.size + 1), 0, none⟩ Br0
    obtain ⟨BWr0, BWr1, BWr2⟩ := BW_7.out
    have BWlt : BWB < w6.heap.size := World.block_lt_of_cell? w6 ⟨BWB, 0, none⟩ BWr0
    obtain ⟨BXr0, BXr1, BXr2⟩ := BX_7.out
    have BXlt : w4.heap.size < w6.heap.size := World.block_lt_of_cell? w6 ⟨w4.heap.size, 0, none⟩ BXr0
    have HB_8 := Lib.hid (HB_7.out.alloc HB_7.out.size (.cells #[.string s.name, .slice u6p s.args.length u6c] 24))
    have A_8 := Lib.hid (A_7.out.kept ((Below.refl w6.heap.size w6).alloc (Nat.le_refl _) (.cells #[.string s.name, .slice u6p s.args.length u6c] 24)))
    have B_8 := Lib.hid (B_7.out.kept ((Below.refl w6.heap.size w6).alloc (Nat.le_refl _) (.cells #[.string s.name, .slice u6p s.args.length u6c] 24)))
    have BW_8 := Lib.hid (BW_7.out.kept ((Below.refl w6.heap.size w6).alloc (Nat.le_refl _) (.cells #[.string s.name, .slice u6p s.args.length u6c] 24)))
    have W0_8 := Lib.hid (W0_7.out.kept ((Below.refl w6.heap.size w6).alloc (Nat.le_refl _) (.cells #[.string s.name, .slice u6p s.args.length u6c] 24)))
    have X_8 := Lib.hid (X_7.out.kept ((Below.refl w6.heap.size w6).alloc (Nat.le_refl _) (.cells #[.string s.name, .slice u6p s.args.length u6c] 24)))
    have BX_8 := Lib.hid (BX_7.out.kept ((Below.refl w6.heap.size w6).alloc (Nat.le_refl _) (.cells #[.string s.name, .slice u6p s.args.length u6c] 24)))
    have Q_8 := Lib.hid (Q_7.out.kept ((Below.refl w6.heap.size w6).alloc (Nat.le_refl _) (.cells #[.string s.name, .slice u6p s.args.length u6c] 24)))
    have Z_8 := Lib.hid (Z_7.out.kept ((Below.refl w6.heap.size w6).alloc (Nat.le_refl _) (.cells #[.string s.name, .slice u6p s.args.length u6c] 24)))
    clear HB_7 A_7 B_7 BW_7 W0_7 X_7 BX_7 Q_7 Z_7
    have BZ_8 := Lib.hid (two_new w6 (.string s.name) (.slice u6p s.args.length u6c) 24 _ rfl)
    go_wp2_with fail
    refine (HCI.out _ _ _ _ X_8.out.read Q_8.out.1.readC Z_8.out.read).mono ?_
    rintro e w7 ⟨u7, rfl, ho, hb⟩
    obtain ⟨u7p, u7c, rfl⟩ := ho.read.is_slice
    clear Ar0 Ar1 Ar2 Alt Br0 Br1 Br2 Blt BWr0 BWr1 BWr2 BWlt BXr0 BXr1 BXr2 BXlt
    have HB_9 := Lib.hid (carry_below HB_8.out (Nat.le_refl _) hb)
    have A_9 := Lib.hid (A_8.out.kept hb)
    have B_9 := Lib.hid (B_8.out.kept hb)
    have BW_9 := Lib.hid (BW_8.out.kept hb)
    have W0_9 := Lib.hid (W0_8.out.kept hb)
    have X_9 := Lib.hid (X_8.out.kept hb)
    have BX_9 := Lib.hid (BX_8.out.kept hb)
    have Q_9 := Lib.hid (Q_8.out.kept hb)
    have Z_9 := Lib.hid (Z_8.out.kept hb)
    have BZ_9 := Lib.hid (BZ_8.out.kept hb)
    have z_9 : w6.heap.size + 1 ≤ w7.heap.size := by have := hb.size; simpa using this
    clear HB_8 A_8 B_8 BW_8 W0_8 X_8 BX_8 Q_8 Z_8 BZ_8
    have G_9 := Lib.hid ((OwnI.freshAt ho (n := w6.heap.size + 1) (by simp)))
    clear hb ho
    obtain ⟨Ar0, Ar1, Ar2⟩ := A_9.out
    have Alt : w.heap.size < w7.heap.size := World.block_lt_of_cell? w7 ⟨w.heap.size, 0, none⟩ Ar0
    obtain ⟨Br0, Br1, Br2⟩ := B_9.out
    have Blt : (w.heap.size + 1) < w7.heap.size := World.block_lt_of_cell? w7 ⟨(w.heap.size + 1), 0, none⟩ Br0
    obtain ⟨BWr0, BWr1, BWr2⟩ := BW_9.out
    have BWlt : BWB < w7.heap.size := World.block_lt_of_cell? w7 ⟨BWB, 0, none⟩ BWr0
    obtain ⟨BXr0, BXr1, BXr2⟩ := BX_9.out
    have BXlt : w4.heap.size < w7.heap.size := World.block_lt_of_cell? w7 ⟨w4.heap.size, 0, none⟩ BXr0
    obtain ⟨BZr0, BZr1, BZr2⟩ := BZ_9.out
    have BZlt : w6.heap.size < w7.heap.size := World.block_lt_of_cell? w7 ⟨w6.heap.size, 0, none⟩ BZr0
    have HB_10 := Lib.hid (HB_9.out.alloc HB_9.out.size (.cells #[.string r.name, .slice u7p r.args.length u7c] 24))
    have A_10 := Lib.hid (A_9.out.kept ((Below.refl w7.heap.size w7).alloc (Nat.le_refl _) (.cells #[.string r.name, .slice u7p r.args.length u7c] 24)))
    have B_10 := Lib.hid (B_9.out.kept ((Below.refl w7.heap.size w7).alloc (Nat.le_refl _) (.cells #[.string r.name, .slice u7p r.args.length u7c] 24)))
    have BW_10 := Lib.hid (BW_9.out.kept ((Below.refl w7.heap.size w7).alloc (Nat.le_refl _) (.cells #[.string r.name, .slice u7p r.args.length u7c] 24)))
    have W0_10 := Lib.hid (W0_9.out.kept ((Below.refl w7.heap.size w7).alloc (Nat.le_refl _) (.cells #[.string r.name, .slice u7p r.args.length u7c] 24)))
    have X_10 := Lib.hid (X_9.out.kept ((Below.refl w7.heap.size w7).alloc (Nat.le_refl _) (.cells #[.string r.name, .slice u7p r.args.length u7c] 24)))
    have BX_10 := Lib.hid (BX_9.out.kept ((Below.refl w7.heap.size w7).alloc (Nat.le_refl _) (.cells #[.string r.name, .slice u7p r.args.length u7c] 24)))
    have Q_10 := Lib.hid (Q_9.out.kept ((Below.refl w7.heap.size w7).alloc (Nat.le_refl _) (.cells #[.string r.name, .slice u7p r.args.length u7c] 24)))
    have Z_10 := Lib.hid (Z_9.out.kept ((Below.refl w7.heap.size w7).alloc (Nat.le_refl _) (.cells #[.string r.name, .slice u7p r.args.length u7c] 24)))
    have BZ_10 := Lib.hid (BZ_9.out.kept ((Below.refl w7.heap.size w7).alloc (Nat.le_refl _) (.cells #[.string r.name, .slice u7p r.args.length u7c] 24)))
    have G_10 := Lib.hid (G_9.out.kept ((Below.refl w7.heap.size w7).alloc (Nat.le_refl _) (.cells #[.string r.name, .slice u7p r.args.length u7c] 24)))
    clear HB_9 A_9 B_9 BW_9 W0_9 X_9 BX_9 Q_9 Z_9 BZ_9 G_9
    have BG_10 := Lib.hid (two_new w7 (.string r.name) (.slice u7p r.args.length u7c) 24 _ rfl)
    have CE := eqTerm_any r r _ _ _ G_10.out.read W0_10.out.read HLR.out HLR.out
    rw [eqT_self] at CE
    have HCE := Lib.hid CE
    clear CE
    go_wp2_with fail
    refine HCE.out.mono ?_
    rintro e w8 ⟨rfl, hb⟩
    clear Ar0 Ar1 Ar2 Alt Br0 Br1 Br2 Blt BWr0 BWr1 BWr2 BWlt BXr0 BXr1 BXr2 BXlt BZr0 BZr1 BZr2 BZlt
    have HB_11 := Lib.hid (carry_below HB_10.out (Nat.le_refl _) hb)
    have A_11 := Lib.hid (A_10.out.kept hb)
    have B_11 := Lib.hid (B_10.out.kept hb)
    have BW_11 := Lib.hid (BW_10.out.kept hb)
    have W0_11 := Lib.hid (W0_10.out.kept hb)
    have X_11 := Lib.hid (X_10.out.kept hb)
    have BX_11 := Lib.hid (BX_10.out.kept hb)
    have Q_11 := Lib.hid (Q_10.out.kept hb)
    have Z_11 := Lib.hid (Z_10.out.kept hb)
    have BZ_11 := Lib.hid (BZ_10.out.kept hb)
    have G_11 := Lib.hid (G_10.out.kept hb)
    have BG_11 := Lib.hid (BG_10.out.kept hb)
    have z_11 : w7.heap.size + 1 ≤ w8.heap.size := by have := hb.size; simpa using this
    clear HB_10 A_10 B_10 BW_10 W0_10 X_10 BX_10 Q_10 Z_10 BZ_10 G_10 BG_10
    clear hb HCE
    obtain ⟨Ar0, Ar1, Ar2⟩ := A_11.out
    have Alt : w.heap.size < w8.heap.size := World.block_lt_of_cell? w8 ⟨w.heap.size, 0, none⟩ Ar0
    obtain ⟨Br0, Br1, Br2⟩ := B_11.out
    have Blt : (w.heap.size + 1) < w8.heap.size := World.block_lt_of_cell? w8 ⟨(w.heap.size + 1), 0, none⟩ Br0
    obtain ⟨BWr0, BWr1, BWr2⟩ := BW_11.out
    have BWlt : BWB < w8.heap.size := World.block_lt_of_cell? w8 ⟨BWB, 0, none⟩ BWr0
    obtain ⟨BXr0, BXr1, BXr2⟩ := BX_11.out
    have BXlt : w4.heap.size < w8.heap.size := World.block_lt_of_cell? w8 ⟨w4.heap.size, 0, none⟩ BXr0
    obtain ⟨BZr0, BZr1, BZr2⟩ := BZ_11.out
    have BZlt : w6.heap.size < w8.heap.size := World.block_lt_of_cell? w8 ⟨w6.heap.size, 0, none⟩ BZr0
    obtain ⟨BGr0, BGr1, BGr2⟩ := BG_11.out
    have BGlt : w7.heap.size < w8.heap.size := World.block_lt_of_cell? w8 ⟨w7.heap.size, 0, none⟩ BGr0
    have CT : Hid (∀ W : World, Below w8.heap.size w8 W → Calls Try.prog 25 #[.agg #[.string t.name, .slice pa t.args.length ca]] W (ToEnd t W)) := Lib.hid (fun W hW => toTerm_any t W _ ((HV.out.kept HB_11.out).kept hW) hw)
    have CE : Hid (∀ (W : World) (v : Value), Below w8.heap.size w8 W → TmS W v t.args → Calls Try.prog 13 #[.agg #[.string t.name, .slice u4p t.args.length u4c], .agg #[.string t.name, v]] W (EqEnd true W)) := Lib.hid (fun W v hW hv => by
      have h := eqTerm_any t t W _ v (X_11.out.read.kept hW) hv HL.out HL.out
      rwa [eqT_self] at h)
    have hB0 : Below w8.heap.size w8 w8.drew := (Below.refl _ _).drew
    go_wp2_with fail
    go_region_held3 (fun w' => w'.cell? ⟨w.heap.size, 0, none⟩ = some ((.string t.name)) ∧ w'.cell? ⟨w.heap.size, 1, none⟩ = some (.slice pa t.args.length ca) ∧ w'.cell? ⟨w4.heap.size, 0, none⟩ = some ((.string t.name)) ∧ w'.cell? ⟨w4.heap.size, 1, none⟩ = some (.slice u4p t.args.length u4c) ∧ Below w8.heap.size w8 w') (first | exact ⟨by assumption, by assumption, by assumption, by assumption, by assumption⟩ | go_keep) (first | (go_at_call 25; refine (CT.out _ hB0).mono ?_; rintro e w9a ⟨v6, rfl, ho, hb⟩; have q0 : w9a.cell? ⟨w.heap.size, 0, none⟩ = some ((.string t.name)) := carry_cell' hb (by assumption); have q1 : w9a.cell? ⟨w.heap.size, 1, none⟩ = some (.slice pa t.args.length ca) := carry_cell' hb (by assumption); have q2 : w9a.cell? ⟨w4.heap.size, 0, none⟩ = some ((.string t.name)) := carry_cell' hb (by assumption); have q3 : w9a.cell? ⟨w4.heap.size, 1, none⟩ = some (.slice u4p t.args.length u4c) := carry_cell' hb (by assumption); have hB6 := carry_below hB0 (Nat.le_refl _) hb; have HT6 := Lib.hid ho.read; clear hb ho) | (go_at_call 13; refine (CE.out _ _ hB6 HT6.out).mono ?_; rintro e w9 ⟨rfl, hb⟩; have r0 : w9.cell? ⟨w.heap.size, 0, none⟩ = some ((.string t.name)) := carry_cell' hb (by assumption); have r1 : w9.cell? ⟨w.heap.size, 1, none⟩ = some (.slice pa t.args.length ca) := carry_cell' hb (by assumption); have r2 : w9.cell? ⟨w4.heap.size, 0, none⟩ = some ((.string t.name)) := carry_cell' hb (by assumption); have r3 : w9.cell? ⟨w4.heap.size, 1, none⟩ = some (.slice u4p t.args.length u4c) := carry_cell' hb (by assumption); have hB7 := carry_below hB6 (Nat.le_refl _) hb; clear hb))
    clear Ar0 Ar1 Ar2 Alt Br0 Br1 Br2 Blt BWr0 BWr1 BWr2 BWlt BXr0 BXr1 BXr2 BXlt BZr0 BZr1 BZr2 BZlt BGr0 BGr1 BGr2 BGlt
    have HB_12 := Lib.hid (carry_below HB_11.out (Nat.le_refl _) hB7)
    have A_12 := Lib.hid (A_11.out.kept hB7)
    have B_12 := Lib.hid (B_11.out.kept hB7)
    have BW_12 := Lib.hid (BW_11.out.kept hB7)
    have W0_12 := Lib.hid (W0_11.out.kept hB7)
    have X_12 := Lib.hid (X_11.out.kept hB7)
    have BX_12 := Lib.hid (BX_11.out.kept hB7)
    have Q_12 := Lib.hid (Q_11.out.kept hB7)
    have Z_12 := Lib.hid (Z_11.out.kept hB7)
    have BZ_12 := Lib.hid (BZ_11.out.kept hB7)
    have G_12 := Lib.hid (G_11.out.kept hB7)
    have BG_12 := Lib.hid (BG_11.out.kept hB7)
    have z_12 : w8.heap.size ≤ w9.heap.size := hB7.size
    clear HB_11 A_11 B_11 BW_11 W0_11 X_11 BX_11 Q_11 Z_11 BZ_11 G_11 BG_11
    clear hB7 hB6 hB0 q0 q1 q2 q3 r0 r1 r2 r3 HT6 CT CE
    obtain ⟨Ar0, Ar1, Ar2⟩ := A_12.out
    have Alt : w.heap.size < w9.heap.size := World.block_lt_of_cell? w9 ⟨w.heap.size, 0, none⟩ Ar0
    obtain ⟨Br0, Br1, Br2⟩ := B_12.out
    have Blt : (w.heap.size + 1) < w9.heap.size := World.block_lt_of_cell? w9 ⟨(w.heap.size + 1), 0, none⟩ Br0
    obtain ⟨BWr0, BWr1, BWr2⟩ := BW_12.out
    have BWlt : BWB < w9.heap.size := World.block_lt_of_cell? w9 ⟨BWB, 0, none⟩ BWr0
    obtain ⟨BXr0, BXr1, BXr2⟩ := BX_12.out
    have BXlt : w4.heap.size < w9.heap.size := World.block_lt_of_cell? w9 ⟨w4.heap.size, 0, none⟩ BXr0
    obtain ⟨BZr0, BZr1, BZr2⟩ := BZ_12.out
    have BZlt : w6.heap.size < w9.heap.size := World.block_lt_of_cell? w9 ⟨w6.heap.size, 0, none⟩ BZr0
    obtain ⟨BGr0, BGr1, BGr2⟩ := BG_12.out
    have BGlt : w7.heap.size < w9.heap.size := World.block_lt_of_cell? w9 ⟨w7.heap.size, 0, none⟩ BGr0
    go_wp2_with fail
    refine (toIntS_any p _ _ (HP.out.kept HB_12.out) hpl).mono ?_
    rintro e w10 ⟨u10, rfl, ho, hb⟩
    obtain ⟨u10p, u10c, rfl, _⟩ := ho.read
    clear Ar0 Ar1 Ar2 Alt Br0 Br1 Br2 Blt BWr0 BWr1 BWr2 BWlt BXr0 BXr1 BXr2 BXlt BZr0 BZr1 BZr2 BZlt BGr0 BGr1 BGr2 BGlt
    have HB_13 := Lib.hid (carry_below HB_12.out (Nat.le_refl _) hb)
    have A_13 := Lib.hid (A_12.out.kept hb)
    have B_13 := Lib.hid (B_12.out.kept hb)
    have BW_13 := Lib.hid (BW_12.out.kept hb)
    have W0_13 := Lib.hid (W0_12.out.kept hb)
    have X_13 := Lib.hid (X_12.out.kept hb)
    have BX_13 := Lib.hid (BX_12.out.kept hb)
    have Q_13 := Lib.hid (Q_12.out.kept hb)
    have Z_13 := Lib.hid (Z_12.out.kept hb)
    have BZ_13 := Lib.hid (BZ_12.out.kept hb)
    have G_13 := Lib.hid (G_12.out.kept hb)
    have BG_13 := Lib.hid (BG_12.out.kept hb)
    have z_13 : w9.heap.size ≤ w10.heap.size := hb.size
    clear HB_12 A_12 B_12 BW_12 W0_12 X_12 BX_12 Q_12 Z_12 BZ_12 G_12 BG_12
    have R_13 := Lib.hid ((IntsI.fresh ho))
    clear hb ho
    obtain ⟨Ar0, Ar1, Ar2⟩ := A_13.out
    have Alt : w.heap.size < w10.heap.size := World.block_lt_of_cell? w10 ⟨w.heap.size, 0, none⟩ Ar0
    obtain ⟨Br0, Br1, Br2⟩ := B_13.out
    have Blt : (w.heap.size + 1) < w10.heap.size := World.block_lt_of_cell? w10 ⟨(w.heap.size + 1), 0, none⟩ Br0
    obtain ⟨BWr0, BWr1, BWr2⟩ := BW_13.out
    have BWlt : BWB < w10.heap.size := World.block_lt_of_cell? w10 ⟨BWB, 0, none⟩ BWr0
    obtain ⟨BXr0, BXr1, BXr2⟩ := BX_13.out
    have BXlt : w4.heap.size < w10.heap.size := World.block_lt_of_cell? w10 ⟨w4.heap.size, 0, none⟩ BXr0
    obtain ⟨BZr0, BZr1, BZr2⟩ := BZ_13.out
    have BZlt : w6.heap.size < w10.heap.size := World.block_lt_of_cell? w10 ⟨w6.heap.size, 0, none⟩ BZr0
    obtain ⟨BGr0, BGr1, BGr2⟩ := BG_13.out
    have BGlt : w7.heap.size < w10.heap.size := World.block_lt_of_cell? w10 ⟨w7.heap.size, 0, none⟩ BGr0
    go_wp2_with fail
    refine (eqIntS_any p _ _ _ Q_13.out.read R_13.out.read hpl).mono ?_
    rintro e w11 ⟨rfl, hb⟩
    clear Ar0 Ar1 Ar2 Alt Br0 Br1 Br2 Blt BWr0 BWr1 BWr2 BWlt BXr0 BXr1 BXr2 BXlt BZr0 BZr1 BZr2 BZlt BGr0 BGr1 BGr2 BGlt
    have HB_14 := Lib.hid (carry_below HB_13.out (Nat.le_refl _) hb)
    have A_14 := Lib.hid (A_13.out.kept hb)
    have B_14 := Lib.hid (B_13.out.kept hb)
    have BW_14 := Lib.hid (BW_13.out.kept hb)
    have W0_14 := Lib.hid (W0_13.out.kept hb)
    have X_14 := Lib.hid (X_13.out.kept hb)
    have BX_14 := Lib.hid (BX_13.out.kept hb)
    have Q_14 := Lib.hid (Q_13.out.kept hb)
    have Z_14 := Lib.hid (Z_13.out.kept hb)
    have BZ_14 := Lib.hid (BZ_13.out.kept hb)
    have G_14 := Lib.hid (G_13.out.kept hb)
    have BG_14 := Lib.hid (BG_13.out.kept hb)
    have R_14 := Lib.hid (R_13.out.kept hb)
    have z_14 : w10.heap.size ≤ w11.heap.size := hb.size
    clear HB_13 A_13 B_13 BW_13 W0_13 X_13 BX_13 Q_13 Z_13 BZ_13 G_13 BG_13 R_13
    clear hb
    obtain ⟨Ar0, Ar1, Ar2⟩ := A_14.out
    have Alt : w.heap.size < w11.heap.size := World.block_lt_of_cell? w11 ⟨w.heap.size, 0, none⟩ Ar0
    obtain ⟨Br0, Br1, Br2⟩ := B_14.out
    have Blt : (w.heap.size + 1) < w11.heap.size := World.block_lt_of_cell? w11 ⟨(w.heap.size + 1), 0, none⟩ Br0
    obtain ⟨BWr0, BWr1, BWr2⟩ := BW_14.out
    have BWlt : BWB < w11.heap.size := World.block_lt_of_cell? w11 ⟨BWB, 0, none⟩ BWr0
    obtain ⟨BXr0, BXr1, BXr2⟩ := BX_14.out
    have BXlt : w4.heap.size < w11.heap.size := World.block_lt_of_cell? w11 ⟨w4.heap.size, 0, none⟩ BXr0
    obtain ⟨BZr0, BZr1, BZr2⟩ := BZ_14.out
    have BZlt : w6.heap.size < w11.heap.size := World.block_lt_of_cell? w11 ⟨w6.heap.size, 0, none⟩ BZr0
    obtain ⟨BGr0, BGr1, BGr2⟩ := BG_14.out
    have BGlt : w7.heap.size < w11.heap.size := World.block_lt_of_cell? w11 ⟨w7.heap.size, 0, none⟩ BGr0
    have CT : Hid (∀ W : World, Below w11.heap.size w11 W → Calls Try.prog 25 #[.agg #[.string s.name, .slice sa s.args.length sc]] W (ToEnd s W)) := Lib.hid (fun W hW => toTerm_any s W _ ((HVS.out.kept HB_14.out).kept hW) hws)
    have CE : Hid (∀ (W : World) (v : Value), Below w11.heap.size w11 W → TmS W v s.args → Calls Try.prog 13 #[.agg #[.string s.name, .slice u6p s.args.length u6c], .agg #[.string s.name, v]] W (EqEnd true W)) := Lib.hid (fun W v hW hv => by
      have h := eqTerm_any s s W _ v (Z_14.out.read.kept hW) hv HLS.out HLS.out
      rwa [eqT_self] at h)
    have hB0 : Below w11.heap.size w11 w11.drew := (Below.refl _ _).drew
    go_wp2_with fail
    go_region_held3 (fun w' => w'.cell? ⟨w.heap.size + 1, 0, none⟩ = some ((.string s.name)) ∧ w'.cell? ⟨w.heap.size + 1, 1, none⟩ = some (.slice sa s.args.length sc) ∧ w'.cell? ⟨w6.heap.size, 0, none⟩ = some ((.string s.name)) ∧ w'.cell? ⟨w6.heap.size, 1, none⟩ = some (.slice u6p s.args.length u6c) ∧ Below w11.heap.size w11 w') (first | exact ⟨by assumption, by assumption, by assumption, by assumption, by assumption⟩ | go_keep) (first | (go_at_call 25; refine (CT.out _ hB0).mono ?_; rintro e w12a ⟨v6, rfl, ho, hb⟩; have q0 : w12a.cell? ⟨w.heap.size + 1, 0, none⟩ = some ((.string s.name)) := carry_cell' hb (by assumption); have q1 : w12a.cell? ⟨w.heap.size + 1, 1, none⟩ = some (.slice sa s.args.length sc) := carry_cell' hb (by assumption); have q2 : w12a.cell? ⟨w6.heap.size, 0, none⟩ = some ((.string s.name)) := carry_cell' hb (by assumption); have q3 : w12a.cell? ⟨w6.heap.size, 1, none⟩ = some (.slice u6p s.args.length u6c) := carry_cell' hb (by assumption); have hB6 := carry_below hB0 (Nat.le_refl _) hb; have HT6 := Lib.hid ho.read; clear hb ho) | (go_at_call 13; refine (CE.out _ _ hB6 HT6.out).mono ?_; rintro e w12 ⟨rfl, hb⟩; have r0 : w12.cell? ⟨w.heap.size + 1, 0, none⟩ = some ((.string s.name)) := carry_cell' hb (by assumption); have r1 : w12.cell? ⟨w.heap.size + 1, 1, none⟩ = some (.slice sa s.args.length sc) := carry_cell' hb (by assumption); have r2 : w12.cell? ⟨w6.heap.size, 0, none⟩ = some ((.string s.name)) := carry_cell' hb (by assumption); have r3 : w12.cell? ⟨w6.heap.size, 1, none⟩ = some (.slice u6p s.args.length u6c) := carry_cell' hb (by assumption); have hB7 := carry_below hB6 (Nat.le_refl _) hb; clear hb))
    clear Ar0 Ar1 Ar2 Alt Br0 Br1 Br2 Blt BWr0 BWr1 BWr2 BWlt BXr0 BXr1 BXr2 BXlt BZr0 BZr1 BZr2 BZlt BGr0 BGr1 BGr2 BGlt
    have HB_15 := Lib.hid (carry_below HB_14.out (Nat.le_refl _) hB7)
    have A_15 := Lib.hid (A_14.out.kept hB7)
    have B_15 := Lib.hid (B_14.out.kept hB7)
    have BW_15 := Lib.hid (BW_14.out.kept hB7)
    have W0_15 := Lib.hid (W0_14.out.kept hB7)
    have X_15 := Lib.hid (X_14.out.kept hB7)
    have BX_15 := Lib.hid (BX_14.out.kept hB7)
    have Q_15 := Lib.hid (Q_14.out.kept hB7)
    have Z_15 := Lib.hid (Z_14.out.kept hB7)
    have BZ_15 := Lib.hid (BZ_14.out.kept hB7)
    have G_15 := Lib.hid (G_14.out.kept hB7)
    have BG_15 := Lib.hid (BG_14.out.kept hB7)
    have z_15 : w11.heap.size ≤ w12.heap.size := hB7.size
    clear HB_14 A_14 B_14 BW_14 W0_14 X_14 BX_14 Q_14 Z_14 BZ_14 G_14 BG_14
    clear hB7 hB6 hB0 q0 q1 q2 q3 r0 r1 r2 r3 HT6 CT CE
    obtain ⟨Ar0, Ar1, Ar2⟩ := A_15.out
    have Alt : w.heap.size < w12.heap.size := World.block_lt_of_cell? w12 ⟨w.heap.size, 0, none⟩ Ar0
    obtain ⟨Br0, Br1, Br2⟩ := B_15.out
    have Blt : (w.heap.size + 1) < w12.heap.size := World.block_lt_of_cell? w12 ⟨(w.heap.size + 1), 0, none⟩ Br0
    obtain ⟨BWr0, BWr1, BWr2⟩ := BW_15.out
    have BWlt : BWB < w12.heap.size := World.block_lt_of_cell? w12 ⟨BWB, 0, none⟩ BWr0
    obtain ⟨BXr0, BXr1, BXr2⟩ := BX_15.out
    have BXlt : w4.heap.size < w12.heap.size := World.block_lt_of_cell? w12 ⟨w4.heap.size, 0, none⟩ BXr0
    obtain ⟨BZr0, BZr1, BZr2⟩ := BZ_15.out
    have BZlt : w6.heap.size < w12.heap.size := World.block_lt_of_cell? w12 ⟨w6.heap.size, 0, none⟩ BZr0
    obtain ⟨BGr0, BGr1, BGr2⟩ := BG_15.out
    have BGlt : w7.heap.size < w12.heap.size := World.block_lt_of_cell? w12 ⟨w7.heap.size, 0, none⟩ BGr0
    have CM := markTerm_any t 1 _ _ _ X_15.out.1 X_15.out.bound (by omega) (by omega)
    have HCM := Lib.hid CM
    clear CM
    go_wp2_with fail
    refine HCM.out.mono ?_
    rintro e w13 ⟨rfl, ho, hout⟩
    clear Ar0 Ar1 Ar2 Alt Br0 Br1 Br2 Blt BWr0 BWr1 BWr2 BWlt BXr0 BXr1 BXr2 BXlt BZr0 BZr1 BZr2 BZlt BGr0 BGr1 BGr2 BGlt
    have HB_16 := Lib.hid (below_outside HB_15.out hout (by omega))
    have A_16 := Lib.hid (A_15.out.outside hout (by omega))
    have B_16 := Lib.hid (B_15.out.outside hout (by omega))
    have BW_16 := Lib.hid (BW_15.out.outside hout (by omega))
    have W0_16 := Lib.hid (W0_15.out.outside hout (by omega))
    have BX_16 := Lib.hid (BX_15.out.outside hout (by omega))
    have Q_16 := Lib.hid (Q_15.out.outside hout (by omega))
    have Z_16 := Lib.hid (Z_15.out.outside hout (by omega))
    have BZ_16 := Lib.hid (BZ_15.out.outside hout (by omega))
    have G_16 := Lib.hid (G_15.out.outside hout (by omega))
    have BG_16 := Lib.hid (BG_15.out.outside hout (by omega))
    have z_16 : w12.heap.size ≤ w13.heap.size := hout.size
    clear HB_15 A_15 B_15 BW_15 W0_15 BX_15 Q_15 Z_15 BZ_15 G_15 BG_15
    clear ho hout HCM
    obtain ⟨Ar0, Ar1, Ar2⟩ := A_16.out
    have Alt : w.heap.size < w13.heap.size := World.block_lt_of_cell? w13 ⟨w.heap.size, 0, none⟩ Ar0
    obtain ⟨Br0, Br1, Br2⟩ := B_16.out
    have Blt : (w.heap.size + 1) < w13.heap.size := World.block_lt_of_cell? w13 ⟨(w.heap.size + 1), 0, none⟩ Br0
    obtain ⟨BWr0, BWr1, BWr2⟩ := BW_16.out
    have BWlt : BWB < w13.heap.size := World.block_lt_of_cell? w13 ⟨BWB, 0, none⟩ BWr0
    obtain ⟨BXr0, BXr1, BXr2⟩ := BX_16.out
    have BXlt : w4.heap.size < w13.heap.size := World.block_lt_of_cell? w13 ⟨w4.heap.size, 0, none⟩ BXr0
    obtain ⟨BZr0, BZr1, BZr2⟩ := BZ_16.out
    have BZlt : w6.heap.size < w13.heap.size := World.block_lt_of_cell? w13 ⟨w6.heap.size, 0, none⟩ BZr0
    obtain ⟨BGr0, BGr1, BGr2⟩ := BG_16.out
    have BGlt : w7.heap.size < w13.heap.size := World.block_lt_of_cell? w13 ⟨w7.heap.size, 0, none⟩ BGr0
    have CM2 := markIntS_any p (1 + sumL Tm.sz t.args) _ _ _ Q_16.out.1 (by omega)
    have HCM2 := Lib.hid CM2
    clear CM2
    go_wp2_with fail
    refine HCM2.out.mono ?_
    rintro e w14 ⟨rfl, ho, hout⟩
    clear Ar0 Ar1 Ar2 Alt Br0 Br1 Br2 Blt BWr0 BWr1 BWr2 BWlt BXr0 BXr1 BXr2 BXlt BZr0 BZr1 BZr2 BZlt BGr0 BGr1 BGr2 BGlt
    have HB_17 := Lib.hid (below_outside HB_16.out hout (by omega))
    have A_17 := Lib.hid (A_16.out.outside hout (by omega))
    have B_17 := Lib.hid (B_16.out.outside hout (by omega))
    have BW_17 := Lib.hid (BW_16.out.outside hout (by omega))
    have W0_17 := Lib.hid (W0_16.out.outside hout (by omega))
    have BX_17 := Lib.hid (BX_16.out.outside hout (by omega))
    have Z_17 := Lib.hid (Z_16.out.outside hout (by omega))
    have BZ_17 := Lib.hid (BZ_16.out.outside hout (by omega))
    have G_17 := Lib.hid (G_16.out.outside hout (by omega))
    have BG_17 := Lib.hid (BG_16.out.outside hout (by omega))
    have z_17 : w13.heap.size ≤ w14.heap.size := hout.size
    clear HB_16 A_16 B_16 BW_16 W0_16 BX_16 Z_16 BZ_16 G_16 BG_16
    clear ho hout HCM2
    obtain ⟨Ar0, Ar1, Ar2⟩ := A_17.out
    have Alt : w.heap.size < w14.heap.size := World.block_lt_of_cell? w14 ⟨w.heap.size, 0, none⟩ Ar0
    obtain ⟨Br0, Br1, Br2⟩ := B_17.out
    have Blt : (w.heap.size + 1) < w14.heap.size := World.block_lt_of_cell? w14 ⟨(w.heap.size + 1), 0, none⟩ Br0
    obtain ⟨BWr0, BWr1, BWr2⟩ := BW_17.out
    have BWlt : BWB < w14.heap.size := World.block_lt_of_cell? w14 ⟨BWB, 0, none⟩ BWr0
    obtain ⟨BXr0, BXr1, BXr2⟩ := BX_17.out
    have BXlt : w4.heap.size < w14.heap.size := World.block_lt_of_cell? w14 ⟨w4.heap.size, 0, none⟩ BXr0
    obtain ⟨BZr0, BZr1, BZr2⟩ := BZ_17.out
    have BZlt : w6.heap.size < w14.heap.size := World.block_lt_of_cell? w14 ⟨w6.heap.size, 0, none⟩ BZr0
    obtain ⟨BGr0, BGr1, BGr2⟩ := BG_17.out
    have BGlt : w7.heap.size < w14.heap.size := World.block_lt_of_cell? w14 ⟨w7.heap.size, 0, none⟩ BGr0
    have CM := markTerm_any s (1 + sumL Tm.sz t.args + p.length) _ _ _ Z_17.out.1 Z_17.out.bound (by omega) (by omega)
    have HCM := Lib.hid CM
    clear CM
    go_wp2_with fail
    refine HCM.out.mono ?_
    rintro e w15 ⟨rfl, ho, hout⟩
    clear Ar0 Ar1 Ar2 Alt Br0 Br1 Br2 Blt BWr0 BWr1 BWr2 BWlt BXr0 BXr1 BXr2 BXlt BZr0 BZr1 BZr2 BZlt BGr0 BGr1 BGr2 BGlt
    have HB_18 := Lib.hid (below_outside HB_17.out hout (by omega))
    have A_18 := Lib.hid (A_17.out.outside hout (by omega))
    have B_18 := Lib.hid (B_17.out.outside hout (by omega))
    have BW_18 := Lib.hid (BW_17.out.outside hout (by omega))
    have W0_18 := Lib.hid (W0_17.out.outside hout (by omega))
    have BX_18 := Lib.hid (BX_17.out.outside hout (by omega))
    have BZ_18 := Lib.hid (BZ_17.out.outside hout (by omega))
    have G_18 := Lib.hid (G_17.out.outside hout (by omega))
    have BG_18 := Lib.hid (BG_17.out.outside hout (by omega))
    have z_18 : w14.heap.size ≤ w15.heap.size := hout.size
    clear HB_17 A_17 B_17 BW_17 W0_17 BX_17 BZ_17 G_17 BG_17
    clear ho hout HCM
    obtain ⟨Ar0, Ar1, Ar2⟩ := A_18.out
    have Alt : w.heap.size < w15.heap.size := World.block_lt_of_cell? w15 ⟨w.heap.size, 0, none⟩ Ar0
    obtain ⟨Br0, Br1, Br2⟩ := B_18.out
    have Blt : (w.heap.size + 1) < w15.heap.size := World.block_lt_of_cell? w15 ⟨(w.heap.size + 1), 0, none⟩ Br0
    obtain ⟨BWr0, BWr1, BWr2⟩ := BW_18.out
    have BWlt : BWB < w15.heap.size := World.block_lt_of_cell? w15 ⟨BWB, 0, none⟩ BWr0
    obtain ⟨BXr0, BXr1, BXr2⟩ := BX_18.out
    have BXlt : w4.heap.size < w15.heap.size := World.block_lt_of_cell? w15 ⟨w4.heap.size, 0, none⟩ BXr0
    obtain ⟨BZr0, BZr1, BZr2⟩ := BZ_18.out
    have BZlt : w6.heap.size < w15.heap.size := World.block_lt_of_cell? w15 ⟨w6.heap.size, 0, none⟩ BZr0
    obtain ⟨BGr0, BGr1, BGr2⟩ := BG_18.out
    have BGlt : w7.heap.size < w15.heap.size := World.block_lt_of_cell? w15 ⟨w7.heap.size, 0, none⟩ BGr0
    have hk0 : decide (((1 + sumL Tm.sz t.args + p.length + sumL Tm.sz s.args : Nat) : Int) < 0) = false := by simp; omega
    generalize 1 + sumL Tm.sz t.args + p.length + sumL Tm.sz s.args = kk at *
    have CE := eqTerm_any r r _ _ _ G_18.out.read W0_18.out.read HLR.out HLR.out
    rw [eqT_self] at CE
    have HCE := Lib.hid CE
    clear CE
    go_wp2_with fail
    refine HCE.out.mono ?_
    rintro e w16 ⟨rfl, hb⟩
    clear Ar0 Ar1 Ar2 Alt Br0 Br1 Br2 Blt BWr0 BWr1 BWr2 BWlt BXr0 BXr1 BXr2 BXlt BZr0 BZr1 BZr2 BZlt BGr0 BGr1 BGr2 BGlt
    have HB_19 := Lib.hid (carry_below HB_18.out (Nat.le_refl _) hb)
    have A_19 := Lib.hid (A_18.out.kept hb)
    have B_19 := Lib.hid (B_18.out.kept hb)
    have BW_19 := Lib.hid (BW_18.out.kept hb)
    have W0_19 := Lib.hid (W0_18.out.kept hb)
    have BX_19 := Lib.hid (BX_18.out.kept hb)
    have BZ_19 := Lib.hid (BZ_18.out.kept hb)
    have G_19 := Lib.hid (G_18.out.kept hb)
    have BG_19 := Lib.hid (BG_18.out.kept hb)
    have z_19 : w15.heap.size ≤ w16.heap.size := hb.size
    clear HB_18 A_18 B_18 BW_18 W0_18 BX_18 BZ_18 G_18 BG_18
    clear hb HCE
    obtain ⟨Ar0, Ar1, Ar2⟩ := A_19.out
    have Alt : w.heap.size < w16.heap.size := World.block_lt_of_cell? w16 ⟨w.heap.size, 0, none⟩ Ar0
    obtain ⟨Br0, Br1, Br2⟩ := B_19.out
    have Blt : (w.heap.size + 1) < w16.heap.size := World.block_lt_of_cell? w16 ⟨(w.heap.size + 1), 0, none⟩ Br0
    obtain ⟨BWr0, BWr1, BWr2⟩ := BW_19.out
    have BWlt : BWB < w16.heap.size := World.block_lt_of_cell? w16 ⟨BWB, 0, none⟩ BWr0
    obtain ⟨BXr0, BXr1, BXr2⟩ := BX_19.out
    have BXlt : w4.heap.size < w16.heap.size := World.block_lt_of_cell? w16 ⟨w4.heap.size, 0, none⟩ BXr0
    obtain ⟨BZr0, BZr1, BZr2⟩ := BZ_19.out
    have BZlt : w6.heap.size < w16.heap.size := World.block_lt_of_cell? w16 ⟨w6.heap.size, 0, none⟩ BZr0
    obtain ⟨BGr0, BGr1, BGr2⟩ := BG_19.out
    have BGlt : w7.heap.size < w16.heap.size := World.block_lt_of_cell? w16 ⟨w7.heap.size, 0, none⟩ BGr0
    have CM := markTerm_any r 1 _ _ _ G_19.out.1 G_19.out.bound (by omega) (by omega)
    have HCM := Lib.hid CM
    clear CM
    go_wp2_with fail
    refine HCM.out.mono ?_
    rintro e w17 ⟨rfl, ho, hout⟩
    clear Ar0 Ar1 Ar2 Alt Br0 Br1 Br2 Blt BWr0 BWr1 BWr2 BWlt BXr0 BXr1 BXr2 BXlt BZr0 BZr1 BZr2 BZlt BGr0 BGr1 BGr2 BGlt
    have HB_20 := Lib.hid (below_outside HB_19.out hout (by omega))
    have A_20 := Lib.hid (A_19.out.outside hout (by omega))
    have B_20 := Lib.hid (B_19.out.outside hout (by omega))
    have BW_20 := Lib.hid (BW_19.out.outside hout (by omega))
    have W0_20 := Lib.hid (W0_19.out.outside hout (by omega))
    have BX_20 := Lib.hid (BX_19.out.outside hout (by omega))
    have BZ_20 := Lib.hid (BZ_19.out.outside hout (by omega))
    have BG_20 := Lib.hid (BG_19.out.outside hout (by omega))
    have z_20 : w16.heap.size ≤ w17.heap.size := hout.size
    clear HB_19 A_19 B_19 BW_19 W0_19 BX_19 BZ_19 BG_19
    have M_20 := Lib.hid ((show OwnI w17 _ _ _ _ from ⟨ho, Nat.le_trans G_19.out.2 hout.size⟩))
    clear ho hout HCM
    obtain ⟨Ar0, Ar1, Ar2⟩ := A_20.out
    have Alt : w.heap.size < w17.heap.size := World.block_lt_of_cell? w17 ⟨w.heap.size, 0, none⟩ Ar0
    obtain ⟨Br0, Br1, Br2⟩ := B_20.out
    have Blt : (w.heap.size + 1) < w17.heap.size := World.block_lt_of_cell? w17 ⟨(w.heap.size + 1), 0, none⟩ Br0
    obtain ⟨BWr0, BWr1, BWr2⟩ := BW_20.out
    have BWlt : BWB < w17.heap.size := World.block_lt_of_cell? w17 ⟨BWB, 0, none⟩ BWr0
    obtain ⟨BXr0, BXr1, BXr2⟩ := BX_20.out
    have BXlt : w4.heap.size < w17.heap.size := World.block_lt_of_cell? w17 ⟨w4.heap.size, 0, none⟩ BXr0
    obtain ⟨BZr0, BZr1, BZr2⟩ := BZ_20.out
    have BZlt : w6.heap.size < w17.heap.size := World.block_lt_of_cell? w17 ⟨w6.heap.size, 0, none⟩ BZr0
    obtain ⟨BGr0, BGr1, BGr2⟩ := BG_20.out
    have BGlt : w7.heap.size < w17.heap.size := World.block_lt_of_cell? w17 ⟨w7.heap.size, 0, none⟩ BGr0
    have CH := heldTerm_any r r.name 1 _ _ M_20.out.read (Nat.le_refl _) (by omega)
    have HCH := Lib.hid CH
    clear CH
    go_wp2_with fail
    refine HCH.out.mono ?_
    rintro e w18 ⟨rfl, hb⟩
    clear Ar0 Ar1 Ar2 Alt Br0 Br1 Br2 Blt BWr0 BWr1 BWr2 BWlt BXr0 BXr1 BXr2 BXlt BZr0 BZr1 BZr2 BZlt BGr0 BGr1 BGr2 BGlt
    have HB_21 := Lib.hid (carry_below HB_20.out (Nat.le_refl _) hb)
    have A_21 := Lib.hid (A_20.out.kept hb)
    have B_21 := Lib.hid (B_20.out.kept hb)
    have BW_21 := Lib.hid (BW_20.out.kept hb)
    have W0_21 := Lib.hid (W0_20.out.kept hb)
    have BX_21 := Lib.hid (BX_20.out.kept hb)
    have BZ_21 := Lib.hid (BZ_20.out.kept hb)
    have BG_21 := Lib.hid (BG_20.out.kept hb)
    have M_21 := Lib.hid (M_20.out.kept hb)
    have z_21 : w17.heap.size ≤ w18.heap.size := hb.size
    clear HB_20 A_20 B_20 BW_20 W0_20 BX_20 BZ_20 BG_20 M_20
    clear hb HCH
    obtain ⟨Ar0, Ar1, Ar2⟩ := A_21.out
    have Alt : w.heap.size < w18.heap.size := World.block_lt_of_cell? w18 ⟨w.heap.size, 0, none⟩ Ar0
    obtain ⟨Br0, Br1, Br2⟩ := B_21.out
    have Blt : (w.heap.size + 1) < w18.heap.size := World.block_lt_of_cell? w18 ⟨(w.heap.size + 1), 0, none⟩ Br0
    obtain ⟨BWr0, BWr1, BWr2⟩ := BW_21.out
    have BWlt : BWB < w18.heap.size := World.block_lt_of_cell? w18 ⟨BWB, 0, none⟩ BWr0
    obtain ⟨BXr0, BXr1, BXr2⟩ := BX_21.out
    have BXlt : w4.heap.size < w18.heap.size := World.block_lt_of_cell? w18 ⟨w4.heap.size, 0, none⟩ BXr0
    obtain ⟨BZr0, BZr1, BZr2⟩ := BZ_21.out
    have BZlt : w6.heap.size < w18.heap.size := World.block_lt_of_cell? w18 ⟨w6.heap.size, 0, none⟩ BZr0
    obtain ⟨BGr0, BGr1, BGr2⟩ := BG_21.out
    have BGlt : w7.heap.size < w18.heap.size := World.block_lt_of_cell? w18 ⟨w7.heap.size, 0, none⟩ BGr0
    have hm0 : decide (((1 + sumL Tm.sz r.args : Nat) : Int) < 0) = false := by simp; omega
    go_wp2_with fail
    have CC : Hid (∀ (x : Tm) (v : Value) (W : World), Below w18.heap.size w18 W → (x = t ∧ v = .slice pa t.args.length ca) ∨ (x = s ∧ v = .slice sa s.args.length sc) → Calls Try.prog 25 #[.agg #[.string x.name, v]] W (ToEnd x W)) := Lib.hid (fun x v W hW h => by
      rcases h with ⟨rfl, rfl⟩ | ⟨rfl, rfl⟩
      · exact toTerm_any x W _ ((HV.out.kept HB_21.out).kept hW) hw
      · exact toTerm_any x W _ ((HVS.out.kept HB_21.out).kept hW) hws)
    have CP : Hid (∀ W : World, Below w18.heap.size w18 W → Calls Try.prog 26 #[.slice qa p.length qc] W (ToIEnd p W)) := Lib.hid (fun W hW => toIntS_any p _ W ((HP.out.kept HB_21.out).kept hW) hpl)
    go_cut [18, 19] from 113 (fun x y wx => Got r ok w18 x y wx)
    case first =>
      have hB : Below w18.heap.size w18 w18.drew := (Below.refl _ _).drew
      go_region_held3 (fun w' => w'.cell? ⟨w.heap.size, 0, none⟩ = some (.string t.name) ∧ w'.cell? ⟨w.heap.size, 1, none⟩ = some (.slice pa t.args.length ca) ∧ w'.cell? ⟨w.heap.size + 1, 0, none⟩ = some (.string s.name) ∧ w'.cell? ⟨w.heap.size + 1, 1, none⟩ = some (.slice sa s.args.length sc)) (first | exact ⟨by assumption, by assumption, by assumption, by assumption⟩ | exact ⟨far (by omega) (by assumption), far (by omega) (by assumption), far (by omega) (by assumption), far (by omega) (by assumption)⟩ | go_keep) (first | (go_at_call 25; refine (CC.out _ _ _ (by first | exact hB | exact hB.alloc hB.size _) (by first | exact .inl ⟨rfl, rfl⟩ | exact .inr ⟨rfl, rfl⟩)).mono ?_; rintro e wn ⟨vn, rfl, ho, hb⟩; obtain ⟨up, uc, rfl⟩ := ho.read.is_slice; have hb' := hb; (first | replace hb' := pre_alloc2 hb' | replace hb' := pre_alloc hb' | skip); have q0 : wn.cell? ⟨w.heap.size, 0, none⟩ = some (.string t.name) := carry_cell' hb' (by assumption); have q1 : wn.cell? ⟨w.heap.size, 1, none⟩ = some (.slice pa t.args.length ca) := carry_cell' hb' (by assumption); have q2 : wn.cell? ⟨w.heap.size + 1, 0, none⟩ = some (.string s.name) := carry_cell' hb' (by assumption); have q3 : wn.cell? ⟨w.heap.size + 1, 1, none⟩ = some (.slice sa s.args.length sc) := carry_cell' hb' (by assumption); (first | (have hz := (two_new2 _ _ _ _).kept hb; have hzB := hB.size) | (have hz := (two_new _ _ _ _ _ rfl).kept hb; have hzB := hB.size) | have hz := hz.kept hb | skip); (try have hz0 := hz.1); (try have hz1 := hz.2.1); (try have hz2 := hz.2.2); (try have HTp := Lib.hid (HTp.out.kept hb')); (try have HT2 := Lib.hid (HT1.out.kept hb')); have hB := carry_below hB (Nat.le_refl _) hb'; have HT1 := Lib.hid ho.read; clear hb ho) | (go_at_call 26; refine (CP.out _ (by first | exact hB | exact hB.alloc hB.size _)).mono ?_; rintro e wn ⟨vn, rfl, ho, hb⟩; obtain ⟨up, uc, rfl, _⟩ := ho.read; have hb' := hb; (first | replace hb' := pre_alloc2 hb' | replace hb' := pre_alloc hb' | skip); have q0 : wn.cell? ⟨w.heap.size, 0, none⟩ = some (.string t.name) := carry_cell' hb' (by assumption); have q1 : wn.cell? ⟨w.heap.size, 1, none⟩ = some (.slice pa t.args.length ca) := carry_cell' hb' (by assumption); have q2 : wn.cell? ⟨w.heap.size + 1, 0, none⟩ = some (.string s.name) := carry_cell' hb' (by assumption); have q3 : wn.cell? ⟨w.heap.size + 1, 1, none⟩ = some (.slice sa s.args.length sc) := carry_cell' hb' (by assumption); (first | (have hz := (two_new2 _ _ _ _).kept hb; have hzB := hB.size) | (have hz := (two_new _ _ _ _ _ rfl).kept hb; have hzB := hB.size) | have hz := hz.kept hb | skip); (try have hz0 := hz.1); (try have hz1 := hz.2.1); (try have hz2 := hz.2.2); (try have HT2 := Lib.hid (HT2.out.kept hb')); (try have HT1 := Lib.hid (HT1.out.kept hb')); have hB := carry_below hB (Nat.le_refl _) hb'; have HTp := Lib.hid ho.readC; clear hb ho) | (go_at_call 27; have hBW := hB; refine (HCI.out _ _ _ _ (by first | exact HT1.out | exact HT2.out | exact HT1.out.alloc _ | exact HT2.out.alloc _) (by first | exact HTp.out | exact HTp.out.kept ((Below.refl _ _).alloc (Nat.le_refl _) _)) (by first | exact HT1.out | exact HT2.out | exact HT1.out.alloc _ | exact HT2.out.alloc _)).mono ?_; rintro e wn ⟨vn, rfl, ho, hb⟩; obtain ⟨up, uc, rfl⟩ := ho.read.is_slice; (try have hzl := World.block_lt_of_cell? _ _ hz.1); have hb' := hb; (first | replace hb' := pre_alloc2 hb' | replace hb' := pre_alloc hb' | skip); have q0 : wn.cell? ⟨w.heap.size, 0, none⟩ = some (.string t.name) := carry_cell' hb' (by assumption); have q1 : wn.cell? ⟨w.heap.size, 1, none⟩ = some (.slice pa t.args.length ca) := carry_cell' hb' (by assumption); have q2 : wn.cell? ⟨w.heap.size + 1, 0, none⟩ = some (.string s.name) := carry_cell' hb' (by assumption); have q3 : wn.cell? ⟨w.heap.size + 1, 1, none⟩ = some (.slice sa s.args.length sc) := carry_cell' hb' (by assumption); (first | (have hz := (two_new2 _ _ _ _).kept hb; have hzB := hB.size) | (have hz := (two_new _ _ _ _ _ rfl).kept hb; have hzB := hB.size) | have hz := hz.kept hb | skip); (try have hz0 := hz.1); (try have hz1 := hz.2.1); (try have hz2 := hz.2.2); have HGO := Lib.hid ho; have HGB := Lib.hid hb; have hB := carry_below hB (Nat.le_refl _) hb'; clear hb ho))
      all_goals (go_wp2_with fail; go_meet)
      all_goals (first | exact Got.of hBW HGB.out HGO.out | exact Got.st hzB hzl hBW HGB.out HGO.out hz | exact Got.st hzB (by simp) (hBW.alloc hBW.size _) HGB.out HGO.out hz)
    case rest =>
      obtain ⟨BHB, BHv, BHlo, BHhi, rfl, rfl, BHle, BHlo1, BHdis, htw, how, hb⟩ := hcut
      have BHhi1 := how.2
      obtain ⟨BHp, BHc, rfl⟩ := how.read.is_slice
      clear CC CP
      obtain ⟨w19, hw19⟩ : ∃ x, x = wc := ⟨_, rfl⟩
      rw [← hw19] at htw how hb BHhi1 ⊢
      clear hw19
      have BHbl : BHB < w19.heap.size := World.block_lt_of_cell? w19 ⟨BHB, 0, none⟩ htw.1
      clear Ar0 Ar1 Ar2 Alt Br0 Br1 Br2 Blt BWr0 BWr1 BWr2 BWlt BXr0 BXr1 BXr2 BXlt BZr0 BZr1 BZr2 BZlt BGr0 BGr1 BGr2 BGlt
      have HB_22 := Lib.hid (carry_below HB_21.out (Nat.le_refl _) hb)
      have A_22 := Lib.hid (A_21.out.kept hb)
      have B_22 := Lib.hid (B_21.out.kept hb)
      have BW_22 := Lib.hid (BW_21.out.kept hb)
      have W0_22 := Lib.hid (W0_21.out.kept hb)
      have BX_22 := Lib.hid (BX_21.out.kept hb)
      have BZ_22 := Lib.hid (BZ_21.out.kept hb)
      have BG_22 := Lib.hid (BG_21.out.kept hb)
      have M_22 := Lib.hid (M_21.out.kept hb)
      have z_22 : w18.heap.size ≤ w19.heap.size := hb.size
      clear HB_21 A_21 B_21 BW_21 W0_21 BX_21 BZ_21 BG_21 M_21
      have BH_22 := Lib.hid htw
      have H_22 := Lib.hid (how)
      clear htw how hb
      obtain ⟨Ar0, Ar1, Ar2⟩ := A_22.out
      have Alt : w.heap.size < w19.heap.size := World.block_lt_of_cell? w19 ⟨w.heap.size, 0, none⟩ Ar0
      obtain ⟨Br0, Br1, Br2⟩ := B_22.out
      have Blt : (w.heap.size + 1) < w19.heap.size := World.block_lt_of_cell? w19 ⟨(w.heap.size + 1), 0, none⟩ Br0
      obtain ⟨BWr0, BWr1, BWr2⟩ := BW_22.out
      have BWlt : BWB < w19.heap.size := World.block_lt_of_cell? w19 ⟨BWB, 0, none⟩ BWr0
      obtain ⟨BXr0, BXr1, BXr2⟩ := BX_22.out
      have BXlt : w4.heap.size < w19.heap.size := World.block_lt_of_cell? w19 ⟨w4.heap.size, 0, none⟩ BXr0
      obtain ⟨BZr0, BZr1, BZr2⟩ := BZ_22.out
      have BZlt : w6.heap.size < w19.heap.size := World.block_lt_of_cell? w19 ⟨w6.heap.size, 0, none⟩ BZr0
      obtain ⟨BGr0, BGr1, BGr2⟩ := BG_22.out
      have BGlt : w7.heap.size < w19.heap.size := World.block_lt_of_cell? w19 ⟨w7.heap.size, 0, none⟩ BGr0
      obtain ⟨BHr0, BHr1, BHr2⟩ := BH_22.out
      have BHlt : BHB < w19.heap.size := World.block_lt_of_cell? w19 ⟨BHB, 0, none⟩ BHr0
      have CE := eqTerm_any r r _ _ _ H_22.out.read W0_22.out.read HLR.out HLR.out
      rw [eqT_self] at CE
      have HCE := Lib.hid CE
      clear CE
      go_wp2_with fail
      refine HCE.out.mono ?_
      rintro e w20 ⟨rfl, hb⟩
      clear Ar0 Ar1 Ar2 Alt Br0 Br1 Br2 Blt BWr0 BWr1 BWr2 BWlt BXr0 BXr1 BXr2 BXlt BZr0 BZr1 BZr2 BZlt BGr0 BGr1 BGr2 BGlt BHr0 BHr1 BHr2 BHlt
      have HB_23 := Lib.hid (carry_below HB_22.out (Nat.le_refl _) hb)
      have A_23 := Lib.hid (A_22.out.kept hb)
      have B_23 := Lib.hid (B_22.out.kept hb)
      have BW_23 := Lib.hid (BW_22.out.kept hb)
      have W0_23 := Lib.hid (W0_22.out.kept hb)
      have BX_23 := Lib.hid (BX_22.out.kept hb)
      have BZ_23 := Lib.hid (BZ_22.out.kept hb)
      have BG_23 := Lib.hid (BG_22.out.kept hb)
      have M_23 := Lib.hid (M_22.out.kept hb)
      have BH_23 := Lib.hid (BH_22.out.kept hb)
      have H_23 := Lib.hid (H_22.out.kept hb)
      have z_23 : w19.heap.size ≤ w20.heap.size := hb.size
      clear HB_22 A_22 B_22 BW_22 W0_22 BX_22 BZ_22 BG_22 M_22 BH_22 H_22
      clear hb HCE
      obtain ⟨Ar0, Ar1, Ar2⟩ := A_23.out
      have Alt : w.heap.size < w20.heap.size := World.block_lt_of_cell? w20 ⟨w.heap.size, 0, none⟩ Ar0
      obtain ⟨Br0, Br1, Br2⟩ := B_23.out
      have Blt : (w.heap.size + 1) < w20.heap.size := World.block_lt_of_cell? w20 ⟨(w.heap.size + 1), 0, none⟩ Br0
      obtain ⟨BWr0, BWr1, BWr2⟩ := BW_23.out
      have BWlt : BWB < w20.heap.size := World.block_lt_of_cell? w20 ⟨BWB, 0, none⟩ BWr0
      obtain ⟨BXr0, BXr1, BXr2⟩ := BX_23.out
      have BXlt : w4.heap.size < w20.heap.size := World.block_lt_of_cell? w20 ⟨w4.heap.size, 0, none⟩ BXr0
      obtain ⟨BZr0, BZr1, BZr2⟩ := BZ_23.out
      have BZlt : w6.heap.size < w20.heap.size := World.block_lt_of_cell? w20 ⟨w6.heap.size, 0, none⟩ BZr0
      obtain ⟨BGr0, BGr1, BGr2⟩ := BG_23.out
      have BGlt : w7.heap.size < w20.heap.size := World.block_lt_of_cell? w20 ⟨w7.heap.size, 0, none⟩ BGr0
      obtain ⟨BHr0, BHr1, BHr2⟩ := BH_23.out
      have BHlt : BHB < w20.heap.size := World.block_lt_of_cell? w20 ⟨BHB, 0, none⟩ BHr0
      have CH := heldTerm_any r r.name 1 _ _ M_23.out.read (Nat.le_refl _) (by omega)
      have HCH := Lib.hid CH
      clear CH
      go_wp2_with fail
      refine HCH.out.mono ?_
      rintro e w21 ⟨rfl, hb⟩
      clear Ar0 Ar1 Ar2 Alt Br0 Br1 Br2 Blt BWr0 BWr1 BWr2 BWlt BXr0 BXr1 BXr2 BXlt BZr0 BZr1 BZr2 BZlt BGr0 BGr1 BGr2 BGlt BHr0 BHr1 BHr2 BHlt
      have HB_24 := Lib.hid (carry_below HB_23.out (Nat.le_refl _) hb)
      have A_24 := Lib.hid (A_23.out.kept hb)
      have B_24 := Lib.hid (B_23.out.kept hb)
      have BW_24 := Lib.hid (BW_23.out.kept hb)
      have W0_24 := Lib.hid (W0_23.out.kept hb)
      have BX_24 := Lib.hid (BX_23.out.kept hb)
      have BZ_24 := Lib.hid (BZ_23.out.kept hb)
      have BG_24 := Lib.hid (BG_23.out.kept hb)
      have M_24 := Lib.hid (M_23.out.kept hb)
      have BH_24 := Lib.hid (BH_23.out.kept hb)
      have H_24 := Lib.hid (H_23.out.kept hb)
      have z_24 : w20.heap.size ≤ w21.heap.size := hb.size
      clear HB_23 A_23 B_23 BW_23 W0_23 BX_23 BZ_23 BG_23 M_23 BH_23 H_23
      clear hb HCH
      obtain ⟨Ar0, Ar1, Ar2⟩ := A_24.out
      have Alt : w.heap.size < w21.heap.size := World.block_lt_of_cell? w21 ⟨w.heap.size, 0, none⟩ Ar0
      obtain ⟨Br0, Br1, Br2⟩ := B_24.out
      have Blt : (w.heap.size + 1) < w21.heap.size := World.block_lt_of_cell? w21 ⟨(w.heap.size + 1), 0, none⟩ Br0
      obtain ⟨BWr0, BWr1, BWr2⟩ := BW_24.out
      have BWlt : BWB < w21.heap.size := World.block_lt_of_cell? w21 ⟨BWB, 0, none⟩ BWr0
      obtain ⟨BXr0, BXr1, BXr2⟩ := BX_24.out
      have BXlt : w4.heap.size < w21.heap.size := World.block_lt_of_cell? w21 ⟨w4.heap.size, 0, none⟩ BXr0
      obtain ⟨BZr0, BZr1, BZr2⟩ := BZ_24.out
      have BZlt : w6.heap.size < w21.heap.size := World.block_lt_of_cell? w21 ⟨w6.heap.size, 0, none⟩ BZr0
      obtain ⟨BGr0, BGr1, BGr2⟩ := BG_24.out
      have BGlt : w7.heap.size < w21.heap.size := World.block_lt_of_cell? w21 ⟨w7.heap.size, 0, none⟩ BGr0
      obtain ⟨BHr0, BHr1, BHr2⟩ := BH_24.out
      have BHlt : BHB < w21.heap.size := World.block_lt_of_cell? w21 ⟨BHB, 0, none⟩ BHr0
      go_wp2
      go_ret
      exact ⟨rfl, HB_24.out⟩

theorem walk (t : Tm) (va : Value) (vp : Value) (p : List Int) (s : Tm) (vs : Value) (w : World) (hv : TmS w va t.args) (hlim : t.lim 9223372036854775807) (hp : IntsV w vp p) (hlp : p.length ≤ 9223372036854775807) (hs : TmS w vs s.args) (hlims : s.lim 9223372036854775807) :
    Calls Try.prog 6 #[.agg #[.string t.name, va], vp, .agg #[.string s.name, vs]] w fun e w' => e = .returned (.bool true) ∧ Below w.heap.size w w' :=
  core t s va vs p vp (repR t p s) (repA t p s).isSome w hv hlim hp hlp hs hlims (fun hw => Nat.le_trans (repR_wt t p s) hw)
    (fun hw hl W v q v2 h1 h2 h3 => (specRep_any t s p W v q v2 h1 h2 h3 (by omega) (by omega) hw hl).mono fun e w' ⟨x, h3, h4, h5⟩ => ⟨x, h3, h4, h5⟩)
    (fun hw hl W v q v2 h1 h2 h3 => (implRep_any t s p W v q v2 h1 h2 h3 (by omega) (by omega) hw hl).mono fun e w' ⟨x, h3, h4, h5⟩ => ⟨x, h3, h4, h5⟩)

/-! ### THE ROW's STEP: WRITTEN OUT: LEAVE IT -/
set_option maxRecDepth 100000 in
theorem lifted (os : Os) (started : os.Started) (H : Type) (enc : TypeId × Value → H) :
    ReturnsInHanded {} Try.checked os 6 .any (Rows.fnExactReplaceAtSpec.pre6 enc Try.prog Try.f6 Rows.fnExactReplaceAtRow.domain false) (Rows.fnExactReplaceAtSpec.post enc Try.prog Try.f6 false true false false) := by
  refine returnsInHanded_of_change (C := Try.checked) own started (by kernel_rfl) Try.func6
    (ChangeSpec.witness6 (enc := enc) (C := Try.checked) false ⟨#[], #[.agg #[.string ByteArray.empty, .slice none 0 0], .slice none 0 0, .agg #[.string ByteArray.empty, .slice none 0 0]], []⟩ 8 (by kernel_rfl) (by kernel_rfl) (by kernel_rfl) (by kernel_rfl)) ?_
  intro W base args ds gs before hval0 hW hcnd _
  have hval : ∀ (j : Nat) t v, Try.f6.params[j]? = some t → args[j]? = some v → Value.okWide Try.prog W .any base t v := hval0
  have hW' := hW
  obtain ⟨p, q, hA0, hV, rfl, hfz, hnd⟩ := hW
  have hA : DataW.TrodAll enc Try.prog W 0 (fun _ => true) true Try.f6.params.toList args.toList ds p := hA0
  rw [Try.params6] at hA hval
  obtain ⟨v0, vs0, d0, ds0, p0, q0, hargs, rfl, rfl, h0, r0⟩ := trodAll_cons hA
  obtain ⟨v1, vs1, d1, ds1, p1, q1, rfl, rfl, rfl, h1, r1⟩ := trodAll_cons r0
  obtain ⟨v2, vs2, d2, ds2, p2, q2, rfl, rfl, rfl, h2, r2⟩ := trodAll_cons r1
  obtain ⟨rfl, rfl, rfl⟩ := trodAll_nil r2
  obtain rfl : args = #[v0, v1, v2] := by cases args; simp_all
  obtain ⟨rfl, rfl⟩ := trodVars_none hV
  have k0 := h0
  have lt0 : ∀ x ∈ p0, x.block < W.heap.size := by obtain ⟨m, hm⟩ := k0; exact DataW.trod_lt m _ _ _ hm
  obtain ⟨t0, va0, rfl, tm0, lim0⟩ := open_term 9223372036854775807 (by unfold maxLen; omega) (hval 0 38 v0 rfl rfl) h0
  have k1 := h1
  have lt1 : ∀ x ∈ p1, x.block < W.heap.size := by obtain ⟨m, hm⟩ := k1; exact DataW.trod_lt m _ _ _ hm
  obtain ⟨is1, iv1, il1⟩ := open_intv (hval 1 39 v1 rfl rfl) h1
  have k2 := h2
  have lt2 : ∀ x ∈ p2, x.block < W.heap.size := by obtain ⟨m, hm⟩ := k2; exact DataW.trod_lt m _ _ _ hm
  obtain ⟨t2, va2, rfl, tm2, lim2⟩ := open_term 9223372036854775807 (by unfold maxLen; omega) (hval 2 38 v2 rfl rfl) h2
  clear hA0 hval0
  refine (walk t0 va0 v1 is1 t2 va2 W tm0 lim0 iv1 il1 tm2 lim2).mono fun e W' ⟨he, bel⟩ => ?_
  subst he
  exact ⟨_, rfl, _, _, _, [], _, [], hW', trodAll_mk1 (shut_bool Try.underlying4 _), (trodAll_cons_mk (Below.trod laidOut (by kernel_rfl) (of_decide_eq_true (by kernel_rfl)) k0 bel lt0) (trodAll_cons_mk (Below.trod laidOut (by kernel_rfl) (of_decide_eq_true (by kernel_rfl)) k1 bel lt1) (trodAll_cons_mk (Below.trod laidOut (by kernel_rfl) (of_decide_eq_true (by kernel_rfl)) k2 bel lt2) trodAll_mk0))), rfl, bel.frame _, fun h => by cases h⟩

theorem over : Rows.fnExactReplaceAtRow.holds Try.pinned (OpenSpec.ofChange Rows.fnExactReplaceAtSpec) :=
  OpenClaim.holds_of_wide 6 Try.f6 rfl rfl rfl rfl rfl rfl rfl ⟨rfl, rfl, rfl, rfl, rfl⟩ rfl rfl rfl rfl rfl (by kernel_rfl) Try.func6 (by kernel_rfl)
    (of_decide_eq_true (by kernel_rfl)) (by unfold Func.isWrapper; first | (rw [if_pos (by decide +kernel)]; kernel_rfl) | (rw [if_neg (by decide +kernel)]; exact ⟨rfl, rfl⟩))
    (fun os started H enc _ => lifted os started H enc)

/-- ████ THE STATEMENT ████ -/
theorem proved : Rows.FnExactReplaceAtSaid := over
end Go.Proofs.Ytcijmhhajbgknaa.fnExactReplaceAt
