/- Disagreement answers as its model for every two terms: no condition. -/
import Derived.Test.YtnabjnlphelccaaDisS
import Derived.Test.YtnabjnlphelccaaDisI
import Derived.Test.YtnabjnlphelccaaHeldI
import Derived.Test.YtnabjnlphelccaaMarkT
import Derived.Test.YtnabjnlphelccaaSz
import Derived.Test.YtnabjnlphelccaaTo
import Derived.Test.YtnabjnlphelccaaEq
import Derived.Test.YtnabjnlphelccaaOpenTm
import Derived.Test.YtnabjnlphelccaaJf
import Derived.Deep.RegionWith
import Derived.Deep.Cut
import Derived.OpenShut
import Derived.ShutString
import Derived.ChangeOld
namespace Go.Proofs.Ytnabjnlphelccaa.fnExactDisagreement
open Go.ChangeShapes Go.WideShapes Go.ChangeAt Go.RowKit
open Go.ChangeMaps (open_string shut_string)
set_option linter.unusedVariables false

theorem own : ownKnob Try.prog.godebug = none := by kernel_rfl
theorem laidOut : laidOutB Try.prog = true := by kernel_rfl

/-- Integers in memory below a block. -/
def IntsL (w : World) (lo hi : Nat) (v : Value) (is : List Int) : Prop :=
  hi ≤ w.heap.size ∧ ∃ a c, v = .slice a is.length c ∧ ∀ k x, is[k]? = some x → ∃ b off, a = some ⟨b, off, none⟩ ∧ b < hi ∧ w.cell? ⟨b, off + k, none⟩ = some (.int .i64 x)
theorem IntsL.read {w : World} {lo hi : Nat} {v : Value} {is : List Int} (h : IntsL w lo hi v is) : IntsV w v is := by
  obtain ⟨_, a, c, hv, hc⟩ := h
  exact ⟨a, c, hv, fun k x hk => by obtain ⟨b, off, e, _, hx⟩ := hc k x hk; exact ⟨b, off, e, hx⟩⟩
theorem IntsL.kept {w w' : World} {lo hi : Nat} {v : Value} {is : List Int} (h : IntsL w lo hi v is) (hb : Below w.heap.size w w') : IntsL w' lo hi v is := by
  obtain ⟨h0, a, c, hv, hc⟩ := h
  exact ⟨Nat.le_trans h0 hb.size, a, c, hv, fun k x hk => by obtain ⟨b, off, e, hl, hx⟩ := hc k x hk; exact ⟨b, off, e, hl, carry_cell hx hb⟩⟩
theorem IntsL.outside {a b : World} {lo hi lo' hi' : Nat} {v : Value} {is : List Int} (h : IntsL a lo hi v is) (ho : Outside (Ivl lo' hi') a b) (hd : hi ≤ lo') : IntsL b lo hi v is := by
  obtain ⟨h0, p, c, hv, hc⟩ := h
  refine ⟨Nat.le_trans h0 ho.size, p, c, hv, fun k x hk => ?_⟩
  obtain ⟨g, off, e, hl, hx⟩ := hc k x hk
  exact ⟨g, off, e, hl, (World.cell?_of_block (a := ⟨g, off + k, none⟩) (w := a) (ho.block g (by omega) (fun hk' => by have := hk'.1; omega))).trans hx⟩
theorem IntsL.ofP {w : World} {v : Value} {is : List Int} (h : PosV w v is) : IntsL w 0 w.heap.size v is := by
  obtain ⟨g, c, hv, hg, hc⟩ := h
  exact ⟨Nat.le_refl _, _, c, hv, fun k x hk => ⟨g, 0, rfl, hg, by rw [Nat.zero_add]; exact hc k x hk⟩⟩
theorem IntsL.ofO {w w' : World} {v : Value} {is : List Int} (h : IntsO w' (Fresh w w') v is) : IntsL w' 0 w'.heap.size v is := by
  rcases h with ⟨a, c, rfl, rfl⟩ | ⟨g, c, rfl, _, _, hg, _, hc⟩
  · exact ⟨Nat.le_refl _, a, c, rfl, fun k x hk => by cases hk⟩
  · exact ⟨Nat.le_refl _, _, c, rfl, fun k x hk => ⟨g, 0, rfl, hg.2, by rw [Nat.zero_add]; exact hc k x hk⟩⟩

/-- What both functions answer, as the law sees it. -/
def ResS (r : List Int) (ok : Bool) (w : World) (e : Ending) (w' : World) : Prop := ∃ v, e = .returned (.tuple #[v, .bool ok]) ∧ IntsL w' 0 w'.heap.size v r ∧ Below w.heap.size w w'
def ResI (r : List Int) (ok : Bool) (w : World) (e : Ending) (w' : World) : Prop := ∃ v, e = .returned (.tuple #[v, .bool ok]) ∧ IntsO w' (Fresh w w') v r ∧ Below w.heap.size w w'
theorem ResI.s {r : List Int} {ok : Bool} {w w' : World} {e : Ending} (h : ResI r ok w e w') : ResS r ok w e w' := by
  obtain ⟨v, he, ho, hb⟩ := h
  exact ⟨v, he, .ofO ho, hb⟩
/-- What a statement leaves that calls one of them. -/
def Got (r : List Int) (ok : Bool) (w : World) (x y : Value) (w' : World) : Prop := y = .bool ok ∧ (∃ hi, IntsL w' 0 hi x r) ∧ Below w.heap.size w w'

set_option maxRecDepth 100000 in
set_option maxHeartbeats 16000000 in
theorem core (t0 : Tm) (va0 : Value) (t1 : Tm) (va1 : Value) (r : List Int) (ok : Bool) (w : World) (h0 : TmS w va0 t0.args) (l0 : t0.lim 9223372036854775807) (h1 : TmS w va1 t1.args) (l1 : t1.lim 9223372036854775807)
    (hr : r.length ≤ 1048576)
    (hcs : t0.wt + t1.wt ≤ 1048576 → ∀ (W : World) (q0 q1 : Value), TmS W q0 t0.args → TmS W q1 t1.args → Calls Try.prog 20 #[.agg #[.string t0.name, q0], .agg #[.string t1.name, q1]] W (ResS r ok W))
    (hci : t0.wt + t1.wt ≤ 1048576 → ∀ (W : World) (q0 q1 : Value), TmS W q0 t0.args → TmS W q1 t1.args → Calls Try.prog 22 #[.agg #[.string t0.name, q0], .agg #[.string t1.name, q1]] W (ResI r ok W)) :
    Calls Try.prog 4 #[.agg #[.string t0.name, va0], .agg #[.string t1.name, va1]] w fun e w' => e = .returned (.bool true) ∧ Below w.heap.size w w' := by
  obtain ⟨pa0, ca0, rfl⟩ := h0.is_slice
  obtain ⟨pa1, ca1, rfl⟩ := h1.is_slice
  have HV0 := Lib.hid h0
  have HLIM0 := Lib.hid l0
  have HV1 := Lib.hid h1
  have HLIM1 := Lib.hid l1
  have HCS0 := Lib.hid hcs
  have HCI0 := Lib.hid hci
  clear hcs hci h0 l0 h1 l1
  have HB_0 := Lib.hid (((Below.refl w.heap.size w).alloc (Nat.le_refl _) (.cells #[.string t0.name, .slice pa0 t0.args.length ca0] 41)).alloc (by simp) (.cells #[.string t1.name, .slice pa1 t1.args.length ca1] 41))
  have A0_0 := Lib.hid ((two_new w (.string t0.name) (.slice pa0 t0.args.length ca0) 41 _ rfl).alloc (.cells #[.string t1.name, .slice pa1 t1.args.length ca1] 41))
  have A1_0 := Lib.hid (two_new (w.alloc (.cells #[.string t0.name, .slice pa0 t0.args.length ca0] 41)) (.string t1.name) (.slice pa1 t1.args.length ca1) 41 (w.heap.size + 1) (by simp))
  go_enter Try.func4, Try.ntmps4
  go_wp2_with fail
  refine (szTerm_any t0 _ _ 1048576 (HV0.out.kept HB_0.out) HLIM0.out (by omega) (by omega)).mono ?_
  rintro e w1 ⟨rfl, hb⟩
  have HB_1 := Lib.hid (carry_below HB_0.out (Nat.le_refl _) hb)
  have A0_1 := Lib.hid (A0_0.out.kept hb)
  have A1_1 := Lib.hid (A1_0.out.kept hb)
  have z_1 : (w.alloc (.cells #[.string t0.name, .slice pa0 t0.args.length ca0] 41)).heap.size + 1 ≤ w1.heap.size := by have := hb.size; simpa using this
  have z_0 : w.heap.size + 2 ≤ w1.heap.size := by have h := z_1; simp only [World.size_alloc] at h; omega
  clear hb
  obtain ⟨A0r0, A0r1, A0r2⟩ := A0_1.out
  have A0lt : w.heap.size < w1.heap.size := World.block_lt_of_cell? w1 ⟨w.heap.size, 0, none⟩ A0r0
  obtain ⟨A1r0, A1r1, A1r2⟩ := A1_1.out
  have A1lt : (w.heap.size + 1) < w1.heap.size := World.block_lt_of_cell? w1 ⟨(w.heap.size + 1), 0, none⟩ A1r0
  rcases szR_cases 1048576 (t0.wt) with ⟨c0a, c0b⟩ | ⟨c0a, c0b⟩
  · rw [c0b]
    clear c0b
    go_wp2
    go_ret
    exact ⟨rfl, HB_1.out⟩
  rw [c0b]
  clear c0b
  have hcl0 : (0 : Int) ≤ 1048576 - ((t0.wt : Nat) : Int) := by omega
  have hcn0 : ¬ 1048576 - ((t0.wt : Nat) : Int) < 0 := by omega
  go_wp2_with fail
  refine (szTerm_any t1 _ _ (1048576 - ((t0.wt : Nat) : Int)) (HV1.out.kept HB_1.out) HLIM1.out (by omega) (by omega)).mono ?_
  rintro e w2 ⟨rfl, hb⟩
  clear A0r0 A0r1 A0r2 A0lt A1r0 A1r1 A1r2 A1lt
  have HB_2 := Lib.hid (carry_below HB_1.out (Nat.le_refl _) hb)
  have A0_2 := Lib.hid (A0_1.out.kept hb)
  have A1_2 := Lib.hid (A1_1.out.kept hb)
  have z_2 : w1.heap.size ≤ w2.heap.size := hb.size
  clear HB_1 A0_1 A1_1
  clear hb
  obtain ⟨A0r0, A0r1, A0r2⟩ := A0_2.out
  have A0lt : w.heap.size < w2.heap.size := World.block_lt_of_cell? w2 ⟨w.heap.size, 0, none⟩ A0r0
  obtain ⟨A1r0, A1r1, A1r2⟩ := A1_2.out
  have A1lt : (w.heap.size + 1) < w2.heap.size := World.block_lt_of_cell? w2 ⟨(w.heap.size + 1), 0, none⟩ A1r0
  rcases szR_cases (1048576 - ((t0.wt : Nat) : Int)) (t1.wt) with ⟨c1a, c1b⟩ | ⟨c1a, c1b⟩
  · rw [c1b]
    clear c1b
    go_wp2
    go_ret
    exact ⟨rfl, HB_2.out⟩
  rw [c1b]
  clear c1b
  have hcl1 : (0 : Int) ≤ 1048576 - ((t0.wt : Nat) : Int) - ((t1.wt : Nat) : Int) := by omega
  have hcn1 : ¬ 1048576 - ((t0.wt : Nat) : Int) - ((t1.wt : Nat) : Int) < 0 := by omega
  have hsum : t0.wt + t1.wt ≤ 1048576 := by omega
  have hw0 : t0.wt ≤ 1048576 := by omega
  have HL0 := Lib.hid (Tm.lim_of_wt t0 1048576 hw0)
  have hm0 : sumL Tm.sz t0.args ≤ 2000000 := by have := t0.sz_eq; have := Tm.sz_wt t0; omega
  have hw1 : t1.wt ≤ 1048576 := by omega
  have HL1 := Lib.hid (Tm.lim_of_wt t1 1048576 hw1)
  have hm1 : sumL Tm.sz t1.args ≤ 2000000 := by have := t1.sz_eq; have := Tm.sz_wt t1; omega
  have HCS := Lib.hid (HCS0.out hsum)
  have HCI := Lib.hid (HCI0.out hsum)
  have HCJ := Lib.hid (fun W q0 q1 k0 k1 => (HCI0.out hsum W q0 q1 k0 k1).mono fun e w' h => ResI.s h)
  go_wp2_with fail
  have CCtm : Hid (∀ (x : Tm) (v : Value) (W : World), Below w2.heap.size w2 W → (x = t0 ∧ v = .slice pa0 t0.args.length ca0) ∨ (x = t1 ∧ v = .slice pa1 t1.args.length ca1) → Calls Try.prog 21 #[.agg #[.string x.name, v]] W (ToEnd x W)) := Lib.hid (fun x v W hW h => by
    rcases h with ⟨rfl, rfl⟩ | ⟨rfl, rfl⟩
    · exact toTerm_any _ W _ ((HV0.out.kept HB_2.out).kept hW) hw0
    · exact toTerm_any _ W _ ((HV1.out.kept HB_2.out).kept hW) hw1)
  go_cut [6, 7] from 35 (fun x y wx => Got r ok w2 x y wx)
  case first =>
    have hB : Below w2.heap.size w2 w2.drew := (Below.refl _ _).drew
    go_region_held3 (fun w' => w'.cell? ⟨w.heap.size, 0, none⟩ = some (.string t0.name) ∧ w'.cell? ⟨w.heap.size, 1, none⟩ = some (.slice pa0 t0.args.length ca0) ∧ w'.cell? ⟨w.heap.size + 1, 0, none⟩ = some (.string t1.name) ∧ w'.cell? ⟨w.heap.size + 1, 1, none⟩ = some (.slice pa1 t1.args.length ca1)) (first | exact ⟨by assumption, by assumption, by assumption, by assumption⟩ | go_keep) (first | (go_at_call 21; refine (CCtm.out _ _ _ hB (by first | exact .inl ⟨rfl, rfl⟩ | exact .inr ⟨rfl, rfl⟩)).mono ?_; rintro e wn ⟨vn, rfl, ho, hb⟩; obtain ⟨up, uc, rfl⟩ := ho.read.is_slice; have hb' := hb; have q0 : wn.cell? ⟨w.heap.size, 0, none⟩ = some (.string t0.name) := carry_cell' hb' (by assumption); have q1 : wn.cell? ⟨w.heap.size, 1, none⟩ = some (.slice pa0 t0.args.length ca0) := carry_cell' hb' (by assumption); have q2 : wn.cell? ⟨w.heap.size + 1, 0, none⟩ = some (.string t1.name) := carry_cell' hb' (by assumption); have q3 : wn.cell? ⟨w.heap.size + 1, 1, none⟩ = some (.slice pa1 t1.args.length ca1) := carry_cell' hb' (by assumption); (try have HTtm2 := Lib.hid (HTtm1.out.kept hb')); have hB := carry_below hB (Nat.le_refl _) hb'; have HTtm1 := Lib.hid ho.read; clear hb ho) | (go_at_call 20; refine (HCS.out _ _ _ (by first | exact HTtm1.out | exact HTtm2.out) (by first | exact HTtm1.out | exact HTtm2.out)).mono ?_; rintro e wn ⟨vn, rfl, ho, hb⟩; have HGO := Lib.hid ho; obtain ⟨_, up, uc, rfl, _⟩ := ho; have hb' := hb; have q0 : wn.cell? ⟨w.heap.size, 0, none⟩ = some (.string t0.name) := carry_cell' hb' (by assumption); have q1 : wn.cell? ⟨w.heap.size, 1, none⟩ = some (.slice pa0 t0.args.length ca0) := carry_cell' hb' (by assumption); have q2 : wn.cell? ⟨w.heap.size + 1, 0, none⟩ = some (.string t1.name) := carry_cell' hb' (by assumption); have q3 : wn.cell? ⟨w.heap.size + 1, 1, none⟩ = some (.slice pa1 t1.args.length ca1) := carry_cell' hb' (by assumption); have hB := carry_below hB (Nat.le_refl _) hb'; clear hb))
    all_goals (go_wp2_with fail; go_meet)
    all_goals (exact ⟨rfl, ⟨_, HGO.out⟩, hB⟩)
  case rest =>
    obtain ⟨rfl, ⟨BWhi, how⟩, hb⟩ := hcut
    clear CCtm
    obtain ⟨w3, hw3⟩ : ∃ x, x = wc := ⟨_, rfl⟩
    rw [← hw3] at how hb ⊢
    clear hw3
    have BWhi1 := how.1
    have HOW := Lib.hid how
    obtain ⟨_, BWp, BWc, rfl, _⟩ := how
    clear A0r0 A0r1 A0r2 A0lt A1r0 A1r1 A1r2 A1lt
    have HB_3 := Lib.hid (carry_below HB_2.out (Nat.le_refl _) hb)
    have A0_3 := Lib.hid (A0_2.out.kept hb)
    have A1_3 := Lib.hid (A1_2.out.kept hb)
    have z_3 : w2.heap.size ≤ w3.heap.size := hb.size
    clear HB_2 A0_2 A1_2
    have W0_3 := Lib.hid (HOW.out)
    clear hb HOW
    obtain ⟨A0r0, A0r1, A0r2⟩ := A0_3.out
    have A0lt : w.heap.size < w3.heap.size := World.block_lt_of_cell? w3 ⟨w.heap.size, 0, none⟩ A0r0
    obtain ⟨A1r0, A1r1, A1r2⟩ := A1_3.out
    have A1lt : (w.heap.size + 1) < w3.heap.size := World.block_lt_of_cell? w3 ⟨(w.heap.size + 1), 0, none⟩ A1r0
    go_wp2_with fail
    refine (toTerm_any t0 _ _ (HV0.out.kept HB_3.out) hw0).mono ?_
    rintro e w4 ⟨u4, rfl, ho, hb⟩
    obtain ⟨u4p, u4c, rfl⟩ := ho.read.is_slice
    clear A0r0 A0r1 A0r2 A0lt A1r0 A1r1 A1r2 A1lt
    have HB_4 := Lib.hid (carry_below HB_3.out (Nat.le_refl _) hb)
    have A0_4 := Lib.hid (A0_3.out.kept hb)
    have A1_4 := Lib.hid (A1_3.out.kept hb)
    have W0_4 := Lib.hid (W0_3.out.kept hb)
    have z_4 : w3.heap.size ≤ w4.heap.size := hb.size
    clear HB_3 A0_3 A1_3 W0_3
    have X0_4 := Lib.hid ((OwnI.fresh ho))
    clear hb ho
    obtain ⟨A0r0, A0r1, A0r2⟩ := A0_4.out
    have A0lt : w.heap.size < w4.heap.size := World.block_lt_of_cell? w4 ⟨w.heap.size, 0, none⟩ A0r0
    obtain ⟨A1r0, A1r1, A1r2⟩ := A1_4.out
    have A1lt : (w.heap.size + 1) < w4.heap.size := World.block_lt_of_cell? w4 ⟨(w.heap.size + 1), 0, none⟩ A1r0
    have HB_5 := Lib.hid (HB_4.out.alloc HB_4.out.size (.cells #[.string t0.name, .slice u4p t0.args.length u4c] 30))
    have A0_5 := Lib.hid (A0_4.out.kept ((Below.refl w4.heap.size w4).alloc (Nat.le_refl _) (.cells #[.string t0.name, .slice u4p t0.args.length u4c] 30)))
    have A1_5 := Lib.hid (A1_4.out.kept ((Below.refl w4.heap.size w4).alloc (Nat.le_refl _) (.cells #[.string t0.name, .slice u4p t0.args.length u4c] 30)))
    have W0_5 := Lib.hid (W0_4.out.kept ((Below.refl w4.heap.size w4).alloc (Nat.le_refl _) (.cells #[.string t0.name, .slice u4p t0.args.length u4c] 30)))
    have X0_5 := Lib.hid (X0_4.out.kept ((Below.refl w4.heap.size w4).alloc (Nat.le_refl _) (.cells #[.string t0.name, .slice u4p t0.args.length u4c] 30)))
    clear HB_4 A0_4 A1_4 W0_4 X0_4
    have BX0_5 := Lib.hid (two_new w4 (.string t0.name) (.slice u4p t0.args.length u4c) 30 _ rfl)
    go_wp2_with fail
    refine (toTerm_any t1 _ _ (HV1.out.kept HB_5.out) hw1).mono ?_
    rintro e w5 ⟨u5, rfl, ho, hb⟩
    obtain ⟨u5p, u5c, rfl⟩ := ho.read.is_slice
    clear A0r0 A0r1 A0r2 A0lt A1r0 A1r1 A1r2 A1lt
    have HB_6 := Lib.hid (carry_below HB_5.out (Nat.le_refl _) hb)
    have A0_6 := Lib.hid (A0_5.out.kept hb)
    have A1_6 := Lib.hid (A1_5.out.kept hb)
    have W0_6 := Lib.hid (W0_5.out.kept hb)
    have X0_6 := Lib.hid (X0_5.out.kept hb)
    have BX0_6 := Lib.hid (BX0_5.out.kept hb)
    have z_6 : w4.heap.size + 1 ≤ w5.heap.size := by have := hb.size; simpa using this
    clear HB_5 A0_5 A1_5 W0_5 X0_5 BX0_5
    have X1_6 := Lib.hid ((OwnI.freshAt ho (n := w4.heap.size + 1) (by simp)))
    clear hb ho
    obtain ⟨A0r0, A0r1, A0r2⟩ := A0_6.out
    have A0lt : w.heap.size < w5.heap.size := World.block_lt_of_cell? w5 ⟨w.heap.size, 0, none⟩ A0r0
    obtain ⟨A1r0, A1r1, A1r2⟩ := A1_6.out
    have A1lt : (w.heap.size + 1) < w5.heap.size := World.block_lt_of_cell? w5 ⟨(w.heap.size + 1), 0, none⟩ A1r0
    obtain ⟨BX0r0, BX0r1, BX0r2⟩ := BX0_6.out
    have BX0lt : w4.heap.size < w5.heap.size := World.block_lt_of_cell? w5 ⟨w4.heap.size, 0, none⟩ BX0r0
    have HB_7 := Lib.hid (HB_6.out.alloc HB_6.out.size (.cells #[.string t1.name, .slice u5p t1.args.length u5c] 30))
    have A0_7 := Lib.hid (A0_6.out.kept ((Below.refl w5.heap.size w5).alloc (Nat.le_refl _) (.cells #[.string t1.name, .slice u5p t1.args.length u5c] 30)))
    have A1_7 := Lib.hid (A1_6.out.kept ((Below.refl w5.heap.size w5).alloc (Nat.le_refl _) (.cells #[.string t1.name, .slice u5p t1.args.length u5c] 30)))
    have W0_7 := Lib.hid (W0_6.out.kept ((Below.refl w5.heap.size w5).alloc (Nat.le_refl _) (.cells #[.string t1.name, .slice u5p t1.args.length u5c] 30)))
    have X0_7 := Lib.hid (X0_6.out.kept ((Below.refl w5.heap.size w5).alloc (Nat.le_refl _) (.cells #[.string t1.name, .slice u5p t1.args.length u5c] 30)))
    have BX0_7 := Lib.hid (BX0_6.out.kept ((Below.refl w5.heap.size w5).alloc (Nat.le_refl _) (.cells #[.string t1.name, .slice u5p t1.args.length u5c] 30)))
    have X1_7 := Lib.hid (X1_6.out.kept ((Below.refl w5.heap.size w5).alloc (Nat.le_refl _) (.cells #[.string t1.name, .slice u5p t1.args.length u5c] 30)))
    clear HB_6 A0_6 A1_6 W0_6 X0_6 BX0_6 X1_6
    have BX1_7 := Lib.hid (two_new w5 (.string t1.name) (.slice u5p t1.args.length u5c) 30 _ rfl)
    go_wp2_with fail
    refine (HCI.out _ _ _ X0_7.out.read X1_7.out.read).mono ?_
    rintro e w6 ⟨u6, rfl, ho, hb⟩
    obtain ⟨u6p, u6c, rfl, _⟩ := ho.read
    clear A0r0 A0r1 A0r2 A0lt A1r0 A1r1 A1r2 A1lt BX0r0 BX0r1 BX0r2 BX0lt
    have HB_8 := Lib.hid (carry_below HB_7.out (Nat.le_refl _) hb)
    have A0_8 := Lib.hid (A0_7.out.kept hb)
    have A1_8 := Lib.hid (A1_7.out.kept hb)
    have W0_8 := Lib.hid (W0_7.out.kept hb)
    have X0_8 := Lib.hid (X0_7.out.kept hb)
    have BX0_8 := Lib.hid (BX0_7.out.kept hb)
    have X1_8 := Lib.hid (X1_7.out.kept hb)
    have BX1_8 := Lib.hid (BX1_7.out.kept hb)
    have z_8 : w5.heap.size + 1 ≤ w6.heap.size := by have := hb.size; simpa using this
    clear HB_7 A0_7 A1_7 W0_7 X0_7 BX0_7 X1_7 BX1_7
    have G_8 := Lib.hid ((IntsI.freshAt ho (n := w5.heap.size + 1) (by simp)))
    clear hb ho
    obtain ⟨A0r0, A0r1, A0r2⟩ := A0_8.out
    have A0lt : w.heap.size < w6.heap.size := World.block_lt_of_cell? w6 ⟨w.heap.size, 0, none⟩ A0r0
    obtain ⟨A1r0, A1r1, A1r2⟩ := A1_8.out
    have A1lt : (w.heap.size + 1) < w6.heap.size := World.block_lt_of_cell? w6 ⟨(w.heap.size + 1), 0, none⟩ A1r0
    obtain ⟨BX0r0, BX0r1, BX0r2⟩ := BX0_8.out
    have BX0lt : w4.heap.size < w6.heap.size := World.block_lt_of_cell? w6 ⟨w4.heap.size, 0, none⟩ BX0r0
    obtain ⟨BX1r0, BX1r1, BX1r2⟩ := BX1_8.out
    have BX1lt : w5.heap.size < w6.heap.size := World.block_lt_of_cell? w6 ⟨w5.heap.size, 0, none⟩ BX1r0
    have HCE := Lib.hid (eqIntS_any r _ _ _ G_8.out.read W0_8.out.read hr)
    go_wp2_with fail
    refine HCE.out.mono ?_
    rintro e w7 ⟨rfl, hb⟩
    clear A0r0 A0r1 A0r2 A0lt A1r0 A1r1 A1r2 A1lt BX0r0 BX0r1 BX0r2 BX0lt BX1r0 BX1r1 BX1r2 BX1lt
    have HB_9 := Lib.hid (carry_below HB_8.out (Nat.le_refl _) hb)
    have A0_9 := Lib.hid (A0_8.out.kept hb)
    have A1_9 := Lib.hid (A1_8.out.kept hb)
    have W0_9 := Lib.hid (W0_8.out.kept hb)
    have X0_9 := Lib.hid (X0_8.out.kept hb)
    have BX0_9 := Lib.hid (BX0_8.out.kept hb)
    have X1_9 := Lib.hid (X1_8.out.kept hb)
    have BX1_9 := Lib.hid (BX1_8.out.kept hb)
    have G_9 := Lib.hid (G_8.out.kept hb)
    have z_9 : w6.heap.size ≤ w7.heap.size := hb.size
    clear HB_8 A0_8 A1_8 W0_8 X0_8 BX0_8 X1_8 BX1_8 G_8
    clear hb HCE
    obtain ⟨A0r0, A0r1, A0r2⟩ := A0_9.out
    have A0lt : w.heap.size < w7.heap.size := World.block_lt_of_cell? w7 ⟨w.heap.size, 0, none⟩ A0r0
    obtain ⟨A1r0, A1r1, A1r2⟩ := A1_9.out
    have A1lt : (w.heap.size + 1) < w7.heap.size := World.block_lt_of_cell? w7 ⟨(w.heap.size + 1), 0, none⟩ A1r0
    obtain ⟨BX0r0, BX0r1, BX0r2⟩ := BX0_9.out
    have BX0lt : w4.heap.size < w7.heap.size := World.block_lt_of_cell? w7 ⟨w4.heap.size, 0, none⟩ BX0r0
    obtain ⟨BX1r0, BX1r1, BX1r2⟩ := BX1_9.out
    have BX1lt : w5.heap.size < w7.heap.size := World.block_lt_of_cell? w7 ⟨w5.heap.size, 0, none⟩ BX1r0
    have CT : Hid (∀ W : World, Below w7.heap.size w7 W → Calls Try.prog 21 #[.agg #[.string t0.name, .slice pa0 t0.args.length ca0]] W (ToEnd t0 W)) := Lib.hid (fun W hW => toTerm_any t0 W _ ((HV0.out.kept HB_9.out).kept hW) hw0)
    have CE : Hid (∀ (W : World) (v : Value), Below w7.heap.size w7 W → TmS W v t0.args → Calls Try.prog 24 #[.agg #[.string t0.name, .slice u4p t0.args.length u4c], .agg #[.string t0.name, v]] W (EqEnd true W)) := Lib.hid (fun W v hW hv => by
      have h := eqTerm_any t0 t0 W _ v (X0_9.out.read.kept hW) hv HL0.out HL0.out
      rwa [eqT_self] at h)
    have hB0 : Below w7.heap.size w7 w7.drew := (Below.refl _ _).drew
    go_wp2_with fail
    go_region_held3 (fun w' => w'.cell? ⟨w.heap.size, 0, none⟩ = some (.string t0.name) ∧ w'.cell? ⟨w.heap.size, 1, none⟩ = some (.slice pa0 t0.args.length ca0) ∧ w'.cell? ⟨w4.heap.size, 0, none⟩ = some (.string t0.name) ∧ w'.cell? ⟨w4.heap.size, 1, none⟩ = some (.slice u4p t0.args.length u4c) ∧ Below w7.heap.size w7 w') (first | exact ⟨by assumption, by assumption, by assumption, by assumption, by assumption⟩ | go_keep) (first | (go_at_call 21; refine (CT.out _ hB0).mono ?_; rintro e w8a ⟨v6, rfl, ho, hb⟩; have q0 : w8a.cell? ⟨w.heap.size, 0, none⟩ = some (.string t0.name) := carry_cell' hb (by assumption); have q1 : w8a.cell? ⟨w.heap.size, 1, none⟩ = some (.slice pa0 t0.args.length ca0) := carry_cell' hb (by assumption); have q2 : w8a.cell? ⟨w4.heap.size, 0, none⟩ = some (.string t0.name) := carry_cell' hb (by assumption); have q3 : w8a.cell? ⟨w4.heap.size, 1, none⟩ = some (.slice u4p t0.args.length u4c) := carry_cell' hb (by assumption); have hB6 := carry_below hB0 (Nat.le_refl _) hb; have HT6 := Lib.hid ho.read; clear hb ho) | (go_at_call 24; refine (CE.out _ _ hB6 HT6.out).mono ?_; rintro e w8 ⟨rfl, hb⟩; have r0 : w8.cell? ⟨w.heap.size, 0, none⟩ = some (.string t0.name) := carry_cell' hb (by assumption); have r1 : w8.cell? ⟨w.heap.size, 1, none⟩ = some (.slice pa0 t0.args.length ca0) := carry_cell' hb (by assumption); have r2 : w8.cell? ⟨w4.heap.size, 0, none⟩ = some (.string t0.name) := carry_cell' hb (by assumption); have r3 : w8.cell? ⟨w4.heap.size, 1, none⟩ = some (.slice u4p t0.args.length u4c) := carry_cell' hb (by assumption); have hB7 := carry_below hB6 (Nat.le_refl _) hb; clear hb))
    clear A0r0 A0r1 A0r2 A0lt A1r0 A1r1 A1r2 A1lt BX0r0 BX0r1 BX0r2 BX0lt BX1r0 BX1r1 BX1r2 BX1lt
    have HB_10 := Lib.hid (carry_below HB_9.out (Nat.le_refl _) hB7)
    have A0_10 := Lib.hid (A0_9.out.kept hB7)
    have A1_10 := Lib.hid (A1_9.out.kept hB7)
    have W0_10 := Lib.hid (W0_9.out.kept hB7)
    have X0_10 := Lib.hid (X0_9.out.kept hB7)
    have BX0_10 := Lib.hid (BX0_9.out.kept hB7)
    have X1_10 := Lib.hid (X1_9.out.kept hB7)
    have BX1_10 := Lib.hid (BX1_9.out.kept hB7)
    have G_10 := Lib.hid (G_9.out.kept hB7)
    have z_10 : w7.heap.size ≤ w8.heap.size := hB7.size
    clear HB_9 A0_9 A1_9 W0_9 X0_9 BX0_9 X1_9 BX1_9 G_9
    clear hB7 hB6 hB0 q0 r0 q1 r1 q2 r2 q3 r3 HT6 CT CE
    obtain ⟨A0r0, A0r1, A0r2⟩ := A0_10.out
    have A0lt : w.heap.size < w8.heap.size := World.block_lt_of_cell? w8 ⟨w.heap.size, 0, none⟩ A0r0
    obtain ⟨A1r0, A1r1, A1r2⟩ := A1_10.out
    have A1lt : (w.heap.size + 1) < w8.heap.size := World.block_lt_of_cell? w8 ⟨(w.heap.size + 1), 0, none⟩ A1r0
    obtain ⟨BX0r0, BX0r1, BX0r2⟩ := BX0_10.out
    have BX0lt : w4.heap.size < w8.heap.size := World.block_lt_of_cell? w8 ⟨w4.heap.size, 0, none⟩ BX0r0
    obtain ⟨BX1r0, BX1r1, BX1r2⟩ := BX1_10.out
    have BX1lt : w5.heap.size < w8.heap.size := World.block_lt_of_cell? w8 ⟨w5.heap.size, 0, none⟩ BX1r0
    have CT : Hid (∀ W : World, Below w8.heap.size w8 W → Calls Try.prog 21 #[.agg #[.string t1.name, .slice pa1 t1.args.length ca1]] W (ToEnd t1 W)) := Lib.hid (fun W hW => toTerm_any t1 W _ ((HV1.out.kept HB_10.out).kept hW) hw1)
    have CE : Hid (∀ (W : World) (v : Value), Below w8.heap.size w8 W → TmS W v t1.args → Calls Try.prog 24 #[.agg #[.string t1.name, .slice u5p t1.args.length u5c], .agg #[.string t1.name, v]] W (EqEnd true W)) := Lib.hid (fun W v hW hv => by
      have h := eqTerm_any t1 t1 W _ v (X1_10.out.read.kept hW) hv HL1.out HL1.out
      rwa [eqT_self] at h)
    have hB0 : Below w8.heap.size w8 w8.drew := (Below.refl _ _).drew
    go_wp2_with fail
    go_region_held3 (fun w' => w'.cell? ⟨w.heap.size + 1, 0, none⟩ = some (.string t1.name) ∧ w'.cell? ⟨w.heap.size + 1, 1, none⟩ = some (.slice pa1 t1.args.length ca1) ∧ w'.cell? ⟨w5.heap.size, 0, none⟩ = some (.string t1.name) ∧ w'.cell? ⟨w5.heap.size, 1, none⟩ = some (.slice u5p t1.args.length u5c) ∧ Below w8.heap.size w8 w') (first | exact ⟨by assumption, by assumption, by assumption, by assumption, by assumption⟩ | go_keep) (first | (go_at_call 21; refine (CT.out _ hB0).mono ?_; rintro e w9a ⟨v6, rfl, ho, hb⟩; have q0 : w9a.cell? ⟨w.heap.size + 1, 0, none⟩ = some (.string t1.name) := carry_cell' hb (by assumption); have q1 : w9a.cell? ⟨w.heap.size + 1, 1, none⟩ = some (.slice pa1 t1.args.length ca1) := carry_cell' hb (by assumption); have q2 : w9a.cell? ⟨w5.heap.size, 0, none⟩ = some (.string t1.name) := carry_cell' hb (by assumption); have q3 : w9a.cell? ⟨w5.heap.size, 1, none⟩ = some (.slice u5p t1.args.length u5c) := carry_cell' hb (by assumption); have hB6 := carry_below hB0 (Nat.le_refl _) hb; have HT6 := Lib.hid ho.read; clear hb ho) | (go_at_call 24; refine (CE.out _ _ hB6 HT6.out).mono ?_; rintro e w9 ⟨rfl, hb⟩; have r0 : w9.cell? ⟨w.heap.size + 1, 0, none⟩ = some (.string t1.name) := carry_cell' hb (by assumption); have r1 : w9.cell? ⟨w.heap.size + 1, 1, none⟩ = some (.slice pa1 t1.args.length ca1) := carry_cell' hb (by assumption); have r2 : w9.cell? ⟨w5.heap.size, 0, none⟩ = some (.string t1.name) := carry_cell' hb (by assumption); have r3 : w9.cell? ⟨w5.heap.size, 1, none⟩ = some (.slice u5p t1.args.length u5c) := carry_cell' hb (by assumption); have hB7 := carry_below hB6 (Nat.le_refl _) hb; clear hb))
    clear A0r0 A0r1 A0r2 A0lt A1r0 A1r1 A1r2 A1lt BX0r0 BX0r1 BX0r2 BX0lt BX1r0 BX1r1 BX1r2 BX1lt
    have HB_11 := Lib.hid (carry_below HB_10.out (Nat.le_refl _) hB7)
    have A0_11 := Lib.hid (A0_10.out.kept hB7)
    have A1_11 := Lib.hid (A1_10.out.kept hB7)
    have W0_11 := Lib.hid (W0_10.out.kept hB7)
    have X0_11 := Lib.hid (X0_10.out.kept hB7)
    have BX0_11 := Lib.hid (BX0_10.out.kept hB7)
    have X1_11 := Lib.hid (X1_10.out.kept hB7)
    have BX1_11 := Lib.hid (BX1_10.out.kept hB7)
    have G_11 := Lib.hid (G_10.out.kept hB7)
    have z_11 : w8.heap.size ≤ w9.heap.size := hB7.size
    clear HB_10 A0_10 A1_10 W0_10 X0_10 BX0_10 X1_10 BX1_10 G_10
    clear hB7 hB6 hB0 q0 r0 q1 r1 q2 r2 q3 r3 HT6 CT CE
    obtain ⟨A0r0, A0r1, A0r2⟩ := A0_11.out
    have A0lt : w.heap.size < w9.heap.size := World.block_lt_of_cell? w9 ⟨w.heap.size, 0, none⟩ A0r0
    obtain ⟨A1r0, A1r1, A1r2⟩ := A1_11.out
    have A1lt : (w.heap.size + 1) < w9.heap.size := World.block_lt_of_cell? w9 ⟨(w.heap.size + 1), 0, none⟩ A1r0
    obtain ⟨BX0r0, BX0r1, BX0r2⟩ := BX0_11.out
    have BX0lt : w4.heap.size < w9.heap.size := World.block_lt_of_cell? w9 ⟨w4.heap.size, 0, none⟩ BX0r0
    obtain ⟨BX1r0, BX1r1, BX1r2⟩ := BX1_11.out
    have BX1lt : w5.heap.size < w9.heap.size := World.block_lt_of_cell? w9 ⟨w5.heap.size, 0, none⟩ BX1r0
    have CM := markTerm_any t0 1 _ _ _ X0_11.out.1 X0_11.out.bound (by omega) (by omega)
    have HCM := Lib.hid CM
    clear CM
    go_wp2_with fail
    refine HCM.out.mono ?_
    rintro e w10 ⟨rfl, ho, hout⟩
    clear A0r0 A0r1 A0r2 A0lt A1r0 A1r1 A1r2 A1lt BX0r0 BX0r1 BX0r2 BX0lt BX1r0 BX1r1 BX1r2 BX1lt
    have HB_12 := Lib.hid (below_outside HB_11.out hout (by omega))
    have A0_12 := Lib.hid (A0_11.out.outside hout (by omega))
    have A1_12 := Lib.hid (A1_11.out.outside hout (by omega))
    have W0_12 := Lib.hid (W0_11.out.outside hout (by omega))
    have BX0_12 := Lib.hid (BX0_11.out.outside hout (by omega))
    have X1_12 := Lib.hid (X1_11.out.outside hout (by omega))
    have BX1_12 := Lib.hid (BX1_11.out.outside hout (by omega))
    have G_12 := Lib.hid (G_11.out.outside hout (by omega))
    have z_12 : w9.heap.size ≤ w10.heap.size := hout.size
    clear HB_11 A0_11 A1_11 W0_11 BX0_11 X1_11 BX1_11 G_11
    clear ho hout HCM
    obtain ⟨A0r0, A0r1, A0r2⟩ := A0_12.out
    have A0lt : w.heap.size < w10.heap.size := World.block_lt_of_cell? w10 ⟨w.heap.size, 0, none⟩ A0r0
    obtain ⟨A1r0, A1r1, A1r2⟩ := A1_12.out
    have A1lt : (w.heap.size + 1) < w10.heap.size := World.block_lt_of_cell? w10 ⟨(w.heap.size + 1), 0, none⟩ A1r0
    obtain ⟨BX0r0, BX0r1, BX0r2⟩ := BX0_12.out
    have BX0lt : w4.heap.size < w10.heap.size := World.block_lt_of_cell? w10 ⟨w4.heap.size, 0, none⟩ BX0r0
    obtain ⟨BX1r0, BX1r1, BX1r2⟩ := BX1_12.out
    have BX1lt : w5.heap.size < w10.heap.size := World.block_lt_of_cell? w10 ⟨w5.heap.size, 0, none⟩ BX1r0
    have CM := markTerm_any t1 (1 + sumL Tm.sz t0.args) _ _ _ X1_12.out.1 X1_12.out.bound (by omega) (by omega)
    have HCM := Lib.hid CM
    clear CM
    go_wp2_with fail
    refine HCM.out.mono ?_
    rintro e w11 ⟨rfl, ho, hout⟩
    clear A0r0 A0r1 A0r2 A0lt A1r0 A1r1 A1r2 A1lt BX0r0 BX0r1 BX0r2 BX0lt BX1r0 BX1r1 BX1r2 BX1lt
    have HB_13 := Lib.hid (below_outside HB_12.out hout (by omega))
    have A0_13 := Lib.hid (A0_12.out.outside hout (by omega))
    have A1_13 := Lib.hid (A1_12.out.outside hout (by omega))
    have W0_13 := Lib.hid (W0_12.out.outside hout (by omega))
    have BX0_13 := Lib.hid (BX0_12.out.outside hout (by omega))
    have BX1_13 := Lib.hid (BX1_12.out.outside hout (by omega))
    have G_13 := Lib.hid (G_12.out.outside hout (by omega))
    have z_13 : w10.heap.size ≤ w11.heap.size := hout.size
    clear HB_12 A0_12 A1_12 W0_12 BX0_12 BX1_12 G_12
    clear ho hout HCM
    obtain ⟨A0r0, A0r1, A0r2⟩ := A0_13.out
    have A0lt : w.heap.size < w11.heap.size := World.block_lt_of_cell? w11 ⟨w.heap.size, 0, none⟩ A0r0
    obtain ⟨A1r0, A1r1, A1r2⟩ := A1_13.out
    have A1lt : (w.heap.size + 1) < w11.heap.size := World.block_lt_of_cell? w11 ⟨(w.heap.size + 1), 0, none⟩ A1r0
    obtain ⟨BX0r0, BX0r1, BX0r2⟩ := BX0_13.out
    have BX0lt : w4.heap.size < w11.heap.size := World.block_lt_of_cell? w11 ⟨w4.heap.size, 0, none⟩ BX0r0
    obtain ⟨BX1r0, BX1r1, BX1r2⟩ := BX1_13.out
    have BX1lt : w5.heap.size < w11.heap.size := World.block_lt_of_cell? w11 ⟨w5.heap.size, 0, none⟩ BX1r0
    have hk0 : decide (((1 + sumL Tm.sz t0.args + sumL Tm.sz t1.args : Nat) : Int) < 0) = false := by simp; omega
    generalize 1 + sumL Tm.sz t0.args + sumL Tm.sz t1.args = kk at *
    have HCE := Lib.hid (eqIntS_any r _ _ _ G_13.out.read W0_13.out.read hr)
    go_wp2_with fail
    refine HCE.out.mono ?_
    rintro e w12 ⟨rfl, hb⟩
    clear A0r0 A0r1 A0r2 A0lt A1r0 A1r1 A1r2 A1lt BX0r0 BX0r1 BX0r2 BX0lt BX1r0 BX1r1 BX1r2 BX1lt
    have HB_14 := Lib.hid (carry_below HB_13.out (Nat.le_refl _) hb)
    have A0_14 := Lib.hid (A0_13.out.kept hb)
    have A1_14 := Lib.hid (A1_13.out.kept hb)
    have W0_14 := Lib.hid (W0_13.out.kept hb)
    have BX0_14 := Lib.hid (BX0_13.out.kept hb)
    have BX1_14 := Lib.hid (BX1_13.out.kept hb)
    have G_14 := Lib.hid (G_13.out.kept hb)
    have z_14 : w11.heap.size ≤ w12.heap.size := hb.size
    clear HB_13 A0_13 A1_13 W0_13 BX0_13 BX1_13 G_13
    clear hb HCE
    obtain ⟨A0r0, A0r1, A0r2⟩ := A0_14.out
    have A0lt : w.heap.size < w12.heap.size := World.block_lt_of_cell? w12 ⟨w.heap.size, 0, none⟩ A0r0
    obtain ⟨A1r0, A1r1, A1r2⟩ := A1_14.out
    have A1lt : (w.heap.size + 1) < w12.heap.size := World.block_lt_of_cell? w12 ⟨(w.heap.size + 1), 0, none⟩ A1r0
    obtain ⟨BX0r0, BX0r1, BX0r2⟩ := BX0_14.out
    have BX0lt : w4.heap.size < w12.heap.size := World.block_lt_of_cell? w12 ⟨w4.heap.size, 0, none⟩ BX0r0
    obtain ⟨BX1r0, BX1r1, BX1r2⟩ := BX1_14.out
    have BX1lt : w5.heap.size < w12.heap.size := World.block_lt_of_cell? w12 ⟨w5.heap.size, 0, none⟩ BX1r0
    have HCM := Lib.hid (markIntS_any r 1 _ _ _ G_14.out.1 (by omega))
    go_wp2_with fail
    refine HCM.out.mono ?_
    rintro e w13 ⟨rfl, ho, hout⟩
    clear A0r0 A0r1 A0r2 A0lt A1r0 A1r1 A1r2 A1lt BX0r0 BX0r1 BX0r2 BX0lt BX1r0 BX1r1 BX1r2 BX1lt
    have HB_15 := Lib.hid (below_outside HB_14.out hout (by omega))
    have A0_15 := Lib.hid (A0_14.out.outside hout (by omega))
    have A1_15 := Lib.hid (A1_14.out.outside hout (by omega))
    have W0_15 := Lib.hid (W0_14.out.outside hout (by omega))
    have BX0_15 := Lib.hid (BX0_14.out.outside hout (by omega))
    have BX1_15 := Lib.hid (BX1_14.out.outside hout (by omega))
    have z_15 : w12.heap.size ≤ w13.heap.size := hout.size
    clear HB_14 A0_14 A1_14 W0_14 BX0_14 BX1_14
    have M_15 := Lib.hid ((show IntsI w13 _ _ _ _ from ⟨ho, Nat.le_trans G_14.out.2 hout.size⟩))
    clear ho hout HCM
    obtain ⟨A0r0, A0r1, A0r2⟩ := A0_15.out
    have A0lt : w.heap.size < w13.heap.size := World.block_lt_of_cell? w13 ⟨w.heap.size, 0, none⟩ A0r0
    obtain ⟨A1r0, A1r1, A1r2⟩ := A1_15.out
    have A1lt : (w.heap.size + 1) < w13.heap.size := World.block_lt_of_cell? w13 ⟨(w.heap.size + 1), 0, none⟩ A1r0
    obtain ⟨BX0r0, BX0r1, BX0r2⟩ := BX0_15.out
    have BX0lt : w4.heap.size < w13.heap.size := World.block_lt_of_cell? w13 ⟨w4.heap.size, 0, none⟩ BX0r0
    obtain ⟨BX1r0, BX1r1, BX1r2⟩ := BX1_15.out
    have BX1lt : w5.heap.size < w13.heap.size := World.block_lt_of_cell? w13 ⟨w5.heap.size, 0, none⟩ BX1r0
    have HCH := Lib.hid (heldIntS_any 1 r.length _ _ M_15.out.1.read (by omega) (by omega))
    go_wp2_with fail
    refine HCH.out.mono ?_
    rintro e w14 ⟨rfl, hb⟩
    clear A0r0 A0r1 A0r2 A0lt A1r0 A1r1 A1r2 A1lt BX0r0 BX0r1 BX0r2 BX0lt BX1r0 BX1r1 BX1r2 BX1lt
    have HB_16 := Lib.hid (carry_below HB_15.out (Nat.le_refl _) hb)
    have A0_16 := Lib.hid (A0_15.out.kept hb)
    have A1_16 := Lib.hid (A1_15.out.kept hb)
    have W0_16 := Lib.hid (W0_15.out.kept hb)
    have BX0_16 := Lib.hid (BX0_15.out.kept hb)
    have BX1_16 := Lib.hid (BX1_15.out.kept hb)
    have M_16 := Lib.hid (M_15.out.kept hb)
    have z_16 : w13.heap.size ≤ w14.heap.size := hb.size
    clear HB_15 A0_15 A1_15 W0_15 BX0_15 BX1_15 M_15
    clear hb HCH
    obtain ⟨A0r0, A0r1, A0r2⟩ := A0_16.out
    have A0lt : w.heap.size < w14.heap.size := World.block_lt_of_cell? w14 ⟨w.heap.size, 0, none⟩ A0r0
    obtain ⟨A1r0, A1r1, A1r2⟩ := A1_16.out
    have A1lt : (w.heap.size + 1) < w14.heap.size := World.block_lt_of_cell? w14 ⟨(w.heap.size + 1), 0, none⟩ A1r0
    obtain ⟨BX0r0, BX0r1, BX0r2⟩ := BX0_16.out
    have BX0lt : w4.heap.size < w14.heap.size := World.block_lt_of_cell? w14 ⟨w4.heap.size, 0, none⟩ BX0r0
    obtain ⟨BX1r0, BX1r1, BX1r2⟩ := BX1_16.out
    have BX1lt : w5.heap.size < w14.heap.size := World.block_lt_of_cell? w14 ⟨w5.heap.size, 0, none⟩ BX1r0
    have hm0 : decide (((1 + r.length : Nat) : Int) < 0) = false := by simp; omega
    go_wp2_with fail
    have CCtm : Hid (∀ (x : Tm) (v : Value) (W : World), Below w14.heap.size w14 W → (x = t0 ∧ v = .slice pa0 t0.args.length ca0) ∨ (x = t1 ∧ v = .slice pa1 t1.args.length ca1) → Calls Try.prog 21 #[.agg #[.string x.name, v]] W (ToEnd x W)) := Lib.hid (fun x v W hW h => by
      rcases h with ⟨rfl, rfl⟩ | ⟨rfl, rfl⟩
      · exact toTerm_any _ W _ ((HV0.out.kept HB_16.out).kept hW) hw0
      · exact toTerm_any _ W _ ((HV1.out.kept HB_16.out).kept hW) hw1)
    go_cut [15, 16] from 102 (fun x y wx => Got r ok w14 x y wx)
    case first =>
      have hB : Below w14.heap.size w14 w14.drew := (Below.refl _ _).drew
      go_region_held3 (fun w' => w'.cell? ⟨w.heap.size, 0, none⟩ = some (.string t0.name) ∧ w'.cell? ⟨w.heap.size, 1, none⟩ = some (.slice pa0 t0.args.length ca0) ∧ w'.cell? ⟨w.heap.size + 1, 0, none⟩ = some (.string t1.name) ∧ w'.cell? ⟨w.heap.size + 1, 1, none⟩ = some (.slice pa1 t1.args.length ca1)) (first | exact ⟨by assumption, by assumption, by assumption, by assumption⟩ | go_keep) (first | (go_at_call 21; refine (CCtm.out _ _ _ hB (by first | exact .inl ⟨rfl, rfl⟩ | exact .inr ⟨rfl, rfl⟩)).mono ?_; rintro e wn ⟨vn, rfl, ho, hb⟩; obtain ⟨up, uc, rfl⟩ := ho.read.is_slice; have hb' := hb; have q0 : wn.cell? ⟨w.heap.size, 0, none⟩ = some (.string t0.name) := carry_cell' hb' (by assumption); have q1 : wn.cell? ⟨w.heap.size, 1, none⟩ = some (.slice pa0 t0.args.length ca0) := carry_cell' hb' (by assumption); have q2 : wn.cell? ⟨w.heap.size + 1, 0, none⟩ = some (.string t1.name) := carry_cell' hb' (by assumption); have q3 : wn.cell? ⟨w.heap.size + 1, 1, none⟩ = some (.slice pa1 t1.args.length ca1) := carry_cell' hb' (by assumption); (try have HTtm2 := Lib.hid (HTtm1.out.kept hb')); have hB := carry_below hB (Nat.le_refl _) hb'; have HTtm1 := Lib.hid ho.read; clear hb ho) | (go_at_call 22; refine (HCJ.out _ _ _ (by first | exact HTtm1.out | exact HTtm2.out) (by first | exact HTtm1.out | exact HTtm2.out)).mono ?_; rintro e wn ⟨vn, rfl, ho, hb⟩; have HGO := Lib.hid ho; obtain ⟨_, up, uc, rfl, _⟩ := ho; have hb' := hb; have q0 : wn.cell? ⟨w.heap.size, 0, none⟩ = some (.string t0.name) := carry_cell' hb' (by assumption); have q1 : wn.cell? ⟨w.heap.size, 1, none⟩ = some (.slice pa0 t0.args.length ca0) := carry_cell' hb' (by assumption); have q2 : wn.cell? ⟨w.heap.size + 1, 0, none⟩ = some (.string t1.name) := carry_cell' hb' (by assumption); have q3 : wn.cell? ⟨w.heap.size + 1, 1, none⟩ = some (.slice pa1 t1.args.length ca1) := carry_cell' hb' (by assumption); have hB := carry_below hB (Nat.le_refl _) hb'; clear hb))
      all_goals (go_wp2_with fail; go_meet)
      all_goals (exact ⟨rfl, ⟨_, HGO.out⟩, hB⟩)
    case rest =>
      obtain ⟨rfl, ⟨BHhi, how⟩, hb⟩ := hcut
      clear CCtm
      obtain ⟨w15, hw15⟩ : ∃ x, x = wc := ⟨_, rfl⟩
      rw [← hw15] at how hb ⊢
      clear hw15
      have BHhi1 := how.1
      have HOW := Lib.hid how
      obtain ⟨_, BHp, BHc, rfl, _⟩ := how
      clear A0r0 A0r1 A0r2 A0lt A1r0 A1r1 A1r2 A1lt BX0r0 BX0r1 BX0r2 BX0lt BX1r0 BX1r1 BX1r2 BX1lt
      have HB_17 := Lib.hid (carry_below HB_16.out (Nat.le_refl _) hb)
      have A0_17 := Lib.hid (A0_16.out.kept hb)
      have A1_17 := Lib.hid (A1_16.out.kept hb)
      have W0_17 := Lib.hid (W0_16.out.kept hb)
      have BX0_17 := Lib.hid (BX0_16.out.kept hb)
      have BX1_17 := Lib.hid (BX1_16.out.kept hb)
      have M_17 := Lib.hid (M_16.out.kept hb)
      have z_17 : w14.heap.size ≤ w15.heap.size := hb.size
      clear HB_16 A0_16 A1_16 W0_16 BX0_16 BX1_16 M_16
      have H_17 := Lib.hid (HOW.out)
      clear hb HOW
      obtain ⟨A0r0, A0r1, A0r2⟩ := A0_17.out
      have A0lt : w.heap.size < w15.heap.size := World.block_lt_of_cell? w15 ⟨w.heap.size, 0, none⟩ A0r0
      obtain ⟨A1r0, A1r1, A1r2⟩ := A1_17.out
      have A1lt : (w.heap.size + 1) < w15.heap.size := World.block_lt_of_cell? w15 ⟨(w.heap.size + 1), 0, none⟩ A1r0
      obtain ⟨BX0r0, BX0r1, BX0r2⟩ := BX0_17.out
      have BX0lt : w4.heap.size < w15.heap.size := World.block_lt_of_cell? w15 ⟨w4.heap.size, 0, none⟩ BX0r0
      obtain ⟨BX1r0, BX1r1, BX1r2⟩ := BX1_17.out
      have BX1lt : w5.heap.size < w15.heap.size := World.block_lt_of_cell? w15 ⟨w5.heap.size, 0, none⟩ BX1r0
      have HCE := Lib.hid (eqIntS_any r _ _ _ H_17.out.read W0_17.out.read hr)
      go_wp2_with fail
      refine HCE.out.mono ?_
      rintro e w16 ⟨rfl, hb⟩
      clear A0r0 A0r1 A0r2 A0lt A1r0 A1r1 A1r2 A1lt BX0r0 BX0r1 BX0r2 BX0lt BX1r0 BX1r1 BX1r2 BX1lt
      have HB_18 := Lib.hid (carry_below HB_17.out (Nat.le_refl _) hb)
      have A0_18 := Lib.hid (A0_17.out.kept hb)
      have A1_18 := Lib.hid (A1_17.out.kept hb)
      have W0_18 := Lib.hid (W0_17.out.kept hb)
      have BX0_18 := Lib.hid (BX0_17.out.kept hb)
      have BX1_18 := Lib.hid (BX1_17.out.kept hb)
      have M_18 := Lib.hid (M_17.out.kept hb)
      have H_18 := Lib.hid (H_17.out.kept hb)
      have z_18 : w15.heap.size ≤ w16.heap.size := hb.size
      clear HB_17 A0_17 A1_17 W0_17 BX0_17 BX1_17 M_17 H_17
      clear hb HCE
      obtain ⟨A0r0, A0r1, A0r2⟩ := A0_18.out
      have A0lt : w.heap.size < w16.heap.size := World.block_lt_of_cell? w16 ⟨w.heap.size, 0, none⟩ A0r0
      obtain ⟨A1r0, A1r1, A1r2⟩ := A1_18.out
      have A1lt : (w.heap.size + 1) < w16.heap.size := World.block_lt_of_cell? w16 ⟨(w.heap.size + 1), 0, none⟩ A1r0
      obtain ⟨BX0r0, BX0r1, BX0r2⟩ := BX0_18.out
      have BX0lt : w4.heap.size < w16.heap.size := World.block_lt_of_cell? w16 ⟨w4.heap.size, 0, none⟩ BX0r0
      obtain ⟨BX1r0, BX1r1, BX1r2⟩ := BX1_18.out
      have BX1lt : w5.heap.size < w16.heap.size := World.block_lt_of_cell? w16 ⟨w5.heap.size, 0, none⟩ BX1r0
      have HCH := Lib.hid (heldIntS_any 1 r.length _ _ M_18.out.1.read (by omega) (by omega))
      go_wp2_with fail
      refine HCH.out.mono ?_
      rintro e w17 ⟨rfl, hb⟩
      clear A0r0 A0r1 A0r2 A0lt A1r0 A1r1 A1r2 A1lt BX0r0 BX0r1 BX0r2 BX0lt BX1r0 BX1r1 BX1r2 BX1lt
      have HB_19 := Lib.hid (carry_below HB_18.out (Nat.le_refl _) hb)
      have A0_19 := Lib.hid (A0_18.out.kept hb)
      have A1_19 := Lib.hid (A1_18.out.kept hb)
      have W0_19 := Lib.hid (W0_18.out.kept hb)
      have BX0_19 := Lib.hid (BX0_18.out.kept hb)
      have BX1_19 := Lib.hid (BX1_18.out.kept hb)
      have M_19 := Lib.hid (M_18.out.kept hb)
      have H_19 := Lib.hid (H_18.out.kept hb)
      have z_19 : w16.heap.size ≤ w17.heap.size := hb.size
      clear HB_18 A0_18 A1_18 W0_18 BX0_18 BX1_18 M_18 H_18
      clear hb HCH
      obtain ⟨A0r0, A0r1, A0r2⟩ := A0_19.out
      have A0lt : w.heap.size < w17.heap.size := World.block_lt_of_cell? w17 ⟨w.heap.size, 0, none⟩ A0r0
      obtain ⟨A1r0, A1r1, A1r2⟩ := A1_19.out
      have A1lt : (w.heap.size + 1) < w17.heap.size := World.block_lt_of_cell? w17 ⟨(w.heap.size + 1), 0, none⟩ A1r0
      obtain ⟨BX0r0, BX0r1, BX0r2⟩ := BX0_19.out
      have BX0lt : w4.heap.size < w17.heap.size := World.block_lt_of_cell? w17 ⟨w4.heap.size, 0, none⟩ BX0r0
      obtain ⟨BX1r0, BX1r1, BX1r2⟩ := BX1_19.out
      have BX1lt : w5.heap.size < w17.heap.size := World.block_lt_of_cell? w17 ⟨w5.heap.size, 0, none⟩ BX1r0
      go_wp2
      go_ret
      exact ⟨rfl, HB_19.out⟩

theorem walk (t0 : Tm) (va0 : Value) (t1 : Tm) (va1 : Value) (w : World) (h0 : TmS w va0 t0.args) (l0 : t0.lim 9223372036854775807) (h1 : TmS w va1 t1.args) (l1 : t1.lim 9223372036854775807) :
    Calls Try.prog 4 #[.agg #[.string t0.name, va0], .agg #[.string t1.name, va1]] w fun e w' => e = .returned (.bool true) ∧ Below w.heap.size w w' :=
  core t0 va0 t1 va1 (disP t0 t1) (disOk t0 t1) w h0 l0 h1 l1 (disP_len t0 t1)
    (fun hs W q0 q1 k0 k1 => (specDis_any t0 t1 W q0 q1 k0 k1 (by omega) (by omega)).mono fun e w' ⟨v, he, hp, hb⟩ => ⟨v, he, .ofP hp, hb⟩)
    (fun hs W q0 q1 k0 k1 => (implDis_any t0 t1 W q0 q1 k0 k1 (by omega) (by omega)).mono fun e w' ⟨v, he, ho, hb⟩ => ⟨v, he, ho, hb⟩)

/-! ### THE ROW's STEP: WRITTEN OUT: LEAVE IT -/
set_option maxRecDepth 100000 in
theorem lifted (os : Os) (started : os.Started) (H : Type) (enc : TypeId × Value → H) :
    ReturnsInHanded {} Try.checked os 4 .any (Rows.fnExactDisagreementSpec.pre6 enc Try.prog Try.f4 Rows.fnExactDisagreementRow.domain false) (Rows.fnExactDisagreementSpec.post enc Try.prog Try.f4 false true false false) := by
  refine returnsInHanded_of_change (C := Try.checked) own started (by kernel_rfl) Try.func4
    (ChangeSpec.witness6 (enc := enc) (C := Try.checked) false ⟨#[], #[.agg #[.string ByteArray.empty, .slice none 0 0], .agg #[.string ByteArray.empty, .slice none 0 0]], []⟩ 8 (by kernel_rfl) (by kernel_rfl) (by kernel_rfl) (by kernel_rfl)) ?_
  intro W base args ds gs before hval0 hW hcnd _
  have hval : ∀ (j : Nat) t v, Try.f4.params[j]? = some t → args[j]? = some v → Value.okWide Try.prog W .any base t v := hval0
  have hW' := hW
  obtain ⟨p, q, hA0, hV, rfl, hfz, hnd⟩ := hW
  have hA : DataW.TrodAll enc Try.prog W 0 (fun _ => true) true Try.f4.params.toList args.toList ds p := hA0
  rw [Try.params4] at hA hval
  obtain ⟨v0, vs0, d0, ds0, p0, q0, hargs, rfl, rfl, h0, r0⟩ := trodAll_cons hA
  obtain ⟨v1, vs1, d1, ds1, p1, q1, rfl, rfl, rfl, h1, r1⟩ := trodAll_cons r0
  obtain ⟨rfl, rfl, rfl⟩ := trodAll_nil r1
  obtain rfl : args = #[v0, v1] := by cases args; simp_all
  obtain ⟨rfl, rfl⟩ := trodVars_none hV
  have k0 := h0
  have lt0 : ∀ x ∈ p0, x.block < W.heap.size := by obtain ⟨m, hm⟩ := k0; exact DataW.trod_lt m _ _ _ hm
  obtain ⟨t0, va0, rfl, tm0, lim0⟩ := open_term 9223372036854775807 (by unfold maxLen; omega) (hval 0 41 v0 rfl rfl) h0
  have k1 := h1
  have lt1 : ∀ x ∈ p1, x.block < W.heap.size := by obtain ⟨m, hm⟩ := k1; exact DataW.trod_lt m _ _ _ hm
  obtain ⟨t1, va1, rfl, tm1, lim1⟩ := open_term 9223372036854775807 (by unfold maxLen; omega) (hval 1 41 v1 rfl rfl) h1
  clear hA0 hval0
  refine (walk t0 va0 t1 va1 W tm0 lim0 tm1 lim1).mono fun e W' ⟨he, bel⟩ => ?_
  subst he
  exact ⟨_, rfl, _, _, _, [], _, [], hW', trodAll_mk1 (shut_bool Try.underlying4 _), (trodAll_cons_mk (Below.trod laidOut (by kernel_rfl) (of_decide_eq_true (by kernel_rfl)) k0 bel lt0) (trodAll_cons_mk (Below.trod laidOut (by kernel_rfl) (of_decide_eq_true (by kernel_rfl)) k1 bel lt1) trodAll_mk0)), rfl, bel.frame _, fun h => by cases h⟩


theorem jfPlace : (Rows.fnExactDisagreementRow.inPlace == Try.prog.inPlace 4) = true := by kernel_rfl
theorem jfFollow : (Rows.fnExactDisagreementRow.unfollowed == Try.prog.unfollowed 4) = true := by kernel_rfl
theorem jfRecurses : (Rows.fnExactDisagreementRow.recurses == Try.prog.recurses 4) = true := by kernel_rfl
theorem jfNamed : (Rows.fnExactDisagreementRow.named == Try.prog.varsNamed 4) = true := by kernel_rfl
theorem jfKeys : (Rows.fnExactDisagreementRow.plainKeys == Try.prog.plainKeys) = true := by kernel_rfl
theorem facts : joinedFacts Try.prog 4 Try.f4 Rows.fnExactDisagreementSpec Rows.fnExactDisagreementRow = true :=
  jf_of (P := Try.prog) jfLaid jfRowed jfHeard jfEnter jfLifts (by kernel_rfl) (by kernel_rfl) (by kernel_rfl) (by kernel_rfl) (by kernel_rfl) (by kernel_rfl) (by kernel_rfl)
    jfPlace jfFollow jfRecurses jfNamed (by kernel_rfl) (by kernel_rfl) (by kernel_rfl) (by kernel_rfl) (by kernel_rfl) (by kernel_rfl) (by kernel_rfl) (by kernel_rfl) (by kernel_rfl)
    jfKeys (by kernel_rfl) (by kernel_rfl) (by kernel_rfl) (by kernel_rfl) (by kernel_rfl) (by kernel_rfl)

theorem over : Rows.fnExactDisagreementRow.holds Try.pinned (OpenSpec.ofChange Rows.fnExactDisagreementSpec) :=
  OpenClaim.holds_of_wide 4 Try.f4 rfl rfl rfl rfl rfl rfl rfl ⟨rfl, rfl, rfl, rfl, rfl⟩ rfl rfl rfl rfl rfl (by kernel_rfl) Try.func4 facts
    (of_decide_eq_true (by kernel_rfl)) (by unfold Func.isWrapper; first | (rw [if_pos (by decide +kernel)]; kernel_rfl) | (rw [if_neg (by decide +kernel)]; exact ⟨rfl, rfl⟩))
    (fun os started H enc _ => lifted os started H enc)

/-- ████ THE STATEMENT ████ -/
theorem proved : Rows.FnExactDisagreementSaid := over
end Go.Proofs.Ytnabjnlphelccaa.fnExactDisagreement
