/- SplitString and JoinStrings are inverse, and LessString is a strict order, at every input that the code draws: no condition. -/
import Derived.Test.YtocenggbdnchfaaSplit2
import Derived.Test.YtocenggbdnchfaaJoin
import Derived.Test.YtocenggbdnchfaaDrawJ
import Derived.Test.YtocenggbdnchfaaSJM
import Derived.WalkKit
import Derived.ProofKit
import Derived.OpenShut
import Derived.ShutString
import Derived.ChangeOld
import Derived.Below
namespace Go.Proofs.Ytocenggbdnchfaa.fnSplitJoin
open Go.ChangeShapes Go.WideShapes Go.ChangeAt Go.RowKit
open Go.ChangeMaps (open_string shut_string)
set_option linter.unusedVariables false

theorem own : ownKnob Try.prog.godebug = none := by kernel_rfl
theorem laidOut : laidOutB Try.prog = true := by kernel_rfl

/-- WHAT THE WALK IS TOLD OF A SLICE OF INTEGERS THAT CAME IN: it is nil; or it leads to a row of 'cap' cells, the numbers 'zs' (the first 'len' are its elements, the rest its spare room), each fitting its kind. -/
def IsRow (k : IntKind) (w : World) (a : Option Addr) (len cap : Nat) (zs : List Int) : Prop :=
  (a = none ∧ len = 0 ∧ cap = 0 ∧ zs = []) ∨
  ∃ x, a = some x ∧ len ≤ cap ∧ cap ≤ maxLen ∧ zs.length = cap ∧ (∀ i, i < zs.length → w.cell? (x.add i) = some (.int k (zs.getD i 0))) ∧ ∀ n ∈ zs, (Lit.int k n).wf = true

theorem codeV_of_row {w : World} {a : Option Addr} {len cap : Nat} {zs : List Int} (h : IsRow .u8 w a len cap zs) : CodeV w (.slice a len cap) len w.heap.size ∧ len ≤ 9223372036854775807 := by
  rcases h with ⟨rfl, rfl, rfl, rfl⟩ | ⟨x, rfl, hl, hm, hz, hcell, hwz⟩
  · exact ⟨.inl ⟨_, _, rfl, rfl⟩, by omega⟩
  · refine ⟨?_, by unfold maxLen at hm; omega⟩
    by_cases h0 : len = 0
    · exact .inl ⟨some x, cap, by rw [h0], h0⟩
    · obtain ⟨b, off, spot⟩ := x
      have hc := hcell 0 (by omega)
      have hspot : spot = none := by simpa [Addr.add] using World.cell?_spot hc
      subst hspot
      have hc0 : w.cell? ⟨b, off, none⟩ = some (.int .u8 (zs.getD 0 0)) := by simpa [Addr.add] using hc
      refine .inr ⟨b, off, cap, rfl, by omega, World.block_lt_of_cell? w _ hc0, fun i hi => ?_⟩
      have h1 := hcell i (by omega)
      have e : Addr.add ⟨b, off, none⟩ i = ⟨b, off + i, none⟩ := by
        simp only [Addr.add]; split <;> simp_all
      rw [e] at h1
      have hm2 : zs.getD i 0 ∈ zs := by rw [List.getD_eq_getElem?_getD, List.getElem?_eq_getElem (by omega)]; exact List.getElem_mem _
      have hw := hwz _ hm2
      obtain ⟨z, hz'⟩ : ∃ z, z = zs.getD i 0 := ⟨_, rfl⟩
      rw [← hz'] at hw h1
      simp [Lit.wf, IntKind.min, IntKind.max, IntKind.signed, IntKind.bits] at hw
      exact ⟨z, by omega, by omega, h1⟩

theorem codeV_up {w w' : World} {v : Value} {n B : Nat} (h : CodeV w v n B) (hb : Below B w w') (hB : B ≤ w'.heap.size) : CodeV w' v n w'.heap.size := by
  rcases h with h | ⟨g, off, c, hv, hp, hg, hc⟩
  · exact .inl h
  · exact .inr ⟨g, off, c, hv, hp, by omega, fun i hi => by
      obtain ⟨z, h0, h1, h2⟩ := hc i hi
      exact ⟨z, h0, h1, (hb.cell (p := ⟨g, off + i, none⟩) hg).trans h2⟩⟩

theorem joinEnd_spec (v : Value) (ss : List ByteArray) (sep : ByteArray) (w : World) (hv : StrsV w v ss) (hs : sep.size ≤ maxLen) (hn : ss.length ≤ 1048576)
    (hz : ∀ j, j < ss.length → (ss.getD j ByteArray.empty).size ≤ 1048576) :
    Calls Try.prog 13 #[v, .string sep] w fun e w' => e = .returned (.tuple #[.string (jT ss sep), .bool (jB ss sep)]) ∧ Drawn w w' := specJoin_any v ss sep w hv hs hn hz
theorem joinEnd_impl (v : Value) (ss : List ByteArray) (sep : ByteArray) (w : World) (hv : StrsV w v ss) (hs : sep.size ≤ maxLen) (hn : ss.length ≤ 1048576)
    (hz : ∀ j, j < ss.length → (ss.getD j ByteArray.empty).size ≤ 1048576) (hcap : ∀ a n c, v = .slice a n c → n ≤ c) :
    Calls Try.prog 12 #[v, .string sep] w fun e w' => e = .returned (.tuple #[.string (jT ss sep), .bool (jB ss sep)]) ∧ Below w.heap.size w w' := implJoin_any v ss sep w hv hs hn hz hcap

/-- What the law does behind the first comparison. -/
theorem back_join (s : ByteArray) (c : UInt8) (ss : List ByteArray) (h : ss.map (·.data.toList) = splitL c s.data.toList) (hs : s.size ≤ 10) : jB ss ⟨#[c]⟩ = true ∧ jT ss ⟨#[c]⟩ = s := by
  have e : s.data.toList.length = s.size := by rw [Array.length_toList]; rfl
  have hb : bytesOf ss = splitL c s.data.toList := h
  have h1 : jB ss ⟨#[c]⟩ = true := by
    rw [jB_one, hb]
    exact split_ok c _ (by omega)
  refine ⟨h1, ?_⟩
  simp only [jT, h1, if_true]
  rw [hb]
  show (⟨(Lib.join (splitL c s.data.toList) [c]).toArray⟩ : ByteArray) = s
  rw [join_split]
theorem pieces_small (s : ByteArray) (c : UInt8) (ss : List ByteArray) (h : ss.map (·.data.toList) = splitL c s.data.toList) (hs : s.size ≤ 10) : ss.length ≤ 11 ∧ ∀ j, j < ss.length → (ss.getD j ByteArray.empty).size ≤ 1048576 := by
  have e : s.data.toList.length = s.size := by rw [Array.length_toList]; rfl
  have hl := congrArg List.length h
  rw [List.length_map] at hl
  have hb := split_len_le c s.data.toList
  refine ⟨by omega, fun j hj => ?_⟩
  have hj2 : j < (splitL c s.data.toList).length := by omega
  have hg : (ss.getD j ByteArray.empty).data.toList = (splitL c s.data.toList)[j] := by
    have := congrArg (·[j]?) h
    simp only [List.getElem?_map, List.getElem?_eq_getElem hj, List.getElem?_eq_getElem hj2, Option.map_some, Option.some.injEq] at this
    rw [getD_eq hj]; exact this
  have hz : ((splitL c s.data.toList)[j]).length ≤ 10 := by
    have hlens : ∀ (P : List (List UInt8)) (p : List UInt8), p ∈ P → p.length ≤ Lib.lens P := by
      intro P p hp
      induction P with
      | nil => simp at hp
      | cons q P ih =>
        simp only [Lib.lens, List.map_cons, List.sum_cons]
        rcases List.mem_cons.1 hp with rfl | hp
        · omega
        · have := ih hp; simp only [Lib.lens] at this; omega
    have a := hlens _ _ (List.getElem_mem hj2)
    have d := join_len c (splitL c s.data.toList) (by intro e2; rw [e2] at hj2; simp at hj2)
    rw [join_split] at d
    have f : (splitL c s.data.toList).length ≥ 1 := by omega
    omega
  rw [size_eq, hg]; omega

set_option maxHeartbeats 4000000 in
theorem walkC (v : Value) (n : Nat) (w : World) (h : CodeV w v n w.heap.size) (hn : n ≤ 9223372036854775807) :
    Calls Try.prog 3 #[v] w fun e w' => e = .returned (.bool true) ∧ Below w.heap.size w w' := by
  obtain ⟨a, cp, rfl⟩ := h.shape
  by_cases hbig : (65536 : Int) < (n : Int)
  · go_enter Try.func3, Try.ntmps3
    go_wp2
    go_ret
    exact ⟨rfl, Below.refl _ _⟩
  · have HV := Lib.hid h
    clear h
    go_enter Try.func3, Try.ntmps3
    go_wp2_with (go_at_call 8; go_in)
    refine (drawSplit_any _ _ n HV.out hn).mono ?_
    rintro e w1 ⟨s, sep, rfl, hs, hsep, hb1⟩
    have HB1 := Lib.hid hb1
    clear hb1
    go_wp2_with fail
    refine (implSplit_any s sep _ (by unfold maxLen; omega) (by unfold maxLen; omega)).mono ?_
    rintro e w2 ⟨v2, ss2, rfl, hm2, hown2, hb2⟩
    have HM2 := Lib.hid hm2
    have HS2 : Hid (StrsV w2 v2 ss2) := Lib.hid (strsV_of_owns hown2)
    have HC2 : Hid (∀ a m c, v2 = .slice a m c → m ≤ c) := Lib.hid (owns_cap hown2)
    have HX2 : Hid (∃ a c, v2 = .slice a ss2.length c) := Lib.hid (by
      rcases hown2.2 with ⟨hv, h0⟩ | ⟨g, cap, cur, hv, _⟩
      · exact ⟨_, _, by rw [hv, h0]⟩
      · exact ⟨_, _, hv⟩)
    have HB2 : Hid (Below w.heap.size w w2) := Lib.hid (HB1.out.trans (hb2.mono HB1.out.size))
    clear hm2 hown2 hb2
    go_wp2_with fail
    refine (drawJoin_any _ _ n (codeV_up HV.out HB2.out HB2.out.size) hn).mono ?_
    rintro e w3 ⟨v3, kk, mark, rfl, hown3, hlen3, hsm3, hmk3, hb3⟩
    have HS3 : Hid (StrsV w3 v3 kk) := Lib.hid (strsV_of_owns hown3)
    have HC3 : Hid (∀ a m c, v3 = .slice a m c → m ≤ c) := Lib.hid (owns_cap hown3)
    have HZ3 : Hid (∀ j, j < kk.length → (kk.getD j ByteArray.empty).size ≤ 1048576) := Lib.hid (fun j hj => by
      rw [getD_eq hj]; have := hsm3 _ (List.getElem_mem hj); omega)
    have HB23 : Hid (Below w2.heap.size w2 w3) := Lib.hid hb3
    clear hown3 hsm3 hb3
    go_wp2_with fail
    refine (joinEnd_impl v3 kk mark _ HS3.out (by unfold maxLen; omega) (by omega) HZ3.out HC3.out).mono ?_
    rintro e w4 ⟨rfl, hb4⟩
    have HS4 : Hid (StrsV w4 v3 kk) := Lib.hid (HS3.out.below hb4)
    have HB24 : Hid (Below w2.heap.size w2 w4) := Lib.hid (HB23.out.trans (hb4.mono HB23.out.size))
    clear hb4
    go_wp2_with fail
    refine (joinEnd_spec v3 kk mark _ HS4.out (by unfold maxLen; omega) (by omega) HZ3.out).mono ?_
    rintro e w5 ⟨rfl, hd5⟩
    have HB25 : Hid (Below w2.heap.size w2 w5) := Lib.hid (HB24.out.trans (hd5.below _))
    have HB5 : Hid (Below w.heap.size w w5) := Lib.hid (HB2.out.trans (HB25.out.mono HB2.out.size))
    clear hd5
    go_wp2_with fail
    refine (drawLess_any _ _ n (codeV_up HV.out HB5.out HB5.out.size) hn).mono ?_
    rintro e w6 ⟨x, y, rfl, hx, hy, hb6⟩
    have HB26 : Hid (Below w2.heap.size w2 w6) := Lib.hid (HB25.out.trans (hb6.mono HB25.out.size))
    have HB6 : Hid (Below w.heap.size w w6) := Lib.hid (HB5.out.trans (hb6.mono HB5.out.size))
    have HS6 : Hid (StrsV w6 v2 ss2) := Lib.hid (HS2.out.below HB26.out)
    clear hb6
    by_cases h1 : sep.size = 1
    · obtain ⟨c, rfl⟩ := sep_one' h1
      have HMc : Hid (ss2.map (·.data.toList) = splitL c s.data.toList) := Lib.hid (by rw [HM2.out]; exact sL_yes (by omega))
      have hok : sOk s ⟨#[c]⟩ = true := sOk_yes (by omega)
      obtain ⟨hj1, hj2⟩ := back_join s c ss2 HMc.out hs
      obtain ⟨hp1, hp2⟩ := pieces_small s c ss2 HMc.out hs
      have CJ : Hid (Calls Try.prog 12 #[v2, .string ⟨#[c]⟩] w6 fun e w' => e = .returned (.tuple #[.string s, .bool true]) ∧ Below w6.heap.size w6 w') := Lib.hid (by
        have c0 := joinEnd_impl v2 ss2 ⟨#[c]⟩ w6 HS6.out (by unfold maxLen; omega) (by omega) hp2 HC2.out
        rwa [hj1, hj2] at c0)
      rw [hok]
      clear hok hj1 hj2 hp2 h1
      cases hl : Op.bytesLess x.toList y.toList with
      | true =>
        have hl2 := less_asym _ _ hl
        go_wp2_with (first | (go_at_call 12; refine CJ.out.mono ?_; rintro e w7 ⟨rfl, hb7⟩; have HB7 := Lib.hid (HB6.out.trans (hb7.mono HB6.out.size)); clear hb7) | go_in)
        go_ret
        exact ⟨rfl, Hid.out (by assumption)⟩
      | false =>
        go_wp2_with (first | (go_at_call 12; refine CJ.out.mono ?_; rintro e w7 ⟨rfl, hb7⟩; have HB7 := Lib.hid (HB6.out.trans (hb7.mono HB6.out.size)); clear hb7) | go_in)
        go_ret
        exact ⟨rfl, Hid.out (by assumption)⟩
    · have hok : sOk s sep = false := by simp [sOk, h1]
      have h0 : ss2.length = 0 := by
        have e := HM2.out
        rw [show sL s sep = [] by simp [sL, hok]] at e
        simpa using congrArg List.length e
      obtain ⟨a2, c2, hv2⟩ := HX2.out
      rw [h0] at hv2
      subst hv2
      have hne : ((sep.size : Int) != 1) = true := by rw [bne_iff_ne]; omega
      rw [hok]
      clear hok h0 h1
      cases hl : Op.bytesLess x.toList y.toList with
      | true =>
        have hl2 := less_asym _ _ hl
        go_wp2_with go_in
        go_ret
        exact ⟨rfl, HB6.out⟩
      | false =>
        go_wp2_with go_in
        go_ret
        exact ⟨rfl, HB6.out⟩

theorem walk (a0 : Option Addr) (len0 cap0 : Nat) (z0 : List Int) (w : World) (w0 : IsRow .u8 w a0 len0 cap0 z0) :
    Calls Try.prog 3 #[.slice a0 len0 cap0] w fun e w' => e = .returned (.bool true) ∧ Below w.heap.size w w' := by
  obtain ⟨h, hn⟩ := codeV_of_row w0
  exact walkC _ len0 w h hn

/-! ### THE ROW's STEP: WRITTEN OUT: LEAVE IT -/
set_option maxRecDepth 100000 in
theorem lifted (os : Os) (started : os.Started) (H : Type) (enc : TypeId × Value → H) :
    ReturnsInHanded {} Try.checked os 3 .any (Rows.fnSplitJoinSpec.pre6 enc Try.prog Try.f3 Rows.fnSplitJoinRow.domain false) (Rows.fnSplitJoinSpec.post enc Try.prog Try.f3 false true false false) := by
  refine returnsInHanded_of_change (C := Try.checked) own started (by kernel_rfl) Try.func3
    (ChangeSpec.witness6 (enc := enc) (C := Try.checked) false ⟨#[], #[.slice none 0 0], []⟩ 8 (by kernel_rfl) (by kernel_rfl) (by kernel_rfl) (by kernel_rfl)) ?_
  intro W base args ds gs before hval0 hW hcnd _
  have hval : ∀ (j : Nat) t v, Try.f3.params[j]? = some t → args[j]? = some v → Value.okWide Try.prog W .any base t v := hval0
  have hW' := hW
  obtain ⟨p, q, hA0, hV, rfl, hfz, hnd⟩ := hW
  have hA : DataW.TrodAll enc Try.prog W 0 (fun _ => true) true Try.f3.params.toList args.toList ds p := hA0
  rw [Try.params3] at hA hval
  obtain ⟨v0, vs0, d0, ds0, p0, q0, hargs, rfl, rfl, h0, r0⟩ := trodAll_cons hA
  obtain ⟨rfl, rfl, rfl⟩ := trodAll_nil r0
  obtain rfl : args = #[v0] := by cases args; simp_all
  obtain ⟨rfl, rfl⟩ := trodVars_none hV
  obtain ⟨a0, len0, cap0, rfl⟩ := okWide_slice Try.underlying22 (hval 0 22 v0 rfl rfl)
  have k0 := h0
  have lt0 : ∀ x ∈ p0, x.block < W.heap.size := by obtain ⟨m, hm⟩ := k0; exact DataW.trod_lt m _ _ _ hm
  obtain ⟨z0, w0⟩ : ∃ zs, IsRow .u8 W a0 len0 cap0 zs := by
    obtain ⟨fuel, hf⟩ := h0
    rcases open_ints Try.underlying22 Try.underlying5 (by kernel_rfl) hf with ⟨hcs, _⟩ | ⟨x, l, c, zs, hcs, _, hl, hm, hz, _, hcell, hwz⟩
    · simp [Value.cells] at hcs
      obtain ⟨rfl, rfl, rfl⟩ := hcs
      exact ⟨[], .inl ⟨rfl, rfl, rfl, rfl⟩⟩
    · simp [Value.cells] at hcs
      obtain ⟨rfl, rfl, rfl⟩ := hcs
      exact ⟨zs, .inr ⟨_, rfl, hl, hm, by simpa using hz, hcell, hwz⟩⟩
  clear hA0 hval0
  refine (walk a0 len0 cap0 z0 W w0).mono fun e W' ⟨he, bel⟩ => ?_
  subst he
  exact ⟨_, rfl, _, _, _, [], _, [], hW', trodAll_mk1 (shut_bool Try.underlying4 _), (trodAll_cons_mk (Below.trod laidOut (by kernel_rfl) (of_decide_eq_true (by kernel_rfl)) k0 bel lt0) trodAll_mk0), rfl, bel.frame _, fun h => by cases h⟩

theorem over : Rows.fnSplitJoinRow.holds Try.pinned (OpenSpec.ofChange Rows.fnSplitJoinSpec) :=
  OpenClaim.holds_of_wide 3 Try.f3 rfl rfl rfl rfl rfl rfl rfl ⟨rfl, rfl, rfl, rfl, rfl⟩ rfl rfl rfl rfl rfl (by kernel_rfl) Try.func3 (by kernel_rfl)
    (of_decide_eq_true (by kernel_rfl)) (by unfold Func.isWrapper; first | (rw [if_pos (by decide +kernel)]; kernel_rfl) | (rw [if_neg (by decide +kernel)]; exact ⟨rfl, rfl⟩))
    (fun os started H enc _ => lifted os started H enc)

/-- ████ THE STATEMENT ████ -/
theorem proved : Rows.FnSplitJoinSaid := over
end Go.Proofs.Ytocenggbdnchfaa.fnSplitJoin
