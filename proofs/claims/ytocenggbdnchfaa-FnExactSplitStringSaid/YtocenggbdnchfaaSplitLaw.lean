/- SplitString answers as its model for every string and every separator, and its answer owns its memory: no condition. -/
import Derived.Test.YtocenggbdnchfaaSplit2
import Derived.Test.YtocenggbdnchfaaMark
import Derived.WalkKit
import Derived.ProofKit
import Derived.OpenShut
import Derived.ShutString
import Derived.ChangeOld
import Derived.Below
namespace Go.Proofs.Ytocenggbdnchfaa.fnExactSplitString
open Go.ChangeShapes Go.WideShapes Go.ChangeAt Go.RowKit
open Go.ChangeMaps (open_string shut_string)
set_option linter.unusedVariables false      -- a walk need not use every 'w<i>' (that an integer argument fits its kind)

theorem own : ownKnob Try.prog.godebug = none := by kernel_rfl

/-! ### STEP 1: THE WALK: the Go text returns true. 'Grown w w'': the world has at most new blocks (Derived/RowKit3.lean). Part the cases AHEAD of 'go_enter' where a test parts the walk; take each callee by a contract of your own. -/
theorem eq_self (va vb : Value) (ss : List ByteArray) (w : World) (ha : StrsV w va ss) (hb : StrsV w vb ss) (hn : ss.length ≤ 281474976710656) :
    Calls Try.prog 18 #[va, vb] w fun e w' => e = .returned (.bool true) ∧ Drawn w w' := by
  have h := eqStringS_any va vb ss ss w ha hb hn hn
  rwa [eqSs_self] at h

theorem few (s sep : ByteArray) (ss : List ByteArray) (h : ss.map (·.data.toList) = sL s sep) : ss.length ≤ 4001 := by
  have e := congrArg List.length h
  simp only [List.length_map] at e
  unfold sL at e
  split at e
  · rename_i hk
    have := split_len_le (sep.data.toList.headD 0) s.data.toList
    have e2 : s.data.toList.length = s.size := by rw [Array.length_toList]; rfl
    simp [sOk] at hk
    omega
  · have e' : ss.length = 0 := e
    omega
theorem same {a b : List ByteArray} (h : a.map (·.data.toList) = b.map (·.data.toList)) : a = b := by
  apply List.ext_getElem?
  intro i
  have e := congrArg (·[i]?) h
  simp only [List.getElem?_map] at e
  cases ha : a[i]? <;> cases hb : b[i]? <;> simp [ha, hb] at e ⊢
  exact ByteArray.ext e

set_option maxHeartbeats 1000000 in
theorem walk (a0 : ByteArray) (a1 : ByteArray) (w0 : a0.size ≤ maxLen) (w1 : a1.size ≤ maxLen) (w : World) :
    Calls Try.prog 4 #[.string a0, .string a1] w fun e w' => e = .returned (.bool true) ∧ Below w.heap.size w w' := by
  by_cases h0 : (1048576 : Int) < a0.size
  · go_enter Try.func4, Try.ntmps4
    go_wp2
    go_ret
    exact ⟨rfl, Below.refl _ _⟩
  · by_cases h1 : (1048576 : Int) < a1.size
    · go_enter Try.func4, Try.ntmps4
      go_wp2
      go_ret
      exact ⟨rfl, Below.refl _ _⟩
    · have H0 : Hid (a0.size ≤ maxLen) := Lib.hid w0
      have H1 : Hid (a1.size ≤ maxLen) := Lib.hid w1
      clear w0 w1
      go_enter Try.func4, Try.ntmps4
      go_wp2_with fail
      refine (specSplit_any _ _ _ H0.out H1.out).mono ?_
      rintro e w1 ⟨v1, ss, rfl, hm1, hown1, hb1⟩
      have HF : Hid (ss.length ≤ 4001) := Lib.hid (few _ _ _ hm1)
      have HM1 : Hid (ss.map (·.data.toList) = sL a0 a1) := Lib.hid hm1
      have HS1 : Hid (StrsV w1 v1 ss) := Lib.hid (strsV_of_owns hown1)
      have HB1 : Hid (Below w.heap.size w w1) := Lib.hid hb1
      clear hm1 hown1 hb1
      go_wp2_with fail
      refine (implSplit_any _ _ _ H0.out H1.out).mono ?_
      rintro e w2 ⟨v2, ss2, rfl, hm2, hown2, hb2⟩
      obtain rfl : ss2 = ss := same (hm2.trans HM1.out.symm)
      have HO2 : Hid (w2.ownsRow w1.heap.size 9 1 v2 ss2.length (ss2.map Value.string)) := Lib.hid hown2
      have HB2 : Hid (Below w1.heap.size w1 w2) := Lib.hid hb2
      clear hm2 hown2 hb2
      go_wp2_with fail
      refine (eq_self _ _ ss2 _ (strsV_of_owns HO2.out) (HS1.out.below HB2.out) (by have := HF.out; omega)).mono ?_
      rintro e w3 ⟨rfl, hd3⟩
      have HO3 : Hid (w3.ownsRow w1.heap.size 9 1 v2 ss2.length (ss2.map Value.string)) := Lib.hid (HO2.out.kept (grown_of_below (hd3.below _) none) (by cases v2.ownBlock <;> simp))
      have HB3 : Hid (Below w1.heap.size w1 w3) := Lib.hid (HB2.out.trans (hd3.below _))
      clear hd3
      go_wp2_with fail
      refine (markStringS_any w1.heap.size ss2.length v2 _ _ HO3.out (by have := HF.out; omega)).mono ?_
      rintro e w4 ⟨rfl, hown4, hg4⟩
      have HS4 : Hid (StrsV w4 v2 (marks ss2.length)) := Lib.hid (strsV_of_owns hown4)
      have HB4 : Hid (Below w1.heap.size w1 w4) := Lib.hid (HB3.out.grown hg4 HB3.out.size (fun k e => (HO3.out.lt k e).1))
      clear hown4 hg4
      go_wp2_with fail
      refine (heldStringS_any ss2.length v2 _ HS4.out (by have := HF.out; omega)).mono ?_
      rintro e w5 ⟨rfl, hb5⟩
      have HS5 : Hid (StrsV w5 v2 (marks ss2.length)) := Lib.hid (HS4.out.below hb5)
      have HB5 : Hid (Below w1.heap.size w1 w5) := Lib.hid (HB4.out.trans (hb5.mono HB4.out.size))
      clear hb5
      have hp1 : ¬ ((1 : Int) + ss2.length < 0) := by omega
      go_wp2_with fail
      refine (implSplit_any _ _ _ H0.out H1.out).mono ?_
      rintro e w6 ⟨v6, ss6, rfl, hm6, hown6, hb6⟩
      obtain rfl : ss6 = ss2 := same (hm6.trans HM1.out.symm)
      have HS6 : Hid (StrsV w6 v6 ss6) := Lib.hid (strsV_of_owns hown6)
      have HS62 : Hid (StrsV w6 v2 (marks ss6.length)) := Lib.hid (HS5.out.below hb6)
      have HB6 : Hid (Below w1.heap.size w1 w6) := Lib.hid (HB5.out.trans (hb6.mono HB5.out.size))
      clear hm6 hown6 hb6
      go_wp2_with fail
      refine (eq_self _ _ ss6 _ HS6.out (HS1.out.below HB6.out) (by have := HF.out; omega)).mono ?_
      rintro e w7 ⟨rfl, hd7⟩
      have HS7 : Hid (StrsV w7 v2 (marks ss6.length)) := Lib.hid (HS62.out.below (hd7.below _))
      have HB7 : Hid (Below w1.heap.size w1 w7) := Lib.hid (HB6.out.trans (hd7.below _))
      clear hd7
      go_wp2_with fail
      refine (heldStringS_any ss6.length v2 _ HS7.out (by have := HF.out; omega)).mono ?_
      rintro e w8 ⟨rfl, hb8⟩
      have HB8 : Hid (Below w.heap.size w w8) := Lib.hid (HB1.out.trans ((HB7.out.trans (hb8.mono HB7.out.size)).mono HB1.out.size))
      clear hb8
      go_wp2_with fail
      go_ret
      exact ⟨rfl, HB8.out⟩

/-! ### THE ROW's STEP: WRITTEN OUT: LEAVE IT -/
set_option maxRecDepth 100000 in
theorem lifted (os : Os) (started : os.Started) (H : Type) (enc : TypeId × Value → H) :
    ReturnsInHanded {} Try.checked os 4 .any (Rows.fnExactSplitStringSpec.pre6 enc Try.prog Try.f4 Rows.fnExactSplitStringRow.domain false) (Rows.fnExactSplitStringSpec.post enc Try.prog Try.f4 false true false false) := by
  refine returnsInHanded_of_change (C := Try.checked) own started (by kernel_rfl) Try.func4
    (ChangeSpec.witness6 (enc := enc) (C := Try.checked) false ⟨#[], #[.string ByteArray.empty, .string ByteArray.empty], []⟩ 8 (by kernel_rfl) (by kernel_rfl) (by kernel_rfl) (by kernel_rfl)) ?_
  intro W base args ds gs before hval0 hW hcnd _
  have hval : ∀ (j : Nat) t v, Try.f4.params[j]? = some t → args[j]? = some v → Value.okWide Try.prog W .any base t v := hval0
  have hW' := hW
  obtain ⟨p, q, hA0, hV, rfl, hfz, hnd⟩ := hW
  have hA : DataW.TrodAll enc Try.prog W 0 (fun _ => true) true Try.f4.params.toList args.toList ds p := hA0
  rw [Try.params4] at hA hval
  obtain ⟨v0, vs0, d0, ds0, p0, q0, hargs, rfl, rfl, h0, r0⟩ := trodAll_cons hA
  obtain ⟨v1, vs1, d1, ds1, p1, q1, rfl, rfl, rfl, h1, r1⟩ := trodAll_cons r0
  obtain ⟨rfl, rfl, rfl⟩ := trodAll_nil r1
  obtain rfl : args = #[v0, v1] := by cases args; simp_all
  obtain ⟨rfl, rfl⟩ := trodVars_none hV
  obtain ⟨a0, rfl, rfl, rfl, w0⟩ := open_string Try.underlying9 (hval 0 9 v0 rfl rfl) h0
  obtain ⟨a1, rfl, rfl, rfl, w1⟩ := open_string Try.underlying9 (hval 1 9 v1 rfl rfl) h1
  clear hA0 hval0
  refine (walk a0 a1 w0 w1 W).mono fun e W' ⟨he, bel⟩ => ?_
  subst he
  exact ⟨_, rfl, _, _, _, [], _, [], hW', trodAll_mk1 (shut_bool Try.underlying4 _), (trodAll_cons_mk (shut_string Try.underlying9 w0) (trodAll_cons_mk (shut_string Try.underlying9 w1) trodAll_mk0)), rfl, bel.frame _, fun h => by cases h⟩

theorem over : Rows.fnExactSplitStringRow.holds Try.pinned (OpenSpec.ofChange Rows.fnExactSplitStringSpec) :=
  OpenClaim.holds_of_wide 4 Try.f4 rfl rfl rfl rfl rfl rfl rfl ⟨rfl, rfl, rfl, rfl, rfl⟩ rfl rfl rfl rfl rfl (by kernel_rfl) Try.func4 (by kernel_rfl)
    (of_decide_eq_true (by kernel_rfl)) (by unfold Func.isWrapper; first | (rw [if_pos (by decide +kernel)]; kernel_rfl) | (rw [if_neg (by decide +kernel)]; exact ⟨rfl, rfl⟩))
    (fun os started H enc _ => lifted os started H enc)

/-- ████ THE STATEMENT ████ -/
theorem proved : Rows.FnExactSplitStringSaid :=
  over
end Go.Proofs.Ytocenggbdnchfaa.fnExactSplitString
