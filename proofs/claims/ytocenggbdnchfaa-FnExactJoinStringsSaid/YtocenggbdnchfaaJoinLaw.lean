/- JoinStrings answers as its model for every slice of strings and every separator, and leaves the slice as it was: no condition. -/
import Derived.Test.YtocenggbdnchfaaJoin
import Derived.WalkKit
import Derived.ProofKit
import Derived.OpenShut
import Derived.ShutString
import Derived.ChangeOld
import Derived.Below
namespace Go.Proofs.Ytocenggbdnchfaa.fnExactJoinStrings
open Go.ChangeShapes Go.WideShapes Go.ChangeAt Go.RowKit
open Go.ChangeMaps (open_string shut_string)
set_option linter.unusedVariables false

theorem own : ownKnob Try.prog.godebug = none := by kernel_rfl
theorem laidOut : laidOutB Try.prog = true := by kernel_rfl

theorem getD_small {l : List ByteArray} (h : ∀ s ∈ l, s.size ≤ maxLen) (i : Nat) : (l.getD i ByteArray.empty).size ≤ maxLen := by
  by_cases hi : i < l.length
  · rw [getD_eq hi]; exact h _ (List.getElem_mem hi)
  · rw [List.getD_eq_getElem?_getD, List.getElem?_eq_none (by omega)]; exact Nat.zero_le _

theorem joinEnd_spec (v : Value) (ss : List ByteArray) (sep : ByteArray) (w : World) (hv : StrsV w v ss) (hs : sep.size ≤ maxLen) (hn : ss.length ≤ 1048576)
    (hz : ∀ j, j < ss.length → (ss.getD j ByteArray.empty).size ≤ 1048576) :
    Calls Try.prog 13 #[v, .string sep] w fun e w' => e = .returned (.tuple #[.string (jT ss sep), .bool (jB ss sep)]) ∧ Drawn w w' := specJoin_any v ss sep w hv hs hn hz
theorem joinEnd_impl (v : Value) (ss : List ByteArray) (sep : ByteArray) (w : World) (hv : StrsV w v ss) (hs : sep.size ≤ maxLen) (hn : ss.length ≤ 1048576)
    (hz : ∀ j, j < ss.length → (ss.getD j ByteArray.empty).size ≤ 1048576) (hcap : ∀ a n c, v = .slice a n c → n ≤ c) :
    Calls Try.prog 12 #[v, .string sep] w fun e w' => e = .returned (.tuple #[.string (jT ss sep), .bool (jB ss sep)]) ∧ Below w.heap.size w w' := implJoin_any v ss sep w hv hs hn hz hcap
theorem eq_self (va vb : Value) (ss : List ByteArray) (w : World) (ha : StrsV w va ss) (hb : StrsV w vb ss) (hn : ss.length ≤ 281474976710656) :
    Calls Try.prog 18 #[va, vb] w fun e w' => e = .returned (.bool true) ∧ Drawn w w' := by
  have h := eqStringS_any va vb ss ss w ha hb hn hn
  rwa [eqSs_self] at h

set_option maxHeartbeats 1000000 in
theorem walk (v0 : Value) (ss : List ByteArray) (sep : ByteArray) (w : World) (hv : StrsV w v0 ss) (hn : ss.length ≤ 9223372036854775807) (hz : ∀ i, (ss.getD i ByteArray.empty).size ≤ maxLen) (hs : sep.size ≤ maxLen) :
    Calls Try.prog 5 #[v0, .string sep] w fun e w' => e = .returned (.bool true) ∧ Below w.heap.size w w' := by
  have hv0 : Hid (StrsV w v0 ss) := Lib.hid hv
  have hs0 : Hid (sep.size ≤ maxLen) := Lib.hid hs
  have hz0 : Hid (∀ i, (ss.getD i ByteArray.empty).size ≤ maxLen) := Lib.hid hz
  clear hv hs hz
  by_cases hbig : (1048576 : Int) < sep.size
  · go_enter Try.func5, Try.ntmps5
    go_wp2
    go_ret
    exact ⟨rfl, Below.refl _ _⟩
  · go_enter Try.func5, Try.ntmps5
    go_wp2_with fail
    refine (szStringS_any _ ss _ hv0.out hn hz0.out).mono ?_
    rintro e w' ⟨rfl | ⟨r, hr0, hr1, hl, hsm, rfl⟩, rfl⟩
    · go_wp2
      go_ret
      exact ⟨rfl, Below.refl _ _⟩
    · have hsm0 : Hid (∀ j, j < ss.length → (ss.getD j ByteArray.empty).size ≤ 1048576) := Lib.hid hsm
      clear hsm
      go_wp2_with fail
      refine (toStringS_any _ ss _ hv0.out (by omega)).mono ?_
      rintro e w1 ⟨v1, rfl, hown1, hb1⟩
      have hs1 : Hid (StrsV w1 v1 ss) := Lib.hid (strsV_of_owns hown1)
      have HB1 : Hid (Below w.heap.size w w1) := Lib.hid hb1
      clear hown1 hb1
      go_wp2_with fail
      refine (joinEnd_spec _ ss sep _ hs1.out hs0.out hl hsm0.out).mono ?_
      rintro e w2 ⟨rfl, hd2⟩
      have HB2 : Hid (Below w.heap.size w w2) := Lib.hid (HB1.out.trans (hd2.below _))
      clear hd2
      go_wp2_with fail
      refine (toStringS_any _ ss _ (hv0.out.below HB2.out) (by omega)).mono ?_
      rintro e w3 ⟨v3, rfl, hown3, hb3⟩
      have hs3 : Hid (StrsV w3 v3 ss) := Lib.hid (strsV_of_owns hown3)
      have hc3 : Hid (∀ a m c, v3 = .slice a m c → m ≤ c) := Lib.hid (owns_cap hown3)
      have HB3 : Hid (Below w.heap.size w w3) := Lib.hid (HB2.out.trans (hb3.mono HB2.out.size))
      clear hown3 hb3
      go_wp2_with fail
      refine (joinEnd_impl _ ss sep _ hs3.out hs0.out hl hsm0.out hc3.out).mono ?_
      rintro e w4 ⟨rfl, hb4⟩
      have hs4 : Hid (StrsV w4 v3 ss) := Lib.hid (hs3.out.below hb4)
      have HB4 : Hid (Below w.heap.size w w4) := Lib.hid (HB3.out.trans (hb4.mono HB3.out.size))
      clear hb4
      go_wp2_with fail
      refine (toStringS_any _ ss _ (hv0.out.below HB4.out) (by omega)).mono ?_
      rintro e w5 ⟨v5, rfl, hown5, hb5⟩
      have hs5 : Hid (StrsV w5 v5 ss) := Lib.hid (strsV_of_owns hown5)
      have hs45 : Hid (StrsV w5 v3 ss) := Lib.hid (hs4.out.below hb5)
      have HB5 : Hid (Below w.heap.size w w5) := Lib.hid (HB4.out.trans (hb5.mono HB4.out.size))
      clear hown5 hb5
      go_wp2_with fail
      refine (eq_self _ _ ss _ hs45.out hs5.out (by omega)).mono ?_
      rintro e w6 ⟨rfl, hd6⟩
      have HB6 : Hid (Below w.heap.size w w6) := Lib.hid (HB5.out.trans (hd6.below _))
      clear hd6
      go_wp2_with fail
      go_ret
      exact ⟨rfl, HB6.out⟩

/-! ### THE ROW's STEP: WRITTEN OUT: LEAVE IT -/
set_option maxRecDepth 100000 in
theorem lifted (os : Os) (started : os.Started) (H : Type) (enc : TypeId × Value → H) :
    ReturnsInHanded {} Try.checked os 5 .any (Rows.fnExactJoinStringsSpec.pre6 enc Try.prog Try.f5 Rows.fnExactJoinStringsRow.domain false) (Rows.fnExactJoinStringsSpec.post enc Try.prog Try.f5 false true false false) := by
  refine returnsInHanded_of_change (C := Try.checked) own started (by kernel_rfl) Try.func5
    (ChangeSpec.witness6 (enc := enc) (C := Try.checked) false ⟨#[], #[.slice none 0 0, .string ByteArray.empty], []⟩ 8 (by kernel_rfl) (by kernel_rfl) (by kernel_rfl) (by kernel_rfl)) ?_
  intro W base args ds gs before hval0 hW hcnd _
  have hval : ∀ (j : Nat) t v, Try.f5.params[j]? = some t → args[j]? = some v → Value.okWide Try.prog W .any base t v := hval0
  have hW' := hW
  obtain ⟨p, q, hA0, hV, rfl, hfz, hnd⟩ := hW
  have hA : DataW.TrodAll enc Try.prog W 0 (fun _ => true) true Try.f5.params.toList args.toList ds p := hA0
  rw [Try.params5] at hA hval
  obtain ⟨v0, vs0, d0, ds0, p0, q0, hargs, rfl, rfl, h0, r0⟩ := trodAll_cons hA
  obtain ⟨v1, vs1, d1, ds1, p1, q1, rfl, rfl, rfl, h1, r1⟩ := trodAll_cons r0
  obtain ⟨rfl, rfl, rfl⟩ := trodAll_nil r1
  obtain rfl : args = #[v0, v1] := by cases args; simp_all
  obtain ⟨rfl, rfl⟩ := trodVars_none hV
  obtain ⟨a0, len0, cap0, rfl⟩ := okWide_slice Try.underlying26 (hval 0 26 v0 rfl rfl)
  have k0 := h0
  have lt0 : ∀ x ∈ p0, x.block < W.heap.size := by obtain ⟨m, hm⟩ := k0; exact DataW.trod_lt m _ _ _ hm
  obtain ⟨z0, w0, wn, wz⟩ : ∃ ss, StrsV W (.slice a0 len0 cap0) ss ∧ ss.length ≤ 9223372036854775807 ∧ ∀ i, (ss.getD i ByteArray.empty).size ≤ maxLen := by
    obtain ⟨fuel, hf⟩ := h0
    rcases open_strings Try.underlying26 Try.underlying9 (by kernel_rfl) hf with ⟨hcs, _⟩ | ⟨x, l, c, ss, hcs, _, hl, hm, hz, _, hcell, hwz⟩
    · simp [Value.cells] at hcs
      obtain ⟨rfl, rfl, rfl⟩ := hcs
      exact ⟨[], .inl ⟨_, _, rfl, rfl⟩, by simp, fun i => by simp⟩
    · simp [Value.cells] at hcs
      obtain ⟨rfl, rfl, rfl⟩ := hcs
      have hz' : ss.length = cap0 := by simpa using hz
      refine ⟨ss.take len0, strsV_of_open (by omega) hcell, by unfold maxLen at hm; simp; omega, fun i => ?_⟩
      exact getD_small (fun s hs => hwz s (List.mem_of_mem_take hs)) i
  obtain ⟨a1, rfl, rfl, rfl, w1⟩ := open_string Try.underlying9 (hval 1 9 v1 rfl rfl) h1
  clear hA0 hval0
  refine (walk _ z0 a1 W w0 wn wz w1).mono fun e W' ⟨he, bel⟩ => ?_
  subst he
  exact ⟨_, rfl, _, _, _, [], _, [], hW', trodAll_mk1 (shut_bool Try.underlying4 _), (trodAll_cons_mk (Below.trod laidOut (by kernel_rfl) (of_decide_eq_true (by kernel_rfl)) k0 bel lt0) (trodAll_cons_mk (shut_string Try.underlying9 w1) trodAll_mk0)), rfl, bel.frame _, fun h => by cases h⟩

theorem over : Rows.fnExactJoinStringsRow.holds Try.pinned (OpenSpec.ofChange Rows.fnExactJoinStringsSpec) :=
  OpenClaim.holds_of_wide 5 Try.f5 rfl rfl rfl rfl rfl rfl rfl ⟨rfl, rfl, rfl, rfl, rfl⟩ rfl rfl rfl rfl rfl (by kernel_rfl) Try.func5 (by kernel_rfl)
    (of_decide_eq_true (by kernel_rfl)) (by unfold Func.isWrapper; first | (rw [if_pos (by decide +kernel)]; kernel_rfl) | (rw [if_neg (by decide +kernel)]; exact ⟨rfl, rfl⟩))
    (fun os started H enc _ => lifted os started H enc)

/-- ████ THE STATEMENT ████ -/
theorem proved : Rows.FnExactJoinStringsSaid := over
end Go.Proofs.Ytocenggbdnchfaa.fnExactJoinStrings
