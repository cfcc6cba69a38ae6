/- ParsePosition answers as its model for every string: no condition (the library's tables are tied to the program's text by the card). -/
import Derived.Test.YtcijmhhajbgknaaDoorPosR
import Derived.Test.YtcijmhhajbgknaaDoorHeldI
import Derived.Test.YtcijmhhajbgknaaDoorCards
import Derived.Test.YtcijmhhajbgknaaDoorTie
import Derived.ProofKit
import Derived.OpenShut
import Derived.ShutString
import Derived.ChangeOld
import Derived.Below
import Derived.LaidMore
import Derived.Stop.LaidErr
import Derived.Stop.Joined
import Derived.Lib.LaidTab
import Derived.SevenTiedAt
namespace Go.Proofs.YtcijmhhajbgknaaDoor.fnExactParsePosition
open Go.ChangeShapes Go.WideShapes Go.ChangeAt Go.RowKit
open Go.ChangeMaps (open_string shut_string)
set_option linter.unusedVariables false

theorem own : ownKnob Tryd.prog.godebug = none := by kernel_rfl
theorem laidOut : laidOutB Tryd.prog = true := by kernel_rfl
theorem gTabType : (Tryd.prog.globals[6]?).map (·.type) = some 187 := by kernel_rfl
theorem cellsTab : Tryd.prog.cellsOf 187 = 20 := by kernel_rfl
theorem cellsEl : Tryd.prog.cellsOf 169 = 1 := by kernel_rfl
theorem cellsStr : Tryd.prog.cellsOf 9 = 1 := by kernel_rfl
theorem cellsErr : Tryd.prog.cellsOf 193 = 1 := by kernel_rfl
theorem gSynType : (Tryd.prog.globals[4]?).map (·.type) = some 88 := by kernel_rfl
theorem gRngType : (Tryd.prog.globals[5]?).map (·.type) = some 88 := by kernel_rfl
theorem star : "*" ++ "errors.errorString" = "*errors.errorString" := by decide
theorem errRow (u : TypeId) (h : Tryd.prog.typeName? 3 u = some "*errors.errorString") : u = 191 :=
  typeName_ptr_named (nm := "errors.errorString") (by rw [star]; kernel_rfl) (by kernel_rfl) (by decide) u (by rw [star]; exact h)

/-- What the row's list gives. -/
theorem listed {W : World} (h : laidMetH Tryd.prog Rows.fnExactParsePositionRow.laid W) : Pow10 W ∧ Holds "strconv.ErrSyntax" W ∧ Holds "strconv.ErrRange" W := by
  have h1 : laidMet Tryd.prog (("internal/strconv.uint64pow10", Lib.tabData .u64 Lib.pow10Tab) :: [("strconv.ErrRange", Rows.laid_strconv_ErrRange), ("strconv.ErrSyntax", Rows.laid_strconv_ErrSyntax)]) W := laidMet.tail (laidMet.tail h)
  have h2 := laidMet.tail h1
  have h3 := laidMet.tail h2
  obtain ⟨a0, s0, hv0, _⟩ := laid_sentinel h2 gRng gRngType Tryd.underlying88 errRow Tryd.underlying191 Tryd.underlying193 rfl rfl Tryd.underlying9 cellsErr cellsStr
  obtain ⟨a1, s1, hv1, _⟩ := laid_sentinel h3 gSyn gSynType Tryd.underlying88 errRow Tryd.underlying191 Tryd.underlying193 rfl rfl Tryd.underlying9 cellsErr cellsStr
  exact ⟨Lib.tabIs_of_head gTab gTabType Tryd.underlying187 Tryd.underlying169 cellsEl cellsTab h1, ⟨_, _, hv1⟩, ⟨_, _, hv0⟩⟩

set_option maxRecDepth 100000 in
set_option maxHeartbeats 2000000 in
theorem walk (s : ByteArray) (w : World) (hs : s.size ≤ maxLen) (hl : Pow10 w ∧ Holds "strconv.ErrSyntax" w ∧ Holds "strconv.ErrRange" w) :
    Calls Tryd.prog 8 #[.string s] w fun e w' => e = .returned (.bool true) ∧ Below w.heap.size w w' := by
  unfold maxLen at hs
  obtain ⟨ht, hh1, hh2⟩ := hl
  have HT := Lib.hid ht
  have HH1 := Lib.hid hh1
  have HH2 := Lib.hid hh2
  clear ht hh1 hh2
  by_cases hbig : (1048576 : Int) < s.size
  · go_enter Tryd.func8, Tryd.ntmps8
    go_wp2
    go_ret
    exact ⟨rfl, Below.refl _ _⟩
  · have hsz : s.size ≤ 1048576 := by omega
    go_enter Tryd.func8, Tryd.ntmps8
    go_wp2_with fail
    refine (specPP_any s _ hsz).mono ?_
    rintro e w1 ⟨v1, rfl, ho, hb⟩
    have hil : ((ppL s.data.toList).getD []).length ≤ 8 := pp_len
    revert ho
    generalize hI : (ppL s.data.toList).getD [] = is
    generalize hO : (ppL s.data.toList).isSome = O
    rw [hI] at hil
    intro ho
    have HB1 := Lib.hid hb
    have X1 := Lib.hid (IntsI.fresh ho)
    obtain ⟨p1, c1, rfl, _⟩ := ho.read
    clear ho hb
    go_wp2_with fail
    refine (implPP_any s _ hsz (HT.out.below HB1.out) (HH1.out.below gSyn HB1.out) (HH2.out.below gRng HB1.out)).mono ?_
    rintro e w2 ⟨v2, rfl, ho, hb⟩
    rw [hI] at ho
    rw [hO]
    have HB2 := Lib.hid (carry_below HB1.out (Nat.le_refl _) hb)
    have X2 := Lib.hid (X1.out.kept hb)
    have Y2 := Lib.hid (IntsI.fresh ho)
    obtain ⟨p2, c2, rfl, _⟩ := ho.read
    have z2 := hb.size
    clear ho hb
    go_wp2_with fail
    refine (eqIntS_any is _ _ _ Y2.out.1.read X2.out.1.read (by omega)).mono ?_
    rintro e w3 ⟨rfl, hb⟩
    have HB3 := Lib.hid (carry_below HB2.out (Nat.le_refl _) hb)
    have X3 := Lib.hid (X2.out.kept hb)
    have Y3 := Lib.hid (Y2.out.kept hb)
    clear hb
    have CM := Lib.hid (markIntS_any is 1 _ _ _ Y3.out.1 (by omega))
    go_wp2_with fail
    refine CM.out.mono ?_
    rintro e w4 ⟨rfl, ho, hout⟩
    have HB4 := Lib.hid (below_outside HB3.out hout HB1.out.size)
    have X4 := Lib.hid (X3.out.outside hout (.inl (Nat.le_refl _)))
    have Y4 := Lib.hid (show IntsI w4 _ _ _ _ from ⟨ho, Nat.le_trans Y3.out.2 hout.size⟩)
    clear ho hout CM
    have CH := Lib.hid (heldIntS_any 1 is.length _ _ Y4.out.1.read (by omega) (by omega))
    have hm0 : decide (((1 + is.length : Nat) : Int) < 0) = false := by simp; omega
    go_wp2_with fail
    refine CH.out.mono ?_
    rintro e w5 ⟨rfl, hb⟩
    have HB5 := Lib.hid (carry_below HB4.out (Nat.le_refl _) hb)
    have X5 := Lib.hid (X4.out.kept hb)
    have Y5 := Lib.hid (Y4.out.kept hb)
    clear hb CH
    go_wp2_with fail
    refine (implPP_any s _ hsz (HT.out.below HB5.out) (HH1.out.below gSyn HB5.out) (HH2.out.below gRng HB5.out)).mono ?_
    rintro e w6 ⟨v6, rfl, ho, hb⟩
    rw [hI] at ho
    rw [hO]
    have HB6 := Lib.hid (carry_below HB5.out (Nat.le_refl _) hb)
    have X6 := Lib.hid (X5.out.kept hb)
    have Y6 := Lib.hid (Y5.out.kept hb)
    have Z6 := Lib.hid ho.read
    obtain ⟨p6, c6, rfl, _⟩ := ho.read
    clear ho hb
    go_wp2_with fail
    refine (eqIntS_any is _ _ _ Z6.out X6.out.1.read (by omega)).mono ?_
    rintro e w7 ⟨rfl, hb⟩
    have HB7 := Lib.hid (carry_below HB6.out (Nat.le_refl _) hb)
    have Y7 := Lib.hid (Y6.out.kept hb)
    clear hb
    have CH := Lib.hid (heldIntS_any 1 is.length _ _ Y7.out.1.read (by omega) (by omega))
    go_wp2_with fail
    refine CH.out.mono ?_
    rintro e w8 ⟨rfl, hb⟩
    have HB8 := Lib.hid (carry_below HB7.out (Nat.le_refl _) hb)
    clear hb CH
    go_wp2
    go_ret
    exact ⟨rfl, HB8.out⟩

theorem door_met (os : Os) (args : Array Value) : laidMetH Tryd.prog Rows.fnExactParsePositionRow.laid ((World.doorLaid Tryd.prog 400 os).forCall (fun _ _ => 0) ⟨#[], args, []⟩).memory :=
  laidMetH_of_parts3 (fuel := 8) (laidMet_of_run' 8 (by kernel_rfl) (by kernel_rfl)) (by kernel_rfl) (by kernel_rfl)

set_option maxRecDepth 100000 in
theorem lifted (os : Os) (started : os.Started) (H : Type) (enc : TypeId × Value → H) :
    ReturnsInHanded {} Tryd.checked os 8 .any (fun w args => (Rows.fnExactParsePositionSpec.pre enc Tryd.prog Tryd.f8 [] false w args ∧ laidMetH Tryd.prog Rows.fnExactParsePositionRow.laid w) ∧ sizedMet enc Tryd.prog Tryd.f8 (OpenSpec.ofChange Rows.fnExactParsePositionSpec) false w args)
      (Rows.fnExactParsePositionSpec.post enc Tryd.prog Tryd.f8 false true false false) := by
  refine returnsInHanded_of_change_and (C := Tryd.checked) (X := fun w _ => laidMetH Tryd.prog Rows.fnExactParsePositionRow.laid w) (fun _ _ _ hh h => h.of_heap hh) own started (by kernel_rfl) Tryd.func8
    (ChangeSpec.witness_shaped (enc := enc) (C := Tryd.checked) (os := os) (X := fun w _ => laidMetH Tryd.prog Rows.fnExactParsePositionRow.laid w) false (World.doorLaid Tryd.prog 400 os) #[.string ByteArray.empty] 8 rfl (World.shaped_of_RefB (by kernel_rfl) (by kernel_rfl)) (by kernel_rfl) (by kernel_rfl) (by kernel_rfl) (door_met os _)) ?_
  intro W base args ds gs before hval0 hW _ _ hL _
  have hval : ∀ (j : Nat) t v, Tryd.f8.params[j]? = some t → args[j]? = some v → Value.okWide Tryd.prog W .any base t v := hval0
  have hW' := hW
  obtain ⟨p, q, hA0, hV, rfl, hfz, hnd⟩ := hW
  have hA : DataW.TrodAll enc Tryd.prog W 0 (fun _ => true) true Tryd.f8.params.toList args.toList ds p := hA0
  rw [Tryd.params8] at hA hval
  obtain ⟨v0, vs0, d0, ds0, p0, q0, hargs, rfl, rfl, h0, r0⟩ := trodAll_cons hA
  obtain ⟨rfl, rfl, rfl⟩ := trodAll_nil r0
  obtain rfl : args = #[v0] := by cases args; simp_all
  obtain ⟨rfl, rfl⟩ := trodVars_none hV
  obtain ⟨a0, rfl, rfl, rfl, w0⟩ := open_string Tryd.underlying9 (hval 0 9 v0 rfl rfl) h0
  clear hA0 hval0
  refine (walk a0 W w0 (listed hL)).mono fun e W' ⟨he, bel⟩ => ?_
  subst he
  exact ⟨_, rfl, _, _, _, [], _, [], hW', trodAll_mk1 (shut_bool Tryd.underlying4 _), (trodAll_cons_mk (shut_string Tryd.underlying9 w0) trodAll_mk0), rfl, bel.frame _, fun h => by cases h⟩

theorem said : Rows.FnExactParsePositionSaid :=
  OpenClaim.holds_of_wide 8 Tryd.f8 rfl rfl rfl rfl rfl rfl rfl ⟨rfl, rfl, rfl, rfl, rfl⟩ rfl rfl rfl rfl rfl (by kernel_rfl) Tryd.func8 (by kernel_rfl)
    (of_decide_eq_true (by kernel_rfl)) (by unfold Func.isWrapper; first | (rw [if_pos (by decide +kernel)]; kernel_rfl) | (rw [if_neg (by decide +kernel)]; exact ⟨rfl, rfl⟩))
    (fun os started H enc _ => lifted os started H enc)

/-- No parameter wants a stand-in; the program's own looks are on or off as the card says. -/
theorem plain (f : FuncId) (fn : Func) (hf : Tryd.pinned.checked.prog.funcNamed "loop.example/g00892/laws.FnExactParsePosition" = some f) (hfn : Tryd.pinned.checked.prog.funcs[f]? = some fn) :
    true = Tryd.pinned.checked.prog.looks [] ∧ ∀ (j : Nat) t, fn.params[j]? = some t → Tryd.pinned.checked.prog.wantsStandIn t = false := by
  obtain rfl : f = 8 := Option.some.inj ((show Tryd.prog.funcNamed "loop.example/g00892/laws.FnExactParsePosition" = some 8 by kernel_rfl).symm.trans hf) |>.symm
  obtain rfl : fn = Tryd.f8 := (Option.some.inj (Tryd.func8.symm.trans hfn)).symm
  refine ⟨by kernel_rfl, fun j t ht => ?_⟩
  rw [Tryd.params8] at ht
  obtain rfl : t = 9 := by simpa using Array.mem_of_getElem? ht
  exact (show Tryd.prog.wantsStandIn 9 = false by kernel_rfl)

theorem card : Rows.FnExactParsePositionCardSaid :=
  Claim7.holds_tied_plain_at .later [] _ _ _ _ said (fun _ h => by cases h) (by kernel_rfl) (fun _ h => by cases h) fnExactParsePosition_row_tie rfl ⟨rfl, rfl⟩ (by kernel_rfl) rfl plain (by kernel_rfl)
end Go.Proofs.YtcijmhhajbgknaaDoor.fnExactParsePosition
