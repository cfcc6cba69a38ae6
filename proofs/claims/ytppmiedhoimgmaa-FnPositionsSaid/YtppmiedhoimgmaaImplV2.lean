/- The program's tests of terms and atoms, as contracts: they answer as the model's. For terms of at most 1048576 names' bytes and arguments. -/
import Derived.Test.YtppmiedhoimgmaaImplV
namespace Go.Proofs.Ytppmiedhoimgmaa
open Go.RowKit
set_option linter.unusedVariables false

set_option maxHeartbeats 1000000 in
theorem within_any (t : Tm) (w : World) (va : Value) (hv : TmS w va t.args) (hw : t.wt ≤ 1048576) :
    Calls Try.prog 56 #[.agg #[.string t.name, va]] w (Ans (.bool (fitsB t)) w) := by
  obtain ⟨a, c, rfl⟩ := hv.is_slice
  have HV := Lib.hid hv
  clear hv
  by_cases h : t.sz ≤ 30 ∧ t.dp ≤ 8
  · have HF : Hid (fitsB t = true) := Lib.hid (by simp [fitsB, h])
    go_enter Try.func56, Try.ntmps56
    go_wp2_with fail
    refine (count_any t _ _ 30 8 (HV.out.alloc _) hw (by omega) (by omega)).mono ?_
    rintro e w' ⟨he, hb⟩
    rw [cntV_yes h] at he
    have HB := Lib.hid (carry_below (((Below.refl w.heap.size w).alloc (Nat.le_refl _) _)) (Nat.le_refl _) hb)
    subst he
    clear hb
    go_wp2
    go_ret
    exact ⟨ret_bool HF.out.symm, HB.out⟩
  · have HF : Hid (fitsB t = false) := Lib.hid (by simp only [fitsB]; rw [← Bool.not_eq_true]; simp; omega)
    go_enter Try.func56, Try.ntmps56
    go_wp2_with fail
    refine (count_any t _ _ 30 8 (HV.out.alloc _) hw (by omega) (by omega)).mono ?_
    rintro e w' ⟨he, hb⟩
    rw [cntV_no h] at he
    have HB := Lib.hid (carry_below (((Below.refl w.heap.size w).alloc (Nat.le_refl _) _)) (Nat.le_refl _) hb)
    subst he
    clear hb
    go_wp2
    go_ret
    exact ⟨ret_bool HF.out.symm, HB.out⟩

/-- A slice of one term, just built. -/
theorem tmS_one {w : World} {t : Tm} {va : Value} (hv : TmS w va t.args) (g c : Nat) (h0 : w.cell? ⟨g, 0, none⟩ = some (.string t.name)) (h1 : w.cell? ⟨g, 1, none⟩ = some va) : TmS w (.slice (some ⟨g, 0, none⟩) 1 c) [t] := by
  refine .row g 0 c [t] (fun _ => va) (by simp) (fun i s hi => ?_) (fun i s hi => ?_) (fun i s hi => ?_)
  all_goals
    have hi0 : i = 0 := by have := (List.getElem?_eq_some_iff.1 hi).1; simp at this; omega
    subst hi0
    have e : t = s := by simpa using hi
    subst e
  · exact h0
  · exact h1
  · exact hv

set_option maxHeartbeats 1000000 in
theorem validTerm_any (t : Tm) (w : World) (va : Value) (hv : TmS w va t.args) (hw : t.wt ≤ 1048576) :
    Calls Try.prog 16 #[.agg #[.string t.name, va]] w (Ans (.bool (goodB t)) w) := by
  obtain ⟨a, c, rfl⟩ := hv.is_slice
  have HV := Lib.hid hv
  clear hv
  go_enter Try.func16, Try.ntmps16
  go_wp2_with fail
  refine (within_any t _ _ (HV.out.alloc _) hw).mono ?_
  rintro e w' ⟨rfl, hb⟩
  have HB := Lib.hid (carry_below (((Below.refl w.heap.size w).alloc (Nat.le_refl _) _)) (Nat.le_refl _) hb)
  obtain ⟨b0, b1, b2⟩ := (two_new w (.string t.name) (.slice a t.args.length c) 26 _ rfl).kept hb
  clear hb
  cases hf : fitsB t with
  | true =>
    have HF : Hid (goodB t = t.nodesB) := Lib.hid (by simp [goodB, hf])
    clear hf
    go_wp2_with fail
    refine (have_any [t] _ _ (tmS_one ((HV.out.kept HB.out).alloc _) _ _ (two_new _ _ _ _ _ rfl).1 (two_new _ _ _ _ _ rfl).2.1) (by simp [sumL]; omega)).mono ?_
    rintro e w2 ⟨rfl, hb⟩
    have HB2 := Lib.hid (carry_below (HB.out.alloc HB.out.size _) (Nat.le_refl _) hb)
    clear hb
    go_wp2
    go_ret
    exact ⟨ret_bool (by rw [HF.out]), HB2.out⟩
  | false =>
    have HF : Hid (goodB t = false) := Lib.hid (by simp [goodB, hf])
    clear hf
    go_wp2
    go_ret
    exact ⟨ret_bool HF.out.symm, HB.out⟩

theorem atom_other {t : Tm} (h : isEqB t.name = false) : atomB t = (goodB t && !varB t.name) := by
  unfold atomB
  rw [h]
  cases hv : varB t.name with
  | true => rw [var_not_sym hv]; simp
  | false =>
    cases hs : symB t.name with
    | true => simp
    | false => simp [goodB, Tm.nodesB_sym hv, hs]

set_option maxHeartbeats 1000000 in
theorem validAtom_any (t : Tm) (w : World) (va : Value) (hv : TmS w va t.args) (hw : t.wt ≤ 1048576) :
    Calls Try.prog 108 #[.agg #[.string t.name, va]] w (Ans (.bool (atomB t)) w) := by
  obtain ⟨a, c, rfl⟩ := hv.is_slice
  have HV := Lib.hid hv
  have h2 := (two_new w (.string t.name) (.slice a t.args.length c) 26 _ rfl)
  have H2 := Lib.hid h2
  obtain ⟨b0, b1, b2⟩ := h2
  clear hv
  cases heq : isEqB t.name with
  | true =>
    have hq : (t.name.toList == [61]) = true := heq
    have HAT : Hid (atomB t = (decide (t.args.length = 2) && (fitsB t && t.args.all Tm.nodesB))) := Lib.hid (by unfold atomB; rw [heq]; rfl)
    clear heq
    by_cases hl : t.args.length = 2
    · have hl2 : ((t.args.length : Int) == 2) = true := by rw [hl]; rfl
      have HAT2 : Hid (atomB t = (fitsB t && t.args.all Tm.nodesB)) := Lib.hid (by rw [HAT.out]; simp [hl])
      clear HAT hl
      go_enter Try.func108, Try.ntmps108
      go_wp2_with fail
      refine (within_any t _ _ (HV.out.alloc _) hw).mono ?_
      rintro e w' ⟨rfl, hb⟩
      have HB := Lib.hid (carry_below (((Below.refl w.heap.size w).alloc (Nat.le_refl _) _)) (Nat.le_refl _) hb)
      obtain ⟨b0, b1, b2⟩ := H2.out.kept hb
      clear hb
      cases hf : fitsB t with
      | false =>
        have HF : Hid (atomB t = false) := Lib.hid (by rw [HAT2.out, hf]; rfl)
        clear hf
        go_wp2
        go_ret
        exact ⟨ret_bool HF.out.symm, HB.out⟩
      | true =>
        have HF : Hid (atomB t = t.args.all Tm.nodesB) := Lib.hid (by rw [HAT2.out, hf]; rfl)
        clear hf
        go_wp2_with fail
        refine (have_any t.args _ _ (HV.out.kept HB.out) (by have := t.wt_eq; omega)).mono ?_
        rintro e w2 ⟨rfl, hb⟩
        have HB2 := Lib.hid (carry_below HB.out (Nat.le_refl _) hb)
        clear hb
        go_wp2
        go_ret
        exact ⟨ret_bool HF.out.symm, HB2.out⟩
    · have hl2 : ((t.args.length : Int) == 2) = false := by rw [beq_eq_false_iff_ne]; omega
      have HF : Hid (atomB t = false) := Lib.hid (by rw [HAT.out]; simp [hl])
      clear hl HAT
      go_enter Try.func108, Try.ntmps108
      go_wp2
      go_ret
      exact ⟨ret_bool HF.out.symm, (Below.refl _ _).alloc (Nat.le_refl _) _⟩
  | false =>
    have hq : (t.name.toList == [61]) = false := heq
    have HAT := Lib.hid (atom_other heq)
    have CS := Lib.hid (fun W => isVar_any t.name W (by have := Tm.wt_name t; unfold maxLen; omega))
    clear heq
    go_enter Try.func108, Try.ntmps108
    go_wp2_with fail
    refine (validTerm_any t _ _ (HV.out.alloc _) hw).mono ?_
    rintro e w' ⟨rfl, hb⟩
    have HB := Lib.hid (carry_below (((Below.refl w.heap.size w).alloc (Nat.le_refl _) _)) (Nat.le_refl _) hb)
    obtain ⟨b0, b1, b2⟩ := H2.out.kept hb
    clear hb
    cases hg : goodB t with
    | false =>
      have HF : Hid (atomB t = false) := Lib.hid (by rw [HAT.out, hg]; rfl)
      clear hg
      go_wp2
      go_ret
      exact ⟨ret_bool HF.out.symm, HB.out⟩
    | true =>
      have HF : Hid (atomB t = !varB t.name) := Lib.hid (by rw [HAT.out, hg]; rfl)
      clear hg
      go_wp2_with fail
      refine (CS.out _).mono ?_
      rintro e w2 ⟨rfl, rfl⟩
      go_wp2
      go_ret
      exact ⟨ret_bool HF.out.symm, HB.out⟩

set_option maxHeartbeats 1000000 in
theorem areExpr_any (l : List Tm) (w : World) (v : Value) (hv : TmS w v l) (hlen : l.length ≤ 1000000) (hw : ∀ s ∈ l, s.wt ≤ 1048576) :
    Calls Try.prog 49 #[v] w (Ans (.bool (l.all anyB)) w) := by
  have HW := Lib.hid hw
  obtain ⟨a, c, rfl⟩ := hv.is_slice
  have HV := Lib.hid hv
  clear hv hw
  go_enter Try.func49, Try.ntmps49
  go_wp2
  go_loopw [7] (fun i wr => ∃ k : Nat, k ≤ l.length ∧ i = .int .i64 k ∧ (l.take k).all anyB = true ∧ Below w.heap.size w wr) (fun i _ => l.length - (intOf i).toNat)
  case atStart => exact ⟨0, Nat.zero_le _, rfl, by simp, Below.refl _ _⟩
  case round =>
    obtain ⟨k, hk, rfl, hq, hbel⟩ := hrel
    have HQ := Lib.hid hq
    have HB := Lib.hid hbel
    clear hq hbel
    by_cases hlt : k < l.length
    · obtain ⟨s, hs⟩ : ∃ s, l[k]? = some s := ⟨_, List.getElem?_eq_getElem hlt⟩
      obtain ⟨b, off, rfl, va, c0, c1, hva⟩ := HV.out.get hs
      have c0' := carry_cell c0 HB.out
      have c1' := carry_cell c1 HB.out
      have HVA := Lib.hid (hva.kept HB.out)
      have HS := Lib.hid hs
      have hsw := HW.out s (mem_of_at hs)
      obtain ⟨a', c', rfl⟩ := hva.is_slice
      have H2 := Lib.hid (two_new wr (.string s.name) (.slice a' s.args.length c') 26 _ rfl)
      clear hs c0 c1 hva
      go_wp2_with fail
      refine (validTerm_any s _ _ (HVA.out.alloc _) hsw).mono ?_
      rintro e w' ⟨rfl, hb⟩
      have HB2 := Lib.hid (carry_below (HB.out.alloc HB.out.size _) (Nat.le_refl _) hb)
      have HVA2 := Lib.hid ((HVA.out.alloc _).kept hb)
      obtain ⟨b0, b1, b2⟩ := H2.out.kept hb
      clear hb
      cases hg : goodB s with
      | true =>
        have HN : Hid ((l.take (k + 1)).all anyB = true) := Lib.hid (by rw [all_next HS.out, HQ.out]; simp [anyB, hg])
        clear hg
        go_wp2
        go_roundw
        case rel => exact ⟨k + 1, by omega, by go_num, HN.out, HB2.out⟩
        case measure => simp [intOf]; omega
      | false =>
        have HY : Hid (anyB s = atomB s) := Lib.hid (by simp [anyB, hg])
        clear hg
        go_wp2_with fail
        refine (validAtom_any s _ _ HVA2.out hsw).mono ?_
        rintro e w2 ⟨rfl, hb⟩
        have HB3 := Lib.hid (carry_below HB2.out (Nat.le_refl _) hb)
        clear hb
        cases hat : atomB s with
        | true =>
          have HN : Hid ((l.take (k + 1)).all anyB = true) := Lib.hid (by rw [all_next HS.out, HQ.out, HY.out, hat]; rfl)
          clear hat
          go_wp2
          go_roundw
          case rel => exact ⟨k + 1, by omega, by go_num, HN.out, HB3.out⟩
          case measure => simp [intOf]; omega
        | false =>
          have HN : Hid (l.all anyB = false) := Lib.hid (all_no HS.out (by rw [HY.out, hat]))
          clear hat
          go_wp2
          go_ret
          exact ⟨ret_bool HN.out.symm, HB3.out⟩
    · have HF : Hid (l.all anyB = true) := Lib.hid (by rw [← all_all (p := anyB) (l := l) (k := k) (by omega)]; exact HQ.out)
      go_wp2
      go_ret
      exact ⟨ret_bool HF.out.symm, HB.out⟩

end Go.Proofs.Ytppmiedhoimgmaa
