/- The program's tests of terms, as contracts, for terms of at most 1048576 names' bytes and arguments. -/
import Derived.Test.YtppmiedhoimgmaaTmV
import Derived.Test.YtppmiedhoimgmaaSpecV
namespace Go.Proofs.Ytppmiedhoimgmaa
open Go.RowKit
set_option linter.unusedVariables false

/-- What the program's counting of nodes answers. -/
def cntV (t : Tm) (z d : Nat) : Value := if t.sz ≤ z ∧ t.dp ≤ d then .tuple #[.int .i64 t.sz, .bool true] else .tuple #[.int .i64 0, .bool false]

theorem cntV_yes {t : Tm} {z d : Nat} (h : t.sz ≤ z ∧ t.dp ≤ d) : cntV t z d = .tuple #[.int .i64 t.sz, .bool true] := by unfold cntV; rw [if_pos h]
theorem cntV_no {t : Tm} {z d : Nat} (h : ¬ (t.sz ≤ z ∧ t.dp ≤ d)) : cntV t z d = .tuple #[.int .i64 0, .bool false] := by unfold cntV; rw [if_neg h]

theorem ret_eq {a b : Value} (h : a = b) : Ending.returned a = .returned b := by rw [h]

def CountT (t : Tm) : Prop := ∀ (w : World) (va : Value) (z d : Nat), TmS w va t.args → t.wt ≤ 1048576 → z ≤ 1000 → d ≤ 1000 →
  Calls Try.prog 51 #[.agg #[.string t.name, va], .int .i64 z, .int .i64 d] w (Ans (cntV t z d) w)

set_option maxHeartbeats 1000000 in
theorem count_of (t : Tm) (h : ∀ s ∈ t.args, CountT s) : CountT t := by
  intro w va z d hv hw hz hd
  have HE := Lib.hid t.sz_eq
  have HD := Lib.hid t.dp_eq
  have HT := Lib.hid (fun k => sumL_take Tm.sz t.args k)
  have HTD := Lib.hid (fun k => maxL_take Tm.dp t.args k)
  have H := Lib.hid h
  have HL := Lib.hid (fun (s : Tm) (hs : s ∈ t.args) => Nat.le_trans (Tm.wt_arg hs) hw)
  have hlen := Tm.wt_len t
  obtain ⟨a, c, rfl⟩ := hv.is_slice
  have HV := Lib.hid hv
  have h2 := two_new w (.string t.name) (.slice a t.args.length c) 26 _ rfl
  have H2 := Lib.hid h2
  obtain ⟨b0, b1, b2⟩ := h2
  clear h hv
  by_cases hz1 : z < 1
  · have HF := Lib.hid (cntV_no (t := t) (z := z) (d := d) (by have := Tm.sz_pos t; omega))
    have hdz : decide ((z : Int) < 1) = true := by simp; omega
    go_enter Try.func51, Try.ntmps51
    go_wp2
    go_ret2
    exact ⟨ret_eq HF.out.symm, (Below.refl _ _).alloc (Nat.le_refl _) _⟩
  by_cases hd1 : d < 1
  · have HF := Lib.hid (cntV_no (t := t) (z := z) (d := d) (by have := HD.out; omega))
    have hdz : decide ((z : Int) < 1) = false := by simp; omega
    have hdd : decide ((d : Int) < 1) = true := by simp; omega
    go_enter Try.func51, Try.ntmps51
    go_wp2
    go_ret2
    exact ⟨ret_eq HF.out.symm, (Below.refl _ _).alloc (Nat.le_refl _) _⟩
  have hdz : decide ((z : Int) < 1) = false := by simp; omega
  have hdd : decide ((d : Int) < 1) = false := by simp; omega
  go_enter Try.func51, Try.ntmps51
  go_wp2
  go_loopw [8, 22] (fun n i wr => ∃ k q : Nat, k ≤ t.args.length ∧ i = .int .i64 k ∧ n = .int .i64 q ∧ q = 1 + sumL Tm.sz (t.args.take k) ∧ q ≤ z ∧ maxL Tm.dp (t.args.take k) + 1 ≤ d ∧ Below w.heap.size w wr) (fun _ i _ => t.args.length - (intOf i).toNat)
  case atStart => exact ⟨0, 1, Nat.zero_le _, rfl, rfl, by simp [sumL], by omega, by simp [maxL]; omega, (Below.refl _ _).alloc (Nat.le_refl _) _⟩
  case round =>
    obtain ⟨k, q, hk, rfl, rfl, hq, hqz, hqd, hbel⟩ := hrel
    have HQ := Lib.hid hq
    have HQD := Lib.hid hqd
    have HB := Lib.hid hbel
    clear hq hqd hbel b0 b1 b2
    by_cases hlt : k < t.args.length
    · obtain ⟨s, hs⟩ : ∃ s, t.args[k]? = some s := ⟨_, List.getElem?_eq_getElem hlt⟩
      obtain ⟨b, off, rfl, va, c0, c1, hva⟩ := HV.out.get hs
      have c0' := carry_cell c0 HB.out
      have c1' := carry_cell c1 HB.out
      have HVA := Lib.hid (hva.kept HB.out)
      have HS := Lib.hid hs
      obtain ⟨a', c', rfl⟩ := hva.is_slice
      clear hs c0 c1 hva
      have HN := Lib.hid (sumL_next (f := Tm.sz) HS.out)
      have HND := Lib.hid (maxL_next (f := Tm.dp) HS.out)
      have HT1 := Lib.hid (HT.out (k + 1))
      have HTD1 := Lib.hid (HTD.out (k + 1))
      go_wp2_with fail
      rw [show (z : Int) - (q : Int) = ((z - q : Nat) : Int) by omega, show (d : Int) - 1 = ((d - 1 : Nat) : Int) by omega]
      refine (H.out s (mem_of_at HS.out) _ _ (z - q) (d - 1) (HVA.out.alloc _) (HL.out s (mem_of_at HS.out)) (by omega) (by omega)).mono ?_
      rintro e w' ⟨he, hb⟩
      have HB2 := Lib.hid (carry_below (HB.out.alloc HB.out.size _) (Nat.le_refl _) hb)
      clear hb
      by_cases hfit : s.sz ≤ z - q ∧ s.dp ≤ d - 1
      · rw [cntV_yes hfit] at he
        obtain ⟨hf1, hf2⟩ := hfit
        subst he
        have HM : Hid (maxL Tm.dp (t.args.take (k + 1)) + 1 ≤ d) := Lib.hid (by have := HND.out; have := HQD.out; omega)
        have HZ : Hid (q + s.sz = 1 + sumL Tm.sz (t.args.take (k + 1))) := Lib.hid (by have := HN.out; have := HQ.out; omega)
        go_wp2
        go_roundw
        case rel => exact ⟨k + 1, q + s.sz, by omega, by go_num, by go_num, HZ.out, by omega, HM.out, HB2.out⟩
        case measure => simp [intOf]; omega
      · rw [cntV_no hfit] at he
        subst he
        have HF := Lib.hid (cntV_no (t := t) (z := z) (d := d) (by have := HN.out; have := HQ.out; have := HND.out; have := HE.out; have := HD.out; have := HT1.out; have := HTD1.out; omega))
        clear hfit
        go_wp2
        go_ret2
        exact ⟨ret_eq HF.out.symm, HB2.out⟩
    · have hke : k = t.args.length := by omega
      subst hke
      have HF := Lib.hid (cntV_yes (t := t) (z := z) (d := d) (by
        have h1 := HQ.out; have h2 := HQD.out; have := HE.out; have := HD.out
        rw [sumL_all (Nat.le_refl _)] at h1
        rw [maxL_all (Nat.le_refl _)] at h2
        omega))
      have HF2 : Hid ((.tuple #[.int .i64 q, .bool true] : Value) = cntV t z d) := Lib.hid (by
        rw [HF.out]
        have h1 := HQ.out; have := HE.out
        rw [sumL_all (Nat.le_refl _)] at h1
        rw [show q = t.sz by omega])
      go_wp2
      go_ret2
      exact ⟨ret_eq HF2.out, HB.out⟩

theorem count_any (t : Tm) : CountT t := Tm.ind (P := CountT) count_of t

def HaveL (l : List Tm) : Prop := ∀ (w : World) (v : Value), TmS w v l → l.length + sumL Tm.wt l ≤ 2000000 →
  Calls Try.prog 57 #[v] w (Ans (.bool (l.all Tm.nodesB)) w)

set_option maxHeartbeats 2000000 in
theorem have_of (l : List Tm) (h : ∀ s ∈ l, HaveL s.args) : HaveL l := by
  intro w v hv hw
  have H := Lib.hid h
  have HW := Lib.hid (fun (s : Tm) (hs : s ∈ l) => Nat.le_trans (sumL_mem (f := Tm.wt) hs) (Nat.le_trans (Nat.le_add_left _ _) hw))
  obtain ⟨a, c, rfl⟩ := hv.is_slice
  have HV := Lib.hid hv
  clear h hv
  go_enter Try.func57, Try.ntmps57
  go_wp2
  go_loopw [7] (fun i wr => ∃ k : Nat, k ≤ l.length ∧ i = .int .i64 k ∧ (l.take k).all Tm.nodesB = true ∧ Below w.heap.size w wr) (fun i _ => l.length - (intOf i).toNat)
  case atStart => exact ⟨0, Nat.zero_le _, rfl, by simp, Below.refl _ _⟩
  case round =>
    obtain ⟨k, hk, rfl, hq, hbel⟩ := hrel
    have HQ := Lib.hid hq
    have HB := Lib.hid hbel
    clear hq hbel
    by_cases hlt : k < l.length
    · obtain ⟨s, hs⟩ : ∃ s, l[k]? = some s := ⟨_, List.getElem?_eq_getElem hlt⟩
      obtain ⟨b, off, rfl, va, c0, c1, hva⟩ := HV.out.get hs
      have c0' := carry_cell c0 HB.out
      have c1' := carry_cell c1 HB.out
      have HVA := Lib.hid (hva.kept HB.out)
      have HS := Lib.hid hs
      have hsw := HW.out s (mem_of_at hs)
      have hsl : s.args.length ≤ 2000000 := by have := Tm.wt_len s; omega
      have hns : s.name.size ≤ maxLen := by have := Tm.wt_name s; unfold maxLen; omega
      obtain ⟨a', c', rfl⟩ := hva.is_slice
      have CV0 := fun W => isVar_any s.name W hns
      have CS0 := fun W => isSym_any s.name W hns
      clear hs c0 c1 hva hns
      cases hvar : varB s.name with
      | true =>
        rw [hvar] at CV0
        have CV := Lib.hid CV0
        have HE := Lib.hid (Tm.nodesB_var hvar)
        clear CV0
        by_cases h0 : s.args.length = 0
        · have h0' : ((s.args.length : Int) == 0) = true := by rw [h0]; rfl
          have HN : Hid ((l.take (k + 1)).all Tm.nodesB = true) := Lib.hid (by rw [all_next HS.out, HQ.out, HE.out, List.length_eq_zero_iff.1 h0]; rfl)
          clear h0 hvar CS0
          go_wp2_with fail
          refine (CV.out _).mono ?_
          rintro e w' ⟨rfl, rfl⟩
          go_wp2
          go_roundw
          case rel => exact ⟨k + 1, by omega, by go_num, HN.out, HB.out.alloc HB.out.size _⟩
          case measure => simp [intOf]; omega
        · have h0' : ((s.args.length : Int) == 0) = false := by rw [beq_eq_false_iff_ne]; omega
          rw [var_not_sym hvar] at CS0
          have CS := Lib.hid CS0
          have HN : Hid (l.all Tm.nodesB = false) := Lib.hid (all_no HS.out (by rw [HE.out, ← isEmpty_len, h0']))
          clear h0 hvar CS0
          go_wp2_with fail
          refine (CV.out _).mono ?_
          rintro e w' ⟨rfl, rfl⟩
          go_wp2_with fail
          refine (CS.out _).mono ?_
          rintro e w' ⟨rfl, rfl⟩
          go_wp2
          go_ret
          exact ⟨ret_bool HN.out.symm, HB.out.alloc HB.out.size _⟩
      | false =>
        rw [hvar] at CV0
        have CV := Lib.hid CV0
        have HE0 := Tm.nodesB_sym hvar
        clear CV0 hvar
        cases hsym : symB s.name with
        | false =>
          rw [hsym] at CS0 HE0
          have CS := Lib.hid CS0
          have HN : Hid (l.all Tm.nodesB = false) := Lib.hid (all_no HS.out (by rw [HE0]; rfl))
          clear CS0 HE0 hsym
          go_wp2_with fail
          refine (CV.out _).mono ?_
          rintro e w' ⟨rfl, rfl⟩
          go_wp2_with fail
          refine (CS.out _).mono ?_
          rintro e w' ⟨rfl, rfl⟩
          go_wp2
          go_ret
          exact ⟨ret_bool HN.out.symm, HB.out.alloc HB.out.size _⟩
        | true =>
          rw [hsym] at CS0 HE0
          have CS := Lib.hid CS0
          clear CS0 hsym
          by_cases h4 : s.args.length ≤ 4
          · have hd4 : decide ((4 : Int) < (s.args.length : Int)) = false := by simp; omega
            have HE : Hid (s.nodesB = s.args.all Tm.nodesB) := Lib.hid (by rw [HE0]; simp [h4])
            have HH := Lib.hid (H.out s (mem_of_at HS.out))
            clear HE0
            go_wp2_with fail
            refine (CV.out _).mono ?_
            rintro e w' ⟨rfl, rfl⟩
            go_wp2_with fail
            refine (CS.out _).mono ?_
            rintro e w' ⟨rfl, rfl⟩
            go_wp2_with fail
            refine (HH.out _ _ (HVA.out.alloc _) (by have := s.wt_eq; omega)).mono ?_
            rintro e w' ⟨rfl, hb⟩
            have HB2 := Lib.hid (carry_below (HB.out.alloc HB.out.size _) (Nat.le_refl _) hb)
            clear hb
            cases hn : s.args.all Tm.nodesB with
            | true =>
              have HN : Hid ((l.take (k + 1)).all Tm.nodesB = true) := Lib.hid (by rw [all_next HS.out, HQ.out, HE.out, hn]; rfl)
              clear hn
              go_wp2
              go_roundw
              case rel => exact ⟨k + 1, by omega, by go_num, HN.out, HB2.out⟩
              case measure => simp [intOf]; omega
            | false =>
              have HN : Hid (l.all Tm.nodesB = false) := Lib.hid (all_no HS.out (by rw [HE.out, hn]))
              clear hn
              go_wp2
              go_ret
              exact ⟨ret_bool HN.out.symm, HB2.out⟩
          · have hd4 : decide ((4 : Int) < (s.args.length : Int)) = true := by simp; omega
            have HN : Hid (l.all Tm.nodesB = false) := Lib.hid (all_no HS.out (by rw [HE0]; simp [h4]))
            clear HE0 h4
            go_wp2_with fail
            refine (CV.out _).mono ?_
            rintro e w' ⟨rfl, rfl⟩
            go_wp2_with fail
            refine (CS.out _).mono ?_
            rintro e w' ⟨rfl, rfl⟩
            go_wp2
            go_ret
            exact ⟨ret_bool HN.out.symm, HB.out.alloc HB.out.size _⟩
    · have HF : Hid (l.all Tm.nodesB = true) := Lib.hid (by rw [← all_all (p := Tm.nodesB) (l := l) (k := k) (by omega)]; exact HQ.out)
      go_wp2
      go_ret
      exact ⟨ret_bool HF.out.symm, HB.out⟩

theorem have_args (t : Tm) : HaveL t.args := Tm.ind (P := fun t => HaveL t.args) (fun t ih => have_of t.args ih) t
theorem have_any (l : List Tm) : HaveL l := have_of l fun s _ => have_args s

end Go.Proofs.Ytppmiedhoimgmaa
