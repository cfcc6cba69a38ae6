/- Whether a substitution is valid, in the program: a contract, for bindings of at most 1048576 names' bytes, bindings and arguments. -/
import Derived.Test.YtgpmdfhepanahaaGreatSubM
import Derived.BigQuiet
import Derived.Deep.QuietTactic
namespace Go.Proofs.YtgpmdfhepanahaaGreat
open Go.RowKit
set_option linter.unusedVariables false

theorem below_drewN (w : World) (q : Nat) : Below w.heap.size w (w.drewN q) := ⟨rfl, rfl, rfl, Nat.le_refl _, fun _ _ => rfl⟩
theorem below_drewN' (B : Nat) (w : World) (q : Nat) : Below B w (w.drewN q) := ⟨rfl, rfl, rfl, Nat.le_refl _, fun _ _ => rfl⟩

theorem less_any (a b : ByteArray) (w : World) :
    Calls Tryz.prog 97 #[.string a, .string b] w fun e w' => e = .returned (.bool (lessN a b)) ∧ w = w' := by
  go_enter Tryz.func97, Tryz.ntmps97
  go_wp2
  go_ret
  exact ⟨rfl, rfl⟩

theorem trivial_any (d : Bd) (pa : Option Addr) (n ca : Nat) (w : World) :
    Calls Tryz.prog 96 #[.agg #[.string d.var, .string d.tm.name, .slice pa n ca]] w (Ans (.bool (sameB d.tm.name d.var)) w) := by
  have h1 := thr_new w (.string d.var) (.string d.tm.name) (.slice pa n ca) 133 _ rfl
  have HB := Lib.hid ((Below.refl w.heap.size w).alloc (Nat.le_refl _) (.cells #[.string d.var, .string d.tm.name, .slice pa n ca] 133))
  obtain ⟨b0, b1, b2, b3⟩ := h1
  go_enter Tryz.func96, Tryz.ntmps96
  go_wp2
  go_ret
  exact ⟨rfl, HB.out⟩

set_option maxRecDepth 100000 in
set_option maxHeartbeats 4000000 in
theorem implIsValidSub_any (l : List Bd) (w : World) (v : Value) (hv : BdS w v l) (hw : wtB l ≤ 1048576) :
    Calls Tryz.prog 54 #[.agg #[v]] w (Ans (.bool (goodS l)) w) := by
  have hl6 : l.length ≤ 1048576 := Nat.le_trans (wtB_len l) hw
  have HW := Lib.hid hw
  obtain ⟨a, c, rfl⟩ := hv.is_slice
  have HV := Lib.hid hv
  have h1 := oner_new w (.slice a l.length c) 61 _ rfl
  have H1 := Lib.hid h1
  obtain ⟨b0, b1⟩ := h1
  have HB0 := Lib.hid ((Below.refl w.heap.size w).alloc (Nat.le_refl _) (.cells #[.slice a l.length c] 61))
  clear hv hw
  by_cases h12 : 12 < l.length
  · have h12i : (12 : Int) < (l.length : Int) := by omega
    have HF := Lib.hid (goodS_len h12)
    clear h12
    go_enter Tryz.func54, Tryz.ntmps54
    go_wp2
    go_ret
    exact ⟨ret_bool HF.out.symm, HB0.out⟩
  · have h12i : ¬ (12 : Int) < (l.length : Int) := by omega
    have HG := Lib.hid (goodS_ok (l := l) (by omega))
    clear h12
    go_enter Tryz.func54, Tryz.ntmps54
    go_wp2
    go_loopw [12] (fun i wr => ∃ k : Nat, k ≤ l.length ∧ i = .int .i64 k ∧ okS l k = true ∧ Oner wr w.heap.size (.slice a l.length c) ∧ Below w.heap.size w wr) (fun i _ => l.length - (intOf i).toNat)
    case atStart => exact ⟨0, Nat.zero_le _, rfl, by simp [okS], H1.out, HB0.out⟩
    case round =>
      obtain ⟨k, hk, rfl, hq, hone, hbel⟩ := hrel
      have HQ := Lib.hid hq
      have HB := Lib.hid hbel
      have H1W := Lib.hid hone
      obtain ⟨d0, d1⟩ := hone
      clear hq hbel b0 b1
      by_cases hlt : k < l.length
      · obtain ⟨d, hd⟩ : ∃ d, l[k]? = some d := ⟨_, List.getElem?_eq_getElem hlt⟩
        obtain ⟨b, off, rfl, va, c0, c1, c2, hva⟩ := HV.out.get hd
        obtain ⟨pa, ca, rfl⟩ := hva.is_slice
        have c0' := carry_cell c0 HB.out
        have c1' := carry_cell c1 HB.out
        have c2' := carry_cell c2 HB.out
        have HD := Lib.hid hd
        have HN := Lib.hid (okS_next hd)
        have HVA := Lib.hid (hva.kept HB.out)
        have HWD := Lib.hid (Nat.le_trans (wtB_tm (mem_of_at hd)) HW.out)
        have CV := Lib.hid (fun W => isVar_any d.var W (by have := wtB_var (mem_of_at hd); have := HW.out; unfold maxLen; omega))
        have HBA := Lib.hid (HB.out.alloc HB.out.size (.cells #[.string d.var, .string d.tm.name, .slice pa d.tm.args.length ca] 133))
        have X1 := Lib.hid (thr_new wr (.string d.var) (.string d.tm.name) (.slice pa d.tm.args.length ca) 133 _ rfl)
        have O1 := Lib.hid (H1W.out.alloc (.cells #[.string d.var, .string d.tm.name, .slice pa d.tm.args.length ca] 133))
        obtain ⟨x0, x1, x2, x3⟩ := X1.out
        clear hd hva
        go_wp2_with fail
        refine (CV.out _).mono ?_
        rintro e w1 ⟨rfl, rfl⟩
        cases hvv : varB d.var with
        | false =>
          have HF : Hid (goodS l = false) := Lib.hid (goodS_no (okS_no HD.out (okAt_v hvv)))
          clear hvv
          go_wp2
          go_ret
          exact ⟨ret_bool HF.out.symm, HBA.out⟩
        | true =>
          have HV1 := Lib.hid hvv
          clear hvv
          go_wp2_with fail
          refine (validTerm_any d.tm _ _ (HVA.out.alloc _) HWD.out).mono ?_
          rintro e w2 ⟨rfl, hb⟩
          have HB2 := Lib.hid (carry_below HBA.out (Nat.le_refl _) hb)
          have X2 := Lib.hid (X1.out.kept hb)
          have O2 := Lib.hid (O1.out.kept hb)
          clear hb x0 x1 x2 x3 c0 c1 c2 c0' c1' c2' d0 d1
          obtain ⟨x0, x1, x2, x3⟩ := X2.out
          cases hg : goodB d.tm with
          | false =>
            have HF : Hid (goodS l = false) := Lib.hid (goodS_no (okS_no HD.out (okAt_g hg)))
            clear hg
            go_wp2
            go_ret
            exact ⟨ret_bool HF.out.symm, HB2.out⟩
          | true =>
            have HG1 := Lib.hid hg
            clear hg
            go_wp2_with fail
            refine (trivial_any d _ _ _ _).mono ?_
            rintro e w3 ⟨rfl, hb⟩
            have HB3 := Lib.hid (carry_below HB2.out (Nat.le_refl _) hb)
            have X3 := Lib.hid (X2.out.kept hb)
            have O3 := Lib.hid (O2.out.kept hb)
            clear hb x0 x1 x2 x3
            obtain ⟨x0, x1, x2, x3⟩ := X3.out
            obtain ⟨d0, d1⟩ := O3.out
            cases hs : sameB d.tm.name d.var with
            | true =>
              have HF : Hid (goodS l = false) := Lib.hid (goodS_no (okS_no HD.out (okAt_s hs)))
              clear hs
              go_wp2
              go_ret
              exact ⟨ret_bool HF.out.symm, HB3.out⟩
            | false =>
              have HS1 := Lib.hid hs
              clear hs
              cases k with
              | zero =>
                have HF : Hid (okS l (0 + 1) = true) := Lib.hid (by rw [HN.out, HQ.out, okAt_0 HV1.out HG1.out HS1.out]; rfl)
                go_wp2
                go_quiet (fail)
                go_wp2
                go_roundw
                case rel => exact ⟨_, by omega, by go_num, HF.out, O3.out.kept (below_drewN _ _), HB3.out.trans (below_drewN' _ _ _)⟩
                case measure => simp [intOf]; omega
              | succ j =>
                obtain ⟨p, hp⟩ : ∃ p, l[j]? = some p := ⟨_, List.getElem?_eq_getElem (by omega)⟩
                obtain ⟨b', off', hbb, vp, p0, _, _, _⟩ := HV.out.get hp
                injection hbb with hbb
                injection hbb with hb1 hb2
                subst hb1
                subst hb2
                have p0 : w3.cell? ⟨b, off + j * 3, none⟩ = some (.string p.var) := carry_cell p0 HB3.out
                have HP := Lib.hid hp
                clear hp
                have hj0 : (0 : Int) < (j : Int) + 1 := by omega
                have hj1 : (0 : Int) ≤ (j : Int) := by omega
                have hj2 : (j : Int) < (l.length : Int) := by omega
                have hj3 : j < l.length := by omega
                have hwr1 : IntKind.i64.wrap (j : Int) = (j : Int) := IntWalk.i64_in _ (by omega)
                cases hL : lessN p.var d.var with
                | false =>
                  have HF : Hid (goodS l = false) := Lib.hid (goodS_no (okS_no HD.out (okAt_l HP.out hL)))
                  have CL := Lib.hid (fun W => less_any p.var d.var W)
                  rw [hL] at CL
                  clear hL
                  go_wp2
                  go_quiet ((go_at_call 97; exact Calls.quiet_of_same ((CL.out _).mono fun _ _ h => ⟨h.1, h.2.symm⟩)))
                  go_wp2
                  go_ret
                  exact ⟨ret_bool HF.out.symm, HB3.out.trans (below_drewN' _ _ _)⟩
                | true =>
                  have HF : Hid (okS l (j + 1 + 1) = true) := Lib.hid (by rw [HN.out, HQ.out, okAt_1 HV1.out HG1.out HS1.out HP.out hL]; rfl)
                  have CL := Lib.hid (fun W => less_any p.var d.var W)
                  rw [hL] at CL
                  clear hL
                  go_wp2
                  go_quiet ((go_at_call 97; exact Calls.quiet_of_same ((CL.out _).mono fun _ _ h => ⟨h.1, h.2.symm⟩)))
                  go_wp2
                  go_roundw
                  case rel => exact ⟨_, by omega, by go_num, HF.out, O3.out.kept (below_drewN _ _), HB3.out.trans (below_drewN' _ _ _)⟩
                  case measure => simp [intOf]; omega
      · have hke : k = l.length := by omega
        subst hke
        have HF := Lib.hid (HG.out.trans HQ.out)
        go_wp2
        go_ret
        exact ⟨ret_bool HF.out.symm, HB.out⟩

end Go.Proofs.YtgpmdfhepanahaaGreat
