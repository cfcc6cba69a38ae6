/- IsRenaming, the model's: a contract, for bindings of at most 1048576 names' bytes, bindings and arguments. -/
import Derived.Test.YtmfdglbldogfaaaSubS
import Derived.Test.YtmfdglbldogfaaaRenM
import Derived.BigQuiet
import Derived.Deep.QuietTactic
namespace Go.Proofs.Ytmfdglbldogfaaa
open Go.RowKit
set_option linter.unusedVariables false

theorem below_dN (B : Nat) (w : World) (q : Nat) : Below B w (w.drewN q) := ⟨rfl, rfl, rfl, Nat.le_refl _, fun _ _ => rfl⟩
theorem ret_bb {a b c d : Bool} (h : a = b) (k : c = d) : Ending.returned (.tuple #[.bool a, .bool c]) = .returned (.tuple #[.bool b, .bool d]) := by rw [h, k]

set_option maxRecDepth 100000 in
set_option maxHeartbeats 4000000 in
theorem specIsRenaming_any (l : List Bd) (w : World) (v : Value) (hv : BdS w v l) (hw : wtB l ≤ 1048576) :
    Calls Try.prog 40 #[.agg #[v]] w (Ans (.tuple #[.bool (ren l), .bool (goodS l)]) w) := by
  have hl6 : l.length ≤ 1048576 := Nat.le_trans (wtB_len l) hw
  have HW := Lib.hid hw
  obtain ⟨a, c, rfl⟩ := hv.is_slice
  have HV := Lib.hid hv
  have H1 := Lib.hid (oner_new w (.slice a l.length c) 29 _ rfl)
  have HB0 := Lib.hid ((Below.refl w.heap.size w).alloc (Nat.le_refl _) (.cells #[.slice a l.length c] 29))
  clear hv hw
  obtain ⟨b0, b1⟩ := H1.out
  go_enter Try.func40, Try.ntmps40
  go_wp2_with fail
  refine (l4Good_any l _ _ (HV.out.alloc _) HW.out).mono ?_
  rintro e w1 ⟨rfl, hb⟩
  have HB1 := Lib.hid (carry_below HB0.out (Nat.le_refl _) hb)
  have H11 := Lib.hid (H1.out.kept hb)
  clear hb b0 b1
  obtain ⟨b0, b1⟩ := H11.out
  cases hg : goodS l with
  | false =>
    have HF := Lib.hid (ren_bad hg)
    have HG := Lib.hid hg
    clear hg
    go_wp2
    go_ret2
    exact ⟨ret_bb HF.out.symm HG.out.symm, HB1.out⟩
  | true =>
    have HF := Lib.hid (ren_good hg)
    have HG := Lib.hid hg
    clear hg
    go_wp2
    go_loopw [4] (fun i wr => ∃ k : Nat, k ≤ l.length ∧ i = .int .i64 k ∧ renS l k = true ∧ Oner wr w.heap.size (.slice a l.length c) ∧ Below w.heap.size w wr) (fun i _ => l.length - (intOf i).toNat)
    case atStart => exact ⟨0, Nat.zero_le _, rfl, by simp [renS], H11.out, HB1.out⟩
    case round =>
      obtain ⟨k, hk, rfl, hq, hone, hbel⟩ := hrel
      have HQ := Lib.hid hq
      have HB := Lib.hid hbel
      have H1W := Lib.hid hone
      obtain ⟨d0, d1⟩ := hone
      clear hq hbel b0 b1
      by_cases hlt : k < l.length
      · obtain ⟨d, hd⟩ : ∃ d, l[k]? = some d := ⟨_, List.getElem?_eq_getElem hlt⟩
        obtain ⟨b, off, rfl, va, c0, c1, c2, hva⟩ := HV.out.get hd
        have c1' := carry_cell c1 HB.out
        have HD := Lib.hid hd
        have HN := Lib.hid (renS_next hd)
        have HVN := Lib.hid (fun W => l2Var_any d.tm.name W (by have := wtB_tm (mem_of_at hd); have := Tm.wt_name d.tm; have := HW.out; unfold maxLen; omega))
        clear hd hva c0 c2
        go_wp2_with fail
        refine (HVN.out _).mono ?_
        rintro e w2 ⟨rfl, rfl⟩
        cases hvv : varB d.tm.name with
        | false =>
          have HF2 : Hid (ren l = false) := Lib.hid (HF.out.trans (renS_no HD.out (renAt_v hvv)))
          clear hvv
          go_wp2
          go_ret2
          exact ⟨ret_bb HF2.out.symm HG.out.symm, HB.out⟩
        | true =>
          have HV1 := Lib.hid hvv
          clear hvv
          go_wp2
          go_loopw [5] (fun i wq => ∃ j : Nat, j ≤ k ∧ i = .int .i64 j ∧ newS l d j = true ∧ Oner wq w.heap.size (.slice (some ⟨b, off, none⟩) l.length c) ∧ Below w.heap.size w wq) (fun i _ => k - (intOf i).toNat)
          case atStart => exact ⟨0, Nat.zero_le _, rfl, by simp [newS], H1W.out, HB.out⟩
          case round =>
            obtain ⟨j, hj, rfl, hq2, hone2, hbel2⟩ := hrel
            have HQ2 := Lib.hid hq2
            have HB2 := Lib.hid hbel2
            have H1W2 := Lib.hid hone2
            clear d0 d1
            obtain ⟨d0, d1⟩ := hone2
            clear hq2 hbel2 c1'
            have c1' := carry_cell c1 HB2.out
            by_cases hjk : j < k
            · obtain ⟨p, hp⟩ : ∃ p, l[j]? = some p := ⟨_, List.getElem?_eq_getElem (by omega)⟩
              obtain ⟨b', off', hbb, vp, _, p1, _, _⟩ := HV.out.get hp
              injection hbb with hbb
              injection hbb with hb1 hb2
              subst hb1
              subst hb2
              have p1' := carry_cell p1 HB2.out
              have HP := Lib.hid hp
              have HN2 := Lib.hid (newS_next (d := d) hp)
              have hj2 : (j : Int) < (l.length : Int) := by omega
              have hj3 : j < l.length := by omega
              clear hp p1
              cases hs : sameB p.tm.name d.tm.name with
              | true =>
                have hq : (p.tm.name.toList == d.tm.name.toList) = true := hs
                have HF2 : Hid (ren l = false) := Lib.hid (HF.out.trans (renS_no HD.out (renAt_n (newS_no HP.out hjk hs))))
                clear hs
                go_wp2
                go_quiet (fail)
                go_wp2
                go_ret2
                exact ⟨ret_bb HF2.out.symm HG.out.symm, HB2.out.trans (below_dN _ _ _)⟩
              | false =>
                have hq : (p.tm.name.toList == d.tm.name.toList) = false := hs
                have HF2 : Hid (newS l d (j + 1) = true) := Lib.hid (by rw [HN2.out, HQ2.out, hs]; rfl)
                clear hs
                go_wp2
                go_quiet (fail)
                go_wp2
                go_roundw
                case rel => exact ⟨j + 1, by omega, by go_num, HF2.out, H1W2.out.kept (below_dN _ _ _), HB2.out.trans (below_dN _ _ _)⟩
                case measure => simp [intOf]; omega
            · have hje : j = k := by omega
              have HF2 : Hid (renS l (k + 1) = true) := Lib.hid (by rw [HN.out, HQ.out, renAt_y HV1.out (hje ▸ HQ2.out)]; rfl)
              go_wp2
              go_roundw
              case rel => exact ⟨k + 1, by omega, by go_num, HF2.out, H1W2.out, HB2.out⟩
              case measure => simp [intOf]; omega
      · have hke : k = l.length := by omega
        subst hke
        have HF2 : Hid (ren l = true) := Lib.hid (HF.out.trans HQ.out)
        go_wp2
        go_ret2
        exact ⟨ret_bb HF2.out.symm HG.out.symm, HB.out⟩

end Go.Proofs.Ytmfdglbldogfaaa
