/- ClauseWeight, both sides: contracts, for clauses of at most 1048576 names' bytes, literals and arguments. -/
import Derived.Test.YtmlenhjhkpgcnaaVl7
import Derived.Test.YtmlenhjhkpgcnaaSizes
namespace Go.Proofs.Ytmlenhjhkpgcnaa
open Go.RowKit
set_option linter.unusedVariables false

def szsC (l : List Lt) : Nat := sumC (fun d => d.tm.sz) l
theorem szsC_next {l : List Lt} {k : Nat} {d : Lt} (h : l[k]? = some d) : szsC (l.take (k + 1)) = szsC (l.take k) + d.tm.sz := sumC_next h
theorem szsC_all {l : List Lt} {k : Nat} (h : l.length ≤ k) : szsC (l.take k) = szsC l := sumC_all h
theorem szsC_take (l : List Lt) (k : Nat) : szsC (l.take k) ≤ szsC l := sumC_take _ l k
theorem szsC_wt : ∀ l : List Lt, szsC l ≤ sumC Lt.wt l + l.length
  | [] => by simp [szsC, sumC]
  | d :: r => by
    have h := szsC_wt r
    have h2 := Tm.sz_wt d.tm
    unfold szsC at *
    simp only [sumC, Lt.wt, List.length_cons] at *; omega
theorem szsC_le (l : List Lt) : szsC l ≤ wtC l := by have := szsC_wt l; unfold wtC; omega
def cwt (l : List Lt) : Int := if goodC l then (szsC l : Nat) else 0
theorem cwt_yes {l : List Lt} (h : goodC l = true) : cwt l = (szsC l : Nat) := by unfold cwt; rw [if_pos h]
theorem cwt_no {l : List Lt} (h : goodC l = false) : cwt l = 0 := by unfold cwt; rw [if_neg (by rw [h]; simp)]

set_option maxRecDepth 100000 in
set_option maxHeartbeats 4000000 in
theorem l7Weight_any (l : List Lt) (w : World) (v : Value) (hv : LtS w v l) (hw : wtC l ≤ 1048576) :
    Calls Try.prog 81 #[.agg #[v]] w (Ans (.int .i64 (szsC l : Nat)) w) := by
  have hl6 : l.length ≤ 1048576 := Nat.le_trans (wtC_len l) hw
  have hs6 : szsC l ≤ 1048576 := Nat.le_trans (szsC_le l) hw
  have HW := Lib.hid hw
  obtain ⟨a, c, rfl⟩ := hv.is_slice
  have HV := Lib.hid hv
  have H1 := Lib.hid (oner_new w (.slice a l.length c) 44 _ rfl)
  have HB0 := Lib.hid ((Below.refl w.heap.size w).alloc (Nat.le_refl _) (.cells #[.slice a l.length c] 44))
  clear hv hw
  obtain ⟨b0, b1⟩ := H1.out
  go_enter Try.func81, Try.ntmps81
  go_wp2
  go_loopw [3, 4] (fun n i wr => ∃ (k q : Nat), k ≤ l.length ∧ i = .int .i64 k ∧ n = .int .i64 q ∧ q = szsC (l.take k) ∧ Oner wr w.heap.size (.slice a l.length c) ∧ Below w.heap.size w wr) (fun _ i _ => l.length - (intOf i).toNat)
  case atStart => exact ⟨0, 0, Nat.zero_le _, rfl, rfl, by simp [szsC, sumC], H1.out, HB0.out⟩
  case round =>
    obtain ⟨k, q, hk, rfl, rfl, hq, hone, hbel⟩ := hrel
    have HQ := Lib.hid hq
    have HB := Lib.hid hbel
    have H1W := Lib.hid hone
    obtain ⟨d0, d1⟩ := hone
    clear hq hbel b0 b1
    by_cases hlt : k < l.length
    · obtain ⟨d, hd⟩ : ∃ d, l[k]? = some d := ⟨_, List.getElem?_eq_getElem hlt⟩
      obtain ⟨b, off, rfl, va, c0, c1, c2, hva⟩ := HV.out.get hd
      obtain ⟨pa, ca, rfl⟩ := hva.is_slice
      have HVA := Lib.hid (hva.kept HB.out)
      have HD := Lib.hid hd
      have HC : Hid (Calls Try.prog 126 #[.agg #[.string d.tm.name, .slice pa d.tm.args.length ca]] wr (Ans (.int .i64 d.tm.sz) wr)) := Lib.hid (l2Size_any d.tm wr _ HVA.out (Nat.le_trans (wtC_tm (mem_of_at HD.out)) HW.out))
      have c0' := carry_cell c0 HB.out
      have c1' := carry_cell c1 HB.out
      have c2' := carry_cell c2 HB.out
      have hi1 : (k : Int) < (l.length : Int) := by omega
      have hi0 : (0 : Int) ≤ (k : Int) := by omega
      have hqs : q + d.tm.sz ≤ 1048576 := by rw [HQ.out, ← szsC_next hd]; exact Nat.le_trans (szsC_take l _) hs6
      have HN : Hid (q + d.tm.sz = szsC (l.take (k + 1))) := Lib.hid (by rw [HQ.out, ← szsC_next HD.out])
      clear hd hva c0 c1 c2
      go_wp2_with fail
      refine HC.out.mono ?_
      rintro e w6 ⟨rfl, hb⟩
      have HB2 := Lib.hid (carry_below HB.out (Nat.le_refl _) hb)
      have HO2 := Lib.hid (H1W.out.kept hb)
      clear hb
      go_wp2
      go_roundw
      case rel => exact ⟨k + 1, q + d.tm.sz, by omega, by go_num, by go_num, HN.out, HO2.out, HB2.out⟩
      case measure => simp [intOf]; omega
    · have hke : k = l.length := by omega
      have HP : Hid (q = szsC l) := Lib.hid (by rw [HQ.out, szsC_all (by omega)])
      clear HQ
      go_wp2
      go_ret
      exact ⟨ret_int (by rw [HP.out]), HB.out⟩

set_option maxHeartbeats 2000000 in
theorem specCW_any (l : List Lt) (w : World) (v : Value) (hv : LtS w v l) (hw : wtC l ≤ 1048576) :
    Calls Try.prog 41 #[.agg #[v]] w (Ans (.tuple #[.int .i64 (cwt l), .bool (goodC l)]) w) := by
  have hl6 : l.length ≤ 1048576 := Nat.le_trans (wtC_len l) hw
  have HW := Lib.hid hw
  obtain ⟨a, c, rfl⟩ := hv.is_slice
  have HV := Lib.hid hv
  have H1 := Lib.hid (oner_new w (.slice a l.length c) 44 _ rfl)
  have HB0 := Lib.hid ((Below.refl w.heap.size w).alloc (Nat.le_refl _) (.cells #[.slice a l.length c] 44))
  clear hv hw
  obtain ⟨b0, b1⟩ := H1.out
  go_enter Try.func41, Try.ntmps41
  go_wp2_with fail
  refine (l7Good_any l _ _ (HV.out.alloc _) HW.out).mono ?_
  rintro e w1 ⟨rfl, hb⟩
  have HB1 := Lib.hid (carry_below HB0.out (Nat.le_refl _) hb)
  have H11 := Lib.hid (H1.out.kept hb)
  clear hb b0 b1
  obtain ⟨b0, b1⟩ := H11.out
  cases hg : goodC l with
  | false =>
    have HF := Lib.hid (cwt_no hg)
    have HG := Lib.hid hg
    clear hg
    go_wp2
    go_ret2
    exact ⟨ret_pair HF.out.symm HG.out.symm, HB1.out⟩
  | true =>
    have HC := Lib.hid (l7Weight_any l w1 _ (HV.out.kept HB1.out) HW.out)
    have HF := Lib.hid (cwt_yes hg)
    have HG := Lib.hid hg
    clear hg
    go_wp2_with fail
    refine HC.out.mono ?_
    rintro e w2 ⟨rfl, hb⟩
    have HB2 := Lib.hid (carry_below HB1.out (Nat.le_refl _) hb)
    clear hb
    go_wp2
    go_ret2
    exact ⟨ret_pair HF.out.symm HG.out.symm, HB2.out⟩

set_option maxRecDepth 100000 in
set_option maxHeartbeats 4000000 in
theorem implCW_any (l : List Lt) (w : World) (v : Value) (hv : LtS w v l) (hw : wtC l ≤ 1048576) :
    Calls Try.prog 42 #[.agg #[v]] w (Ans (.tuple #[.int .i64 (cwt l), .bool (goodC l)]) w) := by
  have hl6 : l.length ≤ 1048576 := Nat.le_trans (wtC_len l) hw
  have hs6 : szsC l ≤ 1048576 := Nat.le_trans (szsC_le l) hw
  have HW := Lib.hid hw
  obtain ⟨a, c, rfl⟩ := hv.is_slice
  have HV := Lib.hid hv
  have H1 := Lib.hid (oner_new w (.slice a l.length c) 44 _ rfl)
  have HB0 := Lib.hid ((Below.refl w.heap.size w).alloc (Nat.le_refl _) (.cells #[.slice a l.length c] 44))
  clear hv hw
  obtain ⟨b0, b1⟩ := H1.out
  go_enter Try.func42, Try.ntmps42
  go_wp2_with fail
  refine (implVCl_any l _ _ (HV.out.alloc _) HW.out).mono ?_
  rintro e w1 ⟨rfl, hb⟩
  have HB1 := Lib.hid (carry_below HB0.out (Nat.le_refl _) hb)
  have H11 := Lib.hid (H1.out.kept hb)
  clear hb b0 b1
  obtain ⟨b0, b1⟩ := H11.out
  cases hg : goodC l with
  | false =>
    have HF := Lib.hid (cwt_no hg)
    have HG := Lib.hid hg
    clear hg
    go_wp2
    go_ret2
    exact ⟨ret_pair HF.out.symm HG.out.symm, HB1.out⟩
  | true =>
    have HF := Lib.hid (cwt_yes hg)
    have HG := Lib.hid hg
    clear hg
    go_wp2
    go_loopw [4, 15] (fun n i wr => ∃ (k q : Nat), k ≤ l.length ∧ i = .int .i64 k ∧ n = .int .i64 q ∧ q = szsC (l.take k) ∧ Below w.heap.size w wr) (fun _ i _ => l.length - (intOf i).toNat)
    case atStart => exact ⟨0, 0, Nat.zero_le _, rfl, rfl, by simp [szsC, sumC], HB1.out⟩
    case round =>
      obtain ⟨k, q, hk, rfl, rfl, hq, hbel⟩ := hrel
      have HQ := Lib.hid hq
      have HB := Lib.hid hbel
      clear hq hbel b0 b1
      by_cases hlt : k < l.length
      · obtain ⟨d, hd⟩ : ∃ d, l[k]? = some d := ⟨_, List.getElem?_eq_getElem hlt⟩
        obtain ⟨b, off, rfl, va, c0, c1, c2, hva⟩ := HV.out.get hd
        obtain ⟨pa, ca, rfl⟩ := hva.is_slice
        have HVA := Lib.hid (hva.kept HB.out)
        have HD := Lib.hid hd
        have HAT := Lib.hid (atom_any (goodC_atom HG.out hd))
        have c0' := carry_cell c0 HB.out
        have c1' := carry_cell c1 HB.out
        have c2' := carry_cell c2 HB.out
        have HC : Hid (∀ W, Below wr.heap.size wr W → Calls Try.prog 82 #[.agg #[.string d.tm.name, .slice pa d.tm.args.length ca]] W (Ans (.tuple #[.int .i64 d.tm.sz, .bool true]) W)) := Lib.hid (fun W hW => by
          have h := implTermSize_any d.tm W _ (HVA.out.kept hW) (Nat.le_trans (wtC_tm (mem_of_at HD.out)) HW.out)
          rwa [sizeA_yes HAT.out, HAT.out] at h)
        have hqs : q + d.tm.sz ≤ 1048576 := by rw [HQ.out, ← szsC_next hd]; exact Nat.le_trans (szsC_take l _) hs6
        have HN : Hid (q + d.tm.sz = szsC (l.take (k + 1))) := Lib.hid (by rw [HQ.out, ← szsC_next HD.out])
        have HAA := Lib.hid ((Below.refl wr.heap.size wr).alloc (Nat.le_refl _) (.cells #[.bool d.var, .string d.tm.name, .slice pa d.tm.args.length ca] 33))
        clear hd hva c0 c1 c2
        go_wp2_with fail
        refine (HC.out _ HAA.out).mono ?_
        rintro e w6 ⟨rfl, hb⟩
        have HB2 := Lib.hid (carry_below HB.out (Nat.le_refl _) (HAA.out.trans (hb.mono HAA.out.size)))
        clear hb
        go_wp2
        go_roundw
        case rel => exact ⟨k + 1, q + d.tm.sz, by omega, by go_num, by go_num, HN.out, HB2.out⟩
        case measure => simp [intOf]; omega
      · have hke : k = l.length := by omega
        have HP : Hid ((q : Int) = cwt l) := Lib.hid (by rw [HQ.out, szsC_all (by omega), HF.out])
        clear HQ HF
        go_wp2
        go_ret2
        exact ⟨ret_pair HP.out HG.out.symm, HB.out⟩

end Go.Proofs.Ytmlenhjhkpgcnaa
