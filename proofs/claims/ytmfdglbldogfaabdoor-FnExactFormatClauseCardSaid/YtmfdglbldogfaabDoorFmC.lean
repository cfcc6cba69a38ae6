/- FormatClause, the model's: contracts, for lists of at most 1048576 names' bytes, literals and arguments. -/
import Derived.Test.YtmfdglbldogfaabDoorClS
import Derived.Test.YtmfdglbldogfaabDoorLitF
namespace Go.Proofs.YtmfdglbldogfaabDoor
open Go.RowKit
set_option linter.unusedVariables false

theorem lt_len {l : List Lt} {k : Nat} {d : Lt} (h : l[k]? = some d) (hw : wtC l ≤ 1048576) : (ltTxt d).length ≤ 4194305 := by
  have h1 := wtC_tm (mem_of_at h); have h2 := ltTxt_len d; omega

set_option maxRecDepth 100000 in
set_option maxHeartbeats 4000000 in
theorem l3Clause_any (l : List Lt) (w : World) (v : Value) (hv : LtS w v l) (hw : wtC l ≤ 1048576) (hg : goodC l = true) :
    Calls Tryd.prog 16 #[.agg #[v]] w (Ans (.string (fmtC l)) w) := by
  have hl6 : l.length ≤ 1048576 := Nat.le_trans (wtC_len l) hw
  have HW := Lib.hid hw
  obtain ⟨a, c, rfl⟩ := hv.is_slice
  have HV := Lib.hid hv
  have H1 := Lib.hid (oner_new w (.slice a l.length c) 30 _ rfl)
  have HB0 := Lib.hid ((Below.refl w.heap.size w).alloc (Nat.le_refl _) (.cells #[.slice a l.length c] 30))
  clear hv hw
  obtain ⟨b0, b1⟩ := H1.out
  have HG := Lib.hid hg
  have HP0 : Hid ((⟨#[]⟩ : ByteArray) = bs (clT (l.take 0))) := Lib.hid (by simp [clT, bs])
  clear hg
  go_enter Tryd.func16, Tryd.ntmps16
  go_wp2
  go_loopw [3, 4] (fun n i wr => ∃ (k : Nat) (p : ByteArray), k ≤ l.length ∧ i = .int .i64 k ∧ n = .string p ∧ p = bs (clT (l.take k)) ∧ Oner wr w.heap.size (.slice a l.length c) ∧ Below w.heap.size w wr) (fun _ i _ => l.length - (intOf i).toNat)
  case atStart => exact ⟨0, _, Nat.zero_le _, rfl, rfl, HP0.out, H1.out, HB0.out⟩
  case round =>
    obtain ⟨k, p, hk, rfl, rfl, hq, hone, hbel⟩ := hrel
    have HQ := Lib.hid hq
    have hps : p.size ≤ 4194305 := by have h1 := clT_len_take l k; have h2 := clT_len l; have h3 := HW.out; rw [hq, bs_size]; omega
    clear hq
    have HB := Lib.hid hbel
    have H1W := Lib.hid hone
    obtain ⟨d0, d1⟩ := hone
    clear hbel b0 b1
    by_cases hlt : k < l.length
    · obtain ⟨d, hd⟩ : ∃ d, l[k]? = some d := ⟨_, List.getElem?_eq_getElem hlt⟩
      obtain ⟨b, off, rfl, va, c0, c1, c2, hva⟩ := HV.out.get hd
      obtain ⟨pa, ca, rfl⟩ := hva.is_slice
      have HVA := Lib.hid (hva.kept HB.out)
      have HD := Lib.hid hd
      obtain ⟨q, hq⟩ : ∃ q, q = bs (ltTxt d) := ⟨_, rfl⟩
      have hqs : q.size ≤ 4194305 := by rw [hq, bs_size]; exact lt_len hd HW.out
      have HC : Hid (Calls Tryd.prog 31 #[.agg #[.bool d.var, .string d.tm.name, .slice pa d.tm.args.length ca]] wr (Ans (.string q) wr)) := Lib.hid (by
        rw [hq]; exact l3Literal_any d.var d.tm wr _ HVA.out (Nat.le_trans (wtC_tm (mem_of_at HD.out)) HW.out) (goodC_atom HG.out HD.out))
      have HQS := Lib.hid hq
      have c0' := carry_cell c0 HB.out
      have c1' := carry_cell c1 HB.out
      have c2' := carry_cell c2 HB.out
      have hi1 : (k : Int) < (l.length : Int) := by omega
      have hi0 : (0 : Int) ≤ (k : Int) := by omega
      clear hd hva c0 c1 c2 hq
      by_cases hk0 : k = 0
      · have hk0' : ¬ (0 : Int) < (k : Int) := by omega
        have HN : Hid (p ++ q = bs (clT (l.take (k + 1)))) := Lib.hid (by
          have h1 := HD.out
          have h2 := HQ.out
          subst hk0
          rw [h2, HQS.out, clT_first h1, bs_append]; simp [clT])
        clear hk0
        go_wp2_with fail
        refine HC.out.mono ?_
        rintro e w6 ⟨rfl, hb⟩
        have HB2 := Lib.hid (carry_below HB.out (Nat.le_refl _) hb)
        have HO2 := Lib.hid (H1W.out.kept hb)
        clear hb
        go_wp2
        go_roundw
        case rel => exact ⟨k + 1, _, by omega, by go_num, rfl, HN.out, HO2.out, HB2.out⟩
        case measure => simp [intOf]; omega
      · have hk0' : (0 : Int) < (k : Int) := by omega
        have HN : Hid (p ++ ⟨#[32, 124, 32]⟩ ++ q = bs (clT (l.take (k + 1)))) := Lib.hid (by
          have h2 : p ++ ⟨#[32, 124, 32]⟩ = bs (clT (l.take k) ++ [32, 124, 32]) := by rw [HQ.out]; exact bs_append (clT (l.take k)) [32, 124, 32]
          rw [h2, HQS.out, clT_next HD.out (by omega), bs_append]; simp)
        clear hk0
        go_wp2_with fail
        refine HC.out.mono ?_
        rintro e w6 ⟨rfl, hb⟩
        have HB2 := Lib.hid (carry_below HB.out (Nat.le_refl _) hb)
        have HO2 := Lib.hid (H1W.out.kept hb)
        clear hb
        go_wp2
        go_roundw
        case rel => exact ⟨k + 1, _, by omega, by go_num, rfl, HN.out, HO2.out, HB2.out⟩
        case measure => simp [intOf]; omega
    · have hke : k = l.length := by omega
      have HP : Hid (p = bs (clT l)) := Lib.hid (by rw [HQ.out, clT_all (by omega)])
      by_cases hl0 : l.length = 0
      · have hp : p = ⟨#[]⟩ := by rw [HP.out, List.eq_nil_of_length_eq_zero hl0]; rfl
        have HF := Lib.hid (fmtC_nil HG.out hl0)
        subst hp
        clear HQ hl0
        go_wp2
        go_ret
        exact ⟨ret_str HF.out.symm, HB.out⟩
      · have HF : Hid (p = fmtC l) := Lib.hid (by rw [HP.out, fmtC_yes HG.out (by omega)])
        have hne : (p.toList == []) = false := by
          have h := clT_ne HG.out (by omega)
          rw [HP.out, beq_eq_false_iff_ne, ByteArray.toList_eq, bs_list]
          exact h
        clear HQ
        go_wp2
        go_ret
        exact ⟨ret_str HF.out, HB.out⟩

set_option maxHeartbeats 2000000 in
theorem specFmtC_any (l : List Lt) (w : World) (v : Value) (hv : LtS w v l) (hw : wtC l ≤ 1048576) :
    Calls Tryd.prog 6 #[.agg #[v]] w (Ans (.tuple #[.string (fmtC l), .bool (goodC l)]) w) := by
  have hl6 : l.length ≤ 1048576 := Nat.le_trans (wtC_len l) hw
  have HW := Lib.hid hw
  obtain ⟨a, c, rfl⟩ := hv.is_slice
  have HV := Lib.hid hv
  have H1 := Lib.hid (oner_new w (.slice a l.length c) 30 _ rfl)
  have HB0 := Lib.hid ((Below.refl w.heap.size w).alloc (Nat.le_refl _) (.cells #[.slice a l.length c] 30))
  clear hv hw
  obtain ⟨b0, b1⟩ := H1.out
  go_enter Tryd.func6, Tryd.ntmps6
  go_wp2_with fail
  refine (l7Good_any l _ _ (HV.out.alloc _) HW.out).mono ?_
  rintro e w1 ⟨rfl, hb⟩
  have HB1 := Lib.hid (carry_below HB0.out (Nat.le_refl _) hb)
  have H11 := Lib.hid (H1.out.kept hb)
  clear hb b0 b1
  obtain ⟨b0, b1⟩ := H11.out
  cases hg : goodC l with
  | false =>
    have HF := Lib.hid (fmtC_no hg)
    have HG := Lib.hid hg
    clear hg
    go_wp2
    go_ret2
    exact ⟨ret_strb HF.out.symm HG.out.symm, HB1.out⟩
  | true =>
    have HC := Lib.hid (l3Clause_any l w1 _ (HV.out.kept HB1.out) HW.out hg)
    have HG := Lib.hid hg
    clear hg
    go_wp2_with fail
    refine HC.out.mono ?_
    rintro e w2 ⟨rfl, hb⟩
    have HB2 := Lib.hid (carry_below HB1.out (Nat.le_refl _) hb)
    clear hb
    go_wp2
    go_ret2
    exact ⟨ret_strb rfl HG.out.symm, HB2.out⟩

end Go.Proofs.YtmfdglbldogfaabDoor
