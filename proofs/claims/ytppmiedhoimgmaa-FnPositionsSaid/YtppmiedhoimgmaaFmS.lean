/- The model's tests of formulas, as contracts, for formulas of at most 1048576 names' bytes, arguments and parts. -/
import Derived.Test.YtppmiedhoimgmaaFmW
import Derived.Test.YtppmiedhoimgmaaSpecV
namespace Go.Proofs.Ytppmiedhoimgmaa
open Go.RowKit
set_option linter.unusedVariables false

theorem size_zero {s : ByteArray} (h : s.size = 0) : s = ⟨#[]⟩ := by
  apply ByteArray.ext; exact Array.eq_empty_of_size_eq_zero h

theorem str_none {s : ByteArray} (h : s.size = 0) : s.toList.isEmpty = true ∧ s.toList = [] := by
  rw [size_zero h, ByteArray.toList_eq]; exact ⟨rfl, rfl⟩
theorem str_some {s : ByteArray} (h : ¬ s.size = 0) : s.toList.isEmpty = false ∧ ¬ s.toList = [] := by
  have e : s.toList.length = s.size := by rw [ByteArray.toList_eq]; simp
  constructor
  · cases hh : s.toList with
    | nil => rw [hh] at e; simp at e; omega
    | cons a b => rfl
  · intro hh; rw [hh] at e; simp at e; omega

set_option maxHeartbeats 1000000 in
theorem l8None_any (t : Tm) (w : World) (va : Value) (hv : TmS w va t.args) (hw : t.args.length ≤ 1048576) :
    Calls Try.prog 173 #[.agg #[.string t.name, va]] w (Ans (.bool (noneB t)) w) := by
  obtain ⟨a, c, rfl⟩ := hv.is_slice
  by_cases h : t.name.size = 0
  · obtain ⟨s1, s2⟩ := str_none h
    by_cases h2 : t.args.length = 0
    · have HF : Hid (noneB t = true) := Lib.hid (by simp [noneB, h, h2])
      have h3 : ((t.args.length : Int) == 0) = true := by rw [beq_iff_eq]; omega
      go_enter Try.func173, Try.ntmps173
      go_wp2
      go_ret
      exact ⟨ret_bool HF.out.symm, (Below.refl _ _).alloc (Nat.le_refl _) _⟩
    · have HF : Hid (noneB t = false) := Lib.hid (by simp [noneB, h2])
      have h3 : ((t.args.length : Int) == 0) = false := by rw [beq_eq_false_iff_ne]; omega
      go_enter Try.func173, Try.ntmps173
      go_wp2
      go_ret
      exact ⟨ret_bool HF.out.symm, (Below.refl _ _).alloc (Nat.le_refl _) _⟩
  · obtain ⟨s1, s2⟩ := str_some h
    have HF : Hid (noneB t = false) := Lib.hid (by simp [noneB, h])
    go_enter Try.func173, Try.ntmps173
    go_wp2
    go_ret
    exact ⟨ret_bool HF.out.symm, (Below.refl _ _).alloc (Nat.le_refl _) _⟩


def FManyT (t : Fm) : Prop := ∀ (w : World) (va vp : Value) (m : Nat), FmV w va vp t → t.wt ≤ 1048576 → m ≤ 1000 →
  Calls Try.prog 133 #[.agg #[.int .i64 t.op, .string t.atom.name, va, .string t.var, vp], .int .i64 m] w (Ans (.int .i64 (min t.sz (m + 1) : Nat)) w)
def FFormsT (t : Fm) : Prop := ∀ (w : World) (va vp : Value), FmV w va vp t → t.wt ≤ 1048576 →
  Calls Try.prog 134 #[.agg #[.int .i64 t.op, .string t.atom.name, va, .string t.var, vp]] w (Ans (.bool t.formsB) w)

set_option maxHeartbeats 1000000 in
theorem fmany_of (t : Fm) (h : ∀ s ∈ t.parts, FManyT s) : FManyT t := by
  intro w va vp m hv hw hm
  have HE := Lib.hid t.sz_eq
  have HT := Lib.hid (fun k => sumG_take Fm.sz t.parts k)
  have H := Lib.hid h
  have HL := Lib.hid (fun (s : Fm) (hs : s ∈ t.parts) => Nat.le_trans (Fm.wt_part hs) hw)
  have hlen := Fm.wt_len t
  obtain ⟨pa, ca, pp, cp, rfl, rfl⟩ := hv.open
  have HV := Lib.hid hv
  have H2 := Lib.hid (fivB_new w (.int .i64 t.op) (.string t.atom.name) (.slice pa t.atom.args.length ca) (.string t.var) (.slice pp t.parts.length cp) 68 _ rfl)
  have HB0 := Lib.hid ((Below.refl w.heap.size w).alloc (Nat.le_refl _) (.cells #[.int .i64 t.op, .string t.atom.name, .slice pa t.atom.args.length ca, .string t.var, .slice pp t.parts.length cp] 68))
  obtain ⟨b0, b1, b2, b3, b4, b5⟩ := H2.out
  clear h hv
  go_enter Try.func133, Try.ntmps133
  go_wp2
  go_loopw [5, 6] (fun n i wr => ∃ k q : Nat, k ≤ t.parts.length ∧ i = .int .i64 k ∧ n = .int .i64 q ∧ q = min (1 + sumG Fm.sz (t.parts.take k)) (m + 1) ∧ FivB wr w.heap.size (.int .i64 t.op) (.string t.atom.name) (.slice pa t.atom.args.length ca) (.string t.var) (.slice pp t.parts.length cp) ∧ Below w.heap.size w wr) (fun _ i _ => t.parts.length - (intOf i).toNat)
  case atStart => exact ⟨0, 1, Nat.zero_le _, rfl, rfl, by simp [sumG], H2.out, HB0.out⟩
  case round =>
      obtain ⟨k, q, hk, rfl, rfl, hq, htwo, hbel⟩ := hrel
      have HQ := Lib.hid hq
      have hq1 : q ≤ m + 1 := by omega
      clear hq
      have HB := Lib.hid hbel
      have H2W := Lib.hid htwo
      obtain ⟨d0, d1, d2, d3, d4, d5⟩ := H2W.out
      clear hbel htwo b0 b1 b2 b3 b4 b5
      by_cases hlt : k < t.parts.length
      · skip
        obtain ⟨s, hs⟩ : ∃ s, t.parts[k]? = some s := ⟨_, List.getElem?_eq_getElem hlt⟩
        obtain ⟨b, off, rfl, va, vp, hc, hva, hvp⟩ := HV.out.2.get hs
        obtain ⟨g0, g1, g2, g3, g4⟩ := hc.kept HB.out
        have HVA : Hid (FmV wr va vp s) := Lib.hid ⟨hva.kept HB.out, hvp.kept HB.out⟩
        have HS := Lib.hid hs
        clear hs hc hva hvp
        have HN := Lib.hid (sumG_next (f := Fm.sz) HS.out)
        by_cases hqm : q ≤ m
        · have hqs : q + min s.sz (m - q + 1) ≤ m + 1 := by omega
          go_wp2_with fail
          rw [show (m : Int) - (q : Int) = ((m - q : Nat) : Int) by omega]
          refine (H.out s (mem_of_at HS.out) _ va vp (m - q) HVA.out (HL.out s (mem_of_at HS.out)) (by omega)).mono ?_
          rintro e w' ⟨rfl, hb⟩
          have HB2 := Lib.hid (carry_below HB.out (Nat.le_refl _) hb)
          have H2W2 := Lib.hid (H2W.out.kept hb)
          obtain ⟨e0, e1, e2, e3, e4, e5⟩ := H2W.out.kept hb
          have HM : Hid (q + min s.sz (m - q + 1) = min (1 + sumG Fm.sz (t.parts.take (k + 1))) (m + 1)) := Lib.hid (by rw [HN.out]; have := HQ.out; omega)
          clear hb
          generalize min s.sz (m - q + 1) = y at *
          go_wp2
          go_roundw
          case rel => exact ⟨k + 1, q + y, by omega, by go_num, by go_num, HM.out, H2W2.out, HB2.out⟩
          case measure => simp [intOf]; omega
        · have HF : Hid ((q : Int) = (min t.sz (m + 1) : Nat)) := Lib.hid (by have := HQ.out; have := HE.out; have := HT.out k; omega)
          go_wp2
          go_ret
          exact ⟨ret_int HF.out, HB.out⟩
      · have hke : k = t.parts.length := by omega
        subst hke
        have HF : Hid ((q : Int) = (min t.sz (m + 1) : Nat)) := Lib.hid (by rw [HQ.out, HE.out, sumG_all (Nat.le_refl _)])
        go_wp2
        go_ret
        exact ⟨ret_int HF.out, HB.out⟩

theorem l8Many_any (t : Fm) : FManyT t := Fm.ind (P := FManyT) fmany_of t

theorem formB_bad {t : Fm} (h : ∀ j : Int, 1 ≤ j → j ≤ 9 → t.op ≠ j) : formB t = false := by
  unfold formB
  rw [if_neg (by rintro (e | e) <;> exact h _ (by omega) (by omega) e), if_neg (h 3 (by omega) (by omega)), if_neg (h 4 (by omega) (by omega)), if_neg (by rintro (e | e | e) <;> exact h _ (by omega) (by omega) e), if_neg (by rintro (e | e) <;> exact h _ (by omega) (by omega) e)]
theorem formB_1 {t : Fm} (h : t.op = 1) : formB t = (noneB t.atom && (decide (t.var.size = 0) && decide (t.parts.length = 0))) := by unfold formB; simp [h]
theorem formB_2 {t : Fm} (h : t.op = 2) : formB t = (noneB t.atom && (decide (t.var.size = 0) && decide (t.parts.length = 0))) := by unfold formB; simp [h]
theorem formB_3 {t : Fm} (h : t.op = 3) : formB t = (atomB t.atom && (decide (t.var.size = 0) && decide (t.parts.length = 0))) := by unfold formB; simp [h]
theorem formB_4 {t : Fm} (h : t.op = 4) : formB t = (noneB t.atom && (decide (t.var.size = 0) && decide (t.parts.length = 1))) := by unfold formB; simp [h]
theorem formB_5 {t : Fm} (h : t.op = 5) : formB t = (noneB t.atom && (decide (t.var.size = 0) && decide (t.parts.length = 2))) := by unfold formB; simp [h]
theorem formB_6 {t : Fm} (h : t.op = 6) : formB t = (noneB t.atom && (decide (t.var.size = 0) && decide (t.parts.length = 2))) := by unfold formB; simp [h]
theorem formB_7 {t : Fm} (h : t.op = 7) : formB t = (noneB t.atom && (decide (t.var.size = 0) && decide (t.parts.length = 2))) := by unfold formB; simp [h]
theorem formB_8 {t : Fm} (h : t.op = 8) : formB t = (noneB t.atom && (varB t.var && decide (t.parts.length = 1))) := by unfold formB; simp [h]
theorem formB_9 {t : Fm} (h : t.op = 9) : formB t = (noneB t.atom && (varB t.var && decide (t.parts.length = 1))) := by unfold formB; simp [h]

set_option maxHeartbeats 4000000 in
theorem l8Form_any (t : Fm) (w : World) (va vp : Value) (hv : FmV w va vp t) (hw : t.wt ≤ 1048576) :
    Calls Try.prog 163 #[.agg #[.int .i64 t.op, .string t.atom.name, va, .string t.var, vp]] w (Ans (.bool (formB t)) w) := by
  obtain ⟨pa, ca, pp, cp, rfl, rfl⟩ := hv.open
  have HV := Lib.hid hv
  have H2 := Lib.hid (fivB_new w (.int .i64 t.op) (.string t.atom.name) (.slice pa t.atom.args.length ca) (.string t.var) (.slice pp t.parts.length cp) 68 _ rfl)
  have HB0 := Lib.hid ((Below.refl w.heap.size w).alloc (Nat.le_refl _) (.cells #[.int .i64 t.op, .string t.atom.name, .slice pa t.atom.args.length ca, .string t.var, .slice pp t.parts.length cp] 68))
  obtain ⟨b0, b1, b2, b3, b4, b5⟩ := H2.out
  have CN : Hid (∀ W, Below w.heap.size w W → Calls Try.prog 173 #[.agg #[.string t.atom.name, .slice pa t.atom.args.length ca]] W (Ans (.bool (noneB t.atom)) W)) := Lib.hid (fun W hW => l8None_any t.atom W _ (HV.out.1.kept hW) (Nat.le_trans (Tm.wt_len _) (Nat.le_trans t.wt_atom hw)))
  have CA : Hid (∀ W, Below w.heap.size w W → Calls Try.prog 53 #[.agg #[.string t.atom.name, .slice pa t.atom.args.length ca]] W (Ans (.bool (atomB t.atom)) W)) := Lib.hid (fun W hW => l2Atom_any t.atom W _ (HV.out.1.kept hW) (Nat.le_trans t.wt_atom hw))
  have hvs : t.var.size ≤ maxLen := by have := t.wt_var; unfold maxLen; omega
  have CV := Lib.hid (fun W => l2Var_any t.var W hvs)
  have hlen := Nat.le_trans t.wt_len hw
  clear hv hvs
  by_cases hj : t.op = 1
  · skip
    have o1 : ((t.op : Int) == 1) = true := by rw [hj]; rfl
    have o2 : ((t.op : Int) == 2) = false := by rw [hj]; rfl
    have o3 : ((t.op : Int) == 3) = false := by rw [hj]; rfl
    have o4 : ((t.op : Int) == 4) = false := by rw [hj]; rfl
    have o5 : ((t.op : Int) == 5) = false := by rw [hj]; rfl
    have o6 : ((t.op : Int) == 6) = false := by rw [hj]; rfl
    have o7 : ((t.op : Int) == 7) = false := by rw [hj]; rfl
    have o8 : ((t.op : Int) == 8) = false := by rw [hj]; rfl
    have o9 : ((t.op : Int) == 9) = false := by rw [hj]; rfl
    have HF := Lib.hid (formB_1 hj)
    clear hj
    by_cases hn : t.parts.length = 0
    · have n1 : ((t.parts.length : Int) == 0) = true := by rw [beq_iff_eq]; omega
      have HN := Lib.hid hn
      clear hn
      go_enter Try.func163, Try.ntmps163
      go_wp2_with fail
      refine (CN.out _ HB0.out).mono ?_
      rintro e w' ⟨rfl, hb⟩
      have HB := Lib.hid (carry_below HB0.out (Nat.le_refl _) hb)
      obtain ⟨d0, d1, d2, d3, d4, d5⟩ := H2.out.kept hb
      clear hb
      cases ha : noneB t.atom
      · have HG : Hid (formB t = false) := Lib.hid (by rw [HF.out, ha]; rfl)
        clear ha
        go_wp2
        go_ret
        exact ⟨ret_bool HG.out.symm, HB.out⟩
      · have HG : Hid (formB t = decide (t.var.size = 0)) := Lib.hid (by rw [HF.out, ha, HN.out]; simp)
        clear ha
        by_cases hz : t.var.size = 0
        · obtain ⟨s1, s2⟩ := str_none hz
          have HH : Hid (formB t = true) := Lib.hid (by rw [HG.out]; simp [hz])
          clear hz
          go_wp2
          go_ret
          exact ⟨ret_bool HH.out.symm, HB.out⟩
        · obtain ⟨s1, s2⟩ := str_some hz
          have HH : Hid (formB t = false) := Lib.hid (by rw [HG.out]; simp [hz])
          clear hz
          go_wp2
          go_ret
          exact ⟨ret_bool HH.out.symm, HB.out⟩
    · have n1 : ((t.parts.length : Int) == 0) = false := by rw [beq_eq_false_iff_ne]; omega
      have HG : Hid (formB t = false) := Lib.hid (by rw [HF.out]; simp [hn])
      clear hn
      go_enter Try.func163, Try.ntmps163
      go_wp2
      go_ret
      exact ⟨ret_bool HG.out.symm, HB0.out⟩
  have q1 : ((t.op : Int) == 1) = false := by rw [beq_eq_false_iff_ne]; exact hj
  have HQ1 := Lib.hid hj
  clear hj
  by_cases hj : t.op = 2
  · skip
    have o1 : ((t.op : Int) == 1) = false := by rw [hj]; rfl
    have o2 : ((t.op : Int) == 2) = true := by rw [hj]; rfl
    have o3 : ((t.op : Int) == 3) = false := by rw [hj]; rfl
    have o4 : ((t.op : Int) == 4) = false := by rw [hj]; rfl
    have o5 : ((t.op : Int) == 5) = false := by rw [hj]; rfl
    have o6 : ((t.op : Int) == 6) = false := by rw [hj]; rfl
    have o7 : ((t.op : Int) == 7) = false := by rw [hj]; rfl
    have o8 : ((t.op : Int) == 8) = false := by rw [hj]; rfl
    have o9 : ((t.op : Int) == 9) = false := by rw [hj]; rfl
    have HF := Lib.hid (formB_2 hj)
    clear hj
    by_cases hn : t.parts.length = 0
    · have n1 : ((t.parts.length : Int) == 0) = true := by rw [beq_iff_eq]; omega
      have HN := Lib.hid hn
      clear hn
      go_enter Try.func163, Try.ntmps163
      go_wp2_with fail
      refine (CN.out _ HB0.out).mono ?_
      rintro e w' ⟨rfl, hb⟩
      have HB := Lib.hid (carry_below HB0.out (Nat.le_refl _) hb)
      obtain ⟨d0, d1, d2, d3, d4, d5⟩ := H2.out.kept hb
      clear hb
      cases ha : noneB t.atom
      · have HG : Hid (formB t = false) := Lib.hid (by rw [HF.out, ha]; rfl)
        clear ha
        go_wp2
        go_ret
        exact ⟨ret_bool HG.out.symm, HB.out⟩
      · have HG : Hid (formB t = decide (t.var.size = 0)) := Lib.hid (by rw [HF.out, ha, HN.out]; simp)
        clear ha
        by_cases hz : t.var.size = 0
        · obtain ⟨s1, s2⟩ := str_none hz
          have HH : Hid (formB t = true) := Lib.hid (by rw [HG.out]; simp [hz])
          clear hz
          go_wp2
          go_ret
          exact ⟨ret_bool HH.out.symm, HB.out⟩
        · obtain ⟨s1, s2⟩ := str_some hz
          have HH : Hid (formB t = false) := Lib.hid (by rw [HG.out]; simp [hz])
          clear hz
          go_wp2
          go_ret
          exact ⟨ret_bool HH.out.symm, HB.out⟩
    · have n1 : ((t.parts.length : Int) == 0) = false := by rw [beq_eq_false_iff_ne]; omega
      have HG : Hid (formB t = false) := Lib.hid (by rw [HF.out]; simp [hn])
      clear hn
      go_enter Try.func163, Try.ntmps163
      go_wp2
      go_ret
      exact ⟨ret_bool HG.out.symm, HB0.out⟩
  have q2 : ((t.op : Int) == 2) = false := by rw [beq_eq_false_iff_ne]; exact hj
  have HQ2 := Lib.hid hj
  clear hj
  by_cases hj : t.op = 3
  · skip
    have o1 : ((t.op : Int) == 1) = false := by rw [hj]; rfl
    have o2 : ((t.op : Int) == 2) = false := by rw [hj]; rfl
    have o3 : ((t.op : Int) == 3) = true := by rw [hj]; rfl
    have o4 : ((t.op : Int) == 4) = false := by rw [hj]; rfl
    have o5 : ((t.op : Int) == 5) = false := by rw [hj]; rfl
    have o6 : ((t.op : Int) == 6) = false := by rw [hj]; rfl
    have o7 : ((t.op : Int) == 7) = false := by rw [hj]; rfl
    have o8 : ((t.op : Int) == 8) = false := by rw [hj]; rfl
    have o9 : ((t.op : Int) == 9) = false := by rw [hj]; rfl
    have HF := Lib.hid (formB_3 hj)
    clear hj
    by_cases hn : t.parts.length = 0
    · have n1 : ((t.parts.length : Int) == 0) = true := by rw [beq_iff_eq]; omega
      have HN := Lib.hid hn
      clear hn
      go_enter Try.func163, Try.ntmps163
      go_wp2_with fail
      refine (CA.out _ HB0.out).mono ?_
      rintro e w' ⟨rfl, hb⟩
      have HB := Lib.hid (carry_below HB0.out (Nat.le_refl _) hb)
      obtain ⟨d0, d1, d2, d3, d4, d5⟩ := H2.out.kept hb
      clear hb
      cases ha : atomB t.atom
      · have HG : Hid (formB t = false) := Lib.hid (by rw [HF.out, ha]; rfl)
        clear ha
        go_wp2
        go_ret
        exact ⟨ret_bool HG.out.symm, HB.out⟩
      · have HG : Hid (formB t = decide (t.var.size = 0)) := Lib.hid (by rw [HF.out, ha, HN.out]; simp)
        clear ha
        by_cases hz : t.var.size = 0
        · obtain ⟨s1, s2⟩ := str_none hz
          have HH : Hid (formB t = true) := Lib.hid (by rw [HG.out]; simp [hz])
          clear hz
          go_wp2
          go_ret
          exact ⟨ret_bool HH.out.symm, HB.out⟩
        · obtain ⟨s1, s2⟩ := str_some hz
          have HH : Hid (formB t = false) := Lib.hid (by rw [HG.out]; simp [hz])
          clear hz
          go_wp2
          go_ret
          exact ⟨ret_bool HH.out.symm, HB.out⟩
    · have n1 : ((t.parts.length : Int) == 0) = false := by rw [beq_eq_false_iff_ne]; omega
      have HG : Hid (formB t = false) := Lib.hid (by rw [HF.out]; simp [hn])
      clear hn
      go_enter Try.func163, Try.ntmps163
      go_wp2
      go_ret
      exact ⟨ret_bool HG.out.symm, HB0.out⟩
  have q3 : ((t.op : Int) == 3) = false := by rw [beq_eq_false_iff_ne]; exact hj
  have HQ3 := Lib.hid hj
  clear hj
  by_cases hj : t.op = 4
  · skip
    have o1 : ((t.op : Int) == 1) = false := by rw [hj]; rfl
    have o2 : ((t.op : Int) == 2) = false := by rw [hj]; rfl
    have o3 : ((t.op : Int) == 3) = false := by rw [hj]; rfl
    have o4 : ((t.op : Int) == 4) = true := by rw [hj]; rfl
    have o5 : ((t.op : Int) == 5) = false := by rw [hj]; rfl
    have o6 : ((t.op : Int) == 6) = false := by rw [hj]; rfl
    have o7 : ((t.op : Int) == 7) = false := by rw [hj]; rfl
    have o8 : ((t.op : Int) == 8) = false := by rw [hj]; rfl
    have o9 : ((t.op : Int) == 9) = false := by rw [hj]; rfl
    have HF := Lib.hid (formB_4 hj)
    clear hj
    by_cases hn : t.parts.length = 1
    · have n1 : ((t.parts.length : Int) == 1) = true := by rw [beq_iff_eq]; omega
      have HN := Lib.hid hn
      clear hn
      go_enter Try.func163, Try.ntmps163
      go_wp2_with fail
      refine (CN.out _ HB0.out).mono ?_
      rintro e w' ⟨rfl, hb⟩
      have HB := Lib.hid (carry_below HB0.out (Nat.le_refl _) hb)
      obtain ⟨d0, d1, d2, d3, d4, d5⟩ := H2.out.kept hb
      clear hb
      cases ha : noneB t.atom
      · have HG : Hid (formB t = false) := Lib.hid (by rw [HF.out, ha]; rfl)
        clear ha
        go_wp2
        go_ret
        exact ⟨ret_bool HG.out.symm, HB.out⟩
      · have HG : Hid (formB t = decide (t.var.size = 0)) := Lib.hid (by rw [HF.out, ha, HN.out]; simp)
        clear ha
        by_cases hz : t.var.size = 0
        · obtain ⟨s1, s2⟩ := str_none hz
          have HH : Hid (formB t = true) := Lib.hid (by rw [HG.out]; simp [hz])
          clear hz
          go_wp2
          go_ret
          exact ⟨ret_bool HH.out.symm, HB.out⟩
        · obtain ⟨s1, s2⟩ := str_some hz
          have HH : Hid (formB t = false) := Lib.hid (by rw [HG.out]; simp [hz])
          clear hz
          go_wp2
          go_ret
          exact ⟨ret_bool HH.out.symm, HB.out⟩
    · have n1 : ((t.parts.length : Int) == 1) = false := by rw [beq_eq_false_iff_ne]; omega
      have HG : Hid (formB t = false) := Lib.hid (by rw [HF.out]; simp [hn])
      clear hn
      go_enter Try.func163, Try.ntmps163
      go_wp2
      go_ret
      exact ⟨ret_bool HG.out.symm, HB0.out⟩
  have q4 : ((t.op : Int) == 4) = false := by rw [beq_eq_false_iff_ne]; exact hj
  have HQ4 := Lib.hid hj
  clear hj
  by_cases hj : t.op = 5
  · skip
    have o1 : ((t.op : Int) == 1) = false := by rw [hj]; rfl
    have o2 : ((t.op : Int) == 2) = false := by rw [hj]; rfl
    have o3 : ((t.op : Int) == 3) = false := by rw [hj]; rfl
    have o4 : ((t.op : Int) == 4) = false := by rw [hj]; rfl
    have o5 : ((t.op : Int) == 5) = true := by rw [hj]; rfl
    have o6 : ((t.op : Int) == 6) = false := by rw [hj]; rfl
    have o7 : ((t.op : Int) == 7) = false := by rw [hj]; rfl
    have o8 : ((t.op : Int) == 8) = false := by rw [hj]; rfl
    have o9 : ((t.op : Int) == 9) = false := by rw [hj]; rfl
    have HF := Lib.hid (formB_5 hj)
    clear hj
    by_cases hn : t.parts.length = 2
    · have n1 : ((t.parts.length : Int) == 2) = true := by rw [beq_iff_eq]; omega
      have HN := Lib.hid hn
      clear hn
      go_enter Try.func163, Try.ntmps163
      go_wp2_with fail
      refine (CN.out _ HB0.out).mono ?_
      rintro e w' ⟨rfl, hb⟩
      have HB := Lib.hid (carry_below HB0.out (Nat.le_refl _) hb)
      obtain ⟨d0, d1, d2, d3, d4, d5⟩ := H2.out.kept hb
      clear hb
      cases ha : noneB t.atom
      · have HG : Hid (formB t = false) := Lib.hid (by rw [HF.out, ha]; rfl)
        clear ha
        go_wp2
        go_ret
        exact ⟨ret_bool HG.out.symm, HB.out⟩
      · have HG : Hid (formB t = decide (t.var.size = 0)) := Lib.hid (by rw [HF.out, ha, HN.out]; simp)
        clear ha
        by_cases hz : t.var.size = 0
        · obtain ⟨s1, s2⟩ := str_none hz
          have HH : Hid (formB t = true) := Lib.hid (by rw [HG.out]; simp [hz])
          clear hz
          go_wp2
          go_ret
          exact ⟨ret_bool HH.out.symm, HB.out⟩
        · obtain ⟨s1, s2⟩ := str_some hz
          have HH : Hid (formB t = false) := Lib.hid (by rw [HG.out]; simp [hz])
          clear hz
          go_wp2
          go_ret
          exact ⟨ret_bool HH.out.symm, HB.out⟩
    · have n1 : ((t.parts.length : Int) == 2) = false := by rw [beq_eq_false_iff_ne]; omega
      have HG : Hid (formB t = false) := Lib.hid (by rw [HF.out]; simp [hn])
      clear hn
      go_enter Try.func163, Try.ntmps163
      go_wp2
      go_ret
      exact ⟨ret_bool HG.out.symm, HB0.out⟩
  have q5 : ((t.op : Int) == 5) = false := by rw [beq_eq_false_iff_ne]; exact hj
  have HQ5 := Lib.hid hj
  clear hj
  by_cases hj : t.op = 6
  · skip
    have o1 : ((t.op : Int) == 1) = false := by rw [hj]; rfl
    have o2 : ((t.op : Int) == 2) = false := by rw [hj]; rfl
    have o3 : ((t.op : Int) == 3) = false := by rw [hj]; rfl
    have o4 : ((t.op : Int) == 4) = false := by rw [hj]; rfl
    have o5 : ((t.op : Int) == 5) = false := by rw [hj]; rfl
    have o6 : ((t.op : Int) == 6) = true := by rw [hj]; rfl
    have o7 : ((t.op : Int) == 7) = false := by rw [hj]; rfl
    have o8 : ((t.op : Int) == 8) = false := by rw [hj]; rfl
    have o9 : ((t.op : Int) == 9) = false := by rw [hj]; rfl
    have HF := Lib.hid (formB_6 hj)
    clear hj
    by_cases hn : t.parts.length = 2
    · have n1 : ((t.parts.length : Int) == 2) = true := by rw [beq_iff_eq]; omega
      have HN := Lib.hid hn
      clear hn
      go_enter Try.func163, Try.ntmps163
      go_wp2_with fail
      refine (CN.out _ HB0.out).mono ?_
      rintro e w' ⟨rfl, hb⟩
      have HB := Lib.hid (carry_below HB0.out (Nat.le_refl _) hb)
      obtain ⟨d0, d1, d2, d3, d4, d5⟩ := H2.out.kept hb
      clear hb
      cases ha : noneB t.atom
      · have HG : Hid (formB t = false) := Lib.hid (by rw [HF.out, ha]; rfl)
        clear ha
        go_wp2
        go_ret
        exact ⟨ret_bool HG.out.symm, HB.out⟩
      · have HG : Hid (formB t = decide (t.var.size = 0)) := Lib.hid (by rw [HF.out, ha, HN.out]; simp)
        clear ha
        by_cases hz : t.var.size = 0
        · obtain ⟨s1, s2⟩ := str_none hz
          have HH : Hid (formB t = true) := Lib.hid (by rw [HG.out]; simp [hz])
          clear hz
          go_wp2
          go_ret
          exact ⟨ret_bool HH.out.symm, HB.out⟩
        · obtain ⟨s1, s2⟩ := str_some hz
          have HH : Hid (formB t = false) := Lib.hid (by rw [HG.out]; simp [hz])
          clear hz
          go_wp2
          go_ret
          exact ⟨ret_bool HH.out.symm, HB.out⟩
    · have n1 : ((t.parts.length : Int) == 2) = false := by rw [beq_eq_false_iff_ne]; omega
      have HG : Hid (formB t = false) := Lib.hid (by rw [HF.out]; simp [hn])
      clear hn
      go_enter Try.func163, Try.ntmps163
      go_wp2
      go_ret
      exact ⟨ret_bool HG.out.symm, HB0.out⟩
  have q6 : ((t.op : Int) == 6) = false := by rw [beq_eq_false_iff_ne]; exact hj
  have HQ6 := Lib.hid hj
  clear hj
  by_cases hj : t.op = 7
  · skip
    have o1 : ((t.op : Int) == 1) = false := by rw [hj]; rfl
    have o2 : ((t.op : Int) == 2) = false := by rw [hj]; rfl
    have o3 : ((t.op : Int) == 3) = false := by rw [hj]; rfl
    have o4 : ((t.op : Int) == 4) = false := by rw [hj]; rfl
    have o5 : ((t.op : Int) == 5) = false := by rw [hj]; rfl
    have o6 : ((t.op : Int) == 6) = false := by rw [hj]; rfl
    have o7 : ((t.op : Int) == 7) = true := by rw [hj]; rfl
    have o8 : ((t.op : Int) == 8) = false := by rw [hj]; rfl
    have o9 : ((t.op : Int) == 9) = false := by rw [hj]; rfl
    have HF := Lib.hid (formB_7 hj)
    clear hj
    by_cases hn : t.parts.length = 2
    · have n1 : ((t.parts.length : Int) == 2) = true := by rw [beq_iff_eq]; omega
      have HN := Lib.hid hn
      clear hn
      go_enter Try.func163, Try.ntmps163
      go_wp2_with fail
      refine (CN.out _ HB0.out).mono ?_
      rintro e w' ⟨rfl, hb⟩
      have HB := Lib.hid (carry_below HB0.out (Nat.le_refl _) hb)
      obtain ⟨d0, d1, d2, d3, d4, d5⟩ := H2.out.kept hb
      clear hb
      cases ha : noneB t.atom
      · have HG : Hid (formB t = false) := Lib.hid (by rw [HF.out, ha]; rfl)
        clear ha
        go_wp2
        go_ret
        exact ⟨ret_bool HG.out.symm, HB.out⟩
      · have HG : Hid (formB t = decide (t.var.size = 0)) := Lib.hid (by rw [HF.out, ha, HN.out]; simp)
        clear ha
        by_cases hz : t.var.size = 0
        · obtain ⟨s1, s2⟩ := str_none hz
          have HH : Hid (formB t = true) := Lib.hid (by rw [HG.out]; simp [hz])
          clear hz
          go_wp2
          go_ret
          exact ⟨ret_bool HH.out.symm, HB.out⟩
        · obtain ⟨s1, s2⟩ := str_some hz
          have HH : Hid (formB t = false) := Lib.hid (by rw [HG.out]; simp [hz])
          clear hz
          go_wp2
          go_ret
          exact ⟨ret_bool HH.out.symm, HB.out⟩
    · have n1 : ((t.parts.length : Int) == 2) = false := by rw [beq_eq_false_iff_ne]; omega
      have HG : Hid (formB t = false) := Lib.hid (by rw [HF.out]; simp [hn])
      clear hn
      go_enter Try.func163, Try.ntmps163
      go_wp2
      go_ret
      exact ⟨ret_bool HG.out.symm, HB0.out⟩
  have q7 : ((t.op : Int) == 7) = false := by rw [beq_eq_false_iff_ne]; exact hj
  have HQ7 := Lib.hid hj
  clear hj
  by_cases hj : t.op = 8
  · skip
    have o1 : ((t.op : Int) == 1) = false := by rw [hj]; rfl
    have o2 : ((t.op : Int) == 2) = false := by rw [hj]; rfl
    have o3 : ((t.op : Int) == 3) = false := by rw [hj]; rfl
    have o4 : ((t.op : Int) == 4) = false := by rw [hj]; rfl
    have o5 : ((t.op : Int) == 5) = false := by rw [hj]; rfl
    have o6 : ((t.op : Int) == 6) = false := by rw [hj]; rfl
    have o7 : ((t.op : Int) == 7) = false := by rw [hj]; rfl
    have o8 : ((t.op : Int) == 8) = true := by rw [hj]; rfl
    have o9 : ((t.op : Int) == 9) = false := by rw [hj]; rfl
    have HF := Lib.hid (formB_8 hj)
    clear hj
    by_cases hn : t.parts.length = 1
    · have n1 : ((t.parts.length : Int) == 1) = true := by rw [beq_iff_eq]; omega
      have HN := Lib.hid hn
      clear hn
      go_enter Try.func163, Try.ntmps163
      go_wp2_with fail
      refine (CN.out _ HB0.out).mono ?_
      rintro e w' ⟨rfl, hb⟩
      have HB := Lib.hid (carry_below HB0.out (Nat.le_refl _) hb)
      obtain ⟨d0, d1, d2, d3, d4, d5⟩ := H2.out.kept hb
      clear hb
      cases ha : noneB t.atom
      · have HG : Hid (formB t = false) := Lib.hid (by rw [HF.out, ha]; rfl)
        clear ha
        go_wp2
        go_ret
        exact ⟨ret_bool HG.out.symm, HB.out⟩
      · have HG : Hid (formB t = varB t.var) := Lib.hid (by rw [HF.out, ha, HN.out]; simp)
        clear ha
        go_wp2_with fail
        refine (CV.out _).mono ?_
        rintro e w' ⟨rfl, rfl⟩
        go_wp2
        go_ret
        exact ⟨ret_bool HG.out.symm, HB.out⟩
    · have n1 : ((t.parts.length : Int) == 1) = false := by rw [beq_eq_false_iff_ne]; omega
      have HG : Hid (formB t = false) := Lib.hid (by rw [HF.out]; simp [hn])
      clear hn
      go_enter Try.func163, Try.ntmps163
      go_wp2
      go_ret
      exact ⟨ret_bool HG.out.symm, HB0.out⟩
  have q8 : ((t.op : Int) == 8) = false := by rw [beq_eq_false_iff_ne]; exact hj
  have HQ8 := Lib.hid hj
  clear hj
  by_cases hj : t.op = 9
  · skip
    have o1 : ((t.op : Int) == 1) = false := by rw [hj]; rfl
    have o2 : ((t.op : Int) == 2) = false := by rw [hj]; rfl
    have o3 : ((t.op : Int) == 3) = false := by rw [hj]; rfl
    have o4 : ((t.op : Int) == 4) = false := by rw [hj]; rfl
    have o5 : ((t.op : Int) == 5) = false := by rw [hj]; rfl
    have o6 : ((t.op : Int) == 6) = false := by rw [hj]; rfl
    have o7 : ((t.op : Int) == 7) = false := by rw [hj]; rfl
    have o8 : ((t.op : Int) == 8) = false := by rw [hj]; rfl
    have o9 : ((t.op : Int) == 9) = true := by rw [hj]; rfl
    have HF := Lib.hid (formB_9 hj)
    clear hj
    by_cases hn : t.parts.length = 1
    · have n1 : ((t.parts.length : Int) == 1) = true := by rw [beq_iff_eq]; omega
      have HN := Lib.hid hn
      clear hn
      go_enter Try.func163, Try.ntmps163
      go_wp2_with fail
      refine (CN.out _ HB0.out).mono ?_
      rintro e w' ⟨rfl, hb⟩
      have HB := Lib.hid (carry_below HB0.out (Nat.le_refl _) hb)
      obtain ⟨d0, d1, d2, d3, d4, d5⟩ := H2.out.kept hb
      clear hb
      cases ha : noneB t.atom
      · have HG : Hid (formB t = false) := Lib.hid (by rw [HF.out, ha]; rfl)
        clear ha
        go_wp2
        go_ret
        exact ⟨ret_bool HG.out.symm, HB.out⟩
      · have HG : Hid (formB t = varB t.var) := Lib.hid (by rw [HF.out, ha, HN.out]; simp)
        clear ha
        go_wp2_with fail
        refine (CV.out _).mono ?_
        rintro e w' ⟨rfl, rfl⟩
        go_wp2
        go_ret
        exact ⟨ret_bool HG.out.symm, HB.out⟩
    · have n1 : ((t.parts.length : Int) == 1) = false := by rw [beq_eq_false_iff_ne]; omega
      have HG : Hid (formB t = false) := Lib.hid (by rw [HF.out]; simp [hn])
      clear hn
      go_enter Try.func163, Try.ntmps163
      go_wp2
      go_ret
      exact ⟨ret_bool HG.out.symm, HB0.out⟩
  have q9 : ((t.op : Int) == 9) = false := by rw [beq_eq_false_iff_ne]; exact hj
  have HQ9 := Lib.hid hj
  clear hj
  have HG : Hid (formB t = false) := Lib.hid (formB_bad fun j h1 h2 e => by
    have c : j = 1 ∨ j = 2 ∨ j = 3 ∨ j = 4 ∨ j = 5 ∨ j = 6 ∨ j = 7 ∨ j = 8 ∨ j = 9 := by omega
    rcases c with rfl | rfl | rfl | rfl | rfl | rfl | rfl | rfl | rfl
    · exact HQ1.out e
    · exact HQ2.out e
    · exact HQ3.out e
    · exact HQ4.out e
    · exact HQ5.out e
    · exact HQ6.out e
    · exact HQ7.out e
    · exact HQ8.out e
    · exact HQ9.out e)
  go_enter Try.func163, Try.ntmps163
  go_wp2
  go_ret
  exact ⟨ret_bool HG.out.symm, HB0.out⟩

set_option maxHeartbeats 1000000 in
theorem fforms_of (t : Fm) (h : ∀ s ∈ t.parts, FFormsT s) : FFormsT t := by
  intro w va vp hv hw
  have HE := Lib.hid t.formsB_eq
  have H := Lib.hid h
  have HL := Lib.hid (fun (s : Fm) (hs : s ∈ t.parts) => Nat.le_trans (Fm.wt_part hs) hw)
  have hlen := Nat.le_trans t.wt_len hw
  have HW := Lib.hid hw
  obtain ⟨pa, ca, pp, cp, rfl, rfl⟩ := hv.open
  have HV := Lib.hid hv
  have H2 := Lib.hid (fivB_new w (.int .i64 t.op) (.string t.atom.name) (.slice pa t.atom.args.length ca) (.string t.var) (.slice pp t.parts.length cp) 68 _ rfl)
  have HB0 := Lib.hid ((Below.refl w.heap.size w).alloc (Nat.le_refl _) (.cells #[.int .i64 t.op, .string t.atom.name, .slice pa t.atom.args.length ca, .string t.var, .slice pp t.parts.length cp] 68))
  obtain ⟨b0, b1, b2, b3, b4, b5⟩ := H2.out
  clear h hv hw
  go_enter Try.func134, Try.ntmps134
  go_wp2_with fail
  refine (l8Form_any t _ _ _ (HV.out.kept HB0.out) HW.out).mono ?_
  rintro e w1 ⟨rfl, hb⟩
  have HB1 := Lib.hid (carry_below HB0.out (Nat.le_refl _) hb)
  have H21 := Lib.hid (H2.out.kept hb)
  obtain ⟨c0, c1, c2, c3, c4, c5⟩ := H2.out.kept hb
  clear hb
  cases hf : formB t
  · have HF : Hid (t.formsB = false) := Lib.hid (by rw [HE.out, hf]; rfl)
    clear hf
    go_wp2
    go_ret
    exact ⟨ret_bool HF.out.symm, HB1.out⟩
  · have HF : Hid (t.formsB = t.parts.all Fm.formsB) := Lib.hid (by rw [HE.out, hf]; rfl)
    clear hf
    go_wp2
    go_loopw [3] (fun i wr => ∃ k : Nat, k ≤ t.parts.length ∧ i = .int .i64 k ∧ (t.parts.take k).all Fm.formsB = true ∧ FivB wr w.heap.size (.int .i64 t.op) (.string t.atom.name) (.slice pa t.atom.args.length ca) (.string t.var) (.slice pp t.parts.length cp) ∧ Below w.heap.size w wr) (fun i _ => t.parts.length - (intOf i).toNat)
    case atStart => exact ⟨0, Nat.zero_le _, rfl, by simp, H21.out, HB1.out⟩
    case round =>
      obtain ⟨k, hk, rfl, hq, htwo, hbel⟩ := hrel
      have HQ := Lib.hid hq
      have HB := Lib.hid hbel
      have H2W := Lib.hid htwo
      obtain ⟨d0, d1, d2, d3, d4, d5⟩ := H2W.out
      clear hq hbel htwo b0 b1 b2 b3 b4 b5 c0 c1 c2 c3 c4 c5
      by_cases hlt : k < t.parts.length
      · skip
        obtain ⟨s, hs⟩ : ∃ s, t.parts[k]? = some s := ⟨_, List.getElem?_eq_getElem hlt⟩
        obtain ⟨b, off, rfl, va, vp, hc, hva, hvp⟩ := HV.out.2.get hs
        obtain ⟨g0, g1, g2, g3, g4⟩ := hc.kept HB.out
        have HVA : Hid (FmV wr va vp s) := Lib.hid ⟨hva.kept HB.out, hvp.kept HB.out⟩
        have HS := Lib.hid hs
        clear hs hc hva hvp
        go_wp2_with fail
        refine (H.out s (mem_of_at HS.out) _ va vp HVA.out (HL.out s (mem_of_at HS.out))).mono ?_
        rintro e w' ⟨rfl, hb⟩
        have HB2 := Lib.hid (carry_below HB.out (Nat.le_refl _) hb)
        have H2W2 := Lib.hid (H2W.out.kept hb)
        obtain ⟨e0, e1, e2, e3, e4, e5⟩ := H2W.out.kept hb
        clear hb
        cases hn : s.formsB with
        | true =>
          have HN := Lib.hid ((allG_next (p := Fm.formsB) HS.out).trans (by rw [HQ.out, hn, Bool.and_self]))
          clear hn
          go_wp2
          go_roundw
          case rel => exact ⟨k + 1, by omega, by go_num, HN.out, H2W2.out, HB2.out⟩
          case measure => simp [intOf]; omega
        | false =>
          have HN := Lib.hid (allG_no (p := Fm.formsB) HS.out hn)
          clear hn
          go_wp2
          go_ret
          exact ⟨ret_bool (by rw [HF.out, HN.out]), HB2.out⟩
      · have HG : Hid (t.parts.all Fm.formsB = true) := Lib.hid (by rw [← allG_all (p := Fm.formsB) (l := t.parts) (k := k) (by omega)]; exact HQ.out)
        go_wp2
        go_ret
        exact ⟨ret_bool (by rw [HF.out, HG.out]), HB.out⟩

theorem l8Forms_any (t : Fm) : FFormsT t := Fm.ind (P := FFormsT) fforms_of t

set_option maxHeartbeats 1000000 in
theorem l8Good_any (t : Fm) (w : World) (va vp : Value) (hv : FmV w va vp t) (hw : t.wt ≤ 1048576) :
    Calls Try.prog 85 #[.agg #[.int .i64 t.op, .string t.atom.name, va, .string t.var, vp]] w (Ans (.bool (fgoodB t)) w) := by
  obtain ⟨pa, ca, pp, cp, rfl, rfl⟩ := hv.open
  have HV := Lib.hid hv
  have H2 := Lib.hid (fivB_new w (.int .i64 t.op) (.string t.atom.name) (.slice pa t.atom.args.length ca) (.string t.var) (.slice pp t.parts.length cp) 68 _ rfl)
  have HB0 := Lib.hid ((Below.refl w.heap.size w).alloc (Nat.le_refl _) (.cells #[.int .i64 t.op, .string t.atom.name, .slice pa t.atom.args.length ca, .string t.var, .slice pp t.parts.length cp] 68))
  obtain ⟨b0, b1, b2, b3, b4, b5⟩ := H2.out
  have HW := Lib.hid hw
  clear hv hw
  by_cases h40 : t.sz ≤ 40
  · have HF : Hid (fgoodB t = t.formsB) := Lib.hid (by simp [fgoodB, h40])
    have hm : ((min t.sz (40 + 1) : Nat) : Int) ≤ 40 := by omega
    clear h40
    go_enter Try.func85, Try.ntmps85
    go_wp2_with fail
    refine (l8Many_any t _ _ _ 40 (HV.out.kept HB0.out) HW.out (by omega)).mono ?_
    rintro e w1 ⟨rfl, hb⟩
    have HB1 := Lib.hid (carry_below HB0.out (Nat.le_refl _) hb)
    obtain ⟨c0, c1, c2, c3, c4, c5⟩ := H2.out.kept hb
    clear hb
    generalize ((min t.sz (40 + 1) : Nat) : Int) = y at *
    go_wp2_with fail
    refine (l8Forms_any t _ _ _ (HV.out.kept HB1.out) HW.out).mono ?_
    rintro e w2 ⟨rfl, hb⟩
    have HB2 := Lib.hid (carry_below HB1.out (Nat.le_refl _) hb)
    clear hb
    go_wp2
    go_ret
    exact ⟨ret_bool HF.out.symm, HB2.out⟩
  · have HF : Hid (fgoodB t = false) := Lib.hid (by simp [fgoodB, h40])
    have hm : ¬ ((min t.sz (40 + 1) : Nat) : Int) ≤ 40 := by omega
    have hm2 : decide (((min t.sz (40 + 1) : Nat) : Int) ≤ 40) = false := by simp; omega
    clear h40
    go_enter Try.func85, Try.ntmps85
    go_wp2_with fail
    refine (l8Many_any t _ _ _ 40 (HV.out.kept HB0.out) HW.out (by omega)).mono ?_
    rintro e w1 ⟨rfl, hb⟩
    have HB1 := Lib.hid (carry_below HB0.out (Nat.le_refl _) hb)
    obtain ⟨c0, c1, c2, c3, c4, c5⟩ := H2.out.kept hb
    clear hb
    generalize ((min t.sz (40 + 1) : Nat) : Int) = y at *
    go_wp2
    go_ret
    exact ⟨ret_bool HF.out.symm, HB1.out⟩

def fszA (t : Fm) : Int := if fgoodB t then t.sz else 0
theorem fszA_yes {t : Fm} (h : fgoodB t = true) : fszA t = t.sz := by simp [fszA, h]
theorem fszA_no {t : Fm} (h : fgoodB t = false) : fszA t = 0 := by simp [fszA, h]
theorem ret_pair {a b : Int} {p q : Bool} (h : a = b) (k : p = q) : Ending.returned (.tuple #[.int .i64 a, .bool p]) = .returned (.tuple #[.int .i64 b, .bool q]) := by rw [h, k]

end Go.Proofs.Ytppmiedhoimgmaa
