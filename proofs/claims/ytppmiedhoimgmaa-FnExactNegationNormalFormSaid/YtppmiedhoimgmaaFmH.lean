/- The program's test of one formula's form, as a contract: it answers as the model's. For formulas of at most 1048576 names' bytes, arguments and parts. -/
import Derived.Test.YtppmiedhoimgmaaFmN
namespace Go.Proofs.Ytppmiedhoimgmaa
open Go.RowKit
set_option linter.unusedVariables false

theorem noneB_yes {t : Tm} (h : t.name.size = 0) (h2 : t.args.length = 0) : noneB t = true := by simp [noneB, h, h2]
theorem noneB_no1 {t : Tm} (h : ¬ t.name.size = 0) : noneB t = false := by simp [noneB, h]
theorem noneB_no2 {t : Tm} (h2 : ¬ t.args.length = 0) : noneB t = false := by simp [noneB, h2]

set_option maxRecDepth 100000 in
set_option maxHeartbeats 2000000 in
theorem hasForm_1A0 (t : Fm) (w : World) (va vp : Value) (hv : FmV w va vp t) (hw : t.wt ≤ 1048576) (hj : t.op = 1) (hA : t.atom.name.size = 0) (hB : t.atom.args.length = 0) :
    Calls Try.prog 166 #[.agg #[.int .i64 t.op, .string t.atom.name, va, .string t.var, vp]] w (Ans (.bool (formB t)) w) := by
  obtain ⟨pa, ca, pp, cp, rfl, rfl⟩ := hv.open
  have HV := Lib.hid hv
  have H2 := Lib.hid (fivB_new w (.int .i64 t.op) (.string t.atom.name) (.slice pa t.atom.args.length ca) (.string t.var) (.slice pp t.parts.length cp) 68 _ rfl)
  have HB0 := Lib.hid ((Below.refl w.heap.size w).alloc (Nat.le_refl _) (.cells #[.int .i64 t.op, .string t.atom.name, .slice pa t.atom.args.length ca, .string t.var, .slice pp t.parts.length cp] 68))
  obtain ⟨b0, b1, b2, b3, b4, b5⟩ := H2.out
  have hlen := Nat.le_trans t.wt_len hw
  have hvs : t.var.size ≤ maxLen := by have := t.wt_var; unfold maxLen; omega
  have CV := Lib.hid (fun W => isVar_any t.var W hvs)
  have CA : Hid (∀ W, Below w.heap.size w W → Calls Try.prog 108 #[.agg #[.string t.atom.name, .slice pa t.atom.args.length ca]] W (Ans (.bool (atomB t.atom)) W)) := Lib.hid (fun W hW => validAtom_any t.atom W _ (HV.out.1.kept hW) (Nat.le_trans t.wt_atom hw))
  clear hv hvs
  obtain ⟨s1, s2⟩ := str_none hA
  have HN := Lib.hid (noneB_yes hA hB)
  have n0 : ((t.atom.args.length : Int) == 0) = true := by rw [beq_iff_eq]; omega
  clear hA hB
  have HJ := Lib.hid hj
  have HF := Lib.hid (formB_1 hj)
  clear hj
  by_cases hz : t.var.size = 0
  · obtain ⟨u1, u2⟩ := str_none hz
    have HZ : Hid (decide (t.var.size = 0) = true) := Lib.hid (by simp [hz])
    clear hz
    have taw := ta_1w
    go_enter Try.func166, Try.ntmps166
    go_wp2_with fail
    refine (notation_1 _ _ HJ.out).mono ?_
    rintro e w' ⟨rfl, rfl⟩
    by_cases hn : t.parts.length = 0
    · have n1 : ((t.parts.length : Int) == 0) = true := by rw [beq_iff_eq]; omega
      have HG : Hid (formB t = true) := Lib.hid (by rw [HF.out, HN.out, HZ.out]; simp [hn])
      clear hn
      go_wp2
      go_ret
      exact ⟨ret_bool HG.out.symm, HB0.out⟩
    · have n1 : ((t.parts.length : Int) == 0) = false := by rw [beq_eq_false_iff_ne]; omega
      have HG : Hid (formB t = false) := Lib.hid (by rw [HF.out, HN.out, HZ.out]; simp [hn])
      clear hn
      go_wp2
      go_ret
      exact ⟨ret_bool HG.out.symm, HB0.out⟩
  · obtain ⟨u1, u2⟩ := str_some hz
    have HZ : Hid (decide (t.var.size = 0) = false) := Lib.hid (by simp [hz])
    clear hz
    have HG : Hid (formB t = false) := Lib.hid (by rw [HF.out, HZ.out]; simp)
    have taw := ta_1w
    go_enter Try.func166, Try.ntmps166
    go_wp2_with fail
    refine (notation_1 _ _ HJ.out).mono ?_
    rintro e w' ⟨rfl, rfl⟩
    go_wp2
    go_ret
    exact ⟨ret_bool HG.out.symm, HB0.out⟩

set_option maxRecDepth 100000 in
set_option maxHeartbeats 2000000 in
theorem hasForm_1A1 (t : Fm) (w : World) (va vp : Value) (hv : FmV w va vp t) (hw : t.wt ≤ 1048576) (hj : t.op = 1) (hA : t.atom.name.size = 0) (hB : ¬ t.atom.args.length = 0) :
    Calls Try.prog 166 #[.agg #[.int .i64 t.op, .string t.atom.name, va, .string t.var, vp]] w (Ans (.bool (formB t)) w) := by
  obtain ⟨pa, ca, pp, cp, rfl, rfl⟩ := hv.open
  have HV := Lib.hid hv
  have H2 := Lib.hid (fivB_new w (.int .i64 t.op) (.string t.atom.name) (.slice pa t.atom.args.length ca) (.string t.var) (.slice pp t.parts.length cp) 68 _ rfl)
  have HB0 := Lib.hid ((Below.refl w.heap.size w).alloc (Nat.le_refl _) (.cells #[.int .i64 t.op, .string t.atom.name, .slice pa t.atom.args.length ca, .string t.var, .slice pp t.parts.length cp] 68))
  obtain ⟨b0, b1, b2, b3, b4, b5⟩ := H2.out
  have hlen := Nat.le_trans t.wt_len hw
  have hvs : t.var.size ≤ maxLen := by have := t.wt_var; unfold maxLen; omega
  have CV := Lib.hid (fun W => isVar_any t.var W hvs)
  have CA : Hid (∀ W, Below w.heap.size w W → Calls Try.prog 108 #[.agg #[.string t.atom.name, .slice pa t.atom.args.length ca]] W (Ans (.bool (atomB t.atom)) W)) := Lib.hid (fun W hW => validAtom_any t.atom W _ (HV.out.1.kept hW) (Nat.le_trans t.wt_atom hw))
  clear hv hvs
  obtain ⟨s1, s2⟩ := str_none hA
  have HN := Lib.hid (noneB_no2 hB)
  have n0 : ((t.atom.args.length : Int) == 0) = false := by rw [beq_eq_false_iff_ne]; omega
  clear hA hB
  have HJ := Lib.hid hj
  have HF := Lib.hid (formB_1 hj)
  clear hj
  by_cases hz : t.var.size = 0
  · obtain ⟨u1, u2⟩ := str_none hz
    have HZ : Hid (decide (t.var.size = 0) = true) := Lib.hid (by simp [hz])
    clear hz
    have HG : Hid (formB t = false) := Lib.hid (by rw [HF.out, HN.out]; simp)
    have taw := ta_1w
    go_enter Try.func166, Try.ntmps166
    go_wp2_with fail
    refine (notation_1 _ _ HJ.out).mono ?_
    rintro e w' ⟨rfl, rfl⟩
    go_wp2
    go_ret
    exact ⟨ret_bool HG.out.symm, HB0.out⟩
  · obtain ⟨u1, u2⟩ := str_some hz
    have HZ : Hid (decide (t.var.size = 0) = false) := Lib.hid (by simp [hz])
    clear hz
    have HG : Hid (formB t = false) := Lib.hid (by rw [HF.out, HN.out]; simp)
    have taw := ta_1w
    go_enter Try.func166, Try.ntmps166
    go_wp2_with fail
    refine (notation_1 _ _ HJ.out).mono ?_
    rintro e w' ⟨rfl, rfl⟩
    go_wp2
    go_ret
    exact ⟨ret_bool HG.out.symm, HB0.out⟩

set_option maxRecDepth 100000 in
set_option maxHeartbeats 2000000 in
theorem hasForm_1A2 (t : Fm) (w : World) (va vp : Value) (hv : FmV w va vp t) (hw : t.wt ≤ 1048576) (hj : t.op = 1) (hA : ¬ t.atom.name.size = 0) :
    Calls Try.prog 166 #[.agg #[.int .i64 t.op, .string t.atom.name, va, .string t.var, vp]] w (Ans (.bool (formB t)) w) := by
  obtain ⟨pa, ca, pp, cp, rfl, rfl⟩ := hv.open
  have HV := Lib.hid hv
  have H2 := Lib.hid (fivB_new w (.int .i64 t.op) (.string t.atom.name) (.slice pa t.atom.args.length ca) (.string t.var) (.slice pp t.parts.length cp) 68 _ rfl)
  have HB0 := Lib.hid ((Below.refl w.heap.size w).alloc (Nat.le_refl _) (.cells #[.int .i64 t.op, .string t.atom.name, .slice pa t.atom.args.length ca, .string t.var, .slice pp t.parts.length cp] 68))
  obtain ⟨b0, b1, b2, b3, b4, b5⟩ := H2.out
  have hlen := Nat.le_trans t.wt_len hw
  have hvs : t.var.size ≤ maxLen := by have := t.wt_var; unfold maxLen; omega
  have CV := Lib.hid (fun W => isVar_any t.var W hvs)
  have CA : Hid (∀ W, Below w.heap.size w W → Calls Try.prog 108 #[.agg #[.string t.atom.name, .slice pa t.atom.args.length ca]] W (Ans (.bool (atomB t.atom)) W)) := Lib.hid (fun W hW => validAtom_any t.atom W _ (HV.out.1.kept hW) (Nat.le_trans t.wt_atom hw))
  clear hv hvs
  obtain ⟨s1, s2⟩ := str_some hA
  have HN := Lib.hid (noneB_no1 hA)
  clear hA
  have HJ := Lib.hid hj
  have HF := Lib.hid (formB_1 hj)
  clear hj
  by_cases hz : t.var.size = 0
  · obtain ⟨u1, u2⟩ := str_none hz
    have HZ : Hid (decide (t.var.size = 0) = true) := Lib.hid (by simp [hz])
    clear hz
    have HG : Hid (formB t = false) := Lib.hid (by rw [HF.out, HN.out]; simp)
    have taw := ta_1w
    go_enter Try.func166, Try.ntmps166
    go_wp2_with fail
    refine (notation_1 _ _ HJ.out).mono ?_
    rintro e w' ⟨rfl, rfl⟩
    go_wp2
    go_ret
    exact ⟨ret_bool HG.out.symm, HB0.out⟩
  · obtain ⟨u1, u2⟩ := str_some hz
    have HZ : Hid (decide (t.var.size = 0) = false) := Lib.hid (by simp [hz])
    clear hz
    have HG : Hid (formB t = false) := Lib.hid (by rw [HF.out, HN.out]; simp)
    have taw := ta_1w
    go_enter Try.func166, Try.ntmps166
    go_wp2_with fail
    refine (notation_1 _ _ HJ.out).mono ?_
    rintro e w' ⟨rfl, rfl⟩
    go_wp2
    go_ret
    exact ⟨ret_bool HG.out.symm, HB0.out⟩

set_option maxRecDepth 100000 in
set_option maxHeartbeats 2000000 in
theorem hasForm_2A0 (t : Fm) (w : World) (va vp : Value) (hv : FmV w va vp t) (hw : t.wt ≤ 1048576) (hj : t.op = 2) (hA : t.atom.name.size = 0) (hB : t.atom.args.length = 0) :
    Calls Try.prog 166 #[.agg #[.int .i64 t.op, .string t.atom.name, va, .string t.var, vp]] w (Ans (.bool (formB t)) w) := by
  obtain ⟨pa, ca, pp, cp, rfl, rfl⟩ := hv.open
  have HV := Lib.hid hv
  have H2 := Lib.hid (fivB_new w (.int .i64 t.op) (.string t.atom.name) (.slice pa t.atom.args.length ca) (.string t.var) (.slice pp t.parts.length cp) 68 _ rfl)
  have HB0 := Lib.hid ((Below.refl w.heap.size w).alloc (Nat.le_refl _) (.cells #[.int .i64 t.op, .string t.atom.name, .slice pa t.atom.args.length ca, .string t.var, .slice pp t.parts.length cp] 68))
  obtain ⟨b0, b1, b2, b3, b4, b5⟩ := H2.out
  have hlen := Nat.le_trans t.wt_len hw
  have hvs : t.var.size ≤ maxLen := by have := t.wt_var; unfold maxLen; omega
  have CV := Lib.hid (fun W => isVar_any t.var W hvs)
  have CA : Hid (∀ W, Below w.heap.size w W → Calls Try.prog 108 #[.agg #[.string t.atom.name, .slice pa t.atom.args.length ca]] W (Ans (.bool (atomB t.atom)) W)) := Lib.hid (fun W hW => validAtom_any t.atom W _ (HV.out.1.kept hW) (Nat.le_trans t.wt_atom hw))
  clear hv hvs
  obtain ⟨s1, s2⟩ := str_none hA
  have HN := Lib.hid (noneB_yes hA hB)
  have n0 : ((t.atom.args.length : Int) == 0) = true := by rw [beq_iff_eq]; omega
  clear hA hB
  have HJ := Lib.hid hj
  have HF := Lib.hid (formB_2 hj)
  clear hj
  by_cases hz : t.var.size = 0
  · obtain ⟨u1, u2⟩ := str_none hz
    have HZ : Hid (decide (t.var.size = 0) = true) := Lib.hid (by simp [hz])
    clear hz
    have taw := ta_2w
    go_enter Try.func166, Try.ntmps166
    go_wp2_with fail
    refine (notation_2 _ _ HJ.out).mono ?_
    rintro e w' ⟨rfl, rfl⟩
    by_cases hn : t.parts.length = 0
    · have n1 : ((t.parts.length : Int) == 0) = true := by rw [beq_iff_eq]; omega
      have HG : Hid (formB t = true) := Lib.hid (by rw [HF.out, HN.out, HZ.out]; simp [hn])
      clear hn
      go_wp2
      go_ret
      exact ⟨ret_bool HG.out.symm, HB0.out⟩
    · have n1 : ((t.parts.length : Int) == 0) = false := by rw [beq_eq_false_iff_ne]; omega
      have HG : Hid (formB t = false) := Lib.hid (by rw [HF.out, HN.out, HZ.out]; simp [hn])
      clear hn
      go_wp2
      go_ret
      exact ⟨ret_bool HG.out.symm, HB0.out⟩
  · obtain ⟨u1, u2⟩ := str_some hz
    have HZ : Hid (decide (t.var.size = 0) = false) := Lib.hid (by simp [hz])
    clear hz
    have HG : Hid (formB t = false) := Lib.hid (by rw [HF.out, HZ.out]; simp)
    have taw := ta_2w
    go_enter Try.func166, Try.ntmps166
    go_wp2_with fail
    refine (notation_2 _ _ HJ.out).mono ?_
    rintro e w' ⟨rfl, rfl⟩
    go_wp2
    go_ret
    exact ⟨ret_bool HG.out.symm, HB0.out⟩

set_option maxRecDepth 100000 in
set_option maxHeartbeats 2000000 in
theorem hasForm_2A1 (t : Fm) (w : World) (va vp : Value) (hv : FmV w va vp t) (hw : t.wt ≤ 1048576) (hj : t.op = 2) (hA : t.atom.name.size = 0) (hB : ¬ t.atom.args.length = 0) :
    Calls Try.prog 166 #[.agg #[.int .i64 t.op, .string t.atom.name, va, .string t.var, vp]] w (Ans (.bool (formB t)) w) := by
  obtain ⟨pa, ca, pp, cp, rfl, rfl⟩ := hv.open
  have HV := Lib.hid hv
  have H2 := Lib.hid (fivB_new w (.int .i64 t.op) (.string t.atom.name) (.slice pa t.atom.args.length ca) (.string t.var) (.slice pp t.parts.length cp) 68 _ rfl)
  have HB0 := Lib.hid ((Below.refl w.heap.size w).alloc (Nat.le_refl _) (.cells #[.int .i64 t.op, .string t.atom.name, .slice pa t.atom.args.length ca, .string t.var, .slice pp t.parts.length cp] 68))
  obtain ⟨b0, b1, b2, b3, b4, b5⟩ := H2.out
  have hlen := Nat.le_trans t.wt_len hw
  have hvs : t.var.size ≤ maxLen := by have := t.wt_var; unfold maxLen; omega
  have CV := Lib.hid (fun W => isVar_any t.var W hvs)
  have CA : Hid (∀ W, Below w.heap.size w W → Calls Try.prog 108 #[.agg #[.string t.atom.name, .slice pa t.atom.args.length ca]] W (Ans (.bool (atomB t.atom)) W)) := Lib.hid (fun W hW => validAtom_any t.atom W _ (HV.out.1.kept hW) (Nat.le_trans t.wt_atom hw))
  clear hv hvs
  obtain ⟨s1, s2⟩ := str_none hA
  have HN := Lib.hid (noneB_no2 hB)
  have n0 : ((t.atom.args.length : Int) == 0) = false := by rw [beq_eq_false_iff_ne]; omega
  clear hA hB
  have HJ := Lib.hid hj
  have HF := Lib.hid (formB_2 hj)
  clear hj
  by_cases hz : t.var.size = 0
  · obtain ⟨u1, u2⟩ := str_none hz
    have HZ : Hid (decide (t.var.size = 0) = true) := Lib.hid (by simp [hz])
    clear hz
    have HG : Hid (formB t = false) := Lib.hid (by rw [HF.out, HN.out]; simp)
    have taw := ta_2w
    go_enter Try.func166, Try.ntmps166
    go_wp2_with fail
    refine (notation_2 _ _ HJ.out).mono ?_
    rintro e w' ⟨rfl, rfl⟩
    go_wp2
    go_ret
    exact ⟨ret_bool HG.out.symm, HB0.out⟩
  · obtain ⟨u1, u2⟩ := str_some hz
    have HZ : Hid (decide (t.var.size = 0) = false) := Lib.hid (by simp [hz])
    clear hz
    have HG : Hid (formB t = false) := Lib.hid (by rw [HF.out, HN.out]; simp)
    have taw := ta_2w
    go_enter Try.func166, Try.ntmps166
    go_wp2_with fail
    refine (notation_2 _ _ HJ.out).mono ?_
    rintro e w' ⟨rfl, rfl⟩
    go_wp2
    go_ret
    exact ⟨ret_bool HG.out.symm, HB0.out⟩

set_option maxRecDepth 100000 in
set_option maxHeartbeats 2000000 in
theorem hasForm_2A2 (t : Fm) (w : World) (va vp : Value) (hv : FmV w va vp t) (hw : t.wt ≤ 1048576) (hj : t.op = 2) (hA : ¬ t.atom.name.size = 0) :
    Calls Try.prog 166 #[.agg #[.int .i64 t.op, .string t.atom.name, va, .string t.var, vp]] w (Ans (.bool (formB t)) w) := by
  obtain ⟨pa, ca, pp, cp, rfl, rfl⟩ := hv.open
  have HV := Lib.hid hv
  have H2 := Lib.hid (fivB_new w (.int .i64 t.op) (.string t.atom.name) (.slice pa t.atom.args.length ca) (.string t.var) (.slice pp t.parts.length cp) 68 _ rfl)
  have HB0 := Lib.hid ((Below.refl w.heap.size w).alloc (Nat.le_refl _) (.cells #[.int .i64 t.op, .string t.atom.name, .slice pa t.atom.args.length ca, .string t.var, .slice pp t.parts.length cp] 68))
  obtain ⟨b0, b1, b2, b3, b4, b5⟩ := H2.out
  have hlen := Nat.le_trans t.wt_len hw
  have hvs : t.var.size ≤ maxLen := by have := t.wt_var; unfold maxLen; omega
  have CV := Lib.hid (fun W => isVar_any t.var W hvs)
  have CA : Hid (∀ W, Below w.heap.size w W → Calls Try.prog 108 #[.agg #[.string t.atom.name, .slice pa t.atom.args.length ca]] W (Ans (.bool (atomB t.atom)) W)) := Lib.hid (fun W hW => validAtom_any t.atom W _ (HV.out.1.kept hW) (Nat.le_trans t.wt_atom hw))
  clear hv hvs
  obtain ⟨s1, s2⟩ := str_some hA
  have HN := Lib.hid (noneB_no1 hA)
  clear hA
  have HJ := Lib.hid hj
  have HF := Lib.hid (formB_2 hj)
  clear hj
  by_cases hz : t.var.size = 0
  · obtain ⟨u1, u2⟩ := str_none hz
    have HZ : Hid (decide (t.var.size = 0) = true) := Lib.hid (by simp [hz])
    clear hz
    have HG : Hid (formB t = false) := Lib.hid (by rw [HF.out, HN.out]; simp)
    have taw := ta_2w
    go_enter Try.func166, Try.ntmps166
    go_wp2_with fail
    refine (notation_2 _ _ HJ.out).mono ?_
    rintro e w' ⟨rfl, rfl⟩
    go_wp2
    go_ret
    exact ⟨ret_bool HG.out.symm, HB0.out⟩
  · obtain ⟨u1, u2⟩ := str_some hz
    have HZ : Hid (decide (t.var.size = 0) = false) := Lib.hid (by simp [hz])
    clear hz
    have HG : Hid (formB t = false) := Lib.hid (by rw [HF.out, HN.out]; simp)
    have taw := ta_2w
    go_enter Try.func166, Try.ntmps166
    go_wp2_with fail
    refine (notation_2 _ _ HJ.out).mono ?_
    rintro e w' ⟨rfl, rfl⟩
    go_wp2
    go_ret
    exact ⟨ret_bool HG.out.symm, HB0.out⟩

set_option maxRecDepth 100000 in
set_option maxHeartbeats 2000000 in
theorem hasForm_3A0 (t : Fm) (w : World) (va vp : Value) (hv : FmV w va vp t) (hw : t.wt ≤ 1048576) (hj : t.op = 3) (hA : t.atom.name.size = 0) (hB : t.atom.args.length = 0) :
    Calls Try.prog 166 #[.agg #[.int .i64 t.op, .string t.atom.name, va, .string t.var, vp]] w (Ans (.bool (formB t)) w) := by
  obtain ⟨pa, ca, pp, cp, rfl, rfl⟩ := hv.open
  have HV := Lib.hid hv
  have H2 := Lib.hid (fivB_new w (.int .i64 t.op) (.string t.atom.name) (.slice pa t.atom.args.length ca) (.string t.var) (.slice pp t.parts.length cp) 68 _ rfl)
  have HB0 := Lib.hid ((Below.refl w.heap.size w).alloc (Nat.le_refl _) (.cells #[.int .i64 t.op, .string t.atom.name, .slice pa t.atom.args.length ca, .string t.var, .slice pp t.parts.length cp] 68))
  obtain ⟨b0, b1, b2, b3, b4, b5⟩ := H2.out
  have hlen := Nat.le_trans t.wt_len hw
  have hvs : t.var.size ≤ maxLen := by have := t.wt_var; unfold maxLen; omega
  have CV := Lib.hid (fun W => isVar_any t.var W hvs)
  have CA : Hid (∀ W, Below w.heap.size w W → Calls Try.prog 108 #[.agg #[.string t.atom.name, .slice pa t.atom.args.length ca]] W (Ans (.bool (atomB t.atom)) W)) := Lib.hid (fun W hW => validAtom_any t.atom W _ (HV.out.1.kept hW) (Nat.le_trans t.wt_atom hw))
  clear hv hvs
  obtain ⟨s1, s2⟩ := str_none hA
  have HN := Lib.hid (noneB_yes hA hB)
  have n0 : ((t.atom.args.length : Int) == 0) = true := by rw [beq_iff_eq]; omega
  clear hA hB
  have HJ := Lib.hid hj
  have HF := Lib.hid (formB_3 hj)
  clear hj
  by_cases hz : t.var.size = 0
  · obtain ⟨u1, u2⟩ := str_none hz
    have HZ : Hid (decide (t.var.size = 0) = true) := Lib.hid (by simp [hz])
    clear hz
    have taw := ta_3w
    have taa := ta_3a
    go_enter Try.func166, Try.ntmps166
    go_wp2_with fail
    refine (notation_3 _ _ HJ.out).mono ?_
    rintro e w' ⟨rfl, rfl⟩
    go_wp2_with fail
    refine (CA.out _ HB0.out).mono ?_
    rintro e w' ⟨rfl, hb⟩
    have HB := Lib.hid (carry_below HB0.out (Nat.le_refl _) hb)
    obtain ⟨d0, d1, d2, d3, d4, d5⟩ := H2.out.kept hb
    clear hb
    cases ha : atomB t.atom
    · have HG : Hid (formB t = false) := Lib.hid (by rw [HF.out, ha]; simp)
      clear ha
      go_wp2
      go_ret
      exact ⟨ret_bool HG.out.symm, HB.out⟩
    · skip
      by_cases hn : t.parts.length = 0
      · have n1 : ((t.parts.length : Int) == 0) = true := by rw [beq_iff_eq]; omega
        have HG : Hid (formB t = true) := Lib.hid (by rw [HF.out, ha, HZ.out]; simp [hn])
        clear hn ha
        go_wp2
        go_ret
        exact ⟨ret_bool HG.out.symm, HB.out⟩
      · have n1 : ((t.parts.length : Int) == 0) = false := by rw [beq_eq_false_iff_ne]; omega
        have HG : Hid (formB t = false) := Lib.hid (by rw [HF.out, ha, HZ.out]; simp [hn])
        clear hn ha
        go_wp2
        go_ret
        exact ⟨ret_bool HG.out.symm, HB.out⟩
  · obtain ⟨u1, u2⟩ := str_some hz
    have HZ : Hid (decide (t.var.size = 0) = false) := Lib.hid (by simp [hz])
    clear hz
    have taw := ta_3w
    have taa := ta_3a
    go_enter Try.func166, Try.ntmps166
    go_wp2_with fail
    refine (notation_3 _ _ HJ.out).mono ?_
    rintro e w' ⟨rfl, rfl⟩
    go_wp2_with fail
    refine (CA.out _ HB0.out).mono ?_
    rintro e w' ⟨rfl, hb⟩
    have HB := Lib.hid (carry_below HB0.out (Nat.le_refl _) hb)
    obtain ⟨d0, d1, d2, d3, d4, d5⟩ := H2.out.kept hb
    clear hb
    cases ha : atomB t.atom
    · have HG : Hid (formB t = false) := Lib.hid (by rw [HF.out, ha]; simp)
      clear ha
      go_wp2
      go_ret
      exact ⟨ret_bool HG.out.symm, HB.out⟩
    · have HG : Hid (formB t = false) := Lib.hid (by rw [HF.out, HZ.out]; simp)
      clear ha
      go_wp2
      go_ret
      exact ⟨ret_bool HG.out.symm, HB.out⟩

set_option maxRecDepth 100000 in
set_option maxHeartbeats 2000000 in
theorem hasForm_3A1 (t : Fm) (w : World) (va vp : Value) (hv : FmV w va vp t) (hw : t.wt ≤ 1048576) (hj : t.op = 3) (hA : t.atom.name.size = 0) (hB : ¬ t.atom.args.length = 0) :
    Calls Try.prog 166 #[.agg #[.int .i64 t.op, .string t.atom.name, va, .string t.var, vp]] w (Ans (.bool (formB t)) w) := by
  obtain ⟨pa, ca, pp, cp, rfl, rfl⟩ := hv.open
  have HV := Lib.hid hv
  have H2 := Lib.hid (fivB_new w (.int .i64 t.op) (.string t.atom.name) (.slice pa t.atom.args.length ca) (.string t.var) (.slice pp t.parts.length cp) 68 _ rfl)
  have HB0 := Lib.hid ((Below.refl w.heap.size w).alloc (Nat.le_refl _) (.cells #[.int .i64 t.op, .string t.atom.name, .slice pa t.atom.args.length ca, .string t.var, .slice pp t.parts.length cp] 68))
  obtain ⟨b0, b1, b2, b3, b4, b5⟩ := H2.out
  have hlen := Nat.le_trans t.wt_len hw
  have hvs : t.var.size ≤ maxLen := by have := t.wt_var; unfold maxLen; omega
  have CV := Lib.hid (fun W => isVar_any t.var W hvs)
  have CA : Hid (∀ W, Below w.heap.size w W → Calls Try.prog 108 #[.agg #[.string t.atom.name, .slice pa t.atom.args.length ca]] W (Ans (.bool (atomB t.atom)) W)) := Lib.hid (fun W hW => validAtom_any t.atom W _ (HV.out.1.kept hW) (Nat.le_trans t.wt_atom hw))
  clear hv hvs
  obtain ⟨s1, s2⟩ := str_none hA
  have HN := Lib.hid (noneB_no2 hB)
  have n0 : ((t.atom.args.length : Int) == 0) = false := by rw [beq_eq_false_iff_ne]; omega
  clear hA hB
  have HJ := Lib.hid hj
  have HF := Lib.hid (formB_3 hj)
  clear hj
  by_cases hz : t.var.size = 0
  · obtain ⟨u1, u2⟩ := str_none hz
    have HZ : Hid (decide (t.var.size = 0) = true) := Lib.hid (by simp [hz])
    clear hz
    have taw := ta_3w
    have taa := ta_3a
    go_enter Try.func166, Try.ntmps166
    go_wp2_with fail
    refine (notation_3 _ _ HJ.out).mono ?_
    rintro e w' ⟨rfl, rfl⟩
    go_wp2_with fail
    refine (CA.out _ HB0.out).mono ?_
    rintro e w' ⟨rfl, hb⟩
    have HB := Lib.hid (carry_below HB0.out (Nat.le_refl _) hb)
    obtain ⟨d0, d1, d2, d3, d4, d5⟩ := H2.out.kept hb
    clear hb
    cases ha : atomB t.atom
    · have HG : Hid (formB t = false) := Lib.hid (by rw [HF.out, ha]; simp)
      clear ha
      go_wp2
      go_ret
      exact ⟨ret_bool HG.out.symm, HB.out⟩
    · skip
      by_cases hn : t.parts.length = 0
      · have n1 : ((t.parts.length : Int) == 0) = true := by rw [beq_iff_eq]; omega
        have HG : Hid (formB t = true) := Lib.hid (by rw [HF.out, ha, HZ.out]; simp [hn])
        clear hn ha
        go_wp2
        go_ret
        exact ⟨ret_bool HG.out.symm, HB.out⟩
      · have n1 : ((t.parts.length : Int) == 0) = false := by rw [beq_eq_false_iff_ne]; omega
        have HG : Hid (formB t = false) := Lib.hid (by rw [HF.out, ha, HZ.out]; simp [hn])
        clear hn ha
        go_wp2
        go_ret
        exact ⟨ret_bool HG.out.symm, HB.out⟩
  · obtain ⟨u1, u2⟩ := str_some hz
    have HZ : Hid (decide (t.var.size = 0) = false) := Lib.hid (by simp [hz])
    clear hz
    have taw := ta_3w
    have taa := ta_3a
    go_enter Try.func166, Try.ntmps166
    go_wp2_with fail
    refine (notation_3 _ _ HJ.out).mono ?_
    rintro e w' ⟨rfl, rfl⟩
    go_wp2_with fail
    refine (CA.out _ HB0.out).mono ?_
    rintro e w' ⟨rfl, hb⟩
    have HB := Lib.hid (carry_below HB0.out (Nat.le_refl _) hb)
    obtain ⟨d0, d1, d2, d3, d4, d5⟩ := H2.out.kept hb
    clear hb
    cases ha : atomB t.atom
    · have HG : Hid (formB t = false) := Lib.hid (by rw [HF.out, ha]; simp)
      clear ha
      go_wp2
      go_ret
      exact ⟨ret_bool HG.out.symm, HB.out⟩
    · have HG : Hid (formB t = false) := Lib.hid (by rw [HF.out, HZ.out]; simp)
      clear ha
      go_wp2
      go_ret
      exact ⟨ret_bool HG.out.symm, HB.out⟩

set_option maxRecDepth 100000 in
set_option maxHeartbeats 2000000 in
theorem hasForm_3A2 (t : Fm) (w : World) (va vp : Value) (hv : FmV w va vp t) (hw : t.wt ≤ 1048576) (hj : t.op = 3) (hA : ¬ t.atom.name.size = 0) :
    Calls Try.prog 166 #[.agg #[.int .i64 t.op, .string t.atom.name, va, .string t.var, vp]] w (Ans (.bool (formB t)) w) := by
  obtain ⟨pa, ca, pp, cp, rfl, rfl⟩ := hv.open
  have HV := Lib.hid hv
  have H2 := Lib.hid (fivB_new w (.int .i64 t.op) (.string t.atom.name) (.slice pa t.atom.args.length ca) (.string t.var) (.slice pp t.parts.length cp) 68 _ rfl)
  have HB0 := Lib.hid ((Below.refl w.heap.size w).alloc (Nat.le_refl _) (.cells #[.int .i64 t.op, .string t.atom.name, .slice pa t.atom.args.length ca, .string t.var, .slice pp t.parts.length cp] 68))
  obtain ⟨b0, b1, b2, b3, b4, b5⟩ := H2.out
  have hlen := Nat.le_trans t.wt_len hw
  have hvs : t.var.size ≤ maxLen := by have := t.wt_var; unfold maxLen; omega
  have CV := Lib.hid (fun W => isVar_any t.var W hvs)
  have CA : Hid (∀ W, Below w.heap.size w W → Calls Try.prog 108 #[.agg #[.string t.atom.name, .slice pa t.atom.args.length ca]] W (Ans (.bool (atomB t.atom)) W)) := Lib.hid (fun W hW => validAtom_any t.atom W _ (HV.out.1.kept hW) (Nat.le_trans t.wt_atom hw))
  clear hv hvs
  obtain ⟨s1, s2⟩ := str_some hA
  have HN := Lib.hid (noneB_no1 hA)
  clear hA
  have HJ := Lib.hid hj
  have HF := Lib.hid (formB_3 hj)
  clear hj
  by_cases hz : t.var.size = 0
  · obtain ⟨u1, u2⟩ := str_none hz
    have HZ : Hid (decide (t.var.size = 0) = true) := Lib.hid (by simp [hz])
    clear hz
    have taw := ta_3w
    have taa := ta_3a
    go_enter Try.func166, Try.ntmps166
    go_wp2_with fail
    refine (notation_3 _ _ HJ.out).mono ?_
    rintro e w' ⟨rfl, rfl⟩
    go_wp2_with fail
    refine (CA.out _ HB0.out).mono ?_
    rintro e w' ⟨rfl, hb⟩
    have HB := Lib.hid (carry_below HB0.out (Nat.le_refl _) hb)
    obtain ⟨d0, d1, d2, d3, d4, d5⟩ := H2.out.kept hb
    clear hb
    cases ha : atomB t.atom
    · have HG : Hid (formB t = false) := Lib.hid (by rw [HF.out, ha]; simp)
      clear ha
      go_wp2
      go_ret
      exact ⟨ret_bool HG.out.symm, HB.out⟩
    · skip
      by_cases hn : t.parts.length = 0
      · have n1 : ((t.parts.length : Int) == 0) = true := by rw [beq_iff_eq]; omega
        have HG : Hid (formB t = true) := Lib.hid (by rw [HF.out, ha, HZ.out]; simp [hn])
        clear hn ha
        go_wp2
        go_ret
        exact ⟨ret_bool HG.out.symm, HB.out⟩
      · have n1 : ((t.parts.length : Int) == 0) = false := by rw [beq_eq_false_iff_ne]; omega
        have HG : Hid (formB t = false) := Lib.hid (by rw [HF.out, ha, HZ.out]; simp [hn])
        clear hn ha
        go_wp2
        go_ret
        exact ⟨ret_bool HG.out.symm, HB.out⟩
  · obtain ⟨u1, u2⟩ := str_some hz
    have HZ : Hid (decide (t.var.size = 0) = false) := Lib.hid (by simp [hz])
    clear hz
    have taw := ta_3w
    have taa := ta_3a
    go_enter Try.func166, Try.ntmps166
    go_wp2_with fail
    refine (notation_3 _ _ HJ.out).mono ?_
    rintro e w' ⟨rfl, rfl⟩
    go_wp2_with fail
    refine (CA.out _ HB0.out).mono ?_
    rintro e w' ⟨rfl, hb⟩
    have HB := Lib.hid (carry_below HB0.out (Nat.le_refl _) hb)
    obtain ⟨d0, d1, d2, d3, d4, d5⟩ := H2.out.kept hb
    clear hb
    cases ha : atomB t.atom
    · have HG : Hid (formB t = false) := Lib.hid (by rw [HF.out, ha]; simp)
      clear ha
      go_wp2
      go_ret
      exact ⟨ret_bool HG.out.symm, HB.out⟩
    · have HG : Hid (formB t = false) := Lib.hid (by rw [HF.out, HZ.out]; simp)
      clear ha
      go_wp2
      go_ret
      exact ⟨ret_bool HG.out.symm, HB.out⟩

set_option maxRecDepth 100000 in
set_option maxHeartbeats 2000000 in
theorem hasForm_4A0 (t : Fm) (w : World) (va vp : Value) (hv : FmV w va vp t) (hw : t.wt ≤ 1048576) (hj : t.op = 4) (hA : t.atom.name.size = 0) (hB : t.atom.args.length = 0) :
    Calls Try.prog 166 #[.agg #[.int .i64 t.op, .string t.atom.name, va, .string t.var, vp]] w (Ans (.bool (formB t)) w) := by
  obtain ⟨pa, ca, pp, cp, rfl, rfl⟩ := hv.open
  have HV := Lib.hid hv
  have H2 := Lib.hid (fivB_new w (.int .i64 t.op) (.string t.atom.name) (.slice pa t.atom.args.length ca) (.string t.var) (.slice pp t.parts.length cp) 68 _ rfl)
  have HB0 := Lib.hid ((Below.refl w.heap.size w).alloc (Nat.le_refl _) (.cells #[.int .i64 t.op, .string t.atom.name, .slice pa t.atom.args.length ca, .string t.var, .slice pp t.parts.length cp] 68))
  obtain ⟨b0, b1, b2, b3, b4, b5⟩ := H2.out
  have hlen := Nat.le_trans t.wt_len hw
  have hvs : t.var.size ≤ maxLen := by have := t.wt_var; unfold maxLen; omega
  have CV := Lib.hid (fun W => isVar_any t.var W hvs)
  have CA : Hid (∀ W, Below w.heap.size w W → Calls Try.prog 108 #[.agg #[.string t.atom.name, .slice pa t.atom.args.length ca]] W (Ans (.bool (atomB t.atom)) W)) := Lib.hid (fun W hW => validAtom_any t.atom W _ (HV.out.1.kept hW) (Nat.le_trans t.wt_atom hw))
  clear hv hvs
  obtain ⟨s1, s2⟩ := str_none hA
  have HN := Lib.hid (noneB_yes hA hB)
  have n0 : ((t.atom.args.length : Int) == 0) = true := by rw [beq_iff_eq]; omega
  clear hA hB
  have HJ := Lib.hid hj
  have HF := Lib.hid (formB_4 hj)
  clear hj
  by_cases hz : t.var.size = 0
  · obtain ⟨u1, u2⟩ := str_none hz
    have HZ : Hid (decide (t.var.size = 0) = true) := Lib.hid (by simp [hz])
    clear hz
    have taw := ta_4w
    have taa := ta_4a
    have tap := ta_4p
    go_enter Try.func166, Try.ntmps166
    go_wp2_with fail
    refine (notation_4 _ _ HJ.out).mono ?_
    rintro e w' ⟨rfl, rfl⟩
    by_cases hn : t.parts.length = 1
    · have n1 : ((t.parts.length : Int) == 1) = true := by rw [beq_iff_eq]; omega
      have HG : Hid (formB t = true) := Lib.hid (by rw [HF.out, HN.out, HZ.out]; simp [hn])
      clear hn
      go_wp2
      go_ret
      exact ⟨ret_bool HG.out.symm, HB0.out⟩
    · have n1 : ((t.parts.length : Int) == 1) = false := by rw [beq_eq_false_iff_ne]; omega
      have HG : Hid (formB t = false) := Lib.hid (by rw [HF.out, HN.out, HZ.out]; simp [hn])
      clear hn
      go_wp2
      go_ret
      exact ⟨ret_bool HG.out.symm, HB0.out⟩
  · obtain ⟨u1, u2⟩ := str_some hz
    have HZ : Hid (decide (t.var.size = 0) = false) := Lib.hid (by simp [hz])
    clear hz
    have HG : Hid (formB t = false) := Lib.hid (by rw [HF.out, HZ.out]; simp)
    have taw := ta_4w
    have taa := ta_4a
    have tap := ta_4p
    go_enter Try.func166, Try.ntmps166
    go_wp2_with fail
    refine (notation_4 _ _ HJ.out).mono ?_
    rintro e w' ⟨rfl, rfl⟩
    go_wp2
    go_ret
    exact ⟨ret_bool HG.out.symm, HB0.out⟩

set_option maxRecDepth 100000 in
set_option maxHeartbeats 2000000 in
theorem hasForm_4A1 (t : Fm) (w : World) (va vp : Value) (hv : FmV w va vp t) (hw : t.wt ≤ 1048576) (hj : t.op = 4) (hA : t.atom.name.size = 0) (hB : ¬ t.atom.args.length = 0) :
    Calls Try.prog 166 #[.agg #[.int .i64 t.op, .string t.atom.name, va, .string t.var, vp]] w (Ans (.bool (formB t)) w) := by
  obtain ⟨pa, ca, pp, cp, rfl, rfl⟩ := hv.open
  have HV := Lib.hid hv
  have H2 := Lib.hid (fivB_new w (.int .i64 t.op) (.string t.atom.name) (.slice pa t.atom.args.length ca) (.string t.var) (.slice pp t.parts.length cp) 68 _ rfl)
  have HB0 := Lib.hid ((Below.refl w.heap.size w).alloc (Nat.le_refl _) (.cells #[.int .i64 t.op, .string t.atom.name, .slice pa t.atom.args.length ca, .string t.var, .slice pp t.parts.length cp] 68))
  obtain ⟨b0, b1, b2, b3, b4, b5⟩ := H2.out
  have hlen := Nat.le_trans t.wt_len hw
  have hvs : t.var.size ≤ maxLen := by have := t.wt_var; unfold maxLen; omega
  have CV := Lib.hid (fun W => isVar_any t.var W hvs)
  have CA : Hid (∀ W, Below w.heap.size w W → Calls Try.prog 108 #[.agg #[.string t.atom.name, .slice pa t.atom.args.length ca]] W (Ans (.bool (atomB t.atom)) W)) := Lib.hid (fun W hW => validAtom_any t.atom W _ (HV.out.1.kept hW) (Nat.le_trans t.wt_atom hw))
  clear hv hvs
  obtain ⟨s1, s2⟩ := str_none hA
  have HN := Lib.hid (noneB_no2 hB)
  have n0 : ((t.atom.args.length : Int) == 0) = false := by rw [beq_eq_false_iff_ne]; omega
  clear hA hB
  have HJ := Lib.hid hj
  have HF := Lib.hid (formB_4 hj)
  clear hj
  by_cases hz : t.var.size = 0
  · obtain ⟨u1, u2⟩ := str_none hz
    have HZ : Hid (decide (t.var.size = 0) = true) := Lib.hid (by simp [hz])
    clear hz
    have HG : Hid (formB t = false) := Lib.hid (by rw [HF.out, HN.out]; simp)
    have taw := ta_4w
    have taa := ta_4a
    have tap := ta_4p
    go_enter Try.func166, Try.ntmps166
    go_wp2_with fail
    refine (notation_4 _ _ HJ.out).mono ?_
    rintro e w' ⟨rfl, rfl⟩
    go_wp2
    go_ret
    exact ⟨ret_bool HG.out.symm, HB0.out⟩
  · obtain ⟨u1, u2⟩ := str_some hz
    have HZ : Hid (decide (t.var.size = 0) = false) := Lib.hid (by simp [hz])
    clear hz
    have HG : Hid (formB t = false) := Lib.hid (by rw [HF.out, HN.out]; simp)
    have taw := ta_4w
    have taa := ta_4a
    have tap := ta_4p
    go_enter Try.func166, Try.ntmps166
    go_wp2_with fail
    refine (notation_4 _ _ HJ.out).mono ?_
    rintro e w' ⟨rfl, rfl⟩
    go_wp2
    go_ret
    exact ⟨ret_bool HG.out.symm, HB0.out⟩

set_option maxRecDepth 100000 in
set_option maxHeartbeats 2000000 in
theorem hasForm_4A2 (t : Fm) (w : World) (va vp : Value) (hv : FmV w va vp t) (hw : t.wt ≤ 1048576) (hj : t.op = 4) (hA : ¬ t.atom.name.size = 0) :
    Calls Try.prog 166 #[.agg #[.int .i64 t.op, .string t.atom.name, va, .string t.var, vp]] w (Ans (.bool (formB t)) w) := by
  obtain ⟨pa, ca, pp, cp, rfl, rfl⟩ := hv.open
  have HV := Lib.hid hv
  have H2 := Lib.hid (fivB_new w (.int .i64 t.op) (.string t.atom.name) (.slice pa t.atom.args.length ca) (.string t.var) (.slice pp t.parts.length cp) 68 _ rfl)
  have HB0 := Lib.hid ((Below.refl w.heap.size w).alloc (Nat.le_refl _) (.cells #[.int .i64 t.op, .string t.atom.name, .slice pa t.atom.args.length ca, .string t.var, .slice pp t.parts.length cp] 68))
  obtain ⟨b0, b1, b2, b3, b4, b5⟩ := H2.out
  have hlen := Nat.le_trans t.wt_len hw
  have hvs : t.var.size ≤ maxLen := by have := t.wt_var; unfold maxLen; omega
  have CV := Lib.hid (fun W => isVar_any t.var W hvs)
  have CA : Hid (∀ W, Below w.heap.size w W → Calls Try.prog 108 #[.agg #[.string t.atom.name, .slice pa t.atom.args.length ca]] W (Ans (.bool (atomB t.atom)) W)) := Lib.hid (fun W hW => validAtom_any t.atom W _ (HV.out.1.kept hW) (Nat.le_trans t.wt_atom hw))
  clear hv hvs
  obtain ⟨s1, s2⟩ := str_some hA
  have HN := Lib.hid (noneB_no1 hA)
  clear hA
  have HJ := Lib.hid hj
  have HF := Lib.hid (formB_4 hj)
  clear hj
  by_cases hz : t.var.size = 0
  · obtain ⟨u1, u2⟩ := str_none hz
    have HZ : Hid (decide (t.var.size = 0) = true) := Lib.hid (by simp [hz])
    clear hz
    have HG : Hid (formB t = false) := Lib.hid (by rw [HF.out, HN.out]; simp)
    have taw := ta_4w
    have taa := ta_4a
    have tap := ta_4p
    go_enter Try.func166, Try.ntmps166
    go_wp2_with fail
    refine (notation_4 _ _ HJ.out).mono ?_
    rintro e w' ⟨rfl, rfl⟩
    go_wp2
    go_ret
    exact ⟨ret_bool HG.out.symm, HB0.out⟩
  · obtain ⟨u1, u2⟩ := str_some hz
    have HZ : Hid (decide (t.var.size = 0) = false) := Lib.hid (by simp [hz])
    clear hz
    have HG : Hid (formB t = false) := Lib.hid (by rw [HF.out, HN.out]; simp)
    have taw := ta_4w
    have taa := ta_4a
    have tap := ta_4p
    go_enter Try.func166, Try.ntmps166
    go_wp2_with fail
    refine (notation_4 _ _ HJ.out).mono ?_
    rintro e w' ⟨rfl, rfl⟩
    go_wp2
    go_ret
    exact ⟨ret_bool HG.out.symm, HB0.out⟩

set_option maxRecDepth 100000 in
set_option maxHeartbeats 2000000 in
theorem hasForm_5A0 (t : Fm) (w : World) (va vp : Value) (hv : FmV w va vp t) (hw : t.wt ≤ 1048576) (hj : t.op = 5) (hA : t.atom.name.size = 0) (hB : t.atom.args.length = 0) :
    Calls Try.prog 166 #[.agg #[.int .i64 t.op, .string t.atom.name, va, .string t.var, vp]] w (Ans (.bool (formB t)) w) := by
  obtain ⟨pa, ca, pp, cp, rfl, rfl⟩ := hv.open
  have HV := Lib.hid hv
  have H2 := Lib.hid (fivB_new w (.int .i64 t.op) (.string t.atom.name) (.slice pa t.atom.args.length ca) (.string t.var) (.slice pp t.parts.length cp) 68 _ rfl)
  have HB0 := Lib.hid ((Below.refl w.heap.size w).alloc (Nat.le_refl _) (.cells #[.int .i64 t.op, .string t.atom.name, .slice pa t.atom.args.length ca, .string t.var, .slice pp t.parts.length cp] 68))
  obtain ⟨b0, b1, b2, b3, b4, b5⟩ := H2.out
  have hlen := Nat.le_trans t.wt_len hw
  have hvs : t.var.size ≤ maxLen := by have := t.wt_var; unfold maxLen; omega
  have CV := Lib.hid (fun W => isVar_any t.var W hvs)
  have CA : Hid (∀ W, Below w.heap.size w W → Calls Try.prog 108 #[.agg #[.string t.atom.name, .slice pa t.atom.args.length ca]] W (Ans (.bool (atomB t.atom)) W)) := Lib.hid (fun W hW => validAtom_any t.atom W _ (HV.out.1.kept hW) (Nat.le_trans t.wt_atom hw))
  clear hv hvs
  obtain ⟨s1, s2⟩ := str_none hA
  have HN := Lib.hid (noneB_yes hA hB)
  have n0 : ((t.atom.args.length : Int) == 0) = true := by rw [beq_iff_eq]; omega
  clear hA hB
  have HJ := Lib.hid hj
  have HF := Lib.hid (formB_5 hj)
  clear hj
  by_cases hz : t.var.size = 0
  · obtain ⟨u1, u2⟩ := str_none hz
    have HZ : Hid (decide (t.var.size = 0) = true) := Lib.hid (by simp [hz])
    clear hz
    have taw := ta_5w
    have taa := ta_5a
    have tap := ta_5p
    have tai := ta_5i
    go_enter Try.func166, Try.ntmps166
    go_wp2_with fail
    refine (notation_5 _ _ HJ.out).mono ?_
    rintro e w' ⟨rfl, rfl⟩
    by_cases hn : t.parts.length = 2
    · have n1 : ((t.parts.length : Int) == 2) = true := by rw [beq_iff_eq]; omega
      have HG : Hid (formB t = true) := Lib.hid (by rw [HF.out, HN.out, HZ.out]; simp [hn])
      clear hn
      go_wp2
      go_ret
      exact ⟨ret_bool HG.out.symm, HB0.out⟩
    · have n1 : ((t.parts.length : Int) == 2) = false := by rw [beq_eq_false_iff_ne]; omega
      have HG : Hid (formB t = false) := Lib.hid (by rw [HF.out, HN.out, HZ.out]; simp [hn])
      clear hn
      go_wp2
      go_ret
      exact ⟨ret_bool HG.out.symm, HB0.out⟩
  · obtain ⟨u1, u2⟩ := str_some hz
    have HZ : Hid (decide (t.var.size = 0) = false) := Lib.hid (by simp [hz])
    clear hz
    have HG : Hid (formB t = false) := Lib.hid (by rw [HF.out, HZ.out]; simp)
    have taw := ta_5w
    have taa := ta_5a
    have tap := ta_5p
    have tai := ta_5i
    go_enter Try.func166, Try.ntmps166
    go_wp2_with fail
    refine (notation_5 _ _ HJ.out).mono ?_
    rintro e w' ⟨rfl, rfl⟩
    go_wp2
    go_ret
    exact ⟨ret_bool HG.out.symm, HB0.out⟩

set_option maxRecDepth 100000 in
set_option maxHeartbeats 2000000 in
theorem hasForm_5A1 (t : Fm) (w : World) (va vp : Value) (hv : FmV w va vp t) (hw : t.wt ≤ 1048576) (hj : t.op = 5) (hA : t.atom.name.size = 0) (hB : ¬ t.atom.args.length = 0) :
    Calls Try.prog 166 #[.agg #[.int .i64 t.op, .string t.atom.name, va, .string t.var, vp]] w (Ans (.bool (formB t)) w) := by
  obtain ⟨pa, ca, pp, cp, rfl, rfl⟩ := hv.open
  have HV := Lib.hid hv
  have H2 := Lib.hid (fivB_new w (.int .i64 t.op) (.string t.atom.name) (.slice pa t.atom.args.length ca) (.string t.var) (.slice pp t.parts.length cp) 68 _ rfl)
  have HB0 := Lib.hid ((Below.refl w.heap.size w).alloc (Nat.le_refl _) (.cells #[.int .i64 t.op, .string t.atom.name, .slice pa t.atom.args.length ca, .string t.var, .slice pp t.parts.length cp] 68))
  obtain ⟨b0, b1, b2, b3, b4, b5⟩ := H2.out
  have hlen := Nat.le_trans t.wt_len hw
  have hvs : t.var.size ≤ maxLen := by have := t.wt_var; unfold maxLen; omega
  have CV := Lib.hid (fun W => isVar_any t.var W hvs)
  have CA : Hid (∀ W, Below w.heap.size w W → Calls Try.prog 108 #[.agg #[.string t.atom.name, .slice pa t.atom.args.length ca]] W (Ans (.bool (atomB t.atom)) W)) := Lib.hid (fun W hW => validAtom_any t.atom W _ (HV.out.1.kept hW) (Nat.le_trans t.wt_atom hw))
  clear hv hvs
  obtain ⟨s1, s2⟩ := str_none hA
  have HN := Lib.hid (noneB_no2 hB)
  have n0 : ((t.atom.args.length : Int) == 0) = false := by rw [beq_eq_false_iff_ne]; omega
  clear hA hB
  have HJ := Lib.hid hj
  have HF := Lib.hid (formB_5 hj)
  clear hj
  by_cases hz : t.var.size = 0
  · obtain ⟨u1, u2⟩ := str_none hz
    have HZ : Hid (decide (t.var.size = 0) = true) := Lib.hid (by simp [hz])
    clear hz
    have HG : Hid (formB t = false) := Lib.hid (by rw [HF.out, HN.out]; simp)
    have taw := ta_5w
    have taa := ta_5a
    have tap := ta_5p
    have tai := ta_5i
    go_enter Try.func166, Try.ntmps166
    go_wp2_with fail
    refine (notation_5 _ _ HJ.out).mono ?_
    rintro e w' ⟨rfl, rfl⟩
    go_wp2
    go_ret
    exact ⟨ret_bool HG.out.symm, HB0.out⟩
  · obtain ⟨u1, u2⟩ := str_some hz
    have HZ : Hid (decide (t.var.size = 0) = false) := Lib.hid (by simp [hz])
    clear hz
    have HG : Hid (formB t = false) := Lib.hid (by rw [HF.out, HN.out]; simp)
    have taw := ta_5w
    have taa := ta_5a
    have tap := ta_5p
    have tai := ta_5i
    go_enter Try.func166, Try.ntmps166
    go_wp2_with fail
    refine (notation_5 _ _ HJ.out).mono ?_
    rintro e w' ⟨rfl, rfl⟩
    go_wp2
    go_ret
    exact ⟨ret_bool HG.out.symm, HB0.out⟩

set_option maxRecDepth 100000 in
set_option maxHeartbeats 2000000 in
theorem hasForm_5A2 (t : Fm) (w : World) (va vp : Value) (hv : FmV w va vp t) (hw : t.wt ≤ 1048576) (hj : t.op = 5) (hA : ¬ t.atom.name.size = 0) :
    Calls Try.prog 166 #[.agg #[.int .i64 t.op, .string t.atom.name, va, .string t.var, vp]] w (Ans (.bool (formB t)) w) := by
  obtain ⟨pa, ca, pp, cp, rfl, rfl⟩ := hv.open
  have HV := Lib.hid hv
  have H2 := Lib.hid (fivB_new w (.int .i64 t.op) (.string t.atom.name) (.slice pa t.atom.args.length ca) (.string t.var) (.slice pp t.parts.length cp) 68 _ rfl)
  have HB0 := Lib.hid ((Below.refl w.heap.size w).alloc (Nat.le_refl _) (.cells #[.int .i64 t.op, .string t.atom.name, .slice pa t.atom.args.length ca, .string t.var, .slice pp t.parts.length cp] 68))
  obtain ⟨b0, b1, b2, b3, b4, b5⟩ := H2.out
  have hlen := Nat.le_trans t.wt_len hw
  have hvs : t.var.size ≤ maxLen := by have := t.wt_var; unfold maxLen; omega
  have CV := Lib.hid (fun W => isVar_any t.var W hvs)
  have CA : Hid (∀ W, Below w.heap.size w W → Calls Try.prog 108 #[.agg #[.string t.atom.name, .slice pa t.atom.args.length ca]] W (Ans (.bool (atomB t.atom)) W)) := Lib.hid (fun W hW => validAtom_any t.atom W _ (HV.out.1.kept hW) (Nat.le_trans t.wt_atom hw))
  clear hv hvs
  obtain ⟨s1, s2⟩ := str_some hA
  have HN := Lib.hid (noneB_no1 hA)
  clear hA
  have HJ := Lib.hid hj
  have HF := Lib.hid (formB_5 hj)
  clear hj
  by_cases hz : t.var.size = 0
  · obtain ⟨u1, u2⟩ := str_none hz
    have HZ : Hid (decide (t.var.size = 0) = true) := Lib.hid (by simp [hz])
    clear hz
    have HG : Hid (formB t = false) := Lib.hid (by rw [HF.out, HN.out]; simp)
    have taw := ta_5w
    have taa := ta_5a
    have tap := ta_5p
    have tai := ta_5i
    go_enter Try.func166, Try.ntmps166
    go_wp2_with fail
    refine (notation_5 _ _ HJ.out).mono ?_
    rintro e w' ⟨rfl, rfl⟩
    go_wp2
    go_ret
    exact ⟨ret_bool HG.out.symm, HB0.out⟩
  · obtain ⟨u1, u2⟩ := str_some hz
    have HZ : Hid (decide (t.var.size = 0) = false) := Lib.hid (by simp [hz])
    clear hz
    have HG : Hid (formB t = false) := Lib.hid (by rw [HF.out, HN.out]; simp)
    have taw := ta_5w
    have taa := ta_5a
    have tap := ta_5p
    have tai := ta_5i
    go_enter Try.func166, Try.ntmps166
    go_wp2_with fail
    refine (notation_5 _ _ HJ.out).mono ?_
    rintro e w' ⟨rfl, rfl⟩
    go_wp2
    go_ret
    exact ⟨ret_bool HG.out.symm, HB0.out⟩

set_option maxRecDepth 100000 in
set_option maxHeartbeats 2000000 in
theorem hasForm_6A0 (t : Fm) (w : World) (va vp : Value) (hv : FmV w va vp t) (hw : t.wt ≤ 1048576) (hj : t.op = 6) (hA : t.atom.name.size = 0) (hB : t.atom.args.length = 0) :
    Calls Try.prog 166 #[.agg #[.int .i64 t.op, .string t.atom.name, va, .string t.var, vp]] w (Ans (.bool (formB t)) w) := by
  obtain ⟨pa, ca, pp, cp, rfl, rfl⟩ := hv.open
  have HV := Lib.hid hv
  have H2 := Lib.hid (fivB_new w (.int .i64 t.op) (.string t.atom.name) (.slice pa t.atom.args.length ca) (.string t.var) (.slice pp t.parts.length cp) 68 _ rfl)
  have HB0 := Lib.hid ((Below.refl w.heap.size w).alloc (Nat.le_refl _) (.cells #[.int .i64 t.op, .string t.atom.name, .slice pa t.atom.args.length ca, .string t.var, .slice pp t.parts.length cp] 68))
  obtain ⟨b0, b1, b2, b3, b4, b5⟩ := H2.out
  have hlen := Nat.le_trans t.wt_len hw
  have hvs : t.var.size ≤ maxLen := by have := t.wt_var; unfold maxLen; omega
  have CV := Lib.hid (fun W => isVar_any t.var W hvs)
  have CA : Hid (∀ W, Below w.heap.size w W → Calls Try.prog 108 #[.agg #[.string t.atom.name, .slice pa t.atom.args.length ca]] W (Ans (.bool (atomB t.atom)) W)) := Lib.hid (fun W hW => validAtom_any t.atom W _ (HV.out.1.kept hW) (Nat.le_trans t.wt_atom hw))
  clear hv hvs
  obtain ⟨s1, s2⟩ := str_none hA
  have HN := Lib.hid (noneB_yes hA hB)
  have n0 : ((t.atom.args.length : Int) == 0) = true := by rw [beq_iff_eq]; omega
  clear hA hB
  have HJ := Lib.hid hj
  have HF := Lib.hid (formB_6 hj)
  clear hj
  by_cases hz : t.var.size = 0
  · obtain ⟨u1, u2⟩ := str_none hz
    have HZ : Hid (decide (t.var.size = 0) = true) := Lib.hid (by simp [hz])
    clear hz
    have taw := ta_6w
    have taa := ta_6a
    have tap := ta_6p
    have tai := ta_6i
    go_enter Try.func166, Try.ntmps166
    go_wp2_with fail
    refine (notation_6 _ _ HJ.out).mono ?_
    rintro e w' ⟨rfl, rfl⟩
    by_cases hn : t.parts.length = 2
    · have n1 : ((t.parts.length : Int) == 2) = true := by rw [beq_iff_eq]; omega
      have HG : Hid (formB t = true) := Lib.hid (by rw [HF.out, HN.out, HZ.out]; simp [hn])
      clear hn
      go_wp2
      go_ret
      exact ⟨ret_bool HG.out.symm, HB0.out⟩
    · have n1 : ((t.parts.length : Int) == 2) = false := by rw [beq_eq_false_iff_ne]; omega
      have HG : Hid (formB t = false) := Lib.hid (by rw [HF.out, HN.out, HZ.out]; simp [hn])
      clear hn
      go_wp2
      go_ret
      exact ⟨ret_bool HG.out.symm, HB0.out⟩
  · obtain ⟨u1, u2⟩ := str_some hz
    have HZ : Hid (decide (t.var.size = 0) = false) := Lib.hid (by simp [hz])
    clear hz
    have HG : Hid (formB t = false) := Lib.hid (by rw [HF.out, HZ.out]; simp)
    have taw := ta_6w
    have taa := ta_6a
    have tap := ta_6p
    have tai := ta_6i
    go_enter Try.func166, Try.ntmps166
    go_wp2_with fail
    refine (notation_6 _ _ HJ.out).mono ?_
    rintro e w' ⟨rfl, rfl⟩
    go_wp2
    go_ret
    exact ⟨ret_bool HG.out.symm, HB0.out⟩

set_option maxRecDepth 100000 in
set_option maxHeartbeats 2000000 in
theorem hasForm_6A1 (t : Fm) (w : World) (va vp : Value) (hv : FmV w va vp t) (hw : t.wt ≤ 1048576) (hj : t.op = 6) (hA : t.atom.name.size = 0) (hB : ¬ t.atom.args.length = 0) :
    Calls Try.prog 166 #[.agg #[.int .i64 t.op, .string t.atom.name, va, .string t.var, vp]] w (Ans (.bool (formB t)) w) := by
  obtain ⟨pa, ca, pp, cp, rfl, rfl⟩ := hv.open
  have HV := Lib.hid hv
  have H2 := Lib.hid (fivB_new w (.int .i64 t.op) (.string t.atom.name) (.slice pa t.atom.args.length ca) (.string t.var) (.slice pp t.parts.length cp) 68 _ rfl)
  have HB0 := Lib.hid ((Below.refl w.heap.size w).alloc (Nat.le_refl _) (.cells #[.int .i64 t.op, .string t.atom.name, .slice pa t.atom.args.length ca, .string t.var, .slice pp t.parts.length cp] 68))
  obtain ⟨b0, b1, b2, b3, b4, b5⟩ := H2.out
  have hlen := Nat.le_trans t.wt_len hw
  have hvs : t.var.size ≤ maxLen := by have := t.wt_var; unfold maxLen; omega
  have CV := Lib.hid (fun W => isVar_any t.var W hvs)
  have CA : Hid (∀ W, Below w.heap.size w W → Calls Try.prog 108 #[.agg #[.string t.atom.name, .slice pa t.atom.args.length ca]] W (Ans (.bool (atomB t.atom)) W)) := Lib.hid (fun W hW => validAtom_any t.atom W _ (HV.out.1.kept hW) (Nat.le_trans t.wt_atom hw))
  clear hv hvs
  obtain ⟨s1, s2⟩ := str_none hA
  have HN := Lib.hid (noneB_no2 hB)
  have n0 : ((t.atom.args.length : Int) == 0) = false := by rw [beq_eq_false_iff_ne]; omega
  clear hA hB
  have HJ := Lib.hid hj
  have HF := Lib.hid (formB_6 hj)
  clear hj
  by_cases hz : t.var.size = 0
  · obtain ⟨u1, u2⟩ := str_none hz
    have HZ : Hid (decide (t.var.size = 0) = true) := Lib.hid (by simp [hz])
    clear hz
    have HG : Hid (formB t = false) := Lib.hid (by rw [HF.out, HN.out]; simp)
    have taw := ta_6w
    have taa := ta_6a
    have tap := ta_6p
    have tai := ta_6i
    go_enter Try.func166, Try.ntmps166
    go_wp2_with fail
    refine (notation_6 _ _ HJ.out).mono ?_
    rintro e w' ⟨rfl, rfl⟩
    go_wp2
    go_ret
    exact ⟨ret_bool HG.out.symm, HB0.out⟩
  · obtain ⟨u1, u2⟩ := str_some hz
    have HZ : Hid (decide (t.var.size = 0) = false) := Lib.hid (by simp [hz])
    clear hz
    have HG : Hid (formB t = false) := Lib.hid (by rw [HF.out, HN.out]; simp)
    have taw := ta_6w
    have taa := ta_6a
    have tap := ta_6p
    have tai := ta_6i
    go_enter Try.func166, Try.ntmps166
    go_wp2_with fail
    refine (notation_6 _ _ HJ.out).mono ?_
    rintro e w' ⟨rfl, rfl⟩
    go_wp2
    go_ret
    exact ⟨ret_bool HG.out.symm, HB0.out⟩

set_option maxRecDepth 100000 in
set_option maxHeartbeats 2000000 in
theorem hasForm_6A2 (t : Fm) (w : World) (va vp : Value) (hv : FmV w va vp t) (hw : t.wt ≤ 1048576) (hj : t.op = 6) (hA : ¬ t.atom.name.size = 0) :
    Calls Try.prog 166 #[.agg #[.int .i64 t.op, .string t.atom.name, va, .string t.var, vp]] w (Ans (.bool (formB t)) w) := by
  obtain ⟨pa, ca, pp, cp, rfl, rfl⟩ := hv.open
  have HV := Lib.hid hv
  have H2 := Lib.hid (fivB_new w (.int .i64 t.op) (.string t.atom.name) (.slice pa t.atom.args.length ca) (.string t.var) (.slice pp t.parts.length cp) 68 _ rfl)
  have HB0 := Lib.hid ((Below.refl w.heap.size w).alloc (Nat.le_refl _) (.cells #[.int .i64 t.op, .string t.atom.name, .slice pa t.atom.args.length ca, .string t.var, .slice pp t.parts.length cp] 68))
  obtain ⟨b0, b1, b2, b3, b4, b5⟩ := H2.out
  have hlen := Nat.le_trans t.wt_len hw
  have hvs : t.var.size ≤ maxLen := by have := t.wt_var; unfold maxLen; omega
  have CV := Lib.hid (fun W => isVar_any t.var W hvs)
  have CA : Hid (∀ W, Below w.heap.size w W → Calls Try.prog 108 #[.agg #[.string t.atom.name, .slice pa t.atom.args.length ca]] W (Ans (.bool (atomB t.atom)) W)) := Lib.hid (fun W hW => validAtom_any t.atom W _ (HV.out.1.kept hW) (Nat.le_trans t.wt_atom hw))
  clear hv hvs
  obtain ⟨s1, s2⟩ := str_some hA
  have HN := Lib.hid (noneB_no1 hA)
  clear hA
  have HJ := Lib.hid hj
  have HF := Lib.hid (formB_6 hj)
  clear hj
  by_cases hz : t.var.size = 0
  · obtain ⟨u1, u2⟩ := str_none hz
    have HZ : Hid (decide (t.var.size = 0) = true) := Lib.hid (by simp [hz])
    clear hz
    have HG : Hid (formB t = false) := Lib.hid (by rw [HF.out, HN.out]; simp)
    have taw := ta_6w
    have taa := ta_6a
    have tap := ta_6p
    have tai := ta_6i
    go_enter Try.func166, Try.ntmps166
    go_wp2_with fail
    refine (notation_6 _ _ HJ.out).mono ?_
    rintro e w' ⟨rfl, rfl⟩
    go_wp2
    go_ret
    exact ⟨ret_bool HG.out.symm, HB0.out⟩
  · obtain ⟨u1, u2⟩ := str_some hz
    have HZ : Hid (decide (t.var.size = 0) = false) := Lib.hid (by simp [hz])
    clear hz
    have HG : Hid (formB t = false) := Lib.hid (by rw [HF.out, HN.out]; simp)
    have taw := ta_6w
    have taa := ta_6a
    have tap := ta_6p
    have tai := ta_6i
    go_enter Try.func166, Try.ntmps166
    go_wp2_with fail
    refine (notation_6 _ _ HJ.out).mono ?_
    rintro e w' ⟨rfl, rfl⟩
    go_wp2
    go_ret
    exact ⟨ret_bool HG.out.symm, HB0.out⟩

set_option maxRecDepth 100000 in
set_option maxHeartbeats 2000000 in
theorem hasForm_7A0 (t : Fm) (w : World) (va vp : Value) (hv : FmV w va vp t) (hw : t.wt ≤ 1048576) (hj : t.op = 7) (hA : t.atom.name.size = 0) (hB : t.atom.args.length = 0) :
    Calls Try.prog 166 #[.agg #[.int .i64 t.op, .string t.atom.name, va, .string t.var, vp]] w (Ans (.bool (formB t)) w) := by
  obtain ⟨pa, ca, pp, cp, rfl, rfl⟩ := hv.open
  have HV := Lib.hid hv
  have H2 := Lib.hid (fivB_new w (.int .i64 t.op) (.string t.atom.name) (.slice pa t.atom.args.length ca) (.string t.var) (.slice pp t.parts.length cp) 68 _ rfl)
  have HB0 := Lib.hid ((Below.refl w.heap.size w).alloc (Nat.le_refl _) (.cells #[.int .i64 t.op, .string t.atom.name, .slice pa t.atom.args.length ca, .string t.var, .slice pp t.parts.length cp] 68))
  obtain ⟨b0, b1, b2, b3, b4, b5⟩ := H2.out
  have hlen := Nat.le_trans t.wt_len hw
  have hvs : t.var.size ≤ maxLen := by have := t.wt_var; unfold maxLen; omega
  have CV := Lib.hid (fun W => isVar_any t.var W hvs)
  have CA : Hid (∀ W, Below w.heap.size w W → Calls Try.prog 108 #[.agg #[.string t.atom.name, .slice pa t.atom.args.length ca]] W (Ans (.bool (atomB t.atom)) W)) := Lib.hid (fun W hW => validAtom_any t.atom W _ (HV.out.1.kept hW) (Nat.le_trans t.wt_atom hw))
  clear hv hvs
  obtain ⟨s1, s2⟩ := str_none hA
  have HN := Lib.hid (noneB_yes hA hB)
  have n0 : ((t.atom.args.length : Int) == 0) = true := by rw [beq_iff_eq]; omega
  clear hA hB
  have HJ := Lib.hid hj
  have HF := Lib.hid (formB_7 hj)
  clear hj
  by_cases hz : t.var.size = 0
  · obtain ⟨u1, u2⟩ := str_none hz
    have HZ : Hid (decide (t.var.size = 0) = true) := Lib.hid (by simp [hz])
    clear hz
    have taw := ta_7w
    have taa := ta_7a
    have tap := ta_7p
    have tai := ta_7i
    go_enter Try.func166, Try.ntmps166
    go_wp2_with fail
    refine (notation_7 _ _ HJ.out).mono ?_
    rintro e w' ⟨rfl, rfl⟩
    by_cases hn : t.parts.length = 2
    · have n1 : ((t.parts.length : Int) == 2) = true := by rw [beq_iff_eq]; omega
      have HG : Hid (formB t = true) := Lib.hid (by rw [HF.out, HN.out, HZ.out]; simp [hn])
      clear hn
      go_wp2
      go_ret
      exact ⟨ret_bool HG.out.symm, HB0.out⟩
    · have n1 : ((t.parts.length : Int) == 2) = false := by rw [beq_eq_false_iff_ne]; omega
      have HG : Hid (formB t = false) := Lib.hid (by rw [HF.out, HN.out, HZ.out]; simp [hn])
      clear hn
      go_wp2
      go_ret
      exact ⟨ret_bool HG.out.symm, HB0.out⟩
  · obtain ⟨u1, u2⟩ := str_some hz
    have HZ : Hid (decide (t.var.size = 0) = false) := Lib.hid (by simp [hz])
    clear hz
    have HG : Hid (formB t = false) := Lib.hid (by rw [HF.out, HZ.out]; simp)
    have taw := ta_7w
    have taa := ta_7a
    have tap := ta_7p
    have tai := ta_7i
    go_enter Try.func166, Try.ntmps166
    go_wp2_with fail
    refine (notation_7 _ _ HJ.out).mono ?_
    rintro e w' ⟨rfl, rfl⟩
    go_wp2
    go_ret
    exact ⟨ret_bool HG.out.symm, HB0.out⟩

set_option maxRecDepth 100000 in
set_option maxHeartbeats 2000000 in
theorem hasForm_7A1 (t : Fm) (w : World) (va vp : Value) (hv : FmV w va vp t) (hw : t.wt ≤ 1048576) (hj : t.op = 7) (hA : t.atom.name.size = 0) (hB : ¬ t.atom.args.length = 0) :
    Calls Try.prog 166 #[.agg #[.int .i64 t.op, .string t.atom.name, va, .string t.var, vp]] w (Ans (.bool (formB t)) w) := by
  obtain ⟨pa, ca, pp, cp, rfl, rfl⟩ := hv.open
  have HV := Lib.hid hv
  have H2 := Lib.hid (fivB_new w (.int .i64 t.op) (.string t.atom.name) (.slice pa t.atom.args.length ca) (.string t.var) (.slice pp t.parts.length cp) 68 _ rfl)
  have HB0 := Lib.hid ((Below.refl w.heap.size w).alloc (Nat.le_refl _) (.cells #[.int .i64 t.op, .string t.atom.name, .slice pa t.atom.args.length ca, .string t.var, .slice pp t.parts.length cp] 68))
  obtain ⟨b0, b1, b2, b3, b4, b5⟩ := H2.out
  have hlen := Nat.le_trans t.wt_len hw
  have hvs : t.var.size ≤ maxLen := by have := t.wt_var; unfold maxLen; omega
  have CV := Lib.hid (fun W => isVar_any t.var W hvs)
  have CA : Hid (∀ W, Below w.heap.size w W → Calls Try.prog 108 #[.agg #[.string t.atom.name, .slice pa t.atom.args.length ca]] W (Ans (.bool (atomB t.atom)) W)) := Lib.hid (fun W hW => validAtom_any t.atom W _ (HV.out.1.kept hW) (Nat.le_trans t.wt_atom hw))
  clear hv hvs
  obtain ⟨s1, s2⟩ := str_none hA
  have HN := Lib.hid (noneB_no2 hB)
  have n0 : ((t.atom.args.length : Int) == 0) = false := by rw [beq_eq_false_iff_ne]; omega
  clear hA hB
  have HJ := Lib.hid hj
  have HF := Lib.hid (formB_7 hj)
  clear hj
  by_cases hz : t.var.size = 0
  · obtain ⟨u1, u2⟩ := str_none hz
    have HZ : Hid (decide (t.var.size = 0) = true) := Lib.hid (by simp [hz])
    clear hz
    have HG : Hid (formB t = false) := Lib.hid (by rw [HF.out, HN.out]; simp)
    have taw := ta_7w
    have taa := ta_7a
    have tap := ta_7p
    have tai := ta_7i
    go_enter Try.func166, Try.ntmps166
    go_wp2_with fail
    refine (notation_7 _ _ HJ.out).mono ?_
    rintro e w' ⟨rfl, rfl⟩
    go_wp2
    go_ret
    exact ⟨ret_bool HG.out.symm, HB0.out⟩
  · obtain ⟨u1, u2⟩ := str_some hz
    have HZ : Hid (decide (t.var.size = 0) = false) := Lib.hid (by simp [hz])
    clear hz
    have HG : Hid (formB t = false) := Lib.hid (by rw [HF.out, HN.out]; simp)
    have taw := ta_7w
    have taa := ta_7a
    have tap := ta_7p
    have tai := ta_7i
    go_enter Try.func166, Try.ntmps166
    go_wp2_with fail
    refine (notation_7 _ _ HJ.out).mono ?_
    rintro e w' ⟨rfl, rfl⟩
    go_wp2
    go_ret
    exact ⟨ret_bool HG.out.symm, HB0.out⟩

set_option maxRecDepth 100000 in
set_option maxHeartbeats 2000000 in
theorem hasForm_7A2 (t : Fm) (w : World) (va vp : Value) (hv : FmV w va vp t) (hw : t.wt ≤ 1048576) (hj : t.op = 7) (hA : ¬ t.atom.name.size = 0) :
    Calls Try.prog 166 #[.agg #[.int .i64 t.op, .string t.atom.name, va, .string t.var, vp]] w (Ans (.bool (formB t)) w) := by
  obtain ⟨pa, ca, pp, cp, rfl, rfl⟩ := hv.open
  have HV := Lib.hid hv
  have H2 := Lib.hid (fivB_new w (.int .i64 t.op) (.string t.atom.name) (.slice pa t.atom.args.length ca) (.string t.var) (.slice pp t.parts.length cp) 68 _ rfl)
  have HB0 := Lib.hid ((Below.refl w.heap.size w).alloc (Nat.le_refl _) (.cells #[.int .i64 t.op, .string t.atom.name, .slice pa t.atom.args.length ca, .string t.var, .slice pp t.parts.length cp] 68))
  obtain ⟨b0, b1, b2, b3, b4, b5⟩ := H2.out
  have hlen := Nat.le_trans t.wt_len hw
  have hvs : t.var.size ≤ maxLen := by have := t.wt_var; unfold maxLen; omega
  have CV := Lib.hid (fun W => isVar_any t.var W hvs)
  have CA : Hid (∀ W, Below w.heap.size w W → Calls Try.prog 108 #[.agg #[.string t.atom.name, .slice pa t.atom.args.length ca]] W (Ans (.bool (atomB t.atom)) W)) := Lib.hid (fun W hW => validAtom_any t.atom W _ (HV.out.1.kept hW) (Nat.le_trans t.wt_atom hw))
  clear hv hvs
  obtain ⟨s1, s2⟩ := str_some hA
  have HN := Lib.hid (noneB_no1 hA)
  clear hA
  have HJ := Lib.hid hj
  have HF := Lib.hid (formB_7 hj)
  clear hj
  by_cases hz : t.var.size = 0
  · obtain ⟨u1, u2⟩ := str_none hz
    have HZ : Hid (decide (t.var.size = 0) = true) := Lib.hid (by simp [hz])
    clear hz
    have HG : Hid (formB t = false) := Lib.hid (by rw [HF.out, HN.out]; simp)
    have taw := ta_7w
    have taa := ta_7a
    have tap := ta_7p
    have tai := ta_7i
    go_enter Try.func166, Try.ntmps166
    go_wp2_with fail
    refine (notation_7 _ _ HJ.out).mono ?_
    rintro e w' ⟨rfl, rfl⟩
    go_wp2
    go_ret
    exact ⟨ret_bool HG.out.symm, HB0.out⟩
  · obtain ⟨u1, u2⟩ := str_some hz
    have HZ : Hid (decide (t.var.size = 0) = false) := Lib.hid (by simp [hz])
    clear hz
    have HG : Hid (formB t = false) := Lib.hid (by rw [HF.out, HN.out]; simp)
    have taw := ta_7w
    have taa := ta_7a
    have tap := ta_7p
    have tai := ta_7i
    go_enter Try.func166, Try.ntmps166
    go_wp2_with fail
    refine (notation_7 _ _ HJ.out).mono ?_
    rintro e w' ⟨rfl, rfl⟩
    go_wp2
    go_ret
    exact ⟨ret_bool HG.out.symm, HB0.out⟩

set_option maxRecDepth 100000 in
set_option maxHeartbeats 2000000 in
theorem hasForm_8A0 (t : Fm) (w : World) (va vp : Value) (hv : FmV w va vp t) (hw : t.wt ≤ 1048576) (hj : t.op = 8) (hA : t.atom.name.size = 0) (hB : t.atom.args.length = 0) :
    Calls Try.prog 166 #[.agg #[.int .i64 t.op, .string t.atom.name, va, .string t.var, vp]] w (Ans (.bool (formB t)) w) := by
  obtain ⟨pa, ca, pp, cp, rfl, rfl⟩ := hv.open
  have HV := Lib.hid hv
  have H2 := Lib.hid (fivB_new w (.int .i64 t.op) (.string t.atom.name) (.slice pa t.atom.args.length ca) (.string t.var) (.slice pp t.parts.length cp) 68 _ rfl)
  have HB0 := Lib.hid ((Below.refl w.heap.size w).alloc (Nat.le_refl _) (.cells #[.int .i64 t.op, .string t.atom.name, .slice pa t.atom.args.length ca, .string t.var, .slice pp t.parts.length cp] 68))
  obtain ⟨b0, b1, b2, b3, b4, b5⟩ := H2.out
  have hlen := Nat.le_trans t.wt_len hw
  have hvs : t.var.size ≤ maxLen := by have := t.wt_var; unfold maxLen; omega
  have CV := Lib.hid (fun W => isVar_any t.var W hvs)
  have CA : Hid (∀ W, Below w.heap.size w W → Calls Try.prog 108 #[.agg #[.string t.atom.name, .slice pa t.atom.args.length ca]] W (Ans (.bool (atomB t.atom)) W)) := Lib.hid (fun W hW => validAtom_any t.atom W _ (HV.out.1.kept hW) (Nat.le_trans t.wt_atom hw))
  clear hv hvs
  obtain ⟨s1, s2⟩ := str_none hA
  have HN := Lib.hid (noneB_yes hA hB)
  have n0 : ((t.atom.args.length : Int) == 0) = true := by rw [beq_iff_eq]; omega
  clear hA hB
  have HJ := Lib.hid hj
  have HF := Lib.hid (formB_8 hj)
  clear hj
  by_cases hz : t.var.size = 0
  · obtain ⟨u1, u2⟩ := str_none hz
    have HZ : Hid (decide (t.var.size = 0) = true) := Lib.hid (by simp [hz])
    clear hz
    have taw := ta_8w
    have taa := ta_8a
    have tap := ta_8p
    have tai := ta_8i
    have tab := ta_8b
    go_enter Try.func166, Try.ntmps166
    go_wp2_with fail
    refine (notation_8 _ _ HJ.out).mono ?_
    rintro e w' ⟨rfl, rfl⟩
    go_wp2_with fail
    refine (CV.out _).mono ?_
    rintro e w' ⟨rfl, rfl⟩
    cases ha : varB t.var
    · have HG : Hid (formB t = false) := Lib.hid (by rw [HF.out, ha]; simp)
      clear ha
      go_wp2
      go_ret
      exact ⟨ret_bool HG.out.symm, HB0.out⟩
    · skip
      by_cases hn : t.parts.length = 1
      · have n1 : ((t.parts.length : Int) == 1) = true := by rw [beq_iff_eq]; omega
        have HG : Hid (formB t = true) := Lib.hid (by rw [HF.out, ha, HN.out]; simp [hn])
        clear hn ha
        go_wp2
        go_ret
        exact ⟨ret_bool HG.out.symm, HB0.out⟩
      · have n1 : ((t.parts.length : Int) == 1) = false := by rw [beq_eq_false_iff_ne]; omega
        have HG : Hid (formB t = false) := Lib.hid (by rw [HF.out, ha, HN.out]; simp [hn])
        clear hn ha
        go_wp2
        go_ret
        exact ⟨ret_bool HG.out.symm, HB0.out⟩
  · obtain ⟨u1, u2⟩ := str_some hz
    have HZ : Hid (decide (t.var.size = 0) = false) := Lib.hid (by simp [hz])
    clear hz
    have taw := ta_8w
    have taa := ta_8a
    have tap := ta_8p
    have tai := ta_8i
    have tab := ta_8b
    go_enter Try.func166, Try.ntmps166
    go_wp2_with fail
    refine (notation_8 _ _ HJ.out).mono ?_
    rintro e w' ⟨rfl, rfl⟩
    go_wp2_with fail
    refine (CV.out _).mono ?_
    rintro e w' ⟨rfl, rfl⟩
    cases ha : varB t.var
    · have HG : Hid (formB t = false) := Lib.hid (by rw [HF.out, ha]; simp)
      clear ha
      go_wp2
      go_ret
      exact ⟨ret_bool HG.out.symm, HB0.out⟩
    · skip
      by_cases hn : t.parts.length = 1
      · have n1 : ((t.parts.length : Int) == 1) = true := by rw [beq_iff_eq]; omega
        have HG : Hid (formB t = true) := Lib.hid (by rw [HF.out, ha, HN.out]; simp [hn])
        clear hn ha
        go_wp2
        go_ret
        exact ⟨ret_bool HG.out.symm, HB0.out⟩
      · have n1 : ((t.parts.length : Int) == 1) = false := by rw [beq_eq_false_iff_ne]; omega
        have HG : Hid (formB t = false) := Lib.hid (by rw [HF.out, ha, HN.out]; simp [hn])
        clear hn ha
        go_wp2
        go_ret
        exact ⟨ret_bool HG.out.symm, HB0.out⟩

set_option maxRecDepth 100000 in
set_option maxHeartbeats 2000000 in
theorem hasForm_8A1 (t : Fm) (w : World) (va vp : Value) (hv : FmV w va vp t) (hw : t.wt ≤ 1048576) (hj : t.op = 8) (hA : t.atom.name.size = 0) (hB : ¬ t.atom.args.length = 0) :
    Calls Try.prog 166 #[.agg #[.int .i64 t.op, .string t.atom.name, va, .string t.var, vp]] w (Ans (.bool (formB t)) w) := by
  obtain ⟨pa, ca, pp, cp, rfl, rfl⟩ := hv.open
  have HV := Lib.hid hv
  have H2 := Lib.hid (fivB_new w (.int .i64 t.op) (.string t.atom.name) (.slice pa t.atom.args.length ca) (.string t.var) (.slice pp t.parts.length cp) 68 _ rfl)
  have HB0 := Lib.hid ((Below.refl w.heap.size w).alloc (Nat.le_refl _) (.cells #[.int .i64 t.op, .string t.atom.name, .slice pa t.atom.args.length ca, .string t.var, .slice pp t.parts.length cp] 68))
  obtain ⟨b0, b1, b2, b3, b4, b5⟩ := H2.out
  have hlen := Nat.le_trans t.wt_len hw
  have hvs : t.var.size ≤ maxLen := by have := t.wt_var; unfold maxLen; omega
  have CV := Lib.hid (fun W => isVar_any t.var W hvs)
  have CA : Hid (∀ W, Below w.heap.size w W → Calls Try.prog 108 #[.agg #[.string t.atom.name, .slice pa t.atom.args.length ca]] W (Ans (.bool (atomB t.atom)) W)) := Lib.hid (fun W hW => validAtom_any t.atom W _ (HV.out.1.kept hW) (Nat.le_trans t.wt_atom hw))
  clear hv hvs
  obtain ⟨s1, s2⟩ := str_none hA
  have HN := Lib.hid (noneB_no2 hB)
  have n0 : ((t.atom.args.length : Int) == 0) = false := by rw [beq_eq_false_iff_ne]; omega
  clear hA hB
  have HJ := Lib.hid hj
  have HF := Lib.hid (formB_8 hj)
  clear hj
  by_cases hz : t.var.size = 0
  · obtain ⟨u1, u2⟩ := str_none hz
    have HZ : Hid (decide (t.var.size = 0) = true) := Lib.hid (by simp [hz])
    clear hz
    have taw := ta_8w
    have taa := ta_8a
    have tap := ta_8p
    have tai := ta_8i
    have tab := ta_8b
    go_enter Try.func166, Try.ntmps166
    go_wp2_with fail
    refine (notation_8 _ _ HJ.out).mono ?_
    rintro e w' ⟨rfl, rfl⟩
    go_wp2_with fail
    refine (CV.out _).mono ?_
    rintro e w' ⟨rfl, rfl⟩
    cases ha : varB t.var
    · have HG : Hid (formB t = false) := Lib.hid (by rw [HF.out, ha]; simp)
      clear ha
      go_wp2
      go_ret
      exact ⟨ret_bool HG.out.symm, HB0.out⟩
    · have HG : Hid (formB t = false) := Lib.hid (by rw [HF.out, HN.out]; simp)
      clear ha
      go_wp2
      go_ret
      exact ⟨ret_bool HG.out.symm, HB0.out⟩
  · obtain ⟨u1, u2⟩ := str_some hz
    have HZ : Hid (decide (t.var.size = 0) = false) := Lib.hid (by simp [hz])
    clear hz
    have taw := ta_8w
    have taa := ta_8a
    have tap := ta_8p
    have tai := ta_8i
    have tab := ta_8b
    go_enter Try.func166, Try.ntmps166
    go_wp2_with fail
    refine (notation_8 _ _ HJ.out).mono ?_
    rintro e w' ⟨rfl, rfl⟩
    go_wp2_with fail
    refine (CV.out _).mono ?_
    rintro e w' ⟨rfl, rfl⟩
    cases ha : varB t.var
    · have HG : Hid (formB t = false) := Lib.hid (by rw [HF.out, ha]; simp)
      clear ha
      go_wp2
      go_ret
      exact ⟨ret_bool HG.out.symm, HB0.out⟩
    · have HG : Hid (formB t = false) := Lib.hid (by rw [HF.out, HN.out]; simp)
      clear ha
      go_wp2
      go_ret
      exact ⟨ret_bool HG.out.symm, HB0.out⟩

set_option maxRecDepth 100000 in
set_option maxHeartbeats 2000000 in
theorem hasForm_8A2 (t : Fm) (w : World) (va vp : Value) (hv : FmV w va vp t) (hw : t.wt ≤ 1048576) (hj : t.op = 8) (hA : ¬ t.atom.name.size = 0) :
    Calls Try.prog 166 #[.agg #[.int .i64 t.op, .string t.atom.name, va, .string t.var, vp]] w (Ans (.bool (formB t)) w) := by
  obtain ⟨pa, ca, pp, cp, rfl, rfl⟩ := hv.open
  have HV := Lib.hid hv
  have H2 := Lib.hid (fivB_new w (.int .i64 t.op) (.string t.atom.name) (.slice pa t.atom.args.length ca) (.string t.var) (.slice pp t.parts.length cp) 68 _ rfl)
  have HB0 := Lib.hid ((Below.refl w.heap.size w).alloc (Nat.le_refl _) (.cells #[.int .i64 t.op, .string t.atom.name, .slice pa t.atom.args.length ca, .string t.var, .slice pp t.parts.length cp] 68))
  obtain ⟨b0, b1, b2, b3, b4, b5⟩ := H2.out
  have hlen := Nat.le_trans t.wt_len hw
  have hvs : t.var.size ≤ maxLen := by have := t.wt_var; unfold maxLen; omega
  have CV := Lib.hid (fun W => isVar_any t.var W hvs)
  have CA : Hid (∀ W, Below w.heap.size w W → Calls Try.prog 108 #[.agg #[.string t.atom.name, .slice pa t.atom.args.length ca]] W (Ans (.bool (atomB t.atom)) W)) := Lib.hid (fun W hW => validAtom_any t.atom W _ (HV.out.1.kept hW) (Nat.le_trans t.wt_atom hw))
  clear hv hvs
  obtain ⟨s1, s2⟩ := str_some hA
  have HN := Lib.hid (noneB_no1 hA)
  clear hA
  have HJ := Lib.hid hj
  have HF := Lib.hid (formB_8 hj)
  clear hj
  by_cases hz : t.var.size = 0
  · obtain ⟨u1, u2⟩ := str_none hz
    have HZ : Hid (decide (t.var.size = 0) = true) := Lib.hid (by simp [hz])
    clear hz
    have taw := ta_8w
    have taa := ta_8a
    have tap := ta_8p
    have tai := ta_8i
    have tab := ta_8b
    go_enter Try.func166, Try.ntmps166
    go_wp2_with fail
    refine (notation_8 _ _ HJ.out).mono ?_
    rintro e w' ⟨rfl, rfl⟩
    go_wp2_with fail
    refine (CV.out _).mono ?_
    rintro e w' ⟨rfl, rfl⟩
    cases ha : varB t.var
    · have HG : Hid (formB t = false) := Lib.hid (by rw [HF.out, ha]; simp)
      clear ha
      go_wp2
      go_ret
      exact ⟨ret_bool HG.out.symm, HB0.out⟩
    · have HG : Hid (formB t = false) := Lib.hid (by rw [HF.out, HN.out]; simp)
      clear ha
      go_wp2
      go_ret
      exact ⟨ret_bool HG.out.symm, HB0.out⟩
  · obtain ⟨u1, u2⟩ := str_some hz
    have HZ : Hid (decide (t.var.size = 0) = false) := Lib.hid (by simp [hz])
    clear hz
    have taw := ta_8w
    have taa := ta_8a
    have tap := ta_8p
    have tai := ta_8i
    have tab := ta_8b
    go_enter Try.func166, Try.ntmps166
    go_wp2_with fail
    refine (notation_8 _ _ HJ.out).mono ?_
    rintro e w' ⟨rfl, rfl⟩
    go_wp2_with fail
    refine (CV.out _).mono ?_
    rintro e w' ⟨rfl, rfl⟩
    cases ha : varB t.var
    · have HG : Hid (formB t = false) := Lib.hid (by rw [HF.out, ha]; simp)
      clear ha
      go_wp2
      go_ret
      exact ⟨ret_bool HG.out.symm, HB0.out⟩
    · have HG : Hid (formB t = false) := Lib.hid (by rw [HF.out, HN.out]; simp)
      clear ha
      go_wp2
      go_ret
      exact ⟨ret_bool HG.out.symm, HB0.out⟩

set_option maxRecDepth 100000 in
set_option maxHeartbeats 2000000 in
theorem hasForm_9A0 (t : Fm) (w : World) (va vp : Value) (hv : FmV w va vp t) (hw : t.wt ≤ 1048576) (hj : t.op = 9) (hA : t.atom.name.size = 0) (hB : t.atom.args.length = 0) :
    Calls Try.prog 166 #[.agg #[.int .i64 t.op, .string t.atom.name, va, .string t.var, vp]] w (Ans (.bool (formB t)) w) := by
  obtain ⟨pa, ca, pp, cp, rfl, rfl⟩ := hv.open
  have HV := Lib.hid hv
  have H2 := Lib.hid (fivB_new w (.int .i64 t.op) (.string t.atom.name) (.slice pa t.atom.args.length ca) (.string t.var) (.slice pp t.parts.length cp) 68 _ rfl)
  have HB0 := Lib.hid ((Below.refl w.heap.size w).alloc (Nat.le_refl _) (.cells #[.int .i64 t.op, .string t.atom.name, .slice pa t.atom.args.length ca, .string t.var, .slice pp t.parts.length cp] 68))
  obtain ⟨b0, b1, b2, b3, b4, b5⟩ := H2.out
  have hlen := Nat.le_trans t.wt_len hw
  have hvs : t.var.size ≤ maxLen := by have := t.wt_var; unfold maxLen; omega
  have CV := Lib.hid (fun W => isVar_any t.var W hvs)
  have CA : Hid (∀ W, Below w.heap.size w W → Calls Try.prog 108 #[.agg #[.string t.atom.name, .slice pa t.atom.args.length ca]] W (Ans (.bool (atomB t.atom)) W)) := Lib.hid (fun W hW => validAtom_any t.atom W _ (HV.out.1.kept hW) (Nat.le_trans t.wt_atom hw))
  clear hv hvs
  obtain ⟨s1, s2⟩ := str_none hA
  have HN := Lib.hid (noneB_yes hA hB)
  have n0 : ((t.atom.args.length : Int) == 0) = true := by rw [beq_iff_eq]; omega
  clear hA hB
  have HJ := Lib.hid hj
  have HF := Lib.hid (formB_9 hj)
  clear hj
  by_cases hz : t.var.size = 0
  · obtain ⟨u1, u2⟩ := str_none hz
    have HZ : Hid (decide (t.var.size = 0) = true) := Lib.hid (by simp [hz])
    clear hz
    have taw := ta_9w
    have taa := ta_9a
    have tap := ta_9p
    have tai := ta_9i
    have tab := ta_9b
    go_enter Try.func166, Try.ntmps166
    go_wp2_with fail
    refine (notation_9 _ _ HJ.out).mono ?_
    rintro e w' ⟨rfl, rfl⟩
    go_wp2_with fail
    refine (CV.out _).mono ?_
    rintro e w' ⟨rfl, rfl⟩
    cases ha : varB t.var
    · have HG : Hid (formB t = false) := Lib.hid (by rw [HF.out, ha]; simp)
      clear ha
      go_wp2
      go_ret
      exact ⟨ret_bool HG.out.symm, HB0.out⟩
    · skip
      by_cases hn : t.parts.length = 1
      · have n1 : ((t.parts.length : Int) == 1) = true := by rw [beq_iff_eq]; omega
        have HG : Hid (formB t = true) := Lib.hid (by rw [HF.out, ha, HN.out]; simp [hn])
        clear hn ha
        go_wp2
        go_ret
        exact ⟨ret_bool HG.out.symm, HB0.out⟩
      · have n1 : ((t.parts.length : Int) == 1) = false := by rw [beq_eq_false_iff_ne]; omega
        have HG : Hid (formB t = false) := Lib.hid (by rw [HF.out, ha, HN.out]; simp [hn])
        clear hn ha
        go_wp2
        go_ret
        exact ⟨ret_bool HG.out.symm, HB0.out⟩
  · obtain ⟨u1, u2⟩ := str_some hz
    have HZ : Hid (decide (t.var.size = 0) = false) := Lib.hid (by simp [hz])
    clear hz
    have taw := ta_9w
    have taa := ta_9a
    have tap := ta_9p
    have tai := ta_9i
    have tab := ta_9b
    go_enter Try.func166, Try.ntmps166
    go_wp2_with fail
    refine (notation_9 _ _ HJ.out).mono ?_
    rintro e w' ⟨rfl, rfl⟩
    go_wp2_with fail
    refine (CV.out _).mono ?_
    rintro e w' ⟨rfl, rfl⟩
    cases ha : varB t.var
    · have HG : Hid (formB t = false) := Lib.hid (by rw [HF.out, ha]; simp)
      clear ha
      go_wp2
      go_ret
      exact ⟨ret_bool HG.out.symm, HB0.out⟩
    · skip
      by_cases hn : t.parts.length = 1
      · have n1 : ((t.parts.length : Int) == 1) = true := by rw [beq_iff_eq]; omega
        have HG : Hid (formB t = true) := Lib.hid (by rw [HF.out, ha, HN.out]; simp [hn])
        clear hn ha
        go_wp2
        go_ret
        exact ⟨ret_bool HG.out.symm, HB0.out⟩
      · have n1 : ((t.parts.length : Int) == 1) = false := by rw [beq_eq_false_iff_ne]; omega
        have HG : Hid (formB t = false) := Lib.hid (by rw [HF.out, ha, HN.out]; simp [hn])
        clear hn ha
        go_wp2
        go_ret
        exact ⟨ret_bool HG.out.symm, HB0.out⟩

set_option maxRecDepth 100000 in
set_option maxHeartbeats 2000000 in
theorem hasForm_9A1 (t : Fm) (w : World) (va vp : Value) (hv : FmV w va vp t) (hw : t.wt ≤ 1048576) (hj : t.op = 9) (hA : t.atom.name.size = 0) (hB : ¬ t.atom.args.length = 0) :
    Calls Try.prog 166 #[.agg #[.int .i64 t.op, .string t.atom.name, va, .string t.var, vp]] w (Ans (.bool (formB t)) w) := by
  obtain ⟨pa, ca, pp, cp, rfl, rfl⟩ := hv.open
  have HV := Lib.hid hv
  have H2 := Lib.hid (fivB_new w (.int .i64 t.op) (.string t.atom.name) (.slice pa t.atom.args.length ca) (.string t.var) (.slice pp t.parts.length cp) 68 _ rfl)
  have HB0 := Lib.hid ((Below.refl w.heap.size w).alloc (Nat.le_refl _) (.cells #[.int .i64 t.op, .string t.atom.name, .slice pa t.atom.args.length ca, .string t.var, .slice pp t.parts.length cp] 68))
  obtain ⟨b0, b1, b2, b3, b4, b5⟩ := H2.out
  have hlen := Nat.le_trans t.wt_len hw
  have hvs : t.var.size ≤ maxLen := by have := t.wt_var; unfold maxLen; omega
  have CV := Lib.hid (fun W => isVar_any t.var W hvs)
  have CA : Hid (∀ W, Below w.heap.size w W → Calls Try.prog 108 #[.agg #[.string t.atom.name, .slice pa t.atom.args.length ca]] W (Ans (.bool (atomB t.atom)) W)) := Lib.hid (fun W hW => validAtom_any t.atom W _ (HV.out.1.kept hW) (Nat.le_trans t.wt_atom hw))
  clear hv hvs
  obtain ⟨s1, s2⟩ := str_none hA
  have HN := Lib.hid (noneB_no2 hB)
  have n0 : ((t.atom.args.length : Int) == 0) = false := by rw [beq_eq_false_iff_ne]; omega
  clear hA hB
  have HJ := Lib.hid hj
  have HF := Lib.hid (formB_9 hj)
  clear hj
  by_cases hz : t.var.size = 0
  · obtain ⟨u1, u2⟩ := str_none hz
    have HZ : Hid (decide (t.var.size = 0) = true) := Lib.hid (by simp [hz])
    clear hz
    have taw := ta_9w
    have taa := ta_9a
    have tap := ta_9p
    have tai := ta_9i
    have tab := ta_9b
    go_enter Try.func166, Try.ntmps166
    go_wp2_with fail
    refine (notation_9 _ _ HJ.out).mono ?_
    rintro e w' ⟨rfl, rfl⟩
    go_wp2_with fail
    refine (CV.out _).mono ?_
    rintro e w' ⟨rfl, rfl⟩
    cases ha : varB t.var
    · have HG : Hid (formB t = false) := Lib.hid (by rw [HF.out, ha]; simp)
      clear ha
      go_wp2
      go_ret
      exact ⟨ret_bool HG.out.symm, HB0.out⟩
    · have HG : Hid (formB t = false) := Lib.hid (by rw [HF.out, HN.out]; simp)
      clear ha
      go_wp2
      go_ret
      exact ⟨ret_bool HG.out.symm, HB0.out⟩
  · obtain ⟨u1, u2⟩ := str_some hz
    have HZ : Hid (decide (t.var.size = 0) = false) := Lib.hid (by simp [hz])
    clear hz
    have taw := ta_9w
    have taa := ta_9a
    have tap := ta_9p
    have tai := ta_9i
    have tab := ta_9b
    go_enter Try.func166, Try.ntmps166
    go_wp2_with fail
    refine (notation_9 _ _ HJ.out).mono ?_
    rintro e w' ⟨rfl, rfl⟩
    go_wp2_with fail
    refine (CV.out _).mono ?_
    rintro e w' ⟨rfl, rfl⟩
    cases ha : varB t.var
    · have HG : Hid (formB t = false) := Lib.hid (by rw [HF.out, ha]; simp)
      clear ha
      go_wp2
      go_ret
      exact ⟨ret_bool HG.out.symm, HB0.out⟩
    · have HG : Hid (formB t = false) := Lib.hid (by rw [HF.out, HN.out]; simp)
      clear ha
      go_wp2
      go_ret
      exact ⟨ret_bool HG.out.symm, HB0.out⟩

set_option maxRecDepth 100000 in
set_option maxHeartbeats 2000000 in
theorem hasForm_9A2 (t : Fm) (w : World) (va vp : Value) (hv : FmV w va vp t) (hw : t.wt ≤ 1048576) (hj : t.op = 9) (hA : ¬ t.atom.name.size = 0) :
    Calls Try.prog 166 #[.agg #[.int .i64 t.op, .string t.atom.name, va, .string t.var, vp]] w (Ans (.bool (formB t)) w) := by
  obtain ⟨pa, ca, pp, cp, rfl, rfl⟩ := hv.open
  have HV := Lib.hid hv
  have H2 := Lib.hid (fivB_new w (.int .i64 t.op) (.string t.atom.name) (.slice pa t.atom.args.length ca) (.string t.var) (.slice pp t.parts.length cp) 68 _ rfl)
  have HB0 := Lib.hid ((Below.refl w.heap.size w).alloc (Nat.le_refl _) (.cells #[.int .i64 t.op, .string t.atom.name, .slice pa t.atom.args.length ca, .string t.var, .slice pp t.parts.length cp] 68))
  obtain ⟨b0, b1, b2, b3, b4, b5⟩ := H2.out
  have hlen := Nat.le_trans t.wt_len hw
  have hvs : t.var.size ≤ maxLen := by have := t.wt_var; unfold maxLen; omega
  have CV := Lib.hid (fun W => isVar_any t.var W hvs)
  have CA : Hid (∀ W, Below w.heap.size w W → Calls Try.prog 108 #[.agg #[.string t.atom.name, .slice pa t.atom.args.length ca]] W (Ans (.bool (atomB t.atom)) W)) := Lib.hid (fun W hW => validAtom_any t.atom W _ (HV.out.1.kept hW) (Nat.le_trans t.wt_atom hw))
  clear hv hvs
  obtain ⟨s1, s2⟩ := str_some hA
  have HN := Lib.hid (noneB_no1 hA)
  clear hA
  have HJ := Lib.hid hj
  have HF := Lib.hid (formB_9 hj)
  clear hj
  by_cases hz : t.var.size = 0
  · obtain ⟨u1, u2⟩ := str_none hz
    have HZ : Hid (decide (t.var.size = 0) = true) := Lib.hid (by simp [hz])
    clear hz
    have taw := ta_9w
    have taa := ta_9a
    have tap := ta_9p
    have tai := ta_9i
    have tab := ta_9b
    go_enter Try.func166, Try.ntmps166
    go_wp2_with fail
    refine (notation_9 _ _ HJ.out).mono ?_
    rintro e w' ⟨rfl, rfl⟩
    go_wp2_with fail
    refine (CV.out _).mono ?_
    rintro e w' ⟨rfl, rfl⟩
    cases ha : varB t.var
    · have HG : Hid (formB t = false) := Lib.hid (by rw [HF.out, ha]; simp)
      clear ha
      go_wp2
      go_ret
      exact ⟨ret_bool HG.out.symm, HB0.out⟩
    · have HG : Hid (formB t = false) := Lib.hid (by rw [HF.out, HN.out]; simp)
      clear ha
      go_wp2
      go_ret
      exact ⟨ret_bool HG.out.symm, HB0.out⟩
  · obtain ⟨u1, u2⟩ := str_some hz
    have HZ : Hid (decide (t.var.size = 0) = false) := Lib.hid (by simp [hz])
    clear hz
    have taw := ta_9w
    have taa := ta_9a
    have tap := ta_9p
    have tai := ta_9i
    have tab := ta_9b
    go_enter Try.func166, Try.ntmps166
    go_wp2_with fail
    refine (notation_9 _ _ HJ.out).mono ?_
    rintro e w' ⟨rfl, rfl⟩
    go_wp2_with fail
    refine (CV.out _).mono ?_
    rintro e w' ⟨rfl, rfl⟩
    cases ha : varB t.var
    · have HG : Hid (formB t = false) := Lib.hid (by rw [HF.out, ha]; simp)
      clear ha
      go_wp2
      go_ret
      exact ⟨ret_bool HG.out.symm, HB0.out⟩
    · have HG : Hid (formB t = false) := Lib.hid (by rw [HF.out, HN.out]; simp)
      clear ha
      go_wp2
      go_ret
      exact ⟨ret_bool HG.out.symm, HB0.out⟩

set_option maxRecDepth 100000 in
set_option maxHeartbeats 2000000 in
theorem hasForm_0A0 (t : Fm) (w : World) (va vp : Value) (hv : FmV w va vp t) (hw : t.wt ≤ 1048576) (hj : ∀ j : Int, 1 ≤ j → j ≤ 9 → t.op ≠ j) (hA : t.atom.name.size = 0) (hB : t.atom.args.length = 0) :
    Calls Try.prog 166 #[.agg #[.int .i64 t.op, .string t.atom.name, va, .string t.var, vp]] w (Ans (.bool (formB t)) w) := by
  obtain ⟨pa, ca, pp, cp, rfl, rfl⟩ := hv.open
  have HV := Lib.hid hv
  have H2 := Lib.hid (fivB_new w (.int .i64 t.op) (.string t.atom.name) (.slice pa t.atom.args.length ca) (.string t.var) (.slice pp t.parts.length cp) 68 _ rfl)
  have HB0 := Lib.hid ((Below.refl w.heap.size w).alloc (Nat.le_refl _) (.cells #[.int .i64 t.op, .string t.atom.name, .slice pa t.atom.args.length ca, .string t.var, .slice pp t.parts.length cp] 68))
  obtain ⟨b0, b1, b2, b3, b4, b5⟩ := H2.out
  have hlen := Nat.le_trans t.wt_len hw
  have hvs : t.var.size ≤ maxLen := by have := t.wt_var; unfold maxLen; omega
  have CV := Lib.hid (fun W => isVar_any t.var W hvs)
  have CA : Hid (∀ W, Below w.heap.size w W → Calls Try.prog 108 #[.agg #[.string t.atom.name, .slice pa t.atom.args.length ca]] W (Ans (.bool (atomB t.atom)) W)) := Lib.hid (fun W hW => validAtom_any t.atom W _ (HV.out.1.kept hW) (Nat.le_trans t.wt_atom hw))
  clear hv hvs
  obtain ⟨s1, s2⟩ := str_none hA
  have HN := Lib.hid (noneB_yes hA hB)
  have n0 : ((t.atom.args.length : Int) == 0) = true := by rw [beq_iff_eq]; omega
  clear hA hB
  have HJ := Lib.hid hj
  have HF := Lib.hid (formB_bad hj)
  clear hj
  by_cases hz : t.var.size = 0
  · obtain ⟨u1, u2⟩ := str_none hz
    have HZ : Hid (decide (t.var.size = 0) = true) := Lib.hid (by simp [hz])
    clear hz
    have HG := HF
    have taw := ta_0w
    have taa := ta_0a
    have tap := ta_0p
    have tai := ta_0i
    have tab := ta_0b
    go_enter Try.func166, Try.ntmps166
    go_wp2_with fail
    refine (notation_no _ _ HJ.out).mono ?_
    rintro e w' ⟨rfl, rfl⟩
    go_wp2
    go_ret
    exact ⟨ret_bool HG.out.symm, HB0.out⟩
  · obtain ⟨u1, u2⟩ := str_some hz
    have HZ : Hid (decide (t.var.size = 0) = false) := Lib.hid (by simp [hz])
    clear hz
    have HG := HF
    have taw := ta_0w
    have taa := ta_0a
    have tap := ta_0p
    have tai := ta_0i
    have tab := ta_0b
    go_enter Try.func166, Try.ntmps166
    go_wp2_with fail
    refine (notation_no _ _ HJ.out).mono ?_
    rintro e w' ⟨rfl, rfl⟩
    go_wp2
    go_ret
    exact ⟨ret_bool HG.out.symm, HB0.out⟩

set_option maxRecDepth 100000 in
set_option maxHeartbeats 2000000 in
theorem hasForm_0A1 (t : Fm) (w : World) (va vp : Value) (hv : FmV w va vp t) (hw : t.wt ≤ 1048576) (hj : ∀ j : Int, 1 ≤ j → j ≤ 9 → t.op ≠ j) (hA : t.atom.name.size = 0) (hB : ¬ t.atom.args.length = 0) :
    Calls Try.prog 166 #[.agg #[.int .i64 t.op, .string t.atom.name, va, .string t.var, vp]] w (Ans (.bool (formB t)) w) := by
  obtain ⟨pa, ca, pp, cp, rfl, rfl⟩ := hv.open
  have HV := Lib.hid hv
  have H2 := Lib.hid (fivB_new w (.int .i64 t.op) (.string t.atom.name) (.slice pa t.atom.args.length ca) (.string t.var) (.slice pp t.parts.length cp) 68 _ rfl)
  have HB0 := Lib.hid ((Below.refl w.heap.size w).alloc (Nat.le_refl _) (.cells #[.int .i64 t.op, .string t.atom.name, .slice pa t.atom.args.length ca, .string t.var, .slice pp t.parts.length cp] 68))
  obtain ⟨b0, b1, b2, b3, b4, b5⟩ := H2.out
  have hlen := Nat.le_trans t.wt_len hw
  have hvs : t.var.size ≤ maxLen := by have := t.wt_var; unfold maxLen; omega
  have CV := Lib.hid (fun W => isVar_any t.var W hvs)
  have CA : Hid (∀ W, Below w.heap.size w W → Calls Try.prog 108 #[.agg #[.string t.atom.name, .slice pa t.atom.args.length ca]] W (Ans (.bool (atomB t.atom)) W)) := Lib.hid (fun W hW => validAtom_any t.atom W _ (HV.out.1.kept hW) (Nat.le_trans t.wt_atom hw))
  clear hv hvs
  obtain ⟨s1, s2⟩ := str_none hA
  have HN := Lib.hid (noneB_no2 hB)
  have n0 : ((t.atom.args.length : Int) == 0) = false := by rw [beq_eq_false_iff_ne]; omega
  clear hA hB
  have HJ := Lib.hid hj
  have HF := Lib.hid (formB_bad hj)
  clear hj
  by_cases hz : t.var.size = 0
  · obtain ⟨u1, u2⟩ := str_none hz
    have HZ : Hid (decide (t.var.size = 0) = true) := Lib.hid (by simp [hz])
    clear hz
    have HG := HF
    have taw := ta_0w
    have taa := ta_0a
    have tap := ta_0p
    have tai := ta_0i
    have tab := ta_0b
    go_enter Try.func166, Try.ntmps166
    go_wp2_with fail
    refine (notation_no _ _ HJ.out).mono ?_
    rintro e w' ⟨rfl, rfl⟩
    go_wp2
    go_ret
    exact ⟨ret_bool HG.out.symm, HB0.out⟩
  · obtain ⟨u1, u2⟩ := str_some hz
    have HZ : Hid (decide (t.var.size = 0) = false) := Lib.hid (by simp [hz])
    clear hz
    have HG := HF
    have taw := ta_0w
    have taa := ta_0a
    have tap := ta_0p
    have tai := ta_0i
    have tab := ta_0b
    go_enter Try.func166, Try.ntmps166
    go_wp2_with fail
    refine (notation_no _ _ HJ.out).mono ?_
    rintro e w' ⟨rfl, rfl⟩
    go_wp2
    go_ret
    exact ⟨ret_bool HG.out.symm, HB0.out⟩

set_option maxRecDepth 100000 in
set_option maxHeartbeats 2000000 in
theorem hasForm_0A2 (t : Fm) (w : World) (va vp : Value) (hv : FmV w va vp t) (hw : t.wt ≤ 1048576) (hj : ∀ j : Int, 1 ≤ j → j ≤ 9 → t.op ≠ j) (hA : ¬ t.atom.name.size = 0) :
    Calls Try.prog 166 #[.agg #[.int .i64 t.op, .string t.atom.name, va, .string t.var, vp]] w (Ans (.bool (formB t)) w) := by
  obtain ⟨pa, ca, pp, cp, rfl, rfl⟩ := hv.open
  have HV := Lib.hid hv
  have H2 := Lib.hid (fivB_new w (.int .i64 t.op) (.string t.atom.name) (.slice pa t.atom.args.length ca) (.string t.var) (.slice pp t.parts.length cp) 68 _ rfl)
  have HB0 := Lib.hid ((Below.refl w.heap.size w).alloc (Nat.le_refl _) (.cells #[.int .i64 t.op, .string t.atom.name, .slice pa t.atom.args.length ca, .string t.var, .slice pp t.parts.length cp] 68))
  obtain ⟨b0, b1, b2, b3, b4, b5⟩ := H2.out
  have hlen := Nat.le_trans t.wt_len hw
  have hvs : t.var.size ≤ maxLen := by have := t.wt_var; unfold maxLen; omega
  have CV := Lib.hid (fun W => isVar_any t.var W hvs)
  have CA : Hid (∀ W, Below w.heap.size w W → Calls Try.prog 108 #[.agg #[.string t.atom.name, .slice pa t.atom.args.length ca]] W (Ans (.bool (atomB t.atom)) W)) := Lib.hid (fun W hW => validAtom_any t.atom W _ (HV.out.1.kept hW) (Nat.le_trans t.wt_atom hw))
  clear hv hvs
  obtain ⟨s1, s2⟩ := str_some hA
  have HN := Lib.hid (noneB_no1 hA)
  clear hA
  have HJ := Lib.hid hj
  have HF := Lib.hid (formB_bad hj)
  clear hj
  by_cases hz : t.var.size = 0
  · obtain ⟨u1, u2⟩ := str_none hz
    have HZ : Hid (decide (t.var.size = 0) = true) := Lib.hid (by simp [hz])
    clear hz
    have HG := HF
    have taw := ta_0w
    have taa := ta_0a
    have tap := ta_0p
    have tai := ta_0i
    have tab := ta_0b
    go_enter Try.func166, Try.ntmps166
    go_wp2_with fail
    refine (notation_no _ _ HJ.out).mono ?_
    rintro e w' ⟨rfl, rfl⟩
    go_wp2
    go_ret
    exact ⟨ret_bool HG.out.symm, HB0.out⟩
  · obtain ⟨u1, u2⟩ := str_some hz
    have HZ : Hid (decide (t.var.size = 0) = false) := Lib.hid (by simp [hz])
    clear hz
    have HG := HF
    have taw := ta_0w
    have taa := ta_0a
    have tap := ta_0p
    have tai := ta_0i
    have tab := ta_0b
    go_enter Try.func166, Try.ntmps166
    go_wp2_with fail
    refine (notation_no _ _ HJ.out).mono ?_
    rintro e w' ⟨rfl, rfl⟩
    go_wp2
    go_ret
    exact ⟨ret_bool HG.out.symm, HB0.out⟩

theorem hasForm_any (t : Fm) (w : World) (va vp : Value) (hv : FmV w va vp t) (hw : t.wt ≤ 1048576) :
    Calls Try.prog 166 #[.agg #[.int .i64 t.op, .string t.atom.name, va, .string t.var, vp]] w (Ans (.bool (formB t)) w) := by
  by_cases h1 : t.op = 1
  · by_cases hA : t.atom.name.size = 0
    · by_cases hB : t.atom.args.length = 0
      · exact hasForm_1A0 t w va vp hv hw h1 hA hB
      · exact hasForm_1A1 t w va vp hv hw h1 hA hB
    · exact hasForm_1A2 t w va vp hv hw h1 hA
  by_cases h2 : t.op = 2
  · by_cases hA : t.atom.name.size = 0
    · by_cases hB : t.atom.args.length = 0
      · exact hasForm_2A0 t w va vp hv hw h2 hA hB
      · exact hasForm_2A1 t w va vp hv hw h2 hA hB
    · exact hasForm_2A2 t w va vp hv hw h2 hA
  by_cases h3 : t.op = 3
  · by_cases hA : t.atom.name.size = 0
    · by_cases hB : t.atom.args.length = 0
      · exact hasForm_3A0 t w va vp hv hw h3 hA hB
      · exact hasForm_3A1 t w va vp hv hw h3 hA hB
    · exact hasForm_3A2 t w va vp hv hw h3 hA
  by_cases h4 : t.op = 4
  · by_cases hA : t.atom.name.size = 0
    · by_cases hB : t.atom.args.length = 0
      · exact hasForm_4A0 t w va vp hv hw h4 hA hB
      · exact hasForm_4A1 t w va vp hv hw h4 hA hB
    · exact hasForm_4A2 t w va vp hv hw h4 hA
  by_cases h5 : t.op = 5
  · by_cases hA : t.atom.name.size = 0
    · by_cases hB : t.atom.args.length = 0
      · exact hasForm_5A0 t w va vp hv hw h5 hA hB
      · exact hasForm_5A1 t w va vp hv hw h5 hA hB
    · exact hasForm_5A2 t w va vp hv hw h5 hA
  by_cases h6 : t.op = 6
  · by_cases hA : t.atom.name.size = 0
    · by_cases hB : t.atom.args.length = 0
      · exact hasForm_6A0 t w va vp hv hw h6 hA hB
      · exact hasForm_6A1 t w va vp hv hw h6 hA hB
    · exact hasForm_6A2 t w va vp hv hw h6 hA
  by_cases h7 : t.op = 7
  · by_cases hA : t.atom.name.size = 0
    · by_cases hB : t.atom.args.length = 0
      · exact hasForm_7A0 t w va vp hv hw h7 hA hB
      · exact hasForm_7A1 t w va vp hv hw h7 hA hB
    · exact hasForm_7A2 t w va vp hv hw h7 hA
  by_cases h8 : t.op = 8
  · by_cases hA : t.atom.name.size = 0
    · by_cases hB : t.atom.args.length = 0
      · exact hasForm_8A0 t w va vp hv hw h8 hA hB
      · exact hasForm_8A1 t w va vp hv hw h8 hA hB
    · exact hasForm_8A2 t w va vp hv hw h8 hA
  by_cases h9 : t.op = 9
  · by_cases hA : t.atom.name.size = 0
    · by_cases hB : t.atom.args.length = 0
      · exact hasForm_9A0 t w va vp hv hw h9 hA hB
      · exact hasForm_9A1 t w va vp hv hw h9 hA hB
    · exact hasForm_9A2 t w va vp hv hw h9 hA
  have hj : ∀ j : Int, 1 ≤ j → j ≤ 9 → t.op ≠ j := fun j a b e => by
    have c : j = 1 ∨ j = 2 ∨ j = 3 ∨ j = 4 ∨ j = 5 ∨ j = 6 ∨ j = 7 ∨ j = 8 ∨ j = 9 := by omega
    rcases c with rfl | rfl | rfl | rfl | rfl | rfl | rfl | rfl | rfl
    · exact h1 e
    · exact h2 e
    · exact h3 e
    · exact h4 e
    · exact h5 e
    · exact h6 e
    · exact h7 e
    · exact h8 e
    · exact h9 e
  by_cases hA : t.atom.name.size = 0
  · by_cases hB : t.atom.args.length = 0
    · exact hasForm_0A0 t w va vp hv hw hj hA hB
    · exact hasForm_0A1 t w va vp hv hw hj hA hB
  · exact hasForm_0A2 t w va vp hv hw hj hA

end Go.Proofs.Ytppmiedhoimgmaa
