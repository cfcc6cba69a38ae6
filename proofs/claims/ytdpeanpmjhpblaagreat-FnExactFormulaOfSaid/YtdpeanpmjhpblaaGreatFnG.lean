/- Several texts in one: each says what it proves. No condition but theirs. -/
import Derived.Test.YtdpeanpmjhpblaaGreatFmS
import Derived.Test.YtdpeanpmjhpblaaGreatImplV2
import Derived.WalkLawsBesides
/- The program's tests of formulas, as contracts: they answer as the model's. For formulas of at most 1048576 names' bytes, arguments and parts. -/
namespace Go.Proofs.YtdpeanpmjhpblaaGreat
open Go.RowKit
set_option linter.unusedVariables false

theorem notation_1 (o : Int) (w : World) (h : o = 1) : Calls Tryz.prog 108 #[.int .i64 o] w fun e w' => e = .returned (.iface 140 (.string ⟨#[116, 114, 117, 101]⟩)) ∧ w = w' := by
  subst h
  go_enter Tryz.func108, Tryz.ntmps108
  go_wp2
  go_ret
  exact ⟨rfl, rfl⟩
theorem notation_2 (o : Int) (w : World) (h : o = 2) : Calls Tryz.prog 108 #[.int .i64 o] w fun e w' => e = .returned (.iface 140 (.string ⟨#[102, 97, 108, 115, 101]⟩)) ∧ w = w' := by
  subst h
  go_enter Tryz.func108, Tryz.ntmps108
  go_wp2
  go_ret
  exact ⟨rfl, rfl⟩
theorem notation_3 (o : Int) (w : World) (h : o = 3) : Calls Tryz.prog 108 #[.int .i64 o] w fun e w' => e = .returned (.iface 142 (.agg #[])) ∧ w = w' := by
  subst h
  go_enter Tryz.func108, Tryz.ntmps108
  go_wp2
  go_ret
  exact ⟨rfl, rfl⟩
theorem notation_4 (o : Int) (w : World) (h : o = 4) : Calls Tryz.prog 108 #[.int .i64 o] w fun e w' => e = .returned (.iface 143 (.string ⟨#[126]⟩)) ∧ w = w' := by
  subst h
  go_enter Tryz.func108, Tryz.ntmps108
  go_wp2
  go_ret
  exact ⟨rfl, rfl⟩
theorem notation_5 (o : Int) (w : World) (h : o = 5) : Calls Tryz.prog 108 #[.int .i64 o] w fun e w' => e = .returned (.iface 144 (.string ⟨#[32, 38, 32]⟩)) ∧ w = w' := by
  subst h
  go_enter Tryz.func108, Tryz.ntmps108
  go_wp2
  go_ret
  exact ⟨rfl, rfl⟩
theorem notation_6 (o : Int) (w : World) (h : o = 6) : Calls Tryz.prog 108 #[.int .i64 o] w fun e w' => e = .returned (.iface 144 (.string ⟨#[32, 124, 32]⟩)) ∧ w = w' := by
  subst h
  go_enter Tryz.func108, Tryz.ntmps108
  go_wp2
  go_ret
  exact ⟨rfl, rfl⟩
theorem notation_7 (o : Int) (w : World) (h : o = 7) : Calls Tryz.prog 108 #[.int .i64 o] w fun e w' => e = .returned (.iface 144 (.string ⟨#[32, 61, 62, 32]⟩)) ∧ w = w' := by
  subst h
  go_enter Tryz.func108, Tryz.ntmps108
  go_wp2
  go_ret
  exact ⟨rfl, rfl⟩
theorem notation_8 (o : Int) (w : World) (h : o = 8) : Calls Tryz.prog 108 #[.int .i64 o] w fun e w' => e = .returned (.iface 145 (.string ⟨#[97, 108, 108, 32]⟩)) ∧ w = w' := by
  subst h
  go_enter Tryz.func108, Tryz.ntmps108
  go_wp2
  go_ret
  exact ⟨rfl, rfl⟩
theorem notation_9 (o : Int) (w : World) (h : o = 9) : Calls Tryz.prog 108 #[.int .i64 o] w fun e w' => e = .returned (.iface 145 (.string ⟨#[115, 111, 109, 101, 32]⟩)) ∧ w = w' := by
  subst h
  go_enter Tryz.func108, Tryz.ntmps108
  go_wp2
  go_ret
  exact ⟨rfl, rfl⟩
theorem notation_no (o : Int) (w : World) (h : ∀ j : Int, 1 ≤ j → j ≤ 9 → o ≠ j) : Calls Tryz.prog 108 #[.int .i64 o] w fun e w' => e = .returned .nilIface ∧ w = w' := by
  have q1 : ((o : Int) == 1) = false := by rw [beq_eq_false_iff_ne]; exact h 1 (by omega) (by omega)
  have q2 : ((o : Int) == 2) = false := by rw [beq_eq_false_iff_ne]; exact h 2 (by omega) (by omega)
  have q3 : ((o : Int) == 3) = false := by rw [beq_eq_false_iff_ne]; exact h 3 (by omega) (by omega)
  have q4 : ((o : Int) == 4) = false := by rw [beq_eq_false_iff_ne]; exact h 4 (by omega) (by omega)
  have q5 : ((o : Int) == 5) = false := by rw [beq_eq_false_iff_ne]; exact h 5 (by omega) (by omega)
  have q6 : ((o : Int) == 6) = false := by rw [beq_eq_false_iff_ne]; exact h 6 (by omega) (by omega)
  have q7 : ((o : Int) == 7) = false := by rw [beq_eq_false_iff_ne]; exact h 7 (by omega) (by omega)
  have q8 : ((o : Int) == 8) = false := by rw [beq_eq_false_iff_ne]; exact h 8 (by omega) (by omega)
  have q9 : ((o : Int) == 9) = false := by rw [beq_eq_false_iff_ne]; exact h 9 (by omega) (by omega)
  clear h
  go_enter Tryz.func108, Tryz.ntmps108
  go_wp2
  go_ret
  exact ⟨rfl, rfl⟩
theorem ta_1w (W : World) : (Instr.typeAssert (.iface 140 (.string ⟨#[116, 114, 117, 101]⟩)) 20 140 true).run Tryz.prog W = .ok (.tuple #[.string ⟨#[116, 114, 117, 101]⟩, .bool true]) W := by kernel_rfl
theorem ta_2w (W : World) : (Instr.typeAssert (.iface 140 (.string ⟨#[102, 97, 108, 115, 101]⟩)) 20 140 true).run Tryz.prog W = .ok (.tuple #[.string ⟨#[102, 97, 108, 115, 101]⟩, .bool true]) W := by kernel_rfl
theorem ta_3w (W : World) : (Instr.typeAssert (.iface 142 (.agg #[])) 20 140 true).run Tryz.prog W = .ok (.tuple #[.string ⟨#[]⟩, .bool false]) W := by kernel_rfl
theorem ta_3a (W : World) : (Instr.typeAssert (.iface 142 (.agg #[])) 20 142 true).run Tryz.prog W = .ok (.tuple #[.agg #[], .bool true]) W := by kernel_rfl
theorem ta_4w (W : World) : (Instr.typeAssert (.iface 143 (.string ⟨#[126]⟩)) 20 140 true).run Tryz.prog W = .ok (.tuple #[.string ⟨#[]⟩, .bool false]) W := by kernel_rfl
theorem ta_4a (W : World) : (Instr.typeAssert (.iface 143 (.string ⟨#[126]⟩)) 20 142 true).run Tryz.prog W = .ok (.tuple #[.agg #[], .bool false]) W := by kernel_rfl
theorem ta_4p (W : World) : (Instr.typeAssert (.iface 143 (.string ⟨#[126]⟩)) 20 143 true).run Tryz.prog W = .ok (.tuple #[.string ⟨#[126]⟩, .bool true]) W := by kernel_rfl
theorem ta_5w (W : World) : (Instr.typeAssert (.iface 144 (.string ⟨#[32, 38, 32]⟩)) 20 140 true).run Tryz.prog W = .ok (.tuple #[.string ⟨#[]⟩, .bool false]) W := by kernel_rfl
theorem ta_5a (W : World) : (Instr.typeAssert (.iface 144 (.string ⟨#[32, 38, 32]⟩)) 20 142 true).run Tryz.prog W = .ok (.tuple #[.agg #[], .bool false]) W := by kernel_rfl
theorem ta_5p (W : World) : (Instr.typeAssert (.iface 144 (.string ⟨#[32, 38, 32]⟩)) 20 143 true).run Tryz.prog W = .ok (.tuple #[.string ⟨#[]⟩, .bool false]) W := by kernel_rfl
theorem ta_5i (W : World) : (Instr.typeAssert (.iface 144 (.string ⟨#[32, 38, 32]⟩)) 20 144 true).run Tryz.prog W = .ok (.tuple #[.string ⟨#[32, 38, 32]⟩, .bool true]) W := by kernel_rfl
theorem ta_6w (W : World) : (Instr.typeAssert (.iface 144 (.string ⟨#[32, 124, 32]⟩)) 20 140 true).run Tryz.prog W = .ok (.tuple #[.string ⟨#[]⟩, .bool false]) W := by kernel_rfl
theorem ta_6a (W : World) : (Instr.typeAssert (.iface 144 (.string ⟨#[32, 124, 32]⟩)) 20 142 true).run Tryz.prog W = .ok (.tuple #[.agg #[], .bool false]) W := by kernel_rfl
theorem ta_6p (W : World) : (Instr.typeAssert (.iface 144 (.string ⟨#[32, 124, 32]⟩)) 20 143 true).run Tryz.prog W = .ok (.tuple #[.string ⟨#[]⟩, .bool false]) W := by kernel_rfl
theorem ta_6i (W : World) : (Instr.typeAssert (.iface 144 (.string ⟨#[32, 124, 32]⟩)) 20 144 true).run Tryz.prog W = .ok (.tuple #[.string ⟨#[32, 124, 32]⟩, .bool true]) W := by kernel_rfl
theorem ta_7w (W : World) : (Instr.typeAssert (.iface 144 (.string ⟨#[32, 61, 62, 32]⟩)) 20 140 true).run Tryz.prog W = .ok (.tuple #[.string ⟨#[]⟩, .bool false]) W := by kernel_rfl
theorem ta_7a (W : World) : (Instr.typeAssert (.iface 144 (.string ⟨#[32, 61, 62, 32]⟩)) 20 142 true).run Tryz.prog W = .ok (.tuple #[.agg #[], .bool false]) W := by kernel_rfl
theorem ta_7p (W : World) : (Instr.typeAssert (.iface 144 (.string ⟨#[32, 61, 62, 32]⟩)) 20 143 true).run Tryz.prog W = .ok (.tuple #[.string ⟨#[]⟩, .bool false]) W := by kernel_rfl
theorem ta_7i (W : World) : (Instr.typeAssert (.iface 144 (.string ⟨#[32, 61, 62, 32]⟩)) 20 144 true).run Tryz.prog W = .ok (.tuple #[.string ⟨#[32, 61, 62, 32]⟩, .bool true]) W := by kernel_rfl
theorem ta_8w (W : World) : (Instr.typeAssert (.iface 145 (.string ⟨#[97, 108, 108, 32]⟩)) 20 140 true).run Tryz.prog W = .ok (.tuple #[.string ⟨#[]⟩, .bool false]) W := by kernel_rfl
theorem ta_8a (W : World) : (Instr.typeAssert (.iface 145 (.string ⟨#[97, 108, 108, 32]⟩)) 20 142 true).run Tryz.prog W = .ok (.tuple #[.agg #[], .bool false]) W := by kernel_rfl
theorem ta_8p (W : World) : (Instr.typeAssert (.iface 145 (.string ⟨#[97, 108, 108, 32]⟩)) 20 143 true).run Tryz.prog W = .ok (.tuple #[.string ⟨#[]⟩, .bool false]) W := by kernel_rfl
theorem ta_8i (W : World) : (Instr.typeAssert (.iface 145 (.string ⟨#[97, 108, 108, 32]⟩)) 20 144 true).run Tryz.prog W = .ok (.tuple #[.string ⟨#[]⟩, .bool false]) W := by kernel_rfl
theorem ta_8b (W : World) : (Instr.typeAssert (.iface 145 (.string ⟨#[97, 108, 108, 32]⟩)) 20 145 true).run Tryz.prog W = .ok (.tuple #[.string ⟨#[97, 108, 108, 32]⟩, .bool true]) W := by kernel_rfl
theorem ta_9w (W : World) : (Instr.typeAssert (.iface 145 (.string ⟨#[115, 111, 109, 101, 32]⟩)) 20 140 true).run Tryz.prog W = .ok (.tuple #[.string ⟨#[]⟩, .bool false]) W := by kernel_rfl
theorem ta_9a (W : World) : (Instr.typeAssert (.iface 145 (.string ⟨#[115, 111, 109, 101, 32]⟩)) 20 142 true).run Tryz.prog W = .ok (.tuple #[.agg #[], .bool false]) W := by kernel_rfl
theorem ta_9p (W : World) : (Instr.typeAssert (.iface 145 (.string ⟨#[115, 111, 109, 101, 32]⟩)) 20 143 true).run Tryz.prog W = .ok (.tuple #[.string ⟨#[]⟩, .bool false]) W := by kernel_rfl
theorem ta_9i (W : World) : (Instr.typeAssert (.iface 145 (.string ⟨#[115, 111, 109, 101, 32]⟩)) 20 144 true).run Tryz.prog W = .ok (.tuple #[.string ⟨#[]⟩, .bool false]) W := by kernel_rfl
theorem ta_9b (W : World) : (Instr.typeAssert (.iface 145 (.string ⟨#[115, 111, 109, 101, 32]⟩)) 20 145 true).run Tryz.prog W = .ok (.tuple #[.string ⟨#[115, 111, 109, 101, 32]⟩, .bool true]) W := by kernel_rfl
theorem ta_0w (W : World) : (Instr.typeAssert .nilIface 20 140 true).run Tryz.prog W = .ok (.tuple #[.string ⟨#[]⟩, .bool false]) W := by kernel_rfl
theorem ta_0a (W : World) : (Instr.typeAssert .nilIface 20 142 true).run Tryz.prog W = .ok (.tuple #[.agg #[], .bool false]) W := by kernel_rfl
theorem ta_0p (W : World) : (Instr.typeAssert .nilIface 20 143 true).run Tryz.prog W = .ok (.tuple #[.string ⟨#[]⟩, .bool false]) W := by kernel_rfl
theorem ta_0i (W : World) : (Instr.typeAssert .nilIface 20 144 true).run Tryz.prog W = .ok (.tuple #[.string ⟨#[]⟩, .bool false]) W := by kernel_rfl
theorem ta_0b (W : World) : (Instr.typeAssert .nilIface 20 145 true).run Tryz.prog W = .ok (.tuple #[.string ⟨#[]⟩, .bool false]) W := by kernel_rfl

end Go.Proofs.YtdpeanpmjhpblaaGreat

/- The program's test of one formula's form, as a contract: it answers as the model's. For formulas of at most 1048576 names' bytes, arguments and parts. -/
namespace Go.Proofs.YtdpeanpmjhpblaaGreat
open Go.RowKit
set_option linter.unusedVariables false

theorem noneB_yes {t : Tm} (h : t.name.size = 0) (h2 : t.args.length = 0) : noneB t = true := by simp [noneB, h, h2]
theorem noneB_no1 {t : Tm} (h : ¬ t.name.size = 0) : noneB t = false := by simp [noneB, h]
theorem noneB_no2 {t : Tm} (h2 : ¬ t.args.length = 0) : noneB t = false := by simp [noneB, h2]

set_option maxRecDepth 100000 in
set_option maxHeartbeats 2000000 in
theorem hasForm_1A0 (t : Fm) (w : World) (va vp : Value) (hv : FmV w va vp t) (hw : t.wt ≤ 1048576) (hj : t.op = 1) (hA : t.atom.name.size = 0) (hB : t.atom.args.length = 0) :
    Calls Tryz.prog 79 #[.agg #[.int .i64 t.op, .string t.atom.name, va, .string t.var, vp]] w (Ans (.bool (formB t)) w) := by
  obtain ⟨pa, ca, pp, cp, rfl, rfl⟩ := hv.open
  have HV := Lib.hid hv
  have H2 := Lib.hid (fivB_new w (.int .i64 t.op) (.string t.atom.name) (.slice pa t.atom.args.length ca) (.string t.var) (.slice pp t.parts.length cp) 34 _ rfl)
  have HB0 := Lib.hid ((Below.refl w.heap.size w).alloc (Nat.le_refl _) (.cells #[.int .i64 t.op, .string t.atom.name, .slice pa t.atom.args.length ca, .string t.var, .slice pp t.parts.length cp] 34))
  obtain ⟨b0, b1, b2, b3, b4, b5⟩ := H2.out
  have hlen := Nat.le_trans t.wt_len hw
  have hvs : t.var.size ≤ maxLen := by have := t.wt_var; unfold maxLen; omega
  have CV := Lib.hid (fun W => isVar_any t.var W hvs)
  have CA : Hid (∀ W, Below w.heap.size w W → Calls Tryz.prog 109 #[.agg #[.string t.atom.name, .slice pa t.atom.args.length ca]] W (Ans (.bool (atomB t.atom)) W)) := Lib.hid (fun W hW => validAtom_any t.atom W _ (HV.out.1.kept hW) (Nat.le_trans t.wt_atom hw))
  clear hv hvs
  obtain ⟨s1, s2⟩ := str_none hA
  have HN := Lib.hid (noneB_yes hA hB)
  have n0 : ((t.atom.args.length : Int) == 0) = true := by rw [beq_iff_eq]; omega
  clear hA hB
  have HJ := Lib.hid hj
  have HF := Lib.hid (formB_1 hj)
  clear hj
  by_cases hz : t.var.size = 0
  · obtain ⟨u1, u2⟩ := str_none hz
    have HZ : Hid (decide (t.var.size = 0) = true) := Lib.hid (by simp [hz])
    clear hz
    have taw := ta_1w
    go_enter Tryz.func79, Tryz.ntmps79
    go_wp2_with fail
    refine (notation_1 _ _ HJ.out).mono ?_
    rintro e w' ⟨rfl, rfl⟩
    by_cases hn : t.parts.length = 0
    · have n1 : ((t.parts.length : Int) == 0) = true := by rw [beq_iff_eq]; omega
      have HG : Hid (formB t = true) := Lib.hid (by rw [HF.out, HN.out, HZ.out]; simp [hn])
      clear hn
      go_wp2
      go_ret
      exact ⟨ret_bool HG.out.symm, HB0.out⟩
    · have n1 : ((t.parts.length : Int) == 0) = false := by rw [beq_eq_false_iff_ne]; omega
      have HG : Hid (formB t = false) := Lib.hid (by rw [HF.out, HN.out, HZ.out]; simp [hn])
      clear hn
      go_wp2
      go_ret
      exact ⟨ret_bool HG.out.symm, HB0.out⟩
  · obtain ⟨u1, u2⟩ := str_some hz
    have HZ : Hid (decide (t.var.size = 0) = false) := Lib.hid (by simp [hz])
    clear hz
    have HG : Hid (formB t = false) := Lib.hid (by rw [HF.out, HZ.out]; simp)
    have taw := ta_1w
    go_enter Tryz.func79, Tryz.ntmps79
    go_wp2_with fail
    refine (notation_1 _ _ HJ.out).mono ?_
    rintro e w' ⟨rfl, rfl⟩
    go_wp2
    go_ret
    exact ⟨ret_bool HG.out.symm, HB0.out⟩

set_option maxRecDepth 100000 in
set_option maxHeartbeats 2000000 in
theorem hasForm_1A1 (t : Fm) (w : World) (va vp : Value) (hv : FmV w va vp t) (hw : t.wt ≤ 1048576) (hj : t.op = 1) (hA : t.atom.name.size = 0) (hB : ¬ t.atom.args.length = 0) :
    Calls Tryz.prog 79 #[.agg #[.int .i64 t.op, .string t.atom.name, va, .string t.var, vp]] w (Ans (.bool (formB t)) w) := by
  obtain ⟨pa, ca, pp, cp, rfl, rfl⟩ := hv.open
  have HV := Lib.hid hv
  have H2 := Lib.hid (fivB_new w (.int .i64 t.op) (.string t.atom.name) (.slice pa t.atom.args.length ca) (.string t.var) (.slice pp t.parts.length cp) 34 _ rfl)
  have HB0 := Lib.hid ((Below.refl w.heap.size w).alloc (Nat.le_refl _) (.cells #[.int .i64 t.op, .string t.atom.name, .slice pa t.atom.args.length ca, .string t.var, .slice pp t.parts.length cp] 34))
  obtain ⟨b0, b1, b2, b3, b4, b5⟩ := H2.out
  have hlen := Nat.le_trans t.wt_len hw
  have hvs : t.var.size ≤ maxLen := by have := t.wt_var; unfold maxLen; omega
  have CV := Lib.hid (fun W => isVar_any t.var W hvs)
  have CA : Hid (∀ W, Below w.heap.size w W → Calls Tryz.prog 109 #[.agg #[.string t.atom.name, .slice pa t.atom.args.length ca]] W (Ans (.bool (atomB t.atom)) W)) := Lib.hid (fun W hW => validAtom_any t.atom W _ (HV.out.1.kept hW) (Nat.le_trans t.wt_atom hw))
  clear hv hvs
  obtain ⟨s1, s2⟩ := str_none hA
  have HN := Lib.hid (noneB_no2 hB)
  have n0 : ((t.atom.args.length : Int) == 0) = false := by rw [beq_eq_false_iff_ne]; omega
  clear hA hB
  have HJ := Lib.hid hj
  have HF := Lib.hid (formB_1 hj)
  clear hj
  by_cases hz : t.var.size = 0
  · obtain ⟨u1, u2⟩ := str_none hz
    have HZ : Hid (decide (t.var.size = 0) = true) := Lib.hid (by simp [hz])
    clear hz
    have HG : Hid (formB t = false) := Lib.hid (by rw [HF.out, HN.out]; simp)
    have taw := ta_1w
    go_enter Tryz.func79, Tryz.ntmps79
    go_wp2_with fail
    refine (notation_1 _ _ HJ.out).mono ?_
    rintro e w' ⟨rfl, rfl⟩
    go_wp2
    go_ret
    exact ⟨ret_bool HG.out.symm, HB0.out⟩
  · obtain ⟨u1, u2⟩ := str_some hz
    have HZ : Hid (decide (t.var.size = 0) = false) := Lib.hid (by simp [hz])
    clear hz
    have HG : Hid (formB t = false) := Lib.hid (by rw [HF.out, HN.out]; simp)
    have taw := ta_1w
    go_enter Tryz.func79, Tryz.ntmps79
    go_wp2_with fail
    refine (notation_1 _ _ HJ.out).mono ?_
    rintro e w' ⟨rfl, rfl⟩
    go_wp2
    go_ret
    exact ⟨ret_bool HG.out.symm, HB0.out⟩

set_option maxRecDepth 100000 in
set_option maxHeartbeats 2000000 in
theorem hasForm_1A2 (t : Fm) (w : World) (va vp : Value) (hv : FmV w va vp t) (hw : t.wt ≤ 1048576) (hj : t.op = 1) (hA : ¬ t.atom.name.size = 0) :
    Calls Tryz.prog 79 #[.agg #[.int .i64 t.op, .string t.atom.name, va, .string t.var, vp]] w (Ans (.bool (formB t)) w) := by
  obtain ⟨pa, ca, pp, cp, rfl, rfl⟩ := hv.open
  have HV := Lib.hid hv
  have H2 := Lib.hid (fivB_new w (.int .i64 t.op) (.string t.atom.name) (.slice pa t.atom.args.length ca) (.string t.var) (.slice pp t.parts.length cp) 34 _ rfl)
  have HB0 := Lib.hid ((Below.refl w.heap.size w).alloc (Nat.le_refl _) (.cells #[.int .i64 t.op, .string t.atom.name, .slice pa t.atom.args.length ca, .string t.var, .slice pp t.parts.length cp] 34))
  obtain ⟨b0, b1, b2, b3, b4, b5⟩ := H2.out
  have hlen := Nat.le_trans t.wt_len hw
  have hvs : t.var.size ≤ maxLen := by have := t.wt_var; unfold maxLen; omega
  have CV := Lib.hid (fun W => isVar_any t.var W hvs)
  have CA : Hid (∀ W, Below w.heap.size w W → Calls Tryz.prog 109 #[.agg #[.string t.atom.name, .slice pa t.atom.args.length ca]] W (Ans (.bool (atomB t.atom)) W)) := Lib.hid (fun W hW => validAtom_any t.atom W _ (HV.out.1.kept hW) (Nat.le_trans t.wt_atom hw))
  clear hv hvs
  obtain ⟨s1, s2⟩ := str_some hA
  have HN := Lib.hid (noneB_no1 hA)
  clear hA
  have HJ := Lib.hid hj
  have HF := Lib.hid (formB_1 hj)
  clear hj
  by_cases hz : t.var.size = 0
  · obtain ⟨u1, u2⟩ := str_none hz
    have HZ : Hid (decide (t.var.size = 0) = true) := Lib.hid (by simp [hz])
    clear hz
    have HG : Hid (formB t = false) := Lib.hid (by rw [HF.out, HN.out]; simp)
    have taw := ta_1w
    go_enter Tryz.func79, Tryz.ntmps79
    go_wp2_with fail
    refine (notation_1 _ _ HJ.out).mono ?_
    rintro e w' ⟨rfl, rfl⟩
    go_wp2
    go_ret
    exact ⟨ret_bool HG.out.symm, HB0.out⟩
  · obtain ⟨u1, u2⟩ := str_some hz
    have HZ : Hid (decide (t.var.size = 0) = false) := Lib.hid (by simp [hz])
    clear hz
    have HG : Hid (formB t = false) := Lib.hid (by rw [HF.out, HN.out]; simp)
    have taw := ta_1w
    go_enter Tryz.func79, Tryz.ntmps79
    go_wp2_with fail
    refine (notation_1 _ _ HJ.out).mono ?_
    rintro e w' ⟨rfl, rfl⟩
    go_wp2
    go_ret
    exact ⟨ret_bool HG.out.symm, HB0.out⟩

set_option maxRecDepth 100000 in
set_option maxHeartbeats 2000000 in
theorem hasForm_2A0 (t : Fm) (w : World) (va vp : Value) (hv : FmV w va vp t) (hw : t.wt ≤ 1048576) (hj : t.op = 2) (hA : t.atom.name.size = 0) (hB : t.atom.args.length = 0) :
    Calls Tryz.prog 79 #[.agg #[.int .i64 t.op, .string t.atom.name, va, .string t.var, vp]] w (Ans (.bool (formB t)) w) := by
  obtain ⟨pa, ca, pp, cp, rfl, rfl⟩ := hv.open
  have HV := Lib.hid hv
  have H2 := Lib.hid (fivB_new w (.int .i64 t.op) (.string t.atom.name) (.slice pa t.atom.args.length ca) (.string t.var) (.slice pp t.parts.length cp) 34 _ rfl)
  have HB0 := Lib.hid ((Below.refl w.heap.size w).alloc (Nat.le_refl _) (.cells #[.int .i64 t.op, .string t.atom.name, .slice pa t.atom.args.length ca, .string t.var, .slice pp t.parts.length cp] 34))
  obtain ⟨b0, b1, b2, b3, b4, b5⟩ := H2.out
  have hlen := Nat.le_trans t.wt_len hw
  have hvs : t.var.size ≤ maxLen := by have := t.wt_var; unfold maxLen; omega
  have CV := Lib.hid (fun W => isVar_any t.var W hvs)
  have CA : Hid (∀ W, Below w.heap.size w W → Calls Tryz.prog 109 #[.agg #[.string t.atom.name, .slice pa t.atom.args.length ca]] W (Ans (.bool (atomB t.atom)) W)) := Lib.hid (fun W hW => validAtom_any t.atom W _ (HV.out.1.kept hW) (Nat.le_trans t.wt_atom hw))
  clear hv hvs
  obtain ⟨s1, s2⟩ := str_none hA
  have HN := Lib.hid (noneB_yes hA hB)
  have n0 : ((t.atom.args.length : Int) == 0) = true := by rw [beq_iff_eq]; omega
  clear hA hB
  have HJ := Lib.hid hj
  have HF := Lib.hid (formB_2 hj)
  clear hj
  by_cases hz : t.var.size = 0
  · obtain ⟨u1, u2⟩ := str_none hz
    have HZ : Hid (decide (t.var.size = 0) = true) := Lib.hid (by simp [hz])
    clear hz
    have taw := ta_2w
    go_enter Tryz.func79, Tryz.ntmps79
    go_wp2_with fail
    refine (notation_2 _ _ HJ.out).mono ?_
    rintro e w' ⟨rfl, rfl⟩
    by_cases hn : t.parts.length = 0
    · have n1 : ((t.parts.length : Int) == 0) = true := by rw [beq_iff_eq]; omega
      have HG : Hid (formB t = true) := Lib.hid (by rw [HF.out, HN.out, HZ.out]; simp [hn])
      clear hn
      go_wp2
      go_ret
      exact ⟨ret_bool HG.out.symm, HB0.out⟩
    · have n1 : ((t.parts.length : Int) == 0) = false := by rw [beq_eq_false_iff_ne]; omega
      have HG : Hid (formB t = false) := Lib.hid (by rw [HF.out, HN.out, HZ.out]; simp [hn])
      clear hn
      go_wp2
      go_ret
      exact ⟨ret_bool HG.out.symm, HB0.out⟩
  · obtain ⟨u1, u2⟩ := str_some hz
    have HZ : Hid (decide (t.var.size = 0) = false) := Lib.hid (by simp [hz])
    clear hz
    have HG : Hid (formB t = false) := Lib.hid (by rw [HF.out, HZ.out]; simp)
    have taw := ta_2w
    go_enter Tryz.func79, Tryz.ntmps79
    go_wp2_with fail
    refine (notation_2 _ _ HJ.out).mono ?_
    rintro e w' ⟨rfl, rfl⟩
    go_wp2
    go_ret
    exact ⟨ret_bool HG.out.symm, HB0.out⟩

set_option maxRecDepth 100000 in
set_option maxHeartbeats 2000000 in
theorem hasForm_2A1 (t : Fm) (w : World) (va vp : Value) (hv : FmV w va vp t) (hw : t.wt ≤ 1048576) (hj : t.op = 2) (hA : t.atom.name.size = 0) (hB : ¬ t.atom.args.length = 0) :
    Calls Tryz.prog 79 #[.agg #[.int .i64 t.op, .string t.atom.name, va, .string t.var, vp]] w (Ans (.bool (formB t)) w) := by
  obtain ⟨pa, ca, pp, cp, rfl, rfl⟩ := hv.open
  have HV := Lib.hid hv
  have H2 := Lib.hid (fivB_new w (.int .i64 t.op) (.string t.atom.name) (.slice pa t.atom.args.length ca) (.string t.var) (.slice pp t.parts.length cp) 34 _ rfl)
  have HB0 := Lib.hid ((Below.refl w.heap.size w).alloc (Nat.le_refl _) (.cells #[.int .i64 t.op, .string t.atom.name, .slice pa t.atom.args.length ca, .string t.var, .slice pp t.parts.length cp] 34))
  obtain ⟨b0, b1, b2, b3, b4, b5⟩ := H2.out
  have hlen := Nat.le_trans t.wt_len hw
  have hvs : t.var.size ≤ maxLen := by have := t.wt_var; unfold maxLen; omega
  have CV := Lib.hid (fun W => isVar_any t.var W hvs)
  have CA : Hid (∀ W, Below w.heap.size w W → Calls Tryz.prog 109 #[.agg #[.string t.atom.name, .slice pa t.atom.args.length ca]] W (Ans (.bool (atomB t.atom)) W)) := Lib.hid (fun W hW => validAtom_any t.atom W _ (HV.out.1.kept hW) (Nat.le_trans t.wt_atom hw))
  clear hv hvs
  obtain ⟨s1, s2⟩ := str_none hA
  have HN := Lib.hid (noneB_no2 hB)
  have n0 : ((t.atom.args.length : Int) == 0) = false := by rw [beq_eq_false_iff_ne]; omega
  clear hA hB
  have HJ := Lib.hid hj
  have HF := Lib.hid (formB_2 hj)
  clear hj
  by_cases hz : t.var.size = 0
  · obtain ⟨u1, u2⟩ := str_none hz
    have HZ : Hid (decide (t.var.size = 0) = true) := Lib.hid (by simp [hz])
    clear hz
    have HG : Hid (formB t = false) := Lib.hid (by rw [HF.out, HN.out]; simp)
    have taw := ta_2w
    go_enter Tryz.func79, Tryz.ntmps79
    go_wp2_with fail
    refine (notation_2 _ _ HJ.out).mono ?_
    rintro e w' ⟨rfl, rfl⟩
    go_wp2
    go_ret
    exact ⟨ret_bool HG.out.symm, HB0.out⟩
  · obtain ⟨u1, u2⟩ := str_some hz
    have HZ : Hid (decide (t.var.size = 0) = false) := Lib.hid (by simp [hz])
    clear hz
    have HG : Hid (formB t = false) := Lib.hid (by rw [HF.out, HN.out]; simp)
    have taw := ta_2w
    go_enter Tryz.func79, Tryz.ntmps79
    go_wp2_with fail
    refine (notation_2 _ _ HJ.out).mono ?_
    rintro e w' ⟨rfl, rfl⟩
    go_wp2
    go_ret
    exact ⟨ret_bool HG.out.symm, HB0.out⟩

set_option maxRecDepth 100000 in
set_option maxHeartbeats 2000000 in
theorem hasForm_2A2 (t : Fm) (w : World) (va vp : Value) (hv : FmV w va vp t) (hw : t.wt ≤ 1048576) (hj : t.op = 2) (hA : ¬ t.atom.name.size = 0) :
    Calls Tryz.prog 79 #[.agg #[.int .i64 t.op, .string t.atom.name, va, .string t.var, vp]] w (Ans (.bool (formB t)) w) := by
  obtain ⟨pa, ca, pp, cp, rfl, rfl⟩ := hv.open
  have HV := Lib.hid hv
  have H2 := Lib.hid (fivB_new w (.int .i64 t.op) (.string t.atom.name) (.slice pa t.atom.args.length ca) (.string t.var) (.slice pp t.parts.length cp) 34 _ rfl)
  have HB0 := Lib.hid ((Below.refl w.heap.size w).alloc (Nat.le_refl _) (.cells #[.int .i64 t.op, .string t.atom.name, .slice pa t.atom.args.length ca, .string t.var, .slice pp t.parts.length cp] 34))
  obtain ⟨b0, b1, b2, b3, b4, b5⟩ := H2.out
  have hlen := Nat.le_trans t.wt_len hw
  have hvs : t.var.size ≤ maxLen := by have := t.wt_var; unfold maxLen; omega
  have CV := Lib.hid (fun W => isVar_any t.var W hvs)
  have CA : Hid (∀ W, Below w.heap.size w W → Calls Tryz.prog 109 #[.agg #[.string t.atom.name, .slice pa t.atom.args.length ca]] W (Ans (.bool (atomB t.atom)) W)) := Lib.hid (fun W hW => validAtom_any t.atom W _ (HV.out.1.kept hW) (Nat.le_trans t.wt_atom hw))
  clear hv hvs
  obtain ⟨s1, s2⟩ := str_some hA
  have HN := Lib.hid (noneB_no1 hA)
  clear hA
  have HJ := Lib.hid hj
  have HF := Lib.hid (formB_2 hj)
  clear hj
  by_cases hz : t.var.size = 0
  · obtain ⟨u1, u2⟩ := str_none hz
    have HZ : Hid (decide (t.var.size = 0) = true) := Lib.hid (by simp [hz])
    clear hz
    have HG : Hid (formB t = false) := Lib.hid (by rw [HF.out, HN.out]; simp)
    have taw := ta_2w
    go_enter Tryz.func79, Tryz.ntmps79
    go_wp2_with fail
    refine (notation_2 _ _ HJ.out).mono ?_
    rintro e w' ⟨rfl, rfl⟩
    go_wp2
    go_ret
    exact ⟨ret_bool HG.out.symm, HB0.out⟩
  · obtain ⟨u1, u2⟩ := str_some hz
    have HZ : Hid (decide (t.var.size = 0) = false) := Lib.hid (by simp [hz])
    clear hz
    have HG : Hid (formB t = false) := Lib.hid (by rw [HF.out, HN.out]; simp)
    have taw := ta_2w
    go_enter Tryz.func79, Tryz.ntmps79
    go_wp2_with fail
    refine (notation_2 _ _ HJ.out).mono ?_
    rintro e w' ⟨rfl, rfl⟩
    go_wp2
    go_ret
    exact ⟨ret_bool HG.out.symm, HB0.out⟩

set_option maxRecDepth 100000 in
set_option maxHeartbeats 2000000 in
theorem hasForm_3A0 (t : Fm) (w : World) (va vp : Value) (hv : FmV w va vp t) (hw : t.wt ≤ 1048576) (hj : t.op = 3) (hA : t.atom.name.size = 0) (hB : t.atom.args.length = 0) :
    Calls Tryz.prog 79 #[.agg #[.int .i64 t.op, .string t.atom.name, va, .string t.var, vp]] w (Ans (.bool (formB t)) w) := by
  obtain ⟨pa, ca, pp, cp, rfl, rfl⟩ := hv.open
  have HV := Lib.hid hv
  have H2 := Lib.hid (fivB_new w (.int .i64 t.op) (.string t.atom.name) (.slice pa t.atom.args.length ca) (.string t.var) (.slice pp t.parts.length cp) 34 _ rfl)
  have HB0 := Lib.hid ((Below.refl w.heap.size w).alloc (Nat.le_refl _) (.cells #[.int .i64 t.op, .string t.atom.name, .slice pa t.atom.args.length ca, .string t.var, .slice pp t.parts.length cp] 34))
  obtain ⟨b0, b1, b2, b3, b4, b5⟩ := H2.out
  have hlen := Nat.le_trans t.wt_len hw
  have hvs : t.var.size ≤ maxLen := by have := t.wt_var; unfold maxLen; omega
  have CV := Lib.hid (fun W => isVar_any t.var W hvs)
  have CA : Hid (∀ W, Below w.heap.size w W → Calls Tryz.prog 109 #[.agg #[.string t.atom.name, .slice pa t.atom.args.length ca]] W (Ans (.bool (atomB t.atom)) W)) := Lib.hid (fun W hW => validAtom_any t.atom W _ (HV.out.1.kept hW) (Nat.le_trans t.wt_atom hw))
  clear hv hvs
  obtain ⟨s1, s2⟩ := str_none hA
  have HN := Lib.hid (noneB_yes hA hB)
  have n0 : ((t.atom.args.length : Int) == 0) = true := by rw [beq_iff_eq]; omega
  clear hA hB
  have HJ := Lib.hid hj
  have HF := Lib.hid (formB_3 hj)
  clear hj
  by_cases hz : t.var.size = 0
  · obtain ⟨u1, u2⟩ := str_none hz
    have HZ : Hid (decide (t.var.size = 0) = true) := Lib.hid (by simp [hz])
    clear hz
    have taw := ta_3w
    have taa := ta_3a
    go_enter Tryz.func79, Tryz.ntmps79
    go_wp2_with fail
    refine (notation_3 _ _ HJ.out).mono ?_
    rintro e w' ⟨rfl, rfl⟩
    go_wp2_with fail
    refine (CA.out _ HB0.out).mono ?_
    rintro e w' ⟨rfl, hb⟩
    have HB := Lib.hid (carry_below HB0.out (Nat.le_refl _) hb)
    obtain ⟨d0, d1, d2, d3, d4, d5⟩ := H2.out.kept hb
    clear hb
    cases ha : atomB t.atom
    · have HG : Hid (formB t = false) := Lib.hid (by rw [HF.out, ha]; simp)
      clear ha
      go_wp2
      go_ret
      exact ⟨ret_bool HG.out.symm, HB.out⟩
    · skip
      by_cases hn : t.parts.length = 0
      · have n1 : ((t.parts.length : Int) == 0) = true := by rw [beq_iff_eq]; omega
        have HG : Hid (formB t = true) := Lib.hid (by rw [HF.out, ha, HZ.out]; simp [hn])
        clear hn ha
        go_wp2
        go_ret
        exact ⟨ret_bool HG.out.symm, HB.out⟩
      · have n1 : ((t.parts.length : Int) == 0) = false := by rw [beq_eq_false_iff_ne]; omega
        have HG : Hid (formB t = false) := Lib.hid (by rw [HF.out, ha, HZ.out]; simp [hn])
        clear hn ha
        go_wp2
        go_ret
        exact ⟨ret_bool HG.out.symm, HB.out⟩
  · obtain ⟨u1, u2⟩ := str_some hz
    have HZ : Hid (decide (t.var.size = 0) = false) := Lib.hid (by simp [hz])
    clear hz
    have taw := ta_3w
    have taa := ta_3a
    go_enter Tryz.func79, Tryz.ntmps79
    go_wp2_with fail
    refine (notation_3 _ _ HJ.out).mono ?_
    rintro e w' ⟨rfl, rfl⟩
    go_wp2_with fail
    refine (CA.out _ HB0.out).mono ?_
    rintro e w' ⟨rfl, hb⟩
    have HB := Lib.hid (carry_below HB0.out (Nat.le_refl _) hb)
    obtain ⟨d0, d1, d2, d3, d4, d5⟩ := H2.out.kept hb
    clear hb
    cases ha : atomB t.atom
    · have HG : Hid (formB t = false) := Lib.hid (by rw [HF.out, ha]; simp)
      clear ha
      go_wp2
      go_ret
      exact ⟨ret_bool HG.out.symm, HB.out⟩
    · have HG : Hid (formB t = false) := Lib.hid (by rw [HF.out, HZ.out]; simp)
      clear ha
      go_wp2
      go_ret
      exact ⟨ret_bool HG.out.symm, HB.out⟩

set_option maxRecDepth 100000 in
set_option maxHeartbeats 2000000 in
theorem hasForm_3A1 (t : Fm) (w : World) (va vp : Value) (hv : FmV w va vp t) (hw : t.wt ≤ 1048576) (hj : t.op = 3) (hA : t.atom.name.size = 0) (hB : ¬ t.atom.args.length = 0) :
    Calls Tryz.prog 79 #[.agg #[.int .i64 t.op, .string t.atom.name, va, .string t.var, vp]] w (Ans (.bool (formB t)) w) := by
  obtain ⟨pa, ca, pp, cp, rfl, rfl⟩ := hv.open
  have HV := Lib.hid hv
  have H2 := Lib.hid (fivB_new w (.int .i64 t.op) (.string t.atom.name) (.slice pa t.atom.args.length ca) (.string t.var) (.slice pp t.parts.length cp) 34 _ rfl)
  have HB0 := Lib.hid ((Below.refl w.heap.size w).alloc (Nat.le_refl _) (.cells #[.int .i64 t.op, .string t.atom.name, .slice pa t.atom.args.length ca, .string t.var, .slice pp t.parts.length cp] 34))
  obtain ⟨b0, b1, b2, b3, b4, b5⟩ := H2.out
  have hlen := Nat.le_trans t.wt_len hw
  have hvs : t.var.size ≤ maxLen := by have := t.wt_var; unfold maxLen; omega
  have CV := Lib.hid (fun W => isVar_any t.var W hvs)
  have CA : Hid (∀ W, Below w.heap.size w W → Calls Tryz.prog 109 #[.agg #[.string t.atom.name, .slice pa t.atom.args.length ca]] W (Ans (.bool (atomB t.atom)) W)) := Lib.hid (fun W hW => validAtom_any t.atom W _ (HV.out.1.kept hW) (Nat.le_trans t.wt_atom hw))
  clear hv hvs
  obtain ⟨s1, s2⟩ := str_none hA
  have HN := Lib.hid (noneB_no2 hB)
  have n0 : ((t.atom.args.length : Int) == 0) = false := by rw [beq_eq_false_iff_ne]; omega
  clear hA hB
  have HJ := Lib.hid hj
  have HF := Lib.hid (formB_3 hj)
  clear hj
  by_cases hz : t.var.size = 0
  · obtain ⟨u1, u2⟩ := str_none hz
    have HZ : Hid (decide (t.var.size = 0) = true) := Lib.hid (by simp [hz])
    clear hz
    have taw := ta_3w
    have taa := ta_3a
    go_enter Tryz.func79, Tryz.ntmps79
    go_wp2_with fail
    refine (notation_3 _ _ HJ.out).mono ?_
    rintro e w' ⟨rfl, rfl⟩
    go_wp2_with fail
    refine (CA.out _ HB0.out).mono ?_
    rintro e w' ⟨rfl, hb⟩
    have HB := Lib.hid (carry_below HB0.out (Nat.le_refl _) hb)
    obtain ⟨d0, d1, d2, d3, d4, d5⟩ := H2.out.kept hb
    clear hb
    cases ha : atomB t.atom
    · have HG : Hid (formB t = false) := Lib.hid (by rw [HF.out, ha]; simp)
      clear ha
      go_wp2
      go_ret
      exact ⟨ret_bool HG.out.symm, HB.out⟩
    · skip
      by_cases hn : t.parts.length = 0
      · have n1 : ((t.parts.length : Int) == 0) = true := by rw [beq_iff_eq]; omega
        have HG : Hid (formB t = true) := Lib.hid (by rw [HF.out, ha, HZ.out]; simp [hn])
        clear hn ha
        go_wp2
        go_ret
        exact ⟨ret_bool HG.out.symm, HB.out⟩
      · have n1 : ((t.parts.length : Int) == 0) = false := by rw [beq_eq_false_iff_ne]; omega
        have HG : Hid (formB t = false) := Lib.hid (by rw [HF.out, ha, HZ.out]; simp [hn])
        clear hn ha
        go_wp2
        go_ret
        exact ⟨ret_bool HG.out.symm, HB.out⟩
  · obtain ⟨u1, u2⟩ := str_some hz
    have HZ : Hid (decide (t.var.size = 0) = false) := Lib.hid (by simp [hz])
    clear hz
    have taw := ta_3w
    have taa := ta_3a
    go_enter Tryz.func79, Tryz.ntmps79
    go_wp2_with fail
    refine (notation_3 _ _ HJ.out).mono ?_
    rintro e w' ⟨rfl, rfl⟩
    go_wp2_with fail
    refine (CA.out _ HB0.out).mono ?_
    rintro e w' ⟨rfl, hb⟩
    have HB := Lib.hid (carry_below HB0.out (Nat.le_refl _) hb)
    obtain ⟨d0, d1, d2, d3, d4, d5⟩ := H2.out.kept hb
    clear hb
    cases ha : atomB t.atom
    · have HG : Hid (formB t = false) := Lib.hid (by rw [HF.out, ha]; simp)
      clear ha
      go_wp2
      go_ret
      exact ⟨ret_bool HG.out.symm, HB.out⟩
    · have HG : Hid (formB t = false) := Lib.hid (by rw [HF.out, HZ.out]; simp)
      clear ha
      go_wp2
      go_ret
      exact ⟨ret_bool HG.out.symm, HB.out⟩

set_option maxRecDepth 100000 in
set_option maxHeartbeats 2000000 in
theorem hasForm_3A2 (t : Fm) (w : World) (va vp : Value) (hv : FmV w va vp t) (hw : t.wt ≤ 1048576) (hj : t.op = 3) (hA : ¬ t.atom.name.size = 0) :
    Calls Tryz.prog 79 #[.agg #[.int .i64 t.op, .string t.atom.name, va, .string t.var, vp]] w (Ans (.bool (formB t)) w) := by
  obtain ⟨pa, ca, pp, cp, rfl, rfl⟩ := hv.open
  have HV := Lib.hid hv
  have H2 := Lib.hid (fivB_new w (.int .i64 t.op) (.string t.atom.name) (.slice pa t.atom.args.length ca) (.string t.var) (.slice pp t.parts.length cp) 34 _ rfl)
  have HB0 := Lib.hid ((Below.refl w.heap.size w).alloc (Nat.le_refl _) (.cells #[.int .i64 t.op, .string t.atom.name, .slice pa t.atom.args.length ca, .string t.var, .slice pp t.parts.length cp] 34))
  obtain ⟨b0, b1, b2, b3, b4, b5⟩ := H2.out
  have hlen := Nat.le_trans t.wt_len hw
  have hvs : t.var.size ≤ maxLen := by have := t.wt_var; unfold maxLen; omega
  have CV := Lib.hid (fun W => isVar_any t.var W hvs)
  have CA : Hid (∀ W, Below w.heap.size w W → Calls Tryz.prog 109 #[.agg #[.string t.atom.name, .slice pa t.atom.args.length ca]] W (Ans (.bool (atomB t.atom)) W)) := Lib.hid (fun W hW => validAtom_any t.atom W _ (HV.out.1.kept hW) (Nat.le_trans t.wt_atom hw))
  clear hv hvs
  obtain ⟨s1, s2⟩ := str_some hA
  have HN := Lib.hid (noneB_no1 hA)
  clear hA
  have HJ := Lib.hid hj
  have HF := Lib.hid (formB_3 hj)
  clear hj
  by_cases hz : t.var.size = 0
  · obtain ⟨u1, u2⟩ := str_none hz
    have HZ : Hid (decide (t.var.size = 0) = true) := Lib.hid (by simp [hz])
    clear hz
    have taw := ta_3w
    have taa := ta_3a
    go_enter Tryz.func79, Tryz.ntmps79
    go_wp2_with fail
    refine (notation_3 _ _ HJ.out).mono ?_
    rintro e w' ⟨rfl, rfl⟩
    go_wp2_with fail
    refine (CA.out _ HB0.out).mono ?_
    rintro e w' ⟨rfl, hb⟩
    have HB := Lib.hid (carry_below HB0.out (Nat.le_refl _) hb)
    obtain ⟨d0, d1, d2, d3, d4, d5⟩ := H2.out.kept hb
    clear hb
    cases ha : atomB t.atom
    · have HG : Hid (formB t = false) := Lib.hid (by rw [HF.out, ha]; simp)
      clear ha
      go_wp2
      go_ret
      exact ⟨ret_bool HG.out.symm, HB.out⟩
    · skip
      by_cases hn : t.parts.length = 0
      · have n1 : ((t.parts.length : Int) == 0) = true := by rw [beq_iff_eq]; omega
        have HG : Hid (formB t = true) := Lib.hid (by rw [HF.out, ha, HZ.out]; simp [hn])
        clear hn ha
        go_wp2
        go_ret
        exact ⟨ret_bool HG.out.symm, HB.out⟩
      · have n1 : ((t.parts.length : Int) == 0) = false := by rw [beq_eq_false_iff_ne]; omega
        have HG : Hid (formB t = false) := Lib.hid (by rw [HF.out, ha, HZ.out]; simp [hn])
        clear hn ha
        go_wp2
        go_ret
        exact ⟨ret_bool HG.out.symm, HB.out⟩
  · obtain ⟨u1, u2⟩ := str_some hz
    have HZ : Hid (decide (t.var.size = 0) = false) := Lib.hid (by simp [hz])
    clear hz
    have taw := ta_3w
    have taa := ta_3a
    go_enter Tryz.func79, Tryz.ntmps79
    go_wp2_with fail
    refine (notation_3 _ _ HJ.out).mono ?_
    rintro e w' ⟨rfl, rfl⟩
    go_wp2_with fail
    refine (CA.out _ HB0.out).mono ?_
    rintro e w' ⟨rfl, hb⟩
    have HB := Lib.hid (carry_below HB0.out (Nat.le_refl _) hb)
    obtain ⟨d0, d1, d2, d3, d4, d5⟩ := H2.out.kept hb
    clear hb
    cases ha : atomB t.atom
    · have HG : Hid (formB t = false) := Lib.hid (by rw [HF.out, ha]; simp)
      clear ha
      go_wp2
      go_ret
      exact ⟨ret_bool HG.out.symm, HB.out⟩
    · have HG : Hid (formB t = false) := Lib.hid (by rw [HF.out, HZ.out]; simp)
      clear ha
      go_wp2
      go_ret
      exact ⟨ret_bool HG.out.symm, HB.out⟩

set_option maxRecDepth 100000 in
set_option maxHeartbeats 2000000 in
theorem hasForm_4A0 (t : Fm) (w : World) (va vp : Value) (hv : FmV w va vp t) (hw : t.wt ≤ 1048576) (hj : t.op = 4) (hA : t.atom.name.size = 0) (hB : t.atom.args.length = 0) :
    Calls Tryz.prog 79 #[.agg #[.int .i64 t.op, .string t.atom.name, va, .string t.var, vp]] w (Ans (.bool (formB t)) w) := by
  obtain ⟨pa, ca, pp, cp, rfl, rfl⟩ := hv.open
  have HV := Lib.hid hv
  have H2 := Lib.hid (fivB_new w (.int .i64 t.op) (.string t.atom.name) (.slice pa t.atom.args.length ca) (.string t.var) (.slice pp t.parts.length cp) 34 _ rfl)
  have HB0 := Lib.hid ((Below.refl w.heap.size w).alloc (Nat.le_refl _) (.cells #[.int .i64 t.op, .string t.atom.name, .slice pa t.atom.args.length ca, .string t.var, .slice pp t.parts.length cp] 34))
  obtain ⟨b0, b1, b2, b3, b4, b5⟩ := H2.out
  have hlen := Nat.le_trans t.wt_len hw
  have hvs : t.var.size ≤ maxLen := by have := t.wt_var; unfold maxLen; omega
  have CV := Lib.hid (fun W => isVar_any t.var W hvs)
  have CA : Hid (∀ W, Below w.heap.size w W → Calls Tryz.prog 109 #[.agg #[.string t.atom.name, .slice pa t.atom.args.length ca]] W (Ans (.bool (atomB t.atom)) W)) := Lib.hid (fun W hW => validAtom_any t.atom W _ (HV.out.1.kept hW) (Nat.le_trans t.wt_atom hw))
  clear hv hvs
  obtain ⟨s1, s2⟩ := str_none hA
  have HN := Lib.hid (noneB_yes hA hB)
  have n0 : ((t.atom.args.length : Int) == 0) = true := by rw [beq_iff_eq]; omega
  clear hA hB
  have HJ := Lib.hid hj
  have HF := Lib.hid (formB_4 hj)
  clear hj
  by_cases hz : t.var.size = 0
  · obtain ⟨u1, u2⟩ := str_none hz
    have HZ : Hid (decide (t.var.size = 0) = true) := Lib.hid (by simp [hz])
    clear hz
    have taw := ta_4w
    have taa := ta_4a
    have tap := ta_4p
    go_enter Tryz.func79, Tryz.ntmps79
    go_wp2_with fail
    refine (notation_4 _ _ HJ.out).mono ?_
    rintro e w' ⟨rfl, rfl⟩
    by_cases hn : t.parts.length = 1
    · have n1 : ((t.parts.length : Int) == 1) = true := by rw [beq_iff_eq]; omega
      have HG : Hid (formB t = true) := Lib.hid (by rw [HF.out, HN.out, HZ.out]; simp [hn])
      clear hn
      go_wp2
      go_ret
      exact ⟨ret_bool HG.out.symm, HB0.out⟩
    · have n1 : ((t.parts.length : Int) == 1) = false := by rw [beq_eq_false_iff_ne]; omega
      have HG : Hid (formB t = false) := Lib.hid (by rw [HF.out, HN.out, HZ.out]; simp [hn])
      clear hn
      go_wp2
      go_ret
      exact ⟨ret_bool HG.out.symm, HB0.out⟩
  · obtain ⟨u1, u2⟩ := str_some hz
    have HZ : Hid (decide (t.var.size = 0) = false) := Lib.hid (by simp [hz])
    clear hz
    have HG : Hid (formB t = false) := Lib.hid (by rw [HF.out, HZ.out]; simp)
    have taw := ta_4w
    have taa := ta_4a
    have tap := ta_4p
    go_enter Tryz.func79, Tryz.ntmps79
    go_wp2_with fail
    refine (notation_4 _ _ HJ.out).mono ?_
    rintro e w' ⟨rfl, rfl⟩
    go_wp2
    go_ret
    exact ⟨ret_bool HG.out.symm, HB0.out⟩

set_option maxRecDepth 100000 in
set_option maxHeartbeats 2000000 in
theorem hasForm_4A1 (t : Fm) (w : World) (va vp : Value) (hv : FmV w va vp t) (hw : t.wt ≤ 1048576) (hj : t.op = 4) (hA : t.atom.name.size = 0) (hB : ¬ t.atom.args.length = 0) :
    Calls Tryz.prog 79 #[.agg #[.int .i64 t.op, .string t.atom.name, va, .string t.var, vp]] w (Ans (.bool (formB t)) w) := by
  obtain ⟨pa, ca, pp, cp, rfl, rfl⟩ := hv.open
  have HV := Lib.hid hv
  have H2 := Lib.hid (fivB_new w (.int .i64 t.op) (.string t.atom.name) (.slice pa t.atom.args.length ca) (.string t.var) (.slice pp t.parts.length cp) 34 _ rfl)
  have HB0 := Lib.hid ((Below.refl w.heap.size w).alloc (Nat.le_refl _) (.cells #[.int .i64 t.op, .string t.atom.name, .slice pa t.atom.args.length ca, .string t.var, .slice pp t.parts.length cp] 34))
  obtain ⟨b0, b1, b2, b3, b4, b5⟩ := H2.out
  have hlen := Nat.le_trans t.wt_len hw
  have hvs : t.var.size ≤ maxLen := by have := t.wt_var; unfold maxLen; omega
  have CV := Lib.hid (fun W => isVar_any t.var W hvs)
  have CA : Hid (∀ W, Below w.heap.size w W → Calls Tryz.prog 109 #[.agg #[.string t.atom.name, .slice pa t.atom.args.length ca]] W (Ans (.bool (atomB t.atom)) W)) := Lib.hid (fun W hW => validAtom_any t.atom W _ (HV.out.1.kept hW) (Nat.le_trans t.wt_atom hw))
  clear hv hvs
  obtain ⟨s1, s2⟩ := str_none hA
  have HN := Lib.hid (noneB_no2 hB)
  have n0 : ((t.atom.args.length : Int) == 0) = false := by rw [beq_eq_false_iff_ne]; omega
  clear hA hB
  have HJ := Lib.hid hj
  have HF := Lib.hid (formB_4 hj)
  clear hj
  by_cases hz : t.var.size = 0
  · obtain ⟨u1, u2⟩ := str_none hz
    have HZ : Hid (decide (t.var.size = 0) = true) := Lib.hid (by simp [hz])
    clear hz
    have HG : Hid (formB t = false) := Lib.hid (by rw [HF.out, HN.out]; simp)
    have taw := ta_4w
    have taa := ta_4a
    have tap := ta_4p
    go_enter Tryz.func79, Tryz.ntmps79
    go_wp2_with fail
    refine (notation_4 _ _ HJ.out).mono ?_
    rintro e w' ⟨rfl, rfl⟩
    go_wp2
    go_ret
    exact ⟨ret_bool HG.out.symm, HB0.out⟩
  · obtain ⟨u1, u2⟩ := str_some hz
    have HZ : Hid (decide (t.var.size = 0) = false) := Lib.hid (by simp [hz])
    clear hz
    have HG : Hid (formB t = false) := Lib.hid (by rw [HF.out, HN.out]; simp)
    have taw := ta_4w
    have taa := ta_4a
    have tap := ta_4p
    go_enter Tryz.func79, Tryz.ntmps79
    go_wp2_with fail
    refine (notation_4 _ _ HJ.out).mono ?_
    rintro e w' ⟨rfl, rfl⟩
    go_wp2
    go_ret
    exact ⟨ret_bool HG.out.symm, HB0.out⟩

set_option maxRecDepth 100000 in
set_option maxHeartbeats 2000000 in
theorem hasForm_4A2 (t : Fm) (w : World) (va vp : Value) (hv : FmV w va vp t) (hw : t.wt ≤ 1048576) (hj : t.op = 4) (hA : ¬ t.atom.name.size = 0) :
    Calls Tryz.prog 79 #[.agg #[.int .i64 t.op, .string t.atom.name, va, .string t.var, vp]] w (Ans (.bool (formB t)) w) := by
  obtain ⟨pa, ca, pp, cp, rfl, rfl⟩ := hv.open
  have HV := Lib.hid hv
  have H2 := Lib.hid (fivB_new w (.int .i64 t.op) (.string t.atom.name) (.slice pa t.atom.args.length ca) (.string t.var) (.slice pp t.parts.length cp) 34 _ rfl)
  have HB0 := Lib.hid ((Below.refl w.heap.size w).alloc (Nat.le_refl _) (.cells #[.int .i64 t.op, .string t.atom.name, .slice pa t.atom.args.length ca, .string t.var, .slice pp t.parts.length cp] 34))
  obtain ⟨b0, b1, b2, b3, b4, b5⟩ := H2.out
  have hlen := Nat.le_trans t.wt_len hw
  have hvs : t.var.size ≤ maxLen := by have := t.wt_var; unfold maxLen; omega
  have CV := Lib.hid (fun W => isVar_any t.var W hvs)
  have CA : Hid (∀ W, Below w.heap.size w W → Calls Tryz.prog 109 #[.agg #[.string t.atom.name, .slice pa t.atom.args.length ca]] W (Ans (.bool (atomB t.atom)) W)) := Lib.hid (fun W hW => validAtom_any t.atom W _ (HV.out.1.kept hW) (Nat.le_trans t.wt_atom hw))
  clear hv hvs
  obtain ⟨s1, s2⟩ := str_some hA
  have HN := Lib.hid (noneB_no1 hA)
  clear hA
  have HJ := Lib.hid hj
  have HF := Lib.hid (formB_4 hj)
  clear hj
  by_cases hz : t.var.size = 0
  · obtain ⟨u1, u2⟩ := str_none hz
    have HZ : Hid (decide (t.var.size = 0) = true) := Lib.hid (by simp [hz])
    clear hz
    have HG : Hid (formB t = false) := Lib.hid (by rw [HF.out, HN.out]; simp)
    have taw := ta_4w
    have taa := ta_4a
    have tap := ta_4p
    go_enter Tryz.func79, Tryz.ntmps79
    go_wp2_with fail
    refine (notation_4 _ _ HJ.out).mono ?_
    rintro e w' ⟨rfl, rfl⟩
    go_wp2
    go_ret
    exact ⟨ret_bool HG.out.symm, HB0.out⟩
  · obtain ⟨u1, u2⟩ := str_some hz
    have HZ : Hid (decide (t.var.size = 0) = false) := Lib.hid (by simp [hz])
    clear hz
    have HG : Hid (formB t = false) := Lib.hid (by rw [HF.out, HN.out]; simp)
    have taw := ta_4w
    have taa := ta_4a
    have tap := ta_4p
    go_enter Tryz.func79, Tryz.ntmps79
    go_wp2_with fail
    refine (notation_4 _ _ HJ.out).mono ?_
    rintro e w' ⟨rfl, rfl⟩
    go_wp2
    go_ret
    exact ⟨ret_bool HG.out.symm, HB0.out⟩

set_option maxRecDepth 100000 in
set_option maxHeartbeats 2000000 in
theorem hasForm_5A0 (t : Fm) (w : World) (va vp : Value) (hv : FmV w va vp t) (hw : t.wt ≤ 1048576) (hj : t.op = 5) (hA : t.atom.name.size = 0) (hB : t.atom.args.length = 0) :
    Calls Tryz.prog 79 #[.agg #[.int .i64 t.op, .string t.atom.name, va, .string t.var, vp]] w (Ans (.bool (formB t)) w) := by
  obtain ⟨pa, ca, pp, cp, rfl, rfl⟩ := hv.open
  have HV := Lib.hid hv
  have H2 := Lib.hid (fivB_new w (.int .i64 t.op) (.string t.atom.name) (.slice pa t.atom.args.length ca) (.string t.var) (.slice pp t.parts.length cp) 34 _ rfl)
  have HB0 := Lib.hid ((Below.refl w.heap.size w).alloc (Nat.le_refl _) (.cells #[.int .i64 t.op, .string t.atom.name, .slice pa t.atom.args.length ca, .string t.var, .slice pp t.parts.length cp] 34))
  obtain ⟨b0, b1, b2, b3, b4, b5⟩ := H2.out
  have hlen := Nat.le_trans t.wt_len hw
  have hvs : t.var.size ≤ maxLen := by have := t.wt_var; unfold maxLen; omega
  have CV := Lib.hid (fun W => isVar_any t.var W hvs)
  have CA : Hid (∀ W, Below w.heap.size w W → Calls Tryz.prog 109 #[.agg #[.string t.atom.name, .slice pa t.atom.args.length ca]] W (Ans (.bool (atomB t.atom)) W)) := Lib.hid (fun W hW => validAtom_any t.atom W _ (HV.out.1.kept hW) (Nat.le_trans t.wt_atom hw))
  clear hv hvs
  obtain ⟨s1, s2⟩ := str_none hA
  have HN := Lib.hid (noneB_yes hA hB)
  have n0 : ((t.atom.args.length : Int) == 0) = true := by rw [beq_iff_eq]; omega
  clear hA hB
  have HJ := Lib.hid hj
  have HF := Lib.hid (formB_5 hj)
  clear hj
  by_cases hz : t.var.size = 0
  · obtain ⟨u1, u2⟩ := str_none hz
    have HZ : Hid (decide (t.var.size = 0) = true) := Lib.hid (by simp [hz])
    clear hz
    have taw := ta_5w
    have taa := ta_5a
    have tap := ta_5p
    have tai := ta_5i
    go_enter Tryz.func79, Tryz.ntmps79
    go_wp2_with fail
    refine (notation_5 _ _ HJ.out).mono ?_
    rintro e w' ⟨rfl, rfl⟩
    by_cases hn : t.parts.length = 2
    · have n1 : ((t.parts.length : Int) == 2) = true := by rw [beq_iff_eq]; omega
      have HG : Hid (formB t = true) := Lib.hid (by rw [HF.out, HN.out, HZ.out]; simp [hn])
      clear hn
      go_wp2
      go_ret
      exact ⟨ret_bool HG.out.symm, HB0.out⟩
    · have n1 : ((t.parts.length : Int) == 2) = false := by rw [beq_eq_false_iff_ne]; omega
      have HG : Hid (formB t = false) := Lib.hid (by rw [HF.out, HN.out, HZ.out]; simp [hn])
      clear hn
      go_wp2
      go_ret
      exact ⟨ret_bool HG.out.symm, HB0.out⟩
  · obtain ⟨u1, u2⟩ := str_some hz
    have HZ : Hid (decide (t.var.size = 0) = false) := Lib.hid (by simp [hz])
    clear hz
    have HG : Hid (formB t = false) := Lib.hid (by rw [HF.out, HZ.out]; simp)
    have taw := ta_5w
    have taa := ta_5a
    have tap := ta_5p
    have tai := ta_5i
    go_enter Tryz.func79, Tryz.ntmps79
    go_wp2_with fail
    refine (notation_5 _ _ HJ.out).mono ?_
    rintro e w' ⟨rfl, rfl⟩
    go_wp2
    go_ret
    exact ⟨ret_bool HG.out.symm, HB0.out⟩

set_option maxRecDepth 100000 in
set_option maxHeartbeats 2000000 in
theorem hasForm_5A1 (t : Fm) (w : World) (va vp : Value) (hv : FmV w va vp t) (hw : t.wt ≤ 1048576) (hj : t.op = 5) (hA : t.atom.name.size = 0) (hB : ¬ t.atom.args.length = 0) :
    Calls Tryz.prog 79 #[.agg #[.int .i64 t.op, .string t.atom.name, va, .string t.var, vp]] w (Ans (.bool (formB t)) w) := by
  obtain ⟨pa, ca, pp, cp, rfl, rfl⟩ := hv.open
  have HV := Lib.hid hv
  have H2 := Lib.hid (fivB_new w (.int .i64 t.op) (.string t.atom.name) (.slice pa t.atom.args.length ca) (.string t.var) (.slice pp t.parts.length cp) 34 _ rfl)
  have HB0 := Lib.hid ((Below.refl w.heap.size w).alloc (Nat.le_refl _) (.cells #[.int .i64 t.op, .string t.atom.name, .slice pa t.atom.args.length ca, .string t.var, .slice pp t.parts.length cp] 34))
  obtain ⟨b0, b1, b2, b3, b4, b5⟩ := H2.out
  have hlen := Nat.le_trans t.wt_len hw
  have hvs : t.var.size ≤ maxLen := by have := t.wt_var; unfold maxLen; omega
  have CV := Lib.hid (fun W => isVar_any t.var W hvs)
  have CA : Hid (∀ W, Below w.heap.size w W → Calls Tryz.prog 109 #[.agg #[.string t.atom.name, .slice pa t.atom.args.length ca]] W (Ans (.bool (atomB t.atom)) W)) := Lib.hid (fun W hW => validAtom_any t.atom W _ (HV.out.1.kept hW) (Nat.le_trans t.wt_atom hw))
  clear hv hvs
  obtain ⟨s1, s2⟩ := str_none hA
  have HN := Lib.hid (noneB_no2 hB)
  have n0 : ((t.atom.args.length : Int) == 0) = false := by rw [beq_eq_false_iff_ne]; omega
  clear hA hB
  have HJ := Lib.hid hj
  have HF := Lib.hid (formB_5 hj)
  clear hj
  by_cases hz : t.var.size = 0
  · obtain ⟨u1, u2⟩ := str_none hz
    have HZ : Hid (decide (t.var.size = 0) = true) := Lib.hid (by simp [hz])
    clear hz
    have HG : Hid (formB t = false) := Lib.hid (by rw [HF.out, HN.out]; simp)
    have taw := ta_5w
    have taa := ta_5a
    have tap := ta_5p
    have tai := ta_5i
    go_enter Tryz.func79, Tryz.ntmps79
    go_wp2_with fail
    refine (notation_5 _ _ HJ.out).mono ?_
    rintro e w' ⟨rfl, rfl⟩
    go_wp2
    go_ret
    exact ⟨ret_bool HG.out.symm, HB0.out⟩
  · obtain ⟨u1, u2⟩ := str_some hz
    have HZ : Hid (decide (t.var.size = 0) = false) := Lib.hid (by simp [hz])
    clear hz
    have HG : Hid (formB t = false) := Lib.hid (by rw [HF.out, HN.out]; simp)
    have taw := ta_5w
    have taa := ta_5a
    have tap := ta_5p
    have tai := ta_5i
    go_enter Tryz.func79, Tryz.ntmps79
    go_wp2_with fail
    refine (notation_5 _ _ HJ.out).mono ?_
    rintro e w' ⟨rfl, rfl⟩
    go_wp2
    go_ret
    exact ⟨ret_bool HG.out.symm, HB0.out⟩

set_option maxRecDepth 100000 in
set_option maxHeartbeats 2000000 in
theorem hasForm_5A2 (t : Fm) (w : World) (va vp : Value) (hv : FmV w va vp t) (hw : t.wt ≤ 1048576) (hj : t.op = 5) (hA : ¬ t.atom.name.size = 0) :
    Calls Tryz.prog 79 #[.agg #[.int .i64 t.op, .string t.atom.name, va, .string t.var, vp]] w (Ans (.bool (formB t)) w) := by
  obtain ⟨pa, ca, pp, cp, rfl, rfl⟩ := hv.open
  have HV := Lib.hid hv
  have H2 := Lib.hid (fivB_new w (.int .i64 t.op) (.string t.atom.name) (.slice pa t.atom.args.length ca) (.string t.var) (.slice pp t.parts.length cp) 34 _ rfl)
  have HB0 := Lib.hid ((Below.refl w.heap.size w).alloc (Nat.le_refl _) (.cells #[.int .i64 t.op, .string t.atom.name, .slice pa t.atom.args.length ca, .string t.var, .slice pp t.parts.length cp] 34))
  obtain ⟨b0, b1, b2, b3, b4, b5⟩ := H2.out
  have hlen := Nat.le_trans t.wt_len hw
  have hvs : t.var.size ≤ maxLen := by have := t.wt_var; unfold maxLen; omega
  have CV := Lib.hid (fun W => isVar_any t.var W hvs)
  have CA : Hid (∀ W, Below w.heap.size w W → Calls Tryz.prog 109 #[.agg #[.string t.atom.name, .slice pa t.atom.args.length ca]] W (Ans (.bool (atomB t.atom)) W)) := Lib.hid (fun W hW => validAtom_any t.atom W _ (HV.out.1.kept hW) (Nat.le_trans t.wt_atom hw))
  clear hv hvs
  obtain ⟨s1, s2⟩ := str_some hA
  have HN := Lib.hid (noneB_no1 hA)
  clear hA
  have HJ := Lib.hid hj
  have HF := Lib.hid (formB_5 hj)
  clear hj
  by_cases hz : t.var.size = 0
  · obtain ⟨u1, u2⟩ := str_none hz
    have HZ : Hid (decide (t.var.size = 0) = true) := Lib.hid (by simp [hz])
    clear hz
    have HG : Hid (formB t = false) := Lib.hid (by rw [HF.out, HN.out]; simp)
    have taw := ta_5w
    have taa := ta_5a
    have tap := ta_5p
    have tai := ta_5i
    go_enter Tryz.func79, Tryz.ntmps79
    go_wp2_with fail
    refine (notation_5 _ _ HJ.out).mono ?_
    rintro e w' ⟨rfl, rfl⟩
    go_wp2
    go_ret
    exact ⟨ret_bool HG.out.symm, HB0.out⟩
  · obtain ⟨u1, u2⟩ := str_some hz
    have HZ : Hid (decide (t.var.size = 0) = false) := Lib.hid (by simp [hz])
    clear hz
    have HG : Hid (formB t = false) := Lib.hid (by rw [HF.out, HN.out]; simp)
    have taw := ta_5w
    have taa := ta_5a
    have tap := ta_5p
    have tai := ta_5i
    go_enter Tryz.func79, Tryz.ntmps79
    go_wp2_with fail
    refine (notation_5 _ _ HJ.out).mono ?_
    rintro e w' ⟨rfl, rfl⟩
    go_wp2
    go_ret
    exact ⟨ret_bool HG.out.symm, HB0.out⟩

set_option maxRecDepth 100000 in
set_option maxHeartbeats 2000000 in
theorem hasForm_6A0 (t : Fm) (w : World) (va vp : Value) (hv : FmV w va vp t) (hw : t.wt ≤ 1048576) (hj : t.op = 6) (hA : t.atom.name.size = 0) (hB : t.atom.args.length = 0) :
    Calls Tryz.prog 79 #[.agg #[.int .i64 t.op, .string t.atom.name, va, .string t.var, vp]] w (Ans (.bool (formB t)) w) := by
  obtain ⟨pa, ca, pp, cp, rfl, rfl⟩ := hv.open
  have HV := Lib.hid hv
  have H2 := Lib.hid (fivB_new w (.int .i64 t.op) (.string t.atom.name) (.slice pa t.atom.args.length ca) (.string t.var) (.slice pp t.parts.length cp) 34 _ rfl)
  have HB0 := Lib.hid ((Below.refl w.heap.size w).alloc (Nat.le_refl _) (.cells #[.int .i64 t.op, .string t.atom.name, .slice pa t.atom.args.length ca, .string t.var, .slice pp t.parts.length cp] 34))
  obtain ⟨b0, b1, b2, b3, b4, b5⟩ := H2.out
  have hlen := Nat.le_trans t.wt_len hw
  have hvs : t.var.size ≤ maxLen := by have := t.wt_var; unfold maxLen; omega
  have CV := Lib.hid (fun W => isVar_any t.var W hvs)
  have CA : Hid (∀ W, Below w.heap.size w W → Calls Tryz.prog 109 #[.agg #[.string t.atom.name, .slice pa t.atom.args.length ca]] W (Ans (.bool (atomB t.atom)) W)) := Lib.hid (fun W hW => validAtom_any t.atom W _ (HV.out.1.kept hW) (Nat.le_trans t.wt_atom hw))
  clear hv hvs
  obtain ⟨s1, s2⟩ := str_none hA
  have HN := Lib.hid (noneB_yes hA hB)
  have n0 : ((t.atom.args.length : Int) == 0) = true := by rw [beq_iff_eq]; omega
  clear hA hB
  have HJ := Lib.hid hj
  have HF := Lib.hid (formB_6 hj)
  clear hj
  by_cases hz : t.var.size = 0
  · obtain ⟨u1, u2⟩ := str_none hz
    have HZ : Hid (decide (t.var.size = 0) = true) := Lib.hid (by simp [hz])
    clear hz
    have taw := ta_6w
    have taa := ta_6a
    have tap := ta_6p
    have tai := ta_6i
    go_enter Tryz.func79, Tryz.ntmps79
    go_wp2_with fail
    refine (notation_6 _ _ HJ.out).mono ?_
    rintro e w' ⟨rfl, rfl⟩
    by_cases hn : t.parts.length = 2
    · have n1 : ((t.parts.length : Int) == 2) = true := by rw [beq_iff_eq]; omega
      have HG : Hid (formB t = true) := Lib.hid (by rw [HF.out, HN.out, HZ.out]; simp [hn])
      clear hn
      go_wp2
      go_ret
      exact ⟨ret_bool HG.out.symm, HB0.out⟩
    · have n1 : ((t.parts.length : Int) == 2) = false := by rw [beq_eq_false_iff_ne]; omega
      have HG : Hid (formB t = false) := Lib.hid (by rw [HF.out, HN.out, HZ.out]; simp [hn])
      clear hn
      go_wp2
      go_ret
      exact ⟨ret_bool HG.out.symm, HB0.out⟩
  · obtain ⟨u1, u2⟩ := str_some hz
    have HZ : Hid (decide (t.var.size = 0) = false) := Lib.hid (by simp [hz])
    clear hz
    have HG : Hid (formB t = false) := Lib.hid (by rw [HF.out, HZ.out]; simp)
    have taw := ta_6w
    have taa := ta_6a
    have tap := ta_6p
    have tai := ta_6i
    go_enter Tryz.func79, Tryz.ntmps79
    go_wp2_with fail
    refine (notation_6 _ _ HJ.out).mono ?_
    rintro e w' ⟨rfl, rfl⟩
    go_wp2
    go_ret
    exact ⟨ret_bool HG.out.symm, HB0.out⟩

set_option maxRecDepth 100000 in
set_option maxHeartbeats 2000000 in
theorem hasForm_6A1 (t : Fm) (w : World) (va vp : Value) (hv : FmV w va vp t) (hw : t.wt ≤ 1048576) (hj : t.op = 6) (hA : t.atom.name.size = 0) (hB : ¬ t.atom.args.length = 0) :
    Calls Tryz.prog 79 #[.agg #[.int .i64 t.op, .string t.atom.name, va, .string t.var, vp]] w (Ans (.bool (formB t)) w) := by
  obtain ⟨pa, ca, pp, cp, rfl, rfl⟩ := hv.open
  have HV := Lib.hid hv
  have H2 := Lib.hid (fivB_new w (.int .i64 t.op) (.string t.atom.name) (.slice pa t.atom.args.length ca) (.string t.var) (.slice pp t.parts.length cp) 34 _ rfl)
  have HB0 := Lib.hid ((Below.refl w.heap.size w).alloc (Nat.le_refl _) (.cells #[.int .i64 t.op, .string t.atom.name, .slice pa t.atom.args.length ca, .string t.var, .slice pp t.parts.length cp] 34))
  obtain ⟨b0, b1, b2, b3, b4, b5⟩ := H2.out
  have hlen := Nat.le_trans t.wt_len hw
  have hvs : t.var.size ≤ maxLen := by have := t.wt_var; unfold maxLen; omega
  have CV := Lib.hid (fun W => isVar_any t.var W hvs)
  have CA : Hid (∀ W, Below w.heap.size w W → Calls Tryz.prog 109 #[.agg #[.string t.atom.name, .slice pa t.atom.args.length ca]] W (Ans (.bool (atomB t.atom)) W)) := Lib.hid (fun W hW => validAtom_any t.atom W _ (HV.out.1.kept hW) (Nat.le_trans t.wt_atom hw))
  clear hv hvs
  obtain ⟨s1, s2⟩ := str_none hA
  have HN := Lib.hid (noneB_no2 hB)
  have n0 : ((t.atom.args.length : Int) == 0) = false := by rw [beq_eq_false_iff_ne]; omega
  clear hA hB
  have HJ := Lib.hid hj
  have HF := Lib.hid (formB_6 hj)
  clear hj
  by_cases hz : t.var.size = 0
  · obtain ⟨u1, u2⟩ := str_none hz
    have HZ : Hid (decide (t.var.size = 0) = true) := Lib.hid (by simp [hz])
    clear hz
    have HG : Hid (formB t = false) := Lib.hid (by rw [HF.out, HN.out]; simp)
    have taw := ta_6w
    have taa := ta_6a
    have tap := ta_6p
    have tai := ta_6i
    go_enter Tryz.func79, Tryz.ntmps79
    go_wp2_with fail
    refine (notation_6 _ _ HJ.out).mono ?_
    rintro e w' ⟨rfl, rfl⟩
    go_wp2
    go_ret
    exact ⟨ret_bool HG.out.symm, HB0.out⟩
  · obtain ⟨u1, u2⟩ := str_some hz
    have HZ : Hid (decide (t.var.size = 0) = false) := Lib.hid (by simp [hz])
    clear hz
    have HG : Hid (formB t = false) := Lib.hid (by rw [HF.out, HN.out]; simp)
    have taw := ta_6w
    have taa := ta_6a
    have tap := ta_6p
    have tai := ta_6i
    go_enter Tryz.func79, Tryz.ntmps79
    go_wp2_with fail
    refine (notation_6 _ _ HJ.out).mono ?_
    rintro e w' ⟨rfl, rfl⟩
    go_wp2
    go_ret
    exact ⟨ret_bool HG.out.symm, HB0.out⟩

set_option maxRecDepth 100000 in
set_option maxHeartbeats 2000000 in
theorem hasForm_6A2 (t : Fm) (w : World) (va vp : Value) (hv : FmV w va vp t) (hw : t.wt ≤ 1048576) (hj : t.op = 6) (hA : ¬ t.atom.name.size = 0) :
    Calls Tryz.prog 79 #[.agg #[.int .i64 t.op, .string t.atom.name, va, .string t.var, vp]] w (Ans (.bool (formB t)) w) := by
  obtain ⟨pa, ca, pp, cp, rfl, rfl⟩ := hv.open
  have HV := Lib.hid hv
  have H2 := Lib.hid (fivB_new w (.int .i64 t.op) (.string t.atom.name) (.slice pa t.atom.args.length ca) (.string t.var) (.slice pp t.parts.length cp) 34 _ rfl)
  have HB0 := Lib.hid ((Below.refl w.heap.size w).alloc (Nat.le_refl _) (.cells #[.int .i64 t.op, .string t.atom.name, .slice pa t.atom.args.length ca, .string t.var, .slice pp t.parts.length cp] 34))
  obtain ⟨b0, b1, b2, b3, b4, b5⟩ := H2.out
  have hlen := Nat.le_trans t.wt_len hw
  have hvs : t.var.size ≤ maxLen := by have := t.wt_var; unfold maxLen; omega
  have CV := Lib.hid (fun W => isVar_any t.var W hvs)
  have CA : Hid (∀ W, Below w.heap.size w W → Calls Tryz.prog 109 #[.agg #[.string t.atom.name, .slice pa t.atom.args.length ca]] W (Ans (.bool (atomB t.atom)) W)) := Lib.hid (fun W hW => validAtom_any t.atom W _ (HV.out.1.kept hW) (Nat.le_trans t.wt_atom hw))
  clear hv hvs
  obtain ⟨s1, s2⟩ := str_some hA
  have HN := Lib.hid (noneB_no1 hA)
  clear hA
  have HJ := Lib.hid hj
  have HF := Lib.hid (formB_6 hj)
  clear hj
  by_cases hz : t.var.size = 0
  · obtain ⟨u1, u2⟩ := str_none hz
    have HZ : Hid (decide (t.var.size = 0) = true) := Lib.hid (by simp [hz])
    clear hz
    have HG : Hid (formB t = false) := Lib.hid (by rw [HF.out, HN.out]; simp)
    have taw := ta_6w
    have taa := ta_6a
    have tap := ta_6p
    have tai := ta_6i
    go_enter Tryz.func79, Tryz.ntmps79
    go_wp2_with fail
    refine (notation_6 _ _ HJ.out).mono ?_
    rintro e w' ⟨rfl, rfl⟩
    go_wp2
    go_ret
    exact ⟨ret_bool HG.out.symm, HB0.out⟩
  · obtain ⟨u1, u2⟩ := str_some hz
    have HZ : Hid (decide (t.var.size = 0) = false) := Lib.hid (by simp [hz])
    clear hz
    have HG : Hid (formB t = false) := Lib.hid (by rw [HF.out, HN.out]; simp)
    have taw := ta_6w
    have taa := ta_6a
    have tap := ta_6p
    have tai := ta_6i
    go_enter Tryz.func79, Tryz.ntmps79
    go_wp2_with fail
    refine (notation_6 _ _ HJ.out).mono ?_
    rintro e w' ⟨rfl, rfl⟩
    go_wp2
    go_ret
    exact ⟨ret_bool HG.out.symm, HB0.out⟩

set_option maxRecDepth 100000 in
set_option maxHeartbeats 2000000 in
theorem hasForm_7A0 (t : Fm) (w : World) (va vp : Value) (hv : FmV w va vp t) (hw : t.wt ≤ 1048576) (hj : t.op = 7) (hA : t.atom.name.size = 0) (hB : t.atom.args.length = 0) :
    Calls Tryz.prog 79 #[.agg #[.int .i64 t.op, .string t.atom.name, va, .string t.var, vp]] w (Ans (.bool (formB t)) w) := by
  obtain ⟨pa, ca, pp, cp, rfl, rfl⟩ := hv.open
  have HV := Lib.hid hv
  have H2 := Lib.hid (fivB_new w (.int .i64 t.op) (.string t.atom.name) (.slice pa t.atom.args.length ca) (.string t.var) (.slice pp t.parts.length cp) 34 _ rfl)
  have HB0 := Lib.hid ((Below.refl w.heap.size w).alloc (Nat.le_refl _) (.cells #[.int .i64 t.op, .string t.atom.name, .slice pa t.atom.args.length ca, .string t.var, .slice pp t.parts.length cp] 34))
  obtain ⟨b0, b1, b2, b3, b4, b5⟩ := H2.out
  have hlen := Nat.le_trans t.wt_len hw
  have hvs : t.var.size ≤ maxLen := by have := t.wt_var; unfold maxLen; omega
  have CV := Lib.hid (fun W => isVar_any t.var W hvs)
  have CA : Hid (∀ W, Below w.heap.size w W → Calls Tryz.prog 109 #[.agg #[.string t.atom.name, .slice pa t.atom.args.length ca]] W (Ans (.bool (atomB t.atom)) W)) := Lib.hid (fun W hW => validAtom_any t.atom W _ (HV.out.1.kept hW) (Nat.le_trans t.wt_atom hw))
  clear hv hvs
  obtain ⟨s1, s2⟩ := str_none hA
  have HN := Lib.hid (noneB_yes hA hB)
  have n0 : ((t.atom.args.length : Int) == 0) = true := by rw [beq_iff_eq]; omega
  clear hA hB
  have HJ := Lib.hid hj
  have HF := Lib.hid (formB_7 hj)
  clear hj
  by_cases hz : t.var.size = 0
  · obtain ⟨u1, u2⟩ := str_none hz
    have HZ : Hid (decide (t.var.size = 0) = true) := Lib.hid (by simp [hz])
    clear hz
    have taw := ta_7w
    have taa := ta_7a
    have tap := ta_7p
    have tai := ta_7i
    go_enter Tryz.func79, Tryz.ntmps79
    go_wp2_with fail
    refine (notation_7 _ _ HJ.out).mono ?_
    rintro e w' ⟨rfl, rfl⟩
    by_cases hn : t.parts.length = 2
    · have n1 : ((t.parts.length : Int) == 2) = true := by rw [beq_iff_eq]; omega
      have HG : Hid (formB t = true) := Lib.hid (by rw [HF.out, HN.out, HZ.out]; simp [hn])
      clear hn
      go_wp2
      go_ret
      exact ⟨ret_bool HG.out.symm, HB0.out⟩
    · have n1 : ((t.parts.length : Int) == 2) = false := by rw [beq_eq_false_iff_ne]; omega
      have HG : Hid (formB t = false) := Lib.hid (by rw [HF.out, HN.out, HZ.out]; simp [hn])
      clear hn
      go_wp2
      go_ret
      exact ⟨ret_bool HG.out.symm, HB0.out⟩
  · obtain ⟨u1, u2⟩ := str_some hz
    have HZ : Hid (decide (t.var.size = 0) = false) := Lib.hid (by simp [hz])
    clear hz
    have HG : Hid (formB t = false) := Lib.hid (by rw [HF.out, HZ.out]; simp)
    have taw := ta_7w
    have taa := ta_7a
    have tap := ta_7p
    have tai := ta_7i
    go_enter Tryz.func79, Tryz.ntmps79
    go_wp2_with fail
    refine (notation_7 _ _ HJ.out).mono ?_
    rintro e w' ⟨rfl, rfl⟩
    go_wp2
    go_ret
    exact ⟨ret_bool HG.out.symm, HB0.out⟩

set_option maxRecDepth 100000 in
set_option maxHeartbeats 2000000 in
theorem hasForm_7A1 (t : Fm) (w : World) (va vp : Value) (hv : FmV w va vp t) (hw : t.wt ≤ 1048576) (hj : t.op = 7) (hA : t.atom.name.size = 0) (hB : ¬ t.atom.args.length = 0) :
    Calls Tryz.prog 79 #[.agg #[.int .i64 t.op, .string t.atom.name, va, .string t.var, vp]] w (Ans (.bool (formB t)) w) := by
  obtain ⟨pa, ca, pp, cp, rfl, rfl⟩ := hv.open
  have HV := Lib.hid hv
  have H2 := Lib.hid (fivB_new w (.int .i64 t.op) (.string t.atom.name) (.slice pa t.atom.args.length ca) (.string t.var) (.slice pp t.parts.length cp) 34 _ rfl)
  have HB0 := Lib.hid ((Below.refl w.heap.size w).alloc (Nat.le_refl _) (.cells #[.int .i64 t.op, .string t.atom.name, .slice pa t.atom.args.length ca, .string t.var, .slice pp t.parts.length cp] 34))
  obtain ⟨b0, b1, b2, b3, b4, b5⟩ := H2.out
  have hlen := Nat.le_trans t.wt_len hw
  have hvs : t.var.size ≤ maxLen := by have := t.wt_var; unfold maxLen; omega
  have CV := Lib.hid (fun W => isVar_any t.var W hvs)
  have CA : Hid (∀ W, Below w.heap.size w W → Calls Tryz.prog 109 #[.agg #[.string t.atom.name, .slice pa t.atom.args.length ca]] W (Ans (.bool (atomB t.atom)) W)) := Lib.hid (fun W hW => validAtom_any t.atom W _ (HV.out.1.kept hW) (Nat.le_trans t.wt_atom hw))
  clear hv hvs
  obtain ⟨s1, s2⟩ := str_none hA
  have HN := Lib.hid (noneB_no2 hB)
  have n0 : ((t.atom.args.length : Int) == 0) = false := by rw [beq_eq_false_iff_ne]; omega
  clear hA hB
  have HJ := Lib.hid hj
  have HF := Lib.hid (formB_7 hj)
  clear hj
  by_cases hz : t.var.size = 0
  · obtain ⟨u1, u2⟩ := str_none hz
    have HZ : Hid (decide (t.var.size = 0) = true) := Lib.hid (by simp [hz])
    clear hz
    have HG : Hid (formB t = false) := Lib.hid (by rw [HF.out, HN.out]; simp)
    have taw := ta_7w
    have taa := ta_7a
    have tap := ta_7p
    have tai := ta_7i
    go_enter Tryz.func79, Tryz.ntmps79
    go_wp2_with fail
    refine (notation_7 _ _ HJ.out).mono ?_
    rintro e w' ⟨rfl, rfl⟩
    go_wp2
    go_ret
    exact ⟨ret_bool HG.out.symm, HB0.out⟩
  · obtain ⟨u1, u2⟩ := str_some hz
    have HZ : Hid (decide (t.var.size = 0) = false) := Lib.hid (by simp [hz])
    clear hz
    have HG : Hid (formB t = false) := Lib.hid (by rw [HF.out, HN.out]; simp)
    have taw := ta_7w
    have taa := ta_7a
    have tap := ta_7p
    have tai := ta_7i
    go_enter Tryz.func79, Tryz.ntmps79
    go_wp2_with fail
    refine (notation_7 _ _ HJ.out).mono ?_
    rintro e w' ⟨rfl, rfl⟩
    go_wp2
    go_ret
    exact ⟨ret_bool HG.out.symm, HB0.out⟩

set_option maxRecDepth 100000 in
set_option maxHeartbeats 2000000 in
theorem hasForm_7A2 (t : Fm) (w : World) (va vp : Value) (hv : FmV w va vp t) (hw : t.wt ≤ 1048576) (hj : t.op = 7) (hA : ¬ t.atom.name.size = 0) :
    Calls Tryz.prog 79 #[.agg #[.int .i64 t.op, .string t.atom.name, va, .string t.var, vp]] w (Ans (.bool (formB t)) w) := by
  obtain ⟨pa, ca, pp, cp, rfl, rfl⟩ := hv.open
  have HV := Lib.hid hv
  have H2 := Lib.hid (fivB_new w (.int .i64 t.op) (.string t.atom.name) (.slice pa t.atom.args.length ca) (.string t.var) (.slice pp t.parts.length cp) 34 _ rfl)
  have HB0 := Lib.hid ((Below.refl w.heap.size w).alloc (Nat.le_refl _) (.cells #[.int .i64 t.op, .string t.atom.name, .slice pa t.atom.args.length ca, .string t.var, .slice pp t.parts.length cp] 34))
  obtain ⟨b0, b1, b2, b3, b4, b5⟩ := H2.out
  have hlen := Nat.le_trans t.wt_len hw
  have hvs : t.var.size ≤ maxLen := by have := t.wt_var; unfold maxLen; omega
  have CV := Lib.hid (fun W => isVar_any t.var W hvs)
  have CA : Hid (∀ W, Below w.heap.size w W → Calls Tryz.prog 109 #[.agg #[.string t.atom.name, .slice pa t.atom.args.length ca]] W (Ans (.bool (atomB t.atom)) W)) := Lib.hid (fun W hW => validAtom_any t.atom W _ (HV.out.1.kept hW) (Nat.le_trans t.wt_atom hw))
  clear hv hvs
  obtain ⟨s1, s2⟩ := str_some hA
  have HN := Lib.hid (noneB_no1 hA)
  clear hA
  have HJ := Lib.hid hj
  have HF := Lib.hid (formB_7 hj)
  clear hj
  by_cases hz : t.var.size = 0
  · obtain ⟨u1, u2⟩ := str_none hz
    have HZ : Hid (decide (t.var.size = 0) = true) := Lib.hid (by simp [hz])
    clear hz
    have HG : Hid (formB t = false) := Lib.hid (by rw [HF.out, HN.out]; simp)
    have taw := ta_7w
    have taa := ta_7a
    have tap := ta_7p
    have tai := ta_7i
    go_enter Tryz.func79, Tryz.ntmps79
    go_wp2_with fail
    refine (notation_7 _ _ HJ.out).mono ?_
    rintro e w' ⟨rfl, rfl⟩
    go_wp2
    go_ret
    exact ⟨ret_bool HG.out.symm, HB0.out⟩
  · obtain ⟨u1, u2⟩ := str_some hz
    have HZ : Hid (decide (t.var.size = 0) = false) := Lib.hid (by simp [hz])
    clear hz
    have HG : Hid (formB t = false) := Lib.hid (by rw [HF.out, HN.out]; simp)
    have taw := ta_7w
    have taa := ta_7a
    have tap := ta_7p
    have tai := ta_7i
    go_enter Tryz.func79, Tryz.ntmps79
    go_wp2_with fail
    refine (notation_7 _ _ HJ.out).mono ?_
    rintro e w' ⟨rfl, rfl⟩
    go_wp2
    go_ret
    exact ⟨ret_bool HG.out.symm, HB0.out⟩

set_option maxRecDepth 100000 in
set_option maxHeartbeats 2000000 in
theorem hasForm_8A0 (t : Fm) (w : World) (va vp : Value) (hv : FmV w va vp t) (hw : t.wt ≤ 1048576) (hj : t.op = 8) (hA : t.atom.name.size = 0) (hB : t.atom.args.length = 0) :
    Calls Tryz.prog 79 #[.agg #[.int .i64 t.op, .string t.atom.name, va, .string t.var, vp]] w (Ans (.bool (formB t)) w) := by
  obtain ⟨pa, ca, pp, cp, rfl, rfl⟩ := hv.open
  have HV := Lib.hid hv
  have H2 := Lib.hid (fivB_new w (.int .i64 t.op) (.string t.atom.name) (.slice pa t.atom.args.length ca) (.string t.var) (.slice pp t.parts.length cp) 34 _ rfl)
  have HB0 := Lib.hid ((Below.refl w.heap.size w).alloc (Nat.le_refl _) (.cells #[.int .i64 t.op, .string t.atom.name, .slice pa t.atom.args.length ca, .string t.var, .slice pp t.parts.length cp] 34))
  obtain ⟨b0, b1, b2, b3, b4, b5⟩ := H2.out
  have hlen := Nat.le_trans t.wt_len hw
  have hvs : t.var.size ≤ maxLen := by have := t.wt_var; unfold maxLen; omega
  have CV := Lib.hid (fun W => isVar_any t.var W hvs)
  have CA : Hid (∀ W, Below w.heap.size w W → Calls Tryz.prog 109 #[.agg #[.string t.atom.name, .slice pa t.atom.args.length ca]] W (Ans (.bool (atomB t.atom)) W)) := Lib.hid (fun W hW => validAtom_any t.atom W _ (HV.out.1.kept hW) (Nat.le_trans t.wt_atom hw))
  clear hv hvs
  obtain ⟨s1, s2⟩ := str_none hA
  have HN := Lib.hid (noneB_yes hA hB)
  have n0 : ((t.atom.args.length : Int) == 0) = true := by rw [beq_iff_eq]; omega
  clear hA hB
  have HJ := Lib.hid hj
  have HF := Lib.hid (formB_8 hj)
  clear hj
  by_cases hz : t.var.size = 0
  · obtain ⟨u1, u2⟩ := str_none hz
    have HZ : Hid (decide (t.var.size = 0) = true) := Lib.hid (by simp [hz])
    clear hz
    have taw := ta_8w
    have taa := ta_8a
    have tap := ta_8p
    have tai := ta_8i
    have tab := ta_8b
    go_enter Tryz.func79, Tryz.ntmps79
    go_wp2_with fail
    refine (notation_8 _ _ HJ.out).mono ?_
    rintro e w' ⟨rfl, rfl⟩
    go_wp2_with fail
    refine (CV.out _).mono ?_
    rintro e w' ⟨rfl, rfl⟩
    cases ha : varB t.var
    · have HG : Hid (formB t = false) := Lib.hid (by rw [HF.out, ha]; simp)
      clear ha
      go_wp2
      go_ret
      exact ⟨ret_bool HG.out.symm, HB0.out⟩
    · skip
      by_cases hn : t.parts.length = 1
      · have n1 : ((t.parts.length : Int) == 1) = true := by rw [beq_iff_eq]; omega
        have HG : Hid (formB t = true) := Lib.hid (by rw [HF.out, ha, HN.out]; simp [hn])
        clear hn ha
        go_wp2
        go_ret
        exact ⟨ret_bool HG.out.symm, HB0.out⟩
      · have n1 : ((t.parts.length : Int) == 1) = false := by rw [beq_eq_false_iff_ne]; omega
        have HG : Hid (formB t = false) := Lib.hid (by rw [HF.out, ha, HN.out]; simp [hn])
        clear hn ha
        go_wp2
        go_ret
        exact ⟨ret_bool HG.out.symm, HB0.out⟩
  · obtain ⟨u1, u2⟩ := str_some hz
    have HZ : Hid (decide (t.var.size = 0) = false) := Lib.hid (by simp [hz])
    clear hz
    have taw := ta_8w
    have taa := ta_8a
    have tap := ta_8p
    have tai := ta_8i
    have tab := ta_8b
    go_enter Tryz.func79, Tryz.ntmps79
    go_wp2_with fail
    refine (notation_8 _ _ HJ.out).mono ?_
    rintro e w' ⟨rfl, rfl⟩
    go_wp2_with fail
    refine (CV.out _).mono ?_
    rintro e w' ⟨rfl, rfl⟩
    cases ha : varB t.var
    · have HG : Hid (formB t = false) := Lib.hid (by rw [HF.out, ha]; simp)
      clear ha
      go_wp2
      go_ret
      exact ⟨ret_bool HG.out.symm, HB0.out⟩
    · skip
      by_cases hn : t.parts.length = 1
      · have n1 : ((t.parts.length : Int) == 1) = true := by rw [beq_iff_eq]; omega
        have HG : Hid (formB t = true) := Lib.hid (by rw [HF.out, ha, HN.out]; simp [hn])
        clear hn ha
        go_wp2
        go_ret
        exact ⟨ret_bool HG.out.symm, HB0.out⟩
      · have n1 : ((t.parts.length : Int) == 1) = false := by rw [beq_eq_false_iff_ne]; omega
        have HG : Hid (formB t = false) := Lib.hid (by rw [HF.out, ha, HN.out]; simp [hn])
        clear hn ha
        go_wp2
        go_ret
        exact ⟨ret_bool HG.out.symm, HB0.out⟩

set_option maxRecDepth 100000 in
set_option maxHeartbeats 2000000 in
theorem hasForm_8A1 (t : Fm) (w : World) (va vp : Value) (hv : FmV w va vp t) (hw : t.wt ≤ 1048576) (hj : t.op = 8) (hA : t.atom.name.size = 0) (hB : ¬ t.atom.args.length = 0) :
    Calls Tryz.prog 79 #[.agg #[.int .i64 t.op, .string t.atom.name, va, .string t.var, vp]] w (Ans (.bool (formB t)) w) := by
  obtain ⟨pa, ca, pp, cp, rfl, rfl⟩ := hv.open
  have HV := Lib.hid hv
  have H2 := Lib.hid (fivB_new w (.int .i64 t.op) (.string t.atom.name) (.slice pa t.atom.args.length ca) (.string t.var) (.slice pp t.parts.length cp) 34 _ rfl)
  have HB0 := Lib.hid ((Below.refl w.heap.size w).alloc (Nat.le_refl _) (.cells #[.int .i64 t.op, .string t.atom.name, .slice pa t.atom.args.length ca, .string t.var, .slice pp t.parts.length cp] 34))
  obtain ⟨b0, b1, b2, b3, b4, b5⟩ := H2.out
  have hlen := Nat.le_trans t.wt_len hw
  have hvs : t.var.size ≤ maxLen := by have := t.wt_var; unfold maxLen; omega
  have CV := Lib.hid (fun W => isVar_any t.var W hvs)
  have CA : Hid (∀ W, Below w.heap.size w W → Calls Tryz.prog 109 #[.agg #[.string t.atom.name, .slice pa t.atom.args.length ca]] W (Ans (.bool (atomB t.atom)) W)) := Lib.hid (fun W hW => validAtom_any t.atom W _ (HV.out.1.kept hW) (Nat.le_trans t.wt_atom hw))
  clear hv hvs
  obtain ⟨s1, s2⟩ := str_none hA
  have HN := Lib.hid (noneB_no2 hB)
  have n0 : ((t.atom.args.length : Int) == 0) = false := by rw [beq_eq_false_iff_ne]; omega
  clear hA hB
  have HJ := Lib.hid hj
  have HF := Lib.hid (formB_8 hj)
  clear hj
  by_cases hz : t.var.size = 0
  · obtain ⟨u1, u2⟩ := str_none hz
    have HZ : Hid (decide (t.var.size = 0) = true) := Lib.hid (by simp [hz])
    clear hz
    have taw := ta_8w
    have taa := ta_8a
    have tap := ta_8p
    have tai := ta_8i
    have tab := ta_8b
    go_enter Tryz.func79, Tryz.ntmps79
    go_wp2_with fail
    refine (notation_8 _ _ HJ.out).mono ?_
    rintro e w' ⟨rfl, rfl⟩
    go_wp2_with fail
    refine (CV.out _).mono ?_
    rintro e w' ⟨rfl, rfl⟩
    cases ha : varB t.var
    · have HG : Hid (formB t = false) := Lib.hid (by rw [HF.out, ha]; simp)
      clear ha
      go_wp2
      go_ret
      exact ⟨ret_bool HG.out.symm, HB0.out⟩
    · have HG : Hid (formB t = false) := Lib.hid (by rw [HF.out, HN.out]; simp)
      clear ha
      go_wp2
      go_ret
      exact ⟨ret_bool HG.out.symm, HB0.out⟩
  · obtain ⟨u1, u2⟩ := str_some hz
    have HZ : Hid (decide (t.var.size = 0) = false) := Lib.hid (by simp [hz])
    clear hz
    have taw := ta_8w
    have taa := ta_8a
    have tap := ta_8p
    have tai := ta_8i
    have tab := ta_8b
    go_enter Tryz.func79, Tryz.ntmps79
    go_wp2_with fail
    refine (notation_8 _ _ HJ.out).mono ?_
    rintro e w' ⟨rfl, rfl⟩
    go_wp2_with fail
    refine (CV.out _).mono ?_
    rintro e w' ⟨rfl, rfl⟩
    cases ha : varB t.var
    · have HG : Hid (formB t = false) := Lib.hid (by rw [HF.out, ha]; simp)
      clear ha
      go_wp2
      go_ret
      exact ⟨ret_bool HG.out.symm, HB0.out⟩
    · have HG : Hid (formB t = false) := Lib.hid (by rw [HF.out, HN.out]; simp)
      clear ha
      go_wp2
      go_ret
      exact ⟨ret_bool HG.out.symm, HB0.out⟩

set_option maxRecDepth 100000 in
set_option maxHeartbeats 2000000 in
theorem hasForm_8A2 (t : Fm) (w : World) (va vp : Value) (hv : FmV w va vp t) (hw : t.wt ≤ 1048576) (hj : t.op = 8) (hA : ¬ t.atom.name.size = 0) :
    Calls Tryz.prog 79 #[.agg #[.int .i64 t.op, .string t.atom.name, va, .string t.var, vp]] w (Ans (.bool (formB t)) w) := by
  obtain ⟨pa, ca, pp, cp, rfl, rfl⟩ := hv.open
  have HV := Lib.hid hv
  have H2 := Lib.hid (fivB_new w (.int .i64 t.op) (.string t.atom.name) (.slice pa t.atom.args.length ca) (.string t.var) (.slice pp t.parts.length cp) 34 _ rfl)
  have HB0 := Lib.hid ((Below.refl w.heap.size w).alloc (Nat.le_refl _) (.cells #[.int .i64 t.op, .string t.atom.name, .slice pa t.atom.args.length ca, .string t.var, .slice pp t.parts.length cp] 34))
  obtain ⟨b0, b1, b2, b3, b4, b5⟩ := H2.out
  have hlen := Nat.le_trans t.wt_len hw
  have hvs : t.var.size ≤ maxLen := by have := t.wt_var; unfold maxLen; omega
  have CV := Lib.hid (fun W => isVar_any t.var W hvs)
  have CA : Hid (∀ W, Below w.heap.size w W → Calls Tryz.prog 109 #[.agg #[.string t.atom.name, .slice pa t.atom.args.length ca]] W (Ans (.bool (atomB t.atom)) W)) := Lib.hid (fun W hW => validAtom_any t.atom W _ (HV.out.1.kept hW) (Nat.le_trans t.wt_atom hw))
  clear hv hvs
  obtain ⟨s1, s2⟩ := str_some hA
  have HN := Lib.hid (noneB_no1 hA)
  clear hA
  have HJ := Lib.hid hj
  have HF := Lib.hid (formB_8 hj)
  clear hj
  by_cases hz : t.var.size = 0
  · obtain ⟨u1, u2⟩ := str_none hz
    have HZ : Hid (decide (t.var.size = 0) = true) := Lib.hid (by simp [hz])
    clear hz
    have taw := ta_8w
    have taa := ta_8a
    have tap := ta_8p
    have tai := ta_8i
    have tab := ta_8b
    go_enter Tryz.func79, Tryz.ntmps79
    go_wp2_with fail
    refine (notation_8 _ _ HJ.out).mono ?_
    rintro e w' ⟨rfl, rfl⟩
    go_wp2_with fail
    refine (CV.out _).mono ?_
    rintro e w' ⟨rfl, rfl⟩
    cases ha : varB t.var
    · have HG : Hid (formB t = false) := Lib.hid (by rw [HF.out, ha]; simp)
      clear ha
      go_wp2
      go_ret
      exact ⟨ret_bool HG.out.symm, HB0.out⟩
    · have HG : Hid (formB t = false) := Lib.hid (by rw [HF.out, HN.out]; simp)
      clear ha
      go_wp2
      go_ret
      exact ⟨ret_bool HG.out.symm, HB0.out⟩
  · obtain ⟨u1, u2⟩ := str_some hz
    have HZ : Hid (decide (t.var.size = 0) = false) := Lib.hid (by simp [hz])
    clear hz
    have taw := ta_8w
    have taa := ta_8a
    have tap := ta_8p
    have tai := ta_8i
    have tab := ta_8b
    go_enter Tryz.func79, Tryz.ntmps79
    go_wp2_with fail
    refine (notation_8 _ _ HJ.out).mono ?_
    rintro e w' ⟨rfl, rfl⟩
    go_wp2_with fail
    refine (CV.out _).mono ?_
    rintro e w' ⟨rfl, rfl⟩
    cases ha : varB t.var
    · have HG : Hid (formB t = false) := Lib.hid (by rw [HF.out, ha]; simp)
      clear ha
      go_wp2
      go_ret
      exact ⟨ret_bool HG.out.symm, HB0.out⟩
    · have HG : Hid (formB t = false) := Lib.hid (by rw [HF.out, HN.out]; simp)
      clear ha
      go_wp2
      go_ret
      exact ⟨ret_bool HG.out.symm, HB0.out⟩

set_option maxRecDepth 100000 in
set_option maxHeartbeats 2000000 in
theorem hasForm_9A0 (t : Fm) (w : World) (va vp : Value) (hv : FmV w va vp t) (hw : t.wt ≤ 1048576) (hj : t.op = 9) (hA : t.atom.name.size = 0) (hB : t.atom.args.length = 0) :
    Calls Tryz.prog 79 #[.agg #[.int .i64 t.op, .string t.atom.name, va, .string t.var, vp]] w (Ans (.bool (formB t)) w) := by
  obtain ⟨pa, ca, pp, cp, rfl, rfl⟩ := hv.open
  have HV := Lib.hid hv
  have H2 := Lib.hid (fivB_new w (.int .i64 t.op) (.string t.atom.name) (.slice pa t.atom.args.length ca) (.string t.var) (.slice pp t.parts.length cp) 34 _ rfl)
  have HB0 := Lib.hid ((Below.refl w.heap.size w).alloc (Nat.le_refl _) (.cells #[.int .i64 t.op, .string t.atom.name, .slice pa t.atom.args.length ca, .string t.var, .slice pp t.parts.length cp] 34))
  obtain ⟨b0, b1, b2, b3, b4, b5⟩ := H2.out
  have hlen := Nat.le_trans t.wt_len hw
  have hvs : t.var.size ≤ maxLen := by have := t.wt_var; unfold maxLen; omega
  have CV := Lib.hid (fun W => isVar_any t.var W hvs)
  have CA : Hid (∀ W, Below w.heap.size w W → Calls Tryz.prog 109 #[.agg #[.string t.atom.name, .slice pa t.atom.args.length ca]] W (Ans (.bool (atomB t.atom)) W)) := Lib.hid (fun W hW => validAtom_any t.atom W _ (HV.out.1.kept hW) (Nat.le_trans t.wt_atom hw))
  clear hv hvs
  obtain ⟨s1, s2⟩ := str_none hA
  have HN := Lib.hid (noneB_yes hA hB)
  have n0 : ((t.atom.args.length : Int) == 0) = true := by rw [beq_iff_eq]; omega
  clear hA hB
  have HJ := Lib.hid hj
  have HF := Lib.hid (formB_9 hj)
  clear hj
  by_cases hz : t.var.size = 0
  · obtain ⟨u1, u2⟩ := str_none hz
    have HZ : Hid (decide (t.var.size = 0) = true) := Lib.hid (by simp [hz])
    clear hz
    have taw := ta_9w
    have taa := ta_9a
    have tap := ta_9p
    have tai := ta_9i
    have tab := ta_9b
    go_enter Tryz.func79, Tryz.ntmps79
    go_wp2_with fail
    refine (notation_9 _ _ HJ.out).mono ?_
    rintro e w' ⟨rfl, rfl⟩
    go_wp2_with fail
    refine (CV.out _).mono ?_
    rintro e w' ⟨rfl, rfl⟩
    cases ha : varB t.var
    · have HG : Hid (formB t = false) := Lib.hid (by rw [HF.out, ha]; simp)
      clear ha
      go_wp2
      go_ret
      exact ⟨ret_bool HG.out.symm, HB0.out⟩
    · skip
      by_cases hn : t.parts.length = 1
      · have n1 : ((t.parts.length : Int) == 1) = true := by rw [beq_iff_eq]; omega
        have HG : Hid (formB t = true) := Lib.hid (by rw [HF.out, ha, HN.out]; simp [hn])
        clear hn ha
        go_wp2
        go_ret
        exact ⟨ret_bool HG.out.symm, HB0.out⟩
      · have n1 : ((t.parts.length : Int) == 1) = false := by rw [beq_eq_false_iff_ne]; omega
        have HG : Hid (formB t = false) := Lib.hid (by rw [HF.out, ha, HN.out]; simp [hn])
        clear hn ha
        go_wp2
        go_ret
        exact ⟨ret_bool HG.out.symm, HB0.out⟩
  · obtain ⟨u1, u2⟩ := str_some hz
    have HZ : Hid (decide (t.var.size = 0) = false) := Lib.hid (by simp [hz])
    clear hz
    have taw := ta_9w
    have taa := ta_9a
    have tap := ta_9p
    have tai := ta_9i
    have tab := ta_9b
    go_enter Tryz.func79, Tryz.ntmps79
    go_wp2_with fail
    refine (notation_9 _ _ HJ.out).mono ?_
    rintro e w' ⟨rfl, rfl⟩
    go_wp2_with fail
    refine (CV.out _).mono ?_
    rintro e w' ⟨rfl, rfl⟩
    cases ha : varB t.var
    · have HG : Hid (formB t = false) := Lib.hid (by rw [HF.out, ha]; simp)
      clear ha
      go_wp2
      go_ret
      exact ⟨ret_bool HG.out.symm, HB0.out⟩
    · skip
      by_cases hn : t.parts.length = 1
      · have n1 : ((t.parts.length : Int) == 1) = true := by rw [beq_iff_eq]; omega
        have HG : Hid (formB t = true) := Lib.hid (by rw [HF.out, ha, HN.out]; simp [hn])
        clear hn ha
        go_wp2
        go_ret
        exact ⟨ret_bool HG.out.symm, HB0.out⟩
      · have n1 : ((t.parts.length : Int) == 1) = false := by rw [beq_eq_false_iff_ne]; omega
        have HG : Hid (formB t = false) := Lib.hid (by rw [HF.out, ha, HN.out]; simp [hn])
        clear hn ha
        go_wp2
        go_ret
        exact ⟨ret_bool HG.out.symm, HB0.out⟩

set_option maxRecDepth 100000 in
set_option maxHeartbeats 2000000 in
theorem hasForm_9A1 (t : Fm) (w : World) (va vp : Value) (hv : FmV w va vp t) (hw : t.wt ≤ 1048576) (hj : t.op = 9) (hA : t.atom.name.size = 0) (hB : ¬ t.atom.args.length = 0) :
    Calls Tryz.prog 79 #[.agg #[.int .i64 t.op, .string t.atom.name, va, .string t.var, vp]] w (Ans (.bool (formB t)) w) := by
  obtain ⟨pa, ca, pp, cp, rfl, rfl⟩ := hv.open
  have HV := Lib.hid hv
  have H2 := Lib.hid (fivB_new w (.int .i64 t.op) (.string t.atom.name) (.slice pa t.atom.args.length ca) (.string t.var) (.slice pp t.parts.length cp) 34 _ rfl)
  have HB0 := Lib.hid ((Below.refl w.heap.size w).alloc (Nat.le_refl _) (.cells #[.int .i64 t.op, .string t.atom.name, .slice pa t.atom.args.length ca, .string t.var, .slice pp t.parts.length cp] 34))
  obtain ⟨b0, b1, b2, b3, b4, b5⟩ := H2.out
  have hlen := Nat.le_trans t.wt_len hw
  have hvs : t.var.size ≤ maxLen := by have := t.wt_var; unfold maxLen; omega
  have CV := Lib.hid (fun W => isVar_any t.var W hvs)
  have CA : Hid (∀ W, Below w.heap.size w W → Calls Tryz.prog 109 #[.agg #[.string t.atom.name, .slice pa t.atom.args.length ca]] W (Ans (.bool (atomB t.atom)) W)) := Lib.hid (fun W hW => validAtom_any t.atom W _ (HV.out.1.kept hW) (Nat.le_trans t.wt_atom hw))
  clear hv hvs
  obtain ⟨s1, s2⟩ := str_none hA
  have HN := Lib.hid (noneB_no2 hB)
  have n0 : ((t.atom.args.length : Int) == 0) = false := by rw [beq_eq_false_iff_ne]; omega
  clear hA hB
  have HJ := Lib.hid hj
  have HF := Lib.hid (formB_9 hj)
  clear hj
  by_cases hz : t.var.size = 0
  · obtain ⟨u1, u2⟩ := str_none hz
    have HZ : Hid (decide (t.var.size = 0) = true) := Lib.hid (by simp [hz])
    clear hz
    have taw := ta_9w
    have taa := ta_9a
    have tap := ta_9p
    have tai := ta_9i
    have tab := ta_9b
    go_enter Tryz.func79, Tryz.ntmps79
    go_wp2_with fail
    refine (notation_9 _ _ HJ.out).mono ?_
    rintro e w' ⟨rfl, rfl⟩
    go_wp2_with fail
    refine (CV.out _).mono ?_
    rintro e w' ⟨rfl, rfl⟩
    cases ha : varB t.var
    · have HG : Hid (formB t = false) := Lib.hid (by rw [HF.out, ha]; simp)
      clear ha
      go_wp2
      go_ret
      exact ⟨ret_bool HG.out.symm, HB0.out⟩
    · have HG : Hid (formB t = false) := Lib.hid (by rw [HF.out, HN.out]; simp)
      clear ha
      go_wp2
      go_ret
      exact ⟨ret_bool HG.out.symm, HB0.out⟩
  · obtain ⟨u1, u2⟩ := str_some hz
    have HZ : Hid (decide (t.var.size = 0) = false) := Lib.hid (by simp [hz])
    clear hz
    have taw := ta_9w
    have taa := ta_9a
    have tap := ta_9p
    have tai := ta_9i
    have tab := ta_9b
    go_enter Tryz.func79, Tryz.ntmps79
    go_wp2_with fail
    refine (notation_9 _ _ HJ.out).mono ?_
    rintro e w' ⟨rfl, rfl⟩
    go_wp2_with fail
    refine (CV.out _).mono ?_
    rintro e w' ⟨rfl, rfl⟩
    cases ha : varB t.var
    · have HG : Hid (formB t = false) := Lib.hid (by rw [HF.out, ha]; simp)
      clear ha
      go_wp2
      go_ret
      exact ⟨ret_bool HG.out.symm, HB0.out⟩
    · have HG : Hid (formB t = false) := Lib.hid (by rw [HF.out, HN.out]; simp)
      clear ha
      go_wp2
      go_ret
      exact ⟨ret_bool HG.out.symm, HB0.out⟩

set_option maxRecDepth 100000 in
set_option maxHeartbeats 2000000 in
theorem hasForm_9A2 (t : Fm) (w : World) (va vp : Value) (hv : FmV w va vp t) (hw : t.wt ≤ 1048576) (hj : t.op = 9) (hA : ¬ t.atom.name.size = 0) :
    Calls Tryz.prog 79 #[.agg #[.int .i64 t.op, .string t.atom.name, va, .string t.var, vp]] w (Ans (.bool (formB t)) w) := by
  obtain ⟨pa, ca, pp, cp, rfl, rfl⟩ := hv.open
  have HV := Lib.hid hv
  have H2 := Lib.hid (fivB_new w (.int .i64 t.op) (.string t.atom.name) (.slice pa t.atom.args.length ca) (.string t.var) (.slice pp t.parts.length cp) 34 _ rfl)
  have HB0 := Lib.hid ((Below.refl w.heap.size w).alloc (Nat.le_refl _) (.cells #[.int .i64 t.op, .string t.atom.name, .slice pa t.atom.args.length ca, .string t.var, .slice pp t.parts.length cp] 34))
  obtain ⟨b0, b1, b2, b3, b4, b5⟩ := H2.out
  have hlen := Nat.le_trans t.wt_len hw
  have hvs : t.var.size ≤ maxLen := by have := t.wt_var; unfold maxLen; omega
  have CV := Lib.hid (fun W => isVar_any t.var W hvs)
  have CA : Hid (∀ W, Below w.heap.size w W → Calls Tryz.prog 109 #[.agg #[.string t.atom.name, .slice pa t.atom.args.length ca]] W (Ans (.bool (atomB t.atom)) W)) := Lib.hid (fun W hW => validAtom_any t.atom W _ (HV.out.1.kept hW) (Nat.le_trans t.wt_atom hw))
  clear hv hvs
  obtain ⟨s1, s2⟩ := str_some hA
  have HN := Lib.hid (noneB_no1 hA)
  clear hA
  have HJ := Lib.hid hj
  have HF := Lib.hid (formB_9 hj)
  clear hj
  by_cases hz : t.var.size = 0
  · obtain ⟨u1, u2⟩ := str_none hz
    have HZ : Hid (decide (t.var.size = 0) = true) := Lib.hid (by simp [hz])
    clear hz
    have taw := ta_9w
    have taa := ta_9a
    have tap := ta_9p
    have tai := ta_9i
    have tab := ta_9b
    go_enter Tryz.func79, Tryz.ntmps79
    go_wp2_with fail
    refine (notation_9 _ _ HJ.out).mono ?_
    rintro e w' ⟨rfl, rfl⟩
    go_wp2_with fail
    refine (CV.out _).mono ?_
    rintro e w' ⟨rfl, rfl⟩
    cases ha : varB t.var
    · have HG : Hid (formB t = false) := Lib.hid (by rw [HF.out, ha]; simp)
      clear ha
      go_wp2
      go_ret
      exact ⟨ret_bool HG.out.symm, HB0.out⟩
    · have HG : Hid (formB t = false) := Lib.hid (by rw [HF.out, HN.out]; simp)
      clear ha
      go_wp2
      go_ret
      exact ⟨ret_bool HG.out.symm, HB0.out⟩
  · obtain ⟨u1, u2⟩ := str_some hz
    have HZ : Hid (decide (t.var.size = 0) = false) := Lib.hid (by simp [hz])
    clear hz
    have taw := ta_9w
    have taa := ta_9a
    have tap := ta_9p
    have tai := ta_9i
    have tab := ta_9b
    go_enter Tryz.func79, Tryz.ntmps79
    go_wp2_with fail
    refine (notation_9 _ _ HJ.out).mono ?_
    rintro e w' ⟨rfl, rfl⟩
    go_wp2_with fail
    refine (CV.out _).mono ?_
    rintro e w' ⟨rfl, rfl⟩
    cases ha : varB t.var
    · have HG : Hid (formB t = false) := Lib.hid (by rw [HF.out, ha]; simp)
      clear ha
      go_wp2
      go_ret
      exact ⟨ret_bool HG.out.symm, HB0.out⟩
    · have HG : Hid (formB t = false) := Lib.hid (by rw [HF.out, HN.out]; simp)
      clear ha
      go_wp2
      go_ret
      exact ⟨ret_bool HG.out.symm, HB0.out⟩

set_option maxRecDepth 100000 in
set_option maxHeartbeats 2000000 in
theorem hasForm_0A0 (t : Fm) (w : World) (va vp : Value) (hv : FmV w va vp t) (hw : t.wt ≤ 1048576) (hj : ∀ j : Int, 1 ≤ j → j ≤ 9 → t.op ≠ j) (hA : t.atom.name.size = 0) (hB : t.atom.args.length = 0) :
    Calls Tryz.prog 79 #[.agg #[.int .i64 t.op, .string t.atom.name, va, .string t.var, vp]] w (Ans (.bool (formB t)) w) := by
  obtain ⟨pa, ca, pp, cp, rfl, rfl⟩ := hv.open
  have HV := Lib.hid hv
  have H2 := Lib.hid (fivB_new w (.int .i64 t.op) (.string t.atom.name) (.slice pa t.atom.args.length ca) (.string t.var) (.slice pp t.parts.length cp) 34 _ rfl)
  have HB0 := Lib.hid ((Below.refl w.heap.size w).alloc (Nat.le_refl _) (.cells #[.int .i64 t.op, .string t.atom.name, .slice pa t.atom.args.length ca, .string t.var, .slice pp t.parts.length cp] 34))
  obtain ⟨b0, b1, b2, b3, b4, b5⟩ := H2.out
  have hlen := Nat.le_trans t.wt_len hw
  have hvs : t.var.size ≤ maxLen := by have := t.wt_var; unfold maxLen; omega
  have CV := Lib.hid (fun W => isVar_any t.var W hvs)
  have CA : Hid (∀ W, Below w.heap.size w W → Calls Tryz.prog 109 #[.agg #[.string t.atom.name, .slice pa t.atom.args.length ca]] W (Ans (.bool (atomB t.atom)) W)) := Lib.hid (fun W hW => validAtom_any t.atom W _ (HV.out.1.kept hW) (Nat.le_trans t.wt_atom hw))
  clear hv hvs
  obtain ⟨s1, s2⟩ := str_none hA
  have HN := Lib.hid (noneB_yes hA hB)
  have n0 : ((t.atom.args.length : Int) == 0) = true := by rw [beq_iff_eq]; omega
  clear hA hB
  have HJ := Lib.hid hj
  have HF := Lib.hid (formB_bad hj)
  clear hj
  by_cases hz : t.var.size = 0
  · obtain ⟨u1, u2⟩ := str_none hz
    have HZ : Hid (decide (t.var.size = 0) = true) := Lib.hid (by simp [hz])
    clear hz
    have HG := HF
    have taw := ta_0w
    have taa := ta_0a
    have tap := ta_0p
    have tai := ta_0i
    have tab := ta_0b
    go_enter Tryz.func79, Tryz.ntmps79
    go_wp2_with fail
    refine (notation_no _ _ HJ.out).mono ?_
    rintro e w' ⟨rfl, rfl⟩
    go_wp2
    go_ret
    exact ⟨ret_bool HG.out.symm, HB0.out⟩
  · obtain ⟨u1, u2⟩ := str_some hz
    have HZ : Hid (decide (t.var.size = 0) = false) := Lib.hid (by simp [hz])
    clear hz
    have HG := HF
    have taw := ta_0w
    have taa := ta_0a
    have tap := ta_0p
    have tai := ta_0i
    have tab := ta_0b
    go_enter Tryz.func79, Tryz.ntmps79
    go_wp2_with fail
    refine (notation_no _ _ HJ.out).mono ?_
    rintro e w' ⟨rfl, rfl⟩
    go_wp2
    go_ret
    exact ⟨ret_bool HG.out.symm, HB0.out⟩

set_option maxRecDepth 100000 in
set_option maxHeartbeats 2000000 in
theorem hasForm_0A1 (t : Fm) (w : World) (va vp : Value) (hv : FmV w va vp t) (hw : t.wt ≤ 1048576) (hj : ∀ j : Int, 1 ≤ j → j ≤ 9 → t.op ≠ j) (hA : t.atom.name.size = 0) (hB : ¬ t.atom.args.length = 0) :
    Calls Tryz.prog 79 #[.agg #[.int .i64 t.op, .string t.atom.name, va, .string t.var, vp]] w (Ans (.bool (formB t)) w) := by
  obtain ⟨pa, ca, pp, cp, rfl, rfl⟩ := hv.open
  have HV := Lib.hid hv
  have H2 := Lib.hid (fivB_new w (.int .i64 t.op) (.string t.atom.name) (.slice pa t.atom.args.length ca) (.string t.var) (.slice pp t.parts.length cp) 34 _ rfl)
  have HB0 := Lib.hid ((Below.refl w.heap.size w).alloc (Nat.le_refl _) (.cells #[.int .i64 t.op, .string t.atom.name, .slice pa t.atom.args.length ca, .string t.var, .slice pp t.parts.length cp] 34))
  obtain ⟨b0, b1, b2, b3, b4, b5⟩ := H2.out
  have hlen := Nat.le_trans t.wt_len hw
  have hvs : t.var.size ≤ maxLen := by have := t.wt_var; unfold maxLen; omega
  have CV := Lib.hid (fun W => isVar_any t.var W hvs)
  have CA : Hid (∀ W, Below w.heap.size w W → Calls Tryz.prog 109 #[.agg #[.string t.atom.name, .slice pa t.atom.args.length ca]] W (Ans (.bool (atomB t.atom)) W)) := Lib.hid (fun W hW => validAtom_any t.atom W _ (HV.out.1.kept hW) (Nat.le_trans t.wt_atom hw))
  clear hv hvs
  obtain ⟨s1, s2⟩ := str_none hA
  have HN := Lib.hid (noneB_no2 hB)
  have n0 : ((t.atom.args.length : Int) == 0) = false := by rw [beq_eq_false_iff_ne]; omega
  clear hA hB
  have HJ := Lib.hid hj
  have HF := Lib.hid (formB_bad hj)
  clear hj
  by_cases hz : t.var.size = 0
  · obtain ⟨u1, u2⟩ := str_none hz
    have HZ : Hid (decide (t.var.size = 0) = true) := Lib.hid (by simp [hz])
    clear hz
    have HG := HF
    have taw := ta_0w
    have taa := ta_0a
    have tap := ta_0p
    have tai := ta_0i
    have tab := ta_0b
    go_enter Tryz.func79, Tryz.ntmps79
    go_wp2_with fail
    refine (notation_no _ _ HJ.out).mono ?_
    rintro e w' ⟨rfl, rfl⟩
    go_wp2
    go_ret
    exact ⟨ret_bool HG.out.symm, HB0.out⟩
  · obtain ⟨u1, u2⟩ := str_some hz
    have HZ : Hid (decide (t.var.size = 0) = false) := Lib.hid (by simp [hz])
    clear hz
    have HG := HF
    have taw := ta_0w
    have taa := ta_0a
    have tap := ta_0p
    have tai := ta_0i
    have tab := ta_0b
    go_enter Tryz.func79, Tryz.ntmps79
    go_wp2_with fail
    refine (notation_no _ _ HJ.out).mono ?_
    rintro e w' ⟨rfl, rfl⟩
    go_wp2
    go_ret
    exact ⟨ret_bool HG.out.symm, HB0.out⟩

set_option maxRecDepth 100000 in
set_option maxHeartbeats 2000000 in
theorem hasForm_0A2 (t : Fm) (w : World) (va vp : Value) (hv : FmV w va vp t) (hw : t.wt ≤ 1048576) (hj : ∀ j : Int, 1 ≤ j → j ≤ 9 → t.op ≠ j) (hA : ¬ t.atom.name.size = 0) :
    Calls Tryz.prog 79 #[.agg #[.int .i64 t.op, .string t.atom.name, va, .string t.var, vp]] w (Ans (.bool (formB t)) w) := by
  obtain ⟨pa, ca, pp, cp, rfl, rfl⟩ := hv.open
  have HV := Lib.hid hv
  have H2 := Lib.hid (fivB_new w (.int .i64 t.op) (.string t.atom.name) (.slice pa t.atom.args.length ca) (.string t.var) (.slice pp t.parts.length cp) 34 _ rfl)
  have HB0 := Lib.hid ((Below.refl w.heap.size w).alloc (Nat.le_refl _) (.cells #[.int .i64 t.op, .string t.atom.name, .slice pa t.atom.args.length ca, .string t.var, .slice pp t.parts.length cp] 34))
  obtain ⟨b0, b1, b2, b3, b4, b5⟩ := H2.out
  have hlen := Nat.le_trans t.wt_len hw
  have hvs : t.var.size ≤ maxLen := by have := t.wt_var; unfold maxLen; omega
  have CV := Lib.hid (fun W => isVar_any t.var W hvs)
  have CA : Hid (∀ W, Below w.heap.size w W → Calls Tryz.prog 109 #[.agg #[.string t.atom.name, .slice pa t.atom.args.length ca]] W (Ans (.bool (atomB t.atom)) W)) := Lib.hid (fun W hW => validAtom_any t.atom W _ (HV.out.1.kept hW) (Nat.le_trans t.wt_atom hw))
  clear hv hvs
  obtain ⟨s1, s2⟩ := str_some hA
  have HN := Lib.hid (noneB_no1 hA)
  clear hA
  have HJ := Lib.hid hj
  have HF := Lib.hid (formB_bad hj)
  clear hj
  by_cases hz : t.var.size = 0
  · obtain ⟨u1, u2⟩ := str_none hz
    have HZ : Hid (decide (t.var.size = 0) = true) := Lib.hid (by simp [hz])
    clear hz
    have HG := HF
    have taw := ta_0w
    have taa := ta_0a
    have tap := ta_0p
    have tai := ta_0i
    have tab := ta_0b
    go_enter Tryz.func79, Tryz.ntmps79
    go_wp2_with fail
    refine (notation_no _ _ HJ.out).mono ?_
    rintro e w' ⟨rfl, rfl⟩
    go_wp2
    go_ret
    exact ⟨ret_bool HG.out.symm, HB0.out⟩
  · obtain ⟨u1, u2⟩ := str_some hz
    have HZ : Hid (decide (t.var.size = 0) = false) := Lib.hid (by simp [hz])
    clear hz
    have HG := HF
    have taw := ta_0w
    have taa := ta_0a
    have tap := ta_0p
    have tai := ta_0i
    have tab := ta_0b
    go_enter Tryz.func79, Tryz.ntmps79
    go_wp2_with fail
    refine (notation_no _ _ HJ.out).mono ?_
    rintro e w' ⟨rfl, rfl⟩
    go_wp2
    go_ret
    exact ⟨ret_bool HG.out.symm, HB0.out⟩

theorem hasForm_any (t : Fm) (w : World) (va vp : Value) (hv : FmV w va vp t) (hw : t.wt ≤ 1048576) :
    Calls Tryz.prog 79 #[.agg #[.int .i64 t.op, .string t.atom.name, va, .string t.var, vp]] w (Ans (.bool (formB t)) w) := by
  by_cases h1 : t.op = 1
  · by_cases hA : t.atom.name.size = 0
    · by_cases hB : t.atom.args.length = 0
      · exact hasForm_1A0 t w va vp hv hw h1 hA hB
      · exact hasForm_1A1 t w va vp hv hw h1 hA hB
    · exact hasForm_1A2 t w va vp hv hw h1 hA
  by_cases h2 : t.op = 2
  · by_cases hA : t.atom.name.size = 0
    · by_cases hB : t.atom.args.length = 0
      · exact hasForm_2A0 t w va vp hv hw h2 hA hB
      · exact hasForm_2A1 t w va vp hv hw h2 hA hB
    · exact hasForm_2A2 t w va vp hv hw h2 hA
  by_cases h3 : t.op = 3
  · by_cases hA : t.atom.name.size = 0
    · by_cases hB : t.atom.args.length = 0
      · exact hasForm_3A0 t w va vp hv hw h3 hA hB
      · exact hasForm_3A1 t w va vp hv hw h3 hA hB
    · exact hasForm_3A2 t w va vp hv hw h3 hA
  by_cases h4 : t.op = 4
  · by_cases hA : t.atom.name.size = 0
    · by_cases hB : t.atom.args.length = 0
      · exact hasForm_4A0 t w va vp hv hw h4 hA hB
      · exact hasForm_4A1 t w va vp hv hw h4 hA hB
    · exact hasForm_4A2 t w va vp hv hw h4 hA
  by_cases h5 : t.op = 5
  · by_cases hA : t.atom.name.size = 0
    · by_cases hB : t.atom.args.length = 0
      · exact hasForm_5A0 t w va vp hv hw h5 hA hB
      · exact hasForm_5A1 t w va vp hv hw h5 hA hB
    · exact hasForm_5A2 t w va vp hv hw h5 hA
  by_cases h6 : t.op = 6
  · by_cases hA : t.atom.name.size = 0
    · by_cases hB : t.atom.args.length = 0
      · exact hasForm_6A0 t w va vp hv hw h6 hA hB
      · exact hasForm_6A1 t w va vp hv hw h6 hA hB
    · exact hasForm_6A2 t w va vp hv hw h6 hA
  by_cases h7 : t.op = 7
  · by_cases hA : t.atom.name.size = 0
    · by_cases hB : t.atom.args.length = 0
      · exact hasForm_7A0 t w va vp hv hw h7 hA hB
      · exact hasForm_7A1 t w va vp hv hw h7 hA hB
    · exact hasForm_7A2 t w va vp hv hw h7 hA
  by_cases h8 : t.op = 8
  · by_cases hA : t.atom.name.size = 0
    · by_cases hB : t.atom.args.length = 0
      · exact hasForm_8A0 t w va vp hv hw h8 hA hB
      · exact hasForm_8A1 t w va vp hv hw h8 hA hB
    · exact hasForm_8A2 t w va vp hv hw h8 hA
  by_cases h9 : t.op = 9
  · by_cases hA : t.atom.name.size = 0
    · by_cases hB : t.atom.args.length = 0
      · exact hasForm_9A0 t w va vp hv hw h9 hA hB
      · exact hasForm_9A1 t w va vp hv hw h9 hA hB
    · exact hasForm_9A2 t w va vp hv hw h9 hA
  have hj : ∀ j : Int, 1 ≤ j → j ≤ 9 → t.op ≠ j := fun j a b e => by
    have c : j = 1 ∨ j = 2 ∨ j = 3 ∨ j = 4 ∨ j = 5 ∨ j = 6 ∨ j = 7 ∨ j = 8 ∨ j = 9 := by omega
    rcases c with rfl | rfl | rfl | rfl | rfl | rfl | rfl | rfl | rfl
    · exact h1 e
    · exact h2 e
    · exact h3 e
    · exact h4 e
    · exact h5 e
    · exact h6 e
    · exact h7 e
    · exact h8 e
    · exact h9 e
  by_cases hA : t.atom.name.size = 0
  · by_cases hB : t.atom.args.length = 0
    · exact hasForm_0A0 t w va vp hv hw hj hA hB
    · exact hasForm_0A1 t w va vp hv hw hj hA hB
  · exact hasForm_0A2 t w va vp hv hw hj hA

end Go.Proofs.YtdpeanpmjhpblaaGreat

/- The program's IsValidFormula and FormulaSize, as contracts: they answer as the model's. For formulas of at most 1048576 names' bytes, arguments and parts. -/
namespace Go.Proofs.YtdpeanpmjhpblaaGreat
open Go.RowKit
set_option linter.unusedVariables false

def cntF (t : Fm) (m : Nat) : Value := if t.sz ≤ m then .tuple #[.int .i64 t.sz, .bool true] else .tuple #[.int .i64 0, .bool false]
theorem cntE_yes {t : Fm} {m : Nat} {q : Int} (h : t.sz ≤ m) (e : q = t.sz) : Ending.returned (.tuple #[.int .i64 q, .bool true]) = .returned (cntF t m) := by unfold cntF; rw [if_pos h, e]
theorem cntE_no {t : Fm} {m : Nat} (h : ¬ t.sz ≤ m) : Ending.returned (.tuple #[.int .i64 0, .bool false]) = .returned (cntF t m) := by unfold cntF; rw [if_neg h]
theorem cntF_yes {t : Fm} {m : Nat} (h : t.sz ≤ m) : cntF t m = .tuple #[.int .i64 t.sz, .bool true] := by unfold cntF; rw [if_pos h]
theorem cntF_no {t : Fm} {m : Nat} (h : ¬ t.sz ≤ m) : cntF t m = .tuple #[.int .i64 0, .bool false] := by unfold cntF; rw [if_neg h]
def FCntT (t : Fm) : Prop := ∀ (w : World) (va vp : Value) (m : Nat), FmV w va vp t → t.wt ≤ 1048576 → m ≤ 40 →
  Calls Tryz.prog 55 #[.agg #[.int .i64 t.op, .string t.atom.name, va, .string t.var, vp], .int .i64 m] w (Ans (cntF t m) w)

set_option maxHeartbeats 1000000 in
theorem fcnt_of (t : Fm) (h : ∀ s ∈ t.parts, FCntT s) : FCntT t := by
  intro w va vp m hv hw hm
  have HE := Lib.hid t.sz_eq
  have hpos := t.sz_pos
  have HT := Lib.hid (fun k => sumG_take Fm.sz t.parts k)
  have H := Lib.hid h
  have HL := Lib.hid (fun (s : Fm) (hs : s ∈ t.parts) => Nat.le_trans (Fm.wt_part hs) hw)
  have hlen := Nat.le_trans t.wt_len hw
  obtain ⟨pa, ca, pp, cp, rfl, rfl⟩ := hv.open
  have HV := Lib.hid hv
  have H2 := Lib.hid (fivB_new w (.int .i64 t.op) (.string t.atom.name) (.slice pa t.atom.args.length ca) (.string t.var) (.slice pp t.parts.length cp) 34 _ rfl)
  have HB0 := Lib.hid ((Below.refl w.heap.size w).alloc (Nat.le_refl _) (.cells #[.int .i64 t.op, .string t.atom.name, .slice pa t.atom.args.length ca, .string t.var, .slice pp t.parts.length cp] 34))
  obtain ⟨b0, b1, b2, b3, b4, b5⟩ := H2.out
  clear h hv
  by_cases hm0 : m < 1
  · have HF := Lib.hid (cntE_no (t := t) (m := m) (by omega))
    go_enter Tryz.func55, Tryz.ntmps55
    go_wp2
    go_ret2
    exact ⟨HF.out, HB0.out⟩
  · go_enter Tryz.func55, Tryz.ntmps55
    go_wp2
    go_loopw [6, 16] (fun n i wr => ∃ k q : Nat, k ≤ t.parts.length ∧ i = .int .i64 k ∧ n = .int .i64 q ∧ q = 1 + sumG Fm.sz (t.parts.take k) ∧ q ≤ m ∧ Below w.heap.size w wr) (fun _ i _ => t.parts.length - (intOf i).toNat)
    case atStart => exact ⟨0, 1, Nat.zero_le _, rfl, rfl, by simp [sumG], by omega, HB0.out⟩
    case round =>
      obtain ⟨k, q, hk, rfl, rfl, hq, hqm, hbel⟩ := hrel
      have HQ := Lib.hid hq
      have HB := Lib.hid hbel
      clear hbel hq
      by_cases hlt : k < t.parts.length
      · skip
        obtain ⟨s, hs⟩ : ∃ s, t.parts[k]? = some s := ⟨_, List.getElem?_eq_getElem hlt⟩
        obtain ⟨b, off, rfl, va, vp, hc, hva, hvp⟩ := HV.out.2.get hs
        obtain ⟨g0, g1, g2, g3, g4⟩ := hc.kept HB.out
        have HVA : Hid (FmV wr va vp s) := Lib.hid ⟨hva.kept HB.out, hvp.kept HB.out⟩
        have HS := Lib.hid hs
        clear hs hc hva hvp
        obtain ⟨a', c', b', d', rfl, rfl⟩ := HVA.out.open
        have HN := Lib.hid (sumG_next (f := Fm.sz) HS.out)
        go_wp2_with fail
        rw [show (m : Int) - (q : Int) = ((m - q : Nat) : Int) by omega]
        refine (H.out s (mem_of_at HS.out) _ _ _ (m - q) (HVA.out.alloc _) (HL.out s (mem_of_at HS.out)) (by omega)).mono ?_
        rintro e w' ⟨he, hb⟩
        have HB2 := Lib.hid (carry_below (HB.out.alloc HB.out.size _) (Nat.le_refl _) hb)
        clear hb
        by_cases hsz : s.sz ≤ m - q
        · rw [cntF_yes hsz] at he
          subst he
          go_wp2
          go_roundw
          case rel => exact ⟨k + 1, q + s.sz, by omega, by go_num, by go_num, by rw [HN.out, HQ.out]; omega, by omega, HB2.out⟩
          case measure => simp [intOf]; omega
        · rw [cntF_no hsz] at he
          subst he
          have HF := Lib.hid (cntE_no (t := t) (m := m) (by have := HE.out; have := HT.out (k + 1); have := HQ.out; have := HN.out; omega))
          go_wp2
          go_ret2
          exact ⟨HF.out, HB2.out⟩
      · have hke : k = t.parts.length := by omega
        subst hke
        have hsz : t.sz = q := by rw [HQ.out, HE.out, sumG_all (Nat.le_refl _)]
        have HF := Lib.hid (cntE_yes (t := t) (m := m) (q := q) (by omega) (by omega))
        clear hsz
        go_wp2
        go_ret2
        exact ⟨HF.out, HB.out⟩

theorem count_formulas (t : Fm) : FCntT t := Fm.ind (P := FCntT) fcnt_of t

def HaveT (l : List Fm) : Prop := ∀ (w : World) (v : Value), FmS w v l → l.length ≤ 1048576 → (∀ t ∈ l, t.wt ≤ 1048576) →
  Calls Tryz.prog 56 #[v] w (Ans (.bool (l.all Fm.formsB)) w)

set_option maxHeartbeats 1000000 in
theorem haveF_of (l : List Fm) (h : ∀ t ∈ l, HaveT t.parts) : HaveT l := by
  intro w v hv hlen hw
  have H := Lib.hid h
  have HL := Lib.hid hw
  obtain ⟨a, c, rfl⟩ := hv.is_slice
  have HV := Lib.hid hv
  clear h hv hw
  go_enter Tryz.func56, Tryz.ntmps56
  go_wp2
  go_loopw [7] (fun i wr => ∃ k : Nat, k ≤ l.length ∧ i = .int .i64 k ∧ (l.take k).all Fm.formsB = true ∧ Below w.heap.size w wr) (fun i _ => l.length - (intOf i).toNat)
  case atStart => exact ⟨0, Nat.zero_le _, rfl, by simp, Below.refl _ _⟩
  case round =>
      obtain ⟨k, hk, rfl, hq, hbel⟩ := hrel
      have HQ := Lib.hid hq
      have HB := Lib.hid hbel
      clear hbel hq
      by_cases hlt : k < l.length
      · obtain ⟨t, hs⟩ : ∃ s, l[k]? = some s := ⟨_, List.getElem?_eq_getElem hlt⟩
        obtain ⟨b, off, rfl, va, vp, hc, hva, hvp⟩ := HV.out.get hs
        obtain ⟨g0, g1, g2, g3, g4⟩ := hc.kept HB.out
        have HVA : Hid (FmV wr va vp t) := Lib.hid ⟨hva.kept HB.out, hvp.kept HB.out⟩
        have HS := Lib.hid hs
        clear hs hc hva hvp
        obtain ⟨pa, ca, pp, cp, rfl, rfl⟩ := HVA.out.open
        have H2 := Lib.hid (fivB_new wr (.int .i64 t.op) (.string t.atom.name) (.slice pa t.atom.args.length ca) (.string t.var) (.slice pp t.parts.length cp) 34 _ rfl)
        have HB0 := Lib.hid (HB.out.alloc HB.out.size (.cells #[.int .i64 t.op, .string t.atom.name, .slice pa t.atom.args.length ca, .string t.var, .slice pp t.parts.length cp] 34))
        obtain ⟨b0, b1, b2, b3, b4, b5⟩ := H2.out
        have HX := Lib.hid (HVA.out.alloc (.cells #[.int .i64 t.op, .string t.atom.name, .slice pa t.atom.args.length ca, .string t.var, .slice pp t.parts.length cp] 34))
        go_wp2_with fail
        refine (hasForm_any t _ _ _ HX.out (HL.out t (mem_of_at HS.out))).mono ?_
        rintro e w1 ⟨rfl, hb⟩
        have HB1 := Lib.hid (carry_below HB0.out (Nat.le_refl _) hb)
        have HX1 := Lib.hid (HX.out.kept hb)
        obtain ⟨d0, d1, d2, d3, d4, d5⟩ := H2.out.kept hb
        clear hb
        cases hf : formB t with
        | false =>
          have HF := Lib.hid (allG_no (p := Fm.formsB) HS.out (by rw [t.formsB_eq, hf]; rfl))
          clear hf
          go_wp2
          go_ret
          exact ⟨ret_bool (by rw [HF.out]), HB1.out⟩
        | true =>
          have HF : Hid (t.formsB = t.parts.all Fm.formsB) := Lib.hid (by rw [t.formsB_eq, hf]; rfl)
          clear hf
          go_wp2_with fail
          refine (H.out t (mem_of_at HS.out) _ _ HX1.out.2 (Nat.le_trans t.wt_len (HL.out t (mem_of_at HS.out))) (fun s hs => Nat.le_trans (Fm.wt_part hs) (HL.out t (mem_of_at HS.out)))).mono ?_
          rintro e w2 ⟨rfl, hb⟩
          have HB2 := Lib.hid (carry_below HB1.out (Nat.le_refl _) hb)
          clear hb
          cases hn : t.parts.all Fm.formsB with
          | true =>
            have HN := Lib.hid ((allG_next (p := Fm.formsB) HS.out).trans (by rw [HQ.out, HF.out, hn, Bool.and_self]))
            clear hn
            go_wp2
            go_roundw
            case rel => exact ⟨k + 1, by omega, by go_num, HN.out, HB2.out⟩
            case measure => simp [intOf]; omega
          | false =>
            have HN := Lib.hid (allG_no (p := Fm.formsB) HS.out (HF.out.trans hn))
            clear hn
            go_wp2
            go_ret
            exact ⟨ret_bool (by rw [HN.out]), HB2.out⟩
      · have HG : Hid (l.all Fm.formsB = true) := Lib.hid (by rw [← allG_all (p := Fm.formsB) (l := l) (k := k) (by omega)]; exact HQ.out)
        go_wp2
        go_ret
        exact ⟨ret_bool HG.out.symm, HB.out⟩

theorem haveF_part (t : Fm) : HaveT t.parts := Fm.ind (P := fun t => HaveT t.parts) (fun t ih => haveF_of t.parts ih) t
theorem haveForms_any (l : List Fm) : HaveT l := haveF_of l fun t _ => haveF_part t

theorem fgoodB_no {t : Fm} (h : ¬ t.sz ≤ 40) : fgoodB t = false := by simp [fgoodB, h]
theorem fgoodB_is {t : Fm} (h : t.sz ≤ 40) : fgoodB t = t.formsB := by simp [fgoodB, h]

set_option maxHeartbeats 1000000 in
theorem implVF_any (t : Fm) (w : World) (va vp : Value) (hv : FmV w va vp t) (hw : t.wt ≤ 1048576) :
    Calls Tryz.prog 27 #[.agg #[.int .i64 t.op, .string t.atom.name, va, .string t.var, vp]] w (Ans (.bool (fgoodB t)) w) := by
  obtain ⟨pa, ca, pp, cp, rfl, rfl⟩ := hv.open
  have HV := Lib.hid hv
  have H2 := Lib.hid (fivB_new w (.int .i64 t.op) (.string t.atom.name) (.slice pa t.atom.args.length ca) (.string t.var) (.slice pp t.parts.length cp) 34 _ rfl)
  have HB0 := Lib.hid ((Below.refl w.heap.size w).alloc (Nat.le_refl _) (.cells #[.int .i64 t.op, .string t.atom.name, .slice pa t.atom.args.length ca, .string t.var, .slice pp t.parts.length cp] 34))
  obtain ⟨b0, b1, b2, b3, b4, b5⟩ := H2.out
  have HW := Lib.hid hw
  clear hv hw
  go_enter Tryz.func27, Tryz.ntmps27
  go_wp2_with fail
  refine (count_formulas t _ _ _ 40 (HV.out.kept HB0.out) HW.out (by omega)).mono ?_
  rintro e w1 ⟨he, hb⟩
  have HB1 := Lib.hid (carry_below HB0.out (Nat.le_refl _) hb)
  have H21 := Lib.hid (H2.out.kept hb)
  obtain ⟨d0, d1, d2, d3, d4, d5⟩ := H2.out.kept hb
  clear hb
  by_cases hsz : t.sz ≤ 40
  · rw [cntF_yes hsz] at he
    subst he
    have HF := Lib.hid (fgoodB_is hsz)
    have HX := Lib.hid ((HV.out.kept HB1.out).alloc (.cells #[.int .i64 t.op, .string t.atom.name, .slice pa t.atom.args.length ca, .string t.var, .slice pp t.parts.length cp] 34))
    have HS := Lib.hid (fmS_one HX.out.1 HX.out.2 w1.heap.size 0 1 (fivB_new w1 (.int .i64 t.op) (.string t.atom.name) (.slice pa t.atom.args.length ca) (.string t.var) (.slice pp t.parts.length cp) 34 _ rfl).fiv)
    clear hsz
    go_wp2_with fail
    refine (haveForms_any [t] _ _ HS.out (by simp) (fun s hs => by rw [List.mem_singleton.1 hs]; exact HW.out)).mono ?_
    rintro e w2 ⟨rfl, hb⟩
    have HB2 := Lib.hid (carry_below (HB1.out.alloc HB1.out.size _) (Nat.le_refl _) hb)
    have HG : Hid ([t].all Fm.formsB = t.formsB) := Lib.hid (by simp)
    clear hb
    go_wp2
    go_ret
    exact ⟨ret_bool (by first | (rw [HF.out]; done) | (rw [HF.out]; exact HG.out)), HB2.out⟩
  · rw [cntF_no hsz] at he
    subst he
    have HF := Lib.hid (fgoodB_no hsz)
    clear hsz
    go_wp2
    go_ret
    exact ⟨ret_bool HF.out.symm, HB1.out⟩

end Go.Proofs.YtdpeanpmjhpblaaGreat
