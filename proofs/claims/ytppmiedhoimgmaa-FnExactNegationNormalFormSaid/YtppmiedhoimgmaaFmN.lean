/- The program's tests of formulas, as contracts: they answer as the model's. For formulas of at most 1048576 names' bytes, arguments and parts. -/
import Derived.Test.YtppmiedhoimgmaaFmS
import Derived.Test.YtppmiedhoimgmaaImplV2
import Derived.WalkLawsBesides
namespace Go.Proofs.Ytppmiedhoimgmaa
open Go.RowKit
set_option linter.unusedVariables false

theorem notation_1 (o : Int) (w : World) (h : o = 1) : Calls Try.prog 175 #[.int .i64 o] w fun e w' => e = .returned (.iface 182 (.string ⟨#[116, 114, 117, 101]⟩)) ∧ w = w' := by
  subst h
  go_enter Try.func175, Try.ntmps175
  go_wp2
  go_ret
  exact ⟨rfl, rfl⟩
theorem notation_2 (o : Int) (w : World) (h : o = 2) : Calls Try.prog 175 #[.int .i64 o] w fun e w' => e = .returned (.iface 182 (.string ⟨#[102, 97, 108, 115, 101]⟩)) ∧ w = w' := by
  subst h
  go_enter Try.func175, Try.ntmps175
  go_wp2
  go_ret
  exact ⟨rfl, rfl⟩
theorem notation_3 (o : Int) (w : World) (h : o = 3) : Calls Try.prog 175 #[.int .i64 o] w fun e w' => e = .returned (.iface 184 (.agg #[])) ∧ w = w' := by
  subst h
  go_enter Try.func175, Try.ntmps175
  go_wp2
  go_ret
  exact ⟨rfl, rfl⟩
theorem notation_4 (o : Int) (w : World) (h : o = 4) : Calls Try.prog 175 #[.int .i64 o] w fun e w' => e = .returned (.iface 185 (.string ⟨#[126]⟩)) ∧ w = w' := by
  subst h
  go_enter Try.func175, Try.ntmps175
  go_wp2
  go_ret
  exact ⟨rfl, rfl⟩
theorem notation_5 (o : Int) (w : World) (h : o = 5) : Calls Try.prog 175 #[.int .i64 o] w fun e w' => e = .returned (.iface 186 (.string ⟨#[32, 38, 32]⟩)) ∧ w = w' := by
  subst h
  go_enter Try.func175, Try.ntmps175
  go_wp2
  go_ret
  exact ⟨rfl, rfl⟩
theorem notation_6 (o : Int) (w : World) (h : o = 6) : Calls Try.prog 175 #[.int .i64 o] w fun e w' => e = .returned (.iface 186 (.string ⟨#[32, 124, 32]⟩)) ∧ w = w' := by
  subst h
  go_enter Try.func175, Try.ntmps175
  go_wp2
  go_ret
  exact ⟨rfl, rfl⟩
theorem notation_7 (o : Int) (w : World) (h : o = 7) : Calls Try.prog 175 #[.int .i64 o] w fun e w' => e = .returned (.iface 186 (.string ⟨#[32, 61, 62, 32]⟩)) ∧ w = w' := by
  subst h
  go_enter Try.func175, Try.ntmps175
  go_wp2
  go_ret
  exact ⟨rfl, rfl⟩
theorem notation_8 (o : Int) (w : World) (h : o = 8) : Calls Try.prog 175 #[.int .i64 o] w fun e w' => e = .returned (.iface 187 (.string ⟨#[97, 108, 108, 32]⟩)) ∧ w = w' := by
  subst h
  go_enter Try.func175, Try.ntmps175
  go_wp2
  go_ret
  exact ⟨rfl, rfl⟩
theorem notation_9 (o : Int) (w : World) (h : o = 9) : Calls Try.prog 175 #[.int .i64 o] w fun e w' => e = .returned (.iface 187 (.string ⟨#[115, 111, 109, 101, 32]⟩)) ∧ w = w' := by
  subst h
  go_enter Try.func175, Try.ntmps175
  go_wp2
  go_ret
  exact ⟨rfl, rfl⟩
theorem notation_no (o : Int) (w : World) (h : ∀ j : Int, 1 ≤ j → j ≤ 9 → o ≠ j) : Calls Try.prog 175 #[.int .i64 o] w fun e w' => e = .returned .nilIface ∧ w = w' := by
  have q1 : ((o : Int) == 1) = false := by rw [beq_eq_false_iff_ne]; exact h 1 (by omega) (by omega)
  have q2 : ((o : Int) == 2) = false := by rw [beq_eq_false_iff_ne]; exact h 2 (by omega) (by omega)
  have q3 : ((o : Int) == 3) = false := by rw [beq_eq_false_iff_ne]; exact h 3 (by omega) (by omega)
  have q4 : ((o : Int) == 4) = false := by rw [beq_eq_false_iff_ne]; exact h 4 (by omega) (by omega)
  have q5 : ((o : Int) == 5) = false := by rw [beq_eq_false_iff_ne]; exact h 5 (by omega) (by omega)
  have q6 : ((o : Int) == 6) = false := by rw [beq_eq_false_iff_ne]; exact h 6 (by omega) (by omega)
  have q7 : ((o : Int) == 7) = false := by rw [beq_eq_false_iff_ne]; exact h 7 (by omega) (by omega)
  have q8 : ((o : Int) == 8) = false := by rw [beq_eq_false_iff_ne]; exact h 8 (by omega) (by omega)
  have q9 : ((o : Int) == 9) = false := by rw [beq_eq_false_iff_ne]; exact h 9 (by omega) (by omega)
  clear h
  go_enter Try.func175, Try.ntmps175
  go_wp2
  go_ret
  exact ⟨rfl, rfl⟩
theorem ta_1w (W : World) : (Instr.typeAssert (.iface 182 (.string ⟨#[116, 114, 117, 101]⟩)) 20 182 true).run Try.prog W = .ok (.tuple #[.string ⟨#[116, 114, 117, 101]⟩, .bool true]) W := by kernel_rfl
theorem ta_2w (W : World) : (Instr.typeAssert (.iface 182 (.string ⟨#[102, 97, 108, 115, 101]⟩)) 20 182 true).run Try.prog W = .ok (.tuple #[.string ⟨#[102, 97, 108, 115, 101]⟩, .bool true]) W := by kernel_rfl
theorem ta_3w (W : World) : (Instr.typeAssert (.iface 184 (.agg #[])) 20 182 true).run Try.prog W = .ok (.tuple #[.string ⟨#[]⟩, .bool false]) W := by kernel_rfl
theorem ta_3a (W : World) : (Instr.typeAssert (.iface 184 (.agg #[])) 20 184 true).run Try.prog W = .ok (.tuple #[.agg #[], .bool true]) W := by kernel_rfl
theorem ta_4w (W : World) : (Instr.typeAssert (.iface 185 (.string ⟨#[126]⟩)) 20 182 true).run Try.prog W = .ok (.tuple #[.string ⟨#[]⟩, .bool false]) W := by kernel_rfl
theorem ta_4a (W : World) : (Instr.typeAssert (.iface 185 (.string ⟨#[126]⟩)) 20 184 true).run Try.prog W = .ok (.tuple #[.agg #[], .bool false]) W := by kernel_rfl
theorem ta_4p (W : World) : (Instr.typeAssert (.iface 185 (.string ⟨#[126]⟩)) 20 185 true).run Try.prog W = .ok (.tuple #[.string ⟨#[126]⟩, .bool true]) W := by kernel_rfl
theorem ta_5w (W : World) : (Instr.typeAssert (.iface 186 (.string ⟨#[32, 38, 32]⟩)) 20 182 true).run Try.prog W = .ok (.tuple #[.string ⟨#[]⟩, .bool false]) W := by kernel_rfl
theorem ta_5a (W : World) : (Instr.typeAssert (.iface 186 (.string ⟨#[32, 38, 32]⟩)) 20 184 true).run Try.prog W = .ok (.tuple #[.agg #[], .bool false]) W := by kernel_rfl
theorem ta_5p (W : World) : (Instr.typeAssert (.iface 186 (.string ⟨#[32, 38, 32]⟩)) 20 185 true).run Try.prog W = .ok (.tuple #[.string ⟨#[]⟩, .bool false]) W := by kernel_rfl
theorem ta_5i (W : World) : (Instr.typeAssert (.iface 186 (.string ⟨#[32, 38, 32]⟩)) 20 186 true).run Try.prog W = .ok (.tuple #[.string ⟨#[32, 38, 32]⟩, .bool true]) W := by kernel_rfl
theorem ta_6w (W : World) : (Instr.typeAssert (.iface 186 (.string ⟨#[32, 124, 32]⟩)) 20 182 true).run Try.prog W = .ok (.tuple #[.string ⟨#[]⟩, .bool false]) W := by kernel_rfl
theorem ta_6a (W : World) : (Instr.typeAssert (.iface 186 (.string ⟨#[32, 124, 32]⟩)) 20 184 true).run Try.prog W = .ok (.tuple #[.agg #[], .bool false]) W := by kernel_rfl
theorem ta_6p (W : World) : (Instr.typeAssert (.iface 186 (.string ⟨#[32, 124, 32]⟩)) 20 185 true).run Try.prog W = .ok (.tuple #[.string ⟨#[]⟩, .bool false]) W := by kernel_rfl
theorem ta_6i (W : World) : (Instr.typeAssert (.iface 186 (.string ⟨#[32, 124, 32]⟩)) 20 186 true).run Try.prog W = .ok (.tuple #[.string ⟨#[32, 124, 32]⟩, .bool true]) W := by kernel_rfl
theorem ta_7w (W : World) : (Instr.typeAssert (.iface 186 (.string ⟨#[32, 61, 62, 32]⟩)) 20 182 true).run Try.prog W = .ok (.tuple #[.string ⟨#[]⟩, .bool false]) W := by kernel_rfl
theorem ta_7a (W : World) : (Instr.typeAssert (.iface 186 (.string ⟨#[32, 61, 62, 32]⟩)) 20 184 true).run Try.prog W = .ok (.tuple #[.agg #[], .bool false]) W := by kernel_rfl
theorem ta_7p (W : World) : (Instr.typeAssert (.iface 186 (.string ⟨#[32, 61, 62, 32]⟩)) 20 185 true).run Try.prog W = .ok (.tuple #[.string ⟨#[]⟩, .bool false]) W := by kernel_rfl
theorem ta_7i (W : World) : (Instr.typeAssert (.iface 186 (.string ⟨#[32, 61, 62, 32]⟩)) 20 186 true).run Try.prog W = .ok (.tuple #[.string ⟨#[32, 61, 62, 32]⟩, .bool true]) W := by kernel_rfl
theorem ta_8w (W : World) : (Instr.typeAssert (.iface 187 (.string ⟨#[97, 108, 108, 32]⟩)) 20 182 true).run Try.prog W = .ok (.tuple #[.string ⟨#[]⟩, .bool false]) W := by kernel_rfl
theorem ta_8a (W : World) : (Instr.typeAssert (.iface 187 (.string ⟨#[97, 108, 108, 32]⟩)) 20 184 true).run Try.prog W = .ok (.tuple #[.agg #[], .bool false]) W := by kernel_rfl
theorem ta_8p (W : World) : (Instr.typeAssert (.iface 187 (.string ⟨#[97, 108, 108, 32]⟩)) 20 185 true).run Try.prog W = .ok (.tuple #[.string ⟨#[]⟩, .bool false]) W := by kernel_rfl
theorem ta_8i (W : World) : (Instr.typeAssert (.iface 187 (.string ⟨#[97, 108, 108, 32]⟩)) 20 186 true).run Try.prog W = .ok (.tuple #[.string ⟨#[]⟩, .bool false]) W := by kernel_rfl
theorem ta_8b (W : World) : (Instr.typeAssert (.iface 187 (.string ⟨#[97, 108, 108, 32]⟩)) 20 187 true).run Try.prog W = .ok (.tuple #[.string ⟨#[97, 108, 108, 32]⟩, .bool true]) W := by kernel_rfl
theorem ta_9w (W : World) : (Instr.typeAssert (.iface 187 (.string ⟨#[115, 111, 109, 101, 32]⟩)) 20 182 true).run Try.prog W = .ok (.tuple #[.string ⟨#[]⟩, .bool false]) W := by kernel_rfl
theorem ta_9a (W : World) : (Instr.typeAssert (.iface 187 (.string ⟨#[115, 111, 109, 101, 32]⟩)) 20 184 true).run Try.prog W = .ok (.tuple #[.agg #[], .bool false]) W := by kernel_rfl
theorem ta_9p (W : World) : (Instr.typeAssert (.iface 187 (.string ⟨#[115, 111, 109, 101, 32]⟩)) 20 185 true).run Try.prog W = .ok (.tuple #[.string ⟨#[]⟩, .bool false]) W := by kernel_rfl
theorem ta_9i (W : World) : (Instr.typeAssert (.iface 187 (.string ⟨#[115, 111, 109, 101, 32]⟩)) 20 186 true).run Try.prog W = .ok (.tuple #[.string ⟨#[]⟩, .bool false]) W := by kernel_rfl
theorem ta_9b (W : World) : (Instr.typeAssert (.iface 187 (.string ⟨#[115, 111, 109, 101, 32]⟩)) 20 187 true).run Try.prog W = .ok (.tuple #[.string ⟨#[115, 111, 109, 101, 32]⟩, .bool true]) W := by kernel_rfl
theorem ta_0w (W : World) : (Instr.typeAssert .nilIface 20 182 true).run Try.prog W = .ok (.tuple #[.string ⟨#[]⟩, .bool false]) W := by kernel_rfl
theorem ta_0a (W : World) : (Instr.typeAssert .nilIface 20 184 true).run Try.prog W = .ok (.tuple #[.agg #[], .bool false]) W := by kernel_rfl
theorem ta_0p (W : World) : (Instr.typeAssert .nilIface 20 185 true).run Try.prog W = .ok (.tuple #[.string ⟨#[]⟩, .bool false]) W := by kernel_rfl
theorem ta_0i (W : World) : (Instr.typeAssert .nilIface 20 186 true).run Try.prog W = .ok (.tuple #[.string ⟨#[]⟩, .bool false]) W := by kernel_rfl
theorem ta_0b (W : World) : (Instr.typeAssert .nilIface 20 187 true).run Try.prog W = .ok (.tuple #[.string ⟨#[]⟩, .bool false]) W := by kernel_rfl

end Go.Proofs.Ytppmiedhoimgmaa
