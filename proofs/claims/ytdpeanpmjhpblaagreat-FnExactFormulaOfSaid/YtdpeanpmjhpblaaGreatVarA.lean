/- The program's test of a variable's name, for every string. No condition. -/
import Derived.Test.YtdpeanpmjhpblaaGreatName
namespace Go.Proofs.YtdpeanpmjhpblaaGreat
open Go.RowKit
set_option linter.unusedVariables false

theorem word_big (s : ByteArray) (w : World) (h1 : 4 < s.size) :
    Calls Tryz.prog 95 #[.string s, .int .i64 4] w fun e w' => e = .returned (.bool false) ∧ w = w' := by
  go_enter Tryz.func95, Tryz.ntmps95
  go_wp2
  go_ret
  exact ⟨rfl, rfl⟩
theorem isVar_all (s : ByteArray) (w : World) :
    Calls Tryz.prog 75 #[.string s] w fun e w' => e = .returned (.bool (varB s)) ∧ w = w' := by
  by_cases h : 4 < s.size
  · have C := Lib.hid (word_big s w h)
    have H : Hid (varB s = false) := Lib.hid (varB_short (by omega))
    clear h
    go_enter Tryz.func75, Tryz.ntmps75
    go_wp2_with fail
    refine C.out.mono ?_
    rintro e w' ⟨rfl, rfl⟩
    go_wp2
    go_ret
    exact ⟨ret_bool H.out.symm, rfl⟩
  · exact isVar_any s w (by unfold maxLen; omega)

end Go.Proofs.YtdpeanpmjhpblaaGreat
