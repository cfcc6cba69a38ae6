/- TermSize and TermDepth, the program's and the model's: contracts, for terms of at most 1048576 names' bytes and arguments. -/
import Derived.Test.YtppmiedhoimgmaaImplV2
namespace Go.Proofs.Ytppmiedhoimgmaa
open Go.RowKit
set_option linter.unusedVariables false

def sizeA (t : Tm) : Int := if anyB t then t.sz else 0
def depthA (t : Tm) : Int := if anyB t then t.dp else 0
theorem sizeA_yes {t : Tm} (h : anyB t = true) : sizeA t = t.sz := by simp [sizeA, h]
theorem sizeA_no {t : Tm} (h : anyB t = false) : sizeA t = 0 := by simp [sizeA, h]
theorem depthA_yes {t : Tm} (h : anyB t = true) : depthA t = t.dp := by simp [depthA, h]
theorem depthA_no {t : Tm} (h : anyB t = false) : depthA t = 0 := by simp [depthA, h]

theorem ret_pair {a b : Int} {p q : Bool} (h : a = b) (k : p = q) : Ending.returned (.tuple #[.int .i64 a, .bool p]) = .returned (.tuple #[.int .i64 b, .bool q]) := by rw [h, k]

/-- The test whether one term is an expression. -/
theorem areExpr_one (t : Tm) (w : World) (va : Value) (g c : Nat) (hv : TmS w va t.args) (h0 : w.cell? ⟨g, 0, none⟩ = some (.string t.name)) (h1 : w.cell? ⟨g, 1, none⟩ = some va) (hw : t.wt ≤ 1048576) :
    Calls Try.prog 49 #[.slice (some ⟨g, 0, none⟩) 1 c] w (Ans (.bool (anyB t)) w) := by
  have h := areExpr_any [t] w _ (tmS_one hv g c h0 h1) (by simp) (fun s hs => by rw [List.mem_singleton.1 hs]; exact hw)
  have e : [t].all anyB = anyB t := by simp
  rwa [e] at h

set_option maxHeartbeats 1000000 in
theorem implTermSize_any (t : Tm) (w : World) (va : Value) (hv : TmS w va t.args) (hw : t.wt ≤ 1048576) :
    Calls Try.prog 12 #[.agg #[.string t.name, va]] w (Ans (.tuple #[.int .i64 (sizeA t), .bool (anyB t)]) w) := by
  obtain ⟨a, c, rfl⟩ := hv.is_slice
  have HV := Lib.hid hv
  clear hv
  go_enter Try.func12, Try.ntmps12
  go_wp2_with fail
  refine (areExpr_one t _ _ _ _ ((HV.out.alloc _).alloc _) (two_new _ _ _ _ _ (by simp)).1 (two_new _ _ _ _ _ (by simp)).2.1 hw).mono ?_
  rintro e w' ⟨rfl, hb⟩
  have HB := Lib.hid (carry_below ((((Below.refl w.heap.size w).alloc (Nat.le_refl _) _).alloc (by simp) _)) (Nat.le_refl _) hb)
  obtain ⟨b0, b1, b2⟩ := ((two_new w (.string t.name) (.slice a t.args.length c) 26 _ rfl).alloc _).kept hb
  clear hb
  cases hf : anyB t with
  | false =>
    have HF := Lib.hid (sizeA_no hf)
    have HFF := Lib.hid hf
    clear hf
    go_wp2
    go_ret2
    exact ⟨ret_pair HF.out.symm HFF.out.symm, HB.out⟩
  | true =>
    have HF := Lib.hid (sizeA_yes hf)
    have hfit := anyB_fits hf
    have HFF := Lib.hid hf
    clear hf
    have hft : t.sz ≤ 30 ∧ t.dp ≤ 8 := by simpa [fitsB] using hfit
    have HC := Lib.hid (cntV_yes (t := t) (z := 30) (d := 8) hft)
    clear hfit
    go_wp2_with fail
    refine (count_any t _ _ 30 8 (HV.out.kept HB.out) hw (by omega) (by omega)).mono ?_
    rintro e w2 ⟨he, hb⟩
    rw [HC.out] at he
    subst he
    have HB2 := Lib.hid (carry_below HB.out (Nat.le_refl _) hb)
    clear hb
    go_wp2
    go_ret2
    exact ⟨ret_pair HF.out.symm HFF.out.symm, HB2.out⟩
end Go.Proofs.Ytppmiedhoimgmaa
