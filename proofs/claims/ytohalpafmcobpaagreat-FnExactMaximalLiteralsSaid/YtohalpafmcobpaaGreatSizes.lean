/- TermSize and TermDepth, the program's and the model's: contracts, for terms of at most 1048576 names' bytes and arguments. -/
import Derived.Test.YtohalpafmcobpaaGreatImplV2
namespace Go.Proofs.YtohalpafmcobpaaGreat
open Go.RowKit
set_option linter.unusedVariables false

def sizeA (t : Tm) : Int := if anyB t then t.sz else 0
def depthA (t : Tm) : Int := if anyB t then t.dp else 0
theorem sizeA_yes {t : Tm} (h : anyB t = true) : sizeA t = t.sz := by simp [sizeA, h]
theorem sizeA_no {t : Tm} (h : anyB t = false) : sizeA t = 0 := by simp [sizeA, h]
theorem depthA_yes {t : Tm} (h : anyB t = true) : depthA t = t.dp := by simp [depthA, h]
theorem depthA_no {t : Tm} (h : anyB t = false) : depthA t = 0 := by simp [depthA, h]

theorem ret_pair {a b : Int} {p q : Bool} (h : a = b) (k : p = q) : Ending.returned (.tuple #[.int .i64 a, .bool p]) = .returned (.tuple #[.int .i64 b, .bool q]) := by rw [h, k]

/-- The test whether one term is an expression. -/
theorem areExpr_one (t : Tm) (w : World) (va : Value) (g c : Nat) (hv : TmS w va t.args) (h0 : w.cell? ⟨g, 0, none⟩ = some (.string t.name)) (h1 : w.cell? ⟨g, 1, none⟩ = some va) (hw : t.wt ≤ 1048576) :
    Calls Tryz.prog 118 #[.slice (some ⟨g, 0, none⟩) 1 c] w (Ans (.bool (anyB t)) w) := by
  have h := areExpr_any [t] w _ (tmS_one hv g c h0 h1) (by simp) (fun s hs => by rw [List.mem_singleton.1 hs]; exact hw)
  have e : [t].all anyB = anyB t := by simp
  rwa [e] at h

end Go.Proofs.YtohalpafmcobpaaGreat
