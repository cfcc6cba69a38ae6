/- Literals in memory, their texts, and the laws' helpers over them: contracts, for atoms of at most 1048576 names' bytes and arguments. -/
import Derived.Test.YtgpmdfhepanahaaGreatWrE
import Derived.Test.YtgpmdfhepanahaaGreatSz
import Derived.Test.YtgpmdfhepanahaaGreatTo
import Derived.Test.YtgpmdfhepanahaaGreatEq
import Derived.Test.YtgpmdfhepanahaaGreatOpenTm
namespace Go.Proofs.YtgpmdfhepanahaaGreat
open Go.RowKit
set_option linter.unusedVariables false

/-- A block whose first three cells hold these values, not frozen. -/
def Tri (w : World) (b : Nat) (x y z : Value) : Prop := w.cell? ⟨b, 0, none⟩ = some x ∧ w.cell? ⟨b, 1, none⟩ = some y ∧ w.cell? ⟨b, 2, none⟩ = some z ∧ ∀ j, w.frozen? ⟨b, j, none⟩ = false
theorem tri_new (w : World) (x y z : Value) (T : TypeId) (b : Nat) (hb : b = w.heap.size) : Tri (w.alloc (.cells #[x, y, z] T)) b x y z :=
  ⟨by rw [World.cell?_alloc_at _ _ _ _ hb]; rfl, by rw [World.cell?_alloc_at _ _ _ _ hb]; rfl, by rw [World.cell?_alloc_at _ _ _ _ hb]; rfl, fun j => World.frozen?_alloc_at _ _ _ _ hb⟩
theorem Tri.kept {w w' : World} {b : Nat} {x y z : Value} (h : Tri w b x y z) (hb : Below w.heap.size w w') : Tri w' b x y z :=
  ⟨carry_cell h.1 hb, carry_cell h.2.1 hb, carry_cell h.2.2.1 hb, fun j => (hb.frozen (p := ⟨b, j, none⟩) (World.block_lt_of_cell? w ⟨b, 0, none⟩ h.1)).trans (h.2.2.2 j)⟩
theorem Tri.alloc {w : World} {b : Nat} {x y z : Value} (h : Tri w b x y z) (o : Obj) : Tri (w.alloc o) b x y z := h.kept ((Below.refl _ _).alloc (Nat.le_refl _) o)
theorem Tri.drew {w : World} {b : Nat} {x y z : Value} (h : Tri w b x y z) : Tri w.drew b x y z := h.kept (Below.refl _ _).drew

def litTxt (p : Bool) (t : Tm) : List UInt8 := if p then txtX eqSign t else if isEqB t.name then txtX neSign t else 126 :: txtX neSign t
theorem lit_pos (t : Tm) : litTxt true t = txtX eqSign t := rfl
theorem lit_neq {t : Tm} (h : isEqB t.name = true) : litTxt false t = txtX neSign t := by simp [litTxt, h]
theorem lit_neg {t : Tm} (h : isEqB t.name = false) : litTxt false t = 126 :: txtX neSign t := by simp [litTxt, h]
def fmtL (p : Bool) (t : Tm) : ByteArray := if atomB t then bs (litTxt p t) else bs []
theorem fmtL_yes {p : Bool} {t : Tm} (h : atomB t = true) : fmtL p t = bs (litTxt p t) := by simp [fmtL, h]
theorem fmtL_no {p : Bool} {t : Tm} (h : atomB t = false) : fmtL p t = bs [] := by simp [fmtL, h]
theorem atom_any {t : Tm} (h : atomB t = true) : anyB t = true := by simp [anyB, h]

set_option maxHeartbeats 1000000 in
theorem szLiteral_any (p : Bool) (t : Tm) (w : World) (va : Value) (left : Int) (hv : TmS w va t.args) (hlim : t.lim 9223372036854775807) (h0 : 0 ≤ left) (h1 : left ≤ 1048576) :
    Calls Tryz.prog 79 #[.agg #[.bool p, .string t.name, va], .int .i64 left] w fun e w' => e = .returned (.int .i64 (szR left t.wt)) ∧ Below w.heap.size w w' := by
  obtain ⟨pa, ca, rfl⟩ := hv.is_slice
  have HV := Lib.hid hv
  have HLIM := Lib.hid hlim
  have HB := Lib.hid ((Below.refl w.heap.size w).alloc (Nat.le_refl _) (.cells #[.bool p, .string t.name, .slice pa t.args.length ca] 121))
  clear hv hlim
  go_enter Tryz.func79, Tryz.ntmps79
  go_wp2_with fail
  refine (szTerm_any t _ _ left (HV.out.kept HB.out) HLIM.out h0 h1).mono ?_
  rintro e w1 ⟨rfl, hb⟩
  have HB1 := Lib.hid (carry_below HB.out (Nat.le_refl _) hb)
  clear hb
  rcases szR_cases left t.wt with ⟨c1, c2⟩ | ⟨c1, c2⟩
  · have HC := Lib.hid c2
    rw [c2]
    clear c2
    go_wp2
    go_ret
    exact ⟨ret_int HC.out.symm, HB1.out⟩
  · have HC := Lib.hid c2
    rw [c2]
    clear c2
    have hn : ¬ left - (t.wt : Int) < 0 := by omega
    go_wp2
    go_ret
    exact ⟨ret_int HC.out.symm, HB1.out⟩

set_option maxHeartbeats 1000000 in
theorem eqLiteral_any (p : Bool) (t : Tm) (w : World) (va vb : Value) (ha : TmS w va t.args) (hb : TmS w vb t.args) (hlim : t.lim 1048576) :
    Calls Tryz.prog 87 #[.agg #[.bool p, .string t.name, va], .agg #[.bool p, .string t.name, vb]] w fun e w' => e = .returned (.bool true) ∧ Below w.heap.size w w' := by
  obtain ⟨pa, ca, rfl⟩ := ha.is_slice
  obtain ⟨pb, cb, rfl⟩ := hb.is_slice
  have HA := Lib.hid ha
  have HBB := Lib.hid hb
  have HB := Lib.hid (((Below.refl w.heap.size w).alloc (Nat.le_refl _) (.cells #[.bool p, .string t.name, .slice pa t.args.length ca] 86)).alloc (by simp) (.cells #[.bool p, .string t.name, .slice pb t.args.length cb] 86))
  have CE := eqTerm_any t t _ _ _ (ha.kept HB.out) (hb.kept HB.out) hlim hlim
  rw [eqT_self] at CE
  have HCE := Lib.hid CE
  clear ha hb CE
  go_enter Tryz.func87, Tryz.ntmps87
  go_wp2_with fail
  refine HCE.out.mono ?_
  rintro e w1 ⟨rfl, hb⟩
  have HB1 := Lib.hid (carry_below HB.out (Nat.le_refl _) hb)
  clear hb
  go_wp2
  go_ret
  exact ⟨rfl, HB1.out⟩

def ToLitEnd (p : Bool) (t : Tm) (w : World) (e : Ending) (w' : World) : Prop :=
  ∃ va, e = .returned (.agg #[.bool p, .string t.name, va]) ∧ TmO w' (Fresh w w') va t.args ∧ Below w.heap.size w w'

set_option maxRecDepth 100000 in
set_option maxHeartbeats 1000000 in
theorem toLiteral_any (p : Bool) (t : Tm) (w : World) (va : Value) (hv : TmS w va t.args) (hw : t.wt ≤ 1048576) :
    Calls Tryz.prog 83 #[.agg #[.bool p, .string t.name, va]] w (ToLitEnd p t w) := by
  obtain ⟨pa, ca, rfl⟩ := hv.is_slice
  have HV := Lib.hid hv
  clear hv
  go_enter Tryz.func83, Tryz.ntmps83
  have HB := Lib.hid ((((Below.refl w.heap.size w).alloc (Nat.le_refl _) (.cells #[.bool p, .string t.name, .slice pa t.args.length ca] 121)).alloc (by simp) (.cells #[.bool false, .string ⟨#[]⟩, .slice none 0 0] 86)).alloc (by simp; omega) (.cells #[.bool p, .string ⟨#[]⟩, .slice none 0 0] 86))
  have R2 := Lib.hid ((tri_new (w.alloc (.cells #[.bool p, .string t.name, .slice pa t.args.length ca] 121)) (.bool false) (.string ⟨#[]⟩) (.slice none 0 0) 86 (w.heap.size + 1) (by simp)).alloc (.cells #[.bool p, .string ⟨#[]⟩, .slice none 0 0] 86))
  have O2 := Lib.hid (tri_new ((w.alloc (.cells #[.bool p, .string t.name, .slice pa t.args.length ca] 121)).alloc (.cells #[.bool false, .string ⟨#[]⟩, .slice none 0 0] 86)) (.bool p) (.string ⟨#[]⟩) (.slice none 0 0) 86 (w.heap.size + 1 + 1) (by simp))
  go_wp2_with fail
  refine (toTerm_any t _ _ (HV.out.kept HB.out) hw).mono ?_
  rintro e w1 ⟨v1, rfl, ho, hb⟩
  obtain ⟨qv, qc, rfl⟩ := ho.read.is_slice
  have HB1 := Lib.hid (carry_below HB.out (Nat.le_refl _) hb)
  have HO := Lib.hid ho
  obtain ⟨r0, r1, r2, r3⟩ := R2.out.kept hb
  obtain ⟨o0, o1, o2, o3⟩ := O2.out.kept hb
  have hz := hb.size
  simp at hz
  clear ho hb
  have hne : w.heap.size + 1 + 1 ≠ w.heap.size + 1 := by omega
  have hne' : w.heap.size + 1 ≠ w.heap.size + 1 + 1 := by omega
  -- the world behind the store of the atom
  obtain ⟨W2, hW2⟩ : ∃ W2, (w1.setCell ⟨w.heap.size + 1 + 1, 1, none⟩ (.string t.name)).setCell ⟨w.heap.size + 1 + 1, 2, none⟩ (.slice qv t.args.length qc) = W2 := ⟨_, rfl⟩
  have p0 : W2.cell? ⟨w.heap.size + 1 + 1, 0, none⟩ = some (.bool p) := by rw [← hW2, World.cell?_setCell_other _ _ _ _ (by simp), World.cell?_setCell_other _ _ _ _ (by simp)]; exact o0
  have p1 : W2.cell? ⟨w.heap.size + 1 + 1, 1, none⟩ = some (.string t.name) := by rw [← hW2, World.cell?_setCell_other _ _ _ _ (by simp)]; exact World.cell?_setCell_same _ _ _ o1
  have p2 : W2.cell? ⟨w.heap.size + 1 + 1, 2, none⟩ = some (.slice qv t.args.length qc) := by rw [← hW2]; exact World.cell?_setCell_same _ _ _ ((World.cell?_setCell_other _ _ _ _ (by simp)).trans o2)
  have q0 : W2.cell? ⟨w.heap.size + 1, 0, none⟩ = some (.bool false) := by rw [← hW2, World.cell?_setCell_other _ _ _ _ (by simp), World.cell?_setCell_other _ _ _ _ (by simp)]; exact r0
  have q1 : W2.cell? ⟨w.heap.size + 1, 1, none⟩ = some (.string ⟨#[]⟩) := by rw [← hW2, World.cell?_setCell_other _ _ _ _ (by simp), World.cell?_setCell_other _ _ _ _ (by simp)]; exact r1
  have q2 : W2.cell? ⟨w.heap.size + 1, 2, none⟩ = some (.slice none 0 0) := by rw [← hW2, World.cell?_setCell_other _ _ _ _ (by simp), World.cell?_setCell_other _ _ _ _ (by simp)]; exact r2
  have q3 : ∀ j, W2.frozen? ⟨w.heap.size + 1, j, none⟩ = false := fun j => by rw [← hW2, World.frozen?_setCell, World.frozen?_setCell]; exact r3 j
  have HB2 : Hid (Below w.heap.size w W2) := Lib.hid (by rw [← hW2]; exact (HB1.out.setCell (by simp; omega) _).setCell (by simp; omega) _)
  have HNR : Hid (TmO W2 (fun k => w.heap.size + 1 + 1 < k ∧ k < W2.heap.size) (.slice qv t.args.length qc) t.args) := Lib.hid (by
    rw [← hW2]
    refine ((HO.out.setCell (fun h => by have := h.1; simp at this; omega) _).setCell (fun h => by have := h.1; simp at this; omega) _).mono fun x hx => ⟨?_, ?_⟩
    · have := hx.1; simp at this; omega
    · simp only [size_setCell]; exact hx.2)
  go_wp2
  refine bodyPost_ret (v := .agg #[.bool p, .string t.name, .slice qv t.args.length qc]) (by simp [results, Tryz.results83, go_sem, q0, q1, q2]) rfl ?_
  refine ⟨_, rfl, ?_, ((HB2.out.setCell (by simp) _).setCell (by simp) _).setCell (by simp) _⟩
  refine (((HNR.out.setCell (fun h => by have h1 : w.heap.size + 1 + 1 < w.heap.size + 1 := h.1; omega) _).setCell (fun h => by have h1 : w.heap.size + 1 + 1 < w.heap.size + 1 := h.1; omega) _).setCell (fun h => by have h1 : w.heap.size + 1 + 1 < w.heap.size + 1 := h.1; omega) _).mono fun x hx => ⟨?_, ?_⟩
  · have := hx.1; omega
  · simp only [size_setCell]; exact hx.2

set_option maxHeartbeats 1000000 in
theorem isLiteral_any (p : Bool) (t : Tm) (w : World) (va : Value) (hv : TmS w va t.args) (hw : t.wt ≤ 1048576) :
    Calls Tryz.prog 115 #[.agg #[.bool p, .string t.name, va]] w (Ans (.bool (atomB t)) w) := by
  obtain ⟨pa, ca, rfl⟩ := hv.is_slice
  have HV := Lib.hid hv
  have HB := Lib.hid ((Below.refl w.heap.size w).alloc (Nat.le_refl _) (.cells #[.bool p, .string t.name, .slice pa t.args.length ca] 86))
  clear hv
  go_enter Tryz.func115, Tryz.ntmps115
  go_wp2_with fail
  refine (validAtom_any t _ _ (HV.out.kept HB.out) hw).mono ?_
  rintro e w1 ⟨rfl, hb⟩
  have HB1 := Lib.hid (carry_below HB.out (Nat.le_refl _) hb)
  clear hb
  go_wp2
  go_ret
  exact ⟨rfl, HB1.out⟩

end Go.Proofs.YtgpmdfhepanahaaGreat
