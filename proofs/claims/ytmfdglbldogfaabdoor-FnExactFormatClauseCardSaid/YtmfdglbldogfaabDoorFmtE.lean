/- The model's text of an equality, and FormatTerm of the model: contracts, for terms of at most 1048576 names' bytes and arguments. -/
import Derived.Test.YtmfdglbldogfaabDoorFmtS
namespace Go.Proofs.YtmfdglbldogfaabDoor
open Go.RowKit
set_option linter.unusedVariables false

theorem run_cat {P : Program} (T : TypeId) (a b : ByteArray) (h : a.size + b.size ≤ 9223372036854775807) (W : World) : (binOp .add T (.string a) (.string b)).run P W = .ok (.string (a ++ b)) W := by
  have h' : ¬ ((a.size + b.size : Nat) : Int) > IntKind.i64.max := by
    show ¬ ((a.size + b.size : Nat) : Int) > 9223372036854775807
    omega
  simp only [binOp, Op.stringOp, if_neg h']
  rfl

set_option maxRecDepth 100000 in
set_option maxHeartbeats 4000000 in
theorem l3Eq_any (t x y : Tm) (w : World) (va : Value) (hv : TmS w va t.args) (hw : t.wt ≤ 1048576) (heq : isEqB t.name = true) (hxy : t.args = [x, y]) (hx : x.nodesB = true) (hy : y.nodesB = true) :
    Calls Tryd.prog 56 #[.agg #[.string t.name, va]] w (Ans (.string (bs (jn eqSign t.args))) w) := by
  have hq : (t.name.toList == [61]) = true := heq
  obtain ⟨a, c, rfl⟩ := hv.is_slice
  have HV := Lib.hid hv
  have hl : t.args.length = 2 := by rw [hxy]; rfl
  have HX : Hid (t.args[0]? = some x) := Lib.hid (by rw [hxy]; rfl)
  have HY : Hid (t.args[1]? = some y) := Lib.hid (by rw [hxy]; rfl)
  have hlt0 : (0 : Int) < (t.args.length : Int) := by omega
  have hlt1 : (1 : Int) < (t.args.length : Int) := by omega
  obtain ⟨b, off, rfl, v1, x0, x1, hvx⟩ := hv.get HX.out
  obtain ⟨b', off', hbb, v2, y0, y1, hvy⟩ := hv.get HY.out
  injection hbb with hbb
  injection hbb with hb1 hb2
  subst hb1
  subst hb2
  have hwx : x.wt ≤ 1048576 := Nat.le_trans (Tm.wt_arg (mem_of_at HX.out)) hw
  have hwy : y.wt ≤ 1048576 := Nat.le_trans (Tm.wt_arg (mem_of_at HY.out)) hw
  have hps : (bs x.txt).size ≤ 4000000 := by have h2 := x.txt_wt; rw [bs_size]; omega
  have hrs : (bs y.txt).size ≤ 4000000 := by have h2 := y.txt_wt; rw [bs_size]; omega
  have hz1 : (bs x.txt ++ ⟨#[32, 61, 32]⟩).size ≤ 4000003 := by rw [app_size]; show (bs x.txt).size + 3 ≤ _; omega
  have hn1 : ¬ 9223372036854775807 < (bs x.txt).size + 3 := by omega
  have hn2 : ¬ 9223372036854775807 < (bs x.txt).size + 3 + (bs y.txt).size := by omega
  have HF : Hid (bs x.txt ++ ⟨#[32, 61, 32]⟩ ++ bs y.txt = bs (jn eqSign t.args)) := Lib.hid (by rw [hxy, jn_two, ← bs_append, ← bs_append]; exact ByteArray.append_assoc)
  obtain ⟨xa, xc, rfl⟩ := hvx.is_slice
  obtain ⟨ya, yc, rfl⟩ := hvy.is_slice
  have CC : Hid (∀ (s : Tm) (v : Value) (W : World), Below w.heap.size w W → (s = x ∧ v = .slice xa x.args.length xc) ∨ (s = y ∧ v = .slice ya y.args.length yc) → Calls Tryd.prog 56 #[.agg #[.string s.name, v]] W (Ans (.string (bs s.txt)) W)) := Lib.hid (fun s v W hW h => by
    rcases h with ⟨rfl, rfl⟩ | ⟨rfl, rfl⟩
    · exact l3Term_any s W _ (hvx.kept hW) hwx hx
    · exact l3Term_any s W _ (hvy.kept hW) hwy hy)
  rw [hl]
  obtain ⟨W1, hW1⟩ : ∃ W1, (w.alloc (.cells #[.string t.name, .slice (some ⟨b, off, none⟩) 2 c] 49)) = W1 := ⟨_, rfl⟩
  have hB : Below w.heap.size w W1.drew := by rw [← hW1]; exact ((Below.refl _ _).alloc (Nat.le_refl _) _).drew
  obtain ⟨b0, b1, b2⟩ := (two_new w (.string t.name) (.slice (some ⟨b, off, none⟩) 2 c) 49 _ rfl)
  rw [hW1] at b0 b1 b2
  have z : w.heap.size + 1 = W1.heap.size := by rw [← hW1]; simp
  have x0' : W1.drew.cell? ⟨b, off, none⟩ = _ := carry_cell x0 hB
  have x1' : W1.drew.cell? ⟨b, off + 1, none⟩ = _ := carry_cell x1 hB
  have y0' : W1.drew.cell? ⟨b, off + 2, none⟩ = _ := carry_cell y0 hB
  have y1' : W1.drew.cell? ⟨b, off + 2 + 1, none⟩ = _ := carry_cell y1 hB
  clear x0 x1 y0 y1 hvx hvy hv hxy heq hl
  go_enter Tryd.func56, Tryd.ntmps56
  go_wp2_with fail
  go_region_held3 (fun w' => w'.cell? ⟨w.heap.size, 0, none⟩ = some (.string t.name) ∧ w'.cell? ⟨w.heap.size, 1, none⟩ = some (.slice (some ⟨b, off, none⟩) 2 c) ∧ w'.cell? ⟨b, off, none⟩ = some (.string x.name) ∧ w'.cell? ⟨b, off + 1, none⟩ = some (.slice xa x.args.length xc) ∧ w'.cell? ⟨b, off + 2, none⟩ = some (.string y.name) ∧ w'.cell? ⟨b, off + 2 + 1, none⟩ = some (.slice ya y.args.length yc) ∧ Below w.heap.size w w') (first | exact ⟨by assumption, by assumption, by assumption, by assumption, by assumption, by assumption, by assumption⟩ | go_keep) (first | (go_at_call 56; refine (CC.out _ _ _ (by assumption) (by first | exact .inl ⟨rfl, rfl⟩ | exact .inr ⟨rfl, rfl⟩)).mono ?_; rintro e w6 ⟨rfl, hb⟩; have b0 := carry_cell' hb b0; have b1 := carry_cell' hb b1; have x0' := carry_cell' hb x0'; have x1' := carry_cell' hb x1'; have y0' := carry_cell' hb y0'; have y1' := carry_cell' hb y1'; have hB := carry_below hB (Nat.le_refl _) hb; clear hb))
  all_goals (go_wp2; go_ret; exact ⟨ret_str HF.out, by assumption⟩)

theorem any_ways {t : Tm} (h : anyB t = true) : (isEqB t.name = true ∧ ∃ x y, t.args = [x, y] ∧ x.nodesB = true ∧ y.nodesB = true) ∨ (isEqB t.name = false ∧ t.nodesB = true) := by
  unfold anyB at h
  cases hg : goodB t with
  | true =>
    have hn : t.nodesB = true := by unfold goodB at hg; simp only [Bool.and_eq_true] at hg; exact hg.2
    exact .inr ⟨nodes_noteq hn, hn⟩
  | false =>
    rw [hg, Bool.false_or] at h
    unfold atomB at h
    cases he : isEqB t.name with
    | true =>
      rw [he] at h
      simp only [if_true, Bool.and_eq_true, decide_eq_true_eq, List.all_eq_true] at h
      obtain ⟨x, y, hxy⟩ := two_args h.1
      exact .inl ⟨rfl, x, y, hxy, h.2.2 x (by rw [hxy]; simp), h.2.2 y (by rw [hxy]; simp)⟩
    | false =>
      rw [he] at h
      simp only [Bool.false_eq_true, if_false, Bool.and_eq_true] at h
      rw [hg] at h
      cases h.2

theorem txtX_eq {sign : List UInt8} {t : Tm} (h : isEqB t.name = true) : txtX sign t = jn sign t.args := by simp [txtX, h]
theorem txtX_no {sign : List UInt8} {t : Tm} (h : isEqB t.name = false) : txtX sign t = t.txt := by simp [txtX, h]

theorem l3Expr_any (t : Tm) (w : World) (va : Value) (hv : TmS w va t.args) (hw : t.wt ≤ 1048576) (ha : anyB t = true) :
    Calls Tryd.prog 56 #[.agg #[.string t.name, va]] w (Ans (.string (bs (txtX eqSign t))) w) := by
  rcases any_ways ha with ⟨he, x, y, hxy, hx, hy⟩ | ⟨he, hn⟩
  · rw [txtX_eq he]; exact l3Eq_any t x y w va hv hw he hxy hx hy
  · rw [txtX_no he]; exact l3Term_any t w va hv hw hn

end Go.Proofs.YtmfdglbldogfaabDoor
