/- FormatLiteral, the model's and the program's: contracts, for atoms of at most 1048576 names' bytes and arguments. -/
import Derived.Test.YtmfdglbldogfaabDoorLit
namespace Go.Proofs.YtmfdglbldogfaabDoor
open Go.RowKit
set_option linter.unusedVariables false

theorem atom_ways {t : Tm} (h : atomB t = true) : (isEqB t.name = true ∧ ∃ x y, t.args = [x, y] ∧ x.nodesB = true ∧ y.nodesB = true) ∨ (isEqB t.name = false ∧ t.nodesB = true) := any_ways (atom_any h)

set_option maxRecDepth 100000 in
set_option maxHeartbeats 2000000 in
theorem l3Lit_neq (t x y : Tm) (w : World) (va : Value) (hv : TmS w va t.args) (hw : t.wt ≤ 1048576) (heq : isEqB t.name = true) (hxy : t.args = [x, y]) (hx : x.nodesB = true) (hy : y.nodesB = true) :
    Calls Tryd.prog 31 #[.agg #[.bool false, .string t.name, va]] w (Ans (.string (bs (jn neSign t.args))) w) := by
  have hq : (t.name.toList == [61]) = true := heq
  obtain ⟨a, c, rfl⟩ := hv.is_slice
  have HV := Lib.hid hv
  have hl : t.args.length = 2 := by rw [hxy]; rfl
  have HX : Hid (t.args[0]? = some x) := Lib.hid (by rw [hxy]; rfl)
  have HY : Hid (t.args[1]? = some y) := Lib.hid (by rw [hxy]; rfl)
  obtain ⟨b, off, rfl, v1, x0, x1, hvx⟩ := hv.get HX.out
  obtain ⟨b', off', hbb, v2, y0, y1, hvy⟩ := hv.get HY.out
  injection hbb with hbb
  injection hbb with hb1 hb2
  subst hb1
  subst hb2
  have hwx : x.wt ≤ 1048576 := Nat.le_trans (Tm.wt_arg (mem_of_at HX.out)) hw
  have hwy : y.wt ≤ 1048576 := Nat.le_trans (Tm.wt_arg (mem_of_at HY.out)) hw
  have hps : (bs x.txt).size ≤ 4000000 := by have h2 := x.txt_wt; rw [bs_size]; omega
  have hrs : (bs y.txt).size ≤ 4000000 := by have h2 := y.txt_wt; rw [bs_size]; omega
  have hn1 : ¬ 9223372036854775807 < (bs x.txt).size + 4 := by omega
  have hn2 : ¬ 9223372036854775807 < (bs x.txt).size + 4 + (bs y.txt).size := by omega
  have HF : Hid (bs x.txt ++ ⟨#[32, 33, 61, 32]⟩ ++ bs y.txt = bs (jn neSign t.args)) := Lib.hid (by rw [hxy, jn_two, ← bs_append, ← bs_append]; exact ByteArray.append_assoc)
  obtain ⟨xa, xc, rfl⟩ := hvx.is_slice
  obtain ⟨ya, yc, rfl⟩ := hvy.is_slice
  have CC : Hid (∀ (s : Tm) (v : Value) (W : World), Below w.heap.size w W → (s = x ∧ v = .slice xa x.args.length xc) ∨ (s = y ∧ v = .slice ya y.args.length yc) → Calls Tryd.prog 56 #[.agg #[.string s.name, v]] W (Ans (.string (bs s.txt)) W)) := Lib.hid (fun s v W hW h => by
    rcases h with ⟨rfl, rfl⟩ | ⟨rfl, rfl⟩
    · exact l3Term_any s W _ (hvx.kept hW) hwx hx
    · exact l3Term_any s W _ (hvy.kept hW) hwy hy)
  rw [hl]
  obtain ⟨W1, hW1⟩ : ∃ W1, (w.alloc (.cells #[.bool false, .string t.name, .slice (some ⟨b, off, none⟩) 2 c] 51)) = W1 := ⟨_, rfl⟩
  have hB : Below w.heap.size w W1.drew := by rw [← hW1]; exact ((Below.refl _ _).alloc (Nat.le_refl _) _).drew
  obtain ⟨b0, b1, b2, b3⟩ := (tri_new w (.bool false) (.string t.name) (.slice (some ⟨b, off, none⟩) 2 c) 51 _ rfl)
  rw [hW1] at b0 b1 b2 b3
  have x0' : W1.drew.cell? ⟨b, off, none⟩ = _ := carry_cell x0 hB
  have x1' : W1.drew.cell? ⟨b, off + 1, none⟩ = _ := carry_cell x1 hB
  have y0' : W1.drew.cell? ⟨b, off + 2, none⟩ = _ := carry_cell y0 hB
  have y1' : W1.drew.cell? ⟨b, off + 2 + 1, none⟩ = _ := carry_cell y1 hB
  clear x0 x1 y0 y1 hvx hvy hv hxy heq hl
  go_enter Tryd.func31, Tryd.ntmps31
  go_wp2_with fail
  go_region_held3 (fun w' => w'.cell? ⟨w.heap.size, 2, none⟩ = some (.slice (some ⟨b, off, none⟩) 2 c) ∧ w'.cell? ⟨b, off, none⟩ = some (.string x.name) ∧ w'.cell? ⟨b, off + 1, none⟩ = some (.slice xa x.args.length xc) ∧ w'.cell? ⟨b, off + 2, none⟩ = some (.string y.name) ∧ w'.cell? ⟨b, off + 2 + 1, none⟩ = some (.slice ya y.args.length yc) ∧ Below w.heap.size w w') (first | exact ⟨by assumption, by assumption, by assumption, by assumption, by assumption, by assumption⟩ | go_keep) (first | (go_at_call 56; refine (CC.out _ _ _ (by assumption) (by first | exact .inl ⟨rfl, rfl⟩ | exact .inr ⟨rfl, rfl⟩)).mono ?_; rintro e w6 ⟨rfl, hb⟩; have b2 := carry_cell' hb b2; have x0' := carry_cell' hb x0'; have x1' := carry_cell' hb x1'; have y0' := carry_cell' hb y0'; have y1' := carry_cell' hb y1'; have hB := carry_below hB (Nat.le_refl _) hb; clear hb))
  all_goals (go_wp2; go_ret; exact ⟨ret_str HF.out, by assumption⟩)

set_option maxHeartbeats 1000000 in
theorem l3Literal_any (p : Bool) (t : Tm) (w : World) (va : Value) (hv : TmS w va t.args) (hw : t.wt ≤ 1048576) (hat : atomB t = true) :
    Calls Tryd.prog 31 #[.agg #[.bool p, .string t.name, va]] w (Ans (.string (bs (litTxt p t))) w) := by
  rcases atom_ways hat with ⟨he, x, y, hxy, hx, hy⟩ | ⟨he, hn⟩
  · cases p with
    | false => rw [lit_neq he, txtX_eq he]; exact l3Lit_neq t x y w va hv hw he hxy hx hy
    | true =>
      obtain ⟨pa, ca, rfl⟩ := hv.is_slice
      have HV := Lib.hid hv
      have HA := Lib.hid (atom_any hat)
      have HB := Lib.hid ((Below.refl w.heap.size w).alloc (Nat.le_refl _) (.cells #[.bool true, .string t.name, .slice pa t.args.length ca] 51))
      clear hv he hxy hat
      go_enter Tryd.func31, Tryd.ntmps31
      go_wp2_with fail
      refine (l3Expr_any t _ _ (HV.out.kept HB.out) hw HA.out).mono ?_
      rintro e w1 ⟨rfl, hb⟩
      have HB1 := Lib.hid (carry_below HB.out (Nat.le_refl _) hb)
      clear hb
      go_wp2
      go_ret
      exact ⟨rfl, HB1.out⟩
  · obtain ⟨pa, ca, rfl⟩ := hv.is_slice
    have HV := Lib.hid hv
    have HA := Lib.hid (atom_any hat)
    have HB := Lib.hid ((Below.refl w.heap.size w).alloc (Nat.le_refl _) (.cells #[.bool p, .string t.name, .slice pa t.args.length ca] 51))
    cases p with
    | true =>
      clear hv he hat
      go_enter Tryd.func31, Tryd.ntmps31
      go_wp2_with fail
      refine (l3Expr_any t _ _ (HV.out.kept HB.out) hw HA.out).mono ?_
      rintro e w1 ⟨rfl, hb⟩
      have HB1 := Lib.hid (carry_below HB.out (Nat.le_refl _) hb)
      clear hb
      go_wp2
      go_ret
      exact ⟨rfl, HB1.out⟩
    | false =>
      have hq : (t.name.toList == [61]) = false := he
      obtain ⟨q, hq2⟩ : ∃ q, q = bs t.txt := ⟨_, rfl⟩
      have hqs : q.size ≤ 4000000 := by have h2 := t.txt_wt; rw [hq2, bs_size]; omega
      have HC := l3Term_any t _ _ (HV.out.kept HB.out) hw hn
      rw [← hq2] at HC
      have HC := Lib.hid HC
      have HF : Hid ((ByteArray.mk #[126]) ++ q = bs (litTxt false t)) := Lib.hid (by rw [lit_neg he, txtX_no he, hq2]; show bs [126] ++ bs t.txt = _; rw [bs_append]; rfl)
      clear hv he hat hn hq2
      go_enter Tryd.func31, Tryd.ntmps31
      go_wp2_with fail
      refine HC.out.mono ?_
      rintro e w1 ⟨rfl, hb⟩
      have HB1 := Lib.hid (carry_below HB.out (Nat.le_refl _) hb)
      clear hb
      go_wp2
      go_ret
      exact ⟨ret_str HF.out, HB1.out⟩

set_option maxHeartbeats 2000000 in
theorem writeLit_any (p : Bool) (t : Tm) (l0 : List UInt8) (B b : Nat) (w0 W : World) (va : Value) (hbuf : IsBuf B b l0 W) (hB : B ≤ W.heap.size) (hw0 : w0.heap.size = B) (hbel : Below B w0 W) (hv : TmS w0 va t.args) (hw : t.wt ≤ 1048576)
    (ha : anyB t = true) (hl0 : l0.length ≤ 10000000000) :
    Calls Tryd.prog 20 #[.pointer (some ⟨b, 0, none⟩), .agg #[.bool p, .string t.name, va]] W fun e W' => e = .returned (.tuple #[]) ∧ IsBuf B b (l0 ++ litTxt p t) W' ∧ Keep B b W W' := by
  obtain ⟨a, c, rfl⟩ := hv.is_slice
  have HV := Lib.hid hv
  have hbr : b < W.heap.size := Lib.IsBuffer.lt hbuf
  have B1 := Lib.hid (hbel.alloc hB (.cells #[.bool p, .string t.name, .slice a t.args.length c] 51))
  have K1 := Lib.hid ((Keep.refl B b W).alloc hB (.cells #[.bool p, .string t.name, .slice a t.args.length c] 51))
  have U1 := Lib.hid (isBuf_alloc hbuf (.cells #[.bool p, .string t.name, .slice a t.args.length c] 51))
  have X1 : Hid ((W.alloc (.cells #[.bool p, .string t.name, .slice a t.args.length c] 51)).heap[W.heap.size]? = some (Obj.cells #[.bool p, .string t.name, .slice a t.args.length c] 51 (0, 0))) := Lib.hid (World.alloc_heap_new W _)
  have HT : Hid (∀ (W2 : World), W2.heap[W.heap.size]? = some (Obj.cells #[.bool p, .string t.name, .slice a t.args.length c] 51 (0, 0)) → Tri W2 W.heap.size (.bool p) (.string t.name) (.slice a t.args.length c)) := Lib.hid (fun W2 e => ⟨by simp [World.cell?, e], by simp [World.cell?, e], by simp [World.cell?, e], fun j => by simp [World.frozen?, e]⟩)
  have h1 := txtX_len t hw ha eqSign (by simp [eqSign])
  have h2 := txtX_len t hw ha neSign (by simp [neSign])
  clear hv hbuf hbel
  cases p with
  | true =>
    rw [lit_pos]
    have HC := Lib.hid (writeExpr_any t eqSign l0 B b w0 _ _ U1.out (by simp; omega) hw0 B1.out HV.out hw (by omega) (by simp [eqSign]))
    obtain ⟨d0, d1, d2, d3⟩ := HT.out _ X1.out
    go_enter Tryd.func20, Tryd.ntmps20
    go_wp2_with fail
    refine HC.out.mono ?_
    rintro e W2 ⟨rfl, hu, hkk⟩
    have HU := Lib.hid hu
    have HK := Lib.hid (K1.out.trans hkk)
    clear hu hkk
    go_wp2
    refine bodyPost_ret (results_none rfl _ _ _) rfl ?_
    exact ⟨rfl, HU.out, HK.out⟩
  | false =>
    cases he : isEqB t.name with
    | true =>
      have hq : (t.name.toList == [61]) = true := he
      rw [lit_neq he]
      have HC := Lib.hid (writeExpr_any t neSign l0 B b w0 _ _ U1.out (by simp; omega) hw0 B1.out HV.out hw (by omega) (by simp [neSign]))
      obtain ⟨d0, d1, d2, d3⟩ := HT.out _ X1.out
      clear he
      go_enter Tryd.func20, Tryd.ntmps20
      go_wp2_with fail
      refine HC.out.mono ?_
      rintro e W2 ⟨rfl, hu, hkk⟩
      have HU := Lib.hid hu
      have HK := Lib.hid (K1.out.trans hkk)
      clear hu hkk
      go_wp2
      go_end0
      exact ⟨rfl, HU.out, HK.out⟩
    | false =>
      have hq : (t.name.toList == [61]) = false := he
      rw [lit_neg he]
      have HWT := Lib.hid (wr_any B b l0 ⟨#[126]⟩ _ U1.out (by simp; omega) (by show _ + 1 ≤ _; omega))
      obtain ⟨d0, d1, d2, d3⟩ := HT.out _ X1.out
      have hne : W.heap.size ≠ b := by omega
      clear he
      go_enter Tryd.func20, Tryd.ntmps20
      go_wp2_with fail
      refine HWT.out.mono ?_
      rintro e W2 ⟨rfl, hu, hkk⟩
      have HK2 := Lib.hid (K1.out.trans hkk)
      have hB2 := HK2.out.size hB
      have X2 := hkk.2 _ _ X1.out (fun e => hne (by injection e)) (fun c fz e => by injection e with _ e2; cases e2)
      have HB2 : Hid (Below B w0 W2) := Lib.hid (B1.out.trans hkk.1)
      have HC := Lib.hid (writeExpr_any t neSign _ B b w0 W2 _ hu hB2 hw0 HB2.out HV.out hw (by rw [List.length_append]; show _ + 1 + _ ≤ _; omega) (by simp [neSign]))
      clear d0 d1 d2 d3
      obtain ⟨d0, d1, d2, d3⟩ := HT.out _ X2
      clear hu hkk X2
      go_wp2_with fail
      refine HC.out.mono ?_
      rintro e W3 ⟨rfl, hu, hkk⟩
      have HU : Hid (IsBuf B b (l0 ++ 126 :: txtX neSign t) W3) := Lib.hid (by simpa using hu)
      have HK := Lib.hid (HK2.out.trans hkk)
      clear hu hkk
      go_wp2
      go_end0
      exact ⟨rfl, HU.out, HK.out⟩

end Go.Proofs.YtmfdglbldogfaabDoor
