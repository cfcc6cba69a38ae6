/- FormatTerm of the program: a contract, for terms of at most 1048576 names' bytes and arguments. -/
import Derived.Test.YtcijmhhajbgknaaDoorWr
import Derived.Test.YtcijmhhajbgknaaDoorSizes
namespace Go.Proofs.YtcijmhhajbgknaaDoor
open Go.RowKit
set_option linter.unusedVariables false

set_option maxHeartbeats 2000000 in
theorem writeExpr_any (t : Tm) (sign l0 : List UInt8) (B b : Nat) (w0 W : World) (va : Value) (hbuf : IsBuf B b l0 W) (hB : B ≤ W.heap.size) (hw0 : w0.heap.size = B) (hbel : Below B w0 W) (hv : TmS w0 va t.args) (hw : t.wt ≤ 1048576)
    (hl0 : l0.length + (txtX sign t).length ≤ 100000000000000) (hsep : sign.length ≤ 10) :
    Calls Tryd.prog 41 #[.pointer (some ⟨b, 0, none⟩), .agg #[.string t.name, va], .string (bs sign)] W fun e W' => e = .returned (.tuple #[]) ∧ IsBuf B b (l0 ++ txtX sign t) W' ∧ Keep B b W W' := by
  obtain ⟨a, c, rfl⟩ := hv.is_slice
  have HV := Lib.hid hv
  have hbr : b < W.heap.size := Lib.IsBuffer.lt hbuf
  have B1 := Lib.hid (hbel.alloc hB (.cells #[.string t.name, .slice a t.args.length c] 30))
  have K1 := Lib.hid ((Keep.refl B b W).alloc hB (.cells #[.string t.name, .slice a t.args.length c] 30))
  have U1 := Lib.hid (isBuf_alloc hbuf (.cells #[.string t.name, .slice a t.args.length c] 30))
  have X1 := Lib.hid (BoxT.new W t.name (.slice a t.args.length c))
  have hal := t.wt_eq
  clear hv hbuf hbel
  cases he : isEqB t.name with
  | true =>
    have hq : (t.name.toList == [61]) = true := he
    rw [txtX_eq he] at hl0 ⊢
    have HC := Lib.hid (write_any t.args sign l0 B b w0 _ _ U1.out (by simp; omega) hw0 B1.out (RowK.below HV.out hw0 B1.out) (by omega) hl0 hsep)
    obtain ⟨d0, d1, d2⟩ := X1.out.two
    clear he
    go_enter Tryd.func41, Tryd.ntmps41
    go_wp2_with fail
    refine HC.out.mono ?_
    rintro e W2 ⟨rfl, hu, hkk⟩
    have HU := Lib.hid hu
    have HK := Lib.hid (K1.out.trans hkk)
    clear hu hkk
    go_wp2
    refine bodyPost_ret (results_none rfl _ _ _) rfl ?_
    exact ⟨rfl, HU.out, HK.out⟩
  | false =>
    have hq : (t.name.toList == [61]) = false := he
    rw [txtX_no he] at hl0 ⊢
    have B2 := Lib.hid (B1.out.alloc (by simp; omega) (.cells #[.string t.name, .slice a t.args.length c] 30))
    have K2 := Lib.hid (K1.out.alloc (by simp; omega) (.cells #[.string t.name, .slice a t.args.length c] 30))
    have U2 := Lib.hid (isBuf_alloc U1.out (.cells #[.string t.name, .slice a t.args.length c] 30))
    have X2 := BoxT.new (W.alloc (.cells #[.string t.name, .slice a t.args.length c] 30)) t.name (.slice a t.args.length c)
    rw [World.size_alloc] at X2
    have HX2 := Lib.hid X2
    have HC := Lib.hid (write_any [t] [44] l0 B b w0 _ _ U2.out (by simp; omega) hw0 B2.out (RowK.one (c := 1) HV.out HX2.out (by omega)) (by simp [sumL]; omega) (by rw [jn_one]; exact hl0) (by simp))
    rw [jn_one] at HC
    obtain ⟨d0, d1, d2⟩ := X1.out.two
    clear he X2
    go_enter Tryd.func41, Tryd.ntmps41
    go_wp2_with fail
    refine HC.out.mono ?_
    rintro e W2 ⟨rfl, hu, hkk⟩
    have HU := Lib.hid hu
    have HK := Lib.hid (K2.out.trans hkk)
    clear hu hkk
    go_wp2
    go_end0
    exact ⟨rfl, HU.out, HK.out⟩

theorem txtX_len (t : Tm) (hw : t.wt ≤ 1048576) (ha : anyB t = true) (sign : List UInt8) (hs : sign.length ≤ 10) : (txtX sign t).length ≤ 100000000 := by
  cases he : isEqB t.name with
  | false => rw [txtX_no he]; have := t.txt_wt; omega
  | true =>
    rw [txtX_eq he]
    have h2 := jn_len_le sign t.args
    have h3 := sumL_le_of (f := fun s : Tm => s.txt.length + sign.length) (g := fun s => 3 * s.wt + 10) (l := t.args) (fun s hs => by have := s.txt_wt; omega)
    have h4 := sumL_lin t.args
    have h5 := t.wt_eq
    omega

set_option maxHeartbeats 2000000 in
theorem implFormatTerm_any (t : Tm) (w : World) (va : Value) (hv : TmS w va t.args) (hw : t.wt ≤ 1048576) :
    Calls Tryd.prog 12 #[.agg #[.string t.name, va]] w (Ans (.tuple #[.string (fmtA t), .bool (anyB t)]) w) := by
  obtain ⟨a, c, rfl⟩ := hv.is_slice
  have HV := Lib.hid hv
  clear hv
  go_enter Tryd.func12, Tryd.ntmps12
  go_wp2_with fail
  refine (areExpr_one t _ _ _ _ ((HV.out.alloc _).alloc _) (two_new _ _ _ _ _ (by simp)).1 (two_new _ _ _ _ _ (by simp)).2.1 hw).mono ?_
  rintro e w' ⟨rfl, hb⟩
  have HB := Lib.hid (carry_below ((((Below.refl w.heap.size w).alloc (Nat.le_refl _) _).alloc (by simp) _)) (Nat.le_refl _) hb)
  have H2 := Lib.hid (((two_new w (.string t.name) (.slice a t.args.length c) 30 _ rfl).alloc _).kept hb)
  clear hb
  cases hf : anyB t with
  | false =>
    have HF := Lib.hid (fmtA_no hf)
    have HFF := Lib.hid hf
    clear hf
    go_wp2
    go_ret2
    exact ⟨ret_strb HF.out.symm HFF.out.symm, HB.out⟩
  | true =>
    have HF := Lib.hid (fmtA_yes hf)
    have HFF := Lib.hid hf
    have hlen := txtX_len t hw hf eqSign (by simp [eqSign])
    have HBA := Lib.hid ((Below.refl w'.heap.size w').alloc (Nat.le_refl _) (.cells #[.slice none 0 0, .int .i64 0, .int .i8 0] 75))
    have HU : Hid (IsBuf w'.heap.size w'.heap.size [] (w'.alloc (.cells #[.slice none 0 0, .int .i64 0, .int .i8 0] 75))) := Lib.hid (Lib.fresh_isBuffer 75 5 w')
    obtain ⟨b0, b1, b2⟩ := H2.out.alloc (.cells #[.slice none 0 0, .int .i64 0, .int .i8 0] 75)
    have HC := Lib.hid (writeExpr_any t eqSign [] w'.heap.size w'.heap.size w' _ _ HU.out (by simp) rfl HBA.out (HV.out.kept HB.out) hw (by simp; omega) (by simp [eqSign]))
    rw [List.nil_append] at HC
    clear hf
    go_wp2_with fail
    refine HC.out.mono ?_
    rintro e w2 ⟨rfl, hu, hkk⟩
    have HU2 := Lib.hid hu
    have HB2 : Hid (Below w.heap.size w w2) := Lib.hid (HB.out.trans ((HBA.out.trans hkk.1).mono HB.out.size))
    clear hu hkk b0 b1 b2
    have HS := Lib.hid (Tryd.Buffer_String w'.heap.size w'.heap.size _ w2 HU2.out)
    go_wp2_with fail
    refine HS.out.mono ?_
    rintro e w3 ⟨rfl, n, rfl⟩
    go_wp2
    go_ret2
    exact ⟨ret_strb HF.out.symm HFF.out.symm, ⟨HB2.out.os, HB2.out.tape, HB2.out.output, HB2.out.size, HB2.out.block⟩⟩

end Go.Proofs.YtcijmhhajbgknaaDoor
