/- FormatTerm of the program: a contract, for terms of at most 1048576 names' bytes and arguments. -/
import Derived.Test.YtmfdglbldogfaabDoorWr
import Derived.Test.YtmfdglbldogfaabDoorSizes
namespace Go.Proofs.YtmfdglbldogfaabDoor
open Go.RowKit
set_option linter.unusedVariables false

set_option maxHeartbeats 2000000 in
theorem writeExpr_any (t : Tm) (sign l0 : List UInt8) (B b : Nat) (w0 W : World) (va : Value) (hbuf : IsBuf B b l0 W) (hB : B ≤ W.heap.size) (hw0 : w0.heap.size = B) (hbel : Below B w0 W) (hv : TmS w0 va t.args) (hw : t.wt ≤ 1048576)
    (hl0 : l0.length + (txtX sign t).length ≤ 100000000000000) (hsep : sign.length ≤ 10) :
    Calls Tryd.prog 37 #[.pointer (some ⟨b, 0, none⟩), .agg #[.string t.name, va], .string (bs sign)] W fun e W' => e = .returned (.tuple #[]) ∧ IsBuf B b (l0 ++ txtX sign t) W' ∧ Keep B b W W' := by
  obtain ⟨a, c, rfl⟩ := hv.is_slice
  have HV := Lib.hid hv
  have hbr : b < W.heap.size := Lib.IsBuffer.lt hbuf
  have B1 := Lib.hid (hbel.alloc hB (.cells #[.string t.name, .slice a t.args.length c] 49))
  have K1 := Lib.hid ((Keep.refl B b W).alloc hB (.cells #[.string t.name, .slice a t.args.length c] 49))
  have U1 := Lib.hid (isBuf_alloc hbuf (.cells #[.string t.name, .slice a t.args.length c] 49))
  have X1 := Lib.hid (BoxT.new W t.name (.slice a t.args.length c))
  have hal := t.wt_eq
  clear hv hbuf hbel
  cases he : isEqB t.name with
  | true =>
    have hq : (t.name.toList == [61]) = true := he
    rw [txtX_eq he] at hl0 ⊢
    have HC := Lib.hid (write_any t.args sign l0 B b w0 _ _ U1.out (by simp; omega) hw0 B1.out (RowK.below HV.out hw0 B1.out) (by omega) hl0 hsep)
    obtain ⟨d0, d1, d2⟩ := X1.out.two
    clear he
    go_enter Tryd.func37, Tryd.ntmps37
    go_wp2_with fail
    refine HC.out.mono ?_
    rintro e W2 ⟨rfl, hu, hkk⟩
    have HU := Lib.hid hu
    have HK := Lib.hid (K1.out.trans hkk)
    clear hu hkk
    go_wp2
    refine bodyPost_ret (results_none rfl _ _ _) rfl ?_
    exact ⟨rfl, HU.out, HK.out⟩
  | false =>
    have hq : (t.name.toList == [61]) = false := he
    rw [txtX_no he] at hl0 ⊢
    have B2 := Lib.hid (B1.out.alloc (by simp; omega) (.cells #[.string t.name, .slice a t.args.length c] 49))
    have K2 := Lib.hid (K1.out.alloc (by simp; omega) (.cells #[.string t.name, .slice a t.args.length c] 49))
    have U2 := Lib.hid (isBuf_alloc U1.out (.cells #[.string t.name, .slice a t.args.length c] 49))
    have X2 := BoxT.new (W.alloc (.cells #[.string t.name, .slice a t.args.length c] 49)) t.name (.slice a t.args.length c)
    rw [World.size_alloc] at X2
    have HX2 := Lib.hid X2
    have HC := Lib.hid (write_any [t] [44] l0 B b w0 _ _ U2.out (by simp; omega) hw0 B2.out (RowK.one (c := 1) HV.out HX2.out (by omega)) (by simp [sumL]; omega) (by rw [jn_one]; exact hl0) (by simp))
    rw [jn_one] at HC
    obtain ⟨d0, d1, d2⟩ := X1.out.two
    clear he X2
    go_enter Tryd.func37, Tryd.ntmps37
    go_wp2_with fail
    refine HC.out.mono ?_
    rintro e W2 ⟨rfl, hu, hkk⟩
    have HU := Lib.hid hu
    have HK := Lib.hid (K2.out.trans hkk)
    clear hu hkk
    go_wp2
    go_end0
    exact ⟨rfl, HU.out, HK.out⟩

theorem txtX_len (t : Tm) (hw : t.wt ≤ 1048576) (ha : anyB t = true) (sign : List UInt8) (hs : sign.length ≤ 10) : (txtX sign t).length ≤ 100000000 := by
  cases he : isEqB t.name with
  | false => rw [txtX_no he]; have := t.txt_wt; omega
  | true =>
    rw [txtX_eq he]
    have h2 := jn_len_le sign t.args
    have h3 := sumL_le_of (f := fun s : Tm => s.txt.length + sign.length) (g := fun s => 3 * s.wt + 10) (l := t.args) (fun s hs => by have := s.txt_wt; omega)
    have h4 := sumL_lin t.args
    have h5 := t.wt_eq
    omega

end Go.Proofs.YtmfdglbldogfaabDoor
