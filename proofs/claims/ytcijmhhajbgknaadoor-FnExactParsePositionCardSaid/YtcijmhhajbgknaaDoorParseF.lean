/- ParseInt of the program: a contract for every string of at most 1048576 bytes, in a world that holds the library's tables and errors as their initialisers lay them. -/
import Derived.Test.YtcijmhhajbgknaaDoorFmtF
import Derived.Test.YtcijmhhajbgknaaDoorDecMF
import Derived.WalkSmall
import Derived.Lib.AtoiErrMem
namespace Go.Proofs.YtcijmhhajbgknaaDoor
open Go.RowKit

theorem gTab : Tryd.prog.globalNamed "internal/strconv.uint64pow10" = some 6 := by kernel_rfl
theorem gSyn : Tryd.prog.globalNamed "strconv.ErrSyntax" = some 4 := by kernel_rfl
theorem gRng : Tryd.prog.globalNamed "strconv.ErrRange" = some 5 := by kernel_rfl

/-- A variable that holds an error. -/
def Holds (name : String) (w : World) : Prop := ∃ tp p, w.var? Tryd.prog name = some #[.iface tp p]

theorem Pow10.below {w w' : World} (h : Pow10 w) (hb : Below w.heap.size w w') : Pow10 w' :=
  var?_below hb gTab (World.block_lt_of_cell? w _ (Lib.TabIs.cell h gTab 0 (by decide))) h
theorem Holds.below {name : String} {g : Nat} {w w' : World} (h : Holds name w) (hg : Tryd.prog.globalNamed name = some g) (hb : Below w.heap.size w w') : Holds name w' := by
  obtain ⟨tp, p, hv⟩ := h
  have := World.var?_cell hg hv 0
  exact ⟨tp, p, var?_below hb hg (World.block_lt_of_cell? w _ (by simpa using this)) hv⟩

def PEnd (s : ByteArray) (e : Ending) : Prop := ∃ n ok, e = .returned (.tuple #[.int .i64 n, .bool ok]) ∧ PRes s.data.toList n ok

theorem pend_no {s : ByteArray} (h : ∀ m : Int, -999999 ≤ m → m ≤ 999999 → Lib.itoa m ≠ s.data.toList) : PEnd s (.returned (.tuple #[.int .i64 0, .bool false])) := ⟨0, false, rfl, .inr ⟨rfl, rfl, h⟩⟩
theorem no_of_err {s : ByteArray} (h : ∀ v, Lib.atoiAll s.data.toList ≠ .ok v) : ∀ m : Int, -999999 ≤ m → m ≤ 999999 → Lib.itoa m ≠ s.data.toList := fun m h0 h1 e => h m (by rw [← e]; exact atoi_itoa h0 h1)
theorem no_of_other {s : ByteArray} {v : Int} (h : Lib.atoiAll s.data.toList = .ok v) (hv : ¬ (-999999 ≤ v ∧ v ≤ 999999 ∧ Lib.itoa v = s.data.toList)) : ∀ m : Int, -999999 ≤ m → m ≤ 999999 → Lib.itoa m ≠ s.data.toList := fun m h0 h1 e => by
  have a := atoi_itoa h0 h1
  rw [e, h] at a
  injection a with a
  subst a
  exact hv ⟨h0, h1, e⟩

theorem implParse_any (s : ByteArray) (w : World) (hs : s.size ≤ 1048576) (ht : Pow10 w) (h1 : Holds "strconv.ErrSyntax" w) (h2 : Holds "strconv.ErrRange" w) :
    Calls Tryd.prog 68 #[.string s] w fun e w' => PEnd s e ∧ Below w.heap.size w w' := by
  obtain ⟨tp1, p1, hv1⟩ := h1
  obtain ⟨tp2, p2, hv2⟩ := h2
  rcases hx : Lib.atoiAll s.data.toList with v | _ | _
  · have HT : Hid (Pow10 w) := Lib.hid ht
    have C0 := Lib.hid (Tryd.strconv_Atoi_ok s (by omega) v hx w)
    have HX : Hid (Lib.atoiAll s.data.toList = .ok v) := Lib.hid hx
    clear hx ht hv1 hv2
    go_enter Tryd.func68, Tryd.ntmps68
    go_wp2_with fail
    refine C0.out.mono ?_
    rintro e w1 ⟨rfl, hw⟩
    have HB : Hid (Below w.heap.size w w1) := Lib.hid (by
      rcases hw with rfl | ⟨t, rfl⟩
      · exact Below.refl _ _
      · exact Lib.bytesWorld_below w _ t)
    clear hw
    have CF := Lib.hid (implFormat_any v w1 (HT.out.below HB.out))
    by_cases hr : -999999 ≤ v ∧ v ≤ 999999
    · by_cases he : Lib.itoa v = s.data.toList
      · have C2 : Hid (Calls Tryd.prog 63 #[.int .i64 v] w1 fun e w' => e = .returned (.tuple #[.string s, .bool true]) ∧ Below w1.heap.size w1 w') := Lib.hid (by
          have h := CF.out
          rw [← fEnd_yes hr.1 hr.2, he] at h
          exact h)
        have HP : Hid (PEnd s (.returned (.tuple #[.int .i64 v, .bool true]))) := Lib.hid ⟨v, true, rfl, .inl ⟨rfl, hr.1, hr.2, he⟩⟩
        clear CF hr he
        go_wp2_with fail
        refine C2.out.mono ?_
        rintro e w2 ⟨rfl, hb⟩
        have HB2 : Hid (Below w.heap.size w w2) := Lib.hid (HB.out.trans (hb.mono HB.out.size))
        clear hb
        go_wp2_with fail
        go_ret2
        exact ⟨HP.out, HB2.out⟩
      · obtain ⟨t, htt⟩ : ∃ t : ByteArray, t = ⟨(Lib.itoa v).toArray⟩ := ⟨_, rfl⟩
        have C2 : Hid (Calls Tryd.prog 63 #[.int .i64 v] w1 fun e w' => e = .returned (.tuple #[.string t, .bool true]) ∧ Below w1.heap.size w1 w') := Lib.hid (by
          have h := CF.out
          rw [← fEnd_yes hr.1 hr.2, ← htt] at h
          exact h)
        have hq : (t.toList == s.toList) = false := by
          rw [beq_eq_false_iff_ne]; intro e
          exact he (by rw [← toList_inj e, htt])
        have HP : Hid (PEnd s (.returned (.tuple #[.int .i64 0, .bool false]))) := Lib.hid (pend_no (no_of_other HX.out (fun h => he h.2.2)))
        clear CF hr he htt
        go_wp2_with fail
        refine C2.out.mono ?_
        rintro e w2 ⟨rfl, hb⟩
        have HB2 : Hid (Below w.heap.size w w2) := Lib.hid (HB.out.trans (hb.mono HB.out.size))
        clear hb
        go_wp2_with fail
        go_ret2
        exact ⟨HP.out, HB2.out⟩
    · have C2 : Hid (Calls Tryd.prog 63 #[.int .i64 v] w1 fun e w' => e = .returned (.tuple #[.string ⟨#[]⟩, .bool false]) ∧ Below w1.heap.size w1 w') := Lib.hid (by
        have h := CF.out
        rw [← fEnd_no (by omega)] at h
        exact h)
      have HP : Hid (PEnd s (.returned (.tuple #[.int .i64 0, .bool false]))) := Lib.hid (pend_no (no_of_other HX.out (fun h => hr ⟨h.1, h.2.1⟩)))
      clear CF hr
      go_wp2_with fail
      refine C2.out.mono ?_
      rintro e w2 ⟨rfl, hb⟩
      have HB2 : Hid (Below w.heap.size w w2) := Lib.hid (HB.out.trans (hb.mono HB.out.size))
      clear hb
      go_wp2_with fail
      go_ret2
      exact ⟨HP.out, HB2.out⟩
  · have C0 := Lib.hid (Any.strconv_Atoi_syntax_var Tryd.laysC172 s (by omega) hx tp1 p1 w hv1)
    have HP : Hid (PEnd s (.returned (.tuple #[.int .i64 0, .bool false]))) := Lib.hid (pend_no (no_of_err (fun v e => by rw [hx] at e; cases e)))
    clear hx ht hv1 hv2
    go_enter Tryd.func68, Tryd.ntmps68
    go_wp2_with fail
    refine C0.out.mono ?_
    rintro e w1 ⟨N, rfl, _, _, hb⟩
    have HB : Hid (Below w.heap.size w w1) := Lib.hid hb
    clear hb
    go_wp2_with fail
    go_ret2
    exact ⟨HP.out, HB.out⟩
  · have C0 := Lib.hid (Any.strconv_Atoi_range_var Tryd.laysC172 s (by omega) hx tp2 p2 w hv2)
    have HP : Hid (PEnd s (.returned (.tuple #[.int .i64 0, .bool false]))) := Lib.hid (pend_no (no_of_err (fun v e => by rw [hx] at e; cases e)))
    clear hx ht hv1 hv2
    go_enter Tryd.func68, Tryd.ntmps68
    go_wp2_with fail
    refine C0.out.mono ?_
    rintro e w1 ⟨N, rfl, _, _, hb⟩
    have HB : Hid (Below w.heap.size w w1) := Lib.hid hb
    clear hb
    go_wp2_with fail
    go_ret2
    exact ⟨HP.out, HB.out⟩

end Go.Proofs.YtcijmhhajbgknaaDoor
