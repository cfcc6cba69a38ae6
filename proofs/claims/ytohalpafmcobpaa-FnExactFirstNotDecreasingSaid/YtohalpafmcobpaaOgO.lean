/- Orderings: the laws' copying and comparing helpers, and an argument opened: contracts, for orderings of at most 1048576 names' bytes and elements. -/
import Derived.Test.YtohalpafmcobpaaOgS
import Derived.Test.YtohalpafmcobpaaOpenTm
import Derived.ProofKit
import Derived.ChangeSlices
import Derived.SliceStrings
namespace Go.Proofs.Ytohalpafmcobpaa
open Go.RowKit Go.ChangeShapes Go.WideShapes Go.Deep Go.Joins
set_option linter.unusedVariables false

theorem Thr.setFar {w : World} {b : Nat} {x y z : Value} (h : Thr w b x y z) {a : Addr} (ha : a.block ≠ b) (u : Value) : Thr (w.setCell a u) b x y z :=
  ⟨(World.cell?_setCell_other _ _ _ _ (fun e => ha (by rw [e]))).trans h.1, (World.cell?_setCell_other _ _ _ _ (fun e => ha (by rw [e]))).trans h.2.1, (World.cell?_setCell_other _ _ _ _ (fun e => ha (by rw [e]))).trans h.2.2.1, fun j => by rw [World.frozen?_setCell]; exact h.2.2.2 j⟩
theorem Thr.set0 {w : World} {b : Nat} {x y z : Value} (h : Thr w b x y z) (u : Value) : Thr (w.setCell ⟨b, 0, none⟩ u) b u y z :=
  ⟨World.cell?_setCell_same _ _ _ h.1, (World.cell?_setCell_other _ _ _ _ (by simp)).trans h.2.1, (World.cell?_setCell_other _ _ _ _ (by simp)).trans h.2.2.1, fun j => by rw [World.frozen?_setCell]; exact h.2.2.2 j⟩
theorem Thr.set1 {w : World} {b : Nat} {x y z : Value} (h : Thr w b x y z) (u : Value) : Thr (w.setCell ⟨b, 1, none⟩ u) b x u z :=
  ⟨(World.cell?_setCell_other _ _ _ _ (by simp)).trans h.1, World.cell?_setCell_same _ _ _ h.2.1, (World.cell?_setCell_other _ _ _ _ (by simp)).trans h.2.2.1, fun j => by rw [World.frozen?_setCell]; exact h.2.2.2 j⟩
theorem Thr.set2 {w : World} {b : Nat} {x y z : Value} (h : Thr w b x y z) (u : Value) : Thr (w.setCell ⟨b, 2, none⟩ u) b x y u :=
  ⟨(World.cell?_setCell_other _ _ _ _ (by simp)).trans h.1, (World.cell?_setCell_other _ _ _ _ (by simp)).trans h.2.1, World.cell?_setCell_same _ _ _ h.2.2.1, fun j => by rw [World.frozen?_setCell]; exact h.2.2.2 j⟩
/-- A store below the blocks. -/
theorem OdO.set {w : World} {lo mid hi : Nat} {sv wv : Value} {o : Od} (h : OdO w lo mid hi sv wv o) {a : Addr} (ha : a.block < lo) (u : Value) : OdO (w.setCell a u) lo mid hi sv wv o := by
  refine ⟨?_, h.2.1.frame fun k hk => Below.heap_setCell _ _ _ _ (by intro e; have := hk.1; have := h.2.2.2.1; omega), by simp only [size_setCell]; exact h.2.2.1, h.2.2.2⟩
  exact h.1.outside (lo' := a.block) (hi' := a.block + 1) (Outside.setCell _ _ _ ⟨Nat.le_refl _, Nat.lt_succ_self _⟩) (.inr ha)

set_option maxRecDepth 100000 in
set_option maxHeartbeats 2000000 in
theorem toOd_any (o : Od) (w : World) (sv wv : Value) (hv : OdV w sv wv o) (hw : o.wt ≤ 1048576) :
    Calls Try.prog 10 #[.agg #[sv, wv, .int .i64 o.va]] w (ToOEnd o w) := by
  obtain ⟨sa, sc, wa, wc, rfl, rfl⟩ := hv.open
  have HV := Lib.hid hv
  have hsl : o.sy.length ≤ 1048576 := Nat.le_trans o.wt_sy hw
  have hwl : o.ws.length ≤ 1048576 := Nat.le_trans o.wt_ws hw
  obtain ⟨w0, hw0⟩ : ∃ w0, ((w.alloc (.cells #[.slice sa o.sy.length sc, .slice wa o.ws.length wc, .int .i64 o.va] 25)).alloc (.cells #[.slice none 0 0, .slice none 0 0, .int .i64 0] 31)).alloc (.cells #[.slice none 0 0, .slice none 0 0, .int .i64 0] 31) = w0 := ⟨_, rfl⟩
  have HB : Hid (Below w.heap.size w w0) := Lib.hid (by rw [← hw0]; exact (((Below.refl w.heap.size w).alloc (Nat.le_refl _) _).alloc (by simp) _).alloc (by simp <;> omega) _)
  have A0 : Hid (Thr w0 w.heap.size (.slice sa o.sy.length sc) (.slice wa o.ws.length wc) (.int .i64 o.va)) := Lib.hid (by rw [← hw0]; exact ((thr_new w _ _ _ _ _ rfl).alloc _).alloc _)
  have R0 : Hid (Thr w0 (w.heap.size + 1) (.slice none 0 0) (.slice none 0 0) (.int .i64 0)) := Lib.hid (by rw [← hw0]; exact (thr_new _ _ _ _ 31 (w.heap.size + 1) (by simp)).alloc _)
  have O0 : Hid (Thr w0 (w.heap.size + 1 + 1) (.slice none 0 0) (.slice none 0 0) (.int .i64 0)) := Lib.hid (by rw [← hw0]; exact thr_new _ _ _ _ 31 (w.heap.size + 1 + 1) (by simp))
  have hz0 : w0.heap.size = w.heap.size + 3 := by rw [← hw0]; simp
  clear hv hw
  go_enter Try.func10, Try.ntmps10
  obtain ⟨a0, a1, a2, a3⟩ := A0.out
  go_wp2_with fail
  refine (toStringS_any _ o.sy _ ((HV.out.kept HB.out).st) (by omega)).mono ?_
  rintro e w1 ⟨v1, rfl, ho, hb⟩
  have HO1 := Lib.hid (OwnS.fresh ho)
  obtain ⟨p1, c1, rfl, _⟩ := HO1.out.read.parts
  have HB1 := Lib.hid (carry_below HB.out (Nat.le_refl _) hb)
  have A1 := Lib.hid (A0.out.kept hb)
  have R1 := Lib.hid (R0.out.kept hb)
  have O1 := Lib.hid (O0.out.kept hb)
  have hz1 : w.heap.size + 3 ≤ w1.heap.size := by have := hb.size; omega
  clear ho hb a0 a1 a2 a3 hw0
  obtain ⟨o0, o1, o2, o3⟩ := O1.out
  obtain ⟨W2, hW2⟩ : ∃ W2, w1.setCell ⟨w.heap.size + 1 + 1, 0, none⟩ (.slice p1 o.sy.length c1) = W2 := ⟨_, rfl⟩
  have A2 : Hid (Thr W2 w.heap.size (.slice sa o.sy.length sc) (.slice wa o.ws.length wc) (.int .i64 o.va)) := Lib.hid (by rw [← hW2]; exact A1.out.setFar (by simp <;> omega) _)
  have R2 : Hid (Thr W2 (w.heap.size + 1) (.slice none 0 0) (.slice none 0 0) (.int .i64 0)) := Lib.hid (by rw [← hW2]; exact R1.out.setFar (by simp) _)
  have O2 : Hid (Thr W2 (w.heap.size + 1 + 1) (.slice p1 o.sy.length c1) (.slice none 0 0) (.int .i64 0)) := Lib.hid (by rw [← hW2]; exact O1.out.set0 _)
  have HB2 : Hid (Below w.heap.size w W2) := Lib.hid (by rw [← hW2]; exact HB1.out.setCell (by simp <;> omega) _)
  have HO2 : Hid (OwnS W2 (w.heap.size + 3) W2.heap.size (.slice p1 o.sy.length c1) o.sy) := Lib.hid (by
    have h := HO1.out.outside (lo' := w.heap.size + 1 + 1) (hi' := w.heap.size + 1 + 1 + 1) (b := W2) (by rw [← hW2]; exact Outside.setCell _ _ _ ⟨Nat.le_refl _, Nat.lt_succ_self _⟩) (.inr (by omega))
    refine ⟨?_, fun g hg => ?_, Nat.le_refl _⟩
    · rw [← hz0]; exact h.1
    · have h1 := h.2.1 g hg
      have h2 := h.2.2
      omega)
  have hz2 : w.heap.size + 3 ≤ W2.heap.size := by rw [← hW2, size_setCell]; exact hz1
  obtain ⟨a0, a1, a2, a3⟩ := A2.out
  go_wp2_with fail
  refine (toIntS_any o.ws _ _ ((HV.out.kept HB2.out).is) (by omega)).mono ?_
  rintro e w3 ⟨v3, rfl, ho, hb⟩
  have HI3 := Lib.hid ho
  obtain ⟨p3, c3, rfl, _⟩ := ho.read
  have HB3 := Lib.hid (carry_below HB2.out (Nat.le_refl _) hb)
  have A3 := Lib.hid (A2.out.kept hb)
  have R3 := Lib.hid (R2.out.kept hb)
  have O3 := Lib.hid (O2.out.kept hb)
  have HO3 := Lib.hid (HO2.out.kept hb)
  have hz3 : W2.heap.size ≤ w3.heap.size := hb.size
  clear ho hb a0 a1 a2 a3 hW2 o0 o1 o2 o3
  have HOD : Hid (OdO w3 (w.heap.size + 3) W2.heap.size w3.heap.size (.slice p1 o.sy.length c1) (.slice p3 o.ws.length c3) o) := Lib.hid ⟨HO3.out, HI3.out.mono (fun k hk => hk), Nat.le_refl _, hz2, hz3⟩
  obtain ⟨o0, o1, o2, o3⟩ := O3.out
  obtain ⟨W4, hW4⟩ : ∃ W4, w3.setCell ⟨w.heap.size + 1 + 1, 1, none⟩ (.slice p3 o.ws.length c3) = W4 := ⟨_, rfl⟩
  have A4 : Hid (Thr W4 w.heap.size (.slice sa o.sy.length sc) (.slice wa o.ws.length wc) (.int .i64 o.va)) := Lib.hid (by rw [← hW4]; exact A3.out.setFar (by simp <;> omega) _)
  have R4 : Hid (Thr W4 (w.heap.size + 1) (.slice none 0 0) (.slice none 0 0) (.int .i64 0)) := Lib.hid (by rw [← hW4]; exact R3.out.setFar (by simp) _)
  have O4 : Hid (Thr W4 (w.heap.size + 1 + 1) (.slice p1 o.sy.length c1) (.slice p3 o.ws.length c3) (.int .i64 0)) := Lib.hid (by rw [← hW4]; exact O3.out.set1 _)
  have HB4 : Hid (Below w.heap.size w W4) := Lib.hid (by rw [← hW4]; exact HB3.out.setCell (by simp <;> omega) _)
  have HOD4 : Hid (OdO W4 (w.heap.size + 3) W2.heap.size w3.heap.size (.slice p1 o.sy.length c1) (.slice p3 o.ws.length c3) o) := Lib.hid (by rw [← hW4]; exact HOD.out.set (by simp <;> omega) _)
  have hz4 : W4.heap.size = w3.heap.size := by rw [← hW4, size_setCell]
  obtain ⟨a0, a1, a2, a3⟩ := A4.out
  obtain ⟨y0, y1, y2, y3⟩ := O4.out
  obtain ⟨W5, hW5⟩ : ∃ W5, W4.setCell ⟨w.heap.size + 1 + 1, 2, none⟩ (.int .i64 o.va) = W5 := ⟨_, rfl⟩
  have R5 : Hid (Thr W5 (w.heap.size + 1) (.slice none 0 0) (.slice none 0 0) (.int .i64 0)) := Lib.hid (by rw [← hW5]; exact R4.out.setFar (by simp) _)
  have O5 : Hid (Thr W5 (w.heap.size + 1 + 1) (.slice p1 o.sy.length c1) (.slice p3 o.ws.length c3) (.int .i64 o.va)) := Lib.hid (by rw [← hW5]; exact O4.out.set2 _)
  have HB5 : Hid (Below w.heap.size w W5) := Lib.hid (by rw [← hW5]; exact HB4.out.setCell (by simp <;> omega) _)
  have HOD5 : Hid (OdO W5 (w.heap.size + 3) W2.heap.size w3.heap.size (.slice p1 o.sy.length c1) (.slice p3 o.ws.length c3) o) := Lib.hid (by rw [← hW5]; exact HOD4.out.set (by simp <;> omega) _)
  have hz5 : W5.heap.size = w3.heap.size := by rw [← hW5, size_setCell, hz4]
  obtain ⟨q0, q1, q2, q3⟩ := O5.out
  obtain ⟨r0, r1, r2, r3⟩ := R5.out
  have hne : w.heap.size + 1 + 1 ≠ w.heap.size + 1 := by omega
  have hne' : w.heap.size + 1 ≠ w.heap.size + 1 + 1 := by omega
  have HFIN : Hid (OdO (((W5.setCell ⟨w.heap.size + 1, 0, none⟩ (.slice p1 o.sy.length c1)).setCell ⟨w.heap.size + 1, 1, none⟩ (.slice p3 o.ws.length c3)).setCell ⟨w.heap.size + 1, 2, none⟩ (.int .i64 o.va)) w.heap.size W2.heap.size (((W5.setCell ⟨w.heap.size + 1, 0, none⟩ (.slice p1 o.sy.length c1)).setCell ⟨w.heap.size + 1, 1, none⟩ (.slice p3 o.ws.length c3)).setCell ⟨w.heap.size + 1, 2, none⟩ (.int .i64 o.va)).heap.size (.slice p1 o.sy.length c1) (.slice p3 o.ws.length c3) o) := Lib.hid (by
    have h := ((HOD5.out.set (a := ⟨w.heap.size + 1, 0, none⟩) (by simp <;> omega) (.slice p1 o.sy.length c1)).set (a := ⟨w.heap.size + 1, 1, none⟩) (by simp <;> omega) (.slice p3 o.ws.length c3)).set (a := ⟨w.heap.size + 1, 2, none⟩) (by simp <;> omega) (.int .i64 o.va)
    simp only [size_setCell]
    rw [hz5]
    refine ⟨⟨owns_base h.1.1 (by omega), fun g hg => ?_, h.1.2.2⟩, h.2.1, by simp only [size_setCell]; omega, by omega, h.2.2.2.2⟩
    have := h.1.2.1 g hg
    omega)
  have HBF : Hid (Below w.heap.size w (((W5.setCell ⟨w.heap.size + 1, 0, none⟩ (.slice p1 o.sy.length c1)).setCell ⟨w.heap.size + 1, 1, none⟩ (.slice p3 o.ws.length c3)).setCell ⟨w.heap.size + 1, 2, none⟩ (.int .i64 o.va))) := Lib.hid (((HB5.out.setCell (by simp) _).setCell (by simp) _).setCell (by simp) _)
  go_wp2
  refine bodyPost_ret (v := .agg #[.slice p1 o.sy.length c1, .slice p3 o.ws.length c3, .int .i64 o.va]) (by simp [results, Try.results10, go_sem, r0, r1, r2]) rfl ?_
  exact ⟨_, _, _, rfl, HFIN.out, HBF.out⟩

set_option maxHeartbeats 1000000 in
theorem eqOd_any (o : Od) (w : World) (sv wv sv' wv' : Value) (hv : OdV w sv wv o) (hv' : OdV w sv' wv' o) (hw : o.wt ≤ 1048576) :
    Calls Try.prog 13 #[.agg #[sv, wv, .int .i64 o.va], .agg #[sv', wv', .int .i64 o.va]] w (Ans (.bool true) w) := by
  obtain ⟨sa, sc, wa, wc, rfl, rfl⟩ := hv.open
  obtain ⟨sa', sc', wa', wc', rfl, rfl⟩ := hv'.open
  have HV := Lib.hid hv
  have HV' := Lib.hid hv'
  have hsl : o.sy.length ≤ 1048576 := Nat.le_trans o.wt_sy hw
  have hwl : o.ws.length ≤ 1048576 := Nat.le_trans o.wt_ws hw
  obtain ⟨w0, hw0⟩ : ∃ w0, (w.alloc (.cells #[.slice sa o.sy.length sc, .slice wa o.ws.length wc, .int .i64 o.va] 31)).alloc (.cells #[.slice sa' o.sy.length sc', .slice wa' o.ws.length wc', .int .i64 o.va] 31) = w0 := ⟨_, rfl⟩
  have HB : Hid (Below w.heap.size w w0) := Lib.hid (by rw [← hw0]; exact ((Below.refl w.heap.size w).alloc (Nat.le_refl _) _).alloc (by simp) _)
  have A0 : Hid (Thr w0 w.heap.size (.slice sa o.sy.length sc) (.slice wa o.ws.length wc) (.int .i64 o.va)) := Lib.hid (by rw [← hw0]; exact (thr_new w _ _ _ _ _ rfl).alloc _)
  have R0 : Hid (Thr w0 (w.heap.size + 1) (.slice sa' o.sy.length sc') (.slice wa' o.ws.length wc') (.int .i64 o.va)) := Lib.hid (by rw [← hw0]; exact thr_new _ _ _ _ 31 (w.heap.size + 1) (by simp))
  clear hv hv' hw
  go_enter Try.func13, Try.ntmps13
  obtain ⟨a0, a1, a2, a3⟩ := A0.out
  obtain ⟨r0, r1, r2, r3⟩ := R0.out
  have CE := eqStringS_any _ _ o.sy o.sy _ ((HV.out.kept HB.out).st) ((HV'.out.kept HB.out).st) (by omega) (by omega)
  rw [eqSs_self] at CE
  have HCE := Lib.hid CE
  clear CE
  go_wp2_with fail
  refine HCE.out.mono ?_
  rintro e w1 ⟨rfl, hd⟩
  have hb := hd.below w0.heap.size
  have HB1 := Lib.hid (carry_below HB.out (Nat.le_refl _) hb)
  have A1 := Lib.hid (A0.out.kept hb)
  have R1 := Lib.hid (R0.out.kept hb)
  clear hb hd HCE hw0 a0 a1 a2 a3 r0 r1 r2 r3
  obtain ⟨a0, a1, a2, a3⟩ := A1.out
  obtain ⟨r0, r1, r2, r3⟩ := R1.out
  go_wp2_with fail
  refine (eqIntS_any o.ws _ _ _ ((HV.out.kept HB1.out).is) ((HV'.out.kept HB1.out).is) (by omega)).mono ?_
  rintro e w2 ⟨rfl, hb⟩
  have HB2 := Lib.hid (carry_below HB1.out (Nat.le_refl _) hb)
  have A2 := Lib.hid (A1.out.kept hb)
  have R2 := Lib.hid (R1.out.kept hb)
  clear hb a0 a1 a2 a3 r0 r1 r2 r3
  obtain ⟨a0, a1, a2, a3⟩ := A2.out
  obtain ⟨r0, r1, r2, r3⟩ := R2.out
  go_wp2
  go_ret
  exact ⟨rfl, HB2.out⟩

section
variable {H : Type} {enc : TypeId × Value → H} {w : World} {base : Nat} {sp : Nat → Bool} {hd : Bool}

theorem array3 {α : Type} {cs : Array α} (h : cs.size = 3) : ∃ c0 c1 c2, cs = #[c0, c1, c2] := by
  obtain ⟨l⟩ := cs
  match l, h with
  | [c0, c1, c2], _ => exact ⟨c0, c1, c2, rfl⟩
theorem cellsS : Try.prog.cellsOf 22 = 1 := by kernel_rfl
theorem cellsI : Try.prog.cellsOf 23 = 1 := by kernel_rfl
theorem cellsK : Try.prog.cellsOf 3 = 1 := by kernel_rfl
theorem cellsO : Try.prog.cellsOf 25 = 3 := by kernel_rfl

/-- A slice of strings, as read. -/
theorem trod_strs {fuel : Nat} {c0 : Value} {x : DataW H × List MemPlace} (hf : DataW.trod enc Try.prog w base sp hd fuel 22 [c0] = some x) :
    ∃ ss : List ByteArray, StrsV w c0 ss ∧ ss.length ≤ 9223372036854775807 ∧ (∀ s ∈ ss, s.size ≤ 9223372036854775807) ∧ ∀ a m c, c0 = .slice a m c → m ≤ c := by
  rcases open_strings Try.underlying22 Try.underlying9 (by kernel_rfl) hf with ⟨hcs, _⟩ | ⟨x, l, c, ss, hcs, _, hl, hm, hz, _, hcell, hwz⟩
  · injection hcs with hcs
    subst hcs
    exact ⟨[], .inl ⟨_, _, rfl, rfl⟩, by simp, fun s hs => (by cases hs), fun a m c e => by injection e with e1 e2 e3; omega⟩
  · injection hcs with hcs
    subst hcs
    have hle : l ≤ ss.length := by rw [hz]; split <;> omega
    refine ⟨ss.take l, strsV_of_open hle hcell, by unfold maxLen at hm; simp; omega, fun s hs => ?_, fun a m c e => by injection e with e1 e2 e3; omega⟩
    have := hwz s (List.mem_of_mem_take hs)
    unfold maxLen at this; omega

/-- A slice of integers, as read. -/
theorem trod_ints {fuel : Nat} {c0 : Value} {x : DataW H × List MemPlace} (hf : DataW.trod enc Try.prog w base sp hd fuel 23 [c0] = some x) :
    ∃ is : List Int, IntsV w c0 is ∧ is.length ≤ 9223372036854775807 := by
  rcases open_ints Try.underlying23 Try.underlying3 (by kernel_rfl) hf with ⟨hcs, _⟩ | ⟨x, len, cap, zs, hcs, _, hl, hm, hz, _, hcell, _⟩
  · injection hcs with hcs
    subst hcs
    exact ⟨[], ⟨_, _, rfl, fun k x hk => by cases hk⟩, by simp⟩
  · injection hcs with hcs
    subst hcs
    have hle : len ≤ zs.length := by rw [hz]; split <;> omega
    refine ⟨zs.take len, ⟨some x, cap, by rw [List.length_take, Nat.min_eq_left hle], fun k y hk => ?_⟩, by rw [List.length_take]; unfold maxLen at hm; omega⟩
    have hkl : k < len := by have := (List.getElem?_eq_some_iff.1 hk).1; rw [List.length_take] at this; omega
    rw [List.getElem?_take, if_pos hkl] at hk
    have hc := hcell k (by omega)
    rw [List.getD_eq_getElem?_getD, hk] at hc
    obtain ⟨b, off, spot⟩ := x
    have h0 := hcell 0 (by omega)
    have hspot : spot = none := by simpa [Addr.add] using World.cell?_spot h0
    subst hspot
    refine ⟨b, off, rfl, ?_⟩
    have e : Addr.add ⟨b, off, none⟩ k = ⟨b, off + k, none⟩ := by
      simp only [Addr.add]; split <;> simp_all
    rw [← e]; exact hc

set_option maxRecDepth 100000 in
/-- The argument is an ordering. -/
theorem open_ord {r : Reach} {b0 : Nat} {v : Value} {d : DataW H} {p : List MemPlace} (hv : Value.okWide Try.prog w r b0 25 v)
    (h : DataW.Trod enc Try.prog w base sp hd 25 v d p) : ∃ (o : Od) (sv wv : Value), v = .agg #[sv, wv, .int .i64 o.va] ∧ OdV w sv wv o ∧ o.lim 9223372036854775807 := by
  obtain ⟨cs, rfl, hsz⟩ := okWide_struct Try.underlying25 hv
  obtain ⟨c0, c1, c2, rfl⟩ := array3 (hsz.trans cellsO)
  obtain ⟨fuel, hf⟩ := h
  obtain ⟨xs, n, _, _, _, hxl, hfi⟩ := DataW.trod_struct Try.underlying25 hf
  have hx3 : xs.length = 3 := hxl
  have f0 := hfi 0 _ rfl
  have f1 := hfi 1 _ rfl
  have f2 := hfi 2 _ rfl
  rw [List.getElem?_eq_getElem (by omega)] at f0 f1 f2
  have g0 : DataW.trod enc Try.prog w base sp hd n 22 (([c0, c1, c2].drop 0).take (Try.prog.cellsOf 22)) = some _ := f0
  have g1 : DataW.trod enc Try.prog w base sp hd n 23 (([c0, c1, c2].drop 1).take (Try.prog.cellsOf 23)) = some _ := f1
  have g2 : DataW.trod enc Try.prog w base sp hd n 3 (([c0, c1, c2].drop 2).take (Try.prog.cellsOf 3)) = some _ := f2
  rw [cellsS] at g0
  rw [cellsI] at g1
  rw [cellsK] at g2
  obtain ⟨ss, hs1, hs2, hs3, hs4⟩ := trod_strs (c0 := c0) g0
  obtain ⟨is, hi1, hi2⟩ := trod_ints (c0 := c1) g1
  obtain ⟨x, hx, _⟩ := DataW.trod_int Try.underlying3 g2
  have hx' : [c2] = [Value.int .i64 x] := hx
  injection hx' with hx'
  subst hx'
  exact ⟨⟨ss, is, x⟩, c0, c1, rfl, ⟨hs1, hi1, hs4⟩, hs2, hs3, hi2⟩
end

end Go.Proofs.Ytohalpafmcobpaa
