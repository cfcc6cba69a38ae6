/- Negation normal form, the program's test: contracts, for formulas of at most 1048576 names' bytes, arguments and parts. -/
import Derived.Test.YtppmiedhoimgmaaYfI
import Derived.Test.YtppmiedhoimgmaaInS
import Derived.Test.YtppmiedhoimgmaaFmI
import Derived.Test.YtppmiedhoimgmaaIdeD
namespace Go.Proofs.Ytppmiedhoimgmaa
open Go.RowKit Go.Shelf
set_option linter.unusedVariables false
set_option linter.unusedSimpArgs false

attribute [local go_sem] Oper.semAt_some

set_option maxRecDepth 100000 in
set_option maxHeartbeats 8000000 in
theorem isNeg_in (t : Fm) (w : World) (va vp : Value) (hv : FmV w va vp t) (hf : t.formsB = true) (hw : t.wt ≤ 1048576) :
    CallsIn Fence.wide 9 Try.prog 107 #[.agg #[.int .i64 t.op, .string t.atom.name, va, .string t.var, vp]] w (Ans (.bool t.isN) w) := by
  have HW := Lib.hid hw
  obtain ⟨pa, ca, pp, cp, rfl, rfl⟩ := hv.open
  have hdd : ∀ k : Nat, (Fence.wide.depth.isSome = true → 1 ≤ k) := fun k h => by cases h
  have HV := Lib.hid hv
  have HFO := Lib.hid (Fm.pst_forms t hf)
  obtain ⟨w0, hw0⟩ : ∃ w0, (w.alloc (.cells #[.int .i64 t.op, .string t.atom.name, .slice pa t.atom.args.length ca, .string t.var, .slice pp t.parts.length cp] 68)).alloc (.cells #[.bool false] 4) = w0 := ⟨_, rfl⟩
  have HB0 : Hid (Below w.heap.size w w0) := Lib.hid (by rw [← hw0]; exact ((Below.refl w.heap.size w).alloc (Nat.le_refl _) _).alloc (by simp) _)
  have H10 : Hid (FivB w0 w.heap.size (.int .i64 t.op) (.string t.atom.name) (.slice pa t.atom.args.length ca) (.string t.var) (.slice pp t.parts.length cp)) := Lib.hid (by rw [← hw0]; exact (fivB_new w (.int .i64 t.op) (.string t.atom.name) (.slice pa t.atom.args.length ca) (.string t.var) (.slice pp t.parts.length cp) 68 _ rfl).alloc _)
  have H30 : Hid (Oner w0 (w.heap.size + 1) (.bool false)) := Lib.hid (by rw [← hw0]; exact oner_new _ (.bool false) 4 (w.heap.size + 1) (by simp))
  have hz0 : w0.heap.size = w.heap.size + 2 := by rw [← hw0]; simp
  clear hv hw hf
  refine callsIn_of_wp_marks Try.func107 rfl trivial ?_ rfl
  simp only [Try.ntmps107, List.size_toArray, List.length_cons, List.length_nil, Nat.reduceAdd, Nat.reduceSub, Array.replicate_succ, Array.replicate_zero, List.push_toArray, List.append_toArray, List.nil_append, List.cons_append]
  obtain ⟨b0, b1, b2, b3, b4, b5⟩ := H10.out
  gi_wp2
  refine ⟨trivial, ?_⟩
  refine (callsIn_wide.2 (formulasIn_any _ _)).mono ?_
  rintro e w3 ⟨rfl, rfl⟩
  obtain ⟨W0, hW0⟩ : ∃ W0, w0.alloc (.cells #[.pointer (some ⟨w.heap.size, 0, none⟩)] 127) = W0 := ⟨_, rfl⟩
  have HBX : Hid (W0.cell? ⟨w0.heap.size, 0, none⟩ = some (.pointer (some ⟨w.heap.size, 0, none⟩))) := Lib.hid (by rw [← hW0]; exact (oner_new w0 _ _ _ rfl).1)
  have HB3 : Hid (Below w0.heap.size w0 W0) := Lib.hid (by rw [← hW0]; exact (Below.refl _ _).alloc (Nat.le_refl _) _)
  have HB4 : Hid (Below w.heap.size w W0) := Lib.hid (HB0.out.trans (HB3.out.mono HB0.out.size))
  have hwz : w.heap.size + 1 < W0.heap.size := by have := HB3.out.size; omega
  have h3 := H30.out.kept HB3.out
  have HF0 := Lib.hid ((H10.out.kept HB3.out).fiv)
  have HVT := Lib.hid (HV.out.kept HB4.out)
  rw [hW0]
  clear hW0 b0 b1 b2 b3 b4 b5 hw0
  have hzz := Lib.hid hz0
  clear hz0
  gi_wp2
  refine wpIn_rangeY rfl (by omega) (gf := 167) (lb := #[.pointer (some ⟨w0.heap.size, 0, none⟩)]) rfl trivial (enters_of Try.func167 (by kernel_rfl) rfl)
    (formulas_stops (9 - 1) w0.heap.size w.heap.size 0 W0 t _ _ HW.out W0 (Below.refl _ _) HF0.out HVT.out HBX.out) (fun A B k o e h _ => e ▸ h) (fun h k => Below.trans h k) (fun W l o o' hl h hc hw => belowK_b (Nat.le_refl _) W l o o' hl h hc hw) (Below.refl _ _) (fun _ => rfl)
    (fun pre W => (∀ y ∈ pre, nn1 y.tm = true) ∧ Below W0.heap.size W0 W)
    (fun cc pre W => cc = .ret ∧ t.isN = false ∧ FinN w false W)
    (OwnFrom.and (ownFrom_pure _ _) (ownFrom_below (Nat.le_refl _) (Nat.le_refl _)))
    (fun cc => OwnFrom.and (ownFrom_pure _ (fun _ => cc = .ret)) (OwnFrom.and (ownFrom_pure _ (fun _ => t.isN = false)) (finN_own w false _ (by omega))))
    (fun pre A B h e => e ▸ h)
    (fun c pre A B h e => e ▸ h)
    (fun x W l o o' hl h hc hw hp => hp.put (Nat.le_refl _) l o o' hl h hc hw)
    ⟨fun y hy => (by cases hy), Below.refl _ _⟩
    (fun x => { tmps := #[.agg #[.int .i64 t.op, .string t.atom.name, .slice pa t.atom.args.length ca, .string t.var, .slice pp t.parts.length cp], .pointer (some ⟨w.heap.size, 0, none⟩), .pointer (some ⟨w.heap.size + 1, 0, none⟩), .pointer (some ⟨x.b, x.o, none⟩), .func (.func 167) #[] #[.pointer (some ⟨w0.heap.size, 0, none⟩)], .pointer (some ⟨x.b, x.o, none⟩), undef, undef, undef, undef, undef, undef, undef, undef, undef, undef, undef, undef, undef, undef, undef, undef, undef, undef, undef, undef, undef, undef], defers := [] })
    ?assign ?body ?done ?stop
  case assign =>
    intro l x W K hK
    simp only [Fx.enc]
    gi_wp2
    exact hK
  case body =>
    rintro ll pre x W ⟨hp, hB1⟩ ⟨hm, hfx, hvx, hb0⟩ hlt2
    have HP := Lib.hid hp
    have HB1 := Lib.hid hB1
    obtain ⟨xb, xo, xt, xa, xp⟩ := x
    simp only at hm hfx hvx
    obtain ⟨qa, qc, qp, qd, rfl, rfl⟩ := hvx.open
    obtain ⟨g0, g1, g2, g3, g4⟩ := hfx.kept hb0
    have HVX := Lib.hid hvx
    have HMM := Lib.hid hm
    have HBB := Lib.hid hb0
    obtain ⟨p2, p3⟩ := h3.kept hb0
    have hways := nn1_ways (forms_parts (HFO.out xt hm)).1
    have HFO2 : Hid (FinN w false (W.setCell ⟨w.heap.size + 1, 0, none⟩ (.bool false))) := Lib.hid (FinN.set p2 (HB4.out.trans (hb0.mono HB4.out.size)))
    have HKF : Hid (KeepsFrom W0.heap.size W (W.setCell ⟨w.heap.size + 1, 0, none⟩ (.bool false))) := Lib.hid ((KeepsOthers.setCell _ _ _).from _)
    clear hp hB1 hfx hvx hm hb0
    rcases hways with ⟨h7, hn⟩ | ⟨h7, h4, hn⟩ | ⟨h4, s, hs, hs3, hn⟩ | ⟨h4, s, hs, hs3, hn⟩
    · have HX : Hid (t.isN = false) := Lib.hid (isN_no HMM.out hn)
      have o7 := op_is h7
      clear hn h7
      gi_wp2
      exact ⟨HKF.out, rfl, HX.out, HFO2.out⟩
    · have HX : Hid (∀ y ∈ pre ++ [Fx.mk xb xo xt (.slice qa xt.atom.args.length qc) (.slice qp xt.parts.length qd)], nn1 y.tm = true) := Lib.hid (fun y hy => by
        rcases List.mem_append.1 hy with hy | hy
        · exact HP.out y hy
        · rw [List.mem_singleton.1 hy]; exact hn)
      have o7 := op_not h7
      have o4 := op_not h4
      clear hn h7 h4
      gi_wp2
      exact ⟨KeepsFrom.refl _ _, Below.refl _ _, HX.out, HB1.out⟩
    · have HX : Hid (∀ y ∈ pre ++ [Fx.mk xb xo xt (.slice qa xt.atom.args.length qc) (.slice qp xt.parts.length qd)], nn1 y.tm = true) := Lib.hid (fun y hy => by
        rcases List.mem_append.1 hy with hy | hy
        · exact HP.out y hy
        · rw [List.mem_singleton.1 hy]; exact hn)
      have o7 := op_not (show xt.op ≠ 7 by omega)
      have o4 := op_is h4
      have o3 := op_eq hs3
      have hl1 : 0 < xt.parts.length := by rw [hs]; simp
      obtain ⟨b, off, e, c0⟩ := part0 HVX.out.2 hs
      subst e
      have c0' := carry_cell c0 HBB.out
      clear h4 hn hs hs3 c0
      gi_wp2
      exact ⟨KeepsFrom.refl _ _, Below.refl _ _, HX.out, HB1.out⟩
    · have HX : Hid (t.isN = false) := Lib.hid (isN_no HMM.out hn)
      have o7 := op_not (show xt.op ≠ 7 by omega)
      have o4 := op_is h4
      have o3 := op_ne hs3
      have hl1 : 0 < xt.parts.length := by rw [hs]; simp
      obtain ⟨b, off, e, c0⟩ := part0 HVX.out.2 hs
      subst e
      have c0' := carry_cell c0 HBB.out
      clear h4 hn hs hs3 c0
      gi_wp2
      exact ⟨HKF.out, rfl, HX.out, HFO2.out⟩
  case done =>
    rintro D xs W hD hS ⟨hp, hB1⟩ hK
    have HF : Hid (t.isN = true) := Lib.hid (isN_yes fun s hs => by
      rw [← hS] at hs
      obtain ⟨y, hy, rfl⟩ := List.mem_map.1 hs
      exact hp y hy)
    obtain ⟨p2, p3⟩ := h3.kept hB1
    have HFO : Hid (FinN w true (W.setCell ⟨w.heap.size + 1, 0, none⟩ (.bool true))) := Lib.hid (FinN.set p2 (HB4.out.trans (hB1.mono HB4.out.size)))
    have HOPN : Hid (Open (w.heap.size + 2) (W.setCell ⟨w.heap.size + 1, 0, none⟩ (.bool true)) [D]) := Lib.hid (((Open.nil _ _).cons (by omega) hK (by simp)).set (by simp) _)
    clear hp hB1 hS
    gi_wp2
    refine leaves_open (FinN w true) (w.heap.size + 2) (fun W D h hB hD => h.put (by omega) hD) (fun W h => ?_) [D] _ HOPN.out HFO.out
    obtain ⟨r1, rb⟩ := h
    exact ⟨.bool true, by simp [results, Try.results107, go_sem, r1], ret_bool HF.out.symm, rb⟩
  case stop =>
    rintro D cc pre W hD hS ⟨rfl, hx, hfo⟩ hK
    have HF2 := Lib.hid hx
    have HFO := Lib.hid hfo
    have HOPN : Hid (Open (w.heap.size + 2) W [D]) := Lib.hid ((Open.nil _ _).cons (by omega) hK (by simp))
    clear hx hfo hS
    gi_wp2
    refine leaves_open (FinN w false) (w.heap.size + 2) (fun W D h hB hD => h.put (by omega) hD) (fun W h => ?_) [D] _ HOPN.out HFO.out
    obtain ⟨r1, rb⟩ := h
    exact ⟨.bool false, by simp [results, Try.results107, go_sem, r1], ret_bool HF2.out.symm, rb⟩

theorem isNeg_any (t : Fm) (w : World) (va vp : Value) (hv : FmV w va vp t) (hf : t.formsB = true) (hw : t.wt ≤ 1048576) :
    Calls Try.prog 107 #[.agg #[.int .i64 t.op, .string t.atom.name, va, .string t.var, vp]] w (Ans (.bool t.isN) w) := callsIn_wide.1 (isNeg_in t w va vp hv hf hw)

set_option maxHeartbeats 2000000 in
theorem implIn_any (t : Fm) (w : World) (va vp : Value) (hv : FmV w va vp t) (hw : t.wt ≤ 1048576) :
    Calls Try.prog 47 #[.agg #[.int .i64 t.op, .string t.atom.name, va, .string t.var, vp]] w (Ans (.tuple #[.bool (inR t), .bool (fgoodB t)]) w) := by
  obtain ⟨pa, ca, pp, cp, rfl, rfl⟩ := hv.open
  have HV := Lib.hid hv
  have H2 := Lib.hid (fivB_new w (.int .i64 t.op) (.string t.atom.name) (.slice pa t.atom.args.length ca) (.string t.var) (.slice pp t.parts.length cp) 68 _ rfl)
  have HB0 := Lib.hid ((Below.refl w.heap.size w).alloc (Nat.le_refl _) (.cells #[.int .i64 t.op, .string t.atom.name, .slice pa t.atom.args.length ca, .string t.var, .slice pp t.parts.length cp] 68))
  obtain ⟨b0, b1, b2, b3, b4, b5⟩ := H2.out
  have CG := Lib.hid (implVF_any t _ _ _ (hv.kept HB0.out) hw)
  clear hv
  cases hg : fgoodB t with
  | false =>
    have HF := Lib.hid (inR_no hg)
    have HG := Lib.hid hg
    rw [hg] at CG
    clear hg
    go_enter Try.func47, Try.ntmps47
    go_wp2_with fail
    refine CG.out.mono ?_
    rintro e w3 ⟨rfl, hb⟩
    have HB3 := Lib.hid (carry_below HB0.out (Nat.le_refl _) hb)
    clear hb b0 b1 b2 b3 b4 b5
    go_wp2
    go_ret2
    exact ⟨ret_bb HF.out.symm rfl, HB3.out⟩
  | true =>
    have HF := Lib.hid (inR_is hg)
    have HG := Lib.hid hg
    have HFM := Lib.hid (fgood_open hg).2
    rw [hg] at CG
    clear hg
    go_enter Try.func47, Try.ntmps47
    go_wp2_with fail
    refine CG.out.mono ?_
    rintro e w3 ⟨rfl, hb⟩
    have HB3 := Lib.hid (carry_below HB0.out (Nat.le_refl _) hb)
    have H23 := Lib.hid (H2.out.kept hb)
    clear hb b0 b1 b2 b3 b4 b5
    obtain ⟨b0, b1, b2, b3, b4, b5⟩ := H23.out
    have CI := Lib.hid (isNeg_any t w3 _ _ (HV.out.kept HB3.out) HFM.out hw)
    go_wp2_with fail
    refine CI.out.mono ?_
    rintro e w4 ⟨rfl, hb⟩
    have HB4 := Lib.hid (carry_below HB3.out (Nat.le_refl _) hb)
    clear hb
    go_wp2
    go_ret2
    exact ⟨ret_bb HF.out.symm rfl, HB4.out⟩
end Go.Proofs.Ytppmiedhoimgmaa
