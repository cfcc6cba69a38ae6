/- Negation normal form, the model's test: contracts, for formulas of at most 1048576 names' bytes, arguments and parts. -/
import Derived.Test.YtppmiedhoimgmaaPst
import Derived.Test.YtppmiedhoimgmaaFmS
namespace Go.Proofs.Ytppmiedhoimgmaa
open Go.RowKit
set_option linter.unusedVariables false
set_option linter.unusedSimpArgs false

theorem op_is {o c : Int} (h : o = c) : ((o : Int) == c) = true := by rw [beq_iff_eq]; exact h
theorem op_not {o c : Int} (h : o ≠ c) : ((o : Int) == c) = false := by rw [beq_eq_false_iff_ne]; exact h
theorem op_ne {o c : Int} (h : o ≠ c) : ((o : Int) != c) = true := by rw [bne_iff_ne]; exact h
theorem op_eq {o c : Int} (h : o = c) : ((o : Int) != c) = false := by rw [bne_eq_false_iff_eq]; exact h
/-- The first part's Op, where it lies. -/
theorem part0 {w : World} {pp : Option Addr} {n cp : Nat} {t s : Fm} (h : FmS w (.slice pp n cp) t.parts) (hs : t.parts = [s]) : ∃ b off, pp = some ⟨b, off, none⟩ ∧ w.cell? ⟨b, off, none⟩ = some (.int .i64 s.op) := by
  obtain ⟨b, off, e, va, vp, hc, _⟩ := h.get (k := 0) (t := s) (by rw [hs]; rfl)
  exact ⟨b, off, e, by simpa using hc.1⟩

def InT (t : Fm) : Prop := ∀ (w : World) (va vp : Value), FmV w va vp t → t.formsB = true → t.wt ≤ 1048576 →
  Calls Try.prog 106 #[.agg #[.int .i64 t.op, .string t.atom.name, va, .string t.var, vp]] w (Ans (.bool t.isN) w)

set_option maxRecDepth 100000 in
set_option maxHeartbeats 4000000 in
theorem l9IsNnf_of (t : Fm) (h : ∀ s ∈ t.parts, InT s) : InT t := by
  intro w va vp hv hf hw
  have H := Lib.hid h
  have HL := Lib.hid (fun (s : Fm) (hs : s ∈ t.parts) => Nat.le_trans (Fm.wt_part hs) hw)
  have HFP := Lib.hid (forms_parts hf).2
  have hlen := Nat.le_trans t.wt_len hw
  obtain ⟨pa, ca, pp, cp, rfl, rfl⟩ := hv.open
  have HV := Lib.hid hv
  have H2 := Lib.hid (fivB_new w (.int .i64 t.op) (.string t.atom.name) (.slice pa t.atom.args.length ca) (.string t.var) (.slice pp t.parts.length cp) 68 _ rfl)
  have HB0 := Lib.hid ((Below.refl w.heap.size w).alloc (Nat.le_refl _) (.cells #[.int .i64 t.op, .string t.atom.name, .slice pa t.atom.args.length ca, .string t.var, .slice pp t.parts.length cp] 68))
  obtain ⟨b0, b1, b2, b3, b4, b5⟩ := H2.out
  have hways := nn1_ways (forms_parts hf).1
  clear h hv hf
  rcases hways with ⟨h7, hn⟩ | ⟨h7, h4, hn⟩ | ⟨h4, s, hs, h3, hn⟩ | ⟨h4, s, hs, h3, hn⟩
  · have HF : Hid (t.isN = false) := Lib.hid (isN_no t.pst_self hn)
    have o7 := op_is h7
    clear h7 hn
    go_enter Try.func106, Try.ntmps106
    go_wp2
    go_ret
    exact ⟨ret_bool HF.out.symm, HB0.out⟩
  · have HNN := Lib.hid hn
    have o7 := op_not h7
    have o4 := op_not h4
    clear h7 h4 hn
    go_enter Try.func106, Try.ntmps106
    go_wp2
    go_loopw [3] (fun i wr => ∃ k : Nat, k ≤ t.parts.length ∧ i = .int .i64 k ∧ (t.parts.take k).all Fm.isN = true ∧ FivB wr w.heap.size (.int .i64 t.op) (.string t.atom.name) (.slice pa t.atom.args.length ca) (.string t.var) (.slice pp t.parts.length cp) ∧ Below w.heap.size w wr) (fun i _ => t.parts.length - (intOf i).toNat)
    case atStart => exact ⟨0, Nat.zero_le _, rfl, by simp, H2.out, HB0.out⟩
    case round =>
      obtain ⟨k, hk, rfl, hq, htwo, hbel⟩ := hrel
      have HQ := Lib.hid hq
      have HB := Lib.hid hbel
      have H2W := Lib.hid htwo
      obtain ⟨d0, d1, d2, d3, d4, d5⟩ := H2W.out
      have hbl : w.heap.size < wr.heap.size := World.block_lt_of_cell? wr ⟨w.heap.size, 0, none⟩ d0
      clear hbel hq htwo b0 b1 b2 b3 b4 b5
      by_cases hlt : k < t.parts.length
      · obtain ⟨x, hx⟩ : ∃ s, t.parts[k]? = some s := ⟨_, List.getElem?_eq_getElem hlt⟩
        obtain ⟨b, off, rfl, va, vp, hc, hva, hvp⟩ := HV.out.2.get hx
        obtain ⟨g0, g1, g2, g3, g4⟩ := hc.kept HB.out
        have HVA : Hid (FmV wr va vp x) := Lib.hid ⟨hva.kept HB.out, hvp.kept HB.out⟩
        have HX := Lib.hid hx
        clear hx hc hva hvp
        have CI := Lib.hid (H.out x (mem_of_at HX.out) _ _ _ HVA.out (HFP.out x (mem_of_at HX.out)) (HL.out x (mem_of_at HX.out)))
        cases hin : x.isN with
        | false =>
          have HF : Hid (t.isN = false) := Lib.hid (by rw [t.isN_eq, allG_no HX.out hin, Bool.and_false])
          rw [hin] at CI
          clear hin
          go_wp2_with fail
          refine CI.out.mono ?_
          rintro e w' ⟨rfl, hb⟩
          have HB2 := Lib.hid (carry_below HB.out (Nat.le_refl _) hb)
          clear hb
          go_wp2
          go_ret
          exact ⟨ret_bool HF.out.symm, HB2.out⟩
        | true =>
          have HN : Hid ((t.parts.take (k + 1)).all Fm.isN = true) := Lib.hid (by rw [allG_next HX.out, HQ.out, hin]; rfl)
          rw [hin] at CI
          clear hin
          go_wp2_with fail
          refine CI.out.mono ?_
          rintro e w' ⟨rfl, hb⟩
          have HB2 := Lib.hid (carry_below HB.out (Nat.le_refl _) hb)
          have H2W2 := Lib.hid (H2W.out.kept hb)
          clear hb d0 d1 d2 d3 d4 d5
          go_wp2
          go_roundw
          case rel => exact ⟨k + 1, by omega, by go_num, HN.out, H2W2.out, HB2.out⟩
          case measure => simp [intOf]; omega
      · have HF : Hid (t.isN = true) := Lib.hid (by rw [t.isN_eq, HNN.out, ← allG_all (p := Fm.isN) (l := t.parts) (k := k) (by omega), HQ.out]; rfl)
        go_wp2
        go_ret
        exact ⟨ret_bool HF.out.symm, HB.out⟩

  · have HNN := Lib.hid hn
    have o7 := op_not (show t.op ≠ 7 by omega)
    have o4 := op_is h4
    have o3 := op_eq h3
    have hl1 : 0 < t.parts.length := by rw [hs]; simp
    obtain ⟨b, off, e, c0⟩ := part0 HV.out.2 hs
    subst e
    have c0' := carry_cell c0 HB0.out
    clear h4 hn hs h3 c0
    go_enter Try.func106, Try.ntmps106
    go_wp2
    go_loopw [3] (fun i wr => ∃ k : Nat, k ≤ t.parts.length ∧ i = .int .i64 k ∧ (t.parts.take k).all Fm.isN = true ∧ FivB wr w.heap.size (.int .i64 t.op) (.string t.atom.name) (.slice pa t.atom.args.length ca) (.string t.var) (.slice (some ⟨b, off, none⟩) t.parts.length cp) ∧ Below w.heap.size w wr) (fun i _ => t.parts.length - (intOf i).toNat)
    case atStart => exact ⟨0, Nat.zero_le _, rfl, by simp, H2.out, HB0.out⟩
    case round =>
      obtain ⟨k, hk, rfl, hq, htwo, hbel⟩ := hrel
      have HQ := Lib.hid hq
      have HB := Lib.hid hbel
      have H2W := Lib.hid htwo
      obtain ⟨d0, d1, d2, d3, d4, d5⟩ := H2W.out
      have hbl : w.heap.size < wr.heap.size := World.block_lt_of_cell? wr ⟨w.heap.size, 0, none⟩ d0
      clear hbel hq htwo b0 b1 b2 b3 b4 b5
      by_cases hlt : k < t.parts.length
      · obtain ⟨x, hx⟩ : ∃ s, t.parts[k]? = some s := ⟨_, List.getElem?_eq_getElem hlt⟩
        obtain ⟨b9, off9, e9, va, vp, hc, hva, hvp⟩ := HV.out.2.get hx
        obtain ⟨rfl, rfl⟩ : b = b9 ∧ off = off9 := by simpa using e9
        clear e9
        obtain ⟨g0, g1, g2, g3, g4⟩ := hc.kept HB.out
        have HVA : Hid (FmV wr va vp x) := Lib.hid ⟨hva.kept HB.out, hvp.kept HB.out⟩
        have HX := Lib.hid hx
        clear hx hc hva hvp
        have CI := Lib.hid (H.out x (mem_of_at HX.out) _ _ _ HVA.out (HFP.out x (mem_of_at HX.out)) (HL.out x (mem_of_at HX.out)))
        cases hin : x.isN with
        | false =>
          have HF : Hid (t.isN = false) := Lib.hid (by rw [t.isN_eq, allG_no HX.out hin, Bool.and_false])
          rw [hin] at CI
          clear hin
          go_wp2_with fail
          refine CI.out.mono ?_
          rintro e w' ⟨rfl, hb⟩
          have HB2 := Lib.hid (carry_below HB.out (Nat.le_refl _) hb)
          clear hb
          go_wp2
          go_ret
          exact ⟨ret_bool HF.out.symm, HB2.out⟩
        | true =>
          have HN : Hid ((t.parts.take (k + 1)).all Fm.isN = true) := Lib.hid (by rw [allG_next HX.out, HQ.out, hin]; rfl)
          rw [hin] at CI
          clear hin
          go_wp2_with fail
          refine CI.out.mono ?_
          rintro e w' ⟨rfl, hb⟩
          have HB2 := Lib.hid (carry_below HB.out (Nat.le_refl _) hb)
          have H2W2 := Lib.hid (H2W.out.kept hb)
          clear hb d0 d1 d2 d3 d4 d5
          go_wp2
          go_roundw
          case rel => exact ⟨k + 1, by omega, by go_num, HN.out, H2W2.out, HB2.out⟩
          case measure => simp [intOf]; omega
      · have HF : Hid (t.isN = true) := Lib.hid (by rw [t.isN_eq, HNN.out, ← allG_all (p := Fm.isN) (l := t.parts) (k := k) (by omega), HQ.out]; rfl)
        go_wp2
        go_ret
        exact ⟨ret_bool HF.out.symm, HB.out⟩

  · have HF : Hid (t.isN = false) := Lib.hid (isN_no t.pst_self hn)
    have o7 := op_not (show t.op ≠ 7 by omega)
    have o4 := op_is h4
    have o3 := op_ne h3
    have hl1 : 0 < t.parts.length := by rw [hs]; simp
    obtain ⟨b, off, e, c0⟩ := part0 HV.out.2 hs
    subst e
    have c0' := carry_cell c0 HB0.out
    clear h4 hn hs h3 c0
    go_enter Try.func106, Try.ntmps106
    go_wp2
    go_ret
    exact ⟨ret_bool HF.out.symm, HB0.out⟩

theorem l9IsNnf_any (t : Fm) : InT t := Fm.ind (P := InT) l9IsNnf_of t

theorem inR_no {t : Fm} (h : fgoodB t = false) : inR t = false := by simp [inR, h]
theorem inR_is {t : Fm} (h : fgoodB t = true) : inR t = t.isN := by simp [inR, h]
theorem ret_bb {a b c d : Bool} (h : a = b) (k : c = d) : Ending.returned (.tuple #[.bool a, .bool c]) = .returned (.tuple #[.bool b, .bool d]) := by rw [h, k]

set_option maxHeartbeats 2000000 in
theorem specIn_any (t : Fm) (w : World) (va vp : Value) (hv : FmV w va vp t) (hw : t.wt ≤ 1048576) :
    Calls Try.prog 46 #[.agg #[.int .i64 t.op, .string t.atom.name, va, .string t.var, vp]] w (Ans (.tuple #[.bool (inR t), .bool (fgoodB t)]) w) := by
  obtain ⟨pa, ca, pp, cp, rfl, rfl⟩ := hv.open
  have HV := Lib.hid hv
  have H2 := Lib.hid (fivB_new w (.int .i64 t.op) (.string t.atom.name) (.slice pa t.atom.args.length ca) (.string t.var) (.slice pp t.parts.length cp) 68 _ rfl)
  have HB0 := Lib.hid ((Below.refl w.heap.size w).alloc (Nat.le_refl _) (.cells #[.int .i64 t.op, .string t.atom.name, .slice pa t.atom.args.length ca, .string t.var, .slice pp t.parts.length cp] 68))
  obtain ⟨b0, b1, b2, b3, b4, b5⟩ := H2.out
  have CG := Lib.hid (l8Good_any t _ _ _ (hv.kept HB0.out) hw)
  clear hv
  cases hg : fgoodB t with
  | false =>
    have HF := Lib.hid (inR_no hg)
    have HG := Lib.hid hg
    rw [hg] at CG
    clear hg
    go_enter Try.func46, Try.ntmps46
    go_wp2_with fail
    refine CG.out.mono ?_
    rintro e w3 ⟨rfl, hb⟩
    have HB3 := Lib.hid (carry_below HB0.out (Nat.le_refl _) hb)
    clear hb b0 b1 b2 b3 b4 b5
    go_wp2
    go_ret2
    exact ⟨ret_bb HF.out.symm rfl, HB3.out⟩
  | true =>
    have HF := Lib.hid (inR_is hg)
    have HG := Lib.hid hg
    have HFM := Lib.hid (fgood_open hg).2
    rw [hg] at CG
    clear hg
    go_enter Try.func46, Try.ntmps46
    go_wp2_with fail
    refine CG.out.mono ?_
    rintro e w3 ⟨rfl, hb⟩
    have HB3 := Lib.hid (carry_below HB0.out (Nat.le_refl _) hb)
    have H23 := Lib.hid (H2.out.kept hb)
    clear hb b0 b1 b2 b3 b4 b5
    obtain ⟨b0, b1, b2, b3, b4, b5⟩ := H23.out
    have CI := Lib.hid (l9IsNnf_any t w3 _ _ (HV.out.kept HB3.out) HFM.out hw)
    go_wp2_with fail
    refine CI.out.mono ?_
    rintro e w4 ⟨rfl, hb⟩
    have HB4 := Lib.hid (carry_below HB3.out (Nat.le_refl _) hb)
    clear hb
    go_wp2
    go_ret2
    exact ⟨ret_bb HF.out.symm rfl, HB4.out⟩
end Go.Proofs.Ytppmiedhoimgmaa
