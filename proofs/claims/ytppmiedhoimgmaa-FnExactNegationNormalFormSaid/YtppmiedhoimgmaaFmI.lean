/- The program's IsValidFormula and FormulaSize, as contracts: they answer as the model's. For formulas of at most 1048576 names' bytes, arguments and parts. -/
import Derived.Test.YtppmiedhoimgmaaFmH
namespace Go.Proofs.Ytppmiedhoimgmaa
open Go.RowKit
set_option linter.unusedVariables false

def cntF (t : Fm) (m : Nat) : Value := if t.sz ≤ m then .tuple #[.int .i64 t.sz, .bool true] else .tuple #[.int .i64 0, .bool false]
theorem cntE_yes {t : Fm} {m : Nat} {q : Int} (h : t.sz ≤ m) (e : q = t.sz) : Ending.returned (.tuple #[.int .i64 q, .bool true]) = .returned (cntF t m) := by unfold cntF; rw [if_pos h, e]
theorem cntE_no {t : Fm} {m : Nat} (h : ¬ t.sz ≤ m) : Ending.returned (.tuple #[.int .i64 0, .bool false]) = .returned (cntF t m) := by unfold cntF; rw [if_neg h]
theorem cntF_yes {t : Fm} {m : Nat} (h : t.sz ≤ m) : cntF t m = .tuple #[.int .i64 t.sz, .bool true] := by unfold cntF; rw [if_pos h]
theorem cntF_no {t : Fm} {m : Nat} (h : ¬ t.sz ≤ m) : cntF t m = .tuple #[.int .i64 0, .bool false] := by unfold cntF; rw [if_neg h]
def FCntT (t : Fm) : Prop := ∀ (w : World) (va vp : Value) (m : Nat), FmV w va vp t → t.wt ≤ 1048576 → m ≤ 40 →
  Calls Try.prog 141 #[.agg #[.int .i64 t.op, .string t.atom.name, va, .string t.var, vp], .int .i64 m] w (Ans (cntF t m) w)

set_option maxHeartbeats 1000000 in
theorem fcnt_of (t : Fm) (h : ∀ s ∈ t.parts, FCntT s) : FCntT t := by
  intro w va vp m hv hw hm
  have HE := Lib.hid t.sz_eq
  have hpos := t.sz_pos
  have HT := Lib.hid (fun k => sumG_take Fm.sz t.parts k)
  have H := Lib.hid h
  have HL := Lib.hid (fun (s : Fm) (hs : s ∈ t.parts) => Nat.le_trans (Fm.wt_part hs) hw)
  have hlen := Nat.le_trans t.wt_len hw
  obtain ⟨pa, ca, pp, cp, rfl, rfl⟩ := hv.open
  have HV := Lib.hid hv
  have H2 := Lib.hid (fivB_new w (.int .i64 t.op) (.string t.atom.name) (.slice pa t.atom.args.length ca) (.string t.var) (.slice pp t.parts.length cp) 68 _ rfl)
  have HB0 := Lib.hid ((Below.refl w.heap.size w).alloc (Nat.le_refl _) (.cells #[.int .i64 t.op, .string t.atom.name, .slice pa t.atom.args.length ca, .string t.var, .slice pp t.parts.length cp] 68))
  obtain ⟨b0, b1, b2, b3, b4, b5⟩ := H2.out
  clear h hv
  by_cases hm0 : m < 1
  · have HF := Lib.hid (cntE_no (t := t) (m := m) (by omega))
    go_enter Try.func141, Try.ntmps141
    go_wp2
    go_ret2
    exact ⟨HF.out, HB0.out⟩
  · go_enter Try.func141, Try.ntmps141
    go_wp2
    go_loopw [6, 16] (fun n i wr => ∃ k q : Nat, k ≤ t.parts.length ∧ i = .int .i64 k ∧ n = .int .i64 q ∧ q = 1 + sumG Fm.sz (t.parts.take k) ∧ q ≤ m ∧ Below w.heap.size w wr) (fun _ i _ => t.parts.length - (intOf i).toNat)
    case atStart => exact ⟨0, 1, Nat.zero_le _, rfl, rfl, by simp [sumG], by omega, HB0.out⟩
    case round =>
      obtain ⟨k, q, hk, rfl, rfl, hq, hqm, hbel⟩ := hrel
      have HQ := Lib.hid hq
      have HB := Lib.hid hbel
      clear hbel hq
      by_cases hlt : k < t.parts.length
      · skip
        obtain ⟨s, hs⟩ : ∃ s, t.parts[k]? = some s := ⟨_, List.getElem?_eq_getElem hlt⟩
        obtain ⟨b, off, rfl, va, vp, hc, hva, hvp⟩ := HV.out.2.get hs
        obtain ⟨g0, g1, g2, g3, g4⟩ := hc.kept HB.out
        have HVA : Hid (FmV wr va vp s) := Lib.hid ⟨hva.kept HB.out, hvp.kept HB.out⟩
        have HS := Lib.hid hs
        clear hs hc hva hvp
        obtain ⟨a', c', b', d', rfl, rfl⟩ := HVA.out.open
        have HN := Lib.hid (sumG_next (f := Fm.sz) HS.out)
        go_wp2_with fail
        rw [show (m : Int) - (q : Int) = ((m - q : Nat) : Int) by omega]
        refine (H.out s (mem_of_at HS.out) _ _ _ (m - q) (HVA.out.alloc _) (HL.out s (mem_of_at HS.out)) (by omega)).mono ?_
        rintro e w' ⟨he, hb⟩
        have HB2 := Lib.hid (carry_below (HB.out.alloc HB.out.size _) (Nat.le_refl _) hb)
        clear hb
        by_cases hsz : s.sz ≤ m - q
        · rw [cntF_yes hsz] at he
          subst he
          go_wp2
          go_roundw
          case rel => exact ⟨k + 1, q + s.sz, by omega, by go_num, by go_num, by rw [HN.out, HQ.out]; omega, by omega, HB2.out⟩
          case measure => simp [intOf]; omega
        · rw [cntF_no hsz] at he
          subst he
          have HF := Lib.hid (cntE_no (t := t) (m := m) (by have := HE.out; have := HT.out (k + 1); have := HQ.out; have := HN.out; omega))
          go_wp2
          go_ret2
          exact ⟨HF.out, HB2.out⟩
      · have hke : k = t.parts.length := by omega
        subst hke
        have hsz : t.sz = q := by rw [HQ.out, HE.out, sumG_all (Nat.le_refl _)]
        have HF := Lib.hid (cntE_yes (t := t) (m := m) (q := q) (by omega) (by omega))
        clear hsz
        go_wp2
        go_ret2
        exact ⟨HF.out, HB.out⟩

theorem count_formulas (t : Fm) : FCntT t := Fm.ind (P := FCntT) fcnt_of t

def HaveT (l : List Fm) : Prop := ∀ (w : World) (v : Value), FmS w v l → l.length ≤ 1048576 → (∀ t ∈ l, t.wt ≤ 1048576) →
  Calls Try.prog 142 #[v] w (Ans (.bool (l.all Fm.formsB)) w)

set_option maxHeartbeats 1000000 in
theorem haveF_of (l : List Fm) (h : ∀ t ∈ l, HaveT t.parts) : HaveT l := by
  intro w v hv hlen hw
  have H := Lib.hid h
  have HL := Lib.hid hw
  obtain ⟨a, c, rfl⟩ := hv.is_slice
  have HV := Lib.hid hv
  clear h hv hw
  go_enter Try.func142, Try.ntmps142
  go_wp2
  go_loopw [7] (fun i wr => ∃ k : Nat, k ≤ l.length ∧ i = .int .i64 k ∧ (l.take k).all Fm.formsB = true ∧ Below w.heap.size w wr) (fun i _ => l.length - (intOf i).toNat)
  case atStart => exact ⟨0, Nat.zero_le _, rfl, by simp, Below.refl _ _⟩
  case round =>
      obtain ⟨k, hk, rfl, hq, hbel⟩ := hrel
      have HQ := Lib.hid hq
      have HB := Lib.hid hbel
      clear hbel hq
      by_cases hlt : k < l.length
      · obtain ⟨t, hs⟩ : ∃ s, l[k]? = some s := ⟨_, List.getElem?_eq_getElem hlt⟩
        obtain ⟨b, off, rfl, va, vp, hc, hva, hvp⟩ := HV.out.get hs
        obtain ⟨g0, g1, g2, g3, g4⟩ := hc.kept HB.out
        have HVA : Hid (FmV wr va vp t) := Lib.hid ⟨hva.kept HB.out, hvp.kept HB.out⟩
        have HS := Lib.hid hs
        clear hs hc hva hvp
        obtain ⟨pa, ca, pp, cp, rfl, rfl⟩ := HVA.out.open
        have H2 := Lib.hid (fivB_new wr (.int .i64 t.op) (.string t.atom.name) (.slice pa t.atom.args.length ca) (.string t.var) (.slice pp t.parts.length cp) 68 _ rfl)
        have HB0 := Lib.hid (HB.out.alloc HB.out.size (.cells #[.int .i64 t.op, .string t.atom.name, .slice pa t.atom.args.length ca, .string t.var, .slice pp t.parts.length cp] 68))
        obtain ⟨b0, b1, b2, b3, b4, b5⟩ := H2.out
        have HX := Lib.hid (HVA.out.alloc (.cells #[.int .i64 t.op, .string t.atom.name, .slice pa t.atom.args.length ca, .string t.var, .slice pp t.parts.length cp] 68))
        go_wp2_with fail
        refine (hasForm_any t _ _ _ HX.out (HL.out t (mem_of_at HS.out))).mono ?_
        rintro e w1 ⟨rfl, hb⟩
        have HB1 := Lib.hid (carry_below HB0.out (Nat.le_refl _) hb)
        have HX1 := Lib.hid (HX.out.kept hb)
        obtain ⟨d0, d1, d2, d3, d4, d5⟩ := H2.out.kept hb
        clear hb
        cases hf : formB t with
        | false =>
          have HF := Lib.hid (allG_no (p := Fm.formsB) HS.out (by rw [t.formsB_eq, hf]; rfl))
          clear hf
          go_wp2
          go_ret
          exact ⟨ret_bool (by rw [HF.out]), HB1.out⟩
        | true =>
          have HF : Hid (t.formsB = t.parts.all Fm.formsB) := Lib.hid (by rw [t.formsB_eq, hf]; rfl)
          clear hf
          go_wp2_with fail
          refine (H.out t (mem_of_at HS.out) _ _ HX1.out.2 (Nat.le_trans t.wt_len (HL.out t (mem_of_at HS.out))) (fun s hs => Nat.le_trans (Fm.wt_part hs) (HL.out t (mem_of_at HS.out)))).mono ?_
          rintro e w2 ⟨rfl, hb⟩
          have HB2 := Lib.hid (carry_below HB1.out (Nat.le_refl _) hb)
          clear hb
          cases hn : t.parts.all Fm.formsB with
          | true =>
            have HN := Lib.hid ((allG_next (p := Fm.formsB) HS.out).trans (by rw [HQ.out, HF.out, hn, Bool.and_self]))
            clear hn
            go_wp2
            go_roundw
            case rel => exact ⟨k + 1, by omega, by go_num, HN.out, HB2.out⟩
            case measure => simp [intOf]; omega
          | false =>
            have HN := Lib.hid (allG_no (p := Fm.formsB) HS.out (HF.out.trans hn))
            clear hn
            go_wp2
            go_ret
            exact ⟨ret_bool (by rw [HN.out]), HB2.out⟩
      · have HG : Hid (l.all Fm.formsB = true) := Lib.hid (by rw [← allG_all (p := Fm.formsB) (l := l) (k := k) (by omega)]; exact HQ.out)
        go_wp2
        go_ret
        exact ⟨ret_bool HG.out.symm, HB.out⟩

theorem haveF_part (t : Fm) : HaveT t.parts := Fm.ind (P := fun t => HaveT t.parts) (fun t ih => haveF_of t.parts ih) t
theorem haveForms_any (l : List Fm) : HaveT l := haveF_of l fun t _ => haveF_part t

theorem fgoodB_no {t : Fm} (h : ¬ t.sz ≤ 40) : fgoodB t = false := by simp [fgoodB, h]
theorem fgoodB_is {t : Fm} (h : t.sz ≤ 40) : fgoodB t = t.formsB := by simp [fgoodB, h]

set_option maxHeartbeats 1000000 in
theorem implVF_any (t : Fm) (w : World) (va vp : Value) (hv : FmV w va vp t) (hw : t.wt ≤ 1048576) :
    Calls Try.prog 90 #[.agg #[.int .i64 t.op, .string t.atom.name, va, .string t.var, vp]] w (Ans (.bool (fgoodB t)) w) := by
  obtain ⟨pa, ca, pp, cp, rfl, rfl⟩ := hv.open
  have HV := Lib.hid hv
  have H2 := Lib.hid (fivB_new w (.int .i64 t.op) (.string t.atom.name) (.slice pa t.atom.args.length ca) (.string t.var) (.slice pp t.parts.length cp) 68 _ rfl)
  have HB0 := Lib.hid ((Below.refl w.heap.size w).alloc (Nat.le_refl _) (.cells #[.int .i64 t.op, .string t.atom.name, .slice pa t.atom.args.length ca, .string t.var, .slice pp t.parts.length cp] 68))
  obtain ⟨b0, b1, b2, b3, b4, b5⟩ := H2.out
  have HW := Lib.hid hw
  clear hv hw
  go_enter Try.func90, Try.ntmps90
  go_wp2_with fail
  refine (count_formulas t _ _ _ 40 (HV.out.kept HB0.out) HW.out (by omega)).mono ?_
  rintro e w1 ⟨he, hb⟩
  have HB1 := Lib.hid (carry_below HB0.out (Nat.le_refl _) hb)
  have H21 := Lib.hid (H2.out.kept hb)
  obtain ⟨d0, d1, d2, d3, d4, d5⟩ := H2.out.kept hb
  clear hb
  by_cases hsz : t.sz ≤ 40
  · rw [cntF_yes hsz] at he
    subst he
    have HF := Lib.hid (fgoodB_is hsz)
    have HX := Lib.hid ((HV.out.kept HB1.out).alloc (.cells #[.int .i64 t.op, .string t.atom.name, .slice pa t.atom.args.length ca, .string t.var, .slice pp t.parts.length cp] 68))
    have HS := Lib.hid (fmS_one HX.out.1 HX.out.2 w1.heap.size 0 1 (fivB_new w1 (.int .i64 t.op) (.string t.atom.name) (.slice pa t.atom.args.length ca) (.string t.var) (.slice pp t.parts.length cp) 68 _ rfl).fiv)
    clear hsz
    go_wp2_with fail
    refine (haveForms_any [t] _ _ HS.out (by simp) (fun s hs => by rw [List.mem_singleton.1 hs]; exact HW.out)).mono ?_
    rintro e w2 ⟨rfl, hb⟩
    have HB2 := Lib.hid (carry_below (HB1.out.alloc HB1.out.size _) (Nat.le_refl _) hb)
    have HG : Hid ([t].all Fm.formsB = t.formsB) := Lib.hid (by simp)
    clear hb
    go_wp2
    go_ret
    exact ⟨ret_bool (by first | (rw [HF.out]; done) | (rw [HF.out]; exact HG.out)), HB2.out⟩
  · rw [cntF_no hsz] at he
    subst he
    have HF := Lib.hid (fgoodB_no hsz)
    clear hsz
    go_wp2
    go_ret
    exact ⟨ret_bool HF.out.symm, HB1.out⟩

end Go.Proofs.Ytppmiedhoimgmaa
