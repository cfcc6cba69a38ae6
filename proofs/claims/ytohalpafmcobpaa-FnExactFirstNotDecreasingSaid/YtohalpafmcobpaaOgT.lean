/- Orderings, the model's side: covered terms, weight, TermWeight: contracts, for orderings and terms of at most 1048576 names' bytes and elements. -/
import Derived.Test.YtohalpafmcobpaaOgS
import Derived.Test.YtohalpafmcobpaaCnt
import Derived.IntWalk
namespace Go.Proofs.Ytohalpafmcobpaa
open Go.RowKit
set_option linter.unusedVariables false

/-- The ordering, in its box. -/
def OdB (w : World) (b : Nat) (sv wv : Value) (o : Od) : Prop := Thr w b sv wv (.int .i64 o.va)
theorem OdB.kept {w w' : World} {b : Nat} {sv wv : Value} {o : Od} (h : OdB w b sv wv o) (hb : Below w.heap.size w w') : OdB w' b sv wv o := Thr.kept h hb

def CovS (o : Od) (t : Tm) : Prop := ∀ (w : World) (sv wv va : Value), OdV w sv wv o → TmS w va t.args → t.wt ≤ 1048576 →
  Calls Try.prog 79 #[.agg #[sv, wv, .int .i64 o.va], .agg #[.string t.name, va]] w (Ans (.bool (o.cov t)) w)
def WtS (o : Od) (t : Tm) : Prop := ∀ (w : World) (sv wv va : Value), OdV w sv wv o → TmS w va t.args → t.wt ≤ 1048576 → t.sz ≤ 30 → o.cov t = true →
  Calls Try.prog 81 #[.agg #[sv, wv, .int .i64 o.va], .agg #[.string t.name, va]] w (Ans (.int .i64 (o.wT t)) w)

set_option maxHeartbeats 2000000 in
theorem covS_of (o : Od) (ho : o.wt ≤ 1048576) (t : Tm) (h : ∀ s ∈ t.args, CovS o s) : CovS o t := by
  intro w sv wv va hv ht hw
  obtain ⟨sa, sc, wa, wc, rfl, rfl⟩ := hv.open
  obtain ⟨a, c, rfl⟩ := ht.is_slice
  have HV := Lib.hid hv
  have HT := Lib.hid ht
  have H := Lib.hid h
  have HL := Lib.hid (fun (s : Tm) (hs : s ∈ t.args) => Nat.le_trans (Tm.wt_arg hs) hw)
  have hlen : t.args.length ≤ 1048576 := Nat.le_trans (Tm.wt_len t) hw
  have CV := Lib.hid (fun W => l2Var_any t.name W (by have := Tm.wt_name t; unfold maxLen; omega))
  obtain ⟨w1, hw1⟩ : ∃ w1, (w.alloc (.cells #[.slice sa o.sy.length sc, .slice wa o.ws.length wc, .int .i64 o.va] 31)).alloc (.cells #[.string t.name, .slice a t.args.length c] 49) = w1 := ⟨_, rfl⟩
  have HB : Hid (Below w.heap.size w w1) := Lib.hid (by rw [← hw1]; exact ((Below.refl w.heap.size w).alloc (Nat.le_refl _) _).alloc (by simp) _)
  have H3 : Hid (OdB w1 w.heap.size (.slice sa o.sy.length sc) (.slice wa o.ws.length wc) o) := Lib.hid (by rw [← hw1]; exact (thr_new w _ _ _ _ _ rfl).alloc _)
  have H2 : Hid (Two w1 (w.heap.size + 1) (.string t.name) (.slice a t.args.length c)) := Lib.hid (by rw [← hw1]; exact two_new _ _ _ 49 (w.heap.size + 1) (by simp))
  have CR := Lib.hid (fun W (hW : Below w.heap.size w W) => l6Rank_any o t.name W _ _ (hv.kept hW) ho)
  have HNC : Hid (o.nodeC t = (varB t.name || decide (0 ≤ rk o.sy t.name))) := Lib.hid rfl
  clear h hv ht
  obtain ⟨b0, b1, b2, b3⟩ := H3.out
  obtain ⟨d0, d1, d2⟩ := H2.out
  cases hvar : varB t.name with
  | true =>
    rw [hvar] at CV
    have HN0 : Hid (o.nodeC t = true) := Lib.hid (by rw [HNC.out, hvar]; rfl)
    clear hvar
    go_enter Try.func79, Try.ntmps79
    go_wp2_with fail
    refine (CV.out _).mono ?_
    rintro e w2 ⟨rfl, rfl⟩
    clear hw1
    go_wp2
    clear CR CV
    go_loopw [5] (fun i wr => ∃ k : Nat, k ≤ t.args.length ∧ i = .int .i64 k ∧ o.covL (t.args.take k) = true ∧ OdB wr w.heap.size (.slice sa o.sy.length sc) (.slice wa o.ws.length wc) o ∧ Two wr (w.heap.size + 1) (.string t.name) (.slice a t.args.length c) ∧ Below w.heap.size w wr) (fun i _ => t.args.length - (intOf i).toNat)
    case atStart => exact ⟨0, Nat.zero_le _, rfl, rfl, H3.out, H2.out, HB.out⟩
    case round =>
      obtain ⟨k, hk, rfl, hq, h3, h2, hb⟩ := hrel
      have HQ := Lib.hid hq
      have HR3 := Lib.hid h3
      have HR2 := Lib.hid h2
      have HBR := Lib.hid hb
      clear hq b0 b1 b2 b3 d0 d1 d2
      obtain ⟨b0, b1, b2, b3⟩ := h3
      obtain ⟨d0, d1, d2⟩ := h2
      by_cases hlt : k < t.args.length
      · obtain ⟨s, hs⟩ : ∃ s, t.args[k]? = some s := ⟨_, List.getElem?_eq_getElem hlt⟩
        obtain ⟨b, off, rfl, va, c0, c1, hva⟩ := HT.out.get hs
        obtain ⟨pa, ca, rfl⟩ := hva.is_slice
        have c0' := carry_cell c0 hb
        have c1' := carry_cell c1 hb
        have HM := Lib.hid (mem_of_at hs)
        have HN := Lib.hid (o.covL_next hs)
        have CC := Lib.hid (fun W (hW : Below wr.heap.size wr W) => H.out s (mem_of_at hs) W _ _ _ (HV.out.kept (carry_below hb (Nat.le_refl _) hW)) (hva.kept (carry_below hb (Nat.le_refl _) hW)) (HL.out s (mem_of_at hs)))
        have hB0 : Below wr.heap.size wr wr.drew := (Below.refl _ _).drew
        clear hs c0 c1 hva hb
        cases hc : o.cov s with
        | false =>
          rw [hc] at CC
          have HE : Hid (o.cov t = false) := Lib.hid (Od.cov_no HM.out hc)
          clear hc
          go_wp2_with fail
          go_region_held3 (fun w' => w'.cell? ⟨w.heap.size, 0, none⟩ = some (.slice sa o.sy.length sc) ∧ w'.cell? ⟨w.heap.size, 1, none⟩ = some (.slice wa o.ws.length wc) ∧ w'.cell? ⟨w.heap.size, 2, none⟩ = some (.int .i64 o.va) ∧ w'.cell? ⟨w.heap.size + 1, 1, none⟩ = some (.slice (some ⟨b, off, none⟩) t.args.length c) ∧ w'.cell? ⟨b, off + k * 2, none⟩ = some (.string s.name) ∧ w'.cell? ⟨b, off + k * 2 + 1, none⟩ = some (.slice pa s.args.length ca) ∧ Below wr.heap.size wr w') (first | exact ⟨by assumption, by assumption, by assumption, by assumption, by assumption, by assumption, by assumption⟩ | go_keep) (first | (go_at_call 79; refine (CC.out _ hB0).mono ?_; rintro e w3 ⟨rfl, hb⟩; have q0 : w3.cell? ⟨w.heap.size, 0, none⟩ = some (.slice sa o.sy.length sc) := carry_cell' hb (by assumption); have q1 : w3.cell? ⟨w.heap.size, 1, none⟩ = some (.slice wa o.ws.length wc) := carry_cell' hb (by assumption); have q2 : w3.cell? ⟨w.heap.size, 2, none⟩ = some (.int .i64 o.va) := carry_cell' hb (by assumption); have q3 : w3.cell? ⟨w.heap.size + 1, 1, none⟩ = some (.slice (some ⟨b, off, none⟩) t.args.length c) := carry_cell' hb (by assumption); have q4 : w3.cell? ⟨b, off + k * 2, none⟩ = some (.string s.name) := carry_cell' hb (by assumption); have q5 : w3.cell? ⟨b, off + k * 2 + 1, none⟩ = some (.slice pa s.args.length ca) := carry_cell' hb (by assumption); have hB3 := carry_below hB0 (Nat.le_refl _) hb; clear hb))
          have hb := hB3
          clear hB3 hB0 q0 q1 q2 q3 q4 q5
          have HB3 := Lib.hid (carry_below HBR.out (Nat.le_refl _) hb)
          clear hb
          go_wp2
          go_ret
          exact ⟨ret_bool HE.out.symm, HB3.out⟩
        | true =>
          rw [hc] at CC
          have HN2 : Hid (o.covL (t.args.take (k + 1)) = true) := Lib.hid (by rw [HN.out, HQ.out, hc]; rfl)
          clear hc
          go_wp2_with fail
          go_region_held3 (fun w' => w'.cell? ⟨w.heap.size, 0, none⟩ = some (.slice sa o.sy.length sc) ∧ w'.cell? ⟨w.heap.size, 1, none⟩ = some (.slice wa o.ws.length wc) ∧ w'.cell? ⟨w.heap.size, 2, none⟩ = some (.int .i64 o.va) ∧ w'.cell? ⟨w.heap.size + 1, 1, none⟩ = some (.slice (some ⟨b, off, none⟩) t.args.length c) ∧ w'.cell? ⟨b, off + k * 2, none⟩ = some (.string s.name) ∧ w'.cell? ⟨b, off + k * 2 + 1, none⟩ = some (.slice pa s.args.length ca) ∧ Below wr.heap.size wr w') (first | exact ⟨by assumption, by assumption, by assumption, by assumption, by assumption, by assumption, by assumption⟩ | go_keep) (first | (go_at_call 79; refine (CC.out _ hB0).mono ?_; rintro e w3 ⟨rfl, hb⟩; have q0 : w3.cell? ⟨w.heap.size, 0, none⟩ = some (.slice sa o.sy.length sc) := carry_cell' hb (by assumption); have q1 : w3.cell? ⟨w.heap.size, 1, none⟩ = some (.slice wa o.ws.length wc) := carry_cell' hb (by assumption); have q2 : w3.cell? ⟨w.heap.size, 2, none⟩ = some (.int .i64 o.va) := carry_cell' hb (by assumption); have q3 : w3.cell? ⟨w.heap.size + 1, 1, none⟩ = some (.slice (some ⟨b, off, none⟩) t.args.length c) := carry_cell' hb (by assumption); have q4 : w3.cell? ⟨b, off + k * 2, none⟩ = some (.string s.name) := carry_cell' hb (by assumption); have q5 : w3.cell? ⟨b, off + k * 2 + 1, none⟩ = some (.slice pa s.args.length ca) := carry_cell' hb (by assumption); have hB3 := carry_below hB0 (Nat.le_refl _) hb; clear hb))
          have hb := hB3
          clear hB3 hB0 q0 q1 q2 q3 q4 q5
          have HB3 := Lib.hid (carry_below HBR.out (Nat.le_refl _) hb)
          have HR4 := Lib.hid (HR3.out.kept hb)
          have HR5 := Lib.hid (HR2.out.kept hb)
          clear hb
          go_wp2
          go_roundw
          case rel => exact ⟨k + 1, by omega, by go_num, HN2.out, HR4.out, HR5.out, HB3.out⟩
          case measure => simp [intOf]; omega
      · have HE : Hid (o.cov t = true) := Lib.hid (by
          have e := HQ.out
          rw [List.take_of_length_le (by omega)] at e
          rw [o.cov_eq, HN0.out, e]; rfl)
        go_wp2
        go_ret
        exact ⟨ret_bool HE.out.symm, HBR.out⟩
  | false =>
    rw [hvar] at CV
    have HNC2 : Hid (o.nodeC t = decide (0 ≤ rk o.sy t.name)) := Lib.hid (by rw [HNC.out, hvar]; rfl)
    clear hvar
    rcases rk_ways o.sy t.name with ⟨r1, r2⟩ | ⟨r, r1, r2, r3⟩
    · rw [r2] at CR HNC2
      have HE : Hid (o.cov t = false) := Lib.hid (by rw [o.cov_eq, HNC2.out]; rfl)
      clear r1 r2
      go_enter Try.func79, Try.ntmps79
      go_wp2_with fail
      refine (CV.out _).mono ?_
      rintro e w2 ⟨rfl, rfl⟩
      clear hw1
      go_wp2_with fail
      refine (CR.out _ HB.out).mono ?_
      rintro e w2 ⟨rfl, hb⟩
      have HB2 := Lib.hid (carry_below HB.out (Nat.le_refl _) hb)
      clear hb
      go_wp2
      go_ret
      exact ⟨ret_bool HE.out.symm, HB2.out⟩
    · rw [r1] at CR HNC2
      have HN0 : Hid (o.nodeC t = true) := Lib.hid (by rw [HNC2.out]; exact decide_eq_true (by omega))
      clear r1 r3
      go_enter Try.func79, Try.ntmps79
      go_wp2_with fail
      refine (CV.out _).mono ?_
      rintro e w2 ⟨rfl, rfl⟩
      clear hw1
      go_wp2_with fail
      refine (CR.out _ HB.out).mono ?_
      rintro e w2 ⟨rfl, hb⟩
      replace HB := Lib.hid (carry_below HB.out (Nat.le_refl _) hb)
      replace H3 := Lib.hid (H3.out.kept hb)
      replace H2 := Lib.hid (H2.out.kept hb)
      clear hb b0 b1 b2 b3 d0 d1 d2
      obtain ⟨b0, b1, b2, b3⟩ := H3.out
      obtain ⟨d0, d1, d2⟩ := H2.out
      go_wp2
      clear CR CV
      go_loopw [5] (fun i wr => ∃ k : Nat, k ≤ t.args.length ∧ i = .int .i64 k ∧ o.covL (t.args.take k) = true ∧ OdB wr w.heap.size (.slice sa o.sy.length sc) (.slice wa o.ws.length wc) o ∧ Two wr (w.heap.size + 1) (.string t.name) (.slice a t.args.length c) ∧ Below w.heap.size w wr) (fun i _ => t.args.length - (intOf i).toNat)
      case atStart => exact ⟨0, Nat.zero_le _, rfl, rfl, H3.out, H2.out, HB.out⟩
      case round =>
        obtain ⟨k, hk, rfl, hq, h3, h2, hb⟩ := hrel
        have HQ := Lib.hid hq
        have HR3 := Lib.hid h3
        have HR2 := Lib.hid h2
        have HBR := Lib.hid hb
        clear hq b0 b1 b2 b3 d0 d1 d2
        obtain ⟨b0, b1, b2, b3⟩ := h3
        obtain ⟨d0, d1, d2⟩ := h2
        by_cases hlt : k < t.args.length
        · obtain ⟨s, hs⟩ : ∃ s, t.args[k]? = some s := ⟨_, List.getElem?_eq_getElem hlt⟩
          obtain ⟨b, off, rfl, va, c0, c1, hva⟩ := HT.out.get hs
          obtain ⟨pa, ca, rfl⟩ := hva.is_slice
          have c0' := carry_cell c0 hb
          have c1' := carry_cell c1 hb
          have HM := Lib.hid (mem_of_at hs)
          have HN := Lib.hid (o.covL_next hs)
          have CC := Lib.hid (fun W (hW : Below wr.heap.size wr W) => H.out s (mem_of_at hs) W _ _ _ (HV.out.kept (carry_below hb (Nat.le_refl _) hW)) (hva.kept (carry_below hb (Nat.le_refl _) hW)) (HL.out s (mem_of_at hs)))
          have hB0 : Below wr.heap.size wr wr.drew := (Below.refl _ _).drew
          clear hs c0 c1 hva hb
          cases hc : o.cov s with
          | false =>
            rw [hc] at CC
            have HE : Hid (o.cov t = false) := Lib.hid (Od.cov_no HM.out hc)
            clear hc
            go_wp2_with fail
            go_region_held3 (fun w' => w'.cell? ⟨w.heap.size, 0, none⟩ = some (.slice sa o.sy.length sc) ∧ w'.cell? ⟨w.heap.size, 1, none⟩ = some (.slice wa o.ws.length wc) ∧ w'.cell? ⟨w.heap.size, 2, none⟩ = some (.int .i64 o.va) ∧ w'.cell? ⟨w.heap.size + 1, 1, none⟩ = some (.slice (some ⟨b, off, none⟩) t.args.length c) ∧ w'.cell? ⟨b, off + k * 2, none⟩ = some (.string s.name) ∧ w'.cell? ⟨b, off + k * 2 + 1, none⟩ = some (.slice pa s.args.length ca) ∧ Below wr.heap.size wr w') (first | exact ⟨by assumption, by assumption, by assumption, by assumption, by assumption, by assumption, by assumption⟩ | go_keep) (first | (go_at_call 79; refine (CC.out _ hB0).mono ?_; rintro e w3 ⟨rfl, hb⟩; have q0 : w3.cell? ⟨w.heap.size, 0, none⟩ = some (.slice sa o.sy.length sc) := carry_cell' hb (by assumption); have q1 : w3.cell? ⟨w.heap.size, 1, none⟩ = some (.slice wa o.ws.length wc) := carry_cell' hb (by assumption); have q2 : w3.cell? ⟨w.heap.size, 2, none⟩ = some (.int .i64 o.va) := carry_cell' hb (by assumption); have q3 : w3.cell? ⟨w.heap.size + 1, 1, none⟩ = some (.slice (some ⟨b, off, none⟩) t.args.length c) := carry_cell' hb (by assumption); have q4 : w3.cell? ⟨b, off + k * 2, none⟩ = some (.string s.name) := carry_cell' hb (by assumption); have q5 : w3.cell? ⟨b, off + k * 2 + 1, none⟩ = some (.slice pa s.args.length ca) := carry_cell' hb (by assumption); have hB3 := carry_below hB0 (Nat.le_refl _) hb; clear hb))
            have hb := hB3
            clear hB3 hB0 q0 q1 q2 q3 q4 q5
            have HB3 := Lib.hid (carry_below HBR.out (Nat.le_refl _) hb)
            clear hb
            go_wp2
            go_ret
            exact ⟨ret_bool HE.out.symm, HB3.out⟩
          | true =>
            rw [hc] at CC
            have HN2 : Hid (o.covL (t.args.take (k + 1)) = true) := Lib.hid (by rw [HN.out, HQ.out, hc]; rfl)
            clear hc
            go_wp2_with fail
            go_region_held3 (fun w' => w'.cell? ⟨w.heap.size, 0, none⟩ = some (.slice sa o.sy.length sc) ∧ w'.cell? ⟨w.heap.size, 1, none⟩ = some (.slice wa o.ws.length wc) ∧ w'.cell? ⟨w.heap.size, 2, none⟩ = some (.int .i64 o.va) ∧ w'.cell? ⟨w.heap.size + 1, 1, none⟩ = some (.slice (some ⟨b, off, none⟩) t.args.length c) ∧ w'.cell? ⟨b, off + k * 2, none⟩ = some (.string s.name) ∧ w'.cell? ⟨b, off + k * 2 + 1, none⟩ = some (.slice pa s.args.length ca) ∧ Below wr.heap.size wr w') (first | exact ⟨by assumption, by assumption, by assumption, by assumption, by assumption, by assumption, by assumption⟩ | go_keep) (first | (go_at_call 79; refine (CC.out _ hB0).mono ?_; rintro e w3 ⟨rfl, hb⟩; have q0 : w3.cell? ⟨w.heap.size, 0, none⟩ = some (.slice sa o.sy.length sc) := carry_cell' hb (by assumption); have q1 : w3.cell? ⟨w.heap.size, 1, none⟩ = some (.slice wa o.ws.length wc) := carry_cell' hb (by assumption); have q2 : w3.cell? ⟨w.heap.size, 2, none⟩ = some (.int .i64 o.va) := carry_cell' hb (by assumption); have q3 : w3.cell? ⟨w.heap.size + 1, 1, none⟩ = some (.slice (some ⟨b, off, none⟩) t.args.length c) := carry_cell' hb (by assumption); have q4 : w3.cell? ⟨b, off + k * 2, none⟩ = some (.string s.name) := carry_cell' hb (by assumption); have q5 : w3.cell? ⟨b, off + k * 2 + 1, none⟩ = some (.slice pa s.args.length ca) := carry_cell' hb (by assumption); have hB3 := carry_below hB0 (Nat.le_refl _) hb; clear hb))
            have hb := hB3
            clear hB3 hB0 q0 q1 q2 q3 q4 q5
            have HB3 := Lib.hid (carry_below HBR.out (Nat.le_refl _) hb)
            have HR4 := Lib.hid (HR3.out.kept hb)
            have HR5 := Lib.hid (HR2.out.kept hb)
            clear hb
            go_wp2
            go_roundw
            case rel => exact ⟨k + 1, by omega, by go_num, HN2.out, HR4.out, HR5.out, HB3.out⟩
            case measure => simp [intOf]; omega
        · have HE : Hid (o.cov t = true) := Lib.hid (by
            have e := HQ.out
            rw [List.take_of_length_le (by omega)] at e
            rw [o.cov_eq, HN0.out, e]; rfl)
          go_wp2
          go_ret
          exact ⟨ret_bool HE.out.symm, HBR.out⟩

theorem l6Covers_any (o : Od) (ho : o.wt ≤ 1048576) (t : Tm) : CovS o t := Tm.ind (P := CovS o) (covS_of o ho) t

set_option maxHeartbeats 2000000 in
theorem wtS_of (o : Od) (ho : o.wt ≤ 1048576) (hf : o.Fine) (t : Tm) (h : ∀ s ∈ t.args, WtS o s) : WtS o t := by
  intro w sv wv va hv ht hw hz hcov
  obtain ⟨sa, sc, wa, wc, rfl, rfl⟩ := hv.open
  obtain ⟨a, c, rfl⟩ := ht.is_slice
  have HV := Lib.hid hv
  have HT := Lib.hid ht
  have H := Lib.hid h
  have HL := Lib.hid (fun (s : Tm) (hs : s ∈ t.args) => Nat.le_trans (Tm.wt_arg hs) hw)
  have hlen : t.args.length ≤ 1048576 := Nat.le_trans (Tm.wt_len t) hw
  have CV := Lib.hid (fun W => l2Var_any t.name W (by have := Tm.wt_name t; unfold maxLen; omega))
  obtain ⟨w1, hw1⟩ : ∃ w1, (w.alloc (.cells #[.slice sa o.sy.length sc, .slice wa o.ws.length wc, .int .i64 o.va] 31)).alloc (.cells #[.string t.name, .slice a t.args.length c] 49) = w1 := ⟨_, rfl⟩
  have HB : Hid (Below w.heap.size w w1) := Lib.hid (by rw [← hw1]; exact ((Below.refl w.heap.size w).alloc (Nat.le_refl _) _).alloc (by simp) _)
  have H3 : Hid (OdB w1 w.heap.size (.slice sa o.sy.length sc) (.slice wa o.ws.length wc) o) := Lib.hid (by rw [← hw1]; exact (thr_new w _ _ _ _ _ rfl).alloc _)
  have H2 : Hid (Two w1 (w.heap.size + 1) (.string t.name) (.slice a t.args.length c)) := Lib.hid (by rw [← hw1]; exact two_new _ _ _ 49 (w.heap.size + 1) (by simp))
  have CR := Lib.hid (fun W (hW : Below w.heap.size w W) => l6Rank_any o t.name W _ _ (hv.kept hW) ho)
  have HF := Lib.hid hf
  have HZ := Lib.hid hz
  have HC := Lib.hid hcov
  have HSZ : Hid ((Tm.ndsL t.args).length ≤ 30) := Lib.hid (by have := Tm.nds_len t; rw [t.nds_eq] at this; simp at this; omega)
  have HX : Hid (varB t.name = true ∨ 0 ≤ rk o.sy t.name) := Lib.hid (by
    have e := hcov
    rw [o.cov_eq, Bool.and_eq_true] at e
    have e := e.1
    unfold Od.nodeC at e
    rw [Bool.or_eq_true, decide_eq_true_iff] at e
    exact e)
  clear h hv ht
  obtain ⟨b0, b1, b2, b3⟩ := H3.out
  obtain ⟨d0, d1, d2⟩ := H2.out
  clear hf hz hcov
  cases hvar : varB t.name with
  | true =>
    rw [hvar] at CV
    have HN0 : Hid (o.wN t = o.va) := Lib.hid (by unfold Od.wN; rw [hvar]; rfl)
    clear hvar
    go_enter Try.func81, Try.ntmps81
    go_wp2_with fail
    refine (CV.out _).mono ?_
    rintro e w2 ⟨rfl, rfl⟩
    clear hw1
    go_wp2
    clear CR CV
    go_loopw [5, 6] (fun n i wr => ∃ (k : Nat) (q : Int), k ≤ t.args.length ∧ i = .int .i64 k ∧ n = .int .i64 q ∧ q = o.wN t + o.wNs (Tm.ndsL (t.args.take k)) ∧ OdB wr w.heap.size (.slice sa o.sy.length sc) (.slice wa o.ws.length wc) o ∧ Two wr (w.heap.size + 1) (.string t.name) (.slice a t.args.length c) ∧ Below w.heap.size w wr) (fun _ i _ => t.args.length - (intOf i).toNat)
    case atStart => exact ⟨0, _, Nat.zero_le _, rfl, rfl, by rw [HN0.out]; simp [Tm.ndsL, Od.wNs], H3.out, H2.out, HB.out⟩
    case round =>
      obtain ⟨k, q, hk, rfl, rfl, hq, h3, h2, hb⟩ := hrel
      have HQ := Lib.hid hq
      have HR3 := Lib.hid h3
      have HR2 := Lib.hid h2
      have HBR := Lib.hid hb
      have hq1 : 0 ≤ q ∧ q ≤ 3100 := by
        have h1 := HF.out.wN_le t
        have h2 := HF.out.wNs_le (Tm.ndsL (t.args.take k))
        have h3 := Tm.ndsL_len t.args k
        have h4 := HSZ.out
        omega
      clear hq b0 b1 b2 b3 d0 d1 d2
      obtain ⟨b0, b1, b2, b3⟩ := h3
      obtain ⟨d0, d1, d2⟩ := h2
      by_cases hlt : k < t.args.length
      · obtain ⟨s, hs⟩ : ∃ s, t.args[k]? = some s := ⟨_, List.getElem?_eq_getElem hlt⟩
        obtain ⟨b, off, rfl, va, c0, c1, hva⟩ := HT.out.get hs
        obtain ⟨pa, ca, rfl⟩ := hva.is_slice
        have c0' := carry_cell c0 hb
        have c1' := carry_cell c1 hb
        have HN := Lib.hid (o.wNs_next hs)
        have hss : s.sz ≤ 30 := by have := sumL_mem (f := Tm.sz) (mem_of_at hs); have := t.sz_eq; have := HZ.out; omega
        have hws := HF.out.wT_le s
        have CC := Lib.hid (fun W (hW : Below wr.heap.size wr W) => H.out s (mem_of_at hs) W _ _ _ (HV.out.kept (carry_below hb (Nat.le_refl _) hW)) (hva.kept (carry_below hb (Nat.le_refl _) hW)) (HL.out s (mem_of_at hs)) hss (Od.cov_arg HC.out (mem_of_at hs)))
        have hB0 : Below wr.heap.size wr wr.drew := (Below.refl _ _).drew
        clear hs c0 c1 hva hb
        go_wp2_with fail
        go_region_held3 (fun w' => w'.cell? ⟨w.heap.size, 0, none⟩ = some (.slice sa o.sy.length sc) ∧ w'.cell? ⟨w.heap.size, 1, none⟩ = some (.slice wa o.ws.length wc) ∧ w'.cell? ⟨w.heap.size, 2, none⟩ = some (.int .i64 o.va) ∧ w'.cell? ⟨w.heap.size + 1, 1, none⟩ = some (.slice (some ⟨b, off, none⟩) t.args.length c) ∧ w'.cell? ⟨b, off + k * 2, none⟩ = some (.string s.name) ∧ w'.cell? ⟨b, off + k * 2 + 1, none⟩ = some (.slice pa s.args.length ca) ∧ Below wr.heap.size wr w') (first | exact ⟨by assumption, by assumption, by assumption, by assumption, by assumption, by assumption, by assumption⟩ | go_keep) (first | (go_at_call 81; refine (CC.out _ hB0).mono ?_; rintro e w3 ⟨rfl, hb⟩; have q0 : w3.cell? ⟨w.heap.size, 0, none⟩ = some (.slice sa o.sy.length sc) := carry_cell' hb (by assumption); have q1 : w3.cell? ⟨w.heap.size, 1, none⟩ = some (.slice wa o.ws.length wc) := carry_cell' hb (by assumption); have q2 : w3.cell? ⟨w.heap.size, 2, none⟩ = some (.int .i64 o.va) := carry_cell' hb (by assumption); have q3 : w3.cell? ⟨w.heap.size + 1, 1, none⟩ = some (.slice (some ⟨b, off, none⟩) t.args.length c) := carry_cell' hb (by assumption); have q4 : w3.cell? ⟨b, off + k * 2, none⟩ = some (.string s.name) := carry_cell' hb (by assumption); have q5 : w3.cell? ⟨b, off + k * 2 + 1, none⟩ = some (.slice pa s.args.length ca) := carry_cell' hb (by assumption); have hB3 := carry_below hB0 (Nat.le_refl _) hb; clear hb))
        have hb := hB3
        clear hB3 hB0 q0 q1 q2 q3 q4 q5
        have HB3 := Lib.hid (carry_below HBR.out (Nat.le_refl _) hb)
        have HR4 := Lib.hid (HR3.out.kept hb)
        have HR5 := Lib.hid (HR2.out.kept hb)
        clear hb
        go_wp2
        go_roundw
        case rel => exact ⟨k + 1, q + o.wT s, by omega, by go_num, by rw [IntWalk.i64_in _ (by omega)], by rw [HN.out, HQ.out]; omega, HR4.out, HR5.out, HB3.out⟩
        case measure => simp [intOf]; omega
      · have HE : Hid (o.wT t = q) := Lib.hid (by
          have e := HQ.out
          rw [List.take_of_length_le (by omega)] at e
          rw [o.wT_eq, e])
        go_wp2
        go_ret
        exact ⟨ret_int HE.out.symm, HBR.out⟩
  | false =>
    rw [hvar] at CV
    have HR0 : Hid (0 ≤ rk o.sy t.name) := Lib.hid (by rcases HX.out with h | h; rw [hvar] at h; cases h; exact h)
    rcases rk_ways o.sy t.name with ⟨r1, r2⟩ | ⟨r, r1, r2, r3⟩
    · exact absurd HR0.out (by rw [r2]; omega)
    · have hwr : r < o.ws.length := by have := HF.out.wn; omega
      obtain ⟨x, hx⟩ : ∃ x, o.ws[r]? = some x := ⟨_, List.getElem?_eq_getElem hwr⟩
      have HN0 : Hid (o.wN t = x) := Lib.hid (by
        unfold Od.wN
        rw [hvar, if_neg (by simp), if_pos HR0.out, r1, Int.toNat_natCast, getD_atI hx])
      have HXX := Lib.hid hx
      rw [r1] at CR
      obtain ⟨xb, xo, rfl, hxc⟩ := (IntG.of HV.out.is).below HB.out r x HXX.out
      have CR2 := Lib.hid (fun W (hW : Below w1.heap.size w1 W) => CR.out W (carry_below HB.out (Nat.le_refl _) hW))
      clear r1 r3 hvar hx
      go_enter Try.func81, Try.ntmps81
      go_wp2_with fail
      refine (CV.out _).mono ?_
      rintro e w2 ⟨rfl, rfl⟩
      clear hw1
      go_wp2_with fail
      have hB0 : Below w1.heap.size w1 w1.drew := (Below.refl _ _).drew
      go_region_held3 (fun w' => w'.cell? ⟨w.heap.size, 0, none⟩ = some (.slice sa o.sy.length sc) ∧ w'.cell? ⟨w.heap.size, 1, none⟩ = some (.slice (some ⟨xb, xo, none⟩) o.ws.length wc) ∧ w'.cell? ⟨w.heap.size, 2, none⟩ = some (.int .i64 o.va) ∧ w'.cell? ⟨w.heap.size + 1, 0, none⟩ = some (.string t.name) ∧ w'.cell? ⟨xb, xo + r, none⟩ = some (.int .i64 x) ∧ Below w1.heap.size w1 w') (first | exact ⟨by assumption, by assumption, by assumption, by assumption, by assumption, by assumption⟩ | go_keep) (first | (go_at_call 127; refine (CR2.out _ hB0).mono ?_; rintro e w3 ⟨rfl, hb⟩; have q0 : w3.cell? ⟨w.heap.size, 0, none⟩ = some (.slice sa o.sy.length sc) := carry_cell' hb (by assumption); have q1 : w3.cell? ⟨w.heap.size, 1, none⟩ = some (.slice (some ⟨xb, xo, none⟩) o.ws.length wc) := carry_cell' hb (by assumption); have q2 : w3.cell? ⟨w.heap.size, 2, none⟩ = some (.int .i64 o.va) := carry_cell' hb (by assumption); have q3 : w3.cell? ⟨w.heap.size + 1, 0, none⟩ = some (.string t.name) := carry_cell' hb (by assumption); have q4 : w3.cell? ⟨xb, xo + r, none⟩ = some (.int .i64 x) := carry_cell' hb (by assumption); have hB3 := carry_below hB0 (Nat.le_refl _) hb; clear hb))
      have hb := hB3
      clear hB3 hB0 q0 q1 q2 q3 q4
      replace HB := Lib.hid (carry_below HB.out (Nat.le_refl _) hb)
      replace H3 := Lib.hid (H3.out.kept hb)
      replace H2 := Lib.hid (H2.out.kept hb)
      clear hb hxc b0 b1 b2 b3 d0 d1 d2
      obtain ⟨b0, b1, b2, b3⟩ := H3.out
      obtain ⟨d0, d1, d2⟩ := H2.out
      go_wp2
      clear CR CV
      go_loopw [5, 6] (fun n i wr => ∃ (k : Nat) (q : Int), k ≤ t.args.length ∧ i = .int .i64 k ∧ n = .int .i64 q ∧ q = o.wN t + o.wNs (Tm.ndsL (t.args.take k)) ∧ OdB wr w.heap.size (.slice sa o.sy.length sc) (.slice (some ⟨xb, xo, none⟩) o.ws.length wc) o ∧ Two wr (w.heap.size + 1) (.string t.name) (.slice a t.args.length c) ∧ Below w.heap.size w wr) (fun _ i _ => t.args.length - (intOf i).toNat)
      case atStart => exact ⟨0, _, Nat.zero_le _, rfl, rfl, by rw [HN0.out]; simp [Tm.ndsL, Od.wNs], H3.out, H2.out, HB.out⟩
      case round =>
        obtain ⟨k, q, hk, rfl, rfl, hq, h3, h2, hb⟩ := hrel
        have HQ := Lib.hid hq
        have HR3 := Lib.hid h3
        have HR2 := Lib.hid h2
        have HBR := Lib.hid hb
        have hq1 : 0 ≤ q ∧ q ≤ 3100 := by
          have h1 := HF.out.wN_le t
          have h2 := HF.out.wNs_le (Tm.ndsL (t.args.take k))
          have h3 := Tm.ndsL_len t.args k
          have h4 := HSZ.out
          omega
        clear hq b0 b1 b2 b3 d0 d1 d2
        obtain ⟨b0, b1, b2, b3⟩ := h3
        obtain ⟨d0, d1, d2⟩ := h2
        by_cases hlt : k < t.args.length
        · obtain ⟨s, hs⟩ : ∃ s, t.args[k]? = some s := ⟨_, List.getElem?_eq_getElem hlt⟩
          obtain ⟨b, off, rfl, va, c0, c1, hva⟩ := HT.out.get hs
          obtain ⟨pa, ca, rfl⟩ := hva.is_slice
          have c0' := carry_cell c0 hb
          have c1' := carry_cell c1 hb
          have HN := Lib.hid (o.wNs_next hs)
          have hss : s.sz ≤ 30 := by have := sumL_mem (f := Tm.sz) (mem_of_at hs); have := t.sz_eq; have := HZ.out; omega
          have hws := HF.out.wT_le s
          have CC := Lib.hid (fun W (hW : Below wr.heap.size wr W) => H.out s (mem_of_at hs) W _ _ _ (HV.out.kept (carry_below hb (Nat.le_refl _) hW)) (hva.kept (carry_below hb (Nat.le_refl _) hW)) (HL.out s (mem_of_at hs)) hss (Od.cov_arg HC.out (mem_of_at hs)))
          have hB0 : Below wr.heap.size wr wr.drew := (Below.refl _ _).drew
          clear hs c0 c1 hva hb
          go_wp2_with fail
          go_region_held3 (fun w' => w'.cell? ⟨w.heap.size, 0, none⟩ = some (.slice sa o.sy.length sc) ∧ w'.cell? ⟨w.heap.size, 1, none⟩ = some (.slice (some ⟨xb, xo, none⟩) o.ws.length wc) ∧ w'.cell? ⟨w.heap.size, 2, none⟩ = some (.int .i64 o.va) ∧ w'.cell? ⟨w.heap.size + 1, 1, none⟩ = some (.slice (some ⟨b, off, none⟩) t.args.length c) ∧ w'.cell? ⟨b, off + k * 2, none⟩ = some (.string s.name) ∧ w'.cell? ⟨b, off + k * 2 + 1, none⟩ = some (.slice pa s.args.length ca) ∧ Below wr.heap.size wr w') (first | exact ⟨by assumption, by assumption, by assumption, by assumption, by assumption, by assumption, by assumption⟩ | go_keep) (first | (go_at_call 81; refine (CC.out _ hB0).mono ?_; rintro e w3 ⟨rfl, hb⟩; have q0 : w3.cell? ⟨w.heap.size, 0, none⟩ = some (.slice sa o.sy.length sc) := carry_cell' hb (by assumption); have q1 : w3.cell? ⟨w.heap.size, 1, none⟩ = some (.slice (some ⟨xb, xo, none⟩) o.ws.length wc) := carry_cell' hb (by assumption); have q2 : w3.cell? ⟨w.heap.size, 2, none⟩ = some (.int .i64 o.va) := carry_cell' hb (by assumption); have q3 : w3.cell? ⟨w.heap.size + 1, 1, none⟩ = some (.slice (some ⟨b, off, none⟩) t.args.length c) := carry_cell' hb (by assumption); have q4 : w3.cell? ⟨b, off + k * 2, none⟩ = some (.string s.name) := carry_cell' hb (by assumption); have q5 : w3.cell? ⟨b, off + k * 2 + 1, none⟩ = some (.slice pa s.args.length ca) := carry_cell' hb (by assumption); have hB3 := carry_below hB0 (Nat.le_refl _) hb; clear hb))
          have hb := hB3
          clear hB3 hB0 q0 q1 q2 q3 q4 q5
          have HB3 := Lib.hid (carry_below HBR.out (Nat.le_refl _) hb)
          have HR4 := Lib.hid (HR3.out.kept hb)
          have HR5 := Lib.hid (HR2.out.kept hb)
          clear hb
          go_wp2
          go_roundw
          case rel => exact ⟨k + 1, q + o.wT s, by omega, by go_num, by rw [IntWalk.i64_in _ (by omega)], by rw [HN.out, HQ.out]; omega, HR4.out, HR5.out, HB3.out⟩
          case measure => simp [intOf]; omega
        · have HE : Hid (o.wT t = q) := Lib.hid (by
            have e := HQ.out
            rw [List.take_of_length_le (by omega)] at e
            rw [o.wT_eq, e])
          go_wp2
          go_ret
          exact ⟨ret_int HE.out.symm, HBR.out⟩

theorem l6Weight_any (o : Od) (ho : o.wt ≤ 1048576) (hf : o.Fine) (t : Tm) : WtS o t := Tm.ind (P := WtS o) (wtS_of o ho hf) t

/-- l6Term: valid and covered. -/
theorem l6Term_any (o : Od) (ho : o.wt ≤ 1048576) (t : Tm) (w : World) (sv wv va : Value) (hv : OdV w sv wv o) (ht : TmS w va t.args) (hw : t.wt ≤ 1048576) :
    Calls Try.prog 94 #[.agg #[sv, wv, .int .i64 o.va], .agg #[.string t.name, va]] w (Ans (.bool (goodB t && o.cov t)) w) := by
  obtain ⟨sa, sc, wa, wc, rfl, rfl⟩ := hv.open
  obtain ⟨a, c, rfl⟩ := ht.is_slice
  obtain ⟨w1, hw1⟩ : ∃ w1, (w.alloc (.cells #[.slice sa o.sy.length sc, .slice wa o.ws.length wc, .int .i64 o.va] 31)).alloc (.cells #[.string t.name, .slice a t.args.length c] 49) = w1 := ⟨_, rfl⟩
  have HB : Hid (Below w.heap.size w w1) := Lib.hid (by rw [← hw1]; exact ((Below.refl w.heap.size w).alloc (Nat.le_refl _) _).alloc (by simp) _)
  have H3 : Hid (OdB w1 w.heap.size (.slice sa o.sy.length sc) (.slice wa o.ws.length wc) o) := Lib.hid (by rw [← hw1]; exact (thr_new w _ _ _ _ _ rfl).alloc _)
  have H2 : Hid (Two w1 (w.heap.size + 1) (.string t.name) (.slice a t.args.length c)) := Lib.hid (by rw [← hw1]; exact two_new _ _ _ 49 (w.heap.size + 1) (by simp))
  have CG := Lib.hid (fun W (hW : Below w.heap.size w W) => l2Good_any t W _ (ht.kept hW) hw)
  have CC := Lib.hid (fun W (hW : Below w.heap.size w W) => l6Covers_any o ho t W _ _ _ (hv.kept hW) (ht.kept hW) hw)
  clear hv ht
  obtain ⟨d0, d1, d2⟩ := H2.out
  go_enter Try.func94, Try.ntmps94
  go_wp2_with fail
  refine (CG.out _ HB.out).mono ?_
  rintro e w2 ⟨rfl, hb⟩
  clear hw1
  have HB2 := Lib.hid (carry_below HB.out (Nat.le_refl _) hb)
  have H32 := Lib.hid (H3.out.kept hb)
  have H22 := Lib.hid (H2.out.kept hb)
  clear hb d0 d1 d2
  obtain ⟨b0, b1, b2, b3⟩ := H32.out
  obtain ⟨d0, d1, d2⟩ := H22.out
  cases hg : goodB t with
  | false =>
    have HGF : Hid ((goodB t && o.cov t) = false) := Lib.hid (by rw [hg]; rfl)
    clear hg
    go_wp2
    go_ret
    exact ⟨ret_bool HGF.out.symm, HB2.out⟩
  | true =>
    have HGF : Hid ((goodB t && o.cov t) = o.cov t) := Lib.hid (by rw [hg]; rfl)
    clear hg
    go_wp2_with fail
    refine (CC.out _ HB2.out).mono ?_
    rintro e w3 ⟨rfl, hb⟩
    have HB3 := Lib.hid (carry_below HB2.out (Nat.le_refl _) hb)
    clear hb
    go_wp2
    go_ret
    exact ⟨ret_bool HGF.out.symm, HB3.out⟩

end Go.Proofs.Ytohalpafmcobpaa
