/- The laws' helper that compares two terms: a contract, for terms whose lists have at most 1048576 elements. -/
import Derived.Test.YtppmiedhoimgmaaEq
namespace Go.Proofs.Ytppmiedhoimgmaa
open Go.RowKit
set_option linter.unusedVariables false

def VtT (x : Tm) : Prop := ∀ (y : Tm) (w : World) (va vb : Value), TmS w va x.args → TmS w vb y.args → x.lim 1048576 → y.lim 1048576 →
  Calls Try.prog 18 #[.agg #[.string x.name, va], .agg #[.string y.name, vb]] w (EqEnd (eqT x y) w)

set_option maxRecDepth 100000 in
set_option maxHeartbeats 2000000 in
theorem vTerms_of (x : Tm) (h : ∀ t ∈ x.args, VtT t) : VtT x := by
  intro y w va vb ha hb hl hy
  have H := Lib.hid h
  obtain ⟨_, hl1, hl2⟩ := Tm.lim_eq.1 hl
  have HL := Lib.hid hl2
  obtain ⟨_, hr1, hr2⟩ := Tm.lim_eq.1 hy
  have HLR := Lib.hid hr2
  obtain ⟨pa, ca, rfl⟩ := ha.is_slice
  obtain ⟨pb, cb, rfl⟩ := hb.is_slice
  have HA := Lib.hid ha
  have HB := Lib.hid hb
  have HTX := Lib.hid ((two_new w (.string x.name) (.slice pa x.args.length ca) 26 _ rfl).alloc (.cells #[.string y.name, .slice pb y.args.length cb] 26))
  have HTY := Lib.hid (two_new (w.alloc (.cells #[.string x.name, .slice pa x.args.length ca] 26)) (.string y.name) (.slice pb y.args.length cb) 26 (w.heap.size + 1) (by simp))
  have HB0 : Hid (Below w.heap.size w ((w.alloc (.cells #[.string x.name, .slice pa x.args.length ca] 26)).alloc (.cells #[.string y.name, .slice pb y.args.length cb] 26))) := Lib.hid (((Below.refl w.heap.size w).alloc (Nat.le_refl _) _).alloc (by simp) _)
  obtain ⟨x0, x1, x2⟩ := HTX.out
  obtain ⟨y0, y1, y2⟩ := HTY.out
  clear ha hb h hl hl2 hy hr2
  by_cases hn : x.name = y.name
  · by_cases hlen : x.args.length = y.args.length
    · have HE := Lib.hid (eqT_args hn)
      have q1 := str_eq hn
      have q2 : (x.name.toList != y.name.toList) = false := by rw [bne_eq_false_iff_eq, hn]
      have q3 : ((x.args.length : Int) != (y.args.length : Int)) = false := by rw [bne_eq_false_iff_eq]; omega
      have q4 : ((x.args.length : Int) == (y.args.length : Int)) = true := by rw [beq_iff_eq]; omega
      have HN := Lib.hid hlen
      clear hn hlen
      go_enter Try.func18, Try.ntmps18
      go_wp2
      go_loopw [5] (fun i wr => ∃ k : Nat, k ≤ x.args.length ∧ i = .int .i64 k ∧ Agree x.args y.args k ∧ Two wr w.heap.size (.string x.name) (.slice pa x.args.length ca) ∧ Two wr (w.heap.size + 1) (.string y.name) (.slice pb y.args.length cb) ∧ Below w.heap.size w wr) (fun i _ => x.args.length - (intOf i).toNat)
      case atStart => exact ⟨0, Nat.zero_le _, rfl, fun j hj => absurd hj (Nat.not_lt_zero _), HTX.out, HTY.out, HB0.out⟩
      case round =>
        obtain ⟨k, hk, rfl, hag, htx, hty, hbel⟩ := hrel
        have HG := Lib.hid hag
        have HBE := Lib.hid hbel
        have HX2 := Lib.hid htx
        have HY2 := Lib.hid hty
        clear hag hbel htx hty x0 x1 x2 y0 y1 y2
        obtain ⟨x0, x1, x2⟩ := HX2.out.drew
        obtain ⟨y0, y1, y2⟩ := HY2.out.drew
        by_cases hlt : k < x.args.length
        · have hltr : k < y.args.length := by have := HN.out; omega
          obtain ⟨s, hs⟩ : ∃ t, x.args[k]? = some t := ⟨_, List.getElem?_eq_getElem hlt⟩
          obtain ⟨u, hu⟩ : ∃ t, y.args[k]? = some t := ⟨_, List.getElem?_eq_getElem hltr⟩
          obtain ⟨b, off, rfl, v1, a0, a1, a2⟩ := HA.out.get hs
          obtain ⟨b', off', rfl, v2, b0, b1, b2⟩ := HB.out.get hu
          have a0' := carry_cell a0 HBE.out
          have a1' := carry_cell a1 HBE.out
          have b0' := carry_cell b0 HBE.out
          have b1' := carry_cell b1 HBE.out
          have HV1 := Lib.hid (a2.kept HBE.out)
          have HV2 := Lib.hid (b2.kept HBE.out)
          have HS := Lib.hid hs
          have HU := Lib.hid hu
          clear hs hu a0 a1 b0 b1 a2 b2 x0 x1 x2 y0 y1 y2
          obtain ⟨x0, x1, x2⟩ := HX2.out
          obtain ⟨y0, y1, y2⟩ := HY2.out
          have C : Hid (∀ W : World, Below wr.heap.size wr W → Calls Try.prog 18 #[.agg #[.string s.name, v1], .agg #[.string u.name, v2]] W (EqEnd (eqT s u) W)) := Lib.hid (fun W hW =>
            H.out s (mem_of_at HS.out) u W v1 v2 (HV1.out.kept hW) (HV2.out.kept hW) (HL.out s (mem_of_at HS.out)) (HLR.out u (mem_of_at HU.out)))
          have hB0 : Below wr.heap.size wr wr.drew := (Below.refl _ _).drew
          go_wp2_with fail
          go_region_held3 (fun w' => w'.cell? ⟨w.heap.size, 1, none⟩ = some (.slice (some ⟨b, off, none⟩) x.args.length ca) ∧ w'.cell? ⟨w.heap.size + 1, 1, none⟩ = some (.slice (some ⟨b', off', none⟩) y.args.length cb) ∧ w'.cell? ⟨b, off + k * 2, none⟩ = some (.string s.name) ∧ w'.cell? ⟨b, off + k * 2 + 1, none⟩ = some v1 ∧ w'.cell? ⟨b', off' + k * 2, none⟩ = some (.string u.name) ∧ w'.cell? ⟨b', off' + k * 2 + 1, none⟩ = some v2 ∧ Below wr.heap.size wr w') (first | exact ⟨by assumption, by assumption, by assumption, by assumption, by assumption, by assumption, by assumption⟩ | go_keep) (first | (go_at_call 18; refine (C.out _ (by assumption)).mono ?_; rintro e w' ⟨rfl, hb⟩; have qa := carry_cell' hb x1; have qb := carry_cell' hb y1; have qc := carry_cell' hb a0'; have qd := carry_cell' hb a1'; have qe := carry_cell' hb b0'; have qf := carry_cell' hb b1'; have qg := carry_below hB0 (Nat.le_refl _) hb; clear hb))
          have hB2 : Below wr.heap.size wr w' := by assumption
          have HB2 := Lib.hid (carry_below HBE.out (Nat.le_refl _) hB2)
          have HX3 := Lib.hid (HX2.out.kept hB2)
          have HY3 := Lib.hid (HY2.out.kept hB2)
          clear hB2
          cases hE : eqT s u
          · have HF := Lib.hid (HE.out.trans (eqTs_no HS.out HU.out hE))
            clear hE
            go_wp2
            go_ret
            exact ⟨ret_bool HF.out.symm, HB2.out⟩
          · have HF := Lib.hid (HG.out.next HS.out HU.out hE)
            clear hE
            go_wp2
            go_roundw
            case rel => exact ⟨k + 1, by omega, by go_num, HF.out, HX3.out, HY3.out, HB2.out⟩
            case measure => simp [intOf]; omega
        · have hke : k = x.args.length := by omega
          subst hke
          have HF := Lib.hid (HE.out.trans (HG.out.all HN.out))
          obtain ⟨x0, x1, x2⟩ := HX2.out
          go_wp2
          go_ret
          exact ⟨ret_bool HF.out.symm, HBE.out⟩
    · have HE : Hid (eqT x y = false) := Lib.hid (by rw [eqT_args hn]; exact eqTs_len hlen)
      have q1 := str_eq hn
      have q2 : (x.name.toList != y.name.toList) = false := by rw [bne_eq_false_iff_eq, hn]
      have q3 : ((x.args.length : Int) != (y.args.length : Int)) = true := by rw [bne_iff_ne]; omega
      clear hn hlen
      go_enter Try.func18, Try.ntmps18
      go_wp2
      go_ret
      exact ⟨ret_bool HE.out.symm, HB0.out⟩
  · have q1 := str_ne hn
    have q2 : (x.name.toList != y.name.toList) = true := by rw [bne_iff_ne]; intro e; exact hn (toList_inj e)
    have HE := Lib.hid (eqT_ne hn)
    clear hn
    go_enter Try.func18, Try.ntmps18
    go_wp2
    go_ret
    exact ⟨ret_bool HE.out.symm, HB0.out⟩

theorem vTerms_any (t : Tm) : VtT t := Tm.ind (P := VtT) (fun t ih => vTerms_of t ih) t
end Go.Proofs.Ytppmiedhoimgmaa
