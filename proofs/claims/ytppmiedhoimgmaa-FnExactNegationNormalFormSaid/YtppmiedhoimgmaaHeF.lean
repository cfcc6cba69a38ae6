/- The laws' helper that looks for the marks in a list of formulas: contracts. -/
import Derived.Test.YtppmiedhoimgmaaOwnF
namespace Go.Proofs.Ytppmiedhoimgmaa
open Go.RowKit
set_option linter.unusedVariables false
set_option linter.unusedSimpArgs false

theorem OwnFm.outside {a b : World} {lo hi lo' hi' : Nat} {t : Fm} {va vp : Value} (h : OwnFm a lo hi t va vp) (ho : Outside (Ivl lo' hi') a b) (hd : hi ≤ lo' ∨ hi' ≤ lo) : OwnFm b lo hi t va vp :=
  ⟨h.1.frame fun k hk => ho.block k (Nat.lt_of_lt_of_le hk.2 h.2) (fun hk' => by have := hk.1; have := hk.2; have := hk'.1; have := hk'.2; omega), Nat.le_trans h.2 ho.size⟩

def HeldF (l : List Fm) : Prop := ∀ (k : Nat) (v : Value) (w : World), FmS w v (mkFs k l) → 1 ≤ k → k + sumG Fm.mn l ≤ 100000000 → l.length ≤ 100000000 →
  Calls Try.prog 102 #[v, .int .i64 k] w fun e w' => e = .returned (.int .i64 (k + sumG Fm.mn l : Nat)) ∧ Below w.heap.size w w'

set_option maxRecDepth 100000 in
set_option maxHeartbeats 8000000 in
theorem heldF_of (l : List Fm) (h : ∀ t ∈ l, HeldF t.parts) : HeldF l := by
  intro k v w hv hk hsz hlen
  have H := Lib.hid h
  have HSZ := Lib.hid (fun i => sumG_take Fm.mn l i)
  obtain ⟨a, c, rfl⟩ := hv.is_slice
  rw [mkFs_len] at hv ⊢
  have HV := Lib.hid hv
  clear h hv
  go_enter Try.func102, Try.ntmps102
  go_wp2
  go_loopw [1, 5] (fun kk i wr => ∃ j q : Nat, j ≤ l.length ∧ i = .int .i64 j ∧ kk = .int .i64 q ∧ q = k + sumG Fm.mn (l.take j) ∧ Below w.heap.size w wr) (fun _ i _ => l.length - (intOf i).toNat)
  case atStart => exact ⟨0, k, Nat.zero_le _, rfl, rfl, by simp [sumG], Below.refl _ _⟩
  case round =>
    obtain ⟨j, q, hj, rfl, rfl, hq, hbel⟩ := hrel
    have HB := Lib.hid hbel
    have HQ := Lib.hid hq
    clear hq hbel
    by_cases hlt : j < l.length
    · obtain ⟨t, ht⟩ : ∃ t, l[j]? = some t := ⟨_, List.getElem?_eq_getElem hlt⟩
      have HT := Lib.hid ht
      have HN := Lib.hid (sumG_next (f := Fm.mn) ht)
      have HE := Lib.hid t.mn_eq
      have hqb : q + t.mn ≤ 100000000 := by have := HSZ.out (j + 1); have := HN.out; have := HQ.out; omega
      have hq1 : 1 ≤ q := by have := HQ.out; omega
      have hts : 3 ≤ t.mn := Fm.mn_pos t
      have hsa : q + 3 + sumL Tm.sz t.atom.args + sumG Fm.mn t.parts ≤ 100000000 := by have := HE.out; omega
      obtain ⟨b, off, rfl, va, vp, hc, hva, hvp⟩ := HV.out.get (mkFs_at l k j t ht)
      rw [← HQ.out, mkFm_op, mkFm_name, mkFm_var] at hc
      rw [← HQ.out, mkFm_args] at hva
      rw [← HQ.out, mkFm_parts] at hvp
      obtain ⟨m, hm⟩ : ∃ m, m = markB (q + 1) := ⟨_, rfl⟩
      obtain ⟨q2, hq2⟩ : ∃ q2, q2 = q + 1 + 1 + sumL Tm.sz t.atom.args := ⟨_, rfl⟩
      rw [← hq2] at hc hvp
      obtain ⟨m2, hm2⟩ : ∃ m, m = markB q2 := ⟨_, rfl⟩
      rw [← hm, ← hm2] at hc
      have hq21 : 1 ≤ q2 := by omega
      have hq2b : q2 + 1 + sumG Fm.mn t.parts ≤ 100000000 := by omega
      have HQ2E := Lib.hid hq2
      have C1 : Hid (∀ W : World, Calls Try.prog 147 #[.int .i64 ((q : Int) + 1)] W fun e w' => e = .returned (.string m) ∧ Below W.heap.size W w') := Lib.hid (fun W => by
        rw [hm, show (q : Int) + 1 = ((q + 1 : Nat) : Int) by omega]; exact markText_any (q + 1) W (by omega) (by omega))
      have C2 : Hid (∀ W : World, Calls Try.prog 147 #[.int .i64 (q2 : Int)] W fun e w' => e = .returned (.string m2) ∧ Below W.heap.size W w') := Lib.hid (fun W => by
        rw [hm2]; exact markText_any q2 W hq21 (by omega))
      obtain ⟨c0, c1, c2, c3, c4⟩ := hc.kept HB.out
      have HCC := Lib.hid hc
      have HVA := Lib.hid hva
      have HVP := Lib.hid hvp
      have hB0 : Below wr.heap.size wr wr.drew := (Below.refl _ _).drew
      clear hm hm2 hq2 ht hc hva hvp
      go_wp2_with fail
      go_region_held3 (fun w' => w'.cell? ⟨b, off + j * 5 + 1, none⟩ = some (.string m) ∧ Below wr.heap.size wr w') (first | exact ⟨by assumption, by assumption⟩ | go_keep) (first | (go_at_call 147; refine (C1.out _).mono ?_; rintro e w8 ⟨rfl, hb⟩; have e1 : w8.cell? ⟨b, off + j * 5 + 1, none⟩ = some (.string m) := carry_cell' hb (by assumption); have hB8 := carry_below hB0 (Nat.le_refl _) hb; clear hb))
      have HB8 := Lib.hid (carry_below HB.out (Nat.le_refl _) hB8)
      clear hB8 hB0 c0 c1 c2 c3 c4 e1
      obtain ⟨c0, c1, c2, c3, c4⟩ := HCC.out.kept HB8.out
      have C3 := Lib.hid (heldL_any t.atom.args (q + 1 + 1) va _ (HVA.out.kept HB8.out) (by omega) (by omega) (by have := sumL_len t.atom.args; omega))
      go_wp2_with fail
      rw [show (q : Int) + 1 + 1 = ((q + 1 + 1 : Nat) : Int) by omega]
      refine C3.out.mono ?_
      rintro e w7 ⟨rfl, hb⟩
      have HB7 := Lib.hid (carry_below HB8.out (Nat.le_refl _) hb)
      rw [← HQ2E.out]
      clear hb c0 c1 c2 c3 c4 C3
      obtain ⟨c0, c1, c2, c3, c4⟩ := HCC.out.kept HB7.out
      have hB0 : Below w7.heap.size w7 w7.drew := (Below.refl _ _).drew
      go_wp2_with fail
      go_region_held3 (fun w' => w'.cell? ⟨b, off + j * 5 + 3, none⟩ = some (.string m2) ∧ Below w7.heap.size w7 w') (first | exact ⟨by assumption, by assumption⟩ | go_keep) (first | (go_at_call 147; refine (C2.out _).mono ?_; rintro e w6 ⟨rfl, hb⟩; have e1 : w6.cell? ⟨b, off + j * 5 + 3, none⟩ = some (.string m2) := carry_cell' hb (by assumption); have hB6 := carry_below hB0 (Nat.le_refl _) hb; clear hb))
      have HB6 := Lib.hid (carry_below HB7.out (Nat.le_refl _) hB6)
      clear hB6 hB0 c0 c1 c2 c3 c4 e1
      obtain ⟨c0, c1, c2, c3, c4⟩ := HCC.out.kept HB6.out
      have C4 := Lib.hid (H.out t (mem_of_at HT.out) (q2 + 1) vp _ (HVP.out.kept HB6.out) (by omega) (by omega) (by have := sumMn_len t.parts; omega))
      go_wp2_with fail
      rw [show (q2 : Int) + 1 = ((q2 + 1 : Nat) : Int) by omega]
      refine C4.out.mono ?_
      rintro e w5 ⟨rfl, hb⟩
      have HB5 := Lib.hid (carry_below HB6.out (Nat.le_refl _) hb)
      have HQ3 : Hid (q2 + 1 + sumG Fm.mn t.parts = k + sumG Fm.mn (l.take (j + 1))) := Lib.hid (by rw [HN.out]; have := HQ.out; have := HE.out; have := HQ2E.out; omega)
      clear hb c0 c1 c2 c3 c4 C4
      generalize q2 + 1 + sumG Fm.mn t.parts = q3 at *
      go_wp2
      go_roundw
      case rel => exact ⟨j + 1, q3, by omega, by go_num, rfl, HQ3.out, HB5.out⟩
      case measure => simp [intOf]; omega
    · have hje : j = l.length := by omega
      have HE : Hid ((q : Int) = (k + sumG Fm.mn l : Nat)) := Lib.hid (by
        have hQ := HQ.out
        subst hje
        rw [sumG_all (Nat.le_refl _)] at hQ
        rw [hQ])
      clear hje
      go_wp2
      go_ret
      exact ⟨ret_int HE.out, HB.out⟩

theorem heldF_parts (t : Fm) : HeldF t.parts := Fm.ind (P := fun t => HeldF t.parts) (fun t ih => heldF_of t.parts ih) t
theorem heldF_any (l : List Fm) : HeldF l := heldF_of l fun t _ => heldF_parts t

set_option maxRecDepth 100000 in
set_option maxHeartbeats 2000000 in
theorem heldFm_any (t : Fm) (o : Int) (n u : ByteArray) (k : Nat) (va vp : Value) (w : World) (hva : TmS w va (mkL k t.atom.args)) (hvp : FmS w vp (mkFs (k + sumL Tm.sz t.atom.args) t.parts)) (hk : 1 ≤ k) (hsz : k + sumL Tm.sz t.atom.args + sumG Fm.mn t.parts ≤ 100000000) :
    Calls Try.prog 43 #[.agg #[.int .i64 o, .string n, va, .string u, vp], .int .i64 k] w fun e w' => e = .returned (.int .i64 (k + sumL Tm.sz t.atom.args + sumG Fm.mn t.parts : Nat)) ∧ Below w.heap.size w w' := by
  obtain ⟨pa, ca, rfl⟩ := hva.is_slice
  obtain ⟨pp, cp, rfl⟩ := hvp.is_slice
  rw [mkL_len] at hva ⊢
  rw [mkFs_len] at hvp ⊢
  have H2 := Lib.hid (fivB_new w (.int .i64 o) (.string n) (.slice pa t.atom.args.length ca) (.string u) (.slice pp t.parts.length cp) 68 _ rfl)
  have HB0 := Lib.hid ((Below.refl w.heap.size w).alloc (Nat.le_refl _) (.cells #[.int .i64 o, .string n, .slice pa t.atom.args.length ca, .string u, .slice pp t.parts.length cp] 68))
  have C1 := Lib.hid (heldTerm_any t.atom n k _ _ (hva.kept HB0.out) hk (by omega))
  have HVP := Lib.hid hvp
  obtain ⟨q, hq⟩ : ∃ q, q = k + sumL Tm.sz t.atom.args := ⟨_, rfl⟩
  have hq1 : 1 ≤ q := by omega
  rw [← hq] at hsz
  have HQ := Lib.hid hq
  obtain ⟨b0, b1, b2, b3, b4, b5⟩ := H2.out
  clear hva hvp hq
  go_enter Try.func43, Try.ntmps43
  go_wp2_with fail
  refine C1.out.mono ?_
  rintro e w2 ⟨rfl, hb⟩
  rw [← HQ.out]
  have HB2 := Lib.hid (carry_below HB0.out (Nat.le_refl _) hb)
  have HF2 := Lib.hid (H2.out.kept hb)
  clear hb b0 b1 b2 b3 b4 b5 C1
  obtain ⟨b0, b1, b2, b3, b4, b5⟩ := HF2.out
  have C2 := Lib.hid (heldF_any t.parts q _ w2 (by have h := HVP.out.kept HB2.out; rw [← HQ.out] at h; exact h) hq1 hsz (by have := sumMn_len t.parts; omega))
  go_wp2_with fail
  refine C2.out.mono ?_
  rintro e w3 ⟨rfl, hb⟩
  have HB3 := Lib.hid (carry_below HB2.out (Nat.le_refl _) hb)
  clear hb C2 b0 b1 b2 b3 b4 b5
  obtain ⟨q3, hq3⟩ : ∃ q3, q3 = q + sumG Fm.mn t.parts := ⟨_, rfl⟩
  rw [← hq3]
  have HQ3 := Lib.hid hq3
  clear hq3
  go_wp2
  go_ret
  exact ⟨ret_int (by rw [HQ3.out, HQ.out]), HB3.out⟩

end Go.Proofs.Ytppmiedhoimgmaa
