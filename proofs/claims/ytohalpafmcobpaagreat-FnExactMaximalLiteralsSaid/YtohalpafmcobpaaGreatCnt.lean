/- CountSymbol, the program's and the model's: contracts, for terms of at most 1048576 names' bytes and arguments. -/
import Derived.Test.YtohalpafmcobpaaGreatIter
import Derived.Test.YtohalpafmcobpaaGreatImplV2
import Derived.Test.YtohalpafmcobpaaGreatSizes
import Derived.Test.YtohalpafmcobpaaGreatRep
namespace Go.Proofs.YtohalpafmcobpaaGreat
open Go.RowKit Go.Shelf
set_option linter.unusedVariables false

attribute [local go_sem] Oper.semAt_some

/-- How many of the terms bear the name. -/
def cnt (nm : ByteArray) (l : List Tm) : Nat := l.countP (fun s => decide (s.name = nm))
theorem cnt_append (nm : ByteArray) (a b : List Tm) : cnt nm (a ++ b) = cnt nm a + cnt nm b := by simp [cnt]
theorem cnt_nil (nm : ByteArray) : cnt nm [] = 0 := by simp [cnt]
theorem cnt_cons_yes {nm : ByteArray} {t : Tm} (h : t.name = nm) (l : List Tm) : cnt nm (t :: l) = 1 + cnt nm l := by simp [cnt, h]; omega
theorem cnt_cons_no {nm : ByteArray} {t : Tm} (h : t.name ≠ nm) (l : List Tm) : cnt nm (t :: l) = cnt nm l := by simp [cnt, h]
theorem cnt_le (nm : ByteArray) (l : List Tm) : cnt nm l ≤ l.length := by unfold cnt; exact List.countP_le_length
def here (nm : ByteArray) (t : Tm) : Nat := if t.name = nm then 1 else 0
theorem cnt_nds (nm : ByteArray) (t : Tm) : cnt nm t.nds = here nm t + cnt nm (Tm.ndsL t.args) := by
  rw [t.nds_eq]
  unfold here
  by_cases h : t.name = nm
  · rw [cnt_cons_yes h, if_pos h]
  · rw [cnt_cons_no h, if_neg h]; omega
theorem name_ways (s t : ByteArray) : (s = t ∧ (s.toList == t.toList) = true) ∨ (s ≠ t ∧ (s.toList == t.toList) = false) := by
  by_cases h : s = t
  · exact .inl ⟨h, by rw [h]; simp⟩
  · refine .inr ⟨h, ?_⟩
    rw [beq_eq_false_iff_ne]
    intro e
    exact h (toList_inj e)

def cntA (t : Tm) (nm : ByteArray) : Int := if anyB t then cnt nm t.nds else 0
theorem cntA_yes {t : Tm} {nm : ByteArray} (h : anyB t = true) : cntA t nm = cnt nm t.nds := by simp [cntA, h]
theorem cntA_no {t : Tm} {nm : ByteArray} (h : anyB t = false) : cntA t nm = 0 := by simp [cntA, h]

def CountS (nm : ByteArray) (t : Tm) : Prop := ∀ (w : World) (va : Value), TmS w va t.args → t.wt ≤ 1048576 →
  Calls Tryz.prog 180 #[.agg #[.string t.name, va], .string nm] w (Ans (.int .i64 (cnt nm t.nds)) w)

set_option maxHeartbeats 2000000 in
theorem countS_of (nm : ByteArray) (t : Tm) (h : ∀ s ∈ t.args, CountS nm s) : CountS nm t := by
  intro w va hv hw
  have hsz := Tm.sz_wt t
  have HE := Lib.hid (cnt_nds nm t)
  have hle := cnt_le nm t.nds
  rw [Tm.nds_len] at hle
  have HT := Lib.hid (fun k => show cnt nm (Tm.ndsL (t.args.take k)) ≤ cnt nm (Tm.ndsL t.args) by
    have h := Tm.ndsL_append (t.args.take k) (t.args.drop k)
    rw [List.take_append_drop] at h
    rw [h, cnt_append]; omega)
  have H := Lib.hid h
  have HL := Lib.hid (fun (s : Tm) (hs : s ∈ t.args) => Nat.le_trans (Tm.wt_arg hs) hw)
  have hlen := Tm.wt_len t
  obtain ⟨a, c, rfl⟩ := hv.is_slice
  have HV := Lib.hid hv
  have h2 := two_new w (.string t.name) (.slice a t.args.length c) 39 _ rfl
  have H2 := Lib.hid h2
  obtain ⟨b0, b1, b2⟩ := h2
  clear h hv
  rcases name_ways t.name nm with ⟨hn, he⟩ | ⟨hn, he⟩
  · have HH : Hid (here nm t = 1) := Lib.hid (by simp [here, hn])
    clear hn
    go_enter Tryz.func180, Tryz.ntmps180
    go_wp2
    clear he
    go_loopw [5, 6] (fun n i wr => ∃ k q : Nat, k ≤ t.args.length ∧ i = .int .i64 k ∧ n = .int .i64 q ∧ q = 1 + cnt nm (Tm.ndsL (t.args.take k)) ∧ Two wr w.heap.size (.string t.name) (.slice a t.args.length c) ∧ Below w.heap.size w wr) (fun _ i _ => t.args.length - (intOf i).toNat)
    case atStart => exact ⟨0, 1, Nat.zero_le _, rfl, rfl, by simp [Tm.ndsL, cnt], H2.out, (Below.refl _ _).alloc (Nat.le_refl _) _⟩
    case round =>
      obtain ⟨k, q, hk, rfl, rfl, hq, htwo, hbel⟩ := hrel
      have HQ := Lib.hid hq
      have hq1 : q ≤ 1048577 := by have := HE.out; have := HT.out k; have := HH.out; omega
      clear hq
      have HB := Lib.hid hbel
      have h2w := htwo
      have H2W := Lib.hid htwo
      obtain ⟨d0, d1, d2⟩ := h2w
      clear hbel htwo b0 b1 b2
      by_cases hlt : k < t.args.length
      · obtain ⟨s, hs⟩ : ∃ s, t.args[k]? = some s := ⟨_, List.getElem?_eq_getElem hlt⟩
        obtain ⟨b, off, rfl, va, c0, c1, hva⟩ := HV.out.get hs
        have c0' := carry_cell c0 HB.out
        have c1' := carry_cell c1 HB.out
        have HVA := Lib.hid (hva.kept HB.out)
        have HS := Lib.hid hs
        clear hs c0 c1 hva
        have HN : Hid (cnt nm (Tm.ndsL (t.args.take (k + 1))) = cnt nm (Tm.ndsL (t.args.take k)) + cnt nm s.nds) := Lib.hid (by rw [Tm.ndsL_next HS.out, cnt_append])
        have hqs : q + cnt nm s.nds ≤ 1048577 := by have := HE.out; have := HT.out (k + 1); have := HQ.out; have := HN.out; have := HH.out; omega
        go_wp2_with fail
        refine (H.out s (mem_of_at HS.out) _ va HVA.out (HL.out s (mem_of_at HS.out))).mono ?_
        rintro e w' ⟨rfl, hb⟩
        have HB2 := Lib.hid (carry_below HB.out (Nat.le_refl _) hb)
        have H2W2 := Lib.hid (H2W.out.kept hb)
        obtain ⟨e0, e1, e2⟩ := H2W.out.kept hb
        clear hb
        go_wp2
        go_roundw
        case rel => exact ⟨k + 1, q + cnt nm s.nds, by omega, by go_num, by go_num, by rw [HN.out, HQ.out]; omega, H2W2.out, HB2.out⟩
        case measure => simp [intOf]; omega
      · have hke : k = t.args.length := by omega
        subst hke
        have HF : Hid ((q : Int) = cnt nm t.nds) := Lib.hid (by rw [HQ.out, HE.out, Tm.ndsL_all (Nat.le_refl _), HH.out])
        go_wp2
        go_ret
        exact ⟨ret_int HF.out, HB.out⟩
  · have HH : Hid (here nm t = 0) := Lib.hid (by simp [here, hn])
    clear hn
    go_enter Tryz.func180, Tryz.ntmps180
    go_wp2
    clear he
    go_loopw [5, 6] (fun n i wr => ∃ k q : Nat, k ≤ t.args.length ∧ i = .int .i64 k ∧ n = .int .i64 q ∧ q = cnt nm (Tm.ndsL (t.args.take k)) ∧ Two wr w.heap.size (.string t.name) (.slice a t.args.length c) ∧ Below w.heap.size w wr) (fun _ i _ => t.args.length - (intOf i).toNat)
    case atStart => exact ⟨0, 0, Nat.zero_le _, rfl, rfl, by simp [Tm.ndsL, cnt], H2.out, (Below.refl _ _).alloc (Nat.le_refl _) _⟩
    case round =>
      obtain ⟨k, q, hk, rfl, rfl, hq, htwo, hbel⟩ := hrel
      have HQ := Lib.hid hq
      have hq1 : q ≤ 1048577 := by have := HE.out; have := HT.out k; have := HH.out; omega
      clear hq
      have HB := Lib.hid hbel
      have h2w := htwo
      have H2W := Lib.hid htwo
      obtain ⟨d0, d1, d2⟩ := h2w
      clear hbel htwo b0 b1 b2
      by_cases hlt : k < t.args.length
      · obtain ⟨s, hs⟩ : ∃ s, t.args[k]? = some s := ⟨_, List.getElem?_eq_getElem hlt⟩
        obtain ⟨b, off, rfl, va, c0, c1, hva⟩ := HV.out.get hs
        have c0' := carry_cell c0 HB.out
        have c1' := carry_cell c1 HB.out
        have HVA := Lib.hid (hva.kept HB.out)
        have HS := Lib.hid hs
        clear hs c0 c1 hva
        have HN : Hid (cnt nm (Tm.ndsL (t.args.take (k + 1))) = cnt nm (Tm.ndsL (t.args.take k)) + cnt nm s.nds) := Lib.hid (by rw [Tm.ndsL_next HS.out, cnt_append])
        have hqs : q + cnt nm s.nds ≤ 1048577 := by have := HE.out; have := HT.out (k + 1); have := HQ.out; have := HN.out; have := HH.out; omega
        go_wp2_with fail
        refine (H.out s (mem_of_at HS.out) _ va HVA.out (HL.out s (mem_of_at HS.out))).mono ?_
        rintro e w' ⟨rfl, hb⟩
        have HB2 := Lib.hid (carry_below HB.out (Nat.le_refl _) hb)
        have H2W2 := Lib.hid (H2W.out.kept hb)
        obtain ⟨e0, e1, e2⟩ := H2W.out.kept hb
        clear hb
        go_wp2
        go_roundw
        case rel => exact ⟨k + 1, q + cnt nm s.nds, by omega, by go_num, by go_num, by rw [HN.out, HQ.out], H2W2.out, HB2.out⟩
        case measure => simp [intOf]; omega
      · have hke : k = t.args.length := by omega
        subst hke
        have HF : Hid ((q : Int) = cnt nm t.nds) := Lib.hid (by rw [HQ.out, HE.out, Tm.ndsL_all (Nat.le_refl _), HH.out, Nat.zero_add])
        go_wp2
        go_ret
        exact ⟨ret_int HF.out, HB.out⟩

theorem l2Count_any (nm : ByteArray) (t : Tm) : CountS nm t := Tm.ind (P := CountS nm) (countS_of nm) t

end Go.Proofs.YtohalpafmcobpaaGreat
