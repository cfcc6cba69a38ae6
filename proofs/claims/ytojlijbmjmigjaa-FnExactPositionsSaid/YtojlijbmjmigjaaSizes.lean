/- TermSize and TermDepth, the program's and the model's: contracts, for terms of at most 1048576 names' bytes and arguments. -/
import Derived.Test.YtojlijbmjmigjaaImplV2
namespace Go.Proofs.Ytojlijbmjmigjaa
open Go.RowKit
set_option linter.unusedVariables false

def sizeA (t : Tm) : Int := if anyB t then t.sz else 0
def depthA (t : Tm) : Int := if anyB t then t.dp else 0
theorem sizeA_yes {t : Tm} (h : anyB t = true) : sizeA t = t.sz := by simp [sizeA, h]
theorem sizeA_no {t : Tm} (h : anyB t = false) : sizeA t = 0 := by simp [sizeA, h]
theorem depthA_yes {t : Tm} (h : anyB t = true) : depthA t = t.dp := by simp [depthA, h]
theorem depthA_no {t : Tm} (h : anyB t = false) : depthA t = 0 := by simp [depthA, h]

theorem ret_pair {a b : Int} {p q : Bool} (h : a = b) (k : p = q) : Ending.returned (.tuple #[.int .i64 a, .bool p]) = .returned (.tuple #[.int .i64 b, .bool q]) := by rw [h, k]

set_option maxHeartbeats 1000000 in
theorem specTermSize_any (t : Tm) (w : World) (va : Value) (hv : TmS w va t.args) (hw : t.wt ≤ 1048576) :
    Calls Try.prog 24 #[.agg #[.string t.name, va]] w (Ans (.tuple #[.int .i64 (sizeA t), .bool (anyB t)]) w) := by
  obtain ⟨a, c, rfl⟩ := hv.is_slice
  have HV := Lib.hid hv
  clear hv
  go_enter Try.func24, Try.ntmps24
  go_wp2_with fail
  refine (l2Any_any t _ _ (HV.out.alloc _) hw).mono ?_
  rintro e w' ⟨rfl, hb⟩
  have HB := Lib.hid (carry_below (((Below.refl w.heap.size w).alloc (Nat.le_refl _) _)) (Nat.le_refl _) hb)
  obtain ⟨b0, b1, b2⟩ := (two_new w (.string t.name) (.slice a t.args.length c) 29 _ rfl).kept hb
  clear hb
  cases hf : anyB t with
  | false =>
    have HF := Lib.hid (sizeA_no hf)
    have HFF := Lib.hid hf
    clear hf
    go_wp2
    go_ret2
    exact ⟨ret_pair HF.out.symm HFF.out.symm, HB.out⟩
  | true =>
    have HF := Lib.hid (sizeA_yes hf)
    have HFF := Lib.hid hf
    clear hf
    go_wp2_with fail
    refine (l2Size_any t _ _ (HV.out.kept HB.out) hw).mono ?_
    rintro e w2 ⟨rfl, hb⟩
    have HB2 := Lib.hid (carry_below HB.out (Nat.le_refl _) hb)
    clear hb
    go_wp2
    go_ret2
    exact ⟨ret_pair HF.out.symm HFF.out.symm, HB2.out⟩

set_option maxHeartbeats 1000000 in
theorem specTermDepth_any (t : Tm) (w : World) (va : Value) (hv : TmS w va t.args) (hw : t.wt ≤ 1048576) :
    Calls Try.prog 26 #[.agg #[.string t.name, va]] w (Ans (.tuple #[.int .i64 (depthA t), .bool (anyB t)]) w) := by
  obtain ⟨a, c, rfl⟩ := hv.is_slice
  have HV := Lib.hid hv
  clear hv
  go_enter Try.func26, Try.ntmps26
  go_wp2_with fail
  refine (l2Any_any t _ _ (HV.out.alloc _) hw).mono ?_
  rintro e w' ⟨rfl, hb⟩
  have HB := Lib.hid (carry_below (((Below.refl w.heap.size w).alloc (Nat.le_refl _) _)) (Nat.le_refl _) hb)
  obtain ⟨b0, b1, b2⟩ := (two_new w (.string t.name) (.slice a t.args.length c) 29 _ rfl).kept hb
  clear hb
  cases hf : anyB t with
  | false =>
    have HF := Lib.hid (depthA_no hf)
    have HFF := Lib.hid hf
    clear hf
    go_wp2
    go_ret2
    exact ⟨ret_pair HF.out.symm HFF.out.symm, HB.out⟩
  | true =>
    have HF := Lib.hid (depthA_yes hf)
    have HFF := Lib.hid hf
    clear hf
    go_wp2_with fail
    refine (l2Depth_any t _ _ (HV.out.kept HB.out) hw).mono ?_
    rintro e w2 ⟨rfl, hb⟩
    have HB2 := Lib.hid (carry_below HB.out (Nat.le_refl _) hb)
    clear hb
    go_wp2
    go_ret2
    exact ⟨ret_pair HF.out.symm HFF.out.symm, HB2.out⟩

/-- The test whether one term is an expression. -/
theorem areExpr_one (t : Tm) (w : World) (va : Value) (g c : Nat) (hv : TmS w va t.args) (h0 : w.cell? ⟨g, 0, none⟩ = some (.string t.name)) (h1 : w.cell? ⟨g, 1, none⟩ = some va) (hw : t.wt ≤ 1048576) :
    Calls Try.prog 67 #[.slice (some ⟨g, 0, none⟩) 1 c] w (Ans (.bool (anyB t)) w) := by
  have h := areExpr_any [t] w _ (tmS_one hv g c h0 h1) (by simp) (fun s hs => by rw [List.mem_singleton.1 hs]; exact hw)
  have e : [t].all anyB = anyB t := by simp
  rwa [e] at h

def DeepT (t : Tm) : Prop := ∀ (w : World) (va : Value), TmS w va t.args → t.wt ≤ 1048576 →
  Calls Try.prog 70 #[.agg #[.string t.name, va]] w (Ans (.int .i64 t.dp) w)

set_option maxHeartbeats 1000000 in
theorem deep_of (t : Tm) (h : ∀ s ∈ t.args, DeepT s) : DeepT t := by
  intro w va hv hw
  have hsz := Tm.sz_wt t
  have hdp := Tm.dp_sz t
  have HE := Lib.hid t.dp_eq
  have HT := Lib.hid (fun k => maxL_take Tm.dp t.args k)
  have H := Lib.hid h
  have HL := Lib.hid (fun (s : Tm) (hs : s ∈ t.args) => Nat.le_trans (Tm.wt_arg hs) hw)
  have hlen := Tm.wt_len t
  obtain ⟨a, c, rfl⟩ := hv.is_slice
  have HV := Lib.hid hv
  clear h hv
  go_enter Try.func70, Try.ntmps70
  go_wp2
  go_loopw [3, 9] (fun n i wr => ∃ k q : Nat, k ≤ t.args.length ∧ i = .int .i64 k ∧ n = .int .i64 q ∧ q = maxL Tm.dp (t.args.take k) ∧ Below w.heap.size w wr) (fun _ i _ => t.args.length - (intOf i).toNat)
  case atStart => exact ⟨0, 0, Nat.zero_le _, rfl, rfl, by simp [maxL], (Below.refl _ _).alloc (Nat.le_refl _) _⟩
  case round =>
      obtain ⟨k, q, hk, rfl, rfl, hq, hbel⟩ := hrel
      have HQ := Lib.hid hq
      have hq1 : q + 1 ≤ t.dp := by have := HE.out; have := HT.out k; omega
      have HB := Lib.hid hbel
      clear hq hbel
      by_cases hlt : k < t.args.length
      · obtain ⟨s, hs⟩ : ∃ s, t.args[k]? = some s := ⟨_, List.getElem?_eq_getElem hlt⟩
        obtain ⟨b, off, rfl, va, c0, c1, hva⟩ := HV.out.get hs
        have c0' := carry_cell c0 HB.out
        have c1' := carry_cell c1 HB.out
        have HVA := Lib.hid (hva.kept HB.out)
        have HS := Lib.hid hs
        obtain ⟨a', c', rfl⟩ := hva.is_slice
        clear hs c0 c1 hva
        have HN := Lib.hid (maxL_next (f := Tm.dp) HS.out)
        have hqs : max q s.dp + 1 ≤ t.dp := by have := HE.out; have := HT.out (k + 1); have := HQ.out; have := HN.out; omega
        go_wp2_with fail
        refine (H.out s (mem_of_at HS.out) _ _ (HVA.out.alloc _) (HL.out s (mem_of_at HS.out))).mono ?_
        rintro e w' ⟨rfl, hb⟩
        have HB2 := Lib.hid (carry_below (HB.out.alloc HB.out.size _) (Nat.le_refl _) hb)
        clear hb
        go_wp2
        go_roundw
        case rel => exact ⟨k + 1, max q s.dp, by omega, by go_num, by rw [show (max (q : Int) (s.dp : Int)) = ((max q s.dp : Nat) : Int) by omega], by rw [HN.out, HQ.out], HB2.out⟩
        case measure => simp [intOf]; omega
      · have hke : k = t.args.length := by omega
        subst hke
        have HF : Hid ((q : Int) + 1 = t.dp) := Lib.hid (by rw [HQ.out, HE.out, maxL_all (Nat.le_refl _)]; omega)
        go_wp2
        go_ret
        exact ⟨ret_int HF.out, HB.out⟩

theorem depthOf_any (t : Tm) : DeepT t := Tm.ind (P := DeepT) deep_of t

set_option maxHeartbeats 1000000 in
theorem implTermSize_any (t : Tm) (w : World) (va : Value) (hv : TmS w va t.args) (hw : t.wt ≤ 1048576) :
    Calls Try.prog 25 #[.agg #[.string t.name, va]] w (Ans (.tuple #[.int .i64 (sizeA t), .bool (anyB t)]) w) := by
  obtain ⟨a, c, rfl⟩ := hv.is_slice
  have HV := Lib.hid hv
  clear hv
  go_enter Try.func25, Try.ntmps25
  go_wp2_with fail
  refine (areExpr_one t _ _ _ _ ((HV.out.alloc _).alloc _) (two_new _ _ _ _ _ (by simp)).1 (two_new _ _ _ _ _ (by simp)).2.1 hw).mono ?_
  rintro e w' ⟨rfl, hb⟩
  have HB := Lib.hid (carry_below ((((Below.refl w.heap.size w).alloc (Nat.le_refl _) _).alloc (by simp) _)) (Nat.le_refl _) hb)
  obtain ⟨b0, b1, b2⟩ := ((two_new w (.string t.name) (.slice a t.args.length c) 29 _ rfl).alloc _).kept hb
  clear hb
  cases hf : anyB t with
  | false =>
    have HF := Lib.hid (sizeA_no hf)
    have HFF := Lib.hid hf
    clear hf
    go_wp2
    go_ret2
    exact ⟨ret_pair HF.out.symm HFF.out.symm, HB.out⟩
  | true =>
    have HF := Lib.hid (sizeA_yes hf)
    have hfit := anyB_fits hf
    have HFF := Lib.hid hf
    clear hf
    have hft : t.sz ≤ 30 ∧ t.dp ≤ 8 := by simpa [fitsB] using hfit
    have HC := Lib.hid (cntV_yes (t := t) (z := 30) (d := 8) hft)
    clear hfit
    go_wp2_with fail
    refine (count_any t _ _ 30 8 (HV.out.kept HB.out) hw (by omega) (by omega)).mono ?_
    rintro e w2 ⟨he, hb⟩
    rw [HC.out] at he
    subst he
    have HB2 := Lib.hid (carry_below HB.out (Nat.le_refl _) hb)
    clear hb
    go_wp2
    go_ret2
    exact ⟨ret_pair HF.out.symm HFF.out.symm, HB2.out⟩
set_option maxHeartbeats 1000000 in
theorem implTermDepth_any (t : Tm) (w : World) (va : Value) (hv : TmS w va t.args) (hw : t.wt ≤ 1048576) :
    Calls Try.prog 27 #[.agg #[.string t.name, va]] w (Ans (.tuple #[.int .i64 (depthA t), .bool (anyB t)]) w) := by
  obtain ⟨a, c, rfl⟩ := hv.is_slice
  have HV := Lib.hid hv
  clear hv
  go_enter Try.func27, Try.ntmps27
  go_wp2_with fail
  refine (areExpr_one t _ _ _ _ ((HV.out.alloc _).alloc _) (two_new _ _ _ _ _ (by simp)).1 (two_new _ _ _ _ _ (by simp)).2.1 hw).mono ?_
  rintro e w' ⟨rfl, hb⟩
  have HB := Lib.hid (carry_below ((((Below.refl w.heap.size w).alloc (Nat.le_refl _) _).alloc (by simp) _)) (Nat.le_refl _) hb)
  obtain ⟨b0, b1, b2⟩ := ((two_new w (.string t.name) (.slice a t.args.length c) 29 _ rfl).alloc _).kept hb
  clear hb
  cases hf : anyB t with
  | false =>
    have HF := Lib.hid (depthA_no hf)
    have HFF := Lib.hid hf
    clear hf
    go_wp2
    go_ret2
    exact ⟨ret_pair HF.out.symm HFF.out.symm, HB.out⟩
  | true =>
    have HF := Lib.hid (depthA_yes hf)
    have hfit := anyB_fits hf
    have HFF := Lib.hid hf
    clear hf
    clear hfit
    go_wp2_with fail
    refine (depthOf_any t _ _ (HV.out.kept HB.out) hw).mono ?_
    rintro e w2 ⟨rfl, hb⟩
    have HB2 := Lib.hid (carry_below HB.out (Nat.le_refl _) hb)
    clear hb
    go_wp2
    go_ret2
    exact ⟨ret_pair HF.out.symm HFF.out.symm, HB2.out⟩
end Go.Proofs.Ytojlijbmjmigjaa
