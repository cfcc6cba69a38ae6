/- The model's tests of terms, as contracts, for terms of at most 1048576 names' bytes and arguments. -/
import Derived.Test.YtppmiedhoimgmaaTmV
import Derived.Test.YtppmiedhoimgmaaNameS
namespace Go.Proofs.Ytppmiedhoimgmaa
open Go.RowKit
set_option linter.unusedVariables false

/-- An answer of one value; below the heap's end nothing has changed. -/
def Ans (v : Value) (w : World) (e : Ending) (w' : World) : Prop := e = .returned v ∧ Below w.heap.size w w'

theorem most_any (x y : Int) (w : World) :
    Calls Try.prog 169 #[.int .i64 x, .int .i64 y] w fun e w' => e = .returned (.int .i64 (max x y)) ∧ w = w' := by
  by_cases h : y < x
  · have H : Hid (max x y = x) := Lib.hid (by omega)
    go_enter Try.func169, Try.ntmps169
    go_wp2
    go_ret
    exact ⟨ret_int H.out.symm, rfl⟩
  · have H : Hid (max x y = y) := Lib.hid (by omega)
    go_enter Try.func169, Try.ntmps169
    go_wp2
    go_ret
    exact ⟨ret_int H.out.symm, rfl⟩

def DepthT (t : Tm) : Prop := ∀ (w : World) (va : Value), TmS w va t.args → t.wt ≤ 1048576 →
  Calls Try.prog 155 #[.agg #[.string t.name, va]] w (Ans (.int .i64 t.dp) w)
def ManyT (t : Tm) : Prop := ∀ (w : World) (va : Value) (m : Nat), TmS w va t.args → t.wt ≤ 1048576 → m ≤ 1000 →
  Calls Try.prog 154 #[.agg #[.string t.name, va], .int .i64 m] w (Ans (.int .i64 (min t.sz (m + 1) : Nat)) w)
def NodesT (t : Tm) : Prop := ∀ (w : World) (va : Value), TmS w va t.args → t.wt ≤ 1048576 →
  Calls Try.prog 111 #[.agg #[.string t.name, va]] w (Ans (.bool t.nodesB) w)

set_option maxHeartbeats 1000000 in
theorem depth_of (t : Tm) (h : ∀ s ∈ t.args, DepthT s) : DepthT t := by
  intro w va hv hw
  have hsz := Tm.sz_wt t
  have hdp := Tm.dp_sz t
  have HE := Lib.hid t.dp_eq
  have HT := Lib.hid (fun k => maxL_take Tm.dp t.args k)
  have H := Lib.hid h
  have HL := Lib.hid (fun (s : Tm) (hs : s ∈ t.args) => Nat.le_trans (Tm.wt_arg hs) hw)
  have hlen := Tm.wt_len t
  obtain ⟨a, c, rfl⟩ := hv.is_slice
  have HV := Lib.hid hv
  have h2 := two_new w (.string t.name) (.slice a t.args.length c) 26 _ rfl
  have H2 := Lib.hid h2
  obtain ⟨b0, b1, b2⟩ := h2
  clear h hv
  go_enter Try.func155, Try.ntmps155
  go_wp2
  go_loopw [3, 4] (fun n i wr => ∃ k q : Nat, k ≤ t.args.length ∧ i = .int .i64 k ∧ n = .int .i64 q ∧ q = maxL Tm.dp (t.args.take k) ∧ Two wr w.heap.size (.string t.name) (.slice a t.args.length c) ∧ Below w.heap.size w wr) (fun _ i _ => t.args.length - (intOf i).toNat)
  case atStart => exact ⟨0, 0, Nat.zero_le _, rfl, rfl, by simp [maxL], H2.out, (Below.refl _ _).alloc (Nat.le_refl _) _⟩
  case round =>
      obtain ⟨k, q, hk, rfl, rfl, hq, htwo, hbel⟩ := hrel
      have HQ := Lib.hid hq
      have hq1 : q + 1 ≤ t.dp := by have := HE.out; have := HT.out k; omega
      clear hq
      have HB := Lib.hid hbel
      have h2w := htwo
      have H2W := Lib.hid htwo
      obtain ⟨d0, d1, d2⟩ := h2w
      clear hbel htwo b0 b1 b2
      by_cases hlt : k < t.args.length
      · obtain ⟨s, hs⟩ : ∃ s, t.args[k]? = some s := ⟨_, List.getElem?_eq_getElem hlt⟩
        obtain ⟨b, off, rfl, va, c0, c1, hva⟩ := HV.out.get hs
        have c0' := carry_cell c0 HB.out
        have c1' := carry_cell c1 HB.out
        have HVA := Lib.hid (hva.kept HB.out)
        have HS := Lib.hid hs
        clear hs c0 c1 hva
        have HN := Lib.hid (maxL_next (f := Tm.dp) HS.out)
        have hqs : max q s.dp + 1 ≤ t.dp := by have := HE.out; have := HT.out (k + 1); have := HQ.out; have := HN.out; omega
        have CM := Lib.hid (fun W => most_any q s.dp W)
        go_wp2_with fail
        refine (H.out s (mem_of_at HS.out) _ va HVA.out (HL.out s (mem_of_at HS.out))).mono ?_
        rintro e w' ⟨rfl, hb⟩
        have HB2 := Lib.hid (carry_below HB.out (Nat.le_refl _) hb)
        have H2W2 := Lib.hid (H2W.out.kept hb)
        obtain ⟨e0, e1, e2⟩ := H2W.out.kept hb
        clear hb
        go_wp2_with fail
        refine (CM.out _).mono ?_
        rintro e w2 ⟨rfl, rfl⟩
        rw [show max (q : Int) (s.dp : Int) = ((max q s.dp : Nat) : Int) by omega]
        go_wp2
        go_roundw
        case rel => exact ⟨k + 1, max q s.dp, by omega, by go_num, by go_num, by rw [HN.out, HQ.out], H2W2.out, HB2.out⟩
        case measure => simp [intOf]; omega
      · have hke : k = t.args.length := by omega
        subst hke
        have HF : Hid ((q : Int) + 1 = t.dp) := Lib.hid (by rw [HQ.out, HE.out, maxL_all (Nat.le_refl _)]; omega)
        go_wp2
        go_ret
        exact ⟨ret_int HF.out, HB.out⟩

theorem l2Depth_any (t : Tm) : DepthT t := Tm.ind (P := DepthT) depth_of t

set_option maxHeartbeats 1000000 in
theorem many_of (t : Tm) (h : ∀ s ∈ t.args, ManyT s) : ManyT t := by
  intro w va m hv hw hm
  have HE := Lib.hid t.sz_eq
  have HT := Lib.hid (fun k => sumL_take Tm.sz t.args k)
  have H := Lib.hid h
  have HL := Lib.hid (fun (s : Tm) (hs : s ∈ t.args) => Nat.le_trans (Tm.wt_arg hs) hw)
  have hlen := Tm.wt_len t
  obtain ⟨a, c, rfl⟩ := hv.is_slice
  have HV := Lib.hid hv
  have h2 := two_new w (.string t.name) (.slice a t.args.length c) 26 _ rfl
  have H2 := Lib.hid h2
  obtain ⟨b0, b1, b2⟩ := h2
  clear h hv
  go_enter Try.func154, Try.ntmps154
  go_wp2
  go_loopw [5, 6] (fun n i wr => ∃ k q : Nat, k ≤ t.args.length ∧ i = .int .i64 k ∧ n = .int .i64 q ∧ q = min (1 + sumL Tm.sz (t.args.take k)) (m + 1) ∧ Two wr w.heap.size (.string t.name) (.slice a t.args.length c) ∧ Below w.heap.size w wr) (fun _ i _ => t.args.length - (intOf i).toNat)
  case atStart => exact ⟨0, 1, Nat.zero_le _, rfl, rfl, by simp [sumL], H2.out, (Below.refl _ _).alloc (Nat.le_refl _) _⟩
  case round =>
      obtain ⟨k, q, hk, rfl, rfl, hq, htwo, hbel⟩ := hrel
      have HQ := Lib.hid hq
      have hq1 : q ≤ m + 1 := by omega
      clear hq
      have HB := Lib.hid hbel
      have h2w := htwo
      have H2W := Lib.hid htwo
      obtain ⟨d0, d1, d2⟩ := h2w
      clear hbel htwo b0 b1 b2
      by_cases hlt : k < t.args.length
      · obtain ⟨s, hs⟩ : ∃ s, t.args[k]? = some s := ⟨_, List.getElem?_eq_getElem hlt⟩
        obtain ⟨b, off, rfl, va, c0, c1, hva⟩ := HV.out.get hs
        have c0' := carry_cell c0 HB.out
        have c1' := carry_cell c1 HB.out
        have HVA := Lib.hid (hva.kept HB.out)
        have HS := Lib.hid hs
        clear hs c0 c1 hva
        have HN := Lib.hid (sumL_next (f := Tm.sz) HS.out)
        by_cases hqm : q ≤ m
        · have hqs : q + min s.sz (m - q + 1) ≤ m + 1 := by omega
          go_wp2_with fail
          rw [show (m : Int) - (q : Int) = ((m - q : Nat) : Int) by omega]
          refine (H.out s (mem_of_at HS.out) _ va (m - q) HVA.out (HL.out s (mem_of_at HS.out)) (by omega)).mono ?_
          rintro e w' ⟨rfl, hb⟩
          have HB2 := Lib.hid (carry_below HB.out (Nat.le_refl _) hb)
          have H2W2 := Lib.hid (H2W.out.kept hb)
          obtain ⟨e0, e1, e2⟩ := H2W.out.kept hb
          have HM : Hid (q + min s.sz (m - q + 1) = min (1 + sumL Tm.sz (t.args.take (k + 1))) (m + 1)) := Lib.hid (by rw [HN.out]; have := HQ.out; omega)
          clear hb
          generalize min s.sz (m - q + 1) = y at *
          go_wp2
          go_roundw
          case rel => exact ⟨k + 1, q + y, by omega, by go_num, by go_num, HM.out, H2W2.out, HB2.out⟩
          case measure => simp [intOf]; omega
        · have HF : Hid ((q : Int) = (min t.sz (m + 1) : Nat)) := Lib.hid (by have := HQ.out; have := HE.out; have := HT.out k; omega)
          go_wp2
          go_ret
          exact ⟨ret_int HF.out, HB.out⟩
      · have hke : k = t.args.length := by omega
        subst hke
        have HF : Hid ((q : Int) = (min t.sz (m + 1) : Nat)) := Lib.hid (by rw [HQ.out, HE.out, sumL_all (Nat.le_refl _)])
        go_wp2
        go_ret
        exact ⟨ret_int HF.out, HB.out⟩

theorem l2Many_any (t : Tm) : ManyT t := Tm.ind (P := ManyT) many_of t

theorem isEmpty_len (l : List Tm) : ((l.length : Int) == 0) = l.isEmpty := by
  cases l with
  | nil => rfl
  | cons t r => simp; omega

set_option maxHeartbeats 1000000 in
theorem nodes_of (t : Tm) (h : ∀ s ∈ t.args, NodesT s) : NodesT t := by
  intro w va hv hw
  have hns : t.name.size ≤ maxLen := by have := Tm.wt_name t; unfold maxLen; omega
  have CV0 := fun W => l2Var_any t.name W hns
  have CS0 := fun W => l2Symbol_any t.name W hns
  clear hns
  cases hvar : varB t.name with
  | true =>
    rw [hvar] at CV0
    have CV := Lib.hid CV0
    have HE := Lib.hid ((isEmpty_len t.args).trans (Tm.nodesB_var hvar).symm)
    obtain ⟨a, c, rfl⟩ := hv.is_slice
    clear CV0 CS0 hvar hv h
    go_enter Try.func111, Try.ntmps111
    go_wp2_with fail
    refine (CV.out _).mono ?_
    rintro e w' ⟨rfl, rfl⟩
    go_wp2
    go_ret
    exact ⟨ret_bool HE.out, (Below.refl _ _).alloc (Nat.le_refl _) _⟩
  | false =>
    rw [hvar] at CV0
    have CV := Lib.hid CV0
    have HE0 := Tm.nodesB_sym hvar
    clear CV0 hvar
    cases hsym : symB t.name with
    | false =>
      rw [hsym] at CS0 HE0
      have CS := Lib.hid CS0
      have HE := Lib.hid HE0
      obtain ⟨a, c, rfl⟩ := hv.is_slice
      clear CS0 HE0 hsym hv h
      go_enter Try.func111, Try.ntmps111
      go_wp2_with fail
      refine (CV.out _).mono ?_
      rintro e w' ⟨rfl, rfl⟩
      go_wp2_with fail
      refine (CS.out _).mono ?_
      rintro e w' ⟨rfl, rfl⟩
      go_wp2
      go_ret
      exact ⟨ret_bool (by rw [HE.out]; rfl), (Below.refl _ _).alloc (Nat.le_refl _) _⟩
    | true =>
      rw [hsym] at CS0 HE0
      have CS := Lib.hid CS0
      clear CS0 hsym
      by_cases h4 : t.args.length ≤ 4
      · have HE : Hid (t.nodesB = t.args.all Tm.nodesB) := Lib.hid (by rw [HE0]; simp [h4])
        have hd4 : decide ((4 : Int) < (t.args.length : Int)) = false := by simp; omega
        clear HE0
        have H := Lib.hid h
        have HL := Lib.hid (fun (s : Tm) (hs : s ∈ t.args) => Nat.le_trans (Tm.wt_arg hs) hw)
        obtain ⟨a, c, rfl⟩ := hv.is_slice
        have HV := Lib.hid hv
        have h2 := two_new w (.string t.name) (.slice a t.args.length c) 26 _ rfl
        have H2 := Lib.hid h2
        obtain ⟨b0, b1, b2⟩ := h2
        clear h hv
        go_enter Try.func111, Try.ntmps111
        go_wp2_with fail
        refine (CV.out _).mono ?_
        rintro e w' ⟨rfl, rfl⟩
        go_wp2_with fail
        refine (CS.out _).mono ?_
        rintro e w' ⟨rfl, rfl⟩
        go_wp2
        go_loopw [3] (fun i wr => ∃ k : Nat, k ≤ t.args.length ∧ i = .int .i64 k ∧ (t.args.take k).all Tm.nodesB = true ∧ Two wr w.heap.size (.string t.name) (.slice a t.args.length c) ∧ Below w.heap.size w wr) (fun i _ => t.args.length - (intOf i).toNat)
        case atStart => exact ⟨0, Nat.zero_le _, rfl, by simp, H2.out, (Below.refl _ _).alloc (Nat.le_refl _) _⟩
        case round =>
            obtain ⟨k, hk, rfl, hq, htwo, hbel⟩ := hrel
            have HQ := Lib.hid hq
            clear hq
            have HB := Lib.hid hbel
            have h2w := htwo
            have H2W := Lib.hid htwo
            obtain ⟨d0, d1, d2⟩ := h2w
            clear hbel htwo b0 b1 b2
            by_cases hlt : k < t.args.length
            · obtain ⟨s, hs⟩ : ∃ s, t.args[k]? = some s := ⟨_, List.getElem?_eq_getElem hlt⟩
              obtain ⟨b, off, rfl, va, c0, c1, hva⟩ := HV.out.get hs
              have c0' := carry_cell c0 HB.out
              have c1' := carry_cell c1 HB.out
              have HVA := Lib.hid (hva.kept HB.out)
              have HS := Lib.hid hs
              clear hs c0 c1 hva
              go_wp2_with fail
              refine (H.out s (mem_of_at HS.out) _ va HVA.out (HL.out s (mem_of_at HS.out))).mono ?_
              rintro e w' ⟨rfl, hb⟩
              have HB2 := Lib.hid (carry_below HB.out (Nat.le_refl _) hb)
              have H2W2 := Lib.hid (H2W.out.kept hb)
              obtain ⟨e0, e1, e2⟩ := H2W.out.kept hb
              clear hb
              cases hn : s.nodesB with
              | true =>
                have HN := Lib.hid ((all_next (p := Tm.nodesB) HS.out).trans (by rw [HQ.out, hn, Bool.and_self]))
                clear hn
                go_wp2
                go_roundw
                case rel => exact ⟨k + 1, by omega, by go_num, HN.out, H2W2.out, HB2.out⟩
                case measure => simp [intOf]; omega
              | false =>
                have HN := Lib.hid (all_no (p := Tm.nodesB) HS.out hn)
                clear hn
                go_wp2
                go_ret
                exact ⟨ret_bool (by rw [HE.out, HN.out]), HB2.out⟩
            · have HF : Hid (t.args.all Tm.nodesB = true) := Lib.hid (by rw [← all_all (p := Tm.nodesB) (l := t.args) (k := k) (by omega)]; exact HQ.out)
              go_wp2
              go_ret
              exact ⟨ret_bool (by rw [HE.out, HF.out]), HB.out⟩
      · have HE : Hid (t.nodesB = false) := Lib.hid (by rw [HE0]; simp [h4])
        obtain ⟨a, c, rfl⟩ := hv.is_slice
        clear HE0 hv h
        go_enter Try.func111, Try.ntmps111
        go_wp2_with fail
        refine (CV.out _).mono ?_
        rintro e w' ⟨rfl, rfl⟩
        go_wp2_with fail
        refine (CS.out _).mono ?_
        rintro e w' ⟨rfl, rfl⟩
        go_wp2
        go_ret
        exact ⟨ret_bool HE.out.symm, (Below.refl _ _).alloc (Nat.le_refl _) _⟩

theorem l2Nodes_any (t : Tm) : NodesT t := Tm.ind (P := NodesT) nodes_of t

set_option maxHeartbeats 1000000 in
theorem l2Fits_any (t : Tm) (w : World) (va : Value) (hv : TmS w va t.args) (hw : t.wt ≤ 1048576) :
    Calls Try.prog 110 #[.agg #[.string t.name, va]] w (Ans (.bool (fitsB t)) w) := by
  obtain ⟨a, c, rfl⟩ := hv.is_slice
  have HV := Lib.hid hv
  clear hv
  by_cases hs : t.sz ≤ 30
  · have HF : Hid (fitsB t = decide ((t.dp : Int) ≤ 8)) := Lib.hid (by simp [fitsB, hs]; omega)
    go_enter Try.func110, Try.ntmps110
    go_wp2_with fail
    refine (l2Many_any t _ _ 30 (HV.out.alloc _) hw (by omega)).mono ?_
    rintro e w' ⟨rfl, hb⟩
    have HB := Lib.hid (carry_below (((Below.refl w.heap.size w).alloc (Nat.le_refl _) _)) (Nat.le_refl _) hb)
    obtain ⟨b0, b1, b2⟩ := (two_new w (.string t.name) (.slice a t.args.length c) 26 _ rfl).kept hb
    rw [show min t.sz (30 + 1) = t.sz by omega]
    clear hb
    go_wp2_with fail
    refine (l2Depth_any t _ _ (HV.out.kept HB.out) hw).mono ?_
    rintro e w2 ⟨rfl, hb⟩
    have HB2 := Lib.hid (carry_below HB.out (Nat.le_refl _) hb)
    clear hb
    go_wp2
    go_ret
    exact ⟨ret_bool HF.out.symm, HB2.out⟩
  · have HF : Hid (fitsB t = false) := Lib.hid (by simp [fitsB, hs])
    go_enter Try.func110, Try.ntmps110
    go_wp2_with fail
    refine (l2Many_any t _ _ 30 (HV.out.alloc _) hw (by omega)).mono ?_
    rintro e w' ⟨rfl, hb⟩
    have HB := Lib.hid (carry_below (((Below.refl w.heap.size w).alloc (Nat.le_refl _) _)) (Nat.le_refl _) hb)
    rw [show min t.sz (30 + 1) = 31 by omega]
    clear hb
    go_wp2
    go_ret
    exact ⟨ret_bool HF.out.symm, HB.out⟩

set_option maxHeartbeats 1000000 in
theorem l2Good_any (t : Tm) (w : World) (va : Value) (hv : TmS w va t.args) (hw : t.wt ≤ 1048576) :
    Calls Try.prog 52 #[.agg #[.string t.name, va]] w (Ans (.bool (goodB t)) w) := by
  obtain ⟨a, c, rfl⟩ := hv.is_slice
  have HV := Lib.hid hv
  clear hv
  go_enter Try.func52, Try.ntmps52
  go_wp2_with fail
  refine (l2Fits_any t _ _ (HV.out.alloc _) hw).mono ?_
  rintro e w' ⟨rfl, hb⟩
  have HB := Lib.hid (carry_below (((Below.refl w.heap.size w).alloc (Nat.le_refl _) _)) (Nat.le_refl _) hb)
  obtain ⟨b0, b1, b2⟩ := (two_new w (.string t.name) (.slice a t.args.length c) 26 _ rfl).kept hb
  clear hb
  cases hf : fitsB t with
  | true =>
    have HF : Hid (goodB t = t.nodesB) := Lib.hid (by simp [goodB, hf])
    clear hf
    go_wp2_with fail
    refine (l2Nodes_any t _ _ (HV.out.kept HB.out) hw).mono ?_
    rintro e w2 ⟨rfl, hb⟩
    have HB2 := Lib.hid (carry_below HB.out (Nat.le_refl _) hb)
    clear hb
    go_wp2
    go_ret
    exact ⟨ret_bool HF.out.symm, HB2.out⟩
  | false =>
    have HF : Hid (goodB t = false) := Lib.hid (by simp [goodB, hf])
    clear hf
    go_wp2
    go_ret
    exact ⟨ret_bool HF.out.symm, HB.out⟩

theorem two_args {l : List Tm} (h : l.length = 2) : ∃ x y, l = [x, y] := by
  match l, h with
  | [x, y], _ => exact ⟨x, y, rfl⟩

set_option maxHeartbeats 1000000 in
theorem l2Atom_any (t : Tm) (w : World) (va : Value) (hv : TmS w va t.args) (hw : t.wt ≤ 1048576) :
    Calls Try.prog 53 #[.agg #[.string t.name, va]] w (Ans (.bool (atomB t)) w) := by
  obtain ⟨a, c, rfl⟩ := hv.is_slice
  have HV := Lib.hid hv
  have h2 := (two_new w (.string t.name) (.slice a t.args.length c) 26 _ rfl)
  have H2 := Lib.hid h2
  obtain ⟨b0, b1, b2⟩ := h2
  clear hv
  cases heq : isEqB t.name with
  | true =>
    have hq : (t.name.toList == [61]) = true := heq
    have HAT : Hid (atomB t = (decide (t.args.length = 2) && (fitsB t && t.args.all Tm.nodesB))) := Lib.hid (by unfold atomB; rw [heq]; rfl)
    clear heq
    by_cases hl : t.args.length = 2
    · have hl2 : ((t.args.length : Int) == 2) = true := by rw [hl]; rfl
      obtain ⟨x, y, hxy⟩ := two_args hl
      have HX : Hid (t.args[0]? = some x) := Lib.hid (by rw [hxy]; rfl)
      have HY : Hid (t.args[1]? = some y) := Lib.hid (by rw [hxy]; rfl)
      have HAT2 : Hid (atomB t = (fitsB t && (x.nodesB && y.nodesB))) := Lib.hid (by rw [HAT.out, hxy]; simp)
      have hlt0 : (0 : Int) < (t.args.length : Int) := by omega
      have hlt1 : (1 : Int) < (t.args.length : Int) := by omega
      have HL := Lib.hid (fun (s : Tm) (hs : s ∈ t.args) => Nat.le_trans (Tm.wt_arg hs) hw)
      obtain ⟨b, off, rfl, v1, x0, x1, x2⟩ := HV.out.get HX.out
      obtain ⟨b', off', hbb, v2, y0, y1, y2⟩ := HV.out.get HY.out
      injection hbb with hbb
      injection hbb with hb1 hb2
      subst hb1
      subst hb2
      have X0 := Lib.hid x0
      have X1 := Lib.hid x1
      have X2 := Lib.hid x2
      have Y0 := Lib.hid y0
      have Y1 := Lib.hid y1
      have Y2 := Lib.hid y2
      clear hxy HAT x0 x1 x2 y0 y1 y2 hl
      go_enter Try.func53, Try.ntmps53
      go_wp2_with fail
      refine (l2Fits_any t _ _ (HV.out.alloc _) hw).mono ?_
      rintro e w' ⟨rfl, hb⟩
      have HB := Lib.hid (carry_below (((Below.refl w.heap.size w).alloc (Nat.le_refl _) _)) (Nat.le_refl _) hb)
      have H2' := Lib.hid (H2.out.kept hb)
      obtain ⟨b0, b1, b2⟩ := H2.out.kept hb
      clear hb
      cases hf : fitsB t with
      | false =>
        have HF : Hid (atomB t = false) := Lib.hid (by rw [HAT2.out, hf]; rfl)
        clear hf
        go_wp2
        go_ret
        exact ⟨ret_bool HF.out.symm, HB.out⟩
      | true =>
        have HF : Hid (atomB t = (x.nodesB && y.nodesB)) := Lib.hid (by rw [HAT2.out, hf]; rfl)
        have x0 := carry_cell X0.out HB.out
        have x1 := carry_cell X1.out HB.out
        clear hf
        simp only [Nat.zero_mul, Nat.add_zero] at x0 x1
        go_wp2_with fail
        refine (l2Nodes_any x _ v1 (X2.out.kept HB.out) (HL.out x (mem_of_at HX.out))).mono ?_
        rintro e w2 ⟨rfl, hb⟩
        have HB2 := Lib.hid (carry_below HB.out (Nat.le_refl _) hb)
        obtain ⟨b0, b1, b2⟩ := H2'.out.kept hb
        clear hb x0 x1
        cases hn : x.nodesB with
        | false =>
          have HF2 : Hid (atomB t = false) := Lib.hid (by rw [HF.out, hn]; rfl)
          clear hn
          go_wp2
          go_ret
          exact ⟨ret_bool HF2.out.symm, HB2.out⟩
        | true =>
          have HF2 : Hid (atomB t = y.nodesB) := Lib.hid (by rw [HF.out, hn]; rfl)
          have y0 := carry_cell Y0.out HB2.out
          have y1 := carry_cell Y1.out HB2.out
          simp only [Nat.one_mul, Nat.add_assoc, Nat.reduceAdd] at y0 y1
          clear hn
          go_wp2_with fail
          refine (l2Nodes_any y _ v2 (Y2.out.kept HB2.out) (HL.out y (mem_of_at HY.out))).mono ?_
          rintro e w3 ⟨rfl, hb⟩
          have HB3 := Lib.hid (carry_below HB2.out (Nat.le_refl _) hb)
          clear hb
          go_wp2
          go_ret
          exact ⟨ret_bool HF2.out.symm, HB3.out⟩
    · have hl2 : ((t.args.length : Int) == 2) = false := by rw [beq_eq_false_iff_ne]; omega
      have HF : Hid (atomB t = false) := Lib.hid (by rw [HAT.out]; simp [hl])
      clear hl HAT
      go_enter Try.func53, Try.ntmps53
      go_wp2
      go_ret
      exact ⟨ret_bool HF.out.symm, (Below.refl _ _).alloc (Nat.le_refl _) _⟩
  | false =>
    have hq : (t.name.toList == [61]) = false := heq
    have HAT : Hid (atomB t = (symB t.name && goodB t)) := Lib.hid (by unfold atomB; rw [heq]; rfl)
    have CS0 := fun W => l2Symbol_any t.name W (by have := Tm.wt_name t; unfold maxLen; omega)
    clear heq
    cases hs : symB t.name with
    | false =>
      rw [hs] at CS0
      have CS := Lib.hid CS0
      have HF : Hid (atomB t = false) := Lib.hid (by rw [HAT.out, hs]; rfl)
      clear hs CS0
      go_enter Try.func53, Try.ntmps53
      go_wp2_with fail
      refine (CS.out _).mono ?_
      rintro e w' ⟨rfl, rfl⟩
      go_wp2
      go_ret
      exact ⟨ret_bool HF.out.symm, (Below.refl _ _).alloc (Nat.le_refl _) _⟩
    | true =>
      rw [hs] at CS0
      have CS := Lib.hid CS0
      have HF : Hid (atomB t = goodB t) := Lib.hid (by rw [HAT.out, hs]; rfl)
      clear hs CS0
      go_enter Try.func53, Try.ntmps53
      go_wp2_with fail
      refine (CS.out _).mono ?_
      rintro e w' ⟨rfl, rfl⟩
      go_wp2_with fail
      refine (l2Good_any t _ _ (HV.out.alloc _) hw).mono ?_
      rintro e w' ⟨rfl, hb⟩
      have HB := Lib.hid (carry_below (((Below.refl w.heap.size w).alloc (Nat.le_refl _) _)) (Nat.le_refl _) hb)
      clear hb
      go_wp2
      go_ret
      exact ⟨ret_bool HF.out.symm, HB.out⟩

set_option maxHeartbeats 1000000 in
theorem l2Any_any (t : Tm) (w : World) (va : Value) (hv : TmS w va t.args) (hw : t.wt ≤ 1048576) :
    Calls Try.prog 72 #[.agg #[.string t.name, va]] w (Ans (.bool (anyB t)) w) := by
  obtain ⟨a, c, rfl⟩ := hv.is_slice
  have HV := Lib.hid hv
  clear hv
  go_enter Try.func72, Try.ntmps72
  go_wp2_with fail
  refine (l2Good_any t _ _ (HV.out.alloc _) hw).mono ?_
  rintro e w' ⟨rfl, hb⟩
  have HB := Lib.hid (carry_below (((Below.refl w.heap.size w).alloc (Nat.le_refl _) _)) (Nat.le_refl _) hb)
  obtain ⟨b0, b1, b2⟩ := (two_new w (.string t.name) (.slice a t.args.length c) 26 _ rfl).kept hb
  clear hb
  cases hf : goodB t with
  | false =>
    have HF : Hid (anyB t = atomB t) := Lib.hid (by simp [anyB, hf])
    clear hf
    go_wp2_with fail
    refine (l2Atom_any t _ _ (HV.out.kept HB.out) hw).mono ?_
    rintro e w2 ⟨rfl, hb⟩
    have HB2 := Lib.hid (carry_below HB.out (Nat.le_refl _) hb)
    clear hb
    go_wp2
    go_ret
    exact ⟨ret_bool HF.out.symm, HB2.out⟩
  | true =>
    have HF : Hid (anyB t = true) := Lib.hid (by simp [anyB, hf])
    clear hf
    go_wp2
    go_ret
    exact ⟨ret_bool HF.out.symm, HB.out⟩

theorem specTerm_any (t : Tm) (w : World) (va : Value) (hv : TmS w va t.args) (hw : t.wt ≤ 1048576) :
    Calls Try.prog 13 #[.agg #[.string t.name, va]] w (Ans (.bool (goodB t)) w) := by
  obtain ⟨a, c, rfl⟩ := hv.is_slice
  have HV := Lib.hid hv
  clear hv
  go_enter Try.func13, Try.ntmps13
  go_wp2_with fail
  refine (l2Good_any t _ _ (HV.out.alloc _) hw).mono ?_
  rintro e w' ⟨rfl, hb⟩
  have HB := Lib.hid (carry_below (((Below.refl w.heap.size w).alloc (Nat.le_refl _) _)) (Nat.le_refl _) hb)
  clear hb
  go_wp2
  go_ret
  exact ⟨rfl, HB.out⟩

theorem specAtom_any (t : Tm) (w : World) (va : Value) (hv : TmS w va t.args) (hw : t.wt ≤ 1048576) :
    Calls Try.prog 14 #[.agg #[.string t.name, va]] w (Ans (.bool (atomB t)) w) := by
  obtain ⟨a, c, rfl⟩ := hv.is_slice
  have HV := Lib.hid hv
  clear hv
  go_enter Try.func14, Try.ntmps14
  go_wp2_with fail
  refine (l2Atom_any t _ _ (HV.out.alloc _) hw).mono ?_
  rintro e w' ⟨rfl, hb⟩
  have HB := Lib.hid (carry_below (((Below.refl w.heap.size w).alloc (Nat.le_refl _) _)) (Nat.le_refl _) hb)
  clear hb
  go_wp2
  go_ret
  exact ⟨rfl, HB.out⟩

end Go.Proofs.Ytppmiedhoimgmaa
