/- The model's text of a term and of an expression: contracts, for valid nodes and terms of at most 1048576 names' bytes and arguments. -/
import Derived.Test.YtgpmdfhepanahaaTxt
import Derived.Test.YtgpmdfhepanahaaSpecV
import Derived.Deep.RegionHeld3
import Derived.Deep.RegionWith
namespace Go.Proofs.Ytgpmdfhepanahaa
open Go.RowKit
set_option linter.unusedVariables false

theorem ret_str {a b : ByteArray} (h : a = b) : Ending.returned (.string a) = .returned (.string b) := by rw [h]
theorem ret_strb {a b : ByteArray} {p q : Bool} (h : a = b) (k : p = q) : Ending.returned (.tuple #[.string a, .bool p]) = .returned (.tuple #[.string b, .bool q]) := by rw [h, k]

theorem eq_name {s : ByteArray} (h : isEqB s = true) : s = bs [61] := by
  unfold isEqB at h
  rw [beq_iff_eq, ByteArray.toList_eq] at h
  rw [← bs_of s, h]
theorem var_eq : varB (bs [61]) = false := by decide +kernel
theorem sym_eq : symB (bs [61]) = false := by decide +kernel
theorem nodes_noteq {t : Tm} (h : t.nodesB = true) : isEqB t.name = false := by
  cases h2 : isEqB t.name with
  | false => rfl
  | true =>
    have e := eq_name h2
    have hv : varB t.name = false := by rw [e]; exact var_eq
    rw [Tm.nodesB_sym hv, e, sym_eq] at h
    cases h

theorem nodes_args {t : Tm} (h : t.nodesB = true) : ∀ s ∈ t.args, s.nodesB = true := by
  intro s hs
  cases hv : varB t.name with
  | true =>
    rw [Tm.nodesB_var hv] at h
    cases hl : t.args with
    | nil => rw [hl] at hs; cases hs
    | cons a r => rw [hl] at h; cases h
  | false =>
    rw [Tm.nodesB_sym hv] at h
    simp only [Bool.and_eq_true, decide_eq_true_eq, List.all_eq_true] at h
    exact h.2.2 s hs

def L3T (t : Tm) : Prop := ∀ (w : World) (va : Value), TmS w va t.args → t.wt ≤ 1048576 → t.nodesB = true →
  Calls Try.prog 134 #[.agg #[.string t.name, va]] w (Ans (.string (bs t.txt)) w)

set_option maxHeartbeats 2000000 in
theorem l3_of (t : Tm) (h : ∀ s ∈ t.args, L3T s) : L3T t := by
  intro w va hv hw hnb
  have hq : (t.name.toList == [61]) = false := nodes_noteq hnb
  have H := Lib.hid (fun s hs W v hv => h s hs W v hv (Nat.le_trans (Tm.wt_arg hs) hw) (nodes_args hnb s hs))
  have hlen := Tm.wt_len t
  obtain ⟨a, c, rfl⟩ := hv.is_slice
  have HV := Lib.hid hv
  have h2 := two_new w (.string t.name) (.slice a t.args.length c) 32 _ rfl
  have H2 := Lib.hid h2
  have HP0 : Hid (t.name = bs (part t 0)) := Lib.hid (by rw [part_zero, bs_of])
  obtain ⟨b0, b1, b2⟩ := h2
  clear h hv hnb
  go_enter Try.func134, Try.ntmps134
  go_wp2
  clear hq
  go_loopw [3, 4] (fun n i wr => ∃ (k : Nat) (p : ByteArray), k ≤ t.args.length ∧ i = .int .i64 k ∧ n = .string p ∧ p = bs (part t k) ∧ Two wr w.heap.size (.string t.name) (.slice a t.args.length c) ∧ Below w.heap.size w wr) (fun _ i _ => t.args.length - (intOf i).toNat)
  case atStart => exact ⟨0, t.name, Nat.zero_le _, rfl, rfl, HP0.out, H2.out, (Below.refl _ _).alloc (Nat.le_refl _) _⟩
  case round =>
      obtain ⟨k, p, hk, rfl, rfl, hq, htwo, hbel⟩ := hrel
      have HQ := Lib.hid hq
      have hps : p.size ≤ 4000000 := by have h1 := part_len hk; have h2 := t.txt_wt; rw [hq, bs_size]; omega
      clear hq
      have HB := Lib.hid hbel
      have h2w := htwo
      have H2W := Lib.hid htwo
      obtain ⟨d0, d1, d2⟩ := h2w
      clear hbel htwo b0 b1 b2
      by_cases hlt : k < t.args.length
      · obtain ⟨s, hs⟩ : ∃ s, t.args[k]? = some s := ⟨_, List.getElem?_eq_getElem hlt⟩
        obtain ⟨b, off, rfl, va, c0, c1, hva⟩ := HV.out.get hs
        have c0' := carry_cell c0 HB.out
        have c1' := carry_cell c1 HB.out
        have HVA := Lib.hid (hva.kept HB.out)
        have HS := Lib.hid hs
        clear hs c0 c1 hva
        obtain ⟨q, hq⟩ : ∃ q, q = bs s.txt := ⟨_, rfl⟩
        have HC := H.out s (mem_of_at HS.out) _ va HVA.out
        rw [← hq] at HC
        have hqs : q.size ≤ 4000000 := by have h2 := s.txt_wt; have h3 := Tm.wt_arg (mem_of_at HS.out); rw [hq, bs_size]; omega
        have HC := Lib.hid HC
        have HQS := Lib.hid hq
        clear hq
        by_cases hk0 : k = 0
        · have hk0' : ((k : Int) == 0) = true := by rw [hk0]; rfl
          have HN : Hid (p ++ ⟨#[40]⟩ ++ q = bs (part t (k + 1))) := Lib.hid (by
            have := HS.out
            subst hk0
            rw [part_first this, HQ.out, HQS.out, part_zero, ← bs_append, ← bs_append]; rfl)
          have hz1 : (p ++ ⟨#[40]⟩).size ≤ 4000001 := by rw [app_size]; show p.size + 1 ≤ _; omega
          clear hk0
          go_wp2_with fail
          refine HC.out.mono ?_
          rintro e w' ⟨rfl, hb⟩
          have HB2 := Lib.hid (carry_below HB.out (Nat.le_refl _) hb)
          have H2W2 := Lib.hid (H2W.out.kept hb)
          obtain ⟨e0, e1, e2⟩ := H2W.out.kept hb
          clear hb
          go_wp2
          go_roundw
          case rel => exact ⟨k + 1, _, by omega, by go_num, rfl, HN.out, H2W2.out, HB2.out⟩
          case measure => simp [intOf]; omega
        · have hk0' : ((k : Int) == 0) = false := by rw [beq_eq_false_iff_ne]; omega
          have HN : Hid (p ++ ⟨#[44]⟩ ++ q = bs (part t (k + 1))) := Lib.hid (by
            rw [part_next HS.out (by omega), HQ.out, HQS.out, ← bs_append, ← bs_append]; rfl)
          have hz1 : (p ++ ⟨#[44]⟩).size ≤ 4000001 := by rw [app_size]; show p.size + 1 ≤ _; omega
          clear hk0
          go_wp2_with fail
          refine HC.out.mono ?_
          rintro e w' ⟨rfl, hb⟩
          have HB2 := Lib.hid (carry_below HB.out (Nat.le_refl _) hb)
          have H2W2 := Lib.hid (H2W.out.kept hb)
          obtain ⟨e0, e1, e2⟩ := H2W.out.kept hb
          clear hb
          go_wp2
          go_roundw
          case rel => exact ⟨k + 1, _, by omega, by go_num, rfl, HN.out, H2W2.out, HB2.out⟩
          case measure => simp [intOf]; omega
      · have hke : k = t.args.length := by omega
        subst hke
        by_cases h0 : 0 < t.args.length
        · have HF : Hid (p ++ ⟨#[41]⟩ = bs t.txt) := Lib.hid (by rw [HQ.out, ← part_all h0, ← bs_append]; rfl)
          have h0' : (0 : Int) < (t.args.length : Int) := by omega
          go_wp2
          go_ret
          exact ⟨ret_str HF.out, HB.out⟩
        · have HF : Hid (p = bs t.txt) := Lib.hid (by
            have h1 : t.args.length = 0 := by omega
            rw [HQ.out, h1, part_zero, Tm.txt_none h1])
          have h0' : ¬ (0 : Int) < (t.args.length : Int) := by omega
          go_wp2
          go_ret
          exact ⟨ret_str HF.out, HB.out⟩

theorem l3Term_any (t : Tm) : L3T t := Tm.ind (P := L3T) l3_of t

end Go.Proofs.Ytgpmdfhepanahaa
