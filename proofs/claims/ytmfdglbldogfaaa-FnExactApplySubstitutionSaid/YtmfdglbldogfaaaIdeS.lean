/- IsIdempotent, the model's, and the model's search for a variable: contracts, for bindings of at most 1048576 names' bytes, bindings and arguments. -/
import Derived.Test.YtmfdglbldogfaaaSubS
import Derived.Test.YtmfdglbldogfaaaIdeM
namespace Go.Proofs.Ytmfdglbldogfaaa
open Go.RowKit
set_option linter.unusedVariables false

def LFEnd (l : List Bd) (nm : ByteArray) (w : World) (e : Ending) (w' : World) : Prop :=
  ((boundB l nm = false ∧ e = .returned (.int .i64 (-1))) ∨ (∃ (i : Nat) (d : Bd), l[i]? = some d ∧ d.var = nm ∧ e = .returned (.int .i64 i))) ∧ Below w.heap.size w w'

set_option maxRecDepth 100000 in
set_option maxHeartbeats 2000000 in
theorem l4Find_any (l : List Bd) (w : World) (v : Value) (hv : BdS w v l) (hl : l.length ≤ 1048576) (nm : ByteArray) :
    Calls Try.prog 94 #[.agg #[v], .string nm] w (LFEnd l nm w) := by
  obtain ⟨a, c, rfl⟩ := hv.is_slice
  have HV := Lib.hid hv
  have H1 := Lib.hid (oner_new w (.slice a l.length c) 29 _ rfl)
  have HB0 := Lib.hid ((Below.refl w.heap.size w).alloc (Nat.le_refl _) (.cells #[.slice a l.length c] 29))
  clear hv
  obtain ⟨b0, b1⟩ := H1.out
  go_enter Try.func94, Try.ntmps94
  go_wp2
  go_loopw [5] (fun i wr => ∃ k : Nat, k ≤ l.length ∧ i = .int .i64 k ∧ (∀ j d, j < k → l[j]? = some d → d.var ≠ nm) ∧ Oner wr w.heap.size (.slice a l.length c) ∧ Below w.heap.size w wr) (fun i _ => l.length - (intOf i).toNat)
  case atStart => exact ⟨0, Nat.zero_le _, rfl, fun j d h => absurd h (Nat.not_lt_zero _), H1.out, HB0.out⟩
  case round =>
    obtain ⟨k, hk, rfl, hq, hone, hbel⟩ := hrel
    have HQ := Lib.hid hq
    have HB := Lib.hid hbel
    have H1W := Lib.hid hone
    clear hq hbel b0 b1
    obtain ⟨d0, d1⟩ := hone
    by_cases hlt : k < l.length
    · obtain ⟨d, hd⟩ : ∃ d, l[k]? = some d := ⟨_, List.getElem?_eq_getElem hlt⟩
      obtain ⟨b, off, rfl, va, c0, c1, c2, hva⟩ := HV.out.get hd
      have c0' := carry_cell c0 HB.out
      have HD := Lib.hid hd
      clear hd hva c0 c1 c2
      by_cases he : d.var = nm
      · have hq : (d.var.toList == nm.toList) = true := str_eq he
        have HE := Lib.hid he
        clear he
        go_wp2
        go_ret
        exact ⟨.inr ⟨k, d, HD.out, HE.out, rfl⟩, HB.out⟩
      · have hq : (d.var.toList == nm.toList) = false := str_ne he
        have HF : Hid (∀ j x, j < k + 1 → l[j]? = some x → x.var ≠ nm) := Lib.hid (fun j x hj hx => by
          by_cases e : j = k
          · subst e; rw [HD.out] at hx; injection hx with hx; rw [← hx]; exact he
          · exact HQ.out j x (by omega) hx)
        clear he
        go_wp2
        go_roundw
        case rel => exact ⟨k + 1, by omega, by go_num, HF.out, H1W.out, HB.out⟩
        case measure => simp [intOf]; omega
    · have HF : Hid (boundB l nm = false) := Lib.hid (bound_no.2 fun d hd => by
        obtain ⟨j, hj⟩ := List.getElem?_of_mem hd
        exact HQ.out j d (by have := (List.getElem?_eq_some_iff.1 hj).1; omega) hj)
      go_wp2
      go_ret
      exact ⟨.inl ⟨HF.out, rfl⟩, HB.out⟩

theorem ret_bb' {a b c d : Bool} (h : a = b) (k : c = d) : Ending.returned (.tuple #[.bool a, .bool c]) = .returned (.tuple #[.bool b, .bool d]) := by rw [h, k]

set_option maxRecDepth 100000 in
set_option maxHeartbeats 4000000 in
theorem specIsIdempotent_any (l : List Bd) (w : World) (v : Value) (hv : BdS w v l) (hw : wtB l ≤ 1048576) :
    Calls Try.prog 38 #[.agg #[v]] w (Ans (.tuple #[.bool (ide l), .bool (goodS l)]) w) := by
  have hl6 : l.length ≤ 1048576 := Nat.le_trans (wtB_len l) hw
  have HW := Lib.hid hw
  obtain ⟨a, c, rfl⟩ := hv.is_slice
  have HV := Lib.hid hv
  have H1 := Lib.hid (oner_new w (.slice a l.length c) 29 _ rfl)
  have HB0 := Lib.hid ((Below.refl w.heap.size w).alloc (Nat.le_refl _) (.cells #[.slice a l.length c] 29))
  clear hv hw
  obtain ⟨b0, b1⟩ := H1.out
  go_enter Try.func38, Try.ntmps38
  go_wp2_with fail
  refine (l4Good_any l _ _ (HV.out.alloc _) HW.out).mono ?_
  rintro e w1 ⟨rfl, hb⟩
  have HB1 := Lib.hid (carry_below HB0.out (Nat.le_refl _) hb)
  have H11 := Lib.hid (H1.out.kept hb)
  clear hb b0 b1
  obtain ⟨b0, b1⟩ := H11.out
  cases hg : goodS l with
  | false =>
    have HF := Lib.hid (ide_bad hg)
    have HG := Lib.hid hg
    clear hg
    go_wp2
    go_ret2
    exact ⟨ret_bb' HF.out.symm HG.out.symm, HB1.out⟩
  | true =>
    have HF := Lib.hid (ide_good hg)
    have HG := Lib.hid hg
    clear hg
    go_wp2
    go_loopw [4] (fun i wr => ∃ k : Nat, k ≤ l.length ∧ i = .int .i64 k ∧ ideS l k = true ∧ Oner wr w.heap.size (.slice a l.length c) ∧ Below w.heap.size w wr) (fun i _ => l.length - (intOf i).toNat)
    case atStart => exact ⟨0, Nat.zero_le _, rfl, by simp [ideS], H11.out, HB1.out⟩
    case round =>
      obtain ⟨k, hk, rfl, hq, hone, hbel⟩ := hrel
      have HQ := Lib.hid hq
      have HB := Lib.hid hbel
      have H1W := Lib.hid hone
      obtain ⟨d0, d1⟩ := hone
      clear hq hbel b0 b1
      by_cases hlt : k < l.length
      · obtain ⟨d, hd⟩ : ∃ d, l[k]? = some d := ⟨_, List.getElem?_eq_getElem hlt⟩
        obtain ⟨b, off, rfl, va, c0, c1, c2, hva⟩ := HV.out.get hd
        obtain ⟨pa, ca, rfl⟩ := hva.is_slice
        have c1' := carry_cell c1 HB.out
        have c2' := carry_cell c2 HB.out
        have HD := Lib.hid hd
        have HN := Lib.hid (ideS_next hd)
        have hgd := okAt_good (goodS_at HG.out hd)
        have hsz : d.tm.sz ≤ 30 := by
          unfold goodB at hgd; simp only [Bool.and_eq_true] at hgd
          have h := hgd.1; simp [fitsB] at h; exact h.1
        have HC := Lib.hid (vars_any d.tm wr _ (hva.kept HB.out) (Nat.le_trans (wtB_tm (mem_of_at hd)) HW.out) (by omega))
        obtain ⟨ss, hss⟩ : ∃ ss, ss = d.tm.into [] := ⟨_, rfl⟩
        have HSS := Lib.hid hss
        have hsl : ss.length ≤ 30 := by have := d.tm.into_len []; rw [hss]; simpa using Nat.le_trans this (by simpa using hsz)
        clear hd hva c0 c1 c2 hgd hss
        go_wp2_with fail
        refine HC.out.mono ?_
        rintro e w2 ⟨v2, rfl, hlv, hb⟩
        rw [← HSS.out] at hlv
        have HB2 := Lib.hid (carry_below HB.out (Nat.le_refl _) hb)
        have H1W2 := Lib.hid (H1W.out.kept hb)
        have HLV := Lib.hid hlv
        obtain ⟨sb, sc, rfl, hsc, hsb, hsx⟩ := hlv
        have HSX := Lib.hid hsx
        clear hb hsx d0 d1 c1' c2'
        go_wp2
        go_loopw [6] (fun i wq => ∃ j : Nat, j ≤ ss.length ∧ i = .int .i64 j ∧ freeS l ss j = true ∧ Oner wq w.heap.size (.slice (some ⟨b, off, none⟩) l.length c) ∧ Below w.heap.size w wq ∧ Below w2.heap.size w2 wq) (fun i _ => ss.length - (intOf i).toNat)
        case atStart => exact ⟨0, Nat.zero_le _, rfl, by simp [freeS], H1W2.out, HB2.out, Below.refl _ _⟩
        case round =>
          obtain ⟨j, hj, rfl, hq2, hone2, hbel2, hbel3⟩ := hrel
          have HQ2 := Lib.hid hq2
          have HB3 := Lib.hid hbel2
          have HB4 := Lib.hid hbel3
          have H1W3 := Lib.hid hone2
          clear hq2 hbel2 hbel3
          by_cases hjk : j < ss.length
          · obtain ⟨x, hx⟩ : ∃ x, ss[j]? = some x := ⟨_, List.getElem?_eq_getElem hjk⟩
            have hxc : wr.cell? ⟨sb, j, none⟩ = some (.string x) := by
              have h := carry_cell (HSX.out j hjk) HB4.out
              rw [List.getD_eq_getElem?_getD, hx] at h
              exact h
            have HX := Lib.hid hx
            have HN2 := Lib.hid (freeS_next (l := l) hx)
            have hj2 : (j : Int) < (ss.length : Int) := by omega
            have hj3 : (0 : Int) ≤ (j : Int) := by omega
            have CF : Hid (∀ W, Below wr.heap.size wr W → Calls Try.prog 94 #[.agg #[.slice (some ⟨b, off, none⟩) l.length c], .string x] W (LFEnd l x W)) := Lib.hid (fun W hW => l4Find_any l W _ ((HV.out.kept HB3.out).kept hW) hl6 x)
            obtain ⟨d0, d1⟩ := hone2.drew
            have x0 : wr.drew.cell? ⟨sb, j, none⟩ = some (.string x) := carry_cell hxc (Below.refl _ _).drew
            have hB0 : Below wr.heap.size wr wr.drew := (Below.refl _ _).drew
            clear hx hxc
            cases hb : boundB l x with
            | false =>
              have HF2 : Hid (freeS l ss (j + 1) = true) := Lib.hid (by rw [HN2.out, HQ2.out, hb]; rfl)
              have CF2 : Hid (∀ W, Below wr.heap.size wr W → Calls Try.prog 94 #[.agg #[.slice (some ⟨b, off, none⟩) l.length c], .string x] W (fun e w' => e = .returned (.int .i64 (-1)) ∧ Below W.heap.size W w')) := Lib.hid (fun W hW => (CF.out W hW).mono fun e w' h => by
                obtain ⟨h | ⟨i, y, hy, e1, _⟩, hbb⟩ := h
                · exact ⟨h.2, hbb⟩
                · exact absurd e1 (bound_no.1 hb y (List.mem_of_getElem? hy)))
              clear hb
              go_wp2_with fail
              go_region_held3 (fun w' => w'.cell? ⟨w.heap.size, 0, none⟩ = some (.slice (some ⟨b, off, none⟩) l.length c) ∧ w'.cell? ⟨sb, j, none⟩ = some (.string x) ∧ Below wr.heap.size wr w') (first | exact ⟨by assumption, by assumption, by assumption⟩ | go_keep) (first | (go_at_call 94; refine (CF2.out _ (by assumption)).mono ?_; rintro e w6 ⟨rfl, hb⟩; have d0 := carry_cell' hb d0; have x0 := carry_cell' hb x0; have hB := carry_below hB0 (Nat.le_refl _) hb; clear hb))
              have HB5 : Hid (Below w.heap.size w w6) := Lib.hid (HB3.out.trans (hB.mono HB3.out.size))
              have HB6 : Hid (Below w2.heap.size w2 w6) := Lib.hid (HB4.out.trans (hB.mono HB4.out.size))
              have HO6 := Lib.hid (H1W3.out.kept hB)
              go_wp2
              go_roundw
              case rel => exact ⟨j + 1, by omega, by go_num, HF2.out, HO6.out, HB5.out, HB6.out⟩
              case measure => simp [intOf]; omega
            | true =>
              have HF2 : Hid (ide l = false) := Lib.hid (HF.out.trans (ideS_no HD.out (by unfold ideAt; rw [← HSS.out]; exact freeS_no HX.out hb)))
              have CF2 : Hid (∀ W, Below wr.heap.size wr W → Calls Try.prog 94 #[.agg #[.slice (some ⟨b, off, none⟩) l.length c], .string x] W (fun e w' => (∃ i : Nat, e = .returned (.int .i64 i)) ∧ Below W.heap.size W w')) := Lib.hid (fun W hW => (CF.out W hW).mono fun e w' h => by
                obtain ⟨h | ⟨i, y, hy, e1, e2⟩, hbb⟩ := h
                · rw [hb] at h; cases h.1
                · exact ⟨⟨i, e2⟩, hbb⟩)
              clear hb
              go_wp2_with fail
              go_region_held3 (fun w' => w'.cell? ⟨w.heap.size, 0, none⟩ = some (.slice (some ⟨b, off, none⟩) l.length c) ∧ w'.cell? ⟨sb, j, none⟩ = some (.string x) ∧ Below wr.heap.size wr w') (first | exact ⟨by assumption, by assumption, by assumption⟩ | go_keep) (first | (go_at_call 94; refine (CF2.out _ (by assumption)).mono ?_; rintro e w6 ⟨⟨fi, rfl⟩, hb⟩; have d0 := carry_cell' hb d0; have x0 := carry_cell' hb x0; have hB := carry_below hB0 (Nat.le_refl _) hb; have hfi : (0 : Int) ≤ (fi : Int) := (by omega); clear hb))
              have HB5 : Hid (Below w.heap.size w w6) := Lib.hid (HB3.out.trans (hB.mono HB3.out.size))
              go_wp2
              go_ret2
              exact ⟨ret_bb' HF2.out.symm HG.out.symm, HB5.out⟩
          · have hje : j = ss.length := by omega
            have HF2 : Hid (ideS l (k + 1) = true) := Lib.hid (by
              rw [HN.out, HQ.out]
              show ideAt l d = true
              unfold ideAt
              rw [← HSS.out, ← hje]; exact HQ2.out)
            obtain ⟨d0, d1⟩ := hone2
            go_wp2
            go_roundw
            case rel => exact ⟨k + 1, by omega, by go_num, HF2.out, H1W3.out, HB3.out⟩
            case measure => simp [intOf]; omega
      · have hke : k = l.length := by omega
        subst hke
        have HF2 : Hid (ide l = true) := Lib.hid (HF.out.trans HQ.out)
        go_wp2
        go_ret2
        exact ⟨ret_bb' HF2.out.symm HG.out.symm, HB.out⟩

end Go.Proofs.Ytmfdglbldogfaaa
