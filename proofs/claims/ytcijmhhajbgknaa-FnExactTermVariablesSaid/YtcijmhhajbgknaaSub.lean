/- SubtermAt, the program's and the model's: contracts, for terms of at most 1048576 names' bytes and arguments and positions of at most 1048576 indices. -/
import Derived.Test.YtcijmhhajbgknaaSizes
import Derived.Test.YtcijmhhajbgknaaOrdS
import Derived.Test.YtcijmhhajbgknaaCopy
import Derived.Test.YtcijmhhajbgknaaOwn
import Derived.Test.YtcijmhhajbgknaaInts
namespace Go.Proofs.Ytcijmhhajbgknaa
open Go.RowKit
set_option linter.unusedVariables false

/-- The subterm at a position. -/
def subAt : List Int → Tm → Option Tm
  | [], t => some t
  | i :: r, t => if i < 0 then none else (t.args[i.toNat]?).bind fun s => subAt r s

theorem subAt_append (p q : List Int) (t : Tm) : subAt (p ++ q) t = (subAt p t).bind (subAt q) := by
  induction p generalizing t with
  | nil => rfl
  | cons i r ih =>
    rw [List.cons_append, subAt, subAt]
    by_cases h : i < 0
    · rw [if_pos h, if_pos h]; rfl
    · rw [if_neg h, if_neg h]
      cases t.args[i.toNat]? with
      | none => rfl
      | some s => exact ih s

theorem subAt_next {p : List Int} {k : Nat} {t s : Tm} {i : Int} (h : subAt (p.take k) t = some s) (hi : p[k]? = some i) : subAt (p.take (k + 1)) t = if i < 0 then none else s.args[i.toNat]? := by
  rw [take_next hi, subAt_append, h]
  show subAt [i] s = _
  rw [subAt]
  by_cases h0 : i < 0
  · rw [if_pos h0, if_pos h0]
  · rw [if_neg h0, if_neg h0]
    cases s.args[i.toNat]? with
    | none => rfl
    | some u => rfl

theorem subAt_none {p : List Int} {k : Nat} {t : Tm} (h : subAt (p.take k) t = none) : subAt p t = none := by
  have e := subAt_append (p.take k) (p.drop k) t
  rw [List.take_append_drop, h] at e
  exact e

theorem subAt_all {p : List Int} {t : Tm} {s : Tm} {k : Nat} (h : subAt (p.take k) t = some s) (hk : p.length ≤ k) : subAt p t = some s := by
  rwa [List.take_of_length_le hk] at h

theorem subAt_wt : ∀ (p : List Int) (t s : Tm), subAt p t = some s → s.wt ≤ t.wt
  | [], t, s, h => by injection h with h; subst h; exact Nat.le_refl _
  | i :: r, t, s, h => by
    rw [subAt] at h
    by_cases h0 : i < 0
    · rw [if_pos h0] at h; cases h
    · rw [if_neg h0] at h
      obtain ⟨u, hu, hs⟩ := Option.bind_eq_some_iff.1 h
      exact Nat.le_trans (subAt_wt r u s hs) (Tm.wt_arg (mem_of_at hu))

def noTm : Tm := .node ⟨#[]⟩ []
def subA (t : Tm) (p : List Int) : Option Tm := if anyB t = true then subAt p t else none
def subR (t : Tm) (p : List Int) : Tm := (subA t p).getD noTm
theorem subR_wt (t : Tm) (p : List Int) : (subR t p).wt ≤ t.wt := by
  unfold subR
  cases h : subA t p with
  | none => have e : noTm.wt = 0 := by decide
            show noTm.wt ≤ _; omega
  | some s =>
    unfold subA at h
    split at h
    · exact subAt_wt p t s h
    · cases h

/-- What both functions answer. -/
def SubEnd (r : Option Tm) (w : World) (e : Ending) (w' : World) : Prop :=
  ∃ va, e = .returned (.tuple #[.agg #[.string (r.getD noTm).name, va], .bool r.isSome]) ∧ TmO w' (Fresh w w') va (r.getD noTm).args ∧ Below w.heap.size w w'

theorem SubEnd.no {w w' : World} (hb : Below w.heap.size w w') : SubEnd none w (.returned (.tuple #[.agg #[.string ⟨#[]⟩, .slice none 0 0], .bool false])) w' := ⟨_, rfl, .emp _ _ _, hb⟩

set_option maxRecDepth 100000 in
set_option maxHeartbeats 4000000 in
theorem l2At_any (t : Tm) (p : List Int) (w : World) (va vp : Value) (hv : TmS w va t.args) (hp : IntsV w vp p) (hw : t.wt ≤ 1048576) (hl : p.length ≤ 1048576) :
    Calls Try.prog 62 #[.agg #[.string t.name, va], vp] w (SubEnd (subAt p t) w) := by
  obtain ⟨a, c, rfl⟩ := hv.is_slice
  obtain ⟨pa, pc, rfl, hpc⟩ := hp
  have HV := Lib.hid hv
  have HPC := Lib.hid hpc
  have H2 := Lib.hid ((two_new w (.string t.name) (.slice a t.args.length c) 24 _ rfl).alloc (.cells #[.string ⟨#[]⟩, .slice none 0 0] 24))
  have R2 := Lib.hid (two_new (w.alloc (.cells #[.string t.name, .slice a t.args.length c] 24)) (.string ⟨#[]⟩) (.slice none 0 0) 24 (w.heap.size + 1) (by simp))
  have HB := Lib.hid (((Below.refl w.heap.size w).alloc (Nat.le_refl _) (.cells #[.string t.name, .slice a t.args.length c] 24)).alloc (by simp) (.cells #[.string ⟨#[]⟩, .slice none 0 0] 24))
  have HW := Lib.hid hw
  clear hv hpc hw
  go_enter Try.func62, Try.ntmps62
  go_wp2
  go_loopw [6] (fun i wr => ∃ (k : Nat) (s : Tm) (a' : Option Addr) (c' : Nat), k ≤ p.length ∧ i = .int .i64 k ∧ subAt (p.take k) t = some s ∧ TmS w (.slice a' s.args.length c') s.args ∧ Two wr w.heap.size (.string s.name) (.slice a' s.args.length c') ∧ Two wr (w.heap.size + 1) (.string ⟨#[]⟩) (.slice none 0 0) ∧ Below w.heap.size w wr) (fun i _ => p.length - (intOf i).toNat)
  case atStart => exact ⟨0, t, a, c, Nat.zero_le _, rfl, rfl, HV.out, H2.out, R2.out, HB.out⟩
  case round =>
    obtain ⟨k, s, a', c', hk, rfl, hsub, hts, htwo, hres, hbel⟩ := hrel
    have HSUB := Lib.hid hsub
    have HTS := Lib.hid hts
    have HTW := Lib.hid htwo
    have HRS := Lib.hid hres
    have HBE := Lib.hid hbel
    obtain ⟨d0, d1, d2⟩ := htwo
    obtain ⟨r0, r1, r2⟩ := hres
    have hls : s.args.length ≤ 1048576 := by have := subAt_wt _ _ _ hsub; have := Tm.wt_len s; have := HW.out; omega
    clear hsub hts hbel
    by_cases hlt : k < p.length
    · obtain ⟨x, hx⟩ : ∃ x, p[k]? = some x := ⟨_, List.getElem?_eq_getElem hlt⟩
      obtain ⟨pb, po, rfl, hcx⟩ := HPC.out k x hx
      have hcx' := carry_cell hcx HBE.out
      have HNX := Lib.hid (subAt_next HSUB.out hx)
      have CI := Lib.hid (fun W => in_any x 0 ((s.args.length : Int) - 1) W)
      have hk0 : (0 : Int) ≤ (k : Int) := by omega
      have hk1 : (k : Int) < (p.length : Int) := by omega
      clear hx hcx
      by_cases hin : 0 ≤ x ∧ x ≤ (s.args.length : Int) - 1
      · obtain ⟨n, rfl⟩ := Int.eq_ofNat_of_zero_le hin.1
        have hn : n < s.args.length := by omega
        have HI : Hid (inB (n : Int) 0 ((s.args.length : Int) - 1) = true) := Lib.hid (inB_yes hin)
        obtain ⟨u, hu⟩ : ∃ u, s.args[n]? = some u := ⟨_, List.getElem?_eq_getElem hn⟩
        have HSU : Hid (subAt (p.take (k + 1)) t = some u) := Lib.hid (by rw [HNX.out, if_neg (by omega)]; exact hu)
        obtain ⟨sb, so, rfl, vu, u0, u1, u2⟩ := HTS.out.get hu
        have u0' := carry_cell u0 HBE.out
        have u1' := carry_cell u1 HBE.out
        obtain ⟨ua, uc, rfl⟩ := u2.is_slice
        have U2 := Lib.hid u2
        have HSB : Hid (sb < w.heap.size) := Lib.hid (World.block_lt_of_cell? w _ u0)
        have CI2 : Hid (∀ W, Calls Try.prog 94 #[.int .i64 (n : Int), .int .i64 0, .int .i64 ((s.args.length : Int) - 1)] W fun e w' => e = .returned (.bool true) ∧ W = w') := Lib.hid (fun W => by have h := CI.out W; rwa [HI.out] at h)
        clear hu u0 u1 u2 hin CI
        go_wp2_with fail
        go_quiet ((go_at_call 94; exact quiet_left (CI2.out _)))
        go_wp2
        go_region
        have HB2 : Hid (Below w.heap.size w (((wr.drewN (nq + 1)).setCell ⟨w.heap.size, 0, none⟩ (.string u.name)).setCell ⟨w.heap.size, 1, none⟩ (.slice ua u.args.length uc))) := Lib.hid (((below_drews HBE.out (nq + 1)).setCell (by simp) _).setCell (by simp) _)
        have HT2 : Hid (Two (((wr.drewN (nq + 1)).setCell ⟨w.heap.size, 0, none⟩ (.string u.name)).setCell ⟨w.heap.size, 1, none⟩ (.slice ua u.args.length uc)) w.heap.size (.string u.name) (.slice ua u.args.length uc)) := Lib.hid (((HTW.out.drews (nq + 1)).setNil _).setOne _)
        have HR2 : Hid (Two (((wr.drewN (nq + 1)).setCell ⟨w.heap.size, 0, none⟩ (.string u.name)).setCell ⟨w.heap.size, 1, none⟩ (.slice ua u.args.length uc)) (w.heap.size + 1) (.string ⟨#[]⟩) (.slice none 0 0)) := Lib.hid (((HRS.out.drews (nq + 1)).setFar (by simp) _).setFar (by simp) _)
        clear d0 d1 d2 r0 r1 r2 u0' u1' hcx'
        go_wp2
        go_roundw
        case rel => exact ⟨k + 1, u, ua, uc, by omega, by go_num, HSU.out, U2.out, HT2.out, HR2.out, HB2.out⟩
        case measure => simp [intOf]; omega
      · have HI : Hid (inB x 0 ((s.args.length : Int) - 1) = false) := Lib.hid (inB_no hin)
        have CI2 : Hid (∀ W, Calls Try.prog 94 #[.int .i64 x, .int .i64 0, .int .i64 ((s.args.length : Int) - 1)] W fun e w' => e = .returned (.bool false) ∧ W = w') := Lib.hid (fun W => by have h := CI.out W; rwa [HI.out] at h)
        have HNO : Hid (subAt p t = none) := Lib.hid (subAt_none (k := k + 1) (by
          rw [HNX.out]
          by_cases h0 : x < 0
          · rw [if_pos h0]
          · rw [if_neg h0]; exact List.getElem?_eq_none (by omega)))
        clear CI hin
        go_wp2_with fail
        go_quiet ((go_at_call 94; exact quiet_left (CI2.out _)))
        go_wp2
        refine bodyPost_ret (v := .tuple #[.agg #[.string ⟨#[]⟩, .slice none 0 0], .bool false]) (by simp [results, Try.results62, go_sem, r0, r1]) rfl ?_
        rw [HNO.out]
        exact SubEnd.no (((below_drews HBE.out nq).setCell (by simp) _).setCell (by simp) _)
    · have HALL := Lib.hid (subAt_all HSUB.out (by omega))
      have HWS : Hid (s.wt ≤ 1048576) := Lib.hid (Nat.le_trans (subAt_wt _ _ _ HSUB.out) HW.out)
      go_wp2_with fail
      refine (l2Own_any s _ _ (HTS.out.kept HBE.out) HWS.out).mono ?_
      rintro e w6 ⟨v6, rfl, ho, hb⟩
      obtain ⟨pv, cv, rfl⟩ := ho.read.is_slice
      have HO := Lib.hid ho
      have HB6 := Lib.hid (carry_below HBE.out (Nat.le_refl _) hb)
      obtain ⟨q0, q1, q2⟩ := HRS.out.kept hb
      have hz : w.heap.size + 1 < wr.heap.size := World.block_lt_of_cell? wr _ r0
      have HZ := Lib.hid hb.size
      clear ho hb d0 d1 d2 r0 r1 r2
      go_wp2
      refine bodyPost_ret (v := .tuple #[.agg #[.string s.name, .slice pv s.args.length cv], .bool true]) (by simp [results, Try.results62, go_sem, q0, q1]) rfl ?_
      rw [HALL.out]
      refine ⟨_, rfl, ?_, (HB6.out.setCell (by simp) _).setCell (by simp) _⟩
      refine ((HO.out.setCell (fun h => by have := h.1; simp at this; omega) _).setCell (fun h => by have := h.1; simp at this; omega) _).mono fun x hx => ⟨?_, ?_⟩
      · have := hx.1; omega
      · simp only [size_setCell]; exact hx.2

end Go.Proofs.Ytcijmhhajbgknaa
