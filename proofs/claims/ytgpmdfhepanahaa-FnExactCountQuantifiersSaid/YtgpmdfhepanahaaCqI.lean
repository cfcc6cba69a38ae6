/- CountQuantifiers, the program's and the model's: contracts, for formulas of at most 1048576 names' bytes, arguments and parts. -/
import Derived.Test.YtgpmdfhepanahaaFmI
import Derived.Test.YtgpmdfhepanahaaCqM
namespace Go.Proofs.Ytgpmdfhepanahaa
open Go.RowKit
set_option linter.unusedVariables false

def cqV (t : Fm) (p : Bool) : Value := .tuple #[.int .i64 (t.cq false p), .int .i64 (t.cq true p)]
theorem ret_cq {t : Fm} {p : Bool} {a b : Int} (h : a = t.cq false p) (k : b = t.cq true p) : Ending.returned (.tuple #[.int .i64 a, .int .i64 b]) = .returned (cqV t p) := by rw [h, k]; rfl
theorem cqN_cases (o : Int) (p : Bool) : (o = 8 ∧ p = true ∧ cqN false o p = 1 ∧ cqN true o p = 0) ∨ (o = 8 ∧ p = false ∧ cqN false o p = 0 ∧ cqN true o p = 1) ∨ (o = 9 ∧ p = true ∧ cqN false o p = 0 ∧ cqN true o p = 1) ∨ (o = 9 ∧ p = false ∧ cqN false o p = 1 ∧ cqN true o p = 0) ∨ (o ≠ 8 ∧ o ≠ 9 ∧ cqN false o p = 0 ∧ cqN true o p = 0) := by
  by_cases h8 : o = 8
  · subst h8; cases p <;> simp [cqN]
  · by_cases h9 : o = 9
    · subst h9; cases p <;> simp [cqN]
    · exact .inr (.inr (.inr (.inr ⟨h8, h9, by simp [cqN, h8, h9], by simp [cqN, h8, h9]⟩)))
theorem polB_cases (o : Int) (p : Bool) (k : Nat) : (o = 4 ∧ polB o p k = !p) ∨ (o ≠ 4 ∧ o = 7 ∧ k = 0 ∧ polB o p k = !p) ∨ (o ≠ 4 ∧ o = 7 ∧ k ≠ 0 ∧ polB o p k = p) ∨ (o ≠ 4 ∧ o ≠ 7 ∧ polB o p k = p) := by
  by_cases h4 : o = 4
  · exact .inl ⟨h4, by simp [polB, h4]⟩
  · by_cases h7 : o = 7
    · by_cases hk : k = 0
      · exact .inr (.inl ⟨h4, h7, hk, by simp [polB, h7, hk]⟩)
      · exact .inr (.inr (.inl ⟨h4, h7, hk, by simp [polB, h7, hk]⟩))
    · exact .inr (.inr (.inr ⟨h4, h7, by simp [polB, h4, h7]⟩))
theorem op_is {o c : Int} (h : o = c) : ((o : Int) == c) = true := by rw [beq_iff_eq]; exact h
theorem op_not {o c : Int} (h : o ≠ c) : ((o : Int) == c) = false := by rw [beq_eq_false_iff_ne]; exact h
/-- What the loop counts up to a part. -/
def CqAt (t : Fm) (p : Bool) (k : Nat) (s u : Nat) : Prop := s = cqN false t.op p + Fm.cqL false t.op p 0 (t.parts.take k) ∧ u = cqN true t.op p + Fm.cqL true t.op p 0 (t.parts.take k)
theorem CqAt.bound {t : Fm} {p : Bool} {k s u : Nat} (h : CqAt t p k s u) : s ≤ t.sz ∧ u ≤ t.sz := by
  have h1 := t.cq_sz false p
  have h2 := t.cq_sz true p
  rw [t.cq_eq] at h1 h2
  have h3 := Fm.cqL_take false t.op p t.parts k
  have h4 := Fm.cqL_take true t.op p t.parts k
  exact ⟨by rw [h.1]; omega, by rw [h.2]; omega⟩
theorem CqAt.next {t x : Fm} {p : Bool} {k s u : Nat} (h : CqAt t p k s u) (hx : t.parts[k]? = some x) {q : Bool} (hq : polB t.op p k = q) : CqAt t p (k + 1) (s + x.cq false q) (u + x.cq true q) :=
  ⟨by rw [h.1, Fm.cqL_next hx, hq]; omega, by rw [h.2, Fm.cqL_next hx, hq]; omega⟩
theorem CqAt.all {t : Fm} {p : Bool} {k s u : Nat} (h : CqAt t p k s u) (hk : t.parts.length ≤ k) : (s : Int) = t.cq false p ∧ (u : Int) = t.cq true p := by
  rw [t.cq_eq, t.cq_eq]
  have h1 := h.1
  have h2 := h.2
  rw [Fm.cqL_all hk] at h1 h2
  exact ⟨by rw [h1], by rw [h2]⟩

def CqS (t : Fm) : Prop := ∀ (w : World) (va vp : Value) (p : Bool), FmV w va vp t → t.wt ≤ 1048576 →
  Calls Try.prog 57 #[.agg #[.int .i64 t.op, .string t.atom.name, va, .string t.var, vp], .bool p] w (Ans (cqV t p) w)
def CqP (t : Fm) : Prop := ∀ (w : World) (va vp : Value) (p : Bool), FmV w va vp t → t.wt ≤ 1048576 →
  Calls Try.prog 58 #[.agg #[.int .i64 t.op, .string t.atom.name, va, .string t.var, vp], .bool p] w (Ans (cqV t p) w)

set_option maxRecDepth 100000 in
set_option maxHeartbeats 4000000 in
theorem l8Count_of (t : Fm) (h : ∀ s ∈ t.parts, CqS s) : CqS t := by
  intro w va vp p hv hw
  have hsz := t.sz_wt
  have H := Lib.hid h
  have HL := Lib.hid (fun (s : Fm) (hs : s ∈ t.parts) => Nat.le_trans (Fm.wt_part hs) hw)
  have hlen := Nat.le_trans t.wt_len hw
  obtain ⟨pa, ca, pp, cp, rfl, rfl⟩ := hv.open
  have HV := Lib.hid hv
  have H2 := Lib.hid (fivB_new w (.int .i64 t.op) (.string t.atom.name) (.slice pa t.atom.args.length ca) (.string t.var) (.slice pp t.parts.length cp) 35 _ rfl)
  have HB0 := Lib.hid ((Below.refl w.heap.size w).alloc (Nat.le_refl _) (.cells #[.int .i64 t.op, .string t.atom.name, .slice pa t.atom.args.length ca, .string t.var, .slice pp t.parts.length cp] 35))
  obtain ⟨b0, b1, b2, b3, b4, b5⟩ := H2.out
  clear h hv
  have L : ∀ (s0 u0 : Nat), CqAt t p 0 s0 u0 → True := fun _ _ _ => trivial
  clear L
  rcases cqN_cases t.op p with ⟨h1, h2, n1, n2⟩ | ⟨h1, h2, n1, n2⟩ | ⟨h1, h2, n1, n2⟩ | ⟨h1, h2, n1, n2⟩ | ⟨h1, h2, n1, n2⟩
  · have HS0 : Hid (CqAt t p 0 1 0) := Lib.hid ⟨by rw [n1]; simp [Fm.cqL], by rw [n2]; simp [Fm.cqL]⟩
    have o8 := op_is h1
    have o9 := op_not (show t.op ≠ 9 by omega)
    have o4 := op_not (show t.op ≠ 4 by omega)
    have o7 := op_not (show t.op ≠ 7 by omega)
    subst h2
    have HP : Hid (∀ k, polB t.op true k = true) := Lib.hid (fun k => by simp [polB, h1])
    clear n1 n2 h1
    go_enter Try.func57, Try.ntmps57
    go_wp2
    go_loopw [6, 7, 8] (fun n m i wr => ∃ k s0 u0 : Nat, k ≤ t.parts.length ∧ i = .int .i64 k ∧ n = .int .i64 s0 ∧ m = .int .i64 u0 ∧ CqAt t true k s0 u0 ∧ FivB wr w.heap.size (.int .i64 t.op) (.string t.atom.name) (.slice pa t.atom.args.length ca) (.string t.var) (.slice pp t.parts.length cp) ∧ Below w.heap.size w wr) (fun _ _ i _ => t.parts.length - (intOf i).toNat)
    case atStart => exact ⟨0, 1, 0, Nat.zero_le _, rfl, rfl, rfl, HS0.out, H2.out, HB0.out⟩
    case round =>
      obtain ⟨k, s0, u0, hk, rfl, rfl, rfl, hq, htwo, hbel⟩ := hrel
      have HQ := Lib.hid hq
      have hbd := hq.bound
      have HB := Lib.hid hbel
      have H2W := Lib.hid htwo
      obtain ⟨d0, d1, d2, d3, d4, d5⟩ := H2W.out
      have hbl : w.heap.size < wr.heap.size := World.block_lt_of_cell? wr ⟨w.heap.size, 0, none⟩ d0
      clear hbel hq htwo b0 b1 b2 b3 b4 b5
      by_cases hlt : k < t.parts.length
      · obtain ⟨x, hx⟩ : ∃ s, t.parts[k]? = some s := ⟨_, List.getElem?_eq_getElem hlt⟩
        obtain ⟨b, off, rfl, va, vp, hc, hva, hvp⟩ := HV.out.2.get hx
        obtain ⟨g0, g1, g2, g3, g4⟩ := hc.kept HB.out
        have HVA : Hid (FmV wr va vp x) := Lib.hid ⟨hva.kept HB.out, hvp.kept HB.out⟩
        have HX := Lib.hid hx
        clear hx hc hva hvp
        have HNX := Lib.hid (HQ.out.next HX.out (HP.out k))
        have hbn := HNX.out.bound
        have hx1 := x.cq_sz false (true)
        have hx2 := x.cq_sz true (true)
        go_wp2_with fail
        refine (H.out x (mem_of_at HX.out) _ _ _ (true) HVA.out (HL.out x (mem_of_at HX.out))).mono ?_
        rintro e w' ⟨he, hb⟩
        unfold cqV at he
        have HB2 := Lib.hid (carry_below HB.out (Nat.le_refl _) hb)
        have H2W2 := Lib.hid (H2W.out.kept hb)
        obtain ⟨e0, e1, e2, e3, e4, e5⟩ := H2W2.out
        clear hb
        subst he
        generalize x.cq false (true) = y1 at *
        generalize x.cq true (true) = y2 at *
        go_wp2
        go_roundw
        case rel => exact ⟨k + 1, s0 + y1, u0 + y2, by omega, by go_num, by go_num, by go_num, HNX.out, H2W2.out, HB2.out⟩
        case measure => simp [intOf]; omega
      · have HF := Lib.hid (HQ.out.all (by omega))
        go_wp2
        go_ret2
        exact ⟨ret_cq HF.out.1 HF.out.2, HB.out⟩
  · have HS0 : Hid (CqAt t p 0 0 1) := Lib.hid ⟨by rw [n1]; simp [Fm.cqL], by rw [n2]; simp [Fm.cqL]⟩
    have o8 := op_is h1
    have o9 := op_not (show t.op ≠ 9 by omega)
    have o4 := op_not (show t.op ≠ 4 by omega)
    have o7 := op_not (show t.op ≠ 7 by omega)
    subst h2
    have HP : Hid (∀ k, polB t.op false k = false) := Lib.hid (fun k => by simp [polB, h1])
    clear n1 n2 h1
    go_enter Try.func57, Try.ntmps57
    go_wp2
    go_loopw [6, 7, 8] (fun n m i wr => ∃ k s0 u0 : Nat, k ≤ t.parts.length ∧ i = .int .i64 k ∧ n = .int .i64 s0 ∧ m = .int .i64 u0 ∧ CqAt t false k s0 u0 ∧ FivB wr w.heap.size (.int .i64 t.op) (.string t.atom.name) (.slice pa t.atom.args.length ca) (.string t.var) (.slice pp t.parts.length cp) ∧ Below w.heap.size w wr) (fun _ _ i _ => t.parts.length - (intOf i).toNat)
    case atStart => exact ⟨0, 0, 1, Nat.zero_le _, rfl, rfl, rfl, HS0.out, H2.out, HB0.out⟩
    case round =>
      obtain ⟨k, s0, u0, hk, rfl, rfl, rfl, hq, htwo, hbel⟩ := hrel
      have HQ := Lib.hid hq
      have hbd := hq.bound
      have HB := Lib.hid hbel
      have H2W := Lib.hid htwo
      obtain ⟨d0, d1, d2, d3, d4, d5⟩ := H2W.out
      have hbl : w.heap.size < wr.heap.size := World.block_lt_of_cell? wr ⟨w.heap.size, 0, none⟩ d0
      clear hbel hq htwo b0 b1 b2 b3 b4 b5
      by_cases hlt : k < t.parts.length
      · obtain ⟨x, hx⟩ : ∃ s, t.parts[k]? = some s := ⟨_, List.getElem?_eq_getElem hlt⟩
        obtain ⟨b, off, rfl, va, vp, hc, hva, hvp⟩ := HV.out.2.get hx
        obtain ⟨g0, g1, g2, g3, g4⟩ := hc.kept HB.out
        have HVA : Hid (FmV wr va vp x) := Lib.hid ⟨hva.kept HB.out, hvp.kept HB.out⟩
        have HX := Lib.hid hx
        clear hx hc hva hvp
        have HNX := Lib.hid (HQ.out.next HX.out (HP.out k))
        have hbn := HNX.out.bound
        have hx1 := x.cq_sz false (false)
        have hx2 := x.cq_sz true (false)
        go_wp2_with fail
        refine (H.out x (mem_of_at HX.out) _ _ _ (false) HVA.out (HL.out x (mem_of_at HX.out))).mono ?_
        rintro e w' ⟨he, hb⟩
        unfold cqV at he
        have HB2 := Lib.hid (carry_below HB.out (Nat.le_refl _) hb)
        have H2W2 := Lib.hid (H2W.out.kept hb)
        obtain ⟨e0, e1, e2, e3, e4, e5⟩ := H2W2.out
        clear hb
        subst he
        generalize x.cq false (false) = y1 at *
        generalize x.cq true (false) = y2 at *
        go_wp2
        go_roundw
        case rel => exact ⟨k + 1, s0 + y1, u0 + y2, by omega, by go_num, by go_num, by go_num, HNX.out, H2W2.out, HB2.out⟩
        case measure => simp [intOf]; omega
      · have HF := Lib.hid (HQ.out.all (by omega))
        go_wp2
        go_ret2
        exact ⟨ret_cq HF.out.1 HF.out.2, HB.out⟩
  · have HS0 : Hid (CqAt t p 0 0 1) := Lib.hid ⟨by rw [n1]; simp [Fm.cqL], by rw [n2]; simp [Fm.cqL]⟩
    have o9 := op_is h1
    have o8 := op_not (show t.op ≠ 8 by omega)
    have o4 := op_not (show t.op ≠ 4 by omega)
    have o7 := op_not (show t.op ≠ 7 by omega)
    subst h2
    have HP : Hid (∀ k, polB t.op true k = true) := Lib.hid (fun k => by simp [polB, h1])
    clear n1 n2 h1
    go_enter Try.func57, Try.ntmps57
    go_wp2
    go_loopw [6, 7, 8] (fun n m i wr => ∃ k s0 u0 : Nat, k ≤ t.parts.length ∧ i = .int .i64 k ∧ n = .int .i64 s0 ∧ m = .int .i64 u0 ∧ CqAt t true k s0 u0 ∧ FivB wr w.heap.size (.int .i64 t.op) (.string t.atom.name) (.slice pa t.atom.args.length ca) (.string t.var) (.slice pp t.parts.length cp) ∧ Below w.heap.size w wr) (fun _ _ i _ => t.parts.length - (intOf i).toNat)
    case atStart => exact ⟨0, 0, 1, Nat.zero_le _, rfl, rfl, rfl, HS0.out, H2.out, HB0.out⟩
    case round =>
      obtain ⟨k, s0, u0, hk, rfl, rfl, rfl, hq, htwo, hbel⟩ := hrel
      have HQ := Lib.hid hq
      have hbd := hq.bound
      have HB := Lib.hid hbel
      have H2W := Lib.hid htwo
      obtain ⟨d0, d1, d2, d3, d4, d5⟩ := H2W.out
      have hbl : w.heap.size < wr.heap.size := World.block_lt_of_cell? wr ⟨w.heap.size, 0, none⟩ d0
      clear hbel hq htwo b0 b1 b2 b3 b4 b5
      by_cases hlt : k < t.parts.length
      · obtain ⟨x, hx⟩ : ∃ s, t.parts[k]? = some s := ⟨_, List.getElem?_eq_getElem hlt⟩
        obtain ⟨b, off, rfl, va, vp, hc, hva, hvp⟩ := HV.out.2.get hx
        obtain ⟨g0, g1, g2, g3, g4⟩ := hc.kept HB.out
        have HVA : Hid (FmV wr va vp x) := Lib.hid ⟨hva.kept HB.out, hvp.kept HB.out⟩
        have HX := Lib.hid hx
        clear hx hc hva hvp
        have HNX := Lib.hid (HQ.out.next HX.out (HP.out k))
        have hbn := HNX.out.bound
        have hx1 := x.cq_sz false (true)
        have hx2 := x.cq_sz true (true)
        go_wp2_with fail
        refine (H.out x (mem_of_at HX.out) _ _ _ (true) HVA.out (HL.out x (mem_of_at HX.out))).mono ?_
        rintro e w' ⟨he, hb⟩
        unfold cqV at he
        have HB2 := Lib.hid (carry_below HB.out (Nat.le_refl _) hb)
        have H2W2 := Lib.hid (H2W.out.kept hb)
        obtain ⟨e0, e1, e2, e3, e4, e5⟩ := H2W2.out
        clear hb
        subst he
        generalize x.cq false (true) = y1 at *
        generalize x.cq true (true) = y2 at *
        go_wp2
        go_roundw
        case rel => exact ⟨k + 1, s0 + y1, u0 + y2, by omega, by go_num, by go_num, by go_num, HNX.out, H2W2.out, HB2.out⟩
        case measure => simp [intOf]; omega
      · have HF := Lib.hid (HQ.out.all (by omega))
        go_wp2
        go_ret2
        exact ⟨ret_cq HF.out.1 HF.out.2, HB.out⟩
  · have HS0 : Hid (CqAt t p 0 1 0) := Lib.hid ⟨by rw [n1]; simp [Fm.cqL], by rw [n2]; simp [Fm.cqL]⟩
    have o9 := op_is h1
    have o8 := op_not (show t.op ≠ 8 by omega)
    have o4 := op_not (show t.op ≠ 4 by omega)
    have o7 := op_not (show t.op ≠ 7 by omega)
    subst h2
    have HP : Hid (∀ k, polB t.op false k = false) := Lib.hid (fun k => by simp [polB, h1])
    clear n1 n2 h1
    go_enter Try.func57, Try.ntmps57
    go_wp2
    go_loopw [6, 7, 8] (fun n m i wr => ∃ k s0 u0 : Nat, k ≤ t.parts.length ∧ i = .int .i64 k ∧ n = .int .i64 s0 ∧ m = .int .i64 u0 ∧ CqAt t false k s0 u0 ∧ FivB wr w.heap.size (.int .i64 t.op) (.string t.atom.name) (.slice pa t.atom.args.length ca) (.string t.var) (.slice pp t.parts.length cp) ∧ Below w.heap.size w wr) (fun _ _ i _ => t.parts.length - (intOf i).toNat)
    case atStart => exact ⟨0, 1, 0, Nat.zero_le _, rfl, rfl, rfl, HS0.out, H2.out, HB0.out⟩
    case round =>
      obtain ⟨k, s0, u0, hk, rfl, rfl, rfl, hq, htwo, hbel⟩ := hrel
      have HQ := Lib.hid hq
      have hbd := hq.bound
      have HB := Lib.hid hbel
      have H2W := Lib.hid htwo
      obtain ⟨d0, d1, d2, d3, d4, d5⟩ := H2W.out
      have hbl : w.heap.size < wr.heap.size := World.block_lt_of_cell? wr ⟨w.heap.size, 0, none⟩ d0
      clear hbel hq htwo b0 b1 b2 b3 b4 b5
      by_cases hlt : k < t.parts.length
      · obtain ⟨x, hx⟩ : ∃ s, t.parts[k]? = some s := ⟨_, List.getElem?_eq_getElem hlt⟩
        obtain ⟨b, off, rfl, va, vp, hc, hva, hvp⟩ := HV.out.2.get hx
        obtain ⟨g0, g1, g2, g3, g4⟩ := hc.kept HB.out
        have HVA : Hid (FmV wr va vp x) := Lib.hid ⟨hva.kept HB.out, hvp.kept HB.out⟩
        have HX := Lib.hid hx
        clear hx hc hva hvp
        have HNX := Lib.hid (HQ.out.next HX.out (HP.out k))
        have hbn := HNX.out.bound
        have hx1 := x.cq_sz false (false)
        have hx2 := x.cq_sz true (false)
        go_wp2_with fail
        refine (H.out x (mem_of_at HX.out) _ _ _ (false) HVA.out (HL.out x (mem_of_at HX.out))).mono ?_
        rintro e w' ⟨he, hb⟩
        unfold cqV at he
        have HB2 := Lib.hid (carry_below HB.out (Nat.le_refl _) hb)
        have H2W2 := Lib.hid (H2W.out.kept hb)
        obtain ⟨e0, e1, e2, e3, e4, e5⟩ := H2W2.out
        clear hb
        subst he
        generalize x.cq false (false) = y1 at *
        generalize x.cq true (false) = y2 at *
        go_wp2
        go_roundw
        case rel => exact ⟨k + 1, s0 + y1, u0 + y2, by omega, by go_num, by go_num, by go_num, HNX.out, H2W2.out, HB2.out⟩
        case measure => simp [intOf]; omega
      · have HF := Lib.hid (HQ.out.all (by omega))
        go_wp2
        go_ret2
        exact ⟨ret_cq HF.out.1 HF.out.2, HB.out⟩
  · have HS0 : Hid (CqAt t p 0 0 0) := Lib.hid ⟨by rw [n1]; simp [Fm.cqL], by rw [n2]; simp [Fm.cqL]⟩
    have o8 := op_not h1
    have o9 := op_not h2
    clear n1 n2 h1 h2
    go_enter Try.func57, Try.ntmps57
    go_wp2
    go_loopw [6, 7, 8] (fun n m i wr => ∃ k s0 u0 : Nat, k ≤ t.parts.length ∧ i = .int .i64 k ∧ n = .int .i64 s0 ∧ m = .int .i64 u0 ∧ CqAt t p k s0 u0 ∧ FivB wr w.heap.size (.int .i64 t.op) (.string t.atom.name) (.slice pa t.atom.args.length ca) (.string t.var) (.slice pp t.parts.length cp) ∧ Below w.heap.size w wr) (fun _ _ i _ => t.parts.length - (intOf i).toNat)
    case atStart => exact ⟨0, 0, 0, Nat.zero_le _, rfl, rfl, rfl, HS0.out, H2.out, HB0.out⟩
    case round =>
      obtain ⟨k, s0, u0, hk, rfl, rfl, rfl, hq, htwo, hbel⟩ := hrel
      have HQ := Lib.hid hq
      have hbd := hq.bound
      have HB := Lib.hid hbel
      have H2W := Lib.hid htwo
      obtain ⟨d0, d1, d2, d3, d4, d5⟩ := H2W.out
      have hbl : w.heap.size < wr.heap.size := World.block_lt_of_cell? wr ⟨w.heap.size, 0, none⟩ d0
      clear hbel hq htwo b0 b1 b2 b3 b4 b5
      by_cases hlt : k < t.parts.length
      · obtain ⟨x, hx⟩ : ∃ s, t.parts[k]? = some s := ⟨_, List.getElem?_eq_getElem hlt⟩
        obtain ⟨b, off, rfl, va, vp, hc, hva, hvp⟩ := HV.out.2.get hx
        obtain ⟨g0, g1, g2, g3, g4⟩ := hc.kept HB.out
        have HVA : Hid (FmV wr va vp x) := Lib.hid ⟨hva.kept HB.out, hvp.kept HB.out⟩
        have HX := Lib.hid hx
        clear hx hc hva hvp
        rcases polB_cases t.op p k with ⟨q1, q4⟩ | ⟨q1, q2, q3, q4⟩ | ⟨q1, q2, q3, q4⟩ | ⟨q1, q2, q4⟩
        · have o4 := op_is q1
          have HP := Lib.hid q4
          clear q1 q4
          have HNX := Lib.hid (HQ.out.next HX.out HP.out)
          have hbn := HNX.out.bound
          have hx1 := x.cq_sz false (!p)
          have hx2 := x.cq_sz true (!p)
          go_wp2_with fail
          refine (H.out x (mem_of_at HX.out) _ _ _ (!p) HVA.out (HL.out x (mem_of_at HX.out))).mono ?_
          rintro e w' ⟨he, hb⟩
          unfold cqV at he
          have HB2 := Lib.hid (carry_below HB.out (Nat.le_refl _) hb)
          have H2W2 := Lib.hid (H2W.out.kept hb)
          obtain ⟨e0, e1, e2, e3, e4, e5⟩ := H2W2.out
          clear hb
          subst he
          generalize x.cq false (!p) = y1 at *
          generalize x.cq true (!p) = y2 at *
          go_wp2
          go_roundw
          case rel => exact ⟨k + 1, s0 + y1, u0 + y2, by omega, by go_num, by go_num, by go_num, HNX.out, H2W2.out, HB2.out⟩
          case measure => simp [intOf]; omega
        · have o4 := op_not q1
          have o7 := op_is q2
          have HP := Lib.hid q4
          clear q1 q2 q4
          subst q3
          simp only [Nat.zero_mul, Nat.add_zero] at g0 g1 g2 g3 g4
          have HNX := Lib.hid (HQ.out.next HX.out HP.out)
          have hbn := HNX.out.bound
          have hx1 := x.cq_sz false (!p)
          have hx2 := x.cq_sz true (!p)
          go_wp2_with fail
          refine (H.out x (mem_of_at HX.out) _ _ _ (!p) HVA.out (HL.out x (mem_of_at HX.out))).mono ?_
          rintro e w' ⟨he, hb⟩
          unfold cqV at he
          have HB2 := Lib.hid (carry_below HB.out (Nat.le_refl _) hb)
          have H2W2 := Lib.hid (H2W.out.kept hb)
          obtain ⟨e0, e1, e2, e3, e4, e5⟩ := H2W2.out
          clear hb
          subst he
          generalize x.cq false (!p) = y1 at *
          generalize x.cq true (!p) = y2 at *
          go_wp2
          go_roundw
          case rel => exact ⟨0 + 1, s0 + y1, u0 + y2, by omega, by go_num, by go_num, by go_num, HNX.out, H2W2.out, HB2.out⟩
          case measure => simp [intOf]; omega
        · have o4 := op_not q1
          have o7 := op_is q2
          have hk0 : ((k : Int) == 0) = false := by rw [beq_eq_false_iff_ne]; omega
          have HP := Lib.hid q4
          clear q1 q2 q4
          have HNX := Lib.hid (HQ.out.next HX.out HP.out)
          have hbn := HNX.out.bound
          have hx1 := x.cq_sz false (p)
          have hx2 := x.cq_sz true (p)
          go_wp2_with fail
          refine (H.out x (mem_of_at HX.out) _ _ _ (p) HVA.out (HL.out x (mem_of_at HX.out))).mono ?_
          rintro e w' ⟨he, hb⟩
          unfold cqV at he
          have HB2 := Lib.hid (carry_below HB.out (Nat.le_refl _) hb)
          have H2W2 := Lib.hid (H2W.out.kept hb)
          obtain ⟨e0, e1, e2, e3, e4, e5⟩ := H2W2.out
          clear hb
          subst he
          generalize x.cq false (p) = y1 at *
          generalize x.cq true (p) = y2 at *
          go_wp2
          go_roundw
          case rel => exact ⟨k + 1, s0 + y1, u0 + y2, by omega, by go_num, by go_num, by go_num, HNX.out, H2W2.out, HB2.out⟩
          case measure => simp [intOf]; omega
        · have o4 := op_not q1
          have o7 := op_not q2
          have HP := Lib.hid q4
          clear q1 q2 q4
          have HNX := Lib.hid (HQ.out.next HX.out HP.out)
          have hbn := HNX.out.bound
          have hx1 := x.cq_sz false (p)
          have hx2 := x.cq_sz true (p)
          go_wp2_with fail
          refine (H.out x (mem_of_at HX.out) _ _ _ (p) HVA.out (HL.out x (mem_of_at HX.out))).mono ?_
          rintro e w' ⟨he, hb⟩
          unfold cqV at he
          have HB2 := Lib.hid (carry_below HB.out (Nat.le_refl _) hb)
          have H2W2 := Lib.hid (H2W.out.kept hb)
          obtain ⟨e0, e1, e2, e3, e4, e5⟩ := H2W2.out
          clear hb
          subst he
          generalize x.cq false (p) = y1 at *
          generalize x.cq true (p) = y2 at *
          go_wp2
          go_roundw
          case rel => exact ⟨k + 1, s0 + y1, u0 + y2, by omega, by go_num, by go_num, by go_num, HNX.out, H2W2.out, HB2.out⟩
          case measure => simp [intOf]; omega
      · have HF := Lib.hid (HQ.out.all (by omega))
        go_wp2
        go_ret2
        exact ⟨ret_cq HF.out.1 HF.out.2, HB.out⟩

theorem l8Count_any (t : Fm) : CqS t := Fm.ind (P := CqS) l8Count_of t

set_option maxRecDepth 100000 in
set_option maxHeartbeats 4000000 in
theorem countQ_of (t : Fm) (h : ∀ s ∈ t.parts, CqP s) : CqP t := by
  intro w va vp p hv hw
  have hsz := t.sz_wt
  have H := Lib.hid h
  have HL := Lib.hid (fun (s : Fm) (hs : s ∈ t.parts) => Nat.le_trans (Fm.wt_part hs) hw)
  have hlen := Nat.le_trans t.wt_len hw
  obtain ⟨pa, ca, pp, cp, rfl, rfl⟩ := hv.open
  have HV := Lib.hid hv
  have H2 := Lib.hid (fivB_new w (.int .i64 t.op) (.string t.atom.name) (.slice pa t.atom.args.length ca) (.string t.var) (.slice pp t.parts.length cp) 35 _ rfl)
  have HB0 := Lib.hid ((Below.refl w.heap.size w).alloc (Nat.le_refl _) (.cells #[.int .i64 t.op, .string t.atom.name, .slice pa t.atom.args.length ca, .string t.var, .slice pp t.parts.length cp] 35))
  obtain ⟨b0, b1, b2, b3, b4, b5⟩ := H2.out
  clear h hv
  have L : ∀ (s0 u0 : Nat), CqAt t p 0 s0 u0 → True := fun _ _ _ => trivial
  clear L
  rcases cqN_cases t.op p with ⟨h1, h2, n1, n2⟩ | ⟨h1, h2, n1, n2⟩ | ⟨h1, h2, n1, n2⟩ | ⟨h1, h2, n1, n2⟩ | ⟨h1, h2, n1, n2⟩
  · have HS0 : Hid (CqAt t p 0 1 0) := Lib.hid ⟨by rw [n1]; simp [Fm.cqL], by rw [n2]; simp [Fm.cqL]⟩
    have o8 := op_is h1
    have o9 := op_not (show t.op ≠ 9 by omega)
    have o4 := op_not (show t.op ≠ 4 by omega)
    have o7 := op_not (show t.op ≠ 7 by omega)
    subst h2
    have HP : Hid (∀ k, polB t.op true k = true) := Lib.hid (fun k => by simp [polB, h1])
    clear n1 n2 h1
    go_enter Try.func58, Try.ntmps58
    go_wp2
    go_loopw [6, 7, 43] (fun n m i wr => ∃ k s0 u0 : Nat, k ≤ t.parts.length ∧ i = .int .i64 k ∧ n = .int .i64 s0 ∧ m = .int .i64 u0 ∧ CqAt t true k s0 u0 ∧ FivB wr w.heap.size (.int .i64 t.op) (.string t.atom.name) (.slice pa t.atom.args.length ca) (.string t.var) (.slice pp t.parts.length cp) ∧ Below w.heap.size w wr) (fun _ _ i _ => t.parts.length - (intOf i).toNat)
    case atStart => exact ⟨0, 1, 0, Nat.zero_le _, rfl, rfl, rfl, HS0.out, H2.out, HB0.out⟩
    case round =>
      obtain ⟨k, s0, u0, hk, rfl, rfl, rfl, hq, htwo, hbel⟩ := hrel
      have HQ := Lib.hid hq
      have hbd := hq.bound
      have HB := Lib.hid hbel
      have H2W := Lib.hid htwo
      obtain ⟨d0, d1, d2, d3, d4, d5⟩ := H2W.out
      have hbl : w.heap.size < wr.heap.size := World.block_lt_of_cell? wr ⟨w.heap.size, 0, none⟩ d0
      clear hbel hq htwo b0 b1 b2 b3 b4 b5
      by_cases hlt : k < t.parts.length
      · obtain ⟨x, hx⟩ : ∃ s, t.parts[k]? = some s := ⟨_, List.getElem?_eq_getElem hlt⟩
        obtain ⟨b, off, rfl, va, vp, hc, hva, hvp⟩ := HV.out.2.get hx
        obtain ⟨g0, g1, g2, g3, g4⟩ := hc.kept HB.out
        have HVA : Hid (FmV wr va vp x) := Lib.hid ⟨hva.kept HB.out, hvp.kept HB.out⟩
        have HX := Lib.hid hx
        clear hx hc hva hvp
        obtain ⟨a', c', b', d', rfl, rfl⟩ := HVA.out.open
        have HNX := Lib.hid (HQ.out.next HX.out (HP.out k))
        have hbn := HNX.out.bound
        have hx1 := x.cq_sz false (true)
        have hx2 := x.cq_sz true (true)
        go_wp2_with fail
        refine (H.out x (mem_of_at HX.out) _ _ _ (true) (HVA.out.alloc _) (HL.out x (mem_of_at HX.out))).mono ?_
        rintro e w' ⟨he, hb⟩
        unfold cqV at he
        have HB2 := Lib.hid (carry_below (HB.out.alloc HB.out.size _) (Nat.le_refl _) hb)
        have H2W2 := Lib.hid ((H2W.out.alloc _).kept hb)
        obtain ⟨e0, e1, e2, e3, e4, e5⟩ := H2W2.out
        clear hb
        subst he
        generalize x.cq false (true) = y1 at *
        generalize x.cq true (true) = y2 at *
        go_wp2
        go_roundw
        case rel => exact ⟨k + 1, s0 + y1, u0 + y2, by omega, by go_num, by go_num, by go_num, HNX.out, H2W2.out, HB2.out⟩
        case measure => simp [intOf]; omega
      · have HF := Lib.hid (HQ.out.all (by omega))
        go_wp2
        go_ret2
        exact ⟨ret_cq HF.out.1 HF.out.2, HB.out⟩
  · have HS0 : Hid (CqAt t p 0 0 1) := Lib.hid ⟨by rw [n1]; simp [Fm.cqL], by rw [n2]; simp [Fm.cqL]⟩
    have o8 := op_is h1
    have o9 := op_not (show t.op ≠ 9 by omega)
    have o4 := op_not (show t.op ≠ 4 by omega)
    have o7 := op_not (show t.op ≠ 7 by omega)
    subst h2
    have HP : Hid (∀ k, polB t.op false k = false) := Lib.hid (fun k => by simp [polB, h1])
    clear n1 n2 h1
    go_enter Try.func58, Try.ntmps58
    go_wp2
    go_loopw [6, 7, 43] (fun n m i wr => ∃ k s0 u0 : Nat, k ≤ t.parts.length ∧ i = .int .i64 k ∧ n = .int .i64 s0 ∧ m = .int .i64 u0 ∧ CqAt t false k s0 u0 ∧ FivB wr w.heap.size (.int .i64 t.op) (.string t.atom.name) (.slice pa t.atom.args.length ca) (.string t.var) (.slice pp t.parts.length cp) ∧ Below w.heap.size w wr) (fun _ _ i _ => t.parts.length - (intOf i).toNat)
    case atStart => exact ⟨0, 0, 1, Nat.zero_le _, rfl, rfl, rfl, HS0.out, H2.out, HB0.out⟩
    case round =>
      obtain ⟨k, s0, u0, hk, rfl, rfl, rfl, hq, htwo, hbel⟩ := hrel
      have HQ := Lib.hid hq
      have hbd := hq.bound
      have HB := Lib.hid hbel
      have H2W := Lib.hid htwo
      obtain ⟨d0, d1, d2, d3, d4, d5⟩ := H2W.out
      have hbl : w.heap.size < wr.heap.size := World.block_lt_of_cell? wr ⟨w.heap.size, 0, none⟩ d0
      clear hbel hq htwo b0 b1 b2 b3 b4 b5
      by_cases hlt : k < t.parts.length
      · obtain ⟨x, hx⟩ : ∃ s, t.parts[k]? = some s := ⟨_, List.getElem?_eq_getElem hlt⟩
        obtain ⟨b, off, rfl, va, vp, hc, hva, hvp⟩ := HV.out.2.get hx
        obtain ⟨g0, g1, g2, g3, g4⟩ := hc.kept HB.out
        have HVA : Hid (FmV wr va vp x) := Lib.hid ⟨hva.kept HB.out, hvp.kept HB.out⟩
        have HX := Lib.hid hx
        clear hx hc hva hvp
        obtain ⟨a', c', b', d', rfl, rfl⟩ := HVA.out.open
        have HNX := Lib.hid (HQ.out.next HX.out (HP.out k))
        have hbn := HNX.out.bound
        have hx1 := x.cq_sz false (false)
        have hx2 := x.cq_sz true (false)
        go_wp2_with fail
        refine (H.out x (mem_of_at HX.out) _ _ _ (false) (HVA.out.alloc _) (HL.out x (mem_of_at HX.out))).mono ?_
        rintro e w' ⟨he, hb⟩
        unfold cqV at he
        have HB2 := Lib.hid (carry_below (HB.out.alloc HB.out.size _) (Nat.le_refl _) hb)
        have H2W2 := Lib.hid ((H2W.out.alloc _).kept hb)
        obtain ⟨e0, e1, e2, e3, e4, e5⟩ := H2W2.out
        clear hb
        subst he
        generalize x.cq false (false) = y1 at *
        generalize x.cq true (false) = y2 at *
        go_wp2
        go_roundw
        case rel => exact ⟨k + 1, s0 + y1, u0 + y2, by omega, by go_num, by go_num, by go_num, HNX.out, H2W2.out, HB2.out⟩
        case measure => simp [intOf]; omega
      · have HF := Lib.hid (HQ.out.all (by omega))
        go_wp2
        go_ret2
        exact ⟨ret_cq HF.out.1 HF.out.2, HB.out⟩
  · have HS0 : Hid (CqAt t p 0 0 1) := Lib.hid ⟨by rw [n1]; simp [Fm.cqL], by rw [n2]; simp [Fm.cqL]⟩
    have o9 := op_is h1
    have o8 := op_not (show t.op ≠ 8 by omega)
    have o4 := op_not (show t.op ≠ 4 by omega)
    have o7 := op_not (show t.op ≠ 7 by omega)
    subst h2
    have HP : Hid (∀ k, polB t.op true k = true) := Lib.hid (fun k => by simp [polB, h1])
    clear n1 n2 h1
    go_enter Try.func58, Try.ntmps58
    go_wp2
    go_loopw [6, 7, 43] (fun n m i wr => ∃ k s0 u0 : Nat, k ≤ t.parts.length ∧ i = .int .i64 k ∧ n = .int .i64 s0 ∧ m = .int .i64 u0 ∧ CqAt t true k s0 u0 ∧ FivB wr w.heap.size (.int .i64 t.op) (.string t.atom.name) (.slice pa t.atom.args.length ca) (.string t.var) (.slice pp t.parts.length cp) ∧ Below w.heap.size w wr) (fun _ _ i _ => t.parts.length - (intOf i).toNat)
    case atStart => exact ⟨0, 0, 1, Nat.zero_le _, rfl, rfl, rfl, HS0.out, H2.out, HB0.out⟩
    case round =>
      obtain ⟨k, s0, u0, hk, rfl, rfl, rfl, hq, htwo, hbel⟩ := hrel
      have HQ := Lib.hid hq
      have hbd := hq.bound
      have HB := Lib.hid hbel
      have H2W := Lib.hid htwo
      obtain ⟨d0, d1, d2, d3, d4, d5⟩ := H2W.out
      have hbl : w.heap.size < wr.heap.size := World.block_lt_of_cell? wr ⟨w.heap.size, 0, none⟩ d0
      clear hbel hq htwo b0 b1 b2 b3 b4 b5
      by_cases hlt : k < t.parts.length
      · obtain ⟨x, hx⟩ : ∃ s, t.parts[k]? = some s := ⟨_, List.getElem?_eq_getElem hlt⟩
        obtain ⟨b, off, rfl, va, vp, hc, hva, hvp⟩ := HV.out.2.get hx
        obtain ⟨g0, g1, g2, g3, g4⟩ := hc.kept HB.out
        have HVA : Hid (FmV wr va vp x) := Lib.hid ⟨hva.kept HB.out, hvp.kept HB.out⟩
        have HX := Lib.hid hx
        clear hx hc hva hvp
        obtain ⟨a', c', b', d', rfl, rfl⟩ := HVA.out.open
        have HNX := Lib.hid (HQ.out.next HX.out (HP.out k))
        have hbn := HNX.out.bound
        have hx1 := x.cq_sz false (true)
        have hx2 := x.cq_sz true (true)
        go_wp2_with fail
        refine (H.out x (mem_of_at HX.out) _ _ _ (true) (HVA.out.alloc _) (HL.out x (mem_of_at HX.out))).mono ?_
        rintro e w' ⟨he, hb⟩
        unfold cqV at he
        have HB2 := Lib.hid (carry_below (HB.out.alloc HB.out.size _) (Nat.le_refl _) hb)
        have H2W2 := Lib.hid ((H2W.out.alloc _).kept hb)
        obtain ⟨e0, e1, e2, e3, e4, e5⟩ := H2W2.out
        clear hb
        subst he
        generalize x.cq false (true) = y1 at *
        generalize x.cq true (true) = y2 at *
        go_wp2
        go_roundw
        case rel => exact ⟨k + 1, s0 + y1, u0 + y2, by omega, by go_num, by go_num, by go_num, HNX.out, H2W2.out, HB2.out⟩
        case measure => simp [intOf]; omega
      · have HF := Lib.hid (HQ.out.all (by omega))
        go_wp2
        go_ret2
        exact ⟨ret_cq HF.out.1 HF.out.2, HB.out⟩
  · have HS0 : Hid (CqAt t p 0 1 0) := Lib.hid ⟨by rw [n1]; simp [Fm.cqL], by rw [n2]; simp [Fm.cqL]⟩
    have o9 := op_is h1
    have o8 := op_not (show t.op ≠ 8 by omega)
    have o4 := op_not (show t.op ≠ 4 by omega)
    have o7 := op_not (show t.op ≠ 7 by omega)
    subst h2
    have HP : Hid (∀ k, polB t.op false k = false) := Lib.hid (fun k => by simp [polB, h1])
    clear n1 n2 h1
    go_enter Try.func58, Try.ntmps58
    go_wp2
    go_loopw [6, 7, 43] (fun n m i wr => ∃ k s0 u0 : Nat, k ≤ t.parts.length ∧ i = .int .i64 k ∧ n = .int .i64 s0 ∧ m = .int .i64 u0 ∧ CqAt t false k s0 u0 ∧ FivB wr w.heap.size (.int .i64 t.op) (.string t.atom.name) (.slice pa t.atom.args.length ca) (.string t.var) (.slice pp t.parts.length cp) ∧ Below w.heap.size w wr) (fun _ _ i _ => t.parts.length - (intOf i).toNat)
    case atStart => exact ⟨0, 1, 0, Nat.zero_le _, rfl, rfl, rfl, HS0.out, H2.out, HB0.out⟩
    case round =>
      obtain ⟨k, s0, u0, hk, rfl, rfl, rfl, hq, htwo, hbel⟩ := hrel
      have HQ := Lib.hid hq
      have hbd := hq.bound
      have HB := Lib.hid hbel
      have H2W := Lib.hid htwo
      obtain ⟨d0, d1, d2, d3, d4, d5⟩ := H2W.out
      have hbl : w.heap.size < wr.heap.size := World.block_lt_of_cell? wr ⟨w.heap.size, 0, none⟩ d0
      clear hbel hq htwo b0 b1 b2 b3 b4 b5
      by_cases hlt : k < t.parts.length
      · obtain ⟨x, hx⟩ : ∃ s, t.parts[k]? = some s := ⟨_, List.getElem?_eq_getElem hlt⟩
        obtain ⟨b, off, rfl, va, vp, hc, hva, hvp⟩ := HV.out.2.get hx
        obtain ⟨g0, g1, g2, g3, g4⟩ := hc.kept HB.out
        have HVA : Hid (FmV wr va vp x) := Lib.hid ⟨hva.kept HB.out, hvp.kept HB.out⟩
        have HX := Lib.hid hx
        clear hx hc hva hvp
        obtain ⟨a', c', b', d', rfl, rfl⟩ := HVA.out.open
        have HNX := Lib.hid (HQ.out.next HX.out (HP.out k))
        have hbn := HNX.out.bound
        have hx1 := x.cq_sz false (false)
        have hx2 := x.cq_sz true (false)
        go_wp2_with fail
        refine (H.out x (mem_of_at HX.out) _ _ _ (false) (HVA.out.alloc _) (HL.out x (mem_of_at HX.out))).mono ?_
        rintro e w' ⟨he, hb⟩
        unfold cqV at he
        have HB2 := Lib.hid (carry_below (HB.out.alloc HB.out.size _) (Nat.le_refl _) hb)
        have H2W2 := Lib.hid ((H2W.out.alloc _).kept hb)
        obtain ⟨e0, e1, e2, e3, e4, e5⟩ := H2W2.out
        clear hb
        subst he
        generalize x.cq false (false) = y1 at *
        generalize x.cq true (false) = y2 at *
        go_wp2
        go_roundw
        case rel => exact ⟨k + 1, s0 + y1, u0 + y2, by omega, by go_num, by go_num, by go_num, HNX.out, H2W2.out, HB2.out⟩
        case measure => simp [intOf]; omega
      · have HF := Lib.hid (HQ.out.all (by omega))
        go_wp2
        go_ret2
        exact ⟨ret_cq HF.out.1 HF.out.2, HB.out⟩
  · have HS0 : Hid (CqAt t p 0 0 0) := Lib.hid ⟨by rw [n1]; simp [Fm.cqL], by rw [n2]; simp [Fm.cqL]⟩
    have o8 := op_not h1
    have o9 := op_not h2
    clear n1 n2 h1 h2
    go_enter Try.func58, Try.ntmps58
    go_wp2
    go_loopw [6, 7, 43] (fun n m i wr => ∃ k s0 u0 : Nat, k ≤ t.parts.length ∧ i = .int .i64 k ∧ n = .int .i64 s0 ∧ m = .int .i64 u0 ∧ CqAt t p k s0 u0 ∧ FivB wr w.heap.size (.int .i64 t.op) (.string t.atom.name) (.slice pa t.atom.args.length ca) (.string t.var) (.slice pp t.parts.length cp) ∧ Below w.heap.size w wr) (fun _ _ i _ => t.parts.length - (intOf i).toNat)
    case atStart => exact ⟨0, 0, 0, Nat.zero_le _, rfl, rfl, rfl, HS0.out, H2.out, HB0.out⟩
    case round =>
      obtain ⟨k, s0, u0, hk, rfl, rfl, rfl, hq, htwo, hbel⟩ := hrel
      have HQ := Lib.hid hq
      have hbd := hq.bound
      have HB := Lib.hid hbel
      have H2W := Lib.hid htwo
      obtain ⟨d0, d1, d2, d3, d4, d5⟩ := H2W.out
      have hbl : w.heap.size < wr.heap.size := World.block_lt_of_cell? wr ⟨w.heap.size, 0, none⟩ d0
      clear hbel hq htwo b0 b1 b2 b3 b4 b5
      by_cases hlt : k < t.parts.length
      · obtain ⟨x, hx⟩ : ∃ s, t.parts[k]? = some s := ⟨_, List.getElem?_eq_getElem hlt⟩
        obtain ⟨b, off, rfl, va, vp, hc, hva, hvp⟩ := HV.out.2.get hx
        obtain ⟨g0, g1, g2, g3, g4⟩ := hc.kept HB.out
        have HVA : Hid (FmV wr va vp x) := Lib.hid ⟨hva.kept HB.out, hvp.kept HB.out⟩
        have HX := Lib.hid hx
        clear hx hc hva hvp
        obtain ⟨a', c', b', d', rfl, rfl⟩ := HVA.out.open
        rcases polB_cases t.op p k with ⟨q1, q4⟩ | ⟨q1, q2, q3, q4⟩ | ⟨q1, q2, q3, q4⟩ | ⟨q1, q2, q4⟩
        · have o4 := op_is q1
          have HP := Lib.hid q4
          clear q1 q4
          have HNX := Lib.hid (HQ.out.next HX.out HP.out)
          have hbn := HNX.out.bound
          have hx1 := x.cq_sz false (!p)
          have hx2 := x.cq_sz true (!p)
          go_wp2_with fail
          refine (H.out x (mem_of_at HX.out) _ _ _ (!p) (HVA.out.alloc _) (HL.out x (mem_of_at HX.out))).mono ?_
          rintro e w' ⟨he, hb⟩
          unfold cqV at he
          have HB2 := Lib.hid (carry_below (HB.out.alloc HB.out.size _) (Nat.le_refl _) hb)
          have H2W2 := Lib.hid ((H2W.out.alloc _).kept hb)
          obtain ⟨e0, e1, e2, e3, e4, e5⟩ := H2W2.out
          clear hb
          subst he
          generalize x.cq false (!p) = y1 at *
          generalize x.cq true (!p) = y2 at *
          go_wp2
          go_roundw
          case rel => exact ⟨k + 1, s0 + y1, u0 + y2, by omega, by go_num, by go_num, by go_num, HNX.out, H2W2.out, HB2.out⟩
          case measure => simp [intOf]; omega
        · have o4 := op_not q1
          have o7 := op_is q2
          have HP := Lib.hid q4
          clear q1 q2 q4
          subst q3
          simp only [Nat.zero_mul, Nat.add_zero] at g0 g1 g2 g3 g4
          have HNX := Lib.hid (HQ.out.next HX.out HP.out)
          have hbn := HNX.out.bound
          have hx1 := x.cq_sz false (!p)
          have hx2 := x.cq_sz true (!p)
          go_wp2_with fail
          refine (H.out x (mem_of_at HX.out) _ _ _ (!p) (HVA.out.alloc _) (HL.out x (mem_of_at HX.out))).mono ?_
          rintro e w' ⟨he, hb⟩
          unfold cqV at he
          have HB2 := Lib.hid (carry_below (HB.out.alloc HB.out.size _) (Nat.le_refl _) hb)
          have H2W2 := Lib.hid ((H2W.out.alloc _).kept hb)
          obtain ⟨e0, e1, e2, e3, e4, e5⟩ := H2W2.out
          clear hb
          subst he
          generalize x.cq false (!p) = y1 at *
          generalize x.cq true (!p) = y2 at *
          go_wp2
          go_roundw
          case rel => exact ⟨0 + 1, s0 + y1, u0 + y2, by omega, by go_num, by go_num, by go_num, HNX.out, H2W2.out, HB2.out⟩
          case measure => simp [intOf]; omega
        · have o4 := op_not q1
          have o7 := op_is q2
          have hk0 : ((k : Int) == 0) = false := by rw [beq_eq_false_iff_ne]; omega
          have HP := Lib.hid q4
          clear q1 q2 q4
          have HNX := Lib.hid (HQ.out.next HX.out HP.out)
          have hbn := HNX.out.bound
          have hx1 := x.cq_sz false (p)
          have hx2 := x.cq_sz true (p)
          go_wp2_with fail
          refine (H.out x (mem_of_at HX.out) _ _ _ (p) (HVA.out.alloc _) (HL.out x (mem_of_at HX.out))).mono ?_
          rintro e w' ⟨he, hb⟩
          unfold cqV at he
          have HB2 := Lib.hid (carry_below (HB.out.alloc HB.out.size _) (Nat.le_refl _) hb)
          have H2W2 := Lib.hid ((H2W.out.alloc _).kept hb)
          obtain ⟨e0, e1, e2, e3, e4, e5⟩ := H2W2.out
          clear hb
          subst he
          generalize x.cq false (p) = y1 at *
          generalize x.cq true (p) = y2 at *
          go_wp2
          go_roundw
          case rel => exact ⟨k + 1, s0 + y1, u0 + y2, by omega, by go_num, by go_num, by go_num, HNX.out, H2W2.out, HB2.out⟩
          case measure => simp [intOf]; omega
        · have o4 := op_not q1
          have o7 := op_not q2
          have HP := Lib.hid q4
          clear q1 q2 q4
          have HNX := Lib.hid (HQ.out.next HX.out HP.out)
          have hbn := HNX.out.bound
          have hx1 := x.cq_sz false (p)
          have hx2 := x.cq_sz true (p)
          go_wp2_with fail
          refine (H.out x (mem_of_at HX.out) _ _ _ (p) (HVA.out.alloc _) (HL.out x (mem_of_at HX.out))).mono ?_
          rintro e w' ⟨he, hb⟩
          unfold cqV at he
          have HB2 := Lib.hid (carry_below (HB.out.alloc HB.out.size _) (Nat.le_refl _) hb)
          have H2W2 := Lib.hid ((H2W.out.alloc _).kept hb)
          obtain ⟨e0, e1, e2, e3, e4, e5⟩ := H2W2.out
          clear hb
          subst he
          generalize x.cq false (p) = y1 at *
          generalize x.cq true (p) = y2 at *
          go_wp2
          go_roundw
          case rel => exact ⟨k + 1, s0 + y1, u0 + y2, by omega, by go_num, by go_num, by go_num, HNX.out, H2W2.out, HB2.out⟩
          case measure => simp [intOf]; omega
      · have HF := Lib.hid (HQ.out.all (by omega))
        go_wp2
        go_ret2
        exact ⟨ret_cq HF.out.1 HF.out.2, HB.out⟩

theorem countQ_any (t : Fm) : CqP t := Fm.ind (P := CqP) countQ_of t

def cqA (t : Fm) : Int := if fgoodB t then t.cq false true else 0
def cqB (t : Fm) : Int := if fgoodB t then t.cq true true else 0
theorem cqA_yes {t : Fm} (h : fgoodB t = true) : cqA t = t.cq false true := by simp [cqA, h]
theorem cqA_no {t : Fm} (h : fgoodB t = false) : cqA t = 0 := by simp [cqA, h]
theorem cqB_yes {t : Fm} (h : fgoodB t = true) : cqB t = t.cq true true := by simp [cqB, h]
theorem cqB_no {t : Fm} (h : fgoodB t = false) : cqB t = 0 := by simp [cqB, h]
theorem ret_tri {a b c d : Int} {p q : Bool} (h : a = b) (h' : c = d) (k : p = q) : Ending.returned (.tuple #[.int .i64 a, .int .i64 c, .bool p]) = .returned (.tuple #[.int .i64 b, .int .i64 d, .bool q]) := by rw [h, h', k]

set_option maxHeartbeats 1000000 in
theorem specCQ_any (t : Fm) (w : World) (va vp : Value) (hv : FmV w va vp t) (hw : t.wt ≤ 1048576) :
    Calls Try.prog 19 #[.agg #[.int .i64 t.op, .string t.atom.name, va, .string t.var, vp]] w (Ans (.tuple #[.int .i64 (cqA t), .int .i64 (cqB t), .bool (fgoodB t)]) w) := by
  obtain ⟨pa, ca, pp, cp, rfl, rfl⟩ := hv.open
  have HV := Lib.hid hv
  have H2 := Lib.hid (fivB_new w (.int .i64 t.op) (.string t.atom.name) (.slice pa t.atom.args.length ca) (.string t.var) (.slice pp t.parts.length cp) 35 _ rfl)
  have HB0 := Lib.hid ((Below.refl w.heap.size w).alloc (Nat.le_refl _) (.cells #[.int .i64 t.op, .string t.atom.name, .slice pa t.atom.args.length ca, .string t.var, .slice pp t.parts.length cp] 35))
  obtain ⟨b0, b1, b2, b3, b4, b5⟩ := H2.out
  have HW := Lib.hid hw
  clear hv hw
  go_enter Try.func19, Try.ntmps19
  go_wp2_with fail
  refine (l8Good_any t _ _ _ (HV.out.kept HB0.out) HW.out).mono ?_
  rintro e w1 ⟨rfl, hb⟩
  have HB1 := Lib.hid (carry_below HB0.out (Nat.le_refl _) hb)
  obtain ⟨c0, c1, c2, c3, c4, c5⟩ := H2.out.kept hb
  clear hb
  cases hf : fgoodB t with
  | false =>
    have HF := Lib.hid (cqA_no hf)
    have HG := Lib.hid (cqB_no hf)
    have HFF := Lib.hid hf
    clear hf
    go_wp2
    go_ret3
    exact ⟨ret_tri HF.out.symm HG.out.symm HFF.out.symm, HB1.out⟩
  | true =>
    have HF := Lib.hid (cqA_yes hf)
    have HG := Lib.hid (cqB_yes hf)
    have HFF := Lib.hid hf
    clear hf
    go_wp2_with fail
    refine (l8Count_any t _ _ _ true (HV.out.kept HB1.out) HW.out).mono ?_
    rintro e w2 ⟨he, hb⟩
    unfold cqV at he
    have HB2 := Lib.hid (carry_below HB1.out (Nat.le_refl _) hb)
    clear hb
    subst he
    go_wp2
    go_ret3
    exact ⟨ret_tri HF.out.symm HG.out.symm HFF.out.symm, HB2.out⟩

set_option maxHeartbeats 1000000 in
theorem implCQ_any (t : Fm) (w : World) (va vp : Value) (hv : FmV w va vp t) (hw : t.wt ≤ 1048576) :
    Calls Try.prog 20 #[.agg #[.int .i64 t.op, .string t.atom.name, va, .string t.var, vp]] w (Ans (.tuple #[.int .i64 (cqA t), .int .i64 (cqB t), .bool (fgoodB t)]) w) := by
  obtain ⟨pa, ca, pp, cp, rfl, rfl⟩ := hv.open
  have HV := Lib.hid hv
  have H2 := Lib.hid (fivB_new w (.int .i64 t.op) (.string t.atom.name) (.slice pa t.atom.args.length ca) (.string t.var) (.slice pp t.parts.length cp) 35 _ rfl)
  have HB0 := Lib.hid ((Below.refl w.heap.size w).alloc (Nat.le_refl _) (.cells #[.int .i64 t.op, .string t.atom.name, .slice pa t.atom.args.length ca, .string t.var, .slice pp t.parts.length cp] 35))
  obtain ⟨b0, b1, b2, b3, b4, b5⟩ := H2.out
  have HW := Lib.hid hw
  clear hv hw
  go_enter Try.func20, Try.ntmps20
  go_wp2_with fail
  refine (implVF_any t _ _ _ (HV.out.kept HB0.out) HW.out).mono ?_
  rintro e w1 ⟨rfl, hb⟩
  have HB1 := Lib.hid (carry_below HB0.out (Nat.le_refl _) hb)
  obtain ⟨c0, c1, c2, c3, c4, c5⟩ := H2.out.kept hb
  clear hb
  cases hf : fgoodB t with
  | false =>
    have HF := Lib.hid (cqA_no hf)
    have HG := Lib.hid (cqB_no hf)
    have HFF := Lib.hid hf
    clear hf
    go_wp2
    go_ret3
    exact ⟨ret_tri HF.out.symm HG.out.symm HFF.out.symm, HB1.out⟩
  | true =>
    have HF := Lib.hid (cqA_yes hf)
    have HG := Lib.hid (cqB_yes hf)
    have HFF := Lib.hid hf
    clear hf
    go_wp2_with fail
    refine (countQ_any t _ _ _ true (HV.out.kept HB1.out) HW.out).mono ?_
    rintro e w2 ⟨he, hb⟩
    unfold cqV at he
    have HB2 := Lib.hid (carry_below HB1.out (Nat.le_refl _) hb)
    clear hb
    subst he
    go_wp2
    go_ret3
    exact ⟨ret_tri HF.out.symm HG.out.symm HFF.out.symm, HB2.out⟩

end Go.Proofs.Ytgpmdfhepanahaa
