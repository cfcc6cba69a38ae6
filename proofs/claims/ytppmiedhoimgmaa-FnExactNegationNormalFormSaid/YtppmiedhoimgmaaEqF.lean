/- The laws' comparing helper over formulas: a contract, for formulas whose lists have at most 1048576 elements. -/
import Derived.Test.YtppmiedhoimgmaaEq
import Derived.Test.YtppmiedhoimgmaaFmW
namespace Go.Proofs.Ytppmiedhoimgmaa
open Go.RowKit
set_option linter.unusedVariables false

def EqFm (x : Fm) : Prop := ∀ (y : Fm) (w : World) (va vp vb vq : Value), TmS w va x.atom.args → FmS w vp x.parts → TmS w vb y.atom.args → FmS w vq y.parts → x.lim 1048576 → y.lim 1048576 →
  Calls Try.prog 39 #[.agg #[.int .i64 x.op, .string x.atom.name, va, .string x.var, vp], .agg #[.int .i64 y.op, .string y.atom.name, vb, .string y.var, vq]] w (EqEnd (eqF x y) w)
def EqFs (l : List Fm) : Prop := ∀ (r : List Fm) (w : World) (va vb : Value), FmS w va l → FmS w vb r → l.length ≤ 1048576 → Fm.limL 1048576 l → r.length ≤ 1048576 → Fm.limL 1048576 r →
  Calls Try.prog 97 #[va, vb] w (EqEnd (eqFs l r) w)

theorem eqF_op {x y : Fm} (h : x.op ≠ y.op) : eqF x y = false := by rw [eqF_node]; simp [h]
theorem eqF_atom {x y : Fm} (h : eqT x.atom y.atom = false) : eqF x y = false := by rw [eqF_node, h]; simp
theorem eqF_var {x y : Fm} (h : x.var ≠ y.var) : eqF x y = false := by rw [eqF_node]; simp [h]
theorem eqF_parts {x y : Fm} (h0 : x.op = y.op) (h1 : eqT x.atom y.atom = true) (h2 : x.var = y.var) : eqF x y = eqFs x.parts y.parts := by rw [eqF_node]; simp [h0, h1, h2]

theorem eqFs_len {l r : List Fm} (h : l.length ≠ r.length) : eqFs l r = false := by
  unfold eqFs; rw [decide_eq_false_iff_not]; intro e; exact h (by rw [e])
theorem eqFs_no {l r : List Fm} {k : Nat} {x y : Fm} (hx : l[k]? = some x) (hy : r[k]? = some y) (h : eqF x y = false) : eqFs l r = false := by
  unfold eqFs; rw [decide_eq_false_iff_not]; intro e; subst e
  rw [hx] at hy; injection hy with hy; subst hy; rw [eqF_self] at h; cases h
/-- The first k elements agree. -/
def AgreeF (l r : List Fm) (k : Nat) : Prop := ∀ j, j < k → l[j]? = r[j]?
theorem AgreeF.next {l r : List Fm} {k : Nat} {x y : Fm} (h : AgreeF l r k) (hx : l[k]? = some x) (hy : r[k]? = some y) (e : eqF x y = true) : AgreeF l r (k + 1) := fun j hj => by
  by_cases hjk : j = k
  · subst hjk; rw [hx, hy]; unfold eqF at e; rw [decide_eq_true_iff] at e; rw [e]
  · exact h j (by omega)
theorem AgreeF.all {l r : List Fm} (h : AgreeF l r l.length) (hl : l.length = r.length) : eqFs l r = true := by
  unfold eqFs; rw [decide_eq_true_iff]
  apply List.ext_getElem?
  intro j
  by_cases hj : j < l.length
  · exact h j hj
  · rw [List.getElem?_eq_none (by omega), List.getElem?_eq_none (by omega)]

set_option maxHeartbeats 1000000 in
theorem eqFormula_of (x : Fm) (h : EqFs x.parts) : EqFm x := by
  intro y w va vp vb vq ha hp hb hq hl hy
  obtain ⟨hl0, _, hl1, hl2⟩ := Fm.lim_eq.1 hl
  obtain ⟨hr0, _, hr1, hr2⟩ := Fm.lim_eq.1 hy
  obtain ⟨pa, ca, rfl⟩ := ha.is_slice
  obtain ⟨pb, cb, rfl⟩ := hb.is_slice
  obtain ⟨pp, cp, rfl⟩ := hp.is_slice
  obtain ⟨pq, cq, rfl⟩ := hq.is_slice
  have HA := Lib.hid ha
  have HBB := Lib.hid hb
  have HP := Lib.hid hp
  have HQ := Lib.hid hq
  have H := Lib.hid h
  have HL0 := Lib.hid hl0
  have HR0 := Lib.hid hr0
  have HL := Lib.hid (Fm.limL_mem.2 hl2)
  have HLR := Lib.hid (Fm.limL_mem.2 hr2)
  have HX := Lib.hid ((fivB_new w (.int .i64 x.op) (.string x.atom.name) (.slice pa x.atom.args.length ca) (.string x.var) (.slice pp x.parts.length cp) 68 _ rfl).alloc (.cells #[.int .i64 y.op, .string y.atom.name, .slice pb y.atom.args.length cb, .string y.var, .slice pq y.parts.length cq] 68))
  have HY := Lib.hid (fivB_new (w.alloc (.cells #[.int .i64 x.op, .string x.atom.name, .slice pa x.atom.args.length ca, .string x.var, .slice pp x.parts.length cp] 68)) (.int .i64 y.op) (.string y.atom.name) (.slice pb y.atom.args.length cb) (.string y.var) (.slice pq y.parts.length cq) 68 (w.heap.size + 1) (by simp))
  have HB := Lib.hid (((Below.refl w.heap.size w).alloc (Nat.le_refl _) (.cells #[.int .i64 x.op, .string x.atom.name, .slice pa x.atom.args.length ca, .string x.var, .slice pp x.parts.length cp] 68)).alloc (by simp) (.cells #[.int .i64 y.op, .string y.atom.name, .slice pb y.atom.args.length cb, .string y.var, .slice pq y.parts.length cq] 68))
  clear ha hb hp hq h hl hy hl0 hr0 hl2 hr2
  by_cases hop : x.op = y.op
  · have ho1 : ((x.op : Int) == y.op) = true := by simp [hop]
    have ho2 : ((x.op : Int) != y.op) = false := by simp [hop]
    have HOP := Lib.hid hop
    clear hop
    go_enter Try.func39, Try.ntmps39
    go_wp2_with fail
    refine (eqTerm_any x.atom y.atom _ _ _ (HA.out.kept HB.out) (HBB.out.kept HB.out) HL0.out HR0.out).mono ?_
    rintro e w1 ⟨rfl, hb⟩
    have HB1 := Lib.hid (carry_below HB.out (Nat.le_refl _) hb)
    have HX1 := Lib.hid (HX.out.kept hb)
    have HY1 := Lib.hid (HY.out.kept hb)
    obtain ⟨a0, a1, a2, a3, a4, a5⟩ := HX.out.kept hb
    obtain ⟨b0, b1, b2, b3, b4, b5⟩ := HY.out.kept hb
    clear hb
    cases hE : eqT x.atom y.atom
    · have HF := Lib.hid (eqF_atom hE)
      clear hE
      go_wp2
      go_ret
      exact ⟨ret_bool HF.out.symm, HB1.out⟩
    · have HE := Lib.hid hE
      clear hE
      by_cases hn : x.var = y.var
      · have hq := str_eq hn
        have HF := Lib.hid (eqF_parts HOP.out HE.out hn)
        clear hn
        go_wp2_with fail
        refine (H.out y.parts _ _ _ (HP.out.kept HB1.out) (HQ.out.kept HB1.out) hl1 HL.out hr1 HLR.out).mono ?_
        rintro e w2 ⟨rfl, hb⟩
        have HB2 := Lib.hid (carry_below HB1.out (Nat.le_refl _) hb)
        clear hb
        cases hE : eqFs x.parts y.parts
        · have HG := Lib.hid (HF.out.trans hE)
          clear hE
          go_wp2
          go_ret
          exact ⟨ret_bool HG.out.symm, HB2.out⟩
        · have HG := Lib.hid (HF.out.trans hE)
          clear hE
          go_wp2
          go_ret
          exact ⟨ret_bool HG.out.symm, HB2.out⟩
      · have hq := str_ne hn
        have HF := Lib.hid (eqF_var hn)
        clear hn
        go_wp2
        go_ret
        exact ⟨ret_bool HF.out.symm, HB1.out⟩
  · have ho1 : ((x.op : Int) == y.op) = false := by simp [hop]
    have ho2 : ((x.op : Int) != y.op) = true := by simp [hop]
    have HF := Lib.hid (eqF_op hop)
    clear hop
    go_enter Try.func39, Try.ntmps39
    go_wp2_with fail
    go_ret
    exact ⟨ret_bool HF.out.symm, HB.out⟩

set_option maxHeartbeats 1000000 in
theorem eqFormulaS_of (l : List Fm) (h : ∀ t ∈ l, EqFm t) : EqFs l := by
  intro r w va vb ha hb hn hlim hrn hrlim
  have H := Lib.hid h
  have HL := Lib.hid (Fm.limL_mem.1 hlim)
  have HLR := Lib.hid (Fm.limL_mem.1 hrlim)
  clear h hlim hrlim
  by_cases hlen : l.length = r.length
  · rcases ha.partsOf with ⟨a, c, rfl, rfl⟩ | ⟨b, off, c, rfl, hp, hat⟩
    · have hr0 : r = [] := List.length_eq_zero_iff.1 hlen.symm
      subst hr0
      obtain ⟨a', c', rfl⟩ := hb.is_slice
      clear ha hb hlen
      go_enter Try.func97, Try.ntmps97
      go_wp2
      refine wp_loop_rounds 1 ?_
      rw [rounds_succ]
      go_wp2
      go_ret
      exact ⟨rfl, Below.refl _ _⟩
    · rcases hb.partsOf with ⟨a, c', rfl, rfl⟩ | ⟨b', off', c', rfl, hp', hat'⟩
      · simp at hlen; rw [hlen] at hp; simp at hp
      · have HA := Lib.hid hat
        have HB := Lib.hid hat'
        have HN := Lib.hid hlen
        have hl' : ((l.length : Int) != (r.length : Int)) = false := by rw [bne_eq_false_iff_eq]; omega
        clear ha hb hat hat' hlen
        go_enter Try.func97, Try.ntmps97
        go_wp2
        go_loopw [5] (fun i wr => ∃ k : Nat, k ≤ l.length ∧ i = .int .i64 k ∧ AgreeF l r k ∧ Below w.heap.size w wr) (fun i _ => l.length - (intOf i).toNat)
        case atStart => exact ⟨0, Nat.zero_le _, rfl, fun j hj => absurd hj (Nat.not_lt_zero _), Below.refl _ _⟩
        case round =>
          obtain ⟨k, hk, rfl, hag, hbel⟩ := hrel
          have HG := Lib.hid hag
          have HBE := Lib.hid hbel
          clear hag hbel
          by_cases hlt : k < l.length
          · have hltr : k < r.length := by have := HN.out; omega
            obtain ⟨x, hx⟩ : ∃ t, l[k]? = some t := ⟨_, List.getElem?_eq_getElem hlt⟩
            obtain ⟨y, hy⟩ : ∃ t, r[k]? = some t := ⟨_, List.getElem?_eq_getElem hltr⟩
            obtain ⟨v1, p1, fx, x1, x2⟩ := HA.out k x hx
            obtain ⟨v2, p2, fy, y1, y2⟩ := HB.out k y hy
            obtain ⟨a0, a1, a2, a3, a4⟩ := fx.kept HBE.out
            obtain ⟨b0, b1, b2, b3, b4⟩ := fy.kept HBE.out
            have HV1 := Lib.hid (x1.kept HBE.out)
            have HV2 := Lib.hid (y1.kept HBE.out)
            have HP1 := Lib.hid (x2.kept HBE.out)
            have HP2 := Lib.hid (y2.kept HBE.out)
            have HX := Lib.hid hx
            have HY := Lib.hid hy
            clear hx hy fx fy x1 x2 y1 y2
            have C : Hid (∀ W : World, Below wr.heap.size wr W → Calls Try.prog 39 #[.agg #[.int .i64 x.op, .string x.atom.name, v1, .string x.var, p1], .agg #[.int .i64 y.op, .string y.atom.name, v2, .string y.var, p2]] W (EqEnd (eqF x y) W)) := Lib.hid (fun W hW =>
              H.out x (mem_of_at HX.out) y W v1 p1 v2 p2 (HV1.out.kept hW) (HP1.out.kept hW) (HV2.out.kept hW) (HP2.out.kept hW) (HL.out x (mem_of_at HX.out)) (HLR.out y (mem_of_at HY.out)))
            have hB0 : Below wr.heap.size wr wr.drew := (Below.refl _ _).drew
            go_wp2_with fail
            go_region_held3 (fun w' => w'.cell? ⟨b, off + k * 5, none⟩ = some (.int .i64 x.op) ∧ w'.cell? ⟨b, off + k * 5 + 1, none⟩ = some (.string x.atom.name) ∧ w'.cell? ⟨b, off + k * 5 + 2, none⟩ = some v1 ∧ w'.cell? ⟨b, off + k * 5 + 3, none⟩ = some (.string x.var) ∧ w'.cell? ⟨b, off + k * 5 + 4, none⟩ = some p1 ∧ w'.cell? ⟨b', off' + k * 5, none⟩ = some (.int .i64 y.op) ∧ w'.cell? ⟨b', off' + k * 5 + 1, none⟩ = some (.string y.atom.name) ∧ w'.cell? ⟨b', off' + k * 5 + 2, none⟩ = some v2 ∧ w'.cell? ⟨b', off' + k * 5 + 3, none⟩ = some (.string y.var) ∧ w'.cell? ⟨b', off' + k * 5 + 4, none⟩ = some p2 ∧ Below wr.heap.size wr w') (first | exact ⟨by assumption, by assumption, by assumption, by assumption, by assumption, by assumption, by assumption, by assumption, by assumption, by assumption, by assumption⟩ | go_keep) (first | (go_at_call 39; refine (C.out _ (by assumption)).mono ?_; rintro e w' ⟨rfl, hb⟩; have ha0 := carry_cell' hb a0; have ha1 := carry_cell' hb a1; have ha2 := carry_cell' hb a2; have ha3 := carry_cell' hb a3; have ha4 := carry_cell' hb a4; have hb0 := carry_cell' hb b0; have hb1 := carry_cell' hb b1; have hb2 := carry_cell' hb b2; have hb3 := carry_cell' hb b3; have hb4 := carry_cell' hb b4; have hB' := carry_below (by assumption) (Nat.le_refl _) hb))
            have hB2 : Below wr.heap.size wr w' := by assumption
            have HB2 := Lib.hid (carry_below HBE.out (Nat.le_refl _) hB2)
            clear hB2
            cases hE : eqF x y
            · have HF := Lib.hid (eqFs_no HX.out HY.out hE)
              clear hE
              go_wp2
              go_ret
              exact ⟨ret_bool HF.out.symm, HB2.out⟩
            · have HF := Lib.hid (HG.out.next HX.out HY.out hE)
              clear hE
              go_wp2
              go_roundw
              case rel => exact ⟨k + 1, by omega, by go_num, HF.out, HB2.out⟩
              case measure => simp [intOf]; omega
          · have hke : k = l.length := by omega
            subst hke
            have HF := Lib.hid (HG.out.all HN.out)
            go_wp2
            go_ret
            exact ⟨ret_bool HF.out.symm, HBE.out⟩
  · have HF := Lib.hid (eqFs_len hlen)
    have hl' : ((l.length : Int) == (r.length : Int)) = false := by simp; omega
    obtain ⟨a, c, rfl⟩ := ha.is_slice
    obtain ⟨a', c', rfl⟩ := hb.is_slice
    clear hlen ha hb
    go_enter Try.func97, Try.ntmps97
    go_wp2
    go_ret
    exact ⟨ret_bool HF.out.symm, Below.refl _ _⟩

theorem eqFormula_any (t : Fm) : EqFm t := Fm.ind (P := EqFm) (fun t ih => eqFormula_of t (eqFormulaS_of t.parts ih)) t

theorem eqFmV_any (t : Fm) (w : World) (va vp vb vq : Value) (h : FmV w va vp t) (h' : FmV w vb vq t) (hl : t.lim 1048576) :
    Calls Try.prog 39 #[.agg #[.int .i64 t.op, .string t.atom.name, va, .string t.var, vp], .agg #[.int .i64 t.op, .string t.atom.name, vb, .string t.var, vq]] w (EqEnd true w) := by
  have e := eqFormula_any t t w va vp vb vq h.1 h.2 h'.1 h'.2 hl hl
  rwa [eqF_self] at e

end Go.Proofs.Ytppmiedhoimgmaa
