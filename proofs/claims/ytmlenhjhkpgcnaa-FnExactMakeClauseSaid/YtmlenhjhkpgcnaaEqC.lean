/- The laws' comparing helper over substitutions: contracts, for lists of at most 1048576 bindings. -/
import Derived.Test.YtmlenhjhkpgcnaaLt
namespace Go.Proofs.Ytmlenhjhkpgcnaa
open Go.RowKit
set_option linter.unusedVariables false

set_option maxHeartbeats 1000000 in
theorem eqLitG_any (p q : Bool) (t u : Tm) (w : World) (va vb : Value) (ha : TmS w va t.args) (hb : TmS w vb u.args) (hl : t.lim 1048576) (hy : u.lim 1048576) :
    Calls Try.prog 18 #[.agg #[.bool p, .string t.name, va], .agg #[.bool q, .string u.name, vb]] w (EqEnd (decide (p = q) && eqT t u) w) := by
  obtain ⟨pa, ca, rfl⟩ := ha.is_slice
  obtain ⟨pb, cb, rfl⟩ := hb.is_slice
  have HB := Lib.hid (((Below.refl w.heap.size w).alloc (Nat.le_refl _) (.cells #[.bool p, .string t.name, .slice pa t.args.length ca] 33)).alloc (by simp) (.cells #[.bool q, .string u.name, .slice pb u.args.length cb] 33))
  have HCE := Lib.hid (eqTerm_any t u _ _ _ (ha.kept HB.out) (hb.kept HB.out) hl hy)
  clear ha hb
  by_cases hpq : p = q
  · subst hpq
    have HE : Hid ((decide (p = p) && eqT t u) = eqT t u) := Lib.hid (by simp)
    rw [HE.out]
    obtain ⟨z, hz⟩ : ∃ z, z = eqT t u := ⟨_, rfl⟩
    rw [← hz] at HCE ⊢
    clear HE hz
    go_enter Try.func18, Try.ntmps18
    go_wp2_with fail
    refine HCE.out.mono ?_
    rintro e w1 ⟨rfl, hb⟩
    have HB1 := Lib.hid (carry_below HB.out (Nat.le_refl _) hb)
    clear hb
    cases z <;> (go_wp2; go_ret; exact ⟨rfl, HB1.out⟩)
  · have HE : Hid ((decide (p = q) && eqT t u) = false) := Lib.hid (by simp [hpq])
    clear HCE
    cases p <;> cases q <;> first
      | exact absurd rfl hpq
      | (clear hpq
         go_enter Try.func18, Try.ntmps18
         go_wp2
         go_ret
         exact ⟨ret_bool HE.out.symm, HB.out⟩)

def eqCs (l r : List Lt) : Bool := decide (l = r)
theorem eqCs_self (l : List Lt) : eqCs l l = true := by simp [eqCs]
theorem eqCs_iff {l r : List Lt} : eqCs l r = true ↔ l = r := by simp [eqCs]

def AgreeC (l r : List Lt) (k : Nat) : Prop := ∀ j, j < k → l[j]? = r[j]?
theorem AgreeC.next {l r : List Lt} {k : Nat} {x y : Lt} (h : AgreeC l r k) (hx : l[k]? = some x) (hy : r[k]? = some y) (e : eqLt x y = true) : AgreeC l r (k + 1) := fun j hj => by
  by_cases ej : j = k
  · subst ej; rw [hx, hy, eqLt_iff.1 e]
  · exact h j (by omega)
theorem AgreeC.all {l r : List Lt} (h : AgreeC l r l.length) (hl : l.length = r.length) : eqCs l r = true := by
  rw [eqCs_iff]
  apply List.ext_getElem?
  intro j
  by_cases hj : j < l.length
  · exact h j hj
  · rw [List.getElem?_eq_none (by omega), List.getElem?_eq_none (by omega)]
theorem eqCs_no {l r : List Lt} {k : Nat} {x y : Lt} (hx : l[k]? = some x) (hy : r[k]? = some y) (e : eqLt x y = false) : eqCs l r = false := by
  rw [Bool.eq_false_iff]
  intro h
  rw [eqCs_iff] at h
  subst h
  rw [hx] at hy; injection hy with hy; subst hy
  rw [eqLt_self] at e; cases e
theorem eqCs_len {l r : List Lt} (h : l.length ≠ r.length) : eqCs l r = false := by
  rw [Bool.eq_false_iff]
  intro e
  rw [eqCs_iff] at e
  exact h (by rw [e])

set_option maxHeartbeats 1000000 in
theorem eqLiteralS_any (l r : List Lt) (w : World) (va vb : Value) (ha : LtS w va l) (hb : LtS w vb r) (hlim : limC 1048576 l) (hrlim : limC 1048576 r) :
    Calls Try.prog 30 #[va, vb] w (EqEnd (eqCs l r) w) := by
  have hl := hlim.1
  have hr := hrlim.1
  have HL := Lib.hid hlim.2
  have HLR := Lib.hid hrlim.2
  clear hlim hrlim
  by_cases hlen : l.length = r.length
  · rcases ha with ⟨a, c, rfl, rfl⟩ | ⟨b, off, c, rfl, hp, hat⟩
    · have hr0 : r = [] := List.length_eq_zero_iff.1 hlen.symm
      subst hr0
      obtain ⟨a', c', rfl⟩ := hb.is_slice
      have HE := Lib.hid (eqCs_self [])
      clear hb hlen
      go_enter Try.func30, Try.ntmps30
      go_wp2
      refine wp_loop_rounds 1 ?_
      rw [rounds_succ]
      go_wp2
      go_ret
      exact ⟨ret_bool HE.out.symm, Below.refl _ _⟩
    · rcases hb with ⟨a, c', rfl, rfl⟩ | ⟨b', off', c', rfl, hp', hat'⟩
      · simp at hlen; rw [hlen] at hp; simp at hp
      · have HA := Lib.hid hat
        have HB := Lib.hid hat'
        have HN := Lib.hid hlen
        have hl' : ((l.length : Int) != (r.length : Int)) = false := by rw [bne_eq_false_iff_eq]; omega
        clear hat hat' hlen
        go_enter Try.func30, Try.ntmps30
        go_wp2
        go_loopw [5] (fun i wr => ∃ k : Nat, k ≤ l.length ∧ i = .int .i64 k ∧ AgreeC l r k ∧ Below w.heap.size w wr) (fun i _ => l.length - (intOf i).toNat)
        case atStart => exact ⟨0, Nat.zero_le _, rfl, fun j hj => absurd hj (Nat.not_lt_zero _), Below.refl _ _⟩
        case round =>
          obtain ⟨k, hk, rfl, hag, hbel⟩ := hrel
          have HG := Lib.hid hag
          have HBE := Lib.hid hbel
          clear hag hbel
          by_cases hlt : k < l.length
          · have hltr : k < r.length := by have := HN.out; omega
            obtain ⟨x, hx⟩ : ∃ t, l[k]? = some t := ⟨_, List.getElem?_eq_getElem hlt⟩
            obtain ⟨y, hy⟩ : ∃ t, r[k]? = some t := ⟨_, List.getElem?_eq_getElem hltr⟩
            obtain ⟨v1, a0, a1, a2, a3⟩ := HA.out k x hx
            obtain ⟨v2, b0, b1, b2, b3⟩ := HB.out k y hy
            have a0' := carry_cell a0 HBE.out
            have a1' := carry_cell a1 HBE.out
            have a2' := carry_cell a2 HBE.out
            have b0' := carry_cell b0 HBE.out
            have b1' := carry_cell b1 HBE.out
            have b2' := carry_cell b2 HBE.out
            have HV1 := Lib.hid (a3.kept HBE.out)
            have HV2 := Lib.hid (b3.kept HBE.out)
            have HX := Lib.hid hx
            have HY := Lib.hid hy
            clear hx hy a0 a1 b0 b1 a2 b2 a3 b3
            have C : Hid (∀ W : World, Below wr.heap.size wr W → Calls Try.prog 18 #[.agg #[.bool x.var, .string x.tm.name, v1], .agg #[.bool y.var, .string y.tm.name, v2]] W (EqEnd (eqLt x y) W)) := Lib.hid (fun W hW =>
              eqLitG_any x.var y.var x.tm y.tm W v1 v2 (HV1.out.kept hW) (HV2.out.kept hW) (HL.out x (mem_of_at HX.out)) (HLR.out y (mem_of_at HY.out)))
            have hB0 : Below wr.heap.size wr wr.drew := (Below.refl _ _).drew
            go_wp2_with fail
            go_region_held3 (fun w' => w'.cell? ⟨b, off + k * 3, none⟩ = some (.bool x.var) ∧ w'.cell? ⟨b, off + k * 3 + 1, none⟩ = some (.string x.tm.name) ∧ w'.cell? ⟨b, off + k * 3 + 2, none⟩ = some v1 ∧ w'.cell? ⟨b', off' + k * 3, none⟩ = some (.bool y.var) ∧ w'.cell? ⟨b', off' + k * 3 + 1, none⟩ = some (.string y.tm.name) ∧ w'.cell? ⟨b', off' + k * 3 + 2, none⟩ = some v2 ∧ Below wr.heap.size wr w') (first | exact ⟨by assumption, by assumption, by assumption, by assumption, by assumption, by assumption, by assumption⟩ | go_keep) (first | (go_at_call 18; refine (C.out _ (by assumption)).mono ?_; rintro e w' ⟨rfl, hb⟩; have hc1' := carry_cell' hb a0'; have hc2' := carry_cell' hb a1'; have hc3' := carry_cell' hb b0'; have hc4' := carry_cell' hb b1'; have hc5' := carry_cell' hb a2'; have hc6' := carry_cell' hb b2'; have hB' := carry_below (by assumption) (Nat.le_refl _) hb))
            have hB2 : Below wr.heap.size wr w' := by assumption
            have HB2 := Lib.hid (carry_below HBE.out (Nat.le_refl _) hB2)
            clear hB2
            cases hE : eqLt x y
            · have HF := Lib.hid (eqCs_no HX.out HY.out hE)
              clear hE
              go_wp2
              go_ret
              exact ⟨ret_bool HF.out.symm, HB2.out⟩
            · have HF := Lib.hid (HG.out.next HX.out HY.out hE)
              clear hE
              go_wp2
              go_roundw
              case rel => exact ⟨k + 1, by omega, by go_num, HF.out, HB2.out⟩
              case measure => simp [intOf]; omega
          · have hke : k = l.length := by omega
            subst hke
            have HF := Lib.hid (HG.out.all HN.out)
            go_wp2
            go_ret
            exact ⟨ret_bool HF.out.symm, HBE.out⟩
  · have HF := Lib.hid (eqCs_len hlen)
    have hl' : ((l.length : Int) == (r.length : Int)) = false := by simp; omega
    obtain ⟨a, c, rfl⟩ := ha.is_slice
    obtain ⟨a', c', rfl⟩ := hb.is_slice
    clear hlen ha hb
    go_enter Try.func30, Try.ntmps30
    go_wp2
    go_ret
    exact ⟨ret_bool HF.out.symm, Below.refl _ _⟩

set_option maxHeartbeats 1000000 in
theorem eqClause_any (l r : List Lt) (w : World) (va vb : Value) (ha : LtS w va l) (hb : LtS w vb r) (hlim : limC 1048576 l) (hrlim : limC 1048576 r) :
    Calls Try.prog 23 #[.agg #[va], .agg #[vb]] w (EqEnd (eqCs l r) w) := by
  obtain ⟨pa, ca, rfl⟩ := ha.is_slice
  obtain ⟨pb, cb, rfl⟩ := hb.is_slice
  have HB := Lib.hid (((Below.refl w.heap.size w).alloc (Nat.le_refl _) (.cells #[.slice pa l.length ca] 44)).alloc (by simp) (.cells #[.slice pb r.length cb] 44))
  have HC := Lib.hid (eqLiteralS_any l r _ _ _ (ha.kept HB.out) (hb.kept HB.out) hlim hrlim)
  clear ha hb
  go_enter Try.func23, Try.ntmps23
  go_wp2_with fail
  refine HC.out.mono ?_
  rintro e w' ⟨rfl, hb⟩
  have HBB := Lib.hid (carry_below HB.out (Nat.le_refl _) hb)
  clear hb
  cases hE : eqCs l r
  · go_wp2
    go_ret
    exact ⟨ret_bool hE.symm, HBB.out⟩
  · go_wp2
    go_ret
    exact ⟨ret_bool hE.symm, HBB.out⟩

end Go.Proofs.Ytmlenhjhkpgcnaa
