/- The laws' comparing helper over substitutions: contracts, for lists of at most 1048576 bindings. -/
import Derived.Test.YtnkonhdnccolhaaBd
namespace Go.Proofs.Ytnkonhdnccolhaa
open Go.RowKit
set_option linter.unusedVariables false

set_option maxHeartbeats 1000000 in
theorem eqBinding_any (d u : Bd) (w : World) (va vb : Value) (ha : TmS w va d.tm.args) (hb : TmS w vb u.tm.args) (hl : d.tm.lim 1048576) (hy : u.tm.lim 1048576) :
    Calls Try.prog 139 #[.agg #[.string d.var, .string d.tm.name, va], .agg #[.string u.var, .string u.tm.name, vb]] w (EqEnd (eqBd d u) w) := by
  obtain ⟨pa, ca, rfl⟩ := ha.is_slice
  obtain ⟨pb, cb, rfl⟩ := hb.is_slice
  have HB := Lib.hid (((Below.refl w.heap.size w).alloc (Nat.le_refl _) (.cells #[.string d.var, .string d.tm.name, .slice pa d.tm.args.length ca] 110)).alloc (by simp) (.cells #[.string u.var, .string u.tm.name, .slice pb u.tm.args.length cb] 110))
  have HC := Lib.hid (eqTerm_any d.tm u.tm _ _ _ (ha.kept HB.out) (hb.kept HB.out) hl hy)
  clear ha hb
  by_cases hn : d.var = u.var
  · have hq := str_eq hn
    have HE : Hid (eqBd d u = eqT d.tm u.tm) := Lib.hid (by unfold eqBd; simp [hn])
    clear hn
    go_enter Try.func139, Try.ntmps139
    go_wp2_with fail
    refine HC.out.mono ?_
    rintro e w' ⟨rfl, hb⟩
    have HBB := Lib.hid (carry_below HB.out (Nat.le_refl _) hb)
    clear hb
    cases hE : eqT d.tm u.tm
    · have HF := Lib.hid (HE.out.trans hE)
      clear hE
      go_wp2
      go_ret
      exact ⟨ret_bool HF.out.symm, HBB.out⟩
    · have HF := Lib.hid (HE.out.trans hE)
      clear hE
      go_wp2
      go_ret
      exact ⟨ret_bool HF.out.symm, HBB.out⟩
  · have hq := str_ne hn
    have HE : Hid (eqBd d u = false) := Lib.hid (by unfold eqBd; simp [hn])
    clear hn
    go_enter Try.func139, Try.ntmps139
    go_wp2_with fail
    go_ret
    exact ⟨ret_bool HE.out.symm, HB.out⟩

def eqBs (l r : List Bd) : Bool := decide (l = r)
theorem eqBs_self (l : List Bd) : eqBs l l = true := by simp [eqBs]
theorem eqBs_iff {l r : List Bd} : eqBs l r = true ↔ l = r := by simp [eqBs]

def AgreeB (l r : List Bd) (k : Nat) : Prop := ∀ j, j < k → l[j]? = r[j]?
theorem AgreeB.next {l r : List Bd} {k : Nat} {x y : Bd} (h : AgreeB l r k) (hx : l[k]? = some x) (hy : r[k]? = some y) (e : eqBd x y = true) : AgreeB l r (k + 1) := fun j hj => by
  by_cases ej : j = k
  · subst ej; rw [hx, hy, eqBd_iff.1 e]
  · exact h j (by omega)
theorem AgreeB.all {l r : List Bd} (h : AgreeB l r l.length) (hl : l.length = r.length) : eqBs l r = true := by
  rw [eqBs_iff]
  apply List.ext_getElem?
  intro j
  by_cases hj : j < l.length
  · exact h j hj
  · rw [List.getElem?_eq_none (by omega), List.getElem?_eq_none (by omega)]
theorem eqBs_no {l r : List Bd} {k : Nat} {x y : Bd} (hx : l[k]? = some x) (hy : r[k]? = some y) (e : eqBd x y = false) : eqBs l r = false := by
  rw [Bool.eq_false_iff]
  intro h
  rw [eqBs_iff] at h
  subst h
  rw [hx] at hy; injection hy with hy; subst hy
  rw [eqBd_self] at e; cases e
theorem eqBs_len {l r : List Bd} (h : l.length ≠ r.length) : eqBs l r = false := by
  rw [Bool.eq_false_iff]
  intro e
  rw [eqBs_iff] at e
  exact h (by rw [e])

set_option maxHeartbeats 1000000 in
theorem eqBindingS_any (l r : List Bd) (w : World) (va vb : Value) (ha : BdS w va l) (hb : BdS w vb r) (hlim : limB 1048576 l) (hrlim : limB 1048576 r) :
    Calls Try.prog 80 #[va, vb] w (EqEnd (eqBs l r) w) := by
  have hl := hlim.1
  have hr := hrlim.1
  have HL := Lib.hid hlim.2
  have HLR := Lib.hid hrlim.2
  clear hlim hrlim
  by_cases hlen : l.length = r.length
  · rcases ha with ⟨a, c, rfl, rfl⟩ | ⟨b, off, c, rfl, hp, hat⟩
    · have hr0 : r = [] := List.length_eq_zero_iff.1 hlen.symm
      subst hr0
      obtain ⟨a', c', rfl⟩ := hb.is_slice
      have HE := Lib.hid (eqBs_self [])
      clear hb hlen
      go_enter Try.func80, Try.ntmps80
      go_wp2
      refine wp_loop_rounds 1 ?_
      rw [rounds_succ]
      go_wp2
      go_ret
      exact ⟨ret_bool HE.out.symm, Below.refl _ _⟩
    · rcases hb with ⟨a, c', rfl, rfl⟩ | ⟨b', off', c', rfl, hp', hat'⟩
      · simp at hlen; rw [hlen] at hp; simp at hp
      · have HA := Lib.hid hat
        have HB := Lib.hid hat'
        have HN := Lib.hid hlen
        have hl' : ((l.length : Int) != (r.length : Int)) = false := by rw [bne_eq_false_iff_eq]; omega
        clear hat hat' hlen
        go_enter Try.func80, Try.ntmps80
        go_wp2
        go_loopw [5] (fun i wr => ∃ k : Nat, k ≤ l.length ∧ i = .int .i64 k ∧ AgreeB l r k ∧ Below w.heap.size w wr) (fun i _ => l.length - (intOf i).toNat)
        case atStart => exact ⟨0, Nat.zero_le _, rfl, fun j hj => absurd hj (Nat.not_lt_zero _), Below.refl _ _⟩
        case round =>
          obtain ⟨k, hk, rfl, hag, hbel⟩ := hrel
          have HG := Lib.hid hag
          have HBE := Lib.hid hbel
          clear hag hbel
          by_cases hlt : k < l.length
          · have hltr : k < r.length := by have := HN.out; omega
            obtain ⟨x, hx⟩ : ∃ t, l[k]? = some t := ⟨_, List.getElem?_eq_getElem hlt⟩
            obtain ⟨y, hy⟩ : ∃ t, r[k]? = some t := ⟨_, List.getElem?_eq_getElem hltr⟩
            obtain ⟨v1, a0, a1, a2, a3⟩ := HA.out k x hx
            obtain ⟨v2, b0, b1, b2, b3⟩ := HB.out k y hy
            have a0' := carry_cell a0 HBE.out
            have a1' := carry_cell a1 HBE.out
            have a2' := carry_cell a2 HBE.out
            have b0' := carry_cell b0 HBE.out
            have b1' := carry_cell b1 HBE.out
            have b2' := carry_cell b2 HBE.out
            have HV1 := Lib.hid (a3.kept HBE.out)
            have HV2 := Lib.hid (b3.kept HBE.out)
            have HX := Lib.hid hx
            have HY := Lib.hid hy
            clear hx hy a0 a1 b0 b1 a2 b2 a3 b3
            have C : Hid (∀ W : World, Below wr.heap.size wr W → Calls Try.prog 139 #[.agg #[.string x.var, .string x.tm.name, v1], .agg #[.string y.var, .string y.tm.name, v2]] W (EqEnd (eqBd x y) W)) := Lib.hid (fun W hW =>
              eqBinding_any x y W v1 v2 (HV1.out.kept hW) (HV2.out.kept hW) (HL.out x (mem_of_at HX.out)).2 (HLR.out y (mem_of_at HY.out)).2)
            have hB0 : Below wr.heap.size wr wr.drew := (Below.refl _ _).drew
            go_wp2_with fail
            go_region_held3 (fun w' => w'.cell? ⟨b, off + k * 3, none⟩ = some (.string x.var) ∧ w'.cell? ⟨b, off + k * 3 + 1, none⟩ = some (.string x.tm.name) ∧ w'.cell? ⟨b, off + k * 3 + 2, none⟩ = some v1 ∧ w'.cell? ⟨b', off' + k * 3, none⟩ = some (.string y.var) ∧ w'.cell? ⟨b', off' + k * 3 + 1, none⟩ = some (.string y.tm.name) ∧ w'.cell? ⟨b', off' + k * 3 + 2, none⟩ = some v2 ∧ Below wr.heap.size wr w') (first | exact ⟨by assumption, by assumption, by assumption, by assumption, by assumption, by assumption, by assumption⟩ | go_keep) (first | (go_at_call 139; refine (C.out _ (by assumption)).mono ?_; rintro e w' ⟨rfl, hb⟩; have hc1' := carry_cell' hb a0'; have hc2' := carry_cell' hb a1'; have hc3' := carry_cell' hb b0'; have hc4' := carry_cell' hb b1'; have hc5' := carry_cell' hb a2'; have hc6' := carry_cell' hb b2'; have hB' := carry_below (by assumption) (Nat.le_refl _) hb))
            have hB2 : Below wr.heap.size wr w' := by assumption
            have HB2 := Lib.hid (carry_below HBE.out (Nat.le_refl _) hB2)
            clear hB2
            cases hE : eqBd x y
            · have HF := Lib.hid (eqBs_no HX.out HY.out hE)
              clear hE
              go_wp2
              go_ret
              exact ⟨ret_bool HF.out.symm, HB2.out⟩
            · have HF := Lib.hid (HG.out.next HX.out HY.out hE)
              clear hE
              go_wp2
              go_roundw
              case rel => exact ⟨k + 1, by omega, by go_num, HF.out, HB2.out⟩
              case measure => simp [intOf]; omega
          · have hke : k = l.length := by omega
            subst hke
            have HF := Lib.hid (HG.out.all HN.out)
            go_wp2
            go_ret
            exact ⟨ret_bool HF.out.symm, HBE.out⟩
  · have HF := Lib.hid (eqBs_len hlen)
    have hl' : ((l.length : Int) == (r.length : Int)) = false := by simp; omega
    obtain ⟨a, c, rfl⟩ := ha.is_slice
    obtain ⟨a', c', rfl⟩ := hb.is_slice
    clear hlen ha hb
    go_enter Try.func80, Try.ntmps80
    go_wp2
    go_ret
    exact ⟨ret_bool HF.out.symm, Below.refl _ _⟩

set_option maxHeartbeats 1000000 in
theorem eqSub_any (l r : List Bd) (w : World) (va vb : Value) (ha : BdS w va l) (hb : BdS w vb r) (hlim : limB 1048576 l) (hrlim : limB 1048576 r) :
    Calls Try.prog 22 #[.agg #[va], .agg #[vb]] w (EqEnd (eqBs l r) w) := by
  obtain ⟨pa, ca, rfl⟩ := ha.is_slice
  obtain ⟨pb, cb, rfl⟩ := hb.is_slice
  have HB := Lib.hid (((Below.refl w.heap.size w).alloc (Nat.le_refl _) (.cells #[.slice pa l.length ca] 34)).alloc (by simp) (.cells #[.slice pb r.length cb] 34))
  have HC := Lib.hid (eqBindingS_any l r _ _ _ (ha.kept HB.out) (hb.kept HB.out) hlim hrlim)
  clear ha hb
  go_enter Try.func22, Try.ntmps22
  go_wp2_with fail
  refine HC.out.mono ?_
  rintro e w' ⟨rfl, hb⟩
  have HBB := Lib.hid (carry_below HB.out (Nat.le_refl _) hb)
  clear hb
  cases hE : eqBs l r
  · go_wp2
    go_ret
    exact ⟨ret_bool hE.symm, HBB.out⟩
  · go_wp2
    go_ret
    exact ⟨ret_bool hE.symm, HBB.out⟩

end Go.Proofs.Ytnkonhdnccolhaa
