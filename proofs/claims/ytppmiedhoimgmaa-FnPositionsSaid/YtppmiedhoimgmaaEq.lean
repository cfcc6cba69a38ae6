/- The laws' comparing helper over terms: a contract, for terms whose lists have at most 1048576 elements. -/
import Derived.Test.YtppmiedhoimgmaaTmW
import Derived.StillTailTactics
namespace Go.Proofs.Ytppmiedhoimgmaa
open Go.RowKit
set_option linter.unusedVariables false

theorem toList_inj {s t : ByteArray} (h : s.toList = t.toList) : s = t := by
  have e := congrArg List.toArray h
  apply ByteArray.ext
  simpa [ByteArray.toList_eq] using h

/-- Not equal, as a Bool, for strings: as the walk writes it. -/
theorem str_ne {s t : ByteArray} (h : s ≠ t) : (s.toList == t.toList) = false := by rw [beq_eq_false_iff_ne]; intro e; exact h (toList_inj e)
theorem str_eq {s t : ByteArray} (h : s = t) : (s.toList == t.toList) = true := by rw [h]; simp

def EqEnd (b : Bool) (w : World) (e : Ending) (w' : World) : Prop := e = .returned (.bool b) ∧ Below w.heap.size w w'

def EqT (x : Tm) : Prop := ∀ (y : Tm) (w : World) (va vb : Value), TmS w va x.args → TmS w vb y.args → x.lim 1048576 → y.lim 1048576 →
  Calls Try.prog 40 #[.agg #[.string x.name, va], .agg #[.string y.name, vb]] w (EqEnd (eqT x y) w)
def EqL (l : List Tm) : Prop := ∀ (r : List Tm) (w : World) (va vb : Value), TmS w va l → TmS w vb r → l.length ≤ 1048576 → Tm.limL 1048576 l → r.length ≤ 1048576 → Tm.limL 1048576 r →
  Calls Try.prog 98 #[va, vb] w (EqEnd (eqTs l r) w)

theorem eqT_ne {x y : Tm} (h : x.name ≠ y.name) : eqT x y = false := by rw [eqT_node]; simp [h]
theorem eqT_args {x y : Tm} (h : x.name = y.name) : eqT x y = eqTs x.args y.args := by rw [eqT_node]; simp [h]

set_option maxHeartbeats 400000 in
theorem eqTerm_of (x : Tm) (h : EqL x.args) : EqT x := by
  intro y w va vb ha hb hl hy
  have HA := Lib.hid ha
  have HB := Lib.hid hb
  have H := Lib.hid h
  obtain ⟨_, hl1, hl2⟩ := Tm.lim_eq.1 hl
  have HL := Lib.hid (Tm.limL_mem.2 hl2)
  obtain ⟨_, hr1, hr2⟩ := Tm.lim_eq.1 hy
  have HLR := Lib.hid (Tm.limL_mem.2 hr2)
  clear ha hb h hl hl2 hy hr2
  by_cases hn : x.name = y.name
  · have hq := str_eq hn
    have HE := Lib.hid (eqT_args hn)
    clear hn
    go_enter Try.func40, Try.ntmps40
    go_wp2_with fail
    refine (H.out y.args _ va vb ((HA.out.alloc _).alloc _) ((HB.out.alloc _).alloc _) hl1 HL.out hr1 HLR.out).mono ?_
    rintro e w' ⟨rfl, hb⟩
    have HBB := Lib.hid (carry_below (((Below.refl w.heap.size w).alloc (Nat.le_refl _) _).alloc (by simp) _) (Nat.le_refl _) hb)
    clear hb
    cases hE : eqTs x.args y.args
    · have HF := Lib.hid (HE.out.trans hE)
      clear hE
      go_wp2
      go_ret
      exact ⟨ret_bool HF.out.symm, HBB.out⟩
    · have HF := Lib.hid (HE.out.trans hE)
      clear hE
      go_wp2
      go_ret
      exact ⟨ret_bool HF.out.symm, HBB.out⟩
  · have hq := str_ne hn
    have HE := Lib.hid (eqT_ne hn)
    clear hn
    go_enter Try.func40, Try.ntmps40
    go_wp2_with fail
    go_ret
    exact ⟨ret_bool HE.out.symm, ((Below.refl _ _).alloc (Nat.le_refl _) _).alloc (by simp) _⟩

/-- The first k elements of two lists agree. -/
def Agree (l r : List Tm) (k : Nat) : Prop := ∀ j, j < k → l[j]? = r[j]?

theorem Agree.next {l r : List Tm} {k : Nat} {x y : Tm} (h : Agree l r k) (hx : l[k]? = some x) (hy : r[k]? = some y) (e : eqT x y = true) : Agree l r (k + 1) := fun j hj => by
  by_cases ej : j = k
  · subst ej; rw [hx, hy, of_decide_eq_true e]
  · exact h j (by omega)

theorem Agree.all {l r : List Tm} (h : Agree l r l.length) (hl : l.length = r.length) : eqTs l r = true := by
  unfold eqTs; exact decide_eq_true (list_ext_at hl h)

theorem eqTs_no {l r : List Tm} {k : Nat} {x y : Tm} (hx : l[k]? = some x) (hy : r[k]? = some y) (e : eqT x y = false) : eqTs l r = false := by
  unfold eqTs
  refine decide_eq_false (fun h => ?_)
  subst h
  rw [hx] at hy; injection hy with hy; subst hy
  rw [eqT_self] at e; cases e

theorem eqTs_len {l r : List Tm} (h : l.length ≠ r.length) : eqTs l r = false := by
  unfold eqTs; exact decide_eq_false (fun e => h (by rw [e]))

set_option maxHeartbeats 1000000 in
theorem eqTermS_of (l : List Tm) (h : ∀ t ∈ l, EqT t) : EqL l := by
  intro r w va vb ha hb hl hlim hr hrlim
  have H := Lib.hid h
  have HL := Lib.hid (Tm.limL_mem.1 hlim)
  have HLR := Lib.hid (Tm.limL_mem.1 hrlim)
  clear h hlim hrlim
  by_cases hlen : l.length = r.length
  · rcases ha.parts with ⟨a, c, rfl, rfl⟩ | ⟨b, off, c, rfl, hp, hat⟩
    · have hr0 : r = [] := List.length_eq_zero_iff.1 hlen.symm
      subst hr0
      obtain ⟨a', c', rfl⟩ := hb.is_slice
      clear ha hb hlen
      go_enter Try.func98, Try.ntmps98
      go_wp2
      refine wp_loop_rounds 1 ?_
      rw [rounds_succ]
      go_wp2
      go_ret
      exact ⟨rfl, Below.refl _ _⟩
    · rcases hb.parts with ⟨a, c', rfl, rfl⟩ | ⟨b', off', c', rfl, hp', hat'⟩
      · simp at hlen; rw [hlen] at hp; simp at hp
      · have HA := Lib.hid hat
        have HB := Lib.hid hat'
        have HN := Lib.hid hlen
        have hl' : ((l.length : Int) != (r.length : Int)) = false := by rw [bne_eq_false_iff_eq]; omega
        clear ha hb hat hat' hlen
        go_enter Try.func98, Try.ntmps98
        go_wp2
        go_loopw [5] (fun i wr => ∃ k : Nat, k ≤ l.length ∧ i = .int .i64 k ∧ Agree l r k ∧ Below w.heap.size w wr) (fun i _ => l.length - (intOf i).toNat)
        case atStart => exact ⟨0, Nat.zero_le _, rfl, fun j hj => absurd hj (Nat.not_lt_zero _), Below.refl _ _⟩
        case round =>
          obtain ⟨k, hk, rfl, hag, hbel⟩ := hrel
          have HG := Lib.hid hag
          have HBE := Lib.hid hbel
          clear hag hbel
          by_cases hlt : k < l.length
          · have hltr : k < r.length := by have := HN.out; omega
            obtain ⟨x, hx⟩ : ∃ t, l[k]? = some t := ⟨_, List.getElem?_eq_getElem hlt⟩
            obtain ⟨y, hy⟩ : ∃ t, r[k]? = some t := ⟨_, List.getElem?_eq_getElem hltr⟩
            obtain ⟨v1, a0, a1, a2⟩ := HA.out k x hx
            obtain ⟨v2, b0, b1, b2⟩ := HB.out k y hy
            have a0' := carry_cell a0 HBE.out
            have a1' := carry_cell a1 HBE.out
            have b0' := carry_cell b0 HBE.out
            have b1' := carry_cell b1 HBE.out
            have HV1 := Lib.hid (a2.kept HBE.out)
            have HV2 := Lib.hid (b2.kept HBE.out)
            have HX := Lib.hid hx
            have HY := Lib.hid hy
            clear hx hy a0 a1 b0 b1 a2 b2
            have C : Hid (∀ W : World, Below wr.heap.size wr W → Calls Try.prog 40 #[.agg #[.string x.name, v1], .agg #[.string y.name, v2]] W (EqEnd (eqT x y) W)) := Lib.hid (fun W hW =>
              H.out x (mem_of_at HX.out) y W v1 v2 (HV1.out.kept hW) (HV2.out.kept hW) (HL.out x (mem_of_at HX.out)) (HLR.out y (mem_of_at HY.out)))
            have hB0 : Below wr.heap.size wr wr.drew := (Below.refl _ _).drew
            go_wp2_with fail
            go_region_held3 (fun w' => w'.cell? ⟨b, off + k * 2, none⟩ = some (.string x.name) ∧ w'.cell? ⟨b, off + k * 2 + 1, none⟩ = some v1 ∧ w'.cell? ⟨b', off' + k * 2, none⟩ = some (.string y.name) ∧ w'.cell? ⟨b', off' + k * 2 + 1, none⟩ = some v2 ∧ Below wr.heap.size wr w') (first | exact ⟨by assumption, by assumption, by assumption, by assumption, by assumption⟩ | go_keep) (first | (go_at_call 40; refine (C.out _ (by assumption)).mono ?_; rintro e w' ⟨rfl, hb⟩; have hc1' := carry_cell' hb a0'; have hc2' := carry_cell' hb a1'; have hc3' := carry_cell' hb b0'; have hc4' := carry_cell' hb b1'; have hB' := carry_below (by assumption) (Nat.le_refl _) hb))
            have hB2 : Below wr.heap.size wr w' := by assumption
            have HB2 := Lib.hid (carry_below HBE.out (Nat.le_refl _) hB2)
            clear hB2
            cases hE : eqT x y
            · have HF := Lib.hid (eqTs_no HX.out HY.out hE)
              clear hE
              go_wp2
              go_ret
              exact ⟨ret_bool HF.out.symm, HB2.out⟩
            · have HF := Lib.hid (HG.out.next HX.out HY.out hE)
              clear hE
              go_wp2
              go_roundw
              case rel => exact ⟨k + 1, by omega, by go_num, HF.out, HB2.out⟩
              case measure => simp [intOf]; omega
          · have hke : k = l.length := by omega
            subst hke
            have HF := Lib.hid (HG.out.all HN.out)
            go_wp2
            go_ret
            exact ⟨ret_bool HF.out.symm, HBE.out⟩
  · have HF := Lib.hid (eqTs_len hlen)
    have hl' : ((l.length : Int) == (r.length : Int)) = false := by simp; omega
    obtain ⟨a, c, rfl⟩ := ha.is_slice
    obtain ⟨a', c', rfl⟩ := hb.is_slice
    clear hlen ha hb
    go_enter Try.func98, Try.ntmps98
    go_wp2
    go_ret
    exact ⟨ret_bool HF.out.symm, Below.refl _ _⟩

theorem eqTerm_any (t : Tm) : EqT t := Tm.ind (P := EqT) (fun t ih => eqTerm_of t (eqTermS_of t.args ih)) t

end Go.Proofs.Ytppmiedhoimgmaa
