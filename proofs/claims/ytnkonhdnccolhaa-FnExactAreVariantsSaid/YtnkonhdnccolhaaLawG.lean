/- Several texts in one: each says what it proves. No condition but theirs. -/
import Derived.Test.YtnkonhdnccolhaaOwnI
import Derived.Test.YtnkonhdnccolhaaMarkBd
import Derived.Test.YtnkonhdnccolhaaOneX
import Derived.Test.YtnkonhdnccolhaaBd
import Derived.Test.YtnkonhdnccolhaaTmV
import Derived.ProofKit
import Derived.ChangeArms
import Derived.ChangeSame
import Derived.Deep.Slices
import Derived.Lib.SmallJoins
import Derived.Deep.Fields
import Derived.Test.YtnkonhdnccolhaaRows
import Derived.Test.YtnkonhdnccolhaaChecked
import Derived.JoinedOf
/- What a law's walk carries from call to call: bindings of the law's own, in numbered blocks. No condition. -/
namespace Go.Proofs.Ytnkonhdnccolhaa
open Go.RowKit
set_option linter.unusedVariables false

def OwnBd (w : World) (lo hi : Nat) (v : Value) (l : List Bd) : Prop := BdO w (Ivl lo hi) v l ∧ hi ≤ w.heap.size

theorem OwnBd.fresh {w w' : World} {v : Value} {l : List Bd} (h : BdO w' (Fresh w w') v l) : OwnBd w' w.heap.size w'.heap.size v l := ⟨h, Nat.le_refl _⟩
theorem OwnBd.freshAt {w w' : World} {v : Value} {l : List Bd} (h : BdO w' (Fresh w w') v l) {n : Nat} (e : w.heap.size = n) : OwnBd w' n w'.heap.size v l := e ▸ OwnBd.fresh h
theorem OwnBd.kept {w w' : World} {lo hi : Nat} {v : Value} {l : List Bd} (h : OwnBd w lo hi v l) (hb : Below w.heap.size w w') : OwnBd w' lo hi v l :=
  ⟨h.1.frame fun k hk => hb.block k (Nat.lt_of_lt_of_le hk.2 h.2), Nat.le_trans h.2 hb.size⟩
theorem OwnBd.read {w : World} {lo hi : Nat} {v : Value} {l : List Bd} (h : OwnBd w lo hi v l) : BdS w v l := h.1.read
theorem OwnBd.bound {w : World} {lo hi : Nat} {v : Value} {l : List Bd} (h : OwnBd w lo hi v l) : ∀ b, Ivl lo hi b → b < w.heap.size := fun _ hb => Nat.lt_of_lt_of_le hb.2 h.2
theorem OwnBd.outside {a b : World} {lo hi lo' hi' : Nat} {v : Value} {l : List Bd} (h : OwnBd a lo hi v l) (ho : Outside (Ivl lo' hi') a b) (hd : hi ≤ lo' ∨ hi' ≤ lo) : OwnBd b lo hi v l :=
  ⟨h.1.frame fun k hk => ho.block k (Nat.lt_of_lt_of_le hk.2 h.2) (fun hk' => by have := hk.1; have := hk.2; have := hk'.1; have := hk'.2; omega), Nat.le_trans h.2 ho.size⟩
theorem Oner.outside {a b : World} {g lo hi : Nat} {x : Value} (h : Oner a g x) (ho : Outside (Ivl lo hi) a b) (hd : g < lo ∨ hi ≤ g) : Oner b g x := by
  have hn : ¬ Ivl lo hi g := fun hk => by have := hk.1; have := hk.2; omega
  exact ⟨ho.cell h.1 hn, fun j => (World.frozen?_of_block (w := a) (a := ⟨g, j, none⟩) (ho.block g (World.block_lt_of_cell? a ⟨g, 0, none⟩ h.1) hn)).trans (h.2 j)⟩
theorem sumB_le_of {f g : Bd → Nat} : ∀ {l : List Bd}, (∀ d ∈ l, f d ≤ g d) → sumB f l ≤ sumB g l
  | [], _ => Nat.le_refl _
  | d :: r, h => by
    have h1 := h d List.mem_cons_self
    have h2 := sumB_le_of (l := r) (fun s hs => h s (List.mem_cons_of_mem _ hs))
    simp only [sumB]; omega
theorem sumB_plus2 (f : Bd → Nat) (l : List Bd) : sumB (fun d => f d + 2) l = sumB f l + 2 * l.length := by
  induction l with
  | nil => simp [sumB]
  | cons t r ih => simp only [sumB, List.length_cons, ih]; omega
theorem sumB_wt (l : List Bd) : sumB Bd.n l ≤ 2 * wtB l := by
  have h := sumB_le_of (f := Bd.n) (g := fun d => Bd.wt d + 2) (l := l) (fun d _ => by have := Tm.sz_wt d.tm; unfold Bd.n Bd.wt; omega)
  rw [sumB_plus2] at h
  unfold wtB; omega

end Go.Proofs.Ytnkonhdnccolhaa

/- The laws' size helper over substitutions: contracts, for every list of bindings whose names and lists are no longer than any string and slice are. -/
namespace Go.Proofs.Ytnkonhdnccolhaa
open Go.RowKit
set_option linter.unusedVariables false

set_option maxHeartbeats 400000 in
theorem szBinding_any (d : Bd) (w : World) (va : Value) (left : Int) (hv : TmS w va d.tm.args) (hlim : d.lim 9223372036854775807) (h0 : 0 ≤ left) (h1 : left ≤ 1048576) :
    Calls Try.prog 135 #[.agg #[.string d.var, .string d.tm.name, va], .int .i64 left] w fun e w' => e = .returned (.int .i64 (szR left d.wt)) ∧ Below w.heap.size w w' := by
  obtain ⟨pa, ca, rfl⟩ := hv.is_slice
  have HV := Lib.hid hv
  have hsz : d.var.size ≤ 9223372036854775807 := hlim.1
  have HL := Lib.hid hlim.2
  have HW : Hid (d.wt = d.var.size + d.tm.wt) := Lib.hid rfl
  have HB := Lib.hid ((Below.refl w.heap.size w).alloc (Nat.le_refl _) (.cells #[.string d.var, .string d.tm.name, .slice pa d.tm.args.length ca] 148))
  clear hv hlim
  by_cases hneg : left - d.var.size < 0
  · have HE : Hid (szR left d.wt = -1) := Lib.hid (szR_low (by have := HW.out; omega))
    go_enter Try.func135, Try.ntmps135
    go_wp2_with fail
    go_ret
    exact ⟨ret_int (by have := HE.out; omega), HB.out⟩
  · go_enter Try.func135, Try.ntmps135
    go_wp2_with fail
    refine (szTerm_any d.tm _ _ (left - d.var.size) (HV.out.kept HB.out) HL.out (by omega) (by omega)).mono ?_
    rintro e w' ⟨rfl, hb⟩
    have HB2 := Lib.hid (carry_below HB.out (Nat.le_refl _) hb)
    clear hb
    rcases szR_cases (left - d.var.size) d.tm.wt with ⟨c1, c2⟩ | ⟨c1, c2⟩
    · rw [c2]
      have HE : Hid (szR left d.wt = -1) := Lib.hid (szR_low (by have := HW.out; omega))
      clear c2
      go_wp2
      go_ret
      exact ⟨ret_int (by have := HE.out; omega), HB2.out⟩
    · rw [c2]
      have HE : Hid (szR left d.wt = left - d.var.size - (d.tm.wt : Nat)) := Lib.hid (by rw [szR_ok (by have := HW.out; omega)]; have := HW.out; omega)
      clear c2
      go_wp2
      go_ret
      exact ⟨ret_int (by have := HE.out; omega), HB2.out⟩

set_option maxHeartbeats 400000 in
theorem szBindingS_any (l : List Bd) (w : World) (v : Value) (left : Int) (hv : BdS w v l) (hlim : limB 9223372036854775807 l) (h0 : 0 ≤ left) (h1 : left ≤ 1048576) :
    Calls Try.prog 72 #[v, .int .i64 left] w fun e w' => e = .returned (.int .i64 (szR left (wtB l))) ∧ Below w.heap.size w w' := by
  have hn := hlim.1
  have HL := Lib.hid hlim.2
  have HW : Hid (wtB l = l.length + sumB Bd.wt l) := Lib.hid rfl
  clear hlim
  rcases hv with ⟨a, c, rfl, rfl⟩ | ⟨b, off, c, rfl, hp, hat⟩
  · have HE : Hid (szR left (wtB []) = left) := Lib.hid (by rw [szR_ok] <;> simp [wtB, sumB]; omega)
    go_enter Try.func72, Try.ntmps72
    go_wp2
    refine wp_loop_rounds 1 ?_
    rw [rounds_succ]
    go_wp2
    go_ret
    exact ⟨ret_int HE.out.symm, Below.refl _ _⟩
  · have HA := Lib.hid hat
    clear hat
    by_cases hneg : left - l.length < 0
    · have HE : Hid (szR left (wtB l) = -1) := Lib.hid (szR_low (by have := HW.out; omega))
      go_enter Try.func72, Try.ntmps72
      go_wp2
      go_ret
      exact ⟨ret_int (by have := HE.out; omega), Below.refl _ _⟩
    · go_enter Try.func72, Try.ntmps72
      go_wp2
      go_loopw [1, 5] (fun lv i wr => ∃ (k : Nat) (r : Int), k ≤ l.length ∧ i = .int .i64 k ∧ 0 ≤ r ∧ r ≤ 1048576 ∧ r + sumB Bd.wt (l.take k) = left - l.length ∧ lv = .int .i64 r ∧ Below w.heap.size w wr) (fun _ i _ => l.length - (intOf i).toNat)
      case atStart => exact ⟨0, _, Nat.zero_le _, rfl, by omega, by omega, by simp [sumB], rfl, Below.refl _ _⟩
      case round =>
        obtain ⟨k, r, hk, rfl, hr0, hr1, hsum, rfl, hb⟩ := hrel
        have HB := Lib.hid hb
        have HS := Lib.hid hsum
        clear hb hsum
        by_cases hlt : k < l.length
        · obtain ⟨t, ht⟩ : ∃ t, l[k]? = some t := ⟨_, List.getElem?_eq_getElem hlt⟩
          obtain ⟨va, hc0, hc1, hc2, hva⟩ := HA.out k t ht
          have hc0' := carry_cell hc0 (by exact HB.out)
          have hc1' := carry_cell hc1 (by exact HB.out)
          have hc2' := carry_cell hc2 (by exact HB.out)
          have HV := Lib.hid (hva.kept HB.out)
          have HM := Lib.hid (sumB_next (f := Bd.wt) ht)
          have HM2 := Lib.hid (sumB_take Bd.wt l (k + 1))
          have HT := Lib.hid (mem_of_at ht)
          clear ht hc0 hc1 hc2 hva
          go_wp2_with fail
          refine (szBinding_any t _ va r HV.out (HL.out t HT.out) hr0 hr1).mono ?_
          rintro e w' ⟨rfl, hb⟩
          have HB2 := Lib.hid (carry_below HB.out (Nat.le_refl _) hb)
          clear hb
          rcases szR_cases r t.wt with ⟨c1, c2⟩ | ⟨c1, c2⟩
          · rw [c2]
            have HE : Hid (szR left (wtB l) = -1) := Lib.hid (szR_low (by have := HM.out; have := HM2.out; have := HS.out; have := HW.out; omega))
            clear c2
            go_wp2
            go_ret
            exact ⟨ret_int (by have := HE.out; omega), HB2.out⟩
          · rw [c2]
            clear c2
            go_wp2
            go_roundw
            case rel => exact ⟨k + 1, _, by omega, by go_num, by omega, by omega, by have := HM.out; have := HS.out; omega, rfl, HB2.out⟩
            case measure => simp [intOf]; omega
        · have HE : Hid (szR left (wtB l) = r) := Lib.hid (by
            have e := HS.out
            rw [sumB_all (by omega)] at e
            rw [szR_ok (by have := HW.out; omega)]; have := HW.out; omega)
          go_wp2
          go_ret
          exact ⟨ret_int (by have := HE.out; omega), HB.out⟩

set_option maxHeartbeats 400000 in
theorem szSub_any (l : List Bd) (w : World) (v : Value) (left : Int) (hv : BdS w v l) (hlim : limB 9223372036854775807 l) (h0 : 0 ≤ left) (h1 : left ≤ 1048576) :
    Calls Try.prog 16 #[.agg #[v], .int .i64 left] w fun e w' => e = .returned (.int .i64 (szR left (wtB l))) ∧ Below w.heap.size w w' := by
  obtain ⟨pa, ca, rfl⟩ := hv.is_slice
  have HV := Lib.hid hv
  have HL := Lib.hid hlim
  have HB := Lib.hid ((Below.refl w.heap.size w).alloc (Nat.le_refl _) (.cells #[.slice pa l.length ca] 24))
  clear hv hlim
  go_enter Try.func16, Try.ntmps16
  go_wp2_with fail
  refine (szBindingS_any l _ _ left (HV.out.kept HB.out) HL.out h0 h1).mono ?_
  rintro e w1 ⟨rfl, hb⟩
  have HB1 := Lib.hid (carry_below HB.out (Nat.le_refl _) hb)
  clear hb
  rcases szR_cases left (wtB l) with ⟨c1, c2⟩ | ⟨c1, c2⟩
  · have HC := Lib.hid c2
    rw [c2]
    clear c2
    go_wp2
    go_ret
    exact ⟨ret_int HC.out.symm, HB1.out⟩
  · have HC := Lib.hid c2
    rw [c2]
    clear c2
    have hn : ¬ left - (wtB l : Int) < 0 := by omega
    go_wp2
    go_ret
    exact ⟨ret_int HC.out.symm, HB1.out⟩

end Go.Proofs.Ytnkonhdnccolhaa

/- The laws' comparing helper over substitutions: contracts, for lists of at most 1048576 bindings. -/
namespace Go.Proofs.Ytnkonhdnccolhaa
open Go.RowKit
set_option linter.unusedVariables false

set_option maxHeartbeats 1000000 in
theorem eqBinding_any (d u : Bd) (w : World) (va vb : Value) (ha : TmS w va d.tm.args) (hb : TmS w vb u.tm.args) (hl : d.tm.lim 1048576) (hy : u.tm.lim 1048576) :
    Calls Try.prog 139 #[.agg #[.string d.var, .string d.tm.name, va], .agg #[.string u.var, .string u.tm.name, vb]] w (EqEnd (eqBd d u) w) := by
  obtain ⟨pa, ca, rfl⟩ := ha.is_slice
  obtain ⟨pb, cb, rfl⟩ := hb.is_slice
  have HB := Lib.hid (((Below.refl w.heap.size w).alloc (Nat.le_refl _) (.cells #[.string d.var, .string d.tm.name, .slice pa d.tm.args.length ca] 110)).alloc (by simp) (.cells #[.string u.var, .string u.tm.name, .slice pb u.tm.args.length cb] 110))
  have HC := Lib.hid (eqTerm_any d.tm u.tm _ _ _ (ha.kept HB.out) (hb.kept HB.out) hl hy)
  clear ha hb
  by_cases hn : d.var = u.var
  · have hq := str_eq hn
    have HE : Hid (eqBd d u = eqT d.tm u.tm) := Lib.hid (by unfold eqBd; simp [hn])
    clear hn
    go_enter Try.func139, Try.ntmps139
    go_wp2_with fail
    refine HC.out.mono ?_
    rintro e w' ⟨rfl, hb⟩
    have HBB := Lib.hid (carry_below HB.out (Nat.le_refl _) hb)
    clear hb
    cases hE : eqT d.tm u.tm
    · have HF := Lib.hid (HE.out.trans hE)
      clear hE
      go_wp2
      go_ret
      exact ⟨ret_bool HF.out.symm, HBB.out⟩
    · have HF := Lib.hid (HE.out.trans hE)
      clear hE
      go_wp2
      go_ret
      exact ⟨ret_bool HF.out.symm, HBB.out⟩
  · have hq := str_ne hn
    have HE : Hid (eqBd d u = false) := Lib.hid (by unfold eqBd; simp [hn])
    clear hn
    go_enter Try.func139, Try.ntmps139
    go_wp2_with fail
    go_ret
    exact ⟨ret_bool HE.out.symm, HB.out⟩

def eqBs (l r : List Bd) : Bool := decide (l = r)
theorem eqBs_self (l : List Bd) : eqBs l l = true := by simp [eqBs]
theorem eqBs_iff {l r : List Bd} : eqBs l r = true ↔ l = r := by simp [eqBs]

def AgreeB (l r : List Bd) (k : Nat) : Prop := ∀ j, j < k → l[j]? = r[j]?
theorem AgreeB.next {l r : List Bd} {k : Nat} {x y : Bd} (h : AgreeB l r k) (hx : l[k]? = some x) (hy : r[k]? = some y) (e : eqBd x y = true) : AgreeB l r (k + 1) := fun j hj => by
  by_cases ej : j = k
  · subst ej; rw [hx, hy, eqBd_iff.1 e]
  · exact h j (by omega)
theorem AgreeB.all {l r : List Bd} (h : AgreeB l r l.length) (hl : l.length = r.length) : eqBs l r = true := by
  rw [eqBs_iff]
  apply List.ext_getElem?
  intro j
  by_cases hj : j < l.length
  · exact h j hj
  · rw [List.getElem?_eq_none (by omega), List.getElem?_eq_none (by omega)]
theorem eqBs_no {l r : List Bd} {k : Nat} {x y : Bd} (hx : l[k]? = some x) (hy : r[k]? = some y) (e : eqBd x y = false) : eqBs l r = false := by
  rw [Bool.eq_false_iff]
  intro h
  rw [eqBs_iff] at h
  subst h
  rw [hx] at hy; injection hy with hy; subst hy
  rw [eqBd_self] at e; cases e
theorem eqBs_len {l r : List Bd} (h : l.length ≠ r.length) : eqBs l r = false := by
  rw [Bool.eq_false_iff]
  intro e
  rw [eqBs_iff] at e
  exact h (by rw [e])

set_option maxHeartbeats 1000000 in
theorem eqBindingS_any (l r : List Bd) (w : World) (va vb : Value) (ha : BdS w va l) (hb : BdS w vb r) (hlim : limB 1048576 l) (hrlim : limB 1048576 r) :
    Calls Try.prog 80 #[va, vb] w (EqEnd (eqBs l r) w) := by
  have hl := hlim.1
  have hr := hrlim.1
  have HL := Lib.hid hlim.2
  have HLR := Lib.hid hrlim.2
  clear hlim hrlim
  by_cases hlen : l.length = r.length
  · rcases ha with ⟨a, c, rfl, rfl⟩ | ⟨b, off, c, rfl, hp, hat⟩
    · have hr0 : r = [] := List.length_eq_zero_iff.1 hlen.symm
      subst hr0
      obtain ⟨a', c', rfl⟩ := hb.is_slice
      have HE := Lib.hid (eqBs_self [])
      clear hb hlen
      go_enter Try.func80, Try.ntmps80
      go_wp2
      refine wp_loop_rounds 1 ?_
      rw [rounds_succ]
      go_wp2
      go_ret
      exact ⟨ret_bool HE.out.symm, Below.refl _ _⟩
    · rcases hb with ⟨a, c', rfl, rfl⟩ | ⟨b', off', c', rfl, hp', hat'⟩
      · simp at hlen; rw [hlen] at hp; simp at hp
      · have HA := Lib.hid hat
        have HB := Lib.hid hat'
        have HN := Lib.hid hlen
        have hl' : ((l.length : Int) != (r.length : Int)) = false := by rw [bne_eq_false_iff_eq]; omega
        clear hat hat' hlen
        go_enter Try.func80, Try.ntmps80
        go_wp2
        go_loopw [5] (fun i wr => ∃ k : Nat, k ≤ l.length ∧ i = .int .i64 k ∧ AgreeB l r k ∧ Below w.heap.size w wr) (fun i _ => l.length - (intOf i).toNat)
        case atStart => exact ⟨0, Nat.zero_le _, rfl, fun j hj => absurd hj (Nat.not_lt_zero _), Below.refl _ _⟩
        case round =>
          obtain ⟨k, hk, rfl, hag, hbel⟩ := hrel
          have HG := Lib.hid hag
          have HBE := Lib.hid hbel
          clear hag hbel
          by_cases hlt : k < l.length
          · have hltr : k < r.length := by have := HN.out; omega
            obtain ⟨x, hx⟩ : ∃ t, l[k]? = some t := ⟨_, List.getElem?_eq_getElem hlt⟩
            obtain ⟨y, hy⟩ : ∃ t, r[k]? = some t := ⟨_, List.getElem?_eq_getElem hltr⟩
            obtain ⟨v1, a0, a1, a2, a3⟩ := HA.out k x hx
            obtain ⟨v2, b0, b1, b2, b3⟩ := HB.out k y hy
            have a0' := carry_cell a0 HBE.out
            have a1' := carry_cell a1 HBE.out
            have a2' := carry_cell a2 HBE.out
            have b0' := carry_cell b0 HBE.out
            have b1' := carry_cell b1 HBE.out
            have b2' := carry_cell b2 HBE.out
            have HV1 := Lib.hid (a3.kept HBE.out)
            have HV2 := Lib.hid (b3.kept HBE.out)
            have HX := Lib.hid hx
            have HY := Lib.hid hy
            clear hx hy a0 a1 b0 b1 a2 b2 a3 b3
            have C : Hid (∀ W : World, Below wr.heap.size wr W → Calls Try.prog 139 #[.agg #[.string x.var, .string x.tm.name, v1], .agg #[.string y.var, .string y.tm.name, v2]] W (EqEnd (eqBd x y) W)) := Lib.hid (fun W hW =>
              eqBinding_any x y W v1 v2 (HV1.out.kept hW) (HV2.out.kept hW) (HL.out x (mem_of_at HX.out)).2 (HLR.out y (mem_of_at HY.out)).2)
            have hB0 : Below wr.heap.size wr wr.drew := (Below.refl _ _).drew
            go_wp2_with fail
            go_region_held3 (fun w' => w'.cell? ⟨b, off + k * 3, none⟩ = some (.string x.var) ∧ w'.cell? ⟨b, off + k * 3 + 1, none⟩ = some (.string x.tm.name) ∧ w'.cell? ⟨b, off + k * 3 + 2, none⟩ = some v1 ∧ w'.cell? ⟨b', off' + k * 3, none⟩ = some (.string y.var) ∧ w'.cell? ⟨b', off' + k * 3 + 1, none⟩ = some (.string y.tm.name) ∧ w'.cell? ⟨b', off' + k * 3 + 2, none⟩ = some v2 ∧ Below wr.heap.size wr w') (first | exact ⟨by assumption, by assumption, by assumption, by assumption, by assumption, by assumption, by assumption⟩ | go_keep) (first | (go_at_call 139; refine (C.out _ (by assumption)).mono ?_; rintro e w' ⟨rfl, hb⟩; have hc1' := carry_cell' hb a0'; have hc2' := carry_cell' hb a1'; have hc3' := carry_cell' hb b0'; have hc4' := carry_cell' hb b1'; have hc5' := carry_cell' hb a2'; have hc6' := carry_cell' hb b2'; have hB' := carry_below (by assumption) (Nat.le_refl _) hb))
            have hB2 : Below wr.heap.size wr w' := by assumption
            have HB2 := Lib.hid (carry_below HBE.out (Nat.le_refl _) hB2)
            clear hB2
            cases hE : eqBd x y
            · have HF := Lib.hid (eqBs_no HX.out HY.out hE)
              clear hE
              go_wp2
              go_ret
              exact ⟨ret_bool HF.out.symm, HB2.out⟩
            · have HF := Lib.hid (HG.out.next HX.out HY.out hE)
              clear hE
              go_wp2
              go_roundw
              case rel => exact ⟨k + 1, by omega, by go_num, HF.out, HB2.out⟩
              case measure => simp [intOf]; omega
          · have hke : k = l.length := by omega
            subst hke
            have HF := Lib.hid (HG.out.all HN.out)
            go_wp2
            go_ret
            exact ⟨ret_bool HF.out.symm, HBE.out⟩
  · have HF := Lib.hid (eqBs_len hlen)
    have hl' : ((l.length : Int) == (r.length : Int)) = false := by simp; omega
    obtain ⟨a, c, rfl⟩ := ha.is_slice
    obtain ⟨a', c', rfl⟩ := hb.is_slice
    clear hlen ha hb
    go_enter Try.func80, Try.ntmps80
    go_wp2
    go_ret
    exact ⟨ret_bool HF.out.symm, Below.refl _ _⟩

set_option maxHeartbeats 1000000 in
theorem eqSub_any (l r : List Bd) (w : World) (va vb : Value) (ha : BdS w va l) (hb : BdS w vb r) (hlim : limB 1048576 l) (hrlim : limB 1048576 r) :
    Calls Try.prog 22 #[.agg #[va], .agg #[vb]] w (EqEnd (eqBs l r) w) := by
  obtain ⟨pa, ca, rfl⟩ := ha.is_slice
  obtain ⟨pb, cb, rfl⟩ := hb.is_slice
  have HB := Lib.hid (((Below.refl w.heap.size w).alloc (Nat.le_refl _) (.cells #[.slice pa l.length ca] 34)).alloc (by simp) (.cells #[.slice pb r.length cb] 34))
  have HC := Lib.hid (eqBindingS_any l r _ _ _ (ha.kept HB.out) (hb.kept HB.out) hlim hrlim)
  clear ha hb
  go_enter Try.func22, Try.ntmps22
  go_wp2_with fail
  refine HC.out.mono ?_
  rintro e w' ⟨rfl, hb⟩
  have HBB := Lib.hid (carry_below HB.out (Nat.le_refl _) hb)
  clear hb
  cases hE : eqBs l r
  · go_wp2
    go_ret
    exact ⟨ret_bool hE.symm, HBB.out⟩
  · go_wp2
    go_ret
    exact ⟨ret_bool hE.symm, HBB.out⟩

end Go.Proofs.Ytnkonhdnccolhaa

/- An argument that is a term, opened: what the reader has read is a term in memory. No condition. -/
namespace Go.Proofs.Ytnkonhdnccolhaa
open Go.RowKit Go.ChangeShapes Go.WideShapes Go.Deep Go.Joins
set_option linter.unusedVariables false

section
variable {H : Type} {enc : TypeId × Value → H} {w : World} {base : Nat} {sp : Nat → Bool} {hd : Bool}

theorem cellsT : Try.prog.cellsOf 27 = 2 := by kernel_rfl
theorem cellsN : Try.prog.cellsOf 9 = 1 := by kernel_rfl
theorem cellsA : Try.prog.cellsOf 25 = 1 := by kernel_rfl

/-- One element of a slice of terms, as read. -/
def OneTm (m : Nat) (w : World) (a : Addr) (i : Nat) (p : Tm × Value) : Prop :=
  w.cell? (a.add (i * 2)) = some (.string p.1.name) ∧ w.cell? (a.add (i * 2 + 1)) = some p.2 ∧ TmS w p.2 p.1.args ∧ p.1.lim m

theorem pair_of {α : Type} {l : List α} (h : l.length = 2) : ∃ x y, l = [x, y] := by
  match l, h with
  | [x, y], _ => exact ⟨x, y, rfl⟩

theorem struct_two {P : Program} {t : TypeId} {g0 g1 : Field} {fuel : Nat} {cs : List Value} {x : DataW H × List MemPlace} (hs : P.underlying t = some (.struct #[g0, g1])) (hone : oneCellFields P #[g0, g1] = true) (hC : P.cellsOf t = 2)
    (h : DataW.trod enc P w base sp hd fuel t cs = some x) :
    ∃ (c0 c1 : Value) (y0 y1 : DataW H × List MemPlace) (n : Nat), fuel = n + 1 ∧ cs = [c0, c1] ∧ DataW.trod enc P w base sp hd n g0.type [c0] = some y0 ∧ DataW.trod enc P w base sp hd n g1.type [c1] = some y1 := by
  obtain ⟨xs, n, hn, _, hl, hxl, hf⟩ := DataW.trod_struct hs h
  rw [hC] at hl
  obtain ⟨c0, c1, rfl⟩ := pair_of hl
  obtain ⟨o0, k0⟩ := hone_of hone 0 g0 rfl
  obtain ⟨o1, k1⟩ := hone_of hone 1 g1 rfl
  have f0 := hf 0 g0 rfl
  have f1 := hf 1 g1 rfl
  rw [o0, k0] at f0
  rw [o1, k1] at f1
  have hx2 : xs.length = 2 := hxl
  rw [List.getElem?_eq_getElem (by omega)] at f0 f1
  exact ⟨c0, c1, _, _, n, hn, rfl, f0, f1⟩

theorem add_two (a : Addr) (i j : Nat) : (a.add i).add j = a.add (i + j) := by
  unfold Addr.add
  by_cases hi : i = 0 <;> by_cases hj : j = 0 <;> simp [hi, hj, Nat.add_assoc]

theorem tms_of_row {m : Nat} {a : Addr} {len cap : Nat} {f : Nat → Tm × Value} (h : ∀ i, i < len → OneTm m w a i (f i)) : TmS w (.slice (some a) len cap) ((List.range len).map fun i => (f i).1) := by
  have hlen : ((List.range len).map fun i => (f i).1).length = len := by simp
  have hat : ∀ i t, ((List.range len).map fun i => (f i).1)[i]? = some t → i < len ∧ t = (f i).1 := fun i t ht => by
    have hi := (List.getElem?_eq_some_iff.1 ht).1
    rw [hlen] at hi
    simp [hi] at ht
    exact ⟨hi, ht.symm⟩
  by_cases h0 : len = 0
  · subst h0; exact .emp _ _
  · obtain ⟨b, off, spot⟩ := a
    have hc := (h 0 (by omega)).1
    have hspot : spot = none := by simpa [Addr.add] using World.cell?_spot hc
    subst hspot
    have e : ∀ j, Addr.add ⟨b, off, none⟩ j = ⟨b, off + j, none⟩ := fun j => by
      simp only [Addr.add]; split <;> simp_all
    have r := TmS.row (w := w) b off cap ((List.range len).map fun i => (f i).1) (fun i => (f i).2) (by omega)
      (fun i t ht => by obtain ⟨hi, rfl⟩ := hat i t ht; rw [← e]; exact (h i hi).1)
      (fun i t ht => by obtain ⟨hi, rfl⟩ := hat i t ht; rw [Nat.add_assoc, ← e]; exact (h i hi).2.1)
      (fun i t ht => by obtain ⟨hi, rfl⟩ := hat i t ht; exact (h i hi).2.2.1)
    rw [hlen] at r
    exact r

theorem open_terms (m : Nat) (hmx : maxLen ≤ m) : ∀ (fuel : Nat) (cs : List Value) (x : DataW H × List MemPlace), DataW.trod enc Try.prog w base sp hd fuel 25 cs = some x →
    ∃ v l, cs = [v] ∧ TmS w v l ∧ l.length ≤ m ∧ Tm.limL m l := by
  intro fuel
  induction fuel using Nat.strongRecOn with
  | _ fuel ih =>
    intro cs x h
    rcases DataW.trod_slice Try.underlying25 h with ⟨rfl, _⟩ | ⟨a, len, cap, elems, rest, n, rfl, rfl, _, hb, hl, hm, hlen, hel, _, _⟩
    · exact ⟨_, [], rfl, .emp _ _, Nat.zero_le _, trivial⟩
    · have each : ∀ i, i < len → ∃ p : Tm × Value, OneTm m w a i p := fun i hi => by
        have h1 := hel i hi
        rw [List.getElem?_eq_getElem (by omega)] at h1
        obtain ⟨cs', hc, ht⟩ := Option.bind_eq_some_iff.1 h1
        rw [cellsT] at hc
        obtain ⟨_, hlen', hcell⟩ := World.cells?_some hc
        obtain ⟨c0, c1, y0, y1, n', hn, rfl, f0, f1⟩ := struct_two Try.underlying27 (by kernel_rfl) cellsT ht
        obtain ⟨s, hs, _, hsz⟩ := DataW.trod_string Try.underlying9 f0
        obtain ⟨v, l, hv, htm, hll, hlim⟩ := ih n' (by omega) _ _ f1
        injection hs with hs
        injection hv with hv
        subst hs
        subst hv
        refine ⟨(.node s l, c1), ?_, ?_, htm, Tm.lim_eq.2 ⟨Nat.le_trans hsz hmx, hll, Tm.limL_mem.1 hlim⟩⟩
        · have := hcell 0 (by omega)
          rw [add_two] at this
          exact this
        · have := hcell 1 (by omega)
          rw [add_two] at this
          exact this
      obtain ⟨f, hf⟩ := choose_lt each
      refine ⟨_, _, rfl, tms_of_row hf, by simp; exact Nat.le_trans (Nat.le_trans hl hm) hmx, Tm.limL_mem.2 fun t ht => ?_⟩
      obtain ⟨i, hi, rfl⟩ := List.mem_map.1 ht
      exact (hf i (List.mem_range.1 hi)).2.2.2

set_option maxRecDepth 100000 in
/-- The argument is a term. -/
theorem open_term (m : Nat) (hmx : maxLen ≤ m) {r : Reach} {b0 : Nat} {v : Value} {d : DataW H} {p : List MemPlace} (hv : Value.okWide Try.prog w r b0 27 v)
    (h : DataW.Trod enc Try.prog w base sp hd 27 v d p) : ∃ (t : Tm) (va : Value), v = .agg #[.string t.name, va] ∧ TmS w va t.args ∧ t.lim m := by
  obtain ⟨v0, v1, y0, y1, n, rfl, _, _, t0, t1⟩ := open_agg2 Try.underlying27 (by kernel_rfl) cellsT hv h
  obtain ⟨s, hs, _, hsz⟩ := DataW.trod_string Try.underlying9 t0
  obtain ⟨v', l, hv', htm, hll, hlim⟩ := open_terms m hmx n _ _ t1
  injection hs with hs
  injection hv' with hv'
  subst hs
  subst hv'
  exact ⟨.node s l, _, rfl, htm, Tm.lim_eq.2 ⟨Nat.le_trans hsz hmx, hll, Tm.limL_mem.1 hlim⟩⟩
end
end Go.Proofs.Ytnkonhdnccolhaa

/- An argument that is a substitution, opened. No condition. -/
namespace Go.Proofs.Ytnkonhdnccolhaa
open Go.RowKit Go.ChangeShapes Go.WideShapes Go.Deep Go.Joins
set_option linter.unusedVariables false

section
variable {H : Type} {enc : TypeId × Value → H} {w : World} {base : Nat} {sp : Nat → Bool} {hd : Bool}

theorem cellsBd : Try.prog.cellsOf 148 = 3 := by kernel_rfl
theorem cellsBdS : Try.prog.cellsOf 22 = 1 := by kernel_rfl
theorem cellsSub : Try.prog.cellsOf 24 = 1 := by kernel_rfl

/-- The three cells of a binding, as read. -/
theorem trod_binding (m : Nat) (hmx : maxLen ≤ m) {fuel : Nat} {c0 c1 c2 : Value} {x : DataW H × List MemPlace}
    (hf : DataW.trod enc Try.prog w base sp hd fuel 148 [c0, c1, c2] = some x) :
    ∃ (d : Bd), c0 = .string d.var ∧ c1 = .string d.tm.name ∧ TmS w c2 d.tm.args ∧ d.lim m := by
  obtain ⟨xs, n, _, _, _, hxl, hfi⟩ := DataW.trod_struct Try.underlying148 hf
  have hx2 : xs.length = 2 := hxl
  have f0 := hfi 0 _ rfl
  have f1 := hfi 1 _ rfl
  rw [List.getElem?_eq_getElem (by omega)] at f0 f1
  have g0 : DataW.trod enc Try.prog w base sp hd n 9 (([c0, c1, c2].drop 0).take (Try.prog.cellsOf 9)) = some _ := f0
  have g1 : DataW.trod enc Try.prog w base sp hd n 27 (([c0, c1, c2].drop 1).take (Try.prog.cellsOf 27)) = some _ := f1
  rw [cellsN] at g0
  rw [cellsT] at g1
  obtain ⟨p, hp, _, hpz⟩ := DataW.trod_string Try.underlying9 g0
  obtain ⟨d0, d1, y0, y1, n', hn, he, k0, k1⟩ := struct_two Try.underlying27 (by kernel_rfl) cellsT g1
  obtain ⟨s, hs, _, hsz⟩ := DataW.trod_string Try.underlying9 k0
  obtain ⟨v', l, hv', htm, hll, hlim⟩ := open_terms m hmx n' _ _ k1
  have he' : [c1, c2] = [d0, d1] := he
  injection he' with e1 e2
  injection e2 with e2
  injection hs with hs
  injection hv' with hv'
  have hp' : [c0] = [Value.string p] := hp
  injection hp' with hp'
  subst e1 e2 hs hv'
  exact ⟨⟨p, .node s l⟩, hp', rfl, htm, Nat.le_trans hpz hmx, Tm.lim_eq.2 ⟨Nat.le_trans hsz hmx, hll, Tm.limL_mem.1 hlim⟩⟩

theorem bds_of_row {m : Nat} {a : Addr} {len cap : Nat} {f : Nat → Bd} (h : ∀ i, i < len → ∃ va, w.cell? (a.add (i * 3)) = some (.string (f i).var) ∧ w.cell? (a.add (i * 3 + 1)) = some (.string (f i).tm.name) ∧ w.cell? (a.add (i * 3 + 2)) = some va ∧ TmS w va (f i).tm.args) :
    BdS w (.slice (some a) len cap) ((List.range len).map f) := by
  have hlen : ((List.range len).map f).length = len := by simp
  by_cases h0 : len = 0
  · subst h0; exact .inl ⟨_, _, rfl, rfl⟩
  · obtain ⟨b, off, spot⟩ := a
    obtain ⟨va0, hc, _⟩ := h 0 (by omega)
    have hspot : spot = none := by simpa [Addr.add] using World.cell?_spot hc
    subst hspot
    have e : ∀ j, Addr.add ⟨b, off, none⟩ j = ⟨b, off + j, none⟩ := fun j => by
      simp only [Addr.add]; split <;> simp_all
    refine .inr ⟨b, off, cap, by rw [hlen], by omega, fun i d hi => ?_⟩
    have hil := (List.getElem?_eq_some_iff.1 hi).1
    rw [hlen] at hil
    have hd : d = f i := by simp [hil] at hi; exact hi.symm
    subst hd
    obtain ⟨va, k0, k1, k2, k3⟩ := h i hil
    rw [e] at k0 k1 k2
    exact ⟨va, k0, by rw [Nat.add_assoc]; exact k1, by rw [Nat.add_assoc]; exact k2, k3⟩

theorem open_bindings (m : Nat) (hmx : maxLen ≤ m) {fuel : Nat} {cs : List Value} {x : DataW H × List MemPlace} (h : DataW.trod enc Try.prog w base sp hd fuel 22 cs = some x) :
    ∃ v l, cs = [v] ∧ BdS w v l ∧ limB m l := by
  rcases DataW.trod_slice Try.underlying22 h with ⟨rfl, _⟩ | ⟨a, len, cap, elems, rest, n, rfl, rfl, _, hb, hl, hm, hlen, hel, _, _⟩
  · exact ⟨_, [], rfl, .inl ⟨_, _, rfl, rfl⟩, Nat.zero_le _, fun d hd => by cases hd⟩
  · have each : ∀ i, i < len → ∃ d : Bd, (∃ va, w.cell? (a.add (i * 3)) = some (.string d.var) ∧ w.cell? (a.add (i * 3 + 1)) = some (.string d.tm.name) ∧ w.cell? (a.add (i * 3 + 2)) = some va ∧ TmS w va d.tm.args) ∧ d.lim m := fun i hi => by
      have h1 := hel i hi
      rw [List.getElem?_eq_getElem (by omega)] at h1
      obtain ⟨cs', hc, ht⟩ := Option.bind_eq_some_iff.1 h1
      rw [cellsBd] at hc
      obtain ⟨_, hlen', hcell⟩ := World.cells?_some hc
      obtain ⟨c0, c1, c2, rfl⟩ : ∃ c0 c1 c2, cs' = [c0, c1, c2] := by
        match cs', hlen' with
        | [c0, c1, c2], _ => exact ⟨c0, c1, c2, rfl⟩
      obtain ⟨d, e0, e1, htm, hlim⟩ := trod_binding m hmx ht
      subst e0 e1
      have k0 := hcell 0 (by simp)
      have k1 := hcell 1 (by simp)
      have k2 := hcell 2 (by simp)
      rw [add_two] at k0 k1 k2
      exact ⟨d, ⟨c2, k0, k1, k2, htm⟩, hlim⟩
    obtain ⟨f, hf⟩ := choose_lt each
    refine ⟨_, _, rfl, bds_of_row (m := m) (fun i hi => (hf i hi).1), by simp; exact Nat.le_trans (Nat.le_trans hl hm) hmx, fun d hd => ?_⟩
    obtain ⟨i, hi, rfl⟩ := List.mem_map.1 hd
    exact (hf i (List.mem_range.1 hi)).2

theorem array1 {α : Type} {cs : Array α} (h : cs.size = 1) : ∃ c0, cs = #[c0] := by
  obtain ⟨l⟩ := cs
  match l, h with
  | [c0], _ => exact ⟨c0, rfl⟩

set_option maxRecDepth 100000 in
/-- The argument is a substitution. -/
theorem open_sub (m : Nat) (hmx : maxLen ≤ m) {r : Reach} {b0 : Nat} {v : Value} {d : DataW H} {p : List MemPlace} (hv : Value.okWide Try.prog w r b0 24 v)
    (h : DataW.Trod enc Try.prog w base sp hd 24 v d p) : ∃ (va : Value) (l : List Bd), v = .agg #[va] ∧ BdS w va l ∧ limB m l := by
  obtain ⟨cs, rfl, hsz⟩ := okWide_struct Try.underlying24 hv
  obtain ⟨c0, rfl⟩ := array1 (hsz.trans cellsSub)
  obtain ⟨fuel, hf⟩ := h
  obtain ⟨xs, n, _, _, _, hxl, hfi⟩ := DataW.trod_struct Try.underlying24 hf
  have hx1 : xs.length = 1 := hxl
  have f0 := hfi 0 _ rfl
  rw [List.getElem?_eq_getElem (by omega)] at f0
  have g0 : DataW.trod enc Try.prog w base sp hd n 22 (([c0].drop 0).take (Try.prog.cellsOf 22)) = some _ := f0
  rw [cellsBdS] at g0
  obtain ⟨v', l, hv', hb, hl⟩ := open_bindings m hmx g0
  have e : [c0] = [v'] := hv'
  injection e with e
  subst e
  exact ⟨c0, l, rfl, hb, hl⟩
end
end Go.Proofs.Ytnkonhdnccolhaa

/- What the rows ask of the whole program, one fact at a time. No condition. -/
namespace Go.Proofs.Ytnkonhdnccolhaa

theorem band {a b : Bool} (h : a = true) (k : b = true) : (a && b) = true := by rw [h, k]; rfl
theorem jfLaid : laidOutB Try.prog = true := by kernel_rfl
theorem jfRowed : mapsRowed Try.prog = true := by kernel_rfl
theorem jfHeard : Try.prog.stopsHeard = true := by kernel_rfl
theorem jfEnter : Try.prog.mayEnter = true := by kernel_rfl
theorem jfLifts : (false == Try.prog.liftsFinal) = true := by kernel_rfl

/-- A row's facts on the program, from those that hang on the row. -/
theorem jf_of {P : Program} {f : FuncId} {fn : Func} {s : ChangeSpec} {c : OpenClaim} (h2 : laidOutB P = true) (h3 : mapsRowed P = true) (h25 : P.stopsHeard = true) (h26' : P.mayEnter = true) (h27' : (c.lifted == P.liftsFinal) = true) (h1 : c.wf (OpenSpec.ofChange s) = true) (h4 : fn.params.all (P.readableRec ·) = true) (h5 : namedTie P c.named s.vars = true)
    (h6 : (c.stops == []) = true) (h7 : (P.stops == []) = true) (h8 : (c.knobs == []) = true) (h9 : (P.stopKnobs == []) = true)
    (h10 : (c.inPlace == P.inPlace f) = true) (h11 : (c.unfollowed == P.unfollowed f) = true) (h12 : (c.recurses == P.recurses f) = true) (h13 : (c.named == P.varsNamed f) = true)
    (h14 : (c.maps == (fn.params.toList ++ s.plain.varTypes P).any (P.mapsRec ·)) = true) (h15 : (c.ifaces == (fn.params.toList ++ s.plain.varTypes P).any (P.ifacesRec ·)) = true) (h16 : (c.mapsOut == P.mapsAmong fn.resultTypes.toList) = true)
    (h17 : (c.loops == (fn.params.toList ++ s.plain.varTypes P).any (P.loopsFrom ·)) = true) (h18 : (c.wideKeys == (fn.params.toList ++ s.plain.varTypes P ++ fn.resultTypes.toList).any (P.wideKeysFrom ·)) = true)
    (h19 : s.vars.all (P.varReadable ·) = true) (h20 : fn.resultTypes.all (fun t => P.readableRec t && decide (t < P.types.size)) = true) (h21 : (c.ifacesOut == fn.resultTypes.toList.any (P.ifacesRec ·)) = true) (h22 : (c.loopsOut == fn.resultTypes.toList.any (P.loopsFrom ·)) = true)
    (h23 : (c.plainKeys == P.plainKeys) = true) (h24 : c.shortTexts.isNone = true) (h28 : (P.make == some c.make) = true)
    (h29 : (c.kinds == (if c.domain.isEmpty then [] else fn.params.toList.map fun t => match P.underlying t with | some (.int k) => some k | _ => none)) = true) (h30 : (c.pinned == c.pinnedBy) = true)
    (h31 : (c.veiled == (fn.params.toList ++ s.plain.varTypes P ++ fn.resultTypes.toList).any (P.veiledRec ·)) = true) (h32 : c.veiledFits P fn.params.toList (fn.params.toList ++ s.plain.varTypes P ++ fn.resultTypes.toList) = true) :
    joinedFacts P f fn s c = true := by
  unfold joinedFacts
  refine band (band (band (band (band (band (band (band (band (band (band (band (band (band (band (band (band (band (band (band (band (band (band (band (band (band (band (band (band (band (band ?_ ?_) ?_) ?_) ?_) ?_) ?_) ?_) ?_) ?_) ?_) ?_) ?_) ?_) ?_) ?_) ?_) ?_) ?_) ?_) ?_) ?_) ?_) ?_) ?_) ?_) ?_) ?_) ?_) ?_) ?_) ?_
  all_goals assumption

end Go.Proofs.Ytnkonhdnccolhaa
