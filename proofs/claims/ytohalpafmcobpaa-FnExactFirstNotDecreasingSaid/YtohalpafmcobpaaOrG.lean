/- Several texts in one: each says what it proves. No condition but theirs. -/
import Derived.Test.YtohalpafmcobpaaKbG
import Derived.Test.YtohalpafmcobpaaOhG
import Derived.Test.YtohalpafmcobpaaOgT
import Derived.Test.YtohalpafmcobpaaOwn
import Derived.Test.YtohalpafmcobpaaTmO
import Derived.RegionTactic
import Derived.ChangeAlike
import Derived.BigRegion
import Derived.Test.YtohalpafmcobpaaCopy
/- Orienting an equation: the plain facts. The ordering is asymmetric, and both conditions on the equation are one. No condition. -/
namespace Go.Proofs.Ytohalpafmcobpaa
open Go.RowKit
set_option linter.unusedVariables false

theorem cmpR_flip (a b : Int) : cmpR b a = - cmpR a b := by
  unfold cmpR; split <;> split <;> (try split) <;> omega
theorem Od.root_flip (o : Od) (s t : Tm) : o.root t s = - o.root s t := by
  unfold Od.root
  by_cases h : rk o.sy s.name = rk o.sy t.name
  · rw [if_pos h, if_pos h.symm]; exact cmpR_flip _ _
  · rw [if_neg h, if_neg (fun e => h e.symm)]; exact cmpR_flip _ _

theorem kbo_asym (o : Od) : ∀ s : Tm, ∀ t : Tm, kbo o s t = true → kbo o t s = true → False := Tm.ind fun s ih t h1 h2 => by
  have b1 : bal s t = true := by
    cases h : bal s t with
    | true => rfl
    | false => rw [kbo_bal h] at h1; cases h1
  have b2 : bal t s = true := by
    cases h : bal t s with
    | true => rfl
    | false => rw [kbo_bal h] at h2; cases h2
  by_cases hw : o.wT s = o.wT t
  · cases hs : varB s.name with
    | true => rw [kbo_var b1 hw (.inl hs)] at h1; cases h1
    | false =>
      cases ht : varB t.name with
      | true => rw [kbo_var b1 hw (.inr ht)] at h1; cases h1
      | false =>
        have hf := o.root_flip s t
        by_cases hr : o.root s t = 0
        · have hr2 : o.root t s = 0 := by omega
          rw [kbo_args b1 hw hs ht hr] at h1
          rw [kbo_args b2 hw.symm ht hs hr2] at h2
          have hlen : s.args.length = t.args.length := o.root_len hr
          rcases fd_ways s.args t.args with ⟨_, hag⟩ | ⟨k, _, hk, hne, hbe⟩
          · rw [kboL_no o _ _ hag] at h1; cases h1
          · obtain ⟨x, hx⟩ : ∃ x, s.args[k]? = some x := ⟨_, List.getElem?_eq_getElem hk⟩
            obtain ⟨y, hy⟩ : ∃ y, t.args[k]? = some y := ⟨_, List.getElem?_eq_getElem (by omega)⟩
            have hxy : x ≠ y := fun e => hne (by rw [hx, hy, e])
            rw [kboL_at o _ _ k x y hx hy hxy hbe] at h1
            rw [kboL_at o _ _ k y x hy hx (fun e => hxy e.symm) (fun j hj => (hbe j hj).symm)] at h2
            exact ih x (mem_of_at hx) y h1 h2
        · rw [kbo_root b1 hw hs ht hr, decide_eq_true_iff] at h1
          rw [kbo_root b2 hw.symm ht hs (by omega), decide_eq_true_iff] at h2
          omega
  · rw [kbo_wt b1 hw, decide_eq_true_iff] at h1
    rw [kbo_wt b2 (fun e => hw e.symm), decide_eq_true_iff] at h2
    omega

/-- The equation is one that the ordering covers (the ordering is asked elsewhere). -/
def Od.eqOk (o : Od) (t : Tm) : Bool := isEqB t.name && (atomB t && t.args.all o.cov)

theorem eq_atom {t : Tm} (h : isEqB t.name = true) : anyB t = atomB t := by
  have h1 := isEq_not h
  have hg : goodB t = false := by
    cases e : goodB t with
    | false => rfl
    | true =>
      rcases goodB_nds e t (by rw [t.nds_eq]; exact List.mem_cons_self) with h | h
      · rw [h1.1] at h; cases h
      · rw [h1.2] at h; cases h
  unfold anyB; rw [hg]; rfl
theorem atom_args {t : Tm} (h : isEqB t.name = true) (ha : atomB t = true) : t.args.length = 2 ∧ fitsB t = true ∧ t.args.all Tm.nodesB = true := by
  unfold atomB at ha
  rw [if_pos h, Bool.and_eq_true, Bool.and_eq_true, decide_eq_true_iff] at ha
  exact ⟨ha.1, ha.2.1, ha.2.2⟩
theorem ndsL_var_sym : ∀ {l : List Tm}, l.all Tm.nodesB = true → ∀ s ∈ Tm.ndsL l, varB s.name = true ∨ symB s.name = true
  | [], _, s, hs => by simp [Tm.ndsL] at hs
  | t :: r, h, s, hs => by
    rw [List.all_cons, Bool.and_eq_true] at h
    have e : Tm.ndsL (t :: r) = t.nds ++ Tm.ndsL r := by simp [Tm.ndsL]
    rw [e, List.mem_append] at hs
    rcases hs with hs | hs
    · exact nodesB_nds t h.1 s hs
    · exact ndsL_var_sym h.2 s hs
theorem eq_cov (o : Od) {t : Tm} (h : isEqB t.name = true) (ha : atomB t = true) : o.covN t = t.args.all o.cov := by
  unfold Od.covN
  rw [t.nds_eq, List.all_cons]
  have h1 := isEq_not h
  have e : o.nodeP t = true := by unfold Od.nodeP; rw [h1.2]; rfl
  rw [e, Bool.true_and, ← Od.covL_all]
  exact nodes_cov (ndsL_var_sym (atom_args h ha).2.2)
theorem eqOk_eq (o : Od) (t : Tm) : (isEqB t.name && o.covP [t]) = (o.good && o.eqOk t) := by
  unfold Od.covP Od.eqOk
  cases h : isEqB t.name with
  | false => simp
  | true =>
    simp only [List.all_cons, List.all_nil, Bool.and_true, Bool.true_and]
    rw [eq_atom h]
    cases ha : atomB t with
    | false => simp
    | true => rw [eq_cov o h ha]
theorem eqOk_two {o : Od} {t : Tm} (h : o.eqOk t = true) : ∃ a b, t.args = [a, b] ∧ (goodB a = true ∧ o.cov a = true) ∧ (goodB b = true ∧ o.cov b = true) ∧ isEqB t.name = true ∧ atomB t = true := by
  unfold Od.eqOk at h
  rw [Bool.and_eq_true, Bool.and_eq_true] at h
  obtain ⟨h1, h2, h3⟩ := h
  obtain ⟨hl, hf, hn⟩ := atom_args h1 h2
  match ht : t.args, hl with
  | [a, b], _ =>
    rw [ht] at h3 hn
    simp only [List.all_cons, List.all_nil, Bool.and_true, Bool.and_eq_true] at h3 hn
    have hsz := t.sz_eq
    have hdp := t.dp_eq
    rw [ht] at hsz hdp
    simp only [sumL, maxL] at hsz hdp
    simp only [fitsB, Bool.and_eq_true, decide_eq_true_eq] at hf
    refine ⟨a, b, rfl, ⟨?_, h3.1⟩, ⟨?_, h3.2⟩, h1, h2⟩
    · simp only [goodB, fitsB, Bool.and_eq_true, decide_eq_true_eq]; exact ⟨⟨by omega, by omega⟩, hn.1⟩
    · simp only [goodB, fitsB, Bool.and_eq_true, decide_eq_true_eq]; exact ⟨⟨by omega, by omega⟩, hn.2⟩

/-- The sides of an equation, whatever it is. -/
def sideA (t : Tm) : Tm := t.args.getD 0 default
def sideB (t : Tm) : Tm := t.args.getD 1 default
theorem sides {t a b : Tm} (h : t.args = [a, b]) : sideA t = a ∧ sideB t = b := by unfold sideA sideB; rw [h]; exact ⟨rfl, rfl⟩

/-- What both functions answer. -/
def Od.oriOk (o : Od) (t : Tm) : Bool := o.good && o.eqOk t
def zeroT : Tm := .node ⟨#[]⟩ []
def Od.oriR (o : Od) (t : Tm) : Tm := if o.oriOk t then (if kbo o (sideB t) (sideA t) then .node t.name [sideB t, sideA t] else t) else zeroT
def Od.oriB (o : Od) (t : Tm) : Bool := o.oriOk t && (kbo o (sideB t) (sideA t) || kbo o (sideA t) (sideB t))
theorem oriR_no {o : Od} {t : Tm} (h : o.oriOk t = false) : o.oriR t = zeroT ∧ o.oriB t = false := by unfold Od.oriR Od.oriB; rw [h]; exact ⟨rfl, rfl⟩
theorem oriR_rev {o : Od} {t : Tm} (h : o.oriOk t = true) (k : kbo o (sideB t) (sideA t) = true) : o.oriR t = .node t.name [sideB t, sideA t] ∧ o.oriB t = true := by unfold Od.oriR Od.oriB; rw [h, k]; exact ⟨rfl, rfl⟩
theorem oriR_fwd {o : Od} {t : Tm} (h : o.oriOk t = true) (k : kbo o (sideB t) (sideA t) = false) : o.oriR t = t ∧ o.oriB t = kbo o (sideA t) (sideB t) := by unfold Od.oriR Od.oriB; rw [h, k]; exact ⟨rfl, by simp⟩
theorem oriR_one {o : Od} {t : Tm} (h : o.oriOk t = true) (k : kbo o (sideA t) (sideB t) = true) : o.oriR t = t ∧ o.oriB t = true := by
  have k2 : kbo o (sideB t) (sideA t) = false := by
    cases e : kbo o (sideB t) (sideA t) with
    | false => rfl
    | true => exact (kbo_asym o _ _ k e).elim
  have := oriR_fwd h k2
  rw [k] at this; exact this

theorem oriR_wt (o : Od) (t : Tm) (h : t.wt ≤ 1048576) : (o.oriR t).wt ≤ 1048576 := by
  cases ho : o.oriOk t with
  | false => rw [(oriR_no ho).1, Tm.wt_eq]; decide
  | true =>
    cases hk : kbo o (sideB t) (sideA t) with
    | false => rw [(oriR_fwd ho hk).1]; exact h
    | true =>
      have h2 : o.eqOk t = true := by unfold Od.oriOk at ho; rw [Bool.and_eq_true] at ho; exact ho.2
      obtain ⟨a, b, hab, _⟩ := eqOk_two h2
      obtain ⟨s1, s2⟩ := sides hab
      rw [(oriR_rev ho hk).1, s1, s2, Tm.wt_eq]
      have e := t.wt_eq
      rw [hab] at e
      show t.name.size + [b, a].length + sumL Tm.wt [b, a] ≤ 1048576
      simp only [sumL, List.length_cons, List.length_nil] at e ⊢
      omega

/-- The first equation whose first side is not greater, or -1. -/
def Od.fndOk (o : Od) (ts : List Tm) : Bool := o.good && (decide (ts.length ≤ 8) && ts.all o.eqOk)
def Od.decB (o : Od) (t : Tm) : Bool := kbo o (sideA t) (sideB t)

end Go.Proofs.Ytohalpafmcobpaa

/- The model's test of an equation, as a contract, for orderings and terms of at most 1048576 names' bytes and elements. -/
namespace Go.Proofs.Ytohalpafmcobpaa
open Go.RowKit
set_option linter.unusedVariables false

theorem takeNoE {P : Program} {md : Region.Mode} {ops : Array Oper} {Q : Exit → Act → World → Prop} {S : World → Prop} (i : Nat) {oi : Oper} {fuel : Nat} {listed : Array Bool} {a : Act} {w : World} (hi : ops[i]? = some oi)
    (hs : Region.noSelect ops = true) (hf : Region.free md ops listed i = true) (hr : (Region.ready md ops listed).contains i = true) (hw : Region.wanted oi (yielded ops a.tmps) = false)
    (hQ : ∀ c a w, Q (.panic c) (a.put oi.dst undef) w → Q (.panic c) a w) (hS : S w)
    (h : wpAnyH P md ops Q S fuel (listed.setIfInBounds i true) (a.put oi.dst undef) w) : wpAnyH P md ops Q S (fuel + 1) listed a w :=
  wpAnyH_take (i := i) hi hs hf hr hQ (Or.inr ⟨hw, rfl⟩) hS h
theorem takeYesE {P : Program} {md : Region.Mode} {ops : Array Oper} {Q : Exit → Act → World → Prop} {S : World → Prop} (i : Nat) {oi : Oper} {v : Value} {fuel : Nat} {listed : Array Bool} {a : Act} {w : World} (hi : ops[i]? = some oi)
    (hs : Region.noSelect ops = true) (hf : Region.free md ops listed i = true) (hr : (Region.ready md ops listed).contains i = true) (hw : Region.wanted oi (yielded ops a.tmps) = true)
    (hQ : ∀ c a w, Q (.panic c) (a.put oi.dst v) w → Q (.panic c) a w) (hS : S w) (hy : ∀ w, S w → (execOp a.eval oi).run P w = .ok (.value v) w)
    (h : wpAnyH P md ops Q S fuel (listed.setIfInBounds i true) (a.put oi.dst v) w) : wpAnyH P md ops Q S (fuel + 1) listed a w :=
  wpAnyH_take (i := i) hi hs hf hr hQ (Or.inl ⟨hw, hy⟩) hS h

theorem eqOk_n {o : Od} {t : Tm} (h : isEqB t.name = false) : o.eqOk t = false := by unfold Od.eqOk; rw [h]; rfl
theorem eqOk_a {o : Od} {t : Tm} (h : atomB t = false) : o.eqOk t = false := by unfold Od.eqOk; rw [h]; simp
theorem eqOk_c {o : Od} {t : Tm} (h : isEqB t.name = true) (h' : atomB t = true) {x y : Tm} (e : t.args = [x, y]) : o.eqOk t = (o.cov x && o.cov y) := by unfold Od.eqOk; rw [h, h', e]; simp

/-- The two terms of a list of two, in memory. -/
theorem two_at {w : World} {v : Value} {l : List Tm} {x y : Tm} (h : TmS w v l) (e : l = [x, y]) : ∃ b off c p q p' q', v = .slice (some ⟨b, off, none⟩) l.length c ∧
    (w.cell? ⟨b, off, none⟩ = some (.string x.name) ∧ w.cell? ⟨b, off + 1, none⟩ = some (.slice p x.args.length q) ∧ w.cell? ⟨b, off + 2, none⟩ = some (.string y.name) ∧ w.cell? ⟨b, off + 3, none⟩ = some (.slice p' y.args.length q')) ∧
    TmS w (.slice p x.args.length q) x.args ∧ TmS w (.slice p' y.args.length q') y.args := by
  rcases h.parts with ⟨a, c, rfl, h0⟩ | ⟨b, off, c, rfl, hp, hat⟩
  · rw [e] at h0; cases h0
  · obtain ⟨vx, x0, x1, x2⟩ := hat 0 x (by rw [e]; rfl)
    obtain ⟨vy, y0, y1, y2⟩ := hat 1 y (by rw [e]; rfl)
    obtain ⟨p, q, rfl⟩ := x2.is_slice
    obtain ⟨p', q', rfl⟩ := y2.is_slice
    simp only [Nat.zero_mul, Nat.add_zero, Nat.one_mul] at x0 x1 y0 y1
    exact ⟨b, off, c, p, q, p', q', rfl, ⟨x0, x1, y0, y1⟩, x2, y2⟩

set_option maxRecDepth 100000 in
set_option maxHeartbeats 8000000 in
theorem l6Eqn_any (o : Od) (ho : o.wt ≤ 1048576) (t : Tm) (w : World) (sv wv va : Value) (hv : OdV w sv wv o) (ht : TmS w va t.args) (hw : t.wt ≤ 1048576) :
    Calls Try.prog 36 #[.agg #[sv, wv, .int .i64 o.va], .agg #[.string t.name, va]] w (Ans (.bool (o.eqOk t)) w) := by
  obtain ⟨sa, sc, wa, wc, rfl, rfl⟩ := hv.open
  obtain ⟨pa, ca, rfl⟩ := ht.is_slice
  obtain ⟨w1, hw1⟩ : ∃ w1, (w.alloc (.cells #[.slice sa o.sy.length sc, .slice wa o.ws.length wc, .int .i64 o.va] 31)).alloc (.cells #[.string t.name, .slice pa t.args.length ca] 49) = w1 := ⟨_, rfl⟩
  have HB : Hid (Below w.heap.size w w1) := Lib.hid (by rw [← hw1]; exact ((Below.refl w.heap.size w).alloc (Nat.le_refl _) _).alloc (by simp) _)
  have H3 : Hid (OdB w1 w.heap.size (.slice sa o.sy.length sc) (.slice wa o.ws.length wc) o) := Lib.hid (by rw [← hw1]; exact (thr_new w _ _ _ _ _ rfl).alloc _)
  have HT : Hid (Two w1 (w.heap.size + 1) (.string t.name) (.slice pa t.args.length ca)) := Lib.hid (by rw [← hw1]; exact two_new _ _ _ 49 (w.heap.size + 1) (by simp))
  have CAT : Hid (∀ W, Below w1.heap.size w1 W → Calls Try.prog 78 #[.agg #[.string t.name, .slice pa t.args.length ca]] W (Ans (.bool (atomB t)) W)) := Lib.hid (fun W hW => l2Atom_any t W _ (ht.kept (HB.out.trans (hW.mono HB.out.size))) hw)
  cases hn : isEqB t.name with
  | false =>
    have HF := Lib.hid (eqOk_n (o := o) hn)
    have hq : (t.name.toList == [61]) = false := hn
    clear hn hv ht hw
    go_enter Try.func36, Try.ntmps36
    obtain ⟨b0, b1, b2, b3⟩ := H3.out
    obtain ⟨t0, t1, t2⟩ := HT.out
    go_wp2_with fail
    have hB0 : Below w1.heap.size w1 w1.drew := (Below.refl _ _).drew
    refine wp_region_held_drew (S := (fun w' => w'.cell? ⟨w.heap.size, 0, none⟩ = some (.slice sa o.sy.length sc) ∧ w'.cell? ⟨w.heap.size, 1, none⟩ = some (.slice wa o.ws.length wc) ∧ w'.cell? ⟨w.heap.size, 2, none⟩ = some (.int .i64 o.va) ∧ w'.cell? ⟨w.heap.size + 1, 0, none⟩ = some (.string t.name) ∧ w'.cell? ⟨w.heap.size + 1, 1, none⟩ = some (.slice pa t.args.length ca) ∧ Below w1.heap.size w1 w')) (by kernel_rfl) (by first | exact ⟨by assumption, by assumption, by assumption, by assumption, by assumption, by assumption⟩ | go_keep) (fun hHeld => ?_)
    refine takeYesE 0 (v := ?_) rfl (by kernel_rfl) (by kernel_rfl) (by kernel_rfl) (by rfl) (fun _ _ _ h => h) (by assumption) ?_ ?_; rotate_left; (intro w hSw; (try dsimp only at hSw); go_simp; try (with_reducible rfl))
    try simp only [Act.put, List.getElem_toArray, List.getElem_cons_zero, List.setIfInBounds_toArray, List.set_cons_zero, List.set_cons_succ]
    refine takeYesE 1 (v := ?_) rfl (by kernel_rfl) (by kernel_rfl) (by kernel_rfl) (by rfl) (fun _ _ _ h => h) (by assumption) ?_ ?_; rotate_left; (intro w hSw; (try dsimp only at hSw); go_simp; try (with_reducible rfl))
    try simp only [Act.put, List.getElem_toArray, List.getElem_cons_zero, List.getElem_cons_succ, List.setIfInBounds_toArray, List.set_cons_zero, List.set_cons_succ]
    refine takeYesE 2 (v := ?_) rfl (by kernel_rfl) (by kernel_rfl) (by kernel_rfl) (by rfl) (fun _ _ _ h => h) (by assumption) ?_ ?_; rotate_left; (intro w hSw; (try dsimp only at hSw); go_simp; try (with_reducible rfl))
    try simp only [Act.put, List.getElem_toArray, List.getElem_cons_zero, List.getElem_cons_succ, List.setIfInBounds_toArray, List.set_cons_zero, List.set_cons_succ]
    refine takeYesE 3 (v := ?_) rfl (by kernel_rfl) (by kernel_rfl) (by kernel_rfl) (by rfl) (fun _ _ _ h => h) (by assumption) ?_ ?_; rotate_left; (intro w hSw; (try dsimp only at hSw); go_simp; try (with_reducible rfl))
    try simp only [Act.put, List.getElem_toArray, List.getElem_cons_zero, List.getElem_cons_succ, List.setIfInBounds_toArray, List.set_cons_zero, List.set_cons_succ]
    refine takeNoE 4 rfl (by kernel_rfl) (by kernel_rfl) (by kernel_rfl) (by rfl) (fun _ _ _ h => h) (by assumption) ?_
    try simp only [Act.put, List.getElem_toArray, List.getElem_cons_zero, List.getElem_cons_succ, List.setIfInBounds_toArray, List.set_cons_zero, List.set_cons_succ]
    refine takeNoE 5 rfl (by kernel_rfl) (by kernel_rfl) (by kernel_rfl) (by rfl) (fun _ _ _ h => h) (by assumption) ?_
    try simp only [Act.put, List.getElem_toArray, List.getElem_cons_zero, List.getElem_cons_succ, List.setIfInBounds_toArray, List.set_cons_zero, List.set_cons_succ]
    refine takeYesE 6 (v := ?_) rfl (by kernel_rfl) (by kernel_rfl) (by kernel_rfl) (by rfl) (fun _ _ _ h => h) (by assumption) ?_ ?_; rotate_left; (intro w hSw; (try dsimp only at hSw); go_simp; try (with_reducible rfl))
    try simp only [Act.put, List.getElem_toArray, List.getElem_cons_zero, List.getElem_cons_succ, List.setIfInBounds_toArray, List.set_cons_zero, List.set_cons_succ]
    refine takeYesE 7 (v := ?_) rfl (by kernel_rfl) (by kernel_rfl) (by kernel_rfl) (by rfl) (fun _ _ _ h => h) (by assumption) ?_ ?_; rotate_left; (intro w hSw; (try dsimp only at hSw); go_simp; try (with_reducible rfl))
    try simp only [Act.put, List.getElem_toArray, List.getElem_cons_zero, List.getElem_cons_succ, List.setIfInBounds_toArray, List.set_cons_zero, List.set_cons_succ]
    refine takeNoE 8 rfl (by kernel_rfl) (by kernel_rfl) (by kernel_rfl) (by rfl) (fun _ _ _ h => h) (by assumption) ?_
    try simp only [Act.put, List.getElem_toArray, List.getElem_cons_zero, List.getElem_cons_succ, List.setIfInBounds_toArray, List.set_cons_zero, List.set_cons_succ]
    refine takeNoE 9 rfl (by kernel_rfl) (by kernel_rfl) (by kernel_rfl) (by rfl) (fun _ _ _ h => h) (by assumption) ?_
    try simp only [Act.put, List.getElem_toArray, List.getElem_cons_zero, List.getElem_cons_succ, List.setIfInBounds_toArray, List.set_cons_zero, List.set_cons_succ]
    refine takeNoE 10 rfl (by kernel_rfl) (by kernel_rfl) (by kernel_rfl) (by rfl) (fun _ _ _ h => h) (by assumption) ?_
    try simp only [Act.put, List.getElem_toArray, List.getElem_cons_zero, List.getElem_cons_succ, List.setIfInBounds_toArray, List.set_cons_zero, List.set_cons_succ]
    refine takeNoE 11 rfl (by kernel_rfl) (by kernel_rfl) (by kernel_rfl) (by rfl) (fun _ _ _ h => h) (by assumption) ?_
    try simp only [Act.put, List.getElem_toArray, List.getElem_cons_zero, List.getElem_cons_succ, List.setIfInBounds_toArray, List.set_cons_zero, List.set_cons_succ]
    refine takeNoE 12 rfl (by kernel_rfl) (by kernel_rfl) (by kernel_rfl) (by rfl) (fun _ _ _ h => h) (by assumption) ?_
    try simp only [Act.put, List.getElem_toArray, List.getElem_cons_zero, List.getElem_cons_succ, List.setIfInBounds_toArray, List.set_cons_zero, List.set_cons_succ]
    refine takeNoE 13 rfl (by kernel_rfl) (by kernel_rfl) (by kernel_rfl) (by rfl) (fun _ _ _ h => h) (by assumption) ?_
    try simp only [Act.put, List.getElem_toArray, List.getElem_cons_zero, List.getElem_cons_succ, List.setIfInBounds_toArray, List.set_cons_zero, List.set_cons_succ]
    refine takeYesE 14 (v := ?_) rfl (by kernel_rfl) (by kernel_rfl) (by kernel_rfl) (by rfl) (fun _ _ _ h => h) (by assumption) ?_ ?_; rotate_left; (intro w hSw; (try dsimp only at hSw); go_simp; try (with_reducible rfl))
    try simp only [Act.put, List.getElem_toArray, List.getElem_cons_zero, List.getElem_cons_succ, List.setIfInBounds_toArray, List.set_cons_zero, List.set_cons_succ]
    refine takeYesE 15 (v := ?_) rfl (by kernel_rfl) (by kernel_rfl) (by kernel_rfl) (by rfl) (fun _ _ _ h => h) (by assumption) ?_ ?_; rotate_left; (intro w hSw; (try dsimp only at hSw); go_simp; try (with_reducible rfl))
    try simp only [Act.put, List.getElem_toArray, List.getElem_cons_zero, List.getElem_cons_succ, List.setIfInBounds_toArray, List.set_cons_zero, List.set_cons_succ]
    refine takeNoE 16 rfl (by kernel_rfl) (by kernel_rfl) (by kernel_rfl) (by rfl) (fun _ _ _ h => h) (by assumption) ?_
    try simp only [Act.put, List.getElem_toArray, List.getElem_cons_zero, List.getElem_cons_succ, List.setIfInBounds_toArray, List.set_cons_zero, List.set_cons_succ]
    refine takeNoE 17 rfl (by kernel_rfl) (by kernel_rfl) (by kernel_rfl) (by rfl) (fun _ _ _ h => h) (by assumption) ?_
    try simp only [Act.put, List.getElem_toArray, List.getElem_cons_zero, List.getElem_cons_succ, List.setIfInBounds_toArray, List.set_cons_zero, List.set_cons_succ]
    refine takeNoE 18 rfl (by kernel_rfl) (by kernel_rfl) (by kernel_rfl) (by rfl) (fun _ _ _ h => h) (by assumption) ?_
    try simp only [Act.put, List.getElem_toArray, List.getElem_cons_zero, List.getElem_cons_succ, List.setIfInBounds_toArray, List.set_cons_zero, List.set_cons_succ]
    refine takeNoE 19 rfl (by kernel_rfl) (by kernel_rfl) (by kernel_rfl) (by rfl) (fun _ _ _ h => h) (by assumption) ?_
    try simp only [Act.put, List.getElem_toArray, List.getElem_cons_zero, List.getElem_cons_succ, List.setIfInBounds_toArray, List.set_cons_zero, List.set_cons_succ]
    refine takeNoE 20 rfl (by kernel_rfl) (by kernel_rfl) (by kernel_rfl) (by rfl) (fun _ _ _ h => h) (by assumption) ?_
    try simp only [Act.put, List.getElem_toArray, List.getElem_cons_zero, List.getElem_cons_succ, List.setIfInBounds_toArray, List.set_cons_zero, List.set_cons_succ]
    refine takeNoE 21 rfl (by kernel_rfl) (by kernel_rfl) (by kernel_rfl) (by rfl) (fun _ _ _ h => h) (by assumption) ?_
    try simp only [Act.put, List.getElem_toArray, List.getElem_cons_zero, List.getElem_cons_succ, List.setIfInBounds_toArray, List.set_cons_zero, List.set_cons_succ]
    refine takeYesE 22 (v := ?_) rfl (by kernel_rfl) (by kernel_rfl) (by kernel_rfl) (by rfl) (fun _ _ _ h => h) (by assumption) ?_ ?_; rotate_left; (intro w hSw; (try dsimp only at hSw); go_simp; try (with_reducible rfl))
    try simp only [Act.put, List.getElem_toArray, List.getElem_cons_zero, List.getElem_cons_succ, List.setIfInBounds_toArray, List.set_cons_zero, List.set_cons_succ]
    refine takeYesE 23 (v := ?_) rfl (by kernel_rfl) (by kernel_rfl) (by kernel_rfl) (by rfl) (fun _ _ _ h => h) (by assumption) ?_ ?_; rotate_left; (intro w hSw; (try dsimp only at hSw); go_simp; try (with_reducible rfl))
    try simp only [Act.put, List.getElem_toArray, List.getElem_cons_zero, List.getElem_cons_succ, List.setIfInBounds_toArray, List.set_cons_zero, List.set_cons_succ]
    refine wpAnyH_done (by kernel_rfl) ?_ _
    have HZ : Hid (Below w.heap.size w w1.drew) := Lib.hid (carry_below HB.out (Nat.le_refl _) (by assumption))
    go_wp2
    go_ret
    exact ⟨ret_bool HF.out.symm, HZ.out⟩
  | true =>
    have hq : (t.name.toList == [61]) = true := hn
    cases ha : atomB t with
    | false =>
      rw [ha] at CAT
      have HF := Lib.hid (eqOk_a (o := o) ha)
      clear hn ha hv ht hw
      go_enter Try.func36, Try.ntmps36
      obtain ⟨b0, b1, b2, b3⟩ := H3.out
      obtain ⟨t0, t1, t2⟩ := HT.out
      go_wp2_with fail
      have hB0 : Below w1.heap.size w1 w1.drew := (Below.refl _ _).drew
      refine wp_region_held_drew (S := (fun w' => w'.cell? ⟨w.heap.size, 0, none⟩ = some (.slice sa o.sy.length sc) ∧ w'.cell? ⟨w.heap.size, 1, none⟩ = some (.slice wa o.ws.length wc) ∧ w'.cell? ⟨w.heap.size, 2, none⟩ = some (.int .i64 o.va) ∧ w'.cell? ⟨w.heap.size + 1, 0, none⟩ = some (.string t.name) ∧ w'.cell? ⟨w.heap.size + 1, 1, none⟩ = some (.slice pa t.args.length ca) ∧ Below w1.heap.size w1 w')) (by kernel_rfl) (by first | exact ⟨by assumption, by assumption, by assumption, by assumption, by assumption, by assumption⟩ | go_keep) (fun hHeld => ?_)
      refine takeYesE 0 (v := ?_) rfl (by kernel_rfl) (by kernel_rfl) (by kernel_rfl) (by rfl) (fun _ _ _ h => h) (by assumption) ?_ ?_; rotate_left; (intro w hSw; (try dsimp only at hSw); go_simp; try (with_reducible rfl))
      try simp only [Act.put, List.getElem_toArray, List.getElem_cons_zero, List.setIfInBounds_toArray, List.set_cons_zero, List.set_cons_succ]
      refine takeYesE 1 (v := ?_) rfl (by kernel_rfl) (by kernel_rfl) (by kernel_rfl) (by rfl) (fun _ _ _ h => h) (by assumption) ?_ ?_; rotate_left; (intro w hSw; (try dsimp only at hSw); go_simp; try (with_reducible rfl))
      try simp only [Act.put, List.getElem_toArray, List.getElem_cons_zero, List.getElem_cons_succ, List.setIfInBounds_toArray, List.set_cons_zero, List.set_cons_succ]
      refine takeYesE 2 (v := ?_) rfl (by kernel_rfl) (by kernel_rfl) (by kernel_rfl) (by rfl) (fun _ _ _ h => h) (by assumption) ?_ ?_; rotate_left; (intro w hSw; (try dsimp only at hSw); go_simp; try (with_reducible rfl))
      try simp only [Act.put, List.getElem_toArray, List.getElem_cons_zero, List.getElem_cons_succ, List.setIfInBounds_toArray, List.set_cons_zero, List.set_cons_succ]
      refine takeYesE 3 (v := ?_) rfl (by kernel_rfl) (by kernel_rfl) (by kernel_rfl) (by rfl) (fun _ _ _ h => h) (by assumption) ?_ ?_; rotate_left; (intro w hSw; (try dsimp only at hSw); go_simp; try (with_reducible rfl))
      try simp only [Act.put, List.getElem_toArray, List.getElem_cons_zero, List.getElem_cons_succ, List.setIfInBounds_toArray, List.set_cons_zero, List.set_cons_succ]
      refine takeYesE 4 (v := ?_) rfl (by kernel_rfl) (by kernel_rfl) (by kernel_rfl) (by rfl) (fun _ _ _ h => h) (by assumption) ?_ ?_; rotate_left; (intro w hSw; (try dsimp only at hSw); go_simp; try (with_reducible rfl))
      try simp only [Act.put, List.getElem_toArray, List.getElem_cons_zero, List.getElem_cons_succ, List.setIfInBounds_toArray, List.set_cons_zero, List.set_cons_succ]
      refine wpAnyH_ready (rs := [5]) (by kernel_rfl) (by simp) ?_
      refine AllReadyH.cons rfl (fun K hK => ?_) AllReadyH.nil
      go_simp
      (go_at_call 78; refine (CAT.out _ (by assumption)).mono ?_; rintro e uA ⟨rfl, hb⟩; have qz5_0 : uA.cell? ⟨w.heap.size, 0, none⟩ = some (.slice sa o.sy.length sc) := carry_cell' hb (by assumption); have qz5_1 : uA.cell? ⟨w.heap.size, 1, none⟩ = some (.slice wa o.ws.length wc) := carry_cell' hb (by assumption); have qz5_2 : uA.cell? ⟨w.heap.size, 2, none⟩ = some (.int .i64 o.va) := carry_cell' hb (by assumption); have qz5_3 : uA.cell? ⟨w.heap.size + 1, 0, none⟩ = some (.string t.name) := carry_cell' hb (by assumption); have qz5_4 : uA.cell? ⟨w.heap.size + 1, 1, none⟩ = some (.slice pa t.args.length ca) := carry_cell' hb (by assumption); have huA : Below w1.heap.size w1 uA := carry_below (by assumption) (Nat.le_refl _) hb; clear hb; go_wp2_with fail)
      refine hK.out _ _ (by first | exact ⟨by assumption, by assumption, by assumption, by assumption, by assumption, by assumption⟩ | go_keep) (fun hHeld => ?_)
      clear hK K
      try simp only [Act.put, List.getElem_toArray, List.getElem_cons_zero, List.getElem_cons_succ, List.setIfInBounds_toArray, List.set_cons_zero, List.set_cons_succ]
      refine takeYesE 6 (v := ?_) rfl (by kernel_rfl) (by kernel_rfl) (by kernel_rfl) (by rfl) (fun _ _ _ h => h) (by assumption) ?_ ?_; rotate_left; (intro w hSw; (try dsimp only at hSw); go_simp; try (with_reducible rfl))
      try simp only [Act.put, List.getElem_toArray, List.getElem_cons_zero, List.getElem_cons_succ, List.setIfInBounds_toArray, List.set_cons_zero, List.set_cons_succ]
      refine takeYesE 7 (v := ?_) rfl (by kernel_rfl) (by kernel_rfl) (by kernel_rfl) (by rfl) (fun _ _ _ h => h) (by assumption) ?_ ?_; rotate_left; (intro w hSw; (try dsimp only at hSw); go_simp; try (with_reducible rfl))
      try simp only [Act.put, List.getElem_toArray, List.getElem_cons_zero, List.getElem_cons_succ, List.setIfInBounds_toArray, List.set_cons_zero, List.set_cons_succ]
      refine takeNoE 8 rfl (by kernel_rfl) (by kernel_rfl) (by kernel_rfl) (by rfl) (fun _ _ _ h => h) (by assumption) ?_
      try simp only [Act.put, List.getElem_toArray, List.getElem_cons_zero, List.getElem_cons_succ, List.setIfInBounds_toArray, List.set_cons_zero, List.set_cons_succ]
      refine takeNoE 9 rfl (by kernel_rfl) (by kernel_rfl) (by kernel_rfl) (by rfl) (fun _ _ _ h => h) (by assumption) ?_
      try simp only [Act.put, List.getElem_toArray, List.getElem_cons_zero, List.getElem_cons_succ, List.setIfInBounds_toArray, List.set_cons_zero, List.set_cons_succ]
      refine takeNoE 10 rfl (by kernel_rfl) (by kernel_rfl) (by kernel_rfl) (by rfl) (fun _ _ _ h => h) (by assumption) ?_
      try simp only [Act.put, List.getElem_toArray, List.getElem_cons_zero, List.getElem_cons_succ, List.setIfInBounds_toArray, List.set_cons_zero, List.set_cons_succ]
      refine takeNoE 11 rfl (by kernel_rfl) (by kernel_rfl) (by kernel_rfl) (by rfl) (fun _ _ _ h => h) (by assumption) ?_
      try simp only [Act.put, List.getElem_toArray, List.getElem_cons_zero, List.getElem_cons_succ, List.setIfInBounds_toArray, List.set_cons_zero, List.set_cons_succ]
      refine takeNoE 12 rfl (by kernel_rfl) (by kernel_rfl) (by kernel_rfl) (by rfl) (fun _ _ _ h => h) (by assumption) ?_
      try simp only [Act.put, List.getElem_toArray, List.getElem_cons_zero, List.getElem_cons_succ, List.setIfInBounds_toArray, List.set_cons_zero, List.set_cons_succ]
      refine takeNoE 13 rfl (by kernel_rfl) (by kernel_rfl) (by kernel_rfl) (by rfl) (fun _ _ _ h => h) (by assumption) ?_
      try simp only [Act.put, List.getElem_toArray, List.getElem_cons_zero, List.getElem_cons_succ, List.setIfInBounds_toArray, List.set_cons_zero, List.set_cons_succ]
      refine takeYesE 14 (v := ?_) rfl (by kernel_rfl) (by kernel_rfl) (by kernel_rfl) (by rfl) (fun _ _ _ h => h) (by assumption) ?_ ?_; rotate_left; (intro w hSw; (try dsimp only at hSw); go_simp; try (with_reducible rfl))
      try simp only [Act.put, List.getElem_toArray, List.getElem_cons_zero, List.getElem_cons_succ, List.setIfInBounds_toArray, List.set_cons_zero, List.set_cons_succ]
      refine takeYesE 15 (v := ?_) rfl (by kernel_rfl) (by kernel_rfl) (by kernel_rfl) (by rfl) (fun _ _ _ h => h) (by assumption) ?_ ?_; rotate_left; (intro w hSw; (try dsimp only at hSw); go_simp; try (with_reducible rfl))
      try simp only [Act.put, List.getElem_toArray, List.getElem_cons_zero, List.getElem_cons_succ, List.setIfInBounds_toArray, List.set_cons_zero, List.set_cons_succ]
      refine takeNoE 16 rfl (by kernel_rfl) (by kernel_rfl) (by kernel_rfl) (by rfl) (fun _ _ _ h => h) (by assumption) ?_
      try simp only [Act.put, List.getElem_toArray, List.getElem_cons_zero, List.getElem_cons_succ, List.setIfInBounds_toArray, List.set_cons_zero, List.set_cons_succ]
      refine takeNoE 17 rfl (by kernel_rfl) (by kernel_rfl) (by kernel_rfl) (by rfl) (fun _ _ _ h => h) (by assumption) ?_
      try simp only [Act.put, List.getElem_toArray, List.getElem_cons_zero, List.getElem_cons_succ, List.setIfInBounds_toArray, List.set_cons_zero, List.set_cons_succ]
      refine takeNoE 18 rfl (by kernel_rfl) (by kernel_rfl) (by kernel_rfl) (by rfl) (fun _ _ _ h => h) (by assumption) ?_
      try simp only [Act.put, List.getElem_toArray, List.getElem_cons_zero, List.getElem_cons_succ, List.setIfInBounds_toArray, List.set_cons_zero, List.set_cons_succ]
      refine takeNoE 19 rfl (by kernel_rfl) (by kernel_rfl) (by kernel_rfl) (by rfl) (fun _ _ _ h => h) (by assumption) ?_
      try simp only [Act.put, List.getElem_toArray, List.getElem_cons_zero, List.getElem_cons_succ, List.setIfInBounds_toArray, List.set_cons_zero, List.set_cons_succ]
      refine takeNoE 20 rfl (by kernel_rfl) (by kernel_rfl) (by kernel_rfl) (by rfl) (fun _ _ _ h => h) (by assumption) ?_
      try simp only [Act.put, List.getElem_toArray, List.getElem_cons_zero, List.getElem_cons_succ, List.setIfInBounds_toArray, List.set_cons_zero, List.set_cons_succ]
      refine takeNoE 21 rfl (by kernel_rfl) (by kernel_rfl) (by kernel_rfl) (by rfl) (fun _ _ _ h => h) (by assumption) ?_
      try simp only [Act.put, List.getElem_toArray, List.getElem_cons_zero, List.getElem_cons_succ, List.setIfInBounds_toArray, List.set_cons_zero, List.set_cons_succ]
      refine takeYesE 22 (v := ?_) rfl (by kernel_rfl) (by kernel_rfl) (by kernel_rfl) (by rfl) (fun _ _ _ h => h) (by assumption) ?_ ?_; rotate_left; (intro w hSw; (try dsimp only at hSw); go_simp; try (with_reducible rfl))
      try simp only [Act.put, List.getElem_toArray, List.getElem_cons_zero, List.getElem_cons_succ, List.setIfInBounds_toArray, List.set_cons_zero, List.set_cons_succ]
      refine takeYesE 23 (v := ?_) rfl (by kernel_rfl) (by kernel_rfl) (by kernel_rfl) (by rfl) (fun _ _ _ h => h) (by assumption) ?_ ?_; rotate_left; (intro w hSw; (try dsimp only at hSw); go_simp; try (with_reducible rfl))
      try simp only [Act.put, List.getElem_toArray, List.getElem_cons_zero, List.getElem_cons_succ, List.setIfInBounds_toArray, List.set_cons_zero, List.set_cons_succ]
      refine wpAnyH_done (by kernel_rfl) ?_ _
      have HZ : Hid (Below w.heap.size w uA) := Lib.hid (carry_below HB.out (Nat.le_refl _) (by assumption))
      go_wp2
      go_ret
      exact ⟨ret_bool HF.out.symm, HZ.out⟩
    | true =>
      rw [ha] at CAT
      have hl2 := (atom_args hn ha).1
      obtain ⟨x, y, hxy⟩ : ∃ x y, t.args = [x, y] := by
        match h : t.args, hl2 with
        | [x, y], _ => exact ⟨x, y, rfl⟩
      obtain ⟨b, off, c0, p, c, p', c', hsl, ⟨x0, x1, y0, y1⟩, hx, hy⟩ := two_at ht hxy
      injection hsl with e1 e2 e3
      subst e1 e3
      have hwx : x.wt ≤ 1048576 := Nat.le_trans (Tm.wt_arg (t := t) (by rw [hxy]; simp)) hw
      have hwy : y.wt ≤ 1048576 := Nat.le_trans (Tm.wt_arg (t := t) (by rw [hxy]; simp)) hw
      have CVX : Hid (∀ W, Below w1.heap.size w1 W → Calls Try.prog 79 #[.agg #[.slice sa o.sy.length sc, .slice wa o.ws.length wc, .int .i64 o.va], .agg #[.string x.name, .slice p x.args.length c]] W (Ans (.bool (o.cov x)) W)) := Lib.hid (fun W hW => l6Covers_any o ho x W _ _ _ (hv.kept (HB.out.trans (hW.mono HB.out.size))) (hx.kept (HB.out.trans (hW.mono HB.out.size))) hwx)
      have CVY : Hid (∀ W, Below w1.heap.size w1 W → Calls Try.prog 79 #[.agg #[.slice sa o.sy.length sc, .slice wa o.ws.length wc, .int .i64 o.va], .agg #[.string y.name, .slice p' y.args.length c']] W (Ans (.bool (o.cov y)) W)) := Lib.hid (fun W hW => l6Covers_any o ho y W _ _ _ (hv.kept (HB.out.trans (hW.mono HB.out.size))) (hy.kept (HB.out.trans (hW.mono HB.out.size))) hwy)
      have HC := Lib.hid (eqOk_c (o := o) hn ha hxy)
      have l0 : 0 < t.args.length := by omega
      have l1 : 1 < t.args.length := by omega
      have l1i : (1 : Int) < (t.args.length : Int) := by omega
      have l1t : decide ((1 : Int) < (t.args.length : Int)) = true := by simp; omega
      replace x0 := carry_cell x0 HB.out
      replace x1 := carry_cell x1 HB.out
      replace y0 := carry_cell y0 HB.out
      replace y1 := carry_cell y1 HB.out
      clear hn ha hv ht hw hx hy hl2 hxy
      cases hc : o.cov x with
      | false =>
        rw [hc] at CVX
        have HF : Hid (o.eqOk t = false) := Lib.hid (by rw [HC.out, hc]; rfl)
        clear hc
        go_enter Try.func36, Try.ntmps36
        obtain ⟨b0, b1, b2, b3⟩ := H3.out
        obtain ⟨t0, t1, t2⟩ := HT.out
        go_wp2_with fail
        have hB0 : Below w1.heap.size w1 w1.drew := (Below.refl _ _).drew
        refine wp_region_held_drew (S := (fun w' => w'.cell? ⟨w.heap.size, 0, none⟩ = some (.slice sa o.sy.length sc) ∧ w'.cell? ⟨w.heap.size, 1, none⟩ = some (.slice wa o.ws.length wc) ∧ w'.cell? ⟨w.heap.size, 2, none⟩ = some (.int .i64 o.va) ∧ w'.cell? ⟨w.heap.size + 1, 0, none⟩ = some (.string t.name) ∧ w'.cell? ⟨w.heap.size + 1, 1, none⟩ = some (.slice (some ⟨b, off, none⟩) t.args.length ca) ∧ w'.cell? ⟨b, off, none⟩ = some (.string x.name) ∧ w'.cell? ⟨b, off + 1, none⟩ = some (.slice p x.args.length c) ∧ w'.cell? ⟨b, off + 2, none⟩ = some (.string y.name) ∧ w'.cell? ⟨b, off + 3, none⟩ = some (.slice p' y.args.length c') ∧ Below w1.heap.size w1 w')) (by kernel_rfl) (by first | exact ⟨by assumption, by assumption, by assumption, by assumption, by assumption, by assumption, by assumption, by assumption, by assumption, by assumption⟩ | go_keep) (fun hHeld => ?_)
        refine takeYesE 0 (v := ?_) rfl (by kernel_rfl) (by kernel_rfl) (by kernel_rfl) (by rfl) (fun _ _ _ h => h) (by assumption) ?_ ?_; rotate_left; (intro w hSw; (try dsimp only at hSw); go_simp; try (with_reducible rfl))
        try simp only [Act.put, List.getElem_toArray, List.getElem_cons_zero, List.setIfInBounds_toArray, List.set_cons_zero, List.set_cons_succ]
        refine takeYesE 1 (v := ?_) rfl (by kernel_rfl) (by kernel_rfl) (by kernel_rfl) (by rfl) (fun _ _ _ h => h) (by assumption) ?_ ?_; rotate_left; (intro w hSw; (try dsimp only at hSw); go_simp; try (with_reducible rfl))
        try simp only [Act.put, List.getElem_toArray, List.getElem_cons_zero, List.getElem_cons_succ, List.setIfInBounds_toArray, List.set_cons_zero, List.set_cons_succ]
        refine takeYesE 2 (v := ?_) rfl (by kernel_rfl) (by kernel_rfl) (by kernel_rfl) (by rfl) (fun _ _ _ h => h) (by assumption) ?_ ?_; rotate_left; (intro w hSw; (try dsimp only at hSw); go_simp; try (with_reducible rfl))
        try simp only [Act.put, List.getElem_toArray, List.getElem_cons_zero, List.getElem_cons_succ, List.setIfInBounds_toArray, List.set_cons_zero, List.set_cons_succ]
        refine takeYesE 3 (v := ?_) rfl (by kernel_rfl) (by kernel_rfl) (by kernel_rfl) (by rfl) (fun _ _ _ h => h) (by assumption) ?_ ?_; rotate_left; (intro w hSw; (try dsimp only at hSw); go_simp; try (with_reducible rfl))
        try simp only [Act.put, List.getElem_toArray, List.getElem_cons_zero, List.getElem_cons_succ, List.setIfInBounds_toArray, List.set_cons_zero, List.set_cons_succ]
        refine takeYesE 4 (v := ?_) rfl (by kernel_rfl) (by kernel_rfl) (by kernel_rfl) (by rfl) (fun _ _ _ h => h) (by assumption) ?_ ?_; rotate_left; (intro w hSw; (try dsimp only at hSw); go_simp; try (with_reducible rfl))
        try simp only [Act.put, List.getElem_toArray, List.getElem_cons_zero, List.getElem_cons_succ, List.setIfInBounds_toArray, List.set_cons_zero, List.set_cons_succ]
        refine wpAnyH_ready (rs := [5]) (by kernel_rfl) (by simp) ?_
        refine AllReadyH.cons rfl (fun K hK => ?_) AllReadyH.nil
        go_simp
        (go_at_call 78; refine (CAT.out _ (by assumption)).mono ?_; rintro e uA ⟨rfl, hb⟩; have qz5_0 : uA.cell? ⟨w.heap.size, 0, none⟩ = some (.slice sa o.sy.length sc) := carry_cell' hb (by assumption); have qz5_1 : uA.cell? ⟨w.heap.size, 1, none⟩ = some (.slice wa o.ws.length wc) := carry_cell' hb (by assumption); have qz5_2 : uA.cell? ⟨w.heap.size, 2, none⟩ = some (.int .i64 o.va) := carry_cell' hb (by assumption); have qz5_3 : uA.cell? ⟨w.heap.size + 1, 0, none⟩ = some (.string t.name) := carry_cell' hb (by assumption); have qz5_4 : uA.cell? ⟨w.heap.size + 1, 1, none⟩ = some (.slice (some ⟨b, off, none⟩) t.args.length ca) := carry_cell' hb (by assumption); have qz5_5 : uA.cell? ⟨b, off, none⟩ = some (.string x.name) := carry_cell' hb (by assumption); have qz5_6 : uA.cell? ⟨b, off + 1, none⟩ = some (.slice p x.args.length c) := carry_cell' hb (by assumption); have qz5_7 : uA.cell? ⟨b, off + 2, none⟩ = some (.string y.name) := carry_cell' hb (by assumption); have qz5_8 : uA.cell? ⟨b, off + 3, none⟩ = some (.slice p' y.args.length c') := carry_cell' hb (by assumption); have huA : Below w1.heap.size w1 uA := carry_below (by assumption) (Nat.le_refl _) hb; clear hb; go_wp2_with fail)
        refine hK.out _ _ (by first | exact ⟨by assumption, by assumption, by assumption, by assumption, by assumption, by assumption, by assumption, by assumption, by assumption, by assumption⟩ | go_keep) (fun hHeld => ?_)
        clear hK K
        try simp only [Act.put, List.getElem_toArray, List.getElem_cons_zero, List.getElem_cons_succ, List.setIfInBounds_toArray, List.set_cons_zero, List.set_cons_succ]
        refine takeYesE 6 (v := ?_) rfl (by kernel_rfl) (by kernel_rfl) (by kernel_rfl) (by rfl) (fun _ _ _ h => h) (by assumption) ?_ ?_; rotate_left; (intro w hSw; (try dsimp only at hSw); go_simp; try (with_reducible rfl))
        try simp only [Act.put, List.getElem_toArray, List.getElem_cons_zero, List.getElem_cons_succ, List.setIfInBounds_toArray, List.set_cons_zero, List.set_cons_succ]
        refine takeYesE 7 (v := ?_) rfl (by kernel_rfl) (by kernel_rfl) (by kernel_rfl) (by rfl) (fun _ _ _ h => h) (by assumption) ?_ ?_; rotate_left; (intro w hSw; (try dsimp only at hSw); go_simp; try (with_reducible rfl))
        try simp only [Act.put, List.getElem_toArray, List.getElem_cons_zero, List.getElem_cons_succ, List.setIfInBounds_toArray, List.set_cons_zero, List.set_cons_succ]
        refine takeYesE 8 (v := ?_) rfl (by kernel_rfl) (by kernel_rfl) (by kernel_rfl) (by rfl) (fun _ _ _ h => h) (by assumption) ?_ ?_; rotate_left; (intro w hSw; (try dsimp only at hSw); go_simp; try (with_reducible rfl))
        try simp only [Act.put, List.getElem_toArray, List.getElem_cons_zero, List.getElem_cons_succ, List.setIfInBounds_toArray, List.set_cons_zero, List.set_cons_succ]
        refine takeYesE 9 (v := ?_) rfl (by kernel_rfl) (by kernel_rfl) (by kernel_rfl) (by rfl) (fun _ _ _ h => h) (by assumption) ?_ ?_; rotate_left; (intro w hSw; (try dsimp only at hSw); go_simp; try (with_reducible rfl))
        try simp only [Act.put, List.getElem_toArray, List.getElem_cons_zero, List.getElem_cons_succ, List.setIfInBounds_toArray, List.set_cons_zero, List.set_cons_succ]
        refine takeYesE 10 (v := ?_) rfl (by kernel_rfl) (by kernel_rfl) (by kernel_rfl) (by rfl) (fun _ _ _ h => h) (by assumption) ?_ ?_; rotate_left; (intro w hSw; (try dsimp only at hSw); go_simp; try (with_reducible rfl))
        try simp only [Act.put, List.getElem_toArray, List.getElem_cons_zero, List.getElem_cons_succ, List.setIfInBounds_toArray, List.set_cons_zero, List.set_cons_succ]
        refine takeYesE 11 (v := ?_) rfl (by kernel_rfl) (by kernel_rfl) (by kernel_rfl) (by rfl) (fun _ _ _ h => h) (by assumption) ?_ ?_; rotate_left; (intro w hSw; (try dsimp only at hSw); go_simp; try (with_reducible rfl))
        try simp only [Act.put, List.getElem_toArray, List.getElem_cons_zero, List.getElem_cons_succ, List.setIfInBounds_toArray, List.set_cons_zero, List.set_cons_succ]
        refine takeYesE 12 (v := ?_) rfl (by kernel_rfl) (by kernel_rfl) (by kernel_rfl) (by rfl) (fun _ _ _ h => h) (by assumption) ?_ ?_; rotate_left; (intro w hSw; (try dsimp only at hSw); go_simp; try (with_reducible rfl))
        try simp only [Act.put, List.getElem_toArray, List.getElem_cons_zero, List.getElem_cons_succ, List.setIfInBounds_toArray, List.set_cons_zero, List.set_cons_succ]
        refine wpAnyH_ready (rs := [13]) (by kernel_rfl) (by simp) ?_
        refine AllReadyH.cons rfl (fun K hK => ?_) AllReadyH.nil
        go_simp
        (go_at_call 79; refine (CVX.out _ (by assumption)).mono ?_; rintro e uX ⟨rfl, hb⟩; have qz13_0 : uX.cell? ⟨w.heap.size, 0, none⟩ = some (.slice sa o.sy.length sc) := carry_cell' hb (by assumption); have qz13_1 : uX.cell? ⟨w.heap.size, 1, none⟩ = some (.slice wa o.ws.length wc) := carry_cell' hb (by assumption); have qz13_2 : uX.cell? ⟨w.heap.size, 2, none⟩ = some (.int .i64 o.va) := carry_cell' hb (by assumption); have qz13_3 : uX.cell? ⟨w.heap.size + 1, 0, none⟩ = some (.string t.name) := carry_cell' hb (by assumption); have qz13_4 : uX.cell? ⟨w.heap.size + 1, 1, none⟩ = some (.slice (some ⟨b, off, none⟩) t.args.length ca) := carry_cell' hb (by assumption); have qz13_5 : uX.cell? ⟨b, off, none⟩ = some (.string x.name) := carry_cell' hb (by assumption); have qz13_6 : uX.cell? ⟨b, off + 1, none⟩ = some (.slice p x.args.length c) := carry_cell' hb (by assumption); have qz13_7 : uX.cell? ⟨b, off + 2, none⟩ = some (.string y.name) := carry_cell' hb (by assumption); have qz13_8 : uX.cell? ⟨b, off + 3, none⟩ = some (.slice p' y.args.length c') := carry_cell' hb (by assumption); have huX : Below w1.heap.size w1 uX := carry_below (by assumption) (Nat.le_refl _) hb; clear hb; go_wp2_with fail)
        refine hK.out _ _ (by first | exact ⟨by assumption, by assumption, by assumption, by assumption, by assumption, by assumption, by assumption, by assumption, by assumption, by assumption⟩ | go_keep) (fun hHeld => ?_)
        clear hK K
        try simp only [Act.put, List.getElem_toArray, List.getElem_cons_zero, List.getElem_cons_succ, List.setIfInBounds_toArray, List.set_cons_zero, List.set_cons_succ]
        refine takeYesE 14 (v := ?_) rfl (by kernel_rfl) (by kernel_rfl) (by kernel_rfl) (by rfl) (fun _ _ _ h => h) (by assumption) ?_ ?_; rotate_left; (intro w hSw; (try dsimp only at hSw); go_simp; try (with_reducible rfl))
        try simp only [Act.put, List.getElem_toArray, List.getElem_cons_zero, List.getElem_cons_succ, List.setIfInBounds_toArray, List.set_cons_zero, List.set_cons_succ]
        refine takeYesE 15 (v := ?_) rfl (by kernel_rfl) (by kernel_rfl) (by kernel_rfl) (by rfl) (fun _ _ _ h => h) (by assumption) ?_ ?_; rotate_left; (intro w hSw; (try dsimp only at hSw); go_simp; try (with_reducible rfl))
        try simp only [Act.put, List.getElem_toArray, List.getElem_cons_zero, List.getElem_cons_succ, List.setIfInBounds_toArray, List.set_cons_zero, List.set_cons_succ]
        refine takeNoE 16 rfl (by kernel_rfl) (by kernel_rfl) (by kernel_rfl) (by rfl) (fun _ _ _ h => h) (by assumption) ?_
        try simp only [Act.put, List.getElem_toArray, List.getElem_cons_zero, List.getElem_cons_succ, List.setIfInBounds_toArray, List.set_cons_zero, List.set_cons_succ]
        refine takeNoE 17 rfl (by kernel_rfl) (by kernel_rfl) (by kernel_rfl) (by rfl) (fun _ _ _ h => h) (by assumption) ?_
        try simp only [Act.put, List.getElem_toArray, List.getElem_cons_zero, List.getElem_cons_succ, List.setIfInBounds_toArray, List.set_cons_zero, List.set_cons_succ]
        refine takeNoE 18 rfl (by kernel_rfl) (by kernel_rfl) (by kernel_rfl) (by rfl) (fun _ _ _ h => h) (by assumption) ?_
        try simp only [Act.put, List.getElem_toArray, List.getElem_cons_zero, List.getElem_cons_succ, List.setIfInBounds_toArray, List.set_cons_zero, List.set_cons_succ]
        refine takeNoE 19 rfl (by kernel_rfl) (by kernel_rfl) (by kernel_rfl) (by rfl) (fun _ _ _ h => h) (by assumption) ?_
        try simp only [Act.put, List.getElem_toArray, List.getElem_cons_zero, List.getElem_cons_succ, List.setIfInBounds_toArray, List.set_cons_zero, List.set_cons_succ]
        refine takeNoE 20 rfl (by kernel_rfl) (by kernel_rfl) (by kernel_rfl) (by rfl) (fun _ _ _ h => h) (by assumption) ?_
        try simp only [Act.put, List.getElem_toArray, List.getElem_cons_zero, List.getElem_cons_succ, List.setIfInBounds_toArray, List.set_cons_zero, List.set_cons_succ]
        refine takeNoE 21 rfl (by kernel_rfl) (by kernel_rfl) (by kernel_rfl) (by rfl) (fun _ _ _ h => h) (by assumption) ?_
        try simp only [Act.put, List.getElem_toArray, List.getElem_cons_zero, List.getElem_cons_succ, List.setIfInBounds_toArray, List.set_cons_zero, List.set_cons_succ]
        refine takeYesE 22 (v := ?_) rfl (by kernel_rfl) (by kernel_rfl) (by kernel_rfl) (by rfl) (fun _ _ _ h => h) (by assumption) ?_ ?_; rotate_left; (intro w hSw; (try dsimp only at hSw); go_simp; try (with_reducible rfl))
        try simp only [Act.put, List.getElem_toArray, List.getElem_cons_zero, List.getElem_cons_succ, List.setIfInBounds_toArray, List.set_cons_zero, List.set_cons_succ]
        refine takeYesE 23 (v := ?_) rfl (by kernel_rfl) (by kernel_rfl) (by kernel_rfl) (by rfl) (fun _ _ _ h => h) (by assumption) ?_ ?_; rotate_left; (intro w hSw; (try dsimp only at hSw); go_simp; try (with_reducible rfl))
        try simp only [Act.put, List.getElem_toArray, List.getElem_cons_zero, List.getElem_cons_succ, List.setIfInBounds_toArray, List.set_cons_zero, List.set_cons_succ]
        refine wpAnyH_done (by kernel_rfl) ?_ _
        have HZ : Hid (Below w.heap.size w uX) := Lib.hid (carry_below HB.out (Nat.le_refl _) (by assumption))
        go_wp2
        go_ret
        exact ⟨ret_bool HF.out.symm, HZ.out⟩
      | true =>
        rw [hc] at CVX
        have HF : Hid (o.eqOk t = o.cov y) := Lib.hid (by rw [HC.out, hc, Bool.true_and])
        clear hc
        go_enter Try.func36, Try.ntmps36
        obtain ⟨b0, b1, b2, b3⟩ := H3.out
        obtain ⟨t0, t1, t2⟩ := HT.out
        go_wp2_with fail
        have hB0 : Below w1.heap.size w1 w1.drew := (Below.refl _ _).drew
        refine wp_region_held_drew (S := (fun w' => w'.cell? ⟨w.heap.size, 0, none⟩ = some (.slice sa o.sy.length sc) ∧ w'.cell? ⟨w.heap.size, 1, none⟩ = some (.slice wa o.ws.length wc) ∧ w'.cell? ⟨w.heap.size, 2, none⟩ = some (.int .i64 o.va) ∧ w'.cell? ⟨w.heap.size + 1, 0, none⟩ = some (.string t.name) ∧ w'.cell? ⟨w.heap.size + 1, 1, none⟩ = some (.slice (some ⟨b, off, none⟩) t.args.length ca) ∧ w'.cell? ⟨b, off, none⟩ = some (.string x.name) ∧ w'.cell? ⟨b, off + 1, none⟩ = some (.slice p x.args.length c) ∧ w'.cell? ⟨b, off + 2, none⟩ = some (.string y.name) ∧ w'.cell? ⟨b, off + 3, none⟩ = some (.slice p' y.args.length c') ∧ Below w1.heap.size w1 w')) (by kernel_rfl) (by first | exact ⟨by assumption, by assumption, by assumption, by assumption, by assumption, by assumption, by assumption, by assumption, by assumption, by assumption⟩ | go_keep) (fun hHeld => ?_)
        refine takeYesE 0 (v := ?_) rfl (by kernel_rfl) (by kernel_rfl) (by kernel_rfl) (by rfl) (fun _ _ _ h => h) (by assumption) ?_ ?_; rotate_left; (intro w hSw; (try dsimp only at hSw); go_simp; try (with_reducible rfl))
        try simp only [Act.put, List.getElem_toArray, List.getElem_cons_zero, List.setIfInBounds_toArray, List.set_cons_zero, List.set_cons_succ]
        refine takeYesE 1 (v := ?_) rfl (by kernel_rfl) (by kernel_rfl) (by kernel_rfl) (by rfl) (fun _ _ _ h => h) (by assumption) ?_ ?_; rotate_left; (intro w hSw; (try dsimp only at hSw); go_simp; try (with_reducible rfl))
        try simp only [Act.put, List.getElem_toArray, List.getElem_cons_zero, List.getElem_cons_succ, List.setIfInBounds_toArray, List.set_cons_zero, List.set_cons_succ]
        refine takeYesE 2 (v := ?_) rfl (by kernel_rfl) (by kernel_rfl) (by kernel_rfl) (by rfl) (fun _ _ _ h => h) (by assumption) ?_ ?_; rotate_left; (intro w hSw; (try dsimp only at hSw); go_simp; try (with_reducible rfl))
        try simp only [Act.put, List.getElem_toArray, List.getElem_cons_zero, List.getElem_cons_succ, List.setIfInBounds_toArray, List.set_cons_zero, List.set_cons_succ]
        refine takeYesE 3 (v := ?_) rfl (by kernel_rfl) (by kernel_rfl) (by kernel_rfl) (by rfl) (fun _ _ _ h => h) (by assumption) ?_ ?_; rotate_left; (intro w hSw; (try dsimp only at hSw); go_simp; try (with_reducible rfl))
        try simp only [Act.put, List.getElem_toArray, List.getElem_cons_zero, List.getElem_cons_succ, List.setIfInBounds_toArray, List.set_cons_zero, List.set_cons_succ]
        refine takeYesE 4 (v := ?_) rfl (by kernel_rfl) (by kernel_rfl) (by kernel_rfl) (by rfl) (fun _ _ _ h => h) (by assumption) ?_ ?_; rotate_left; (intro w hSw; (try dsimp only at hSw); go_simp; try (with_reducible rfl))
        try simp only [Act.put, List.getElem_toArray, List.getElem_cons_zero, List.getElem_cons_succ, List.setIfInBounds_toArray, List.set_cons_zero, List.set_cons_succ]
        refine wpAnyH_ready (rs := [5]) (by kernel_rfl) (by simp) ?_
        refine AllReadyH.cons rfl (fun K hK => ?_) AllReadyH.nil
        go_simp
        (go_at_call 78; refine (CAT.out _ (by assumption)).mono ?_; rintro e uA ⟨rfl, hb⟩; have qz5_0 : uA.cell? ⟨w.heap.size, 0, none⟩ = some (.slice sa o.sy.length sc) := carry_cell' hb (by assumption); have qz5_1 : uA.cell? ⟨w.heap.size, 1, none⟩ = some (.slice wa o.ws.length wc) := carry_cell' hb (by assumption); have qz5_2 : uA.cell? ⟨w.heap.size, 2, none⟩ = some (.int .i64 o.va) := carry_cell' hb (by assumption); have qz5_3 : uA.cell? ⟨w.heap.size + 1, 0, none⟩ = some (.string t.name) := carry_cell' hb (by assumption); have qz5_4 : uA.cell? ⟨w.heap.size + 1, 1, none⟩ = some (.slice (some ⟨b, off, none⟩) t.args.length ca) := carry_cell' hb (by assumption); have qz5_5 : uA.cell? ⟨b, off, none⟩ = some (.string x.name) := carry_cell' hb (by assumption); have qz5_6 : uA.cell? ⟨b, off + 1, none⟩ = some (.slice p x.args.length c) := carry_cell' hb (by assumption); have qz5_7 : uA.cell? ⟨b, off + 2, none⟩ = some (.string y.name) := carry_cell' hb (by assumption); have qz5_8 : uA.cell? ⟨b, off + 3, none⟩ = some (.slice p' y.args.length c') := carry_cell' hb (by assumption); have huA : Below w1.heap.size w1 uA := carry_below (by assumption) (Nat.le_refl _) hb; clear hb; go_wp2_with fail)
        refine hK.out _ _ (by first | exact ⟨by assumption, by assumption, by assumption, by assumption, by assumption, by assumption, by assumption, by assumption, by assumption, by assumption⟩ | go_keep) (fun hHeld => ?_)
        clear hK K
        try simp only [Act.put, List.getElem_toArray, List.getElem_cons_zero, List.getElem_cons_succ, List.setIfInBounds_toArray, List.set_cons_zero, List.set_cons_succ]
        refine takeYesE 6 (v := ?_) rfl (by kernel_rfl) (by kernel_rfl) (by kernel_rfl) (by rfl) (fun _ _ _ h => h) (by assumption) ?_ ?_; rotate_left; (intro w hSw; (try dsimp only at hSw); go_simp; try (with_reducible rfl))
        try simp only [Act.put, List.getElem_toArray, List.getElem_cons_zero, List.getElem_cons_succ, List.setIfInBounds_toArray, List.set_cons_zero, List.set_cons_succ]
        refine takeYesE 7 (v := ?_) rfl (by kernel_rfl) (by kernel_rfl) (by kernel_rfl) (by rfl) (fun _ _ _ h => h) (by assumption) ?_ ?_; rotate_left; (intro w hSw; (try dsimp only at hSw); go_simp; try (with_reducible rfl))
        try simp only [Act.put, List.getElem_toArray, List.getElem_cons_zero, List.getElem_cons_succ, List.setIfInBounds_toArray, List.set_cons_zero, List.set_cons_succ]
        refine takeYesE 8 (v := ?_) rfl (by kernel_rfl) (by kernel_rfl) (by kernel_rfl) (by rfl) (fun _ _ _ h => h) (by assumption) ?_ ?_; rotate_left; (intro w hSw; (try dsimp only at hSw); go_simp; try (with_reducible rfl))
        try simp only [Act.put, List.getElem_toArray, List.getElem_cons_zero, List.getElem_cons_succ, List.setIfInBounds_toArray, List.set_cons_zero, List.set_cons_succ]
        refine takeYesE 9 (v := ?_) rfl (by kernel_rfl) (by kernel_rfl) (by kernel_rfl) (by rfl) (fun _ _ _ h => h) (by assumption) ?_ ?_; rotate_left; (intro w hSw; (try dsimp only at hSw); go_simp; try (with_reducible rfl))
        try simp only [Act.put, List.getElem_toArray, List.getElem_cons_zero, List.getElem_cons_succ, List.setIfInBounds_toArray, List.set_cons_zero, List.set_cons_succ]
        refine takeYesE 10 (v := ?_) rfl (by kernel_rfl) (by kernel_rfl) (by kernel_rfl) (by rfl) (fun _ _ _ h => h) (by assumption) ?_ ?_; rotate_left; (intro w hSw; (try dsimp only at hSw); go_simp; try (with_reducible rfl))
        try simp only [Act.put, List.getElem_toArray, List.getElem_cons_zero, List.getElem_cons_succ, List.setIfInBounds_toArray, List.set_cons_zero, List.set_cons_succ]
        refine takeYesE 11 (v := ?_) rfl (by kernel_rfl) (by kernel_rfl) (by kernel_rfl) (by rfl) (fun _ _ _ h => h) (by assumption) ?_ ?_; rotate_left; (intro w hSw; (try dsimp only at hSw); go_simp; try (with_reducible rfl))
        try simp only [Act.put, List.getElem_toArray, List.getElem_cons_zero, List.getElem_cons_succ, List.setIfInBounds_toArray, List.set_cons_zero, List.set_cons_succ]
        refine takeYesE 12 (v := ?_) rfl (by kernel_rfl) (by kernel_rfl) (by kernel_rfl) (by rfl) (fun _ _ _ h => h) (by assumption) ?_ ?_; rotate_left; (intro w hSw; (try dsimp only at hSw); go_simp; try (with_reducible rfl))
        try simp only [Act.put, List.getElem_toArray, List.getElem_cons_zero, List.getElem_cons_succ, List.setIfInBounds_toArray, List.set_cons_zero, List.set_cons_succ]
        refine wpAnyH_ready (rs := [13]) (by kernel_rfl) (by simp) ?_
        refine AllReadyH.cons rfl (fun K hK => ?_) AllReadyH.nil
        go_simp
        (go_at_call 79; refine (CVX.out _ (by assumption)).mono ?_; rintro e uX ⟨rfl, hb⟩; have qz13_0 : uX.cell? ⟨w.heap.size, 0, none⟩ = some (.slice sa o.sy.length sc) := carry_cell' hb (by assumption); have qz13_1 : uX.cell? ⟨w.heap.size, 1, none⟩ = some (.slice wa o.ws.length wc) := carry_cell' hb (by assumption); have qz13_2 : uX.cell? ⟨w.heap.size, 2, none⟩ = some (.int .i64 o.va) := carry_cell' hb (by assumption); have qz13_3 : uX.cell? ⟨w.heap.size + 1, 0, none⟩ = some (.string t.name) := carry_cell' hb (by assumption); have qz13_4 : uX.cell? ⟨w.heap.size + 1, 1, none⟩ = some (.slice (some ⟨b, off, none⟩) t.args.length ca) := carry_cell' hb (by assumption); have qz13_5 : uX.cell? ⟨b, off, none⟩ = some (.string x.name) := carry_cell' hb (by assumption); have qz13_6 : uX.cell? ⟨b, off + 1, none⟩ = some (.slice p x.args.length c) := carry_cell' hb (by assumption); have qz13_7 : uX.cell? ⟨b, off + 2, none⟩ = some (.string y.name) := carry_cell' hb (by assumption); have qz13_8 : uX.cell? ⟨b, off + 3, none⟩ = some (.slice p' y.args.length c') := carry_cell' hb (by assumption); have huX : Below w1.heap.size w1 uX := carry_below (by assumption) (Nat.le_refl _) hb; clear hb; go_wp2_with fail)
        refine hK.out _ _ (by first | exact ⟨by assumption, by assumption, by assumption, by assumption, by assumption, by assumption, by assumption, by assumption, by assumption, by assumption⟩ | go_keep) (fun hHeld => ?_)
        clear hK K
        try simp only [Act.put, List.getElem_toArray, List.getElem_cons_zero, List.getElem_cons_succ, List.setIfInBounds_toArray, List.set_cons_zero, List.set_cons_succ]
        refine takeYesE 14 (v := ?_) rfl (by kernel_rfl) (by kernel_rfl) (by kernel_rfl) (by rfl) (fun _ _ _ h => h) (by assumption) ?_ ?_; rotate_left; (intro w hSw; (try dsimp only at hSw); go_simp; try (with_reducible rfl))
        try simp only [Act.put, List.getElem_toArray, List.getElem_cons_zero, List.getElem_cons_succ, List.setIfInBounds_toArray, List.set_cons_zero, List.set_cons_succ]
        refine takeYesE 15 (v := ?_) rfl (by kernel_rfl) (by kernel_rfl) (by kernel_rfl) (by rfl) (fun _ _ _ h => h) (by assumption) ?_ ?_; rotate_left; (intro w hSw; (try dsimp only at hSw); go_simp; try (with_reducible rfl))
        try simp only [Act.put, List.getElem_toArray, List.getElem_cons_zero, List.getElem_cons_succ, List.setIfInBounds_toArray, List.set_cons_zero, List.set_cons_succ]
        refine takeYesE 16 (v := ?_) rfl (by kernel_rfl) (by kernel_rfl) (by kernel_rfl) (by rfl) (fun _ _ _ h => h) (by assumption) ?_ ?_; rotate_left; (intro w hSw; (try dsimp only at hSw); go_simp; try (with_reducible rfl))
        try simp only [Act.put, List.getElem_toArray, List.getElem_cons_zero, List.getElem_cons_succ, List.setIfInBounds_toArray, List.set_cons_zero, List.set_cons_succ]
        refine takeYesE 17 (v := ?_) rfl (by kernel_rfl) (by kernel_rfl) (by kernel_rfl) (by rfl) (fun _ _ _ h => h) (by assumption) ?_ ?_; rotate_left; (intro w hSw; (try dsimp only at hSw); go_simp; try (with_reducible rfl))
        try simp only [Act.put, List.getElem_toArray, List.getElem_cons_zero, List.getElem_cons_succ, List.setIfInBounds_toArray, List.set_cons_zero, List.set_cons_succ]
        refine takeYesE 18 (v := ?_) rfl (by kernel_rfl) (by kernel_rfl) (by kernel_rfl) (by rfl) (fun _ _ _ h => h) (by assumption) ?_ ?_; rotate_left; (intro w hSw; (try dsimp only at hSw); go_simp; try (with_reducible rfl))
        try simp only [Act.put, List.getElem_toArray, List.getElem_cons_zero, List.getElem_cons_succ, List.setIfInBounds_toArray, List.set_cons_zero, List.set_cons_succ]
        refine takeYesE 19 (v := ?_) rfl (by kernel_rfl) (by kernel_rfl) (by kernel_rfl) (by rfl) (fun _ _ _ h => h) (by assumption) ?_ ?_; rotate_left; (intro w hSw; (try dsimp only at hSw); go_simp; try (with_reducible rfl))
        try simp only [Act.put, List.getElem_toArray, List.getElem_cons_zero, List.getElem_cons_succ, List.setIfInBounds_toArray, List.set_cons_zero, List.set_cons_succ]
        refine takeYesE 20 (v := ?_) rfl (by kernel_rfl) (by kernel_rfl) (by kernel_rfl) (by rfl) (fun _ _ _ h => h) (by assumption) ?_ ?_; rotate_left; (intro w hSw; (try dsimp only at hSw); go_simp; try (with_reducible rfl))
        try simp only [Act.put, List.getElem_toArray, List.getElem_cons_zero, List.getElem_cons_succ, List.setIfInBounds_toArray, List.set_cons_zero, List.set_cons_succ]
        refine wpAnyH_ready (rs := [21]) (by kernel_rfl) (by simp) ?_
        refine AllReadyH.cons rfl (fun K hK => ?_) AllReadyH.nil
        go_simp
        (go_at_call 79; refine (CVY.out _ (by assumption)).mono ?_; rintro e uY ⟨rfl, hb⟩; have qz21_0 : uY.cell? ⟨w.heap.size, 0, none⟩ = some (.slice sa o.sy.length sc) := carry_cell' hb (by assumption); have qz21_1 : uY.cell? ⟨w.heap.size, 1, none⟩ = some (.slice wa o.ws.length wc) := carry_cell' hb (by assumption); have qz21_2 : uY.cell? ⟨w.heap.size, 2, none⟩ = some (.int .i64 o.va) := carry_cell' hb (by assumption); have qz21_3 : uY.cell? ⟨w.heap.size + 1, 0, none⟩ = some (.string t.name) := carry_cell' hb (by assumption); have qz21_4 : uY.cell? ⟨w.heap.size + 1, 1, none⟩ = some (.slice (some ⟨b, off, none⟩) t.args.length ca) := carry_cell' hb (by assumption); have qz21_5 : uY.cell? ⟨b, off, none⟩ = some (.string x.name) := carry_cell' hb (by assumption); have qz21_6 : uY.cell? ⟨b, off + 1, none⟩ = some (.slice p x.args.length c) := carry_cell' hb (by assumption); have qz21_7 : uY.cell? ⟨b, off + 2, none⟩ = some (.string y.name) := carry_cell' hb (by assumption); have qz21_8 : uY.cell? ⟨b, off + 3, none⟩ = some (.slice p' y.args.length c') := carry_cell' hb (by assumption); have huY : Below w1.heap.size w1 uY := carry_below (by assumption) (Nat.le_refl _) hb; clear hb; go_wp2_with fail)
        refine hK.out _ _ (by first | exact ⟨by assumption, by assumption, by assumption, by assumption, by assumption, by assumption, by assumption, by assumption, by assumption, by assumption⟩ | go_keep) (fun hHeld => ?_)
        clear hK K
        try simp only [Act.put, List.getElem_toArray, List.getElem_cons_zero, List.getElem_cons_succ, List.setIfInBounds_toArray, List.set_cons_zero, List.set_cons_succ]
        refine takeYesE 22 (v := ?_) rfl (by kernel_rfl) (by kernel_rfl) (by kernel_rfl) (by rfl) (fun _ _ _ h => h) (by assumption) ?_ ?_; rotate_left; (intro w hSw; (try dsimp only at hSw); go_simp; try (with_reducible rfl))
        try simp only [Act.put, List.getElem_toArray, List.getElem_cons_zero, List.getElem_cons_succ, List.setIfInBounds_toArray, List.set_cons_zero, List.set_cons_succ]
        refine takeYesE 23 (v := ?_) rfl (by kernel_rfl) (by kernel_rfl) (by kernel_rfl) (by rfl) (fun _ _ _ h => h) (by assumption) ?_ ?_; rotate_left; (intro w hSw; (try dsimp only at hSw); go_simp; try (with_reducible rfl))
        try simp only [Act.put, List.getElem_toArray, List.getElem_cons_zero, List.getElem_cons_succ, List.setIfInBounds_toArray, List.set_cons_zero, List.set_cons_succ]
        refine wpAnyH_done (by kernel_rfl) ?_ _
        have HZ : Hid (Below w.heap.size w uY) := Lib.hid (carry_below HB.out (Nat.le_refl _) (by assumption))
        go_wp2
        go_ret
        exact ⟨ret_bool HF.out.symm, HZ.out⟩

end Go.Proofs.Ytohalpafmcobpaa

/- The model's OrientEquation, as a contract, for orderings and terms of at most 1048576 names' bytes and elements. -/
namespace Go.Proofs.Ytohalpafmcobpaa
open Go.RowKit
set_option linter.unusedVariables false

theorem ok_of {o : Od} {t : Tm} (hw : t.wt ≤ 1048576) (h : goodB t = true) (h' : o.cov t = true) : o.Ok t := by
  unfold goodB at h
  rw [Bool.and_eq_true] at h
  have e2 := h.1
  unfold fitsB at e2
  simp only [Bool.and_eq_true, decide_eq_true_eq] at e2
  exact ⟨hw, e2.1, h'⟩

/-- A term, a flag, and whether the arguments are valid. -/
def OriEnd (r : Tm) (b ok : Bool) (w : World) (e : Ending) (w' : World) : Prop :=
  ∃ va, e = .returned (.tuple #[.agg #[.string r.name, va], .bool b, .bool ok]) ∧ TmO w' (Fresh w w') va r.args ∧ Below w.heap.size w w'
theorem ori_zero {o : Od} {t : Tm} {w w' : World} {a : Option Addr} {c : Nat} (h : o.oriOk t = false) (hb : Below w.heap.size w w') :
    OriEnd (o.oriR t) (o.oriB t) (o.oriOk t) w (.returned (.tuple #[.agg #[.string ⟨#[]⟩, .slice a 0 c], .bool false, .bool false])) w' := by
  obtain ⟨e1, e2⟩ := oriR_no h
  rw [e1, e2, h]
  exact ⟨_, rfl, .emp _ _ _, hb⟩

/-- Two terms of the call's own in a new row. -/
theorem two_own {w W W' : World} {x y : Tm} {vx vy : Value} {Sx Sy : Nat → Prop} {c g : Nat} (hx : TmO W Sx vx x.args) (hy : TmO W Sy vy y.args) (hdis : ∀ k, Sx k → Sy k → False)
    (hsx : ∀ k, Sx k → Fresh w W' k ∧ k ≠ g) (hsy : ∀ k, Sy k → Fresh w W' k ∧ k ≠ g) (hc : 2 ≤ c) (hf : ∀ k, (Sx k ∨ Sy k) → W'.heap[k]? = W.heap[k]?) (hg : Fresh w W' g)
    (hz : ∀ j, W'.frozen? ⟨g, j, none⟩ = false) (c0 : W'.cell? ⟨g, 0, none⟩ = some (.string y.name)) (c1 : W'.cell? ⟨g, 1, none⟩ = some vy) (c2 : W'.cell? ⟨g, 2, none⟩ = some (.string x.name)) (c3 : W'.cell? ⟨g, 3, none⟩ = some vx) :
    TmO W' (Fresh w W') (.slice (some ⟨g, 0, none⟩) 2 c) [y, x] := by
  have two : ∀ (i : Nat) (t : Tm), [y, x][i]? = some t → (i = 0 ∧ t = y) ∨ (i = 1 ∧ t = x) := fun i t h => by
    match i, h with
    | 0, h => exact .inl ⟨rfl, by simpa using h.symm⟩
    | 1, h => exact .inr ⟨rfl, by simpa using h.symm⟩
  refine TmO.row (w := W') (Fresh w W') g c [y, x] (fun i => if i = 0 then vy else vx) (fun i => if i = 0 then Sy else Sx) (by simp) hg hc hz (fun i t h => ?_) (fun i t h => ?_) (fun i t h => ?_) (fun i k hi hk => ?_) (fun i j k hi hj hij h1 h2 => ?_)
  · rcases two i t h with ⟨rfl, rfl⟩ | ⟨rfl, rfl⟩
    · exact c0
    · exact c2
  · rcases two i t h with ⟨rfl, rfl⟩ | ⟨rfl, rfl⟩
    · exact c1
    · exact c3
  · rcases two i t h with ⟨rfl, rfl⟩ | ⟨rfl, rfl⟩
    · exact hy.frame fun k hk => hf k (.inr hk)
    · exact hx.frame fun k hk => hf k (.inl hk)
  · by_cases e : i = 0
    · simp only [if_pos e] at hk; exact hsy k hk
    · simp only [if_neg e] at hk; exact hsx k hk
  · by_cases e : i = 0
    · by_cases e' : j = 0
      · omega
      · simp only [if_pos e] at h1; simp only [if_neg e'] at h2; exact hdis k h2 h1
    · by_cases e' : j = 0
      · simp only [if_neg e] at h1; simp only [if_pos e'] at h2; exact hdis k h1 h2
      · simp at hi hj; omega

theorem ori_cells {wn : World} {R : Nat} {a b n s : Value} (hR : Two wn R a b) (ob : Obj) :
    (((wn.setCell ⟨R, 0, none⟩ n).setCell ⟨R, 1, none⟩ s).alloc ob).cell? ⟨R, 0, none⟩ = some n ∧ (((wn.setCell ⟨R, 0, none⟩ n).setCell ⟨R, 1, none⟩ s).alloc ob).cell? ⟨R, 1, none⟩ = some s := by
  have h := (((hR.setNil n).setOne s).alloc ob)
  exact ⟨h.1, h.2.1⟩
/-- The swapped equation, made anew. -/
theorem ori_two {o : Od} {t x y : Tm} {w wn : World} {R : Nat} {a b vx vy : Value} {Sx Sy : Nat → Prop} {c : Nat} (hwR : w.heap.size ≤ R) (hR : Two wn R a b) (hx : TmO wn Sx vx x.args) (hy : TmO wn Sy vy y.args)
    (hdis : ∀ k, Sx k → Sy k → False) (hsx : ∀ k, Sx k → R < k ∧ k < wn.heap.size) (hsy : ∀ k, Sy k → R < k ∧ k < wn.heap.size) (hc : 2 ≤ c) (hb : Below w.heap.size w wn)
    (hn : isEqB t.name = true) (hrr : o.oriR t = .node t.name [y, x] ∧ o.oriB t = true) (ho : o.oriOk t = true) :
    OriEnd (o.oriR t) (o.oriB t) (o.oriOk t) w (.returned (.tuple #[.agg #[.string ⟨#[61]⟩, .slice (some ⟨wn.heap.size, 0, none⟩) 2 c], .bool true, .bool true]))
      (((wn.setCell ⟨R, 0, none⟩ (.string ⟨#[61]⟩)).setCell ⟨R, 1, none⟩ (.slice (some ⟨wn.heap.size, 0, none⟩) 2 c)).alloc (.cells #[.string y.name, vy, .string x.name, vx] 49)) := by
  have en : t.name = ⟨#[61]⟩ := toList_inj (by unfold isEqB at hn; rw [beq_iff_eq] at hn; rw [hn, ByteArray.toList_eq])
  have hlt : R < wn.heap.size := World.block_lt_of_cell? wn ⟨R, 0, none⟩ hR.1
  rw [hrr.1, hrr.2, ho]
  have hsz : ((wn.setCell ⟨R, 0, none⟩ (.string ⟨#[61]⟩)).setCell ⟨R, 1, none⟩ (.slice (some ⟨wn.heap.size, 0, none⟩) 2 c)).heap.size = wn.heap.size := by simp only [size_setCell]
  refine ⟨_, by rw [show (Tm.node t.name [y, x]).name = ⟨#[61]⟩ from en], two_own (W := wn) (g := wn.heap.size) hx hy hdis (fun k hk => ?_) (fun k hk => ?_) hc (fun k hk => ?_) ?_ (fun j => ?_) ?_ ?_ ?_ ?_, ?_⟩
  · have := hsx k hk; exact ⟨⟨by omega, by simp; omega⟩, by omega⟩
  · have := hsy k hk; exact ⟨⟨by omega, by simp; omega⟩, by omega⟩
  · have h1 : R < k ∧ k < wn.heap.size := hk.elim (hsx k) (hsy k)
    rw [Below.heap_alloc _ _ k (by rw [hsz]; exact h1.2), Below.heap_setCell _ _ _ _ (by simp; omega), Below.heap_setCell _ _ _ _ (by simp; omega)]
  · exact ⟨by omega, by simp⟩
  · exact World.frozen?_alloc_at _ _ _ _ hsz.symm
  · rw [World.cell?_alloc_at _ _ _ _ hsz.symm]; rfl
  · rw [World.cell?_alloc_at _ _ _ _ hsz.symm]; rfl
  · rw [World.cell?_alloc_at _ _ _ _ hsz.symm]; rfl
  · rw [World.cell?_alloc_at _ _ _ _ hsz.symm]; rfl
  · exact ((hb.setCell (by simp; omega) _).setCell (by simp; omega) _).alloc (by rw [hsz]; exact hb.size) _


/-- The equation, copied. -/
theorem ori_same {o : Od} {t : Tm} {q : Bool} {w wn : World} {R : Nat} {a b vt : Value} {St : Nat → Prop} (hwR : w.heap.size ≤ R) (hR : Two wn R a b) (ht : TmO wn St vt t.args)
    (hst : ∀ k, St k → R < k ∧ k < wn.heap.size) (hb : Below w.heap.size w wn) (hrr : o.oriR t = t ∧ o.oriB t = q) (ho : o.oriOk t = true) :
    OriEnd (o.oriR t) (o.oriB t) (o.oriOk t) w (.returned (.tuple #[.agg #[.string t.name, vt], .bool q, .bool true])) ((wn.setCell ⟨R, 0, none⟩ (.string t.name)).setCell ⟨R, 1, none⟩ vt) := by
  rw [hrr.1, hrr.2, ho]
  refine ⟨_, rfl, ((ht.setCell (fun h => ?_) _).setCell (fun h => ?_) _).mono fun k hk => ?_, (hb.setCell hwR _).setCell hwR _⟩
  · have h1 := (hst _ h).1; simp at h1
  · have h1 := (hst _ h).1; simp at h1
  · have := hst k hk; exact ⟨by omega, by simp only [size_setCell]; omega⟩

end Go.Proofs.Ytohalpafmcobpaa

/- slices.Reverse at a row of two terms of the call's own. No condition. -/
namespace Go.Proofs.Ytohalpafmcobpaa
open Go.RowKit
set_option linter.unusedVariables false

/-- The two terms of the row have changed their places; nothing else has changed. -/
def RevOk (g : Nat) (s1 s2 : ByteArray) (a1 a2 : Value) (w w' : World) : Prop :=
  (w'.cell? ⟨g, 0, none⟩ = some (.string s2) ∧ w'.cell? ⟨g, 1, none⟩ = some a2 ∧ w'.cell? ⟨g, 2, none⟩ = some (.string s1) ∧ w'.cell? ⟨g, 3, none⟩ = some a1) ∧ (∀ j, w'.frozen? ⟨g, j, none⟩ = false) ∧
    (∀ k, k ≠ g → w'.heap[k]? = w.heap[k]?) ∧ w'.heap.size = w.heap.size ∧ Below g w w'

theorem rev_ok {w : World} {g : Nat} {s1 s2 : ByteArray} {v1 v2 : Value} (h0 : w.cell? ⟨g, 0, none⟩ = some (.string s1)) (h1 : w.cell? ⟨g, 1, none⟩ = some v1)
    (h2 : w.cell? ⟨g, 2, none⟩ = some (.string s2)) (h3 : w.cell? ⟨g, 3, none⟩ = some v2) (hz : ∀ j, w.frozen? ⟨g, j, none⟩ = false) :
    RevOk g s1 s2 v1 v2 w ((((w.setCell ⟨g, 0, none⟩ (.string s2)).setCell ⟨g, 1, none⟩ v2).setCell ⟨g, 2, none⟩ (.string s1)).setCell ⟨g, 3, none⟩ v1).drew := by
  obtain ⟨W1, e1⟩ : ∃ W1, w.setCell ⟨g, 0, none⟩ (.string s2) = W1 := ⟨_, rfl⟩
  have a0 : W1.cell? ⟨g, 0, none⟩ = some (.string s2) := by rw [← e1]; exact World.cell?_setCell_same _ _ _ h0
  have a1 : W1.cell? ⟨g, 1, none⟩ = some v1 := by rw [← e1]; exact (World.cell?_setCell_other _ _ _ _ (by simp)).trans h1
  have a2 : W1.cell? ⟨g, 2, none⟩ = some (.string s2) := by rw [← e1]; exact (World.cell?_setCell_other _ _ _ _ (by simp)).trans h2
  have a3 : W1.cell? ⟨g, 3, none⟩ = some v2 := by rw [← e1]; exact (World.cell?_setCell_other _ _ _ _ (by simp)).trans h3
  rw [e1]
  obtain ⟨W2, e2⟩ : ∃ W2, W1.setCell ⟨g, 1, none⟩ v2 = W2 := ⟨_, rfl⟩
  have b0 : W2.cell? ⟨g, 0, none⟩ = some (.string s2) := by rw [← e2]; exact (World.cell?_setCell_other _ _ _ _ (by simp)).trans a0
  have b1 : W2.cell? ⟨g, 1, none⟩ = some v2 := by rw [← e2]; exact World.cell?_setCell_same _ _ _ a1
  have b2 : W2.cell? ⟨g, 2, none⟩ = some (.string s2) := by rw [← e2]; exact (World.cell?_setCell_other _ _ _ _ (by simp)).trans a2
  have b3 : W2.cell? ⟨g, 3, none⟩ = some v2 := by rw [← e2]; exact (World.cell?_setCell_other _ _ _ _ (by simp)).trans a3
  rw [e2]
  obtain ⟨W3, e3⟩ : ∃ W3, W2.setCell ⟨g, 2, none⟩ (.string s1) = W3 := ⟨_, rfl⟩
  have d0 : W3.cell? ⟨g, 0, none⟩ = some (.string s2) := by rw [← e3]; exact (World.cell?_setCell_other _ _ _ _ (by simp)).trans b0
  have d1 : W3.cell? ⟨g, 1, none⟩ = some v2 := by rw [← e3]; exact (World.cell?_setCell_other _ _ _ _ (by simp)).trans b1
  have d2 : W3.cell? ⟨g, 2, none⟩ = some (.string s1) := by rw [← e3]; exact World.cell?_setCell_same _ _ _ b2
  have d3 : W3.cell? ⟨g, 3, none⟩ = some v2 := by rw [← e3]; exact (World.cell?_setCell_other _ _ _ _ (by simp)).trans b3
  rw [e3]
  obtain ⟨W4, e4⟩ : ∃ W4, W3.setCell ⟨g, 3, none⟩ v1 = W4 := ⟨_, rfl⟩
  have f0 : W4.cell? ⟨g, 0, none⟩ = some (.string s2) := by rw [← e4]; exact (World.cell?_setCell_other _ _ _ _ (by simp)).trans d0
  have f1 : W4.cell? ⟨g, 1, none⟩ = some v2 := by rw [← e4]; exact (World.cell?_setCell_other _ _ _ _ (by simp)).trans d1
  have f2 : W4.cell? ⟨g, 2, none⟩ = some (.string s1) := by rw [← e4]; exact (World.cell?_setCell_other _ _ _ _ (by simp)).trans d2
  have f3 : W4.cell? ⟨g, 3, none⟩ = some v1 := by rw [← e4]; exact World.cell?_setCell_same _ _ _ d3
  have hb : Below g w W4 := by rw [← e4, ← e3, ← e2, ← e1]; exact ((((Below.refl g w).setCell (Nat.le_refl _) _).setCell (Nat.le_refl _) _).setCell (Nat.le_refl _) _).setCell (Nat.le_refl _) _
  rw [e4]
  refine ⟨⟨f0, f1, f2, f3⟩, fun j => ?_, fun k hk => ?_, ?_, hb.drew⟩
  · show W4.frozen? ⟨g, j, none⟩ = false
    rw [← e4, ← e3, ← e2, ← e1, World.frozen?_setCell, World.frozen?_setCell, World.frozen?_setCell, World.frozen?_setCell]; exact hz j
  · show W4.heap[k]? = w.heap[k]?
    rw [← e4, ← e3, ← e2, ← e1, Below.heap_setCell _ _ _ _ (by simpa using hk), Below.heap_setCell _ _ _ _ (by simpa using hk), Below.heap_setCell _ _ _ _ (by simpa using hk), Below.heap_setCell _ _ _ _ (by simpa using hk)]
  · show W4.heap.size = w.heap.size
    rw [← e4, ← e3, ← e2, ← e1]; simp only [size_setCell]

set_option maxHeartbeats 4000000 in
theorem rev2_any (w : World) (g c : Nat) (s1 s2 : ByteArray) (b1 b2 : Option Addr) (m1 m2 c1 c2 : Nat) (h0 : w.cell? ⟨g, 0, none⟩ = some (.string s1)) (h1 : w.cell? ⟨g, 1, none⟩ = some (.slice b1 m1 c1))
    (h2 : w.cell? ⟨g, 2, none⟩ = some (.string s2)) (h3 : w.cell? ⟨g, 3, none⟩ = some (.slice b2 m2 c2)) (hz : ∀ j, w.frozen? ⟨g, j, none⟩ = false) :
    Calls Try.prog 88 #[.slice (some ⟨g, 0, none⟩) 2 c] w fun e w' => (∃ v, e = .returned v) ∧ RevOk g s1 s2 (.slice b1 m1 c1) (.slice b2 m2 c2) w w' := by
  have z0 := hz 0
  have z1 := hz 1
  have z2 := hz 2
  have z3 := hz 3
  have HZ := Lib.hid hz
  have H0 := Lib.hid h0
  have H1 := Lib.hid h1
  have H2 := Lib.hid h2
  have H3 := Lib.hid h3
  clear hz
  go_enter Try.func88, Try.ntmps88
  go_wp2
  refine wp_loop_rounds 2 ?_
  rw [rounds_succ]
  go_wp2
  go_region
  all_goals
    go_wp2
    rw [rounds_succ]
    go_wp2
    go_end0
    exact ⟨⟨_, rfl⟩, rev_ok H0.out H1.out H2.out H3.out HZ.out⟩

end Go.Proofs.Ytohalpafmcobpaa

/- The program's OrientEquation, as a contract, for orderings and terms of at most 1048576 names' bytes and elements. -/
namespace Go.Proofs.Ytohalpafmcobpaa
open Go.RowKit
set_option linter.unusedVariables false

theorem okP_ofG {o : Od} {t : Tm} (hw : t.wt ≤ 1048576) (h : goodB t = true) (h' : o.cov t = true) : o.OkP t := by
  refine ⟨⟨hw, (ok_of hw h h').sz⟩, .inl ?_⟩
  unfold goodB at h
  rw [Bool.and_eq_true] at h
  exact h.2

/-- A row of two terms of the call's own: its parts. -/
theorem TmO.two {w : World} {S : Nat → Prop} {v : Value} {l : List Tm} {x y : Tm} (h : TmO w S v l) (e : l = [x, y]) : ∃ g c p q p' q' Sx Sy, v = .slice (some ⟨g, 0, none⟩) l.length c ∧ 2 ≤ c ∧ S g ∧
    (w.cell? ⟨g, 0, none⟩ = some (.string x.name) ∧ w.cell? ⟨g, 1, none⟩ = some (.slice p x.args.length q) ∧ w.cell? ⟨g, 2, none⟩ = some (.string y.name) ∧ w.cell? ⟨g, 3, none⟩ = some (.slice p' y.args.length q')) ∧
    (∀ j, w.frozen? ⟨g, j, none⟩ = false) ∧ TmO w Sx (.slice p x.args.length q) x.args ∧ TmO w Sy (.slice p' y.args.length q') y.args ∧ (∀ k, Sx k → S k ∧ k ≠ g) ∧ (∀ k, Sy k → S k ∧ k ≠ g) ∧ ∀ k, Sx k → Sy k → False := by
  cases h with
  | emp S a c => cases e
  | row S g c l f Ss hp hS hc hz hn ha hr hsub hdis =>
    have hx : l[0]? = some x := by rw [e]; rfl
    have hy : l[1]? = some y := by rw [e]; rfl
    have hl : l.length = 2 := by rw [e]; rfl
    obtain ⟨p, q, ex⟩ := (hr 0 x hx).read.is_slice
    obtain ⟨p', q', ey⟩ := (hr 1 y hy).read.is_slice
    refine ⟨g, c, p, q, p', q', Ss 0, Ss 1, rfl, by omega, hS, ⟨?_, ?_, ?_, ?_⟩, hz, ?_, ?_, fun k hk => hsub 0 k (by omega) hk, fun k hk => hsub 1 k (by omega) hk, fun k h1 h2 => hdis 0 1 k (by omega) (by omega) (by omega) h1 h2⟩
    · simpa using hn 0 x hx
    · have := ha 0 x hx; rw [ex] at this; simpa using this
    · simpa using hn 1 y hy
    · have := ha 1 y hy; rw [ey] at this; simpa using this
    · have := hr 0 x hx; rw [ex] at this; exact this
    · have := hr 1 y hy; rw [ey] at this; exact this

/-- The equation, its own row turned round. -/
theorem ori_rev {o : Od} {t x y : Tm} {w W W' : World} {R g c : Nat} {a b vx vy : Value} {Sx Sy : Nat → Prop} (hwR : w.heap.size ≤ R) (hR : Two W' R a b) (hx : TmO W Sx vx x.args) (hy : TmO W Sy vy y.args)
    (hdis : ∀ k, Sx k → Sy k → False) (hsx : ∀ k, Sx k → R < k ∧ k < W.heap.size ∧ k ≠ g) (hsy : ∀ k, Sy k → R < k ∧ k < W.heap.size ∧ k ≠ g) (hc : 2 ≤ c) (hgR : R < g ∧ g < W.heap.size)
    (hrev : RevOk g x.name y.name vx vy W W') (hb : Below w.heap.size w W) (hlen : t.args.length = 2) (hrr : o.oriR t = .node t.name [y, x] ∧ o.oriB t = true) (ho : o.oriOk t = true) :
    OriEnd (o.oriR t) (o.oriB t) (o.oriOk t) w (.returned (.tuple #[.agg #[.string t.name, .slice (some ⟨g, 0, none⟩) t.args.length c], .bool true, .bool true]))
      ((W'.setCell ⟨R, 0, none⟩ (.string t.name)).setCell ⟨R, 1, none⟩ (.slice (some ⟨g, 0, none⟩) t.args.length c)) := by
  obtain ⟨⟨r0, r1, r2, r3⟩, hz, hh, hs, hbel⟩ := hrev
  have hRb : R < W'.heap.size := World.block_lt_of_cell? W' ⟨R, 0, none⟩ hR.1
  rw [hrr.1, hrr.2, ho, hlen]
  have hb' : Below w.heap.size w W' := hb.trans (hbel.mono (by omega))
  have set : ∀ k, k ≠ R → ((W'.setCell ⟨R, 0, none⟩ (.string t.name)).setCell ⟨R, 1, none⟩ (.slice (some ⟨g, 0, none⟩) 2 c)).heap[k]? = W'.heap[k]? := fun k hk => by
    rw [Below.heap_setCell _ _ _ _ (by simpa using hk), Below.heap_setCell _ _ _ _ (by simpa using hk)]
  have hg := set g (by omega)
  refine ⟨_, rfl, two_own (W := W) (g := g) hx hy hdis (fun k hk => ?_) (fun k hk => ?_) hc (fun k hk => ?_) ?_ (fun j => ?_) ?_ ?_ ?_ ?_, (hb'.setCell hwR _).setCell hwR _⟩
  · have := hsx k hk; exact ⟨⟨by omega, by simp only [size_setCell]; omega⟩, this.2.2⟩
  · have := hsy k hk; exact ⟨⟨by omega, by simp only [size_setCell]; omega⟩, this.2.2⟩
  · have h1 : R < k ∧ k < W.heap.size ∧ k ≠ g := hk.elim (hsx k) (hsy k)
    exact (set k (by omega)).trans (hh k h1.2.2)
  · exact ⟨by omega, by simp only [size_setCell]; omega⟩
  · exact (World.frozen?_of_block (a := ⟨g, j, none⟩) (w := W') hg).trans (hz j)
  · exact (World.cell?_of_block (a := ⟨g, 0, none⟩) (w := W') hg).trans r0
  · exact (World.cell?_of_block (a := ⟨g, 1, none⟩) (w := W') hg).trans r1
  · exact (World.cell?_of_block (a := ⟨g, 2, none⟩) (w := W') hg).trans r2
  · exact (World.cell?_of_block (a := ⟨g, 3, none⟩) (w := W') hg).trans r3

set_option maxRecDepth 100000 in
set_option maxHeartbeats 8000000 in
theorem implOri_any (o : Od) (ho : o.wt ≤ 1048576) (t : Tm) (w : World) (sv wv va : Value) (hv : OdV w sv wv o) (ht : TmS w va t.args) (hw : t.wt ≤ 1048576) :
    Calls Try.prog 41 #[.agg #[sv, wv, .int .i64 o.va], .agg #[.string t.name, va]] w (OriEnd (o.oriR t) (o.oriB t) (o.oriOk t) w) := by
  obtain ⟨sa, sc, wa, wc, rfl, rfl⟩ := hv.open
  obtain ⟨pa, ca, rfl⟩ := ht.is_slice
  obtain ⟨w1, hw1⟩ : ∃ w1, ((w.alloc (.cells #[.slice sa o.sy.length sc, .slice wa o.ws.length wc, .int .i64 o.va] 31)).alloc (.cells #[.string t.name, .slice pa t.args.length ca] 49)).alloc (.cells #[.string ⟨#[]⟩, .slice none 0 0] 49) = w1 := ⟨_, rfl⟩
  have HB : Hid (Below w.heap.size w w1) := Lib.hid (by rw [← hw1]; exact (((Below.refl w.heap.size w).alloc (Nat.le_refl _) _).alloc (by simp) _).alloc (by simp; omega) _)
  have H3 : Hid (OdB w1 w.heap.size (.slice sa o.sy.length sc) (.slice wa o.ws.length wc) o) := Lib.hid (by rw [← hw1]; exact ((thr_new w _ _ _ _ _ rfl).alloc _).alloc _)
  have HT : Hid (Two w1 (w.heap.size + 1) (.string t.name) (.slice pa t.args.length ca)) := Lib.hid (by rw [← hw1]; exact (two_new _ _ _ 49 (w.heap.size + 1) (by simp)).alloc _)
  have HR : Hid (Two w1 (w.heap.size + 1 + 1) (.string ⟨#[]⟩) (.slice none 0 0)) := Lib.hid (by rw [← hw1]; exact two_new _ _ _ 49 (w.heap.size + 1 + 1) (by simp))
  have hz1 : w.heap.size + 1 + 1 < w1.heap.size := World.block_lt_of_cell? w1 ⟨w.heap.size + 1 + 1, 0, none⟩ HR.out.1
  have HV := Lib.hid hv
  have HTT := Lib.hid ht
  have HW := Lib.hid hw
  have HEQ := Lib.hid (eqOk_eq o t)
  clear hv ht hw
  go_enter Try.func41, Try.ntmps41
  obtain ⟨b0, b1, b2, b3⟩ := H3.out
  obtain ⟨t0, t1, t2⟩ := HT.out
  obtain ⟨r0, r1, r2⟩ := HR.out
  go_wp2_with fail
  refine (isEq_any t _ _ (HTT.out.kept HB.out)).mono ?_
  rintro e uA ⟨rfl, hb⟩
  replace HB := Lib.hid (carry_below HB.out (Nat.le_refl _) hb)
  replace H3 := Lib.hid (H3.out.kept hb)
  replace HT := Lib.hid (HT.out.kept hb)
  replace HR := Lib.hid (HR.out.kept hb)
  replace hz1 := Nat.lt_of_lt_of_le hz1 hb.size
  clear hb b0 b1 b2 b3 t0 t1 t2 r0 r1 r2
  obtain ⟨b0, b1, b2, b3⟩ := H3.out
  obtain ⟨t0, t1, t2⟩ := HT.out
  obtain ⟨r0, r1, r2⟩ := HR.out
  cases hn : isEqB t.name with
  | false =>
    have HO : Hid (o.oriOk t = false) := Lib.hid (by have h := HEQ.out; rw [hn] at h; unfold Od.oriOk; rw [← h]; rfl)
    clear hn
    go_wp2
    refine bodyPost_ret (v := .tuple #[.agg #[.string ⟨#[]⟩, .slice none 0 0], .bool false, .bool false]) (by simp [results, Try.results41, go_sem, r0, r1]) rfl ?_
    exact ori_zero HO.out ((HB.out.setCell (by simp; omega) _).setCell (by simp; omega) _)

  | true =>
    have HN := Lib.hid hn
    clear hn
    have HSL := Lib.hid (tmS_one ((HTT.out.kept HB.out).alloc (.cells #[.string t.name, .slice pa t.args.length ca] 49)) uA.heap.size 1 (two_new uA _ _ _ _ rfl).1 (two_new uA _ _ _ _ rfl).2.1)
    have HBA := Lib.hid (HB.out.alloc HB.out.size (.cells #[.string t.name, .slice pa t.args.length ca] 49))
    replace H3 := Lib.hid (H3.out.alloc (.cells #[.string t.name, .slice pa t.args.length ca] 49))
    replace HT := Lib.hid (HT.out.alloc (.cells #[.string t.name, .slice pa t.args.length ca] 49))
    replace HR := Lib.hid (HR.out.alloc (.cells #[.string t.name, .slice pa t.args.length ca] 49))
    go_wp2_with fail
    refine (covers_any o [t] _ _ _ _ (HV.out.kept HBA.out) HSL.out ho (by simp) (fun s hs => by rw [List.mem_singleton.1 hs]; exact HW.out)).mono ?_
    rintro e uB ⟨rfl, hb⟩
    replace hz1 : w.heap.size + 1 + 1 < (uA.alloc (.cells #[.string t.name, .slice pa t.args.length ca] 49)).heap.size := by simp; omega
    replace HB := HBA
    clear HBA HSL
    replace HB := Lib.hid (carry_below HB.out (Nat.le_refl _) hb)
    replace H3 := Lib.hid (H3.out.kept hb)
    replace HT := Lib.hid (HT.out.kept hb)
    replace HR := Lib.hid (HR.out.kept hb)
    replace hz1 := Nat.lt_of_lt_of_le hz1 hb.size
    clear hb b0 b1 b2 b3 t0 t1 t2 r0 r1 r2
    obtain ⟨b0, b1, b2, b3⟩ := H3.out
    obtain ⟨t0, t1, t2⟩ := HT.out
    obtain ⟨r0, r1, r2⟩ := HR.out
    cases hc : o.covP [t] with
    | false =>
      have HO : Hid (o.oriOk t = false) := Lib.hid (by have h := HEQ.out; rw [HN.out, hc] at h; unfold Od.oriOk; rw [← h]; rfl)
      clear hc
      go_wp2
      refine bodyPost_ret (v := .tuple #[.agg #[.string ⟨#[]⟩, .slice none 0 0], .bool false, .bool false]) (by simp [results, Try.results41, go_sem, r0, r1]) rfl ?_
      exact ori_zero HO.out ((HB.out.setCell (by simp; omega) _).setCell (by simp; omega) _)

    | true =>
      have HO : Hid (o.oriOk t = true) := Lib.hid (by have h := HEQ.out; rw [HN.out, hc] at h; unfold Od.oriOk; rw [← h]; rfl)
      clear hc
      have hge : o.good = true ∧ o.eqOk t = true := by have h := HO.out; unfold Od.oriOk at h; rwa [Bool.and_eq_true] at h
      have HG := Lib.hid hge.1
      obtain ⟨x, y, hxy, ⟨gx, cx⟩, ⟨gy, cy⟩, hn, hat⟩ := eqOk_two hge.2
      obtain ⟨b, off, c0, p, c, p', c', hsl, ⟨x0, x1, y0, y1⟩, hx, hy⟩ := two_at HTT.out hxy
      have hbw : b < w.heap.size := World.block_lt_of_cell? w ⟨b, off, none⟩ x0
      injection hsl with e1 e2 e3
      subst e1 e3
      have hwx : x.wt ≤ 1048576 := Nat.le_trans (Tm.wt_arg (t := t) (by rw [hxy]; simp)) HW.out
      have hwy : y.wt ≤ 1048576 := Nat.le_trans (Tm.wt_arg (t := t) (by rw [hxy]; simp)) HW.out
      obtain ⟨s1, s2⟩ := sides hxy
      have l0 : 0 < t.args.length := by rw [hxy]; simp
      have l1 : 1 < t.args.length := by rw [hxy]; simp
      have l1i : (1 : Int) < (t.args.length : Int) := by omega
      have l1t : decide ((1 : Int) < (t.args.length : Int)) = true := by simp; omega
      have HXY := Lib.hid hxy
      have HS : Hid (sideA t = x ∧ sideB t = y) := Lib.hid ⟨s1, s2⟩
      have hzB : w.heap.size + 1 + 1 < uB.heap.size := hz1
      have HPX := Lib.hid (okP_ofG hwx gx cx)
      have HPY := Lib.hid (okP_ofG hwy gy cy)
      have HX := Lib.hid hx
      have HY := Lib.hid hy
      clear hge hn hat hxy s1 s2 gx cx gy cy hx hy
      go_wp2_with fail
      refine (copyTerm_any t _ _ (HTT.out.kept HB.out) HW.out).mono ?_
      rintro e uC ⟨vq, rfl, hoq, hb⟩
      obtain ⟨qp, qc, rfl⟩ := hoq.read.is_slice
      have hzq : uB.heap.size ≤ uC.heap.size := hb.size
      have HQ0 := Lib.hid hoq
      clear hoq
      replace HB := Lib.hid (carry_below HB.out (Nat.le_refl _) hb)
      replace H3 := Lib.hid (H3.out.kept hb)
      replace HT := Lib.hid (HT.out.kept hb)
      replace HR := Lib.hid (HR.out.kept hb)
      replace hz1 := Nat.lt_of_lt_of_le hz1 hb.size
      clear hb b0 b1 b2 b3 t0 t1 t2 r0 r1 r2
      obtain ⟨b0, b1, b2, b3⟩ := H3.out
      obtain ⟨t0, t1, t2⟩ := HT.out
      obtain ⟨r0, r1, r2⟩ := HR.out
      obtain ⟨W3, hW3⟩ : ∃ W3, uC.alloc (.cells #[.string t.name, .slice qp t.args.length qc] 49) = W3 := ⟨_, rfl⟩
      have HQ : Hid (Two W3 uC.heap.size (.string t.name) (.slice qp t.args.length qc)) := Lib.hid (by rw [← hW3]; exact two_new uC _ _ _ _ rfl)
      have HOW : Hid (TmO W3 (Fresh uB uC) (.slice qp t.args.length qc) t.args) := Lib.hid (by rw [← hW3]; exact HQ0.out.kept ((Below.refl _ _).alloc (Nat.le_refl _) _))
      have hz3 : uC.heap.size < W3.heap.size := World.block_lt_of_cell? W3 ⟨uC.heap.size, 0, none⟩ HQ.out.1
      have hb : Below uC.heap.size uC W3 := by rw [← hW3]; exact (Below.refl _ _).alloc (Nat.le_refl _) _
      replace HB := Lib.hid (carry_below HB.out (Nat.le_refl _) hb)
      replace H3 := Lib.hid (H3.out.kept hb)
      replace HT := Lib.hid (HT.out.kept hb)
      replace HR := Lib.hid (HR.out.kept hb)
      replace hz1 := Nat.lt_of_lt_of_le hz1 hb.size
      clear b0 b1 b2 b3 t0 t1 t2 r0 r1 r2
      obtain ⟨b0, b1, b2, b3⟩ := H3.out
      obtain ⟨t0, t1, t2⟩ := HT.out
      obtain ⟨r0, r1, r2⟩ := HR.out
      clear hb
      obtain ⟨k0, k1, k2⟩ := HQ.out
      replace x0 := carry_cell x0 HB.out
      replace x1 := carry_cell x1 HB.out
      replace y0 := carry_cell y0 HB.out
      replace y1 := carry_cell y1 HB.out
      have CK : Hid (∀ W, Below W3.heap.size W3 W → Calls Try.prog 42 #[.agg #[.slice sa o.sy.length sc, .slice wa o.ws.length wc, .int .i64 o.va], .agg #[.string x.name, .slice p x.args.length c], .agg #[.string y.name, .slice p' y.args.length c']] W (Ans (.bool (kbo o x y)) W)) := Lib.hid (fun W hW => kboP_any o ho (Od.good_fine HG.out) x y W _ _ _ _ (HV.out.kept (HB.out.trans (hW.mono HB.out.size))) (HX.out.kept (HB.out.trans (hW.mono HB.out.size))) (HY.out.kept (HB.out.trans (hW.mono HB.out.size))) HPX.out HPY.out)
      have CK2 : Hid (∀ W, Below W3.heap.size W3 W → Calls Try.prog 42 #[.agg #[.slice sa o.sy.length sc, .slice wa o.ws.length wc, .int .i64 o.va], .agg #[.string y.name, .slice p' y.args.length c'], .agg #[.string x.name, .slice p x.args.length c]] W (Ans (.bool (kbo o y x)) W)) := Lib.hid (fun W hW => kboP_any o ho (Od.good_fine HG.out) y x W _ _ _ _ (HV.out.kept (HB.out.trans (hW.mono HB.out.size))) (HY.out.kept (HB.out.trans (hW.mono HB.out.size))) (HX.out.kept (HB.out.trans (hW.mono HB.out.size))) HPY.out HPX.out)
      clear HQ0
      go_wp2_with fail
      have hB0 : Below W3.heap.size W3 W3.drew := (Below.refl _ _).drew
      go_region_held3 (fun w' => w'.cell? ⟨w.heap.size, 0, none⟩ = some (.slice sa o.sy.length sc) ∧ w'.cell? ⟨w.heap.size, 1, none⟩ = some (.slice wa o.ws.length wc) ∧ w'.cell? ⟨w.heap.size, 2, none⟩ = some (.int .i64 o.va) ∧ w'.cell? ⟨w.heap.size + 1, 0, none⟩ = some (.string t.name) ∧ w'.cell? ⟨w.heap.size + 1, 1, none⟩ = some (.slice (some ⟨b, off, none⟩) t.args.length ca) ∧ w'.cell? ⟨b, off, none⟩ = some (.string x.name) ∧ w'.cell? ⟨b, off + 1, none⟩ = some (.slice p x.args.length c) ∧ w'.cell? ⟨b, off + 2, none⟩ = some (.string y.name) ∧ w'.cell? ⟨b, off + 3, none⟩ = some (.slice p' y.args.length c') ∧ Below W3.heap.size W3 w') (first | exact ⟨by assumption, by assumption, by assumption, by assumption, by assumption, by assumption, by assumption, by assumption, by assumption, by assumption⟩ | go_keep) (first | (go_at_call 42; refine (CK.out _ (by assumption)).mono ?_; rintro e uD ⟨rfl, hb⟩; have qa0 : uD.cell? ⟨w.heap.size, 0, none⟩ = some (.slice sa o.sy.length sc) := carry_cell' hb (by assumption); have qa1 : uD.cell? ⟨w.heap.size, 1, none⟩ = some (.slice wa o.ws.length wc) := carry_cell' hb (by assumption); have qa2 : uD.cell? ⟨w.heap.size, 2, none⟩ = some (.int .i64 o.va) := carry_cell' hb (by assumption); have qa3 : uD.cell? ⟨w.heap.size + 1, 0, none⟩ = some (.string t.name) := carry_cell' hb (by assumption); have qa4 : uD.cell? ⟨w.heap.size + 1, 1, none⟩ = some (.slice (some ⟨b, off, none⟩) t.args.length ca) := carry_cell' hb (by assumption); have qa5 : uD.cell? ⟨b, off, none⟩ = some (.string x.name) := carry_cell' hb (by assumption); have qa6 : uD.cell? ⟨b, off + 1, none⟩ = some (.slice p x.args.length c) := carry_cell' hb (by assumption); have qa7 : uD.cell? ⟨b, off + 2, none⟩ = some (.string y.name) := carry_cell' hb (by assumption); have qa8 : uD.cell? ⟨b, off + 3, none⟩ = some (.slice p' y.args.length c') := carry_cell' hb (by assumption); have huD : Below W3.heap.size W3 uD := carry_below (by assumption) (Nat.le_refl _) hb; have hbk := hb; clear hb))
      clear hB0 qa0 qa1 qa2 qa3 qa4 qa5 qa6 qa7 qa8
      have hb := huD
      clear huD hbk
      have hzD : W3.heap.size ≤ uD.heap.size := hb.size
      replace HB := Lib.hid (carry_below HB.out (Nat.le_refl _) hb)
      replace H3 := Lib.hid (H3.out.kept hb)
      replace HT := Lib.hid (HT.out.kept hb)
      replace HR := Lib.hid (HR.out.kept hb)
      replace hz1 := Nat.lt_of_lt_of_le hz1 hb.size
      clear b0 b1 b2 b3 t0 t1 t2 r0 r1 r2
      obtain ⟨b0, b1, b2, b3⟩ := H3.out
      obtain ⟨t0, t1, t2⟩ := HT.out
      obtain ⟨r0, r1, r2⟩ := HR.out
      replace x0 := carry_cell x0 hb
      replace x1 := carry_cell x1 hb
      replace y0 := carry_cell y0 hb
      replace y1 := carry_cell y1 hb
      replace HQ := Lib.hid (HQ.out.kept hb)
      clear k0 k1 k2
      obtain ⟨k0, k1, k2⟩ := HQ.out
      replace HOW := Lib.hid (HOW.out.frame fun k hk => hb.block k (by have := hk.2; omega))

      cases hk : kbo o x y with
      | true =>
        have HRR := Lib.hid (oriR_one HO.out (by rw [HS.out.1, HS.out.2]; exact hk))
        clear hk
        have f0 := ((HR.out.setNil (.string t.name)).setOne (.slice qp t.args.length qc)).1
        have f1 := ((HR.out.setNil (.string t.name)).setOne (.slice qp t.args.length qc)).2.1
        have HBB := Lib.hid HB.out
        go_wp2
        refine bodyPost_ret (v := .tuple #[.agg #[.string t.name, .slice qp t.args.length qc], .bool true, .bool true]) (by simp [results, Try.results41, go_sem, f0, f1]) rfl ?_
        refine ori_same (by omega) HR.out HOW.out (fun k h => ?_) HB.out HRR.out HO.out
        exact ⟨by have := h.1; omega, by have := h.2; omega⟩
      | false =>
        have HK := Lib.hid hk
        replace CK2 : Hid (∀ W, Below uD.heap.size uD W → Calls Try.prog 42 #[.agg #[.slice sa o.sy.length sc, .slice wa o.ws.length wc, .int .i64 o.va], .agg #[.string y.name, .slice p' y.args.length c'], .agg #[.string x.name, .slice p x.args.length c]] W (Ans (.bool (kbo o y x)) W)) := Lib.hid (fun W hW => CK2.out W (hb.trans (hW.mono hb.size)))
        clear hk hb CK
        go_wp2_with fail
        have hB0 : Below uD.heap.size uD uD.drew := (Below.refl _ _).drew
        go_region_held3 (fun w' => w'.cell? ⟨w.heap.size, 0, none⟩ = some (.slice sa o.sy.length sc) ∧ w'.cell? ⟨w.heap.size, 1, none⟩ = some (.slice wa o.ws.length wc) ∧ w'.cell? ⟨w.heap.size, 2, none⟩ = some (.int .i64 o.va) ∧ w'.cell? ⟨w.heap.size + 1, 0, none⟩ = some (.string t.name) ∧ w'.cell? ⟨w.heap.size + 1, 1, none⟩ = some (.slice (some ⟨b, off, none⟩) t.args.length ca) ∧ w'.cell? ⟨b, off, none⟩ = some (.string x.name) ∧ w'.cell? ⟨b, off + 1, none⟩ = some (.slice p x.args.length c) ∧ w'.cell? ⟨b, off + 2, none⟩ = some (.string y.name) ∧ w'.cell? ⟨b, off + 3, none⟩ = some (.slice p' y.args.length c') ∧ Below uD.heap.size uD w') (first | exact ⟨by assumption, by assumption, by assumption, by assumption, by assumption, by assumption, by assumption, by assumption, by assumption, by assumption⟩ | go_keep) (first | (go_at_call 42; refine (CK2.out _ (by assumption)).mono ?_; rintro e uE ⟨rfl, hb⟩; have qa0 : uE.cell? ⟨w.heap.size, 0, none⟩ = some (.slice sa o.sy.length sc) := carry_cell' hb (by assumption); have qa1 : uE.cell? ⟨w.heap.size, 1, none⟩ = some (.slice wa o.ws.length wc) := carry_cell' hb (by assumption); have qa2 : uE.cell? ⟨w.heap.size, 2, none⟩ = some (.int .i64 o.va) := carry_cell' hb (by assumption); have qa3 : uE.cell? ⟨w.heap.size + 1, 0, none⟩ = some (.string t.name) := carry_cell' hb (by assumption); have qa4 : uE.cell? ⟨w.heap.size + 1, 1, none⟩ = some (.slice (some ⟨b, off, none⟩) t.args.length ca) := carry_cell' hb (by assumption); have qa5 : uE.cell? ⟨b, off, none⟩ = some (.string x.name) := carry_cell' hb (by assumption); have qa6 : uE.cell? ⟨b, off + 1, none⟩ = some (.slice p x.args.length c) := carry_cell' hb (by assumption); have qa7 : uE.cell? ⟨b, off + 2, none⟩ = some (.string y.name) := carry_cell' hb (by assumption); have qa8 : uE.cell? ⟨b, off + 3, none⟩ = some (.slice p' y.args.length c') := carry_cell' hb (by assumption); have huE : Below uD.heap.size uD uE := carry_below (by assumption) (Nat.le_refl _) hb; have hbk := hb; clear hb))
        clear hB0 qa0 qa1 qa2 qa3 qa4 qa5 qa6 qa7 qa8
        have hb := huE
        clear huE hbk
        have hzE : uD.heap.size ≤ uE.heap.size := hb.size
        replace HB := Lib.hid (carry_below HB.out (Nat.le_refl _) hb)
        replace H3 := Lib.hid (H3.out.kept hb)
        replace HT := Lib.hid (HT.out.kept hb)
        replace HR := Lib.hid (HR.out.kept hb)
        replace hz1 := Nat.lt_of_lt_of_le hz1 hb.size
        clear b0 b1 b2 b3 t0 t1 t2 r0 r1 r2
        obtain ⟨b0, b1, b2, b3⟩ := H3.out
        obtain ⟨t0, t1, t2⟩ := HT.out
        obtain ⟨r0, r1, r2⟩ := HR.out
        replace x0 := carry_cell x0 hb
        replace x1 := carry_cell x1 hb
        replace y0 := carry_cell y0 hb
        replace y1 := carry_cell y1 hb
        replace HQ := Lib.hid (HQ.out.kept hb)
        clear k0 k1 k2
        obtain ⟨k0, k1, k2⟩ := HQ.out
        replace HOW := Lib.hid (HOW.out.frame fun k hk => hb.block k (by have := hk.2; omega))

        cases hk : kbo o y x with
        | true =>
          have HRR : Hid (o.oriR t = .node t.name [y, x] ∧ o.oriB t = true) := Lib.hid (by
            have h := oriR_rev HO.out (by rw [HS.out.1, HS.out.2]; exact hk)
            rw [HS.out.1, HS.out.2] at h
            exact h)
          clear hk
          obtain ⟨g, cg, px, qx, py, qy, Sx, Sy, hsl, hcg, hSg, ⟨g0, g1, g2, g3⟩, hfz, hox, hoy, hsx, hsy, hdis⟩ := HOW.out.two HXY.out
          injection hsl with e1 e2 e3
          subst e1 e3
          have hl2 : t.args.length = 2 := by rw [HXY.out]; rfl
          have HL2 := Lib.hid hl2
          have HOX := Lib.hid hox
          have HOY := Lib.hid hoy
          have HSX := Lib.hid hsx
          have HSY := Lib.hid hsy
          have HDI := Lib.hid hdis
          have CR := rev2_any uE g qc x.name y.name px py x.args.length y.args.length qx qy g0 g1 g2 g3 hfz
          rw [← hl2] at CR
          have HCR := Lib.hid CR
          have hgl := hSg.1
          have hgl2 := hSg.2
          have HR0 := HR
          clear CR hox hoy hsx hsy hdis hl2 hfz g0 g1 g2 g3
          go_wp2_with fail
          refine HCR.out.mono ?_
          rintro e uF ⟨⟨v, rfl⟩, hrev⟩
          have hRh := hrev.2.2.1
          have HRE := Lib.hid hrev
          replace HR : Hid (Two uF (w.heap.size + 1 + 1) _ _) := Lib.hid ⟨(World.cell?_of_block (a := ⟨w.heap.size + 1 + 1, 0, none⟩) (w := uE) (hRh (w.heap.size + 1 + 1) (by omega))).trans HR0.out.1, (World.cell?_of_block (a := ⟨w.heap.size + 1 + 1, 1, none⟩) (w := uE) (hRh (w.heap.size + 1 + 1) (by omega))).trans HR0.out.2.1, fun j => (World.frozen?_of_block (a := ⟨w.heap.size + 1 + 1, j, none⟩) (w := uE) (hRh (w.heap.size + 1 + 1) (by omega))).trans (HR0.out.2.2 j)⟩
          replace HQ : Hid (Two uF uC.heap.size (.string t.name) (.slice (some ⟨g, 0, none⟩) t.args.length qc)) := Lib.hid ⟨(World.cell?_of_block (a := ⟨uC.heap.size, 0, none⟩) (w := uE) (hRh uC.heap.size (by omega))).trans HQ.out.1, (World.cell?_of_block (a := ⟨uC.heap.size, 1, none⟩) (w := uE) (hRh uC.heap.size (by omega))).trans HQ.out.2.1, fun j => (World.frozen?_of_block (a := ⟨uC.heap.size, j, none⟩) (w := uE) (hRh uC.heap.size (by omega))).trans (HQ.out.2.2 j)⟩
          clear hrev hRh k0 k1 k2 r0 r1 r2
          obtain ⟨k0, k1, k2⟩ := HQ.out
          obtain ⟨r0, r1, r2⟩ := HR.out
          have f0 := ((HR.out.setNil (.string t.name)).setOne (.slice (some ⟨g, 0, none⟩) t.args.length qc)).1
          have f1 := ((HR.out.setNil (.string t.name)).setOne (.slice (some ⟨g, 0, none⟩) t.args.length qc)).2.1
          go_wp2
          refine bodyPost_ret (v := .tuple #[.agg #[.string t.name, .slice (some ⟨g, 0, none⟩) t.args.length qc], .bool true, .bool true]) (by simp [results, Try.results41, go_sem, f0, f1]) rfl ?_
          refine ori_rev (W := uE) (by omega) HR.out HOX.out HOY.out HDI.out (fun k hk => ?_) (fun k hk => ?_) hcg ⟨by omega, by omega⟩ HRE.out HB.out HL2.out HRR.out HO.out
          · have h1 := HSX.out k hk; have h2 := h1.1.1; have h3 := h1.1.2; exact ⟨by omega, by omega, h1.2⟩
          · have h1 := HSY.out k hk; have h2 := h1.1.1; have h3 := h1.1.2; exact ⟨by omega, by omega, h1.2⟩
        | false =>
          have HRR : Hid (o.oriR t = t ∧ o.oriB t = false) := Lib.hid (by
            have h := oriR_fwd HO.out (by rw [HS.out.1, HS.out.2]; exact hk)
            rw [HS.out.1, HS.out.2, HK.out] at h
            exact h)
          clear hk
          have f0 := ((HR.out.setNil (.string t.name)).setOne (.slice qp t.args.length qc)).1
          have f1 := ((HR.out.setNil (.string t.name)).setOne (.slice qp t.args.length qc)).2.1
          have HBB := Lib.hid HB.out
          go_wp2
          refine bodyPost_ret (v := .tuple #[.agg #[.string t.name, .slice qp t.args.length qc], .bool false, .bool true]) (by simp [results, Try.results41, go_sem, f0, f1]) rfl ?_
          refine ori_same (by omega) HR.out HOW.out (fun k h => ?_) HB.out HRR.out HO.out
          exact ⟨by have := h.1; omega, by have := h.2; omega⟩

end Go.Proofs.Ytohalpafmcobpaa
