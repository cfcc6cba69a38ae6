/- Several texts in one: each says what it proves. No condition but theirs. -/
import Derived.Test.YtohalpafmcobpaaKbG
import Derived.Test.YtohalpafmcobpaaOhG
import Derived.Test.YtohalpafmcobpaaOgT
/- Orienting an equation: the plain facts. The ordering is asymmetric, and both conditions on the equation are one. No condition. -/
namespace Go.Proofs.Ytohalpafmcobpaa
open Go.RowKit
set_option linter.unusedVariables false

theorem cmpR_flip (a b : Int) : cmpR b a = - cmpR a b := by
  unfold cmpR; split <;> split <;> (try split) <;> omega
theorem Od.root_flip (o : Od) (s t : Tm) : o.root t s = - o.root s t := by
  unfold Od.root
  by_cases h : rk o.sy s.name = rk o.sy t.name
  · rw [if_pos h, if_pos h.symm]; exact cmpR_flip _ _
  · rw [if_neg h, if_neg (fun e => h e.symm)]; exact cmpR_flip _ _

theorem kbo_asym (o : Od) : ∀ s : Tm, ∀ t : Tm, kbo o s t = true → kbo o t s = true → False := Tm.ind fun s ih t h1 h2 => by
  have b1 : bal s t = true := by
    cases h : bal s t with
    | true => rfl
    | false => rw [kbo_bal h] at h1; cases h1
  have b2 : bal t s = true := by
    cases h : bal t s with
    | true => rfl
    | false => rw [kbo_bal h] at h2; cases h2
  by_cases hw : o.wT s = o.wT t
  · cases hs : varB s.name with
    | true => rw [kbo_var b1 hw (.inl hs)] at h1; cases h1
    | false =>
      cases ht : varB t.name with
      | true => rw [kbo_var b1 hw (.inr ht)] at h1; cases h1
      | false =>
        have hf := o.root_flip s t
        by_cases hr : o.root s t = 0
        · have hr2 : o.root t s = 0 := by omega
          rw [kbo_args b1 hw hs ht hr] at h1
          rw [kbo_args b2 hw.symm ht hs hr2] at h2
          have hlen : s.args.length = t.args.length := o.root_len hr
          rcases fd_ways s.args t.args with ⟨_, hag⟩ | ⟨k, _, hk, hne, hbe⟩
          · rw [kboL_no o _ _ hag] at h1; cases h1
          · obtain ⟨x, hx⟩ : ∃ x, s.args[k]? = some x := ⟨_, List.getElem?_eq_getElem hk⟩
            obtain ⟨y, hy⟩ : ∃ y, t.args[k]? = some y := ⟨_, List.getElem?_eq_getElem (by omega)⟩
            have hxy : x ≠ y := fun e => hne (by rw [hx, hy, e])
            rw [kboL_at o _ _ k x y hx hy hxy hbe] at h1
            rw [kboL_at o _ _ k y x hy hx (fun e => hxy e.symm) (fun j hj => (hbe j hj).symm)] at h2
            exact ih x (mem_of_at hx) y h1 h2
        · rw [kbo_root b1 hw hs ht hr, decide_eq_true_iff] at h1
          rw [kbo_root b2 hw.symm ht hs (by omega), decide_eq_true_iff] at h2
          omega
  · rw [kbo_wt b1 hw, decide_eq_true_iff] at h1
    rw [kbo_wt b2 (fun e => hw e.symm), decide_eq_true_iff] at h2
    omega

/-- The equation is one that the ordering covers (the ordering is asked elsewhere). -/
def Od.eqOk (o : Od) (t : Tm) : Bool := isEqB t.name && (atomB t && t.args.all o.cov)

theorem eq_atom {t : Tm} (h : isEqB t.name = true) : anyB t = atomB t := by
  have h1 := isEq_not h
  have hg : goodB t = false := by
    cases e : goodB t with
    | false => rfl
    | true =>
      rcases goodB_nds e t (by rw [t.nds_eq]; exact List.mem_cons_self) with h | h
      · rw [h1.1] at h; cases h
      · rw [h1.2] at h; cases h
  unfold anyB; rw [hg]; rfl
theorem atom_args {t : Tm} (h : isEqB t.name = true) (ha : atomB t = true) : t.args.length = 2 ∧ fitsB t = true ∧ t.args.all Tm.nodesB = true := by
  unfold atomB at ha
  rw [if_pos h, Bool.and_eq_true, Bool.and_eq_true, decide_eq_true_iff] at ha
  exact ⟨ha.1, ha.2.1, ha.2.2⟩
theorem ndsL_var_sym : ∀ {l : List Tm}, l.all Tm.nodesB = true → ∀ s ∈ Tm.ndsL l, varB s.name = true ∨ symB s.name = true
  | [], _, s, hs => by simp [Tm.ndsL] at hs
  | t :: r, h, s, hs => by
    rw [List.all_cons, Bool.and_eq_true] at h
    have e : Tm.ndsL (t :: r) = t.nds ++ Tm.ndsL r := by simp [Tm.ndsL]
    rw [e, List.mem_append] at hs
    rcases hs with hs | hs
    · exact nodesB_nds t h.1 s hs
    · exact ndsL_var_sym h.2 s hs
theorem eq_cov (o : Od) {t : Tm} (h : isEqB t.name = true) (ha : atomB t = true) : o.covN t = t.args.all o.cov := by
  unfold Od.covN
  rw [t.nds_eq, List.all_cons]
  have h1 := isEq_not h
  have e : o.nodeP t = true := by unfold Od.nodeP; rw [h1.2]; rfl
  rw [e, Bool.true_and, ← Od.covL_all]
  exact nodes_cov (ndsL_var_sym (atom_args h ha).2.2)
theorem eqOk_eq (o : Od) (t : Tm) : (isEqB t.name && o.covP [t]) = (o.good && o.eqOk t) := by
  unfold Od.covP Od.eqOk
  cases h : isEqB t.name with
  | false => simp
  | true =>
    simp only [List.all_cons, List.all_nil, Bool.and_true, Bool.true_and]
    rw [eq_atom h]
    cases ha : atomB t with
    | false => simp
    | true => rw [eq_cov o h ha]
theorem eqOk_two {o : Od} {t : Tm} (h : o.eqOk t = true) : ∃ a b, t.args = [a, b] ∧ (goodB a = true ∧ o.cov a = true) ∧ (goodB b = true ∧ o.cov b = true) ∧ isEqB t.name = true ∧ atomB t = true := by
  unfold Od.eqOk at h
  rw [Bool.and_eq_true, Bool.and_eq_true] at h
  obtain ⟨h1, h2, h3⟩ := h
  obtain ⟨hl, hf, hn⟩ := atom_args h1 h2
  match ht : t.args, hl with
  | [a, b], _ =>
    rw [ht] at h3 hn
    simp only [List.all_cons, List.all_nil, Bool.and_true, Bool.and_eq_true] at h3 hn
    have hsz := t.sz_eq
    have hdp := t.dp_eq
    rw [ht] at hsz hdp
    simp only [sumL, maxL] at hsz hdp
    simp only [fitsB, Bool.and_eq_true, decide_eq_true_eq] at hf
    refine ⟨a, b, rfl, ⟨?_, h3.1⟩, ⟨?_, h3.2⟩, h1, h2⟩
    · simp only [goodB, fitsB, Bool.and_eq_true, decide_eq_true_eq]; exact ⟨⟨by omega, by omega⟩, hn.1⟩
    · simp only [goodB, fitsB, Bool.and_eq_true, decide_eq_true_eq]; exact ⟨⟨by omega, by omega⟩, hn.2⟩

/-- The sides of an equation, whatever it is. -/
def sideA (t : Tm) : Tm := t.args.getD 0 default
def sideB (t : Tm) : Tm := t.args.getD 1 default
theorem sides {t a b : Tm} (h : t.args = [a, b]) : sideA t = a ∧ sideB t = b := by unfold sideA sideB; rw [h]; exact ⟨rfl, rfl⟩

/-- What both functions answer. -/
def Od.oriOk (o : Od) (t : Tm) : Bool := o.good && o.eqOk t
def zeroT : Tm := .node ⟨#[]⟩ []
def Od.oriR (o : Od) (t : Tm) : Tm := if o.oriOk t then (if kbo o (sideB t) (sideA t) then .node t.name [sideB t, sideA t] else t) else zeroT
def Od.oriB (o : Od) (t : Tm) : Bool := o.oriOk t && (kbo o (sideB t) (sideA t) || kbo o (sideA t) (sideB t))
theorem oriR_no {o : Od} {t : Tm} (h : o.oriOk t = false) : o.oriR t = zeroT ∧ o.oriB t = false := by unfold Od.oriR Od.oriB; rw [h]; exact ⟨rfl, rfl⟩
theorem oriR_rev {o : Od} {t : Tm} (h : o.oriOk t = true) (k : kbo o (sideB t) (sideA t) = true) : o.oriR t = .node t.name [sideB t, sideA t] ∧ o.oriB t = true := by unfold Od.oriR Od.oriB; rw [h, k]; exact ⟨rfl, rfl⟩
theorem oriR_fwd {o : Od} {t : Tm} (h : o.oriOk t = true) (k : kbo o (sideB t) (sideA t) = false) : o.oriR t = t ∧ o.oriB t = kbo o (sideA t) (sideB t) := by unfold Od.oriR Od.oriB; rw [h, k]; exact ⟨rfl, by simp⟩
theorem oriR_one {o : Od} {t : Tm} (h : o.oriOk t = true) (k : kbo o (sideA t) (sideB t) = true) : o.oriR t = t ∧ o.oriB t = true := by
  have k2 : kbo o (sideB t) (sideA t) = false := by
    cases e : kbo o (sideB t) (sideA t) with
    | false => rfl
    | true => exact (kbo_asym o _ _ k e).elim
  have := oriR_fwd h k2
  rw [k] at this; exact this

theorem oriR_wt (o : Od) (t : Tm) (h : t.wt ≤ 1048576) : (o.oriR t).wt ≤ 1048576 := by
  cases ho : o.oriOk t with
  | false => rw [(oriR_no ho).1, Tm.wt_eq]; decide
  | true =>
    cases hk : kbo o (sideB t) (sideA t) with
    | false => rw [(oriR_fwd ho hk).1]; exact h
    | true =>
      have h2 : o.eqOk t = true := by unfold Od.oriOk at ho; rw [Bool.and_eq_true] at ho; exact ho.2
      obtain ⟨a, b, hab, _⟩ := eqOk_two h2
      obtain ⟨s1, s2⟩ := sides hab
      rw [(oriR_rev ho hk).1, s1, s2, Tm.wt_eq]
      have e := t.wt_eq
      rw [hab] at e
      show t.name.size + [b, a].length + sumL Tm.wt [b, a] ≤ 1048576
      simp only [sumL, List.length_cons, List.length_nil] at e ⊢
      omega

/-- The first equation whose first side is not greater, or -1. -/
def Od.fndOk (o : Od) (ts : List Tm) : Bool := o.good && (decide (ts.length ≤ 8) && ts.all o.eqOk)
def Od.decB (o : Od) (t : Tm) : Bool := kbo o (sideA t) (sideB t)

end Go.Proofs.Ytohalpafmcobpaa

/- The model's test of an equation, as a contract, for orderings and terms of at most 1048576 names' bytes and elements. -/
namespace Go.Proofs.Ytohalpafmcobpaa
open Go.RowKit
set_option linter.unusedVariables false

theorem takeNoE {P : Program} {md : Region.Mode} {ops : Array Oper} {Q : Exit → Act → World → Prop} {S : World → Prop} (i : Nat) {oi : Oper} {fuel : Nat} {listed : Array Bool} {a : Act} {w : World} (hi : ops[i]? = some oi)
    (hs : Region.noSelect ops = true) (hf : Region.free md ops listed i = true) (hr : (Region.ready md ops listed).contains i = true) (hw : Region.wanted oi (yielded ops a.tmps) = false)
    (hQ : ∀ c a w, Q (.panic c) (a.put oi.dst undef) w → Q (.panic c) a w) (hS : S w)
    (h : wpAnyH P md ops Q S fuel (listed.setIfInBounds i true) (a.put oi.dst undef) w) : wpAnyH P md ops Q S (fuel + 1) listed a w :=
  wpAnyH_take (i := i) hi hs hf hr hQ (Or.inr ⟨hw, rfl⟩) hS h
theorem takeYesE {P : Program} {md : Region.Mode} {ops : Array Oper} {Q : Exit → Act → World → Prop} {S : World → Prop} (i : Nat) {oi : Oper} {v : Value} {fuel : Nat} {listed : Array Bool} {a : Act} {w : World} (hi : ops[i]? = some oi)
    (hs : Region.noSelect ops = true) (hf : Region.free md ops listed i = true) (hr : (Region.ready md ops listed).contains i = true) (hw : Region.wanted oi (yielded ops a.tmps) = true)
    (hQ : ∀ c a w, Q (.panic c) (a.put oi.dst v) w → Q (.panic c) a w) (hS : S w) (hy : ∀ w, S w → (execOp a.eval oi).run P w = .ok (.value v) w)
    (h : wpAnyH P md ops Q S fuel (listed.setIfInBounds i true) (a.put oi.dst v) w) : wpAnyH P md ops Q S (fuel + 1) listed a w :=
  wpAnyH_take (i := i) hi hs hf hr hQ (Or.inl ⟨hw, hy⟩) hS h

theorem eqOk_n {o : Od} {t : Tm} (h : isEqB t.name = false) : o.eqOk t = false := by unfold Od.eqOk; rw [h]; rfl
theorem eqOk_a {o : Od} {t : Tm} (h : atomB t = false) : o.eqOk t = false := by unfold Od.eqOk; rw [h]; simp
theorem eqOk_c {o : Od} {t : Tm} (h : isEqB t.name = true) (h' : atomB t = true) {x y : Tm} (e : t.args = [x, y]) : o.eqOk t = (o.cov x && o.cov y) := by unfold Od.eqOk; rw [h, h', e]; simp

/-- The two terms of a list of two, in memory. -/
theorem two_at {w : World} {v : Value} {l : List Tm} {x y : Tm} (h : TmS w v l) (e : l = [x, y]) : ∃ b off c p q p' q', v = .slice (some ⟨b, off, none⟩) l.length c ∧
    (w.cell? ⟨b, off, none⟩ = some (.string x.name) ∧ w.cell? ⟨b, off + 1, none⟩ = some (.slice p x.args.length q) ∧ w.cell? ⟨b, off + 2, none⟩ = some (.string y.name) ∧ w.cell? ⟨b, off + 3, none⟩ = some (.slice p' y.args.length q')) ∧
    TmS w (.slice p x.args.length q) x.args ∧ TmS w (.slice p' y.args.length q') y.args := by
  rcases h.parts with ⟨a, c, rfl, h0⟩ | ⟨b, off, c, rfl, hp, hat⟩
  · rw [e] at h0; cases h0
  · obtain ⟨vx, x0, x1, x2⟩ := hat 0 x (by rw [e]; rfl)
    obtain ⟨vy, y0, y1, y2⟩ := hat 1 y (by rw [e]; rfl)
    obtain ⟨p, q, rfl⟩ := x2.is_slice
    obtain ⟨p', q', rfl⟩ := y2.is_slice
    simp only [Nat.zero_mul, Nat.add_zero, Nat.one_mul] at x0 x1 y0 y1
    exact ⟨b, off, c, p, q, p', q', rfl, ⟨x0, x1, y0, y1⟩, x2, y2⟩

set_option maxRecDepth 100000 in
set_option maxHeartbeats 8000000 in
theorem l6Eqn_any (o : Od) (ho : o.wt ≤ 1048576) (t : Tm) (w : World) (sv wv va : Value) (hv : OdV w sv wv o) (ht : TmS w va t.args) (hw : t.wt ≤ 1048576) :
    Calls Try.prog 36 #[.agg #[sv, wv, .int .i64 o.va], .agg #[.string t.name, va]] w (Ans (.bool (o.eqOk t)) w) := by
  obtain ⟨sa, sc, wa, wc, rfl, rfl⟩ := hv.open
  obtain ⟨pa, ca, rfl⟩ := ht.is_slice
  obtain ⟨w1, hw1⟩ : ∃ w1, (w.alloc (.cells #[.slice sa o.sy.length sc, .slice wa o.ws.length wc, .int .i64 o.va] 31)).alloc (.cells #[.string t.name, .slice pa t.args.length ca] 49) = w1 := ⟨_, rfl⟩
  have HB : Hid (Below w.heap.size w w1) := Lib.hid (by rw [← hw1]; exact ((Below.refl w.heap.size w).alloc (Nat.le_refl _) _).alloc (by simp) _)
  have H3 : Hid (OdB w1 w.heap.size (.slice sa o.sy.length sc) (.slice wa o.ws.length wc) o) := Lib.hid (by rw [← hw1]; exact (thr_new w _ _ _ _ _ rfl).alloc _)
  have HT : Hid (Two w1 (w.heap.size + 1) (.string t.name) (.slice pa t.args.length ca)) := Lib.hid (by rw [← hw1]; exact two_new _ _ _ 49 (w.heap.size + 1) (by simp))
  have CAT : Hid (∀ W, Below w1.heap.size w1 W → Calls Try.prog 78 #[.agg #[.string t.name, .slice pa t.args.length ca]] W (Ans (.bool (atomB t)) W)) := Lib.hid (fun W hW => l2Atom_any t W _ (ht.kept (HB.out.trans (hW.mono HB.out.size))) hw)
  cases hn : isEqB t.name with
  | false =>
    have HF := Lib.hid (eqOk_n (o := o) hn)
    have hq : (t.name.toList == [61]) = false := hn
    clear hn hv ht hw
    go_enter Try.func36, Try.ntmps36
    obtain ⟨b0, b1, b2, b3⟩ := H3.out
    obtain ⟨t0, t1, t2⟩ := HT.out
    go_wp2_with fail
    have hB0 : Below w1.heap.size w1 w1.drew := (Below.refl _ _).drew
    refine wp_region_held_drew (S := (fun w' => w'.cell? ⟨w.heap.size, 0, none⟩ = some (.slice sa o.sy.length sc) ∧ w'.cell? ⟨w.heap.size, 1, none⟩ = some (.slice wa o.ws.length wc) ∧ w'.cell? ⟨w.heap.size, 2, none⟩ = some (.int .i64 o.va) ∧ w'.cell? ⟨w.heap.size + 1, 0, none⟩ = some (.string t.name) ∧ w'.cell? ⟨w.heap.size + 1, 1, none⟩ = some (.slice pa t.args.length ca) ∧ Below w1.heap.size w1 w')) (by kernel_rfl) (by first | exact ⟨by assumption, by assumption, by assumption, by assumption, by assumption, by assumption⟩ | go_keep) (fun hHeld => ?_)
    refine takeYesE 0 (v := ?_) rfl (by kernel_rfl) (by kernel_rfl) (by kernel_rfl) (by rfl) (fun _ _ _ h => h) (by assumption) ?_ ?_; rotate_left; (intro w hSw; (try dsimp only at hSw); go_simp; try (with_reducible rfl))
    try simp only [Act.put, List.getElem_toArray, List.getElem_cons_zero, List.setIfInBounds_toArray, List.set_cons_zero, List.set_cons_succ]
    refine takeYesE 1 (v := ?_) rfl (by kernel_rfl) (by kernel_rfl) (by kernel_rfl) (by rfl) (fun _ _ _ h => h) (by assumption) ?_ ?_; rotate_left; (intro w hSw; (try dsimp only at hSw); go_simp; try (with_reducible rfl))
    try simp only [Act.put, List.getElem_toArray, List.getElem_cons_zero, List.getElem_cons_succ, List.setIfInBounds_toArray, List.set_cons_zero, List.set_cons_succ]
    refine takeYesE 2 (v := ?_) rfl (by kernel_rfl) (by kernel_rfl) (by kernel_rfl) (by rfl) (fun _ _ _ h => h) (by assumption) ?_ ?_; rotate_left; (intro w hSw; (try dsimp only at hSw); go_simp; try (with_reducible rfl))
    try simp only [Act.put, List.getElem_toArray, List.getElem_cons_zero, List.getElem_cons_succ, List.setIfInBounds_toArray, List.set_cons_zero, List.set_cons_succ]
    refine takeYesE 3 (v := ?_) rfl (by kernel_rfl) (by kernel_rfl) (by kernel_rfl) (by rfl) (fun _ _ _ h => h) (by assumption) ?_ ?_; rotate_left; (intro w hSw; (try dsimp only at hSw); go_simp; try (with_reducible rfl))
    try simp only [Act.put, List.getElem_toArray, List.getElem_cons_zero, List.getElem_cons_succ, List.setIfInBounds_toArray, List.set_cons_zero, List.set_cons_succ]
    refine takeNoE 4 rfl (by kernel_rfl) (by kernel_rfl) (by kernel_rfl) (by rfl) (fun _ _ _ h => h) (by assumption) ?_
    try simp only [Act.put, List.getElem_toArray, List.getElem_cons_zero, List.getElem_cons_succ, List.setIfInBounds_toArray, List.set_cons_zero, List.set_cons_succ]
    refine takeNoE 5 rfl (by kernel_rfl) (by kernel_rfl) (by kernel_rfl) (by rfl) (fun _ _ _ h => h) (by assumption) ?_
    try simp only [Act.put, List.getElem_toArray, List.getElem_cons_zero, List.getElem_cons_succ, List.setIfInBounds_toArray, List.set_cons_zero, List.set_cons_succ]
    refine takeYesE 6 (v := ?_) rfl (by kernel_rfl) (by kernel_rfl) (by kernel_rfl) (by rfl) (fun _ _ _ h => h) (by assumption) ?_ ?_; rotate_left; (intro w hSw; (try dsimp only at hSw); go_simp; try (with_reducible rfl))
    try simp only [Act.put, List.getElem_toArray, List.getElem_cons_zero, List.getElem_cons_succ, List.setIfInBounds_toArray, List.set_cons_zero, List.set_cons_succ]
    refine takeYesE 7 (v := ?_) rfl (by kernel_rfl) (by kernel_rfl) (by kernel_rfl) (by rfl) (fun _ _ _ h => h) (by assumption) ?_ ?_; rotate_left; (intro w hSw; (try dsimp only at hSw); go_simp; try (with_reducible rfl))
    try simp only [Act.put, List.getElem_toArray, List.getElem_cons_zero, List.getElem_cons_succ, List.setIfInBounds_toArray, List.set_cons_zero, List.set_cons_succ]
    refine takeNoE 8 rfl (by kernel_rfl) (by kernel_rfl) (by kernel_rfl) (by rfl) (fun _ _ _ h => h) (by assumption) ?_
    try simp only [Act.put, List.getElem_toArray, List.getElem_cons_zero, List.getElem_cons_succ, List.setIfInBounds_toArray, List.set_cons_zero, List.set_cons_succ]
    refine takeNoE 9 rfl (by kernel_rfl) (by kernel_rfl) (by kernel_rfl) (by rfl) (fun _ _ _ h => h) (by assumption) ?_
    try simp only [Act.put, List.getElem_toArray, List.getElem_cons_zero, List.getElem_cons_succ, List.setIfInBounds_toArray, List.set_cons_zero, List.set_cons_succ]
    refine takeNoE 10 rfl (by kernel_rfl) (by kernel_rfl) (by kernel_rfl) (by rfl) (fun _ _ _ h => h) (by assumption) ?_
    try simp only [Act.put, List.getElem_toArray, List.getElem_cons_zero, List.getElem_cons_succ, List.setIfInBounds_toArray, List.set_cons_zero, List.set_cons_succ]
    refine takeNoE 11 rfl (by kernel_rfl) (by kernel_rfl) (by kernel_rfl) (by rfl) (fun _ _ _ h => h) (by assumption) ?_
    try simp only [Act.put, List.getElem_toArray, List.getElem_cons_zero, List.getElem_cons_succ, List.setIfInBounds_toArray, List.set_cons_zero, List.set_cons_succ]
    refine takeNoE 12 rfl (by kernel_rfl) (by kernel_rfl) (by kernel_rfl) (by rfl) (fun _ _ _ h => h) (by assumption) ?_
    try simp only [Act.put, List.getElem_toArray, List.getElem_cons_zero, List.getElem_cons_succ, List.setIfInBounds_toArray, List.set_cons_zero, List.set_cons_succ]
    refine takeNoE 13 rfl (by kernel_rfl) (by kernel_rfl) (by kernel_rfl) (by rfl) (fun _ _ _ h => h) (by assumption) ?_
    try simp only [Act.put, List.getElem_toArray, List.getElem_cons_zero, List.getElem_cons_succ, List.setIfInBounds_toArray, List.set_cons_zero, List.set_cons_succ]
    refine takeYesE 14 (v := ?_) rfl (by kernel_rfl) (by kernel_rfl) (by kernel_rfl) (by rfl) (fun _ _ _ h => h) (by assumption) ?_ ?_; rotate_left; (intro w hSw; (try dsimp only at hSw); go_simp; try (with_reducible rfl))
    try simp only [Act.put, List.getElem_toArray, List.getElem_cons_zero, List.getElem_cons_succ, List.setIfInBounds_toArray, List.set_cons_zero, List.set_cons_succ]
    refine takeYesE 15 (v := ?_) rfl (by kernel_rfl) (by kernel_rfl) (by kernel_rfl) (by rfl) (fun _ _ _ h => h) (by assumption) ?_ ?_; rotate_left; (intro w hSw; (try dsimp only at hSw); go_simp; try (with_reducible rfl))
    try simp only [Act.put, List.getElem_toArray, List.getElem_cons_zero, List.getElem_cons_succ, List.setIfInBounds_toArray, List.set_cons_zero, List.set_cons_succ]
    refine takeNoE 16 rfl (by kernel_rfl) (by kernel_rfl) (by kernel_rfl) (by rfl) (fun _ _ _ h => h) (by assumption) ?_
    try simp only [Act.put, List.getElem_toArray, List.getElem_cons_zero, List.getElem_cons_succ, List.setIfInBounds_toArray, List.set_cons_zero, List.set_cons_succ]
    refine takeNoE 17 rfl (by kernel_rfl) (by kernel_rfl) (by kernel_rfl) (by rfl) (fun _ _ _ h => h) (by assumption) ?_
    try simp only [Act.put, List.getElem_toArray, List.getElem_cons_zero, List.getElem_cons_succ, List.setIfInBounds_toArray, List.set_cons_zero, List.set_cons_succ]
    refine takeNoE 18 rfl (by kernel_rfl) (by kernel_rfl) (by kernel_rfl) (by rfl) (fun _ _ _ h => h) (by assumption) ?_
    try simp only [Act.put, List.getElem_toArray, List.getElem_cons_zero, List.getElem_cons_succ, List.setIfInBounds_toArray, List.set_cons_zero, List.set_cons_succ]
    refine takeNoE 19 rfl (by kernel_rfl) (by kernel_rfl) (by kernel_rfl) (by rfl) (fun _ _ _ h => h) (by assumption) ?_
    try simp only [Act.put, List.getElem_toArray, List.getElem_cons_zero, List.getElem_cons_succ, List.setIfInBounds_toArray, List.set_cons_zero, List.set_cons_succ]
    refine takeNoE 20 rfl (by kernel_rfl) (by kernel_rfl) (by kernel_rfl) (by rfl) (fun _ _ _ h => h) (by assumption) ?_
    try simp only [Act.put, List.getElem_toArray, List.getElem_cons_zero, List.getElem_cons_succ, List.setIfInBounds_toArray, List.set_cons_zero, List.set_cons_succ]
    refine takeNoE 21 rfl (by kernel_rfl) (by kernel_rfl) (by kernel_rfl) (by rfl) (fun _ _ _ h => h) (by assumption) ?_
    try simp only [Act.put, List.getElem_toArray, List.getElem_cons_zero, List.getElem_cons_succ, List.setIfInBounds_toArray, List.set_cons_zero, List.set_cons_succ]
    refine takeYesE 22 (v := ?_) rfl (by kernel_rfl) (by kernel_rfl) (by kernel_rfl) (by rfl) (fun _ _ _ h => h) (by assumption) ?_ ?_; rotate_left; (intro w hSw; (try dsimp only at hSw); go_simp; try (with_reducible rfl))
    try simp only [Act.put, List.getElem_toArray, List.getElem_cons_zero, List.getElem_cons_succ, List.setIfInBounds_toArray, List.set_cons_zero, List.set_cons_succ]
    refine takeYesE 23 (v := ?_) rfl (by kernel_rfl) (by kernel_rfl) (by kernel_rfl) (by rfl) (fun _ _ _ h => h) (by assumption) ?_ ?_; rotate_left; (intro w hSw; (try dsimp only at hSw); go_simp; try (with_reducible rfl))
    try simp only [Act.put, List.getElem_toArray, List.getElem_cons_zero, List.getElem_cons_succ, List.setIfInBounds_toArray, List.set_cons_zero, List.set_cons_succ]
    refine wpAnyH_done (by kernel_rfl) ?_ _
    have HZ : Hid (Below w.heap.size w w1.drew) := Lib.hid (carry_below HB.out (Nat.le_refl _) (by assumption))
    go_wp2
    go_ret
    exact ⟨ret_bool HF.out.symm, HZ.out⟩
  | true =>
    have hq : (t.name.toList == [61]) = true := hn
    cases ha : atomB t with
    | false =>
      rw [ha] at CAT
      have HF := Lib.hid (eqOk_a (o := o) ha)
      clear hn ha hv ht hw
      go_enter Try.func36, Try.ntmps36
      obtain ⟨b0, b1, b2, b3⟩ := H3.out
      obtain ⟨t0, t1, t2⟩ := HT.out
      go_wp2_with fail
      have hB0 : Below w1.heap.size w1 w1.drew := (Below.refl _ _).drew
      refine wp_region_held_drew (S := (fun w' => w'.cell? ⟨w.heap.size, 0, none⟩ = some (.slice sa o.sy.length sc) ∧ w'.cell? ⟨w.heap.size, 1, none⟩ = some (.slice wa o.ws.length wc) ∧ w'.cell? ⟨w.heap.size, 2, none⟩ = some (.int .i64 o.va) ∧ w'.cell? ⟨w.heap.size + 1, 0, none⟩ = some (.string t.name) ∧ w'.cell? ⟨w.heap.size + 1, 1, none⟩ = some (.slice pa t.args.length ca) ∧ Below w1.heap.size w1 w')) (by kernel_rfl) (by first | exact ⟨by assumption, by assumption, by assumption, by assumption, by assumption, by assumption⟩ | go_keep) (fun hHeld => ?_)
      refine takeYesE 0 (v := ?_) rfl (by kernel_rfl) (by kernel_rfl) (by kernel_rfl) (by rfl) (fun _ _ _ h => h) (by assumption) ?_ ?_; rotate_left; (intro w hSw; (try dsimp only at hSw); go_simp; try (with_reducible rfl))
      try simp only [Act.put, List.getElem_toArray, List.getElem_cons_zero, List.setIfInBounds_toArray, List.set_cons_zero, List.set_cons_succ]
      refine takeYesE 1 (v := ?_) rfl (by kernel_rfl) (by kernel_rfl) (by kernel_rfl) (by rfl) (fun _ _ _ h => h) (by assumption) ?_ ?_; rotate_left; (intro w hSw; (try dsimp only at hSw); go_simp; try (with_reducible rfl))
      try simp only [Act.put, List.getElem_toArray, List.getElem_cons_zero, List.getElem_cons_succ, List.setIfInBounds_toArray, List.set_cons_zero, List.set_cons_succ]
      refine takeYesE 2 (v := ?_) rfl (by kernel_rfl) (by kernel_rfl) (by kernel_rfl) (by rfl) (fun _ _ _ h => h) (by assumption) ?_ ?_; rotate_left; (intro w hSw; (try dsimp only at hSw); go_simp; try (with_reducible rfl))
      try simp only [Act.put, List.getElem_toArray, List.getElem_cons_zero, List.getElem_cons_succ, List.setIfInBounds_toArray, List.set_cons_zero, List.set_cons_succ]
      refine takeYesE 3 (v := ?_) rfl (by kernel_rfl) (by kernel_rfl) (by kernel_rfl) (by rfl) (fun _ _ _ h => h) (by assumption) ?_ ?_; rotate_left; (intro w hSw; (try dsimp only at hSw); go_simp; try (with_reducible rfl))
      try simp only [Act.put, List.getElem_toArray, List.getElem_cons_zero, List.getElem_cons_succ, List.setIfInBounds_toArray, List.set_cons_zero, List.set_cons_succ]
      refine takeYesE 4 (v := ?_) rfl (by kernel_rfl) (by kernel_rfl) (by kernel_rfl) (by rfl) (fun _ _ _ h => h) (by assumption) ?_ ?_; rotate_left; (intro w hSw; (try dsimp only at hSw); go_simp; try (with_reducible rfl))
      try simp only [Act.put, List.getElem_toArray, List.getElem_cons_zero, List.getElem_cons_succ, List.setIfInBounds_toArray, List.set_cons_zero, List.set_cons_succ]
      refine wpAnyH_ready (rs := [5]) (by kernel_rfl) (by simp) ?_
      refine AllReadyH.cons rfl (fun K hK => ?_) AllReadyH.nil
      go_simp
      (go_at_call 78; refine (CAT.out _ (by assumption)).mono ?_; rintro e uA ⟨rfl, hb⟩; have qz5_0 : uA.cell? ⟨w.heap.size, 0, none⟩ = some (.slice sa o.sy.length sc) := carry_cell' hb (by assumption); have qz5_1 : uA.cell? ⟨w.heap.size, 1, none⟩ = some (.slice wa o.ws.length wc) := carry_cell' hb (by assumption); have qz5_2 : uA.cell? ⟨w.heap.size, 2, none⟩ = some (.int .i64 o.va) := carry_cell' hb (by assumption); have qz5_3 : uA.cell? ⟨w.heap.size + 1, 0, none⟩ = some (.string t.name) := carry_cell' hb (by assumption); have qz5_4 : uA.cell? ⟨w.heap.size + 1, 1, none⟩ = some (.slice pa t.args.length ca) := carry_cell' hb (by assumption); have huA : Below w1.heap.size w1 uA := carry_below (by assumption) (Nat.le_refl _) hb; clear hb; go_wp2_with fail)
      refine hK.out _ _ (by first | exact ⟨by assumption, by assumption, by assumption, by assumption, by assumption, by assumption⟩ | go_keep) (fun hHeld => ?_)
      clear hK K
      try simp only [Act.put, List.getElem_toArray, List.getElem_cons_zero, List.getElem_cons_succ, List.setIfInBounds_toArray, List.set_cons_zero, List.set_cons_succ]
      refine takeYesE 6 (v := ?_) rfl (by kernel_rfl) (by kernel_rfl) (by kernel_rfl) (by rfl) (fun _ _ _ h => h) (by assumption) ?_ ?_; rotate_left; (intro w hSw; (try dsimp only at hSw); go_simp; try (with_reducible rfl))
      try simp only [Act.put, List.getElem_toArray, List.getElem_cons_zero, List.getElem_cons_succ, List.setIfInBounds_toArray, List.set_cons_zero, List.set_cons_succ]
      refine takeYesE 7 (v := ?_) rfl (by kernel_rfl) (by kernel_rfl) (by kernel_rfl) (by rfl) (fun _ _ _ h => h) (by assumption) ?_ ?_; rotate_left; (intro w hSw; (try dsimp only at hSw); go_simp; try (with_reducible rfl))
      try simp only [Act.put, List.getElem_toArray, List.getElem_cons_zero, List.getElem_cons_succ, List.setIfInBounds_toArray, List.set_cons_zero, List.set_cons_succ]
      refine takeNoE 8 rfl (by kernel_rfl) (by kernel_rfl) (by kernel_rfl) (by rfl) (fun _ _ _ h => h) (by assumption) ?_
      try simp only [Act.put, List.getElem_toArray, List.getElem_cons_zero, List.getElem_cons_succ, List.setIfInBounds_toArray, List.set_cons_zero, List.set_cons_succ]
      refine takeNoE 9 rfl (by kernel_rfl) (by kernel_rfl) (by kernel_rfl) (by rfl) (fun _ _ _ h => h) (by assumption) ?_
      try simp only [Act.put, List.getElem_toArray, List.getElem_cons_zero, List.getElem_cons_succ, List.setIfInBounds_toArray, List.set_cons_zero, List.set_cons_succ]
      refine takeNoE 10 rfl (by kernel_rfl) (by kernel_rfl) (by kernel_rfl) (by rfl) (fun _ _ _ h => h) (by assumption) ?_
      try simp only [Act.put, List.getElem_toArray, List.getElem_cons_zero, List.getElem_cons_succ, List.setIfInBounds_toArray, List.set_cons_zero, List.set_cons_succ]
      refine takeNoE 11 rfl (by kernel_rfl) (by kernel_rfl) (by kernel_rfl) (by rfl) (fun _ _ _ h => h) (by assumption) ?_
      try simp only [Act.put, List.getElem_toArray, List.getElem_cons_zero, List.getElem_cons_succ, List.setIfInBounds_toArray, List.set_cons_zero, List.set_cons_succ]
      refine takeNoE 12 rfl (by kernel_rfl) (by kernel_rfl) (by kernel_rfl) (by rfl) (fun _ _ _ h => h) (by assumption) ?_
      try simp only [Act.put, List.getElem_toArray, List.getElem_cons_zero, List.getElem_cons_succ, List.setIfInBounds_toArray, List.set_cons_zero, List.set_cons_succ]
      refine takeNoE 13 rfl (by kernel_rfl) (by kernel_rfl) (by kernel_rfl) (by rfl) (fun _ _ _ h => h) (by assumption) ?_
      try simp only [Act.put, List.getElem_toArray, List.getElem_cons_zero, List.getElem_cons_succ, List.setIfInBounds_toArray, List.set_cons_zero, List.set_cons_succ]
      refine takeYesE 14 (v := ?_) rfl (by kernel_rfl) (by kernel_rfl) (by kernel_rfl) (by rfl) (fun _ _ _ h => h) (by assumption) ?_ ?_; rotate_left; (intro w hSw; (try dsimp only at hSw); go_simp; try (with_reducible rfl))
      try simp only [Act.put, List.getElem_toArray, List.getElem_cons_zero, List.getElem_cons_succ, List.setIfInBounds_toArray, List.set_cons_zero, List.set_cons_succ]
      refine takeYesE 15 (v := ?_) rfl (by kernel_rfl) (by kernel_rfl) (by kernel_rfl) (by rfl) (fun _ _ _ h => h) (by assumption) ?_ ?_; rotate_left; (intro w hSw; (try dsimp only at hSw); go_simp; try (with_reducible rfl))
      try simp only [Act.put, List.getElem_toArray, List.getElem_cons_zero, List.getElem_cons_succ, List.setIfInBounds_toArray, List.set_cons_zero, List.set_cons_succ]
      refine takeNoE 16 rfl (by kernel_rfl) (by kernel_rfl) (by kernel_rfl) (by rfl) (fun _ _ _ h => h) (by assumption) ?_
      try simp only [Act.put, List.getElem_toArray, List.getElem_cons_zero, List.getElem_cons_succ, List.setIfInBounds_toArray, List.set_cons_zero, List.set_cons_succ]
      refine takeNoE 17 rfl (by kernel_rfl) (by kernel_rfl) (by kernel_rfl) (by rfl) (fun _ _ _ h => h) (by assumption) ?_
      try simp only [Act.put, List.getElem_toArray, List.getElem_cons_zero, List.getElem_cons_succ, List.setIfInBounds_toArray, List.set_cons_zero, List.set_cons_succ]
      refine takeNoE 18 rfl (by kernel_rfl) (by kernel_rfl) (by kernel_rfl) (by rfl) (fun _ _ _ h => h) (by assumption) ?_
      try simp only [Act.put, List.getElem_toArray, List.getElem_cons_zero, List.getElem_cons_succ, List.setIfInBounds_toArray, List.set_cons_zero, List.set_cons_succ]
      refine takeNoE 19 rfl (by kernel_rfl) (by kernel_rfl) (by kernel_rfl) (by rfl) (fun _ _ _ h => h) (by assumption) ?_
      try simp only [Act.put, List.getElem_toArray, List.getElem_cons_zero, List.getElem_cons_succ, List.setIfInBounds_toArray, List.set_cons_zero, List.set_cons_succ]
      refine takeNoE 20 rfl (by kernel_rfl) (by kernel_rfl) (by kernel_rfl) (by rfl) (fun _ _ _ h => h) (by assumption) ?_
      try simp only [Act.put, List.getElem_toArray, List.getElem_cons_zero, List.getElem_cons_succ, List.setIfInBounds_toArray, List.set_cons_zero, List.set_cons_succ]
      refine takeNoE 21 rfl (by kernel_rfl) (by kernel_rfl) (by kernel_rfl) (by rfl) (fun _ _ _ h => h) (by assumption) ?_
      try simp only [Act.put, List.getElem_toArray, List.getElem_cons_zero, List.getElem_cons_succ, List.setIfInBounds_toArray, List.set_cons_zero, List.set_cons_succ]
      refine takeYesE 22 (v := ?_) rfl (by kernel_rfl) (by kernel_rfl) (by kernel_rfl) (by rfl) (fun _ _ _ h => h) (by assumption) ?_ ?_; rotate_left; (intro w hSw; (try dsimp only at hSw); go_simp; try (with_reducible rfl))
      try simp only [Act.put, List.getElem_toArray, List.getElem_cons_zero, List.getElem_cons_succ, List.setIfInBounds_toArray, List.set_cons_zero, List.set_cons_succ]
      refine takeYesE 23 (v := ?_) rfl (by kernel_rfl) (by kernel_rfl) (by kernel_rfl) (by rfl) (fun _ _ _ h => h) (by assumption) ?_ ?_; rotate_left; (intro w hSw; (try dsimp only at hSw); go_simp; try (with_reducible rfl))
      try simp only [Act.put, List.getElem_toArray, List.getElem_cons_zero, List.getElem_cons_succ, List.setIfInBounds_toArray, List.set_cons_zero, List.set_cons_succ]
      refine wpAnyH_done (by kernel_rfl) ?_ _
      have HZ : Hid (Below w.heap.size w uA) := Lib.hid (carry_below HB.out (Nat.le_refl _) (by assumption))
      go_wp2
      go_ret
      exact ⟨ret_bool HF.out.symm, HZ.out⟩
    | true =>
      rw [ha] at CAT
      have hl2 := (atom_args hn ha).1
      obtain ⟨x, y, hxy⟩ : ∃ x y, t.args = [x, y] := by
        match h : t.args, hl2 with
        | [x, y], _ => exact ⟨x, y, rfl⟩
      obtain ⟨b, off, c0, p, c, p', c', hsl, ⟨x0, x1, y0, y1⟩, hx, hy⟩ := two_at ht hxy
      injection hsl with e1 e2 e3
      subst e1 e3
      have hwx : x.wt ≤ 1048576 := Nat.le_trans (Tm.wt_arg (t := t) (by rw [hxy]; simp)) hw
      have hwy : y.wt ≤ 1048576 := Nat.le_trans (Tm.wt_arg (t := t) (by rw [hxy]; simp)) hw
      have CVX : Hid (∀ W, Below w1.heap.size w1 W → Calls Try.prog 79 #[.agg #[.slice sa o.sy.length sc, .slice wa o.ws.length wc, .int .i64 o.va], .agg #[.string x.name, .slice p x.args.length c]] W (Ans (.bool (o.cov x)) W)) := Lib.hid (fun W hW => l6Covers_any o ho x W _ _ _ (hv.kept (HB.out.trans (hW.mono HB.out.size))) (hx.kept (HB.out.trans (hW.mono HB.out.size))) hwx)
      have CVY : Hid (∀ W, Below w1.heap.size w1 W → Calls Try.prog 79 #[.agg #[.slice sa o.sy.length sc, .slice wa o.ws.length wc, .int .i64 o.va], .agg #[.string y.name, .slice p' y.args.length c']] W (Ans (.bool (o.cov y)) W)) := Lib.hid (fun W hW => l6Covers_any o ho y W _ _ _ (hv.kept (HB.out.trans (hW.mono HB.out.size))) (hy.kept (HB.out.trans (hW.mono HB.out.size))) hwy)
      have HC := Lib.hid (eqOk_c (o := o) hn ha hxy)
      have l0 : 0 < t.args.length := by omega
      have l1 : 1 < t.args.length := by omega
      have l1i : (1 : Int) < (t.args.length : Int) := by omega
      have l1t : decide ((1 : Int) < (t.args.length : Int)) = true := by simp; omega
      replace x0 := carry_cell x0 HB.out
      replace x1 := carry_cell x1 HB.out
      replace y0 := carry_cell y0 HB.out
      replace y1 := carry_cell y1 HB.out
      clear hn ha hv ht hw hx hy hl2 hxy
      cases hc : o.cov x with
      | false =>
        rw [hc] at CVX
        have HF : Hid (o.eqOk t = false) := Lib.hid (by rw [HC.out, hc]; rfl)
        clear hc
        go_enter Try.func36, Try.ntmps36
        obtain ⟨b0, b1, b2, b3⟩ := H3.out
        obtain ⟨t0, t1, t2⟩ := HT.out
        go_wp2_with fail
        have hB0 : Below w1.heap.size w1 w1.drew := (Below.refl _ _).drew
        refine wp_region_held_drew (S := (fun w' => w'.cell? ⟨w.heap.size, 0, none⟩ = some (.slice sa o.sy.length sc) ∧ w'.cell? ⟨w.heap.size, 1, none⟩ = some (.slice wa o.ws.length wc) ∧ w'.cell? ⟨w.heap.size, 2, none⟩ = some (.int .i64 o.va) ∧ w'.cell? ⟨w.heap.size + 1, 0, none⟩ = some (.string t.name) ∧ w'.cell? ⟨w.heap.size + 1, 1, none⟩ = some (.slice (some ⟨b, off, none⟩) t.args.length ca) ∧ w'.cell? ⟨b, off, none⟩ = some (.string x.name) ∧ w'.cell? ⟨b, off + 1, none⟩ = some (.slice p x.args.length c) ∧ w'.cell? ⟨b, off + 2, none⟩ = some (.string y.name) ∧ w'.cell? ⟨b, off + 3, none⟩ = some (.slice p' y.args.length c') ∧ Below w1.heap.size w1 w')) (by kernel_rfl) (by first | exact ⟨by assumption, by assumption, by assumption, by assumption, by assumption, by assumption, by assumption, by assumption, by assumption, by assumption⟩ | go_keep) (fun hHeld => ?_)
        refine takeYesE 0 (v := ?_) rfl (by kernel_rfl) (by kernel_rfl) (by kernel_rfl) (by rfl) (fun _ _ _ h => h) (by assumption) ?_ ?_; rotate_left; (intro w hSw; (try dsimp only at hSw); go_simp; try (with_reducible rfl))
        try simp only [Act.put, List.getElem_toArray, List.getElem_cons_zero, List.setIfInBounds_toArray, List.set_cons_zero, List.set_cons_succ]
        refine takeYesE 1 (v := ?_) rfl (by kernel_rfl) (by kernel_rfl) (by kernel_rfl) (by rfl) (fun _ _ _ h => h) (by assumption) ?_ ?_; rotate_left; (intro w hSw; (try dsimp only at hSw); go_simp; try (with_reducible rfl))
        try simp only [Act.put, List.getElem_toArray, List.getElem_cons_zero, List.getElem_cons_succ, List.setIfInBounds_toArray, List.set_cons_zero, List.set_cons_succ]
        refine takeYesE 2 (v := ?_) rfl (by kernel_rfl) (by kernel_rfl) (by kernel_rfl) (by rfl) (fun _ _ _ h => h) (by assumption) ?_ ?_; rotate_left; (intro w hSw; (try dsimp only at hSw); go_simp; try (with_reducible rfl))
        try simp only [Act.put, List.getElem_toArray, List.getElem_cons_zero, List.getElem_cons_succ, List.setIfInBounds_toArray, List.set_cons_zero, List.set_cons_succ]
        refine takeYesE 3 (v := ?_) rfl (by kernel_rfl) (by kernel_rfl) (by kernel_rfl) (by rfl) (fun _ _ _ h => h) (by assumption) ?_ ?_; rotate_left; (intro w hSw; (try dsimp only at hSw); go_simp; try (with_reducible rfl))
        try simp only [Act.put, List.getElem_toArray, List.getElem_cons_zero, List.getElem_cons_succ, List.setIfInBounds_toArray, List.set_cons_zero, List.set_cons_succ]
        refine takeYesE 4 (v := ?_) rfl (by kernel_rfl) (by kernel_rfl) (by kernel_rfl) (by rfl) (fun _ _ _ h => h) (by assumption) ?_ ?_; rotate_left; (intro w hSw; (try dsimp only at hSw); go_simp; try (with_reducible rfl))
        try simp only [Act.put, List.getElem_toArray, List.getElem_cons_zero, List.getElem_cons_succ, List.setIfInBounds_toArray, List.set_cons_zero, List.set_cons_succ]
        refine wpAnyH_ready (rs := [5]) (by kernel_rfl) (by simp) ?_
        refine AllReadyH.cons rfl (fun K hK => ?_) AllReadyH.nil
        go_simp
        (go_at_call 78; refine (CAT.out _ (by assumption)).mono ?_; rintro e uA ⟨rfl, hb⟩; have qz5_0 : uA.cell? ⟨w.heap.size, 0, none⟩ = some (.slice sa o.sy.length sc) := carry_cell' hb (by assumption); have qz5_1 : uA.cell? ⟨w.heap.size, 1, none⟩ = some (.slice wa o.ws.length wc) := carry_cell' hb (by assumption); have qz5_2 : uA.cell? ⟨w.heap.size, 2, none⟩ = some (.int .i64 o.va) := carry_cell' hb (by assumption); have qz5_3 : uA.cell? ⟨w.heap.size + 1, 0, none⟩ = some (.string t.name) := carry_cell' hb (by assumption); have qz5_4 : uA.cell? ⟨w.heap.size + 1, 1, none⟩ = some (.slice (some ⟨b, off, none⟩) t.args.length ca) := carry_cell' hb (by assumption); have qz5_5 : uA.cell? ⟨b, off, none⟩ = some (.string x.name) := carry_cell' hb (by assumption); have qz5_6 : uA.cell? ⟨b, off + 1, none⟩ = some (.slice p x.args.length c) := carry_cell' hb (by assumption); have qz5_7 : uA.cell? ⟨b, off + 2, none⟩ = some (.string y.name) := carry_cell' hb (by assumption); have qz5_8 : uA.cell? ⟨b, off + 3, none⟩ = some (.slice p' y.args.length c') := carry_cell' hb (by assumption); have huA : Below w1.heap.size w1 uA := carry_below (by assumption) (Nat.le_refl _) hb; clear hb; go_wp2_with fail)
        refine hK.out _ _ (by first | exact ⟨by assumption, by assumption, by assumption, by assumption, by assumption, by assumption, by assumption, by assumption, by assumption, by assumption⟩ | go_keep) (fun hHeld => ?_)
        clear hK K
        try simp only [Act.put, List.getElem_toArray, List.getElem_cons_zero, List.getElem_cons_succ, List.setIfInBounds_toArray, List.set_cons_zero, List.set_cons_succ]
        refine takeYesE 6 (v := ?_) rfl (by kernel_rfl) (by kernel_rfl) (by kernel_rfl) (by rfl) (fun _ _ _ h => h) (by assumption) ?_ ?_; rotate_left; (intro w hSw; (try dsimp only at hSw); go_simp; try (with_reducible rfl))
        try simp only [Act.put, List.getElem_toArray, List.getElem_cons_zero, List.getElem_cons_succ, List.setIfInBounds_toArray, List.set_cons_zero, List.set_cons_succ]
        refine takeYesE 7 (v := ?_) rfl (by kernel_rfl) (by kernel_rfl) (by kernel_rfl) (by rfl) (fun _ _ _ h => h) (by assumption) ?_ ?_; rotate_left; (intro w hSw; (try dsimp only at hSw); go_simp; try (with_reducible rfl))
        try simp only [Act.put, List.getElem_toArray, List.getElem_cons_zero, List.getElem_cons_succ, List.setIfInBounds_toArray, List.set_cons_zero, List.set_cons_succ]
        refine takeYesE 8 (v := ?_) rfl (by kernel_rfl) (by kernel_rfl) (by kernel_rfl) (by rfl) (fun _ _ _ h => h) (by assumption) ?_ ?_; rotate_left; (intro w hSw; (try dsimp only at hSw); go_simp; try (with_reducible rfl))
        try simp only [Act.put, List.getElem_toArray, List.getElem_cons_zero, List.getElem_cons_succ, List.setIfInBounds_toArray, List.set_cons_zero, List.set_cons_succ]
        refine takeYesE 9 (v := ?_) rfl (by kernel_rfl) (by kernel_rfl) (by kernel_rfl) (by rfl) (fun _ _ _ h => h) (by assumption) ?_ ?_; rotate_left; (intro w hSw; (try dsimp only at hSw); go_simp; try (with_reducible rfl))
        try simp only [Act.put, List.getElem_toArray, List.getElem_cons_zero, List.getElem_cons_succ, List.setIfInBounds_toArray, List.set_cons_zero, List.set_cons_succ]
        refine takeYesE 10 (v := ?_) rfl (by kernel_rfl) (by kernel_rfl) (by kernel_rfl) (by rfl) (fun _ _ _ h => h) (by assumption) ?_ ?_; rotate_left; (intro w hSw; (try dsimp only at hSw); go_simp; try (with_reducible rfl))
        try simp only [Act.put, List.getElem_toArray, List.getElem_cons_zero, List.getElem_cons_succ, List.setIfInBounds_toArray, List.set_cons_zero, List.set_cons_succ]
        refine takeYesE 11 (v := ?_) rfl (by kernel_rfl) (by kernel_rfl) (by kernel_rfl) (by rfl) (fun _ _ _ h => h) (by assumption) ?_ ?_; rotate_left; (intro w hSw; (try dsimp only at hSw); go_simp; try (with_reducible rfl))
        try simp only [Act.put, List.getElem_toArray, List.getElem_cons_zero, List.getElem_cons_succ, List.setIfInBounds_toArray, List.set_cons_zero, List.set_cons_succ]
        refine takeYesE 12 (v := ?_) rfl (by kernel_rfl) (by kernel_rfl) (by kernel_rfl) (by rfl) (fun _ _ _ h => h) (by assumption) ?_ ?_; rotate_left; (intro w hSw; (try dsimp only at hSw); go_simp; try (with_reducible rfl))
        try simp only [Act.put, List.getElem_toArray, List.getElem_cons_zero, List.getElem_cons_succ, List.setIfInBounds_toArray, List.set_cons_zero, List.set_cons_succ]
        refine wpAnyH_ready (rs := [13]) (by kernel_rfl) (by simp) ?_
        refine AllReadyH.cons rfl (fun K hK => ?_) AllReadyH.nil
        go_simp
        (go_at_call 79; refine (CVX.out _ (by assumption)).mono ?_; rintro e uX ⟨rfl, hb⟩; have qz13_0 : uX.cell? ⟨w.heap.size, 0, none⟩ = some (.slice sa o.sy.length sc) := carry_cell' hb (by assumption); have qz13_1 : uX.cell? ⟨w.heap.size, 1, none⟩ = some (.slice wa o.ws.length wc) := carry_cell' hb (by assumption); have qz13_2 : uX.cell? ⟨w.heap.size, 2, none⟩ = some (.int .i64 o.va) := carry_cell' hb (by assumption); have qz13_3 : uX.cell? ⟨w.heap.size + 1, 0, none⟩ = some (.string t.name) := carry_cell' hb (by assumption); have qz13_4 : uX.cell? ⟨w.heap.size + 1, 1, none⟩ = some (.slice (some ⟨b, off, none⟩) t.args.length ca) := carry_cell' hb (by assumption); have qz13_5 : uX.cell? ⟨b, off, none⟩ = some (.string x.name) := carry_cell' hb (by assumption); have qz13_6 : uX.cell? ⟨b, off + 1, none⟩ = some (.slice p x.args.length c) := carry_cell' hb (by assumption); have qz13_7 : uX.cell? ⟨b, off + 2, none⟩ = some (.string y.name) := carry_cell' hb (by assumption); have qz13_8 : uX.cell? ⟨b, off + 3, none⟩ = some (.slice p' y.args.length c') := carry_cell' hb (by assumption); have huX : Below w1.heap.size w1 uX := carry_below (by assumption) (Nat.le_refl _) hb; clear hb; go_wp2_with fail)
        refine hK.out _ _ (by first | exact ⟨by assumption, by assumption, by assumption, by assumption, by assumption, by assumption, by assumption, by assumption, by assumption, by assumption⟩ | go_keep) (fun hHeld => ?_)
        clear hK K
        try simp only [Act.put, List.getElem_toArray, List.getElem_cons_zero, List.getElem_cons_succ, List.setIfInBounds_toArray, List.set_cons_zero, List.set_cons_succ]
        refine takeYesE 14 (v := ?_) rfl (by kernel_rfl) (by kernel_rfl) (by kernel_rfl) (by rfl) (fun _ _ _ h => h) (by assumption) ?_ ?_; rotate_left; (intro w hSw; (try dsimp only at hSw); go_simp; try (with_reducible rfl))
        try simp only [Act.put, List.getElem_toArray, List.getElem_cons_zero, List.getElem_cons_succ, List.setIfInBounds_toArray, List.set_cons_zero, List.set_cons_succ]
        refine takeYesE 15 (v := ?_) rfl (by kernel_rfl) (by kernel_rfl) (by kernel_rfl) (by rfl) (fun _ _ _ h => h) (by assumption) ?_ ?_; rotate_left; (intro w hSw; (try dsimp only at hSw); go_simp; try (with_reducible rfl))
        try simp only [Act.put, List.getElem_toArray, List.getElem_cons_zero, List.getElem_cons_succ, List.setIfInBounds_toArray, List.set_cons_zero, List.set_cons_succ]
        refine takeNoE 16 rfl (by kernel_rfl) (by kernel_rfl) (by kernel_rfl) (by rfl) (fun _ _ _ h => h) (by assumption) ?_
        try simp only [Act.put, List.getElem_toArray, List.getElem_cons_zero, List.getElem_cons_succ, List.setIfInBounds_toArray, List.set_cons_zero, List.set_cons_succ]
        refine takeNoE 17 rfl (by kernel_rfl) (by kernel_rfl) (by kernel_rfl) (by rfl) (fun _ _ _ h => h) (by assumption) ?_
        try simp only [Act.put, List.getElem_toArray, List.getElem_cons_zero, List.getElem_cons_succ, List.setIfInBounds_toArray, List.set_cons_zero, List.set_cons_succ]
        refine takeNoE 18 rfl (by kernel_rfl) (by kernel_rfl) (by kernel_rfl) (by rfl) (fun _ _ _ h => h) (by assumption) ?_
        try simp only [Act.put, List.getElem_toArray, List.getElem_cons_zero, List.getElem_cons_succ, List.setIfInBounds_toArray, List.set_cons_zero, List.set_cons_succ]
        refine takeNoE 19 rfl (by kernel_rfl) (by kernel_rfl) (by kernel_rfl) (by rfl) (fun _ _ _ h => h) (by assumption) ?_
        try simp only [Act.put, List.getElem_toArray, List.getElem_cons_zero, List.getElem_cons_succ, List.setIfInBounds_toArray, List.set_cons_zero, List.set_cons_succ]
        refine takeNoE 20 rfl (by kernel_rfl) (by kernel_rfl) (by kernel_rfl) (by rfl) (fun _ _ _ h => h) (by assumption) ?_
        try simp only [Act.put, List.getElem_toArray, List.getElem_cons_zero, List.getElem_cons_succ, List.setIfInBounds_toArray, List.set_cons_zero, List.set_cons_succ]
        refine takeNoE 21 rfl (by kernel_rfl) (by kernel_rfl) (by kernel_rfl) (by rfl) (fun _ _ _ h => h) (by assumption) ?_
        try simp only [Act.put, List.getElem_toArray, List.getElem_cons_zero, List.getElem_cons_succ, List.setIfInBounds_toArray, List.set_cons_zero, List.set_cons_succ]
        refine takeYesE 22 (v := ?_) rfl (by kernel_rfl) (by kernel_rfl) (by kernel_rfl) (by rfl) (fun _ _ _ h => h) (by assumption) ?_ ?_; rotate_left; (intro w hSw; (try dsimp only at hSw); go_simp; try (with_reducible rfl))
        try simp only [Act.put, List.getElem_toArray, List.getElem_cons_zero, List.getElem_cons_succ, List.setIfInBounds_toArray, List.set_cons_zero, List.set_cons_succ]
        refine takeYesE 23 (v := ?_) rfl (by kernel_rfl) (by kernel_rfl) (by kernel_rfl) (by rfl) (fun _ _ _ h => h) (by assumption) ?_ ?_; rotate_left; (intro w hSw; (try dsimp only at hSw); go_simp; try (with_reducible rfl))
        try simp only [Act.put, List.getElem_toArray, List.getElem_cons_zero, List.getElem_cons_succ, List.setIfInBounds_toArray, List.set_cons_zero, List.set_cons_succ]
        refine wpAnyH_done (by kernel_rfl) ?_ _
        have HZ : Hid (Below w.heap.size w uX) := Lib.hid (carry_below HB.out (Nat.le_refl _) (by assumption))
        go_wp2
        go_ret
        exact ⟨ret_bool HF.out.symm, HZ.out⟩
      | true =>
        rw [hc] at CVX
        have HF : Hid (o.eqOk t = o.cov y) := Lib.hid (by rw [HC.out, hc, Bool.true_and])
        clear hc
        go_enter Try.func36, Try.ntmps36
        obtain ⟨b0, b1, b2, b3⟩ := H3.out
        obtain ⟨t0, t1, t2⟩ := HT.out
        go_wp2_with fail
        have hB0 : Below w1.heap.size w1 w1.drew := (Below.refl _ _).drew
        refine wp_region_held_drew (S := (fun w' => w'.cell? ⟨w.heap.size, 0, none⟩ = some (.slice sa o.sy.length sc) ∧ w'.cell? ⟨w.heap.size, 1, none⟩ = some (.slice wa o.ws.length wc) ∧ w'.cell? ⟨w.heap.size, 2, none⟩ = some (.int .i64 o.va) ∧ w'.cell? ⟨w.heap.size + 1, 0, none⟩ = some (.string t.name) ∧ w'.cell? ⟨w.heap.size + 1, 1, none⟩ = some (.slice (some ⟨b, off, none⟩) t.args.length ca) ∧ w'.cell? ⟨b, off, none⟩ = some (.string x.name) ∧ w'.cell? ⟨b, off + 1, none⟩ = some (.slice p x.args.length c) ∧ w'.cell? ⟨b, off + 2, none⟩ = some (.string y.name) ∧ w'.cell? ⟨b, off + 3, none⟩ = some (.slice p' y.args.length c') ∧ Below w1.heap.size w1 w')) (by kernel_rfl) (by first | exact ⟨by assumption, by assumption, by assumption, by assumption, by assumption, by assumption, by assumption, by assumption, by assumption, by assumption⟩ | go_keep) (fun hHeld => ?_)
        refine takeYesE 0 (v := ?_) rfl (by kernel_rfl) (by kernel_rfl) (by kernel_rfl) (by rfl) (fun _ _ _ h => h) (by assumption) ?_ ?_; rotate_left; (intro w hSw; (try dsimp only at hSw); go_simp; try (with_reducible rfl))
        try simp only [Act.put, List.getElem_toArray, List.getElem_cons_zero, List.setIfInBounds_toArray, List.set_cons_zero, List.set_cons_succ]
        refine takeYesE 1 (v := ?_) rfl (by kernel_rfl) (by kernel_rfl) (by kernel_rfl) (by rfl) (fun _ _ _ h => h) (by assumption) ?_ ?_; rotate_left; (intro w hSw; (try dsimp only at hSw); go_simp; try (with_reducible rfl))
        try simp only [Act.put, List.getElem_toArray, List.getElem_cons_zero, List.getElem_cons_succ, List.setIfInBounds_toArray, List.set_cons_zero, List.set_cons_succ]
        refine takeYesE 2 (v := ?_) rfl (by kernel_rfl) (by kernel_rfl) (by kernel_rfl) (by rfl) (fun _ _ _ h => h) (by assumption) ?_ ?_; rotate_left; (intro w hSw; (try dsimp only at hSw); go_simp; try (with_reducible rfl))
        try simp only [Act.put, List.getElem_toArray, List.getElem_cons_zero, List.getElem_cons_succ, List.setIfInBounds_toArray, List.set_cons_zero, List.set_cons_succ]
        refine takeYesE 3 (v := ?_) rfl (by kernel_rfl) (by kernel_rfl) (by kernel_rfl) (by rfl) (fun _ _ _ h => h) (by assumption) ?_ ?_; rotate_left; (intro w hSw; (try dsimp only at hSw); go_simp; try (with_reducible rfl))
        try simp only [Act.put, List.getElem_toArray, List.getElem_cons_zero, List.getElem_cons_succ, List.setIfInBounds_toArray, List.set_cons_zero, List.set_cons_succ]
        refine takeYesE 4 (v := ?_) rfl (by kernel_rfl) (by kernel_rfl) (by kernel_rfl) (by rfl) (fun _ _ _ h => h) (by assumption) ?_ ?_; rotate_left; (intro w hSw; (try dsimp only at hSw); go_simp; try (with_reducible rfl))
        try simp only [Act.put, List.getElem_toArray, List.getElem_cons_zero, List.getElem_cons_succ, List.setIfInBounds_toArray, List.set_cons_zero, List.set_cons_succ]
        refine wpAnyH_ready (rs := [5]) (by kernel_rfl) (by simp) ?_
        refine AllReadyH.cons rfl (fun K hK => ?_) AllReadyH.nil
        go_simp
        (go_at_call 78; refine (CAT.out _ (by assumption)).mono ?_; rintro e uA ⟨rfl, hb⟩; have qz5_0 : uA.cell? ⟨w.heap.size, 0, none⟩ = some (.slice sa o.sy.length sc) := carry_cell' hb (by assumption); have qz5_1 : uA.cell? ⟨w.heap.size, 1, none⟩ = some (.slice wa o.ws.length wc) := carry_cell' hb (by assumption); have qz5_2 : uA.cell? ⟨w.heap.size, 2, none⟩ = some (.int .i64 o.va) := carry_cell' hb (by assumption); have qz5_3 : uA.cell? ⟨w.heap.size + 1, 0, none⟩ = some (.string t.name) := carry_cell' hb (by assumption); have qz5_4 : uA.cell? ⟨w.heap.size + 1, 1, none⟩ = some (.slice (some ⟨b, off, none⟩) t.args.length ca) := carry_cell' hb (by assumption); have qz5_5 : uA.cell? ⟨b, off, none⟩ = some (.string x.name) := carry_cell' hb (by assumption); have qz5_6 : uA.cell? ⟨b, off + 1, none⟩ = some (.slice p x.args.length c) := carry_cell' hb (by assumption); have qz5_7 : uA.cell? ⟨b, off + 2, none⟩ = some (.string y.name) := carry_cell' hb (by assumption); have qz5_8 : uA.cell? ⟨b, off + 3, none⟩ = some (.slice p' y.args.length c') := carry_cell' hb (by assumption); have huA : Below w1.heap.size w1 uA := carry_below (by assumption) (Nat.le_refl _) hb; clear hb; go_wp2_with fail)
        refine hK.out _ _ (by first | exact ⟨by assumption, by assumption, by assumption, by assumption, by assumption, by assumption, by assumption, by assumption, by assumption, by assumption⟩ | go_keep) (fun hHeld => ?_)
        clear hK K
        try simp only [Act.put, List.getElem_toArray, List.getElem_cons_zero, List.getElem_cons_succ, List.setIfInBounds_toArray, List.set_cons_zero, List.set_cons_succ]
        refine takeYesE 6 (v := ?_) rfl (by kernel_rfl) (by kernel_rfl) (by kernel_rfl) (by rfl) (fun _ _ _ h => h) (by assumption) ?_ ?_; rotate_left; (intro w hSw; (try dsimp only at hSw); go_simp; try (with_reducible rfl))
        try simp only [Act.put, List.getElem_toArray, List.getElem_cons_zero, List.getElem_cons_succ, List.setIfInBounds_toArray, List.set_cons_zero, List.set_cons_succ]
        refine takeYesE 7 (v := ?_) rfl (by kernel_rfl) (by kernel_rfl) (by kernel_rfl) (by rfl) (fun _ _ _ h => h) (by assumption) ?_ ?_; rotate_left; (intro w hSw; (try dsimp only at hSw); go_simp; try (with_reducible rfl))
        try simp only [Act.put, List.getElem_toArray, List.getElem_cons_zero, List.getElem_cons_succ, List.setIfInBounds_toArray, List.set_cons_zero, List.set_cons_succ]
        refine takeYesE 8 (v := ?_) rfl (by kernel_rfl) (by kernel_rfl) (by kernel_rfl) (by rfl) (fun _ _ _ h => h) (by assumption) ?_ ?_; rotate_left; (intro w hSw; (try dsimp only at hSw); go_simp; try (with_reducible rfl))
        try simp only [Act.put, List.getElem_toArray, List.getElem_cons_zero, List.getElem_cons_succ, List.setIfInBounds_toArray, List.set_cons_zero, List.set_cons_succ]
        refine takeYesE 9 (v := ?_) rfl (by kernel_rfl) (by kernel_rfl) (by kernel_rfl) (by rfl) (fun _ _ _ h => h) (by assumption) ?_ ?_; rotate_left; (intro w hSw; (try dsimp only at hSw); go_simp; try (with_reducible rfl))
        try simp only [Act.put, List.getElem_toArray, List.getElem_cons_zero, List.getElem_cons_succ, List.setIfInBounds_toArray, List.set_cons_zero, List.set_cons_succ]
        refine takeYesE 10 (v := ?_) rfl (by kernel_rfl) (by kernel_rfl) (by kernel_rfl) (by rfl) (fun _ _ _ h => h) (by assumption) ?_ ?_; rotate_left; (intro w hSw; (try dsimp only at hSw); go_simp; try (with_reducible rfl))
        try simp only [Act.put, List.getElem_toArray, List.getElem_cons_zero, List.getElem_cons_succ, List.setIfInBounds_toArray, List.set_cons_zero, List.set_cons_succ]
        refine takeYesE 11 (v := ?_) rfl (by kernel_rfl) (by kernel_rfl) (by kernel_rfl) (by rfl) (fun _ _ _ h => h) (by assumption) ?_ ?_; rotate_left; (intro w hSw; (try dsimp only at hSw); go_simp; try (with_reducible rfl))
        try simp only [Act.put, List.getElem_toArray, List.getElem_cons_zero, List.getElem_cons_succ, List.setIfInBounds_toArray, List.set_cons_zero, List.set_cons_succ]
        refine takeYesE 12 (v := ?_) rfl (by kernel_rfl) (by kernel_rfl) (by kernel_rfl) (by rfl) (fun _ _ _ h => h) (by assumption) ?_ ?_; rotate_left; (intro w hSw; (try dsimp only at hSw); go_simp; try (with_reducible rfl))
        try simp only [Act.put, List.getElem_toArray, List.getElem_cons_zero, List.getElem_cons_succ, List.setIfInBounds_toArray, List.set_cons_zero, List.set_cons_succ]
        refine wpAnyH_ready (rs := [13]) (by kernel_rfl) (by simp) ?_
        refine AllReadyH.cons rfl (fun K hK => ?_) AllReadyH.nil
        go_simp
        (go_at_call 79; refine (CVX.out _ (by assumption)).mono ?_; rintro e uX ⟨rfl, hb⟩; have qz13_0 : uX.cell? ⟨w.heap.size, 0, none⟩ = some (.slice sa o.sy.length sc) := carry_cell' hb (by assumption); have qz13_1 : uX.cell? ⟨w.heap.size, 1, none⟩ = some (.slice wa o.ws.length wc) := carry_cell' hb (by assumption); have qz13_2 : uX.cell? ⟨w.heap.size, 2, none⟩ = some (.int .i64 o.va) := carry_cell' hb (by assumption); have qz13_3 : uX.cell? ⟨w.heap.size + 1, 0, none⟩ = some (.string t.name) := carry_cell' hb (by assumption); have qz13_4 : uX.cell? ⟨w.heap.size + 1, 1, none⟩ = some (.slice (some ⟨b, off, none⟩) t.args.length ca) := carry_cell' hb (by assumption); have qz13_5 : uX.cell? ⟨b, off, none⟩ = some (.string x.name) := carry_cell' hb (by assumption); have qz13_6 : uX.cell? ⟨b, off + 1, none⟩ = some (.slice p x.args.length c) := carry_cell' hb (by assumption); have qz13_7 : uX.cell? ⟨b, off + 2, none⟩ = some (.string y.name) := carry_cell' hb (by assumption); have qz13_8 : uX.cell? ⟨b, off + 3, none⟩ = some (.slice p' y.args.length c') := carry_cell' hb (by assumption); have huX : Below w1.heap.size w1 uX := carry_below (by assumption) (Nat.le_refl _) hb; clear hb; go_wp2_with fail)
        refine hK.out _ _ (by first | exact ⟨by assumption, by assumption, by assumption, by assumption, by assumption, by assumption, by assumption, by assumption, by assumption, by assumption⟩ | go_keep) (fun hHeld => ?_)
        clear hK K
        try simp only [Act.put, List.getElem_toArray, List.getElem_cons_zero, List.getElem_cons_succ, List.setIfInBounds_toArray, List.set_cons_zero, List.set_cons_succ]
        refine takeYesE 14 (v := ?_) rfl (by kernel_rfl) (by kernel_rfl) (by kernel_rfl) (by rfl) (fun _ _ _ h => h) (by assumption) ?_ ?_; rotate_left; (intro w hSw; (try dsimp only at hSw); go_simp; try (with_reducible rfl))
        try simp only [Act.put, List.getElem_toArray, List.getElem_cons_zero, List.getElem_cons_succ, List.setIfInBounds_toArray, List.set_cons_zero, List.set_cons_succ]
        refine takeYesE 15 (v := ?_) rfl (by kernel_rfl) (by kernel_rfl) (by kernel_rfl) (by rfl) (fun _ _ _ h => h) (by assumption) ?_ ?_; rotate_left; (intro w hSw; (try dsimp only at hSw); go_simp; try (with_reducible rfl))
        try simp only [Act.put, List.getElem_toArray, List.getElem_cons_zero, List.getElem_cons_succ, List.setIfInBounds_toArray, List.set_cons_zero, List.set_cons_succ]
        refine takeYesE 16 (v := ?_) rfl (by kernel_rfl) (by kernel_rfl) (by kernel_rfl) (by rfl) (fun _ _ _ h => h) (by assumption) ?_ ?_; rotate_left; (intro w hSw; (try dsimp only at hSw); go_simp; try (with_reducible rfl))
        try simp only [Act.put, List.getElem_toArray, List.getElem_cons_zero, List.getElem_cons_succ, List.setIfInBounds_toArray, List.set_cons_zero, List.set_cons_succ]
        refine takeYesE 17 (v := ?_) rfl (by kernel_rfl) (by kernel_rfl) (by kernel_rfl) (by rfl) (fun _ _ _ h => h) (by assumption) ?_ ?_; rotate_left; (intro w hSw; (try dsimp only at hSw); go_simp; try (with_reducible rfl))
        try simp only [Act.put, List.getElem_toArray, List.getElem_cons_zero, List.getElem_cons_succ, List.setIfInBounds_toArray, List.set_cons_zero, List.set_cons_succ]
        refine takeYesE 18 (v := ?_) rfl (by kernel_rfl) (by kernel_rfl) (by kernel_rfl) (by rfl) (fun _ _ _ h => h) (by assumption) ?_ ?_; rotate_left; (intro w hSw; (try dsimp only at hSw); go_simp; try (with_reducible rfl))
        try simp only [Act.put, List.getElem_toArray, List.getElem_cons_zero, List.getElem_cons_succ, List.setIfInBounds_toArray, List.set_cons_zero, List.set_cons_succ]
        refine takeYesE 19 (v := ?_) rfl (by kernel_rfl) (by kernel_rfl) (by kernel_rfl) (by rfl) (fun _ _ _ h => h) (by assumption) ?_ ?_; rotate_left; (intro w hSw; (try dsimp only at hSw); go_simp; try (with_reducible rfl))
        try simp only [Act.put, List.getElem_toArray, List.getElem_cons_zero, List.getElem_cons_succ, List.setIfInBounds_toArray, List.set_cons_zero, List.set_cons_succ]
        refine takeYesE 20 (v := ?_) rfl (by kernel_rfl) (by kernel_rfl) (by kernel_rfl) (by rfl) (fun _ _ _ h => h) (by assumption) ?_ ?_; rotate_left; (intro w hSw; (try dsimp only at hSw); go_simp; try (with_reducible rfl))
        try simp only [Act.put, List.getElem_toArray, List.getElem_cons_zero, List.getElem_cons_succ, List.setIfInBounds_toArray, List.set_cons_zero, List.set_cons_succ]
        refine wpAnyH_ready (rs := [21]) (by kernel_rfl) (by simp) ?_
        refine AllReadyH.cons rfl (fun K hK => ?_) AllReadyH.nil
        go_simp
        (go_at_call 79; refine (CVY.out _ (by assumption)).mono ?_; rintro e uY ⟨rfl, hb⟩; have qz21_0 : uY.cell? ⟨w.heap.size, 0, none⟩ = some (.slice sa o.sy.length sc) := carry_cell' hb (by assumption); have qz21_1 : uY.cell? ⟨w.heap.size, 1, none⟩ = some (.slice wa o.ws.length wc) := carry_cell' hb (by assumption); have qz21_2 : uY.cell? ⟨w.heap.size, 2, none⟩ = some (.int .i64 o.va) := carry_cell' hb (by assumption); have qz21_3 : uY.cell? ⟨w.heap.size + 1, 0, none⟩ = some (.string t.name) := carry_cell' hb (by assumption); have qz21_4 : uY.cell? ⟨w.heap.size + 1, 1, none⟩ = some (.slice (some ⟨b, off, none⟩) t.args.length ca) := carry_cell' hb (by assumption); have qz21_5 : uY.cell? ⟨b, off, none⟩ = some (.string x.name) := carry_cell' hb (by assumption); have qz21_6 : uY.cell? ⟨b, off + 1, none⟩ = some (.slice p x.args.length c) := carry_cell' hb (by assumption); have qz21_7 : uY.cell? ⟨b, off + 2, none⟩ = some (.string y.name) := carry_cell' hb (by assumption); have qz21_8 : uY.cell? ⟨b, off + 3, none⟩ = some (.slice p' y.args.length c') := carry_cell' hb (by assumption); have huY : Below w1.heap.size w1 uY := carry_below (by assumption) (Nat.le_refl _) hb; clear hb; go_wp2_with fail)
        refine hK.out _ _ (by first | exact ⟨by assumption, by assumption, by assumption, by assumption, by assumption, by assumption, by assumption, by assumption, by assumption, by assumption⟩ | go_keep) (fun hHeld => ?_)
        clear hK K
        try simp only [Act.put, List.getElem_toArray, List.getElem_cons_zero, List.getElem_cons_succ, List.setIfInBounds_toArray, List.set_cons_zero, List.set_cons_succ]
        refine takeYesE 22 (v := ?_) rfl (by kernel_rfl) (by kernel_rfl) (by kernel_rfl) (by rfl) (fun _ _ _ h => h) (by assumption) ?_ ?_; rotate_left; (intro w hSw; (try dsimp only at hSw); go_simp; try (with_reducible rfl))
        try simp only [Act.put, List.getElem_toArray, List.getElem_cons_zero, List.getElem_cons_succ, List.setIfInBounds_toArray, List.set_cons_zero, List.set_cons_succ]
        refine takeYesE 23 (v := ?_) rfl (by kernel_rfl) (by kernel_rfl) (by kernel_rfl) (by rfl) (fun _ _ _ h => h) (by assumption) ?_ ?_; rotate_left; (intro w hSw; (try dsimp only at hSw); go_simp; try (with_reducible rfl))
        try simp only [Act.put, List.getElem_toArray, List.getElem_cons_zero, List.getElem_cons_succ, List.setIfInBounds_toArray, List.set_cons_zero, List.set_cons_succ]
        refine wpAnyH_done (by kernel_rfl) ?_ _
        have HZ : Hid (Below w.heap.size w uY) := Lib.hid (carry_below HB.out (Nat.le_refl _) (by assumption))
        go_wp2
        go_ret
        exact ⟨ret_bool HF.out.symm, HZ.out⟩

end Go.Proofs.Ytohalpafmcobpaa
