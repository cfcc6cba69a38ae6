/- Several texts in one: each says what it proves. No condition but theirs. -/
import Derived.Test.YtohalpafmcobpaaGreatKbG
import Derived.Test.YtohalpafmcobpaaGreatOhG
import Derived.Test.YtohalpafmcobpaaGreatOgG
/- Orienting an equation: the plain facts. The ordering is asymmetric, and both conditions on the equation are one. No condition. -/
namespace Go.Proofs.YtohalpafmcobpaaGreat
open Go.RowKit
set_option linter.unusedVariables false

theorem cmpR_flip (a b : Int) : cmpR b a = - cmpR a b := by
  unfold cmpR; split <;> split <;> (try split) <;> omega
theorem Od.root_flip (o : Od) (s t : Tm) : o.root t s = - o.root s t := by
  unfold Od.root
  by_cases h : rk o.sy s.name = rk o.sy t.name
  · rw [if_pos h, if_pos h.symm]; exact cmpR_flip _ _
  · rw [if_neg h, if_neg (fun e => h e.symm)]; exact cmpR_flip _ _

theorem kbo_asym (o : Od) : ∀ s : Tm, ∀ t : Tm, kbo o s t = true → kbo o t s = true → False := Tm.ind fun s ih t h1 h2 => by
  have b1 : bal s t = true := by
    cases h : bal s t with
    | true => rfl
    | false => rw [kbo_bal h] at h1; cases h1
  have b2 : bal t s = true := by
    cases h : bal t s with
    | true => rfl
    | false => rw [kbo_bal h] at h2; cases h2
  by_cases hw : o.wT s = o.wT t
  · cases hs : varB s.name with
    | true => rw [kbo_var b1 hw (.inl hs)] at h1; cases h1
    | false =>
      cases ht : varB t.name with
      | true => rw [kbo_var b1 hw (.inr ht)] at h1; cases h1
      | false =>
        have hf := o.root_flip s t
        by_cases hr : o.root s t = 0
        · have hr2 : o.root t s = 0 := by omega
          rw [kbo_args b1 hw hs ht hr] at h1
          rw [kbo_args b2 hw.symm ht hs hr2] at h2
          have hlen : s.args.length = t.args.length := o.root_len hr
          rcases fd_ways s.args t.args with ⟨_, hag⟩ | ⟨k, _, hk, hne, hbe⟩
          · rw [kboL_no o _ _ hag] at h1; cases h1
          · obtain ⟨x, hx⟩ : ∃ x, s.args[k]? = some x := ⟨_, List.getElem?_eq_getElem hk⟩
            obtain ⟨y, hy⟩ : ∃ y, t.args[k]? = some y := ⟨_, List.getElem?_eq_getElem (by omega)⟩
            have hxy : x ≠ y := fun e => hne (by rw [hx, hy, e])
            rw [kboL_at o _ _ k x y hx hy hxy hbe] at h1
            rw [kboL_at o _ _ k y x hy hx (fun e => hxy e.symm) (fun j hj => (hbe j hj).symm)] at h2
            exact ih x (mem_of_at hx) y h1 h2
        · rw [kbo_root b1 hw hs ht hr, decide_eq_true_iff] at h1
          rw [kbo_root b2 hw.symm ht hs (by omega), decide_eq_true_iff] at h2
          omega
  · rw [kbo_wt b1 hw, decide_eq_true_iff] at h1
    rw [kbo_wt b2 (fun e => hw e.symm), decide_eq_true_iff] at h2
    omega

/-- The equation is one that the ordering covers (the ordering is asked elsewhere). -/
def Od.eqOk (o : Od) (t : Tm) : Bool := isEqB t.name && (atomB t && t.args.all o.cov)

theorem eq_atom {t : Tm} (h : isEqB t.name = true) : anyB t = atomB t := by
  have h1 := isEq_not h
  have hg : goodB t = false := by
    cases e : goodB t with
    | false => rfl
    | true =>
      rcases goodB_nds e t (by rw [t.nds_eq]; exact List.mem_cons_self) with h | h
      · rw [h1.1] at h; cases h
      · rw [h1.2] at h; cases h
  unfold anyB; rw [hg]; rfl
theorem atom_args {t : Tm} (h : isEqB t.name = true) (ha : atomB t = true) : t.args.length = 2 ∧ fitsB t = true ∧ t.args.all Tm.nodesB = true := by
  unfold atomB at ha
  rw [if_pos h, Bool.and_eq_true, Bool.and_eq_true, decide_eq_true_iff] at ha
  exact ⟨ha.1, ha.2.1, ha.2.2⟩
theorem ndsL_var_sym : ∀ {l : List Tm}, l.all Tm.nodesB = true → ∀ s ∈ Tm.ndsL l, varB s.name = true ∨ symB s.name = true
  | [], _, s, hs => by simp [Tm.ndsL] at hs
  | t :: r, h, s, hs => by
    rw [List.all_cons, Bool.and_eq_true] at h
    have e : Tm.ndsL (t :: r) = t.nds ++ Tm.ndsL r := by simp [Tm.ndsL]
    rw [e, List.mem_append] at hs
    rcases hs with hs | hs
    · exact nodesB_nds t h.1 s hs
    · exact ndsL_var_sym h.2 s hs
theorem eq_cov (o : Od) {t : Tm} (h : isEqB t.name = true) (ha : atomB t = true) : o.covN t = t.args.all o.cov := by
  unfold Od.covN
  rw [t.nds_eq, List.all_cons]
  have h1 := isEq_not h
  have e : o.nodeP t = true := by unfold Od.nodeP; rw [h1.2]; rfl
  rw [e, Bool.true_and, ← Od.covL_all]
  exact nodes_cov (ndsL_var_sym (atom_args h ha).2.2)
theorem eqOk_eq (o : Od) (t : Tm) : (isEqB t.name && o.covP [t]) = (o.good && o.eqOk t) := by
  unfold Od.covP Od.eqOk
  cases h : isEqB t.name with
  | false => simp
  | true =>
    simp only [List.all_cons, List.all_nil, Bool.and_true, Bool.true_and]
    rw [eq_atom h]
    cases ha : atomB t with
    | false => simp
    | true => rw [eq_cov o h ha]
theorem eqOk_two {o : Od} {t : Tm} (h : o.eqOk t = true) : ∃ a b, t.args = [a, b] ∧ (goodB a = true ∧ o.cov a = true) ∧ (goodB b = true ∧ o.cov b = true) ∧ isEqB t.name = true ∧ atomB t = true := by
  unfold Od.eqOk at h
  rw [Bool.and_eq_true, Bool.and_eq_true] at h
  obtain ⟨h1, h2, h3⟩ := h
  obtain ⟨hl, hf, hn⟩ := atom_args h1 h2
  match ht : t.args, hl with
  | [a, b], _ =>
    rw [ht] at h3 hn
    simp only [List.all_cons, List.all_nil, Bool.and_true, Bool.and_eq_true] at h3 hn
    have hsz := t.sz_eq
    have hdp := t.dp_eq
    rw [ht] at hsz hdp
    simp only [sumL, maxL] at hsz hdp
    simp only [fitsB, Bool.and_eq_true, decide_eq_true_eq] at hf
    refine ⟨a, b, rfl, ⟨?_, h3.1⟩, ⟨?_, h3.2⟩, h1, h2⟩
    · simp only [goodB, fitsB, Bool.and_eq_true, decide_eq_true_eq]; exact ⟨⟨by omega, by omega⟩, hn.1⟩
    · simp only [goodB, fitsB, Bool.and_eq_true, decide_eq_true_eq]; exact ⟨⟨by omega, by omega⟩, hn.2⟩

/-- The sides of an equation, whatever it is. -/
def sideA (t : Tm) : Tm := t.args.getD 0 default
def sideB (t : Tm) : Tm := t.args.getD 1 default
theorem sides {t a b : Tm} (h : t.args = [a, b]) : sideA t = a ∧ sideB t = b := by unfold sideA sideB; rw [h]; exact ⟨rfl, rfl⟩

/-- What both functions answer. -/
def Od.oriOk (o : Od) (t : Tm) : Bool := o.good && o.eqOk t
def zeroT : Tm := .node ⟨#[]⟩ []
def Od.oriR (o : Od) (t : Tm) : Tm := if o.oriOk t then (if kbo o (sideB t) (sideA t) then .node t.name [sideB t, sideA t] else t) else zeroT
def Od.oriB (o : Od) (t : Tm) : Bool := o.oriOk t && (kbo o (sideB t) (sideA t) || kbo o (sideA t) (sideB t))
theorem oriR_no {o : Od} {t : Tm} (h : o.oriOk t = false) : o.oriR t = zeroT ∧ o.oriB t = false := by unfold Od.oriR Od.oriB; rw [h]; exact ⟨rfl, rfl⟩
theorem oriR_rev {o : Od} {t : Tm} (h : o.oriOk t = true) (k : kbo o (sideB t) (sideA t) = true) : o.oriR t = .node t.name [sideB t, sideA t] ∧ o.oriB t = true := by unfold Od.oriR Od.oriB; rw [h, k]; exact ⟨rfl, rfl⟩
theorem oriR_fwd {o : Od} {t : Tm} (h : o.oriOk t = true) (k : kbo o (sideB t) (sideA t) = false) : o.oriR t = t ∧ o.oriB t = kbo o (sideA t) (sideB t) := by unfold Od.oriR Od.oriB; rw [h, k]; exact ⟨rfl, by simp⟩
theorem oriR_one {o : Od} {t : Tm} (h : o.oriOk t = true) (k : kbo o (sideA t) (sideB t) = true) : o.oriR t = t ∧ o.oriB t = true := by
  have k2 : kbo o (sideB t) (sideA t) = false := by
    cases e : kbo o (sideB t) (sideA t) with
    | false => rfl
    | true => exact (kbo_asym o _ _ k e).elim
  have := oriR_fwd h k2
  rw [k] at this; exact this

theorem oriR_wt (o : Od) (t : Tm) (h : t.wt ≤ 1048576) : (o.oriR t).wt ≤ 1048576 := by
  cases ho : o.oriOk t with
  | false => rw [(oriR_no ho).1, Tm.wt_eq]; decide
  | true =>
    cases hk : kbo o (sideB t) (sideA t) with
    | false => rw [(oriR_fwd ho hk).1]; exact h
    | true =>
      have h2 : o.eqOk t = true := by unfold Od.oriOk at ho; rw [Bool.and_eq_true] at ho; exact ho.2
      obtain ⟨a, b, hab, _⟩ := eqOk_two h2
      obtain ⟨s1, s2⟩ := sides hab
      rw [(oriR_rev ho hk).1, s1, s2, Tm.wt_eq]
      have e := t.wt_eq
      rw [hab] at e
      show t.name.size + [b, a].length + sumL Tm.wt [b, a] ≤ 1048576
      simp only [sumL, List.length_cons, List.length_nil] at e ⊢
      omega

/-- The first equation whose first side is not greater, or -1. -/
def Od.fndOk (o : Od) (ts : List Tm) : Bool := o.good && (decide (ts.length ≤ 8) && ts.all o.eqOk)
def Od.decB (o : Od) (t : Tm) : Bool := kbo o (sideA t) (sideB t)

end Go.Proofs.YtohalpafmcobpaaGreat

/- The model's test of an equation, as a contract, for orderings and terms of at most 1048576 names' bytes and elements. -/
namespace Go.Proofs.YtohalpafmcobpaaGreat
open Go.RowKit
set_option linter.unusedVariables false

theorem takeNoE {P : Program} {md : Region.Mode} {ops : Array Oper} {Q : Exit → Act → World → Prop} {S : World → Prop} (i : Nat) {oi : Oper} {fuel : Nat} {listed : Array Bool} {a : Act} {w : World} (hi : ops[i]? = some oi)
    (hs : Region.noSelect ops = true) (hf : Region.free md ops listed i = true) (hr : (Region.ready md ops listed).contains i = true) (hw : Region.wanted oi (yielded ops a.tmps) = false)
    (hQ : ∀ c a w, Q (.panic c) (a.put oi.dst undef) w → Q (.panic c) a w) (hS : S w)
    (h : wpAnyH P md ops Q S fuel (listed.setIfInBounds i true) (a.put oi.dst undef) w) : wpAnyH P md ops Q S (fuel + 1) listed a w :=
  wpAnyH_take (i := i) hi hs hf hr hQ (Or.inr ⟨hw, rfl⟩) hS h
theorem takeYesE {P : Program} {md : Region.Mode} {ops : Array Oper} {Q : Exit → Act → World → Prop} {S : World → Prop} (i : Nat) {oi : Oper} {v : Value} {fuel : Nat} {listed : Array Bool} {a : Act} {w : World} (hi : ops[i]? = some oi)
    (hs : Region.noSelect ops = true) (hf : Region.free md ops listed i = true) (hr : (Region.ready md ops listed).contains i = true) (hw : Region.wanted oi (yielded ops a.tmps) = true)
    (hQ : ∀ c a w, Q (.panic c) (a.put oi.dst v) w → Q (.panic c) a w) (hS : S w) (hy : ∀ w, S w → (execOp a.eval oi).run P w = .ok (.value v) w)
    (h : wpAnyH P md ops Q S fuel (listed.setIfInBounds i true) (a.put oi.dst v) w) : wpAnyH P md ops Q S (fuel + 1) listed a w :=
  wpAnyH_take (i := i) hi hs hf hr hQ (Or.inl ⟨hw, hy⟩) hS h

theorem eqOk_n {o : Od} {t : Tm} (h : isEqB t.name = false) : o.eqOk t = false := by unfold Od.eqOk; rw [h]; rfl
theorem eqOk_a {o : Od} {t : Tm} (h : atomB t = false) : o.eqOk t = false := by unfold Od.eqOk; rw [h]; simp
theorem eqOk_c {o : Od} {t : Tm} (h : isEqB t.name = true) (h' : atomB t = true) {x y : Tm} (e : t.args = [x, y]) : o.eqOk t = (o.cov x && o.cov y) := by unfold Od.eqOk; rw [h, h', e]; simp

/-- The two terms of a list of two, in memory. -/
theorem two_at {w : World} {v : Value} {l : List Tm} {x y : Tm} (h : TmS w v l) (e : l = [x, y]) : ∃ b off c p q p' q', v = .slice (some ⟨b, off, none⟩) l.length c ∧
    (w.cell? ⟨b, off, none⟩ = some (.string x.name) ∧ w.cell? ⟨b, off + 1, none⟩ = some (.slice p x.args.length q) ∧ w.cell? ⟨b, off + 2, none⟩ = some (.string y.name) ∧ w.cell? ⟨b, off + 3, none⟩ = some (.slice p' y.args.length q')) ∧
    TmS w (.slice p x.args.length q) x.args ∧ TmS w (.slice p' y.args.length q') y.args := by
  rcases h.parts with ⟨a, c, rfl, h0⟩ | ⟨b, off, c, rfl, hp, hat⟩
  · rw [e] at h0; cases h0
  · obtain ⟨vx, x0, x1, x2⟩ := hat 0 x (by rw [e]; rfl)
    obtain ⟨vy, y0, y1, y2⟩ := hat 1 y (by rw [e]; rfl)
    obtain ⟨p, q, rfl⟩ := x2.is_slice
    obtain ⟨p', q', rfl⟩ := y2.is_slice
    simp only [Nat.zero_mul, Nat.add_zero, Nat.one_mul] at x0 x1 y0 y1
    exact ⟨b, off, c, p, q, p', q', rfl, ⟨x0, x1, y0, y1⟩, x2, y2⟩

end Go.Proofs.YtohalpafmcobpaaGreat
