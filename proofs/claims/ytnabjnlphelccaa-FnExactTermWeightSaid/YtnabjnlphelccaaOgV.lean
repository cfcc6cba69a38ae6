/- The program's weight of a term, its test that an ordering covers terms, TermWeight: contracts, for orderings and terms of at most 1048576 names' bytes and elements. -/
import Derived.Test.YtnabjnlphelccaaOgC
import Derived.Test.YtnabjnlphelccaaOgT
namespace Go.Proofs.Ytnabjnlphelccaa
open Go.RowKit Go.Shelf
set_option linter.unusedVariables false

attribute [local go_sem] Oper.semAt_some

theorem rk_le {l : List ByteArray} {nm : ByteArray} {j : Nat} (h : l[j]? = some nm) : rk l nm ≤ j := by
  unfold rk
  cases e : l.findIdx? (fun s => decide (s = nm)) with
  | none => simp <;> omega
  | some k =>
    obtain ⟨h1, h2, h3⟩ := List.findIdx?_eq_some_iff_getElem.1 e
    simp
    rcases Nat.lt_or_ge j k with hj | hj
    · have := h3 j hj
      have hlt := (List.getElem?_eq_some_iff.1 h).1
      rw [List.getElem?_eq_getElem hlt] at h
      injection h with h
      simp [h] at this
    · exact hj

theorem idx_same (a : Option Addr) (c : Nat) (ss : List ByteArray) (x : ByteArray) (w : World) (hv : StrG w a ss) (hn : ss.length ≤ 1048576) :
    Calls Try.prog 120 #[.slice a ss.length c, .string x] w fun e w' => e = .returned (.int .i64 (rk ss x)) ∧ w = w' := by
  have he : Lib.idxOfS ss x = rk ss x := by
    rcases rk_ways ss x with ⟨h1, h2⟩ | ⟨k, h1, h2, h3⟩
    · have := Lib.idxOfS_miss ss ss.length x (fun j hj e => h1 (by rw [getD_eq hj] at e; rw [← e]; exact List.getElem_mem hj))
      rw [List.take_length] at this
      rw [this, h2]
    · have hf : ∀ j, j < k → ss.getD j ByteArray.empty ≠ x := by
        intro j hj e
        rw [getD_eq (show j < ss.length by omega)] at e
        have e2 : ss[j]? = some x := by rw [List.getElem?_eq_getElem (by omega), e]
        have := rk_le e2
        omega
      have := Lib.idxOfS_hit ss ss.length k x h2 (Nat.le_refl _) (getD_at h3) hf
      rw [List.take_length] at this
      rw [this, h1]
  by_cases h0 : ss.length = 0
  · have e := List.length_eq_zero_iff.1 h0
    subst e
    refine (Try.slices_Index_string_empty a c x w).mono ?_
    rintro e w' ⟨rfl, rfl⟩
    exact ⟨by rw [he], rfl⟩
  · obtain ⟨b, off, rfl, _⟩ := hv 0 _ (List.getElem?_eq_getElem (by omega))
    have h := Try.slices_Index_string b off ss.length c ss x w (Nat.le_refl _) (by omega) (fun i hi => by
      obtain ⟨b', off', e, hc⟩ := hv i _ (List.getElem?_eq_getElem hi)
      injection e with e
      injection e with e1 e2
      subst e1 e2
      rw [hc, getD_eq hi])
    rw [List.take_length, he] at h
    refine h.mono ?_
    rintro e w' ⟨rfl, rfl⟩
    exact ⟨rfl, rfl⟩

theorem isEq_any (t : Tm) (w : World) (va : Value) (hv : TmS w va t.args) :
    Calls Try.prog 50 #[.agg #[.string t.name, va]] w (Ans (.bool (isEqB t.name)) w) := by
  obtain ⟨a, c, rfl⟩ := hv.is_slice
  have HB := Lib.hid ((Below.refl w.heap.size w).alloc (Nat.le_refl _) (.cells #[.string t.name, .slice a t.args.length c] 30))
  clear hv
  cases h : isEqB t.name with
  | true =>
    have hq : (t.name.toList == [61]) = true := h
    have HE := Lib.hid h
    clear h
    go_enter Try.func50, Try.ntmps50
    go_wp2
    go_ret
    exact ⟨rfl, HB.out⟩
  | false =>
    have hq : (t.name.toList == [61]) = false := h
    have HE := Lib.hid h
    clear h
    go_enter Try.func50, Try.ntmps50
    go_wp2
    go_ret
    exact ⟨rfl, HB.out⟩

/-- What a search for the first term of a list with a property answers. -/
def IdxT (p : Tm → Bool) (l : List Tm) (w : World) (e : Ending) (w' : World) : Prop :=
  ∃ i : Int, e = .returned (.int .i64 i) ∧ ((i = -1 ∧ ∀ d ∈ l, p d = false) ∨ ∃ k : Nat, i = k ∧ k < l.length ∧ (∀ j d, j < k → l[j]? = some d → p d = false) ∧ ∀ d, l[k]? = some d → p d = true) ∧ Below w.heap.size w w'

set_option maxHeartbeats 2000000 in
theorem idxEq_any (p : Tm → Bool) (l : List Tm) (w : World) (v : Value) (hv : TmS w v l) (hl : l.length ≤ 1048576)
    (hc : ∀ (t : Tm) (W : World) (va : Value), t ∈ l → Below w.heap.size w W → TmS W va t.args → Calls Try.prog 50 #[.agg #[.string t.name, va]] W (Ans (.bool (p t)) W)) :
    Calls Try.prog 136 #[v, .func (.func 50) #[] #[]] w (IdxT p l w) := by
  obtain ⟨a, c, rfl⟩ := hv.is_slice
  have HV := Lib.hid hv
  have HC := Lib.hid hc
  clear hv hc
  go_enter Try.func136, Try.ntmps136
  go_wp2
  go_loopw [8] (fun i wr => ∃ k : Nat, k ≤ l.length ∧ i = .int .i64 k ∧ (∀ j d, j < k → l[j]? = some d → p d = false) ∧ Below w.heap.size w wr) (fun i _ => l.length - (intOf i).toNat)
  case atStart => exact ⟨0, Nat.zero_le _, rfl, fun j d hj => absurd hj (Nat.not_lt_zero _), Below.refl _ _⟩
  case round =>
    obtain ⟨k, hk, rfl, hq, hbel⟩ := hrel
    have HQ := Lib.hid hq
    have HB := Lib.hid hbel
    clear hq hbel
    by_cases hlt : k < l.length
    · obtain ⟨d, hd⟩ : ∃ d, l[k]? = some d := ⟨_, List.getElem?_eq_getElem hlt⟩
      obtain ⟨b, off, rfl, va, c0, c1, hva⟩ := HV.out.get hd
      obtain ⟨pa, ca, rfl⟩ := hva.is_slice
      have c0' := carry_cell c0 HB.out
      have c1' := carry_cell c1 HB.out
      have HD := Lib.hid hd
      have CT := HC.out d wr _ (mem_of_at hd) HB.out (hva.kept HB.out)
      obtain ⟨q, hq⟩ : ∃ q, q = p d := ⟨_, rfl⟩
      rw [← hq] at CT
      have CT := Lib.hid CT
      have HQD := Lib.hid hq
      clear hd hva c0 c1 hq
      go_wp2_with fail
      refine CT.out.mono ?_
      rintro e w2 ⟨rfl, hb⟩
      have HB2 := Lib.hid (carry_below HB.out (Nat.le_refl _) hb)
      clear hb
      cases q with
      | true =>
        have HE : Hid (IdxT p l w (.returned (.int .i64 k)) w2) := Lib.hid ⟨k, rfl, .inr ⟨k, rfl, hlt, HQ.out, fun x hx => by rw [HD.out] at hx; injection hx with hx; rw [← hx]; exact HQD.out.symm⟩, HB2.out⟩
        go_wp2
        go_ret
        exact HE.out
      | false =>
        have HN : Hid (∀ j x, j < k + 1 → l[j]? = some x → p x = false) := Lib.hid (fun j x hj hx => by
          by_cases e : j = k
          · subst e; rw [HD.out] at hx; injection hx with hx; rw [← hx]; exact HQD.out.symm
          · exact HQ.out j x (by omega) hx)
        go_wp2
        go_roundw
        case rel => exact ⟨k + 1, by omega, by go_num, HN.out, HB2.out⟩
        case measure => simp [intOf]; omega
    · have hke : k = l.length := by omega
      have HE : Hid (IdxT p l w (.returned (.int .i64 (-1))) wr) := Lib.hid ⟨-1, rfl, .inl ⟨rfl, fun d hd => by
        obtain ⟨j, hj⟩ := List.getElem?_of_mem hd
        exact HQ.out j d (by rw [hke]; exact (List.getElem?_eq_some_iff.1 hj).1) hj⟩, HB.out⟩
      go_wp2
      go_ret
      exact HE.out

theorem idxT_any {p : Tm → Bool} {l : List Tm} {w w' : World} {e : Ending} (h : IdxT p l w e w') : ∃ i : Int, e = .returned (.int .i64 i) ∧ decide (0 ≤ i) = l.any p ∧ Below w.heap.size w w' := by
  obtain ⟨i, rfl, ⟨rfl, h⟩ | ⟨k, rfl, hk, h1, h2⟩, hb⟩ := h
  · refine ⟨_, rfl, ?_, hb⟩
    have : l.any p = false := by rw [List.any_eq_false]; intro x hx; rw [h x hx]; simp
    rw [this]; decide
  · refine ⟨_, rfl, ?_, hb⟩
    have : l.any p = true := by rw [List.any_eq_true]; exact ⟨l[k], List.getElem_mem hk, h2 _ (List.getElem?_eq_getElem hk)⟩
    rw [this]; simp

theorem conEq_any (l : List Tm) (w : World) (v : Value) (hv : TmS w v l) (hl : l.length ≤ 1048576) :
    Calls Try.prog 110 #[v, .func (.func 50) #[] #[]] w (Ans (.bool (l.any fun t => isEqB t.name)) w) := by
  obtain ⟨a, c, rfl⟩ := hv.is_slice
  have CI := Lib.hid (idxEq_any (fun t => isEqB t.name) l w _ hv hl (fun t W va _ _ h => isEq_any t W va h))
  clear hv
  go_enter Try.func110, Try.ntmps110
  go_wp2_with fail
  refine CI.out.mono ?_
  intro e w1 h
  obtain ⟨i, rfl, hi, hb⟩ := idxT_any h
  have HI := Lib.hid hi
  have HB := Lib.hid hb
  clear h hi hb
  go_wp2
  go_ret
  exact ⟨ret_bool HI.out, HB.out⟩

/-! ### Valid terms: the two sides' tests are one -/

theorem nodesB_nds : ∀ t : Tm, t.nodesB = true → ∀ s ∈ t.nds, varB s.name = true ∨ symB s.name = true := Tm.ind fun t ih h s hs => by
  have hroot : varB t.name = true ∨ symB t.name = true := by
    cases hv : varB t.name with
    | true => exact .inl rfl
    | false => rw [Tm.nodesB_sym hv, Bool.and_eq_true] at h; exact .inr h.1
  have hargs : ∀ x ∈ t.args, x.nodesB = true := by
    intro x hx
    cases hv : varB t.name with
    | true => rw [Tm.nodesB_var hv, List.isEmpty_iff] at h; rw [h] at hx; cases hx
    | false =>
      rw [Tm.nodesB_sym hv, Bool.and_eq_true, Bool.and_eq_true, List.all_eq_true] at h
      exact h.2.2 x hx
  rw [t.nds_eq] at hs
  rcases List.mem_cons.1 hs with rfl | hs
  · exact hroot
  · have : ∀ l : List Tm, (∀ x ∈ l, x ∈ t.args) → s ∈ Tm.ndsL l → varB s.name = true ∨ symB s.name = true := by
      intro l
      induction l with
      | nil => intro _ h; simp [Tm.ndsL] at h
      | cons a r ih2 =>
        intro hl h
        rw [Tm.ndsL, List.mem_append] at h
        rcases h with h | h
        · exact ih a (hl a List.mem_cons_self) (hargs a (hl a List.mem_cons_self)) s h
        · exact ih2 (fun x hx => hl x (List.mem_cons_of_mem _ hx)) h
    exact this t.args (fun x hx => hx) hs
theorem goodB_nds {t : Tm} (h : goodB t = true) : ∀ s ∈ t.nds, varB s.name = true ∨ symB s.name = true := by
  unfold goodB at h
  rw [Bool.and_eq_true] at h
  exact nodesB_nds t h.2
theorem isEq_not {s : ByteArray} (h : isEqB s = true) : varB s = false ∧ symB s = false := by
  have e : s = ⟨#[61]⟩ := toList_inj (by unfold isEqB at h; rw [beq_iff_eq] at h; rw [h, ByteArray.toList_eq])
  subst e
  exact ⟨by decide +kernel, by decide +kernel⟩
theorem nodes_cov {o : Od} {l : List Tm} (h : ∀ s ∈ l, varB s.name = true ∨ symB s.name = true) : l.all o.nodeP = l.all o.nodeC := by
  induction l with
  | nil => rfl
  | cons s r ih =>
    rw [List.all_cons, List.all_cons, ih (fun x hx => h x (List.mem_cons_of_mem _ hx))]
    congr 1
    unfold Od.nodeP Od.nodeC
    rcases h s List.mem_cons_self with h1 | h1
    · rw [h1, var_not_sym h1]; rfl
    · have h2 : varB s.name = false := by
        cases hv : varB s.name with
        | false => rfl
        | true => rw [var_not_sym hv] at h1; cases h1
      rw [h1, h2, Bool.not_true, Bool.false_or, Bool.false_or, Bool.eq_iff_iff, Lib.containsS_iff, decide_eq_true_iff, rk_has]
theorem cov_one (o : Od) (t : Tm) : (anyB t && (o.covN t && !isEqB t.name)) = (goodB t && o.cov t) := by
  cases hg : goodB t with
  | true =>
    have ha : anyB t = true := by unfold anyB; rw [hg]; rfl
    have he : isEqB t.name = false := by
      cases e : isEqB t.name with
      | false => rfl
      | true =>
        have h1 := isEq_not e
        rcases goodB_nds hg t (by rw [t.nds_eq]; exact List.mem_cons_self) with h | h
        · rw [h1.1] at h; cases h
        · rw [h1.2] at h; cases h
    have hc : o.covN t = o.cov t := nodes_cov (goodB_nds hg)
    rw [ha, he, hc]; simp
  | false =>
    cases he : isEqB t.name with
    | true => simp
    | false =>
      have ha : anyB t = false := by unfold anyB atomB; rw [he, hg]; simp
      rw [ha]; rfl
/-- Every term of a list is valid and covered, and the ordering is valid. -/
def Od.okTs (o : Od) (ts : List Tm) : Bool := o.good && ts.all fun t => goodB t && o.cov t
theorem okTs_eq (o : Od) (ts : List Tm) : (o.covP ts && !(ts.any fun t => isEqB t.name)) = o.okTs ts := by
  unfold Od.covP Od.okTs
  rw [Bool.and_assoc]
  congr 1
  induction ts with
  | nil => rfl
  | cons t r ih =>
    rw [List.all_cons, List.all_cons, List.all_cons, List.any_cons, ← ih, ← cov_one o t]
    cases anyB t <;> cases o.covN t <;> cases isEqB t.name <;> simp

theorem covT_any (o : Od) (ts : List Tm) (w : World) (sv wv v : Value) (hv : OdV w sv wv o) (ht : TmS w v ts) (ho : o.wt ≤ 1048576) (hl : ts.length ≤ 1000000) (hw : ∀ s ∈ ts, s.wt ≤ 1048576) :
    Calls Try.prog 59 #[.agg #[sv, wv, .int .i64 o.va], v] w (Ans (.bool (o.okTs ts)) w) := by
  obtain ⟨sa, sc, wa, wc, rfl, rfl⟩ := hv.open
  obtain ⟨a, c, rfl⟩ := ht.is_slice
  have HB := Lib.hid ((Below.refl w.heap.size w).alloc (Nat.le_refl _) (.cells #[.slice sa o.sy.length sc, .slice wa o.ws.length wc, .int .i64 o.va] 27))
  have HK := Lib.hid (okTs_eq o ts)
  have CC := Lib.hid (fun W (hW : Below w.heap.size w W) => covers_any o ts W _ _ _ (hv.kept hW) (ht.kept hW) ho hl hw)
  have CE := Lib.hid (fun W (hW : Below w.heap.size w W) => conEq_any ts W _ (ht.kept hW) (by omega))
  clear hv ht hw
  go_enter Try.func59, Try.ntmps59
  go_wp2_with fail
  refine (CC.out _ HB.out).mono ?_
  rintro e w2 ⟨rfl, hb⟩
  have HB2 := Lib.hid (carry_below HB.out (Nat.le_refl _) hb)
  clear hb
  cases hc : o.covP ts with
  | false =>
    have HE : Hid (o.okTs ts = false) := Lib.hid (by rw [← HK.out, hc]; rfl)
    clear hc
    go_wp2
    go_ret
    exact ⟨ret_bool HE.out.symm, HB2.out⟩
  | true =>
    have HE : Hid (o.okTs ts = !(ts.any fun t => isEqB t.name)) := Lib.hid (by rw [← HK.out, hc]; rfl)
    clear hc
    go_wp2_with fail
    refine (CE.out _ HB2.out).mono ?_
    rintro e w3 ⟨rfl, hb⟩
    have HB3 := Lib.hid (carry_below HB2.out (Nat.le_refl _) hb)
    clear hb
    go_wp2
    go_ret
    exact ⟨ret_bool HE.out.symm, HB3.out⟩

end Go.Proofs.Ytnabjnlphelccaa
