/- Several texts in one: each says what it proves. No condition but theirs. -/
import Derived.Test.YtohalpafmcobpaaSz
import Derived.Test.YtohalpafmcobpaaTo
import Derived.Test.YtohalpafmcobpaaEq
import Derived.Test.YtohalpafmcobpaaOpenTm
import Derived.Test.YtohalpafmcobpaaOrG
import Derived.Test.YtohalpafmcobpaaOhG
/- An argument that is a list of terms: the laws' size, copy and comparison of it, and its opening. No condition. -/
namespace Go.Proofs.Ytohalpafmcobpaa
open Go.RowKit Go.ChangeShapes Go.WideShapes Go.Deep Go.Joins
set_option linter.unusedVariables false

def wtTs (l : List Tm) : Nat := l.length + sumL Tm.wt l
def limTs (m : Nat) (l : List Tm) : Prop := l.length ≤ m ∧ ∀ t ∈ l, t.lim m
theorem wtTs_mem {l : List Tm} {t : Tm} (h : t ∈ l) : t.wt ≤ wtTs l := by have := sumL_mem (f := Tm.wt) h; unfold wtTs; omega
theorem wtTs_len (l : List Tm) : l.length ≤ wtTs l := by unfold wtTs; omega
theorem limTs_of_wt (l : List Tm) (m : Nat) (h : wtTs l ≤ m) : limTs m l := ⟨Nat.le_trans (wtTs_len l) h, fun t ht => Tm.lim_of_wt t m (Nat.le_trans (wtTs_mem ht) h)⟩

theorem szTs_any (l : List Tm) (w : World) (v : Value) (left : Int) (h : TmS w v l) (hl : limTs 9223372036854775807 l) (h0 : 0 ≤ left) (h1 : left ≤ 1048576) :
    Calls Try.prog 8 #[v, .int .i64 left] w fun e w' => e = .returned (.int .i64 (szR left (wtTs l))) ∧ Below w.heap.size w w' :=
  szTermS_of l (fun t _ => szTerm_any t) w v left h hl.1 (Tm.limL_mem.2 hl.2) h0 h1

def ToTsEnd (l : List Tm) (w : World) (e : Ending) (w' : World) : Prop := ∃ v, e = .returned v ∧ TmO w' (Fresh w w') v l ∧ Below w.heap.size w w'
theorem toTs_any (l : List Tm) (w : World) (v : Value) (h : TmS w v l) (hw : wtTs l ≤ 1048576) : Calls Try.prog 11 #[v] w (ToTsEnd l w) :=
  toTermS_of l (fun t _ => toTerm_any t) w v h hw
theorem eqTs_any (l r : List Tm) (w : World) (va vb : Value) (ha : TmS w va l) (hb : TmS w vb r) (hl : limTs 1048576 l) (hr : limTs 1048576 r) : Calls Try.prog 14 #[va, vb] w (EqEnd (eqTs l r) w) :=
  eqTermS_of l (fun t _ => eqTerm_any t) r w va vb ha hb hl.1 (Tm.limL_mem.2 hl.2) hr.1 (Tm.limL_mem.2 hr.2)

section
variable {H : Type} {enc : TypeId × Value → H} {w : World} {base : Nat} {sp : Nat → Bool} {hd : Bool}
set_option maxRecDepth 100000 in
/-- The argument is a list of terms. -/
theorem open_ts {r : Reach} {b0 : Nat} {v : Value} {d : DataW H} {p : List MemPlace} (hv : Value.okWide Try.prog w r b0 26 v)
    (h : DataW.Trod enc Try.prog w base sp hd 26 v d p) : ∃ l, TmS w v l ∧ limTs 9223372036854775807 l := by
  obtain ⟨a0, len0, cap0, rfl⟩ := okWide_slice Try.underlying26 hv
  obtain ⟨fuel, hf⟩ := h
  obtain ⟨v', l, hcs, hb, hll, hl⟩ := open_terms 9223372036854775807 (by unfold maxLen; omega) fuel _ _ hf
  simp [Value.cells] at hcs
  subst hcs
  exact ⟨l, hb, hll, Tm.limL_mem.1 hl⟩
end
end Go.Proofs.Ytohalpafmcobpaa

/- The first equation of a list that is not decreasing: the plain facts. No condition. -/
namespace Go.Proofs.Ytohalpafmcobpaa
open Go.RowKit
set_option linter.unusedVariables false

def Od.fnd (o : Od) : Nat → List Tm → Int
  | _, [] => -1
  | i, t :: r => if o.decB t then Od.fnd o (i + 1) r else i

theorem fnd_split (o : Od) : ∀ (a b : List Tm) (i : Nat), o.fnd i (a ++ b) = if o.fnd i a = -1 then o.fnd (i + a.length) b else o.fnd i a
  | [], b, i => by simp [Od.fnd]
  | t :: r, b, i => by
    rw [List.cons_append, Od.fnd, Od.fnd]
    cases h : o.decB t with
    | true =>
      simp only [if_pos]
      rw [fnd_split o r b (i + 1), List.length_cons, show i + 1 + r.length = i + (r.length + 1) by omega]
    | false =>
      have hi : ¬ ((i : Int) = -1) := by omega
      simp [hi]
theorem fnd_range (o : Od) : ∀ (l : List Tm) (i : Nat), o.fnd i l = -1 ∨ ∃ k : Nat, o.fnd i l = k ∧ k < i + l.length
  | [], i => .inl (by rw [Od.fnd])
  | t :: r, i => by
    rw [Od.fnd]
    cases h : o.decB t with
    | true =>
      simp only [if_true]
      rcases fnd_range o r (i + 1) with h | ⟨k, h, hk⟩
      · exact .inl h
      · exact .inr ⟨k, h, by simp; omega⟩
    | false => exact .inr ⟨i, by simp, by simp⟩

theorem fnd_next {o : Od} {l : List Tm} {k : Nat} {t : Tm} (ht : l[k]? = some t) : o.fnd 0 (l.take (k + 1)) = if o.fnd 0 (l.take k) = -1 then (if o.decB t then -1 else (k : Int)) else o.fnd 0 (l.take k) := by
  have hk := (List.getElem?_eq_some_iff.1 ht).1
  rw [take_next ht, fnd_split, List.length_take, Nat.min_eq_left (by omega), Nat.zero_add]
  simp [Od.fnd]
theorem fnd_stop {o : Od} {l : List Tm} {k : Nat} {t : Tm} (ht : l[k]? = some t) (h : o.fnd 0 (l.take k) = -1) (hd : o.decB t = false) : o.fnd 0 l = k := by
  have h1 := fnd_next (o := o) ht
  rw [h, hd] at h1
  simp at h1
  have h2 := fnd_split o (l.take (k + 1)) (l.drop (k + 1)) 0
  rw [List.take_append_drop] at h2
  rw [h2, h1]
  have hi : ¬ ((k : Int) = -1) := by omega
  simp [hi]
theorem fnd_all {o : Od} {l : List Tm} {k : Nat} (h : l.length ≤ k) : o.fnd 0 (l.take k) = o.fnd 0 l := by rw [List.take_of_length_le h]

def Od.fndR (o : Od) (l : List Tm) : Int := if o.fndOk l then o.fnd 0 l else 0
theorem fndR_no {o : Od} {l : List Tm} (h : o.fndOk l = false) : o.fndR l = 0 := by unfold Od.fndR; rw [h]; rfl
theorem fndR_yes {o : Od} {l : List Tm} (h : o.fndOk l = true) : o.fndR l = o.fnd 0 l := by unfold Od.fndR; rw [h]; rfl
theorem fndOk_g {o : Od} {l : List Tm} (h : o.good = false) : o.fndOk l = false := by unfold Od.fndOk; rw [h]; rfl
theorem fndOk_l {o : Od} {l : List Tm} (h : ¬ l.length ≤ 8) : o.fndOk l = false := by unfold Od.fndOk; simp [h]
theorem fndOk_e {o : Od} {l : List Tm} {k : Nat} {t : Tm} (ht : l[k]? = some t) (h : o.eqOk t = false) : o.fndOk l = false := by
  unfold Od.fndOk
  have : l.all o.eqOk = false := by rw [List.all_eq_false]; exact ⟨t, List.mem_of_getElem? ht, by simp [h]⟩
  rw [this]; simp
theorem fndOk_y {o : Od} {l : List Tm} (hg : o.good = true) (hl : l.length ≤ 8) (h : ∀ (j : Nat) (t : Tm), l[j]? = some t → o.eqOk t = true) : o.fndOk l = true := by
  unfold Od.fndOk
  have : l.all o.eqOk = true := by rw [List.all_eq_true]; intro t ht; obtain ⟨j, hj⟩ := List.getElem?_of_mem ht; exact h j t hj
  rw [hg, this]; simp [hl]
theorem oriOk_of {o : Od} {t : Tm} (hg : o.good = true) : o.oriOk t = o.eqOk t := by unfold Od.oriOk; rw [hg]; rfl

end Go.Proofs.Ytohalpafmcobpaa

/- The model's FirstNotDecreasing, as a contract, for orderings and lists of terms of at most 1048576 names' bytes and elements. -/
namespace Go.Proofs.Ytohalpafmcobpaa
open Go.RowKit
set_option linter.unusedVariables false

set_option maxRecDepth 100000 in
set_option maxHeartbeats 8000000 in
theorem specFnd_any (o : Od) (ho : o.wt ≤ 1048576) (l : List Tm) (w : World) (sv wv v : Value) (hv : OdV w sv wv o) (ht : TmS w v l) (hw : wtTs l ≤ 1048576) :
    Calls Try.prog 9 #[.agg #[sv, wv, .int .i64 o.va], v] w (Ans (.tuple #[.int .i64 (o.fndR l), .bool (o.fndOk l)]) w) := by
  obtain ⟨sa, sc, wa, wc, rfl, rfl⟩ := hv.open
  obtain ⟨a, c, rfl⟩ := ht.is_slice
  have HB := Lib.hid ((Below.refl w.heap.size w).alloc (Nat.le_refl _) (.cells #[.slice sa o.sy.length sc, .slice wa o.ws.length wc, .int .i64 o.va] 31))
  have H3 : Hid (OdB (w.alloc (.cells #[.slice sa o.sy.length sc, .slice wa o.ws.length wc, .int .i64 o.va] 31)) w.heap.size (.slice sa o.sy.length sc) (.slice wa o.ws.length wc) o) := Lib.hid (thr_new w _ _ _ _ _ rfl)
  have HV := Lib.hid hv
  have HTT := Lib.hid ht
  have HW := Lib.hid hw
  have hlm := Nat.le_trans (wtTs_len l) hw
  clear hv ht hw
  go_enter Try.func9, Try.ntmps9
  obtain ⟨b0, b1, b2, b3⟩ := H3.out
  go_wp2_with fail
  refine (l6Good_any o _ _ _ (HV.out.kept HB.out) ho).mono ?_
  rintro e uA ⟨rfl, hb⟩
  replace HB := Lib.hid (carry_below HB.out (Nat.le_refl _) hb)
  replace H3 := Lib.hid (H3.out.kept hb)
  clear hb b0 b1 b2 b3
  obtain ⟨b0, b1, b2, b3⟩ := H3.out
  cases hg : o.good with
  | false =>
    have HO := Lib.hid (fndOk_g (l := l) hg)
    have HR := Lib.hid (fndR_no HO.out)
    clear hg
    go_wp2
    go_ret2
    exact ⟨ret_pair HR.out.symm HO.out.symm, HB.out⟩
  | true =>
    have HG := Lib.hid hg
    clear hg
    by_cases hl8 : l.length ≤ 8
    · have hl9 : ¬ (8 : Int) < (l.length : Int) := by omega
      have hl9t : decide ((8 : Int) < (l.length : Int)) = false := by simp; omega
      go_wp2
      go_loopw [6] (fun i wr => ∃ k : Nat, k ≤ l.length ∧ i = .int .i64 k ∧ (∀ (j : Nat) (t : Tm), j < k → l[j]? = some t → o.eqOk t = true) ∧ OdB wr w.heap.size (.slice sa o.sy.length sc) (.slice wa o.ws.length wc) o ∧ Below w.heap.size w wr) (fun i _ => l.length - (intOf i).toNat)
      case atStart => exact ⟨0, Nat.zero_le _, rfl, fun j t hj => absurd hj (Nat.not_lt_zero _), H3.out, HB.out⟩
      case round =>
        obtain ⟨k, hk, rfl, hq, h3, hbel⟩ := hrel
        have HQ := Lib.hid hq
        replace H3 := Lib.hid h3
        replace HB := Lib.hid hbel
        clear hq h3 hbel b0 b1 b2 b3
        obtain ⟨b0, b1, b2, b3⟩ := H3.out
        by_cases hlt : k < l.length
        · obtain ⟨t, hs⟩ : ∃ t, l[k]? = some t := ⟨_, List.getElem?_eq_getElem hlt⟩
          obtain ⟨b, off, rfl, va, c0, c1, hva⟩ := HTT.out.get hs
          obtain ⟨p, q, rfl⟩ := hva.is_slice
          have c0' := carry_cell c0 HB.out
          have c1' := carry_cell c1 HB.out
          have HTA := Lib.hid hva
          have HS := Lib.hid hs
          have hwt : t.wt ≤ 1048576 := Nat.le_trans (wtTs_mem (mem_of_at hs)) HW.out
          have CQ : Hid (∀ W, Below wr.heap.size wr W → Calls Try.prog 36 #[.agg #[.slice sa o.sy.length sc, .slice wa o.ws.length wc, .int .i64 o.va], .agg #[.string t.name, .slice p t.args.length q]] W (Ans (.bool (o.eqOk t)) W)) := Lib.hid (fun W hW => l6Eqn_any o ho t W _ _ _ (HV.out.kept (HB.out.trans (hW.mono HB.out.size))) (HTA.out.kept (HB.out.trans (hW.mono HB.out.size))) hwt)
          clear hs c0 c1 hva
          go_wp2_with fail
          have hB0 : Below wr.heap.size wr wr.drew := (Below.refl _ _).drew
          go_region_held3 (fun w' => w'.cell? ⟨w.heap.size, 0, none⟩ = some (.slice sa o.sy.length sc) ∧ w'.cell? ⟨w.heap.size, 1, none⟩ = some (.slice wa o.ws.length wc) ∧ w'.cell? ⟨w.heap.size, 2, none⟩ = some (.int .i64 o.va) ∧ w'.cell? ⟨b, off + k * 2, none⟩ = some (.string t.name) ∧ w'.cell? ⟨b, off + k * 2 + 1, none⟩ = some (.slice p t.args.length q) ∧ Below wr.heap.size wr w') (first | exact ⟨by assumption, by assumption, by assumption, by assumption, by assumption, by assumption⟩ | go_keep) (first | (go_at_call 36; refine (CQ.out _ (by assumption)).mono ?_; rintro e uC ⟨rfl, hb⟩; have qa0 : uC.cell? ⟨w.heap.size, 0, none⟩ = some (.slice sa o.sy.length sc) := carry_cell' hb (by assumption); have qa1 : uC.cell? ⟨w.heap.size, 1, none⟩ = some (.slice wa o.ws.length wc) := carry_cell' hb (by assumption); have qa2 : uC.cell? ⟨w.heap.size, 2, none⟩ = some (.int .i64 o.va) := carry_cell' hb (by assumption); have qa3 : uC.cell? ⟨b, off + k * 2, none⟩ = some (.string t.name) := carry_cell' hb (by assumption); have qa4 : uC.cell? ⟨b, off + k * 2 + 1, none⟩ = some (.slice p t.args.length q) := carry_cell' hb (by assumption); have huC : Below wr.heap.size wr uC := carry_below (by assumption) (Nat.le_refl _) hb; have hbk := hb; clear hb))
          clear hB0 qa0 qa1 qa2 qa3 qa4
          have hb := huC
          clear huC hbk
          replace HB := Lib.hid (carry_below HB.out (Nat.le_refl _) hb)
          replace H3 := Lib.hid (H3.out.kept hb)
          clear hb b0 b1 b2 b3
          obtain ⟨b0, b1, b2, b3⟩ := H3.out
          cases he : o.eqOk t with
          | false =>
            have HO := Lib.hid (fndOk_e HS.out he)
            have HR := Lib.hid (fndR_no HO.out)
            clear he
            go_wp2
            go_ret2
            exact ⟨ret_pair HR.out.symm HO.out.symm, HB.out⟩
          | true =>
            have HN : Hid (∀ (j : Nat) (s : Tm), j < k + 1 → l[j]? = some s → o.eqOk s = true) := Lib.hid (fun j s hj hs => by
              by_cases e : j = k
              · subst e; rw [HS.out] at hs; injection hs with hs; subst hs; exact he
              · exact HQ.out j s (by omega) hs)
            clear he
            go_wp2
            go_roundw
            case rel => exact ⟨k + 1, by omega, by go_num, HN.out, H3.out, HB.out⟩
            case measure => simp [intOf]; omega
        · have hke : k = l.length := by omega
          subst hke
          have HALL : Hid (∀ (j : Nat) (t : Tm), l[j]? = some t → o.eqOk t = true) := Lib.hid (fun j t ht => HQ.out j t (List.getElem?_eq_some_iff.1 ht).1 ht)
          have HO := Lib.hid (fndOk_y HG.out hl8 HALL.out)
          have HR := Lib.hid (fndR_yes HO.out)
          clear hlt hk HQ
          go_wp2
          obtain ⟨wo, hwo⟩ : ∃ wo : World, wo = wr := ⟨_, rfl⟩
          rw [← hwo] at H3 HB b0 b1 b2 b3 ⊢
          clear hwo
          go_loopw [7] (fun i wr => ∃ k : Nat, k ≤ l.length ∧ i = .int .i64 k ∧ o.fnd 0 (l.take k) = -1 ∧ OdB wr w.heap.size (.slice sa o.sy.length sc) (.slice wa o.ws.length wc) o ∧ Below w.heap.size w wr) (fun i _ => l.length - (intOf i).toNat)
          case atStart => exact ⟨0, Nat.zero_le _, rfl, by simp [Od.fnd], H3.out, HB.out⟩
          case round =>
            obtain ⟨k, hk, rfl, hq, h3, hbel⟩ := hrel
            have HQ := Lib.hid hq
            replace H3 := Lib.hid h3
            replace HB := Lib.hid hbel
            clear hq h3 hbel b0 b1 b2 b3
            obtain ⟨b0, b1, b2, b3⟩ := H3.out
            by_cases hlt : k < l.length
            · obtain ⟨t, hs⟩ : ∃ t, l[k]? = some t := ⟨_, List.getElem?_eq_getElem hlt⟩
              obtain ⟨d, dff, rfl, va, c0, c1, hva⟩ := HTT.out.get hs
              obtain ⟨x, y, hxy, ⟨gx, cx⟩, ⟨gy, cy⟩, hn, hat⟩ := eqOk_two (HALL.out k t hs)
              obtain ⟨b, off, ca, p, c2, p', c', rfl, ⟨x0, x1, y0, y1⟩, hx, hy⟩ := two_at hva hxy
              have hwt : t.wt ≤ 1048576 := Nat.le_trans (wtTs_mem (mem_of_at hs)) HW.out
              have hwx : x.wt ≤ 1048576 := Nat.le_trans (Tm.wt_arg (t := t) (by rw [hxy]; simp)) hwt
              have hwy : y.wt ≤ 1048576 := Nat.le_trans (Tm.wt_arg (t := t) (by rw [hxy]; simp)) hwt
              have hsd := sides hxy
              have l0 : 0 < t.args.length := by rw [hxy]; simp
              have l1 : 1 < t.args.length := by rw [hxy]; simp
              have l1i : (1 : Int) < (t.args.length : Int) := by omega
              have l1t : decide ((1 : Int) < (t.args.length : Int)) = true := by simp; omega
              have HDEC : Hid (o.decB t = kbo o x y) := Lib.hid (by unfold Od.decB; rw [hsd.1, hsd.2])
              have HS := Lib.hid hs
              replace c1 := carry_cell c1 HB.out
              replace x0 := carry_cell x0 HB.out
              replace x1 := carry_cell x1 HB.out
              replace y0 := carry_cell y0 HB.out
              replace y1 := carry_cell y1 HB.out
              have HX := Lib.hid hx
              have HY := Lib.hid hy
              have HPX := Lib.hid (ok_of hwx gx cx)
              have HPY := Lib.hid (ok_of hwy gy cy)
              have CK : Hid (∀ W, Below wr.heap.size wr W → Calls Try.prog 37 #[.agg #[.slice sa o.sy.length sc, .slice wa o.ws.length wc, .int .i64 o.va], .agg #[.string x.name, .slice p x.args.length c2], .agg #[.string y.name, .slice p' y.args.length c']] W (Ans (.bool (kbo o x y)) W)) := Lib.hid (fun W hW => l6KBO_any o ho (Od.good_fine HG.out) x y W _ _ _ _ (HV.out.kept (HB.out.trans (hW.mono HB.out.size))) (HX.out.kept (HB.out.trans (hW.mono HB.out.size))) (HY.out.kept (HB.out.trans (hW.mono HB.out.size))) HPX.out HPY.out)
              clear hs c0 hva hxy gx cx gy cy hn hat hx hy hsd
              go_wp2_with fail
              have hB0 : Below wr.heap.size wr wr.drew := (Below.refl _ _).drew
              go_region_held3 (fun w' => w'.cell? ⟨w.heap.size, 0, none⟩ = some (.slice sa o.sy.length sc) ∧ w'.cell? ⟨w.heap.size, 1, none⟩ = some (.slice wa o.ws.length wc) ∧ w'.cell? ⟨w.heap.size, 2, none⟩ = some (.int .i64 o.va) ∧ w'.cell? ⟨d, dff + k * 2 + 1, none⟩ = some (.slice (some ⟨b, off, none⟩) t.args.length ca) ∧ w'.cell? ⟨b, off, none⟩ = some (.string x.name) ∧ w'.cell? ⟨b, off + 1, none⟩ = some (.slice p x.args.length c2) ∧ w'.cell? ⟨b, off + 2, none⟩ = some (.string y.name) ∧ w'.cell? ⟨b, off + 3, none⟩ = some (.slice p' y.args.length c') ∧ Below wr.heap.size wr w') (first | exact ⟨by assumption, by assumption, by assumption, by assumption, by assumption, by assumption, by assumption, by assumption, by assumption⟩ | go_keep) (first | (go_at_call 37; refine (CK.out _ (by assumption)).mono ?_; rintro e uC ⟨rfl, hb⟩; have qa0 : uC.cell? ⟨w.heap.size, 0, none⟩ = some (.slice sa o.sy.length sc) := carry_cell' hb (by assumption); have qa1 : uC.cell? ⟨w.heap.size, 1, none⟩ = some (.slice wa o.ws.length wc) := carry_cell' hb (by assumption); have qa2 : uC.cell? ⟨w.heap.size, 2, none⟩ = some (.int .i64 o.va) := carry_cell' hb (by assumption); have qa3 : uC.cell? ⟨d, dff + k * 2 + 1, none⟩ = some (.slice (some ⟨b, off, none⟩) t.args.length ca) := carry_cell' hb (by assumption); have qa4 : uC.cell? ⟨b, off, none⟩ = some (.string x.name) := carry_cell' hb (by assumption); have qa5 : uC.cell? ⟨b, off + 1, none⟩ = some (.slice p x.args.length c2) := carry_cell' hb (by assumption); have qa6 : uC.cell? ⟨b, off + 2, none⟩ = some (.string y.name) := carry_cell' hb (by assumption); have qa7 : uC.cell? ⟨b, off + 3, none⟩ = some (.slice p' y.args.length c') := carry_cell' hb (by assumption); have huC : Below wr.heap.size wr uC := carry_below (by assumption) (Nat.le_refl _) hb; have hbk := hb; clear hb))
              clear hB0 qa0 qa1 qa2 qa3 qa4 qa5 qa6 qa7
              have hb := huC
              clear huC hbk
              replace HB := Lib.hid (carry_below HB.out (Nat.le_refl _) hb)
              replace H3 := Lib.hid (H3.out.kept hb)
              clear hb b0 b1 b2 b3
              obtain ⟨b0, b1, b2, b3⟩ := H3.out
              cases hk2 : kbo o x y with
              | false =>
                have HN := Lib.hid (fnd_stop HS.out HQ.out (HDEC.out.trans hk2))
                clear hk2
                go_wp2
                go_ret2
                exact ⟨ret_pair (by rw [HR.out, HN.out]) HO.out.symm, HB.out⟩
              | true =>
                have HN : Hid (o.fnd 0 (l.take (k + 1)) = -1) := Lib.hid (by rw [fnd_next HS.out, HQ.out, HDEC.out, hk2]; rfl)
                clear hk2
                go_wp2
                go_roundw
                case rel => exact ⟨k + 1, by omega, by go_num, HN.out, H3.out, HB.out⟩
                case measure => simp [intOf]; omega
            · have HN : Hid (o.fnd 0 l = -1) := Lib.hid (by rw [← fnd_all (k := k) (by omega)]; exact HQ.out)
              go_wp2
              go_ret2
              exact ⟨ret_pair (by rw [HR.out, HN.out]) HO.out.symm, HB.out⟩
    · have hl9 : (8 : Int) < (l.length : Int) := by omega
      have hl9t : decide ((8 : Int) < (l.length : Int)) = true := by simp; omega
      have HO := Lib.hid (fndOk_l (o := o) hl8)
      have HR := Lib.hid (fndR_no HO.out)
      go_wp2
      go_ret2
      exact ⟨ret_pair HR.out.symm HO.out.symm, HB.out⟩

end Go.Proofs.Ytohalpafmcobpaa

/- The program's FirstNotDecreasing, as a contract, for orderings and lists of terms of at most 1048576 names' bytes and elements. -/
namespace Go.Proofs.Ytohalpafmcobpaa
open Go.RowKit
set_option linter.unusedVariables false

/-- What calling OrientEquation leaves, where only the flag is looked at. -/
theorem ori_ok {o : Od} {t : Tm} {w : World} {e : Ending} {w' : World} (h : OriEnd (o.oriR t) (o.oriB t) (o.oriOk t) w e w') : ∃ (nm : ByteArray) (a : Option Addr) (n c : Nat) (q : Bool), e = .returned (.tuple #[.agg #[.string nm, .slice a n c], .bool q, .bool (o.oriOk t)]) ∧ Below w.heap.size w w' := by
  obtain ⟨va, rfl, ho, hb⟩ := h
  obtain ⟨p, c, rfl⟩ := ho.read.is_slice
  exact ⟨_, p, _, c, _, rfl, hb⟩

set_option maxRecDepth 100000 in
set_option maxHeartbeats 8000000 in
theorem implFnd_any (o : Od) (ho : o.wt ≤ 1048576) (l : List Tm) (w : World) (sv wv v : Value) (hv : OdV w sv wv o) (ht : TmS w v l) (hw : wtTs l ≤ 1048576) :
    Calls Try.prog 12 #[.agg #[sv, wv, .int .i64 o.va], v] w (Ans (.tuple #[.int .i64 (o.fndR l), .bool (o.fndOk l)]) w) := by
  obtain ⟨sa, sc, wa, wc, rfl, rfl⟩ := hv.open
  obtain ⟨a, c, rfl⟩ := ht.is_slice
  have HB := Lib.hid ((Below.refl w.heap.size w).alloc (Nat.le_refl _) (.cells #[.slice sa o.sy.length sc, .slice wa o.ws.length wc, .int .i64 o.va] 31))
  have H3 : Hid (OdB (w.alloc (.cells #[.slice sa o.sy.length sc, .slice wa o.ws.length wc, .int .i64 o.va] 31)) w.heap.size (.slice sa o.sy.length sc) (.slice wa o.ws.length wc) o) := Lib.hid (thr_new w _ _ _ _ _ rfl)
  have HV := Lib.hid hv
  have HTT := Lib.hid ht
  have HW := Lib.hid hw
  have hlm := Nat.le_trans (wtTs_len l) hw
  clear hv ht hw
  by_cases hl8 : l.length ≤ 8
  · have hl9 : ¬ (8 : Int) < (l.length : Int) := by omega
    have hl9t : decide ((8 : Int) < (l.length : Int)) = false := by simp; omega
    go_enter Try.func12, Try.ntmps12
    obtain ⟨b0, b1, b2, b3⟩ := H3.out
    go_wp2_with fail
    refine (implVOrd_any o _ _ _ (HV.out.kept HB.out) ho).mono ?_
    rintro e uA ⟨rfl, hb⟩
    replace HB := Lib.hid (carry_below HB.out (Nat.le_refl _) hb)
    replace H3 := Lib.hid (H3.out.kept hb)
    clear hb b0 b1 b2 b3
    obtain ⟨b0, b1, b2, b3⟩ := H3.out
    cases hg : o.good with
    | false =>
      have HO := Lib.hid (fndOk_g (l := l) hg)
      have HR := Lib.hid (fndR_no HO.out)
      clear hg
      go_wp2
      go_ret2
      exact ⟨ret_pair HR.out.symm HO.out.symm, HB.out⟩
    | true =>
      have HG := Lib.hid hg
      clear hg
      go_wp2
      go_loopw [6, 22] (fun f i wr => ∃ (k : Nat) (r : Int), k ≤ l.length ∧ i = .int .i64 k ∧ f = .int .i64 r ∧ (r = o.fnd 0 (l.take k) ∧ ∀ (j : Nat) (t : Tm), j < k → l[j]? = some t → o.eqOk t = true) ∧ OdB wr w.heap.size (.slice sa o.sy.length sc) (.slice wa o.ws.length wc) o ∧ Below w.heap.size w wr) (fun _ i _ => l.length - (intOf i).toNat)
      case atStart => exact ⟨0, -1, Nat.zero_le _, rfl, rfl, ⟨by simp [Od.fnd], fun j t hj => absurd hj (Nat.not_lt_zero _)⟩, H3.out, HB.out⟩
      case round =>
        obtain ⟨k, r, hk, rfl, rfl, hq, h3, hbel⟩ := hrel
        have HQ := Lib.hid hq
        replace H3 := Lib.hid h3
        replace HB := Lib.hid hbel
        clear hq h3 hbel b0 b1 b2 b3
        obtain ⟨b0, b1, b2, b3⟩ := H3.out
        by_cases hlt : k < l.length
        · obtain ⟨t, hs⟩ : ∃ t, l[k]? = some t := ⟨_, List.getElem?_eq_getElem hlt⟩
          obtain ⟨d, dff, rfl, va, c0, c1, hva⟩ := HTT.out.get hs
          obtain ⟨p0, q0, rfl⟩ := hva.is_slice
          have c0' := carry_cell c0 HB.out
          have c1' := carry_cell c1 HB.out
          have hwt : t.wt ≤ 1048576 := Nat.le_trans (wtTs_mem (mem_of_at hs)) HW.out
          have HVA := Lib.hid hva
          have HS := Lib.hid hs
          obtain ⟨W1, hW1⟩ : ∃ W1, wr.alloc (.cells #[.string t.name, .slice p0 t.args.length q0] 49) = W1 := ⟨_, rfl⟩
          have HT : Hid (Two W1 wr.heap.size (.string t.name) (.slice p0 t.args.length q0)) := Lib.hid (by rw [← hW1]; exact two_new wr _ _ _ _ rfl)
          have hb : Below wr.heap.size wr W1 := by rw [← hW1]; exact (Below.refl _ _).alloc (Nat.le_refl _) _
          have hzr : w.heap.size < wr.heap.size := World.block_lt_of_cell? wr ⟨w.heap.size, 0, none⟩ b0
          clear hs c0 c1 hva
          replace HB := Lib.hid (carry_below HB.out (Nat.le_refl _) hb)
          replace H3 := Lib.hid (H3.out.kept hb)
          clear b0 b1 b2 b3
          obtain ⟨b0, b1, b2, b3⟩ := H3.out
          have hz1 : wr.heap.size < W1.heap.size := World.block_lt_of_cell? W1 ⟨wr.heap.size, 0, none⟩ HT.out.1
          clear hb
          obtain ⟨t0, t1, t2⟩ := HT.out
          go_wp2_with fail
          refine (implOri_any o ho t _ _ _ _ (HV.out.kept HB.out) (HVA.out.kept HB.out) hwt).mono ?_
          intro e uB hori
          obtain ⟨nm, pr, nr, cr, qr, rfl, hb⟩ := ori_ok hori
          rw [oriOk_of HG.out]
          replace HT := Lib.hid (HT.out.kept hb)
          have hz2 : W1.heap.size ≤ uB.heap.size := hb.size
          clear hori t0 t1 t2
          obtain ⟨t0, t1, t2⟩ := HT.out
          replace HB := Lib.hid (carry_below HB.out (Nat.le_refl _) hb)
          replace H3 := Lib.hid (H3.out.kept hb)
          clear hb b0 b1 b2 b3
          obtain ⟨b0, b1, b2, b3⟩ := H3.out
          cases he : o.eqOk t with
          | false =>
            have HO := Lib.hid (fndOk_e HS.out he)
            have HR := Lib.hid (fndR_no HO.out)
            clear he
            go_wp2
            go_ret2
            exact ⟨ret_pair HR.out.symm HO.out.symm, HB.out.alloc HB.out.size _⟩
          | true =>
            have HN : Hid (∀ (j : Nat) (s : Tm), j < k + 1 → l[j]? = some s → o.eqOk s = true) := Lib.hid (fun j s hj hs => by
              by_cases e : j = k
              · subst e; rw [HS.out] at hs; injection hs with hs; subst hs; exact he
              · exact HQ.out.2 j s (by omega) hs)
            obtain ⟨x, y, hxy, ⟨gx, cx⟩, ⟨gy, cy⟩, hn, hat⟩ := eqOk_two he
            obtain ⟨b, off, ca, p, c2, p', c', hsl, ⟨x0, x1, y0, y1⟩, hx, hy⟩ := two_at HVA.out hxy
            injection hsl with e1 e2 e3
            subst e1 e3
            have hwx : x.wt ≤ 1048576 := Nat.le_trans (Tm.wt_arg (t := t) (by rw [hxy]; simp)) hwt
            have hwy : y.wt ≤ 1048576 := Nat.le_trans (Tm.wt_arg (t := t) (by rw [hxy]; simp)) hwt
            have hsd := sides hxy
            have l0 : 0 < t.args.length := by rw [hxy]; simp
            have l1 : 1 < t.args.length := by rw [hxy]; simp
            have l1i : (1 : Int) < (t.args.length : Int) := by omega
            have l1t : decide ((1 : Int) < (t.args.length : Int)) = true := by simp; omega
            have HDEC : Hid (o.decB t = kbo o x y) := Lib.hid (by unfold Od.decB; rw [hsd.1, hsd.2])
            have HX := Lib.hid hx
            have HY := Lib.hid hy
            have HPX := Lib.hid (okP_ofG hwx gx cx)
            have HPY := Lib.hid (okP_ofG hwy gy cy)
            have HNX := Lib.hid (fnd_next (o := o) HS.out)
            obtain ⟨W2, hW2⟩ : ∃ W2, uB.alloc (.cells #[.string nm, .slice pr nr cr] 49) = W2 := ⟨_, rfl⟩
            have hb : Below uB.heap.size uB W2 := by rw [← hW2]; exact (Below.refl _ _).alloc (Nat.le_refl _) _
            replace HT := Lib.hid (HT.out.kept hb)
            have hz3 : uB.heap.size ≤ W2.heap.size := hb.size
            clear he hxy gx cx gy cy hn hat hx hy hsd t0 t1 t2
            obtain ⟨t0, t1, t2⟩ := HT.out
            replace HB := Lib.hid (carry_below HB.out (Nat.le_refl _) hb)
            replace H3 := Lib.hid (H3.out.kept hb)
            clear b0 b1 b2 b3
            obtain ⟨b0, b1, b2, b3⟩ := H3.out
            clear hb
            replace x0 := carry_cell x0 HB.out
            replace x1 := carry_cell x1 HB.out
            replace y0 := carry_cell y0 HB.out
            replace y1 := carry_cell y1 HB.out
            have CK : Hid (∀ W, Below W2.heap.size W2 W → Calls Try.prog 42 #[.agg #[.slice sa o.sy.length sc, .slice wa o.ws.length wc, .int .i64 o.va], .agg #[.string x.name, .slice p x.args.length c2], .agg #[.string y.name, .slice p' y.args.length c']] W (Ans (.bool (kbo o x y)) W)) := Lib.hid (fun W hW => kboP_any o ho (Od.good_fine HG.out) x y W _ _ _ _ (HV.out.kept (HB.out.trans (hW.mono HB.out.size))) (HX.out.kept (HB.out.trans (hW.mono HB.out.size))) (HY.out.kept (HB.out.trans (hW.mono HB.out.size))) HPX.out HPY.out)
            have hfr := fnd_range o (l.take k) 0
            by_cases hr : r = -1
            · have HRN : Hid (o.fnd 0 (l.take (k + 1)) = if kbo o x y then -1 else (k : Int)) := Lib.hid (by rw [HNX.out, ← HQ.out.1, if_pos hr, HDEC.out])
              subst hr
              clear hfr
              go_wp2_with fail
              have hB0 : Below W2.heap.size W2 W2.drew := (Below.refl _ _).drew
              refine wp_region_held_drew (S := (fun w' => w'.cell? ⟨w.heap.size, 0, none⟩ = some (.slice sa o.sy.length sc) ∧ w'.cell? ⟨w.heap.size, 1, none⟩ = some (.slice wa o.ws.length wc) ∧ w'.cell? ⟨w.heap.size, 2, none⟩ = some (.int .i64 o.va) ∧ w'.cell? ⟨wr.heap.size, 1, none⟩ = some (.slice (some ⟨b, off, none⟩) t.args.length q0) ∧ w'.cell? ⟨b, off, none⟩ = some (.string x.name) ∧ w'.cell? ⟨b, off + 1, none⟩ = some (.slice p x.args.length c2) ∧ w'.cell? ⟨b, off + 2, none⟩ = some (.string y.name) ∧ w'.cell? ⟨b, off + 3, none⟩ = some (.slice p' y.args.length c') ∧ Below W2.heap.size W2 w')) (by kernel_rfl) (by first | exact ⟨by assumption, by assumption, by assumption, by assumption, by assumption, by assumption, by assumption, by assumption, by assumption⟩ | go_keep) (fun hHeld => ?_)
              refine takeYesE 0 (v := ?_) rfl (by kernel_rfl) (by kernel_rfl) (by kernel_rfl) (by rfl) (fun _ _ _ h => h) (by assumption) ?_ ?_; rotate_left; (intro w hSw; (try dsimp only at hSw); go_simp; try (with_reducible rfl))
              try simp only [Act.put, List.getElem_toArray, List.getElem_cons_zero, List.setIfInBounds_toArray, List.set_cons_zero, List.set_cons_succ]
              refine takeYesE 1 (v := ?_) rfl (by kernel_rfl) (by kernel_rfl) (by kernel_rfl) (by rfl) (fun _ _ _ h => h) (by assumption) ?_ ?_; rotate_left; (intro w hSw; (try dsimp only at hSw); go_simp; try (with_reducible rfl))
              try simp only [Act.put, List.getElem_toArray, List.getElem_cons_zero, List.getElem_cons_succ, List.setIfInBounds_toArray, List.set_cons_zero, List.set_cons_succ]
              refine takeYesE 2 (v := ?_) rfl (by kernel_rfl) (by kernel_rfl) (by kernel_rfl) (by rfl) (fun _ _ _ h => h) (by assumption) ?_ ?_; rotate_left; (intro w hSw; (try dsimp only at hSw); go_simp; try (with_reducible rfl))
              try simp only [Act.put, List.getElem_toArray, List.getElem_cons_zero, List.getElem_cons_succ, List.setIfInBounds_toArray, List.set_cons_zero, List.set_cons_succ]
              refine takeYesE 3 (v := ?_) rfl (by kernel_rfl) (by kernel_rfl) (by kernel_rfl) (by rfl) (fun _ _ _ h => h) (by assumption) ?_ ?_; rotate_left; (intro w hSw; (try dsimp only at hSw); go_simp; try (with_reducible rfl))
              try simp only [Act.put, List.getElem_toArray, List.getElem_cons_zero, List.getElem_cons_succ, List.setIfInBounds_toArray, List.set_cons_zero, List.set_cons_succ]
              refine takeYesE 4 (v := ?_) rfl (by kernel_rfl) (by kernel_rfl) (by kernel_rfl) (by rfl) (fun _ _ _ h => h) (by assumption) ?_ ?_; rotate_left; (intro w hSw; (try dsimp only at hSw); go_simp; try (with_reducible rfl))
              try simp only [Act.put, List.getElem_toArray, List.getElem_cons_zero, List.getElem_cons_succ, List.setIfInBounds_toArray, List.set_cons_zero, List.set_cons_succ]
              refine takeYesE 5 (v := ?_) rfl (by kernel_rfl) (by kernel_rfl) (by kernel_rfl) (by rfl) (fun _ _ _ h => h) (by assumption) ?_ ?_; rotate_left; (intro w hSw; (try dsimp only at hSw); go_simp; try (with_reducible rfl))
              try simp only [Act.put, List.getElem_toArray, List.getElem_cons_zero, List.getElem_cons_succ, List.setIfInBounds_toArray, List.set_cons_zero, List.set_cons_succ]
              refine takeYesE 6 (v := ?_) rfl (by kernel_rfl) (by kernel_rfl) (by kernel_rfl) (by rfl) (fun _ _ _ h => h) (by assumption) ?_ ?_; rotate_left; (intro w hSw; (try dsimp only at hSw); go_simp; try (with_reducible rfl))
              try simp only [Act.put, List.getElem_toArray, List.getElem_cons_zero, List.getElem_cons_succ, List.setIfInBounds_toArray, List.set_cons_zero, List.set_cons_succ]
              refine takeYesE 7 (v := ?_) rfl (by kernel_rfl) (by kernel_rfl) (by kernel_rfl) (by rfl) (fun _ _ _ h => h) (by assumption) ?_ ?_; rotate_left; (intro w hSw; (try dsimp only at hSw); go_simp; try (with_reducible rfl))
              try simp only [Act.put, List.getElem_toArray, List.getElem_cons_zero, List.getElem_cons_succ, List.setIfInBounds_toArray, List.set_cons_zero, List.set_cons_succ]
              refine takeYesE 8 (v := ?_) rfl (by kernel_rfl) (by kernel_rfl) (by kernel_rfl) (by rfl) (fun _ _ _ h => h) (by assumption) ?_ ?_; rotate_left; (intro w hSw; (try dsimp only at hSw); go_simp; try (with_reducible rfl))
              try simp only [Act.put, List.getElem_toArray, List.getElem_cons_zero, List.getElem_cons_succ, List.setIfInBounds_toArray, List.set_cons_zero, List.set_cons_succ]
              refine takeYesE 9 (v := ?_) rfl (by kernel_rfl) (by kernel_rfl) (by kernel_rfl) (by rfl) (fun _ _ _ h => h) (by assumption) ?_ ?_; rotate_left; (intro w hSw; (try dsimp only at hSw); go_simp; try (with_reducible rfl))
              try simp only [Act.put, List.getElem_toArray, List.getElem_cons_zero, List.getElem_cons_succ, List.setIfInBounds_toArray, List.set_cons_zero, List.set_cons_succ]
              refine takeYesE 10 (v := ?_) rfl (by kernel_rfl) (by kernel_rfl) (by kernel_rfl) (by rfl) (fun _ _ _ h => h) (by assumption) ?_ ?_; rotate_left; (intro w hSw; (try dsimp only at hSw); go_simp; try (with_reducible rfl))
              try simp only [Act.put, List.getElem_toArray, List.getElem_cons_zero, List.getElem_cons_succ, List.setIfInBounds_toArray, List.set_cons_zero, List.set_cons_succ]
              refine takeYesE 11 (v := ?_) rfl (by kernel_rfl) (by kernel_rfl) (by kernel_rfl) (by rfl) (fun _ _ _ h => h) (by assumption) ?_ ?_; rotate_left; (intro w hSw; (try dsimp only at hSw); go_simp; try (with_reducible rfl))
              try simp only [Act.put, List.getElem_toArray, List.getElem_cons_zero, List.getElem_cons_succ, List.setIfInBounds_toArray, List.set_cons_zero, List.set_cons_succ]
              refine wpAnyH_ready (rs := [12]) (by kernel_rfl) (by simp) ?_
              refine AllReadyH.cons rfl (fun K hK => ?_) AllReadyH.nil
              go_simp
              (go_at_call 42; refine (CK.out _ (by assumption)).mono ?_; rintro e uC ⟨rfl, hb⟩; have qz12_0 : uC.cell? ⟨w.heap.size, 0, none⟩ = some (.slice sa o.sy.length sc) := carry_cell' hb (by assumption); have qz12_1 : uC.cell? ⟨w.heap.size, 1, none⟩ = some (.slice wa o.ws.length wc) := carry_cell' hb (by assumption); have qz12_2 : uC.cell? ⟨w.heap.size, 2, none⟩ = some (.int .i64 o.va) := carry_cell' hb (by assumption); have qz12_3 : uC.cell? ⟨wr.heap.size, 1, none⟩ = some (.slice (some ⟨b, off, none⟩) t.args.length q0) := carry_cell' hb (by assumption); have qz12_4 : uC.cell? ⟨b, off, none⟩ = some (.string x.name) := carry_cell' hb (by assumption); have qz12_5 : uC.cell? ⟨b, off + 1, none⟩ = some (.slice p x.args.length c2) := carry_cell' hb (by assumption); have qz12_6 : uC.cell? ⟨b, off + 2, none⟩ = some (.string y.name) := carry_cell' hb (by assumption); have qz12_7 : uC.cell? ⟨b, off + 3, none⟩ = some (.slice p' y.args.length c') := carry_cell' hb (by assumption); have huC : Below W2.heap.size W2 uC := carry_below (by assumption) (Nat.le_refl _) hb; clear hb; go_wp2_with fail)
              refine hK.out _ _ (by first | exact ⟨by assumption, by assumption, by assumption, by assumption, by assumption, by assumption, by assumption, by assumption, by assumption⟩ | go_keep) (fun hHeld => ?_)
              clear hK K
              try simp only [Act.put, List.getElem_toArray, List.getElem_cons_zero, List.getElem_cons_succ, List.setIfInBounds_toArray, List.set_cons_zero, List.set_cons_succ]
              refine takeYesE 13 (v := ?_) rfl (by kernel_rfl) (by kernel_rfl) (by kernel_rfl) (by rfl) (fun _ _ _ h => h) (by assumption) ?_ ?_; rotate_left; (intro w hSw; (try dsimp only at hSw); go_simp; try (with_reducible rfl))
              try simp only [Act.put, List.getElem_toArray, List.getElem_cons_zero, List.getElem_cons_succ, List.setIfInBounds_toArray, List.set_cons_zero, List.set_cons_succ]
              refine takeYesE 14 (v := ?_) rfl (by kernel_rfl) (by kernel_rfl) (by kernel_rfl) (by rfl) (fun _ _ _ h => h) (by assumption) ?_ ?_; rotate_left; (intro w hSw; (try dsimp only at hSw); go_simp; try (with_reducible rfl))
              try simp only [Act.put, List.getElem_toArray, List.getElem_cons_zero, List.getElem_cons_succ, List.setIfInBounds_toArray, List.set_cons_zero, List.set_cons_succ]
              refine wpAnyH_done (by kernel_rfl) ?_ _
              have hb : Below W2.heap.size W2 uC := by assumption
              replace HB := Lib.hid (carry_below HB.out (Nat.le_refl _) hb)
              replace H3 := Lib.hid (H3.out.kept hb)
              clear hb b0 b1 b2 b3
              obtain ⟨b0, b1, b2, b3⟩ := H3.out
              cases hk2 : kbo o x y with
              | true =>
                have HF : Hid ((-1 : Int) = o.fnd 0 (l.take (k + 1))) := Lib.hid (by rw [HRN.out, hk2]; rfl)
                clear hk2
                go_wp2
                go_roundw
                case rel => exact ⟨k + 1, -1, by omega, by go_num, rfl, ⟨HF.out, HN.out⟩, H3.out, HB.out⟩
                case measure => simp [intOf]; omega
              | false =>
                have HF : Hid ((k : Int) = o.fnd 0 (l.take (k + 1))) := Lib.hid (by rw [HRN.out, hk2]; rfl)
                clear hk2
                go_wp2
                go_roundw
                case rel => exact ⟨k + 1, k, by omega, by go_num, rfl, ⟨HF.out, HN.out⟩, H3.out, HB.out⟩
                case measure => simp [intOf]; omega
            · have hrp : 0 ≤ r := by
                rcases hfr with h | ⟨j, h, _⟩
                · exact absurd (HQ.out.1.trans h) hr
                · rw [HQ.out.1, h]; omega
              have hrn : ¬ r < 0 := by omega
              have hrt : decide (r < 0) = false := by simp; omega
              have HRN : Hid (r = o.fnd 0 (l.take (k + 1))) := Lib.hid (by rw [HNX.out, ← HQ.out.1, if_neg hr])
              clear hfr hr
              go_wp2_with fail
              have hB0 : Below W2.heap.size W2 W2.drew := (Below.refl _ _).drew
              refine wp_region_held_drew (S := (fun w' => w'.cell? ⟨w.heap.size, 0, none⟩ = some (.slice sa o.sy.length sc) ∧ w'.cell? ⟨w.heap.size, 1, none⟩ = some (.slice wa o.ws.length wc) ∧ w'.cell? ⟨w.heap.size, 2, none⟩ = some (.int .i64 o.va) ∧ w'.cell? ⟨wr.heap.size, 1, none⟩ = some (.slice (some ⟨b, off, none⟩) t.args.length q0) ∧ Below W2.heap.size W2 w')) (by kernel_rfl) (by first | exact ⟨by assumption, by assumption, by assumption, by assumption, by assumption⟩ | go_keep) (fun hHeld => ?_)
              refine takeYesE 0 (v := ?_) rfl (by kernel_rfl) (by kernel_rfl) (by kernel_rfl) (by rfl) (fun _ _ _ h => h) (by assumption) ?_ ?_; rotate_left; (intro w hSw; (try dsimp only at hSw); go_simp; try (with_reducible rfl))
              try simp only [Act.put, List.getElem_toArray, List.getElem_cons_zero, List.setIfInBounds_toArray, List.set_cons_zero, List.set_cons_succ]
              refine takeYesE 1 (v := ?_) rfl (by kernel_rfl) (by kernel_rfl) (by kernel_rfl) (by rfl) (fun _ _ _ h => h) (by assumption) ?_ ?_; rotate_left; (intro w hSw; (try dsimp only at hSw); go_simp; try (with_reducible rfl))
              try simp only [Act.put, List.getElem_toArray, List.getElem_cons_zero, List.getElem_cons_succ, List.setIfInBounds_toArray, List.set_cons_zero, List.set_cons_succ]
              refine takeYesE 2 (v := ?_) rfl (by kernel_rfl) (by kernel_rfl) (by kernel_rfl) (by rfl) (fun _ _ _ h => h) (by assumption) ?_ ?_; rotate_left; (intro w hSw; (try dsimp only at hSw); go_simp; try (with_reducible rfl))
              try simp only [Act.put, List.getElem_toArray, List.getElem_cons_zero, List.getElem_cons_succ, List.setIfInBounds_toArray, List.set_cons_zero, List.set_cons_succ]
              refine takeNoE 3 rfl (by kernel_rfl) (by kernel_rfl) (by kernel_rfl) (by rfl) (fun _ _ _ h => h) (by assumption) ?_
              try simp only [Act.put, List.getElem_toArray, List.getElem_cons_zero, List.getElem_cons_succ, List.setIfInBounds_toArray, List.set_cons_zero, List.set_cons_succ]
              refine takeNoE 4 rfl (by kernel_rfl) (by kernel_rfl) (by kernel_rfl) (by rfl) (fun _ _ _ h => h) (by assumption) ?_
              try simp only [Act.put, List.getElem_toArray, List.getElem_cons_zero, List.getElem_cons_succ, List.setIfInBounds_toArray, List.set_cons_zero, List.set_cons_succ]
              refine takeNoE 5 rfl (by kernel_rfl) (by kernel_rfl) (by kernel_rfl) (by rfl) (fun _ _ _ h => h) (by assumption) ?_
              try simp only [Act.put, List.getElem_toArray, List.getElem_cons_zero, List.getElem_cons_succ, List.setIfInBounds_toArray, List.set_cons_zero, List.set_cons_succ]
              refine takeNoE 6 rfl (by kernel_rfl) (by kernel_rfl) (by kernel_rfl) (by rfl) (fun _ _ _ h => h) (by assumption) ?_
              try simp only [Act.put, List.getElem_toArray, List.getElem_cons_zero, List.getElem_cons_succ, List.setIfInBounds_toArray, List.set_cons_zero, List.set_cons_succ]
              refine takeNoE 7 rfl (by kernel_rfl) (by kernel_rfl) (by kernel_rfl) (by rfl) (fun _ _ _ h => h) (by assumption) ?_
              try simp only [Act.put, List.getElem_toArray, List.getElem_cons_zero, List.getElem_cons_succ, List.setIfInBounds_toArray, List.set_cons_zero, List.set_cons_succ]
              refine takeNoE 8 rfl (by kernel_rfl) (by kernel_rfl) (by kernel_rfl) (by rfl) (fun _ _ _ h => h) (by assumption) ?_
              try simp only [Act.put, List.getElem_toArray, List.getElem_cons_zero, List.getElem_cons_succ, List.setIfInBounds_toArray, List.set_cons_zero, List.set_cons_succ]
              refine takeNoE 9 rfl (by kernel_rfl) (by kernel_rfl) (by kernel_rfl) (by rfl) (fun _ _ _ h => h) (by assumption) ?_
              try simp only [Act.put, List.getElem_toArray, List.getElem_cons_zero, List.getElem_cons_succ, List.setIfInBounds_toArray, List.set_cons_zero, List.set_cons_succ]
              refine takeNoE 10 rfl (by kernel_rfl) (by kernel_rfl) (by kernel_rfl) (by rfl) (fun _ _ _ h => h) (by assumption) ?_
              try simp only [Act.put, List.getElem_toArray, List.getElem_cons_zero, List.getElem_cons_succ, List.setIfInBounds_toArray, List.set_cons_zero, List.set_cons_succ]
              refine takeNoE 11 rfl (by kernel_rfl) (by kernel_rfl) (by kernel_rfl) (by rfl) (fun _ _ _ h => h) (by assumption) ?_
              try simp only [Act.put, List.getElem_toArray, List.getElem_cons_zero, List.getElem_cons_succ, List.setIfInBounds_toArray, List.set_cons_zero, List.set_cons_succ]
              refine takeNoE 12 rfl (by kernel_rfl) (by kernel_rfl) (by kernel_rfl) (by rfl) (fun _ _ _ h => h) (by assumption) ?_
              try simp only [Act.put, List.getElem_toArray, List.getElem_cons_zero, List.getElem_cons_succ, List.setIfInBounds_toArray, List.set_cons_zero, List.set_cons_succ]
              refine takeNoE 13 rfl (by kernel_rfl) (by kernel_rfl) (by kernel_rfl) (by rfl) (fun _ _ _ h => h) (by assumption) ?_
              try simp only [Act.put, List.getElem_toArray, List.getElem_cons_zero, List.getElem_cons_succ, List.setIfInBounds_toArray, List.set_cons_zero, List.set_cons_succ]
              refine takeYesE 14 (v := ?_) rfl (by kernel_rfl) (by kernel_rfl) (by kernel_rfl) (by rfl) (fun _ _ _ h => h) (by assumption) ?_ ?_; rotate_left; (intro w hSw; (try dsimp only at hSw); go_simp; try (with_reducible rfl))
              try simp only [Act.put, List.getElem_toArray, List.getElem_cons_zero, List.getElem_cons_succ, List.setIfInBounds_toArray, List.set_cons_zero, List.set_cons_succ]
              refine wpAnyH_done (by kernel_rfl) ?_ _
              have hb : Below W2.heap.size W2 W2.drew := (Below.refl _ _).drew
              replace HB := Lib.hid (carry_below HB.out (Nat.le_refl _) hb)
              replace H3 := Lib.hid (H3.out.kept hb)
              clear hb b0 b1 b2 b3
              obtain ⟨b0, b1, b2, b3⟩ := H3.out
              go_wp2
              go_roundw
              case rel => exact ⟨k + 1, r, by omega, by go_num, rfl, ⟨HRN.out, HN.out⟩, H3.out, HB.out⟩
              case measure => simp [intOf]; omega
        · have hke : k = l.length := by omega
          subst hke
          have HO := Lib.hid (fndOk_y HG.out hl8 (fun j t ht => HQ.out.2 j t (List.getElem?_eq_some_iff.1 ht).1 ht))
          have HR : Hid (r = o.fndR l) := Lib.hid (by rw [fndR_yes HO.out, HQ.out.1, fnd_all (Nat.le_refl _)])
          go_wp2
          go_ret2
          exact ⟨ret_pair HR.out HO.out.symm, HB.out⟩
  · have hl9 : (8 : Int) < (l.length : Int) := by omega
    have hl9t : decide ((8 : Int) < (l.length : Int)) = true := by simp; omega
    have HO := Lib.hid (fndOk_l (o := o) hl8)
    have HR := Lib.hid (fndR_no HO.out)
    go_enter Try.func12, Try.ntmps12
    obtain ⟨b0, b1, b2, b3⟩ := H3.out
    go_wp2
    go_ret2
    exact ⟨ret_pair HR.out.symm HO.out.symm, HB.out⟩

end Go.Proofs.Ytohalpafmcobpaa
