/- Several texts in one: each says what it proves. No condition but theirs. -/
import Derived.Test.YtgpmdfhepanahaaGreatClG
import Derived.Test.YtgpmdfhepanahaaGreatLtG
import Derived.Sort.Walk0
import Derived.Deep.RegionHeld3
/- Validity of a literal and of a clause, comparison of literals: both sides' contracts, for at most 1048576 names' bytes, literals and arguments. -/
namespace Go.Proofs.YtgpmdfhepanahaaGreat
open Go.RowKit
set_option linter.unusedVariables false

set_option maxHeartbeats 1000000 in
theorem implVLit_any (p : Bool) (t : Tm) (w : World) (va : Value) (hv : TmS w va t.args) (hw : t.wt ≤ 1048576) :
    Calls Tryz.prog 125 #[.agg #[.bool p, .string t.name, va]] w (Ans (.bool (atomB t)) w) := by
  obtain ⟨pa, ca, rfl⟩ := hv.is_slice
  have HV := Lib.hid hv
  have HB := Lib.hid ((Below.refl w.heap.size w).alloc (Nat.le_refl _) (.cells #[.bool p, .string t.name, .slice pa t.args.length ca] 86))
  clear hv
  go_enter Tryz.func125, Tryz.ntmps125
  go_wp2_with fail
  refine (isLiteral_any p t _ _ (HV.out.kept HB.out) hw).mono ?_
  rintro e w1 ⟨rfl, hb⟩
  have HB1 := Lib.hid (carry_below HB.out (Nat.le_refl _) hb)
  clear hb
  go_wp2
  go_ret
  exact ⟨rfl, HB1.out⟩

set_option maxHeartbeats 1000000 in
theorem implVCl_any (l : List Lt) (w : World) (v : Value) (hv : LtS w v l) (hw : wtC l ≤ 1048576) :
    Calls Tryz.prog 46 #[.agg #[v]] w (Ans (.bool (goodC l)) w) := by
  obtain ⟨pa, ca, rfl⟩ := hv.is_slice
  have HV := Lib.hid hv
  have HB := Lib.hid ((Below.refl w.heap.size w).alloc (Nat.le_refl _) (.cells #[.slice pa l.length ca] 48))
  clear hv
  go_enter Tryz.func46, Tryz.ntmps46
  go_wp2_with fail
  refine (isClause_any l _ _ (HV.out.kept HB.out) hw).mono ?_
  rintro e w1 ⟨rfl, hb⟩
  have HB1 := Lib.hid (carry_below HB.out (Nat.le_refl _) hb)
  clear hb
  go_wp2
  go_ret
  exact ⟨rfl, HB1.out⟩

/-- CompareLiterals' answer. -/
def cmpLA (a b : Lt) : Int := if atomB a.tm = true ∧ atomB b.tm = true then ordLt a b else 0
def cmpLB (a b : Lt) : Bool := atomB a.tm && atomB b.tm

theorem less_lt {a b : Lt} (h : lessLt a b = true) : ordLt a b = -1 := by
  have h1 := less_ord a b
  have h2 := ordLt_range a b
  rw [h] at h1
  have h3 : ¬ (0 ≤ ordLt a b) := by simpa using h1.symm
  omega
theorem less_no {a b : Lt} (h : lessLt a b = false) : 0 ≤ ordLt a b := by
  have h1 := less_ord a b
  rw [h] at h1
  simpa using h1.symm


set_option maxHeartbeats 2000000 in
theorem compareL_any (a b : Lt) (w : World) (va vb : Value) (hva : TmS w va a.tm.args) (hvb : TmS w vb b.tm.args) (hwa : a.tm.wt ≤ 1048576) (hwb : b.tm.wt ≤ 1048576) :
    Calls Tryz.prog 127 #[.agg #[.bool a.var, .string a.tm.name, va], .agg #[.bool b.var, .string b.tm.name, vb]] w (Ans (.int .i64 (ordLt a b)) w) := by
  obtain ⟨pa, ca, rfl⟩ := hva.is_slice
  obtain ⟨pb, cb, rfl⟩ := hvb.is_slice
  have HVA := Lib.hid hva
  have HVB := Lib.hid hvb
  have H2A := Lib.hid ((thr_new w (.bool a.var) (.string a.tm.name) (.slice pa a.tm.args.length ca) 86 _ rfl).alloc (.cells #[.bool b.var, .string b.tm.name, .slice pb b.tm.args.length cb] 86))
  have H2B := Lib.hid (thr_new (w.alloc (.cells #[.bool a.var, .string a.tm.name, .slice pa a.tm.args.length ca] 86)) (.bool b.var) (.string b.tm.name) (.slice pb b.tm.args.length cb) 86 (w.heap.size + 1) (by simp))
  have HB := Lib.hid (((Below.refl w.heap.size w).alloc (Nat.le_refl _) (.cells #[.bool a.var, .string a.tm.name, .slice pa a.tm.args.length ca] 86)).alloc (by simp) (.cells #[.bool b.var, .string b.tm.name, .slice pb b.tm.args.length cb] 86))
  clear hva hvb
  go_enter Tryz.func127, Tryz.ntmps127
  go_wp2_with fail
  refine (isLess_any a b _ _ _ (HVA.out.kept HB.out) (HVB.out.kept HB.out) hwa hwb).mono ?_
  rintro e w1 ⟨rfl, hb⟩
  have HB1 := Lib.hid (carry_below HB.out (Nat.le_refl _) hb)
  have H2A1 := Lib.hid (H2A.out.kept hb)
  have H2B1 := Lib.hid (H2B.out.kept hb)
  obtain ⟨a0, a1, a2, a3⟩ := H2A.out.kept hb
  obtain ⟨b0, b1, b2, b3⟩ := H2B.out.kept hb
  clear hb
  cases hf : lessLt a b with
  | true =>
    have HF := Lib.hid (less_lt hf)
    clear hf
    go_wp2
    go_ret
    exact ⟨ret_int HF.out.symm, HB1.out⟩
  | false =>
    have HFA := Lib.hid hf
    clear hf
    go_wp2_with fail
    refine (isLess_any b a _ _ _ (HVB.out.kept HB1.out) (HVA.out.kept HB1.out) hwb hwa).mono ?_
    rintro e w2 ⟨rfl, hb⟩
    have HB2 := Lib.hid (carry_below HB1.out (Nat.le_refl _) hb)
    clear hb
    cases hf : lessLt b a with
    | true =>
      have HF : Hid (ordLt a b = 1) := Lib.hid (by have h := less_lt hf; have h2 := ordLt_flip a b; omega)
      clear hf
      go_wp2
      go_ret
      exact ⟨ret_int HF.out.symm, HB2.out⟩
    | false =>
      have HF : Hid (ordLt a b = 0) := Lib.hid (by have h := less_no hf; have h2 := less_no HFA.out; have h3 := ordLt_flip a b; omega)
      clear hf
      go_wp2
      go_ret
      exact ⟨ret_int HF.out.symm, HB2.out⟩

end Go.Proofs.YtgpmdfhepanahaaGreat

/- The library's search for a literal in an ascending list of literals: a contract, for lists of at most 1048576 literals. -/
namespace Go.Proofs.YtgpmdfhepanahaaGreat.lit
open Go.RowKit
set_option linter.unusedVariables false

def LoHi (l : List Lt) (nm : Lt) (lo hi : Nat) : Prop :=
  (∀ t d, t < lo → l[t]? = some d → ordLt d nm < 0) ∧ (∀ t d, hi ≤ t → l[t]? = some d → ¬ ordLt d nm < 0)

def FindEnd (l : List Lt) (nm : Lt) (w : World) (e : Ending) (w' : World) : Prop :=
  ∃ i : Nat, e = .returned (.tuple #[.int .i64 i, .bool (hitL l nm i)]) ∧ Place l nm i ∧ Below w.heap.size w w'

theorem ret_ib {i : Nat} {a b : Bool} (h : a = b) : Ending.returned (.tuple #[.int .i64 (i : Int), .bool a]) = .returned (.tuple #[.int .i64 (i : Int), .bool b]) := by rw [h]

set_option maxRecDepth 100000 in
set_option maxHeartbeats 8000000 in
theorem bsf_any (l : List Lt) (w : World) (v vx : Value) (hv : LtS w v l) (hl : l.length ≤ 1048576) (ha : Asc l) (nm : Lt) (hx : TmS w vx nm.tm.args) (hwl : ∀ d ∈ l, d.tm.wt ≤ 1048576) (hwx : nm.tm.wt ≤ 1048576) :
    Calls Tryz.prog 126 #[v, .agg #[.bool nm.var, .string nm.tm.name, vx], .func (.func 127) #[] #[]] w (FindEnd l nm w) := by
  obtain ⟨a, c, rfl⟩ := hv.is_slice
  obtain ⟨px, cx, rfl⟩ := hx.is_slice
  have HV := Lib.hid hv
  have HXX := Lib.hid hx
  have HA := Lib.hid ha
  have HWL := Lib.hid hwl
  have HBX := Lib.hid (thr_new w (.bool nm.var) (.string nm.tm.name) (.slice px nm.tm.args.length cx) 86 _ rfl)
  have HB0 := Lib.hid ((Below.refl w.heap.size w).alloc (Nat.le_refl _) (.cells #[.bool nm.var, .string nm.tm.name, .slice px nm.tm.args.length cx] 86))
  clear hv ha hx hwl
  go_enter Tryz.func126, Tryz.ntmps126
  go_wp2
  go_loopw [9, 10] (fun s9 s10 wr => ∃ lo hi : Nat, s9 = .int .i64 lo ∧ s10 = .int .i64 hi ∧ lo ≤ hi ∧ hi ≤ l.length ∧ LoHi l nm lo hi ∧ Thr wr w.heap.size (.bool nm.var) (.string nm.tm.name) (.slice px nm.tm.args.length cx) ∧ Below w.heap.size w wr) (fun s9 s10 _ => (intOf s10).toNat - (intOf s9).toNat)
  case atStart => exact ⟨0, l.length, rfl, rfl, Nat.zero_le _, Nat.le_refl _, ⟨fun t d h => absurd h (Nat.not_lt_zero _), fun t d h hd => by have := (List.getElem?_eq_some_iff.1 hd).1; omega⟩, HBX.out, HB0.out⟩
  case round =>
    obtain ⟨lo, hi, rfl, rfl, hlh, hin, hq, hbx, hbel⟩ := hrel
    have HQ := Lib.hid hq
    have HB := Lib.hid hbel
    have HX := Lib.hid hbx
    clear hq hbel
    by_cases hlt : lo < hi
    · obtain ⟨d, hd⟩ : ∃ d, l[(lo + hi) / 2]? = some d := ⟨_, List.getElem?_eq_getElem (by omega)⟩
      obtain ⟨b, off, rfl, va, c0, c1, c2, hva⟩ := HV.out.get hd
      obtain ⟨pa, ca, rfl⟩ := hva.is_slice
      have hB : Below wr.heap.size wr wr.drew := (Below.refl _ _).drew
      have c0' := carry_cell (carry_cell c0 HB.out) hB
      have c1' := carry_cell (carry_cell c1 HB.out) hB
      have c2' := carry_cell (carry_cell c2 HB.out) hB
      obtain ⟨x0, x1, x2, x3⟩ := hbx.kept hB
      have HD := Lib.hid hd
      have HVA := Lib.hid (hva.kept HB.out)
      obtain ⟨z, hz⟩ : ∃ z, z = ordLt d nm := ⟨_, rfl⟩
      have HZ := Lib.hid hz
      have CC : Hid (∀ W : World, Below wr.heap.size wr W → Calls Tryz.prog 127 #[.agg #[.bool d.var, .string d.tm.name, .slice pa d.tm.args.length ca], .agg #[.bool nm.var, .string nm.tm.name, .slice px nm.tm.args.length cx]] W (Ans (.int .i64 z) W)) := Lib.hid (fun W hW => by
        rw [hz]; exact compareL_any d nm W _ _ (HVA.out.kept hW) ((HXX.out.kept HB.out).kept hW) (HWL.out d (List.mem_of_getElem? hd)) hwx)
      have hm0 : (0 : Int) ≤ ((lo : Int) + (hi : Int)) / 2 := by omega
      have hm1 : ((lo : Int) + (hi : Int)) / 2 < (l.length : Int) := by omega
      have hm2 : (((lo : Int) + (hi : Int)) / 2).toNat = (lo + hi) / 2 := by omega
      clear hd hva c0 c1 c2 hz hbx
      go_wp2_with fail
      go_region_held3 (fun w' => w'.cell? ⟨b, off + (lo + hi) / 2 * 3, none⟩ = some (.bool d.var) ∧ w'.cell? ⟨b, off + (lo + hi) / 2 * 3 + 1, none⟩ = some (.string d.tm.name) ∧ w'.cell? ⟨b, off + (lo + hi) / 2 * 3 + 2, none⟩ = some (.slice pa d.tm.args.length ca) ∧ w'.cell? ⟨w.heap.size, 0, none⟩ = some (.bool nm.var) ∧ w'.cell? ⟨w.heap.size, 1, none⟩ = some (.string nm.tm.name) ∧ w'.cell? ⟨w.heap.size, 2, none⟩ = some (.slice px nm.tm.args.length cx) ∧ Below wr.heap.size wr w') (first | exact ⟨by assumption, by assumption, by assumption, by assumption, by assumption, by assumption, by assumption⟩ | go_keep) (first | (go_at_call 127; refine (CC.out _ (by assumption)).mono ?_; rintro e w2 ⟨rfl, hb⟩; have c0' := carry_cell' hb c0'; have c1' := carry_cell' hb c1'; have c2' := carry_cell' hb c2'; have x0 := carry_cell' hb x0; have x1 := carry_cell' hb x1; have x2 := carry_cell' hb x2; have hB := carry_below hB (Nat.le_refl _) hb; clear hb))
      have HB2 := Lib.hid (carry_below HB.out (Nat.le_refl _) hB)
      have HX2 := Lib.hid (HX.out.kept hB)
      by_cases hyx : z < 0
      · have HQ2 : Hid (LoHi l nm ((lo + hi) / 2 + 1) hi) := Lib.hid ⟨fun t x ht hx => by
          by_cases e : t = (lo + hi) / 2
          · subst e; rw [HD.out] at hx; injection hx with hx; rw [← hx, ← HZ.out]; exact hyx
          · exact ordLt_trans (HA.out.at (by omega) hx HD.out) (by rw [← HZ.out]; exact hyx), HQ.out.2⟩
        have hyd : decide (z < 0) = true := by simpa using hyx
        clear c0' c1' c2' x0 x1 x2 x3 hB
        go_wp2
        go_roundw
        case rel => exact ⟨(lo + hi) / 2 + 1, hi, by rw [show ((lo : Int) + (hi : Int)) / 2 + 1 = (((lo + hi) / 2 + 1 : Nat) : Int) by omega], rfl, by omega, hin, HQ2.out, HX2.out, HB2.out⟩
        case measure => simp [intOf]; omega
      · have HQ2 : Hid (LoHi l nm lo ((lo + hi) / 2)) := Lib.hid ⟨HQ.out.1, fun t x ht hx => by
          by_cases e : t = (lo + hi) / 2
          · subst e; rw [HD.out] at hx; injection hx with hx; rw [← hx, ← HZ.out]; exact hyx
          · exact fun h => hyx (by rw [HZ.out]; exact ordLt_trans (HA.out.at (by omega) HD.out hx) h)⟩
        have hyd : decide (z < 0) = false := by simpa using hyx
        clear c0' c1' c2' x0 x1 x2 x3 hB
        go_wp2
        go_roundw
        case rel => exact ⟨lo, (lo + hi) / 2, rfl, by rw [show ((lo : Int) + (hi : Int)) / 2 = (((lo + hi) / 2 : Nat) : Int) by omega], by omega, by omega, HQ2.out, HX2.out, HB2.out⟩
        case measure => simp [intOf]; omega
    · obtain rfl : hi = lo := by omega
      have HP : Hid (Place l nm hi) := Lib.hid ⟨hin, HQ.out⟩
      by_cases hn : hi < l.length
      · obtain ⟨d, hd⟩ : ∃ d, l[hi]? = some d := ⟨_, List.getElem?_eq_getElem hn⟩
        obtain ⟨b, off, rfl, va, c0, c1, c2, hva⟩ := HV.out.get hd
        obtain ⟨pa, ca, rfl⟩ := hva.is_slice
        have hB : Below wr.heap.size wr wr.drew := (Below.refl _ _).drew
        have c0' := carry_cell (carry_cell c0 HB.out) hB
        have c1' := carry_cell (carry_cell c1 HB.out) hB
        have c2' := carry_cell (carry_cell c2 HB.out) hB
        obtain ⟨x0, x1, x2, x3⟩ := hbx.kept hB
        have HVA := Lib.hid (hva.kept HB.out)
        obtain ⟨z, hz⟩ : ∃ z, z = ordLt d nm := ⟨_, rfl⟩
        have HF : Hid ((z == 0) = hitL l nm hi) := Lib.hid (by rw [hitL_at hd, hz]; by_cases e : ordLt d nm = 0 <;> simp [e])
        have CC : Hid (∀ W : World, Below wr.heap.size wr W → Calls Tryz.prog 127 #[.agg #[.bool d.var, .string d.tm.name, .slice pa d.tm.args.length ca], .agg #[.bool nm.var, .string nm.tm.name, .slice px nm.tm.args.length cx]] W (Ans (.int .i64 z) W)) := Lib.hid (fun W hW => by
          rw [hz]; exact compareL_any d nm W _ _ (HVA.out.kept hW) ((HXX.out.kept HB.out).kept hW) (HWL.out d (List.mem_of_getElem? hd)) hwx)
        have hn1 : decide ((hi : Int) < (l.length : Int)) = true := by rw [decide_eq_true_iff]; omega
        have hn2 : (hi : Int) < (l.length : Int) := by omega
        clear hd hva c0 c1 c2 hz hbx
        go_wp2_with fail
        go_region_held3 (fun w' => w'.cell? ⟨b, off + hi * 3, none⟩ = some (.bool d.var) ∧ w'.cell? ⟨b, off + hi * 3 + 1, none⟩ = some (.string d.tm.name) ∧ w'.cell? ⟨b, off + hi * 3 + 2, none⟩ = some (.slice pa d.tm.args.length ca) ∧ w'.cell? ⟨w.heap.size, 0, none⟩ = some (.bool nm.var) ∧ w'.cell? ⟨w.heap.size, 1, none⟩ = some (.string nm.tm.name) ∧ w'.cell? ⟨w.heap.size, 2, none⟩ = some (.slice px nm.tm.args.length cx) ∧ Below wr.heap.size wr w') (first | exact ⟨by assumption, by assumption, by assumption, by assumption, by assumption, by assumption, by assumption⟩ | go_keep) (first | (go_at_call 127; refine (CC.out _ (by assumption)).mono ?_; rintro e w2 ⟨rfl, hb⟩; have c0' := carry_cell' hb c0'; have c1' := carry_cell' hb c1'; have c2' := carry_cell' hb c2'; have x0 := carry_cell' hb x0; have x1 := carry_cell' hb x1; have x2 := carry_cell' hb x2; have hB := carry_below hB (Nat.le_refl _) hb; clear hb))
        have HB2 := Lib.hid (carry_below HB.out (Nat.le_refl _) hB)
        clear c0' c1' c2' x0 x1 x2 x3 hB
        go_wp2
        go_ret2
        exact ⟨hi, ret_ib HF.out, HP.out, HB2.out⟩
      · have HF : Hid (hitL l nm hi = false) := Lib.hid (hitL_out (by omega))
        have hn1 : decide ((hi : Int) < (l.length : Int)) = false := by rw [decide_eq_false_iff_not]; omega
        have hB : Below wr.heap.size wr wr.drew := (Below.refl _ _).drew
        obtain ⟨x0, x1, x2, x3⟩ := hbx.kept hB
        go_wp2_with fail
        refine wp_region_held_drew (S := (fun w' => w'.cell? ⟨w.heap.size, 0, none⟩ = some (.bool nm.var) ∧ Below wr.heap.size wr w')) (by kernel_rfl) (by first | exact ⟨by assumption, by assumption⟩ | go_keep) (fun hHeld => ?_)
        refine takeYesI 0 (v := ?_) rfl (by kernel_rfl) (by kernel_rfl) (by kernel_rfl) (by rfl) (fun _ _ _ h => h) (by assumption) ?_ ?_; rotate_left; (intro w hSw; (try dsimp only at hSw); go_simp; try (with_reducible rfl))
        try simp only [Act.put, List.getElem_toArray, List.getElem_cons_zero, List.setIfInBounds_toArray, List.set_cons_zero, List.set_cons_succ]
        refine takeYesI 1 (v := ?_) rfl (by kernel_rfl) (by kernel_rfl) (by kernel_rfl) (by rfl) (fun _ _ _ h => h) (by assumption) ?_ ?_; rotate_left; (intro w hSw; (try dsimp only at hSw); go_simp; try (with_reducible rfl))
        try simp only [Act.put, List.getElem_toArray, List.getElem_cons_zero, List.getElem_cons_succ, List.setIfInBounds_toArray, List.set_cons_zero, List.set_cons_succ]
        refine takeYesI 2 (v := ?_) rfl (by kernel_rfl) (by kernel_rfl) (by kernel_rfl) (by rfl) (fun _ _ _ h => h) (by assumption) ?_ ?_; rotate_left; (intro w hSw; (try dsimp only at hSw); go_simp; try (with_reducible rfl))
        try simp only [Act.put, List.getElem_toArray, List.getElem_cons_zero, List.getElem_cons_succ, List.setIfInBounds_toArray, List.set_cons_zero, List.set_cons_succ]
        refine takeYesI 3 (v := ?_) rfl (by kernel_rfl) (by kernel_rfl) (by kernel_rfl) (by rfl) (fun _ _ _ h => h) (by assumption) ?_ ?_; rotate_left; (intro w hSw; (try dsimp only at hSw); go_simp; try (with_reducible rfl))
        try simp only [Act.put, List.getElem_toArray, List.getElem_cons_zero, List.getElem_cons_succ, List.setIfInBounds_toArray, List.set_cons_zero, List.set_cons_succ]
        refine takeYesI 4 (v := ?_) rfl (by kernel_rfl) (by kernel_rfl) (by kernel_rfl) (by rfl) (fun _ _ _ h => h) (by assumption) ?_ ?_; rotate_left; (intro w hSw; (try dsimp only at hSw); go_simp; try (with_reducible rfl))
        try simp only [Act.put, List.getElem_toArray, List.getElem_cons_zero, List.getElem_cons_succ, List.setIfInBounds_toArray, List.set_cons_zero, List.set_cons_succ]
        refine takeNoI 5 rfl (by kernel_rfl) (by kernel_rfl) (by kernel_rfl) (by rfl) (fun _ _ _ h => h) (by assumption) ?_
        try simp only [Act.put, List.getElem_toArray, List.getElem_cons_zero, List.getElem_cons_succ, List.setIfInBounds_toArray, List.set_cons_zero, List.set_cons_succ]
        refine takeNoI 6 rfl (by kernel_rfl) (by kernel_rfl) (by kernel_rfl) (by rfl) (fun _ _ _ h => h) (by assumption) ?_
        try simp only [Act.put, List.getElem_toArray, List.getElem_cons_zero, List.getElem_cons_succ, List.setIfInBounds_toArray, List.set_cons_zero, List.set_cons_succ]
        refine takeNoI 7 rfl (by kernel_rfl) (by kernel_rfl) (by kernel_rfl) (by rfl) (fun _ _ _ h => h) (by assumption) ?_
        try simp only [Act.put, List.getElem_toArray, List.getElem_cons_zero, List.getElem_cons_succ, List.setIfInBounds_toArray, List.set_cons_zero, List.set_cons_succ]
        refine takeNoI 8 rfl (by kernel_rfl) (by kernel_rfl) (by kernel_rfl) (by rfl) (fun _ _ _ h => h) (by assumption) ?_
        try simp only [Act.put, List.getElem_toArray, List.getElem_cons_zero, List.getElem_cons_succ, List.setIfInBounds_toArray, List.set_cons_zero, List.set_cons_succ]
        refine takeNoI 9 rfl (by kernel_rfl) (by kernel_rfl) (by kernel_rfl) (by rfl) (fun _ _ _ h => h) (by assumption) ?_
        try simp only [Act.put, List.getElem_toArray, List.getElem_cons_zero, List.getElem_cons_succ, List.setIfInBounds_toArray, List.set_cons_zero, List.set_cons_succ]
        refine takeNoI 10 rfl (by kernel_rfl) (by kernel_rfl) (by kernel_rfl) (by rfl) (fun _ _ _ h => h) (by assumption) ?_
        try simp only [Act.put, List.getElem_toArray, List.getElem_cons_zero, List.getElem_cons_succ, List.setIfInBounds_toArray, List.set_cons_zero, List.set_cons_succ]
        refine takeNoI 11 rfl (by kernel_rfl) (by kernel_rfl) (by kernel_rfl) (by rfl) (fun _ _ _ h => h) (by assumption) ?_
        try simp only [Act.put, List.getElem_toArray, List.getElem_cons_zero, List.getElem_cons_succ, List.setIfInBounds_toArray, List.set_cons_zero, List.set_cons_succ]
        refine takeNoI 12 rfl (by kernel_rfl) (by kernel_rfl) (by kernel_rfl) (by rfl) (fun _ _ _ h => h) (by assumption) ?_
        try simp only [Act.put, List.getElem_toArray, List.getElem_cons_zero, List.getElem_cons_succ, List.setIfInBounds_toArray, List.set_cons_zero, List.set_cons_succ]
        refine takeYesI 13 (v := ?_) rfl (by kernel_rfl) (by kernel_rfl) (by kernel_rfl) (by rfl) (fun _ _ _ h => h) (by assumption) ?_ ?_; rotate_left; (intro w hSw; (try dsimp only at hSw); go_simp; try (with_reducible rfl))
        try simp only [Act.put, List.getElem_toArray, List.getElem_cons_zero, List.getElem_cons_succ, List.setIfInBounds_toArray, List.set_cons_zero, List.set_cons_succ]
        refine takeYesI 14 (v := ?_) rfl (by kernel_rfl) (by kernel_rfl) (by kernel_rfl) (by rfl) (fun _ _ _ h => h) (by assumption) ?_ ?_; rotate_left; (intro w hSw; (try dsimp only at hSw); go_simp; try (with_reducible rfl))
        try simp only [Act.put, List.getElem_toArray, List.getElem_cons_zero, List.getElem_cons_succ, List.setIfInBounds_toArray, List.set_cons_zero, List.set_cons_succ]
        refine takeYesI 15 (v := ?_) rfl (by kernel_rfl) (by kernel_rfl) (by kernel_rfl) (by rfl) (fun _ _ _ h => h) (by assumption) ?_ ?_; rotate_left; (intro w hSw; (try dsimp only at hSw); go_simp; try (with_reducible rfl))
        try simp only [Act.put, List.getElem_toArray, List.getElem_cons_zero, List.getElem_cons_succ, List.setIfInBounds_toArray, List.set_cons_zero, List.set_cons_succ]
        refine wpAnyH_done (by kernel_rfl) ?_ _
        go_wp2
        go_ret2
        exact ⟨hi, ret_ib HF.out.symm, HP.out, carry_below HB.out (Nat.le_refl _) hB⟩

end Go.Proofs.YtgpmdfhepanahaaGreat.lit
