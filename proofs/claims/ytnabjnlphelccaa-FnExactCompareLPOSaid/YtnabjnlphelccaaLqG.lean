/- Several texts in one: each says what it proves. No condition but theirs. -/
import Derived.Test.YtnabjnlphelccaaLpG
import Derived.Test.YtnabjnlphelccaaOhG
import Derived.IntWalk
/- The program's comparison of roots and its first difference of two lists: contracts, for orderings and terms of at most 1048576 names' bytes and elements. -/
namespace Go.Proofs.Ytnabjnlphelccaa
open Go.RowKit
set_option linter.unusedVariables false

theorem root_or (o : Od) (s t : Tm) : o.root s t = if cmpR (rk o.sy s.name) (rk o.sy t.name) = 0 then cmpR s.args.length t.args.length else cmpR (rk o.sy s.name) (rk o.sy t.name) := by
  unfold Od.root
  by_cases h : rk o.sy s.name = rk o.sy t.name
  · rw [if_pos h, if_pos (cmpR_eq h)]
  · rw [if_neg h, if_neg (fun e => h (cmpR_zero.1 e))]

theorem cmpOr_any (a b : Int) (g : Nat) (w : World) (h0 : w.cell? ⟨g, 0, none⟩ = some (.int .i64 a)) (h1 : w.cell? ⟨g, 1, none⟩ = some (.int .i64 b)) :
    Calls Try.prog 141 #[.slice (some ⟨g, 0, none⟩) 2 2] w fun e w' => e = .returned (.int .i64 (if a = 0 then b else a)) ∧ w = w' := by
  by_cases ha : a = 0
  · subst ha
    by_cases hb : b = 0
    · subst hb
      go_enter Try.func141, Try.ntmps141
      go_wp2
      refine wp_loop_rounds 3 ?_
      rw [rounds_succ]
      go_wp2
      rw [rounds_succ]
      go_wp2
      rw [rounds_succ]
      go_wp2
      go_ret
      exact ⟨rfl, rfl⟩
    · have HE : Hid ((if (0 : Int) = 0 then b else 0) = b) := Lib.hid (if_pos rfl)
      go_enter Try.func141, Try.ntmps141
      go_wp2
      refine wp_loop_rounds 3 ?_
      rw [rounds_succ]
      go_wp2
      rw [rounds_succ]
      go_wp2
      all_goals first | (exfalso; omega) | skip
      all_goals go_ret
      all_goals first | exact ⟨rfl, rfl⟩ | exact ⟨ret_int HE.out.symm, rfl⟩
  · have HE : Hid ((if a = 0 then b else a) = a) := Lib.hid (if_neg ha)
    go_enter Try.func141, Try.ntmps141
    go_wp2
    refine wp_loop_rounds 3 ?_
    rw [rounds_succ]
    go_wp2
    all_goals first | (exfalso; omega) | skip
    all_goals go_ret
    all_goals first | exact ⟨rfl, rfl⟩ | exact ⟨ret_int HE.out.symm, rfl⟩

theorem cmpOr_r (a b : Int) (g : Nat) (r : Int) (w : World) (hr : r = if a = 0 then b else a) (h0 : w.cell? ⟨g, 0, none⟩ = some (.int .i64 a)) (h1 : w.cell? ⟨g, 1, none⟩ = some (.int .i64 b)) :
    Calls Try.prog 141 #[.slice (some ⟨g, 0, none⟩) 2 2] w fun e w' => e = .returned (.int .i64 r) ∧ w = w' := by
  rw [hr]; exact cmpOr_any a b g w h0 h1

set_option maxHeartbeats 4000000 in
theorem compRoots_any (o : Od) (ho : o.wt ≤ 1048576) (s t : Tm) (w : World) (sv wv va vb : Value) (hv : OdV w sv wv o) (hs : TmS w va s.args) (ht : TmS w vb t.args) (hws : s.wt ≤ 1048576) (hwt : t.wt ≤ 1048576) :
    Calls Try.prog 99 #[.agg #[sv, wv, .int .i64 o.va], .agg #[.string s.name, va], .agg #[.string t.name, vb]] w (Ans (.int .i64 (o.root s t)) w) := by
  obtain ⟨sa, sc, wa, wc, rfl, rfl⟩ := hv.open
  obtain ⟨pa, ca, rfl⟩ := hs.is_slice
  obtain ⟨pb, cb, rfl⟩ := ht.is_slice
  obtain ⟨w1, hw1⟩ : ∃ w1, ((w.alloc (.cells #[.slice sa o.sy.length sc, .slice wa o.ws.length wc, .int .i64 o.va] 27)).alloc (.cells #[.string s.name, .slice pa s.args.length ca] 30)).alloc (.cells #[.string t.name, .slice pb t.args.length cb] 30) = w1 := ⟨_, rfl⟩
  have HB : Hid (Below w.heap.size w w1) := Lib.hid (by rw [← hw1]; exact (((Below.refl w.heap.size w).alloc (Nat.le_refl _) _).alloc (by simp) _).alloc (by simp; omega) _)
  have H3 : Hid (OdB w1 w.heap.size (.slice sa o.sy.length sc) (.slice wa o.ws.length wc) o) := Lib.hid (by rw [← hw1]; exact ((thr_new w _ _ _ _ _ rfl).alloc _).alloc _)
  have HS : Hid (Two w1 (w.heap.size + 1) (.string s.name) (.slice pa s.args.length ca)) := Lib.hid (by rw [← hw1]; exact (two_new _ _ _ 30 (w.heap.size + 1) (by simp)).alloc _)
  have HT : Hid (Two w1 (w.heap.size + 1 + 1) (.string t.name) (.slice pb t.args.length cb)) := Lib.hid (by rw [← hw1]; exact two_new _ _ _ 30 (w.heap.size + 1 + 1) (by simp))
  have hsl : o.sy.length ≤ 1048576 := Nat.le_trans o.wt_sy ho
  have CA := Lib.hid (fun W (hW : Below w1.heap.size w1 W) => idx_same sa sc o.sy s.name W (StrG.of (hv.kept (carry_below HB.out (Nat.le_refl _) hW)).st) hsl)
  have CB := Lib.hid (fun W (hW : Below w1.heap.size w1 W) => idx_same sa sc o.sy t.name W (StrG.of (hv.kept (carry_below HB.out (Nat.le_refl _) hW)).st) hsl)
  have HR := Lib.hid (root_or o s t)
  have hls : s.args.length ≤ 1048576 := Nat.le_trans (Tm.wt_len s) hws
  have hlt : t.args.length ≤ 1048576 := Nat.le_trans (Tm.wt_len t) hwt
  obtain ⟨x, hx⟩ : ∃ x, rk o.sy s.name = x := ⟨_, rfl⟩
  obtain ⟨y, hy⟩ : ∃ y, rk o.sy t.name = y := ⟨_, rfl⟩
  rw [hx] at CA HR
  rw [hy] at CB HR
  clear hv hs ht hx hy
  obtain ⟨b0, b1, b2, b3⟩ := H3.out
  obtain ⟨s0, s1, s2⟩ := HS.out
  obtain ⟨t0, t1, t2⟩ := HT.out
  go_enter Try.func99, Try.ntmps99
  go_wp2_with fail
  have n0 := World.new_ne w1 _ b0
  have n1 := World.new_ne w1 _ b1
  have n2 := World.new_ne w1 _ b2
  have n3 := World.new_ne w1 _ s0
  have n4 := World.new_ne w1 _ s1
  have n5 := World.new_ne w1 _ t0
  have n6 := World.new_ne w1 _ t1
  go_region_held3 (fun w' => w'.cell? ⟨w.heap.size, 0, none⟩ = some (.slice sa o.sy.length sc) ∧ w'.cell? ⟨w.heap.size, 1, none⟩ = some (.slice wa o.ws.length wc) ∧ w'.cell? ⟨w.heap.size, 2, none⟩ = some (.int .i64 o.va) ∧ w'.cell? ⟨w.heap.size + 1, 0, none⟩ = some (.string s.name) ∧ w'.cell? ⟨w.heap.size + 1, 1, none⟩ = some (.slice pa s.args.length ca) ∧ w'.cell? ⟨w.heap.size + 1 + 1, 0, none⟩ = some (.string t.name) ∧ w'.cell? ⟨w.heap.size + 1 + 1, 1, none⟩ = some (.slice pb t.args.length cb)) (first | exact ⟨by assumption, by assumption, by assumption, by assumption, by assumption, by assumption, by assumption⟩ | go_keep) (first
    | (go_at_call_of 120 (Value.string s.name); refine (CA.out _ (by first | exact Below.refl _ _ | exact (Below.refl _ _).drew)).mono ?_; rintro e wn ⟨rfl, rfl⟩)
    | (go_at_call_of 120 (Value.string t.name); refine (CB.out _ (by first | exact Below.refl _ _ | exact (Below.refl _ _).drew)).mono ?_; rintro e wn ⟨rfl, rfl⟩)
    | (go_at_call 97; refine (Try.cmp_Compare_int _ _ _).mono ?_; rintro e wn ⟨rfl, rfl⟩)
    | (go_at_call 141; refine (cmpOr_r _ _ _ (o.root s t) _ HR.out (by first | exact (two_new _ _ _ _ _ rfl).1 | exact ((two_new _ _ _ _ _ rfl).drew).1) (by first | exact (two_new _ _ _ _ _ rfl).2.1 | exact ((two_new _ _ _ _ _ rfl).drew).2.1)).mono ?_; rintro e wn ⟨rfl, rfl⟩))
  all_goals (go_wp2; go_ret)
  all_goals (refine ⟨rfl, ?_⟩)
  all_goals first | exact (HB.out.alloc HB.out.size _).drew | exact HB.out.alloc HB.out.size _ | exact HB.out.drew.alloc HB.out.size _

set_option maxHeartbeats 2000000 in
theorem fdI_any (a b : List Tm) (w : World) (va vb : Value) (ha : TmS w va a) (hb0 : TmS w vb b) (hl : a.length ≤ 1048576) (hll : a.length ≤ b.length) (hwa : ∀ x ∈ a, x.wt ≤ 1048576) (hwb : ∀ x ∈ b, x.wt ≤ 1048576) :
    Calls Try.prog 100 #[va, vb] w (Ans (.int .i64 (fd a b)) w) := by
  obtain ⟨pa, ca, rfl⟩ := ha.is_slice
  obtain ⟨pb, cb, rfl⟩ := hb0.is_slice
  have HVS := Lib.hid ha
  have HVT := Lib.hid hb0
  have HWS := Lib.hid hwa
  have HWT := Lib.hid hwb
  clear ha hb0 hwa hwb
  go_enter Try.func100, Try.ntmps100
  go_wp2
  go_loopw [9] (fun i wr => ∃ k : Nat, k ≤ a.length ∧ i = .int .i64 k ∧ (∀ j, j < k → a[j]? = b[j]?) ∧ Below w.heap.size w wr) (fun i _ => a.length - (intOf i).toNat)
  case atStart => exact ⟨0, Nat.zero_le _, rfl, fun j hj => absurd hj (Nat.not_lt_zero _), Below.refl _ _⟩
  case round =>
    obtain ⟨k, hk, rfl, hq, hb⟩ := hrel
    have HQ := Lib.hid hq
    have HBR := Lib.hid hb
    clear hq
    by_cases hlt : k < a.length
    · obtain ⟨x, hx⟩ : ∃ x, a[k]? = some x := ⟨_, List.getElem?_eq_getElem hlt⟩
      have hlt2 : k < b.length := by omega
      obtain ⟨y, hy⟩ : ∃ y, b[k]? = some y := ⟨_, List.getElem?_eq_getElem hlt2⟩
      obtain ⟨b1, off, rfl, vx, c0, c1, hvx⟩ := HVS.out.get hx
      obtain ⟨b', off', rfl, vy, e0, e1, hvy⟩ := HVT.out.get hy
      obtain ⟨p, c, rfl⟩ := hvx.is_slice
      obtain ⟨p', c', rfl⟩ := hvy.is_slice
      have c0' := carry_cell c0 hb
      have c1' := carry_cell c1 hb
      obtain ⟨w2, hw2⟩ : ∃ w2, wr.alloc (.cells #[.string x.name, .slice p x.args.length c] 30) = w2 := ⟨_, rfl⟩
      have HX2 : Hid (Two w2 wr.heap.size (.string x.name) (.slice p x.args.length c)) := Lib.hid (by rw [← hw2]; exact two_new _ _ _ _ _ rfl)
      have HB2 : Hid (Below wr.heap.size wr w2) := Lib.hid (by rw [← hw2]; exact (Below.refl _ _).alloc (Nat.le_refl _) _)
      have HBW := Lib.hid (carry_below hb (Nat.le_refl _) HB2.out)
      have e0' := carry_cell e0 HBW.out
      have e1' := carry_cell e1 HBW.out
      obtain ⟨x0, x1, x2⟩ := HX2.out
      have HX := Lib.hid hx
      have HY := Lib.hid hy
      have CS := fun W (hW : Below w2.heap.size w2 W) => equalTrees_any x y W _ _ (hvx.kept (carry_below HBW.out (Nat.le_refl _) hW)) (hvy.kept (carry_below HBW.out (Nat.le_refl _) hW)) (HWS.out x (mem_of_at hx)) (HWT.out y (mem_of_at hy))
      obtain ⟨q, hq⟩ : ∃ q, q = eqT x y := ⟨_, rfl⟩
      rw [← hq] at CS
      have CS := Lib.hid CS
      have HQE := Lib.hid hq
      clear hb hx hy hvx hvy c0 c1 e0 e1 hq
      go_wp2_with fail
      have hB0 : Below w2.heap.size w2 w2.drew := (Below.refl _ _).drew
      go_region_held3 (fun w' => w'.cell? ⟨b', off' + k * 2, none⟩ = some (.string y.name) ∧ w'.cell? ⟨b', off' + k * 2 + 1, none⟩ = some (.slice p' y.args.length c') ∧ w'.cell? ⟨wr.heap.size, 0, none⟩ = some (.string x.name) ∧ w'.cell? ⟨wr.heap.size, 1, none⟩ = some (.slice p x.args.length c) ∧ Below w2.heap.size w2 w') (first | exact ⟨by assumption, by assumption, by assumption, by assumption, by assumption⟩ | go_keep) (first | (go_at_call 61; refine (CS.out _ (by assumption)).mono ?_; rintro e w3 ⟨rfl, hb⟩; have qa0 : w3.cell? ⟨b', off' + k * 2, none⟩ = some (.string y.name) := carry_cell' hb (by assumption); have qa1 : w3.cell? ⟨b', off' + k * 2 + 1, none⟩ = some (.slice p' y.args.length c') := carry_cell' hb (by assumption); have qa2 : w3.cell? ⟨wr.heap.size, 0, none⟩ = some (.string x.name) := carry_cell' hb (by assumption); have qa3 : w3.cell? ⟨wr.heap.size, 1, none⟩ = some (.slice p x.args.length c) := carry_cell' hb (by assumption); have hw3 : Below w2.heap.size w2 w3 := carry_below (by assumption) (Nat.le_refl _) hb; clear hb))
      clear hB0 qa0 qa1 qa2 qa3
      have HB3 := Lib.hid (carry_below HBW.out (Nat.le_refl _) hw3)
      clear hw3 hw2
      cases q with
      | true =>
        have HN : Hid (∀ j, j < k + 1 → a[j]? = b[j]?) := Lib.hid (fun j hj => by
          by_cases e : j = k
          · have h := HQE.out.symm
            unfold eqT at h
            rw [e, HX.out, HY.out, of_decide_eq_true h]
          · exact HQ.out j (by omega))
        go_wp2
        go_roundw
        case rel => exact ⟨k + 1, by omega, by go_num, HN.out, HB3.out⟩
        case measure => simp [intOf]; omega
      | false =>
        have HE : Hid (fd a b = (k : Int)) := Lib.hid (fd_at hlt (by
          rw [HX.out, HY.out]
          intro h
          injection h with h
          have h2 := HQE.out.symm
          unfold eqT at h2
          exact of_decide_eq_false h2 h) HQ.out)
        go_wp2
        go_ret
        exact ⟨ret_int HE.out.symm, HB3.out⟩
    · have HE : Hid (fd a b = -1) := Lib.hid (fd_no (fun j hj => HQ.out j (by omega)))
      go_wp2
      go_ret
      exact ⟨ret_int HE.out.symm, HBR.out⟩

end Go.Proofs.Ytnabjnlphelccaa

/- The program's path ordering: the functions that it hands on: contracts. -/
namespace Go.Proofs.Ytnabjnlphelccaa
open Go.RowKit
set_option linter.unusedVariables false

set_option maxHeartbeats 2000000 in
theorem idxC1 (p : Tm → Bool) (l : List Tm) (w : World) (v : Value) (p1 p2 : Nat) (hv : TmC w v l) (hl : l.length ≤ 1048576)
    (hc : ∀ (t : Tm) (W : World) (va : Value), t ∈ l → Below w.heap.size w W → TmC W va t.args → Calls Try.prog 123 #[.agg #[.string t.name, va], .pointer (some ⟨p1, 0, none⟩), .pointer (some ⟨p2, 0, none⟩)] W (Ans (.bool (p t)) W)) :
    Calls Try.prog 136 #[v, .func (.func 123) #[] #[.pointer (some ⟨p1, 0, none⟩), .pointer (some ⟨p2, 0, none⟩)]] w (IdxT p l w) := by
  obtain ⟨a, c, rfl⟩ := hv.is_slice
  have HV := Lib.hid hv
  have HC := Lib.hid hc
  clear hv hc
  go_enter Try.func136, Try.ntmps136
  go_wp2
  go_loopw [8] (fun i wr => ∃ k : Nat, k ≤ l.length ∧ i = .int .i64 k ∧ (∀ j d, j < k → l[j]? = some d → p d = false) ∧ Below w.heap.size w wr) (fun i _ => l.length - (intOf i).toNat)
  case atStart => exact ⟨0, Nat.zero_le _, rfl, fun j d hj => absurd hj (Nat.not_lt_zero _), Below.refl _ _⟩
  case round =>
    obtain ⟨k, hk, rfl, hq, hbel⟩ := hrel
    have HQ := Lib.hid hq
    have HB := Lib.hid hbel
    clear hq hbel
    by_cases hlt : k < l.length
    · obtain ⟨d, hd⟩ : ∃ d, l[k]? = some d := ⟨_, List.getElem?_eq_getElem hlt⟩
      obtain ⟨b, off, va, rfl, c0, c1, hva⟩ := HV.out.get hd
      obtain ⟨pa, ca, rfl⟩ := hva.is_slice
      have c0' := carry_cell c0 HB.out
      have c1' := carry_cell c1 HB.out
      have HD := Lib.hid hd
      have CT := HC.out d wr _ (mem_of_at hd) HB.out (hva.kept HB.out)
      obtain ⟨q, hq⟩ : ∃ q, q = p d := ⟨_, rfl⟩
      rw [← hq] at CT
      have CT := Lib.hid CT
      have HQD := Lib.hid hq
      clear hd hva c0 c1 hq
      go_wp2_with fail
      refine CT.out.mono ?_
      rintro e w2 ⟨rfl, hb⟩
      have HB2 := Lib.hid (carry_below HB.out (Nat.le_refl _) hb)
      clear hb
      cases q with
      | true =>
        have HE : Hid (IdxT p l w (.returned (.int .i64 k)) w2) := Lib.hid ⟨k, rfl, .inr ⟨k, rfl, hlt, HQ.out, fun x hx => by rw [HD.out] at hx; injection hx with hx; rw [← hx]; exact HQD.out.symm⟩, HB2.out⟩
        go_wp2
        go_ret
        exact HE.out
      | false =>
        have HN : Hid (∀ j x, j < k + 1 → l[j]? = some x → p x = false) := Lib.hid (fun j x hj hx => by
          by_cases e : j = k
          · subst e; rw [HD.out] at hx; injection hx with hx; rw [← hx]; exact HQD.out.symm
          · exact HQ.out j x (by omega) hx)
        go_wp2
        go_roundw
        case rel => exact ⟨k + 1, by omega, by go_num, HN.out, HB2.out⟩
        case measure => simp [intOf]; omega
    · have hke : k = l.length := by omega
      have HE : Hid (IdxT p l w (.returned (.int .i64 (-1))) wr) := Lib.hid ⟨-1, rfl, .inl ⟨rfl, fun d hd => by
        obtain ⟨j, hj⟩ := List.getElem?_of_mem hd
        exact HQ.out j d (by rw [hke]; exact (List.getElem?_eq_some_iff.1 hj).1) hj⟩, HB.out⟩
      go_wp2
      go_ret
      exact HE.out

theorem conC1 (p : Tm → Bool) (l : List Tm) (w : World) (v : Value) (p1 p2 : Nat) (hv : TmC w v l) (hl : l.length ≤ 1048576)
    (hc : ∀ (t : Tm) (W : World) (va : Value), t ∈ l → Below w.heap.size w W → TmC W va t.args → Calls Try.prog 123 #[.agg #[.string t.name, va], .pointer (some ⟨p1, 0, none⟩), .pointer (some ⟨p2, 0, none⟩)] W (Ans (.bool (p t)) W)) :
    Calls Try.prog 110 #[v, .func (.func 123) #[] #[.pointer (some ⟨p1, 0, none⟩), .pointer (some ⟨p2, 0, none⟩)]] w (Ans (.bool (l.any p)) w) := by
  obtain ⟨a, c, rfl⟩ := hv.is_slice
  have CI := Lib.hid (idxC1 p l w _ p1 p2 hv hl hc)
  clear hv hc
  go_enter Try.func110, Try.ntmps110
  go_wp2_with fail
  refine CI.out.mono ?_
  intro e w1 h
  obtain ⟨i, rfl, hi, hb⟩ := idxT_any h
  have HI := Lib.hid hi
  have HB := Lib.hid hb
  clear h hi hb
  go_wp2
  go_ret
  exact ⟨ret_bool HI.out, HB.out⟩

set_option maxHeartbeats 2000000 in
theorem idxC2 (p : Tm → Bool) (l : List Tm) (w : World) (v : Value) (p1 p2 : Nat) (hv : TmC w v l) (hl : l.length ≤ 1048576)
    (hc : ∀ (t : Tm) (W : World) (va : Value), t ∈ l → Below w.heap.size w W → TmC W va t.args → Calls Try.prog 124 #[.agg #[.string t.name, va], .pointer (some ⟨p1, 0, none⟩), .pointer (some ⟨p2, 0, none⟩)] W (Ans (.bool (p t)) W)) :
    Calls Try.prog 136 #[v, .func (.func 124) #[] #[.pointer (some ⟨p1, 0, none⟩), .pointer (some ⟨p2, 0, none⟩)]] w (IdxT p l w) := by
  obtain ⟨a, c, rfl⟩ := hv.is_slice
  have HV := Lib.hid hv
  have HC := Lib.hid hc
  clear hv hc
  go_enter Try.func136, Try.ntmps136
  go_wp2
  go_loopw [8] (fun i wr => ∃ k : Nat, k ≤ l.length ∧ i = .int .i64 k ∧ (∀ j d, j < k → l[j]? = some d → p d = false) ∧ Below w.heap.size w wr) (fun i _ => l.length - (intOf i).toNat)
  case atStart => exact ⟨0, Nat.zero_le _, rfl, fun j d hj => absurd hj (Nat.not_lt_zero _), Below.refl _ _⟩
  case round =>
    obtain ⟨k, hk, rfl, hq, hbel⟩ := hrel
    have HQ := Lib.hid hq
    have HB := Lib.hid hbel
    clear hq hbel
    by_cases hlt : k < l.length
    · obtain ⟨d, hd⟩ : ∃ d, l[k]? = some d := ⟨_, List.getElem?_eq_getElem hlt⟩
      obtain ⟨b, off, va, rfl, c0, c1, hva⟩ := HV.out.get hd
      obtain ⟨pa, ca, rfl⟩ := hva.is_slice
      have c0' := carry_cell c0 HB.out
      have c1' := carry_cell c1 HB.out
      have HD := Lib.hid hd
      have CT := HC.out d wr _ (mem_of_at hd) HB.out (hva.kept HB.out)
      obtain ⟨q, hq⟩ : ∃ q, q = p d := ⟨_, rfl⟩
      rw [← hq] at CT
      have CT := Lib.hid CT
      have HQD := Lib.hid hq
      clear hd hva c0 c1 hq
      go_wp2_with fail
      refine CT.out.mono ?_
      rintro e w2 ⟨rfl, hb⟩
      have HB2 := Lib.hid (carry_below HB.out (Nat.le_refl _) hb)
      clear hb
      cases q with
      | true =>
        have HE : Hid (IdxT p l w (.returned (.int .i64 k)) w2) := Lib.hid ⟨k, rfl, .inr ⟨k, rfl, hlt, HQ.out, fun x hx => by rw [HD.out] at hx; injection hx with hx; rw [← hx]; exact HQD.out.symm⟩, HB2.out⟩
        go_wp2
        go_ret
        exact HE.out
      | false =>
        have HN : Hid (∀ j x, j < k + 1 → l[j]? = some x → p x = false) := Lib.hid (fun j x hj hx => by
          by_cases e : j = k
          · subst e; rw [HD.out] at hx; injection hx with hx; rw [← hx]; exact HQD.out.symm
          · exact HQ.out j x (by omega) hx)
        go_wp2
        go_roundw
        case rel => exact ⟨k + 1, by omega, by go_num, HN.out, HB2.out⟩
        case measure => simp [intOf]; omega
    · have hke : k = l.length := by omega
      have HE : Hid (IdxT p l w (.returned (.int .i64 (-1))) wr) := Lib.hid ⟨-1, rfl, .inl ⟨rfl, fun d hd => by
        obtain ⟨j, hj⟩ := List.getElem?_of_mem hd
        exact HQ.out j d (by rw [hke]; exact (List.getElem?_eq_some_iff.1 hj).1) hj⟩, HB.out⟩
      go_wp2
      go_ret
      exact HE.out

theorem conC2 (p : Tm → Bool) (l : List Tm) (w : World) (v : Value) (p1 p2 : Nat) (hv : TmC w v l) (hl : l.length ≤ 1048576)
    (hc : ∀ (t : Tm) (W : World) (va : Value), t ∈ l → Below w.heap.size w W → TmC W va t.args → Calls Try.prog 124 #[.agg #[.string t.name, va], .pointer (some ⟨p1, 0, none⟩), .pointer (some ⟨p2, 0, none⟩)] W (Ans (.bool (p t)) W)) :
    Calls Try.prog 110 #[v, .func (.func 124) #[] #[.pointer (some ⟨p1, 0, none⟩), .pointer (some ⟨p2, 0, none⟩)]] w (Ans (.bool (l.any p)) w) := by
  obtain ⟨a, c, rfl⟩ := hv.is_slice
  have CI := Lib.hid (idxC2 p l w _ p1 p2 hv hl hc)
  clear hv hc
  go_enter Try.func110, Try.ntmps110
  go_wp2_with fail
  refine CI.out.mono ?_
  intro e w1 h
  obtain ⟨i, rfl, hi, hb⟩ := idxT_any h
  have HI := Lib.hid hi
  have HB := Lib.hid hb
  clear h hi hb
  go_wp2
  go_ret
  exact ⟨ret_bool HI.out, HB.out⟩


theorem clo1_any (x : Tm) (w : World) (p1 p2 : Nat) (u0 u1 u2 vs0 vs1 vx : Value) (hx : TmC w vx x.args) (b : Bool) (h1 : Thr w p1 u0 u1 u2) (h2 : Two w p2 vs0 vs1)
    (hn : (∃ a n c, u0 = .slice a n c) ∧ (∃ a n c, u1 = .slice a n c) ∧ (∃ n, u2 = .int .i64 n) ∧ (∃ z, vs0 = .string z) ∧ ∃ a n c, vs1 = .slice a n c)
    (hc : ∀ W, Below w.heap.size w W → Calls Try.prog 82 #[.agg #[u0, u1, u2], .agg #[vs0, vs1], .agg #[.string x.name, vx]] W (Ans (.bool b) W)) :
    Calls Try.prog 123 #[.agg #[.string x.name, vx], .pointer (some ⟨p1, 0, none⟩), .pointer (some ⟨p2, 0, none⟩)] w (Ans (.bool (!b)) w) := by
  obtain ⟨⟨a0, n0, c0, rfl⟩, ⟨a1, n1, c1, rfl⟩, ⟨n2, rfl⟩, ⟨z, rfl⟩, ⟨a3, n3, c3, rfl⟩⟩ := hn
  obtain ⟨px, cx, rfl⟩ := hx.is_slice
  obtain ⟨w1, hw1⟩ : ∃ w1, w.alloc (.cells #[.string x.name, .slice px x.args.length cx] 30) = w1 := ⟨_, rfl⟩
  have HB : Hid (Below w.heap.size w w1) := Lib.hid (by rw [← hw1]; exact (Below.refl w.heap.size w).alloc (Nat.le_refl _) _)
  obtain ⟨b0, b1, b2, b3⟩ := h1.kept HB.out
  obtain ⟨s0, s1, s2⟩ := h2.kept HB.out
  have HX : Hid (Two w1 w.heap.size (.string x.name) (.slice px x.args.length cx)) := Lib.hid (by rw [← hw1]; exact two_new _ _ _ _ _ rfl)
  obtain ⟨x0, x1, x2⟩ := HX.out
  have HC := Lib.hid hc
  clear hx h1 h2 hc
  go_enter Try.func123, Try.ntmps123
  go_wp2_with fail
  refine (HC.out _ HB.out).mono ?_
  rintro e w2 ⟨rfl, hb⟩
  have HB2 := Lib.hid (carry_below HB.out (Nat.le_refl _) hb)
  clear hb
  go_wp2
  go_ret
  exact ⟨rfl, HB2.out⟩

theorem clo2_any (x : Tm) (w : World) (p1 p2 : Nat) (u0 u1 u2 vt0 vt1 vx : Value) (hx : TmC w vx x.args) (q b : Bool) (h1 : Two w p1 vt0 vt1) (h2 : Thr w p2 u0 u1 u2)
    (hn : (∃ a n c, u0 = .slice a n c) ∧ (∃ a n c, u1 = .slice a n c) ∧ (∃ n, u2 = .int .i64 n) ∧ (∃ z, vt0 = .string z) ∧ ∃ a n c, vt1 = .slice a n c)
    (he : ∀ W, Below w.heap.size w W → Calls Try.prog 61 #[.agg #[.string x.name, vx], .agg #[vt0, vt1]] W (Ans (.bool q) W))
    (hc : ∀ W, Below w.heap.size w W → Calls Try.prog 82 #[.agg #[u0, u1, u2], .agg #[.string x.name, vx], .agg #[vt0, vt1]] W (Ans (.bool b) W)) :
    Calls Try.prog 124 #[.agg #[.string x.name, vx], .pointer (some ⟨p1, 0, none⟩), .pointer (some ⟨p2, 0, none⟩)] w (Ans (.bool (q || b)) w) := by
  obtain ⟨⟨a0, n0, c0, rfl⟩, ⟨a1, n1, c1, rfl⟩, ⟨n2, rfl⟩, ⟨z, rfl⟩, ⟨a3, n3, c3, rfl⟩⟩ := hn
  obtain ⟨px, cx, rfl⟩ := hx.is_slice
  obtain ⟨w1, hw1⟩ : ∃ w1, w.alloc (.cells #[.string x.name, .slice px x.args.length cx] 30) = w1 := ⟨_, rfl⟩
  have HB : Hid (Below w.heap.size w w1) := Lib.hid (by rw [← hw1]; exact (Below.refl w.heap.size w).alloc (Nat.le_refl _) _)
  have H2 := Lib.hid (h2.kept HB.out)
  have H1 := Lib.hid (h1.kept HB.out)
  obtain ⟨s0, s1, s2⟩ := H1.out
  have HX : Hid (Two w1 w.heap.size (.string x.name) (.slice px x.args.length cx)) := Lib.hid (by rw [← hw1]; exact two_new _ _ _ _ _ rfl)
  obtain ⟨x0, x1, x2⟩ := HX.out
  have HC := Lib.hid hc
  have HE := Lib.hid he
  clear hx h1 h2 hc he
  go_enter Try.func124, Try.ntmps124
  go_wp2_with fail
  refine (HE.out _ HB.out).mono ?_
  intro e w2 hh
  obtain ⟨he2, hb⟩ := hh
  have HB2 := Lib.hid (carry_below HB.out (Nat.le_refl _) hb)
  have H22 := Lib.hid (H2.out.kept hb)
  have H12 := Lib.hid (H1.out.kept hb)
  have HX2 := Lib.hid (HX.out.kept hb)
  subst he2
  clear hb s0 s1 s2 x0 x1 x2 hw1
  obtain ⟨b0, b1, b2, b3⟩ := H22.out
  obtain ⟨s0, s1, s2⟩ := H12.out
  obtain ⟨x0, x1, x2⟩ := HX2.out
  cases q with
  | true =>
    go_wp2
    go_ret
    exact ⟨ret_bool (Bool.true_or _).symm, HB2.out⟩
  | false =>
    go_wp2_with fail
    refine (HC.out _ HB2.out).mono ?_
    rintro e w3 ⟨rfl, hb⟩
    have HB3 := Lib.hid (carry_below HB2.out (Nat.le_refl _) hb)
    clear hb
    go_wp2
    go_ret
    exact ⟨ret_bool (Bool.false_or _).symm, HB3.out⟩

end Go.Proofs.Ytnabjnlphelccaa

/- The program's path ordering: a contract, for orderings and terms of at most 1048576 names' bytes and elements. -/
namespace Go.Proofs.Ytnabjnlphelccaa
open Go.RowKit
set_option linter.unusedVariables false

structure Od.OkN (o : Od) (t : Tm) : Prop where
  ok : o.Ok t
  nodes : t.nodesB = true
theorem nodesB_arg {t x : Tm} (h : t.nodesB = true) (hx : x ∈ t.args) : x.nodesB = true := by
  cases hv : varB t.name with
  | true => rw [Tm.nodesB_var hv, List.isEmpty_iff] at h; rw [h] at hx; cases hx
  | false =>
    rw [Tm.nodesB_sym hv, Bool.and_eq_true, Bool.and_eq_true, List.all_eq_true] at h
    exact h.2.2 x hx
theorem Od.OkN.arg {o : Od} {t x : Tm} (h : o.OkN t) (hx : x ∈ t.args) : o.OkN x := ⟨h.ok.arg hx, nodesB_arg h.nodes hx⟩

theorem lpo_hasN {o : Od} {s t : Tm} (hs : s.nodesB = true) (ht : t.nodesB = true) (hvs : varB s.name = false) (hvt : varB t.name = true) : lpo o s t = hasN t.name s := by
  have hta : t.args = [] := by rw [Tm.nodesB_var hvt, List.isEmpty_iff] at ht; exact ht
  have hg := gt_leaf s (nodes_leaf s hs) o t hvs hvt hta
  rw [Bool.eq_iff_iff, lpo_iff, hg]
  unfold hasN
  rw [List.any_eq_true]
  exact ⟨fun ⟨r, h1, h2⟩ => ⟨r, h1, decide_eq_true h2⟩, fun ⟨r, h1, h2⟩ => ⟨r, h1, of_decide_eq_true h2⟩⟩
theorem lpo_all {o : Od} {s t : Tm} {l : List Tm} (h : Gt o s t ↔ ∀ z ∈ l, Gt o s z) : lpo o s t = !(l.any fun z => !lpo o s z) := by
  rw [Bool.eq_iff_iff, lpo_iff, h, Bool.not_eq_true', List.any_eq_false]
  constructor
  · intro h2 z hz; rw [lpo_yes (h2 z hz)]; simp
  · intro h2 z hz
    have := h2 z hz
    cases hq : lpo o s z with
    | true => exact lpo_iff.1 hq
    | false => rw [hq] at this; simp at this
theorem lpo_any {o : Od} {s t : Tm} {l : List Tm} (h : Gt o s t ↔ ∃ z ∈ l, z = t ∨ Gt o z t) : lpo o s t = l.any fun z => eqT z t || lpo o z t := by
  rw [Bool.eq_iff_iff, lpo_iff, h, List.any_eq_true]
  constructor
  · rintro ⟨z, hz, rfl | h2⟩
    · exact ⟨z, hz, by rw [eqT_self]; rfl⟩
    · exact ⟨z, hz, by rw [lpo_yes h2]; simp⟩
  · rintro ⟨z, hz, h2⟩
    rw [Bool.or_eq_true] at h2
    rcases h2 with h2 | h2
    · exact ⟨z, hz, .inl (eqT_true h2)⟩
    · exact ⟨z, hz, .inr (lpo_iff.1 h2)⟩

theorem TmC.restAt {w : World} {b off n c : Nat} {l : List Tm} (h : TmC w (.slice (some ⟨b, off, none⟩) n c) l) (k : Nat) (hk : k ≤ l.length) :
    TmC w (.slice (if c = k then some ⟨b, off, none⟩ else some ⟨b, off + k * 2, none⟩) (n - k) (c - k)) (l.drop k) := by
  have h2 := h.rest k hk
  have hadd : (Addr.add ⟨b, off, none⟩ (k * 2)) = ⟨b, off + k * 2, none⟩ := by
    simp only [Addr.add]; split <;> simp_all
  rw [Option.map_some, hadd] at h2
  exact h2

theorem eqT_all' {a b : Tm} (hn : a.name = b.name) (hl : a.args.length = b.args.length) (h : ∀ j, j < a.args.length → a.args[j]? = b.args[j]?) : eqT a b = true := by
  unfold eqT
  refine decide_eq_true ?_
  cases a with
  | node n l => cases b with
    | node m q =>
      have e : l = q := list_ext_at hl h
      have e2 : n = m := hn
      rw [e, e2]
theorem cov_mem {o : Od} {s : Tm} (h : o.cov s = true) (hv : varB s.name = false) : s.name ∈ o.sy := by
  rw [Od.cov_eq, Bool.and_eq_true] at h
  have h := h.1
  unfold Od.nodeC at h
  rw [hv, Bool.false_or, decide_eq_true_iff, rk_has] at h
  exact h

def LpoI (o : Od) (s t : Tm) : Prop := ∀ (w : World) (sv wv va vb : Value) (hv : OdV w sv wv o) (hs : TmC w va s.args) (ht : TmC w vb t.args), o.OkN s → o.OkN t →
  Calls Try.prog 82 #[.agg #[sv, wv, .int .i64 o.va], .agg #[.string s.name, va], .agg #[.string t.name, vb]] w (Ans (.bool (lpo o s t)) w)

set_option maxRecDepth 100000 in
set_option maxHeartbeats 16000000 in
theorem lpoI_of (o : Od) (ho : o.wt ≤ 1048576) (s t : Tm) (h1 : ∀ x ∈ s.args, LpoI o x t) (h2 : ∀ y ∈ t.args, LpoI o s y) (h3 : ∀ x ∈ s.args, ∀ y ∈ t.args, LpoI o x y) : LpoI o s t := by
  intro w sv wv va vb hv hs ht hos hot
  have HI1 := Lib.hid h1
  have HI2 := Lib.hid h2
  have HI3 := Lib.hid h3
  have HOS := Lib.hid hos
  have HOT := Lib.hid hot
  obtain ⟨sa, sc, wa, wc, rfl, rfl⟩ := hv.open
  obtain ⟨pa, ca, rfl⟩ := hs.is_slice
  obtain ⟨pb, cb, rfl⟩ := ht.is_slice
  obtain ⟨w1, hw1⟩ : ∃ w1, ((w.alloc (.cells #[.slice sa o.sy.length sc, .slice wa o.ws.length wc, .int .i64 o.va] 27)).alloc (.cells #[.string s.name, .slice pa s.args.length ca] 30)).alloc (.cells #[.string t.name, .slice pb t.args.length cb] 30) = w1 := ⟨_, rfl⟩
  have HB : Hid (Below w.heap.size w w1) := Lib.hid (by rw [← hw1]; exact (((Below.refl w.heap.size w).alloc (Nat.le_refl _) _).alloc (by simp) _).alloc (by simp; omega) _)
  have H3 : Hid (OdB w1 w.heap.size (.slice sa o.sy.length sc) (.slice wa o.ws.length wc) o) := Lib.hid (by rw [← hw1]; exact ((thr_new w _ _ _ _ _ rfl).alloc _).alloc _)
  have HS : Hid (Two w1 (w.heap.size + 1) (.string s.name) (.slice pa s.args.length ca)) := Lib.hid (by rw [← hw1]; exact (two_new _ _ _ 30 (w.heap.size + 1) (by simp)).alloc _)
  have HT : Hid (Two w1 (w.heap.size + 1 + 1) (.string t.name) (.slice pb t.args.length cb)) := Lib.hid (by rw [← hw1]; exact two_new _ _ _ 30 (w.heap.size + 1 + 1) (by simp))
  have HV := Lib.hid hv
  have HVS := Lib.hid hs
  have HVT := Lib.hid ht
  have hls : s.args.length ≤ 1048576 := Nat.le_trans (Tm.wt_len s) hos.ok.wt
  have hlt0 : t.args.length ≤ 1048576 := Nat.le_trans (Tm.wt_len t) hot.ok.wt
  have CVS := Lib.hid (fun W => isVar_all s.name W)
  have CVT := Lib.hid (fun W => isVar_all t.name W)
  have CCV := Lib.hid (fun W (hW : Below w.heap.size w W) => contVar_any t.name s W _ (hs.read.kept hW) hos.ok.wt)
  have CRT := Lib.hid (fun W (hW : Below w1.heap.size w1 W) => compRoots_any o ho s t W _ _ _ _ (hv.kept (carry_below HB.out (Nat.le_refl _) hW)) (hs.read.kept (carry_below HB.out (Nat.le_refl _) hW)) (ht.read.kept (carry_below HB.out (Nat.le_refl _) hW)) hos.ok.wt hot.ok.wt)
  have CFD := Lib.hid (fun (hll : s.args.length ≤ t.args.length) W (hW : Below w.heap.size w W) => fdI_any s.args t.args W _ _ (hs.read.kept hW) (ht.read.kept hW) (by omega) hll (fun x hx => (hos.arg hx).ok.wt) (fun x hx => (hot.arg hx).ok.wt))
  clear h1 h2 h3 hv hs ht hos hot
  obtain ⟨b0, b1, b2, b3⟩ := H3.out
  obtain ⟨s0, s1, s2⟩ := HS.out
  obtain ⟨t0, t1, t2⟩ := HT.out
  cases hvs : varB s.name with
  | true =>
    rw [hvs] at CVS
    have HE : Hid (lpo o s t = false) := Lib.hid (lpo_no (gt_var hvs))
    clear hvs
    go_enter Try.func82, Try.ntmps82
    go_wp2_with fail
    refine (CVS.out _).mono ?_
    rintro e w2 ⟨rfl, rfl⟩
    go_wp2_with fail
    refine (CVS.out _).mono ?_
    rintro e w3 ⟨rfl, rfl⟩
    go_wp2
    go_ret
    exact ⟨ret_bool HE.out.symm, HB.out⟩
  | false =>
    rw [hvs] at CVS
    have HVSN := Lib.hid hvs
    clear hvs
    cases hvt : varB t.name with
    | true =>
      rw [hvt] at CVT
      have HE : Hid (lpo o s t = hasN t.name s) := Lib.hid (lpo_hasN HOS.out.nodes HOT.out.nodes HVSN.out hvt)
      clear hvt
      go_enter Try.func82, Try.ntmps82
      go_wp2_with fail
      refine (CVS.out _).mono ?_
      rintro e w2 ⟨rfl, rfl⟩
      go_wp2_with fail
      refine (CVT.out _).mono ?_
      rintro e w3 ⟨rfl, rfl⟩
      go_wp2_with fail
      refine (CVS.out _).mono ?_
      rintro e w4 ⟨rfl, rfl⟩
      go_wp2_with fail
      refine (CCV.out _ HB.out).mono ?_
      rintro e w5 ⟨rfl, hb⟩
      have HB5 := Lib.hid (carry_below HB.out (Nat.le_refl _) hb)
      clear hb
      go_wp2
      go_ret
      exact ⟨ret_bool HE.out.symm, HB5.out⟩
    | false =>
      rw [hvt] at CVT
      have HVTN := Lib.hid hvt
      clear hvt CCV
      obtain ⟨r, hr⟩ : ∃ r, o.root s t = r := ⟨_, rfl⟩
      have HRE := Lib.hid hr
      rw [hr] at CRT
      clear hr
      go_enter Try.func82, Try.ntmps82
      go_wp2_with fail
      refine (CVS.out _).mono ?_
      rintro e w2 ⟨rfl, rfl⟩
      go_wp2_with fail
      refine (CVT.out _).mono ?_
      rintro e w3 ⟨rfl, rfl⟩
      clear CVS CVT
      go_wp2_with fail
      have hB0 : Below w1.heap.size w1 w1.drew := (Below.refl _ _).drew
      go_region_held3 (fun w' => w'.cell? ⟨w.heap.size, 0, none⟩ = some (.slice sa o.sy.length sc) ∧ w'.cell? ⟨w.heap.size, 1, none⟩ = some (.slice wa o.ws.length wc) ∧ w'.cell? ⟨w.heap.size, 2, none⟩ = some (.int .i64 o.va) ∧ w'.cell? ⟨w.heap.size + 1, 0, none⟩ = some (.string s.name) ∧ w'.cell? ⟨w.heap.size + 1, 1, none⟩ = some (.slice pa s.args.length ca) ∧ w'.cell? ⟨w.heap.size + 1 + 1, 0, none⟩ = some (.string t.name) ∧ w'.cell? ⟨w.heap.size + 1 + 1, 1, none⟩ = some (.slice pb t.args.length cb) ∧ Below w1.heap.size w1 w') (first | exact ⟨by assumption, by assumption, by assumption, by assumption, by assumption, by assumption, by assumption, by assumption⟩ | go_keep) (first | (go_at_call 99; refine (CRT.out _ (by assumption)).mono ?_; rintro e w4 ⟨rfl, hb⟩; have qa0 : w4.cell? ⟨w.heap.size, 0, none⟩ = some (.slice sa o.sy.length sc) := carry_cell' hb (by assumption); have qa1 : w4.cell? ⟨w.heap.size, 1, none⟩ = some (.slice wa o.ws.length wc) := carry_cell' hb (by assumption); have qa2 : w4.cell? ⟨w.heap.size, 2, none⟩ = some (.int .i64 o.va) := carry_cell' hb (by assumption); have qa3 : w4.cell? ⟨w.heap.size + 1, 0, none⟩ = some (.string s.name) := carry_cell' hb (by assumption); have qa4 : w4.cell? ⟨w.heap.size + 1, 1, none⟩ = some (.slice pa s.args.length ca) := carry_cell' hb (by assumption); have qa5 : w4.cell? ⟨w.heap.size + 1 + 1, 0, none⟩ = some (.string t.name) := carry_cell' hb (by assumption); have qa6 : w4.cell? ⟨w.heap.size + 1 + 1, 1, none⟩ = some (.slice pb t.args.length cb) := carry_cell' hb (by assumption); have hw4 : Below w1.heap.size w1 w4 := carry_below (by assumption) (Nat.le_refl _) hb; clear hb))
      clear hB0 qa0 qa1 qa2 qa3 qa4 qa5 qa6
      have hb := hw4
      clear hw4 CRT hw1
      replace HB := Lib.hid (carry_below HB.out (Nat.le_refl _) hb)
      replace H3 := Lib.hid (H3.out.kept hb)
      replace HS := Lib.hid (HS.out.kept hb)
      replace HT := Lib.hid (HT.out.kept hb)
      clear hb b0 b1 b2 b3 s0 s1 s2 t0 t1 t2
      obtain ⟨b0, b1, b2, b3⟩ := H3.out
      obtain ⟨s0, s1, s2⟩ := HS.out
      obtain ⟨t0, t1, t2⟩ := HT.out
      rcases Int.lt_trichotomy r 0 with hr | hr | hr
      · have HE := Lib.hid (lpo_any (gt_less_iff HVSN.out (by rw [HRE.out]; exact hr)))
        have e1 : (r == 0) = false := by rw [beq_eq_false_iff_ne]; omega
        clear CFD
        go_wp2_with fail
        refine (conC2 (fun z => eqT z t || lpo o z t) s.args _ _ _ _ (HVS.out.kept HB.out) (by first | omega | (rw [List.length_drop]; omega)) (fun z W vz hz hW hvz => clo2_any z W _ _ _ _ _ _ _ vz hvz (eqT z t) (lpo o z t) (HT.out.kept hW) (H3.out.kept hW) ⟨⟨_, _, _, rfl⟩, ⟨_, _, _, rfl⟩, ⟨_, rfl⟩, ⟨_, rfl⟩, ⟨_, _, _, rfl⟩⟩ (fun W2 hW2 => equalTrees_any z t W2 _ _ (hvz.read.kept hW2) (HVT.out.read.kept (carry_below HB.out (Nat.le_refl _) (carry_below hW (Nat.le_refl _) hW2))) (HOS.out.arg hz).ok.wt HOT.out.ok.wt) (fun W2 hW2 => HI1.out z hz W2 _ _ _ _ (HV.out.kept (carry_below HB.out (Nat.le_refl _) (carry_below hW (Nat.le_refl _) hW2))) (hvz.kept hW2) (HVT.out.kept (carry_below HB.out (Nat.le_refl _) (carry_below hW (Nat.le_refl _) hW2))) (HOS.out.arg hz) HOT.out))).mono ?_
        rintro e wf ⟨rfl, hb⟩
        have HBF := Lib.hid (carry_below HB.out (Nat.le_refl _) hb)
        clear hb
        go_wp2
        go_ret
        exact ⟨ret_bool HE.out.symm, HBF.out⟩
      · subst hr
        have HR0 : Hid (o.root s t = 0) := HRE
        have HLL := Lib.hid (Od.root_len HR0.out)
        have CF2 := Lib.hid (CFD.out (by have := HLL.out; omega))
        clear CFD
        rcases fd_ways s.args t.args with ⟨f1, f2⟩ | ⟨k, f1, f2, f3, f4⟩
        · rw [f1] at CF2
          have HE : Hid (lpo o s t = false) := Lib.hid (lpo_no (fun h => by
            have e : s = t := by
              refine eqT_true (eqT_all' ?_ HLL.out f2)
              have h1 := (root_zero.1 HR0.out).1
              exact rk_inj (cov_mem HOS.out.ok.cov HVSN.out) h1
            rw [e] at h
            exact Gt.irr h))
          clear f1 f2
          go_wp2_with fail
          refine (CF2.out _ HB.out).mono ?_
          rintro e w8 ⟨rfl, hb⟩
          have HB8 := Lib.hid (carry_below HB.out (Nat.le_refl _) hb)
          clear hb
          go_wp2
          go_ret
          exact ⟨ret_bool HE.out.symm, HB8.out⟩
        · rw [f1] at CF2
          obtain ⟨x, hx⟩ : ∃ x, s.args[k]? = some x := ⟨_, List.getElem?_eq_getElem f2⟩
          have hkt : k < t.args.length := by have := HLL.out; omega
          obtain ⟨y, hy⟩ : ∃ y, t.args[k]? = some y := ⟨_, List.getElem?_eq_getElem hkt⟩
          have HX := Lib.hid hx
          have HY := Lib.hid hy
          have HNE : Hid (x ≠ y) := Lib.hid (fun e => f3 (by rw [hx, hy, e]))
          have HJ := Lib.hid f4
          clear f1 f3 f4 hx hy
          go_wp2_with fail
          refine (CF2.out _ HB.out).mono ?_
          rintro e w8 ⟨rfl, hb⟩
          replace HB := Lib.hid (carry_below HB.out (Nat.le_refl _) hb)
          replace H3 := Lib.hid (H3.out.kept hb)
          replace HS := Lib.hid (HS.out.kept hb)
          replace HT := Lib.hid (HT.out.kept hb)
          clear hb b0 b1 b2 b3 s0 s1 s2 t0 t1 t2 CF2
          obtain ⟨b0, b1, b2, b3⟩ := H3.out
          obtain ⟨s0, s1, s2⟩ := HS.out
          obtain ⟨t0, t1, t2⟩ := HT.out
          obtain ⟨b, off, vx, rfl, c0, c1, hvx⟩ := HVS.out.get HX.out
          obtain ⟨b', off', vy, rfl, d0, d1, hvy⟩ := HVT.out.get HY.out
          obtain ⟨p, c, rfl⟩ := hvx.is_slice
          obtain ⟨p', c', rfl⟩ := hvy.is_slice
          have c0' := carry_cell c0 HB.out
          have c1' := carry_cell c1 HB.out
          have d0' := carry_cell d0 HB.out
          have d1' := carry_cell d1 HB.out
          have CK := Lib.hid (fun W (hW : Below w8.heap.size w8 W) => HI3.out x (mem_of_at HX.out) y (mem_of_at HY.out) W _ _ _ _ (HV.out.kept (carry_below HB.out (Nat.le_refl _) hW)) (hvx.kept (carry_below HB.out (Nat.le_refl _) hW)) (hvy.kept (carry_below HB.out (Nat.le_refl _) hW)) (HOS.out.arg (mem_of_at HX.out)) (HOT.out.arg (mem_of_at HY.out)))
          clear c0 c1 d0 d1 hvx hvy
          cases hq : lpo o x y with
          | true =>
            rw [hq] at CK
            have HE := Lib.hid (lpo_all (gt_above_iff HVSN.out HVTN.out HR0.out HX.out HY.out HJ.out (lpo_iff.1 hq)))
            clear hq
            go_wp2_with fail
            have hB0 : Below w8.heap.size w8 w8.drew := (Below.refl _ _).drew
            go_region_held3 (fun w' => w'.cell? ⟨w.heap.size, 0, none⟩ = some (.slice sa o.sy.length sc) ∧ w'.cell? ⟨w.heap.size, 1, none⟩ = some (.slice wa o.ws.length wc) ∧ w'.cell? ⟨w.heap.size, 2, none⟩ = some (.int .i64 o.va) ∧ w'.cell? ⟨b, off + k * 2, none⟩ = some (.string x.name) ∧ w'.cell? ⟨b, off + k * 2 + 1, none⟩ = some (.slice p x.args.length c) ∧ w'.cell? ⟨b', off' + k * 2, none⟩ = some (.string y.name) ∧ w'.cell? ⟨b', off' + k * 2 + 1, none⟩ = some (.slice p' y.args.length c') ∧ Below w8.heap.size w8 w') (first | exact ⟨by assumption, by assumption, by assumption, by assumption, by assumption, by assumption, by assumption, by assumption⟩ | go_keep) (first | (go_at_call 82; refine (CK.out _ (by assumption)).mono ?_; rintro e w9 ⟨rfl, hb⟩; have qa0 : w9.cell? ⟨w.heap.size, 0, none⟩ = some (.slice sa o.sy.length sc) := carry_cell' hb (by assumption); have qa1 : w9.cell? ⟨w.heap.size, 1, none⟩ = some (.slice wa o.ws.length wc) := carry_cell' hb (by assumption); have qa2 : w9.cell? ⟨w.heap.size, 2, none⟩ = some (.int .i64 o.va) := carry_cell' hb (by assumption); have qa3 : w9.cell? ⟨b, off + k * 2, none⟩ = some (.string x.name) := carry_cell' hb (by assumption); have qa4 : w9.cell? ⟨b, off + k * 2 + 1, none⟩ = some (.slice p x.args.length c) := carry_cell' hb (by assumption); have qa5 : w9.cell? ⟨b', off' + k * 2, none⟩ = some (.string y.name) := carry_cell' hb (by assumption); have qa6 : w9.cell? ⟨b', off' + k * 2 + 1, none⟩ = some (.slice p' y.args.length c') := carry_cell' hb (by assumption); have hw9 : Below w8.heap.size w8 w9 := carry_below (by assumption) (Nat.le_refl _) hb; clear hb))
            clear hB0 qa0 qa1 qa2 qa3 qa4 qa5 qa6
            have hb := hw9
            clear hw9 c0' c1' d0' d1' CK
            replace HB := Lib.hid (carry_below HB.out (Nat.le_refl _) hb)
            replace H3 := Lib.hid (H3.out.kept hb)
            replace HS := Lib.hid (HS.out.kept hb)
            replace HT := Lib.hid (HT.out.kept hb)
            clear hb b0 b1 b2 b3 s0 s1 s2 t0 t1 t2
            obtain ⟨b0, b1, b2, b3⟩ := H3.out
            obtain ⟨s0, s1, s2⟩ := HS.out
            obtain ⟨t0, t1, t2⟩ := HT.out
            have hw0 : IntKind.i64.wrap ((k : Int) + 1) = (k : Int) + 1 := IntWalk.i64_in _ (by omega)
            have hw2 : (0 : Int) ≤ (k : Int) + 1 := by omega
            have hw3 : ((k : Int) + 1).toNat = k + 1 := by omega
            have hw4 : (k : Int) + 1 ≤ (s.args.length : Int) := by omega
            have hw5 : (k : Int) + 1 ≤ (t.args.length : Int) := by omega
            have hk5 : k + 1 ≤ s.args.length := by omega
            have hk6 : k + 1 ≤ t.args.length := by omega
            have hk7 : (s.args.drop (k + 1)).length ≤ 1048576 := by rw [List.length_drop]; omega
            have hk8 : (t.args.drop (k + 1)).length ≤ 1048576 := by rw [List.length_drop]; omega
            go_wp2
            go_quiet (fail)
            clear hw0 hw2 hw3 hw4 hw5
            have hb : Below w9.heap.size w9 (w9.drewN nq) := ⟨rfl, rfl, rfl, Nat.le_refl _, fun _ _ => rfl⟩
            obtain ⟨wq, hwq⟩ : ∃ x, x = w9.drewN nq := ⟨_, rfl⟩
            rw [← hwq] at hb ⊢
            clear hwq
            replace HB := Lib.hid (carry_below HB.out (Nat.le_refl _) hb)
            replace H3 := Lib.hid (H3.out.kept hb)
            replace HS := Lib.hid (HS.out.kept hb)
            replace HT := Lib.hid (HT.out.kept hb)
            clear hb b0 b1 b2 b3 s0 s1 s2 t0 t1 t2
            obtain ⟨b0, b1, b2, b3⟩ := H3.out
            obtain ⟨s0, s1, s2⟩ := HS.out
            obtain ⟨t0, t1, t2⟩ := HT.out
            obtain ⟨A, hA⟩ : ∃ A : Option Addr, A = (if ca = k + 1 then some ⟨b, off, none⟩ else some ⟨b, off + (k + 1) * 2, none⟩) := ⟨_, rfl⟩
            obtain ⟨B, hB⟩ : ∃ B : Option Addr, B = (if cb = k + 1 then some ⟨b', off', none⟩ else some ⟨b', off' + (k + 1) * 2, none⟩) := ⟨_, rfl⟩
            rw [← hA, ← hB]
            have HRS : Hid (TmC w (.slice A (s.args.length - (k + 1)) (ca - (k + 1))) (s.args.drop (k + 1))) := Lib.hid (by rw [hA]; exact HVS.out.restAt (k + 1) hk5)
            have HRT : Hid (TmC w (.slice B (t.args.length - (k + 1)) (cb - (k + 1))) (t.args.drop (k + 1))) := Lib.hid (by rw [hB]; exact HVT.out.restAt (k + 1) hk6)
            clear hA hB hk5 hk6
            go_wp2_with fail
            refine (conC1 (fun z => !lpo o s z) (t.args.drop (k + 1)) _ _ _ _ (HRT.out.kept HB.out) (by assumption) (fun z W vz hz hW hvz => clo1_any z W _ _ _ _ _ _ _ vz hvz (lpo o s z) (H3.out.kept hW) (HS.out.kept hW) ⟨⟨_, _, _, rfl⟩, ⟨_, _, _, rfl⟩, ⟨_, rfl⟩, ⟨_, rfl⟩, ⟨_, _, _, rfl⟩⟩ (fun W2 hW2 => HI2.out z (List.mem_of_mem_drop hz) W2 _ _ _ _ (HV.out.kept (carry_below HB.out (Nat.le_refl _) (carry_below hW (Nat.le_refl _) hW2))) (HVS.out.kept (carry_below HB.out (Nat.le_refl _) (carry_below hW (Nat.le_refl _) hW2))) (hvz.kept hW2) HOS.out (HOT.out.arg (List.mem_of_mem_drop hz))))).mono ?_
            rintro e wf ⟨rfl, hb⟩
            have HBF := Lib.hid (carry_below HB.out (Nat.le_refl _) hb)
            clear hb
            go_wp2
            go_ret
            exact ⟨ret_bool HE.out.symm, HBF.out⟩
          | false =>
            rw [hq] at CK
            have HE := Lib.hid (lpo_any (gt_below_iff HVSN.out HVTN.out HR0.out HX.out HY.out HNE.out HJ.out (lpo_not hq)))
            clear hq
            go_wp2_with fail
            have hB0 : Below w8.heap.size w8 w8.drew := (Below.refl _ _).drew
            go_region_held3 (fun w' => w'.cell? ⟨w.heap.size, 0, none⟩ = some (.slice sa o.sy.length sc) ∧ w'.cell? ⟨w.heap.size, 1, none⟩ = some (.slice wa o.ws.length wc) ∧ w'.cell? ⟨w.heap.size, 2, none⟩ = some (.int .i64 o.va) ∧ w'.cell? ⟨b, off + k * 2, none⟩ = some (.string x.name) ∧ w'.cell? ⟨b, off + k * 2 + 1, none⟩ = some (.slice p x.args.length c) ∧ w'.cell? ⟨b', off' + k * 2, none⟩ = some (.string y.name) ∧ w'.cell? ⟨b', off' + k * 2 + 1, none⟩ = some (.slice p' y.args.length c') ∧ Below w8.heap.size w8 w') (first | exact ⟨by assumption, by assumption, by assumption, by assumption, by assumption, by assumption, by assumption, by assumption⟩ | go_keep) (first | (go_at_call 82; refine (CK.out _ (by assumption)).mono ?_; rintro e w9 ⟨rfl, hb⟩; have qa0 : w9.cell? ⟨w.heap.size, 0, none⟩ = some (.slice sa o.sy.length sc) := carry_cell' hb (by assumption); have qa1 : w9.cell? ⟨w.heap.size, 1, none⟩ = some (.slice wa o.ws.length wc) := carry_cell' hb (by assumption); have qa2 : w9.cell? ⟨w.heap.size, 2, none⟩ = some (.int .i64 o.va) := carry_cell' hb (by assumption); have qa3 : w9.cell? ⟨b, off + k * 2, none⟩ = some (.string x.name) := carry_cell' hb (by assumption); have qa4 : w9.cell? ⟨b, off + k * 2 + 1, none⟩ = some (.slice p x.args.length c) := carry_cell' hb (by assumption); have qa5 : w9.cell? ⟨b', off' + k * 2, none⟩ = some (.string y.name) := carry_cell' hb (by assumption); have qa6 : w9.cell? ⟨b', off' + k * 2 + 1, none⟩ = some (.slice p' y.args.length c') := carry_cell' hb (by assumption); have hw9 : Below w8.heap.size w8 w9 := carry_below (by assumption) (Nat.le_refl _) hb; clear hb))
            clear hB0 qa0 qa1 qa2 qa3 qa4 qa5 qa6
            have hb := hw9
            clear hw9 c0' c1' d0' d1' CK
            replace HB := Lib.hid (carry_below HB.out (Nat.le_refl _) hb)
            replace H3 := Lib.hid (H3.out.kept hb)
            replace HS := Lib.hid (HS.out.kept hb)
            replace HT := Lib.hid (HT.out.kept hb)
            clear hb b0 b1 b2 b3 s0 s1 s2 t0 t1 t2
            obtain ⟨b0, b1, b2, b3⟩ := H3.out
            obtain ⟨s0, s1, s2⟩ := HS.out
            obtain ⟨t0, t1, t2⟩ := HT.out
            have hw0 : IntKind.i64.wrap ((k : Int) + 1) = (k : Int) + 1 := IntWalk.i64_in _ (by omega)
            have hw2 : (0 : Int) ≤ (k : Int) + 1 := by omega
            have hw3 : ((k : Int) + 1).toNat = k + 1 := by omega
            have hw4 : (k : Int) + 1 ≤ (s.args.length : Int) := by omega
            have hw5 : (k : Int) + 1 ≤ (t.args.length : Int) := by omega
            have hk5 : k + 1 ≤ s.args.length := by omega
            have hk6 : k + 1 ≤ t.args.length := by omega
            have hk7 : (s.args.drop (k + 1)).length ≤ 1048576 := by rw [List.length_drop]; omega
            have hk8 : (t.args.drop (k + 1)).length ≤ 1048576 := by rw [List.length_drop]; omega
            go_wp2
            go_quiet (fail)
            clear hw0 hw2 hw3 hw4 hw5
            have hb : Below w9.heap.size w9 (w9.drewN nq) := ⟨rfl, rfl, rfl, Nat.le_refl _, fun _ _ => rfl⟩
            obtain ⟨wq, hwq⟩ : ∃ x, x = w9.drewN nq := ⟨_, rfl⟩
            rw [← hwq] at hb ⊢
            clear hwq
            replace HB := Lib.hid (carry_below HB.out (Nat.le_refl _) hb)
            replace H3 := Lib.hid (H3.out.kept hb)
            replace HS := Lib.hid (HS.out.kept hb)
            replace HT := Lib.hid (HT.out.kept hb)
            clear hb b0 b1 b2 b3 s0 s1 s2 t0 t1 t2
            obtain ⟨b0, b1, b2, b3⟩ := H3.out
            obtain ⟨s0, s1, s2⟩ := HS.out
            obtain ⟨t0, t1, t2⟩ := HT.out
            obtain ⟨A, hA⟩ : ∃ A : Option Addr, A = (if ca = k + 1 then some ⟨b, off, none⟩ else some ⟨b, off + (k + 1) * 2, none⟩) := ⟨_, rfl⟩
            obtain ⟨B, hB⟩ : ∃ B : Option Addr, B = (if cb = k + 1 then some ⟨b', off', none⟩ else some ⟨b', off' + (k + 1) * 2, none⟩) := ⟨_, rfl⟩
            rw [← hA, ← hB]
            have HRS : Hid (TmC w (.slice A (s.args.length - (k + 1)) (ca - (k + 1))) (s.args.drop (k + 1))) := Lib.hid (by rw [hA]; exact HVS.out.restAt (k + 1) hk5)
            have HRT : Hid (TmC w (.slice B (t.args.length - (k + 1)) (cb - (k + 1))) (t.args.drop (k + 1))) := Lib.hid (by rw [hB]; exact HVT.out.restAt (k + 1) hk6)
            clear hA hB hk5 hk6
            go_wp2_with fail
            refine (conC2 (fun z => eqT z t || lpo o z t) (s.args.drop (k + 1)) _ _ _ _ (HRS.out.kept HB.out) (by assumption) (fun z W vz hz hW hvz => clo2_any z W _ _ _ _ _ _ _ vz hvz (eqT z t) (lpo o z t) (HT.out.kept hW) (H3.out.kept hW) ⟨⟨_, _, _, rfl⟩, ⟨_, _, _, rfl⟩, ⟨_, rfl⟩, ⟨_, rfl⟩, ⟨_, _, _, rfl⟩⟩ (fun W2 hW2 => equalTrees_any z t W2 _ _ (hvz.read.kept hW2) (HVT.out.read.kept (carry_below HB.out (Nat.le_refl _) (carry_below hW (Nat.le_refl _) hW2))) (HOS.out.arg (List.mem_of_mem_drop hz)).ok.wt HOT.out.ok.wt) (fun W2 hW2 => HI1.out z (List.mem_of_mem_drop hz) W2 _ _ _ _ (HV.out.kept (carry_below HB.out (Nat.le_refl _) (carry_below hW (Nat.le_refl _) hW2))) (hvz.kept hW2) (HVT.out.kept (carry_below HB.out (Nat.le_refl _) (carry_below hW (Nat.le_refl _) hW2))) (HOS.out.arg (List.mem_of_mem_drop hz)) HOT.out))).mono ?_
            rintro e wf ⟨rfl, hb⟩
            have HBF := Lib.hid (carry_below HB.out (Nat.le_refl _) hb)
            clear hb
            go_wp2
            go_ret
            exact ⟨ret_bool HE.out.symm, HBF.out⟩
      · have HE := Lib.hid (lpo_all (gt_prec_iff HVSN.out HVTN.out (by rw [HRE.out]; exact hr)))
        have e1 : (r == 0) = false := by rw [beq_eq_false_iff_ne]; omega
        clear CFD
        go_wp2_with fail
        refine (conC1 (fun z => !lpo o s z) t.args _ _ _ _ (HVT.out.kept HB.out) (by first | omega | (rw [List.length_drop]; omega)) (fun z W vz hz hW hvz => clo1_any z W _ _ _ _ _ _ _ vz hvz (lpo o s z) (H3.out.kept hW) (HS.out.kept hW) ⟨⟨_, _, _, rfl⟩, ⟨_, _, _, rfl⟩, ⟨_, rfl⟩, ⟨_, rfl⟩, ⟨_, _, _, rfl⟩⟩ (fun W2 hW2 => HI2.out z hz W2 _ _ _ _ (HV.out.kept (carry_below HB.out (Nat.le_refl _) (carry_below hW (Nat.le_refl _) hW2))) (HVS.out.kept (carry_below HB.out (Nat.le_refl _) (carry_below hW (Nat.le_refl _) hW2))) (hvz.kept hW2) HOS.out (HOT.out.arg hz)))).mono ?_
        rintro e wf ⟨rfl, hb⟩
        have HBF := Lib.hid (carry_below HB.out (Nat.le_refl _) hb)
        clear hb
        go_wp2
        go_ret
        exact ⟨ret_bool HE.out.symm, HBF.out⟩

theorem lpoI_ind (o : Od) (ho : o.wt ≤ 1048576) : ∀ (n : Nat) (s t : Tm), s.sz + t.sz ≤ n → LpoI o s t := by
  intro n
  induction n with
  | zero => intro s t h; have := s.sz_pos; omega
  | succ n ih =>
    intro s t h
    exact lpoI_of o ho s t (fun x hx => ih x t (by have := sz_lt hx; omega)) (fun y hy => ih s y (by have := sz_lt hy; omega)) (fun x hx y hy => ih x y (by have := sz_lt hx; have := sz_lt hy; omega))
theorem lpoI_any (o : Od) (ho : o.wt ≤ 1048576) (s t : Tm) : LpoI o s t := lpoI_ind o ho _ s t (Nat.le_refl _)

end Go.Proofs.Ytnabjnlphelccaa

/- CompareLPO, the program's: a contract, for orderings and terms of at most 1048576 names' bytes and elements. -/
namespace Go.Proofs.Ytnabjnlphelccaa
open Go.RowKit
set_option linter.unusedVariables false

theorem tmS_pair {w : World} {s t : Tm} {va vb : Value} (hs : TmS w va s.args) (ht : TmS w vb t.args) (g c : Nat) (h0 : w.cell? ⟨g, 0, none⟩ = some (.string s.name)) (h1 : w.cell? ⟨g, 1, none⟩ = some va) (h2 : w.cell? ⟨g, 2, none⟩ = some (.string t.name)) (h3 : w.cell? ⟨g, 3, none⟩ = some vb) :
    TmS w (.slice (some ⟨g, 0, none⟩) 2 c) [s, t] := by
  refine .row g 0 c [s, t] (fun i => if i = 0 then va else vb) (by simp) (fun i x hi => ?_) (fun i x hi => ?_) (fun i x hi => ?_)
  all_goals
    have hi2 : i < 2 := by have := (List.getElem?_eq_some_iff.1 hi).1; simpa using this
    rcases (show i = 0 ∨ i = 1 by omega) with rfl | rfl
  · have e : s = x := by simpa using hi
    subst e; exact h0
  · have e : t = x := by simpa using hi
    subst e; exact h2
  · have e : s = x := by simpa using hi
    subst e; exact h1
  · have e : t = x := by simpa using hi
    subst e; exact h3
  · have e : s = x := by simpa using hi
    subst e; exact hs
  · have e : t = x := by simpa using hi
    subst e; exact ht
theorem okN_of {o : Od} {t : Tm} (hw : t.wt ≤ 1048576) (h : (goodB t && o.cov t) = true) : o.OkN t := by
  rw [Bool.and_eq_true] at h
  have e := h.1
  unfold goodB at e
  rw [Bool.and_eq_true] at e
  refine ⟨⟨hw, ?_, h.2⟩, e.2⟩
  have e2 := e.1
  unfold fitsB at e2
  simp only [Bool.and_eq_true, decide_eq_true_eq] at e2
  exact e2.1
theorem okTs_two (o : Od) (s t : Tm) : o.okTs [s, t] = o.ok2 s t := by unfold Od.okTs Od.ok2; simp

set_option maxHeartbeats 2000000 in
theorem compByLPO_any (s t : Tm) (w : World) (sv wv : Value) (n : Int) (va vb : Value) (hs : TmS w va s.args) (ht : TmS w vb t.args) (e g l : Bool) (hq : (∃ a m c, sv = .slice a m c) ∧ ∃ a m c, wv = .slice a m c)
    (he : ∀ W, Below w.heap.size w W → Calls Try.prog 61 #[.agg #[.string s.name, va], .agg #[.string t.name, vb]] W (Ans (.bool e) W))
    (hg : ∀ W, Below w.heap.size w W → Calls Try.prog 82 #[.agg #[sv, wv, .int .i64 n], .agg #[.string s.name, va], .agg #[.string t.name, vb]] W (Ans (.bool g) W))
    (hl : ∀ W, Below w.heap.size w W → Calls Try.prog 82 #[.agg #[sv, wv, .int .i64 n], .agg #[.string t.name, vb], .agg #[.string s.name, va]] W (Ans (.bool l) W)) :
    Calls Try.prog 60 #[.agg #[.string s.name, va], .agg #[.string t.name, vb], .func (.func 61) #[] #[], .func (.func 82) #[.agg #[sv, wv, .int .i64 n]] #[]] w (Ans (.int .i64 (codeR e g l)) w) := by
  obtain ⟨⟨sa, sn, sc, rfl⟩, wa, wn, wc, rfl⟩ := hq
  obtain ⟨pa, ca, rfl⟩ := hs.is_slice
  obtain ⟨pb, cb, rfl⟩ := ht.is_slice
  obtain ⟨w1, hw1⟩ : ∃ w1, (w.alloc (.cells #[.string s.name, .slice pa s.args.length ca] 30)).alloc (.cells #[.string t.name, .slice pb t.args.length cb] 30) = w1 := ⟨_, rfl⟩
  have HB : Hid (Below w.heap.size w w1) := Lib.hid (by rw [← hw1]; exact ((Below.refl w.heap.size w).alloc (Nat.le_refl _) _).alloc (by simp) _)
  have HS : Hid (Two w1 w.heap.size (.string s.name) (.slice pa s.args.length ca)) := Lib.hid (by rw [← hw1]; exact (two_new w _ _ _ _ rfl).alloc _)
  have HT : Hid (Two w1 (w.heap.size + 1) (.string t.name) (.slice pb t.args.length cb)) := Lib.hid (by rw [← hw1]; exact two_new _ _ _ 30 (w.heap.size + 1) (by simp))
  have HE := Lib.hid he
  have HG := Lib.hid hg
  have HL := Lib.hid hl
  clear hs ht he hg hl
  obtain ⟨s0, s1, s2⟩ := HS.out
  obtain ⟨t0, t1, t2⟩ := HT.out
  go_enter Try.func60, Try.ntmps60
  go_wp2_with fail
  refine (HE.out _ HB.out).mono ?_
  intro r w2 hh
  obtain ⟨hr, hb⟩ := hh
  replace HB := Lib.hid (carry_below HB.out (Nat.le_refl _) hb)
  replace HS := Lib.hid (HS.out.kept hb)
  replace HT := Lib.hid (HT.out.kept hb)
  subst hr
  clear hb s0 s1 s2 t0 t1 t2 hw1
  obtain ⟨s0, s1, s2⟩ := HS.out
  obtain ⟨t0, t1, t2⟩ := HT.out
  cases e with
  | true =>
    go_wp2
    go_ret
    exact ⟨rfl, HB.out⟩
  | false =>
    go_wp2_with fail
    refine (HG.out _ HB.out).mono ?_
    intro r w3 hh
    obtain ⟨hr, hb⟩ := hh
    replace HB := Lib.hid (carry_below HB.out (Nat.le_refl _) hb)
    replace HS := Lib.hid (HS.out.kept hb)
    replace HT := Lib.hid (HT.out.kept hb)
    subst hr
    clear hb s0 s1 s2 t0 t1 t2
    obtain ⟨s0, s1, s2⟩ := HS.out
    obtain ⟨t0, t1, t2⟩ := HT.out
    cases g with
    | true =>
      go_wp2
      go_ret
      exact ⟨rfl, HB.out⟩
    | false =>
      go_wp2_with fail
      refine (HL.out _ HB.out).mono ?_
      intro r w4 hh
      obtain ⟨hr, hb⟩ := hh
      replace HB := Lib.hid (carry_below HB.out (Nat.le_refl _) hb)
      subst hr
      clear hb s0 s1 s2 t0 t1 t2
      cases l with
      | true =>
        go_wp2
        go_ret
        exact ⟨rfl, HB.out⟩
      | false =>
        go_wp2
        go_ret
        exact ⟨rfl, HB.out⟩

set_option maxHeartbeats 4000000 in
theorem implLPO_any (o : Od) (ho : o.wt ≤ 1048576) (s t : Tm) (w : World) (sv wv va vb : Value) (hv : OdV w sv wv o) (hs : TmC w va s.args) (ht : TmC w vb t.args) (hws : s.wt ≤ 1048576) (hwt : t.wt ≤ 1048576) :
    Calls Try.prog 37 #[.agg #[sv, wv, .int .i64 o.va], .agg #[.string s.name, va], .agg #[.string t.name, vb]] w (Ans (.tuple #[.int .i64 (o.lpoR s t), .bool (o.ok2 s t)]) w) := by
  obtain ⟨sa, sc, wa, wc, rfl, rfl⟩ := hv.open
  obtain ⟨pa, ca, rfl⟩ := hs.is_slice
  obtain ⟨pb, cb, rfl⟩ := ht.is_slice
  obtain ⟨w1, hw1⟩ : ∃ w1, ((w.alloc (.cells #[.slice sa o.sy.length sc, .slice wa o.ws.length wc, .int .i64 o.va] 27)).alloc (.cells #[.string s.name, .slice pa s.args.length ca] 30)).alloc (.cells #[.string t.name, .slice pb t.args.length cb] 30) = w1 := ⟨_, rfl⟩
  have HB : Hid (Below w.heap.size w w1) := Lib.hid (by rw [← hw1]; exact (((Below.refl w.heap.size w).alloc (Nat.le_refl _) _).alloc (by simp) _).alloc (by simp; omega) _)
  have H3 : Hid (OdB w1 w.heap.size (.slice sa o.sy.length sc) (.slice wa o.ws.length wc) o) := Lib.hid (by rw [← hw1]; exact ((thr_new w _ _ _ _ _ rfl).alloc _).alloc _)
  have HS : Hid (Two w1 (w.heap.size + 1) (.string s.name) (.slice pa s.args.length ca)) := Lib.hid (by rw [← hw1]; exact (two_new _ _ _ 30 (w.heap.size + 1) (by simp)).alloc _)
  have HT : Hid (Two w1 (w.heap.size + 1 + 1) (.string t.name) (.slice pb t.args.length cb)) := Lib.hid (by rw [← hw1]; exact two_new _ _ _ 30 (w.heap.size + 1 + 1) (by simp))
  have HV := Lib.hid hv
  have HVS := Lib.hid hs
  have HVT := Lib.hid ht
  obtain ⟨w2, hw2⟩ : ∃ w2, w1.alloc (.cells #[.string s.name, .slice pa s.args.length ca, .string t.name, .slice pb t.args.length cb] 30) = w2 := ⟨_, rfl⟩
  have HB12 : Below w1.heap.size w1 w2 := by rw [← hw2]; exact (Below.refl _ _).alloc (Nat.le_refl _) _
  have HB2 := Lib.hid (carry_below HB.out (Nat.le_refl _) HB12)
  have c0 : w2.cell? ⟨w1.heap.size, 0, none⟩ = some (.string s.name) := by rw [← hw2, World.cell?_alloc_at _ _ _ _ rfl]; rfl
  have c1 : w2.cell? ⟨w1.heap.size, 1, none⟩ = some (.slice pa s.args.length ca) := by rw [← hw2, World.cell?_alloc_at _ _ _ _ rfl]; rfl
  have c2 : w2.cell? ⟨w1.heap.size, 2, none⟩ = some (.string t.name) := by rw [← hw2, World.cell?_alloc_at _ _ _ _ rfl]; rfl
  have c3 : w2.cell? ⟨w1.heap.size, 3, none⟩ = some (.slice pb t.args.length cb) := by rw [← hw2, World.cell?_alloc_at _ _ _ _ rfl]; rfl
  have CG := covT_any o [s, t] w2 _ _ _ (hv.kept HB2.out) (tmS_pair (hs.read.kept HB2.out) (ht.read.kept HB2.out) w1.heap.size 2 c0 c1 c2 c3) ho (by simp) (fun x hx => by
    rcases List.mem_cons.1 hx with rfl | hx
    · exact hws
    · rw [List.mem_singleton.1 hx]; exact hwt)
  rw [okTs_two] at CG
  have HCG := Lib.hid CG
  have H32 := Lib.hid (H3.out.kept HB12)
  have HS2 := Lib.hid (HS.out.kept HB12)
  have HT2 := Lib.hid (HT.out.kept HB12)
  have HO : Hid (o.ok2 s t = (o.good && ((goodB s && o.cov s) && (goodB t && o.cov t)))) := Lib.hid rfl
  have HR : Hid (o.lpoR s t = if o.ok2 s t then o.lpoC s t else 0) := Lib.hid rfl
  clear hv hs ht CG c0 c1 c2 c3 HB12
  obtain ⟨b0, b1, b2, b3⟩ := H3.out
  obtain ⟨s0, s1, s2⟩ := HS.out
  obtain ⟨t0, t1, t2⟩ := HT.out
  go_enter Try.func37, Try.ntmps37
  go_wp2_with fail
  refine HCG.out.mono ?_
  rintro e w3 ⟨rfl, hb⟩
  replace HB := Lib.hid (carry_below HB2.out (Nat.le_refl _) hb)
  replace H3 := Lib.hid (H32.out.kept hb)
  replace HS := Lib.hid (HS2.out.kept hb)
  replace HT := Lib.hid (HT2.out.kept hb)
  clear hb b0 b1 b2 b3 s0 s1 s2 t0 t1 t2 hw1 hw2 H32 HS2 HT2 HB2 HCG
  obtain ⟨b0, b1, b2, b3⟩ := H3.out
  obtain ⟨s0, s1, s2⟩ := HS.out
  obtain ⟨t0, t1, t2⟩ := HT.out
  cases hg : o.ok2 s t with
  | false =>
    have HG := Lib.hid hg
    have HR2 : Hid (o.lpoR s t = 0) := Lib.hid (by rw [HR.out, hg]; rfl)
    clear hg
    go_wp2
    go_ret2
    exact ⟨ret_pair HR2.out.symm HG.out.symm, HB.out⟩
  | true =>
    have HG := Lib.hid hg
    have HR2 : Hid (o.lpoR s t = codeR (eqT s t) (lpo o s t) (lpo o t s)) := Lib.hid (by rw [HR.out, hg]; rfl)
    have hgc := hg
    rw [HO.out, Bool.and_eq_true, Bool.and_eq_true] at hgc
    have HOS := okN_of hws hgc.2.1
    have HOT := okN_of hwt hgc.2.2
    have HCB := Lib.hid (compByLPO_any s t w3 (.slice sa o.sy.length sc) (.slice wa o.ws.length wc) o.va _ _ (HVS.out.read.kept HB.out) (HVT.out.read.kept HB.out) (eqT s t) (lpo o s t) (lpo o t s) ⟨⟨_, _, _, rfl⟩, _, _, _, rfl⟩
      (fun W hW => equalTrees_any s t W _ _ (HVS.out.read.kept (carry_below HB.out (Nat.le_refl _) hW)) (HVT.out.read.kept (carry_below HB.out (Nat.le_refl _) hW)) hws hwt)
      (fun W hW => lpoI_any o ho s t W _ _ _ _ (HV.out.kept (carry_below HB.out (Nat.le_refl _) hW)) (HVS.out.kept (carry_below HB.out (Nat.le_refl _) hW)) (HVT.out.kept (carry_below HB.out (Nat.le_refl _) hW)) HOS HOT)
      (fun W hW => lpoI_any o ho t s W _ _ _ _ (HV.out.kept (carry_below HB.out (Nat.le_refl _) hW)) (HVT.out.kept (carry_below HB.out (Nat.le_refl _) hW)) (HVS.out.kept (carry_below HB.out (Nat.le_refl _) hW)) HOT HOS))
    clear HOS HOT
    clear hg hgc
    go_wp2_with fail
    refine HCB.out.mono ?_
    intro r w4 hh
    obtain ⟨hr, hb⟩ := hh
    have HBF := Lib.hid (carry_below HB.out (Nat.le_refl _) hb)
    subst hr
    clear hb
    go_wp2
    go_ret2
    exact ⟨ret_pair HR2.out.symm HG.out.symm, HBF.out⟩

end Go.Proofs.Ytnabjnlphelccaa
