/- Several texts in one: each says what it proves. No condition but theirs. -/
import Derived.Test.YtmlenhjhkpgcnaaLpG
import Derived.Test.YtmlenhjhkpgcnaaWcG
import Derived.Test.YtmlenhjhkpgcnaaVnG
import Derived.Test.YtmlenhjhkpgcnaaOhG
/- Balance in the program's words: what is left of one list of variables without another's. No condition. -/
namespace Go.Proofs.Ytmlenhjhkpgcnaa
open Go.RowKit
set_option linter.unusedVariables false

def LeafL (l : List Tm) : Prop := ∀ x ∈ l, x.args = []
theorem tm_leaf {x t : Tm} (hx : x.args = []) (ht : t.args = []) (h : x.name = t.name) : x = t := by
  cases x with
  | node n l => cases t with
    | node m q =>
      have e1 : l = [] := hx
      have e2 : q = [] := ht
      have e3 : n = m := h
      rw [e1, e2, e3]
theorem eqT_yes {x t : Tm} (h : x = t) : eqT x t = true := by unfold eqT; exact decide_eq_true h
theorem eqT_no {x t : Tm} (h : x ≠ t) : eqT x t = false := by unfold eqT; exact decide_eq_false h
theorem LeafL.rem {t : Tm} {l : List Tm} (h : LeafL l) : LeafL (rem1 t l) := fun x hx => h x (rem1_mem hx)

theorem rem1_cnt {t : Tm} (ht : t.args = []) (n : ByteArray) : ∀ {l : List Tm}, LeafL l → cnt n (rem1 t l) = if t.name = n then cnt n l - 1 else cnt n l
  | [], _ => by rw [rem1, cnt_nil]; split <;> rfl
  | x :: r, h => by
    have ih := rem1_cnt ht n (l := r) (fun y hy => h y (List.mem_cons_of_mem _ hy))
    by_cases hxt : x.name = t.name
    · have e := tm_leaf (h x List.mem_cons_self) ht hxt
      rw [rem1, if_pos (eqT_yes e)]
      by_cases hn : t.name = n
      · rw [if_pos hn, cnt_cons_yes (hxt.trans hn)]; omega
      · rw [if_neg hn, cnt_cons_no (fun e => hn (hxt.symm.trans e))]
    · rw [rem1, if_neg (by rw [eqT_no (fun e => hxt (by rw [e]))]; decide)]
      by_cases hn : t.name = n
      · rw [if_pos hn] at ih ⊢
        have hx : x.name ≠ n := fun e => hxt (e.trans hn.symm)
        rw [cnt_cons_no hx, cnt_cons_no hx, ih]
      · rw [if_neg hn] at ih ⊢
        by_cases hx : x.name = n
        · rw [cnt_cons_yes hx, cnt_cons_yes hx, ih]
        · rw [cnt_cons_no hx, cnt_cons_no hx, ih]

theorem wcL_nil : ∀ (lb la : List Tm), LeafL lb → LeafL la → (wcL la lb = [] ↔ ∀ n, cnt n la ≤ cnt n lb)
  | [], la, _, _ => by
    rw [wcL]
    constructor
    · rintro rfl n; exact Nat.le_refl _
    · intro h
      cases la with
      | nil => rfl
      | cons x r =>
        have := h x.name
        rw [cnt_cons_yes rfl, cnt_nil] at this
        omega
  | t :: r, la, hb, ha => by
    have ht := hb t List.mem_cons_self
    rw [wcL, wcL_nil r (rem1 t la) (fun x hx => hb x (List.mem_cons_of_mem _ hx)) ha.rem]
    constructor
    · intro h n
      have h1 := h n
      rw [rem1_cnt ht n ha] at h1
      by_cases hn : t.name = n
      · rw [if_pos hn] at h1; rw [cnt_cons_yes hn]; omega
      · rw [if_neg hn] at h1; rw [cnt_cons_no hn]; exact h1
    · intro h n
      have h1 := h n
      rw [rem1_cnt ht n ha]
      by_cases hn : t.name = n
      · rw [if_pos hn]; rw [cnt_cons_yes hn] at h1; omega
      · rw [if_neg hn]; rw [cnt_cons_no hn] at h1; exact h1

theorem plain_leaf {t : Tm} (h : t.plain) : LeafL t.vs := fun x hx => by
  obtain ⟨h1, h2⟩ := List.mem_filter.1 hx
  exact h x h1 h2
theorem vs_cnt {t : Tm} {n : ByteArray} (h : varB n = true) : cnt n t.vs = cnt n t.nds := by
  unfold cnt Tm.vs
  rw [List.countP_filter]
  congr 1
  funext s
  by_cases e : s.name = n
  · simp [e, h]
  · simp [e]
theorem vs_cnt_no {t : Tm} {n : ByteArray} (h : varB n = false) : cnt n t.vs = 0 := by
  unfold cnt Tm.vs
  rw [List.countP_filter]
  refine List.countP_eq_zero.2 fun s _ => ?_
  by_cases e : s.name = n
  · simp [e, h]
  · simp [e]
theorem vn_has {t : Tm} {n : ByteArray} : n ∈ vn t.nds ↔ ∃ s ∈ t.nds, varB s.name = true ∧ s.name = n := vn_mem
theorem into_has {t : Tm} (h : t.plain) (n : ByteArray) : n ∈ t.into [] ↔ n ∈ vn t.nds := by
  rw [into_fold t h, putAll_mem]
  constructor
  · rintro (h | h)
    · exact h
    · cases h
  · exact .inl

theorem bal_wc {s t : Tm} (hs : s.plain) (ht : t.plain) : bal s t = true ↔ wcL t.vs s.vs = [] := by
  rw [wcL_nil _ _ (plain_leaf hs) (plain_leaf ht)]
  unfold bal
  rw [List.all_eq_true]
  constructor
  · intro h n
    cases hv : varB n with
    | false => rw [vs_cnt_no hv]; exact Nat.zero_le _
    | true =>
      rw [vs_cnt hv, vs_cnt hv]
      by_cases hn : n ∈ vn t.nds
      · exact of_decide_eq_true (h n ((into_has ht n).2 hn))
      · have e : cnt n t.nds = 0 := List.countP_eq_zero.2 fun x hx => by
          by_cases e : x.name = n
          · exact absurd (vn_has.2 ⟨x, hx, by rw [e]; exact hv, e⟩) hn
          · simp [e]
        rw [e]; exact Nat.zero_le _
  · intro h n hn
    obtain ⟨x, hx, hv, e⟩ := vn_has.1 ((into_has ht n).1 hn)
    have hv2 : varB n = true := by rw [← e]; exact hv
    have h1 := h n
    rw [vs_cnt hv2, vs_cnt hv2] at h1
    exact decide_eq_true h1

theorem RowT.form {w0 w : World} {base : Nat} {v : Value} {L : List (Tm × Value)} (h : RowT w0 base w v L) : ∃ p c, v = .slice p L.length c := by
  rcases h.row.2 with ⟨rfl, h0⟩ | ⟨g, cap, cur, rfl, _⟩
  · exact ⟨none, 0, by rw [h0]⟩
  · exact ⟨_, _, rfl⟩
theorem rem1_le (t : Tm) (l : List Tm) : (rem1 t l).length ≤ l.length := rem1_len t l
theorem wcL_len : ∀ (lb la : List Tm), (wcL la lb).length ≤ la.length
  | [], la => Nat.le_refl _
  | t :: r, la => by rw [wcL]; exact Nat.le_trans (wcL_len r _) (rem1_len t la)
theorem vs_len (t : Tm) : t.vs.length ≤ t.sz := by unfold Tm.vs; rw [← Tm.nds_len]; exact List.length_filter_le _ _
theorem vs_mem {t s : Tm} (h : s ∈ t.vs) : s ∈ t.nds := (List.mem_filter.1 h).1

end Go.Proofs.Ytmlenhjhkpgcnaa

/- The program's comparison of roots and its first difference of two lists: contracts, for orderings and terms of at most 1048576 names' bytes and elements. -/
namespace Go.Proofs.Ytmlenhjhkpgcnaa
open Go.RowKit
set_option linter.unusedVariables false

theorem root_or (o : Od) (s t : Tm) : o.root s t = if cmpR (rk o.sy s.name) (rk o.sy t.name) = 0 then cmpR s.args.length t.args.length else cmpR (rk o.sy s.name) (rk o.sy t.name) := by
  unfold Od.root
  by_cases h : rk o.sy s.name = rk o.sy t.name
  · rw [if_pos h, if_pos (cmpR_eq h)]
  · rw [if_neg h, if_neg (fun e => h (cmpR_zero.1 e))]

theorem cmpOr_any (a b : Int) (g : Nat) (w : World) (h0 : w.cell? ⟨g, 0, none⟩ = some (.int .i64 a)) (h1 : w.cell? ⟨g, 1, none⟩ = some (.int .i64 b)) :
    Calls Try.prog 184 #[.slice (some ⟨g, 0, none⟩) 2 2] w fun e w' => e = .returned (.int .i64 (if a = 0 then b else a)) ∧ w = w' := by
  by_cases ha : a = 0
  · subst ha
    by_cases hb : b = 0
    · subst hb
      go_enter Try.func184, Try.ntmps184
      go_wp2
      refine wp_loop_rounds 3 ?_
      rw [rounds_succ]
      go_wp2
      rw [rounds_succ]
      go_wp2
      rw [rounds_succ]
      go_wp2
      go_ret
      exact ⟨rfl, rfl⟩
    · have HE : Hid ((if (0 : Int) = 0 then b else 0) = b) := Lib.hid (if_pos rfl)
      go_enter Try.func184, Try.ntmps184
      go_wp2
      refine wp_loop_rounds 3 ?_
      rw [rounds_succ]
      go_wp2
      rw [rounds_succ]
      go_wp2
      all_goals first | (exfalso; omega) | skip
      all_goals go_ret
      all_goals first | exact ⟨rfl, rfl⟩ | exact ⟨ret_int HE.out.symm, rfl⟩
  · have HE : Hid ((if a = 0 then b else a) = a) := Lib.hid (if_neg ha)
    go_enter Try.func184, Try.ntmps184
    go_wp2
    refine wp_loop_rounds 3 ?_
    rw [rounds_succ]
    go_wp2
    all_goals first | (exfalso; omega) | skip
    all_goals go_ret
    all_goals first | exact ⟨rfl, rfl⟩ | exact ⟨ret_int HE.out.symm, rfl⟩

theorem cmpOr_r (a b : Int) (g : Nat) (r : Int) (w : World) (hr : r = if a = 0 then b else a) (h0 : w.cell? ⟨g, 0, none⟩ = some (.int .i64 a)) (h1 : w.cell? ⟨g, 1, none⟩ = some (.int .i64 b)) :
    Calls Try.prog 184 #[.slice (some ⟨g, 0, none⟩) 2 2] w fun e w' => e = .returned (.int .i64 r) ∧ w = w' := by
  rw [hr]; exact cmpOr_any a b g w h0 h1

set_option maxHeartbeats 4000000 in
theorem compRoots_any (o : Od) (ho : o.wt ≤ 1048576) (s t : Tm) (w : World) (sv wv va vb : Value) (hv : OdV w sv wv o) (hs : TmS w va s.args) (ht : TmS w vb t.args) (hws : s.wt ≤ 1048576) (hwt : t.wt ≤ 1048576) :
    Calls Try.prog 142 #[.agg #[sv, wv, .int .i64 o.va], .agg #[.string s.name, va], .agg #[.string t.name, vb]] w (Ans (.int .i64 (o.root s t)) w) := by
  obtain ⟨sa, sc, wa, wc, rfl, rfl⟩ := hv.open
  obtain ⟨pa, ca, rfl⟩ := hs.is_slice
  obtain ⟨pb, cb, rfl⟩ := ht.is_slice
  obtain ⟨w1, hw1⟩ : ∃ w1, ((w.alloc (.cells #[.slice sa o.sy.length sc, .slice wa o.ws.length wc, .int .i64 o.va] 73)).alloc (.cells #[.string s.name, .slice pa s.args.length ca] 31)).alloc (.cells #[.string t.name, .slice pb t.args.length cb] 31) = w1 := ⟨_, rfl⟩
  have HB : Hid (Below w.heap.size w w1) := Lib.hid (by rw [← hw1]; exact (((Below.refl w.heap.size w).alloc (Nat.le_refl _) _).alloc (by simp) _).alloc (by simp; omega) _)
  have H3 : Hid (OdB w1 w.heap.size (.slice sa o.sy.length sc) (.slice wa o.ws.length wc) o) := Lib.hid (by rw [← hw1]; exact ((thr_new w _ _ _ _ _ rfl).alloc _).alloc _)
  have HS : Hid (Two w1 (w.heap.size + 1) (.string s.name) (.slice pa s.args.length ca)) := Lib.hid (by rw [← hw1]; exact (two_new _ _ _ 31 (w.heap.size + 1) (by simp)).alloc _)
  have HT : Hid (Two w1 (w.heap.size + 1 + 1) (.string t.name) (.slice pb t.args.length cb)) := Lib.hid (by rw [← hw1]; exact two_new _ _ _ 31 (w.heap.size + 1 + 1) (by simp))
  have hsl : o.sy.length ≤ 1048576 := Nat.le_trans o.wt_sy ho
  have CA := Lib.hid (fun W (hW : Below w1.heap.size w1 W) => idx_same sa sc o.sy s.name W (StrG.of (hv.kept (carry_below HB.out (Nat.le_refl _) hW)).st) hsl)
  have CB := Lib.hid (fun W (hW : Below w1.heap.size w1 W) => idx_same sa sc o.sy t.name W (StrG.of (hv.kept (carry_below HB.out (Nat.le_refl _) hW)).st) hsl)
  have HR := Lib.hid (root_or o s t)
  have hls : s.args.length ≤ 1048576 := Nat.le_trans (Tm.wt_len s) hws
  have hlt : t.args.length ≤ 1048576 := Nat.le_trans (Tm.wt_len t) hwt
  obtain ⟨x, hx⟩ : ∃ x, rk o.sy s.name = x := ⟨_, rfl⟩
  obtain ⟨y, hy⟩ : ∃ y, rk o.sy t.name = y := ⟨_, rfl⟩
  rw [hx] at CA HR
  rw [hy] at CB HR
  clear hv hs ht hx hy
  obtain ⟨b0, b1, b2, b3⟩ := H3.out
  obtain ⟨s0, s1, s2⟩ := HS.out
  obtain ⟨t0, t1, t2⟩ := HT.out
  go_enter Try.func142, Try.ntmps142
  go_wp2_with fail
  have n0 := World.new_ne w1 _ b0
  have n1 := World.new_ne w1 _ b1
  have n2 := World.new_ne w1 _ b2
  have n3 := World.new_ne w1 _ s0
  have n4 := World.new_ne w1 _ s1
  have n5 := World.new_ne w1 _ t0
  have n6 := World.new_ne w1 _ t1
  go_region_held3 (fun w' => w'.cell? ⟨w.heap.size, 0, none⟩ = some (.slice sa o.sy.length sc) ∧ w'.cell? ⟨w.heap.size, 1, none⟩ = some (.slice wa o.ws.length wc) ∧ w'.cell? ⟨w.heap.size, 2, none⟩ = some (.int .i64 o.va) ∧ w'.cell? ⟨w.heap.size + 1, 0, none⟩ = some (.string s.name) ∧ w'.cell? ⟨w.heap.size + 1, 1, none⟩ = some (.slice pa s.args.length ca) ∧ w'.cell? ⟨w.heap.size + 1 + 1, 0, none⟩ = some (.string t.name) ∧ w'.cell? ⟨w.heap.size + 1 + 1, 1, none⟩ = some (.slice pb t.args.length cb)) (first | exact ⟨by assumption, by assumption, by assumption, by assumption, by assumption, by assumption, by assumption⟩ | go_keep) (first
    | (go_at_call_of 182 (Value.string s.name); refine (CA.out _ (by first | exact Below.refl _ _ | exact (Below.refl _ _).drew)).mono ?_; rintro e wn ⟨rfl, rfl⟩)
    | (go_at_call_of 182 (Value.string t.name); refine (CB.out _ (by first | exact Below.refl _ _ | exact (Below.refl _ _).drew)).mono ?_; rintro e wn ⟨rfl, rfl⟩)
    | (go_at_call 139; refine (Try.cmp_Compare_int _ _ _).mono ?_; rintro e wn ⟨rfl, rfl⟩)
    | (go_at_call 184; refine (cmpOr_r _ _ _ (o.root s t) _ HR.out (by first | exact (two_new _ _ _ _ _ rfl).1 | exact ((two_new _ _ _ _ _ rfl).drew).1) (by first | exact (two_new _ _ _ _ _ rfl).2.1 | exact ((two_new _ _ _ _ _ rfl).drew).2.1)).mono ?_; rintro e wn ⟨rfl, rfl⟩))
  all_goals (go_wp2; go_ret)
  all_goals (refine ⟨rfl, ?_⟩)
  all_goals first | exact (HB.out.alloc HB.out.size _).drew | exact HB.out.alloc HB.out.size _ | exact HB.out.drew.alloc HB.out.size _

set_option maxHeartbeats 2000000 in
theorem fdI_any (a b : List Tm) (w : World) (va vb : Value) (ha : TmS w va a) (hb0 : TmS w vb b) (hl : a.length ≤ 1048576) (hll : a.length ≤ b.length) (hwa : ∀ x ∈ a, x.wt ≤ 1048576) (hwb : ∀ x ∈ b, x.wt ≤ 1048576) :
    Calls Try.prog 143 #[va, vb] w (Ans (.int .i64 (fd a b)) w) := by
  obtain ⟨pa, ca, rfl⟩ := ha.is_slice
  obtain ⟨pb, cb, rfl⟩ := hb0.is_slice
  have HVS := Lib.hid ha
  have HVT := Lib.hid hb0
  have HWS := Lib.hid hwa
  have HWT := Lib.hid hwb
  clear ha hb0 hwa hwb
  go_enter Try.func143, Try.ntmps143
  go_wp2
  go_loopw [9] (fun i wr => ∃ k : Nat, k ≤ a.length ∧ i = .int .i64 k ∧ (∀ j, j < k → a[j]? = b[j]?) ∧ Below w.heap.size w wr) (fun i _ => a.length - (intOf i).toNat)
  case atStart => exact ⟨0, Nat.zero_le _, rfl, fun j hj => absurd hj (Nat.not_lt_zero _), Below.refl _ _⟩
  case round =>
    obtain ⟨k, hk, rfl, hq, hb⟩ := hrel
    have HQ := Lib.hid hq
    have HBR := Lib.hid hb
    clear hq
    by_cases hlt : k < a.length
    · obtain ⟨x, hx⟩ : ∃ x, a[k]? = some x := ⟨_, List.getElem?_eq_getElem hlt⟩
      have hlt2 : k < b.length := by omega
      obtain ⟨y, hy⟩ : ∃ y, b[k]? = some y := ⟨_, List.getElem?_eq_getElem hlt2⟩
      obtain ⟨b1, off, rfl, vx, c0, c1, hvx⟩ := HVS.out.get hx
      obtain ⟨b', off', rfl, vy, e0, e1, hvy⟩ := HVT.out.get hy
      obtain ⟨p, c, rfl⟩ := hvx.is_slice
      obtain ⟨p', c', rfl⟩ := hvy.is_slice
      have c0' := carry_cell c0 hb
      have c1' := carry_cell c1 hb
      obtain ⟨w2, hw2⟩ : ∃ w2, wr.alloc (.cells #[.string x.name, .slice p x.args.length c] 31) = w2 := ⟨_, rfl⟩
      have HX2 : Hid (Two w2 wr.heap.size (.string x.name) (.slice p x.args.length c)) := Lib.hid (by rw [← hw2]; exact two_new _ _ _ _ _ rfl)
      have HB2 : Hid (Below wr.heap.size wr w2) := Lib.hid (by rw [← hw2]; exact (Below.refl _ _).alloc (Nat.le_refl _) _)
      have HBW := Lib.hid (carry_below hb (Nat.le_refl _) HB2.out)
      have e0' := carry_cell e0 HBW.out
      have e1' := carry_cell e1 HBW.out
      obtain ⟨x0, x1, x2⟩ := HX2.out
      have HX := Lib.hid hx
      have HY := Lib.hid hy
      have CS := fun W (hW : Below w2.heap.size w2 W) => equalTrees_any x y W _ _ (hvx.kept (carry_below HBW.out (Nat.le_refl _) hW)) (hvy.kept (carry_below HBW.out (Nat.le_refl _) hW)) (HWS.out x (mem_of_at hx)) (HWT.out y (mem_of_at hy))
      obtain ⟨q, hq⟩ : ∃ q, q = eqT x y := ⟨_, rfl⟩
      rw [← hq] at CS
      have CS := Lib.hid CS
      have HQE := Lib.hid hq
      clear hb hx hy hvx hvy c0 c1 e0 e1 hq
      go_wp2_with fail
      have hB0 : Below w2.heap.size w2 w2.drew := (Below.refl _ _).drew
      go_region_held3 (fun w' => w'.cell? ⟨b', off' + k * 2, none⟩ = some (.string y.name) ∧ w'.cell? ⟨b', off' + k * 2 + 1, none⟩ = some (.slice p' y.args.length c') ∧ w'.cell? ⟨wr.heap.size, 0, none⟩ = some (.string x.name) ∧ w'.cell? ⟨wr.heap.size, 1, none⟩ = some (.slice p x.args.length c) ∧ Below w2.heap.size w2 w') (first | exact ⟨by assumption, by assumption, by assumption, by assumption, by assumption⟩ | go_keep) (first | (go_at_call 76; refine (CS.out _ (by assumption)).mono ?_; rintro e w3 ⟨rfl, hb⟩; have qa0 : w3.cell? ⟨b', off' + k * 2, none⟩ = some (.string y.name) := carry_cell' hb (by assumption); have qa1 : w3.cell? ⟨b', off' + k * 2 + 1, none⟩ = some (.slice p' y.args.length c') := carry_cell' hb (by assumption); have qa2 : w3.cell? ⟨wr.heap.size, 0, none⟩ = some (.string x.name) := carry_cell' hb (by assumption); have qa3 : w3.cell? ⟨wr.heap.size, 1, none⟩ = some (.slice p x.args.length c) := carry_cell' hb (by assumption); have hw3 : Below w2.heap.size w2 w3 := carry_below (by assumption) (Nat.le_refl _) hb; clear hb))
      clear hB0 qa0 qa1 qa2 qa3
      have HB3 := Lib.hid (carry_below HBW.out (Nat.le_refl _) hw3)
      clear hw3 hw2
      cases q with
      | true =>
        have HN : Hid (∀ j, j < k + 1 → a[j]? = b[j]?) := Lib.hid (fun j hj => by
          by_cases e : j = k
          · have h := HQE.out.symm
            unfold eqT at h
            rw [e, HX.out, HY.out, of_decide_eq_true h]
          · exact HQ.out j (by omega))
        go_wp2
        go_roundw
        case rel => exact ⟨k + 1, by omega, by go_num, HN.out, HB3.out⟩
        case measure => simp [intOf]; omega
      | false =>
        have HE : Hid (fd a b = (k : Int)) := Lib.hid (fd_at hlt (by
          rw [HX.out, HY.out]
          intro h
          injection h with h
          have h2 := HQE.out.symm
          unfold eqT at h2
          exact of_decide_eq_false h2 h) HQ.out)
        go_wp2
        go_ret
        exact ⟨ret_int HE.out.symm, HB3.out⟩
    · have HE : Hid (fd a b = -1) := Lib.hid (fd_no (fun j hj => HQ.out j (by omega)))
      go_wp2
      go_ret
      exact ⟨ret_int HE.out.symm, HBR.out⟩

end Go.Proofs.Ytmlenhjhkpgcnaa

/- The Knuth-Bendix ordering, the program's: contracts, for orderings and terms of at most 1048576 names' bytes and elements. -/
namespace Go.Proofs.Ytmlenhjhkpgcnaa
open Go.RowKit
set_option linter.unusedVariables false

/-- What is asked of a term here. -/
structure Od.OkP (o : Od) (t : Tm) : Prop where
  ok : o.Ok t
  nodes : t.nodesB = true
theorem nodesB_argP {t x : Tm} (h : t.nodesB = true) (hx : x ∈ t.args) : x.nodesB = true := by
  cases hv : varB t.name with
  | true => rw [Tm.nodesB_var hv, List.isEmpty_iff] at h; rw [h] at hx; cases hx
  | false =>
    rw [Tm.nodesB_sym hv, Bool.and_eq_true, Bool.and_eq_true, List.all_eq_true] at h
    exact h.2.2 x hx
theorem Od.OkP.arg {o : Od} {t x : Tm} (h : o.OkP t) (hx : x ∈ t.args) : o.OkP x := ⟨h.ok.arg hx, nodesB_argP h.nodes hx⟩
theorem Od.OkP.plain {o : Od} {t : Tm} (h : o.OkP t) : t.plain := nodes_leaf t h.nodes
theorem wt_ndsP : ∀ t : Tm, ∀ s ∈ t.nds, s.wt ≤ t.wt := Tm.ind fun t ih => by
  intro s hs
  rw [t.nds_eq] at hs
  rcases List.mem_cons.1 hs with rfl | hs
  · exact Nat.le_refl _
  · obtain ⟨x, hx, hsx⟩ := ndsL_mem hs
    exact Nat.le_trans (ih x hx s hsx) (Tm.wt_arg hx)
theorem Od.OkP.vsw {o : Od} {t : Tm} (h : o.OkP t) : ∀ s ∈ t.vs, s.wt ≤ 1048576 := fun s hs => by
  obtain ⟨h1, h2⟩ := List.mem_filter.1 hs
  exact Nat.le_trans (wt_ndsP t s h1) h.ok.wt

/-- A list of a term's variables. -/
def VsEnd (t : Tm) (w : World) (e : Ending) (w' : World) : Prop := ∃ v, e = .returned v ∧ TmS w' v t.vs ∧ Below w.heap.size w w'
theorem vs_any (t : Tm) (w : World) (va : Value) (hv : TmS w va t.args) (hw : t.wt ≤ 1048576) (hp : t.plain) :
    Calls Try.prog 123 #[.agg #[.string t.name, va]] w (VsEnd t w) := (varsIn_any t w va hv hw hp).mono fun e w' h => by
  obtain ⟨v, L, h1, h2, h3, h4⟩ := h
  exact ⟨v, h1, by rw [← h3]; exact h2.read h4, h4⟩

def KboP (o : Od) (s : Tm) : Prop := ∀ (t : Tm) (w : World) (sv wv va vb : Value) (hv : OdV w sv wv o) (hs : TmS w va s.args) (ht : TmS w vb t.args), o.OkP s → o.OkP t →
  Calls Try.prog 96 #[.agg #[sv, wv, .int .i64 o.va], .agg #[.string s.name, va], .agg #[.string t.name, vb]] w (Ans (.bool (kbo o s t)) w)

set_option maxRecDepth 100000 in
set_option maxHeartbeats 8000000 in
theorem kboP_of (o : Od) (ho : o.wt ≤ 1048576) (hf : o.Fine) (s : Tm) (h : ∀ x ∈ s.args, KboP o x) : KboP o s := by
  intro t w sv wv va vb hv hs ht hos hot
  have H := Lib.hid h
  have HOS := Lib.hid hos
  have HOT := Lib.hid hot
  obtain ⟨sa, sc, wa, wc, rfl, rfl⟩ := hv.open
  obtain ⟨pa, ca, rfl⟩ := hs.is_slice
  obtain ⟨pb, cb, rfl⟩ := ht.is_slice
  obtain ⟨w1, hw1⟩ : ∃ w1, ((w.alloc (.cells #[.slice sa o.sy.length sc, .slice wa o.ws.length wc, .int .i64 o.va] 73)).alloc (.cells #[.string s.name, .slice pa s.args.length ca] 31)).alloc (.cells #[.string t.name, .slice pb t.args.length cb] 31) = w1 := ⟨_, rfl⟩
  have HB : Hid (Below w.heap.size w w1) := Lib.hid (by rw [← hw1]; exact (((Below.refl w.heap.size w).alloc (Nat.le_refl _) _).alloc (by simp) _).alloc (by simp; omega) _)
  have H3 : Hid (OdB w1 w.heap.size (.slice sa o.sy.length sc) (.slice wa o.ws.length wc) o) := Lib.hid (by rw [← hw1]; exact ((thr_new w _ _ _ _ _ rfl).alloc _).alloc _)
  have HS : Hid (Two w1 (w.heap.size + 1) (.string s.name) (.slice pa s.args.length ca)) := Lib.hid (by rw [← hw1]; exact (two_new _ _ _ 31 (w.heap.size + 1) (by simp)).alloc _)
  have HT : Hid (Two w1 (w.heap.size + 1 + 1) (.string t.name) (.slice pb t.args.length cb)) := Lib.hid (by rw [← hw1]; exact two_new _ _ _ 31 (w.heap.size + 1 + 1) (by simp))
  have HV := Lib.hid hv
  have HVS := Lib.hid hs
  have HVT := Lib.hid ht
  have hls : s.args.length ≤ 1048576 := Nat.le_trans (Tm.wt_len s) hos.ok.wt
  have CVA := Lib.hid (fun W (hW : Below w1.heap.size w1 W) => vs_any s W _ (hs.kept (carry_below HB.out (Nat.le_refl _) hW)) hos.ok.wt hos.plain)
  have CVB := Lib.hid (fun W (hW : Below w1.heap.size w1 W) => vs_any t W _ (ht.kept (carry_below HB.out (Nat.le_refl _) hW)) hot.ok.wt hot.plain)
  have hsl : s.vs.length ≤ 1048576 := Nat.le_trans (vs_len s) (by have := hos.ok.sz; omega)
  have htl : t.vs.length ≤ 1048576 := Nat.le_trans (vs_len t) (by have := hot.ok.sz; omega)
  have CWC0 := Lib.hid (fun W (vT vS : Value) (h1 : TmS W vT t.vs) (h2 : TmS W vS s.vs) => wcom_any t.vs s.vs W vT vS h1 h2 htl hsl hot.vsw hos.vsw)
  have CWS := Lib.hid (fun W (hW : Below w.heap.size w W) => weightOf_any o s W _ _ _ (hv.kept hW) (hs.kept hW) ho hf hos.ok.wt hos.ok.sz)
  have CWT := Lib.hid (fun W (hW : Below w.heap.size w W) => weightOf_any o t W _ _ _ (hv.kept hW) (ht.kept hW) ho hf hot.ok.wt hot.ok.sz)
  have CVS := Lib.hid (fun W => isVar_all s.name W)
  have CVT := Lib.hid (fun W => isVar_all t.name W)
  have CRT := Lib.hid (fun W (hW : Below w.heap.size w W) => compRoots_any o ho s t W _ _ _ _ (hv.kept hW) (hs.kept hW) (ht.kept hW) hos.ok.wt hot.ok.wt)
  have CFD := Lib.hid (fun (hll : s.args.length ≤ t.args.length) W (hW : Below w.heap.size w W) => fdI_any s.args t.args W _ _ (hs.kept hW) (ht.kept hW) hls hll (fun x hx => Nat.le_trans (Tm.wt_arg hx) hos.ok.wt) (fun x hx => Nat.le_trans (Tm.wt_arg hx) hot.ok.wt))
  have HBW := Lib.hid (bal_wc hos.plain hot.plain)
  clear h hv hs ht hos hot hsl htl
  obtain ⟨b0, b1, b2, b3⟩ := H3.out
  obtain ⟨s0, s1, s2⟩ := HS.out
  obtain ⟨t0, t1, t2⟩ := HT.out
  cases hbal : bal s t with
  | false =>
    have HE : Hid (kbo o s t = false) := Lib.hid (kbo_bal hbal)
    have CWC : Hid (∀ W (vT vS : Value), TmS W vT t.vs → TmS W vS s.vs → Calls Try.prog 138 #[vT, vS] W fun e w' => ∃ n p c, e = .returned (.slice p n c) ∧ (0 : Int) < (n : Int) ∧ n ≤ 1048576 ∧ Below W.heap.size W w') := Lib.hid (fun W vT vS h1 h2 => (CWC0.out W vT vS h1 h2).mono fun e w' h => by
      obtain ⟨v, L, h3, h4, h5, h6⟩ := h
      obtain ⟨p, c, rfl⟩ := h4.form
      refine ⟨L.length, p, c, h3, ?_, ?_, h6⟩
      · have hne : wcL t.vs s.vs ≠ [] := fun e => by rw [HBW.out.2 e] at hbal; cases hbal
        have := List.length_pos_iff.2 hne
        rw [← h5, tmsE_len] at this; omega
      · rw [← tmsE_len, h5]; exact Nat.le_trans (wcL_len _ _) (by have := vs_len t; have := HOT.out.ok.sz; omega))
    clear hbal
    go_enter Try.func96, Try.ntmps96
    go_wp2_with fail
    have hB0 : Below w1.heap.size w1 w1.drew := (Below.refl _ _).drew
    go_region_held3 (fun w' => w'.cell? ⟨w.heap.size, 0, none⟩ = some (.slice sa o.sy.length sc) ∧ w'.cell? ⟨w.heap.size, 1, none⟩ = some (.slice wa o.ws.length wc) ∧ w'.cell? ⟨w.heap.size, 2, none⟩ = some (.int .i64 o.va) ∧ w'.cell? ⟨w.heap.size + 1, 0, none⟩ = some (.string s.name) ∧ w'.cell? ⟨w.heap.size + 1, 1, none⟩ = some (.slice pa s.args.length ca) ∧ w'.cell? ⟨w.heap.size + 1 + 1, 0, none⟩ = some (.string t.name) ∧ w'.cell? ⟨w.heap.size + 1 + 1, 1, none⟩ = some (.slice pb t.args.length cb) ∧ Below w1.heap.size w1 w') (first | exact ⟨by assumption, by assumption, by assumption, by assumption, by assumption, by assumption, by assumption, by assumption⟩ | go_keep) (first | (go_at_call_of 123 (Value.agg #[Value.string s.name, Value.slice pa s.args.length ca]); refine (CVA.out _ (by assumption)).mono ?_; rintro e wS ⟨vS, rfl, hSS, hb⟩; have qa0 : wS.cell? ⟨w.heap.size, 0, none⟩ = some (.slice sa o.sy.length sc) := carry_cell' hb (by assumption); have qa1 : wS.cell? ⟨w.heap.size, 1, none⟩ = some (.slice wa o.ws.length wc) := carry_cell' hb (by assumption); have qa2 : wS.cell? ⟨w.heap.size, 2, none⟩ = some (.int .i64 o.va) := carry_cell' hb (by assumption); have qa3 : wS.cell? ⟨w.heap.size + 1, 0, none⟩ = some (.string s.name) := carry_cell' hb (by assumption); have qa4 : wS.cell? ⟨w.heap.size + 1, 1, none⟩ = some (.slice pa s.args.length ca) := carry_cell' hb (by assumption); have qa5 : wS.cell? ⟨w.heap.size + 1 + 1, 0, none⟩ = some (.string t.name) := carry_cell' hb (by assumption); have qa6 : wS.cell? ⟨w.heap.size + 1 + 1, 1, none⟩ = some (.slice pb t.args.length cb) := carry_cell' hb (by assumption); have hwS : Below w1.heap.size w1 wS := carry_below (by assumption) (Nat.le_refl _) hb; have HSS1 := Lib.hid hSS; (try have HTT2 := Lib.hid (HTT1.out.kept hb)); clear hSS; clear hb) | (go_at_call_of 123 (Value.agg #[Value.string t.name, Value.slice pb t.args.length cb]); refine (CVB.out _ (by assumption)).mono ?_; rintro e wT ⟨vT, rfl, hTT, hb⟩; have qb0 : wT.cell? ⟨w.heap.size, 0, none⟩ = some (.slice sa o.sy.length sc) := carry_cell' hb (by assumption); have qb1 : wT.cell? ⟨w.heap.size, 1, none⟩ = some (.slice wa o.ws.length wc) := carry_cell' hb (by assumption); have qb2 : wT.cell? ⟨w.heap.size, 2, none⟩ = some (.int .i64 o.va) := carry_cell' hb (by assumption); have qb3 : wT.cell? ⟨w.heap.size + 1, 0, none⟩ = some (.string s.name) := carry_cell' hb (by assumption); have qb4 : wT.cell? ⟨w.heap.size + 1, 1, none⟩ = some (.slice pa s.args.length ca) := carry_cell' hb (by assumption); have qb5 : wT.cell? ⟨w.heap.size + 1 + 1, 0, none⟩ = some (.string t.name) := carry_cell' hb (by assumption); have qb6 : wT.cell? ⟨w.heap.size + 1 + 1, 1, none⟩ = some (.slice pb t.args.length cb) := carry_cell' hb (by assumption); have hwT : Below w1.heap.size w1 wT := carry_below (by assumption) (Nat.le_refl _) hb; have HTT1 := Lib.hid hTT; (try have HSS2 := Lib.hid (HSS1.out.kept hb)); clear hTT; clear hb) | (go_at_call 138; refine (CWC.out _ _ _ (by first | exact HTT2.out | exact HTT1.out) (by first | exact HSS2.out | exact HSS1.out)).mono ?_; rintro e wW ⟨n4, p4, c4, rfl, hn4, hn5, hb⟩; have qc0 : wW.cell? ⟨w.heap.size, 0, none⟩ = some (.slice sa o.sy.length sc) := carry_cell' hb (by assumption); have qc1 : wW.cell? ⟨w.heap.size, 1, none⟩ = some (.slice wa o.ws.length wc) := carry_cell' hb (by assumption); have qc2 : wW.cell? ⟨w.heap.size, 2, none⟩ = some (.int .i64 o.va) := carry_cell' hb (by assumption); have qc3 : wW.cell? ⟨w.heap.size + 1, 0, none⟩ = some (.string s.name) := carry_cell' hb (by assumption); have qc4 : wW.cell? ⟨w.heap.size + 1, 1, none⟩ = some (.slice pa s.args.length ca) := carry_cell' hb (by assumption); have qc5 : wW.cell? ⟨w.heap.size + 1 + 1, 0, none⟩ = some (.string t.name) := carry_cell' hb (by assumption); have qc6 : wW.cell? ⟨w.heap.size + 1 + 1, 1, none⟩ = some (.slice pb t.args.length cb) := carry_cell' hb (by assumption); have hwW : Below w1.heap.size w1 wW := carry_below (by assumption) (Nat.le_refl _) hb; clear hb))
    all_goals
      have HBF := Lib.hid (carry_below HB.out (Nat.le_refl _) hwW)
      go_wp2
      go_ret
      exact ⟨ret_bool HE.out.symm, HBF.out⟩
  | true =>
    have HBAL := Lib.hid hbal
    have CWC : Hid (∀ W (vT vS : Value), TmS W vT t.vs → TmS W vS s.vs → Calls Try.prog 138 #[vT, vS] W fun e w' => ∃ p c, e = .returned (.slice p 0 c) ∧ Below W.heap.size W w') := Lib.hid (fun W vT vS h1 h2 => (CWC0.out W vT vS h1 h2).mono fun e w' h => by
      obtain ⟨v, L, h3, h4, h5, h6⟩ := h
      obtain ⟨p, c, rfl⟩ := h4.form
      have e0 : L.length = 0 := by rw [← tmsE_len, h5, HBW.out.1 hbal]; rfl
      rw [e0] at h3
      exact ⟨p, c, h3, h6⟩)
    clear hbal
    obtain ⟨x, hx⟩ : ∃ x, o.wT s = x := ⟨_, rfl⟩
    obtain ⟨y, hy⟩ : ∃ y, o.wT t = y := ⟨_, rfl⟩
    have HXE := Lib.hid hx
    have HYE := Lib.hid hy
    rw [hx] at CWS
    rw [hy] at CWT
    clear hx hy
    go_enter Try.func96, Try.ntmps96
    go_wp2_with fail
    have hB0 : Below w1.heap.size w1 w1.drew := (Below.refl _ _).drew
    go_region_held3 (fun w' => w'.cell? ⟨w.heap.size, 0, none⟩ = some (.slice sa o.sy.length sc) ∧ w'.cell? ⟨w.heap.size, 1, none⟩ = some (.slice wa o.ws.length wc) ∧ w'.cell? ⟨w.heap.size, 2, none⟩ = some (.int .i64 o.va) ∧ w'.cell? ⟨w.heap.size + 1, 0, none⟩ = some (.string s.name) ∧ w'.cell? ⟨w.heap.size + 1, 1, none⟩ = some (.slice pa s.args.length ca) ∧ w'.cell? ⟨w.heap.size + 1 + 1, 0, none⟩ = some (.string t.name) ∧ w'.cell? ⟨w.heap.size + 1 + 1, 1, none⟩ = some (.slice pb t.args.length cb) ∧ Below w1.heap.size w1 w') (first | exact ⟨by assumption, by assumption, by assumption, by assumption, by assumption, by assumption, by assumption, by assumption⟩ | go_keep) (first | (go_at_call_of 123 (Value.agg #[Value.string s.name, Value.slice pa s.args.length ca]); refine (CVA.out _ (by assumption)).mono ?_; rintro e wS ⟨vS, rfl, hSS, hb⟩; have qa0 : wS.cell? ⟨w.heap.size, 0, none⟩ = some (.slice sa o.sy.length sc) := carry_cell' hb (by assumption); have qa1 : wS.cell? ⟨w.heap.size, 1, none⟩ = some (.slice wa o.ws.length wc) := carry_cell' hb (by assumption); have qa2 : wS.cell? ⟨w.heap.size, 2, none⟩ = some (.int .i64 o.va) := carry_cell' hb (by assumption); have qa3 : wS.cell? ⟨w.heap.size + 1, 0, none⟩ = some (.string s.name) := carry_cell' hb (by assumption); have qa4 : wS.cell? ⟨w.heap.size + 1, 1, none⟩ = some (.slice pa s.args.length ca) := carry_cell' hb (by assumption); have qa5 : wS.cell? ⟨w.heap.size + 1 + 1, 0, none⟩ = some (.string t.name) := carry_cell' hb (by assumption); have qa6 : wS.cell? ⟨w.heap.size + 1 + 1, 1, none⟩ = some (.slice pb t.args.length cb) := carry_cell' hb (by assumption); have hwS : Below w1.heap.size w1 wS := carry_below (by assumption) (Nat.le_refl _) hb; have HSS1 := Lib.hid hSS; (try have HTT2 := Lib.hid (HTT1.out.kept hb)); clear hSS; clear hb) | (go_at_call_of 123 (Value.agg #[Value.string t.name, Value.slice pb t.args.length cb]); refine (CVB.out _ (by assumption)).mono ?_; rintro e wT ⟨vT, rfl, hTT, hb⟩; have qb0 : wT.cell? ⟨w.heap.size, 0, none⟩ = some (.slice sa o.sy.length sc) := carry_cell' hb (by assumption); have qb1 : wT.cell? ⟨w.heap.size, 1, none⟩ = some (.slice wa o.ws.length wc) := carry_cell' hb (by assumption); have qb2 : wT.cell? ⟨w.heap.size, 2, none⟩ = some (.int .i64 o.va) := carry_cell' hb (by assumption); have qb3 : wT.cell? ⟨w.heap.size + 1, 0, none⟩ = some (.string s.name) := carry_cell' hb (by assumption); have qb4 : wT.cell? ⟨w.heap.size + 1, 1, none⟩ = some (.slice pa s.args.length ca) := carry_cell' hb (by assumption); have qb5 : wT.cell? ⟨w.heap.size + 1 + 1, 0, none⟩ = some (.string t.name) := carry_cell' hb (by assumption); have qb6 : wT.cell? ⟨w.heap.size + 1 + 1, 1, none⟩ = some (.slice pb t.args.length cb) := carry_cell' hb (by assumption); have hwT : Below w1.heap.size w1 wT := carry_below (by assumption) (Nat.le_refl _) hb; have HTT1 := Lib.hid hTT; (try have HSS2 := Lib.hid (HSS1.out.kept hb)); clear hTT; clear hb) | (go_at_call 138; refine (CWC.out _ _ _ (by first | exact HTT2.out | exact HTT1.out) (by first | exact HSS2.out | exact HSS1.out)).mono ?_; rintro e wW ⟨p4, c4, rfl, hb⟩; have qc0 : wW.cell? ⟨w.heap.size, 0, none⟩ = some (.slice sa o.sy.length sc) := carry_cell' hb (by assumption); have qc1 : wW.cell? ⟨w.heap.size, 1, none⟩ = some (.slice wa o.ws.length wc) := carry_cell' hb (by assumption); have qc2 : wW.cell? ⟨w.heap.size, 2, none⟩ = some (.int .i64 o.va) := carry_cell' hb (by assumption); have qc3 : wW.cell? ⟨w.heap.size + 1, 0, none⟩ = some (.string s.name) := carry_cell' hb (by assumption); have qc4 : wW.cell? ⟨w.heap.size + 1, 1, none⟩ = some (.slice pa s.args.length ca) := carry_cell' hb (by assumption); have qc5 : wW.cell? ⟨w.heap.size + 1 + 1, 0, none⟩ = some (.string t.name) := carry_cell' hb (by assumption); have qc6 : wW.cell? ⟨w.heap.size + 1 + 1, 1, none⟩ = some (.slice pb t.args.length cb) := carry_cell' hb (by assumption); have hwW : Below w1.heap.size w1 wW := carry_below (by assumption) (Nat.le_refl _) hb; clear hb))
    have hb := hwW
    clear hwW hB0 hwS hwT CVA CVB CWC0 CWC HSS1 HTT1 HTT2
    clear qa0 qa1 qa2 qa3 qa4 qa5 qa6 qb0 qb1 qb2 qb3 qb4 qb5 qb6 qc0 qc1 qc2 qc3 qc4 qc5 qc6 hw1
    replace HB := Lib.hid (carry_below HB.out (Nat.le_refl _) hb)
    replace H3 := Lib.hid (H3.out.kept hb)
    replace HS := Lib.hid (HS.out.kept hb)
    replace HT := Lib.hid (HT.out.kept hb)
    clear hb b0 b1 b2 b3 s0 s1 s2 t0 t1 t2
    obtain ⟨b0, b1, b2, b3⟩ := H3.out
    obtain ⟨s0, s1, s2⟩ := HS.out
    obtain ⟨t0, t1, t2⟩ := HT.out
    have CW1 := Lib.hid (fun W (hW : Below wW.heap.size wW W) => CWS.out W (carry_below HB.out (Nat.le_refl _) hW))
    have CW2 := Lib.hid (fun W (hW : Below wW.heap.size wW W) => CWT.out W (carry_below HB.out (Nat.le_refl _) hW))
    obtain ⟨c, hc⟩ : ∃ c, c = Lib.compareInt x y := ⟨_, rfl⟩
    have CC : Hid (∀ W, Calls Try.prog 139 #[.int .i64 x, .int .i64 y] W fun e w' => e = .returned (.int .i64 c) ∧ w' = W) := Lib.hid (fun W => by rw [hc]; exact Try.cmp_Compare_int x y W)
    have HCE := Lib.hid hc
    clear CWS CWT hc
    go_wp2_with fail
    have hB0 : Below wW.heap.size wW wW.drew := (Below.refl _ _).drew
    go_region_held3 (fun w' => w'.cell? ⟨w.heap.size, 0, none⟩ = some (.slice sa o.sy.length sc) ∧ w'.cell? ⟨w.heap.size, 1, none⟩ = some (.slice wa o.ws.length wc) ∧ w'.cell? ⟨w.heap.size, 2, none⟩ = some (.int .i64 o.va) ∧ w'.cell? ⟨w.heap.size + 1, 0, none⟩ = some (.string s.name) ∧ w'.cell? ⟨w.heap.size + 1, 1, none⟩ = some (.slice pa s.args.length ca) ∧ w'.cell? ⟨w.heap.size + 1 + 1, 0, none⟩ = some (.string t.name) ∧ w'.cell? ⟨w.heap.size + 1 + 1, 1, none⟩ = some (.slice pb t.args.length cb) ∧ Below wW.heap.size wW w') (first | exact ⟨by assumption, by assumption, by assumption, by assumption, by assumption, by assumption, by assumption, by assumption⟩ | go_keep) (first | (go_at_call_of 140 (Value.agg #[Value.string s.name, Value.slice pa s.args.length ca]); refine (CW1.out _ (by assumption)).mono ?_; rintro e w3 ⟨rfl, hb⟩; have qa0 : w3.cell? ⟨w.heap.size, 0, none⟩ = some (.slice sa o.sy.length sc) := carry_cell' hb (by assumption); have qa1 : w3.cell? ⟨w.heap.size, 1, none⟩ = some (.slice wa o.ws.length wc) := carry_cell' hb (by assumption); have qa2 : w3.cell? ⟨w.heap.size, 2, none⟩ = some (.int .i64 o.va) := carry_cell' hb (by assumption); have qa3 : w3.cell? ⟨w.heap.size + 1, 0, none⟩ = some (.string s.name) := carry_cell' hb (by assumption); have qa4 : w3.cell? ⟨w.heap.size + 1, 1, none⟩ = some (.slice pa s.args.length ca) := carry_cell' hb (by assumption); have qa5 : w3.cell? ⟨w.heap.size + 1 + 1, 0, none⟩ = some (.string t.name) := carry_cell' hb (by assumption); have qa6 : w3.cell? ⟨w.heap.size + 1 + 1, 1, none⟩ = some (.slice pb t.args.length cb) := carry_cell' hb (by assumption); have hw3 : Below wW.heap.size wW w3 := carry_below (by assumption) (Nat.le_refl _) hb; clear hb) | (go_at_call_of 140 (Value.agg #[Value.string t.name, Value.slice pb t.args.length cb]); refine (CW2.out _ (by assumption)).mono ?_; rintro e w4 ⟨rfl, hb⟩; have qb0 : w4.cell? ⟨w.heap.size, 0, none⟩ = some (.slice sa o.sy.length sc) := carry_cell' hb (by assumption); have qb1 : w4.cell? ⟨w.heap.size, 1, none⟩ = some (.slice wa o.ws.length wc) := carry_cell' hb (by assumption); have qb2 : w4.cell? ⟨w.heap.size, 2, none⟩ = some (.int .i64 o.va) := carry_cell' hb (by assumption); have qb3 : w4.cell? ⟨w.heap.size + 1, 0, none⟩ = some (.string s.name) := carry_cell' hb (by assumption); have qb4 : w4.cell? ⟨w.heap.size + 1, 1, none⟩ = some (.slice pa s.args.length ca) := carry_cell' hb (by assumption); have qb5 : w4.cell? ⟨w.heap.size + 1 + 1, 0, none⟩ = some (.string t.name) := carry_cell' hb (by assumption); have qb6 : w4.cell? ⟨w.heap.size + 1 + 1, 1, none⟩ = some (.slice pb t.args.length cb) := carry_cell' hb (by assumption); have hw4 : Below wW.heap.size wW w4 := carry_below (by assumption) (Nat.le_refl _) hb; clear hb) | (go_at_call 139; refine (CC.out _).mono ?_; rintro e wn ⟨rfl, rfl⟩))
    clear hB0 qa0 qa1 qa2 qa3 qa4 qa5 qa6 hw3 qb0 qb1 qb2 qb3 qb4 qb5 qb6
    have hb := hw4
    clear hw4 CW1 CW2 CC
    replace HB := Lib.hid (carry_below HB.out (Nat.le_refl _) hb)
    replace H3 := Lib.hid (H3.out.kept hb)
    replace HS := Lib.hid (HS.out.kept hb)
    replace HT := Lib.hid (HT.out.kept hb)
    clear hb b0 b1 b2 b3 s0 s1 s2 t0 t1 t2
    obtain ⟨b0, b1, b2, b3⟩ := H3.out
    obtain ⟨s0, s1, s2⟩ := HS.out
    obtain ⟨t0, t1, t2⟩ := HT.out
    by_cases hc0 : c = 0
    · have e1 : (c != 0) = false := int_eq hc0
      have HWE : Hid (o.wT s = o.wT t) := Lib.hid (by
        rw [HXE.out, HYE.out]
        have h := HCE.out
        rw [hc0] at h
        unfold Lib.compareInt at h
        split at h
        · omega
        · split at h
          · omega
          · omega)
      clear hc0
      cases hvs : varB s.name with
      | true =>
        rw [hvs] at CVS
        have HE : Hid (kbo o s t = false) := Lib.hid (kbo_var HBAL.out HWE.out (.inl hvs))
        clear hvs
        go_wp2_with fail
        refine (CVS.out _).mono ?_
        rintro e w5 ⟨rfl, rfl⟩
        go_wp2
        go_ret
        exact ⟨ret_bool HE.out.symm, HB.out⟩
      | false =>
        rw [hvs] at CVS
        have HVSN := Lib.hid hvs
        clear hvs
        go_wp2_with fail
        refine (CVS.out _).mono ?_
        rintro e w5 ⟨rfl, rfl⟩
        cases hvt : varB t.name with
        | true =>
          rw [hvt] at CVT
          have HE : Hid (kbo o s t = false) := Lib.hid (kbo_var HBAL.out HWE.out (.inr hvt))
          clear hvt
          go_wp2_with fail
          refine (CVT.out _).mono ?_
          rintro e w6 ⟨rfl, rfl⟩
          go_wp2
          go_ret
          exact ⟨ret_bool HE.out.symm, HB.out⟩
        | false =>
          rw [hvt] at CVT
          have HVTN := Lib.hid hvt
          clear hvt
          go_wp2_with fail
          refine (CVT.out _).mono ?_
          rintro e w6 ⟨rfl, rfl⟩
          obtain ⟨r, hr⟩ : ∃ r, o.root s t = r := ⟨_, rfl⟩
          have HRE := Lib.hid hr
          rw [hr] at CRT
          clear hr CVS CVT e1
          go_wp2_with fail
          refine (CRT.out _ HB.out).mono ?_
          rintro e w7 ⟨rfl, hb⟩
          replace HB := Lib.hid (carry_below HB.out (Nat.le_refl _) hb)
          replace H3 := Lib.hid (H3.out.kept hb)
          replace HS := Lib.hid (HS.out.kept hb)
          replace HT := Lib.hid (HT.out.kept hb)
          clear hb b0 b1 b2 b3 s0 s1 s2 t0 t1 t2 CRT
          obtain ⟨b0, b1, b2, b3⟩ := H3.out
          obtain ⟨s0, s1, s2⟩ := HS.out
          obtain ⟨t0, t1, t2⟩ := HT.out
          by_cases hr0 : r = 0
          · have e2 : (r != 0) = false := int_eq hr0
            have HR0 : Hid (o.root s t = 0) := Lib.hid (by rw [HRE.out, hr0])
            have hll : s.args.length = t.args.length := Od.root_len HR0.out
            have HLL := Lib.hid hll
            have HKE := Lib.hid (kbo_args HBAL.out HWE.out HVSN.out HVTN.out HR0.out)
            have CF2 := Lib.hid (CFD.out (by omega))
            clear hr0 CFD hll
            rcases fd_ways s.args t.args with ⟨f1, f2⟩ | ⟨k, f1, f2, f3, f4⟩
            · rw [f1] at CF2
              have HE : Hid (kbo o s t = false) := Lib.hid (by rw [HKE.out]; exact kboL_no o _ _ f2)
              clear f1 f2
              go_wp2_with fail
              refine (CF2.out _ HB.out).mono ?_
              rintro e w8 ⟨rfl, hb⟩
              have HB8 := Lib.hid (carry_below HB.out (Nat.le_refl _) hb)
              clear hb b0 b1 b2 b3 s0 s1 s2 t0 t1 t2 HB H3 HS HT
              go_wp2
              go_quiet (fail)
              have HB9 : Hid (Below w.heap.size w (w8.drewN nq)) := Lib.hid (⟨HB8.out.os, HB8.out.tape, HB8.out.output, HB8.out.size, HB8.out.block⟩)
              go_wp2
              go_ret
              exact ⟨ret_bool HE.out.symm, HB9.out⟩
            · rw [f1] at CF2
              obtain ⟨x, hx⟩ : ∃ x, s.args[k]? = some x := ⟨_, List.getElem?_eq_getElem f2⟩
              have hkt : k < t.args.length := by have := HLL.out; omega
              obtain ⟨y, hy⟩ : ∃ y, t.args[k]? = some y := ⟨_, List.getElem?_eq_getElem hkt⟩
              have HE : Hid (kbo o s t = kbo o x y) := Lib.hid (by
                rw [HKE.out]
                exact kboL_at o _ _ k x y hx hy (fun e => f3 (by rw [hx, hy, e])) f4)
              have HX := Lib.hid hx
              have HY := Lib.hid hy
              clear f1 f3 f4 hx hy HKE
              go_wp2_with fail
              refine (CF2.out _ HB.out).mono ?_
              rintro e w8 ⟨rfl, hb⟩
              replace HB := Lib.hid (carry_below HB.out (Nat.le_refl _) hb)
              replace H3 := Lib.hid (H3.out.kept hb)
              replace HS := Lib.hid (HS.out.kept hb)
              replace HT := Lib.hid (HT.out.kept hb)
              clear hb b0 b1 b2 b3 s0 s1 s2 t0 t1 t2 CF2 e2
              obtain ⟨b0, b1, b2, b3⟩ := H3.out
              obtain ⟨s0, s1, s2⟩ := HS.out
              obtain ⟨t0, t1, t2⟩ := HT.out
              obtain ⟨b, off, rfl, vx, c0, c1, hvx⟩ := HVS.out.get HX.out
              obtain ⟨b', off', rfl, vy, d0, d1, hvy⟩ := HVT.out.get HY.out
              obtain ⟨p, c, rfl⟩ := hvx.is_slice
              obtain ⟨p', c', rfl⟩ := hvy.is_slice
              have c0' := carry_cell c0 HB.out
              have c1' := carry_cell c1 HB.out
              have d0' := carry_cell d0 HB.out
              have d1' := carry_cell d1 HB.out
              have CK := Lib.hid (fun W (hW : Below w8.heap.size w8 W) => H.out x (mem_of_at HX.out) y W _ _ _ _ (HV.out.kept (carry_below HB.out (Nat.le_refl _) hW)) (hvx.kept (carry_below HB.out (Nat.le_refl _) hW)) (hvy.kept (carry_below HB.out (Nat.le_refl _) hW)) (HOS.out.arg (mem_of_at HX.out)) (HOT.out.arg (mem_of_at HY.out)))
              have hk0 : decide ((0 : Int) ≤ (k : Int)) = true := by simp
              clear c0 c1 d0 d1 hvx hvy
              go_wp2_with fail
              have hB0 : Below w8.heap.size w8 w8.drew := (Below.refl _ _).drew
              go_region_held3 (fun w' => w'.cell? ⟨w.heap.size, 0, none⟩ = some (.slice sa o.sy.length sc) ∧ w'.cell? ⟨w.heap.size, 1, none⟩ = some (.slice wa o.ws.length wc) ∧ w'.cell? ⟨w.heap.size, 2, none⟩ = some (.int .i64 o.va) ∧ w'.cell? ⟨w.heap.size + 1, 1, none⟩ = some (.slice (some ⟨b, off, none⟩) s.args.length ca) ∧ w'.cell? ⟨w.heap.size + 1 + 1, 1, none⟩ = some (.slice (some ⟨b', off', none⟩) t.args.length cb) ∧ w'.cell? ⟨b, off + k * 2, none⟩ = some (.string x.name) ∧ w'.cell? ⟨b, off + k * 2 + 1, none⟩ = some (.slice p x.args.length c) ∧ w'.cell? ⟨b', off' + k * 2, none⟩ = some (.string y.name) ∧ w'.cell? ⟨b', off' + k * 2 + 1, none⟩ = some (.slice p' y.args.length c') ∧ Below w8.heap.size w8 w') (first | exact ⟨by assumption, by assumption, by assumption, by assumption, by assumption, by assumption, by assumption, by assumption, by assumption, by assumption⟩ | go_keep) (first | (go_at_call 96; refine (CK.out _ (by assumption)).mono ?_; rintro e w9 ⟨rfl, hb⟩; have qa0 : w9.cell? ⟨w.heap.size, 0, none⟩ = some (.slice sa o.sy.length sc) := carry_cell' hb (by assumption); have qa1 : w9.cell? ⟨w.heap.size, 1, none⟩ = some (.slice wa o.ws.length wc) := carry_cell' hb (by assumption); have qa2 : w9.cell? ⟨w.heap.size, 2, none⟩ = some (.int .i64 o.va) := carry_cell' hb (by assumption); have qa3 : w9.cell? ⟨w.heap.size + 1, 1, none⟩ = some (.slice (some ⟨b, off, none⟩) s.args.length ca) := carry_cell' hb (by assumption); have qa4 : w9.cell? ⟨w.heap.size + 1 + 1, 1, none⟩ = some (.slice (some ⟨b', off', none⟩) t.args.length cb) := carry_cell' hb (by assumption); have qa5 : w9.cell? ⟨b, off + k * 2, none⟩ = some (.string x.name) := carry_cell' hb (by assumption); have qa6 : w9.cell? ⟨b, off + k * 2 + 1, none⟩ = some (.slice p x.args.length c) := carry_cell' hb (by assumption); have qa7 : w9.cell? ⟨b', off' + k * 2, none⟩ = some (.string y.name) := carry_cell' hb (by assumption); have qa8 : w9.cell? ⟨b', off' + k * 2 + 1, none⟩ = some (.slice p' y.args.length c') := carry_cell' hb (by assumption); have hw9 : Below w8.heap.size w8 w9 := carry_below (by assumption) (Nat.le_refl _) hb; clear hb))
              clear hB0 qa0 qa1 qa2 qa3 qa4 qa5 qa6 qa7 qa8
              have HB9 := Lib.hid (carry_below HB.out (Nat.le_refl _) hw9)
              clear hw9
              go_wp2
              go_ret
              exact ⟨ret_bool HE.out.symm, HB9.out⟩
          · have e2 : (r != 0) = true := int_ne hr0
            have HE : Hid (kbo o s t = decide (0 < r)) := Lib.hid (by rw [kbo_root HBAL.out HWE.out HVSN.out HVTN.out (by rw [HRE.out]; exact hr0), HRE.out])
            clear hr0
            go_wp2
            go_ret
            exact ⟨ret_bool HE.out.symm, HB.out⟩
    · have e1 : (c != 0) = true := int_ne hc0
      have HE : Hid (kbo o s t = decide (0 < c)) := Lib.hid (by
        have h := HCE.out
        have hxy : x ≠ y := fun e => hc0 (by rw [h, e]; unfold Lib.compareInt; simp)
        rw [kbo_wt HBAL.out (by rw [HXE.out, HYE.out]; exact hxy), HXE.out, HYE.out, h]
        unfold Lib.compareInt
        split
        · simp; omega
        · split
          · simp; omega
          · omega)
      clear hc0
      go_wp2
      go_ret
      exact ⟨ret_bool HE.out.symm, HB.out⟩

theorem kboP_any (o : Od) (ho : o.wt ≤ 1048576) (hf : o.Fine) (s : Tm) : KboP o s := Tm.ind (P := KboP o) (kboP_of o ho hf) s

end Go.Proofs.Ytmlenhjhkpgcnaa

/- CompareKBO, the program's: a contract, for orderings and terms of at most 1048576 names' bytes and elements. -/
namespace Go.Proofs.Ytmlenhjhkpgcnaa
open Go.RowKit
set_option linter.unusedVariables false

theorem tmS_pair {w : World} {s t : Tm} {va vb : Value} (hs : TmS w va s.args) (ht : TmS w vb t.args) (g c : Nat) (h0 : w.cell? ⟨g, 0, none⟩ = some (.string s.name)) (h1 : w.cell? ⟨g, 1, none⟩ = some va) (h2 : w.cell? ⟨g, 2, none⟩ = some (.string t.name)) (h3 : w.cell? ⟨g, 3, none⟩ = some vb) :
    TmS w (.slice (some ⟨g, 0, none⟩) 2 c) [s, t] := by
  refine .row g 0 c [s, t] (fun i => if i = 0 then va else vb) (by simp) (fun i x hi => ?_) (fun i x hi => ?_) (fun i x hi => ?_)
  all_goals
    have hi2 : i < 2 := by have := (List.getElem?_eq_some_iff.1 hi).1; simpa using this
    rcases (show i = 0 ∨ i = 1 by omega) with rfl | rfl
  · have e : s = x := by simpa using hi
    subst e; exact h0
  · have e : t = x := by simpa using hi
    subst e; exact h2
  · have e : s = x := by simpa using hi
    subst e; exact h1
  · have e : t = x := by simpa using hi
    subst e; exact h3
  · have e : s = x := by simpa using hi
    subst e; exact hs
  · have e : t = x := by simpa using hi
    subst e; exact ht
theorem okP_of {o : Od} {t : Tm} (hw : t.wt ≤ 1048576) (h : (goodB t && o.cov t) = true) : o.OkP t := by
  rw [Bool.and_eq_true] at h
  have e := h.1
  unfold goodB at e
  rw [Bool.and_eq_true] at e
  refine ⟨⟨hw, ?_, h.2⟩, e.2⟩
  have e2 := e.1
  unfold fitsB at e2
  simp only [Bool.and_eq_true, decide_eq_true_eq] at e2
  exact e2.1
theorem okTs_two (o : Od) (s t : Tm) : o.okTs [s, t] = o.ok2 s t := by unfold Od.okTs Od.ok2; simp

set_option maxHeartbeats 2000000 in
theorem compByKBO_any (s t : Tm) (w : World) (sv wv : Value) (n : Int) (va vb : Value) (hs : TmS w va s.args) (ht : TmS w vb t.args) (e g l : Bool) (hq : (∃ a m c, sv = .slice a m c) ∧ ∃ a m c, wv = .slice a m c)
    (he : ∀ W, Below w.heap.size w W → Calls Try.prog 76 #[.agg #[.string s.name, va], .agg #[.string t.name, vb]] W (Ans (.bool e) W))
    (hg : ∀ W, Below w.heap.size w W → Calls Try.prog 96 #[.agg #[sv, wv, .int .i64 n], .agg #[.string s.name, va], .agg #[.string t.name, vb]] W (Ans (.bool g) W))
    (hl : ∀ W, Below w.heap.size w W → Calls Try.prog 96 #[.agg #[sv, wv, .int .i64 n], .agg #[.string t.name, vb], .agg #[.string s.name, va]] W (Ans (.bool l) W)) :
    Calls Try.prog 95 #[.agg #[.string s.name, va], .agg #[.string t.name, vb], .func (.func 76) #[] #[], .func (.func 96) #[.agg #[sv, wv, .int .i64 n]] #[]] w (Ans (.int .i64 (codeR e g l)) w) := by
  obtain ⟨⟨sa, sn, sc, rfl⟩, wa, wn, wc, rfl⟩ := hq
  obtain ⟨pa, ca, rfl⟩ := hs.is_slice
  obtain ⟨pb, cb, rfl⟩ := ht.is_slice
  obtain ⟨w1, hw1⟩ : ∃ w1, (w.alloc (.cells #[.string s.name, .slice pa s.args.length ca] 31)).alloc (.cells #[.string t.name, .slice pb t.args.length cb] 31) = w1 := ⟨_, rfl⟩
  have HB : Hid (Below w.heap.size w w1) := Lib.hid (by rw [← hw1]; exact ((Below.refl w.heap.size w).alloc (Nat.le_refl _) _).alloc (by simp) _)
  have HS : Hid (Two w1 w.heap.size (.string s.name) (.slice pa s.args.length ca)) := Lib.hid (by rw [← hw1]; exact (two_new w _ _ _ _ rfl).alloc _)
  have HT : Hid (Two w1 (w.heap.size + 1) (.string t.name) (.slice pb t.args.length cb)) := Lib.hid (by rw [← hw1]; exact two_new _ _ _ 31 (w.heap.size + 1) (by simp))
  have HE := Lib.hid he
  have HG := Lib.hid hg
  have HL := Lib.hid hl
  clear hs ht he hg hl
  obtain ⟨s0, s1, s2⟩ := HS.out
  obtain ⟨t0, t1, t2⟩ := HT.out
  go_enter Try.func95, Try.ntmps95
  go_wp2_with fail
  refine (HE.out _ HB.out).mono ?_
  intro r w2 hh
  obtain ⟨hr, hb⟩ := hh
  replace HB := Lib.hid (carry_below HB.out (Nat.le_refl _) hb)
  replace HS := Lib.hid (HS.out.kept hb)
  replace HT := Lib.hid (HT.out.kept hb)
  subst hr
  clear hb s0 s1 s2 t0 t1 t2 hw1
  obtain ⟨s0, s1, s2⟩ := HS.out
  obtain ⟨t0, t1, t2⟩ := HT.out
  cases e with
  | true =>
    go_wp2
    go_ret
    exact ⟨rfl, HB.out⟩
  | false =>
    go_wp2_with fail
    refine (HG.out _ HB.out).mono ?_
    intro r w3 hh
    obtain ⟨hr, hb⟩ := hh
    replace HB := Lib.hid (carry_below HB.out (Nat.le_refl _) hb)
    replace HS := Lib.hid (HS.out.kept hb)
    replace HT := Lib.hid (HT.out.kept hb)
    subst hr
    clear hb s0 s1 s2 t0 t1 t2
    obtain ⟨s0, s1, s2⟩ := HS.out
    obtain ⟨t0, t1, t2⟩ := HT.out
    cases g with
    | true =>
      go_wp2
      go_ret
      exact ⟨rfl, HB.out⟩
    | false =>
      go_wp2_with fail
      refine (HL.out _ HB.out).mono ?_
      intro r w4 hh
      obtain ⟨hr, hb⟩ := hh
      replace HB := Lib.hid (carry_below HB.out (Nat.le_refl _) hb)
      subst hr
      clear hb s0 s1 s2 t0 t1 t2
      cases l with
      | true =>
        go_wp2
        go_ret
        exact ⟨rfl, HB.out⟩
      | false =>
        go_wp2
        go_ret
        exact ⟨rfl, HB.out⟩

set_option maxHeartbeats 4000000 in
theorem implKBO_any (o : Od) (ho : o.wt ≤ 1048576) (s t : Tm) (w : World) (sv wv va vb : Value) (hv : OdV w sv wv o) (hs : TmS w va s.args) (ht : TmS w vb t.args) (hws : s.wt ≤ 1048576) (hwt : t.wt ≤ 1048576) :
    Calls Try.prog 48 #[.agg #[sv, wv, .int .i64 o.va], .agg #[.string s.name, va], .agg #[.string t.name, vb]] w (Ans (.tuple #[.int .i64 (o.kboR s t), .bool (o.ok2 s t)]) w) := by
  obtain ⟨sa, sc, wa, wc, rfl, rfl⟩ := hv.open
  obtain ⟨pa, ca, rfl⟩ := hs.is_slice
  obtain ⟨pb, cb, rfl⟩ := ht.is_slice
  obtain ⟨w1, hw1⟩ : ∃ w1, ((w.alloc (.cells #[.slice sa o.sy.length sc, .slice wa o.ws.length wc, .int .i64 o.va] 73)).alloc (.cells #[.string s.name, .slice pa s.args.length ca] 31)).alloc (.cells #[.string t.name, .slice pb t.args.length cb] 31) = w1 := ⟨_, rfl⟩
  have HB : Hid (Below w.heap.size w w1) := Lib.hid (by rw [← hw1]; exact (((Below.refl w.heap.size w).alloc (Nat.le_refl _) _).alloc (by simp) _).alloc (by simp; omega) _)
  have H3 : Hid (OdB w1 w.heap.size (.slice sa o.sy.length sc) (.slice wa o.ws.length wc) o) := Lib.hid (by rw [← hw1]; exact ((thr_new w _ _ _ _ _ rfl).alloc _).alloc _)
  have HS : Hid (Two w1 (w.heap.size + 1) (.string s.name) (.slice pa s.args.length ca)) := Lib.hid (by rw [← hw1]; exact (two_new _ _ _ 31 (w.heap.size + 1) (by simp)).alloc _)
  have HT : Hid (Two w1 (w.heap.size + 1 + 1) (.string t.name) (.slice pb t.args.length cb)) := Lib.hid (by rw [← hw1]; exact two_new _ _ _ 31 (w.heap.size + 1 + 1) (by simp))
  have HV := Lib.hid hv
  have HVS := Lib.hid hs
  have HVT := Lib.hid ht
  obtain ⟨w2, hw2⟩ : ∃ w2, w1.alloc (.cells #[.string s.name, .slice pa s.args.length ca, .string t.name, .slice pb t.args.length cb] 31) = w2 := ⟨_, rfl⟩
  have HB12 : Below w1.heap.size w1 w2 := by rw [← hw2]; exact (Below.refl _ _).alloc (Nat.le_refl _) _
  have HB2 := Lib.hid (carry_below HB.out (Nat.le_refl _) HB12)
  have c0 : w2.cell? ⟨w1.heap.size, 0, none⟩ = some (.string s.name) := by rw [← hw2, World.cell?_alloc_at _ _ _ _ rfl]; rfl
  have c1 : w2.cell? ⟨w1.heap.size, 1, none⟩ = some (.slice pa s.args.length ca) := by rw [← hw2, World.cell?_alloc_at _ _ _ _ rfl]; rfl
  have c2 : w2.cell? ⟨w1.heap.size, 2, none⟩ = some (.string t.name) := by rw [← hw2, World.cell?_alloc_at _ _ _ _ rfl]; rfl
  have c3 : w2.cell? ⟨w1.heap.size, 3, none⟩ = some (.slice pb t.args.length cb) := by rw [← hw2, World.cell?_alloc_at _ _ _ _ rfl]; rfl
  have CG := covT_any o [s, t] w2 _ _ _ (hv.kept HB2.out) (tmS_pair (hs.kept HB2.out) (ht.kept HB2.out) w1.heap.size 2 c0 c1 c2 c3) ho (by simp) (fun x hx => by
    rcases List.mem_cons.1 hx with rfl | hx
    · exact hws
    · rw [List.mem_singleton.1 hx]; exact hwt)
  rw [okTs_two] at CG
  have HCG := Lib.hid CG
  have H32 := Lib.hid (H3.out.kept HB12)
  have HS2 := Lib.hid (HS.out.kept HB12)
  have HT2 := Lib.hid (HT.out.kept HB12)
  have HO : Hid (o.ok2 s t = (o.good && ((goodB s && o.cov s) && (goodB t && o.cov t)))) := Lib.hid rfl
  have HR : Hid (o.kboR s t = if o.ok2 s t then o.kboC s t else 0) := Lib.hid rfl
  clear hv hs ht CG c0 c1 c2 c3 HB12
  obtain ⟨b0, b1, b2, b3⟩ := H3.out
  obtain ⟨s0, s1, s2⟩ := HS.out
  obtain ⟨t0, t1, t2⟩ := HT.out
  go_enter Try.func48, Try.ntmps48
  go_wp2_with fail
  refine HCG.out.mono ?_
  rintro e w3 ⟨rfl, hb⟩
  replace HB := Lib.hid (carry_below HB2.out (Nat.le_refl _) hb)
  replace H3 := Lib.hid (H32.out.kept hb)
  replace HS := Lib.hid (HS2.out.kept hb)
  replace HT := Lib.hid (HT2.out.kept hb)
  clear hb b0 b1 b2 b3 s0 s1 s2 t0 t1 t2 hw1 hw2 H32 HS2 HT2 HB2 HCG
  obtain ⟨b0, b1, b2, b3⟩ := H3.out
  obtain ⟨s0, s1, s2⟩ := HS.out
  obtain ⟨t0, t1, t2⟩ := HT.out
  cases hg : o.ok2 s t with
  | false =>
    have HG := Lib.hid hg
    have HR2 : Hid (o.kboR s t = 0) := Lib.hid (by rw [HR.out, hg]; rfl)
    clear hg
    go_wp2
    go_ret2
    exact ⟨ret_pair HR2.out.symm HG.out.symm, HB.out⟩
  | true =>
    have HG := Lib.hid hg
    have HR2 : Hid (o.kboR s t = codeR (eqT s t) (kbo o s t) (kbo o t s)) := Lib.hid (by rw [HR.out, hg]; rfl)
    have hgc := hg
    rw [HO.out, Bool.and_eq_true, Bool.and_eq_true] at hgc
    have HFI := Od.good_fine hgc.1
    have HOS := okP_of hws hgc.2.1
    have HOT := okP_of hwt hgc.2.2
    have HCB := Lib.hid (compByKBO_any s t w3 (.slice sa o.sy.length sc) (.slice wa o.ws.length wc) o.va _ _ (HVS.out.kept HB.out) (HVT.out.kept HB.out) (eqT s t) (kbo o s t) (kbo o t s) ⟨⟨_, _, _, rfl⟩, _, _, _, rfl⟩
      (fun W hW => equalTrees_any s t W _ _ (HVS.out.kept (carry_below HB.out (Nat.le_refl _) hW)) (HVT.out.kept (carry_below HB.out (Nat.le_refl _) hW)) hws hwt)
      (fun W hW => kboP_any o ho HFI s t W _ _ _ _ (HV.out.kept (carry_below HB.out (Nat.le_refl _) hW)) (HVS.out.kept (carry_below HB.out (Nat.le_refl _) hW)) (HVT.out.kept (carry_below HB.out (Nat.le_refl _) hW)) HOS HOT)
      (fun W hW => kboP_any o ho HFI t s W _ _ _ _ (HV.out.kept (carry_below HB.out (Nat.le_refl _) hW)) (HVT.out.kept (carry_below HB.out (Nat.le_refl _) hW)) (HVS.out.kept (carry_below HB.out (Nat.le_refl _) hW)) HOT HOS))
    clear HOS HOT HFI
    clear hg hgc
    go_wp2_with fail
    refine HCB.out.mono ?_
    intro r w4 hh
    obtain ⟨hr, hb⟩ := hh
    have HBF := Lib.hid (carry_below HB.out (Nat.le_refl _) hb)
    subst hr
    clear hb
    go_wp2
    go_ret2
    exact ⟨ret_pair HR2.out.symm HG.out.symm, HBF.out⟩

end Go.Proofs.Ytmlenhjhkpgcnaa
