/- Several texts in one: each says what it proves. No condition but theirs. -/
import Derived.Test.YtohalpafmcobpaaGreatLpG
import Derived.Test.YtohalpafmcobpaaGreatWcG
import Derived.Test.YtohalpafmcobpaaGreatVnG
import Derived.Test.YtohalpafmcobpaaGreatOhG
/- Balance in the program's words: what is left of one list of variables without another's. No condition. -/
namespace Go.Proofs.YtohalpafmcobpaaGreat
open Go.RowKit
set_option linter.unusedVariables false

def LeafL (l : List Tm) : Prop := ∀ x ∈ l, x.args = []
theorem tm_leaf {x t : Tm} (hx : x.args = []) (ht : t.args = []) (h : x.name = t.name) : x = t := by
  cases x with
  | node n l => cases t with
    | node m q =>
      have e1 : l = [] := hx
      have e2 : q = [] := ht
      have e3 : n = m := h
      rw [e1, e2, e3]
theorem eqT_yes {x t : Tm} (h : x = t) : eqT x t = true := by unfold eqT; exact decide_eq_true h
theorem eqT_no {x t : Tm} (h : x ≠ t) : eqT x t = false := by unfold eqT; exact decide_eq_false h
theorem LeafL.rem {t : Tm} {l : List Tm} (h : LeafL l) : LeafL (rem1 t l) := fun x hx => h x (rem1_mem hx)

theorem rem1_cnt {t : Tm} (ht : t.args = []) (n : ByteArray) : ∀ {l : List Tm}, LeafL l → cnt n (rem1 t l) = if t.name = n then cnt n l - 1 else cnt n l
  | [], _ => by rw [rem1, cnt_nil]; split <;> rfl
  | x :: r, h => by
    have ih := rem1_cnt ht n (l := r) (fun y hy => h y (List.mem_cons_of_mem _ hy))
    by_cases hxt : x.name = t.name
    · have e := tm_leaf (h x List.mem_cons_self) ht hxt
      rw [rem1, if_pos (eqT_yes e)]
      by_cases hn : t.name = n
      · rw [if_pos hn, cnt_cons_yes (hxt.trans hn)]; omega
      · rw [if_neg hn, cnt_cons_no (fun e => hn (hxt.symm.trans e))]
    · rw [rem1, if_neg (by rw [eqT_no (fun e => hxt (by rw [e]))]; decide)]
      by_cases hn : t.name = n
      · rw [if_pos hn] at ih ⊢
        have hx : x.name ≠ n := fun e => hxt (e.trans hn.symm)
        rw [cnt_cons_no hx, cnt_cons_no hx, ih]
      · rw [if_neg hn] at ih ⊢
        by_cases hx : x.name = n
        · rw [cnt_cons_yes hx, cnt_cons_yes hx, ih]
        · rw [cnt_cons_no hx, cnt_cons_no hx, ih]

theorem wcL_nil : ∀ (lb la : List Tm), LeafL lb → LeafL la → (wcL la lb = [] ↔ ∀ n, cnt n la ≤ cnt n lb)
  | [], la, _, _ => by
    rw [wcL]
    constructor
    · rintro rfl n; exact Nat.le_refl _
    · intro h
      cases la with
      | nil => rfl
      | cons x r =>
        have := h x.name
        rw [cnt_cons_yes rfl, cnt_nil] at this
        omega
  | t :: r, la, hb, ha => by
    have ht := hb t List.mem_cons_self
    rw [wcL, wcL_nil r (rem1 t la) (fun x hx => hb x (List.mem_cons_of_mem _ hx)) ha.rem]
    constructor
    · intro h n
      have h1 := h n
      rw [rem1_cnt ht n ha] at h1
      by_cases hn : t.name = n
      · rw [if_pos hn] at h1; rw [cnt_cons_yes hn]; omega
      · rw [if_neg hn] at h1; rw [cnt_cons_no hn]; exact h1
    · intro h n
      have h1 := h n
      rw [rem1_cnt ht n ha]
      by_cases hn : t.name = n
      · rw [if_pos hn]; rw [cnt_cons_yes hn] at h1; omega
      · rw [if_neg hn]; rw [cnt_cons_no hn] at h1; exact h1

theorem plain_leaf {t : Tm} (h : t.plain) : LeafL t.vs := fun x hx => by
  obtain ⟨h1, h2⟩ := List.mem_filter.1 hx
  exact h x h1 h2
theorem vs_cnt {t : Tm} {n : ByteArray} (h : varB n = true) : cnt n t.vs = cnt n t.nds := by
  unfold cnt Tm.vs
  rw [List.countP_filter]
  congr 1
  funext s
  by_cases e : s.name = n
  · simp [e, h]
  · simp [e]
theorem vs_cnt_no {t : Tm} {n : ByteArray} (h : varB n = false) : cnt n t.vs = 0 := by
  unfold cnt Tm.vs
  rw [List.countP_filter]
  refine List.countP_eq_zero.2 fun s _ => ?_
  by_cases e : s.name = n
  · simp [e, h]
  · simp [e]
theorem vn_has {t : Tm} {n : ByteArray} : n ∈ vn t.nds ↔ ∃ s ∈ t.nds, varB s.name = true ∧ s.name = n := vn_mem
theorem into_has {t : Tm} (h : t.plain) (n : ByteArray) : n ∈ t.into [] ↔ n ∈ vn t.nds := by
  rw [into_fold t h, putAll_mem]
  constructor
  · rintro (h | h)
    · exact h
    · cases h
  · exact .inl

theorem bal_wc {s t : Tm} (hs : s.plain) (ht : t.plain) : bal s t = true ↔ wcL t.vs s.vs = [] := by
  rw [wcL_nil _ _ (plain_leaf hs) (plain_leaf ht)]
  unfold bal
  rw [List.all_eq_true]
  constructor
  · intro h n
    cases hv : varB n with
    | false => rw [vs_cnt_no hv]; exact Nat.zero_le _
    | true =>
      rw [vs_cnt hv, vs_cnt hv]
      by_cases hn : n ∈ vn t.nds
      · exact of_decide_eq_true (h n ((into_has ht n).2 hn))
      · have e : cnt n t.nds = 0 := List.countP_eq_zero.2 fun x hx => by
          by_cases e : x.name = n
          · exact absurd (vn_has.2 ⟨x, hx, by rw [e]; exact hv, e⟩) hn
          · simp [e]
        rw [e]; exact Nat.zero_le _
  · intro h n hn
    obtain ⟨x, hx, hv, e⟩ := vn_has.1 ((into_has ht n).1 hn)
    have hv2 : varB n = true := by rw [← e]; exact hv
    have h1 := h n
    rw [vs_cnt hv2, vs_cnt hv2] at h1
    exact decide_eq_true h1

theorem RowT.form {w0 w : World} {base : Nat} {v : Value} {L : List (Tm × Value)} (h : RowT w0 base w v L) : ∃ p c, v = .slice p L.length c := by
  rcases h.row.2 with ⟨rfl, h0⟩ | ⟨g, cap, cur, rfl, _⟩
  · exact ⟨none, 0, by rw [h0]⟩
  · exact ⟨_, _, rfl⟩
theorem rem1_le (t : Tm) (l : List Tm) : (rem1 t l).length ≤ l.length := rem1_len t l
theorem wcL_len : ∀ (lb la : List Tm), (wcL la lb).length ≤ la.length
  | [], la => Nat.le_refl _
  | t :: r, la => by rw [wcL]; exact Nat.le_trans (wcL_len r _) (rem1_len t la)
theorem vs_len (t : Tm) : t.vs.length ≤ t.sz := by unfold Tm.vs; rw [← Tm.nds_len]; exact List.length_filter_le _ _
theorem vs_mem {t s : Tm} (h : s ∈ t.vs) : s ∈ t.nds := (List.mem_filter.1 h).1

end Go.Proofs.YtohalpafmcobpaaGreat

/- The program's comparison of roots and its first difference of two lists: contracts, for orderings and terms of at most 1048576 names' bytes and elements. -/
namespace Go.Proofs.YtohalpafmcobpaaGreat
open Go.RowKit
set_option linter.unusedVariables false

theorem root_or (o : Od) (s t : Tm) : o.root s t = if cmpR (rk o.sy s.name) (rk o.sy t.name) = 0 then cmpR s.args.length t.args.length else cmpR (rk o.sy s.name) (rk o.sy t.name) := by
  unfold Od.root
  by_cases h : rk o.sy s.name = rk o.sy t.name
  · rw [if_pos h, if_pos (cmpR_eq h)]
  · rw [if_neg h, if_neg (fun e => h (cmpR_zero.1 e))]

theorem cmpOr_any (a b : Int) (g : Nat) (w : World) (h0 : w.cell? ⟨g, 0, none⟩ = some (.int .i64 a)) (h1 : w.cell? ⟨g, 1, none⟩ = some (.int .i64 b)) :
    Calls Tryz.prog 197 #[.slice (some ⟨g, 0, none⟩) 2 2] w fun e w' => e = .returned (.int .i64 (if a = 0 then b else a)) ∧ w = w' := by
  by_cases ha : a = 0
  · subst ha
    by_cases hb : b = 0
    · subst hb
      go_enter Tryz.func197, Tryz.ntmps197
      go_wp2
      refine wp_loop_rounds 3 ?_
      rw [rounds_succ]
      go_wp2
      rw [rounds_succ]
      go_wp2
      rw [rounds_succ]
      go_wp2
      go_ret
      exact ⟨rfl, rfl⟩
    · have HE : Hid ((if (0 : Int) = 0 then b else 0) = b) := Lib.hid (if_pos rfl)
      go_enter Tryz.func197, Tryz.ntmps197
      go_wp2
      refine wp_loop_rounds 3 ?_
      rw [rounds_succ]
      go_wp2
      rw [rounds_succ]
      go_wp2
      all_goals first | (exfalso; omega) | skip
      all_goals go_ret
      all_goals first | exact ⟨rfl, rfl⟩ | exact ⟨ret_int HE.out.symm, rfl⟩
  · have HE : Hid ((if a = 0 then b else a) = a) := Lib.hid (if_neg ha)
    go_enter Tryz.func197, Tryz.ntmps197
    go_wp2
    refine wp_loop_rounds 3 ?_
    rw [rounds_succ]
    go_wp2
    all_goals first | (exfalso; omega) | skip
    all_goals go_ret
    all_goals first | exact ⟨rfl, rfl⟩ | exact ⟨ret_int HE.out.symm, rfl⟩

theorem cmpOr_r (a b : Int) (g : Nat) (r : Int) (w : World) (hr : r = if a = 0 then b else a) (h0 : w.cell? ⟨g, 0, none⟩ = some (.int .i64 a)) (h1 : w.cell? ⟨g, 1, none⟩ = some (.int .i64 b)) :
    Calls Tryz.prog 197 #[.slice (some ⟨g, 0, none⟩) 2 2] w fun e w' => e = .returned (.int .i64 r) ∧ w = w' := by
  rw [hr]; exact cmpOr_any a b g w h0 h1

set_option maxHeartbeats 4000000 in
theorem compRoots_any (o : Od) (ho : o.wt ≤ 1048576) (s t : Tm) (w : World) (sv wv va vb : Value) (hv : OdV w sv wv o) (hs : TmS w va s.args) (ht : TmS w vb t.args) (hws : s.wt ≤ 1048576) (hwt : t.wt ≤ 1048576) :
    Calls Tryz.prog 185 #[.agg #[sv, wv, .int .i64 o.va], .agg #[.string s.name, va], .agg #[.string t.name, vb]] w (Ans (.int .i64 (o.root s t)) w) := by
  obtain ⟨sa, sc, wa, wc, rfl, rfl⟩ := hv.open
  obtain ⟨pa, ca, rfl⟩ := hs.is_slice
  obtain ⟨pb, cb, rfl⟩ := ht.is_slice
  obtain ⟨w1, hw1⟩ : ∃ w1, ((w.alloc (.cells #[.slice sa o.sy.length sc, .slice wa o.ws.length wc, .int .i64 o.va] 35)).alloc (.cells #[.string s.name, .slice pa s.args.length ca] 39)).alloc (.cells #[.string t.name, .slice pb t.args.length cb] 39) = w1 := ⟨_, rfl⟩
  have HB : Hid (Below w.heap.size w w1) := Lib.hid (by rw [← hw1]; exact (((Below.refl w.heap.size w).alloc (Nat.le_refl _) _).alloc (by simp) _).alloc (by simp; omega) _)
  have H3 : Hid (OdB w1 w.heap.size (.slice sa o.sy.length sc) (.slice wa o.ws.length wc) o) := Lib.hid (by rw [← hw1]; exact ((thr_new w _ _ _ _ _ rfl).alloc _).alloc _)
  have HS : Hid (Two w1 (w.heap.size + 1) (.string s.name) (.slice pa s.args.length ca)) := Lib.hid (by rw [← hw1]; exact (two_new _ _ _ 39 (w.heap.size + 1) (by simp)).alloc _)
  have HT : Hid (Two w1 (w.heap.size + 1 + 1) (.string t.name) (.slice pb t.args.length cb)) := Lib.hid (by rw [← hw1]; exact two_new _ _ _ 39 (w.heap.size + 1 + 1) (by simp))
  have hsl : o.sy.length ≤ 1048576 := Nat.le_trans o.wt_sy ho
  have CA := Lib.hid (fun W (hW : Below w1.heap.size w1 W) => idx_same sa sc o.sy s.name W (StrG.of (hv.kept (carry_below HB.out (Nat.le_refl _) hW)).st) hsl)
  have CB := Lib.hid (fun W (hW : Below w1.heap.size w1 W) => idx_same sa sc o.sy t.name W (StrG.of (hv.kept (carry_below HB.out (Nat.le_refl _) hW)).st) hsl)
  have HR := Lib.hid (root_or o s t)
  have hls : s.args.length ≤ 1048576 := Nat.le_trans (Tm.wt_len s) hws
  have hlt : t.args.length ≤ 1048576 := Nat.le_trans (Tm.wt_len t) hwt
  obtain ⟨x, hx⟩ : ∃ x, rk o.sy s.name = x := ⟨_, rfl⟩
  obtain ⟨y, hy⟩ : ∃ y, rk o.sy t.name = y := ⟨_, rfl⟩
  rw [hx] at CA HR
  rw [hy] at CB HR
  clear hv hs ht hx hy
  obtain ⟨b0, b1, b2, b3⟩ := H3.out
  obtain ⟨s0, s1, s2⟩ := HS.out
  obtain ⟨t0, t1, t2⟩ := HT.out
  go_enter Tryz.func185, Tryz.ntmps185
  go_wp2_with fail
  have n0 := World.new_ne w1 _ b0
  have n1 := World.new_ne w1 _ b1
  have n2 := World.new_ne w1 _ b2
  have n3 := World.new_ne w1 _ s0
  have n4 := World.new_ne w1 _ s1
  have n5 := World.new_ne w1 _ t0
  have n6 := World.new_ne w1 _ t1
  go_region_held3 (fun w' => w'.cell? ⟨w.heap.size, 0, none⟩ = some (.slice sa o.sy.length sc) ∧ w'.cell? ⟨w.heap.size, 1, none⟩ = some (.slice wa o.ws.length wc) ∧ w'.cell? ⟨w.heap.size, 2, none⟩ = some (.int .i64 o.va) ∧ w'.cell? ⟨w.heap.size + 1, 0, none⟩ = some (.string s.name) ∧ w'.cell? ⟨w.heap.size + 1, 1, none⟩ = some (.slice pa s.args.length ca) ∧ w'.cell? ⟨w.heap.size + 1 + 1, 0, none⟩ = some (.string t.name) ∧ w'.cell? ⟨w.heap.size + 1 + 1, 1, none⟩ = some (.slice pb t.args.length cb)) (first | exact ⟨by assumption, by assumption, by assumption, by assumption, by assumption, by assumption, by assumption⟩ | go_keep) (first
    | (go_at_call_of 132 (Value.string s.name); refine (CA.out _ (by first | exact Below.refl _ _ | exact (Below.refl _ _).drew)).mono ?_; rintro e wn ⟨rfl, rfl⟩)
    | (go_at_call_of 132 (Value.string t.name); refine (CB.out _ (by first | exact Below.refl _ _ | exact (Below.refl _ _).drew)).mono ?_; rintro e wn ⟨rfl, rfl⟩)
    | (go_at_call 183; refine (Tryz.cmp_Compare_int _ _ _).mono ?_; rintro e wn ⟨rfl, rfl⟩)
    | (go_at_call 197; refine (cmpOr_r _ _ _ (o.root s t) _ HR.out (by first | exact (two_new _ _ _ _ _ rfl).1 | exact ((two_new _ _ _ _ _ rfl).drew).1) (by first | exact (two_new _ _ _ _ _ rfl).2.1 | exact ((two_new _ _ _ _ _ rfl).drew).2.1)).mono ?_; rintro e wn ⟨rfl, rfl⟩))
  all_goals (go_wp2; go_ret)
  all_goals (refine ⟨rfl, ?_⟩)
  all_goals first | exact (HB.out.alloc HB.out.size _).drew | exact HB.out.alloc HB.out.size _ | exact HB.out.drew.alloc HB.out.size _

set_option maxHeartbeats 2000000 in
theorem fdI_any (a b : List Tm) (w : World) (va vb : Value) (ha : TmS w va a) (hb0 : TmS w vb b) (hl : a.length ≤ 1048576) (hll : a.length ≤ b.length) (hwa : ∀ x ∈ a, x.wt ≤ 1048576) (hwb : ∀ x ∈ b, x.wt ≤ 1048576) :
    Calls Tryz.prog 186 #[va, vb] w (Ans (.int .i64 (fd a b)) w) := by
  obtain ⟨pa, ca, rfl⟩ := ha.is_slice
  obtain ⟨pb, cb, rfl⟩ := hb0.is_slice
  have HVS := Lib.hid ha
  have HVT := Lib.hid hb0
  have HWS := Lib.hid hwa
  have HWT := Lib.hid hwb
  clear ha hb0 hwa hwb
  go_enter Tryz.func186, Tryz.ntmps186
  go_wp2
  go_loopw [9] (fun i wr => ∃ k : Nat, k ≤ a.length ∧ i = .int .i64 k ∧ (∀ j, j < k → a[j]? = b[j]?) ∧ Below w.heap.size w wr) (fun i _ => a.length - (intOf i).toNat)
  case atStart => exact ⟨0, Nat.zero_le _, rfl, fun j hj => absurd hj (Nat.not_lt_zero _), Below.refl _ _⟩
  case round =>
    obtain ⟨k, hk, rfl, hq, hb⟩ := hrel
    have HQ := Lib.hid hq
    have HBR := Lib.hid hb
    clear hq
    by_cases hlt : k < a.length
    · obtain ⟨x, hx⟩ : ∃ x, a[k]? = some x := ⟨_, List.getElem?_eq_getElem hlt⟩
      have hlt2 : k < b.length := by omega
      obtain ⟨y, hy⟩ : ∃ y, b[k]? = some y := ⟨_, List.getElem?_eq_getElem hlt2⟩
      obtain ⟨b1, off, rfl, vx, c0, c1, hvx⟩ := HVS.out.get hx
      obtain ⟨b', off', rfl, vy, e0, e1, hvy⟩ := HVT.out.get hy
      obtain ⟨p, c, rfl⟩ := hvx.is_slice
      obtain ⟨p', c', rfl⟩ := hvy.is_slice
      have c0' := carry_cell c0 hb
      have c1' := carry_cell c1 hb
      obtain ⟨w2, hw2⟩ : ∃ w2, wr.alloc (.cells #[.string x.name, .slice p x.args.length c] 39) = w2 := ⟨_, rfl⟩
      have HX2 : Hid (Two w2 wr.heap.size (.string x.name) (.slice p x.args.length c)) := Lib.hid (by rw [← hw2]; exact two_new _ _ _ _ _ rfl)
      have HB2 : Hid (Below wr.heap.size wr w2) := Lib.hid (by rw [← hw2]; exact (Below.refl _ _).alloc (Nat.le_refl _) _)
      have HBW := Lib.hid (carry_below hb (Nat.le_refl _) HB2.out)
      have e0' := carry_cell e0 HBW.out
      have e1' := carry_cell e1 HBW.out
      obtain ⟨x0, x1, x2⟩ := HX2.out
      have HX := Lib.hid hx
      have HY := Lib.hid hy
      have CS := fun W (hW : Below w2.heap.size w2 W) => equalTrees_any x y W _ _ (hvx.kept (carry_below HBW.out (Nat.le_refl _) hW)) (hvy.kept (carry_below HBW.out (Nat.le_refl _) hW)) (HWS.out x (mem_of_at hx)) (HWT.out y (mem_of_at hy))
      obtain ⟨q, hq⟩ : ∃ q, q = eqT x y := ⟨_, rfl⟩
      rw [← hq] at CS
      have CS := Lib.hid CS
      have HQE := Lib.hid hq
      clear hb hx hy hvx hvy c0 c1 e0 e1 hq
      go_wp2_with fail
      have hB0 : Below w2.heap.size w2 w2.drew := (Below.refl _ _).drew
      go_region_held3 (fun w' => w'.cell? ⟨b', off' + k * 2, none⟩ = some (.string y.name) ∧ w'.cell? ⟨b', off' + k * 2 + 1, none⟩ = some (.slice p' y.args.length c') ∧ w'.cell? ⟨wr.heap.size, 0, none⟩ = some (.string x.name) ∧ w'.cell? ⟨wr.heap.size, 1, none⟩ = some (.slice p x.args.length c) ∧ Below w2.heap.size w2 w') (first | exact ⟨by assumption, by assumption, by assumption, by assumption, by assumption⟩ | go_keep) (first | (go_at_call 155; refine (CS.out _ (by assumption)).mono ?_; rintro e w3 ⟨rfl, hb⟩; have qa0 : w3.cell? ⟨b', off' + k * 2, none⟩ = some (.string y.name) := carry_cell' hb (by assumption); have qa1 : w3.cell? ⟨b', off' + k * 2 + 1, none⟩ = some (.slice p' y.args.length c') := carry_cell' hb (by assumption); have qa2 : w3.cell? ⟨wr.heap.size, 0, none⟩ = some (.string x.name) := carry_cell' hb (by assumption); have qa3 : w3.cell? ⟨wr.heap.size, 1, none⟩ = some (.slice p x.args.length c) := carry_cell' hb (by assumption); have hw3 : Below w2.heap.size w2 w3 := carry_below (by assumption) (Nat.le_refl _) hb; clear hb))
      clear hB0 qa0 qa1 qa2 qa3
      have HB3 := Lib.hid (carry_below HBW.out (Nat.le_refl _) hw3)
      clear hw3 hw2
      cases q with
      | true =>
        have HN : Hid (∀ j, j < k + 1 → a[j]? = b[j]?) := Lib.hid (fun j hj => by
          by_cases e : j = k
          · have h := HQE.out.symm
            unfold eqT at h
            rw [e, HX.out, HY.out, of_decide_eq_true h]
          · exact HQ.out j (by omega))
        go_wp2
        go_roundw
        case rel => exact ⟨k + 1, by omega, by go_num, HN.out, HB3.out⟩
        case measure => simp [intOf]; omega
      | false =>
        have HE : Hid (fd a b = (k : Int)) := Lib.hid (fd_at hlt (by
          rw [HX.out, HY.out]
          intro h
          injection h with h
          have h2 := HQE.out.symm
          unfold eqT at h2
          exact of_decide_eq_false h2 h) HQ.out)
        go_wp2
        go_ret
        exact ⟨ret_int HE.out.symm, HB3.out⟩
    · have HE : Hid (fd a b = -1) := Lib.hid (fd_no (fun j hj => HQ.out j (by omega)))
      go_wp2
      go_ret
      exact ⟨ret_int HE.out.symm, HBR.out⟩

end Go.Proofs.YtohalpafmcobpaaGreat

/- The Knuth-Bendix ordering, the model's side: contracts, for orderings and terms of at most 1048576 names' bytes and elements. -/
namespace Go.Proofs.YtohalpafmcobpaaGreat
open Go.RowKit
set_option linter.unusedVariables false

theorem strs_of_lvK {w : World} {v : Value} {ss : List ByteArray} (h : LV w v ss) : StrsV w v ss := by
  obtain ⟨b, cp, rfl, hc, hl, hx⟩ := h
  by_cases h0 : ss.length = 0
  · have e := List.length_eq_zero_iff.1 h0
    subst e; exact .inl ⟨_, _, rfl, rfl⟩
  · exact .inr ⟨b, 0, cp, rfl, by omega, fun i hi => by rw [Nat.zero_add]; exact hx i hi⟩

set_option maxHeartbeats 2000000 in
theorem l6Root_any (o : Od) (ho : o.wt ≤ 1048576) (s t : Tm) (w : World) (sv wv va vb : Value) (hv : OdV w sv wv o) (hs : TmS w va s.args) (ht : TmS w vb t.args) (hws : s.wt ≤ 1048576) (hwt : t.wt ≤ 1048576) :
    Calls Tryz.prog 143 #[.agg #[sv, wv, .int .i64 o.va], .agg #[.string s.name, va], .agg #[.string t.name, vb]] w (Ans (.int .i64 (o.root s t)) w) := by
  obtain ⟨sa, sc, wa, wc, rfl, rfl⟩ := hv.open
  obtain ⟨pa, ca, rfl⟩ := hs.is_slice
  obtain ⟨pb, cb, rfl⟩ := ht.is_slice
  obtain ⟨w1, hw1⟩ : ∃ w1, ((w.alloc (.cells #[.slice sa o.sy.length sc, .slice wa o.ws.length wc, .int .i64 o.va] 35)).alloc (.cells #[.string s.name, .slice pa s.args.length ca] 39)).alloc (.cells #[.string t.name, .slice pb t.args.length cb] 39) = w1 := ⟨_, rfl⟩
  have HB : Hid (Below w.heap.size w w1) := Lib.hid (by rw [← hw1]; exact (((Below.refl w.heap.size w).alloc (Nat.le_refl _) _).alloc (by simp) _).alloc (by simp; omega) _)
  have H3 : Hid (OdB w1 w.heap.size (.slice sa o.sy.length sc) (.slice wa o.ws.length wc) o) := Lib.hid (by rw [← hw1]; exact ((thr_new w _ _ _ _ _ rfl).alloc _).alloc _)
  have HS : Hid (Two w1 (w.heap.size + 1) (.string s.name) (.slice pa s.args.length ca)) := Lib.hid (by rw [← hw1]; exact (two_new _ _ _ 39 (w.heap.size + 1) (by simp)).alloc _)
  have HT : Hid (Two w1 (w.heap.size + 1 + 1) (.string t.name) (.slice pb t.args.length cb)) := Lib.hid (by rw [← hw1]; exact two_new _ _ _ 39 (w.heap.size + 1 + 1) (by simp))
  have CA := Lib.hid (fun W (hW : Below w1.heap.size w1 W) => l6Rank_any o s.name W _ _ (hv.kept (carry_below HB.out (Nat.le_refl _) hW)) ho)
  have CB := Lib.hid (fun W (hW : Below w1.heap.size w1 W) => l6Rank_any o t.name W _ _ (hv.kept (carry_below HB.out (Nat.le_refl _) hW)) ho)
  have HR : Hid (o.root s t = if rk o.sy s.name = rk o.sy t.name then cmpR s.args.length t.args.length else cmpR (rk o.sy s.name) (rk o.sy t.name)) := Lib.hid rfl
  have hls : s.args.length ≤ 1048576 := Nat.le_trans (Tm.wt_len s) hws
  have hlt : t.args.length ≤ 1048576 := Nat.le_trans (Tm.wt_len t) hwt
  obtain ⟨x, hx⟩ : ∃ x, rk o.sy s.name = x := ⟨_, rfl⟩
  obtain ⟨y, hy⟩ : ∃ y, rk o.sy t.name = y := ⟨_, rfl⟩
  rw [hx] at CA HR
  rw [hy] at CB HR
  clear hv hs ht hx hy
  obtain ⟨b0, b1, b2, b3⟩ := H3.out
  obtain ⟨s0, s1, s2⟩ := HS.out
  obtain ⟨t0, t1, t2⟩ := HT.out
  go_enter Tryz.func143, Tryz.ntmps143
  go_wp2_with fail
  have hB0 : Below w1.heap.size w1 w1.drew := (Below.refl _ _).drew
  go_region_held3 (fun w' => w'.cell? ⟨w.heap.size, 0, none⟩ = some (.slice sa o.sy.length sc) ∧ w'.cell? ⟨w.heap.size, 1, none⟩ = some (.slice wa o.ws.length wc) ∧ w'.cell? ⟨w.heap.size, 2, none⟩ = some (.int .i64 o.va) ∧ w'.cell? ⟨w.heap.size + 1, 0, none⟩ = some (.string s.name) ∧ w'.cell? ⟨w.heap.size + 1, 1, none⟩ = some (.slice pa s.args.length ca) ∧ w'.cell? ⟨w.heap.size + 1 + 1, 0, none⟩ = some (.string t.name) ∧ w'.cell? ⟨w.heap.size + 1 + 1, 1, none⟩ = some (.slice pb t.args.length cb) ∧ Below w1.heap.size w1 w') (first | exact ⟨by assumption, by assumption, by assumption, by assumption, by assumption, by assumption, by assumption, by assumption⟩ | go_keep) (first | (go_at_call_of 114 (Value.string s.name); refine (CA.out _ (by assumption)).mono ?_; rintro e w2 ⟨rfl, hb⟩; have qa0 : w2.cell? ⟨w.heap.size, 0, none⟩ = some (.slice sa o.sy.length sc) := carry_cell' hb (by assumption); have qa1 : w2.cell? ⟨w.heap.size, 1, none⟩ = some (.slice wa o.ws.length wc) := carry_cell' hb (by assumption); have qa2 : w2.cell? ⟨w.heap.size, 2, none⟩ = some (.int .i64 o.va) := carry_cell' hb (by assumption); have qa3 : w2.cell? ⟨w.heap.size + 1, 0, none⟩ = some (.string s.name) := carry_cell' hb (by assumption); have qa4 : w2.cell? ⟨w.heap.size + 1, 1, none⟩ = some (.slice pa s.args.length ca) := carry_cell' hb (by assumption); have qa5 : w2.cell? ⟨w.heap.size + 1 + 1, 0, none⟩ = some (.string t.name) := carry_cell' hb (by assumption); have qa6 : w2.cell? ⟨w.heap.size + 1 + 1, 1, none⟩ = some (.slice pb t.args.length cb) := carry_cell' hb (by assumption); have hw2 : Below w1.heap.size w1 w2 := carry_below (by assumption) (Nat.le_refl _) hb; clear hb) | (go_at_call_of 114 (Value.string t.name); refine (CB.out _ (by assumption)).mono ?_; rintro e w3 ⟨rfl, hb⟩; have qb0 : w3.cell? ⟨w.heap.size, 0, none⟩ = some (.slice sa o.sy.length sc) := carry_cell' hb (by assumption); have qb1 : w3.cell? ⟨w.heap.size, 1, none⟩ = some (.slice wa o.ws.length wc) := carry_cell' hb (by assumption); have qb2 : w3.cell? ⟨w.heap.size, 2, none⟩ = some (.int .i64 o.va) := carry_cell' hb (by assumption); have qb3 : w3.cell? ⟨w.heap.size + 1, 0, none⟩ = some (.string s.name) := carry_cell' hb (by assumption); have qb4 : w3.cell? ⟨w.heap.size + 1, 1, none⟩ = some (.slice pa s.args.length ca) := carry_cell' hb (by assumption); have qb5 : w3.cell? ⟨w.heap.size + 1 + 1, 0, none⟩ = some (.string t.name) := carry_cell' hb (by assumption); have qb6 : w3.cell? ⟨w.heap.size + 1 + 1, 1, none⟩ = some (.slice pb t.args.length cb) := carry_cell' hb (by assumption); have hw3 : Below w1.heap.size w1 w3 := carry_below (by assumption) (Nat.le_refl _) hb; clear hb))
  clear hB0 qa0 qa1 qa2 qa3 qa4 qa5 qa6 hw2 qb0 qb1 qb2 qb3 qb4 qb5 qb6
  have hb := hw3
  clear hw3
  replace HB := Lib.hid (carry_below HB.out (Nat.le_refl _) hb)
  replace H3 := Lib.hid (H3.out.kept hb)
  replace HS := Lib.hid (HS.out.kept hb)
  replace HT := Lib.hid (HT.out.kept hb)
  clear hb b0 b1 b2 b3 s0 s1 s2 t0 t1 t2 hw1 CA CB
  obtain ⟨b0, b1, b2, b3⟩ := H3.out
  obtain ⟨s0, s1, s2⟩ := HS.out
  obtain ⟨t0, t1, t2⟩ := HT.out
  by_cases hxy : x = y
  · have e1 : (x == y) = true := by rw [beq_iff_eq]; exact hxy
    have HR2 : Hid (o.root s t = cmpR s.args.length t.args.length) := Lib.hid (by rw [HR.out, if_pos hxy])
    clear hxy
    by_cases hl : s.args.length < t.args.length
    · have HE : Hid (o.root s t = -1) := Lib.hid (by rw [HR2.out, cmpR_lt (by omega)])
      go_wp2
      go_ret
      exact ⟨ret_int HE.out.symm, HB.out⟩
    · by_cases hg : t.args.length < s.args.length
      · have HE : Hid (o.root s t = 1) := Lib.hid (by rw [HR2.out, cmpR_gt (by omega)])
        go_wp2
        go_ret
        exact ⟨ret_int HE.out.symm, HB.out⟩
      · have HE : Hid (o.root s t = 0) := Lib.hid (by rw [HR2.out, cmpR_eq (by omega)])
        go_wp2
        go_ret
        exact ⟨ret_int HE.out.symm, HB.out⟩
  · have e1 : (x == y) = false := by rw [beq_eq_false_iff_ne]; exact hxy
    have HR2 : Hid (o.root s t = cmpR x y) := Lib.hid (by rw [HR.out, if_neg hxy])
    by_cases hl : x < y
    · have HE : Hid (o.root s t = -1) := Lib.hid (by rw [HR2.out, cmpR_lt (by omega)])
      clear hxy
      go_wp2
      go_ret
      exact ⟨ret_int HE.out.symm, HB.out⟩
    · have hg : y < x := by omega
      have HE : Hid (o.root s t = 1) := Lib.hid (by rw [HR2.out, cmpR_gt (by omega)])
      clear hxy
      go_wp2
      go_ret
      exact ⟨ret_int HE.out.symm, HB.out⟩

theorem l6Code_any (e g l : Bool) (w : World) :
    Calls Tryz.prog 79 #[.bool e, .bool g, .bool l] w fun r w' => r = .returned (.int .i64 (codeR e g l)) ∧ w = w' := by
  cases e <;> cases g <;> cases l
  all_goals
    go_enter Tryz.func79, Tryz.ntmps79
    go_wp2
    go_ret
    exact ⟨rfl, rfl⟩

set_option maxHeartbeats 2000000 in
theorem l6First_any (s t : Tm) (w : World) (va vb : Value) (hs : TmS w va s.args) (ht : TmS w vb t.args) (hws : s.wt ≤ 1048576) (hwt : t.wt ≤ 1048576) (hll : s.args.length ≤ t.args.length) :
    Calls Tryz.prog 144 #[.agg #[.string s.name, va], .agg #[.string t.name, vb]] w (Ans (.int .i64 (fd s.args t.args)) w) := by
  obtain ⟨pa, ca, rfl⟩ := hs.is_slice
  obtain ⟨pb, cb, rfl⟩ := ht.is_slice
  have HVS := Lib.hid hs
  have HVT := Lib.hid ht
  have hls : s.args.length ≤ 1048576 := Nat.le_trans (Tm.wt_len s) hws
  have HWS := Lib.hid (fun (x : Tm) (hx : x ∈ s.args) => Nat.le_trans (Tm.wt_arg hx) hws)
  have HWT := Lib.hid (fun (x : Tm) (hx : x ∈ t.args) => Nat.le_trans (Tm.wt_arg hx) hwt)
  obtain ⟨w1, hw1⟩ : ∃ w1, (w.alloc (.cells #[.string s.name, .slice pa s.args.length ca] 39)).alloc (.cells #[.string t.name, .slice pb t.args.length cb] 39) = w1 := ⟨_, rfl⟩
  have HB : Hid (Below w.heap.size w w1) := Lib.hid (by rw [← hw1]; exact ((Below.refl w.heap.size w).alloc (Nat.le_refl _) _).alloc (by simp) _)
  have HS : Hid (Two w1 w.heap.size (.string s.name) (.slice pa s.args.length ca)) := Lib.hid (by rw [← hw1]; exact (two_new w _ _ _ _ rfl).alloc _)
  have HT : Hid (Two w1 (w.heap.size + 1) (.string t.name) (.slice pb t.args.length cb)) := Lib.hid (by rw [← hw1]; exact two_new _ _ _ 39 (w.heap.size + 1) (by simp))
  clear hs ht
  go_enter Tryz.func144, Tryz.ntmps144
  go_wp2
  clear hw1
  go_loopw [5] (fun i wr => ∃ k : Nat, k ≤ s.args.length ∧ i = .int .i64 k ∧ (∀ j, j < k → s.args[j]? = t.args[j]?) ∧ Two wr w.heap.size (.string s.name) (.slice pa s.args.length ca) ∧ Two wr (w.heap.size + 1) (.string t.name) (.slice pb t.args.length cb) ∧ Below w.heap.size w wr) (fun i _ => s.args.length - (intOf i).toNat)
  case atStart => exact ⟨0, Nat.zero_le _, rfl, fun j hj => absurd hj (Nat.not_lt_zero _), HS.out, HT.out, HB.out⟩
  case round =>
    obtain ⟨k, hk, rfl, hq, h2, h3, hb⟩ := hrel
    have HQ := Lib.hid hq
    have HR2 := Lib.hid h2
    have HR3 := Lib.hid h3
    have HBR := Lib.hid hb
    clear hq
    obtain ⟨b0, b1, b2⟩ := h2
    obtain ⟨d0, d1, d2⟩ := h3
    by_cases hlt : k < s.args.length
    · obtain ⟨x, hx⟩ : ∃ x, s.args[k]? = some x := ⟨_, List.getElem?_eq_getElem hlt⟩
      have hlt2 : k < t.args.length := by omega
      obtain ⟨y, hy⟩ : ∃ y, t.args[k]? = some y := ⟨_, List.getElem?_eq_getElem hlt2⟩
      obtain ⟨b, off, rfl, vx, c0, c1, hvx⟩ := HVS.out.get hx
      obtain ⟨b', off', rfl, vy, e0, e1, hvy⟩ := HVT.out.get hy
      obtain ⟨p, c, rfl⟩ := hvx.is_slice
      obtain ⟨p', c', rfl⟩ := hvy.is_slice
      have c0' := carry_cell c0 hb
      have c1' := carry_cell c1 hb
      have e0' := carry_cell e0 hb
      have e1' := carry_cell e1 hb
      have HX := Lib.hid hx
      have HY := Lib.hid hy
      have CS := fun W (hW : Below wr.heap.size wr W) => l2Same_any x y W _ _ (hvx.kept (carry_below hb (Nat.le_refl _) hW)) (hvy.kept (carry_below hb (Nat.le_refl _) hW)) (HWS.out x (mem_of_at hx)) (HWT.out y (mem_of_at hy))
      obtain ⟨q, hq⟩ : ∃ q, q = eqT x y := ⟨_, rfl⟩
      rw [← hq] at CS
      have CS := Lib.hid CS
      have HQE := Lib.hid hq
      clear hb hx hy hvx hvy c0 c1 e0 e1 hq
      go_wp2_with fail
      have hB0 : Below wr.heap.size wr wr.drew := (Below.refl _ _).drew
      go_region_held3 (fun w' => w'.cell? ⟨w.heap.size, 1, none⟩ = some (.slice (some ⟨b, off, none⟩) s.args.length ca) ∧ w'.cell? ⟨w.heap.size + 1, 1, none⟩ = some (.slice (some ⟨b', off', none⟩) t.args.length cb) ∧ w'.cell? ⟨b, off + k * 2, none⟩ = some (.string x.name) ∧ w'.cell? ⟨b, off + k * 2 + 1, none⟩ = some (.slice p x.args.length c) ∧ w'.cell? ⟨b', off' + k * 2, none⟩ = some (.string y.name) ∧ w'.cell? ⟨b', off' + k * 2 + 1, none⟩ = some (.slice p' y.args.length c') ∧ Below wr.heap.size wr w') (first | exact ⟨by assumption, by assumption, by assumption, by assumption, by assumption, by assumption, by assumption⟩ | go_keep) (first | (go_at_call 115; refine (CS.out _ (by assumption)).mono ?_; rintro e w3 ⟨rfl, hb⟩; have qa0 : w3.cell? ⟨w.heap.size, 1, none⟩ = some (.slice (some ⟨b, off, none⟩) s.args.length ca) := carry_cell' hb (by assumption); have qa1 : w3.cell? ⟨w.heap.size + 1, 1, none⟩ = some (.slice (some ⟨b', off', none⟩) t.args.length cb) := carry_cell' hb (by assumption); have qa2 : w3.cell? ⟨b, off + k * 2, none⟩ = some (.string x.name) := carry_cell' hb (by assumption); have qa3 : w3.cell? ⟨b, off + k * 2 + 1, none⟩ = some (.slice p x.args.length c) := carry_cell' hb (by assumption); have qa4 : w3.cell? ⟨b', off' + k * 2, none⟩ = some (.string y.name) := carry_cell' hb (by assumption); have qa5 : w3.cell? ⟨b', off' + k * 2 + 1, none⟩ = some (.slice p' y.args.length c') := carry_cell' hb (by assumption); have hw3 : Below wr.heap.size wr w3 := carry_below (by assumption) (Nat.le_refl _) hb; clear hb))
      clear hB0 qa0 qa1 qa2 qa3 qa4 qa5
      have HB3 := Lib.hid (carry_below HBR.out (Nat.le_refl _) hw3)
      have HR4 := Lib.hid (HR2.out.kept hw3)
      have HR5 := Lib.hid (HR3.out.kept hw3)
      clear hw3
      cases q with
      | true =>
        have HN : Hid (∀ j, j < k + 1 → s.args[j]? = t.args[j]?) := Lib.hid (fun j hj => by
          by_cases e : j = k
          · have h := HQE.out.symm
            unfold eqT at h
            rw [e, HX.out, HY.out, of_decide_eq_true h]
          · exact HQ.out j (by omega))
        go_wp2
        go_roundw
        case rel => exact ⟨k + 1, by omega, by go_num, HN.out, HR4.out, HR5.out, HB3.out⟩
        case measure => simp [intOf]; omega
      | false =>
        have HE : Hid (fd s.args t.args = (k : Int)) := Lib.hid (fd_at hlt (by
          rw [HX.out, HY.out]
          intro h
          injection h with h
          have h2 := HQE.out.symm
          unfold eqT at h2
          exact of_decide_eq_false h2 h) HQ.out)
        go_wp2
        go_ret
        exact ⟨ret_int HE.out.symm, HB3.out⟩
    · have HE : Hid (fd s.args t.args = -1) := Lib.hid (fd_no (fun j hj => HQ.out j (by omega)))
      go_wp2
      go_ret
      exact ⟨ret_int HE.out.symm, HBR.out⟩

set_option maxHeartbeats 2000000 in
theorem l6Bal_any (s t : Tm) (w : World) (va vb : Value) (hs : TmS w va s.args) (ht : TmS w vb t.args) (hws : s.wt ≤ 1048576) (hwt : t.wt ≤ 1048576) (hzs : s.sz ≤ 30) (hzt : t.sz ≤ 30) :
    Calls Tryz.prog 141 #[.agg #[.string s.name, va], .agg #[.string t.name, vb]] w (Ans (.bool (bal s t)) w) := by
  obtain ⟨pa, ca, rfl⟩ := hs.is_slice
  obtain ⟨pb, cb, rfl⟩ := ht.is_slice
  have HVS := Lib.hid hs
  have HVT := Lib.hid ht
  obtain ⟨w1, hw1⟩ : ∃ w1, (w.alloc (.cells #[.string s.name, .slice pa s.args.length ca] 39)).alloc (.cells #[.string t.name, .slice pb t.args.length cb] 39) = w1 := ⟨_, rfl⟩
  have HB : Hid (Below w.heap.size w w1) := Lib.hid (by rw [← hw1]; exact ((Below.refl w.heap.size w).alloc (Nat.le_refl _) _).alloc (by simp) _)
  have HS : Hid (Two w1 w.heap.size (.string s.name) (.slice pa s.args.length ca)) := Lib.hid (by rw [← hw1]; exact (two_new w _ _ _ _ rfl).alloc _)
  have HT : Hid (Two w1 (w.heap.size + 1) (.string t.name) (.slice pb t.args.length cb)) := Lib.hid (by rw [← hw1]; exact two_new _ _ _ 39 (w.heap.size + 1) (by simp))
  have hin : (t.into []).length ≤ 30 := by have := t.into_len []; simp at this; omega
  clear hs ht
  obtain ⟨t0, t1, t2⟩ := HT.out
  go_enter Tryz.func141, Tryz.ntmps141
  go_wp2_with fail
  refine (vars_any t _ _ (HVT.out.kept HB.out) hwt (by omega)).mono ?_
  rintro e w2 ⟨v2, rfl, hl2, hb⟩
  have HB2 := Lib.hid (carry_below HB.out (Nat.le_refl _) hb)
  have HS2 := Lib.hid (HS.out.kept hb)
  have HT2 := Lib.hid (HT.out.kept hb)
  obtain ⟨na, nc, rfl, hng⟩ := (strs_of_lvK hl2).parts
  have HNG := Lib.hid hng
  clear hb hl2 hng hw1 t0 t1 t2 HB HS HT
  go_wp2
  go_loopw [6] (fun i wr => ∃ k : Nat, k ≤ (t.into []).length ∧ i = .int .i64 k ∧ (∀ j n, j < k → (t.into [])[j]? = some n → cnt n t.nds ≤ cnt n s.nds) ∧ Two wr w.heap.size (.string s.name) (.slice pa s.args.length ca) ∧ Two wr (w.heap.size + 1) (.string t.name) (.slice pb t.args.length cb) ∧ Below w2.heap.size w2 wr) (fun i _ => (t.into []).length - (intOf i).toNat)
  case atStart => exact ⟨0, Nat.zero_le _, rfl, fun j n hj => absurd hj (Nat.not_lt_zero _), HS2.out, HT2.out, Below.refl _ _⟩
  case round =>
    obtain ⟨k, hk, rfl, hq, h2, h3, hb⟩ := hrel
    have HQ := Lib.hid hq
    have HR2 := Lib.hid h2
    have HR3 := Lib.hid h3
    have HBR := Lib.hid hb
    have HBW := Lib.hid (carry_below HB2.out (Nat.le_refl _) hb)
    clear hq
    obtain ⟨b0, b1, b2⟩ := h2
    obtain ⟨d0, d1, d2⟩ := h3
    by_cases hlt : k < (t.into []).length
    · obtain ⟨n, hn⟩ : ∃ n, (t.into [])[k]? = some n := ⟨_, List.getElem?_eq_getElem hlt⟩
      obtain ⟨nb, no, rfl, hc⟩ := (HNG.out.below hb) k n hn
      have HN := Lib.hid hn
      have CS := fun W (hW : Below wr.heap.size wr W) => l2Count_any n s W _ (HVS.out.kept (carry_below HBW.out (Nat.le_refl _) hW)) hws
      have CT := fun W (hW : Below wr.heap.size wr W) => l2Count_any n t W _ (HVT.out.kept (carry_below HBW.out (Nat.le_refl _) hW)) hwt
      have HX : Hid (bal s t = false ∨ cnt n t.nds ≤ cnt n s.nds) := Lib.hid (by
        by_cases h : cnt n t.nds ≤ cnt n s.nds
        · exact .inr h
        · exact .inl (bal_no hn (by omega)))
      have HY : Hid (cnt n s.nds < cnt n t.nds → bal s t = false) := Lib.hid (bal_no hn)
      obtain ⟨x, hx⟩ : ∃ x, cnt n s.nds = x := ⟨_, rfl⟩
      obtain ⟨y, hy⟩ : ∃ y, cnt n t.nds = y := ⟨_, rfl⟩
      rw [hx] at CS HY
      rw [hy] at CT HY
      have HXE := Lib.hid hx
      have HYE := Lib.hid hy
      have CS := Lib.hid CS
      have CT := Lib.hid CT
      clear hb hn HX hx hy
      go_wp2_with fail
      have hB0 : Below wr.heap.size wr wr.drew := (Below.refl _ _).drew
      go_region_held3 (fun w' => w'.cell? ⟨w.heap.size, 0, none⟩ = some (.string s.name) ∧ w'.cell? ⟨w.heap.size, 1, none⟩ = some (.slice pa s.args.length ca) ∧ w'.cell? ⟨w.heap.size + 1, 0, none⟩ = some (.string t.name) ∧ w'.cell? ⟨w.heap.size + 1, 1, none⟩ = some (.slice pb t.args.length cb) ∧ w'.cell? ⟨nb, no + k, none⟩ = some (.string n) ∧ Below wr.heap.size wr w') (first | exact ⟨by assumption, by assumption, by assumption, by assumption, by assumption, by assumption⟩ | go_keep) (first | (go_at_call_of 180 (Value.agg #[Value.string s.name, Value.slice pa s.args.length ca]); refine (CS.out _ (by assumption)).mono ?_; rintro e w3 ⟨rfl, hb⟩; have qa0 : w3.cell? ⟨w.heap.size, 0, none⟩ = some (.string s.name) := carry_cell' hb (by assumption); have qa1 : w3.cell? ⟨w.heap.size, 1, none⟩ = some (.slice pa s.args.length ca) := carry_cell' hb (by assumption); have qa2 : w3.cell? ⟨w.heap.size + 1, 0, none⟩ = some (.string t.name) := carry_cell' hb (by assumption); have qa3 : w3.cell? ⟨w.heap.size + 1, 1, none⟩ = some (.slice pb t.args.length cb) := carry_cell' hb (by assumption); have qa4 : w3.cell? ⟨nb, no + k, none⟩ = some (.string n) := carry_cell' hb (by assumption); have hw3 : Below wr.heap.size wr w3 := carry_below (by assumption) (Nat.le_refl _) hb; clear hb) | (go_at_call_of 180 (Value.agg #[Value.string t.name, Value.slice pb t.args.length cb]); refine (CT.out _ (by assumption)).mono ?_; rintro e w4 ⟨rfl, hb⟩; have qb0 : w4.cell? ⟨w.heap.size, 0, none⟩ = some (.string s.name) := carry_cell' hb (by assumption); have qb1 : w4.cell? ⟨w.heap.size, 1, none⟩ = some (.slice pa s.args.length ca) := carry_cell' hb (by assumption); have qb2 : w4.cell? ⟨w.heap.size + 1, 0, none⟩ = some (.string t.name) := carry_cell' hb (by assumption); have qb3 : w4.cell? ⟨w.heap.size + 1, 1, none⟩ = some (.slice pb t.args.length cb) := carry_cell' hb (by assumption); have qb4 : w4.cell? ⟨nb, no + k, none⟩ = some (.string n) := carry_cell' hb (by assumption); have hw4 : Below wr.heap.size wr w4 := carry_below (by assumption) (Nat.le_refl _) hb; clear hb))
      clear hB0 qa0 qa1 qa2 qa3 qa4 hw3 qb0 qb1 qb2 qb3 qb4
      have HB3 := Lib.hid (carry_below HBR.out (Nat.le_refl _) hw4)
      have HBW3 := Lib.hid (carry_below HBW.out (Nat.le_refl _) hw4)
      have HR4 := Lib.hid (HR2.out.kept hw4)
      have HR5 := Lib.hid (HR3.out.kept hw4)
      clear hw4
      by_cases hxy : x < y
      · have HE : Hid (bal s t = false) := Lib.hid (HY.out hxy)
        go_wp2
        go_ret
        exact ⟨ret_bool HE.out.symm, HBW3.out⟩
      · have HN2 : Hid (∀ j m, j < k + 1 → (t.into [])[j]? = some m → cnt m t.nds ≤ cnt m s.nds) := Lib.hid (fun j m hj hm => by
          by_cases e : j = k
          · rw [e, HN.out] at hm; injection hm with hm; rw [← hm, HXE.out, HYE.out]; omega
          · exact HQ.out j m (by omega) hm)
        go_wp2
        go_roundw
        case rel => exact ⟨k + 1, by omega, by go_num, HN2.out, HR4.out, HR5.out, HB3.out⟩
        case measure => simp [intOf]; omega
    · have HE : Hid (bal s t = true) := Lib.hid (bal_yes (fun j n hj => HQ.out j n (by have := (List.getElem?_eq_some_iff.1 hj).1; omega) hj))
      go_wp2
      go_ret
      exact ⟨ret_bool HE.out.symm, HBW.out⟩

end Go.Proofs.YtohalpafmcobpaaGreat

/- The Knuth-Bendix ordering, the model's: contracts, for orderings and terms of at most 1048576 names' bytes and elements. -/
namespace Go.Proofs.YtohalpafmcobpaaGreat
open Go.RowKit
set_option linter.unusedVariables false

/-- What is asked of a term here. -/
structure Od.Ok (o : Od) (t : Tm) : Prop where
  wt : t.wt ≤ 1048576
  sz : t.sz ≤ 30
  cov : o.cov t = true
theorem Od.Ok.arg {o : Od} {t x : Tm} (h : o.Ok t) (hx : x ∈ t.args) : o.Ok x :=
  ⟨Nat.le_trans (Tm.wt_arg hx) h.wt, by have := sumL_mem (f := Tm.sz) hx; have := t.sz_eq; have := h.sz; omega, Od.cov_arg h.cov hx⟩

def KboS (o : Od) (s : Tm) : Prop := ∀ (t : Tm) (w : World) (sv wv va vb : Value) (hv : OdV w sv wv o) (hs : TmS w va s.args) (ht : TmS w vb t.args), o.Ok s → o.Ok t →
  Calls Tryz.prog 116 #[.agg #[sv, wv, .int .i64 o.va], .agg #[.string s.name, va], .agg #[.string t.name, vb]] w (Ans (.bool (kbo o s t)) w)

set_option maxHeartbeats 4000000 in
theorem kboS_of (o : Od) (ho : o.wt ≤ 1048576) (hf : o.Fine) (s : Tm) (h : ∀ x ∈ s.args, KboS o x) : KboS o s := by
  intro t w sv wv va vb hv hs ht hos hot
  have H := Lib.hid h
  have HOS := Lib.hid hos
  have HOT := Lib.hid hot
  obtain ⟨sa, sc, wa, wc, rfl, rfl⟩ := hv.open
  obtain ⟨pa, ca, rfl⟩ := hs.is_slice
  obtain ⟨pb, cb, rfl⟩ := ht.is_slice
  obtain ⟨w1, hw1⟩ : ∃ w1, ((w.alloc (.cells #[.slice sa o.sy.length sc, .slice wa o.ws.length wc, .int .i64 o.va] 35)).alloc (.cells #[.string s.name, .slice pa s.args.length ca] 39)).alloc (.cells #[.string t.name, .slice pb t.args.length cb] 39) = w1 := ⟨_, rfl⟩
  have HB : Hid (Below w.heap.size w w1) := Lib.hid (by rw [← hw1]; exact (((Below.refl w.heap.size w).alloc (Nat.le_refl _) _).alloc (by simp) _).alloc (by simp; omega) _)
  have H3 : Hid (OdB w1 w.heap.size (.slice sa o.sy.length sc) (.slice wa o.ws.length wc) o) := Lib.hid (by rw [← hw1]; exact ((thr_new w _ _ _ _ _ rfl).alloc _).alloc _)
  have HS : Hid (Two w1 (w.heap.size + 1) (.string s.name) (.slice pa s.args.length ca)) := Lib.hid (by rw [← hw1]; exact (two_new _ _ _ 39 (w.heap.size + 1) (by simp)).alloc _)
  have HT : Hid (Two w1 (w.heap.size + 1 + 1) (.string t.name) (.slice pb t.args.length cb)) := Lib.hid (by rw [← hw1]; exact two_new _ _ _ 39 (w.heap.size + 1 + 1) (by simp))
  have HV := Lib.hid hv
  have HVS := Lib.hid hs
  have HVT := Lib.hid ht
  have hls : s.args.length ≤ 1048576 := Nat.le_trans (Tm.wt_len s) hos.wt
  have CBAL := Lib.hid (fun W (hW : Below w.heap.size w W) => l6Bal_any s t W _ _ (hs.kept hW) (ht.kept hW) hos.wt hot.wt hos.sz hot.sz)
  have CWS := Lib.hid (fun W (hW : Below w.heap.size w W) => l6Weight_any o ho hf s W _ _ _ (hv.kept hW) (hs.kept hW) hos.wt hos.sz hos.cov)
  have CWT := Lib.hid (fun W (hW : Below w.heap.size w W) => l6Weight_any o ho hf t W _ _ _ (hv.kept hW) (ht.kept hW) hot.wt hot.sz hot.cov)
  have CVS := Lib.hid (fun W => l2Var_any s.name W (by have := Tm.wt_name s; have := hos.wt; unfold maxLen; omega))
  have CVT := Lib.hid (fun W => l2Var_any t.name W (by have := Tm.wt_name t; have := hot.wt; unfold maxLen; omega))
  have CRT := Lib.hid (fun W (hW : Below w.heap.size w W) => l6Root_any o ho s t W _ _ _ _ (hv.kept hW) (hs.kept hW) (ht.kept hW) hos.wt hot.wt)
  have CFD := Lib.hid (fun (hll : s.args.length ≤ t.args.length) W (hW : Below w.heap.size w W) => l6First_any s t W _ _ (hs.kept hW) (ht.kept hW) hos.wt hot.wt hll)
  clear h hv hs ht hos hot
  obtain ⟨b0, b1, b2, b3⟩ := H3.out
  obtain ⟨s0, s1, s2⟩ := HS.out
  obtain ⟨t0, t1, t2⟩ := HT.out
  go_enter Tryz.func116, Tryz.ntmps116
  go_wp2_with fail
  refine (CBAL.out _ HB.out).mono ?_
  rintro e w2 ⟨rfl, hb⟩
  replace HB := Lib.hid (carry_below HB.out (Nat.le_refl _) hb)
  replace H3 := Lib.hid (H3.out.kept hb)
  replace HS := Lib.hid (HS.out.kept hb)
  replace HT := Lib.hid (HT.out.kept hb)
  clear hb b0 b1 b2 b3 s0 s1 s2 t0 t1 t2 hw1 CBAL
  obtain ⟨b0, b1, b2, b3⟩ := H3.out
  obtain ⟨s0, s1, s2⟩ := HS.out
  obtain ⟨t0, t1, t2⟩ := HT.out
  cases hbal : bal s t with
  | false =>
    have HE : Hid (kbo o s t = false) := Lib.hid (kbo_bal hbal)
    clear hbal
    go_wp2
    go_ret
    exact ⟨ret_bool HE.out.symm, HB.out⟩
  | true =>
    have HBAL := Lib.hid hbal
    clear hbal
    obtain ⟨x, hx⟩ : ∃ x, o.wT s = x := ⟨_, rfl⟩
    obtain ⟨y, hy⟩ : ∃ y, o.wT t = y := ⟨_, rfl⟩
    have HXE := Lib.hid hx
    have HYE := Lib.hid hy
    rw [hx] at CWS
    rw [hy] at CWT
    have CW1 := Lib.hid (fun W (hW : Below w2.heap.size w2 W) => CWS.out W (carry_below HB.out (Nat.le_refl _) hW))
    have CW2 := Lib.hid (fun W (hW : Below w2.heap.size w2 W) => CWT.out W (carry_below HB.out (Nat.le_refl _) hW))
    clear hx hy CWS CWT
    go_wp2_with fail
    have hB0 : Below w2.heap.size w2 w2.drew := (Below.refl _ _).drew
    go_region_held3 (fun w' => w'.cell? ⟨w.heap.size, 0, none⟩ = some (.slice sa o.sy.length sc) ∧ w'.cell? ⟨w.heap.size, 1, none⟩ = some (.slice wa o.ws.length wc) ∧ w'.cell? ⟨w.heap.size, 2, none⟩ = some (.int .i64 o.va) ∧ w'.cell? ⟨w.heap.size + 1, 0, none⟩ = some (.string s.name) ∧ w'.cell? ⟨w.heap.size + 1, 1, none⟩ = some (.slice pa s.args.length ca) ∧ w'.cell? ⟨w.heap.size + 1 + 1, 0, none⟩ = some (.string t.name) ∧ w'.cell? ⟨w.heap.size + 1 + 1, 1, none⟩ = some (.slice pb t.args.length cb) ∧ Below w2.heap.size w2 w') (first | exact ⟨by assumption, by assumption, by assumption, by assumption, by assumption, by assumption, by assumption, by assumption⟩ | go_keep) (first | (go_at_call_of 142 (Value.agg #[Value.string s.name, Value.slice pa s.args.length ca]); refine (CW1.out _ (by assumption)).mono ?_; rintro e w3 ⟨rfl, hb⟩; have qa0 : w3.cell? ⟨w.heap.size, 0, none⟩ = some (.slice sa o.sy.length sc) := carry_cell' hb (by assumption); have qa1 : w3.cell? ⟨w.heap.size, 1, none⟩ = some (.slice wa o.ws.length wc) := carry_cell' hb (by assumption); have qa2 : w3.cell? ⟨w.heap.size, 2, none⟩ = some (.int .i64 o.va) := carry_cell' hb (by assumption); have qa3 : w3.cell? ⟨w.heap.size + 1, 0, none⟩ = some (.string s.name) := carry_cell' hb (by assumption); have qa4 : w3.cell? ⟨w.heap.size + 1, 1, none⟩ = some (.slice pa s.args.length ca) := carry_cell' hb (by assumption); have qa5 : w3.cell? ⟨w.heap.size + 1 + 1, 0, none⟩ = some (.string t.name) := carry_cell' hb (by assumption); have qa6 : w3.cell? ⟨w.heap.size + 1 + 1, 1, none⟩ = some (.slice pb t.args.length cb) := carry_cell' hb (by assumption); have hw3 : Below w2.heap.size w2 w3 := carry_below (by assumption) (Nat.le_refl _) hb; clear hb) | (go_at_call_of 142 (Value.agg #[Value.string t.name, Value.slice pb t.args.length cb]); refine (CW2.out _ (by assumption)).mono ?_; rintro e w4 ⟨rfl, hb⟩; have qb0 : w4.cell? ⟨w.heap.size, 0, none⟩ = some (.slice sa o.sy.length sc) := carry_cell' hb (by assumption); have qb1 : w4.cell? ⟨w.heap.size, 1, none⟩ = some (.slice wa o.ws.length wc) := carry_cell' hb (by assumption); have qb2 : w4.cell? ⟨w.heap.size, 2, none⟩ = some (.int .i64 o.va) := carry_cell' hb (by assumption); have qb3 : w4.cell? ⟨w.heap.size + 1, 0, none⟩ = some (.string s.name) := carry_cell' hb (by assumption); have qb4 : w4.cell? ⟨w.heap.size + 1, 1, none⟩ = some (.slice pa s.args.length ca) := carry_cell' hb (by assumption); have qb5 : w4.cell? ⟨w.heap.size + 1 + 1, 0, none⟩ = some (.string t.name) := carry_cell' hb (by assumption); have qb6 : w4.cell? ⟨w.heap.size + 1 + 1, 1, none⟩ = some (.slice pb t.args.length cb) := carry_cell' hb (by assumption); have hw4 : Below w2.heap.size w2 w4 := carry_below (by assumption) (Nat.le_refl _) hb; clear hb))
    clear hB0 qa0 qa1 qa2 qa3 qa4 qa5 qa6 hw3 qb0 qb1 qb2 qb3 qb4 qb5 qb6
    have hb := hw4
    clear hw4 CW1 CW2
    replace HB := Lib.hid (carry_below HB.out (Nat.le_refl _) hb)
    replace H3 := Lib.hid (H3.out.kept hb)
    replace HS := Lib.hid (HS.out.kept hb)
    replace HT := Lib.hid (HT.out.kept hb)
    clear hb b0 b1 b2 b3 s0 s1 s2 t0 t1 t2
    obtain ⟨b0, b1, b2, b3⟩ := H3.out
    obtain ⟨s0, s1, s2⟩ := HS.out
    obtain ⟨t0, t1, t2⟩ := HT.out
    by_cases hxy : x = y
    · have e1 : (x != y) = false := int_eq hxy
      have HWE : Hid (o.wT s = o.wT t) := Lib.hid (by rw [HXE.out, HYE.out, hxy])
      clear hxy
      cases hvs : varB s.name with
      | true =>
        rw [hvs] at CVS
        have HE : Hid (kbo o s t = false) := Lib.hid (kbo_var HBAL.out HWE.out (.inl hvs))
        clear hvs
        go_wp2_with fail
        refine (CVS.out _).mono ?_
        rintro e w5 ⟨rfl, rfl⟩
        go_wp2
        go_ret
        exact ⟨ret_bool HE.out.symm, HB.out⟩
      | false =>
        rw [hvs] at CVS
        have HVSN := Lib.hid hvs
        clear hvs
        go_wp2_with fail
        refine (CVS.out _).mono ?_
        rintro e w5 ⟨rfl, rfl⟩
        cases hvt : varB t.name with
        | true =>
          rw [hvt] at CVT
          have HE : Hid (kbo o s t = false) := Lib.hid (kbo_var HBAL.out HWE.out (.inr hvt))
          clear hvt
          go_wp2_with fail
          refine (CVT.out _).mono ?_
          rintro e w6 ⟨rfl, rfl⟩
          go_wp2
          go_ret
          exact ⟨ret_bool HE.out.symm, HB.out⟩
        | false =>
          rw [hvt] at CVT
          have HVTN := Lib.hid hvt
          clear hvt
          go_wp2_with fail
          refine (CVT.out _).mono ?_
          rintro e w6 ⟨rfl, rfl⟩
          obtain ⟨r, hr⟩ : ∃ r, o.root s t = r := ⟨_, rfl⟩
          have HRE := Lib.hid hr
          rw [hr] at CRT
          clear hr CVS CVT e1
          go_wp2_with fail
          refine (CRT.out _ HB.out).mono ?_
          rintro e w7 ⟨rfl, hb⟩
          replace HB := Lib.hid (carry_below HB.out (Nat.le_refl _) hb)
          replace H3 := Lib.hid (H3.out.kept hb)
          replace HS := Lib.hid (HS.out.kept hb)
          replace HT := Lib.hid (HT.out.kept hb)
          clear hb b0 b1 b2 b3 s0 s1 s2 t0 t1 t2 CRT
          obtain ⟨b0, b1, b2, b3⟩ := H3.out
          obtain ⟨s0, s1, s2⟩ := HS.out
          obtain ⟨t0, t1, t2⟩ := HT.out
          by_cases hr0 : r = 0
          · have e2 : (r != 0) = false := int_eq hr0
            have HR0 : Hid (o.root s t = 0) := Lib.hid (by rw [HRE.out, hr0])
            have hll : s.args.length = t.args.length := Od.root_len HR0.out
            have HLL := Lib.hid hll
            have HKE := Lib.hid (kbo_args HBAL.out HWE.out HVSN.out HVTN.out HR0.out)
            have CF2 := Lib.hid (CFD.out (by omega))
            clear hr0 CFD hll
            rcases fd_ways s.args t.args with ⟨f1, f2⟩ | ⟨k, f1, f2, f3, f4⟩
            · rw [f1] at CF2
              have HE : Hid (kbo o s t = false) := Lib.hid (by rw [HKE.out]; exact kboL_no o _ _ f2)
              clear f1 f2
              go_wp2_with fail
              refine (CF2.out _ HB.out).mono ?_
              rintro e w8 ⟨rfl, hb⟩
              have HB8 := Lib.hid (carry_below HB.out (Nat.le_refl _) hb)
              clear hb b0 b1 b2 b3 s0 s1 s2 t0 t1 t2 HB H3 HS HT
              go_wp2
              go_quiet (fail)
              have HB9 : Hid (Below w.heap.size w (w8.drewN nq)) := Lib.hid (⟨HB8.out.os, HB8.out.tape, HB8.out.output, HB8.out.size, HB8.out.block⟩)
              go_wp2
              go_ret
              exact ⟨ret_bool HE.out.symm, HB9.out⟩
            · rw [f1] at CF2
              obtain ⟨x, hx⟩ : ∃ x, s.args[k]? = some x := ⟨_, List.getElem?_eq_getElem f2⟩
              have hkt : k < t.args.length := by have := HLL.out; omega
              obtain ⟨y, hy⟩ : ∃ y, t.args[k]? = some y := ⟨_, List.getElem?_eq_getElem hkt⟩
              have HE : Hid (kbo o s t = kbo o x y) := Lib.hid (by
                rw [HKE.out]
                exact kboL_at o _ _ k x y hx hy (fun e => f3 (by rw [hx, hy, e])) f4)
              have HX := Lib.hid hx
              have HY := Lib.hid hy
              clear f1 f3 f4 hx hy HKE
              go_wp2_with fail
              refine (CF2.out _ HB.out).mono ?_
              rintro e w8 ⟨rfl, hb⟩
              replace HB := Lib.hid (carry_below HB.out (Nat.le_refl _) hb)
              replace H3 := Lib.hid (H3.out.kept hb)
              replace HS := Lib.hid (HS.out.kept hb)
              replace HT := Lib.hid (HT.out.kept hb)
              clear hb b0 b1 b2 b3 s0 s1 s2 t0 t1 t2 CF2 e2
              obtain ⟨b0, b1, b2, b3⟩ := H3.out
              obtain ⟨s0, s1, s2⟩ := HS.out
              obtain ⟨t0, t1, t2⟩ := HT.out
              obtain ⟨b, off, rfl, vx, c0, c1, hvx⟩ := HVS.out.get HX.out
              obtain ⟨b', off', rfl, vy, d0, d1, hvy⟩ := HVT.out.get HY.out
              obtain ⟨p, c, rfl⟩ := hvx.is_slice
              obtain ⟨p', c', rfl⟩ := hvy.is_slice
              have c0' := carry_cell c0 HB.out
              have c1' := carry_cell c1 HB.out
              have d0' := carry_cell d0 HB.out
              have d1' := carry_cell d1 HB.out
              have CK := Lib.hid (fun W (hW : Below w8.heap.size w8 W) => H.out x (mem_of_at HX.out) y W _ _ _ _ (HV.out.kept (carry_below HB.out (Nat.le_refl _) hW)) (hvx.kept (carry_below HB.out (Nat.le_refl _) hW)) (hvy.kept (carry_below HB.out (Nat.le_refl _) hW)) (HOS.out.arg (mem_of_at HX.out)) (HOT.out.arg (mem_of_at HY.out)))
              have hk0 : decide ((0 : Int) ≤ (k : Int)) = true := by simp
              clear c0 c1 d0 d1 hvx hvy
              go_wp2_with fail
              have hB0 : Below w8.heap.size w8 w8.drew := (Below.refl _ _).drew
              go_region_held3 (fun w' => w'.cell? ⟨w.heap.size, 0, none⟩ = some (.slice sa o.sy.length sc) ∧ w'.cell? ⟨w.heap.size, 1, none⟩ = some (.slice wa o.ws.length wc) ∧ w'.cell? ⟨w.heap.size, 2, none⟩ = some (.int .i64 o.va) ∧ w'.cell? ⟨w.heap.size + 1, 1, none⟩ = some (.slice (some ⟨b, off, none⟩) s.args.length ca) ∧ w'.cell? ⟨w.heap.size + 1 + 1, 1, none⟩ = some (.slice (some ⟨b', off', none⟩) t.args.length cb) ∧ w'.cell? ⟨b, off + k * 2, none⟩ = some (.string x.name) ∧ w'.cell? ⟨b, off + k * 2 + 1, none⟩ = some (.slice p x.args.length c) ∧ w'.cell? ⟨b', off' + k * 2, none⟩ = some (.string y.name) ∧ w'.cell? ⟨b', off' + k * 2 + 1, none⟩ = some (.slice p' y.args.length c') ∧ Below w8.heap.size w8 w') (first | exact ⟨by assumption, by assumption, by assumption, by assumption, by assumption, by assumption, by assumption, by assumption, by assumption, by assumption⟩ | go_keep) (first | (go_at_call 116; refine (CK.out _ (by assumption)).mono ?_; rintro e w9 ⟨rfl, hb⟩; have qa0 : w9.cell? ⟨w.heap.size, 0, none⟩ = some (.slice sa o.sy.length sc) := carry_cell' hb (by assumption); have qa1 : w9.cell? ⟨w.heap.size, 1, none⟩ = some (.slice wa o.ws.length wc) := carry_cell' hb (by assumption); have qa2 : w9.cell? ⟨w.heap.size, 2, none⟩ = some (.int .i64 o.va) := carry_cell' hb (by assumption); have qa3 : w9.cell? ⟨w.heap.size + 1, 1, none⟩ = some (.slice (some ⟨b, off, none⟩) s.args.length ca) := carry_cell' hb (by assumption); have qa4 : w9.cell? ⟨w.heap.size + 1 + 1, 1, none⟩ = some (.slice (some ⟨b', off', none⟩) t.args.length cb) := carry_cell' hb (by assumption); have qa5 : w9.cell? ⟨b, off + k * 2, none⟩ = some (.string x.name) := carry_cell' hb (by assumption); have qa6 : w9.cell? ⟨b, off + k * 2 + 1, none⟩ = some (.slice p x.args.length c) := carry_cell' hb (by assumption); have qa7 : w9.cell? ⟨b', off' + k * 2, none⟩ = some (.string y.name) := carry_cell' hb (by assumption); have qa8 : w9.cell? ⟨b', off' + k * 2 + 1, none⟩ = some (.slice p' y.args.length c') := carry_cell' hb (by assumption); have hw9 : Below w8.heap.size w8 w9 := carry_below (by assumption) (Nat.le_refl _) hb; clear hb))
              clear hB0 qa0 qa1 qa2 qa3 qa4 qa5 qa6 qa7 qa8
              have HB9 := Lib.hid (carry_below HB.out (Nat.le_refl _) hw9)
              clear hw9
              go_wp2
              go_ret
              exact ⟨ret_bool HE.out.symm, HB9.out⟩
          · have e2 : (r != 0) = true := int_ne hr0
            have HE : Hid (kbo o s t = decide (0 < r)) := Lib.hid (by rw [kbo_root HBAL.out HWE.out HVSN.out HVTN.out (by rw [HRE.out]; exact hr0), HRE.out])
            clear hr0
            go_wp2
            go_ret
            exact ⟨ret_bool HE.out.symm, HB.out⟩
    · have e1 : (x != y) = true := int_ne hxy
      have HE : Hid (kbo o s t = decide (y < x)) := Lib.hid (by rw [kbo_wt HBAL.out (by rw [HXE.out, HYE.out]; exact hxy), HXE.out, HYE.out])
      clear hxy
      go_wp2
      go_ret
      exact ⟨ret_bool HE.out.symm, HB.out⟩

theorem l6KBO_any (o : Od) (ho : o.wt ≤ 1048576) (hf : o.Fine) (s : Tm) : KboS o s := Tm.ind (P := KboS o) (kboS_of o ho hf) s

end Go.Proofs.YtohalpafmcobpaaGreat

/- The Knuth-Bendix ordering, the program's: contracts, for orderings and terms of at most 1048576 names' bytes and elements. -/
namespace Go.Proofs.YtohalpafmcobpaaGreat
open Go.RowKit
set_option linter.unusedVariables false

/-- What is asked of a term here. -/
structure OkQ (t : Tm) : Prop where
  wt : t.wt ≤ 1048576
  sz : t.sz ≤ 30
structure Od.OkP (o : Od) (t : Tm) : Prop where
  ok : OkQ t
  nodes : t.nodesB = true ∨ t.args = []
theorem nodesB_argP {t x : Tm} (h : t.nodesB = true) (hx : x ∈ t.args) : x.nodesB = true := by
  cases hv : varB t.name with
  | true => rw [Tm.nodesB_var hv, List.isEmpty_iff] at h; rw [h] at hx; cases hx
  | false =>
    rw [Tm.nodesB_sym hv, Bool.and_eq_true, Bool.and_eq_true, List.all_eq_true] at h
    exact h.2.2 x hx
theorem Od.OkP.arg {o : Od} {t x : Tm} (h : o.OkP t) (hx : x ∈ t.args) : o.OkP x :=
  ⟨⟨Nat.le_trans (Tm.wt_arg hx) h.ok.wt, by have := sumL_mem (f := Tm.sz) hx; have := t.sz_eq; have := h.ok.sz; omega⟩, by
    rcases h.nodes with h1 | h1
    · exact .inl (nodesB_argP h1 hx)
    · rw [h1] at hx; cases hx⟩
theorem Od.OkP.plain {o : Od} {t : Tm} (h : o.OkP t) : t.plain := by
  rcases h.nodes with h1 | h1
  · exact nodes_leaf t h1
  · intro s hs hv
    rw [t.nds_eq, h1] at hs
    rcases List.mem_cons.1 hs with rfl | hs
    · exact h1
    · cases hs
theorem wt_ndsP : ∀ t : Tm, ∀ s ∈ t.nds, s.wt ≤ t.wt := Tm.ind fun t ih => by
  intro s hs
  rw [t.nds_eq] at hs
  rcases List.mem_cons.1 hs with rfl | hs
  · exact Nat.le_refl _
  · obtain ⟨x, hx, hsx⟩ := ndsL_mem hs
    exact Nat.le_trans (ih x hx s hsx) (Tm.wt_arg hx)
theorem Od.OkP.vsw {o : Od} {t : Tm} (h : o.OkP t) : ∀ s ∈ t.vs, s.wt ≤ 1048576 := fun s hs => by
  obtain ⟨h1, h2⟩ := List.mem_filter.1 hs
  exact Nat.le_trans (wt_ndsP t s h1) h.ok.wt

/-- A list of a term's variables. -/
def VsEnd (t : Tm) (w : World) (e : Ending) (w' : World) : Prop := ∃ v, e = .returned v ∧ TmS w' v t.vs ∧ Below w.heap.size w w'
theorem vs_any (t : Tm) (w : World) (va : Value) (hv : TmS w va t.args) (hw : t.wt ≤ 1048576) (hp : t.plain) :
    Calls Tryz.prog 95 #[.agg #[.string t.name, va]] w (VsEnd t w) := (varsIn_any t w va hv hw hp).mono fun e w' h => by
  obtain ⟨v, L, h1, h2, h3, h4⟩ := h
  exact ⟨v, h1, by rw [← h3]; exact h2.read h4, h4⟩

def KboP (o : Od) (s : Tm) : Prop := ∀ (t : Tm) (w : World) (sv wv va vb : Value) (hv : OdV w sv wv o) (hs : TmS w va s.args) (ht : TmS w vb t.args), o.OkP s → o.OkP t →
  Calls Tryz.prog 159 #[.agg #[sv, wv, .int .i64 o.va], .agg #[.string s.name, va], .agg #[.string t.name, vb]] w (Ans (.bool (kbo o s t)) w)

set_option maxRecDepth 100000 in
set_option maxHeartbeats 8000000 in
theorem kboP_of (o : Od) (ho : o.wt ≤ 1048576) (hf : o.Fine) (s : Tm) (h : ∀ x ∈ s.args, KboP o x) : KboP o s := by
  intro t w sv wv va vb hv hs ht hos hot
  have H := Lib.hid h
  have HOS := Lib.hid hos
  have HOT := Lib.hid hot
  obtain ⟨sa, sc, wa, wc, rfl, rfl⟩ := hv.open
  obtain ⟨pa, ca, rfl⟩ := hs.is_slice
  obtain ⟨pb, cb, rfl⟩ := ht.is_slice
  obtain ⟨w1, hw1⟩ : ∃ w1, ((w.alloc (.cells #[.slice sa o.sy.length sc, .slice wa o.ws.length wc, .int .i64 o.va] 35)).alloc (.cells #[.string s.name, .slice pa s.args.length ca] 39)).alloc (.cells #[.string t.name, .slice pb t.args.length cb] 39) = w1 := ⟨_, rfl⟩
  have HB : Hid (Below w.heap.size w w1) := Lib.hid (by rw [← hw1]; exact (((Below.refl w.heap.size w).alloc (Nat.le_refl _) _).alloc (by simp) _).alloc (by simp; omega) _)
  have H3 : Hid (OdB w1 w.heap.size (.slice sa o.sy.length sc) (.slice wa o.ws.length wc) o) := Lib.hid (by rw [← hw1]; exact ((thr_new w _ _ _ _ _ rfl).alloc _).alloc _)
  have HS : Hid (Two w1 (w.heap.size + 1) (.string s.name) (.slice pa s.args.length ca)) := Lib.hid (by rw [← hw1]; exact (two_new _ _ _ 39 (w.heap.size + 1) (by simp)).alloc _)
  have HT : Hid (Two w1 (w.heap.size + 1 + 1) (.string t.name) (.slice pb t.args.length cb)) := Lib.hid (by rw [← hw1]; exact two_new _ _ _ 39 (w.heap.size + 1 + 1) (by simp))
  have HV := Lib.hid hv
  have HVS := Lib.hid hs
  have HVT := Lib.hid ht
  have hls : s.args.length ≤ 1048576 := Nat.le_trans (Tm.wt_len s) hos.ok.wt
  have CVA := Lib.hid (fun W (hW : Below w1.heap.size w1 W) => vs_any s W _ (hs.kept (carry_below HB.out (Nat.le_refl _) hW)) hos.ok.wt hos.plain)
  have CVB := Lib.hid (fun W (hW : Below w1.heap.size w1 W) => vs_any t W _ (ht.kept (carry_below HB.out (Nat.le_refl _) hW)) hot.ok.wt hot.plain)
  have hsl : s.vs.length ≤ 1048576 := Nat.le_trans (vs_len s) (by have := hos.ok.sz; omega)
  have htl : t.vs.length ≤ 1048576 := Nat.le_trans (vs_len t) (by have := hot.ok.sz; omega)
  have CWC0 := Lib.hid (fun W (vT vS : Value) (h1 : TmS W vT t.vs) (h2 : TmS W vS s.vs) => wcom_any t.vs s.vs W vT vS h1 h2 htl hsl hot.vsw hos.vsw)
  have CWS := Lib.hid (fun W (hW : Below w.heap.size w W) => weightOf_any o s W _ _ _ (hv.kept hW) (hs.kept hW) ho hf hos.ok.wt hos.ok.sz)
  have CWT := Lib.hid (fun W (hW : Below w.heap.size w W) => weightOf_any o t W _ _ _ (hv.kept hW) (ht.kept hW) ho hf hot.ok.wt hot.ok.sz)
  have CVS := Lib.hid (fun W => isVar_all s.name W)
  have CVT := Lib.hid (fun W => isVar_all t.name W)
  have CRT := Lib.hid (fun W (hW : Below w.heap.size w W) => compRoots_any o ho s t W _ _ _ _ (hv.kept hW) (hs.kept hW) (ht.kept hW) hos.ok.wt hot.ok.wt)
  have CFD := Lib.hid (fun (hll : s.args.length ≤ t.args.length) W (hW : Below w.heap.size w W) => fdI_any s.args t.args W _ _ (hs.kept hW) (ht.kept hW) hls hll (fun x hx => Nat.le_trans (Tm.wt_arg hx) hos.ok.wt) (fun x hx => Nat.le_trans (Tm.wt_arg hx) hot.ok.wt))
  have HBW := Lib.hid (bal_wc hos.plain hot.plain)
  clear h hv hs ht hos hot hsl htl
  obtain ⟨b0, b1, b2, b3⟩ := H3.out
  obtain ⟨s0, s1, s2⟩ := HS.out
  obtain ⟨t0, t1, t2⟩ := HT.out
  cases hbal : bal s t with
  | false =>
    have HE : Hid (kbo o s t = false) := Lib.hid (kbo_bal hbal)
    have CWC : Hid (∀ W (vT vS : Value), TmS W vT t.vs → TmS W vS s.vs → Calls Tryz.prog 122 #[vT, vS] W fun e w' => ∃ n p c, e = .returned (.slice p n c) ∧ (0 : Int) < (n : Int) ∧ n ≤ 1048576 ∧ Below W.heap.size W w') := Lib.hid (fun W vT vS h1 h2 => (CWC0.out W vT vS h1 h2).mono fun e w' h => by
      obtain ⟨v, L, h3, h4, h5, h6⟩ := h
      obtain ⟨p, c, rfl⟩ := h4.form
      refine ⟨L.length, p, c, h3, ?_, ?_, h6⟩
      · have hne : wcL t.vs s.vs ≠ [] := fun e => by rw [HBW.out.2 e] at hbal; cases hbal
        have := List.length_pos_iff.2 hne
        rw [← h5, tmsE_len] at this; omega
      · rw [← tmsE_len, h5]; exact Nat.le_trans (wcL_len _ _) (by have := vs_len t; have := HOT.out.ok.sz; omega))
    clear hbal
    go_enter Tryz.func159, Tryz.ntmps159
    go_wp2_with fail
    have hB0 : Below w1.heap.size w1 w1.drew := (Below.refl _ _).drew
    go_region_held3 (fun w' => w'.cell? ⟨w.heap.size, 0, none⟩ = some (.slice sa o.sy.length sc) ∧ w'.cell? ⟨w.heap.size, 1, none⟩ = some (.slice wa o.ws.length wc) ∧ w'.cell? ⟨w.heap.size, 2, none⟩ = some (.int .i64 o.va) ∧ w'.cell? ⟨w.heap.size + 1, 0, none⟩ = some (.string s.name) ∧ w'.cell? ⟨w.heap.size + 1, 1, none⟩ = some (.slice pa s.args.length ca) ∧ w'.cell? ⟨w.heap.size + 1 + 1, 0, none⟩ = some (.string t.name) ∧ w'.cell? ⟨w.heap.size + 1 + 1, 1, none⟩ = some (.slice pb t.args.length cb) ∧ Below w1.heap.size w1 w') (first | exact ⟨by assumption, by assumption, by assumption, by assumption, by assumption, by assumption, by assumption, by assumption⟩ | go_keep) (first | (go_at_call_of 95 (Value.agg #[Value.string s.name, Value.slice pa s.args.length ca]); refine (CVA.out _ (by assumption)).mono ?_; rintro e wS ⟨vS, rfl, hSS, hb⟩; have qa0 : wS.cell? ⟨w.heap.size, 0, none⟩ = some (.slice sa o.sy.length sc) := carry_cell' hb (by assumption); have qa1 : wS.cell? ⟨w.heap.size, 1, none⟩ = some (.slice wa o.ws.length wc) := carry_cell' hb (by assumption); have qa2 : wS.cell? ⟨w.heap.size, 2, none⟩ = some (.int .i64 o.va) := carry_cell' hb (by assumption); have qa3 : wS.cell? ⟨w.heap.size + 1, 0, none⟩ = some (.string s.name) := carry_cell' hb (by assumption); have qa4 : wS.cell? ⟨w.heap.size + 1, 1, none⟩ = some (.slice pa s.args.length ca) := carry_cell' hb (by assumption); have qa5 : wS.cell? ⟨w.heap.size + 1 + 1, 0, none⟩ = some (.string t.name) := carry_cell' hb (by assumption); have qa6 : wS.cell? ⟨w.heap.size + 1 + 1, 1, none⟩ = some (.slice pb t.args.length cb) := carry_cell' hb (by assumption); have hwS : Below w1.heap.size w1 wS := carry_below (by assumption) (Nat.le_refl _) hb; have HSS1 := Lib.hid hSS; (try have HTT2 := Lib.hid (HTT1.out.kept hb)); clear hSS; clear hb) | (go_at_call_of 95 (Value.agg #[Value.string t.name, Value.slice pb t.args.length cb]); refine (CVB.out _ (by assumption)).mono ?_; rintro e wT ⟨vT, rfl, hTT, hb⟩; have qb0 : wT.cell? ⟨w.heap.size, 0, none⟩ = some (.slice sa o.sy.length sc) := carry_cell' hb (by assumption); have qb1 : wT.cell? ⟨w.heap.size, 1, none⟩ = some (.slice wa o.ws.length wc) := carry_cell' hb (by assumption); have qb2 : wT.cell? ⟨w.heap.size, 2, none⟩ = some (.int .i64 o.va) := carry_cell' hb (by assumption); have qb3 : wT.cell? ⟨w.heap.size + 1, 0, none⟩ = some (.string s.name) := carry_cell' hb (by assumption); have qb4 : wT.cell? ⟨w.heap.size + 1, 1, none⟩ = some (.slice pa s.args.length ca) := carry_cell' hb (by assumption); have qb5 : wT.cell? ⟨w.heap.size + 1 + 1, 0, none⟩ = some (.string t.name) := carry_cell' hb (by assumption); have qb6 : wT.cell? ⟨w.heap.size + 1 + 1, 1, none⟩ = some (.slice pb t.args.length cb) := carry_cell' hb (by assumption); have hwT : Below w1.heap.size w1 wT := carry_below (by assumption) (Nat.le_refl _) hb; have HTT1 := Lib.hid hTT; (try have HSS2 := Lib.hid (HSS1.out.kept hb)); clear hTT; clear hb) | (go_at_call 122; refine (CWC.out _ _ _ (by first | exact HTT2.out | exact HTT1.out) (by first | exact HSS2.out | exact HSS1.out)).mono ?_; rintro e wW ⟨n4, p4, c4, rfl, hn4, hn5, hb⟩; have qc0 : wW.cell? ⟨w.heap.size, 0, none⟩ = some (.slice sa o.sy.length sc) := carry_cell' hb (by assumption); have qc1 : wW.cell? ⟨w.heap.size, 1, none⟩ = some (.slice wa o.ws.length wc) := carry_cell' hb (by assumption); have qc2 : wW.cell? ⟨w.heap.size, 2, none⟩ = some (.int .i64 o.va) := carry_cell' hb (by assumption); have qc3 : wW.cell? ⟨w.heap.size + 1, 0, none⟩ = some (.string s.name) := carry_cell' hb (by assumption); have qc4 : wW.cell? ⟨w.heap.size + 1, 1, none⟩ = some (.slice pa s.args.length ca) := carry_cell' hb (by assumption); have qc5 : wW.cell? ⟨w.heap.size + 1 + 1, 0, none⟩ = some (.string t.name) := carry_cell' hb (by assumption); have qc6 : wW.cell? ⟨w.heap.size + 1 + 1, 1, none⟩ = some (.slice pb t.args.length cb) := carry_cell' hb (by assumption); have hwW : Below w1.heap.size w1 wW := carry_below (by assumption) (Nat.le_refl _) hb; clear hb))
    all_goals
      have HBF := Lib.hid (carry_below HB.out (Nat.le_refl _) hwW)
      go_wp2
      go_ret
      exact ⟨ret_bool HE.out.symm, HBF.out⟩
  | true =>
    have HBAL := Lib.hid hbal
    have CWC : Hid (∀ W (vT vS : Value), TmS W vT t.vs → TmS W vS s.vs → Calls Tryz.prog 122 #[vT, vS] W fun e w' => ∃ p c, e = .returned (.slice p 0 c) ∧ Below W.heap.size W w') := Lib.hid (fun W vT vS h1 h2 => (CWC0.out W vT vS h1 h2).mono fun e w' h => by
      obtain ⟨v, L, h3, h4, h5, h6⟩ := h
      obtain ⟨p, c, rfl⟩ := h4.form
      have e0 : L.length = 0 := by rw [← tmsE_len, h5, HBW.out.1 hbal]; rfl
      rw [e0] at h3
      exact ⟨p, c, h3, h6⟩)
    clear hbal
    obtain ⟨x, hx⟩ : ∃ x, o.wT s = x := ⟨_, rfl⟩
    obtain ⟨y, hy⟩ : ∃ y, o.wT t = y := ⟨_, rfl⟩
    have HXE := Lib.hid hx
    have HYE := Lib.hid hy
    rw [hx] at CWS
    rw [hy] at CWT
    clear hx hy
    go_enter Tryz.func159, Tryz.ntmps159
    go_wp2_with fail
    have hB0 : Below w1.heap.size w1 w1.drew := (Below.refl _ _).drew
    go_region_held3 (fun w' => w'.cell? ⟨w.heap.size, 0, none⟩ = some (.slice sa o.sy.length sc) ∧ w'.cell? ⟨w.heap.size, 1, none⟩ = some (.slice wa o.ws.length wc) ∧ w'.cell? ⟨w.heap.size, 2, none⟩ = some (.int .i64 o.va) ∧ w'.cell? ⟨w.heap.size + 1, 0, none⟩ = some (.string s.name) ∧ w'.cell? ⟨w.heap.size + 1, 1, none⟩ = some (.slice pa s.args.length ca) ∧ w'.cell? ⟨w.heap.size + 1 + 1, 0, none⟩ = some (.string t.name) ∧ w'.cell? ⟨w.heap.size + 1 + 1, 1, none⟩ = some (.slice pb t.args.length cb) ∧ Below w1.heap.size w1 w') (first | exact ⟨by assumption, by assumption, by assumption, by assumption, by assumption, by assumption, by assumption, by assumption⟩ | go_keep) (first | (go_at_call_of 95 (Value.agg #[Value.string s.name, Value.slice pa s.args.length ca]); refine (CVA.out _ (by assumption)).mono ?_; rintro e wS ⟨vS, rfl, hSS, hb⟩; have qa0 : wS.cell? ⟨w.heap.size, 0, none⟩ = some (.slice sa o.sy.length sc) := carry_cell' hb (by assumption); have qa1 : wS.cell? ⟨w.heap.size, 1, none⟩ = some (.slice wa o.ws.length wc) := carry_cell' hb (by assumption); have qa2 : wS.cell? ⟨w.heap.size, 2, none⟩ = some (.int .i64 o.va) := carry_cell' hb (by assumption); have qa3 : wS.cell? ⟨w.heap.size + 1, 0, none⟩ = some (.string s.name) := carry_cell' hb (by assumption); have qa4 : wS.cell? ⟨w.heap.size + 1, 1, none⟩ = some (.slice pa s.args.length ca) := carry_cell' hb (by assumption); have qa5 : wS.cell? ⟨w.heap.size + 1 + 1, 0, none⟩ = some (.string t.name) := carry_cell' hb (by assumption); have qa6 : wS.cell? ⟨w.heap.size + 1 + 1, 1, none⟩ = some (.slice pb t.args.length cb) := carry_cell' hb (by assumption); have hwS : Below w1.heap.size w1 wS := carry_below (by assumption) (Nat.le_refl _) hb; have HSS1 := Lib.hid hSS; (try have HTT2 := Lib.hid (HTT1.out.kept hb)); clear hSS; clear hb) | (go_at_call_of 95 (Value.agg #[Value.string t.name, Value.slice pb t.args.length cb]); refine (CVB.out _ (by assumption)).mono ?_; rintro e wT ⟨vT, rfl, hTT, hb⟩; have qb0 : wT.cell? ⟨w.heap.size, 0, none⟩ = some (.slice sa o.sy.length sc) := carry_cell' hb (by assumption); have qb1 : wT.cell? ⟨w.heap.size, 1, none⟩ = some (.slice wa o.ws.length wc) := carry_cell' hb (by assumption); have qb2 : wT.cell? ⟨w.heap.size, 2, none⟩ = some (.int .i64 o.va) := carry_cell' hb (by assumption); have qb3 : wT.cell? ⟨w.heap.size + 1, 0, none⟩ = some (.string s.name) := carry_cell' hb (by assumption); have qb4 : wT.cell? ⟨w.heap.size + 1, 1, none⟩ = some (.slice pa s.args.length ca) := carry_cell' hb (by assumption); have qb5 : wT.cell? ⟨w.heap.size + 1 + 1, 0, none⟩ = some (.string t.name) := carry_cell' hb (by assumption); have qb6 : wT.cell? ⟨w.heap.size + 1 + 1, 1, none⟩ = some (.slice pb t.args.length cb) := carry_cell' hb (by assumption); have hwT : Below w1.heap.size w1 wT := carry_below (by assumption) (Nat.le_refl _) hb; have HTT1 := Lib.hid hTT; (try have HSS2 := Lib.hid (HSS1.out.kept hb)); clear hTT; clear hb) | (go_at_call 122; refine (CWC.out _ _ _ (by first | exact HTT2.out | exact HTT1.out) (by first | exact HSS2.out | exact HSS1.out)).mono ?_; rintro e wW ⟨p4, c4, rfl, hb⟩; have qc0 : wW.cell? ⟨w.heap.size, 0, none⟩ = some (.slice sa o.sy.length sc) := carry_cell' hb (by assumption); have qc1 : wW.cell? ⟨w.heap.size, 1, none⟩ = some (.slice wa o.ws.length wc) := carry_cell' hb (by assumption); have qc2 : wW.cell? ⟨w.heap.size, 2, none⟩ = some (.int .i64 o.va) := carry_cell' hb (by assumption); have qc3 : wW.cell? ⟨w.heap.size + 1, 0, none⟩ = some (.string s.name) := carry_cell' hb (by assumption); have qc4 : wW.cell? ⟨w.heap.size + 1, 1, none⟩ = some (.slice pa s.args.length ca) := carry_cell' hb (by assumption); have qc5 : wW.cell? ⟨w.heap.size + 1 + 1, 0, none⟩ = some (.string t.name) := carry_cell' hb (by assumption); have qc6 : wW.cell? ⟨w.heap.size + 1 + 1, 1, none⟩ = some (.slice pb t.args.length cb) := carry_cell' hb (by assumption); have hwW : Below w1.heap.size w1 wW := carry_below (by assumption) (Nat.le_refl _) hb; clear hb))
    have hb := hwW
    clear hwW hB0 hwS hwT CVA CVB CWC0 CWC HSS1 HTT1 HTT2
    clear qa0 qa1 qa2 qa3 qa4 qa5 qa6 qb0 qb1 qb2 qb3 qb4 qb5 qb6 qc0 qc1 qc2 qc3 qc4 qc5 qc6 hw1
    replace HB := Lib.hid (carry_below HB.out (Nat.le_refl _) hb)
    replace H3 := Lib.hid (H3.out.kept hb)
    replace HS := Lib.hid (HS.out.kept hb)
    replace HT := Lib.hid (HT.out.kept hb)
    clear hb b0 b1 b2 b3 s0 s1 s2 t0 t1 t2
    obtain ⟨b0, b1, b2, b3⟩ := H3.out
    obtain ⟨s0, s1, s2⟩ := HS.out
    obtain ⟨t0, t1, t2⟩ := HT.out
    have CW1 := Lib.hid (fun W (hW : Below wW.heap.size wW W) => CWS.out W (carry_below HB.out (Nat.le_refl _) hW))
    have CW2 := Lib.hid (fun W (hW : Below wW.heap.size wW W) => CWT.out W (carry_below HB.out (Nat.le_refl _) hW))
    obtain ⟨c, hc⟩ : ∃ c, c = Lib.compareInt x y := ⟨_, rfl⟩
    have CC : Hid (∀ W, Calls Tryz.prog 183 #[.int .i64 x, .int .i64 y] W fun e w' => e = .returned (.int .i64 c) ∧ w' = W) := Lib.hid (fun W => by rw [hc]; exact Tryz.cmp_Compare_int x y W)
    have HCE := Lib.hid hc
    clear CWS CWT hc
    go_wp2_with fail
    have hB0 : Below wW.heap.size wW wW.drew := (Below.refl _ _).drew
    go_region_held3 (fun w' => w'.cell? ⟨w.heap.size, 0, none⟩ = some (.slice sa o.sy.length sc) ∧ w'.cell? ⟨w.heap.size, 1, none⟩ = some (.slice wa o.ws.length wc) ∧ w'.cell? ⟨w.heap.size, 2, none⟩ = some (.int .i64 o.va) ∧ w'.cell? ⟨w.heap.size + 1, 0, none⟩ = some (.string s.name) ∧ w'.cell? ⟨w.heap.size + 1, 1, none⟩ = some (.slice pa s.args.length ca) ∧ w'.cell? ⟨w.heap.size + 1 + 1, 0, none⟩ = some (.string t.name) ∧ w'.cell? ⟨w.heap.size + 1 + 1, 1, none⟩ = some (.slice pb t.args.length cb) ∧ Below wW.heap.size wW w') (first | exact ⟨by assumption, by assumption, by assumption, by assumption, by assumption, by assumption, by assumption, by assumption⟩ | go_keep) (first | (go_at_call_of 184 (Value.agg #[Value.string s.name, Value.slice pa s.args.length ca]); refine (CW1.out _ (by assumption)).mono ?_; rintro e w3 ⟨rfl, hb⟩; have qa0 : w3.cell? ⟨w.heap.size, 0, none⟩ = some (.slice sa o.sy.length sc) := carry_cell' hb (by assumption); have qa1 : w3.cell? ⟨w.heap.size, 1, none⟩ = some (.slice wa o.ws.length wc) := carry_cell' hb (by assumption); have qa2 : w3.cell? ⟨w.heap.size, 2, none⟩ = some (.int .i64 o.va) := carry_cell' hb (by assumption); have qa3 : w3.cell? ⟨w.heap.size + 1, 0, none⟩ = some (.string s.name) := carry_cell' hb (by assumption); have qa4 : w3.cell? ⟨w.heap.size + 1, 1, none⟩ = some (.slice pa s.args.length ca) := carry_cell' hb (by assumption); have qa5 : w3.cell? ⟨w.heap.size + 1 + 1, 0, none⟩ = some (.string t.name) := carry_cell' hb (by assumption); have qa6 : w3.cell? ⟨w.heap.size + 1 + 1, 1, none⟩ = some (.slice pb t.args.length cb) := carry_cell' hb (by assumption); have hw3 : Below wW.heap.size wW w3 := carry_below (by assumption) (Nat.le_refl _) hb; clear hb) | (go_at_call_of 184 (Value.agg #[Value.string t.name, Value.slice pb t.args.length cb]); refine (CW2.out _ (by assumption)).mono ?_; rintro e w4 ⟨rfl, hb⟩; have qb0 : w4.cell? ⟨w.heap.size, 0, none⟩ = some (.slice sa o.sy.length sc) := carry_cell' hb (by assumption); have qb1 : w4.cell? ⟨w.heap.size, 1, none⟩ = some (.slice wa o.ws.length wc) := carry_cell' hb (by assumption); have qb2 : w4.cell? ⟨w.heap.size, 2, none⟩ = some (.int .i64 o.va) := carry_cell' hb (by assumption); have qb3 : w4.cell? ⟨w.heap.size + 1, 0, none⟩ = some (.string s.name) := carry_cell' hb (by assumption); have qb4 : w4.cell? ⟨w.heap.size + 1, 1, none⟩ = some (.slice pa s.args.length ca) := carry_cell' hb (by assumption); have qb5 : w4.cell? ⟨w.heap.size + 1 + 1, 0, none⟩ = some (.string t.name) := carry_cell' hb (by assumption); have qb6 : w4.cell? ⟨w.heap.size + 1 + 1, 1, none⟩ = some (.slice pb t.args.length cb) := carry_cell' hb (by assumption); have hw4 : Below wW.heap.size wW w4 := carry_below (by assumption) (Nat.le_refl _) hb; clear hb) | (go_at_call 183; refine (CC.out _).mono ?_; rintro e wn ⟨rfl, rfl⟩))
    clear hB0 qa0 qa1 qa2 qa3 qa4 qa5 qa6 hw3 qb0 qb1 qb2 qb3 qb4 qb5 qb6
    have hb := hw4
    clear hw4 CW1 CW2 CC
    replace HB := Lib.hid (carry_below HB.out (Nat.le_refl _) hb)
    replace H3 := Lib.hid (H3.out.kept hb)
    replace HS := Lib.hid (HS.out.kept hb)
    replace HT := Lib.hid (HT.out.kept hb)
    clear hb b0 b1 b2 b3 s0 s1 s2 t0 t1 t2
    obtain ⟨b0, b1, b2, b3⟩ := H3.out
    obtain ⟨s0, s1, s2⟩ := HS.out
    obtain ⟨t0, t1, t2⟩ := HT.out
    by_cases hc0 : c = 0
    · have e1 : (c != 0) = false := int_eq hc0
      have HWE : Hid (o.wT s = o.wT t) := Lib.hid (by
        rw [HXE.out, HYE.out]
        have h := HCE.out
        rw [hc0] at h
        unfold Lib.compareInt at h
        split at h
        · omega
        · split at h
          · omega
          · omega)
      clear hc0
      cases hvs : varB s.name with
      | true =>
        rw [hvs] at CVS
        have HE : Hid (kbo o s t = false) := Lib.hid (kbo_var HBAL.out HWE.out (.inl hvs))
        clear hvs
        go_wp2_with fail
        refine (CVS.out _).mono ?_
        rintro e w5 ⟨rfl, rfl⟩
        go_wp2
        go_ret
        exact ⟨ret_bool HE.out.symm, HB.out⟩
      | false =>
        rw [hvs] at CVS
        have HVSN := Lib.hid hvs
        clear hvs
        go_wp2_with fail
        refine (CVS.out _).mono ?_
        rintro e w5 ⟨rfl, rfl⟩
        cases hvt : varB t.name with
        | true =>
          rw [hvt] at CVT
          have HE : Hid (kbo o s t = false) := Lib.hid (kbo_var HBAL.out HWE.out (.inr hvt))
          clear hvt
          go_wp2_with fail
          refine (CVT.out _).mono ?_
          rintro e w6 ⟨rfl, rfl⟩
          go_wp2
          go_ret
          exact ⟨ret_bool HE.out.symm, HB.out⟩
        | false =>
          rw [hvt] at CVT
          have HVTN := Lib.hid hvt
          clear hvt
          go_wp2_with fail
          refine (CVT.out _).mono ?_
          rintro e w6 ⟨rfl, rfl⟩
          obtain ⟨r, hr⟩ : ∃ r, o.root s t = r := ⟨_, rfl⟩
          have HRE := Lib.hid hr
          rw [hr] at CRT
          clear hr CVS CVT e1
          go_wp2_with fail
          refine (CRT.out _ HB.out).mono ?_
          rintro e w7 ⟨rfl, hb⟩
          replace HB := Lib.hid (carry_below HB.out (Nat.le_refl _) hb)
          replace H3 := Lib.hid (H3.out.kept hb)
          replace HS := Lib.hid (HS.out.kept hb)
          replace HT := Lib.hid (HT.out.kept hb)
          clear hb b0 b1 b2 b3 s0 s1 s2 t0 t1 t2 CRT
          obtain ⟨b0, b1, b2, b3⟩ := H3.out
          obtain ⟨s0, s1, s2⟩ := HS.out
          obtain ⟨t0, t1, t2⟩ := HT.out
          by_cases hr0 : r = 0
          · have e2 : (r != 0) = false := int_eq hr0
            have HR0 : Hid (o.root s t = 0) := Lib.hid (by rw [HRE.out, hr0])
            have hll : s.args.length = t.args.length := Od.root_len HR0.out
            have HLL := Lib.hid hll
            have HKE := Lib.hid (kbo_args HBAL.out HWE.out HVSN.out HVTN.out HR0.out)
            have CF2 := Lib.hid (CFD.out (by omega))
            clear hr0 CFD hll
            rcases fd_ways s.args t.args with ⟨f1, f2⟩ | ⟨k, f1, f2, f3, f4⟩
            · rw [f1] at CF2
              have HE : Hid (kbo o s t = false) := Lib.hid (by rw [HKE.out]; exact kboL_no o _ _ f2)
              clear f1 f2
              go_wp2_with fail
              refine (CF2.out _ HB.out).mono ?_
              rintro e w8 ⟨rfl, hb⟩
              have HB8 := Lib.hid (carry_below HB.out (Nat.le_refl _) hb)
              clear hb b0 b1 b2 b3 s0 s1 s2 t0 t1 t2 HB H3 HS HT
              go_wp2
              go_quiet (fail)
              have HB9 : Hid (Below w.heap.size w (w8.drewN nq)) := Lib.hid (⟨HB8.out.os, HB8.out.tape, HB8.out.output, HB8.out.size, HB8.out.block⟩)
              go_wp2
              go_ret
              exact ⟨ret_bool HE.out.symm, HB9.out⟩
            · rw [f1] at CF2
              obtain ⟨x, hx⟩ : ∃ x, s.args[k]? = some x := ⟨_, List.getElem?_eq_getElem f2⟩
              have hkt : k < t.args.length := by have := HLL.out; omega
              obtain ⟨y, hy⟩ : ∃ y, t.args[k]? = some y := ⟨_, List.getElem?_eq_getElem hkt⟩
              have HE : Hid (kbo o s t = kbo o x y) := Lib.hid (by
                rw [HKE.out]
                exact kboL_at o _ _ k x y hx hy (fun e => f3 (by rw [hx, hy, e])) f4)
              have HX := Lib.hid hx
              have HY := Lib.hid hy
              clear f1 f3 f4 hx hy HKE
              go_wp2_with fail
              refine (CF2.out _ HB.out).mono ?_
              rintro e w8 ⟨rfl, hb⟩
              replace HB := Lib.hid (carry_below HB.out (Nat.le_refl _) hb)
              replace H3 := Lib.hid (H3.out.kept hb)
              replace HS := Lib.hid (HS.out.kept hb)
              replace HT := Lib.hid (HT.out.kept hb)
              clear hb b0 b1 b2 b3 s0 s1 s2 t0 t1 t2 CF2 e2
              obtain ⟨b0, b1, b2, b3⟩ := H3.out
              obtain ⟨s0, s1, s2⟩ := HS.out
              obtain ⟨t0, t1, t2⟩ := HT.out
              obtain ⟨b, off, rfl, vx, c0, c1, hvx⟩ := HVS.out.get HX.out
              obtain ⟨b', off', rfl, vy, d0, d1, hvy⟩ := HVT.out.get HY.out
              obtain ⟨p, c, rfl⟩ := hvx.is_slice
              obtain ⟨p', c', rfl⟩ := hvy.is_slice
              have c0' := carry_cell c0 HB.out
              have c1' := carry_cell c1 HB.out
              have d0' := carry_cell d0 HB.out
              have d1' := carry_cell d1 HB.out
              have CK := Lib.hid (fun W (hW : Below w8.heap.size w8 W) => H.out x (mem_of_at HX.out) y W _ _ _ _ (HV.out.kept (carry_below HB.out (Nat.le_refl _) hW)) (hvx.kept (carry_below HB.out (Nat.le_refl _) hW)) (hvy.kept (carry_below HB.out (Nat.le_refl _) hW)) (HOS.out.arg (mem_of_at HX.out)) (HOT.out.arg (mem_of_at HY.out)))
              have hk0 : decide ((0 : Int) ≤ (k : Int)) = true := by simp
              clear c0 c1 d0 d1 hvx hvy
              go_wp2_with fail
              have hB0 : Below w8.heap.size w8 w8.drew := (Below.refl _ _).drew
              go_region_held3 (fun w' => w'.cell? ⟨w.heap.size, 0, none⟩ = some (.slice sa o.sy.length sc) ∧ w'.cell? ⟨w.heap.size, 1, none⟩ = some (.slice wa o.ws.length wc) ∧ w'.cell? ⟨w.heap.size, 2, none⟩ = some (.int .i64 o.va) ∧ w'.cell? ⟨w.heap.size + 1, 1, none⟩ = some (.slice (some ⟨b, off, none⟩) s.args.length ca) ∧ w'.cell? ⟨w.heap.size + 1 + 1, 1, none⟩ = some (.slice (some ⟨b', off', none⟩) t.args.length cb) ∧ w'.cell? ⟨b, off + k * 2, none⟩ = some (.string x.name) ∧ w'.cell? ⟨b, off + k * 2 + 1, none⟩ = some (.slice p x.args.length c) ∧ w'.cell? ⟨b', off' + k * 2, none⟩ = some (.string y.name) ∧ w'.cell? ⟨b', off' + k * 2 + 1, none⟩ = some (.slice p' y.args.length c') ∧ Below w8.heap.size w8 w') (first | exact ⟨by assumption, by assumption, by assumption, by assumption, by assumption, by assumption, by assumption, by assumption, by assumption, by assumption⟩ | go_keep) (first | (go_at_call 159; refine (CK.out _ (by assumption)).mono ?_; rintro e w9 ⟨rfl, hb⟩; have qa0 : w9.cell? ⟨w.heap.size, 0, none⟩ = some (.slice sa o.sy.length sc) := carry_cell' hb (by assumption); have qa1 : w9.cell? ⟨w.heap.size, 1, none⟩ = some (.slice wa o.ws.length wc) := carry_cell' hb (by assumption); have qa2 : w9.cell? ⟨w.heap.size, 2, none⟩ = some (.int .i64 o.va) := carry_cell' hb (by assumption); have qa3 : w9.cell? ⟨w.heap.size + 1, 1, none⟩ = some (.slice (some ⟨b, off, none⟩) s.args.length ca) := carry_cell' hb (by assumption); have qa4 : w9.cell? ⟨w.heap.size + 1 + 1, 1, none⟩ = some (.slice (some ⟨b', off', none⟩) t.args.length cb) := carry_cell' hb (by assumption); have qa5 : w9.cell? ⟨b, off + k * 2, none⟩ = some (.string x.name) := carry_cell' hb (by assumption); have qa6 : w9.cell? ⟨b, off + k * 2 + 1, none⟩ = some (.slice p x.args.length c) := carry_cell' hb (by assumption); have qa7 : w9.cell? ⟨b', off' + k * 2, none⟩ = some (.string y.name) := carry_cell' hb (by assumption); have qa8 : w9.cell? ⟨b', off' + k * 2 + 1, none⟩ = some (.slice p' y.args.length c') := carry_cell' hb (by assumption); have hw9 : Below w8.heap.size w8 w9 := carry_below (by assumption) (Nat.le_refl _) hb; clear hb))
              clear hB0 qa0 qa1 qa2 qa3 qa4 qa5 qa6 qa7 qa8
              have HB9 := Lib.hid (carry_below HB.out (Nat.le_refl _) hw9)
              clear hw9
              go_wp2
              go_ret
              exact ⟨ret_bool HE.out.symm, HB9.out⟩
          · have e2 : (r != 0) = true := int_ne hr0
            have HE : Hid (kbo o s t = decide (0 < r)) := Lib.hid (by rw [kbo_root HBAL.out HWE.out HVSN.out HVTN.out (by rw [HRE.out]; exact hr0), HRE.out])
            clear hr0
            go_wp2
            go_ret
            exact ⟨ret_bool HE.out.symm, HB.out⟩
    · have e1 : (c != 0) = true := int_ne hc0
      have HE : Hid (kbo o s t = decide (0 < c)) := Lib.hid (by
        have h := HCE.out
        have hxy : x ≠ y := fun e => hc0 (by rw [h, e]; unfold Lib.compareInt; simp)
        rw [kbo_wt HBAL.out (by rw [HXE.out, HYE.out]; exact hxy), HXE.out, HYE.out, h]
        unfold Lib.compareInt
        split
        · simp; omega
        · split
          · simp; omega
          · omega)
      clear hc0
      go_wp2
      go_ret
      exact ⟨ret_bool HE.out.symm, HB.out⟩

theorem kboP_any (o : Od) (ho : o.wt ≤ 1048576) (hf : o.Fine) (s : Tm) : KboP o s := Tm.ind (P := KboP o) (kboP_of o ho hf) s

end Go.Proofs.YtohalpafmcobpaaGreat
