/- Several texts in one: each says what it proves. No condition but theirs. -/
import Derived.Test.YtohalpafmcobpaaGreatSz
import Derived.Test.YtohalpafmcobpaaGreatTo
import Derived.Test.YtohalpafmcobpaaGreatEq
import Derived.Test.YtohalpafmcobpaaGreatOpenTm
import Derived.Test.YtohalpafmcobpaaGreatKbG
import Derived.Test.YtohalpafmcobpaaGreatOeG
import Derived.Deep.AppendLies
/- An argument that is a list of terms: the laws' size, copy and comparison of it, and its opening. No condition. -/
namespace Go.Proofs.YtohalpafmcobpaaGreat
open Go.RowKit Go.ChangeShapes Go.WideShapes Go.Deep Go.Joins
set_option linter.unusedVariables false

def wtTs (l : List Tm) : Nat := l.length + sumL Tm.wt l
def limTs (m : Nat) (l : List Tm) : Prop := l.length ≤ m ∧ ∀ t ∈ l, t.lim m
theorem wtTs_mem {l : List Tm} {t : Tm} (h : t ∈ l) : t.wt ≤ wtTs l := by have := sumL_mem (f := Tm.wt) h; unfold wtTs; omega
theorem wtTs_len (l : List Tm) : l.length ≤ wtTs l := by unfold wtTs; omega
theorem limTs_of_wt (l : List Tm) (m : Nat) (h : wtTs l ≤ m) : limTs m l := ⟨Nat.le_trans (wtTs_len l) h, fun t ht => Tm.lim_of_wt t m (Nat.le_trans (wtTs_mem ht) h)⟩

theorem szTs_any (l : List Tm) (w : World) (v : Value) (left : Int) (h : TmS w v l) (hl : limTs 9223372036854775807 l) (h0 : 0 ≤ left) (h1 : left ≤ 1048576) :
    Calls Tryz.prog 71 #[v, .int .i64 left] w fun e w' => e = .returned (.int .i64 (szR left (wtTs l))) ∧ Below w.heap.size w w' :=
  szTermS_of l (fun t _ => szTerm_any t) w v left h hl.1 (Tm.limL_mem.2 hl.2) h0 h1

def ToTsEnd (l : List Tm) (w : World) (e : Ending) (w' : World) : Prop := ∃ v, e = .returned v ∧ TmO w' (Fresh w w') v l ∧ Below w.heap.size w w'
theorem toTs_any (l : List Tm) (w : World) (v : Value) (h : TmS w v l) (hw : wtTs l ≤ 1048576) : Calls Tryz.prog 80 #[v] w (ToTsEnd l w) :=
  toTermS_of l (fun t _ => toTerm_any t) w v h hw
theorem eqTs_any (l r : List Tm) (w : World) (va vb : Value) (ha : TmS w va l) (hb : TmS w vb r) (hl : limTs 1048576 l) (hr : limTs 1048576 r) : Calls Tryz.prog 86 #[va, vb] w (EqEnd (eqTs l r) w) :=
  eqTermS_of l (fun t _ => eqTerm_any t) r w va vb ha hb hl.1 (Tm.limL_mem.2 hl.2) hr.1 (Tm.limL_mem.2 hr.2)

section
variable {H : Type} {enc : TypeId × Value → H} {w : World} {base : Nat} {sp : Nat → Bool} {hd : Bool}
set_option maxRecDepth 100000 in
/-- The argument is a list of terms. -/
theorem open_ts {r : Reach} {b0 : Nat} {v : Value} {d : DataW H} {p : List MemPlace} (hv : Value.okWide Tryz.prog w r b0 26 v)
    (h : DataW.Trod enc Tryz.prog w base sp hd 26 v d p) : ∃ l, TmS w v l ∧ limTs 9223372036854775807 l := by
  obtain ⟨a0, len0, cap0, rfl⟩ := okWide_slice Tryz.underlying26 hv
  obtain ⟨fuel, hf⟩ := h
  obtain ⟨v', l, hcs, hb, hll, hl⟩ := open_terms 9223372036854775807 (by unfold maxLen; omega) fuel _ _ hf
  simp [Value.cells] at hcs
  subst hcs
  exact ⟨l, hb, hll, Tm.limL_mem.1 hl⟩
end
end Go.Proofs.YtohalpafmcobpaaGreat

/- Comparing multisets of terms: the plain facts. The model's removal of common terms is the program's. No condition. -/
namespace Go.Proofs.YtohalpafmcobpaaGreat
open Go.RowKit
set_option linter.unusedVariables false

/-- The model's removal: each element of the first list is matched with one of the second that is not yet used. -/
def minL : List Tm → List Tm → List Tm
  | [], _ => []
  | x :: r, b => if b.any (fun y => eqT x y) = true then minL r (rem1 x b) else x :: minL r b

theorem eqT_symm (a b : Tm) : eqT a b = eqT b a := by unfold eqT; rw [Bool.eq_iff_iff]; simp [eq_comm]
theorem eqT_iff {a b : Tm} : eqT a b = true ↔ a = b := by unfold eqT; rw [decide_eq_true_iff]
theorem any_eq {x : Tm} {b : List Tm} : b.any (fun y => eqT x y) = true ↔ x ∈ b := by
  rw [List.any_eq_true]
  exact ⟨fun ⟨y, hy, e⟩ => (eqT_iff.1 e) ▸ hy, fun h => ⟨x, h, eqT_self x⟩⟩

theorem rem1_comm (s t : Tm) : ∀ l : List Tm, rem1 s (rem1 t l) = rem1 t (rem1 s l)
  | [] => rfl
  | x :: r => by
    by_cases h1 : eqT x t = true
    · by_cases h2 : eqT x s = true
      · have e1 := eqT_iff.1 h1
        have e2 := eqT_iff.1 h2
        subst e1; subst e2; rfl
      · rw [rem1, if_pos h1]
        conv => rhs; rw [rem1, if_neg h2, rem1, if_pos h1]
    · by_cases h2 : eqT x s = true
      · rw [rem1, if_neg h1, rem1, if_pos h2]
        conv => rhs; rw [rem1, if_pos h2]
      · rw [rem1, if_neg h1, rem1, if_neg h2, rem1, if_neg h2, rem1, if_neg h1, rem1_comm s t r]

theorem wcL_rem (t : Tm) : ∀ (b l : List Tm), wcL (rem1 t l) b = rem1 t (wcL l b)
  | [], l => rfl
  | y :: b, l => by rw [wcL, wcL, rem1_comm, wcL_rem t b]

/-- Removing one list's elements from a list with a head. -/
theorem wcL_cons (x : Tm) : ∀ (b r : List Tm), wcL (x :: r) b = if x ∈ b then wcL r (rem1 x b) else x :: wcL r b
  | [], r => by simp [wcL]
  | y :: b, r => by
    by_cases e : x = y
    · subst e
      rw [if_pos List.mem_cons_self, wcL, rem1, if_pos (eqT_self x), rem1, if_pos (eqT_self x)]
    · have n1 : ¬ eqT x y = true := fun h => e (eqT_iff.1 h)
      have n2 : ¬ eqT y x = true := fun h => e (eqT_iff.1 h).symm
      rw [wcL, rem1, if_neg n1, wcL_cons x b (rem1 y r)]
      by_cases hm : x ∈ b
      · rw [if_pos hm, if_pos (List.mem_cons_of_mem _ hm), rem1, if_neg n2, wcL]
      · rw [if_neg hm, if_neg (by intro h; rcases List.mem_cons.1 h with h | h; exact e h; exact hm h), wcL]

theorem minL_wcL : ∀ (a b : List Tm), minL a b = wcL a b
  | [], b => by
    rw [minL]
    induction b with
    | nil => rfl
    | cons y b ih => rw [wcL, rem1]; exact ih
  | x :: r, b => by
    rw [minL, wcL_cons]
    by_cases h : x ∈ b
    · rw [if_pos (any_eq.2 h), if_pos h, minL_wcL r _]
    · rw [if_neg (fun e => h (any_eq.1 e)), if_neg h, minL_wcL r b]

/-- Every element of the second list has a greater one in the first. -/
def Od.domB (o : Od) (x y : List Tm) : Bool := y.all fun t => x.any fun s => kbo o s t
def Od.mulC (o : Od) (a b : List Tm) : Int := codeR ((wcL a b).isEmpty && (wcL b a).isEmpty) (o.domB (wcL a b) (wcL b a)) (o.domB (wcL b a) (wcL a b))
def Od.mulOk (o : Od) (a b : List Tm) : Bool := (decide (a.length ≤ 8) && decide (b.length ≤ 8)) && (o.okTs a && o.okTs b)
def Od.mulR (o : Od) (a b : List Tm) : Int := if o.mulOk a b then o.mulC a b else 0

theorem wcL_mem {b : List Tm} : ∀ {l : List Tm} {y : Tm}, y ∈ wcL l b → y ∈ l := by
  induction b with
  | nil => intro l y h; exact h
  | cons t r ih => intro l y h; rw [wcL] at h; exact rem1_mem (ih h)

/-- The special constant, which is less than every term. -/
def zT : Tm := .node ByteArray.empty []
/-- An element of a multiset: a term that is covered, or the special constant. -/
def Od.OkZ (o : Od) (t : Tm) : Prop := (o.OkP t ∧ o.Ok t ∧ t.name.size ≠ 0) ∨ t = zT

theorem varB_pos {s : ByteArray} (h : varB s = true) : s.size ≠ 0 := by
  intro e; rw [varB_short (by omega)] at h; cases h
theorem symB_pos {s : ByteArray} (h : symB s = true) : s.size ≠ 0 := by
  intro e; unfold symB at h; rw [dif_neg (by omega)] at h; cases h
theorem nodesB_pos {t : Tm} (h : t.nodesB = true) : t.name.size ≠ 0 := by
  cases hv : varB t.name with
  | true => exact varB_pos hv
  | false =>
    rw [Tm.nodesB_sym hv, Bool.and_eq_true] at h
    exact symB_pos h.1
theorem okZ_of {o : Od} {t : Tm} (hw : t.wt ≤ 1048576) (h : (goodB t && o.cov t) = true) : o.OkZ t := by
  have h0 := h
  rw [Bool.and_eq_true] at h0
  have h1 := h0.1
  unfold goodB at h1
  rw [Bool.and_eq_true] at h1
  have hz : t.sz ≤ 30 := by
    have e2 := h1.1
    unfold fitsB at e2
    simp only [Bool.and_eq_true, decide_eq_true_eq] at e2
    exact e2.1
  exact .inl ⟨⟨⟨hw, hz⟩, .inl h1.2⟩, ⟨hw, hz, h0.2⟩, nodesB_pos h1.2⟩
theorem Od.OkZ.P {o : Od} {t : Tm} (h : o.OkZ t) : o.OkP t := by
  rcases h with h | rfl
  · exact h.1
  · exact ⟨⟨by simp [zT, Tm.wt, Tm.wtL], by simp [zT, Tm.sz, Tm.szL]⟩, .inr rfl⟩
theorem Od.OkZ.wt {o : Od} {t : Tm} (h : o.OkZ t) : t.wt ≤ 1048576 := h.P.ok.wt
theorem Od.OkZ.ok {o : Od} {t : Tm} (h : o.OkZ t) (hn : t.name.size ≠ 0) : o.Ok t := by
  rcases h with h | rfl
  · exact h.2.1
  · exact absurd rfl hn
theorem Od.OkZ.zero {o : Od} {t : Tm} (h : o.OkZ t) (hn : t.name.size = 0) : t = zT := by
  rcases h with h | rfl
  · exact absurd hn h.2.2
  · rfl

theorem zT_var : varB zT.name = false := varB_short (by show ¬ (1 ≤ (0 : Nat) ∧ _); omega)
theorem zT_rk {o : Od} (hf : o.Fine) : rk o.sy zT.name = -1 := rk_no fun hm => by
  obtain ⟨i, hi⟩ := List.getElem?_of_mem hm
  exact absurd rfl (symB_pos (hf.sym hi))
theorem zT_wt {o : Od} (hf : o.Fine) : o.wT zT = 0 := by
  rw [Od.wT_eq, Od.wN_no zT_var (zT_rk hf)]
  simp [zT, Tm.args, Tm.ndsL, Od.wNs]
theorem okZ_wt {o : Od} (hf : o.Fine) {t : Tm} (h : o.OkZ t) (hn : t.name.size ≠ 0) : 1 ≤ o.wT t := by
  have hc := (h.ok hn).cov
  rw [Od.cov_eq, Bool.and_eq_true] at hc
  have h0 := (hf.wNs_le (Tm.ndsL t.args)).1
  rw [Od.wT_eq]
  have h1 : 1 ≤ o.wN t := by
    cases hv : varB t.name with
    | true => rw [Od.wN_var hv]; exact hf.v1
    | false =>
      have hn2 := hc.1
      unfold Od.nodeC at hn2
      rw [hv, Bool.false_or, decide_eq_true_eq] at hn2
      rcases rk_ways o.sy t.name with ⟨_, e⟩ | ⟨k, e, hk, _⟩
      · omega
      · have hkw : k < o.ws.length := by rw [hf.wn]; exact hk
        obtain ⟨x, hx⟩ : ∃ x, o.ws[k]? = some x := ⟨_, List.getElem?_eq_getElem hkw⟩
        rw [Od.wN_at hv e hx]
        exact (hf.weight hx).1
  omega
theorem bal_zr (s : Tm) : bal s zT = true := by
  unfold bal
  rw [Tm.into_eq, zT_var]
  simp [zT, Tm.args, Tm.intoL]
theorem kbo_zl {o : Od} (hf : o.Fine) {t : Tm} (h : o.OkZ t) : kbo o zT t = false := by
  cases hb : bal zT t with
  | false => exact kbo_bal hb
  | true =>
    by_cases hn : t.name.size = 0
    · have e := h.zero hn
      subst e
      have hr : o.root zT zT = 0 := by unfold Od.root; rw [if_pos rfl]; exact cmpR_eq rfl
      rw [kbo_args hb rfl zT_var zT_var hr]
      exact kboL_no o _ _ (fun j hj => absurd hj (by simp [zT, Tm.args]))
    · have h1 := okZ_wt hf h hn
      have h0 := zT_wt hf
      rw [kbo_wt hb (by omega)]
      simp; omega
theorem kbo_zr {o : Od} (hf : o.Fine) {s : Tm} (h : o.OkZ s) (hn : s.name.size ≠ 0) : kbo o s zT = true := by
  have h1 := okZ_wt hf h hn
  have h0 := zT_wt hf
  rw [kbo_wt (bal_zr s) (by omega)]
  simp; omega

/-- What the marks of used elements leave of a list. -/
def rst : List Bool → List Tm → List Tm
  | u :: us, x :: xs => if u then rst us xs else x :: rst us xs
  | _, _ => []
theorem rst_start : ∀ b : List Tm, rst (List.replicate b.length false) b = b
  | [] => rfl
  | x :: r => by rw [List.length_cons, List.replicate_succ, rst]; simp [rst_start r]
theorem rst_none {x : Tm} : ∀ {U : List Bool} {b : List Tm}, (∀ (j : Nat) z, U[j]? = some false → b[j]? = some z → eqT x z = false) → (rst U b).any (fun y => eqT x y) = false
  | [], b, _ => by cases b <;> rfl
  | u :: us, [], _ => rfl
  | u :: us, y :: b, h => by
    have ih := rst_none (U := us) (b := b) (x := x) (fun j z h1 h2 => h (j + 1) z (by simpa using h1) (by simpa using h2))
    cases u with
    | true => simpa [rst] using ih
    | false =>
      have h0 := h 0 y rfl rfl
      simp only [rst, Bool.false_eq_true, if_false, List.any_cons, h0, Bool.false_or]
      exact ih
theorem rst_set {x : Tm} : ∀ {U : List Bool} {b : List Tm} {k : Nat} {y : Tm}, U[k]? = some false → b[k]? = some y → (∀ (j : Nat) z, j < k → U[j]? = some false → b[j]? = some z → eqT x z = false) → eqT x y = true →
    rst (U.set k true) b = rem1 x (rst U b) ∧ (rst U b).any (fun y => eqT x y) = true
  | [], b, k, y, h, _, _, _ => by simp at h
  | u :: us, [], k, y, _, h, _, _ => by simp at h
  | u :: us, z :: b, 0, y, hu, hb, _, he => by
    have e1 : u = false := by simpa using hu
    have e2 : z = y := by simpa using hb
    subst e1; subst e2
    constructor
    · simp only [List.set_cons_zero, rst, if_true, Bool.false_eq_true, if_false]
      rw [rem1, if_pos (by rw [eqT_symm]; exact he)]
    · simp [rst, he]
  | u :: us, z :: b, k + 1, y, hu, hb, hq, he => by
    have ih := rst_set (U := us) (b := b) (k := k) (y := y) (x := x) (by simpa using hu) (by simpa using hb) (fun j z hj h1 h2 => hq (j + 1) z (by omega) (by simpa using h1) (by simpa using h2)) he
    cases u with
    | true => simpa [rst] using ih
    | false =>
      have h0 := hq 0 z (by omega) rfl rfl
      constructor
      · simp only [List.set_cons_succ, rst, Bool.false_eq_true, if_false]
        rw [rem1, if_neg (by rw [eqT_symm, h0]; decide), ih.1]
      · simp only [rst, Bool.false_eq_true, if_false, List.any_cons, ih.2, Bool.or_true]

theorem minL_hit {x : Tm} {r b : List Tm} {U : List Bool} (h : (rst U b).any (fun y => eqT x y) = true) : minL (x :: r) (rst U b) = minL r (rem1 x (rst U b)) := by rw [minL, if_pos h]
theorem minL_miss {x : Tm} {r b : List Tm} {U : List Bool} (h : (rst U b).any (fun y => eqT x y) = false) : minL (x :: r) (rst U b) = x :: minL r (rst U b) := by rw [minL, if_neg (by rw [h]; decide)]

end Go.Proofs.YtohalpafmcobpaaGreat

/- The model's removal of common terms, and its comparison of elements: contracts, for orderings and lists of terms of at most 1048576 names' bytes and elements. -/
namespace Go.Proofs.YtohalpafmcobpaaGreat
open Go.RowKit
set_option linter.unusedVariables false
set_option linter.unusedSimpArgs false

theorem size_zero0 {s : ByteArray} (h : s.size = 0) : s = ⟨#[]⟩ := by
  apply ByteArray.ext; exact Array.eq_empty_of_size_eq_zero h
theorem str_none0 {s : ByteArray} (h : s.size = 0) : s.toList.isEmpty = true ∧ s.toList = [] := by
  rw [size_zero0 h, ByteArray.toList_eq]; exact ⟨rfl, rfl⟩
theorem str_some0 {s : ByteArray} (h : ¬ s.size = 0) : s.toList.isEmpty = false ∧ ¬ s.toList = [] := by
  have e : s.toList.length = s.size := by rw [ByteArray.toList_eq]; simp
  constructor
  · cases hh : s.toList with
    | nil => rw [hh] at e; simp at e; omega
    | cons a b => rfl
  · intro hh; rw [hh] at e; simp at e; omega

/-- Two rows of different element types lie apart. -/
theorem rows_far {w : World} {b1 b2 n1 n2 s1 s2 : Nat} {t1 t2 : TypeId} {v1 v2 : Value} {xs1 xs2 : List Value} (ht : t1 ≠ t2) (h1 : w.ownsRow b1 t1 s1 v1 n1 xs1) (h2 : w.ownsRow b2 t2 s2 v2 n2 xs2) : v1.ownBlock = none ∨ v1.ownBlock ≠ v2.ownBlock := by
  rcases h1.2 with ⟨rfl, _⟩ | ⟨g, cap, cur, rfl, _, hg, _⟩
  · exact .inl rfl
  · refine .inr fun e => ?_
    rcases h2.2 with ⟨rfl, _⟩ | ⟨g', cap', cur', rfl, _, hg', _⟩
    · simp [Value.ownBlock] at e
    · obtain rfl : g = g' := by simpa [Value.ownBlock] using e
      rw [hg] at hg'
      cases hg'
      exact ht rfl

set_option maxRecDepth 100000 in
set_option maxHeartbeats 4000000 in
theorem l6Abv_any (o : Od) (ho : o.wt ≤ 1048576) (hf : o.Fine) (s t : Tm) (w : World) (sv wv va vb : Value) (hv : OdV w sv wv o) (hs : TmS w va s.args) (ht : TmS w vb t.args) (hos : o.OkZ s) (hot : o.OkZ t) :
    Calls Tryz.prog 78 #[.agg #[sv, wv, .int .i64 o.va], .agg #[.string s.name, va], .agg #[.string t.name, vb]] w (Ans (.bool (kbo o s t)) w) := by
  obtain ⟨sa, sc, wa, wc, rfl, rfl⟩ := hv.open
  obtain ⟨pa, ca, rfl⟩ := hs.is_slice
  obtain ⟨pb, cb, rfl⟩ := ht.is_slice
  obtain ⟨w1, hw1⟩ : ∃ w1, ((w.alloc (.cells #[.slice sa o.sy.length sc, .slice wa o.ws.length wc, .int .i64 o.va] 35)).alloc (.cells #[.string s.name, .slice pa s.args.length ca] 39)).alloc (.cells #[.string t.name, .slice pb t.args.length cb] 39) = w1 := ⟨_, rfl⟩
  have HB : Hid (Below w.heap.size w w1) := Lib.hid (by rw [← hw1]; exact (((Below.refl w.heap.size w).alloc (Nat.le_refl _) _).alloc (by simp) _).alloc (by simp; omega) _)
  have H3 : Hid (OdB w1 w.heap.size (.slice sa o.sy.length sc) (.slice wa o.ws.length wc) o) := Lib.hid (by rw [← hw1]; exact ((thr_new w _ _ _ _ _ rfl).alloc _).alloc _)
  have HS : Hid (Two w1 (w.heap.size + 1) (.string s.name) (.slice pa s.args.length ca)) := Lib.hid (by rw [← hw1]; exact (two_new _ _ _ 39 (w.heap.size + 1) (by simp)).alloc _)
  have HT : Hid (Two w1 (w.heap.size + 1 + 1) (.string t.name) (.slice pb t.args.length cb)) := Lib.hid (by rw [← hw1]; exact two_new _ _ _ 39 (w.heap.size + 1 + 1) (by simp))
  have CK : Hid (∀ (h1 : s.name.size ≠ 0) (h2 : t.name.size ≠ 0), Calls Tryz.prog 116 #[.agg #[.slice sa o.sy.length sc, .slice wa o.ws.length wc, .int .i64 o.va], .agg #[.string s.name, .slice pa s.args.length ca], .agg #[.string t.name, .slice pb t.args.length cb]] w1 (Ans (.bool (kbo o s t)) w1)) := Lib.hid (fun h1 h2 => l6KBO_any o ho hf s t w1 _ _ _ _ (hv.kept HB.out) (hs.kept HB.out) (ht.kept HB.out) (hos.ok h1) (hot.ok h2))
  have HOS := Lib.hid hos
  have HOT := Lib.hid hot
  have HF := Lib.hid hf
  clear hv hs ht hos hot hf
  by_cases hn : s.name.size = 0
  · have HE : Hid (kbo o s t = false) := Lib.hid (by rw [HOS.out.zero hn]; exact kbo_zl HF.out HOT.out)
    obtain ⟨e1, e2⟩ := str_none0 hn
    clear hn
    go_enter Tryz.func78, Tryz.ntmps78
    obtain ⟨b0, b1, b2, b3⟩ := H3.out
    obtain ⟨s0, s1, s2⟩ := HS.out
    obtain ⟨t0, t1, t2⟩ := HT.out

    go_wp2
    go_ret
    exact ⟨ret_bool HE.out.symm, HB.out⟩
  · by_cases hm : t.name.size = 0
    · have HE : Hid (kbo o s t = true) := Lib.hid (by rw [HOT.out.zero hm]; exact kbo_zr HF.out HOS.out hn)
      obtain ⟨e1, e2⟩ := str_some0 hn
      obtain ⟨e3, e4⟩ := str_none0 hm
      clear hn hm
      go_enter Tryz.func78, Tryz.ntmps78
      obtain ⟨b0, b1, b2, b3⟩ := H3.out
      obtain ⟨s0, s1, s2⟩ := HS.out
      obtain ⟨t0, t1, t2⟩ := HT.out

      go_wp2
      go_ret
      exact ⟨ret_bool HE.out.symm, HB.out⟩
    · obtain ⟨e1, e2⟩ := str_some0 hn
      obtain ⟨e3, e4⟩ := str_some0 hm
      have CK2 := Lib.hid (CK.out hn hm)
      clear hn hm
      go_enter Tryz.func78, Tryz.ntmps78
      obtain ⟨b0, b1, b2, b3⟩ := H3.out
      obtain ⟨s0, s1, s2⟩ := HS.out
      obtain ⟨t0, t1, t2⟩ := HT.out

      go_wp2_with fail
      refine CK2.out.mono ?_
      rintro e w2 ⟨rfl, hb⟩
      replace HB := Lib.hid (carry_below HB.out (Nat.le_refl _) hb)
      clear hb
      go_wp2
      go_ret
      exact ⟨rfl, HB.out⟩

/-! ### The removal of common terms -/
theorem infoBool : (Tryz.prog.info? 4).map (fun i => (i.zero, i.size, i.bytes)) = some (some (.bool false), 1, 1) := by kernel_rfl
theorem made_bools (n : Nat) : (madeCells (Value.bool false).cells n).toList = (List.replicate n false).map Value.bool := by
  unfold madeCells
  apply List.ext_getElem
  · simp
  · intro i h1 h2
    simp [Value.cells, Nat.mod_one]
theorem bools_at {U : List Bool} {j : Nat} {u : Bool} (h : U[j]? = some u) : (U.map Value.bool)[j]? = some (.bool u) := by rw [List.getElem?_map, h]; rfl
theorem bools_set (U : List Bool) (j : Nat) (u : Bool) : (U.map Value.bool).set j (.bool u) = (U.set j u).map Value.bool := by rw [List.map_set]

def MinEnd (a b : List Tm) (w : World) (e : Ending) (w' : World) : Prop := ∃ v L, e = .returned v ∧ RowT w w.heap.size w' v L ∧ tmsE L = wcL a b ∧ Below w.heap.size w w'
/-- What the loop keeps. -/
def MinR (a b : List Tm) (w : World) (k : Nat) (nm : Value) (wr : World) : Prop :=
  ∃ (U : List Bool) (L : List (Tm × Value)), wr.ownsRow w.heap.size 4 1 (.slice (some ⟨w.heap.size, 0, none⟩) b.length b.length) b.length (U.map Value.bool) ∧ U.length = b.length ∧ RowT w w.heap.size wr nm L ∧ tmsE L ++ minL (a.drop k) (rst U b) = wcL a b ∧ L.length ≤ k

/-- The marks leave no element that is the same. -/
def NoneB (s : Tm) (U : List Bool) (b : List Tm) (j : Nat) : Prop := ∀ (i : Nat) z, i < j → U[i]? = some false → b[i]? = some z → eqT s z = false
def AtR (s : Tm) (U : List Bool) (b : List Tm) (j : Nat) (at_ : Value) : Prop :=
  (at_ = .int .i64 (-1) ∧ NoneB s U b j) ∨ ∃ (m : Nat) (y : Tm), at_ = .int .i64 m ∧ U[m]? = some false ∧ b[m]? = some y ∧ NoneB s U b m ∧ eqT s y = true ∧ m < b.length

theorem minL_at {a : List Tm} {k : Nat} {s : Tm} {b' : List Tm} (h : a[k]? = some s) : minL (a.drop k) b' = minL (s :: a.drop (k + 1)) b' := by
  obtain ⟨hk, e⟩ := List.getElem?_eq_some_iff.1 h
  rw [List.drop_eq_getElem_cons hk, e]

set_option maxRecDepth 100000 in
set_option maxHeartbeats 8000000 in
theorem l6Min_any (a b : List Tm) (w : World) (va vb : Value) (ha : TmS w va a) (hb : TmS w vb b) (hla : a.length ≤ 1048576) (hlb : b.length ≤ 1048576) (hwa : ∀ s ∈ a, s.wt ≤ 1048576) (hwb : ∀ s ∈ b, s.wt ≤ 1048576) :
    Calls Tryz.prog 77 #[va, vb] w (MinEnd a b w) := by
  obtain ⟨pa, ca, rfl⟩ := ha.is_slice
  obtain ⟨pb, cb, rfl⟩ := hb.is_slice
  obtain ⟨i0, hi, hz0, hz1, hz2⟩ := info_parts infoBool
  obtain ⟨i1, gi, gz0, gz1, gz2⟩ := info_parts infoTm
  have HA := Lib.hid ha
  have HBV := Lib.hid hb
  have HWA := Lib.hid hwa
  have HWB := Lib.hid hwb
  clear ha hb hwa hwb
  go_enter Tryz.func77, Tryz.ntmps77
  go_wp2_with (at_make; refine wpList_make_full _ rfl _ _ 146 rfl w.heap.size 4 i0 (.bool false) 1 Tryz.underlying146 hi hz0 hz1 .i64 .i64 _ _ b.length rfl rfl rfl rfl (by rw [hz2]; omega) (by unfold maxLen; omega) (Nat.le_refl _) ?_; intro w1 hown1 hg1; rw [made_bools, Nat.mul_one] at hown1; have HU1 := Lib.hid hown1; have HB1 := Lib.hid ((Below.refl w.heap.size w).grown hg1 (Nat.le_refl _) (by simp)); clear hown1 hg1)
  have HR1 : Hid (MinR a b w 0 (.slice (some ⟨w1.heap.size, 0, none⟩) 0 0) (w1.alloc (.cells #[] 39))) := Lib.hid ⟨List.replicate b.length false, [], HU1.out.alloc _, by simp, ⟨World.ownsRow_made w1 #[] 0 HB1.out.size (by decide) (by simp), fun e he => by cases he⟩, by rw [rst_start, minL_wcL]; rfl, Nat.le_refl _⟩
  have HB2 : Hid (Below w.heap.size w (w1.alloc (.cells #[] 39))) := Lib.hid (HB1.out.alloc HB1.out.size _)
  obtain ⟨w2, hw2⟩ : ∃ w2, w1.alloc (.cells #[] 39) = w2 := ⟨_, rfl⟩
  rw [hw2] at HR1 HB2 ⊢
  clear hw2 HU1 HB1
  go_loopw [6, 7] (fun tv i wr => ∃ (k : Nat) (nm : Value), k ≤ a.length ∧ i = .int .i64 k ∧ nm = tv ∧ MinR a b w k nm wr ∧ Below w.heap.size w wr) (fun _ i _ => a.length - (intOf i).toNat)
  case atStart => exact ⟨0, _, Nat.zero_le _, rfl, rfl, HR1.out, HB2.out⟩
  case round =>
    obtain ⟨k, nm, hk, rfl, rfl, hmr, hbel⟩ := hrel
    obtain ⟨wo, hwo⟩ : ∃ wo : World, wo = wr := ⟨_, rfl⟩
    rw [← hwo] at hmr hbel ⊢
    clear hwo
    obtain ⟨U, L, hU, hul, hrt, hmin, hll⟩ := hmr
    have HU := Lib.hid hU
    have HUL := Lib.hid hul
    have HRT := Lib.hid hrt
    have HMIN := Lib.hid hmin
    have HB := Lib.hid hbel
    obtain ⟨vp, vc, rfl⟩ : ∃ p c, nm = .slice p L.length c := by
      rcases hrt.row.2 with ⟨rfl, h0⟩ | ⟨g, cap, cur, rfl, _⟩
      · exact ⟨none, 0, by rw [h0]⟩
      · exact ⟨_, _, rfl⟩
    clear hU hul hrt hmin hbel
    by_cases hlt : k < a.length
    · obtain ⟨s, hs⟩ : ∃ s, a[k]? = some s := ⟨_, List.getElem?_eq_getElem hlt⟩
      obtain ⟨d, dff, rfl, vx, c0, c1, hvx⟩ := HA.out.get hs
      obtain ⟨px, cx, rfl⟩ := hvx.is_slice
      have HS := Lib.hid hs
      have HVX := Lib.hid hvx
      have HC0 := Lib.hid (carry_cell c0 HB.out)
      have HC1 := Lib.hid (carry_cell c1 HB.out)
      clear hs hvx c0 c1
      go_wp2
      go_loopw [8, 9] (fun atv i wq => ∃ (j : Nat) (av : Value), j ≤ b.length ∧ i = .int .i64 j ∧ av = atv ∧ AtR s U b j av ∧ Below wo.heap.size wo wq) (fun _ i _ => b.length - (intOf i).toNat)
      case atStart => exact ⟨0, _, Nat.zero_le _, rfl, rfl, .inl ⟨rfl, fun i z hi => absurd hi (Nat.not_lt_zero _)⟩, Below.refl _ _⟩
      case round =>
        obtain ⟨j, av, hj, rfl, rfl, hat, hbq⟩ := hrel
        have HQ := Lib.hid hbq
        have HBR := Lib.hid (carry_below HB.out (Nat.le_refl _) hbq)
        have HUR := Lib.hid (own_kept HU.out hbq)
        have HRR := Lib.hid (HRT.out.kept hbq)
        have x0 := carry_cell HC0.out hbq
        have x1 := carry_cell HC1.out hbq
        clear hbq
        rcases hat with ⟨rfl, hno⟩ | ⟨m, y, rfl, hum, hbm, hno, heq, hmb⟩
        · have HNO := Lib.hid hno
          clear hno
          by_cases hjl : j < b.length
          · obtain ⟨y, hy⟩ : ∃ y, b[j]? = some y := ⟨_, List.getElem?_eq_getElem hjl⟩
            obtain ⟨u, hu⟩ : ∃ u, U[j]? = some u := ⟨_, List.getElem?_eq_getElem (by have := HUL.out; omega)⟩
            obtain ⟨g, gff, rfl, vy, y0, y1, hvy⟩ := HBV.out.get hy
            obtain ⟨py, cy, rfl⟩ := hvy.is_slice
            replace y0 := carry_cell y0 HBR.out
            replace y1 := carry_cell y1 HBR.out
            have u0 : wr.cell? ⟨w.heap.size, j, none⟩ = some (.bool u) := by rw [HUR.out.cellAt j (by omega)]; exact bools_at hu
            have HY := Lib.hid hy
            have HUU := Lib.hid hu
            have CS : Hid (∀ W, Below wr.heap.size wr W → Calls Tryz.prog 115 #[.agg #[.string s.name, .slice px s.args.length cx], .agg #[.string y.name, .slice py y.args.length cy]] W (Ans (.bool (eqT s y)) W)) := Lib.hid (fun W hW => l2Same_any s y W _ _ (HVX.out.kept (HBR.out.trans (hW.mono HBR.out.size))) (hvy.kept (HBR.out.trans (hW.mono HBR.out.size))) (HWA.out s (mem_of_at HS.out)) (HWB.out y (mem_of_at HY.out)))
            clear hy hu hvy
            cases u with
            | true =>
              go_wp2_with fail
              have hB0 : Below wr.heap.size wr wr.drew := (Below.refl _ _).drew
              refine wp_region_held_drew (S := (fun w' => w'.cell? ⟨w.heap.size, j, none⟩ = some (.bool true) ∧ Below wr.heap.size wr w')) (by kernel_rfl) (by first | exact ⟨by assumption, by assumption⟩ | go_keep) (fun hHeld => ?_)
              refine takeYesE 0 (v := ?_) rfl (by kernel_rfl) (by kernel_rfl) (by kernel_rfl) (by rfl) (fun _ _ _ h => h) (by assumption) ?_ ?_; rotate_left; (intro w hSw; (try dsimp only at hSw); go_simp; try (with_reducible rfl))
              try simp only [Act.put, List.getElem_toArray, List.getElem_cons_zero, List.setIfInBounds_toArray, List.set_cons_zero, List.set_cons_succ]
              refine takeYesE 1 (v := ?_) rfl (by kernel_rfl) (by kernel_rfl) (by kernel_rfl) (by rfl) (fun _ _ _ h => h) (by assumption) ?_ ?_; rotate_left; (intro w hSw; (try dsimp only at hSw); go_simp; try (with_reducible rfl))
              try simp only [Act.put, List.getElem_toArray, List.getElem_cons_zero, List.getElem_cons_succ, List.setIfInBounds_toArray, List.set_cons_zero, List.set_cons_succ]
              refine takeYesE 2 (v := ?_) rfl (by kernel_rfl) (by kernel_rfl) (by kernel_rfl) (by rfl) (fun _ _ _ h => h) (by assumption) ?_ ?_; rotate_left; (intro w hSw; (try dsimp only at hSw); go_simp; try (with_reducible rfl))
              try simp only [Act.put, List.getElem_toArray, List.getElem_cons_zero, List.getElem_cons_succ, List.setIfInBounds_toArray, List.set_cons_zero, List.set_cons_succ]
              refine takeYesE 3 (v := ?_) rfl (by kernel_rfl) (by kernel_rfl) (by kernel_rfl) (by rfl) (fun _ _ _ h => h) (by assumption) ?_ ?_; rotate_left; (intro w hSw; (try dsimp only at hSw); go_simp; try (with_reducible rfl))
              try simp only [Act.put, List.getElem_toArray, List.getElem_cons_zero, List.getElem_cons_succ, List.setIfInBounds_toArray, List.set_cons_zero, List.set_cons_succ]
              refine takeYesE 4 (v := ?_) rfl (by kernel_rfl) (by kernel_rfl) (by kernel_rfl) (by rfl) (fun _ _ _ h => h) (by assumption) ?_ ?_; rotate_left; (intro w hSw; (try dsimp only at hSw); go_simp; try (with_reducible rfl))
              try simp only [Act.put, List.getElem_toArray, List.getElem_cons_zero, List.getElem_cons_succ, List.setIfInBounds_toArray, List.set_cons_zero, List.set_cons_succ]
              refine takeYesE 5 (v := ?_) rfl (by kernel_rfl) (by kernel_rfl) (by kernel_rfl) (by rfl) (fun _ _ _ h => h) (by assumption) ?_ ?_; rotate_left; (intro w hSw; (try dsimp only at hSw); go_simp; try (with_reducible rfl))
              try simp only [Act.put, List.getElem_toArray, List.getElem_cons_zero, List.getElem_cons_succ, List.setIfInBounds_toArray, List.set_cons_zero, List.set_cons_succ]
              refine takeNoE 6 rfl (by kernel_rfl) (by kernel_rfl) (by kernel_rfl) (by rfl) (fun _ _ _ h => h) (by assumption) ?_
              try simp only [Act.put, List.getElem_toArray, List.getElem_cons_zero, List.getElem_cons_succ, List.setIfInBounds_toArray, List.set_cons_zero, List.set_cons_succ]
              refine takeNoE 7 rfl (by kernel_rfl) (by kernel_rfl) (by kernel_rfl) (by rfl) (fun _ _ _ h => h) (by assumption) ?_
              try simp only [Act.put, List.getElem_toArray, List.getElem_cons_zero, List.getElem_cons_succ, List.setIfInBounds_toArray, List.set_cons_zero, List.set_cons_succ]
              refine takeNoE 8 rfl (by kernel_rfl) (by kernel_rfl) (by kernel_rfl) (by rfl) (fun _ _ _ h => h) (by assumption) ?_
              try simp only [Act.put, List.getElem_toArray, List.getElem_cons_zero, List.getElem_cons_succ, List.setIfInBounds_toArray, List.set_cons_zero, List.set_cons_succ]
              refine takeNoE 9 rfl (by kernel_rfl) (by kernel_rfl) (by kernel_rfl) (by rfl) (fun _ _ _ h => h) (by assumption) ?_
              try simp only [Act.put, List.getElem_toArray, List.getElem_cons_zero, List.getElem_cons_succ, List.setIfInBounds_toArray, List.set_cons_zero, List.set_cons_succ]
              refine takeNoE 10 rfl (by kernel_rfl) (by kernel_rfl) (by kernel_rfl) (by rfl) (fun _ _ _ h => h) (by assumption) ?_
              try simp only [Act.put, List.getElem_toArray, List.getElem_cons_zero, List.getElem_cons_succ, List.setIfInBounds_toArray, List.set_cons_zero, List.set_cons_succ]
              refine takeNoE 11 rfl (by kernel_rfl) (by kernel_rfl) (by kernel_rfl) (by rfl) (fun _ _ _ h => h) (by assumption) ?_
              try simp only [Act.put, List.getElem_toArray, List.getElem_cons_zero, List.getElem_cons_succ, List.setIfInBounds_toArray, List.set_cons_zero, List.set_cons_succ]
              refine takeNoE 12 rfl (by kernel_rfl) (by kernel_rfl) (by kernel_rfl) (by rfl) (fun _ _ _ h => h) (by assumption) ?_
              try simp only [Act.put, List.getElem_toArray, List.getElem_cons_zero, List.getElem_cons_succ, List.setIfInBounds_toArray, List.set_cons_zero, List.set_cons_succ]
              refine takeNoE 13 rfl (by kernel_rfl) (by kernel_rfl) (by kernel_rfl) (by rfl) (fun _ _ _ h => h) (by assumption) ?_
              try simp only [Act.put, List.getElem_toArray, List.getElem_cons_zero, List.getElem_cons_succ, List.setIfInBounds_toArray, List.set_cons_zero, List.set_cons_succ]
              refine takeNoE 14 rfl (by kernel_rfl) (by kernel_rfl) (by kernel_rfl) (by rfl) (fun _ _ _ h => h) (by assumption) ?_
              try simp only [Act.put, List.getElem_toArray, List.getElem_cons_zero, List.getElem_cons_succ, List.setIfInBounds_toArray, List.set_cons_zero, List.set_cons_succ]
              refine takeYesE 15 (v := ?_) rfl (by kernel_rfl) (by kernel_rfl) (by kernel_rfl) (by rfl) (fun _ _ _ h => h) (by assumption) ?_ ?_; rotate_left; (intro w hSw; (try dsimp only at hSw); go_simp; try (with_reducible rfl))
              try simp only [Act.put, List.getElem_toArray, List.getElem_cons_zero, List.getElem_cons_succ, List.setIfInBounds_toArray, List.set_cons_zero, List.set_cons_succ]
              refine wpAnyH_done (by kernel_rfl) ?_ _
              have HN : Hid (NoneB s U b (j + 1)) := Lib.hid (fun i z hi h1 h2 => by
                by_cases e : i = j
                · subst e; rw [HUU.out] at h1; cases h1
                · exact HNO.out i z (by omega) h1 h2)
              have HQD := Lib.hid HQ.out.drew
              clear hB0 x0 x1 y0 y1 u0
              go_wp2
              go_roundw
              case rel => exact ⟨j + 1, _, by omega, by go_num, rfl, .inl ⟨rfl, HN.out⟩, HQD.out⟩
              case measure => simp [intOf]; omega
            | false =>
              go_wp2_with fail
              have hB0 : Below wr.heap.size wr wr.drew := (Below.refl _ _).drew
              refine wp_region_held_drew (S := (fun w' => w'.cell? ⟨w.heap.size, j, none⟩ = some (.bool false) ∧ w'.cell? ⟨d, dff + k * 2, none⟩ = some (.string s.name) ∧ w'.cell? ⟨d, dff + k * 2 + 1, none⟩ = some (.slice px s.args.length cx) ∧ w'.cell? ⟨g, gff + j * 2, none⟩ = some (.string y.name) ∧ w'.cell? ⟨g, gff + j * 2 + 1, none⟩ = some (.slice py y.args.length cy) ∧ Below wr.heap.size wr w')) (by kernel_rfl) (by first | exact ⟨by assumption, by assumption, by assumption, by assumption, by assumption, by assumption⟩ | go_keep) (fun hHeld => ?_)
              refine takeYesE 0 (v := ?_) rfl (by kernel_rfl) (by kernel_rfl) (by kernel_rfl) (by rfl) (fun _ _ _ h => h) (by assumption) ?_ ?_; rotate_left; (intro w hSw; (try dsimp only at hSw); go_simp; try (with_reducible rfl))
              try simp only [Act.put, List.getElem_toArray, List.getElem_cons_zero, List.setIfInBounds_toArray, List.set_cons_zero, List.set_cons_succ]
              refine takeYesE 1 (v := ?_) rfl (by kernel_rfl) (by kernel_rfl) (by kernel_rfl) (by rfl) (fun _ _ _ h => h) (by assumption) ?_ ?_; rotate_left; (intro w hSw; (try dsimp only at hSw); go_simp; try (with_reducible rfl))
              try simp only [Act.put, List.getElem_toArray, List.getElem_cons_zero, List.getElem_cons_succ, List.setIfInBounds_toArray, List.set_cons_zero, List.set_cons_succ]
              refine takeYesE 2 (v := ?_) rfl (by kernel_rfl) (by kernel_rfl) (by kernel_rfl) (by rfl) (fun _ _ _ h => h) (by assumption) ?_ ?_; rotate_left; (intro w hSw; (try dsimp only at hSw); go_simp; try (with_reducible rfl))
              try simp only [Act.put, List.getElem_toArray, List.getElem_cons_zero, List.getElem_cons_succ, List.setIfInBounds_toArray, List.set_cons_zero, List.set_cons_succ]
              refine takeYesE 3 (v := ?_) rfl (by kernel_rfl) (by kernel_rfl) (by kernel_rfl) (by rfl) (fun _ _ _ h => h) (by assumption) ?_ ?_; rotate_left; (intro w hSw; (try dsimp only at hSw); go_simp; try (with_reducible rfl))
              try simp only [Act.put, List.getElem_toArray, List.getElem_cons_zero, List.getElem_cons_succ, List.setIfInBounds_toArray, List.set_cons_zero, List.set_cons_succ]
              refine takeYesE 4 (v := ?_) rfl (by kernel_rfl) (by kernel_rfl) (by kernel_rfl) (by rfl) (fun _ _ _ h => h) (by assumption) ?_ ?_; rotate_left; (intro w hSw; (try dsimp only at hSw); go_simp; try (with_reducible rfl))
              try simp only [Act.put, List.getElem_toArray, List.getElem_cons_zero, List.getElem_cons_succ, List.setIfInBounds_toArray, List.set_cons_zero, List.set_cons_succ]
              refine takeYesE 5 (v := ?_) rfl (by kernel_rfl) (by kernel_rfl) (by kernel_rfl) (by rfl) (fun _ _ _ h => h) (by assumption) ?_ ?_; rotate_left; (intro w hSw; (try dsimp only at hSw); go_simp; try (with_reducible rfl))
              try simp only [Act.put, List.getElem_toArray, List.getElem_cons_zero, List.getElem_cons_succ, List.setIfInBounds_toArray, List.set_cons_zero, List.set_cons_succ]
              refine takeYesE 6 (v := ?_) rfl (by kernel_rfl) (by kernel_rfl) (by kernel_rfl) (by rfl) (fun _ _ _ h => h) (by assumption) ?_ ?_; rotate_left; (intro w hSw; (try dsimp only at hSw); go_simp; try (with_reducible rfl))
              try simp only [Act.put, List.getElem_toArray, List.getElem_cons_zero, List.getElem_cons_succ, List.setIfInBounds_toArray, List.set_cons_zero, List.set_cons_succ]
              refine takeYesE 7 (v := ?_) rfl (by kernel_rfl) (by kernel_rfl) (by kernel_rfl) (by rfl) (fun _ _ _ h => h) (by assumption) ?_ ?_; rotate_left; (intro w hSw; (try dsimp only at hSw); go_simp; try (with_reducible rfl))
              try simp only [Act.put, List.getElem_toArray, List.getElem_cons_zero, List.getElem_cons_succ, List.setIfInBounds_toArray, List.set_cons_zero, List.set_cons_succ]
              refine takeYesE 8 (v := ?_) rfl (by kernel_rfl) (by kernel_rfl) (by kernel_rfl) (by rfl) (fun _ _ _ h => h) (by assumption) ?_ ?_; rotate_left; (intro w hSw; (try dsimp only at hSw); go_simp; try (with_reducible rfl))
              try simp only [Act.put, List.getElem_toArray, List.getElem_cons_zero, List.getElem_cons_succ, List.setIfInBounds_toArray, List.set_cons_zero, List.set_cons_succ]
              refine takeYesE 9 (v := ?_) rfl (by kernel_rfl) (by kernel_rfl) (by kernel_rfl) (by rfl) (fun _ _ _ h => h) (by assumption) ?_ ?_; rotate_left; (intro w hSw; (try dsimp only at hSw); go_simp; try (with_reducible rfl))
              try simp only [Act.put, List.getElem_toArray, List.getElem_cons_zero, List.getElem_cons_succ, List.setIfInBounds_toArray, List.set_cons_zero, List.set_cons_succ]
              refine takeYesE 10 (v := ?_) rfl (by kernel_rfl) (by kernel_rfl) (by kernel_rfl) (by rfl) (fun _ _ _ h => h) (by assumption) ?_ ?_; rotate_left; (intro w hSw; (try dsimp only at hSw); go_simp; try (with_reducible rfl))
              try simp only [Act.put, List.getElem_toArray, List.getElem_cons_zero, List.getElem_cons_succ, List.setIfInBounds_toArray, List.set_cons_zero, List.set_cons_succ]
              refine takeYesE 11 (v := ?_) rfl (by kernel_rfl) (by kernel_rfl) (by kernel_rfl) (by rfl) (fun _ _ _ h => h) (by assumption) ?_ ?_; rotate_left; (intro w hSw; (try dsimp only at hSw); go_simp; try (with_reducible rfl))
              try simp only [Act.put, List.getElem_toArray, List.getElem_cons_zero, List.getElem_cons_succ, List.setIfInBounds_toArray, List.set_cons_zero, List.set_cons_succ]
              refine takeYesE 12 (v := ?_) rfl (by kernel_rfl) (by kernel_rfl) (by kernel_rfl) (by rfl) (fun _ _ _ h => h) (by assumption) ?_ ?_; rotate_left; (intro w hSw; (try dsimp only at hSw); go_simp; try (with_reducible rfl))
              try simp only [Act.put, List.getElem_toArray, List.getElem_cons_zero, List.getElem_cons_succ, List.setIfInBounds_toArray, List.set_cons_zero, List.set_cons_succ]
              refine takeYesE 13 (v := ?_) rfl (by kernel_rfl) (by kernel_rfl) (by kernel_rfl) (by rfl) (fun _ _ _ h => h) (by assumption) ?_ ?_; rotate_left; (intro w hSw; (try dsimp only at hSw); go_simp; try (with_reducible rfl))
              try simp only [Act.put, List.getElem_toArray, List.getElem_cons_zero, List.getElem_cons_succ, List.setIfInBounds_toArray, List.set_cons_zero, List.set_cons_succ]
              refine wpAnyH_ready (rs := [14]) (by kernel_rfl) (by simp) ?_
              refine AllReadyH.cons rfl (fun K hK => ?_) AllReadyH.nil
              go_simp
              (go_at_call 115; refine (CS.out _ (by assumption)).mono ?_; rintro e uC ⟨rfl, hb⟩; have qz14_0 : uC.cell? ⟨w.heap.size, j, none⟩ = some (.bool false) := carry_cell' hb (by assumption); have qz14_1 : uC.cell? ⟨d, dff + k * 2, none⟩ = some (.string s.name) := carry_cell' hb (by assumption); have qz14_2 : uC.cell? ⟨d, dff + k * 2 + 1, none⟩ = some (.slice px s.args.length cx) := carry_cell' hb (by assumption); have qz14_3 : uC.cell? ⟨g, gff + j * 2, none⟩ = some (.string y.name) := carry_cell' hb (by assumption); have qz14_4 : uC.cell? ⟨g, gff + j * 2 + 1, none⟩ = some (.slice py y.args.length cy) := carry_cell' hb (by assumption); have huC : Below wr.heap.size wr uC := carry_below (by assumption) (Nat.le_refl _) hb; clear hb; go_wp2_with fail)
              refine hK.out _ _ (by first | exact ⟨by assumption, by assumption, by assumption, by assumption, by assumption, by assumption⟩ | go_keep) (fun hHeld => ?_)
              clear hK K
              try simp only [Act.put, List.getElem_toArray, List.getElem_cons_zero, List.getElem_cons_succ, List.setIfInBounds_toArray, List.set_cons_zero, List.set_cons_succ]
              refine takeYesE 15 (v := ?_) rfl (by kernel_rfl) (by kernel_rfl) (by kernel_rfl) (by rfl) (fun _ _ _ h => h) (by assumption) ?_ ?_; rotate_left; (intro w hSw; (try dsimp only at hSw); go_simp; try (with_reducible rfl))
              try simp only [Act.put, List.getElem_toArray, List.getElem_cons_zero, List.getElem_cons_succ, List.setIfInBounds_toArray, List.set_cons_zero, List.set_cons_succ]
              refine wpAnyH_done (by kernel_rfl) ?_ _
              have hb : Below wr.heap.size wr uC := by assumption
              have HQD := Lib.hid (carry_below HQ.out (Nat.le_refl _) hb)
              clear hb hB0
              cases he : eqT s y with
              | false =>
                have HN : Hid (NoneB s U b (j + 1)) := Lib.hid (fun i z hi h1 h2 => by
                  by_cases e : i = j
                  · subst e; rw [HY.out] at h2; injection h2 with h2; rw [← h2]; exact he
                  · exact HNO.out i z (by omega) h1 h2)
                clear he
                go_wp2
                go_roundw
                case rel => exact ⟨j + 1, _, by omega, by go_num, rfl, .inl ⟨rfl, HN.out⟩, HQD.out⟩
                case measure => simp [intOf]; omega
              | true =>
                have HE := Lib.hid he
                clear he
                go_wp2
                go_roundw
                case rel => exact ⟨j + 1, _, by omega, by go_num, rfl, .inr ⟨j, y, rfl, HUU.out, HY.out, HNO.out, HE.out, hjl⟩, HQD.out⟩
                case measure => simp [intOf]; omega
          · have HNA : Hid (minL (s :: a.drop (k + 1)) (rst U b) = s :: minL (a.drop (k + 1)) (rst U b)) := Lib.hid (minL_miss (rst_none (fun i z h1 h2 => HNO.out i z (by have := (List.getElem?_eq_some_iff.1 h2).1; omega) h1 h2)))
            have HNX : Hid (tmsE (L ++ [(s, .slice px s.args.length cx)]) ++ minL (a.drop (k + 1)) (rst U b) = wcL a b) := Lib.hid (by
              rw [← HMIN.out, minL_at HS.out, HNA.out]
              simp [tmsE])
            clear HNA
            have hLL : L.length ≤ 1048576 := by omega
            obtain ⟨xs, hxs⟩ : ∃ xs, xs = teF L := ⟨_, rfl⟩
            have HXS := Lib.hid hxs
            have HRW := HRR.out.row
            rw [← hxs] at HRW
            have HRW := Lib.hid HRW
            have hsz := HBR.out.size
            clear hxs
            go_wp2_with (at_builtin; go_loud (refine wpList_append_lies _ rfl _ _ 37 rfl w.heap.size 39 i1 (.agg #[.string ByteArray.empty, .slice none 0 0]) 2 40 Tryz.underlying37 gi gz0 gz1 gz2 rfl (by omega) (.slice vp L.length vc) L.length xs rfl (HRW.out.alloc _) ⟨wr.heap.size, 0, none⟩ 1 1 [.string s.name, .slice px s.args.length cx] rfl rfl (World.news_of_block (cs := #[.string s.name, .slice px s.args.length cx]) (t := 39) (fr := (0, 0)) (heap_alloc_new wr _)) (by simp [Value.oneCell']) (by omega) (by unfold maxLen; omega) (by omega) (by simp; omega) (wr.heap.size + 1) (by simp) ?_; intro g2 cap2 w3 hown3 hg3 hat3 hlt3; have HO3 := Lib.hid hown3; have HG3 := Lib.hid hg3; clear hown3 hg3 hat3 hlt3))
            have HU3 := Lib.hid ((HUR.out.alloc (.cells #[.string s.name, .slice px s.args.length cx] 39)).kept HG3.out (rows_far (by decide) (HUR.out.alloc (.cells #[.string s.name, .slice px s.args.length cx] 39)) (HRW.out.alloc (.cells #[.string s.name, .slice px s.args.length cx] 39))))
            have HB3 := Lib.hid ((HBR.out.alloc HBR.out.size (.cells #[.string s.name, .slice px s.args.length cx] 39)).grown HG3.out (by simp; omega) (fun r e => (HRW.out.lt r e).1))
            have HM3 : Hid (MinR a b w (k + 1) (.slice (some ⟨g2, 0, none⟩) (L.length + 1) cap2) w3) := Lib.hid ⟨U, L ++ [(s, .slice px s.args.length cx)], HU3.out, HUL.out, ⟨by
              have h := HO3.out
              rw [HXS.out] at h
              rw [List.length_append, teF_append]
              exact h, fun e he => by
                rcases List.mem_append.1 he with he | he
                · exact HRT.out.args e he
                · rw [List.mem_singleton.1 he]; exact HVX.out⟩, HNX.out, by rw [List.length_append]; simp; omega⟩
            clear x0 x1 HU3
            go_wp2
            go_roundw
            case rel => exact ⟨k + 1, _, by omega, by go_num, rfl, HM3.out, HB3.out⟩
            case measure => simp [intOf]; omega
        · have hm0 : ¬ (m : Int) < 0 := by omega
          have hm1 : decide ((m : Int) < 0) = false := by simp
          have u0 : wr.cell? ⟨w.heap.size, m, none⟩ = some (.bool false) := by rw [HUR.out.cellAt m (by omega)]; exact bools_at hum
          have uf : wr.frozen? ⟨w.heap.size, m, none⟩ = false := HUR.out.frozenAt m
          have HST := Lib.hid (rst_set hum hbm hno heq)
          have hstd := HUR.out.stored m (.bool true)
          rw [bools_set] at hstd
          have HU3 := Lib.hid hstd.1
          have HG3 := Lib.hid hstd.2
          have HR3 : Hid (RowT w w.heap.size (wr.setCell ⟨w.heap.size, m, none⟩ (.bool true)) (.slice vp L.length vc) L) := Lib.hid ⟨HRR.out.row.kept HG3.out (rows_far (by decide) HRR.out.row HUR.out), HRT.out.args⟩
          have HB3 : Hid (Below w.heap.size w (wr.setCell ⟨w.heap.size, m, none⟩ (.bool true))) := Lib.hid (HBR.out.setCell (by exact Nat.le_refl _) _)
          have HM3 : Hid (MinR a b w (k + 1) (.slice vp L.length vc) (wr.setCell ⟨w.heap.size, m, none⟩ (.bool true))) := Lib.hid ⟨U.set m true, L, HU3.out, by rw [List.length_set]; exact HUL.out, HR3.out, by
            rw [← HMIN.out, minL_at HS.out, minL_hit HST.out.2, HST.out.1], by omega⟩
          clear hum hbm hno heq hstd HU3 HG3 HR3 x0 x1
          go_wp2
          all_goals
            go_roundw
            case rel => exact ⟨k + 1, _, by omega, by go_num, rfl, HM3.out, HB3.out⟩
            case measure => simp [intOf]; omega
    · have HE : Hid (MinEnd a b w (.returned (.slice vp L.length vc)) wo) := Lib.hid ⟨_, L, rfl, HRT.out, by
        have h := HMIN.out
        rw [List.drop_eq_nil_of_le (by omega), minL, List.append_nil] at h
        exact h, HB.out⟩
      go_wp2
      go_ret
      exact HE.out

end Go.Proofs.YtohalpafmcobpaaGreat

/- The model's comparison of multisets, as contracts, for orderings and lists of terms of at most 1048576 names' bytes and elements. -/
namespace Go.Proofs.YtohalpafmcobpaaGreat
open Go.RowKit
set_option linter.unusedVariables false
set_option linter.unusedSimpArgs false

theorem any_next {p : Tm → Bool} {l : List Tm} {k : Nat} {t : Tm} (h : l[k]? = some t) : (l.take (k + 1)).any p = ((l.take k).any p || p t) := by
  rw [take_next h]; simp [List.any_append]
theorem any_full {p : Tm → Bool} {l : List Tm} {k : Nat} (h : l.length ≤ k) : (l.take k).any p = l.any p := by rw [List.take_of_length_le h]
theorem all_full {p : Tm → Bool} {l : List Tm} {k : Nat} (h : l.length ≤ k) : (l.take k).all p = l.all p := by rw [List.take_of_length_le h]
theorem wcL_nils (a b : List Tm) : decide (((wcL a b).length : Int) + ((wcL b a).length : Int) = 0) = ((wcL a b).isEmpty && (wcL b a).isEmpty) := by
  rw [Bool.eq_iff_iff]
  simp [List.isEmpty_iff, ← List.length_eq_zero_iff]
  omega

set_option maxRecDepth 100000 in
set_option maxHeartbeats 8000000 in
theorem l6Mul_any (o : Od) (ho : o.wt ≤ 1048576) (hf : o.Fine) (a b : List Tm) (w : World) (sv wv va vb : Value) (hv : OdV w sv wv o) (ha : TmS w va a) (hb : TmS w vb b) (hla : a.length ≤ 100000) (hlb : b.length ≤ 100000) (hza : ∀ t ∈ a, o.OkZ t) (hzb : ∀ t ∈ b, o.OkZ t) :
    Calls Tryz.prog 39 #[.agg #[sv, wv, .int .i64 o.va], va, vb] w (Ans (.int .i64 (o.mulC a b)) w) := by
  obtain ⟨sa, sc, wa, wc, rfl, rfl⟩ := hv.open
  have HB := Lib.hid ((Below.refl w.heap.size w).alloc (Nat.le_refl _) (.cells #[.slice sa o.sy.length sc, .slice wa o.ws.length wc, .int .i64 o.va] 35))
  have H3 : Hid (OdB (w.alloc (.cells #[.slice sa o.sy.length sc, .slice wa o.ws.length wc, .int .i64 o.va] 35)) w.heap.size (.slice sa o.sy.length sc) (.slice wa o.ws.length wc) o) := Lib.hid (thr_new w _ _ _ _ _ rfl)
  have HV := Lib.hid hv
  have HA := Lib.hid ha
  have HBB := Lib.hid hb
  have HZX : Hid (∀ t ∈ wcL a b, o.OkZ t) := Lib.hid (fun t h => hza t (wcL_mem h))
  have HZY : Hid (∀ t ∈ wcL b a, o.OkZ t) := Lib.hid (fun t h => hzb t (wcL_mem h))
  have C1 := Lib.hid (fun W (hW : Below w.heap.size w W) => l6Min_any a b W _ _ (ha.kept hW) (hb.kept hW) (by omega) (by omega) (fun s h => (hza s h).wt) (fun s h => (hzb s h).wt))
  have C2 := Lib.hid (fun W (hW : Below w.heap.size w W) => l6Min_any b a W _ _ (hb.kept hW) (ha.kept hW) (by omega) (by omega) (fun s h => (hzb s h).wt) (fun s h => (hza s h).wt))
  have HF := Lib.hid hf
  have hlx : (wcL a b).length ≤ 100000 := Nat.le_trans (wcL_len b a) hla
  have hly : (wcL b a).length ≤ 100000 := Nat.le_trans (wcL_len a b) hlb
  obtain ⟨pa, ca, rfl⟩ := ha.is_slice
  obtain ⟨pb, cb, rfl⟩ := hb.is_slice
  clear hv ha hb hza hzb hf
  go_enter Tryz.func39, Tryz.ntmps39

  go_wp2_with fail
  refine (C1.out _ HB.out).mono ?_
  rintro e w1 ⟨v1, L1, rfl, hr1, he1, hb⟩
  replace HB := Lib.hid (carry_below HB.out (Nat.le_refl _) hb)
  replace H3 := Lib.hid (H3.out.kept hb)
  have HX1 : Hid (TmS w1 v1 (wcL a b)) := Lib.hid (by rw [← he1]; exact hr1.read hb)
  clear hb hr1 he1
  go_wp2_with fail
  refine (C2.out _ HB.out).mono ?_
  rintro e w2 ⟨v2, L2, rfl, hr2, he2, hb⟩
  replace HB := Lib.hid (carry_below HB.out (Nat.le_refl _) hb)
  replace H3 := Lib.hid (H3.out.kept hb)
  have HX : Hid (TmS w2 v1 (wcL a b)) := Lib.hid (HX1.out.kept hb)
  have HY : Hid (TmS w2 v2 (wcL b a)) := Lib.hid (by rw [← he2]; exact hr2.read hb)
  clear hb hr2 he2 HX1 C1 C2 HA HBB
  obtain ⟨x, hx⟩ : ∃ x, wcL a b = x := ⟨_, rfl⟩
  obtain ⟨y, hy⟩ : ∃ y, wcL b a = y := ⟨_, rfl⟩
  have HMC : Hid (o.mulC a b = codeR (decide ((x.length : Int) + (y.length : Int) = 0)) (o.domB x y) (o.domB y x)) := Lib.hid (by unfold Od.mulC; rw [← wcL_nils, hx, hy])
  rw [hx] at HZX hlx HX
  rw [hy] at HZY hly HY
  clear hx hy
  obtain ⟨px, cx, rfl⟩ := HX.out.is_slice
  obtain ⟨py, cy, rfl⟩ := HY.out.is_slice
  go_wp2
  go_loopw [9, 11] (fun g i wr => ∃ (k : Nat), k ≤ y.length ∧ i = .int .i64 k ∧ g = .bool ((y.take k).all fun t => x.any fun s => kbo o s t) ∧ OdB wr w.heap.size (.slice sa o.sy.length sc) (.slice wa o.ws.length wc) o ∧ Below w.heap.size w wr ∧ Below w2.heap.size w2 wr) (fun _ i _ => y.length - (intOf i).toNat)
  case atStart => exact ⟨0, Nat.zero_le _, rfl, by simp, H3.out, HB.out, Below.refl _ _⟩
  case round =>
    obtain ⟨k, hk, rfl, rfl, h3, hbel, hb0⟩ := hrel
    obtain ⟨wo, hwo⟩ : ∃ wo : World, wo = wr := ⟨_, rfl⟩
    rw [← hwo] at h3 hbel hb0 ⊢
    clear hwo
    replace H3 := Lib.hid h3
    replace HB := Lib.hid hbel
    have HW0 := Lib.hid hb0
    obtain ⟨acc1, hacc1⟩ : ∃ acc1, acc1 = (y.take k).all fun t => x.any fun s => kbo o s t := ⟨_, rfl⟩
    have HACC := Lib.hid hacc1
    rw [← hacc1]
    clear h3 hbel hb0 hacc1
    by_cases hlt : k < y.length
    · obtain ⟨t, ht⟩ : ∃ t, y[k]? = some t := ⟨_, List.getElem?_eq_getElem hlt⟩
      obtain ⟨d, dff, rfl, vt, t0, t1, hvt⟩ := HY.out.get ht
      obtain ⟨pt, ct, rfl⟩ := hvt.is_slice
      have HT := Lib.hid ht
      have HC0 := Lib.hid (carry_cell t0 HW0.out)
      have HC1 := Lib.hid (carry_cell t1 HW0.out)
      have HVT := Lib.hid (hvt.kept HW0.out)
      clear ht hvt t0 t1
      go_wp2
      go_loopw [12, 13] (fun g i wq => ∃ (j : Nat), j ≤ x.length ∧ i = .int .i64 j ∧ g = .bool ((x.take j).any fun s => kbo o s t) ∧ Below wo.heap.size wo wq) (fun _ i _ => x.length - (intOf i).toNat)
      case atStart => exact ⟨0, Nat.zero_le _, rfl, by simp, Below.refl _ _⟩
      case round =>
        obtain ⟨j, hj, rfl, rfl, hbq⟩ := hrel
        have HQ := Lib.hid hbq
        have H3Q := Lib.hid (H3.out.kept hbq)
        have HBQ := Lib.hid (carry_below HB.out (Nat.le_refl _) hbq)
        have HWQ := Lib.hid (carry_below HW0.out (Nat.le_refl _) hbq)
        obtain ⟨fnd, hfnd⟩ : ∃ fnd, fnd = (x.take j).any fun s => kbo o s t := ⟨_, rfl⟩
        have HFND := Lib.hid hfnd
        rw [← hfnd]
        clear hbq hfnd
        by_cases hjl : j < x.length
        · obtain ⟨s, hs⟩ : ∃ s, x[j]? = some s := ⟨_, List.getElem?_eq_getElem hjl⟩
          obtain ⟨g, gff, rfl, vs, s0, s1, hvs⟩ := HX.out.get hs
          obtain ⟨ps, cs, rfl⟩ := hvs.is_slice
          replace s0 := carry_cell s0 HWQ.out
          replace s1 := carry_cell s1 HWQ.out
          have t0 := carry_cell HC0.out HQ.out
          have t1 := carry_cell HC1.out HQ.out
          have HS := Lib.hid hs
          have HNX : Hid ((x.take (j + 1)).any (fun s => kbo o s t) = (fnd || kbo o s t)) := Lib.hid (by rw [any_next hs, HFND.out])
          have CK : Hid (∀ W, Below wr.heap.size wr W → Calls Tryz.prog 78 #[.agg #[.slice sa o.sy.length sc, .slice wa o.ws.length wc, .int .i64 o.va], .agg #[.string s.name, .slice ps s.args.length cs], .agg #[.string t.name, .slice pt t.args.length ct]] W (Ans (.bool (kbo o s t)) W)) := Lib.hid (fun W hW => l6Abv_any o ho HF.out s t W _ _ _ _ (HV.out.kept (HBQ.out.trans (hW.mono HBQ.out.size))) ((hvs.kept HWQ.out).kept hW) ((HVT.out.kept HQ.out).kept hW) (HZX.out s (mem_of_at HS.out)) (HZY.out t (mem_of_at HT.out)))
          clear hs hvs
          obtain ⟨b0, b1, b2, b3⟩ := H3Q.out
          cases fnd with
          | true =>
            go_wp2_with fail
            have hB0 : Below wr.heap.size wr wr.drew := (Below.refl _ _).drew
            refine wp_region_held_drew (S := (fun w' => w'.cell? ⟨w.heap.size, 0, none⟩ = some (.slice sa o.sy.length sc) ∧ w'.cell? ⟨w.heap.size, 1, none⟩ = some (.slice wa o.ws.length wc) ∧ w'.cell? ⟨w.heap.size, 2, none⟩ = some (.int .i64 o.va) ∧ w'.cell? ⟨g, gff + j * 2, none⟩ = some (.string s.name) ∧ w'.cell? ⟨g, gff + j * 2 + 1, none⟩ = some (.slice ps s.args.length cs) ∧ w'.cell? ⟨d, dff + k * 2, none⟩ = some (.string t.name) ∧ w'.cell? ⟨d, dff + k * 2 + 1, none⟩ = some (.slice pt t.args.length ct) ∧ Below wr.heap.size wr w')) (by kernel_rfl) (by first | exact ⟨by assumption, by assumption, by assumption, by assumption, by assumption, by assumption, by assumption, by assumption⟩ | go_keep) (fun hHeld => ?_)
            refine takeYesE 0 (v := ?_) rfl (by kernel_rfl) (by kernel_rfl) (by kernel_rfl) (by rfl) (fun _ _ _ h => h) (by assumption) ?_ ?_; rotate_left; (intro w hSw; (try dsimp only at hSw); go_simp; try (with_reducible rfl))
            try simp only [Act.put, List.getElem_toArray, List.getElem_cons_zero, List.setIfInBounds_toArray, List.set_cons_zero, List.set_cons_succ]
            refine takeYesE 1 (v := ?_) rfl (by kernel_rfl) (by kernel_rfl) (by kernel_rfl) (by rfl) (fun _ _ _ h => h) (by assumption) ?_ ?_; rotate_left; (intro w hSw; (try dsimp only at hSw); go_simp; try (with_reducible rfl))
            try simp only [Act.put, List.getElem_toArray, List.getElem_cons_zero, List.getElem_cons_succ, List.setIfInBounds_toArray, List.set_cons_zero, List.set_cons_succ]
            refine takeNoE 2 rfl (by kernel_rfl) (by kernel_rfl) (by kernel_rfl) (by rfl) (fun _ _ _ h => h) (by assumption) ?_
            try simp only [Act.put, List.getElem_toArray, List.getElem_cons_zero, List.getElem_cons_succ, List.setIfInBounds_toArray, List.set_cons_zero, List.set_cons_succ]
            refine takeNoE 3 rfl (by kernel_rfl) (by kernel_rfl) (by kernel_rfl) (by rfl) (fun _ _ _ h => h) (by assumption) ?_
            try simp only [Act.put, List.getElem_toArray, List.getElem_cons_zero, List.getElem_cons_succ, List.setIfInBounds_toArray, List.set_cons_zero, List.set_cons_succ]
            refine takeNoE 4 rfl (by kernel_rfl) (by kernel_rfl) (by kernel_rfl) (by rfl) (fun _ _ _ h => h) (by assumption) ?_
            try simp only [Act.put, List.getElem_toArray, List.getElem_cons_zero, List.getElem_cons_succ, List.setIfInBounds_toArray, List.set_cons_zero, List.set_cons_succ]
            refine takeNoE 5 rfl (by kernel_rfl) (by kernel_rfl) (by kernel_rfl) (by rfl) (fun _ _ _ h => h) (by assumption) ?_
            try simp only [Act.put, List.getElem_toArray, List.getElem_cons_zero, List.getElem_cons_succ, List.setIfInBounds_toArray, List.set_cons_zero, List.set_cons_succ]
            refine takeNoE 6 rfl (by kernel_rfl) (by kernel_rfl) (by kernel_rfl) (by rfl) (fun _ _ _ h => h) (by assumption) ?_
            try simp only [Act.put, List.getElem_toArray, List.getElem_cons_zero, List.getElem_cons_succ, List.setIfInBounds_toArray, List.set_cons_zero, List.set_cons_succ]
            refine takeNoE 7 rfl (by kernel_rfl) (by kernel_rfl) (by kernel_rfl) (by rfl) (fun _ _ _ h => h) (by assumption) ?_
            try simp only [Act.put, List.getElem_toArray, List.getElem_cons_zero, List.getElem_cons_succ, List.setIfInBounds_toArray, List.set_cons_zero, List.set_cons_succ]
            refine takeNoE 8 rfl (by kernel_rfl) (by kernel_rfl) (by kernel_rfl) (by rfl) (fun _ _ _ h => h) (by assumption) ?_
            try simp only [Act.put, List.getElem_toArray, List.getElem_cons_zero, List.getElem_cons_succ, List.setIfInBounds_toArray, List.set_cons_zero, List.set_cons_succ]
            refine takeNoE 9 rfl (by kernel_rfl) (by kernel_rfl) (by kernel_rfl) (by rfl) (fun _ _ _ h => h) (by assumption) ?_
            try simp only [Act.put, List.getElem_toArray, List.getElem_cons_zero, List.getElem_cons_succ, List.setIfInBounds_toArray, List.set_cons_zero, List.set_cons_succ]
            refine takeNoE 10 rfl (by kernel_rfl) (by kernel_rfl) (by kernel_rfl) (by rfl) (fun _ _ _ h => h) (by assumption) ?_
            try simp only [Act.put, List.getElem_toArray, List.getElem_cons_zero, List.getElem_cons_succ, List.setIfInBounds_toArray, List.set_cons_zero, List.set_cons_succ]
            refine takeNoE 11 rfl (by kernel_rfl) (by kernel_rfl) (by kernel_rfl) (by rfl) (fun _ _ _ h => h) (by assumption) ?_
            try simp only [Act.put, List.getElem_toArray, List.getElem_cons_zero, List.getElem_cons_succ, List.setIfInBounds_toArray, List.set_cons_zero, List.set_cons_succ]
            refine takeYesE 12 (v := ?_) rfl (by kernel_rfl) (by kernel_rfl) (by kernel_rfl) (by rfl) (fun _ _ _ h => h) (by assumption) ?_ ?_; rotate_left; (intro w hSw; (try dsimp only at hSw); go_simp; try (with_reducible rfl))
            try simp only [Act.put, List.getElem_toArray, List.getElem_cons_zero, List.getElem_cons_succ, List.setIfInBounds_toArray, List.set_cons_zero, List.set_cons_succ]
            refine takeYesE 13 (v := ?_) rfl (by kernel_rfl) (by kernel_rfl) (by kernel_rfl) (by rfl) (fun _ _ _ h => h) (by assumption) ?_ ?_; rotate_left; (intro w hSw; (try dsimp only at hSw); go_simp; try (with_reducible rfl))
            try simp only [Act.put, List.getElem_toArray, List.getElem_cons_zero, List.getElem_cons_succ, List.setIfInBounds_toArray, List.set_cons_zero, List.set_cons_succ]
            refine wpAnyH_done (by kernel_rfl) ?_ _
            have HQD := Lib.hid HQ.out.drew
            have HN : Hid ((x.take (j + 1)).any (fun s => kbo o s t) = true) := Lib.hid (by rw [HNX.out]; rfl)
            clear hB0 b0 b1 b2 b3 s0 s1 t0 t1
            go_wp2
            go_roundw
            case rel => exact ⟨j + 1, by omega, by go_num, by rw [HN.out], HQD.out⟩
            case measure => simp [intOf]; omega
          | false =>
            go_wp2_with fail
            have hB0 : Below wr.heap.size wr wr.drew := (Below.refl _ _).drew
            refine wp_region_held_drew (S := (fun w' => w'.cell? ⟨w.heap.size, 0, none⟩ = some (.slice sa o.sy.length sc) ∧ w'.cell? ⟨w.heap.size, 1, none⟩ = some (.slice wa o.ws.length wc) ∧ w'.cell? ⟨w.heap.size, 2, none⟩ = some (.int .i64 o.va) ∧ w'.cell? ⟨g, gff + j * 2, none⟩ = some (.string s.name) ∧ w'.cell? ⟨g, gff + j * 2 + 1, none⟩ = some (.slice ps s.args.length cs) ∧ w'.cell? ⟨d, dff + k * 2, none⟩ = some (.string t.name) ∧ w'.cell? ⟨d, dff + k * 2 + 1, none⟩ = some (.slice pt t.args.length ct) ∧ Below wr.heap.size wr w')) (by kernel_rfl) (by first | exact ⟨by assumption, by assumption, by assumption, by assumption, by assumption, by assumption, by assumption, by assumption⟩ | go_keep) (fun hHeld => ?_)
            refine takeYesE 0 (v := ?_) rfl (by kernel_rfl) (by kernel_rfl) (by kernel_rfl) (by rfl) (fun _ _ _ h => h) (by assumption) ?_ ?_; rotate_left; (intro w hSw; (try dsimp only at hSw); go_simp; try (with_reducible rfl))
            try simp only [Act.put, List.getElem_toArray, List.getElem_cons_zero, List.setIfInBounds_toArray, List.set_cons_zero, List.set_cons_succ]
            refine takeYesE 1 (v := ?_) rfl (by kernel_rfl) (by kernel_rfl) (by kernel_rfl) (by rfl) (fun _ _ _ h => h) (by assumption) ?_ ?_; rotate_left; (intro w hSw; (try dsimp only at hSw); go_simp; try (with_reducible rfl))
            try simp only [Act.put, List.getElem_toArray, List.getElem_cons_zero, List.getElem_cons_succ, List.setIfInBounds_toArray, List.set_cons_zero, List.set_cons_succ]
            refine takeYesE 2 (v := ?_) rfl (by kernel_rfl) (by kernel_rfl) (by kernel_rfl) (by rfl) (fun _ _ _ h => h) (by assumption) ?_ ?_; rotate_left; (intro w hSw; (try dsimp only at hSw); go_simp; try (with_reducible rfl))
            try simp only [Act.put, List.getElem_toArray, List.getElem_cons_zero, List.getElem_cons_succ, List.setIfInBounds_toArray, List.set_cons_zero, List.set_cons_succ]
            refine takeYesE 3 (v := ?_) rfl (by kernel_rfl) (by kernel_rfl) (by kernel_rfl) (by rfl) (fun _ _ _ h => h) (by assumption) ?_ ?_; rotate_left; (intro w hSw; (try dsimp only at hSw); go_simp; try (with_reducible rfl))
            try simp only [Act.put, List.getElem_toArray, List.getElem_cons_zero, List.getElem_cons_succ, List.setIfInBounds_toArray, List.set_cons_zero, List.set_cons_succ]
            refine takeYesE 4 (v := ?_) rfl (by kernel_rfl) (by kernel_rfl) (by kernel_rfl) (by rfl) (fun _ _ _ h => h) (by assumption) ?_ ?_; rotate_left; (intro w hSw; (try dsimp only at hSw); go_simp; try (with_reducible rfl))
            try simp only [Act.put, List.getElem_toArray, List.getElem_cons_zero, List.getElem_cons_succ, List.setIfInBounds_toArray, List.set_cons_zero, List.set_cons_succ]
            refine takeYesE 5 (v := ?_) rfl (by kernel_rfl) (by kernel_rfl) (by kernel_rfl) (by rfl) (fun _ _ _ h => h) (by assumption) ?_ ?_; rotate_left; (intro w hSw; (try dsimp only at hSw); go_simp; try (with_reducible rfl))
            try simp only [Act.put, List.getElem_toArray, List.getElem_cons_zero, List.getElem_cons_succ, List.setIfInBounds_toArray, List.set_cons_zero, List.set_cons_succ]
            refine takeYesE 6 (v := ?_) rfl (by kernel_rfl) (by kernel_rfl) (by kernel_rfl) (by rfl) (fun _ _ _ h => h) (by assumption) ?_ ?_; rotate_left; (intro w hSw; (try dsimp only at hSw); go_simp; try (with_reducible rfl))
            try simp only [Act.put, List.getElem_toArray, List.getElem_cons_zero, List.getElem_cons_succ, List.setIfInBounds_toArray, List.set_cons_zero, List.set_cons_succ]
            refine takeYesE 7 (v := ?_) rfl (by kernel_rfl) (by kernel_rfl) (by kernel_rfl) (by rfl) (fun _ _ _ h => h) (by assumption) ?_ ?_; rotate_left; (intro w hSw; (try dsimp only at hSw); go_simp; try (with_reducible rfl))
            try simp only [Act.put, List.getElem_toArray, List.getElem_cons_zero, List.getElem_cons_succ, List.setIfInBounds_toArray, List.set_cons_zero, List.set_cons_succ]
            refine takeYesE 8 (v := ?_) rfl (by kernel_rfl) (by kernel_rfl) (by kernel_rfl) (by rfl) (fun _ _ _ h => h) (by assumption) ?_ ?_; rotate_left; (intro w hSw; (try dsimp only at hSw); go_simp; try (with_reducible rfl))
            try simp only [Act.put, List.getElem_toArray, List.getElem_cons_zero, List.getElem_cons_succ, List.setIfInBounds_toArray, List.set_cons_zero, List.set_cons_succ]
            refine takeYesE 9 (v := ?_) rfl (by kernel_rfl) (by kernel_rfl) (by kernel_rfl) (by rfl) (fun _ _ _ h => h) (by assumption) ?_ ?_; rotate_left; (intro w hSw; (try dsimp only at hSw); go_simp; try (with_reducible rfl))
            try simp only [Act.put, List.getElem_toArray, List.getElem_cons_zero, List.getElem_cons_succ, List.setIfInBounds_toArray, List.set_cons_zero, List.set_cons_succ]
            refine takeYesE 10 (v := ?_) rfl (by kernel_rfl) (by kernel_rfl) (by kernel_rfl) (by rfl) (fun _ _ _ h => h) (by assumption) ?_ ?_; rotate_left; (intro w hSw; (try dsimp only at hSw); go_simp; try (with_reducible rfl))
            try simp only [Act.put, List.getElem_toArray, List.getElem_cons_zero, List.getElem_cons_succ, List.setIfInBounds_toArray, List.set_cons_zero, List.set_cons_succ]
            refine wpAnyH_ready (rs := [11]) (by kernel_rfl) (by simp) ?_
            refine AllReadyH.cons rfl (fun K hK => ?_) AllReadyH.nil
            go_simp
            (go_at_call 78; refine (CK.out _ (by assumption)).mono ?_; rintro e uC ⟨rfl, hb⟩; have qz11_0 : uC.cell? ⟨w.heap.size, 0, none⟩ = some (.slice sa o.sy.length sc) := carry_cell' hb (by assumption); have qz11_1 : uC.cell? ⟨w.heap.size, 1, none⟩ = some (.slice wa o.ws.length wc) := carry_cell' hb (by assumption); have qz11_2 : uC.cell? ⟨w.heap.size, 2, none⟩ = some (.int .i64 o.va) := carry_cell' hb (by assumption); have qz11_3 : uC.cell? ⟨g, gff + j * 2, none⟩ = some (.string s.name) := carry_cell' hb (by assumption); have qz11_4 : uC.cell? ⟨g, gff + j * 2 + 1, none⟩ = some (.slice ps s.args.length cs) := carry_cell' hb (by assumption); have qz11_5 : uC.cell? ⟨d, dff + k * 2, none⟩ = some (.string t.name) := carry_cell' hb (by assumption); have qz11_6 : uC.cell? ⟨d, dff + k * 2 + 1, none⟩ = some (.slice pt t.args.length ct) := carry_cell' hb (by assumption); have huC : Below wr.heap.size wr uC := carry_below (by assumption) (Nat.le_refl _) hb; clear hb; go_wp2_with fail)
            refine hK.out _ _ (by first | exact ⟨by assumption, by assumption, by assumption, by assumption, by assumption, by assumption, by assumption, by assumption⟩ | go_keep) (fun hHeld => ?_)
            clear hK K
            try simp only [Act.put, List.getElem_toArray, List.getElem_cons_zero, List.getElem_cons_succ, List.setIfInBounds_toArray, List.set_cons_zero, List.set_cons_succ]
            refine takeYesE 12 (v := ?_) rfl (by kernel_rfl) (by kernel_rfl) (by kernel_rfl) (by rfl) (fun _ _ _ h => h) (by assumption) ?_ ?_; rotate_left; (intro w hSw; (try dsimp only at hSw); go_simp; try (with_reducible rfl))
            try simp only [Act.put, List.getElem_toArray, List.getElem_cons_zero, List.getElem_cons_succ, List.setIfInBounds_toArray, List.set_cons_zero, List.set_cons_succ]
            refine takeYesE 13 (v := ?_) rfl (by kernel_rfl) (by kernel_rfl) (by kernel_rfl) (by rfl) (fun _ _ _ h => h) (by assumption) ?_ ?_; rotate_left; (intro w hSw; (try dsimp only at hSw); go_simp; try (with_reducible rfl))
            try simp only [Act.put, List.getElem_toArray, List.getElem_cons_zero, List.getElem_cons_succ, List.setIfInBounds_toArray, List.set_cons_zero, List.set_cons_succ]
            refine wpAnyH_done (by kernel_rfl) ?_ _
            have hb : Below wr.heap.size wr uC := by assumption
            have HQD := Lib.hid (carry_below HQ.out (Nat.le_refl _) hb)
            have HN : Hid ((x.take (j + 1)).any (fun s => kbo o s t) = kbo o s t) := Lib.hid (by rw [HNX.out]; rfl)
            clear hb hB0 b0 b1 b2 b3 s0 s1 t0 t1
            go_wp2
            go_roundw
            case rel => exact ⟨j + 1, by omega, by go_num, by rw [HN.out], HQD.out⟩
            case measure => simp [intOf]; omega
        · have HNX : Hid ((y.take (k + 1)).all (fun t => x.any fun s => kbo o s t) = (acc1 && fnd)) := Lib.hid (by rw [all_next HT.out, HACC.out, HFND.out, any_full (by omega)])
          cases acc1 with
          | true =>
            have HN : Hid ((y.take (k + 1)).all (fun t => x.any fun s => kbo o s t) = fnd) := Lib.hid (by rw [HNX.out]; rfl)
            clear HACC
            go_wp2
            go_roundw
            case rel => exact ⟨k + 1, by omega, by go_num, by rw [HN.out], H3Q.out, HBQ.out, HWQ.out⟩
            case measure => simp [intOf]; omega
          | false =>
            have HN : Hid ((y.take (k + 1)).all (fun t => x.any fun s => kbo o s t) = false) := Lib.hid (by rw [HNX.out]; rfl)
            clear HACC
            go_wp2
            go_roundw
            case rel => exact ⟨k + 1, by omega, by go_num, by rw [HN.out], H3Q.out, HBQ.out, HWQ.out⟩
            case measure => simp [intOf]; omega
    · have HD1 : Hid (acc1 = o.domB x y) := Lib.hid (by rw [HACC.out, all_full (by omega)]; rfl)
      clear HACC
      have HXo := Lib.hid (HX.out.kept HW0.out)
      have HYo := Lib.hid (HY.out.kept HW0.out)
      clear HW0 HX HY
      go_wp2
      obtain ⟨w7, hw7⟩ : ∃ w7 : World, w7 = wo := ⟨_, rfl⟩
      rw [← hw7] at H3 HB HXo HYo ⊢
      clear hw7
      go_loopw [10, 14] (fun g i wr => ∃ (k : Nat), k ≤ x.length ∧ i = .int .i64 k ∧ g = .bool ((x.take k).all fun t => y.any fun s => kbo o s t) ∧ OdB wr w.heap.size (.slice sa o.sy.length sc) (.slice wa o.ws.length wc) o ∧ Below w.heap.size w wr ∧ Below w7.heap.size w7 wr) (fun _ i _ => x.length - (intOf i).toNat)
      case atStart => exact ⟨0, Nat.zero_le _, rfl, by simp, H3.out, HB.out, Below.refl _ _⟩
      case round =>
        obtain ⟨k, hk, rfl, rfl, h3, hbel, hb0⟩ := hrel
        obtain ⟨wo, hwo⟩ : ∃ wo : World, wo = wr := ⟨_, rfl⟩
        rw [← hwo] at h3 hbel hb0 ⊢
        clear hwo
        replace H3 := Lib.hid h3
        replace HB := Lib.hid hbel
        have HW0 := Lib.hid hb0
        obtain ⟨acc2, hacc2⟩ : ∃ acc2, acc2 = (x.take k).all fun t => y.any fun s => kbo o s t := ⟨_, rfl⟩
        have HACC := Lib.hid hacc2
        rw [← hacc2]
        clear h3 hbel hb0 hacc2
        by_cases hlt : k < x.length
        · obtain ⟨t, ht⟩ : ∃ t, x[k]? = some t := ⟨_, List.getElem?_eq_getElem hlt⟩
          obtain ⟨d, dff, rfl, vt, t0, t1, hvt⟩ := HXo.out.get ht
          obtain ⟨pt, ct, rfl⟩ := hvt.is_slice
          have HT := Lib.hid ht
          have HC0 := Lib.hid (carry_cell t0 HW0.out)
          have HC1 := Lib.hid (carry_cell t1 HW0.out)
          have HVT := Lib.hid (hvt.kept HW0.out)
          clear ht hvt t0 t1
          go_wp2
          go_loopw [15, 16] (fun g i wq => ∃ (j : Nat), j ≤ y.length ∧ i = .int .i64 j ∧ g = .bool ((y.take j).any fun s => kbo o s t) ∧ Below wo.heap.size wo wq) (fun _ i _ => y.length - (intOf i).toNat)
          case atStart => exact ⟨0, Nat.zero_le _, rfl, by simp, Below.refl _ _⟩
          case round =>
            obtain ⟨j, hj, rfl, rfl, hbq⟩ := hrel
            have HQ := Lib.hid hbq
            have H3Q := Lib.hid (H3.out.kept hbq)
            have HBQ := Lib.hid (carry_below HB.out (Nat.le_refl _) hbq)
            have HWQ := Lib.hid (carry_below HW0.out (Nat.le_refl _) hbq)
            obtain ⟨fnd, hfnd⟩ : ∃ fnd, fnd = (y.take j).any fun s => kbo o s t := ⟨_, rfl⟩
            have HFND := Lib.hid hfnd
            rw [← hfnd]
            clear hbq hfnd
            by_cases hjl : j < y.length
            · obtain ⟨s, hs⟩ : ∃ s, y[j]? = some s := ⟨_, List.getElem?_eq_getElem hjl⟩
              obtain ⟨g, gff, rfl, vs, s0, s1, hvs⟩ := HYo.out.get hs
              obtain ⟨ps, cs, rfl⟩ := hvs.is_slice
              replace s0 := carry_cell s0 HWQ.out
              replace s1 := carry_cell s1 HWQ.out
              have t0 := carry_cell HC0.out HQ.out
              have t1 := carry_cell HC1.out HQ.out
              have HS := Lib.hid hs
              have HNX : Hid ((y.take (j + 1)).any (fun s => kbo o s t) = (fnd || kbo o s t)) := Lib.hid (by rw [any_next hs, HFND.out])
              have CK : Hid (∀ W, Below wr.heap.size wr W → Calls Tryz.prog 78 #[.agg #[.slice sa o.sy.length sc, .slice wa o.ws.length wc, .int .i64 o.va], .agg #[.string s.name, .slice ps s.args.length cs], .agg #[.string t.name, .slice pt t.args.length ct]] W (Ans (.bool (kbo o s t)) W)) := Lib.hid (fun W hW => l6Abv_any o ho HF.out s t W _ _ _ _ (HV.out.kept (HBQ.out.trans (hW.mono HBQ.out.size))) ((hvs.kept HWQ.out).kept hW) ((HVT.out.kept HQ.out).kept hW) (HZY.out s (mem_of_at HS.out)) (HZX.out t (mem_of_at HT.out)))
              clear hs hvs
              obtain ⟨b0, b1, b2, b3⟩ := H3Q.out
              cases fnd with
              | true =>
                go_wp2_with fail
                have hB0 : Below wr.heap.size wr wr.drew := (Below.refl _ _).drew
                refine wp_region_held_drew (S := (fun w' => w'.cell? ⟨w.heap.size, 0, none⟩ = some (.slice sa o.sy.length sc) ∧ w'.cell? ⟨w.heap.size, 1, none⟩ = some (.slice wa o.ws.length wc) ∧ w'.cell? ⟨w.heap.size, 2, none⟩ = some (.int .i64 o.va) ∧ w'.cell? ⟨g, gff + j * 2, none⟩ = some (.string s.name) ∧ w'.cell? ⟨g, gff + j * 2 + 1, none⟩ = some (.slice ps s.args.length cs) ∧ w'.cell? ⟨d, dff + k * 2, none⟩ = some (.string t.name) ∧ w'.cell? ⟨d, dff + k * 2 + 1, none⟩ = some (.slice pt t.args.length ct) ∧ Below wr.heap.size wr w')) (by kernel_rfl) (by first | exact ⟨by assumption, by assumption, by assumption, by assumption, by assumption, by assumption, by assumption, by assumption⟩ | go_keep) (fun hHeld => ?_)
                refine takeYesE 0 (v := ?_) rfl (by kernel_rfl) (by kernel_rfl) (by kernel_rfl) (by rfl) (fun _ _ _ h => h) (by assumption) ?_ ?_; rotate_left; (intro w hSw; (try dsimp only at hSw); go_simp; try (with_reducible rfl))
                try simp only [Act.put, List.getElem_toArray, List.getElem_cons_zero, List.setIfInBounds_toArray, List.set_cons_zero, List.set_cons_succ]
                refine takeYesE 1 (v := ?_) rfl (by kernel_rfl) (by kernel_rfl) (by kernel_rfl) (by rfl) (fun _ _ _ h => h) (by assumption) ?_ ?_; rotate_left; (intro w hSw; (try dsimp only at hSw); go_simp; try (with_reducible rfl))
                try simp only [Act.put, List.getElem_toArray, List.getElem_cons_zero, List.getElem_cons_succ, List.setIfInBounds_toArray, List.set_cons_zero, List.set_cons_succ]
                refine takeNoE 2 rfl (by kernel_rfl) (by kernel_rfl) (by kernel_rfl) (by rfl) (fun _ _ _ h => h) (by assumption) ?_
                try simp only [Act.put, List.getElem_toArray, List.getElem_cons_zero, List.getElem_cons_succ, List.setIfInBounds_toArray, List.set_cons_zero, List.set_cons_succ]
                refine takeNoE 3 rfl (by kernel_rfl) (by kernel_rfl) (by kernel_rfl) (by rfl) (fun _ _ _ h => h) (by assumption) ?_
                try simp only [Act.put, List.getElem_toArray, List.getElem_cons_zero, List.getElem_cons_succ, List.setIfInBounds_toArray, List.set_cons_zero, List.set_cons_succ]
                refine takeNoE 4 rfl (by kernel_rfl) (by kernel_rfl) (by kernel_rfl) (by rfl) (fun _ _ _ h => h) (by assumption) ?_
                try simp only [Act.put, List.getElem_toArray, List.getElem_cons_zero, List.getElem_cons_succ, List.setIfInBounds_toArray, List.set_cons_zero, List.set_cons_succ]
                refine takeNoE 5 rfl (by kernel_rfl) (by kernel_rfl) (by kernel_rfl) (by rfl) (fun _ _ _ h => h) (by assumption) ?_
                try simp only [Act.put, List.getElem_toArray, List.getElem_cons_zero, List.getElem_cons_succ, List.setIfInBounds_toArray, List.set_cons_zero, List.set_cons_succ]
                refine takeNoE 6 rfl (by kernel_rfl) (by kernel_rfl) (by kernel_rfl) (by rfl) (fun _ _ _ h => h) (by assumption) ?_
                try simp only [Act.put, List.getElem_toArray, List.getElem_cons_zero, List.getElem_cons_succ, List.setIfInBounds_toArray, List.set_cons_zero, List.set_cons_succ]
                refine takeNoE 7 rfl (by kernel_rfl) (by kernel_rfl) (by kernel_rfl) (by rfl) (fun _ _ _ h => h) (by assumption) ?_
                try simp only [Act.put, List.getElem_toArray, List.getElem_cons_zero, List.getElem_cons_succ, List.setIfInBounds_toArray, List.set_cons_zero, List.set_cons_succ]
                refine takeNoE 8 rfl (by kernel_rfl) (by kernel_rfl) (by kernel_rfl) (by rfl) (fun _ _ _ h => h) (by assumption) ?_
                try simp only [Act.put, List.getElem_toArray, List.getElem_cons_zero, List.getElem_cons_succ, List.setIfInBounds_toArray, List.set_cons_zero, List.set_cons_succ]
                refine takeNoE 9 rfl (by kernel_rfl) (by kernel_rfl) (by kernel_rfl) (by rfl) (fun _ _ _ h => h) (by assumption) ?_
                try simp only [Act.put, List.getElem_toArray, List.getElem_cons_zero, List.getElem_cons_succ, List.setIfInBounds_toArray, List.set_cons_zero, List.set_cons_succ]
                refine takeNoE 10 rfl (by kernel_rfl) (by kernel_rfl) (by kernel_rfl) (by rfl) (fun _ _ _ h => h) (by assumption) ?_
                try simp only [Act.put, List.getElem_toArray, List.getElem_cons_zero, List.getElem_cons_succ, List.setIfInBounds_toArray, List.set_cons_zero, List.set_cons_succ]
                refine takeNoE 11 rfl (by kernel_rfl) (by kernel_rfl) (by kernel_rfl) (by rfl) (fun _ _ _ h => h) (by assumption) ?_
                try simp only [Act.put, List.getElem_toArray, List.getElem_cons_zero, List.getElem_cons_succ, List.setIfInBounds_toArray, List.set_cons_zero, List.set_cons_succ]
                refine takeYesE 12 (v := ?_) rfl (by kernel_rfl) (by kernel_rfl) (by kernel_rfl) (by rfl) (fun _ _ _ h => h) (by assumption) ?_ ?_; rotate_left; (intro w hSw; (try dsimp only at hSw); go_simp; try (with_reducible rfl))
                try simp only [Act.put, List.getElem_toArray, List.getElem_cons_zero, List.getElem_cons_succ, List.setIfInBounds_toArray, List.set_cons_zero, List.set_cons_succ]
                refine takeYesE 13 (v := ?_) rfl (by kernel_rfl) (by kernel_rfl) (by kernel_rfl) (by rfl) (fun _ _ _ h => h) (by assumption) ?_ ?_; rotate_left; (intro w hSw; (try dsimp only at hSw); go_simp; try (with_reducible rfl))
                try simp only [Act.put, List.getElem_toArray, List.getElem_cons_zero, List.getElem_cons_succ, List.setIfInBounds_toArray, List.set_cons_zero, List.set_cons_succ]
                refine wpAnyH_done (by kernel_rfl) ?_ _
                have HQD := Lib.hid HQ.out.drew
                have HN : Hid ((y.take (j + 1)).any (fun s => kbo o s t) = true) := Lib.hid (by rw [HNX.out]; rfl)
                clear hB0 b0 b1 b2 b3 s0 s1 t0 t1
                go_wp2
                go_roundw
                case rel => exact ⟨j + 1, by omega, by go_num, by rw [HN.out], HQD.out⟩
                case measure => simp [intOf]; omega
              | false =>
                go_wp2_with fail
                have hB0 : Below wr.heap.size wr wr.drew := (Below.refl _ _).drew
                refine wp_region_held_drew (S := (fun w' => w'.cell? ⟨w.heap.size, 0, none⟩ = some (.slice sa o.sy.length sc) ∧ w'.cell? ⟨w.heap.size, 1, none⟩ = some (.slice wa o.ws.length wc) ∧ w'.cell? ⟨w.heap.size, 2, none⟩ = some (.int .i64 o.va) ∧ w'.cell? ⟨g, gff + j * 2, none⟩ = some (.string s.name) ∧ w'.cell? ⟨g, gff + j * 2 + 1, none⟩ = some (.slice ps s.args.length cs) ∧ w'.cell? ⟨d, dff + k * 2, none⟩ = some (.string t.name) ∧ w'.cell? ⟨d, dff + k * 2 + 1, none⟩ = some (.slice pt t.args.length ct) ∧ Below wr.heap.size wr w')) (by kernel_rfl) (by first | exact ⟨by assumption, by assumption, by assumption, by assumption, by assumption, by assumption, by assumption, by assumption⟩ | go_keep) (fun hHeld => ?_)
                refine takeYesE 0 (v := ?_) rfl (by kernel_rfl) (by kernel_rfl) (by kernel_rfl) (by rfl) (fun _ _ _ h => h) (by assumption) ?_ ?_; rotate_left; (intro w hSw; (try dsimp only at hSw); go_simp; try (with_reducible rfl))
                try simp only [Act.put, List.getElem_toArray, List.getElem_cons_zero, List.setIfInBounds_toArray, List.set_cons_zero, List.set_cons_succ]
                refine takeYesE 1 (v := ?_) rfl (by kernel_rfl) (by kernel_rfl) (by kernel_rfl) (by rfl) (fun _ _ _ h => h) (by assumption) ?_ ?_; rotate_left; (intro w hSw; (try dsimp only at hSw); go_simp; try (with_reducible rfl))
                try simp only [Act.put, List.getElem_toArray, List.getElem_cons_zero, List.getElem_cons_succ, List.setIfInBounds_toArray, List.set_cons_zero, List.set_cons_succ]
                refine takeYesE 2 (v := ?_) rfl (by kernel_rfl) (by kernel_rfl) (by kernel_rfl) (by rfl) (fun _ _ _ h => h) (by assumption) ?_ ?_; rotate_left; (intro w hSw; (try dsimp only at hSw); go_simp; try (with_reducible rfl))
                try simp only [Act.put, List.getElem_toArray, List.getElem_cons_zero, List.getElem_cons_succ, List.setIfInBounds_toArray, List.set_cons_zero, List.set_cons_succ]
                refine takeYesE 3 (v := ?_) rfl (by kernel_rfl) (by kernel_rfl) (by kernel_rfl) (by rfl) (fun _ _ _ h => h) (by assumption) ?_ ?_; rotate_left; (intro w hSw; (try dsimp only at hSw); go_simp; try (with_reducible rfl))
                try simp only [Act.put, List.getElem_toArray, List.getElem_cons_zero, List.getElem_cons_succ, List.setIfInBounds_toArray, List.set_cons_zero, List.set_cons_succ]
                refine takeYesE 4 (v := ?_) rfl (by kernel_rfl) (by kernel_rfl) (by kernel_rfl) (by rfl) (fun _ _ _ h => h) (by assumption) ?_ ?_; rotate_left; (intro w hSw; (try dsimp only at hSw); go_simp; try (with_reducible rfl))
                try simp only [Act.put, List.getElem_toArray, List.getElem_cons_zero, List.getElem_cons_succ, List.setIfInBounds_toArray, List.set_cons_zero, List.set_cons_succ]
                refine takeYesE 5 (v := ?_) rfl (by kernel_rfl) (by kernel_rfl) (by kernel_rfl) (by rfl) (fun _ _ _ h => h) (by assumption) ?_ ?_; rotate_left; (intro w hSw; (try dsimp only at hSw); go_simp; try (with_reducible rfl))
                try simp only [Act.put, List.getElem_toArray, List.getElem_cons_zero, List.getElem_cons_succ, List.setIfInBounds_toArray, List.set_cons_zero, List.set_cons_succ]
                refine takeYesE 6 (v := ?_) rfl (by kernel_rfl) (by kernel_rfl) (by kernel_rfl) (by rfl) (fun _ _ _ h => h) (by assumption) ?_ ?_; rotate_left; (intro w hSw; (try dsimp only at hSw); go_simp; try (with_reducible rfl))
                try simp only [Act.put, List.getElem_toArray, List.getElem_cons_zero, List.getElem_cons_succ, List.setIfInBounds_toArray, List.set_cons_zero, List.set_cons_succ]
                refine takeYesE 7 (v := ?_) rfl (by kernel_rfl) (by kernel_rfl) (by kernel_rfl) (by rfl) (fun _ _ _ h => h) (by assumption) ?_ ?_; rotate_left; (intro w hSw; (try dsimp only at hSw); go_simp; try (with_reducible rfl))
                try simp only [Act.put, List.getElem_toArray, List.getElem_cons_zero, List.getElem_cons_succ, List.setIfInBounds_toArray, List.set_cons_zero, List.set_cons_succ]
                refine takeYesE 8 (v := ?_) rfl (by kernel_rfl) (by kernel_rfl) (by kernel_rfl) (by rfl) (fun _ _ _ h => h) (by assumption) ?_ ?_; rotate_left; (intro w hSw; (try dsimp only at hSw); go_simp; try (with_reducible rfl))
                try simp only [Act.put, List.getElem_toArray, List.getElem_cons_zero, List.getElem_cons_succ, List.setIfInBounds_toArray, List.set_cons_zero, List.set_cons_succ]
                refine takeYesE 9 (v := ?_) rfl (by kernel_rfl) (by kernel_rfl) (by kernel_rfl) (by rfl) (fun _ _ _ h => h) (by assumption) ?_ ?_; rotate_left; (intro w hSw; (try dsimp only at hSw); go_simp; try (with_reducible rfl))
                try simp only [Act.put, List.getElem_toArray, List.getElem_cons_zero, List.getElem_cons_succ, List.setIfInBounds_toArray, List.set_cons_zero, List.set_cons_succ]
                refine takeYesE 10 (v := ?_) rfl (by kernel_rfl) (by kernel_rfl) (by kernel_rfl) (by rfl) (fun _ _ _ h => h) (by assumption) ?_ ?_; rotate_left; (intro w hSw; (try dsimp only at hSw); go_simp; try (with_reducible rfl))
                try simp only [Act.put, List.getElem_toArray, List.getElem_cons_zero, List.getElem_cons_succ, List.setIfInBounds_toArray, List.set_cons_zero, List.set_cons_succ]
                refine wpAnyH_ready (rs := [11]) (by kernel_rfl) (by simp) ?_
                refine AllReadyH.cons rfl (fun K hK => ?_) AllReadyH.nil
                go_simp
                (go_at_call 78; refine (CK.out _ (by assumption)).mono ?_; rintro e uC ⟨rfl, hb⟩; have qz11_0 : uC.cell? ⟨w.heap.size, 0, none⟩ = some (.slice sa o.sy.length sc) := carry_cell' hb (by assumption); have qz11_1 : uC.cell? ⟨w.heap.size, 1, none⟩ = some (.slice wa o.ws.length wc) := carry_cell' hb (by assumption); have qz11_2 : uC.cell? ⟨w.heap.size, 2, none⟩ = some (.int .i64 o.va) := carry_cell' hb (by assumption); have qz11_3 : uC.cell? ⟨g, gff + j * 2, none⟩ = some (.string s.name) := carry_cell' hb (by assumption); have qz11_4 : uC.cell? ⟨g, gff + j * 2 + 1, none⟩ = some (.slice ps s.args.length cs) := carry_cell' hb (by assumption); have qz11_5 : uC.cell? ⟨d, dff + k * 2, none⟩ = some (.string t.name) := carry_cell' hb (by assumption); have qz11_6 : uC.cell? ⟨d, dff + k * 2 + 1, none⟩ = some (.slice pt t.args.length ct) := carry_cell' hb (by assumption); have huC : Below wr.heap.size wr uC := carry_below (by assumption) (Nat.le_refl _) hb; clear hb; go_wp2_with fail)
                refine hK.out _ _ (by first | exact ⟨by assumption, by assumption, by assumption, by assumption, by assumption, by assumption, by assumption, by assumption⟩ | go_keep) (fun hHeld => ?_)
                clear hK K
                try simp only [Act.put, List.getElem_toArray, List.getElem_cons_zero, List.getElem_cons_succ, List.setIfInBounds_toArray, List.set_cons_zero, List.set_cons_succ]
                refine takeYesE 12 (v := ?_) rfl (by kernel_rfl) (by kernel_rfl) (by kernel_rfl) (by rfl) (fun _ _ _ h => h) (by assumption) ?_ ?_; rotate_left; (intro w hSw; (try dsimp only at hSw); go_simp; try (with_reducible rfl))
                try simp only [Act.put, List.getElem_toArray, List.getElem_cons_zero, List.getElem_cons_succ, List.setIfInBounds_toArray, List.set_cons_zero, List.set_cons_succ]
                refine takeYesE 13 (v := ?_) rfl (by kernel_rfl) (by kernel_rfl) (by kernel_rfl) (by rfl) (fun _ _ _ h => h) (by assumption) ?_ ?_; rotate_left; (intro w hSw; (try dsimp only at hSw); go_simp; try (with_reducible rfl))
                try simp only [Act.put, List.getElem_toArray, List.getElem_cons_zero, List.getElem_cons_succ, List.setIfInBounds_toArray, List.set_cons_zero, List.set_cons_succ]
                refine wpAnyH_done (by kernel_rfl) ?_ _
                have hb : Below wr.heap.size wr uC := by assumption
                have HQD := Lib.hid (carry_below HQ.out (Nat.le_refl _) hb)
                have HN : Hid ((y.take (j + 1)).any (fun s => kbo o s t) = kbo o s t) := Lib.hid (by rw [HNX.out]; rfl)
                clear hb hB0 b0 b1 b2 b3 s0 s1 t0 t1
                go_wp2
                go_roundw
                case rel => exact ⟨j + 1, by omega, by go_num, by rw [HN.out], HQD.out⟩
                case measure => simp [intOf]; omega
            · have HNX : Hid ((x.take (k + 1)).all (fun t => y.any fun s => kbo o s t) = (acc2 && fnd)) := Lib.hid (by rw [all_next HT.out, HACC.out, HFND.out, any_full (by omega)])
              cases acc2 with
              | true =>
                have HN : Hid ((x.take (k + 1)).all (fun t => y.any fun s => kbo o s t) = fnd) := Lib.hid (by rw [HNX.out]; rfl)
                clear HACC
                go_wp2
                go_roundw
                case rel => exact ⟨k + 1, by omega, by go_num, by rw [HN.out], H3Q.out, HBQ.out, HWQ.out⟩
                case measure => simp [intOf]; omega
              | false =>
                have HN : Hid ((x.take (k + 1)).all (fun t => y.any fun s => kbo o s t) = false) := Lib.hid (by rw [HNX.out]; rfl)
                clear HACC
                go_wp2
                go_roundw
                case rel => exact ⟨k + 1, by omega, by go_num, by rw [HN.out], H3Q.out, HBQ.out, HWQ.out⟩
                case measure => simp [intOf]; omega
        · have HD2 : Hid (acc2 = o.domB y x) := Lib.hid (by rw [HACC.out, all_full (by omega)]; rfl)
          clear HACC HW0 HXo HYo
          have hln : (x.length : Int) + (y.length : Int) ≤ 200000 := by omega
          go_wp2_with fail
          refine (l6Code_any _ _ _ _).mono ?_
          rintro e w9 ⟨rfl, rfl⟩
          go_wp2
          go_ret
          exact ⟨ret_int (by rw [HMC.out, ← HD1.out, ← HD2.out]; exact congrArg (fun z => codeR z acc1 acc2) (by rw [Bool.eq_iff_iff]; simp)), HB.out⟩

theorem mulOk_all {o : Od} {l : List Tm} (hw : wtTs l ≤ 1048576) (h : (l.all fun t => goodB t && o.cov t) = true) : ∀ t ∈ l, o.OkZ t := fun t ht => okZ_of (Nat.le_trans (wtTs_mem ht) hw) (List.all_eq_true.1 h t ht)
theorem mulOk_eq (o : Od) (a b : List Tm) : o.mulOk a b = (o.good && ((decide (a.length ≤ 8) && a.all fun t => goodB t && o.cov t) && (decide (b.length ≤ 8) && b.all fun t => goodB t && o.cov t))) := by
  unfold Od.mulOk Od.okTs
  cases o.good <;> cases decide (a.length ≤ 8) <;> cases decide (b.length ≤ 8) <;> cases (a.all fun t => goodB t && o.cov t) <;> cases (b.all fun t => goodB t && o.cov t) <;> rfl
theorem mulR_no {o : Od} {a b : List Tm} (h : o.mulOk a b = false) : o.mulR a b = 0 := by unfold Od.mulR; rw [h]; rfl
theorem mulR_yes {o : Od} {a b : List Tm} (h : o.mulOk a b = true) : o.mulR a b = o.mulC a b := by unfold Od.mulR; rw [h]; rfl

end Go.Proofs.YtohalpafmcobpaaGreat

/- The program's comparison of multisets, as contracts, for orderings and lists of terms of at most 1048576 names' bytes and elements. -/
namespace Go.Proofs.YtohalpafmcobpaaGreat
open Go.RowKit
set_option linter.unusedVariables false
set_option linter.unusedSimpArgs false

set_option maxRecDepth 100000 in
set_option maxHeartbeats 4000000 in
theorem gm1_any (o : Od) (ho : o.wt ≤ 1048576) (hf : o.Fine) (s t : Tm) (w : World) (sv wv va vt : Value) (p q : Nat) (hv : OdV w sv wv o) (h3 : OdB w p sv wv o) (hs : TmS w va s.args) (h2 : Two w q (.string t.name) vt) (ht : TmS w vt t.args) (hos : o.OkP s) (hot : o.OkP t) :
    Calls Tryz.prog 158 #[.agg #[.string s.name, va], .pointer (some ⟨p, 0, none⟩), .pointer (some ⟨q, 0, none⟩)] w (Ans (.bool (kbo o s t)) w) := by
  obtain ⟨sa, sc, wa, wc, rfl, rfl⟩ := hv.open
  obtain ⟨pa, ca, rfl⟩ := hs.is_slice
  obtain ⟨pb, cb, rfl⟩ := ht.is_slice
  obtain ⟨w0, hw0⟩ : ∃ w0, w.alloc (.cells #[.string s.name, .slice pa s.args.length ca] 39) = w0 := ⟨_, rfl⟩
  have HB0 : Hid (Below w.heap.size w w0) := Lib.hid (by rw [← hw0]; exact (Below.refl w.heap.size w).alloc (Nat.le_refl _) _)
  have X0 : Two w0 w.heap.size (.string s.name) (.slice pa s.args.length ca) := by rw [← hw0]; exact two_new _ _ _ 39 _ rfl
  obtain ⟨x0, x1, x2⟩ := X0
  obtain ⟨t0, t1, t2⟩ := h2.kept HB0.out
  obtain ⟨b0, b1, b2, b3⟩ := h3.kept HB0.out
  have CE := Lib.hid (kboP_any o ho hf s t w0 _ _ _ _ (hv.kept HB0.out) (hs.kept HB0.out) (ht.kept HB0.out) hos hot)
  clear hv h3 hs ht h2 hos hot hf
  go_enter Tryz.func158, Tryz.ntmps158
  go_wp2_with fail
  refine CE.out.mono ?_
  rintro e w2 ⟨rfl, hb⟩
  have HB2 := Lib.hid (carry_below HB0.out (Nat.le_refl _) hb)
  clear hb hw0
  go_wp2
  go_ret
  exact ⟨rfl, HB2.out⟩

set_option maxHeartbeats 2000000 in
theorem idxG1 (p : Tm → Bool) (l : List Tm) (w : World) (v : Value) (p1 p2 : Nat) (hv : TmS w v l) (hl : l.length ≤ 1048576)
    (hc : ∀ (t : Tm) (W : World) (va : Value), t ∈ l → Below w.heap.size w W → TmS W va t.args → Calls Tryz.prog 158 #[.agg #[.string t.name, va], .pointer (some ⟨p1, 0, none⟩), .pointer (some ⟨p2, 0, none⟩)] W (Ans (.bool (p t)) W)) :
    Calls Tryz.prog 153 #[v, .func (.func 158) #[] #[.pointer (some ⟨p1, 0, none⟩), .pointer (some ⟨p2, 0, none⟩)]] w (IdxT p l w) := by
  obtain ⟨a, c, rfl⟩ := hv.is_slice
  have HV := Lib.hid hv
  have HC := Lib.hid hc
  clear hv hc
  go_enter Tryz.func153, Tryz.ntmps153
  go_wp2
  go_loopw [8] (fun i wr => ∃ k : Nat, k ≤ l.length ∧ i = .int .i64 k ∧ (∀ j d, j < k → l[j]? = some d → p d = false) ∧ Below w.heap.size w wr) (fun i _ => l.length - (intOf i).toNat)
  case atStart => exact ⟨0, Nat.zero_le _, rfl, fun j d hj => absurd hj (Nat.not_lt_zero _), Below.refl _ _⟩
  case round =>
    obtain ⟨k, hk, rfl, hq, hbel⟩ := hrel
    have HQ := Lib.hid hq
    have HB := Lib.hid hbel
    clear hq hbel
    by_cases hlt : k < l.length
    · obtain ⟨d, hd⟩ : ∃ d, l[k]? = some d := ⟨_, List.getElem?_eq_getElem hlt⟩
      obtain ⟨b, off, rfl, va, c0, c1, hva⟩ := HV.out.get hd
      obtain ⟨pa, ca, rfl⟩ := hva.is_slice
      have c0' := carry_cell c0 HB.out
      have c1' := carry_cell c1 HB.out
      have HD := Lib.hid hd
      have CT := HC.out d wr _ (mem_of_at hd) HB.out (hva.kept HB.out)
      obtain ⟨q, hq⟩ : ∃ q, q = p d := ⟨_, rfl⟩
      rw [← hq] at CT
      have CT := Lib.hid CT
      have HQD := Lib.hid hq
      clear hd hva c0 c1 hq
      go_wp2_with fail
      refine CT.out.mono ?_
      rintro e w2 ⟨rfl, hb⟩
      have HB2 := Lib.hid (carry_below HB.out (Nat.le_refl _) hb)
      clear hb
      cases q with
      | true =>
        have HE : Hid (IdxT p l w (.returned (.int .i64 k)) w2) := Lib.hid ⟨k, rfl, .inr ⟨k, rfl, hlt, HQ.out, fun x hx => by rw [HD.out] at hx; injection hx with hx; rw [← hx]; exact HQD.out.symm⟩, HB2.out⟩
        go_wp2
        go_ret
        exact HE.out
      | false =>
        have HN : Hid (∀ j x, j < k + 1 → l[j]? = some x → p x = false) := Lib.hid (fun j x hj hx => by
          by_cases e : j = k
          · subst e; rw [HD.out] at hx; injection hx with hx; rw [← hx]; exact HQD.out.symm
          · exact HQ.out j x (by omega) hx)
        go_wp2
        go_roundw
        case rel => exact ⟨k + 1, by omega, by go_num, HN.out, HB2.out⟩
        case measure => simp [intOf]; omega
    · have hke : k = l.length := by omega
      have HE : Hid (IdxT p l w (.returned (.int .i64 (-1))) wr) := Lib.hid ⟨-1, rfl, .inl ⟨rfl, fun d hd => by
        obtain ⟨j, hj⟩ := List.getElem?_of_mem hd
        exact HQ.out j d (by rw [hke]; exact (List.getElem?_eq_some_iff.1 hj).1) hj⟩, HB.out⟩
      go_wp2
      go_ret
      exact HE.out



theorem conG_any (o : Od) (ho : o.wt ≤ 1048576) (hf : o.Fine) (l : List Tm) (t : Tm) (w : World) (sv wv v vt : Value) (p q : Nat) (hv : OdV w sv wv o) (h3 : OdB w p sv wv o) (hl : TmS w v l) (h2 : Two w q (.string t.name) vt) (ht : TmS w vt t.args) (hll : l.length ≤ 1048576) (hok : ∀ s ∈ l, o.OkP s) (hot : o.OkP t) :
    Calls Tryz.prog 157 #[v, .func (.func 158) #[] #[.pointer (some ⟨p, 0, none⟩), .pointer (some ⟨q, 0, none⟩)]] w (Ans (.bool (l.any fun s => kbo o s t)) w) := by
  have CI := Lib.hid (idxG1 (fun s => kbo o s t) l w _ p q hl hll (fun x W va hx hb hva => gm1_any o ho hf x t W _ _ va vt p q (hv.kept hb) (h3.kept hb) hva (h2.kept hb) (ht.kept hb) (hok x hx) hot))
  obtain ⟨a, c, rfl⟩ := hl.is_slice
  clear hl hv h3 h2 ht
  go_enter Tryz.func157, Tryz.ntmps157
  go_wp2_with fail
  refine CI.out.mono ?_
  intro e w1 h
  obtain ⟨i, rfl, hi, hb⟩ := idxT_any h
  have HI := Lib.hid hi
  have HB := Lib.hid hb
  clear h hi hb
  go_wp2
  go_ret
  exact ⟨ret_bool HI.out, HB.out⟩

set_option maxRecDepth 100000 in
set_option maxHeartbeats 4000000 in
theorem gmul_any (o : Od) (ho : o.wt ≤ 1048576) (hf : o.Fine) (x y : List Tm) (w : World) (sv wv va vb : Value) (hv : OdV w sv wv o) (hx : TmS w va x) (hy : TmS w vb y) (hlx : x.length ≤ 1048576) (hly : y.length ≤ 1048576) (hzx : ∀ t ∈ x, o.OkP t) (hzy : ∀ t ∈ y, o.OkP t) :
    Calls Tryz.prog 124 #[.agg #[sv, wv, .int .i64 o.va], va, vb] w (Ans (.bool (o.domB x y)) w) := by
  obtain ⟨sa, sc, wa, wc, rfl, rfl⟩ := hv.open
  have HB := Lib.hid ((Below.refl w.heap.size w).alloc (Nat.le_refl _) (.cells #[.slice sa o.sy.length sc, .slice wa o.ws.length wc, .int .i64 o.va] 35))
  have H3 : Hid (OdB (w.alloc (.cells #[.slice sa o.sy.length sc, .slice wa o.ws.length wc, .int .i64 o.va] 35)) w.heap.size (.slice sa o.sy.length sc) (.slice wa o.ws.length wc) o) := Lib.hid (thr_new w _ _ _ _ _ rfl)
  have HV := Lib.hid hv
  obtain ⟨px, cx, rfl⟩ := hx.is_slice
  obtain ⟨py, cy, rfl⟩ := hy.is_slice
  have HX := Lib.hid hx
  have HY := Lib.hid hy
  have HZX := Lib.hid hzx
  have HZY := Lib.hid hzy
  have HF := Lib.hid hf
  clear hv hx hy hzx hzy hf
  go_enter Tryz.func124, Tryz.ntmps124

  go_wp2
  go_loopw [11] (fun i wr => ∃ k : Nat, k ≤ y.length ∧ i = .int .i64 k ∧ ((y.take k).all fun t => x.any fun s => kbo o s t) = true ∧ OdB wr w.heap.size (.slice sa o.sy.length sc) (.slice wa o.ws.length wc) o ∧ Below w.heap.size w wr) (fun i _ => y.length - (intOf i).toNat)
  case atStart => exact ⟨0, Nat.zero_le _, rfl, by simp, H3.out, HB.out⟩
  case round =>
    obtain ⟨k, hk, rfl, hq, h3, hbel⟩ := hrel
    have HQ := Lib.hid hq
    replace H3 := Lib.hid h3
    replace HB := Lib.hid hbel
    clear hq h3 hbel
    by_cases hlt : k < y.length
    · obtain ⟨t, ht⟩ : ∃ t, y[k]? = some t := ⟨_, List.getElem?_eq_getElem hlt⟩
      obtain ⟨b, off, rfl, vt, c0, c1, hvt⟩ := HY.out.get ht
      obtain ⟨pt, ct, rfl⟩ := hvt.is_slice
      replace c0 := carry_cell c0 HB.out
      replace c1 := carry_cell c1 HB.out
      have HT := Lib.hid ht
      obtain ⟨wq, hwq⟩ : ∃ wq, wr.alloc (.cells #[.string t.name, .slice pt t.args.length ct] 39) = wq := ⟨_, rfl⟩
      have BQ : Hid (Below wr.heap.size wr wq) := Lib.hid (by rw [← hwq]; exact (Below.refl _ _).alloc (Nat.le_refl _) _)
      have TQ : Hid (Two wq wr.heap.size (.string t.name) (.slice pt t.args.length ct)) := Lib.hid (by rw [← hwq]; exact two_new _ _ _ _ _ rfl)
      have HBQ := Lib.hid (carry_below HB.out (Nat.le_refl _) BQ.out)
      have H3Q := Lib.hid (H3.out.kept BQ.out)
      have CI := Lib.hid (conG_any o ho HF.out x t wq _ _ _ _ w.heap.size wr.heap.size (HV.out.kept HBQ.out) H3Q.out (HX.out.kept HBQ.out) TQ.out (hvt.kept HBQ.out) hlx HZX.out (HZY.out t (mem_of_at ht)))
      clear ht hvt
      go_wp2_with fail
      refine CI.out.mono ?_
      rintro e w2 ⟨rfl, hb⟩
      replace HB := Lib.hid (carry_below HBQ.out (Nat.le_refl _) hb)
      replace H3 := Lib.hid (H3Q.out.kept hb)
      clear hb c0 c1 hwq
      cases he : x.any fun s => kbo o s t with
      | false =>
        have HE : Hid (o.domB x y = false) := Lib.hid (all_no HT.out he)
        clear he
        go_wp2
        go_ret
        exact ⟨ret_bool HE.out.symm, HB.out⟩
      | true =>
        have HN : Hid (((y.take (k + 1)).all fun t => x.any fun s => kbo o s t) = true) := Lib.hid (by rw [all_next HT.out, HQ.out, he]; rfl)
        clear he
        go_wp2
        go_roundw
        case rel => exact ⟨k + 1, by omega, by go_num, HN.out, H3.out, HB.out⟩
        case measure => simp [intOf]; omega
    · have HE : Hid (o.domB x y = true) := Lib.hid (by unfold Od.domB; rw [← all_full (k := k) (by omega)]; exact HQ.out)
      go_wp2
      go_ret
      exact ⟨ret_bool HE.out.symm, HB.out⟩

theorem nil_test {x : List Tm} : ((x.length : Int) == 0) = x.isEmpty := by
  cases x with
  | nil => rfl
  | cons a r => simp; omega

set_option maxHeartbeats 2000000 in
theorem areEmpty_any (x y : List Tm) (w : World) (pa pb : Option Addr) (ca cb : Nat) :
    Calls Tryz.prog 123 #[.slice pa x.length ca, .slice pb y.length cb] w (Ans (.bool (x.isEmpty && y.isEmpty)) w) := by
  have e1 := nil_test (x := x)
  have e2 := nil_test (x := y)
  have HE : Hid ((x.isEmpty && y.isEmpty) = (x.isEmpty && y.isEmpty)) := Lib.hid rfl
  obtain ⟨bx, hbx⟩ : ∃ b, b = x.isEmpty := ⟨_, rfl⟩
  obtain ⟨bl, hby⟩ : ∃ b, b = y.isEmpty := ⟨_, rfl⟩
  rw [← hbx, ← hby]
  rw [← hbx] at e1
  rw [← hby] at e2
  clear hbx hby HE
  cases bx with
  | false =>
    go_enter Tryz.func123, Tryz.ntmps123
    go_wp2
    go_ret
    exact ⟨rfl, Below.refl _ _⟩
  | true =>
    cases bl with
    | false =>
      go_enter Tryz.func123, Tryz.ntmps123
      go_wp2
      go_ret
      exact ⟨rfl, Below.refl _ _⟩
    | true =>
      go_enter Tryz.func123, Tryz.ntmps123
      go_wp2
      go_ret
      exact ⟨rfl, Below.refl _ _⟩

set_option maxHeartbeats 2000000 in
theorem compBy2_any (w : World) (sv wv : Value) (n : Int) (pa pb : Option Addr) (na nb ca cb : Nat) (e g l : Bool) (hq : (∃ a m c, sv = .slice a m c) ∧ ∃ a m c, wv = .slice a m c)
    (he : ∀ W, Below w.heap.size w W → Calls Tryz.prog 123 #[.slice pa na ca, .slice pb nb cb] W (Ans (.bool e) W))
    (hg : ∀ W, Below w.heap.size w W → Calls Tryz.prog 124 #[.agg #[sv, wv, .int .i64 n], .slice pa na ca, .slice pb nb cb] W (Ans (.bool g) W))
    (hl : ∀ W, Below w.heap.size w W → Calls Tryz.prog 124 #[.agg #[sv, wv, .int .i64 n], .slice pb nb cb, .slice pa na ca] W (Ans (.bool l) W)) :
    Calls Tryz.prog 121 #[.slice pa na ca, .slice pb nb cb, .func (.func 123) #[] #[], .func (.func 124) #[.agg #[sv, wv, .int .i64 n]] #[]] w (Ans (.int .i64 (codeR e g l)) w) := by
  obtain ⟨⟨sa, sn, sc, rfl⟩, wa, wn, wc, rfl⟩ := hq
  have HE := Lib.hid he
  have HG := Lib.hid hg
  have HL := Lib.hid hl
  clear he hg hl
  go_enter Tryz.func121, Tryz.ntmps121
  go_wp2_with fail
  refine (HE.out _ (Below.refl _ _)).mono ?_
  intro r w2 hh
  obtain ⟨hr, hb⟩ := hh
  have HB := Lib.hid hb
  subst hr
  clear hb
  cases e with
  | true =>
    go_wp2
    go_ret
    exact ⟨rfl, HB.out⟩
  | false =>
    go_wp2_with fail
    refine (HG.out _ HB.out).mono ?_
    intro r w3 hh
    obtain ⟨hr, hb⟩ := hh
    replace HB := Lib.hid (carry_below HB.out (Nat.le_refl _) hb)
    subst hr
    clear hb
    cases g with
    | true =>
      go_wp2
      go_ret
      exact ⟨rfl, HB.out⟩
    | false =>
      go_wp2_with fail
      refine (HL.out _ HB.out).mono ?_
      intro r w4 hh
      obtain ⟨hr, hb⟩ := hh
      replace HB := Lib.hid (carry_below HB.out (Nat.le_refl _) hb)
      subst hr
      clear hb
      cases l with
      | true =>
        go_wp2
        go_ret
        exact ⟨rfl, HB.out⟩
      | false =>
        go_wp2
        go_ret
        exact ⟨rfl, HB.out⟩

set_option maxRecDepth 100000 in
set_option maxHeartbeats 8000000 in
theorem compMul_any (o : Od) (ho : o.wt ≤ 1048576) (hf : o.Fine) (a b : List Tm) (w : World) (sv wv va vb : Value) (hv : OdV w sv wv o) (ha : TmS w va a) (hb : TmS w vb b) (hla : a.length ≤ 1048576) (hlb : b.length ≤ 1048576) (hza : ∀ t ∈ a, o.OkP t) (hzb : ∀ t ∈ b, o.OkP t) :
    Calls Tryz.prog 84 #[.agg #[sv, wv, .int .i64 o.va], va, vb] w (Ans (.int .i64 (o.mulC a b)) w) := by
  obtain ⟨sa, sc, wa, wc, rfl, rfl⟩ := hv.open
  have HB := Lib.hid ((Below.refl w.heap.size w).alloc (Nat.le_refl _) (.cells #[.slice sa o.sy.length sc, .slice wa o.ws.length wc, .int .i64 o.va] 35))
  have H3 : Hid (OdB (w.alloc (.cells #[.slice sa o.sy.length sc, .slice wa o.ws.length wc, .int .i64 o.va] 35)) w.heap.size (.slice sa o.sy.length sc) (.slice wa o.ws.length wc) o) := Lib.hid (thr_new w _ _ _ _ _ rfl)
  have HV := Lib.hid hv
  have HA := Lib.hid ha
  have HBB := Lib.hid hb
  have HZX : Hid (∀ t ∈ wcL a b, o.OkP t) := Lib.hid (fun t h => hza t (wcL_mem h))
  have HZY : Hid (∀ t ∈ wcL b a, o.OkP t) := Lib.hid (fun t h => hzb t (wcL_mem h))
  have C1 := Lib.hid (fun W (hW : Below w.heap.size w W) => wcom_any a b W _ _ (ha.kept hW) (hb.kept hW) hla hlb (fun s h => (hza s h).ok.wt) (fun s h => (hzb s h).ok.wt))
  have C2 := Lib.hid (fun W (hW : Below w.heap.size w W) => wcom_any b a W _ _ (hb.kept hW) (ha.kept hW) hlb hla (fun s h => (hzb s h).ok.wt) (fun s h => (hza s h).ok.wt))
  have HF := Lib.hid hf
  have hlx : (wcL a b).length ≤ 1048576 := Nat.le_trans (wcL_len b a) hla
  have hly : (wcL b a).length ≤ 1048576 := Nat.le_trans (wcL_len a b) hlb
  obtain ⟨pa, ca, rfl⟩ := ha.is_slice
  obtain ⟨pb, cb, rfl⟩ := hb.is_slice
  obtain ⟨w1, hw1⟩ : ∃ w1, w.alloc (.cells #[.slice sa o.sy.length sc, .slice wa o.ws.length wc, .int .i64 o.va] 35) = w1 := ⟨_, rfl⟩
  rw [hw1] at HB H3
  clear hv ha hb hza hzb hf
  obtain ⟨b0, b1, b2, b3⟩ := H3.out
  go_enter Tryz.func84, Tryz.ntmps84

  go_wp2_with fail
  have hB0 : Below w1.heap.size w1 w1.drew := (Below.refl _ _).drew
  refine wp_region_held_drew (S := (fun w' => w'.cell? ⟨w.heap.size, 0, none⟩ = some (.slice sa o.sy.length sc) ∧ w'.cell? ⟨w.heap.size, 1, none⟩ = some (.slice wa o.ws.length wc) ∧ w'.cell? ⟨w.heap.size, 2, none⟩ = some (.int .i64 o.va) ∧ Below w1.heap.size w1 w')) (by kernel_rfl) (by first | exact ⟨by assumption, by assumption, by assumption, by assumption⟩ | go_keep) (fun hHeld => ?_)
  refine takeYesE 0 (v := ?_) rfl (by kernel_rfl) (by kernel_rfl) (by kernel_rfl) (by rfl) (fun _ _ _ h => h) (by assumption) ?_ ?_; rotate_left; (intro w hSw; (try dsimp only at hSw); go_simp; try (with_reducible rfl))
  try simp only [Act.put, List.getElem_toArray, List.getElem_cons_zero, List.setIfInBounds_toArray, List.set_cons_zero, List.set_cons_succ]
  refine takeYesE 1 (v := ?_) rfl (by kernel_rfl) (by kernel_rfl) (by kernel_rfl) (by rfl) (fun _ _ _ h => h) (by assumption) ?_ ?_; rotate_left; (intro w hSw; (try dsimp only at hSw); go_simp; try (with_reducible rfl))
  try simp only [Act.put, List.getElem_toArray, List.getElem_cons_zero, List.getElem_cons_succ, List.setIfInBounds_toArray, List.set_cons_zero, List.set_cons_succ]
  refine takeYesE 3 (v := ?_) rfl (by kernel_rfl) (by kernel_rfl) (by kernel_rfl) (by rfl) (fun _ _ _ h => h) (by assumption) ?_ ?_; rotate_left; (intro w hSw; (try dsimp only at hSw); go_simp; try (with_reducible rfl))
  try simp only [Act.put, List.getElem_toArray, List.getElem_cons_zero, List.getElem_cons_succ, List.setIfInBounds_toArray, List.set_cons_zero, List.set_cons_succ]
  refine takeYesE 4 (v := ?_) rfl (by kernel_rfl) (by kernel_rfl) (by kernel_rfl) (by rfl) (fun _ _ _ h => h) (by assumption) ?_ ?_; rotate_left; (intro w hSw; (try dsimp only at hSw); go_simp; try (with_reducible rfl))
  try simp only [Act.put, List.getElem_toArray, List.getElem_cons_zero, List.getElem_cons_succ, List.setIfInBounds_toArray, List.set_cons_zero, List.set_cons_succ]
  refine takeYesE 6 (v := ?_) rfl (by kernel_rfl) (by kernel_rfl) (by kernel_rfl) (by rfl) (fun _ _ _ h => h) (by assumption) ?_ ?_; rotate_left; (intro w hSw; (try dsimp only at hSw); go_simp; try (with_reducible rfl))
  try simp only [Act.put, List.getElem_toArray, List.getElem_cons_zero, List.getElem_cons_succ, List.setIfInBounds_toArray, List.set_cons_zero, List.set_cons_succ]
  refine takeYesE 7 (v := ?_) rfl (by kernel_rfl) (by kernel_rfl) (by kernel_rfl) (by rfl) (fun _ _ _ h => h) (by assumption) ?_ ?_; rotate_left; (intro w hSw; (try dsimp only at hSw); go_simp; try (with_reducible rfl))
  try simp only [Act.put, List.getElem_toArray, List.getElem_cons_zero, List.getElem_cons_succ, List.setIfInBounds_toArray, List.set_cons_zero, List.set_cons_succ]
  refine wpAnyH_ready (rs := [2]) (by kernel_rfl) (by simp) ?_
  refine AllReadyH.cons rfl (fun K hK => ?_) AllReadyH.nil
  go_simp
  (go_at_call 122; refine (C1.out _ (HB.out.trans ((show Below w1.heap.size w1 w1.drew by assumption).mono HB.out.size))).mono ?_; rintro e uA ⟨v1, L1, rfl, hr1, he1, hb⟩; have qz2_0 : uA.cell? ⟨w.heap.size, 0, none⟩ = some (.slice sa o.sy.length sc) := carry_cell' hb (by assumption); have qz2_1 : uA.cell? ⟨w.heap.size, 1, none⟩ = some (.slice wa o.ws.length wc) := carry_cell' hb (by assumption); have qz2_2 : uA.cell? ⟨w.heap.size, 2, none⟩ = some (.int .i64 o.va) := carry_cell' hb (by assumption); have huA : Below w1.heap.size w1 uA := carry_below (by assumption) (Nat.le_refl _) hb; have HX1 : Hid (TmS uA v1 (wcL a b)) := Lib.hid (by rw [← he1]; exact hr1.read hb); obtain ⟨px, cx, rfl⟩ := HX1.out.is_slice; clear hb hr1 he1; go_wp2_with fail)
  refine hK.out _ _ (by first | exact ⟨by assumption, by assumption, by assumption, by assumption⟩ | go_keep) (fun hHeld => ?_)
  clear hK K
  try simp only [Act.put, List.getElem_toArray, List.getElem_cons_zero, List.getElem_cons_succ, List.setIfInBounds_toArray, List.set_cons_zero, List.set_cons_succ]
  refine wpAnyH_ready (rs := [5]) (by kernel_rfl) (by simp) ?_
  refine AllReadyH.cons rfl (fun K hK => ?_) AllReadyH.nil
  go_simp
  (go_at_call 122; refine (C2.out _ (HB.out.trans (huA.mono HB.out.size))).mono ?_; rintro e uB ⟨v2, L2, rfl, hr2, he2, hb⟩; have qz5_0 : uB.cell? ⟨w.heap.size, 0, none⟩ = some (.slice sa o.sy.length sc) := carry_cell' hb (by assumption); have qz5_1 : uB.cell? ⟨w.heap.size, 1, none⟩ = some (.slice wa o.ws.length wc) := carry_cell' hb (by assumption); have qz5_2 : uB.cell? ⟨w.heap.size, 2, none⟩ = some (.int .i64 o.va) := carry_cell' hb (by assumption); have huB : Below w1.heap.size w1 uB := carry_below (by assumption) (Nat.le_refl _) hb; have HX2 : Hid (TmS uB _ (wcL a b)) := Lib.hid (HX1.out.kept hb); have HY2 : Hid (TmS uB v2 (wcL b a)) := Lib.hid (by rw [← he2]; exact hr2.read hb); obtain ⟨py, cy, rfl⟩ := HY2.out.is_slice; clear hb hr2 he2; go_wp2_with fail)
  refine hK.out _ _ (by first | exact ⟨by assumption, by assumption, by assumption, by assumption⟩ | go_keep) (fun hHeld => ?_)
  clear hK K
  try simp only [Act.put, List.getElem_toArray, List.getElem_cons_zero, List.getElem_cons_succ, List.setIfInBounds_toArray, List.set_cons_zero, List.set_cons_succ]
  refine wpAnyH_ready (rs := [8]) (by kernel_rfl) (by simp) ?_
  refine AllReadyH.cons rfl (fun K hK => ?_) AllReadyH.nil
  go_simp
  (go_at_call 121; refine (compBy2_any uB (.slice sa o.sy.length sc) (.slice wa o.ws.length wc) o.va _ _ _ _ _ _ ((wcL a b).isEmpty && (wcL b a).isEmpty) (o.domB (wcL a b) (wcL b a)) (o.domB (wcL b a) (wcL a b)) ⟨⟨_, _, _, rfl⟩, _, _, _, rfl⟩ (fun W hW => areEmpty_any (wcL a b) (wcL b a) W _ _ _ _) (fun W hW => gmul_any o ho HF.out (wcL a b) (wcL b a) W _ _ _ _ (HV.out.kept (HB.out.trans ((huB.trans (hW.mono huB.size)).mono HB.out.size))) (HX2.out.kept hW) (HY2.out.kept hW) hlx hly HZX.out HZY.out) (fun W hW => gmul_any o ho HF.out (wcL b a) (wcL a b) W _ _ _ _ (HV.out.kept (HB.out.trans ((huB.trans (hW.mono huB.size)).mono HB.out.size))) (HY2.out.kept hW) (HX2.out.kept hW) hly hlx HZY.out HZX.out)).mono ?_; rintro e uC ⟨rfl, hb⟩; have qz8_0 : uC.cell? ⟨w.heap.size, 0, none⟩ = some (.slice sa o.sy.length sc) := carry_cell' hb (by assumption); have qz8_1 : uC.cell? ⟨w.heap.size, 1, none⟩ = some (.slice wa o.ws.length wc) := carry_cell' hb (by assumption); have qz8_2 : uC.cell? ⟨w.heap.size, 2, none⟩ = some (.int .i64 o.va) := carry_cell' hb (by assumption); have huC : Below w1.heap.size w1 uC := carry_below (by assumption) (Nat.le_refl _) hb; clear hb; go_wp2_with fail)
  refine hK.out _ _ (by first | exact ⟨by assumption, by assumption, by assumption, by assumption⟩ | go_keep) (fun hHeld => ?_)
  clear hK K
  try simp only [Act.put, List.getElem_toArray, List.getElem_cons_zero, List.getElem_cons_succ, List.setIfInBounds_toArray, List.set_cons_zero, List.set_cons_succ]
  refine takeYesE 9 (v := ?_) rfl (by kernel_rfl) (by kernel_rfl) (by kernel_rfl) (by rfl) (fun _ _ _ h => h) (by assumption) ?_ ?_; rotate_left; (intro w hSw; (try dsimp only at hSw); go_simp; try (with_reducible rfl))
  try simp only [Act.put, List.getElem_toArray, List.getElem_cons_zero, List.getElem_cons_succ, List.setIfInBounds_toArray, List.set_cons_zero, List.set_cons_succ]
  refine wpAnyH_done (by kernel_rfl) ?_ _
  have HBC := Lib.hid (HB.out.trans (huC.mono HB.out.size))
  go_wp2
  go_ret
  exact ⟨rfl, HBC.out⟩

theorem okTs_all {o : Od} {l : List Tm} (hw : wtTs l ≤ 1048576) (h : o.okTs l = true) : o.good = true ∧ ∀ t ∈ l, o.OkP t := by
  unfold Od.okTs at h
  rw [Bool.and_eq_true] at h
  exact ⟨h.1, fun t ht => (mulOk_all hw h.2 t ht).P⟩
theorem mulOk_l1 {o : Od} {a b : List Tm} (h : ¬ a.length ≤ 8) : o.mulOk a b = false := by unfold Od.mulOk; rw [decide_eq_false h]; simp
theorem mulOk_l2 {o : Od} {a b : List Tm} (h : ¬ b.length ≤ 8) : o.mulOk a b = false := by unfold Od.mulOk; rw [decide_eq_false h]; simp
theorem mulOk_a {o : Od} {a b : List Tm} (h : o.okTs a = false) : o.mulOk a b = false := by unfold Od.mulOk; rw [h]; simp
theorem mulOk_b {o : Od} {a b : List Tm} (h : o.okTs b = false) : o.mulOk a b = false := by unfold Od.mulOk; rw [h]; simp
theorem mulOk_y {o : Od} {a b : List Tm} (h1 : a.length ≤ 8) (h2 : b.length ≤ 8) (h3 : o.okTs a = true) (h4 : o.okTs b = true) : o.mulOk a b = true := by unfold Od.mulOk; rw [h3, h4]; simp [h1, h2]

end Go.Proofs.YtohalpafmcobpaaGreat
