/- Several texts in one: each says what it proves. No condition but theirs. -/
import Derived.Test.YtdpeanpmjhpblaaGreatYaG
import Derived.Test.YtdpeanpmjhpblaaGreatFsG
import Derived.Test.YtdpeanpmjhpblaaGreatStG
import Derived.Test.YtdpeanpmjhpblaaGreatVnG
import Derived.Test.YtdpeanpmjhpblaaGreatFnG
import Derived.Maps.OwnIn
/- The free variables of a formula: the model's list and the program's are one; plain facts on lists. No condition. -/
namespace Go.Proofs.YtdpeanpmjhpblaaGreat
open Go.RowKit Go.Shelf
set_option linter.unusedVariables false
set_option linter.unusedSimpArgs false

/-- The names at an atom that are not bound there, each as often as it occurs. -/
def frA (x : Tm × List ByteArray) : List ByteArray := (vn x.1.nds).filter fun s => !Lib.containsS x.2 s
/-- .. of all atoms. -/
def nmK (K : List (Tm × List ByteArray)) : List ByteArray := (K.map frA).flatten
theorem nmK_snoc (K : List (Tm × List ByteArray)) (x : Tm × List ByteArray) : nmK (K ++ [x]) = nmK K ++ frA x := by simp [nmK]
theorem nmK_cons (x : Tm × List ByteArray) (K : List (Tm × List ByteArray)) : nmK (x :: K) = frA x ++ nmK K := by simp [nmK]
/-- What the program answers. -/
def ifA (t : Fm) : List ByteArray := if fgoodB t then bsL (outL (nmK (t.ats []))) else []

theorem frA_len (x : Tm × List ByteArray) : (frA x).length ≤ x.1.sz := by
  unfold frA
  have h1 := List.length_filter_le (fun s => !Lib.containsS x.2 s) (vn x.1.nds)
  have h2 := vn_len x.1.nds
  rw [Tm.nds_len] at h2
  omega
theorem nmK_len (K : List (Tm × List ByteArray)) (m : Nat) (h : ∀ x ∈ K, x.1.sz ≤ m) : (nmK K).length ≤ m * K.length := by
  induction K with
  | nil => simp [nmK]
  | cons x r ih =>
    rw [nmK_cons, List.length_append, List.length_cons, Nat.mul_add]
    have h1 := frA_len x
    have h2 := h x List.mem_cons_self
    have h3 := ih fun y hy => h y (List.mem_cons_of_mem _ hy)
    omega

theorem addF_put (bd : List ByteArray) : ∀ vs l : List ByteArray, addF bd vs l = putAll (vs.filter fun s => !Lib.containsS bd s) l
  | [], l => rfl
  | s :: r, l => by
    rw [addF, addF_put bd r, List.filter_cons]
    cases c : Lib.containsS bd s <;> simp [putAll]

def addK (K : List (Tm × List ByteArray)) (l : List ByteArray) : List ByteArray := K.foldl (fun l x => addF x.2 (x.1.into []) l) l
theorem addK_append (a b : List (Tm × List ByteArray)) (l : List ByteArray) : addK (a ++ b) l = addK b (addK a l) := by simp [addK]

theorem form3 {t : Fm} (h : formB t = true) (h3 : t.op = 3) : atomB t.atom = true ∧ t.parts = [] := by
  unfold formB at h
  rw [if_neg (by omega), if_pos h3] at h
  simp only [Bool.and_eq_true, decide_eq_true_eq] at h
  exact ⟨h.1, List.length_eq_zero_iff.1 h.2.2⟩
theorem varB_pos {s : ByteArray} (h : varB s = true) : s.size ≠ 0 := fun e => by
  unfold varB at h
  rw [dif_neg (by omega)] at h
  cases h
theorem form23 {t : Fm} (h : formB t = true) (bd : List ByteArray) : t.bd2 bd = t.bd3 bd := by
  have hv : if t.op = 8 ∨ t.op = 9 then t.var.size ≠ 0 else t.var.size = 0 := by
    unfold formB at h
    split at h
    · simp only [Bool.and_eq_true, decide_eq_true_eq] at h
      rw [if_neg (by omega)]; exact h.2.1
    split at h
    · simp only [Bool.and_eq_true, decide_eq_true_eq] at h
      rw [if_neg (by omega)]; exact h.2.1
    split at h
    · simp only [Bool.and_eq_true, decide_eq_true_eq] at h
      rw [if_neg (by omega)]; exact h.2.1
    split at h
    · simp only [Bool.and_eq_true, decide_eq_true_eq] at h
      rw [if_neg (by omega)]; exact h.2.1
    split at h
    · rename_i h8
      simp only [Bool.and_eq_true, decide_eq_true_eq] at h
      rw [if_pos h8]; exact varB_pos h.2.1
    · cases h
  unfold Fm.bd2 Fm.bd3
  by_cases h8 : t.op = 8 ∨ t.op = 9
  · rw [if_pos h8] at hv
    rw [if_pos h8, if_neg hv]
  · rw [if_neg h8] at hv
    rw [if_neg h8, if_pos hv]
theorem form_atom {t : Fm} (h : formB t = true) : t.atom.sz ≤ 30 := by
  have hn : noneB t.atom = true → t.atom.sz ≤ 30 := fun h => by
    unfold noneB at h
    simp only [Bool.and_eq_true, decide_eq_true_eq] at h
    have e : t.atom.args = [] := List.length_eq_zero_iff.1 h.2
    rw [← Tm.nds_len, Tm.nds_eq, e]
    simp [Tm.ndsL]
  by_cases h3 : t.op = 3
  · have h1 := (form3 h h3).1
    have h2 := anyB_fits (t := t.atom) (by simp [anyB, h1])
    unfold fitsB at h2
    simp only [Bool.and_eq_true, decide_eq_true_eq] at h2
    exact h2.1
  · unfold formB at h
    split at h
    · simp only [Bool.and_eq_true] at h; exact hn h.1
    split at h
    · simp only [Bool.and_eq_true] at h; exact hn h.1
    split at h
    · simp only [Bool.and_eq_true] at h; exact hn h.1
    split at h
    · simp only [Bool.and_eq_true] at h; exact hn h.1
    · cases h

theorem forms_parts {t : Fm} (h : t.formsB = true) : formB t = true ∧ ∀ s ∈ t.parts, s.formsB = true := by
  rw [t.formsB_eq, Bool.and_eq_true, List.all_eq_true] at h
  exact h

theorem fv_ats : ∀ t : Fm, t.formsB = true → ∀ bd l, t.fv bd l = addK (t.ats bd) l := Fm.ind fun t ih => by
  intro h bd l
  obtain ⟨hf, hp⟩ := forms_parts h
  rw [t.fv_eq, t.ats_eq]
  by_cases h3 : t.op = 3
  · rw [if_pos h3, if_pos h3, (form3 hf h3).2]
    simp [Fm.fvL, addK]
  · rw [if_neg h3, if_neg h3, form23 hf bd]
    have key : ∀ ps : List Fm, (∀ s ∈ ps, s.formsB = true → ∀ bd l, s.fv bd l = addK (s.ats bd) l) → (∀ s ∈ ps, s.formsB = true) → ∀ bd l, Fm.fvL ps bd l = addK (Fm.atsL ps bd) l := by
      intro ps
      induction ps with
      | nil => intro _ _ bd l; simp [Fm.fvL, Fm.atsL, addK]
      | cons s r ihr =>
        intro h1 h2 bd l
        rw [Fm.fvL, Fm.atsL, addK_append, h1 s List.mem_cons_self (h2 s List.mem_cons_self)]
        exact ihr (fun x hx => h1 x (List.mem_cons_of_mem _ hx)) (fun x hx => h2 x (List.mem_cons_of_mem _ hx)) bd _
    exact key t.parts ih hp _ l

theorem ats_sz : ∀ (t : Fm) (bd : List ByteArray), (t.ats bd).length ≤ t.sz := Fm.ind fun t ih => by
  intro bd
  rw [t.ats_eq, t.sz_eq]
  have key : ∀ ps : List Fm, (∀ s ∈ ps, ∀ bd, (Fm.ats s bd).length ≤ s.sz) → ∀ bd, (Fm.atsL ps bd).length ≤ sumG Fm.sz ps := by
    intro ps
    induction ps with
    | nil => intro _ bd; simp [Fm.atsL]
    | cons s r ihr =>
      intro h bd
      rw [Fm.atsL, List.length_append]
      have h1 := h s List.mem_cons_self bd
      have h2 := ihr (fun x hx => h x (List.mem_cons_of_mem _ hx)) bd
      simp only [sumG]; omega
  split
  · simp
  · have := key t.parts ih (t.bd3 bd); omega

theorem ats_atom : ∀ t : Fm, t.formsB = true → ∀ bd, ∀ x ∈ t.ats bd, atomB x.1 = true := Fm.ind fun t ih => by
  intro h bd x hx
  obtain ⟨hf, hp⟩ := forms_parts h
  rw [t.ats_eq] at hx
  by_cases h3 : t.op = 3
  · rw [if_pos h3] at hx
    obtain rfl := List.mem_singleton.1 hx
    exact (form3 hf h3).1
  · rw [if_neg h3] at hx
    have key : ∀ ps : List Fm, (∀ s ∈ ps, s.formsB = true → ∀ bd, ∀ x ∈ Fm.ats s bd, atomB x.1 = true) → (∀ s ∈ ps, s.formsB = true) → ∀ bd, ∀ x ∈ Fm.atsL ps bd, atomB x.1 = true := by
      intro ps
      induction ps with
      | nil => intro _ _ bd x hx; simp [Fm.atsL] at hx
      | cons s r ihr =>
        intro h1 h2 bd x hx
        rw [Fm.atsL, List.mem_append] at hx
        rcases hx with hx | hx
        · exact h1 s List.mem_cons_self (h2 s List.mem_cons_self) bd x hx
        · exact ihr (fun y hy => h1 y (List.mem_cons_of_mem _ hy)) (fun y hy => h2 y (List.mem_cons_of_mem _ hy)) bd x hx
    exact key t.parts ih hp _ x hx

theorem ats_wt : ∀ (t : Fm) (bd : List ByteArray), ∀ x ∈ t.ats bd, x.1.wt ≤ t.wt := Fm.ind fun t ih => by
  intro bd x hx
  rw [t.ats_eq] at hx
  by_cases h3 : t.op = 3
  · rw [if_pos h3] at hx
    obtain rfl := List.mem_singleton.1 hx
    exact t.wt_atom
  · rw [if_neg h3] at hx
    have key : ∀ ps : List Fm, (∀ s ∈ ps, ∀ bd, ∀ x ∈ Fm.ats s bd, x.1.wt ≤ s.wt) → ∀ bd, ∀ x ∈ Fm.atsL ps bd, ∃ s ∈ ps, x.1.wt ≤ s.wt := by
      intro ps
      induction ps with
      | nil => intro _ bd x hx; simp [Fm.atsL] at hx
      | cons s r ihr =>
        intro h1 bd x hx
        rw [Fm.atsL, List.mem_append] at hx
        rcases hx with hx | hx
        · exact ⟨s, List.mem_cons_self, h1 s List.mem_cons_self bd x hx⟩
        · obtain ⟨y, hy, hyx⟩ := ihr (fun y hy => h1 y (List.mem_cons_of_mem _ hy)) bd x hx
          exact ⟨y, List.mem_cons_of_mem _ hy, hyx⟩
    obtain ⟨s, hs, hxs⟩ := key t.parts ih _ x hx
    exact Nat.le_trans hxs (Fm.wt_part hs)

theorem az_le : ∀ t : Fm, t.formsB = true → t.az ≤ 30 * t.sz := Fm.ind fun t ih => by
  intro h
  obtain ⟨hf, hp⟩ := forms_parts h
  rw [t.az_eq, t.sz_eq]
  have h1 := form_atom hf
  have key : ∀ ps : List Fm, (∀ s ∈ ps, s.formsB = true → Fm.az s ≤ 30 * s.sz) → (∀ s ∈ ps, s.formsB = true) → sumG Fm.az ps ≤ 30 * sumG Fm.sz ps := by
    intro ps
    induction ps with
    | nil => intro _ _; simp [sumG]
    | cons s r ihr =>
      intro h1 h2
      have a := h1 s List.mem_cons_self (h2 s List.mem_cons_self)
      have b := ihr (fun x hx => h1 x (List.mem_cons_of_mem _ hx)) (fun x hx => h2 x (List.mem_cons_of_mem _ hx))
      simp only [sumG]; omega
  have h2 := key t.parts ih hp
  omega

theorem fgood_open {t : Fm} (h : fgoodB t = true) : t.sz ≤ 40 ∧ t.formsB = true := by
  unfold fgoodB at h
  simpa using h
theorem fgood_az {t : Fm} (h : fgoodB t = true) : t.az ≤ 1048576 := by
  obtain ⟨h1, h2⟩ := fgood_open h
  have := az_le t h2
  omega
/-- What is known of a valid formula's atoms. -/
theorem ats_good {t : Fm} (h : fgoodB t = true) (hw : t.wt ≤ 1048576) : (t.ats []).length ≤ 40 ∧ ∀ x ∈ t.ats [], x.1.wt ≤ 1048576 ∧ x.1.plain ∧ x.1.sz ≤ 30 := by
  obtain ⟨h1, h2⟩ := fgood_open h
  refine ⟨Nat.le_trans (ats_sz t []) h1, fun x hx => ?_⟩
  have ha : anyB x.1 = true := by simp [anyB, ats_atom t h2 [] x hx]
  have hf := anyB_fits ha
  unfold fitsB at hf
  simp only [Bool.and_eq_true, decide_eq_true_eq] at hf
  exact ⟨Nat.le_trans (ats_wt t [] x hx) hw, any_leaf ha, hf.1⟩

theorem addK_put : ∀ (K : List (Tm × List ByteArray)), (∀ x ∈ K, x.1.plain) → ∀ l, (∀ y, y ∈ addK K l ↔ y ∈ nmK K ∨ y ∈ l) ∧ ((rawL l).Pairwise (· < ·) → (rawL (addK K l)).Pairwise (· < ·))
  | [], _, l => by simp [addK, nmK]
  | x :: r, h, l => by
    have hx := h x List.mem_cons_self
    have e : addK (x :: r) l = addK r (addF x.2 (x.1.into []) l) := rfl
    have e2 : addF x.2 (x.1.into []) l = putAll ((x.1.into []).filter fun s => !Lib.containsS x.2 s) l := addF_put _ _ _
    obtain ⟨h1, h2⟩ := addK_put r (fun y hy => h y (List.mem_cons_of_mem _ hy)) (addF x.2 (x.1.into []) l)
    rw [e]
    refine ⟨fun y => ?_, fun hl => h2 (by rw [e2]; exact putAll_asc _ _ hl)⟩
    rw [h1 y, nmK_cons, List.mem_append, e2, putAll_mem, into_fold x.1 hx []]
    have e3 : y ∈ (putAll (vn x.1.nds) []).filter (fun s => !Lib.containsS x.2 s) ↔ y ∈ frA x := by
      unfold frA
      rw [List.mem_filter, List.mem_filter, putAll_mem]
      simp
    rw [e3]
    constructor
    · rintro (h | h | h)
      · exact .inl (.inr h)
      · exact .inl (.inl h)
      · exact .inr h
    · rintro ((h | h) | h)
      · exact .inr (.inl h)
      · exact .inl h
      · exact .inr (.inr h)

theorem fv_one (t : Fm) (hw : t.wt ≤ 1048576) : fvA t = ifA t := by
  unfold fvA ifA
  cases h : fgoodB t with
  | false => rfl
  | true =>
    simp only [if_true]
    rw [fv_ats t (fgood_open h).2]
    obtain ⟨h1, h2⟩ := addK_put (t.ats []) (fun x hx => ((ats_good h hw).2 x hx).2.1) []
    refine raw_inj ?_
    rw [raw_bs]
    refine asc_unique _ _ (h2 (by simp [rawL])) (outL_asc _) fun x => ?_
    rw [outL_mem, raw_mem, raw_mem]
    constructor
    · rintro ⟨s, hs, rfl⟩
      rcases (h1 s).1 hs with h | h
      · exact ⟨s, h, rfl⟩
      · cases h
    · rintro ⟨s, hs, rfl⟩
      exact ⟨s, (h1 s).2 (.inl hs), rfl⟩

end Go.Proofs.YtdpeanpmjhpblaaGreat

/- The program's FreeVariables: a contract. -/
namespace Go.Proofs.YtdpeanpmjhpblaaGreat
open Go.RowKit Go.Shelf
set_option linter.unusedVariables false
set_option linter.unusedSimpArgs false

attribute [local go_sem] Oper.semAt_some

theorem rows_apart {w : World} {b1 b2 n1 n2 s1 s2 : Nat} {t1 t2 : TypeId} {v1 v2 : Value} {xs1 xs2 : List Value} (ht : t1 ≠ t2) (h1 : w.ownsRow b1 t1 s1 v1 n1 xs1) (h2 : w.ownsRow b2 t2 s2 v2 n2 xs2) : v1.ownBlock = none ∨ v1.ownBlock ≠ v2.ownBlock := by
  rcases h1.2 with ⟨rfl, _⟩ | ⟨g, cap, cur, rfl, _, hg, _⟩
  · exact .inl rfl
  · refine .inr fun e => ?_
    rcases h2.2 with ⟨rfl, _⟩ | ⟨g', cap', cur', rfl, _, hg', _⟩
    · simp [Value.ownBlock] at e
    · obtain rfl : g = g' := by simpa [Value.ownBlock] using e
      rw [hg] at hg'
      cases hg'
      exact ht rfl
theorem tms_names {L : List (Tm × Value)} {t : Tm} (h : tmsE L = t.vs) : L.map (fun e => e.1.name) = vn t.nds := by
  have e := congrArg (List.map Tm.name) h
  unfold tmsE Tm.vs at e
  rw [List.map_map] at e
  exact e
/-- Is a name in a row of the call's own? -/
theorem cont_own {n0 : Nat} {W : World} {p : Option Addr} {c : Nat} {bd : List ByteArray} (h : W.ownsRow n0 9 1 (.slice p bd.length c) bd.length (bd.map Value.string)) (x : ByteArray) :
    Calls Tryz.prog 50 #[.slice p bd.length c, .string x] W fun e w' => e = .returned (.bool (Lib.containsS bd x)) ∧ W = w' := by
  rcases id h.2 with ⟨e, h0⟩ | ⟨g, cap, cur, e, h1, h2, h3, h4, h5, h6⟩
  · obtain rfl := List.length_eq_zero_iff.1 h0
    exact (Tryz.slices_Contains_string_empty p c x W).mono (by rintro e w' ⟨rfl, rfl⟩; exact ⟨rfl, rfl⟩)
  · cases e
    have hh := Tryz.slices_Contains_string g 0 bd.length c bd x W (Nat.le_refl _) (by unfold maxLen at h4; omega) (fun j hj => by
      have hc := h.cellAt j (by omega)
      rw [Nat.zero_add, hc, List.getElem?_map, List.getElem?_eq_getElem hj, getD_eq hj]; rfl)
    rw [List.take_length] at hh
    exact hh.mono (by rintro e w' ⟨rfl, rfl⟩; exact ⟨rfl, rfl⟩)
/-- The books behind an append to the row that the box holds. -/
theorem kps_app {n0 bb n m : Nat} {W w8 : World} {v v' : Value} {xs zs : List Value} {tmp : Obj} (hbv : Boxed W bb 59 v) (hrow : W.ownsRow n0 9 1 v n xs) (hn : n0 ≤ W.heap.size) (hb : n0 ≤ bb)
    (hown : w8.ownsRow n0 9 1 v' m zs) (hg : (W.alloc tmp).grownBy w8 v.ownBlock) (hat : v'.ownBlock = v.ownBlock ∨ v'.ownBlock = some (W.alloc tmp).heap.size) : KpS none n0 bb W (w8.setCell ⟨bb, 0, none⟩ v') := by
  obtain ⟨a1, a2, a3, a4, a5⟩ := hbv.appended (by decide) hrow hn hb hown hg
  refine ⟨a5, fun ok => ?_⟩
  have e1 := rowAt_boxed hbv
  have e2 := rowAt_boxed a2
  refine ⟨⟨a2.lt, fun g h => ?_⟩, fun k a ty fz hk ht hne _ => ?_, fun g h => ?_⟩
  · rw [e2] at h; exact (a3.lt g h).2
  · rw [e1] at hne
    have hkl := (Array.getElem?_eq_some_iff.1 hk).1
    have hkb : k ≠ bb := fun e => by
      rw [e, show W.heap[bb]? = _ from hbv] at hk
      injection hk with hk
      injection hk with _ hty _
      rcases ht with ht | ht
      · exact absurd (hty.trans ht) (by decide)
      · exact absurd (hty.trans ht) (by decide)
    rw [Below.heap_setCell _ _ _ _ (by simpa using hkb), hg.block k (by simp; omega) (fun e => hne e.symm), Below.heap_alloc _ _ _ hkl]
    exact hk
  · rw [e2] at h
    rcases hat with e | e
    · exact .inl (by rw [e1, ← e]; exact h)
    · rw [e] at h; have h := Option.some.inj h; simp at h; exact .inr (by omega)

def IFEnd (t : Fm) (w : World) (e : Ending) (w' : World) : Prop :=
  ∃ g cap, e = .returned (.tuple #[.slice (some ⟨g, 0, none⟩) (ifA t).length cap, .bool (fgoodB t)]) ∧ w'.ownsRow w.heap.size 9 1 (.slice (some ⟨g, 0, none⟩) (ifA t).length cap) (ifA t).length ((ifA t).map Value.string) ∧ Below w.heap.size w w'

set_option maxRecDepth 100000 in
set_option maxHeartbeats 40000000 in
theorem freeVars_in (t : Fm) (w : World) (va vp : Value) (hv : FmV w va vp t) (hw : t.wt ≤ 1048576) :
    CallsIn Fence.wide 9 Tryz.prog 24 #[.agg #[.int .i64 t.op, .string t.atom.name, va, .string t.var, vp]] w (IFEnd t w) := by
  obtain ⟨i0, hi, hz0, hz1, hz2⟩ := info_parts infoStr
  obtain ⟨pa, ca, pp, cp, rfl, rfl⟩ := hv.open
  have HV := Lib.hid hv
  have H2 := Lib.hid (fivB_new w (.int .i64 t.op) (.string t.atom.name) (.slice pa t.atom.args.length ca) (.string t.var) (.slice pp t.parts.length cp) 34 _ rfl)
  have HHP : Hid ((w.alloc (.cells #[.int .i64 t.op, .string t.atom.name, .slice pa t.atom.args.length ca, .string t.var, .slice pp t.parts.length cp] 34)).heap[w.heap.size]? = some (.cells #[.int .i64 t.op, .string t.atom.name, .slice pa t.atom.args.length ca, .string t.var, .slice pp t.parts.length cp] 34 (0, 0))) := Lib.hid (World.alloc_heap_new w _)
  have HB0 := Lib.hid ((Below.refl w.heap.size w).alloc (Nat.le_refl _) (.cells #[.int .i64 t.op, .string t.atom.name, .slice pa t.atom.args.length ca, .string t.var, .slice pp t.parts.length cp] 34))
  obtain ⟨b0, b1, b2, b3, b4, b5⟩ := H2.out
  have CG : Hid (∀ W, Below w.heap.size w W → Calls Tryz.prog 27 #[.agg #[.int .i64 t.op, .string t.atom.name, .slice pa t.atom.args.length ca, .string t.var, .slice pp t.parts.length cp]] W (Ans (.bool (fgoodB t)) W)) := Lib.hid (fun W hW => implVF_any t W _ _ (HV.out.kept hW) hw)
  have hz00 : w.heap.size < (w.alloc (.cells #[.int .i64 t.op, .string t.atom.name, .slice pa t.atom.args.length ca, .string t.var, .slice pp t.parts.length cp] 34)).heap.size := by simp
  clear hv
  refine callsIn_of_wp_marks Tryz.func24 rfl trivial ?_ rfl
  simp only [Tryz.ntmps24, List.size_toArray, List.length_cons, List.length_nil, Nat.reduceAdd, Nat.reduceSub, Array.replicate_succ, Array.replicate_zero, List.push_toArray, List.append_toArray, List.nil_append, List.cons_append]
  gi_wp2
  refine ⟨trivial, ?_⟩
  refine (callsIn_wide.2 (CG.out _ HB0.out)).mono ?_
  rintro e w1 ⟨rfl, hb⟩
  have HB1 := Lib.hid (carry_below HB0.out (Nat.le_refl _) hb)
  have H21 := Lib.hid (H2.out.kept hb)
  have HHP1 : Hid (w1.heap[w.heap.size]? = some (.cells #[.int .i64 t.op, .string t.atom.name, .slice pa t.atom.args.length ca, .string t.var, .slice pp t.parts.length cp] 34 (0, 0))) := Lib.hid ((hb.block _ hz00).trans HHP.out)
  have hz1w : w.heap.size < w1.heap.size := Nat.lt_of_lt_of_le hz00 hb.size
  clear hb b0 b1 b2 b3 b4 b5 HHP hz00
  obtain ⟨b0, b1, b2, b3, b4, b5⟩ := H21.out
  cases hg : fgoodB t with
  | false =>
    have HE : Hid (IFEnd t w (.returned (.tuple #[.slice (some ⟨w1.heap.size, 0, none⟩) 0 0, .bool false])) (w1.alloc (.cells #[] 9))) := Lib.hid (by
      have e : ifA t = [] := by simp [ifA, hg]
      refine ⟨w1.heap.size, 0, by rw [e, hg]; rfl, ?_, HB1.out.alloc HB1.out.size _⟩
      rw [e]
      exact World.ownsRow_lit w1 #[] 0 HB1.out.size (Nat.zero_le _) rfl)
    clear hg
    gi_wp2
    refine ⟨_, results_tmp2 rfl _ _ _, ?_⟩
    exact HE.out
  | true =>
    have HFF := Lib.hid hg
    have HGA := Lib.hid (ats_good hg hw)
    have hsz : t.sz ≤ 1048576 := by have := (fgood_open hg).1; omega
    clear hg
    -- the box of the names, the box of the iterator
    obtain ⟨w3, hw3⟩ : ∃ w3, w3 = ((w1.alloc (.cells #[] 9)).alloc (.cells #[.slice (some ⟨w1.heap.size, 0, none⟩) 0 0] 59)) := ⟨_, rfl⟩
    have HR3 : Hid (w3.ownsRow w.heap.size 9 1 (.slice (some ⟨w1.heap.size, 0, none⟩) 0 0) 0 [] ∧ Boxed w3 (w1.heap.size + 1) 59 (.slice (some ⟨w1.heap.size, 0, none⟩) 0 0) ∧ Below w1.heap.size w1 w3 ∧ w3.heap.size = w1.heap.size + 2) := Lib.hid (by
      have r1 : ((w1.alloc (.cells #[] 9)).alloc (.cells #[.slice (some ⟨w1.heap.size, 0, none⟩) 0 0] 59)).ownsRow w.heap.size 9 1 (.slice (some ⟨w1.heap.size, 0, none⟩) 0 0) 0 [] := (World.ownsRow_lit w1 #[] 0 HB1.out.size (Nat.zero_le _) rfl).alloc _
      have k1 := Boxed.new (w1.alloc (.cells #[] 9)) 59 (.slice (some ⟨w1.heap.size, 0, none⟩) 0 0)
      have e : (w1.alloc (.cells #[] 9)).heap.size = w1.heap.size + 1 := by simp
      rw [e] at k1
      rw [hw3]
      exact ⟨r1, k1, ((Below.refl _ w1).alloc (Nat.le_refl _) _).alloc (by simp) _, by simp⟩)
    have HB3 := Lib.hid (carry_below HB1.out (Nat.le_refl _) HR3.out.2.2.1)
    have H23 := Lib.hid (H21.out.kept HR3.out.2.2.1)
    have HHP3 : Hid (w3.heap[w.heap.size]? = some (.cells #[.int .i64 t.op, .string t.atom.name, .slice pa t.atom.args.length ca, .string t.var, .slice pp t.parts.length cp] 34 (0, 0))) := Lib.hid ((HR3.out.2.2.1.block _ hz1w).trans HHP1.out)
    clear b0 b1 b2 b3 b4 b5 HHP1
    obtain ⟨b0, b1, b2, b3, b4, b5⟩ := H21.out
    gi_wp2
    rw [← hw3]
    clear b0 b1 b2 b3 b4 b5 hw3
    refine ⟨trivial, ?_⟩
    refine (callsIn_wide.2 (atomsOf_any _ _)).mono ?_
    rintro e w2 ⟨rfl, rfl⟩
    have hz3 := HR3.out.2.2.2
    rw [hz3]
    obtain ⟨W0, hW0⟩ : ∃ W0, w3.alloc (.cells #[.pointer (some ⟨w.heap.size, 0, none⟩)] 84) = W0 := ⟨_, rfl⟩
    have hW0s : W0.heap.size = w1.heap.size + 3 := by rw [← hW0]; simp; omega
    have C5 : Hid (Boxed W0 (w1.heap.size + 1) 59 (.slice (some ⟨w1.heap.size, 0, none⟩) 0 0)) := Lib.hid (by rw [← hW0]; exact HR3.out.2.1.alloc _)
    have R5 : Hid (W0.ownsRow w.heap.size 9 1 (.slice (some ⟨w1.heap.size, 0, none⟩) 0 0) 0 []) := Lib.hid (by rw [← hW0]; exact HR3.out.1.alloc _)
    have B6 : Hid (Below w.heap.size w W0) := Lib.hid (by rw [← hW0]; exact HB3.out.alloc HB3.out.size _)
    have F6 : Hid (Fiv W0 w.heap.size 0 (.int .i64 t.op) (.string t.atom.name) (.slice pa t.atom.args.length ca) (.string t.var) (.slice pp t.parts.length cp)) := Lib.hid (by rw [← hW0]; exact (H23.out.alloc _).fiv)
    have X5 : Hid (W0.cell? ⟨w1.heap.size + 2, 0, none⟩ = some (.pointer (some ⟨w.heap.size, 0, none⟩))) := Lib.hid (by
      have h := (Boxed.new w3 84 (.pointer (some ⟨w.heap.size, 0, none⟩))).cell
      rw [hz3] at h
      rw [← hW0]; exact h)
    have OK0 : OKb (w1.heap.size + 1) W0 := ⟨by omega, fun g h => by rw [rowAt_boxed C5.out] at h; have e : w1.heap.size = g := by simpa [Value.ownBlock] using h
                                                                     omega⟩
    have ST0 : Stab w.heap.size (w1.heap.size + 1) W0 w.heap.size := ⟨by omega, .inr ⟨⟨_, _, by rw [← hW0]; exact (Below.heap_alloc _ _ _ (by omega)).trans HHP3.out⟩, by rw [rowAt_boxed C5.out]; simp [Value.ownBlock]; omega⟩⟩
    rw [hW0]
    clear hW0
    gi_wp2
    refine wpIn_rangeY rfl (by omega) (gf := 72) (lb := #[.pointer (some ⟨w1.heap.size + 2, 0, none⟩)]) rfl trivial (enters_of Tryz.func72 (by kernel_rfl) rfl)
      (atoms_stops (w1.heap.size + 1) (9 - 1) (w1.heap.size + 2) w.heap.size w t _ _ hsz hw W0 B6.out HV.out ST0 F6.out X5.out OK0) GB.cells (fun h k => h.trans k (fun g e => by cases e)) (KpS.book (by omega) (by omega)) (Below.refl _ _) (fun _ => rfl)
      (fun pre W => (∃ v, Boxed W (w1.heap.size + 1) 59 v ∧ W.ownsRow w.heap.size 9 1 v (nmK (pre.map At.key)).length ((nmK (pre.map At.key)).map Value.string) ∧ v ≠ .slice none 0 0) ∧ (Below w.heap.size w W ∧ ∀ y ∈ pre, y.key ∈ t.ats []))
      (fun _ _ _ => False)
      (OwnFrom.and (Own.from (holdsRow_own w.heap.size (w1.heap.size + 1) 59 9 1 (fun pre : List At => (nmK (pre.map At.key)).length) (fun pre => (nmK (pre.map At.key)).map Value.string) (fun _ v => v ≠ .slice none 0 0)) _) (OwnFrom.and (ownFrom_below (Nat.le_refl _) (by omega)) (fun _ _ _ _ h _ _ => h)))
      (fun _ _ _ _ _ hs _ _ => hs)
      (fun pre A B h hg => by obtain ⟨⟨v, h1, h2, h3⟩, h4, h5⟩ := h; exact ⟨⟨v, hg.boxed h1, hg.row h1 h2, h3⟩, h4.trans hg.1, h5⟩)
      (fun _ _ _ _ h _ => h)
      (fun x W l o o' hl h hc hw hp => PxA.put (w := W0) (by omega) (by omega) l o o' hl h hc hw hp)
      ⟨⟨_, C5.out, by simpa [nmK] using R5.out, by simp⟩, B6.out, fun y hy => by cases hy⟩
      (fun x => { tmps := #[.agg #[.int .i64 t.op, .string t.atom.name, .slice pa t.atom.args.length ca, .string t.var, .slice pp t.parts.length cp], .pointer (some ⟨w.heap.size, 0, none⟩), .slice none 0 0, .bool false, .pointer (some ⟨w1.heap.size + 1, 0, none⟩), .pointer (some ⟨x.b, x.o, none⟩), x.v, undef, undef, .agg #[.int .i64 t.op, .string t.atom.name, .slice pa t.atom.args.length ca, .string t.var, .slice pp t.parts.length cp], .bool true, .bool false, undef, .slice (some ⟨w1.heap.size, 0, none⟩) 0 0, .func (.func 72) #[] #[.pointer (some ⟨w1.heap.size + 2, 0, none⟩)], .pointer (some ⟨x.b, x.o, none⟩), x.v, undef, undef, undef, undef, undef, undef, undef, undef, undef, undef, undef, undef, undef, undef, undef, undef, undef, undef, undef, undef, undef, undef, undef, undef], defers := [] })
      ?assign ?body ?done ?stop
    case assign =>
      intro l x W K hK
      simp only [At.enc]
      gi_wp2
      exact hK
    case body => 
      rintro l pre ⟨xb, xo, xt, xv, xd⟩ W ⟨⟨v, hbv, hrow, hnn⟩, hB1, hmem⟩ ⟨hkx, hok, hbx, hbd, vax, x0, x1, hvx⟩ hlt
      obtain ⟨hgl, hgx⟩ := HGA.out
      obtain ⟨hwx, hplx, hszx⟩ : xt.wt ≤ 1048576 ∧ xt.plain ∧ xt.sz ≤ 30 := hgx _ hkx
      have hvx : TmS w vax xt.args := hvx
      have hbd : BdOk w.heap.size (w1.heap.size + 1) W xv xd := hbd
      have x0 : W.cell? ⟨xb, xo, none⟩ = some (.string xt.name) := x0
      have x1 : W.cell? ⟨xb, xo + 1, none⟩ = some vax := x1
      obtain ⟨pa1, ca1, rfl⟩ := hvx.is_slice
      obtain ⟨bp, bc, rfl⟩ := hbd.shape
      have hnmk : (nmK (pre.map At.key)).length ≤ 1200 := by
        have h1 := nmK_len (pre.map At.key) 30 (fun y hy => by obtain ⟨z, hz, rfl⟩ := List.mem_map.1 hy; exact (hgx _ (hmem z hz)).2.2)
        rw [List.length_map] at h1; omega
      have HNK := Lib.hid hnmk
      have HMEM : Hid (∀ y ∈ pre ++ [(⟨xb, xo, xt, .slice bp xd.length bc, xd⟩ : At)], y.key ∈ t.ats []) := Lib.hid (fun y hy => by
        rcases List.mem_append.1 hy with h | h
        · exact hmem y h
        · obtain rfl := List.mem_singleton.1 h; exact hkx)
      have HBV := Lib.hid hbv
      have HROW := Lib.hid hrow
      have HNN := Lib.hid hnn
      have HBW := Lib.hid hB1
      have HOK := Lib.hid hok
      have HBD := Lib.hid hbd
      have HVN : Hid ((vn xt.nds).length ≤ 30) := Lib.hid (by have := vn_len xt.nds; rw [Tm.nds_len] at this; omega)
      have hn0 : w.heap.size ≤ W.heap.size := hB1.size
      have HC : Hid (Calls Tryz.prog 49 #[.agg #[.string xt.name, .slice pa1 xt.args.length ca1]] W (VinEnd xt W)) := Lib.hid (varsIn_any xt W _ (hvx.kept hbx) hwx hplx)
      clear hgl hgx hwx hplx hszx hmem hkx hnmk hbv hrow hnn hB1 hok hbd hvx hbx
      dsimp only
      gi_wp2
      refine ⟨trivial, ?_⟩
      refine (callsIn_wide.2 HC.out).mono ?_
      rintro e w6 ⟨v6, L, rfl, hrt, htm, hb⟩
      have HNM := Lib.hid (tms_names htm)
      have HSL : Hid (∀ e ∈ L, ∃ p c, e.2 = .slice p e.1.args.length c) := Lib.hid (fun e he => (hrt.args e he).is_slice)
      have HR6 := Lib.hid hrt.row
      have HLL : Hid (L.length = (vn xt.nds).length) := Lib.hid (by rw [← HNM.out, List.length_map])
      have hLL : L.length ≤ 30 := by have h1 := HLL.out; have h2 := HVN.out; omega
      have HK6 : Hid (KpS none w.heap.size (w1.heap.size + 1) W w6) := Lib.hid (KpS.of_below hn0 hb)
      have HKF6 : Hid (KeepsFrom W0.heap.size W w6) := Lib.hid ⟨hb.size, fun k o _ hk _ => (hb.block k (Array.getElem?_eq_some_iff.1 hk).1).trans hk⟩
      have HBV6 : Hid (Boxed w6 (w1.heap.size + 1) 59 v) := Lib.hid ((hb.block _ HBV.out.lt).trans HBV.out)
      have HROW6 := Lib.hid (own_kept HROW.out hb)
      obtain ⟨vp6, vc6, rfl⟩ : ∃ p c, v6 = .slice p L.length c := by
        rcases HR6.out.2 with ⟨rfl, h0⟩ | ⟨g, cap, cur, rfl, _⟩
        · exact ⟨none, 0, by rw [h0]⟩
        · exact ⟨_, _, rfl⟩
      obtain ⟨B1, hB1⟩ : ∃ B, B = W.heap.size := ⟨_, rfl⟩
      rw [← hB1] at HR6
      clear hb hrt htm hB1 x0 x1 HC
      obtain ⟨N, hN⟩ : ∃ N : Nat → List ByteArray, N = fun j => nmK (pre.map At.key) ++ ((vn xt.nds).take j).filter fun s => !Lib.containsS xd s := ⟨_, rfl⟩
      have HN0 : Hid (N 0 = nmK (pre.map At.key)) := Lib.hid (by rw [hN]; simp)
      have HNE : Hid (N L.length = nmK ((pre ++ [(⟨xb, xo, xt, .slice bp xd.length bc, xd⟩ : At)]).map At.key)) := Lib.hid (by
        rw [hN, List.map_append, List.map_cons, List.map_nil, nmK_snoc]
        simp only [frA, At.key]
        rw [List.take_of_length_le (by have := HLL.out; omega)])
      have HNL : Hid (∀ j, (N j).length ≤ 1230) := Lib.hid (fun j => by
        rw [hN]
        have h1 := List.length_filter_le (fun s => !Lib.containsS xd s) ((vn xt.nds).take j)
        have h2 := HVN.out
        have h3 := HNK.out
        simp only [List.length_append, List.length_take] at h1 ⊢
        omega)
      have HNS : Hid (∀ j (y : Tm × Value), L[j]? = some y → N (j + 1) = if Lib.containsS xd y.1.name then N j else N j ++ [y.1.name]) := Lib.hid (fun j y hy => by
        have e : (vn xt.nds).take (j + 1) = (vn xt.nds).take j ++ [y.1.name] := by
          rw [List.take_add_one, ← HNM.out, List.getElem?_map, hy]; rfl
        rw [hN]
        simp only
        rw [e, List.filter_append]
        cases hc : Lib.containsS xd y.1.name <;> simp [hc])
      rw [← HN0.out] at HROW6
      clear hN
      gi_wp2
      gi_loopw [22] (fun i wr => ∃ (j : Nat) (nv : Value), j ≤ L.length ∧ i = .int .i64 j ∧ nv ≠ .slice none 0 0 ∧ Boxed wr (w1.heap.size + 1) 59 nv ∧ wr.ownsRow w.heap.size 9 1 nv (N j).length ((N j).map Value.string) ∧ wr.ownsRow B1 31 2 (.slice vp6 L.length vc6) L.length (teF L) ∧ KpS none w.heap.size (w1.heap.size + 1) W wr ∧ KeepsFrom W0.heap.size W wr) (fun i _ => L.length - (intOf i).toNat)
      case atStart => exact ⟨0, v, Nat.zero_le _, rfl, HNN.out, HBV6.out, HROW6.out, HR6.out, HK6.out, HKF6.out⟩
      case round =>
        obtain ⟨j, nv, hj, rfl, hnn2, hbv2, hrow2, hrt2, hk2, hkf2⟩ := hrel
        by_cases hjl : j < L.length
        · obtain ⟨g, rfl⟩ : ∃ g, vp6 = some ⟨g, 0, none⟩ := by
            rcases hrt2.2 with ⟨h, h0⟩ | ⟨g, cap, cur, h, _⟩
            · omega
            · injection h with h; exact ⟨g, h⟩
          obtain ⟨y, hy⟩ : ∃ y, L[j]? = some y := ⟨_, List.getElem?_eq_getElem hjl⟩
          obtain ⟨py, cy, hy2⟩ := HSL.out y (List.mem_of_getElem? hy)
          have y0 : wr.cell? ⟨g, j * 2, none⟩ = some (.string y.1.name) := by rw [hrt2.cellAt _ (by omega)]; exact (teF_at hy).1
          have y1 : wr.cell? ⟨g, j * 2 + 1, none⟩ = some (.slice py y.1.args.length cy) := by rw [hrt2.cellAt _ (by omega), (teF_at hy).2, hy2]
          have HNJ := Lib.hid (HNS.out j y hy)
          have hnw : w.heap.size ≤ wr.heap.size := Nat.le_trans hn0 hk2.1.size
          obtain ⟨wq, hwq⟩ : ∃ wq, wr.alloc (.cells #[.string y.1.name, .slice py y.1.args.length cy] 31) = wq := ⟨_, rfl⟩
          have HA : Hid (Below wr.heap.size wr wq) := Lib.hid (by rw [← hwq]; exact (Below.refl _ _).alloc (Nat.le_refl _) _)
          have hnq : w.heap.size ≤ wq.heap.size := Nat.le_trans hnw HA.out.size
          have TQ : Hid (Two wq wr.heap.size (.string y.1.name) (.slice py y.1.args.length cy)) := Lib.hid (by rw [← hwq]; exact two_new _ _ _ _ _ rfl)
          have HBQ : Hid (Boxed wq (w1.heap.size + 1) 59 nv) := Lib.hid ((HA.out.block _ hbv2.lt).trans hbv2)
          have HRQ := Lib.hid (own_kept hrow2 HA.out)
          have HTQ := Lib.hid (own_kept hrt2 HA.out)
          have HKQ := Lib.hid (hk2.trans (KpS.of_below (b := w1.heap.size + 1) hnw HA.out) (fun _ e => by cases e))
          have HFQ : Hid (KeepsFrom W0.heap.size W wq) := Lib.hid (hkf2.trans ⟨HA.out.size, fun k o _ hk _ => (HA.out.block k (Array.getElem?_eq_some_iff.1 hk).1).trans hk⟩)
          have HCQ := Lib.hid (cont_own (HBD.out.keep HOK.out HKQ.out).1 y.1.name)
          obtain ⟨t0, t1, t2⟩ := TQ.out
          have HNN2 := Lib.hid hnn2
          have HNL1 := Lib.hid (HNL.out j)
          obtain ⟨cb, hcb⟩ : ∃ cb, cb = Lib.containsS xd y.1.name := ⟨_, rfl⟩
          rw [← hcb] at HCQ HNJ
          clear hnn2 hbv2 hrow2 hrt2 hk2 hkf2 hy hcb
          cases cb with
          | true =>
            have HNJ' : Hid (N (j + 1) = N j) := Lib.hid (by have h := HNJ.out; simpa using h)
            clear HNJ
            gi_wp2
            refine ⟨trivial, ?_⟩
            refine (callsIn_wide.2 HCQ.out).mono ?_
            rintro e w7 ⟨rfl, rfl⟩
            gi_wp2
            go_roundw
            case rel => exact ⟨j + 1, nv, by omega, by go_num, HNN2.out, HBQ.out, by rw [HNJ'.out]; exact HRQ.out, HTQ.out, HKQ.out, HFQ.out⟩
            case measure => simp [intOf]; omega
          | false =>
            have HNJ' : Hid (N (j + 1) = N j ++ [y.1.name]) := Lib.hid (by have h := HNJ.out; simpa using h)
            clear HNJ
            gi_wp2
            refine ⟨trivial, ?_⟩
            refine (callsIn_wide.2 HCQ.out).mono ?_
            rintro e w7 ⟨rfl, rfl⟩
            have k0 := HBQ.out.cell
            have k1 := HBQ.out.frozen
            have hnl1 := HNL1.out
            obtain ⟨n, hn⟩ : ∃ n, n = (N j).length := ⟨_, rfl⟩
            obtain ⟨xs, hxs⟩ : ∃ xs, xs = (N j).map Value.string := ⟨_, rfl⟩
            have HNX : Hid (n + 1 = (N (j + 1)).length ∧ xs ++ [.string y.1.name] = (N (j + 1)).map Value.string) := Lib.hid (by rw [HNJ'.out, hn, hxs]; simp)
            rw [← hn, ← hxs] at HRQ
            rw [← hn] at hnl1
            clear hn hxs
            gi_wp2_with (gi_at_builtin; go_loud (refine wpListIn_append_own_at _ rfl _ _ 59 rfl w.heap.size 9 i0 (.string ByteArray.empty) 1 16 Tryz.underlying59 hi hz0 hz1 hz2 rfl (by decide) nv n xs rfl (HRQ.out.alloc _) ⟨wq.heap.size, 0, none⟩ 1 1 [.string y.1.name] rfl rfl (cell_one_new _ _ _) (by simp [Value.oneCell']) (by unfold maxLen; omega) (by omega) (by simp; omega) ?_; intro v' w8 hown' hgrow _ hat; obtain ⟨g', cap', rfl⟩ := ownsRow_succ hown'; have HAP := Lib.hid (HBQ.out.appended (by decide) HRQ.out hnq (by omega) hown' hgrow); have HKA := Lib.hid (kps_app HBQ.out HRQ.out hnq (by omega) hown' hgrow hat); have HT8 := Lib.hid ((HTQ.out.alloc (.cells #[.string y.1.name] 9)).kept hgrow (rows_apart (by decide) (HTQ.out.alloc (.cells #[.string y.1.name] 9)) (HRQ.out.alloc (.cells #[.string y.1.name] 9)))); clear hown' hgrow hat k0 k1; have hc1 := HAP.out.1.cell; have hf1 := HAP.out.1.frozen))
            have HT9 := Lib.hid (ownsRow_setCell_other HT8.out (a := ⟨w1.heap.size + 1, 0, none⟩) (fun e => HAP.out.1.not_row (by decide) HT8.out e.symm) (.slice (some ⟨g', 0, none⟩) (n + 1) cap'))
            have HK9 := Lib.hid (HKQ.out.trans HKA.out (fun _ e => by cases e))
            have HF9 := Lib.hid (HFQ.out.trans (HAP.out.2.2.2.1.from W0.heap.size))
            go_roundw
            case rel => exact ⟨j + 1, _, by omega, by go_num, by simp, HAP.out.2.1, by rw [← HNX.out.1, ← HNX.out.2]; exact HAP.out.2.2.1, HT9.out, HK9.out, HF9.out⟩
            case measure => simp [intOf]; omega
        · have hje : j = L.length := by omega
          rw [hje, HNE.out] at hrow2
          have HKE := Lib.hid hk2
          have HRE := Lib.hid hrow2
          have HFE := Lib.hid hkf2
          have HBE := Lib.hid hbv2
          have HNNE := Lib.hid hnn2
          clear hje hrow2 hk2 hkf2 hbv2 hnn2 hrt2
          gi_wp2
          exact ⟨HFE.out, HKE.out, ⟨nv, HBE.out, HRE.out, HNNE.out⟩, HBW.out.trans HKE.out.1, HMEM.out⟩
    case done => 
      rintro D xs W hD hS ⟨⟨v, hbv, hrow, hnn⟩, hB1, -⟩ hK
      rw [hS] at hrow
      obtain ⟨N, hN⟩ : ∃ N, N = nmK (t.ats []) := ⟨_, rfl⟩
      have hvl : N.length ≤ 1200 := by
        obtain ⟨h1, h2⟩ := HGA.out
        have h3 := nmK_len (t.ats []) 30 (fun y hy => (h2 y hy).2.2)
        rw [hN]; omega
      rw [← hN] at hrow
      have HNN := Lib.hid hN
      clear hN
      rcases id hrow.2 with ⟨rfl, _⟩ | ⟨g, cap, cur, rfl, hbg, hgb, hnc, hcm, hcs, htake⟩
      · exact absurd rfl hnn
      have hll : (N).length = (rawL (N)).length := by simp [rawL]
      have hsl : (sortL (N)).length = (rawL (N)).length := by simp [sortL, List.length_mergeSort]
      have hgl : g < W.heap.size := (Array.getElem?_eq_some_iff.1 hgb).1
      have hH := holds_of_block (ss := rawL (N)) hgb (by rw [← enc_raw, ← hll]; simpa using htake)
      have hcl : (outL (N)).length ≤ (sortL (N)).length := Lib.compact_length_le _
      have CS := Tryz.slices_Sort_string g 0 cap (rawL (N)) W hH hgl (by omega)
      rw [← hll] at CS
      have HCS := Lib.hid CS
      have k0 := hbv.cell
      have HLL := Lib.hid hll
      have HSL := Lib.hid hsl
      have HCL := Lib.hid hcl
      have hDl : D < W.heap.size := (Array.getElem?_eq_some_iff.1 hK).1
      have hDg : D ≠ g := fun e => by rw [e, hgb] at hK; cases hK
      have hNg : w1.heap.size + 1 ≠ g := fun e => by rw [e] at hbv; rw [show W.heap[g]? = _ from hbv] at hgb; cases hgb
      have HHH := Lib.hid hH
      clear CS hH hll hsl hcl
      gi_wp2
      refine ⟨trivial, ?_⟩
      refine (callsIn_wide.2 HCS.out).mono ?_
      rintro e w4 ⟨rfl, q, os, hw4⟩
      have hg4 : W.grownBy w4 (some g) := by rw [hw4]; exact grownBy_sorted _
      have hb4 : w4.heap[g]? = some (.cells (Sort.putCells encStr 0 (sortL (N)).toArray cur) 9 (0, 0)) := by rw [hw4]; exact heap_sorted _ hgb
      have hbv4 := hbv.kept hg4 (by simpa using hNg)
      have hK4 : w4.heap[D]? = _ := (hg4.block D hDl (by simpa using hDg)).trans hK
      have hB4 := hB1.grown hg4 hB1.size (fun r e => by cases e; exact hbg)
      have hH4 := holds_of_block (ss := sortL (N)) hb4 (take_putCells cur _ (by have := HSL.out; have := HLL.out; omega))
      have CC := Tryz.slices_Compact_string g 0 cap (sortL (N)) w4 hH4 (by have := HSL.out; have := HLL.out; omega) (by have := HSL.out; have := HLL.out; omega)
      rw [HSL.out, ← HLL.out] at CC
      have HCC := Lib.hid CC
      have k4 := hbv4.cell
      have hcs4 : (Sort.putCells encStr 0 (sortL (N)).toArray cur).size = cap * 1 := by simp [Sort.putCells, hcs]
      have HB4 := Lib.hid hb4
      have HK4 := Lib.hid hK4
      have HW4 := Lib.hid hw4
      clear hw4 CC hH4 hb4 hK4 hK k0
      gi_wp2
      refine ⟨trivial, ?_⟩
      refine (callsIn_wide.2 HCC.out).mono ?_
      rintro e w5 ⟨rfl, q2, hw5⟩
      have hw5' : w5 = Sort.grow (Sort.putRow encStr (Sort.ahead w4 q2) g 0 (outL (N) ++ List.replicate ((N).length - (outL (N)).length) []).toArray) #[] := by rw [Sort.grow_empty]; exact hw5
      have hg5 : w4.grownBy w5 (some g) := by rw [hw5']; exact grownBy_sorted _
      have hK5 : w5.heap[D]? = _ := (hg5.block D (Array.getElem?_eq_some_iff.1 HK4.out).1 (by simpa using hDg)).trans HK4.out
      have hB5 := hB4.grown hg5 hB4.size (fun r e => by cases e; exact hbg)
      have own5 := ownsRow_sorted (w := w4) (n := q2) (os := #[]) (base := w.heap.size) (ss := sortL (N)) (ts := outL (N) ++ List.replicate ((N).length - (outL (N)).length) []) (by have := HSL.out; have := HLL.out; have := HCL.out; simp; omega) hbg HB4.out (by have := HSL.out; have := HLL.out; omega) hcm hcs4
      rw [← hw5'] at own5
      have own6 := owns_shrink own5 HCL.out
      have hiv : ifA t = bsL (outL N) := by rw [HNN.out]; simp [ifA, HFF.out]
      have hivl : (ifA t).length = (outL (N)).length := by rw [hiv]; simp [bsL]
      have hxs : (((outL (N) ++ List.replicate ((N).length - (outL (N)).length) []).map encStr).take (outL (N)).length) = (ifA t).map Value.string := by
        rw [hiv, List.map_append, List.take_left' (by simp)]
        simp [bsL, encStr]
      rw [hxs] at own6
      have OWN := Lib.hid own6
      have HK5 := Lib.hid hK5
      have HB5 := Lib.hid hB5
      have HIV := Lib.hid hivl
      clear hw5 hw5' own5 own6 hxs hK5 hB5 hiv hivl k4 hcs4
      gi_wp2
      refine ⟨by simp, .inl ⟨_, _, rfl, run_takeDeferred HK5.out, ?_⟩⟩
      refine ⟨_, results_tmp2 rfl _ _ _, g, cap, ?_, ?_, HB5.out.trans (belowK_b (w := w) (Nat.le_refl _) w5 D _ _ (by omega) HK5.out rfl rfl)⟩
      · rw [HIV.out, HFF.out]
        rfl
      · rw [HIV.out]
        exact ownsRow_putObj OWN.out _ HK5.out rfl
    case stop =>
      rintro D c pre W _ _ h _
      exact h.elim

theorem implFv_any (t : Fm) (w : World) (va vp : Value) (hv : FmV w va vp t) (hw : t.wt ≤ 1048576) :
    Calls Tryz.prog 24 #[.agg #[.int .i64 t.op, .string t.atom.name, va, .string t.var, vp]] w (IFEnd t w) := callsIn_wide.1 (freeVars_in t w va vp hv hw)

end Go.Proofs.YtdpeanpmjhpblaaGreat
