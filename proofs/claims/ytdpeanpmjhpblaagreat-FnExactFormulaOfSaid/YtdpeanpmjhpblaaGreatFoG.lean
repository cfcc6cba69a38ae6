/- Several texts in one: each says what it proves. No condition but theirs. -/
import Derived.Test.YtdpeanpmjhpblaaGreatCpG
import Derived.Test.YtdpeanpmjhpblaaGreatLtG
import Derived.Test.YtdpeanpmjhpblaaGreatClG
import Derived.Test.YtdpeanpmjhpblaaGreatYaG
import Derived.Test.YtdpeanpmjhpblaaGreatVnG
/- The disjunction of a clause's literals as a formula: the tree, its validity, and how it is read. No condition. -/
namespace Go.Proofs.YtdpeanpmjhpblaaGreat
open Go.RowKit
set_option linter.unusedVariables false
set_option linter.unusedSimpArgs false

def atF (t : Tm) : Fm := .node 3 t ⟨#[]⟩ []
def notF (t : Fm) : Fm := .node 4 (.node ⟨#[]⟩ []) ⟨#[]⟩ [t]
def orF (a b : Fm) : Fm := .node 6 (.node ⟨#[]⟩ []) ⟨#[]⟩ [a, b]
def falseF : Fm := .node 2 (.node ⟨#[]⟩ []) ⟨#[]⟩ []
def litF (d : Lt) : Fm := if d.var then atF d.tm else notF (atF d.tm)
def djF (l : List Lt) (t : Fm) : Fm := l.foldr (fun d f => orF (litF d) f) t
/-- The disjunction from the right. -/
def disF (l : List Lt) : Fm := match l.getLast? with
  | none => falseF
  | some d => djF l.dropLast (litF d)
theorem djF_drop {l : List Lt} {k : Nat} {d : Lt} (h : l[k]? = some d) (t : Fm) : djF (l.drop k) t = orF (litF d) (djF (l.drop (k + 1)) t) := by
  obtain ⟨hk, e⟩ := List.getElem?_eq_some_iff.1 h
  rw [List.drop_eq_getElem_cons hk, e]
  rfl
theorem disF_snoc (l : List Lt) (d : Lt) : disF (l ++ [d]) = djF l (litF d) := by
  unfold disF
  simp

theorem noneB_z : noneB (.node ⟨#[]⟩ []) = true := rfl
theorem formB_at {t : Tm} (h : atomB t = true) : formB (atF t) = true := by
  show (if (3 : Int) = 1 ∨ (3 : Int) = 2 then _ else if (3 : Int) = 3 then (atomB t && (decide ((⟨#[]⟩ : ByteArray).size = 0) && decide (([] : List Fm).length = 0))) else _) = true
  rw [if_neg (by omega), if_pos rfl, h]
  rfl
theorem forms_at {t : Tm} (h : atomB t = true) : (atF t).formsB = true := by
  rw [Fm.formsB_eq, formB_at h]; rfl
theorem forms_not {t : Fm} (h : t.formsB = true) : (notF t).formsB = true := by
  rw [Fm.formsB_eq]
  show (true && [t].all Fm.formsB) = true
  simp [h]
theorem forms_or {a b : Fm} (h : a.formsB = true) (h' : b.formsB = true) : (orF a b).formsB = true := by
  rw [Fm.formsB_eq]
  show (true && [a, b].all Fm.formsB) = true
  simp [h, h']
theorem sz_at (t : Tm) : (atF t).sz = 1 := by rw [Fm.sz_eq]; rfl
theorem sz_not (t : Fm) : (notF t).sz = 1 + t.sz := by
  rw [Fm.sz_eq]
  show 1 + sumG Fm.sz [t] = _
  simp only [sumG]; omega
theorem sz_or (a b : Fm) : (orF a b).sz = 1 + a.sz + b.sz := by
  rw [Fm.sz_eq]
  show 1 + sumG Fm.sz [a, b] = _
  simp only [sumG]; omega
theorem lit_ok {d : Lt} (h : atomB d.tm = true) : (litF d).formsB = true ∧ (litF d).sz ≤ 2 := by
  unfold litF
  split
  · exact ⟨forms_at h, by rw [sz_at]; omega⟩
  · exact ⟨forms_not (forms_at h), by rw [sz_not, sz_at]; omega⟩
theorem dj_ok {t : Fm} {m : Nat} (ht : t.formsB = true) (hm : t.sz ≤ m) : ∀ l : List Lt, (∀ d ∈ l, atomB d.tm = true) → (djF l t).formsB = true ∧ (djF l t).sz ≤ m + 3 * l.length
  | [], _ => ⟨ht, by simpa [djF] using hm⟩
  | d :: r, h => by
    obtain ⟨h1, h2⟩ := dj_ok ht hm r fun x hx => h x (List.mem_cons_of_mem _ hx)
    obtain ⟨h3, h4⟩ := lit_ok (h d List.mem_cons_self)
    have e : djF (d :: r) t = orF (litF d) (djF r t) := rfl
    rw [e, sz_or, List.length_cons]
    exact ⟨forms_or h3 h1, by omega⟩
theorem false_good : fgoodB falseF = true := by
  have h1 : falseF.sz = 1 := by rw [Fm.sz_eq]; rfl
  have h2 : falseF.formsB = true := by rw [Fm.formsB_eq]; rfl
  unfold fgoodB
  rw [h1, h2]; rfl
theorem split_last {l : List Lt} (h : l ≠ []) : ∃ d, l = l.dropLast ++ [d] ∧ l[l.length - 1]? = some d := by
  refine ⟨l.getLast h, (List.dropLast_concat_getLast h).symm, ?_⟩
  rw [List.getLast_eq_getElem, List.getElem?_eq_getElem]
/-- The disjunction of a valid clause is valid. -/
theorem dis_good {l : List Lt} (h : goodC l = true) : fgoodB (disF l) = true := by
  by_cases h0 : l = []
  · subst h0; exact false_good
  · obtain ⟨d, e, hd⟩ := split_last h0
    have hat : ∀ x ∈ l, atomB x.tm = true := fun x hx => by
      obtain ⟨k, hk⟩ := List.getElem?_of_mem hx
      exact goodC_atom h hk
    have hl : l.length ≤ 8 := by
      unfold goodC at h
      rw [Bool.and_eq_true] at h
      exact of_decide_eq_true h.1
    obtain ⟨h3, h4⟩ := lit_ok (hat d (List.mem_of_getElem? hd))
    have h5 := dj_ok h3 h4 l.dropLast fun x hx => hat x (List.dropLast_subset l hx)
    rw [e, disF_snoc]
    have h6 := h5.2
    rw [List.length_dropLast] at h6
    unfold fgoodB
    rw [h5.1, decide_eq_true (by omega)]
    rfl
theorem dis_wt {l : List Lt} (h : goodC l = true) : (disF l).wt ≤ 1048576 := by
  have h1 := fgood_open (dis_good h)
  have := forms_wt _ h1.2
  omega
theorem false_close : clA falseF = falseF ∧ clB falseF = true := by
  have hf : falseF.fv [] [] = [] := by rw [Fm.fv_eq]; rfl
  have hb : clB falseF = true := by unfold clB; rw [hf, closeF_nil, false_good]; rfl
  refine ⟨?_, hb⟩
  unfold clA
  rw [hb, hf]; rfl

/-- What both answer. -/
def foB (l : List Lt) : Bool := goodC l && clB (disF l)
def foA (l : List Lt) : Fm := if goodC l then clA (disF l) else zeroF
def FoEnd (l : List Lt) (w : World) (e : Ending) (w' : World) : Prop :=
  ∃ va vp, e = .returned (.tuple #[.agg #[.int .i64 (foA l).op, .string (foA l).atom.name, va, .string (foA l).var, vp], .bool (foB l)]) ∧ FOwn w' (Fresh w w') (foA l) va vp ∧ Below w.heap.size w w'
theorem foA_wt (l : List Lt) : (foA l).wt ≤ 20000 := by
  unfold foA
  split
  · rename_i h; exact clA_wt _ (dis_wt h)
  · rw [zeroF_wt]; omega

/-- A formula by value that is read without the block ob. -/
def FmX (ob : Nat) (W : World) (va vp : Value) (t : Fm) : Prop := ∃ Wx, FmV Wx va vp t ∧ ∀ a v, Wx.cell? a = some v → a.block ≠ ob ∧ W.cell? a = some v
theorem FmV.same {w w' : World} {va vp : Value} {t : Fm} (h : FmV w va vp t) (hc : ∀ a v, w.cell? a = some v → w'.cell? a = some v) : FmV w' va vp t := ⟨TmS.same hc h.1, FmS.same hc h.2⟩
theorem FmX.step {ob : Nat} {W W' : World} {va vp : Value} {t : Fm} (h : FmX ob W va vp t) (hc : ∀ a v, a.block ≠ ob → W.cell? a = some v → W'.cell? a = some v) : FmX ob W' va vp t := by
  obtain ⟨Wx, h1, h2⟩ := h
  exact ⟨Wx, h1, fun a v hv => ⟨(h2 a v hv).1, hc a v (h2 a v hv).1 (h2 a v hv).2⟩⟩
theorem FmX.kept {ob : Nat} {W W' : World} {va vp : Value} {t : Fm} (h : FmX ob W va vp t) (hb : Below W.heap.size W W') : FmX ob W' va vp t := h.step fun a v _ hv => carry_cell hv hb
theorem FmX.read {ob : Nat} {W : World} {va vp : Value} {t : Fm} (h : FmX ob W va vp t) : FmV W va vp t := by
  obtain ⟨Wx, h1, h2⟩ := h
  exact h1.same fun a v hv => (h2 a v hv).2
theorem FmX.of {ob : Nat} {W0 W : World} {va vp : Value} {t : Fm} (h : FmV W0 va vp t) (hb : Below W0.heap.size W0 W) (ho : W0.heap.size ≤ ob) : FmX ob W va vp t :=
  ⟨W0, h, fun a v hv => ⟨by have := World.block_lt_of_cell? W0 a hv; omega, carry_cell hv hb⟩⟩
/-- The world with the block ob hidden. -/
def hidW (W : World) (ob : Nat) : World := W.putObj ob (.deferred none)
theorem hid_cell {W : World} {ob : Nat} {a : Addr} {v : Value} (hne : a.block ≠ ob) (h : W.cell? a = some v) : (hidW W ob).cell? a = some v :=
  (World.cell?_of_block (w := W) (a := a) (World.putObj_heap_other (by first | exact hne | exact fun e => hne e.symm))).trans h
theorem cell_hid {W : World} {ob : Nat} (ho : ob < W.heap.size) {a : Addr} {v : Value} (h : (hidW W ob).cell? a = some v) : a.block ≠ ob ∧ W.cell? a = some v := by
  by_cases hne : a.block = ob
  · exfalso
    have e : (hidW W ob).heap[a.block]? = some (.deferred none) := by rw [hne]; exact World.putObj_heap_same ho
    unfold World.cell? at h
    simp only [e] at h
    cases h
  · exact ⟨hne, (World.cell?_of_block (w := W) (a := a) (w' := hidW W ob) (World.putObj_heap_other (by first | exact hne | exact fun e => hne e.symm))).symm.trans h⟩
theorem FmX.hide {ob : Nat} {W : World} {va vp : Value} {t : Fm} (h : FmX ob W va vp t) : FmV (hidW W ob) va vp t := by
  obtain ⟨Wx, h1, h2⟩ := h
  exact h1.same fun a v hv => hid_cell (h2 a v hv).1 (h2 a v hv).2
/-- Two formulas laid side by side into a block of their own. -/
theorem fmX_or {ob g c : Nat} {W : World} {a b : Fm} {va vp vb vq : Value} (ho : ob < W.heap.size) (hg : g ≠ ob) (ha : FmX ob W va vp a) (hb : FmX ob W vb vq b)
    (h0 : Fiv W g 0 (.int .i64 a.op) (.string a.atom.name) va (.string a.var) vp) (h1 : Fiv W g 5 (.int .i64 b.op) (.string b.atom.name) vb (.string b.var) vq) :
    FmX ob W (.slice none 0 0) (.slice (some ⟨g, 0, none⟩) 2 c) (orF a b) := by
  refine ⟨hidW W ob, ⟨.emp _ _, ?_⟩, fun x v hv => cell_hid ho hv⟩
  have hf : ∀ {o x0 x1 x2 x3 x4}, Fiv W g o x0 x1 x2 x3 x4 → Fiv (hidW W ob) g o x0 x1 x2 x3 x4 := fun h => ⟨hid_cell hg h.1, hid_cell hg h.2.1, hid_cell hg h.2.2.1, hid_cell hg h.2.2.2.1, hid_cell hg h.2.2.2.2⟩
  have hcs : ∀ (i : Nat) (s : Fm), [a, b][i]? = some s → (i = 0 ∧ s = a) ∨ (i = 1 ∧ s = b) := fun i s hi => by
    match i, hi with
    | 0, hi => exact .inl ⟨rfl, by simpa using hi.symm⟩
    | 1, hi => exact .inr ⟨rfl, by simpa using hi.symm⟩
    | n + 2, hi => simp at hi
  refine .row g 0 c [a, b] (fun i => if i = 0 then va else vb) (fun i => if i = 0 then vp else vq) (by simp) (fun i s hi => ?_) (fun i s hi => ?_) (fun i s hi => ?_)
  · rcases hcs i s hi with ⟨rfl, rfl⟩ | ⟨rfl, rfl⟩
    · exact hf h0
    · exact hf h1
  · rcases hcs i s hi with ⟨rfl, rfl⟩ | ⟨rfl, rfl⟩
    · exact ha.hide.1
    · exact hb.hide.1
  · rcases hcs i s hi with ⟨rfl, rfl⟩ | ⟨rfl, rfl⟩
    · exact ha.hide.2
    · exact hb.hide.2

/-- The world with the blocks from lo to hi hidden. -/
def hidR (W : World) (lo hi : Nat) : World := { W with heap := W.heap.mapIdx fun i o => if lo ≤ i ∧ i < hi then .deferred none else o }
theorem hidR_out {W : World} {lo hi k : Nat} (h : ¬ (lo ≤ k ∧ k < hi)) : (hidR W lo hi).heap[k]? = W.heap[k]? := by
  unfold hidR
  rw [Array.getElem?_mapIdx]
  cases W.heap[k]? with
  | none => rfl
  | some o => simp [h]
theorem hidR_cell {W : World} {lo hi : Nat} {a : Addr} {v : Value} (h : ¬ (lo ≤ a.block ∧ a.block < hi)) (hc : W.cell? a = some v) : (hidR W lo hi).cell? a = some v :=
  (World.cell?_of_block (w := W) (a := a) (hidR_out h)).trans hc
theorem cell_hidR {W : World} {lo hi : Nat} {a : Addr} {v : Value} (hc : (hidR W lo hi).cell? a = some v) : ¬ (lo ≤ a.block ∧ a.block < hi) ∧ W.cell? a = some v := by
  by_cases h : lo ≤ a.block ∧ a.block < hi
  · exfalso
    have e : (hidR W lo hi).heap[a.block]? = none ∨ (hidR W lo hi).heap[a.block]? = some (.deferred none) := by
      unfold hidR
      rw [Array.getElem?_mapIdx]
      cases W.heap[a.block]? with
      | none => exact .inl rfl
      | some o => exact .inr (by simp [h])
    unfold World.cell? at hc
    rcases e with e | e
    · simp only [e] at hc; cases hc
    · simp only [e] at hc; cases hc
  · exact ⟨h, (World.cell?_of_block (w := W) (w' := hidR W lo hi) (a := a) (hidR_out h)).symm.trans hc⟩
theorem FmX.hid {ob lo hi : Nat} {W : World} {va vp : Value} {t : Fm} (h : FmV (hidR W lo hi) va vp t) (h1 : lo ≤ ob) (h2 : ob < hi) : FmX ob W va vp t :=
  ⟨_, h, fun a v hv => ⟨fun e => (cell_hidR hv).1 (by rw [e]; exact ⟨h1, h2⟩), (cell_hidR hv).2⟩⟩
theorem hidR_old {w0 W : World} {hi : Nat} {v : Value} {l : List Tm} (h : TmS w0 v l) (hb : Below w0.heap.size w0 W) : TmS (hidR W w0.heap.size hi) v l :=
  h.same fun a u hu => hidR_cell (fun e => by have := World.block_lt_of_cell? w0 a hu; omega) (carry_cell hu hb)
theorem hidR_fiv {W : World} {lo hi g o : Nat} {x0 x1 x2 x3 x4 : Value} (h : Fiv W g o x0 x1 x2 x3 x4) (hg : hi ≤ g) : Fiv (hidR W lo hi) g o x0 x1 x2 x3 x4 :=
  h.block (hidR_out (by omega))

/-- A literal as a formula: it is read without the blocks that were made between lo and the call. -/
def LitEnd (lo : Nat) (d : Lt) (w : World) (e : Ending) (w' : World) : Prop :=
  ∃ va vp, e = .returned (.agg #[.int .i64 (litF d).op, .string (litF d).atom.name, va, .string (litF d).var, vp]) ∧ FmV (hidR w' lo w.heap.size) va vp (litF d) ∧ Below w.heap.size w w'

end Go.Proofs.YtdpeanpmjhpblaaGreat

/- A literal as a formula, and a clause's disjunction, the model's: contracts. -/
namespace Go.Proofs.YtdpeanpmjhpblaaGreat
open Go.RowKit
set_option linter.unusedVariables false
set_option linter.unusedSimpArgs false

set_option maxRecDepth 100000 in
set_option maxHeartbeats 4000000 in
theorem l8Lit_any (d : Lt) (w0 w : World) (va : Value) (hb0 : Below w0.heap.size w0 w) (hv0 : TmS w0 va d.tm.args) (hw : d.tm.wt ≤ 1048576) :
    Calls Tryz.prog 36 #[.agg #[.bool d.var, .string d.tm.name, va]] w (LitEnd w0.heap.size d w) := by
  obtain ⟨pa, ca, rfl⟩ := hv0.is_slice
  have HV0 := Lib.hid hv0
  have HBZ := Lib.hid hb0
  have HV := Lib.hid (hv0.kept hb0)
  obtain ⟨pv, hpv⟩ : ∃ pv, pv = d.var := ⟨_, rfl⟩
  rw [← hpv]
  have HPV := Lib.hid hpv
  obtain ⟨WA, hWA⟩ : ∃ W, W = (w.alloc (.cells #[.bool pv, .string d.tm.name, .slice pa d.tm.args.length ca] 73)).alloc (.cells #[.int .i64 0, .string ⟨#[]⟩, .slice none 0 0, .string ⟨#[]⟩, .slice none 0 0] 34) := ⟨_, rfl⟩
  have HTA : Hid (Thr WA w.heap.size (.bool pv) (.string d.tm.name) (.slice pa d.tm.args.length ca)) := Lib.hid (by rw [hWA]; exact (thr_new w _ _ _ 73 _ rfl).alloc _)
  have HRA : Hid (FivB WA (w.heap.size + 1) (.int .i64 0) (.string ⟨#[]⟩) (.slice none 0 0) (.string ⟨#[]⟩) (.slice none 0 0)) := Lib.hid (by rw [hWA]; exact fivB_new _ (.int .i64 0) (.string ⟨#[]⟩) (.slice none 0 0) (.string ⟨#[]⟩) (.slice none 0 0) 34 _ (by simp))
  have HBA : Hid (Below w.heap.size w WA) := Lib.hid (by rw [hWA]; exact ((Below.refl _ _).alloc (Nat.le_refl _) _).alloc (by simp) _)
  have HSA : Hid (WA.heap.size = w.heap.size + 1 + 1) := Lib.hid (by rw [hWA]; simp)
  have C0 := Lib.hid (l2Own_any d.tm WA _ (HV.out.kept HBA.out) hw)
  obtain ⟨d0, d1, d2, d3⟩ := HTA.out
  rw [hWA] at d0 d1 d2 d3
  clear hv0 hb0 hw hpv
  cases pv with
  | true =>
    go_enter Tryz.func36, Tryz.ntmps36
    go_wp2_with fail
    rw [← hWA]
    clear hWA d0 d1 d2 d3
    refine C0.out.mono ?_
    rintro e w1 ⟨v1, rfl, ho, hb⟩
    obtain ⟨p1, c1, rfl⟩ := ho.read.is_slice
    have HT1 := Lib.hid (HTA.out.kept hb)
    have HR1 := Lib.hid (HRA.out.kept hb)
    have HB1 := Lib.hid (carry_below HBA.out (Nat.le_refl _) hb)
    have HO1 := Lib.hid ho
    have hz1 : w.heap.size + 1 + 1 ≤ w1.heap.size := by have := hb.size; have := HSA.out; omega
    have hz2 : w.heap.size + 1 < w1.heap.size := by omega
    have hz3 : w.heap.size < w1.heap.size := by omega
    obtain ⟨d0, d1, d2, d3⟩ := HT1.out
    obtain ⟨r0, r1, r2, r3, r4, r5⟩ := HR1.out
    clear ho hb C0
    go_wp2
    obtain ⟨W6, hW6⟩ : ∃ W6, W6 = (((((w1.setCell ⟨w.heap.size + 1, 0, none⟩ (.int .i64 3)).setCell ⟨w.heap.size + 1, 1, none⟩ (.string d.tm.name)).setCell ⟨w.heap.size + 1, 2, none⟩ (.slice p1 d.tm.args.length c1)).setCell ⟨w.heap.size + 1, 3, none⟩ (.string ⟨#[]⟩)).setCell ⟨w.heap.size + 1, 4, none⟩ (.slice none 0 0)) := ⟨_, rfl⟩
    rw [← hW6]
    obtain ⟨W7, hW7⟩ : ∃ W7, W7 = W6.alloc (.cells #[.int .i64 3, .string d.tm.name, .slice p1 d.tm.args.length c1, .string ⟨#[]⟩, .slice none 0 0] 34) := ⟨_, rfl⟩
    rw [← hW7]
    have hn : ¬ Fresh WA w1 (w.heap.size + 1) := fun h => by have := h.1; have := HSA.out; omega
    have hz6 : W6.heap.size = w1.heap.size := by rw [hW6]; simp only [size_setCell]
    have hB67 : Below W6.heap.size W6 W7 := by rw [hW7]; exact (Below.refl _ _).alloc (Nat.le_refl _) _
    have HR7 : Hid (FivB W7 (w.heap.size + 1) (.int .i64 3) (.string d.tm.name) (.slice p1 d.tm.args.length c1) (.string ⟨#[]⟩) (.slice none 0 0)) := Lib.hid (FivB.kept (by rw [hW6]; exact ((((HR1.out.set0 _).set1 _).set2 _).set3 _).set4 _) hB67)
    have HB7 : Hid (Below w.heap.size w W7) := Lib.hid (carry_below (by rw [hW6]; exact ((((HB1.out.setCell (by simp) _).setCell (by simp) _).setCell (by simp) _).setCell (by simp) _).setCell (by simp) _) (Nat.le_refl _) hB67)
    have HM7 : Hid (TmS (hidR W7 w0.heap.size w.heap.size) (.slice p1 d.tm.args.length c1) d.tm.args) := Lib.hid (TmO.read (TmO.frame (w := W6) (by rw [hW6]; exact ((((HO1.out.setCell hn _).setCell hn _).setCell hn _).setCell hn _).setCell hn _) fun k hk => (hidR_out (by have := hk.1; have := HSA.out; omega)).trans (hB67.block k (by have := hk.2; omega))))
    clear hW6 hW7 hB67 r0 r1 r2 r3 r4 r5 d0 d1 d2 d3
    obtain ⟨r0, r1, r2, r3, r4, r5⟩ := HR7.out
    refine bodyPost_ret (v := .agg #[.int .i64 3, .string d.tm.name, .slice p1 d.tm.args.length c1, .string ⟨#[]⟩, .slice none 0 0]) (by simp [results, Tryz.results36, go_sem, r0, r1, r2, r3, r4]) rfl ⟨.slice p1 d.tm.args.length c1, .slice none 0 0, ?_, ?_, HB7.out⟩
    · rw [show litF d = atF d.tm by simp [litF, ← HPV.out]]; rfl
    · rw [show litF d = atF d.tm by simp [litF, ← HPV.out]]; exact ⟨HM7.out, .emp _ _⟩
  | false =>
    go_enter Tryz.func36, Tryz.ntmps36
    go_wp2_with fail
    rw [← hWA]
    clear hWA d0 d1 d2 d3
    refine C0.out.mono ?_
    rintro e w1 ⟨v1, rfl, ho, hb⟩
    obtain ⟨p1, c1, rfl⟩ := ho.read.is_slice
    have HT1 := Lib.hid (HTA.out.kept hb)
    have HR1 := Lib.hid (HRA.out.kept hb)
    have HB1 := Lib.hid (carry_below HBA.out (Nat.le_refl _) hb)
    have HO1 := Lib.hid ho
    have hz1 : w.heap.size + 1 + 1 ≤ w1.heap.size := by have := hb.size; have := HSA.out; omega
    have hz2 : w.heap.size + 1 < w1.heap.size := by omega
    have hz3 : w.heap.size < w1.heap.size := by omega
    obtain ⟨d0, d1, d2, d3⟩ := HT1.out
    obtain ⟨r0, r1, r2, r3, r4, r5⟩ := HR1.out
    clear ho hb C0
    go_wp2
    obtain ⟨W6, hW6⟩ : ∃ W6, W6 = (((((w1.setCell ⟨w.heap.size + 1, 0, none⟩ (.int .i64 4)).setCell ⟨w.heap.size + 1, 1, none⟩ (.string ⟨#[]⟩)).setCell ⟨w.heap.size + 1, 2, none⟩ (.slice none 0 0)).setCell ⟨w.heap.size + 1, 3, none⟩ (.string ⟨#[]⟩)).setCell ⟨w.heap.size + 1, 4, none⟩ (.slice (some ⟨w1.heap.size + 1, 0, none⟩) 1 1)) := ⟨_, rfl⟩
    rw [← hW6]
    obtain ⟨W7, hW7⟩ : ∃ W7, W7 = (W6.alloc (.cells #[.int .i64 3, .string d.tm.name, .slice p1 d.tm.args.length c1, .string ⟨#[]⟩, .slice none 0 0] 34)).alloc (.cells #[.int .i64 3, .string d.tm.name, .slice p1 d.tm.args.length c1, .string ⟨#[]⟩, .slice none 0 0] 34) := ⟨_, rfl⟩
    rw [← hW7]
    have hn : ¬ Fresh WA w1 (w.heap.size + 1) := fun h => by have := h.1; have := HSA.out; omega
    have hz6 : W6.heap.size = w1.heap.size := by rw [hW6]; simp only [size_setCell]
    have hB67 : Below W6.heap.size W6 W7 := by rw [hW7]; exact ((Below.refl _ _).alloc (Nat.le_refl _) _).alloc (by simp) _
    have HR7 : Hid (FivB W7 (w.heap.size + 1) (.int .i64 4) (.string ⟨#[]⟩) (.slice none 0 0) (.string ⟨#[]⟩) (.slice (some ⟨w1.heap.size + 1, 0, none⟩) 1 1)) := Lib.hid (FivB.kept (by rw [hW6]; exact ((((HR1.out.set0 _).set1 _).set2 _).set3 _).set4 _) hB67)
    have HB7 : Hid (Below w.heap.size w W7) := Lib.hid (carry_below (by rw [hW6]; exact ((((HB1.out.setCell (by simp) _).setCell (by simp) _).setCell (by simp) _).setCell (by simp) _).setCell (by simp) _) (Nat.le_refl _) hB67)
    have HM7 : Hid (TmS (hidR W7 w0.heap.size w.heap.size) (.slice p1 d.tm.args.length c1) d.tm.args) := Lib.hid (TmO.read (TmO.frame (w := W6) (by rw [hW6]; exact ((((HO1.out.setCell hn _).setCell hn _).setCell hn _).setCell hn _).setCell hn _) fun k hk => (hidR_out (by have := hk.1; have := HSA.out; omega)).trans (hB67.block k (by have := hk.2; omega))))
    have HG7 : Hid (FivB W7 (w1.heap.size + 1) (.int .i64 3) (.string d.tm.name) (.slice p1 d.tm.args.length c1) (.string ⟨#[]⟩) (.slice none 0 0)) := Lib.hid (by rw [hW7]; exact fivB_new _ _ _ _ _ _ _ _ (by simp [hz6]))
    clear hW6 hW7 hB67 r0 r1 r2 r3 r4 r5 d0 d1 d2 d3
    obtain ⟨r0, r1, r2, r3, r4, r5⟩ := HR7.out
    refine bodyPost_ret (v := .agg #[.int .i64 4, .string ⟨#[]⟩, .slice none 0 0, .string ⟨#[]⟩, .slice (some ⟨w1.heap.size + 1, 0, none⟩) 1 1]) (by simp [results, Tryz.results36, go_sem, r0, r1, r2, r3, r4]) rfl ⟨.slice none 0 0, .slice (some ⟨w1.heap.size + 1, 0, none⟩) 1 1, ?_, ?_, HB7.out⟩
    · rw [show litF d = notF (atF d.tm) by simp [litF, ← HPV.out]]; rfl
    · rw [show litF d = notF (atF d.tm) by simp [litF, ← HPV.out]]; exact ⟨.emp _ _, fmS_one (t := atF d.tm) HM7.out (.emp _ _) _ 0 1 (hidR_fiv HG7.out.fiv (by omega))⟩
set_option maxRecDepth 100000 in
set_option maxHeartbeats 4000000 in
theorem litFo_any (d : Lt) (w0 w : World) (va : Value) (hb0 : Below w0.heap.size w0 w) (hv0 : TmS w0 va d.tm.args) (hw : d.tm.wt ≤ 1048576) :
    Calls Tryz.prog 67 #[.agg #[.bool d.var, .string d.tm.name, va]] w (LitEnd w0.heap.size d w) := by
  obtain ⟨pa, ca, rfl⟩ := hv0.is_slice
  have HV0 := Lib.hid hv0
  have HBZ := Lib.hid hb0
  have HV := Lib.hid (hv0.kept hb0)
  obtain ⟨pv, hpv⟩ : ∃ pv, pv = d.var := ⟨_, rfl⟩
  rw [← hpv]
  have HPV := Lib.hid hpv
  obtain ⟨WA, hWA⟩ : ∃ W, W = (w.alloc (.cells #[.bool pv, .string d.tm.name, .slice pa d.tm.args.length ca] 73)).alloc (.cells #[.int .i64 0, .string ⟨#[]⟩, .slice none 0 0, .string ⟨#[]⟩, .slice none 0 0] 34) := ⟨_, rfl⟩
  have HTA : Hid (Thr WA w.heap.size (.bool pv) (.string d.tm.name) (.slice pa d.tm.args.length ca)) := Lib.hid (by rw [hWA]; exact (thr_new w _ _ _ 73 _ rfl).alloc _)
  have HRA : Hid (FivB WA (w.heap.size + 1) (.int .i64 0) (.string ⟨#[]⟩) (.slice none 0 0) (.string ⟨#[]⟩) (.slice none 0 0)) := Lib.hid (by rw [hWA]; exact fivB_new _ (.int .i64 0) (.string ⟨#[]⟩) (.slice none 0 0) (.string ⟨#[]⟩) (.slice none 0 0) 34 _ (by simp))
  have HBA : Hid (Below w.heap.size w WA) := Lib.hid (by rw [hWA]; exact ((Below.refl _ _).alloc (Nat.le_refl _) _).alloc (by simp) _)
  have HSA : Hid (WA.heap.size = w.heap.size + 1 + 1) := Lib.hid (by rw [hWA]; simp)
  obtain ⟨d0, d1, d2, d3⟩ := HTA.out
  rw [hWA] at d0 d1 d2 d3
  clear hv0 hb0 hw hpv
  cases pv with
  | true =>
    go_enter Tryz.func67, Tryz.ntmps67
    go_wp2
    clear hWA d0 d1 d2 d3
    obtain ⟨W7, hW7⟩ : ∃ W7, W7 = ((w.alloc (.cells #[.bool true, .string d.tm.name, .slice pa d.tm.args.length ca] 73)).alloc (.cells #[.int .i64 3, .string d.tm.name, .slice pa d.tm.args.length ca, .string ⟨#[]⟩, .slice none 0 0] 34)).alloc (.cells #[.int .i64 3, .string d.tm.name, .slice pa d.tm.args.length ca, .string ⟨#[]⟩, .slice none 0 0] 34) := ⟨_, rfl⟩
    rw [← hW7]
    have HB7 : Hid (Below w.heap.size w W7) := Lib.hid (by rw [hW7]; exact (((Below.refl w.heap.size w).alloc (Nat.le_refl _) _).alloc (by simp) _).alloc (by simp; omega) _)
    have HR7 : Hid (FivB W7 (w.heap.size + 1) (.int .i64 3) (.string d.tm.name) (.slice pa d.tm.args.length ca) (.string ⟨#[]⟩) (.slice none 0 0)) := Lib.hid (by rw [hW7]; exact ((fivB_new _ (.int .i64 3) (.string d.tm.name) (.slice pa d.tm.args.length ca) (.string ⟨#[]⟩) (.slice none 0 0) 34 (w.heap.size + 1) (by simp)).alloc _))
    have HM7 : Hid (TmS (hidR W7 w0.heap.size w.heap.size) (.slice pa d.tm.args.length ca) d.tm.args) := Lib.hid (hidR_old HV0.out (carry_below HBZ.out (Nat.le_refl _) HB7.out))
    clear hW7
    obtain ⟨r0, r1, r2, r3, r4, r5⟩ := HR7.out
    refine bodyPost_ret (v := .agg #[.int .i64 3, .string d.tm.name, .slice pa d.tm.args.length ca, .string ⟨#[]⟩, .slice none 0 0]) (by simp [results, Tryz.results67, go_sem, r0, r1, r2, r3, r4]) rfl ⟨.slice pa d.tm.args.length ca, .slice none 0 0, ?_, ?_, HB7.out⟩
    · rw [show litF d = atF d.tm by simp [litF, ← HPV.out]]; rfl
    · rw [show litF d = atF d.tm by simp [litF, ← HPV.out]]; exact ⟨HM7.out, .emp _ _⟩
  | false =>
    go_enter Tryz.func67, Tryz.ntmps67
    go_wp2
    clear hWA d0 d1 d2 d3
    obtain ⟨W7, hW7⟩ : ∃ W7, W7 = (((w.alloc (.cells #[.bool false, .string d.tm.name, .slice pa d.tm.args.length ca] 73)).alloc (.cells #[.int .i64 4, .string ⟨#[]⟩, .slice none 0 0, .string ⟨#[]⟩, .slice (some ⟨w.heap.size + 1 + 1 + 1, 0, none⟩) 1 1] 34)).alloc (.cells #[.int .i64 3, .string d.tm.name, .slice pa d.tm.args.length ca, .string ⟨#[]⟩, .slice none 0 0] 34)).alloc (.cells #[.int .i64 3, .string d.tm.name, .slice pa d.tm.args.length ca, .string ⟨#[]⟩, .slice none 0 0] 34) := ⟨_, rfl⟩
    rw [← hW7]
    have HB7 : Hid (Below w.heap.size w W7) := Lib.hid (by rw [hW7]; exact ((((Below.refl w.heap.size w).alloc (Nat.le_refl _) _).alloc (by simp) _).alloc (by simp; omega) _).alloc (by simp; omega) _)
    have HR7 : Hid (FivB W7 (w.heap.size + 1) (.int .i64 4) (.string ⟨#[]⟩) (.slice none 0 0) (.string ⟨#[]⟩) (.slice (some ⟨w.heap.size + 1 + 1 + 1, 0, none⟩) 1 1)) := Lib.hid (by rw [hW7]; exact ((fivB_new _ (.int .i64 4) (.string ⟨#[]⟩) (.slice none 0 0) (.string ⟨#[]⟩) (.slice (some ⟨w.heap.size + 1 + 1 + 1, 0, none⟩) 1 1) 34 (w.heap.size + 1) (by simp)).alloc _).alloc _)
    have HM7 : Hid (TmS (hidR W7 w0.heap.size w.heap.size) (.slice pa d.tm.args.length ca) d.tm.args) := Lib.hid (hidR_old HV0.out (carry_below HBZ.out (Nat.le_refl _) HB7.out))
    have HG7 : Hid (FivB W7 (w.heap.size + 1 + 1 + 1) (.int .i64 3) (.string d.tm.name) (.slice pa d.tm.args.length ca) (.string ⟨#[]⟩) (.slice none 0 0)) := Lib.hid (by rw [hW7]; exact fivB_new _ _ _ _ _ _ _ _ (by simp))
    clear hW7
    obtain ⟨r0, r1, r2, r3, r4, r5⟩ := HR7.out
    refine bodyPost_ret (v := .agg #[.int .i64 4, .string ⟨#[]⟩, .slice none 0 0, .string ⟨#[]⟩, .slice (some ⟨w.heap.size + 1 + 1 + 1, 0, none⟩) 1 1]) (by simp [results, Tryz.results67, go_sem, r0, r1, r2, r3, r4]) rfl ⟨.slice none 0 0, .slice (some ⟨w.heap.size + 1 + 1 + 1, 0, none⟩) 1 1, ?_, ?_, HB7.out⟩
    · rw [show litF d = notF (atF d.tm) by simp [litF, ← HPV.out]]; rfl
    · rw [show litF d = notF (atF d.tm) by simp [litF, ← HPV.out]]; exact ⟨.emp _ _, fmS_one (t := atF d.tm) HM7.out (.emp _ _) _ 0 1 (hidR_fiv HG7.out.fiv (by omega))⟩

end Go.Proofs.YtdpeanpmjhpblaaGreat

/- The formula of a clause, the model's: a contract, for clauses of at most 1048576 names' bytes, literals and arguments. -/
namespace Go.Proofs.YtdpeanpmjhpblaaGreat
open Go.RowKit
set_option linter.unusedVariables false
set_option linter.unusedSimpArgs false

theorem ten_new (w : World) (x0 x1 x2 x3 x4 x5 x6 x7 x8 x9 : Value) (T : TypeId) (b : Nat) (hb : b = w.heap.size) :
    Fiv (w.alloc (.cells #[x0, x1, x2, x3, x4, x5, x6, x7, x8, x9] T)) b 0 x0 x1 x2 x3 x4 ∧ Fiv (w.alloc (.cells #[x0, x1, x2, x3, x4, x5, x6, x7, x8, x9] T)) b 5 x5 x6 x7 x8 x9 := by
  constructor
  · exact ⟨by rw [World.cell?_alloc_at _ _ _ _ hb]; rfl, by rw [World.cell?_alloc_at _ _ _ _ hb]; rfl, by rw [World.cell?_alloc_at _ _ _ _ hb]; rfl, by rw [World.cell?_alloc_at _ _ _ _ hb]; rfl, by rw [World.cell?_alloc_at _ _ _ _ hb]; rfl⟩
  · exact ⟨by rw [World.cell?_alloc_at _ _ _ _ hb]; rfl, by rw [World.cell?_alloc_at _ _ _ _ hb]; rfl, by rw [World.cell?_alloc_at _ _ _ _ hb]; rfl, by rw [World.cell?_alloc_at _ _ _ _ hb]; rfl, by rw [World.cell?_alloc_at _ _ _ _ hb]; rfl⟩

theorem FivB.blockEq {w w' : World} {b : Nat} {x0 x1 x2 x3 x4 : Value} (h : FivB w b x0 x1 x2 x3 x4) (e : w'.heap[b]? = w.heap[b]?) : FivB w' b x0 x1 x2 x3 x4 :=
  ⟨(World.cell?_of_block (w := w) (a := ⟨b, 0, none⟩) e).trans h.1, (World.cell?_of_block (w := w) (a := ⟨b, 1, none⟩) e).trans h.2.1, (World.cell?_of_block (w := w) (a := ⟨b, 2, none⟩) e).trans h.2.2.1, (World.cell?_of_block (w := w) (a := ⟨b, 3, none⟩) e).trans h.2.2.2.1,
    (World.cell?_of_block (w := w) (a := ⟨b, 4, none⟩) e).trans h.2.2.2.2.1, fun j => (World.frozen?_of_block (w := w) (a := ⟨b, j, none⟩) e).trans (h.2.2.2.2.2 j)⟩

/-- One literal more in front: what the stores and the new block leave. -/
theorem or_step {w W : World} {ob n : Nat} {u a : Fm} {va vp vb vq : Value} (ho : ob < W.heap.size) (hwo : w.heap.size < ob) (h1 : FivB W ob (.int .i64 u.op) (.string u.atom.name) vb (.string u.var) vq) (ha : FmX ob W va vp a) (hb : FmX ob W vb vq u) (hbel : Below w.heap.size w W) :
    ∃ W7, W7 = (((((W.setCell ⟨ob, 0, none⟩ (.int .i64 6)).setCell ⟨ob, 1, none⟩ (.string ⟨#[]⟩)).setCell ⟨ob, 2, none⟩ (.slice none 0 0)).setCell ⟨ob, 3, none⟩ (.string ⟨#[]⟩)).setCell ⟨ob, 4, none⟩ (.slice (some ⟨W.heap.size, 0, none⟩) 2 2)).alloc (.cells #[.int .i64 a.op, .string a.atom.name, va, .string a.var, vp, .int .i64 u.op, .string u.atom.name, vb, .string u.var, vq] 34) ∧
      FivB W7 ob (.int .i64 (orF a u).op) (.string (orF a u).atom.name) (.slice none 0 0) (.string (orF a u).var) (.slice (some ⟨W.heap.size, 0, none⟩) 2 2) ∧ FmX ob W7 (.slice none 0 0) (.slice (some ⟨W.heap.size, 0, none⟩) 2 2) (orF a u) ∧ Below w.heap.size w W7 ∧ ob < W7.heap.size ∧
      (∀ k, k < W.heap.size → k ≠ ob → W7.heap[k]? = W.heap[k]?) ∧ W.heap.size ≤ W7.heap.size := by
  refine ⟨_, rfl, ?_⟩
  obtain ⟨W6, hW6⟩ : ∃ W6, W6 = (((((W.setCell ⟨ob, 0, none⟩ (.int .i64 6)).setCell ⟨ob, 1, none⟩ (.string ⟨#[]⟩)).setCell ⟨ob, 2, none⟩ (.slice none 0 0)).setCell ⟨ob, 3, none⟩ (.string ⟨#[]⟩)).setCell ⟨ob, 4, none⟩ (.slice (some ⟨W.heap.size, 0, none⟩) 2 2)) := ⟨_, rfl⟩
  rw [← hW6]
  have hset : ∀ q, q ≠ ob → W6.heap[q]? = W.heap[q]? := fun q hq => by
    rw [hW6, Below.heap_setCell _ _ _ _ (by simpa using hq), Below.heap_setCell _ _ _ _ (by simpa using hq), Below.heap_setCell _ _ _ _ (by simpa using hq), Below.heap_setCell _ _ _ _ (by simpa using hq), Below.heap_setCell _ _ _ _ (by simpa using hq)]
  have hsz : W6.heap.size = W.heap.size := by rw [hW6]; simp only [size_setCell]
  have g1 : FivB W6 ob (.int .i64 6) (.string ⟨#[]⟩) (.slice none 0 0) (.string ⟨#[]⟩) (.slice (some ⟨W.heap.size, 0, none⟩) 2 2) := by rw [hW6]; exact ((((h1.set0 _).set1 _).set2 _).set3 _).set4 _
  have g5 : Below w.heap.size w W6 := by rw [hW6]; exact ((((hbel.setCell (by simp; omega) _).setCell (by simp; omega) _).setCell (by simp; omega) _).setCell (by simp; omega) _).setCell (by simp; omega) _
  clear hW6
  obtain ⟨W7, hW7⟩ : ∃ W7, W7 = W6.alloc (.cells #[.int .i64 a.op, .string a.atom.name, va, .string a.var, vp, .int .i64 u.op, .string u.atom.name, vb, .string u.var, vq] 34) := ⟨_, rfl⟩
  rw [← hW7]
  have h67 : Below W6.heap.size W6 W7 := by rw [hW7]; exact (Below.refl _ _).alloc (Nat.le_refl _) _
  have hs7 : W7.heap.size = W.heap.size + 1 := by rw [hW7, World.size_alloc, hsz]
  have ht : Fiv W7 W.heap.size 0 (.int .i64 a.op) (.string a.atom.name) va (.string a.var) vp ∧ Fiv W7 W.heap.size 5 (.int .i64 u.op) (.string u.atom.name) vb (.string u.var) vq := by rw [hW7]; exact ten_new _ _ _ _ _ _ _ _ _ _ _ _ _ hsz.symm
  clear hW7
  have hh : ∀ k, k < W.heap.size → k ≠ ob → W7.heap[k]? = W.heap[k]? := fun k hk hne => (h67.block k (by omega)).trans (hset k hne)
  have hc : ∀ x v, x.block ≠ ob → W.cell? x = some v → W7.cell? x = some v := fun x v hx hv => (World.cell?_of_block (w := W) (a := x) (hh _ (World.block_lt_of_cell? W x hv) hx)).trans hv
  exact ⟨g1.kept h67, fmX_or (by omega) (by omega) (ha.step hc) (hb.step hc) ht.1 ht.2, carry_below g5 (Nat.le_refl _) h67, by omega, hh, by omega⟩

set_option maxRecDepth 100000 in
set_option maxHeartbeats 16000000 in
theorem specFo_any (l : List Lt) (w : World) (v : Value) (hv : LtS w v l) (hw : wtC l ≤ 1048576) :
    Calls Tryz.prog 13 #[.agg #[v]] w (FoEnd l w) := by
  obtain ⟨a, c, rfl⟩ := hv.is_slice
  have HV := Lib.hid hv
  have HW := Lib.hid hw
  have hlen : l.length ≤ 1048576 := Nat.le_trans (wtC_len l) hw
  obtain ⟨WA, hWA⟩ : ∃ W, W = (w.alloc (.cells #[.slice a l.length c] 48)).alloc (.cells #[.int .i64 0, .string ⟨#[]⟩, .slice none 0 0, .string ⟨#[]⟩, .slice none 0 0] 34) := ⟨_, rfl⟩
  have HFA : Hid (Oner WA w.heap.size (.slice a l.length c)) := Lib.hid (by rw [hWA]; exact (oner_new w _ 48 _ rfl).alloc _)
  have HRA : Hid (FivB WA (w.heap.size + 1) (.int .i64 0) (.string ⟨#[]⟩) (.slice none 0 0) (.string ⟨#[]⟩) (.slice none 0 0)) := Lib.hid (by rw [hWA]; exact fivB_new _ (.int .i64 0) (.string ⟨#[]⟩) (.slice none 0 0) (.string ⟨#[]⟩) (.slice none 0 0) 34 _ (by simp))
  have HBA : Hid (Below w.heap.size w WA) := Lib.hid (by rw [hWA]; exact ((Below.refl _ _).alloc (Nat.le_refl _) _).alloc (by simp) _)
  have HSA : Hid (WA.heap.size = w.heap.size + 1 + 1) := Lib.hid (by rw [hWA]; simp)
  have C0 := Lib.hid (l7Good_any l WA _ (HV.out.kept HBA.out) hw)
  obtain ⟨gb, hgb⟩ : ∃ gb, gb = goodC l := ⟨_, rfl⟩
  rw [← hgb] at C0
  have HG := Lib.hid hgb
  obtain ⟨d0, d1⟩ := HFA.out
  rw [hWA] at d0 d1
  clear hv hw hgb
  cases gb with
  | false =>
    go_enter Tryz.func13, Tryz.ntmps13
    go_wp2_with fail
    rw [← hWA]
    clear hWA d0 d1
    refine C0.out.mono ?_
    rintro e w1 ⟨rfl, hb⟩
    have HB1 := Lib.hid (carry_below HBA.out (Nat.le_refl _) hb)
    obtain ⟨r0, r1, r2, r3, r4, r5⟩ := HRA.out.kept hb
    clear hb C0
    have HE : Hid (∀ W, Below w.heap.size w W → FoEnd l w (.returned (.tuple #[.agg #[.int .i64 0, .string ⟨#[]⟩, .slice none 0 0, .string ⟨#[]⟩, .slice none 0 0], .bool false])) W) := Lib.hid (fun W hW => by
      have e : foB l = false := by simp [foB, ← HG.out]
      have e2 : foA l = zeroF := by simp [foA, ← HG.out]
      refine ⟨.slice none 0 0, .slice none 0 0, by rw [e, e2]; rfl, by rw [e2]; exact fown_zero _ _, hW⟩)
    go_wp2
    refine bodyPost_ret (v := .tuple #[.agg #[.int .i64 0, .string ⟨#[]⟩, .slice none 0 0, .string ⟨#[]⟩, .slice none 0 0], .bool false]) (by simp [results, Tryz.results13, go_sem, r0, r1, r2, r3, r4]) rfl (HE.out _ ?_)
    exact ((((HB1.out.setCell (by simp) _).setCell (by simp) _).setCell (by simp) _).setCell (by simp) _).setCell (by simp) _
  | true =>
    have hgt : goodC l = true := HG.out.symm
    by_cases h0 : l = []
    · subst h0
      simp only [List.length_nil] at hWA C0 HFA d0
      go_enter Tryz.func13, Tryz.ntmps13
      go_wp2_with fail
      rw [← hWA]
      clear hWA d0 d1
      refine C0.out.mono ?_
      rintro e w1 ⟨rfl, hb⟩
      have HB1 := Lib.hid (carry_below HBA.out (Nat.le_refl _) hb)
      obtain ⟨r0, r1, r2, r3, r4, r5⟩ := HRA.out.kept hb
      obtain ⟨d0, d1⟩ := HFA.out.kept hb
      clear hb C0
      have HE : Hid (∀ W, Below w.heap.size w W → FoEnd [] w (.returned (.tuple #[.agg #[.int .i64 2, .string ⟨#[]⟩, .slice none 0 0, .string ⟨#[]⟩, .slice none 0 0], .bool true])) W) := Lib.hid (fun W hW => by
        have e : foB [] = true := by unfold foB; rw [hgt, show disF [] = falseF from rfl, false_close.2]; rfl
        have e2 : foA [] = falseF := by unfold foA; rw [hgt, show disF [] = falseF from rfl, false_close.1]; rfl
        refine ⟨.slice none 0 0, .slice none 0 0, by rw [e, e2]; rfl, by rw [e2]; exact ⟨fun _ => False, fun _ => False, .emp _ _ _, .emp _ _ _, fun _ h => h.elim, fun _ h => h.elim, fun _ h => h.elim⟩, hW⟩)
      clear hgt
      go_wp2
      refine bodyPost_ret (v := .tuple #[.agg #[.int .i64 2, .string ⟨#[]⟩, .slice none 0 0, .string ⟨#[]⟩, .slice none 0 0], .bool true]) (by simp [results, Tryz.results13, go_sem, r0, r1, r2, r3, r4]) rfl (HE.out _ ?_)
      exact ((((HB1.out.setCell (by simp) _).setCell (by simp) _).setCell (by simp) _).setCell (by simp) _).setCell (by simp) _
    · obtain ⟨d, hsp, hd⟩ := split_last h0
      obtain ⟨n, hn⟩ : ∃ n, l.length = n + 1 := ⟨l.length - 1, by have := List.length_pos_iff.2 h0; omega⟩
      rw [hn, Nat.add_sub_cancel] at hd
      have HD := Lib.hid hd
      have HSP := Lib.hid hsp
      obtain ⟨l', hl'⟩ : ∃ l', l' = l.dropLast := ⟨_, rfl⟩
      have HL' : Hid (l'.length = n) := Lib.hid (by rw [hl', List.length_dropLast, hn]; omega)
      have HLA : Hid (∀ m s, l'[m]? = some s → l[m]? = some s) := Lib.hid (fun m s hs => by
        have h1 := (List.getElem?_eq_some_iff.1 hs).1
        rw [hsp, ← hl', List.getElem?_append_left h1]; exact hs)
      have HDIS : Hid (disF l = djF l' (litF d)) := Lib.hid (by rw [hsp, disF_snoc, ← hl'])
      have hgd := dis_good hgt
      have hdw := dis_wt hgt
      obtain ⟨b, off, rfl, va, c0, c1, c2, hva⟩ := HV.out.get hd
      obtain ⟨pa, ca, rfl⟩ := hva.is_slice
      have HVA := Lib.hid hva
      have HC : Hid (∀ W : World, Below w.heap.size w W → W.cell? ⟨b, off + n * 3, none⟩ = some (.bool d.var) ∧ W.cell? ⟨b, off + n * 3 + 1, none⟩ = some (.string d.tm.name) ∧ W.cell? ⟨b, off + n * 3 + 2, none⟩ = some (.slice pa d.tm.args.length ca)) := Lib.hid (fun W hW => ⟨carry_cell c0 hW, carry_cell c1 hW, carry_cell c2 hW⟩)
      have hdt : d.tm.wt ≤ 1048576 := Nat.le_trans (wtC_tm (List.mem_of_getElem? hd)) HW.out
      have HGD := Lib.hid hgd
      have HDW := Lib.hid hdw
      have HHN := Lib.hid hn
      have C1 : Hid (∀ W : World, Below w.heap.size w W → Calls Tryz.prog 36 #[.agg #[.bool d.var, .string d.tm.name, .slice pa d.tm.args.length ca]] W (LitEnd w.heap.size d W)) := Lib.hid (fun W hW => l8Lit_any d w W _ hW HVA.out hdt)
      rw [hn] at HFA d0 hWA hlen
      clear hl' hd hsp h0 hgt hgd hdw c0 c1 c2 hva hn
      go_enter Tryz.func13, Tryz.ntmps13
      rw [HHN.out]
      go_wp2_with fail
      rw [← hWA]
      clear hWA d0 d1
      have C0 := C0.out
      rw [HHN.out] at C0
      refine C0.mono ?_
      rintro e w1 ⟨rfl, hb⟩
      have HB1 := Lib.hid (carry_below HBA.out (Nat.le_refl _) hb)
      have HF1 := Lib.hid (HFA.out.kept hb)
      have HR1 := Lib.hid (HRA.out.kept hb)
      have hz1 : w.heap.size + 1 + 1 ≤ w1.heap.size := by have := hb.size; have := HSA.out; omega
      obtain ⟨d0, d1⟩ := HF1.out
      obtain ⟨e0, e1, e2⟩ := HC.out _ HB1.out
      clear hb C0
      go_wp2_with fail
      refine (C1.out _ HB1.out).mono ?_
      rintro e w2 ⟨va2, vp2, rfl, hfm, hb⟩
      obtain ⟨p2, c2, pp2, cp2, rfl, rfl⟩ := hfm.open
      obtain ⟨u0, hu0⟩ : ∃ u, u = litF d := ⟨_, rfl⟩
      rw [← hu0] at hfm ⊢
      have HU0 := Lib.hid hu0
      obtain ⟨ob, hob⟩ : ∃ ob, ob = w2.heap.size := ⟨_, rfl⟩
      obtain ⟨W3, hW3⟩ : ∃ W3, W3 = w2.alloc (.cells #[.int .i64 u0.op, .string u0.atom.name, .slice p2 u0.atom.args.length c2, .string u0.var, .slice pp2 u0.parts.length cp2] 34) := ⟨_, rfl⟩
      have hA3 : Below w2.heap.size w2 W3 := by rw [hW3]; exact (Below.refl _ _).alloc (Nat.le_refl _) _
      have HB3 := Lib.hid (carry_below (carry_below HB1.out (Nat.le_refl _) hb) (Nat.le_refl _) hA3)
      have HF3 := Lib.hid ((HF1.out.kept hb).kept hA3)
      have HR3 := Lib.hid ((HR1.out.kept hb).kept hA3)
      have HO3 : Hid (FivB W3 ob (.int .i64 u0.op) (.string u0.atom.name) (.slice p2 u0.atom.args.length c2) (.string u0.var) (.slice pp2 u0.parts.length cp2)) := Lib.hid (by rw [hW3]; exact fivB_new w2 _ _ _ _ _ _ _ hob)
      have HX3 : Hid (FmX ob W3 (.slice p2 u0.atom.args.length c2) (.slice pp2 u0.parts.length cp2) u0) := Lib.hid (FmX.of (hfm.same fun a v hv => (cell_hidR hv).2) hA3 (by omega))
      have hwo : w.heap.size + 1 < ob := by have := hb.size; omega
      have hob3 : ob < W3.heap.size := by rw [hW3, hob]; simp
      have HOB := Lib.hid hob
      obtain ⟨f0, f1⟩ := HF1.out.kept hb
      have hlt2 : w.heap.size < w2.heap.size := by omega
      clear hfm hb hA3 hu0 d0 d1 e0 e1 e2 C1
      go_wp2
      rw [← hob, ← hW3]
      clear hob hW3 f0 f1 hlt2
      go_loopw [5] (fun i wr => ∃ (k : Nat) (va vp : Value), k ≤ n ∧ i = .int .i64 ((k : Int) - 1) ∧ Oner wr w.heap.size (.slice (some ⟨b, off, none⟩) (n + 1) c) ∧ FivB wr (w.heap.size + 1) (.int .i64 0) (.string ⟨#[]⟩) (.slice none 0 0) (.string ⟨#[]⟩) (.slice none 0 0) ∧ FivB wr ob (.int .i64 (djF (l'.drop k) u0).op) (.string (djF (l'.drop k) u0).atom.name) va (.string (djF (l'.drop k) u0).var) vp ∧ FmX ob wr va vp (djF (l'.drop k) u0) ∧ Below w.heap.size w wr) (fun i _ => (intOf i + 1).toNat)
      case atStart =>
        have e : l'.drop n = [] := List.drop_of_length_le (by rw [HL'.out]; exact Nat.le_refl _)
        exact ⟨n, _, _, Nat.le_refl _, by go_num, HF3.out, HR3.out, by rw [e]; exact HO3.out, by rw [e]; exact HX3.out, HB3.out⟩
      case round =>
        obtain ⟨k, va, vp, hk, rfl, hbx, hres, hofv, hfx, hbe⟩ := hrel
        have HBX := Lib.hid hbx
        have HRR := Lib.hid hres
        have HOFV := Lib.hid hofv
        have HFX := Lib.hid hfx
        have HBE := Lib.hid hbe
        have hobr : ob < wr.heap.size := World.block_lt_of_cell? wr ⟨ob, 0, none⟩ hofv.1
        have hwsz := hbe.size
        clear hbx hres hofv hfx hbe
        by_cases hk0 : k = 0
        · subst hk0
          rw [show ((0 : Nat) : Int) - 1 = -1 from rfl]
          obtain ⟨u, hu⟩ : ∃ u, u = djF (l'.drop 0) u0 := ⟨_, rfl⟩
          rw [← hu] at HOFV HFX
          have hud : u = disF l := by rw [hu, HDIS.out, List.drop_zero, HU0.out]
          have HUD := Lib.hid hud
          obtain ⟨qa, qc, qp, qd, rfl, rfl⟩ := HFX.out.read.open
          have hgu : fgoodB u = true := by rw [hud]; exact HGD.out
          have hwu : u.wt ≤ 1048576 := by rw [hud]; exact HDW.out
          obtain ⟨x, hx⟩ : ∃ x, x = closeF (u.fv [] []) u := ⟨_, rfl⟩
          have HXE := Lib.hid hx
          have HXW : Hid (x.wt ≤ 20000) := Lib.hid (by rw [hx]; exact close_wt hgu hwu)
          have HGU := Lib.hid hgu
          have C3 : Hid (Calls Tryz.prog 21 #[.agg #[.int .i64 u.op, .string u.atom.name, .slice qa u.atom.args.length qc, .string u.var, .slice qp u.parts.length qd]] wr (ToFmEnd x wr)) := Lib.hid (by
            rw [hx]; exact l8Close_any u wr _ _ HFX.out.read hwu (fgood_az hgu) (by have := (fgood_open hgu).1; omega) (by have := (fv_var hgu hwu).2; omega))
          obtain ⟨o0, o1, o2, o3, o4, o5⟩ := HOFV.out
          clear hu hud hgu hwu hx
          go_wp2_with fail
          refine C3.out.mono ?_
          rintro e w4 ⟨va4, vp4, rfl, ho, hb⟩
          obtain ⟨p4, c4, pp4, cp4, rfl, rfl⟩ := ho.read.open
          have hz4 := hb.size
          obtain ⟨W5, hW5⟩ : ∃ W5, W5 = w4.alloc (.cells #[.int .i64 x.op, .string x.atom.name, .slice p4 x.atom.args.length c4, .string x.var, .slice pp4 x.parts.length cp4] 34) := ⟨_, rfl⟩
          have hA5 : Below w4.heap.size w4 W5 := by rw [hW5]; exact (Below.refl _ _).alloc (Nat.le_refl _) _
          have HB5 := Lib.hid (carry_below (carry_below HBE.out (Nat.le_refl _) hb) (Nat.le_refl _) hA5)
          have HR5 := Lib.hid ((HRR.out.kept hb).kept hA5)
          have HO5 : Hid (FOwn W5 (Fresh wr w4) x (.slice p4 x.atom.args.length c4) (.slice pp4 x.parts.length cp4)) := Lib.hid (ho.frame fun q hq => hA5.block q hq.2)
          have HX5 : Hid (FivB W5 w4.heap.size (.int .i64 x.op) (.string x.atom.name) (.slice p4 x.atom.args.length c4) (.string x.var) (.slice pp4 x.parts.length cp4)) := Lib.hid (by rw [hW5]; exact fivB_new w4 _ _ _ _ _ _ _ rfl)
          have hz5 : w4.heap.size + 1 = W5.heap.size := by rw [hW5]; simp
          have C4 := Lib.hid (l8Good_any x W5 _ _ HO5.out.read (by have := HXW.out; omega))
          obtain ⟨g2, hg2⟩ : ∃ g2, g2 = fgoodB x := ⟨_, rfl⟩
          rw [← hg2] at C4
          have HG2 := Lib.hid hg2
          clear hb ho hA5 hg2 o0 o1 o2 o3 o4 o5 C3
          cases g2 with
          | false =>
            go_wp2_with fail
            rw [← hW5]
            clear hW5
            refine C4.out.mono ?_
            rintro e w6 ⟨rfl, hb⟩
            have HB6 := Lib.hid (carry_below HB5.out (Nat.le_refl _) hb)
            obtain ⟨r0, r1, r2, r3, r4, r5⟩ := HR5.out.kept hb
            clear hb C4
            have HE : Hid (∀ W, Below w.heap.size w W → FoEnd l w (.returned (.tuple #[.agg #[.int .i64 0, .string ⟨#[]⟩, .slice none 0 0, .string ⟨#[]⟩, .slice none 0 0], .bool false])) W) := Lib.hid (fun W hW => by
              have e0 : clB (disF l) = false := by rw [← HUD.out]; simp [clB, ← HXE.out, ← HG2.out]
              have e : foB l = false := by simp [foB, e0]
              have e2 : foA l = zeroF := by simp [foA, clA, e0]
              refine ⟨.slice none 0 0, .slice none 0 0, by rw [e, e2]; rfl, by rw [e2]; exact fown_zero _ _, hW⟩)
            go_wp2
            refine bodyPost_ret (v := .tuple #[.agg #[.int .i64 0, .string ⟨#[]⟩, .slice none 0 0, .string ⟨#[]⟩, .slice none 0 0], .bool false]) (by simp [results, Tryz.results13, go_sem, r0, r1, r2, r3, r4]) rfl (HE.out _ ?_)
            exact ((((HB6.out.setCell (by simp) _).setCell (by simp) _).setCell (by simp) _).setCell (by simp) _).setCell (by simp) _
          | true =>
            go_wp2_with fail
            rw [← hW5]
            clear hW5
            refine C4.out.mono ?_
            rintro e w6 ⟨rfl, hb⟩
            have HB6 := Lib.hid (carry_below HB5.out (Nat.le_refl _) hb)
            have hz6 := hb.size
            have HO6 : Hid (FOwn w6 (Fresh wr w4) x (.slice p4 x.atom.args.length c4) (.slice pp4 x.parts.length cp4)) := Lib.hid (HO5.out.frame fun q hq => hb.block q (by have := hq.2; omega))
            obtain ⟨r0, r1, r2, r3, r4, r5⟩ := HR5.out.kept hb
            obtain ⟨x0, x1, x2, x3, x4, x5⟩ := HX5.out.kept hb
            have HE : Hid (∀ W, Below w.heap.size w W → w6.heap.size ≤ W.heap.size → FOwn W (Fresh wr w4) x (.slice p4 x.atom.args.length c4) (.slice pp4 x.parts.length cp4) → FoEnd l w (.returned (.tuple #[.agg #[.int .i64 x.op, .string x.atom.name, .slice p4 x.atom.args.length c4, .string x.var, .slice pp4 x.parts.length cp4], .bool true])) W) := Lib.hid (fun W hW hsz ho => by
              have e0 : clB (disF l) = true := by rw [← HUD.out]; simp [clB, ← HXE.out, ← HG2.out, HGU.out]
              have e : foB l = true := by simp [foB, e0, ← HG.out]
              have e2 : foA l = x := by rw [HXE.out, HUD.out]; simp [foA, clA, e0, ← HG.out]
              refine ⟨_, _, by rw [e, e2], by rw [e2]; exact ho.mono fun q hq => ⟨by have := hq.1; omega, by have := hq.2; omega⟩, hW⟩)
            clear hb C4
            go_wp2
            have hn : ¬ Fresh wr w4 (w.heap.size + 1) := fun h => by have := h.1; omega
            refine bodyPost_ret (v := .tuple #[.agg #[.int .i64 x.op, .string x.atom.name, .slice p4 x.atom.args.length c4, .string x.var, .slice pp4 x.parts.length cp4], .bool true]) (by simp [results, Tryz.results13, go_sem, r0, r1, r2, r3, r4]) rfl (HE.out _ ?_ ?_ ?_)
            · exact ((((HB6.out.setCell (by simp) _).setCell (by simp) _).setCell (by simp) _).setCell (by simp) _).setCell (by simp) _
            · simp only [size_setCell]; exact Nat.le_refl _
            · exact ((((HO6.out.setCell hn _).setCell hn _).setCell hn _).setCell hn _).setCell hn _
        · obtain ⟨m, rfl⟩ : ∃ m, k = m + 1 := ⟨k - 1, by omega⟩
          rw [show ((m + 1 : Nat) : Int) - 1 = (m : Int) by omega]
          have hml : m < n + 1 := by omega
          have hml2 : m ≤ n := by omega
          have hml3 : (m : Int) < (n : Int) + 1 := by omega
          have hml4 : (m : Int) ≤ (n : Int) := by omega
          obtain ⟨s, hs⟩ : ∃ s, l'[m]? = some s := ⟨_, List.getElem?_eq_getElem (by rw [HL'.out]; omega)⟩
          have HNXT := Lib.hid (djF_drop hs u0)
          have hsl := HLA.out m s hs
          obtain ⟨b', off', hbo, va9, e0, e1, e2, hva9⟩ := HV.out.get hsl
          injection hbo with hbo
          injection hbo with hb1 hb2
          subst hb1 hb2
          obtain ⟨sa, sc, rfl⟩ := hva9.is_slice
          have hst : s.tm.wt ≤ 1048576 := Nat.le_trans (wtC_tm (List.mem_of_getElem? hsl)) HW.out
          have C2 : Hid (∀ W : World, Below wr.heap.size wr W → Calls Tryz.prog 36 #[.agg #[.bool s.var, .string s.tm.name, .slice sa s.tm.args.length sc]] W (LitEnd w.heap.size s W)) := Lib.hid (fun W hW => l8Lit_any s w W _ (carry_below HBE.out (Nat.le_refl _) hW) hva9 hst)
          have e0 := carry_cell e0 HBE.out
          have e1 := carry_cell e1 HBE.out
          have e2 := carry_cell e2 HBE.out
          obtain ⟨u, hu⟩ : ∃ u, u = djF (l'.drop (m + 1)) u0 := ⟨_, rfl⟩
          rw [← hu] at HOFV HFX HNXT
          obtain ⟨qa, qc, qp, qd, rfl, rfl⟩ := HFX.out.read.open
          obtain ⟨o0, o1, o2, o3, o4, o5⟩ := HOFV.out
          obtain ⟨d0, d1⟩ := HBX.out
          have hB0 : Below wr.heap.size wr wr.drew := (Below.refl _ _).drew
          have y0 : wr.drew.cell? ⟨w.heap.size, 0, none⟩ = some (.slice (some ⟨b, off, none⟩) (n + 1) c) := d0
          have y1 : wr.drew.cell? ⟨b, off + m * 3, none⟩ = some (.bool s.var) := e0
          have y2 : wr.drew.cell? ⟨b, off + m * 3 + 1, none⟩ = some (.string s.tm.name) := e1
          have y3 : wr.drew.cell? ⟨b, off + m * 3 + 2, none⟩ = some (.slice sa s.tm.args.length sc) := e2
          obtain ⟨y4, y5, y6, y7, y8, y9⟩ := HOFV.out.drew
          clear hs hu hsl hva9 hst
          go_wp2_with fail
          refine sink_start 9 (fun w' => w'.cell? ⟨w.heap.size, 0, none⟩ = some (.slice (some ⟨b, off, none⟩) (n + 1) c) ∧ w'.cell? ⟨b, off + m * 3, none⟩ = some (.bool s.var) ∧ w'.cell? ⟨b, off + m * 3 + 1, none⟩ = some (.string s.tm.name) ∧ w'.cell? ⟨b, off + m * 3 + 2, none⟩ = some (.slice sa s.tm.args.length sc) ∧ w'.cell? ⟨ob, 0, none⟩ = some (.int .i64 u.op) ∧ w'.cell? ⟨ob, 1, none⟩ = some (.string u.atom.name) ∧ w'.cell? ⟨ob, 2, none⟩ = some (.slice qa u.atom.args.length qc) ∧ w'.cell? ⟨ob, 3, none⟩ = some (.string u.var) ∧ w'.cell? ⟨ob, 4, none⟩ = some (.slice qp u.parts.length qd)) (by kernel_rfl) (by exact ⟨by first | assumption | exact carry_cell' ((Below.refl _ _).alloc (Nat.le_refl _) _) (by assumption), by first | assumption | exact carry_cell' ((Below.refl _ _).alloc (Nat.le_refl _) _) (by assumption), by first | assumption | exact carry_cell' ((Below.refl _ _).alloc (Nat.le_refl _) _) (by assumption), by first | assumption | exact carry_cell' ((Below.refl _ _).alloc (Nat.le_refl _) _) (by assumption), by first | assumption | exact carry_cell' ((Below.refl _ _).alloc (Nat.le_refl _) _) (by assumption), by first | assumption | exact carry_cell' ((Below.refl _ _).alloc (Nat.le_refl _) _) (by assumption), by first | assumption | exact carry_cell' ((Below.refl _ _).alloc (Nat.le_refl _) _) (by assumption), by first | assumption | exact carry_cell' ((Below.refl _ _).alloc (Nat.le_refl _) _) (by assumption), by first | assumption | exact carry_cell' ((Below.refl _ _).alloc (Nat.le_refl _) _) (by assumption)⟩) (fun hHeld => ?_)
          refine sink_take 0 (v := ?_) rfl (by kernel_rfl) (by kernel_rfl) (by kernel_rfl) (by kernel_rfl) (by rfl) (fun _ _ _ h => h) (by assumption) ?_ ?_; rotate_left; (intro w hSw; (try dsimp only at hSw); go_simp; try (with_reducible rfl))
          try simp only [Act.put, List.getElem_toArray, List.getElem_cons_zero, List.getElem_cons_succ, List.setIfInBounds_toArray, List.set_cons_zero, List.set_cons_succ]
          refine sink_take 1 (v := ?_) rfl (by kernel_rfl) (by kernel_rfl) (by kernel_rfl) (by kernel_rfl) (by rfl) (fun _ _ _ h => h) (by assumption) ?_ ?_; rotate_left; (intro w hSw; (try dsimp only at hSw); go_simp; try (with_reducible rfl))
          try simp only [Act.put, List.getElem_toArray, List.getElem_cons_zero, List.getElem_cons_succ, List.setIfInBounds_toArray, List.set_cons_zero, List.set_cons_succ]
          refine sink_take 2 (v := ?_) rfl (by kernel_rfl) (by kernel_rfl) (by kernel_rfl) (by kernel_rfl) (by rfl) (fun _ _ _ h => h) (by assumption) ?_ ?_; rotate_left; (intro w hSw; (try dsimp only at hSw); go_simp; try (with_reducible rfl))
          try simp only [Act.put, List.getElem_toArray, List.getElem_cons_zero, List.getElem_cons_succ, List.setIfInBounds_toArray, List.set_cons_zero, List.set_cons_succ]
          refine sink_take 3 (v := ?_) rfl (by kernel_rfl) (by kernel_rfl) (by kernel_rfl) (by kernel_rfl) (by rfl) (fun _ _ _ h => h) (by assumption) ?_ ?_; rotate_left; (intro w hSw; (try dsimp only at hSw); go_simp; try (with_reducible rfl))
          try simp only [Act.put, List.getElem_toArray, List.getElem_cons_zero, List.getElem_cons_succ, List.setIfInBounds_toArray, List.set_cons_zero, List.set_cons_succ]
          refine sink_take 4 (v := ?_) rfl (by kernel_rfl) (by kernel_rfl) (by kernel_rfl) (by kernel_rfl) (by rfl) (fun _ _ _ h => h) (by assumption) ?_ ?_; rotate_left; (intro w hSw; (try dsimp only at hSw); go_simp; try (with_reducible rfl))
          try simp only [Act.put, List.getElem_toArray, List.getElem_cons_zero, List.getElem_cons_succ, List.setIfInBounds_toArray, List.set_cons_zero, List.set_cons_succ]
          refine sink_take 6 (v := ?_) rfl (by kernel_rfl) (by kernel_rfl) (by kernel_rfl) (by kernel_rfl) (by rfl) (fun _ _ _ h => h) (by assumption) ?_ ?_; rotate_left; (intro w hSw; (try dsimp only at hSw); go_simp; try (with_reducible rfl))
          try simp only [Act.put, List.getElem_toArray, List.getElem_cons_zero, List.getElem_cons_succ, List.setIfInBounds_toArray, List.set_cons_zero, List.set_cons_succ]
          refine sink_one (i := 5) (by kernel_rfl) rfl (fun K hK => ?_)
          go_simp
          go_at_call 36; refine (C2.out _ hB0).mono ?_; rintro e w6 ⟨va6, vp6, rfl, hfm, hb⟩; have q0 := carry_cell' hb y0; have q1 := carry_cell' hb y1; have q2 := carry_cell' hb y2; have q3 := carry_cell' hb y3; have q4 := carry_cell' hb y4; have q5 := carry_cell' hb y5; have q6 := carry_cell' hb y6; have q7 := carry_cell' hb y7; have q8 := carry_cell' hb y8; obtain ⟨la, lc, lp, ld, rfl, rfl⟩ := hfm.open; have HFM := Lib.hid hfm; have HB6 := Lib.hid (carry_below hB0 (Nat.le_refl _) hb); have hl6 : ob < w6.heap.size := World.block_lt_of_cell? w6 ⟨ob, 0, none⟩ q4; have hO6 := HOFV.out.drew.kept hb; obtain ⟨z0, z1, z2, z3, z4, z5⟩ := hO6; clear hfm hb
          refine hK.out _ _ (fun _ => by exact ⟨by first | assumption | exact carry_cell' ((Below.refl _ _).alloc (Nat.le_refl _) _) (by assumption), by first | assumption | exact carry_cell' ((Below.refl _ _).alloc (Nat.le_refl _) _) (by assumption), by first | assumption | exact carry_cell' ((Below.refl _ _).alloc (Nat.le_refl _) _) (by assumption), by first | assumption | exact carry_cell' ((Below.refl _ _).alloc (Nat.le_refl _) _) (by assumption), by first | assumption | exact carry_cell' ((Below.refl _ _).alloc (Nat.le_refl _) _) (by assumption), by first | assumption | exact carry_cell' ((Below.refl _ _).alloc (Nat.le_refl _) _) (by assumption), by first | assumption | exact carry_cell' ((Below.refl _ _).alloc (Nat.le_refl _) _) (by assumption), by first | assumption | exact carry_cell' ((Below.refl _ _).alloc (Nat.le_refl _) _) (by assumption), by first | assumption | exact carry_cell' ((Below.refl _ _).alloc (Nat.le_refl _) _) (by assumption)⟩) (fun hHeld => ?_)
          have hHeld := hHeld (by decide)
          clear hK K
          try simp only [Act.put, List.getElem_toArray, List.getElem_cons_zero, List.getElem_cons_succ, List.setIfInBounds_toArray, List.set_cons_zero, List.set_cons_succ]
          refine sink_one (i := 7) (by kernel_rfl) rfl (fun K hK => ?_)
          go_simp
          refine hK.out _ _ (fun _ => by exact ⟨by first | assumption | exact carry_cell' ((Below.refl _ _).alloc (Nat.le_refl _) _) (by assumption), by first | assumption | exact carry_cell' ((Below.refl _ _).alloc (Nat.le_refl _) _) (by assumption), by first | assumption | exact carry_cell' ((Below.refl _ _).alloc (Nat.le_refl _) _) (by assumption), by first | assumption | exact carry_cell' ((Below.refl _ _).alloc (Nat.le_refl _) _) (by assumption), by first | assumption | exact carry_cell' ((Below.refl _ _).alloc (Nat.le_refl _) _) (by assumption), by first | assumption | exact carry_cell' ((Below.refl _ _).alloc (Nat.le_refl _) _) (by assumption), by first | assumption | exact carry_cell' ((Below.refl _ _).alloc (Nat.le_refl _) _) (by assumption), by first | assumption | exact carry_cell' ((Below.refl _ _).alloc (Nat.le_refl _) _) (by assumption), by first | assumption | exact carry_cell' ((Below.refl _ _).alloc (Nat.le_refl _) _) (by assumption)⟩) (fun hHeld => ?_)
          have hHeld := hHeld (by decide)
          clear hK K
          try simp only [Act.put, List.getElem_toArray, List.getElem_cons_zero, List.getElem_cons_succ, List.setIfInBounds_toArray, List.set_cons_zero, List.set_cons_succ]
          refine sink_take 8 (v := ?_) rfl (by kernel_rfl) (by kernel_rfl) (by kernel_rfl) (by kernel_rfl) (by rfl) (fun _ _ _ h => h) (by assumption) ?_ ?_; rotate_left; (intro w hSw; (try dsimp only at hSw); go_simp; try (with_reducible rfl))
          try simp only [Act.put, List.getElem_toArray, List.getElem_cons_zero, List.getElem_cons_succ, List.setIfInBounds_toArray, List.set_cons_zero, List.set_cons_succ]
          refine sink_one (i := 9) (by kernel_rfl) rfl (fun K hK => ?_)
          go_simp
          refine hK.out _ _ (fun hne => absurd rfl hne) (fun hHeld => ?_)
          clear hK K
          try simp only [Act.put, List.getElem_toArray, List.getElem_cons_zero, List.getElem_cons_succ, List.setIfInBounds_toArray, List.set_cons_zero, List.set_cons_succ]
          refine sink_done (by kernel_rfl) ?_ _
          obtain ⟨W7, hW7, g1, g2, g3, g4, g5, g6⟩ := or_step (w := w) (n := 0) hl6 (by omega) (HOFV.out.kept HB6.out) (FmX.hid HFM.out (by omega) hobr) (HFX.out.kept HB6.out) (carry_below HBE.out (Nat.le_refl _) HB6.out)
          rw [← hW7]
          have hl7 : wr.heap.size ≤ w6.heap.size := HB6.out.size
          have HBX7 : Hid (Oner W7 w.heap.size (.slice (some ⟨b, off, none⟩) (n + 1) c)) := Lib.hid (by
            have e := g5 w.heap.size (by omega) (by omega)
            exact ⟨(World.cell?_of_block (w := w6) (a := ⟨w.heap.size, 0, none⟩) e).trans (HBX.out.kept HB6.out).1, fun j => (World.frozen?_of_block (w := w6) (a := ⟨w.heap.size, j, none⟩) e).trans ((HBX.out.kept HB6.out).2 j)⟩)
          have HRR7 : Hid (FivB W7 (w.heap.size + 1) (.int .i64 0) (.string ⟨#[]⟩) (.slice none 0 0) (.string ⟨#[]⟩) (.slice none 0 0)) := Lib.hid ((HRR.out.kept HB6.out).blockEq (g5 _ (by omega) (by omega)))
          have G1 := Lib.hid g1
          have G2 := Lib.hid g2
          have G3 := Lib.hid g3
          clear hW7 g1 g2 g3 g4 g5 g6 z0 z1 z2 z3 z4 z5 q0 q1 q2 q3 q4 q5 q6 q7 q8 y0 y1 y2 y3 y4 y5 y6 y7 y8 y9 e0 e1 e2 d0 d1 o0 o1 o2 o3 o4 o5 hHeld
          go_wp2
          go_roundw
          case rel => exact ⟨m, .slice none 0 0, .slice (some ⟨w6.heap.size, 0, none⟩) 2 2, by omega, rfl, HBX7.out, HRR7.out, by rw [HNXT.out]; exact G1.out, by rw [HNXT.out]; exact G2.out, G3.out⟩
          case measure => first | (simp [intOf]; done) | (simp [intOf]; omega)

end Go.Proofs.YtdpeanpmjhpblaaGreat

/- slices.Backward at a list of literals: its iterator's contract, for lists of at most 1048576 literals. -/
namespace Go.Proofs.YtdpeanpmjhpblaaGreat
open Go.RowKit Go.Shelf
set_option linter.unusedVariables false
set_option linter.unusedSimpArgs false

attribute [local go_sem] Oper.semAt_some

/-- A literal as a round of the loop is handed it. -/
structure LtE where
  i : Nat
  d : Lt
  va : Value
def LtE.enc (x : LtE) : Array Value := #[.int .i64 x.i, .agg #[.bool x.d.var, .string x.d.tm.name, x.va]]
/-- The last j literals, the last first. -/
def bkL (l : List Lt) (j : Nat) : List Lt := (List.range j).map fun i => l.getD (l.length - 1 - i) default
theorem bkL_succ (l : List Lt) (j : Nat) : bkL l (j + 1) = bkL l j ++ [l.getD (l.length - 1 - j) default] := by simp [bkL, List.range_succ]
theorem bkL_len (l : List Lt) (j : Nat) : (bkL l j).length = j := by simp [bkL]

theorem backwardL_any (w : World) (p : Option Addr) (n c : Nat) :
    Calls Tryz.prog 68 #[.slice p n c] w (fun e w' => e = .returned (.func (.func 87) #[] #[.pointer (some ⟨w.heap.size, 0, none⟩)]) ∧ w' = w.alloc (.cells #[.slice p n c] 46)) := by
  go_enter Tryz.func68, Tryz.ntmps68
  go_wp2
  go_ret
  exact ⟨rfl, rfl⟩

/-- What a round may read: the literal's arguments, in the world that the clause came in. -/
def PxL (w0 : World) (l : List Lt) (x : LtE) (_ : World) : Prop := TmS w0 x.va x.d.tm.args ∧ x.d ∈ l

set_option maxRecDepth 100000 in
set_option maxHeartbeats 4000000 in
theorem backL_stops (n Bt b off c3 : Nat) (w0 w : World) (l : List Lt) (hl : l.length ≤ 1048576) (hbox : w.cell? ⟨Bt, 0, none⟩ = some (.slice (some ⟨b, off, none⟩) l.length c3))
    (hat : ∀ k d, l[k]? = some d → LtAt w0 b off k d) (hb0 : Below w0.heap.size w0 w) :
    SeqY Fence.wide n Tryz.prog 87 #[.pointer (some ⟨Bt, 0, none⟩)] LtE.enc Eq (KpB Bt b) (PxL w0 l) (fun xs => xs.map LtE.d = bkL l l.length) (fun _ => True) l.length w := by
  intro li J Jx W hW _ _ hY hJ
  have hdd : ∀ k : Nat, (Fence.wide.depth.isSome = true → 1 ≤ k) := fun k h => by cases h
  have HY := Lib.hid hY
  have HJ := Lib.hid hJ
  have HC := Lib.hid (carry_cell hbox hW)
  have HAT := Lib.hid hat
  have HBW := Lib.hid (carry_below hb0 (Nat.le_refl _) hW)
  have c0 := HC.out
  clear hY hJ hbox hat hW hb0
  refine callsIn_of_wp Tryz.func87 rfl trivial ?_ rfl
  simp only [Tryz.ntmps87, List.size_toArray, List.length_cons, List.length_nil, Nat.reduceAdd, Nat.reduceSub, Array.replicate_succ, Array.replicate_zero, List.push_toArray, List.append_toArray, List.nil_append, List.cons_append]
  gi_wp2
  gi_loopw [3] (fun i wr => ∃ (j : Nat) (xs : List LtE), j ≤ l.length ∧ i = .int .i64 ((l.length : Int) - 1 - (j : Int)) ∧ xs.map LtE.d = bkL l j ∧ J xs wr ∧ wr.cell? ⟨Bt, 0, none⟩ = some (.slice (some ⟨b, off, none⟩) l.length c3) ∧ wr.heap[b]? = W.heap[b]?) (fun i _ => (intOf i + 1).toNat)
  case atStart => exact ⟨0, [], Nat.zero_le _, by go_num, rfl, HJ.out, HC.out, rfl⟩
  case round =>
    obtain ⟨j, xs, hj, rfl, hxs, hjj, hcc, hbb⟩ := hrel
    have HXS := Lib.hid hxs
    have HJR := Lib.hid hjj
    have HCR := Lib.hid hcc
    have HBB := Lib.hid hbb
    clear hjj hcc hbb hxs c0
    by_cases hje : j = l.length
    · have HE : Hid (xs.map LtE.d = bkL l l.length) := Lib.hid (by rw [HXS.out, hje])
      rw [show ((l.length : Nat) : Int) - 1 - (j : Int) = -1 by omega]
      clear hje
      gi_wp2
      go_end0
      exact ⟨⟨_, rfl⟩, .inl ⟨_, HE.out, HJR.out⟩⟩
    · obtain ⟨m, hm⟩ : ∃ m, m = l.length - 1 - j := ⟨_, rfl⟩
      rw [show ((l.length : Nat) : Int) - 1 - (j : Int) = (m : Int) by omega]
      have hml : m < l.length := by omega
      have c0 := HCR.out
      obtain ⟨s, hs⟩ : ∃ s, l[m]? = some s := ⟨_, List.getElem?_eq_getElem hml⟩
      obtain ⟨va, e0, e1, e2, hva⟩ := HAT.out m s hs
      obtain ⟨sa, sc, rfl⟩ := hva.is_slice
      have cr : ∀ (o : Nat) (v : Value), w0.cell? ⟨b, o, none⟩ = some v → wr.cell? ⟨b, o, none⟩ = some v := fun o v h => (World.cell?_of_block (w := W) (a := ⟨b, o, none⟩) HBB.out).trans (carry_cell h HBW.out)
      have e0 := cr _ _ e0
      have e1 := cr _ _ e1
      have e2 := cr _ _ e2
      have HSU : Hid (bkL l (j + 1) = bkL l j ++ [s]) := Lib.hid (by rw [bkL_succ, ← hm, List.getD_eq_getElem?_getD, hs]; rfl)
      have hlen : xs.length < l.length := by
        have h := congrArg List.length HXS.out
        rw [List.length_map, bkL_len] at h; omega
      have hy1 := HY.out xs ⟨m, s, .slice sa s.tm.args.length sc⟩ wr HJR.out ⟨hva, List.mem_of_getElem? hs⟩ hlen
      simp only [LtE.enc] at hy1
      obtain ⟨fn, tmps, assign, body, hy, hR⟩ := hy1
      have HM := Lib.hid hm
      clear hs hm hva cr
      gi_wp2
      ((try refine ⟨hdd _, ?_⟩); refine hR.mono ?_; clear hR; rintro e W2 (⟨rfl, hJ2, hk2⟩ | ⟨rfl, hx2⟩))
      · have HX2 : Hid ((xs ++ [(⟨m, s, .slice sa s.tm.args.length sc⟩ : LtE)]).map LtE.d = bkL l (j + 1)) := Lib.hid (by rw [HSU.out, List.map_append, HXS.out]; rfl)
        have HJ2 := Lib.hid hJ2
        have HC2 : Hid (W2.cell? ⟨Bt, 0, none⟩ = some (.slice (some ⟨b, off, none⟩) l.length c3)) := Lib.hid ((World.cell?_of_block (w := wr) (a := ⟨Bt, 0, none⟩) hk2.2.1).trans HCR.out)
        have HB2 : Hid (W2.heap[b]? = W.heap[b]?) := Lib.hid (hk2.2.2.trans HBB.out)
        clear hJ2 hk2 c0 e0 e1 e2 hy
        gi_wp2
        go_roundw
        case rel => exact ⟨j + 1, _, by omega, by have := HM.out; congr 1; omega, HX2.out, HJ2.out, HC2.out, HB2.out⟩
        case measure => first | (simp [intOf]; done) | (simp [intOf]; omega)
      · clear c0 e0 e1 e2 hy
        gi_wp2
        exact bodyPost_ret (results_none rfl _ _ _) rfl ⟨⟨_, rfl⟩, .inr ⟨_, trivial, hx2⟩⟩

end Go.Proofs.YtdpeanpmjhpblaaGreat

/- The disjunction of a clause's literals, the program's: a contract, for clauses of at most 1048576 names' bytes, literals and arguments. -/
namespace Go.Proofs.YtdpeanpmjhpblaaGreat
open Go.RowKit Go.Shelf
set_option linter.unusedVariables false
set_option linter.unusedSimpArgs false

attribute [local go_sem] Oper.semAt_some

def curD (u0 : Fm) (pre : List LtE) : Fm := pre.foldl (fun f x => orF (litF x.d) f) u0
theorem curD_snoc (u0 : Fm) (pre : List LtE) (x : LtE) : curD u0 (pre ++ [x]) = orF (litF x.d) (curD u0 pre) := by simp [curD]
theorem bkL_all (l : List Lt) : bkL l l.length = l.reverse := by
  refine List.ext_getElem (by simp [bkL]) fun i h1 h2 => ?_
  have hi : i < l.length := by simpa [bkL] using h1
  rw [List.getElem_reverse]
  simp only [bkL, List.getElem_map, List.getElem_range]
  rw [List.getD_eq_getElem?_getD, List.getElem?_eq_getElem (by omega)]
  rfl
theorem curD_all {u0 : Fm} {xs : List LtE} {l : List Lt} (h : xs.map LtE.d = bkL l l.length) : curD u0 xs = djF l u0 := by
  have e : curD u0 xs = (xs.map LtE.d).foldl (fun f d => orF (litF d) f) u0 := by
    unfold curD
    rw [List.foldl_map]
  rw [e, h, bkL_all, List.foldl_reverse]
  rfl
theorem Thr.turn {W W' : World} {b : Nat} {x y z : Value} {row : Option Nat} (h : Thr W b x y z) (hg : W.grownBy W' row) (hr : ∀ r, row = some r → ∃ o, W.heap[r]? = some o ∧ o.isCells = false) : Thr W' b x y z := by
  have e : W'.heap[b]? = W.heap[b]? := hg.block b (World.block_lt_of_cell? W ⟨b, 0, none⟩ h.1) (fun e => by
    obtain ⟨o, ho, hc⟩ := hr b e.symm
    have := cell_isCells h.1 ho
    rw [hc] at this; cases this)
  exact ⟨(World.cell?_of_block (w := W) (a := ⟨b, 0, none⟩) e).trans h.1, (World.cell?_of_block (w := W) (a := ⟨b, 1, none⟩) e).trans h.2.1, (World.cell?_of_block (w := W) (a := ⟨b, 2, none⟩) e).trans h.2.2.1,
    fun j => (World.frozen?_of_block (w := W) (a := ⟨b, j, none⟩) e).trans (h.2.2.2 j)⟩
/-- A formula by value that is read without the blocks ob and r. -/
def FmY (r ob : Nat) (W : World) (va vp : Value) (t : Fm) : Prop := ∃ Wx, FmV Wx va vp t ∧ ∀ a v, Wx.cell? a = some v → (a.block ≠ ob ∧ a.block ≠ r) ∧ W.cell? a = some v
theorem FmY.step {r ob : Nat} {W W' : World} {va vp : Value} {t : Fm} (h : FmY r ob W va vp t) (hc : ∀ a v, a.block ≠ ob → a.block ≠ r → W.cell? a = some v → W'.cell? a = some v) : FmY r ob W' va vp t := by
  obtain ⟨Wx, h1, h2⟩ := h
  exact ⟨Wx, h1, fun a v hv => ⟨(h2 a v hv).1, hc a v (h2 a v hv).1.1 (h2 a v hv).1.2 (h2 a v hv).2⟩⟩
theorem FmY.kept {r ob : Nat} {W W' : World} {va vp : Value} {t : Fm} (h : FmY r ob W va vp t) (hb : Below W.heap.size W W') : FmY r ob W' va vp t := h.step fun a v _ _ hv => carry_cell hv hb
theorem FmY.read {r ob : Nat} {W : World} {va vp : Value} {t : Fm} (h : FmY r ob W va vp t) : FmV W va vp t := by
  obtain ⟨Wx, h1, h2⟩ := h
  exact h1.same fun a v hv => (h2 a v hv).2
theorem FmY.hid {r ob lo hi : Nat} {W : World} {va vp : Value} {t : Fm} (h : FmV (hidR W lo hi) va vp t) (h1 : lo ≤ ob) (h2 : ob < hi) (h3 : lo ≤ r) (h4 : r < hi) : FmY r ob W va vp t :=
  ⟨_, h, fun a v hv => ⟨⟨fun e => (cell_hidR hv).1 (by rw [e]; exact ⟨h1, h2⟩), fun e => (cell_hidR hv).1 (by rw [e]; exact ⟨h3, h4⟩)⟩, (cell_hidR hv).2⟩⟩
theorem FmY.hide {r ob : Nat} {W : World} {va vp : Value} {t : Fm} (h : FmY r ob W va vp t) : FmV (hidW (hidW W ob) r) va vp t := by
  obtain ⟨Wx, h1, h2⟩ := h
  exact h1.same fun a v hv => hid_cell (h2 a v hv).1.2 (hid_cell (h2 a v hv).1.1 (h2 a v hv).2)
theorem size_hidW (W : World) (ob : Nat) : (hidW W ob).heap.size = W.heap.size := by unfold hidW World.putObj; simp
theorem fmY_or {r ob g c : Nat} {W : World} {a b : Fm} {va vp vb vq : Value} (ho : ob < W.heap.size) (hr : r < W.heap.size) (hg : g ≠ ob) (hgr : g ≠ r) (ha : FmY r ob W va vp a) (hb : FmY r ob W vb vq b)
    (h0 : Fiv W g 0 (.int .i64 a.op) (.string a.atom.name) va (.string a.var) vp) (h1 : Fiv W g 5 (.int .i64 b.op) (.string b.atom.name) vb (.string b.var) vq) :
    FmY r ob W (.slice none 0 0) (.slice (some ⟨g, 0, none⟩) 2 c) (orF a b) := by
  refine ⟨hidW (hidW W ob) r, ⟨.emp _ _, ?_⟩, fun x v hv => ?_⟩
  · have hf : ∀ {o x0 x1 x2 x3 x4}, Fiv W g o x0 x1 x2 x3 x4 → Fiv (hidW (hidW W ob) r) g o x0 x1 x2 x3 x4 := fun h => ⟨hid_cell hgr (hid_cell hg h.1), hid_cell hgr (hid_cell hg h.2.1), hid_cell hgr (hid_cell hg h.2.2.1), hid_cell hgr (hid_cell hg h.2.2.2.1), hid_cell hgr (hid_cell hg h.2.2.2.2)⟩
    have hcs : ∀ (i : Nat) (s : Fm), [a, b][i]? = some s → (i = 0 ∧ s = a) ∨ (i = 1 ∧ s = b) := fun i s hi => by
      match i, hi with
      | 0, hi => exact .inl ⟨rfl, by simpa using hi.symm⟩
      | 1, hi => exact .inr ⟨rfl, by simpa using hi.symm⟩
      | n + 2, hi => simp at hi
    refine .row g 0 c [a, b] (fun i => if i = 0 then va else vb) (fun i => if i = 0 then vp else vq) (by simp) (fun i s hi => ?_) (fun i s hi => ?_) (fun i s hi => ?_)
    · rcases hcs i s hi with ⟨rfl, rfl⟩ | ⟨rfl, rfl⟩
      · exact hf h0
      · exact hf h1
    · rcases hcs i s hi with ⟨rfl, rfl⟩ | ⟨rfl, rfl⟩
      · exact ha.hide.1
      · exact hb.hide.1
    · rcases hcs i s hi with ⟨rfl, rfl⟩ | ⟨rfl, rfl⟩
      · exact ha.hide.2
      · exact hb.hide.2
  · have h2 := cell_hid (by rw [size_hidW]; exact hr) hv
    have h3 := cell_hid ho h2.2
    exact ⟨⟨h3.1, h2.1⟩, h3.2⟩
theorem FmY.turn {r ob : Nat} {W W' : World} {va vp : Value} {t : Fm} {row : Option Nat} (h : FmY r ob W va vp t) (hg : W.grownBy W' row) (hr : ∀ r, row = some r → ∃ o, W.heap[r]? = some o ∧ o.isCells = false) : FmY r ob W' va vp t :=
  h.step fun a v _ _ hv => (World.cell?_of_block (w := W) (a := a) (hg.block _ (World.block_lt_of_cell? W a hv) (fun e => by
    obtain ⟨o, ho, hc⟩ := hr _ e.symm
    have := cell_isCells hv ho
    rw [hc] at this; cases this))).trans hv

/-- One literal more in front: what the stores and the new block leave. -/
theorem or_stepY {w W : World} {r ob : Nat} {u a : Fm} {va vp vb vq : Value} (ho : ob < W.heap.size) (hr : r < W.heap.size) (hwo : w.heap.size < ob) (h1 : FivB W ob (.int .i64 u.op) (.string u.atom.name) vb (.string u.var) vq) (ha : FmY r ob W va vp a) (hb : FmY r ob W vb vq u) (hbel : Below w.heap.size w W) :
    ∃ W7, W7 = (((((W.setCell ⟨ob, 0, none⟩ (.int .i64 6)).setCell ⟨ob, 1, none⟩ (.string ⟨#[]⟩)).setCell ⟨ob, 2, none⟩ (.slice none 0 0)).setCell ⟨ob, 3, none⟩ (.string ⟨#[]⟩)).setCell ⟨ob, 4, none⟩ (.slice (some ⟨W.heap.size, 0, none⟩) 2 2)).alloc (.cells #[.int .i64 a.op, .string a.atom.name, va, .string a.var, vp, .int .i64 u.op, .string u.atom.name, vb, .string u.var, vq] 34) ∧
      FivB W7 ob (.int .i64 (orF a u).op) (.string (orF a u).atom.name) (.slice none 0 0) (.string (orF a u).var) (.slice (some ⟨W.heap.size, 0, none⟩) 2 2) ∧ FmY r ob W7 (.slice none 0 0) (.slice (some ⟨W.heap.size, 0, none⟩) 2 2) (orF a u) ∧ Below w.heap.size w W7 ∧ ob < W7.heap.size ∧
      (∀ k, k < W.heap.size → k ≠ ob → W7.heap[k]? = W.heap[k]?) ∧ W.heap.size ≤ W7.heap.size := by
  refine ⟨_, rfl, ?_⟩
  obtain ⟨W6, hW6⟩ : ∃ W6, W6 = (((((W.setCell ⟨ob, 0, none⟩ (.int .i64 6)).setCell ⟨ob, 1, none⟩ (.string ⟨#[]⟩)).setCell ⟨ob, 2, none⟩ (.slice none 0 0)).setCell ⟨ob, 3, none⟩ (.string ⟨#[]⟩)).setCell ⟨ob, 4, none⟩ (.slice (some ⟨W.heap.size, 0, none⟩) 2 2)) := ⟨_, rfl⟩
  rw [← hW6]
  have hset : ∀ q, q ≠ ob → W6.heap[q]? = W.heap[q]? := fun q hq => by
    rw [hW6, Below.heap_setCell _ _ _ _ (by simpa using hq), Below.heap_setCell _ _ _ _ (by simpa using hq), Below.heap_setCell _ _ _ _ (by simpa using hq), Below.heap_setCell _ _ _ _ (by simpa using hq), Below.heap_setCell _ _ _ _ (by simpa using hq)]
  have hsz : W6.heap.size = W.heap.size := by rw [hW6]; simp only [size_setCell]
  have g1 : FivB W6 ob (.int .i64 6) (.string ⟨#[]⟩) (.slice none 0 0) (.string ⟨#[]⟩) (.slice (some ⟨W.heap.size, 0, none⟩) 2 2) := by rw [hW6]; exact ((((h1.set0 _).set1 _).set2 _).set3 _).set4 _
  have g5 : Below w.heap.size w W6 := by rw [hW6]; exact ((((hbel.setCell (by simp; omega) _).setCell (by simp; omega) _).setCell (by simp; omega) _).setCell (by simp; omega) _).setCell (by simp; omega) _
  clear hW6
  obtain ⟨W7, hW7⟩ : ∃ W7, W7 = W6.alloc (.cells #[.int .i64 a.op, .string a.atom.name, va, .string a.var, vp, .int .i64 u.op, .string u.atom.name, vb, .string u.var, vq] 34) := ⟨_, rfl⟩
  rw [← hW7]
  have h67 : Below W6.heap.size W6 W7 := by rw [hW7]; exact (Below.refl _ _).alloc (Nat.le_refl _) _
  have hs7 : W7.heap.size = W.heap.size + 1 := by rw [hW7, World.size_alloc, hsz]
  have ht : Fiv W7 W.heap.size 0 (.int .i64 a.op) (.string a.atom.name) va (.string a.var) vp ∧ Fiv W7 W.heap.size 5 (.int .i64 u.op) (.string u.atom.name) vb (.string u.var) vq := by rw [hW7]; exact ten_new _ _ _ _ _ _ _ _ _ _ _ _ _ hsz.symm
  clear hW7
  have hh : ∀ k, k < W.heap.size → k ≠ ob → W7.heap[k]? = W.heap[k]? := fun k hk hne => (h67.block k (by omega)).trans (hset k hne)
  have hc : ∀ x v, x.block ≠ ob → x.block ≠ r → W.cell? x = some v → W7.cell? x = some v := fun x v hx _ hv => (World.cell?_of_block (w := W) (a := x) (hh _ (World.block_lt_of_cell? W x hv) hx)).trans hv
  exact ⟨g1.kept h67, fmY_or (by omega) (by omega) (by omega) (by omega) (ha.step hc) (hb.step hc) ht.1 ht.2, carry_below g5 (Nat.le_refl _) h67, by omega, hh, by omega⟩

/-- What the loop holds. -/
def CurD (w : World) (ob B : Nat) (u0 : Fm) (pre : List LtE) (W : World) : Prop :=
  ∃ va vp : Value, FivB W ob (.int .i64 (curD u0 pre).op) (.string (curD u0 pre).atom.name) va (.string (curD u0 pre).var) vp ∧ FmY w.heap.size ob W va vp (curD u0 pre) ∧ FivB W w.heap.size (.int .i64 0) (.string ⟨#[]⟩) (.slice none 0 0) (.string ⟨#[]⟩) (.slice none 0 0) ∧ Below w.heap.size w W ∧ B ≤ W.heap.size
theorem curD_own (w : World) (ob B : Nat) (u0 : Fm) (hB : w.heap.size ≤ B) : OwnFrom B (CurD w ob B u0) := by
  rintro pre W W' row ⟨va, vp, h1, h2, h3, h4, h5⟩ hg hr
  have hrr : ∀ r, row = some r → ∃ o, W.heap[r]? = some o ∧ o.isCells = false := fun r e => (hr r e).2
  exact ⟨va, vp, h1.turn hg hrr, h2.turn hg hrr, h3.turn hg hrr, ownFrom_below (β := Unit) (Nat.le_refl _) hB () W W' row h4 hg hr, Nat.le_trans h5 hg.size⟩

def DisEnd (l : List Lt) (w : World) (e : Ending) (w' : World) : Prop :=
  ∃ va vp, e = .returned (.agg #[.int .i64 (disF l).op, .string (disF l).atom.name, va, .string (disF l).var, vp]) ∧ FmV w' va vp (disF l) ∧ Below w.heap.size w w'

set_option maxRecDepth 100000 in
set_option maxHeartbeats 16000000 in
theorem disj_in (l : List Lt) (w : World) (a : Option Addr) (c : Nat) (hv : LtS w (.slice a l.length c) l) (hcap : l.length ≤ c) (hw : wtC l ≤ 1048576) :
    CallsIn Fence.wide 9 Tryz.prog 39 #[.slice a l.length c] w (DisEnd l w) := by
  have HV := Lib.hid hv
  have HW := Lib.hid hw
  have hlen : l.length ≤ 1048576 := Nat.le_trans (wtC_len l) hw
  obtain ⟨WA, hWA⟩ : ∃ W, W = w.alloc (.cells #[.int .i64 0, .string ⟨#[]⟩, .slice none 0 0, .string ⟨#[]⟩, .slice none 0 0] 34) := ⟨_, rfl⟩
  have HRA : Hid (FivB WA w.heap.size (.int .i64 0) (.string ⟨#[]⟩) (.slice none 0 0) (.string ⟨#[]⟩) (.slice none 0 0)) := Lib.hid (by rw [hWA]; exact fivB_new _ (.int .i64 0) (.string ⟨#[]⟩) (.slice none 0 0) (.string ⟨#[]⟩) (.slice none 0 0) 34 _ rfl)
  have HBA : Hid (Below w.heap.size w WA) := Lib.hid (by rw [hWA]; exact (Below.refl _ _).alloc (Nat.le_refl _) _)
  have HSA : Hid (WA.heap.size = w.heap.size + 1) := Lib.hid (by rw [hWA]; simp)
  clear hv hw
  by_cases h0 : l = []
  · subst h0
    have HE : Hid (∀ W, Below w.heap.size w W → DisEnd [] w (.returned (.agg #[.int .i64 2, .string ⟨#[]⟩, .slice none 0 0, .string ⟨#[]⟩, .slice none 0 0])) W) := Lib.hid (fun W hW => ⟨.slice none 0 0, .slice none 0 0, rfl, ⟨.emp _ _, .emp _ _⟩, hW⟩)
    refine callsIn_of_wp_marks Tryz.func39 rfl trivial ?_ rfl
    simp only [Tryz.ntmps39, List.size_toArray, List.length_cons, List.length_nil, Nat.reduceAdd, Nat.reduceSub, Array.replicate_succ, Array.replicate_zero, List.push_toArray, List.append_toArray, List.nil_append, List.cons_append]
    gi_wp2
    obtain ⟨W7, hW7⟩ : ∃ W7, W7 = w.alloc (.cells #[.int .i64 2, .string ⟨#[]⟩, .slice none 0 0, .string ⟨#[]⟩, .slice none 0 0] 34) := ⟨_, rfl⟩
    rw [← hW7]
    obtain ⟨r0, r1, r2, r3, r4, r5⟩ : FivB W7 w.heap.size (.int .i64 2) (.string ⟨#[]⟩) (.slice none 0 0) (.string ⟨#[]⟩) (.slice none 0 0) := by rw [hW7]; exact fivB_new w _ _ _ _ _ _ _ rfl
    refine ⟨.agg #[.int .i64 2, .string ⟨#[]⟩, .slice none 0 0, .string ⟨#[]⟩, .slice none 0 0], by simp [results, Tryz.results39, go_sem, r0, r1, r2, r3, r4], HE.out _ ?_⟩
    rw [hW7]; exact (Below.refl _ _).alloc (Nat.le_refl _) _
  · obtain ⟨d, hsp, hd⟩ := split_last h0
    obtain ⟨n, hn⟩ : ∃ n, l.length = n + 1 := ⟨l.length - 1, by have := List.length_pos_iff.2 h0; omega⟩
    rw [hn, Nat.add_sub_cancel] at hd
    obtain ⟨l', hl'⟩ : ∃ l', l' = l.dropLast := ⟨_, rfl⟩
    have HL' : Hid (l'.length = n) := Lib.hid (by rw [hl', List.length_dropLast, hn]; omega)
    have HLA : Hid (∀ m s, l'[m]? = some s → l[m]? = some s) := Lib.hid (fun m s hs => by
      have h1 := (List.getElem?_eq_some_iff.1 hs).1
      rw [hsp, ← hl', List.getElem?_append_left h1]; exact hs)
    have HDIS : Hid (disF l = djF l' (litF d)) := Lib.hid (by rw [hsp, disF_snoc, ← hl'])
    obtain ⟨b, off, rfl, va, c0, c1, c2, hva⟩ := HV.out.get hd
    have HAT : Hid (∀ k s, l'[k]? = some s → LtAt w b off k s) := Lib.hid (fun k s hs => by
      rcases HV.out with ⟨_, _, e, _⟩ | ⟨b', off', c', e, _, hat⟩
      · injection e with _ e2 _; omega
      · injection e with e1 _ _
        injection e1 with e1
        injection e1 with e1 e2 _
        subst e1 e2
        exact hat k s (HLA.out k s hs))
    obtain ⟨pa, ca, rfl⟩ := hva.is_slice
    have hdt : d.tm.wt ≤ 1048576 := Nat.le_trans (wtC_tm (List.mem_of_getElem? hd)) HW.out
    have hbw : b < w.heap.size := World.block_lt_of_cell? w _ c0
    have C1 := Lib.hid (litFo_any d w WA _ HBA.out hva hdt)
    have c0 := carry_cell c0 HBA.out
    have c1 := carry_cell c1 HBA.out
    have c2 := carry_cell c2 HBA.out
    rw [hWA] at c0 c1 c2
    have HHN := Lib.hid hn
    have hnb : n ≤ 1048576 := by omega
    have hnc : n ≤ c := by omega
    have hnc2 : (n : Int) ≤ (c : Int) := by omega
    have hnc3 : ¬ c = 0 := by omega
    have hnc4 : 0 < c := by omega
    clear hl' hd hsp h0 hva hn
    refine callsIn_of_wp_marks Tryz.func39 rfl trivial ?_ rfl
    simp only [Tryz.ntmps39, List.size_toArray, List.length_cons, List.length_nil, Nat.reduceAdd, Nat.reduceSub, Array.replicate_succ, Array.replicate_zero, List.push_toArray, List.append_toArray, List.nil_append, List.cons_append]
    rw [HHN.out]
    gi_wp2
    rw [← hWA]
    clear hWA c0 c1 c2
    refine ⟨trivial, ?_⟩
    refine (callsIn_wide.2 C1.out).mono ?_
    rintro e w2 ⟨va2, vp2, rfl, hfm, hb⟩
    obtain ⟨p2, c2', pp2, cp2, rfl, rfl⟩ := hfm.open
    obtain ⟨u0, hu0⟩ : ∃ u, u = litF d := ⟨_, rfl⟩
    rw [← hu0] at hfm ⊢
    have HU0 := Lib.hid hu0
    obtain ⟨ob, hob⟩ : ∃ ob, ob = w2.heap.size := ⟨_, rfl⟩
    obtain ⟨W3, hW3⟩ : ∃ W3, W3 = w2.alloc (.cells #[.int .i64 u0.op, .string u0.atom.name, .slice p2 u0.atom.args.length c2', .string u0.var, .slice pp2 u0.parts.length cp2] 34) := ⟨_, rfl⟩
    have hA3 : Below w2.heap.size w2 W3 := by rw [hW3]; exact (Below.refl _ _).alloc (Nat.le_refl _) _
    obtain ⟨W4, hW4⟩ : ∃ W4, W4 = W3.alloc (.cells #[.slice (some ⟨b, off, none⟩) n c] 46) := ⟨_, rfl⟩
    have hA4 : Below W3.heap.size W3 W4 := by rw [hW4]; exact (Below.refl _ _).alloc (Nat.le_refl _) _
    have h24 : Below w2.heap.size w2 W4 := carry_below hA3 (Nat.le_refl _) hA4
    have hz3 : W3.heap.size = ob + 1 := by rw [hW3, hob]; simp
    have hz4 : W4.heap.size = ob + 1 + 1 := by rw [hW4]; simp [hz3]
    have HB4 := Lib.hid (carry_below (carry_below HBA.out (Nat.le_refl _) hb) (Nat.le_refl _) h24)
    have HR4 := Lib.hid ((HRA.out.kept hb).kept h24)
    have HO4 : Hid (FivB W4 ob (.int .i64 u0.op) (.string u0.atom.name) (.slice p2 u0.atom.args.length c2') (.string u0.var) (.slice pp2 u0.parts.length cp2)) := Lib.hid (FivB.kept (by rw [hW3]; exact fivB_new w2 _ _ _ _ _ _ _ hob) hA4)
    have HX4 : Hid (FmY w.heap.size ob W4 (.slice p2 u0.atom.args.length c2') (.slice pp2 u0.parts.length cp2) u0) := Lib.hid ⟨_, hfm, fun x v hv => by
      have h1 := cell_hidR hv
      have h2 := World.block_lt_of_cell? w2 x h1.2
      exact ⟨⟨by omega, fun e => h1.1 ⟨by omega, by have := HSA.out; omega⟩⟩, carry_cell h1.2 h24⟩⟩
    have HBX : Hid (W4.cell? ⟨ob + 1, 0, none⟩ = some (.slice (some ⟨b, off, none⟩) n c)) := Lib.hid (by
      rw [hW4, ← hz3]; exact (Boxed.new W3 46 (.slice (some ⟨b, off, none⟩) n c)).cell)
    have hwo : w.heap.size < ob := by have := hb.size; have := HSA.out; omega
    clear hfm hb hA3 hA4 h24 hu0 C1
    gi_wp2
    rw [← hW3, ← hob]
    have HOBE := Lib.hid hob
    clear hob
    refine ⟨trivial, ?_⟩
    refine (callsIn_wide.2 (backwardL_any _ _ _ _)).mono ?_
    rintro e w4 ⟨rfl, rfl⟩
    rw [← hW4, hz3]
    clear hW3 hW4
    gi_wp2
    refine wpIn_rangeYA rfl (by omega) (gf := 87) (lb := #[.pointer (some ⟨ob + 1, 0, none⟩)]) rfl trivial (enters_of Tryz.func87 (by kernel_rfl) rfl)
      (backL_stops (9 - 1) (ob + 1) b off c w W4 l' (by rw [HL'.out]; omega) (by rw [HL'.out]; exact HBX.out) HAT.out HB4.out) (fun A B k o e h _ => e ▸ h) (fun h k => h.trans k) (fun W l o o' hl h _ _ => KpB.book (by omega) (by omega) W l o o' hl h) (Below.refl _ _) (fun _ => rfl)
      (CurD w ob W4.heap.size u0)
      (fun _ _ _ => False)
      (curD_own w ob W4.heap.size u0 (by omega))
      (fun _ _ _ _ _ hs _ _ => hs)
      (fun pre A B h e => e ▸ h)
      (fun _ _ _ _ h _ => h)
      (fun x W l o o' _ _ _ _ h => h)
      ⟨_, _, HO4.out, HX4.out, HR4.out, HB4.out, Nat.le_refl _⟩
      (fun x a' W => ∃ Bx, Thr W Bx (.bool x.d.var) (.string x.d.tm.name) x.va ∧ W4.heap.size ≤ Bx ∧ a' = { tmps := #[.slice (some ⟨b, off, none⟩) (n + 1) c, undef, .pointer (some ⟨w.heap.size, 0, none⟩), .int .i64 n, .pointer (some ⟨ob, 0, none⟩), undef, .pointer (some ⟨Bx, 0, none⟩), .slice (some ⟨b, off, none⟩) (n + 1) c, .int .i64 ((n : Int) + 1), .bool false, undef, .slice (some ⟨b, off, none⟩) (n + 1) c, .int .i64 ((n : Int) + 1), .int .i64 n, .slice (some ⟨b, off, none⟩) (n + 1) c, .int .i64 n, .pointer (some ⟨b, off + n * 3, none⟩), .agg #[.bool d.var, .string d.tm.name, .slice pa d.tm.args.length ca], .agg #[.int .i64 u0.op, .string u0.atom.name, .slice p2 u0.atom.args.length c2', .string u0.var, .slice pp2 u0.parts.length cp2], .slice (some ⟨b, off, none⟩) (n + 1) c, .int .i64 n, .slice (some ⟨b, off, none⟩) n c, .func (.func 87) #[] #[.pointer (some ⟨ob + 1, 0, none⟩)], .int .i64 x.i, .agg #[.bool x.d.var, .string x.d.tm.name, x.va], undef, undef, undef, undef, undef, undef], defers := [] })
      (fun x a' W l o o' hl h hc hw hA => by obtain ⟨Bx, h1, h2, h3⟩ := hA; exact ⟨Bx, h1.turn (grownBy_putObj' W l o') (fun r e => by cases e; exact ⟨_, h, hc⟩), h2, h3⟩)
      ?assign ?body ?done ?stop
    case assign =>
      rintro li pre ⟨xi, xd, xv⟩ W K hI hpx hK
      have hx1 : TmS w xv xd.tm.args := hpx.1
      obtain ⟨sa, sc, rfl⟩ := hx1.is_slice
      have hIB : W4.heap.size ≤ W.heap.size := by obtain ⟨_, _, _, _, _, _, h⟩ := hI; exact h
      have HK := Lib.hid hK
      have HI := Lib.hid hI
      have HPX := Lib.hid hpx
      clear hK hI hpx hx1
      simp only [LtE.enc]
      gi_wp2
      exact HK.out _ _ ((KeepsOthers.alloc _ _).from _) ⟨by simp, Below.heap_alloc _ _ _ (by omega), Below.heap_alloc _ _ _ (by omega)⟩ ((curD_own w ob W4.heap.size u0 (by omega)).alloc _ HI.out) HPX.out ⟨W.heap.size, thr_new _ _ _ _ _ _ rfl, hIB, rfl⟩
    case body =>
      rintro li pre ⟨xi, xd, xv⟩ a' W ⟨va3, vp3, h1, h2, h3, h4, h5⟩ ⟨hpx, hmem⟩ ⟨Bx, hthr, hBx, rfl⟩ hlt
      have hpx : TmS w xv xd.tm.args := hpx
      have hmem : xd ∈ l' := hmem
      obtain ⟨sa, sc, rfl⟩ := hpx.is_slice
      have hst : xd.tm.wt ≤ 1048576 := by
        obtain ⟨k, hk⟩ := List.getElem?_of_mem hmem
        exact Nat.le_trans (wtC_tm (List.mem_of_getElem? (HLA.out k xd hk))) HW.out
      obtain ⟨qa, qc, qp, qd, rfl, rfl⟩ := h2.read.open
      obtain ⟨u, hu⟩ : ∃ u, u = curD u0 pre := ⟨_, rfl⟩
      rw [← hu] at h1 h2
      have HU := Lib.hid hu
      have HO := Lib.hid h1
      have HX := Lib.hid h2
      have HR := Lib.hid h3
      have HB := Lib.hid h4
      have C2 : Hid (∀ W' : World, Below W.heap.size W W' → Calls Tryz.prog 67 #[.agg #[.bool xd.var, .string xd.tm.name, .slice sa xd.tm.args.length sc]] W' (LitEnd w.heap.size xd W')) := Lib.hid (fun W' hW => litFo_any xd w W' _ (carry_below h4 (Nat.le_refl _) hW) hpx hst)
      have hThr : Thr W Bx (.bool xd.var) (.string xd.tm.name) (.slice sa xd.tm.args.length sc) := hthr
      obtain ⟨t0, t1, t2, t3⟩ := hThr
      obtain ⟨o0, o1, o2, o3, o4, o5⟩ := h1
      have hB0 : Below W.heap.size W W.drew := (Below.refl _ _).drew
      have y0 : W.drew.cell? ⟨Bx, 0, none⟩ = some (.bool xd.var) := t0
      have y1 : W.drew.cell? ⟨Bx, 1, none⟩ = some (.string xd.tm.name) := t1
      have y2 : W.drew.cell? ⟨Bx, 2, none⟩ = some (.slice sa xd.tm.args.length sc) := t2
      obtain ⟨y3, y4, y5, y6, y7, y8⟩ := HO.out.drew
      have hobW : ob < W.heap.size := by omega
      clear h2 h3 h4 hu hpx hmem hst hthr hlt
      gi_wp2
      refine sinkBIn_start (fun k => decide (5 ≤ k)) (fun w' => w'.cell? ⟨Bx, 0, none⟩ = some (.bool xd.var) ∧ w'.cell? ⟨Bx, 1, none⟩ = some (.string xd.tm.name) ∧ w'.cell? ⟨Bx, 2, none⟩ = some (.slice sa xd.tm.args.length sc) ∧ w'.cell? ⟨ob, 0, none⟩ = some (.int .i64 u.op) ∧ w'.cell? ⟨ob, 1, none⟩ = some (.string u.atom.name) ∧ w'.cell? ⟨ob, 2, none⟩ = some (.slice qa u.atom.args.length qc) ∧ w'.cell? ⟨ob, 3, none⟩ = some (.string u.var) ∧ w'.cell? ⟨ob, 4, none⟩ = some (.slice qp u.parts.length qd)) (by kernel_rfl) (by rintro ⟨a, w, h⟩; exact h) (by kernel_rfl) (by exact ⟨by first | assumption | exact carry_cell' ((Below.refl _ _).alloc (Nat.le_refl _) _) (by assumption), by first | assumption | exact carry_cell' ((Below.refl _ _).alloc (Nat.le_refl _) _) (by assumption), by first | assumption | exact carry_cell' ((Below.refl _ _).alloc (Nat.le_refl _) _) (by assumption), by first | assumption | exact carry_cell' ((Below.refl _ _).alloc (Nat.le_refl _) _) (by assumption), by first | assumption | exact carry_cell' ((Below.refl _ _).alloc (Nat.le_refl _) _) (by assumption), by first | assumption | exact carry_cell' ((Below.refl _ _).alloc (Nat.le_refl _) _) (by assumption), by first | assumption | exact carry_cell' ((Below.refl _ _).alloc (Nat.le_refl _) _) (by assumption), by first | assumption | exact carry_cell' ((Below.refl _ _).alloc (Nat.le_refl _) _) (by assumption)⟩) (fun hHeld => ?_)
      refine sinkB_take 0 (v := ?_) rfl (by kernel_rfl) (by kernel_rfl) (by kernel_rfl) (by kernel_rfl) (by rfl) (fun _ _ _ h => h) (by assumption) ?_ ?_; rotate_left; (intro w hSw; (try dsimp only at hSw); go_simp; try (with_reducible rfl))
      try simp only [Act.put, List.getElem_toArray, List.getElem_cons_zero, List.getElem_cons_succ, List.setIfInBounds_toArray, List.set_cons_zero, List.set_cons_succ]
      refine sinkB_take 2 (v := ?_) rfl (by kernel_rfl) (by kernel_rfl) (by kernel_rfl) (by kernel_rfl) (by rfl) (fun _ _ _ h => h) (by assumption) ?_ ?_; rotate_left; (intro w hSw; (try dsimp only at hSw); go_simp; try (with_reducible rfl))
      try simp only [Act.put, List.getElem_toArray, List.getElem_cons_zero, List.getElem_cons_succ, List.setIfInBounds_toArray, List.set_cons_zero, List.set_cons_succ]
      refine sinkB_one (i := 1) (by kernel_rfl) rfl (fun K hK => ?_)
      go_simp
      go_at_call 67; refine (C2.out _ hB0).mono ?_; rintro e w6 ⟨va6, vp6, rfl, hfm, hb⟩; have q0 := carry_cell' hb y0; have q1 := carry_cell' hb y1; have q2 := carry_cell' hb y2; have q3 := carry_cell' hb y3; have q4 := carry_cell' hb y4; have q5 := carry_cell' hb y5; have q6 := carry_cell' hb y6; have q7 := carry_cell' hb y7; obtain ⟨la, lc, lp, ld, rfl, rfl⟩ := hfm.open; have HFM := Lib.hid hfm; have HB6 := Lib.hid (carry_below hB0 (Nat.le_refl _) hb); have hl6 : ob < w6.heap.size := World.block_lt_of_cell? w6 ⟨ob, 0, none⟩ q3; have hO6 := HO.out.drew.kept hb; obtain ⟨z0, z1, z2, z3, z4, z5⟩ := hO6; clear hfm hb
      refine hK.out _ _ (fun _ => by exact ⟨by first | assumption | exact carry_cell' ((Below.refl _ _).alloc (Nat.le_refl _) _) (by assumption), by first | assumption | exact carry_cell' ((Below.refl _ _).alloc (Nat.le_refl _) _) (by assumption), by first | assumption | exact carry_cell' ((Below.refl _ _).alloc (Nat.le_refl _) _) (by assumption), by first | assumption | exact carry_cell' ((Below.refl _ _).alloc (Nat.le_refl _) _) (by assumption), by first | assumption | exact carry_cell' ((Below.refl _ _).alloc (Nat.le_refl _) _) (by assumption), by first | assumption | exact carry_cell' ((Below.refl _ _).alloc (Nat.le_refl _) _) (by assumption), by first | assumption | exact carry_cell' ((Below.refl _ _).alloc (Nat.le_refl _) _) (by assumption), by first | assumption | exact carry_cell' ((Below.refl _ _).alloc (Nat.le_refl _) _) (by assumption)⟩) (fun hHeld => ?_)
      have hHeld := hHeld (by decide)
      clear hK K
      try simp only [Act.put, List.getElem_toArray, List.getElem_cons_zero, List.getElem_cons_succ, List.setIfInBounds_toArray, List.set_cons_zero, List.set_cons_succ]
      refine sinkB_one (i := 3) (by kernel_rfl) rfl (fun K hK => ?_)
      go_simp
      refine hK.out _ _ (fun _ => by exact ⟨by first | assumption | exact carry_cell' ((Below.refl _ _).alloc (Nat.le_refl _) _) (by assumption), by first | assumption | exact carry_cell' ((Below.refl _ _).alloc (Nat.le_refl _) _) (by assumption), by first | assumption | exact carry_cell' ((Below.refl _ _).alloc (Nat.le_refl _) _) (by assumption), by first | assumption | exact carry_cell' ((Below.refl _ _).alloc (Nat.le_refl _) _) (by assumption), by first | assumption | exact carry_cell' ((Below.refl _ _).alloc (Nat.le_refl _) _) (by assumption), by first | assumption | exact carry_cell' ((Below.refl _ _).alloc (Nat.le_refl _) _) (by assumption), by first | assumption | exact carry_cell' ((Below.refl _ _).alloc (Nat.le_refl _) _) (by assumption), by first | assumption | exact carry_cell' ((Below.refl _ _).alloc (Nat.le_refl _) _) (by assumption)⟩) (fun hHeld => ?_)
      have hHeld := hHeld (by decide)
      clear hK K
      try simp only [Act.put, List.getElem_toArray, List.getElem_cons_zero, List.getElem_cons_succ, List.setIfInBounds_toArray, List.set_cons_zero, List.set_cons_succ]
      refine sinkB_take 4 (v := ?_) rfl (by kernel_rfl) (by kernel_rfl) (by kernel_rfl) (by kernel_rfl) (by rfl) (fun _ _ _ h => h) (by assumption) ?_ ?_; rotate_left; (intro w hSw; (try dsimp only at hSw); go_simp; try (with_reducible rfl))
      try simp only [Act.put, List.getElem_toArray, List.getElem_cons_zero, List.getElem_cons_succ, List.setIfInBounds_toArray, List.set_cons_zero, List.set_cons_succ]
      refine sinkB_one (i := 5) (by kernel_rfl) rfl (fun K hK => ?_)
      go_simp
      refine hK.out _ _ (fun h => absurd h (by decide)) (fun hHeld => ?_)
      clear hK K
      try simp only [Act.put, List.getElem_toArray, List.getElem_cons_zero, List.getElem_cons_succ, List.setIfInBounds_toArray, List.set_cons_zero, List.set_cons_succ]
      refine sinkB_done (by kernel_rfl) ?_ _
      obtain ⟨W7, hW7, g1, g2, g3, g4, g5, g6⟩ := or_stepY (w := w) (r := w.heap.size) hl6 (by omega) (by omega) (HO.out.kept HB6.out) (FmY.hid HFM.out (by omega) hobW (Nat.le_refl _) (by show w.heap.size < W.heap.size; omega)) (HX.out.kept HB6.out) (carry_below HB.out (Nat.le_refl _) HB6.out)
      gi_wp2
      rw [← hW7]
      have hl7 : W.heap.size ≤ w6.heap.size := HB6.out.size
      have hh7 : ∀ k, k < W.heap.size → k ≠ ob → W7.heap[k]? = W.heap[k]? := fun k hk hne => (g5 k (by omega) hne).trans (HB6.out.block k hk)
      exact ⟨⟨by omega, fun k o _ hk ho => (hh7 k (Array.getElem?_eq_some_iff.1 hk).1 (fun e => by subst e; have hc := cell_isCells o0 hk; rw [ho] at hc; cases hc)).trans hk⟩, ⟨by omega, hh7 (ob + 1) (by omega) (by omega), hh7 b (by omega) (by omega)⟩,
        ⟨.slice none 0 0, .slice (some ⟨w6.heap.size, 0, none⟩) 2 2, by rw [curD_snoc, ← HU.out]; exact g1, by rw [curD_snoc, ← HU.out]; exact g2, HR.out.blockEq (hh7 _ (by omega) (by omega)), g3, by omega⟩⟩
    case done =>
      rintro D xs W hD hS ⟨va3, vp3, h1, h2, h3, h4, h5⟩ hK
      rw [curD_all hS, HU0.out, ← HDIS.out] at h1 h2
      obtain ⟨u, hu⟩ : ∃ u, u = disF l := ⟨_, rfl⟩
      rw [← hu] at h1 h2
      have HUU := Lib.hid hu
      obtain ⟨qa, qc, qp, qd, rfl, rfl⟩ := h2.read.open
      have HX := Lib.hid h2
      have HR := Lib.hid h3
      have HB := Lib.hid h4
      have HK := Lib.hid hK
      have hDl : D < W.heap.size := (Array.getElem?_eq_some_iff.1 hK).1
      obtain ⟨o0, o1, o2, o3, o4, o5⟩ := h1
      obtain ⟨r0, r1, r2, r3, r4, r5⟩ := h3
      clear h2 h4 hK hu hS
      gi_wp2
      obtain ⟨W6, hW6⟩ : ∃ W6, W6 = (((((W.setCell ⟨w.heap.size, 0, none⟩ (.int .i64 u.op)).setCell ⟨w.heap.size, 1, none⟩ (.string u.atom.name)).setCell ⟨w.heap.size, 2, none⟩ (.slice qa u.atom.args.length qc)).setCell ⟨w.heap.size, 3, none⟩ (.string u.var)).setCell ⟨w.heap.size, 4, none⟩ (.slice qp u.parts.length qd)) := ⟨_, rfl⟩
      rw [← hW6]
      have hDr : D ≠ w.heap.size := by omega
      have hset : ∀ q, q ≠ w.heap.size → W6.heap[q]? = W.heap[q]? := fun q hq => by
        rw [hW6, Below.heap_setCell _ _ _ _ (by simpa using hq), Below.heap_setCell _ _ _ _ (by simpa using hq), Below.heap_setCell _ _ _ _ (by simpa using hq), Below.heap_setCell _ _ _ _ (by simpa using hq), Below.heap_setCell _ _ _ _ (by simpa using hq)]
      have HB6 : Hid (Below w.heap.size w W6) := Lib.hid (by rw [hW6]; exact ((((HB.out.setCell (by simp) _).setCell (by simp) _).setCell (by simp) _).setCell (by simp) _).setCell (by simp) _)
      have HR6 : Hid (FivB W6 w.heap.size (.int .i64 u.op) (.string u.atom.name) (.slice qa u.atom.args.length qc) (.string u.var) (.slice qp u.parts.length qd)) := Lib.hid (by rw [hW6]; exact ((((HR.out.set0 _).set1 _).set2 _).set3 _).set4 _)
      have HK6 : Hid (W6.heap[D]? = some (.deferred (some []))) := Lib.hid ((hset D hDr).trans HK.out)
      have HX6 : Hid (FmY w.heap.size ob W6 (.slice qa u.atom.args.length qc) (.slice qp u.parts.length qd) u) := Lib.hid (HX.out.step fun x v _ hx hv => (World.cell?_of_block (w := W) (a := x) (hset _ hx)).trans hv)
      clear hW6 hset r0 r1 r2 r3 r4 r5 o0 o1 o2 o3 o4 o5
      refine ⟨by simp, .inl ⟨_, _, rfl, run_takeDeferred HK6.out, ?_⟩⟩
      have hcd : ∀ r, some D = some r → ∃ o, W6.heap[r]? = some o ∧ o.isCells = false := fun r e => by cases e; exact ⟨_, HK6.out, rfl⟩
      obtain ⟨r0, r1, r2, r3, r4, r5⟩ := HR6.out.turn (grownBy_putObj' W6 D (.deferred none)) hcd
      have HX7 := (HX6.out.turn (grownBy_putObj' W6 D (.deferred none)) hcd).read
      have HB7 := HB6.out.trans (belowK_b (w := w) (Nat.le_refl _) W6 D _ (.deferred none) (by omega) HK6.out rfl rfl)
      refine ⟨.agg #[.int .i64 u.op, .string u.atom.name, .slice qa u.atom.args.length qc, .string u.var, .slice qp u.parts.length qd], by simp [results, Tryz.results39, go_sem, r0, r1, r2, r3, r4], _, _, by rw [← HUU.out], by rw [← HUU.out]; exact HX7, HB7⟩
    case stop =>
      rintro D c pre W _ _ h _
      exact h.elim

theorem disj_any (l : List Lt) (w : World) (a : Option Addr) (c : Nat) (hv : LtS w (.slice a l.length c) l) (hcap : l.length ≤ c) (hw : wtC l ≤ 1048576) :
    Calls Tryz.prog 39 #[.slice a l.length c] w (DisEnd l w) := callsIn_wide.1 (disj_in l w a c hv hcap hw)

end Go.Proofs.YtdpeanpmjhpblaaGreat

/- The formula of a clause, the program's: a contract, for clauses of at most 1048576 names' bytes, literals and arguments. -/
namespace Go.Proofs.YtdpeanpmjhpblaaGreat
open Go.RowKit
set_option linter.unusedVariables false
set_option linter.unusedSimpArgs false

set_option maxRecDepth 100000 in
set_option maxHeartbeats 8000000 in
theorem implFo_any (l : List Lt) (w : World) (a : Option Addr) (c : Nat) (hv : LtS w (.slice a l.length c) l) (hcap : l.length ≤ c) (hw : wtC l ≤ 1048576) :
    Calls Tryz.prog 15 #[.agg #[.slice a l.length c]] w (FoEnd l w) := by
  have HV := Lib.hid hv
  obtain ⟨WA, hWA⟩ : ∃ W, W = (w.alloc (.cells #[.slice a l.length c] 48)).alloc (.cells #[.int .i64 0, .string ⟨#[]⟩, .slice none 0 0, .string ⟨#[]⟩, .slice none 0 0] 34) := ⟨_, rfl⟩
  have HFA : Hid (Oner WA w.heap.size (.slice a l.length c)) := Lib.hid (by rw [hWA]; exact (oner_new w _ 48 _ rfl).alloc _)
  have HRA : Hid (FivB WA (w.heap.size + 1) (.int .i64 0) (.string ⟨#[]⟩) (.slice none 0 0) (.string ⟨#[]⟩) (.slice none 0 0)) := Lib.hid (by rw [hWA]; exact fivB_new _ (.int .i64 0) (.string ⟨#[]⟩) (.slice none 0 0) (.string ⟨#[]⟩) (.slice none 0 0) 34 _ (by simp))
  have HBA : Hid (Below w.heap.size w WA) := Lib.hid (by rw [hWA]; exact ((Below.refl _ _).alloc (Nat.le_refl _) _).alloc (by simp) _)
  have HSA : Hid (WA.heap.size = w.heap.size + 1 + 1) := Lib.hid (by rw [hWA]; simp)
  have C0 := Lib.hid (implVCl_any l WA _ (HV.out.kept HBA.out) hw)
  have C1 : Hid (∀ W : World, Below w.heap.size w W → Calls Tryz.prog 39 #[.slice a l.length c] W (DisEnd l W)) := Lib.hid (fun W hW => disj_any l W a c (HV.out.kept hW) hcap hw)
  obtain ⟨gb, hgb⟩ : ∃ gb, gb = goodC l := ⟨_, rfl⟩
  rw [← hgb] at C0
  have HG := Lib.hid hgb
  obtain ⟨d0, d1⟩ := HFA.out
  rw [hWA] at d0 d1
  clear hv hw hgb hcap
  cases gb with
  | false =>
    go_enter Tryz.func15, Tryz.ntmps15
    go_wp2_with fail
    rw [← hWA]
    clear hWA d0 d1
    refine C0.out.mono ?_
    rintro e w1 ⟨rfl, hb⟩
    have HB1 := Lib.hid (carry_below HBA.out (Nat.le_refl _) hb)
    obtain ⟨r0, r1, r2, r3, r4, r5⟩ := HRA.out.kept hb
    clear hb C0
    have HE : Hid (∀ W, Below w.heap.size w W → FoEnd l w (.returned (.tuple #[.agg #[.int .i64 0, .string ⟨#[]⟩, .slice none 0 0, .string ⟨#[]⟩, .slice none 0 0], .bool false])) W) := Lib.hid (fun W hW => by
      have e : foB l = false := by simp [foB, ← HG.out]
      have e2 : foA l = zeroF := by simp [foA, ← HG.out]
      refine ⟨.slice none 0 0, .slice none 0 0, by rw [e, e2]; rfl, by rw [e2]; exact fown_zero _ _, hW⟩)
    go_wp2
    refine bodyPost_ret (v := .tuple #[.agg #[.int .i64 0, .string ⟨#[]⟩, .slice none 0 0, .string ⟨#[]⟩, .slice none 0 0], .bool false]) (by simp [results, Tryz.results15, go_sem, r0, r1, r2, r3, r4]) rfl (HE.out _ ?_)
    exact ((((HB1.out.setCell (by simp) _).setCell (by simp) _).setCell (by simp) _).setCell (by simp) _).setCell (by simp) _
  | true =>
    have hgt : goodC l = true := HG.out.symm
    have HDW := Lib.hid (dis_wt hgt)
    obtain ⟨u, hu⟩ : ∃ u, u = disF l := ⟨_, rfl⟩
    have HU := Lib.hid hu
    obtain ⟨x, hx⟩ : ∃ x, x = clA u := ⟨_, rfl⟩
    obtain ⟨ok, hok⟩ : ∃ ok, ok = clB u := ⟨_, rfl⟩
    have HX := Lib.hid hx
    have HOK := Lib.hid hok
    clear hgt hu hx hok
    go_enter Tryz.func15, Tryz.ntmps15
    go_wp2_with fail
    rw [← hWA]
    clear hWA d0 d1
    refine C0.out.mono ?_
    rintro e w1 ⟨rfl, hb⟩
    have HB1 := Lib.hid (carry_below HBA.out (Nat.le_refl _) hb)
    have HR1 := Lib.hid (HRA.out.kept hb)
    have hz1 : w.heap.size + 1 + 1 ≤ w1.heap.size := by have := hb.size; have := HSA.out; omega
    obtain ⟨d0, d1⟩ := HFA.out.kept hb
    clear hb C0
    go_wp2_with fail
    refine (C1.out _ HB1.out).mono ?_
    rintro e w2 ⟨va2, vp2, he2, hfm, hb⟩
    rw [← HU.out] at he2 hfm
    subst he2
    obtain ⟨p2, c2, pp2, cp2, rfl, rfl⟩ := hfm.open
    have HB2 := Lib.hid (carry_below HB1.out (Nat.le_refl _) hb)
    have HR2 := Lib.hid (HR1.out.kept hb)
    have hz2 := hb.size
    have C2 := Lib.hid (implClose_any u w2 _ _ hfm (by rw [HU.out]; exact HDW.out))
    clear hb hfm d0 d1 C1
    go_wp2_with fail
    refine C2.out.mono ?_
    rintro e w3 ⟨va3, vp3, he3, ho, hb⟩
    rw [← HX.out, ← HOK.out] at he3
    rw [← HX.out] at ho
    subst he3
    obtain ⟨p3, c3, pp3, cp3, rfl, rfl⟩ := ho.read.open
    have HB3 := Lib.hid (carry_below HB2.out (Nat.le_refl _) hb)
    have HR3 := Lib.hid (HR2.out.kept hb)
    have HO3 := Lib.hid ho
    obtain ⟨r0, r1, r2, r3, r4, r5⟩ := HR3.out
    have HE : Hid (∀ W, Below w.heap.size w W → w3.heap.size ≤ W.heap.size → FOwn W (Fresh w2 w3) x (.slice p3 x.atom.args.length c3) (.slice pp3 x.parts.length cp3) → FoEnd l w (.returned (.tuple #[.agg #[.int .i64 x.op, .string x.atom.name, .slice p3 x.atom.args.length c3, .string x.var, .slice pp3 x.parts.length cp3], .bool ok])) W) := Lib.hid (fun W hW hsz ho => by
      have e : foB l = ok := by rw [HOK.out, HU.out]; simp [foB, ← HG.out]
      have e2 : foA l = x := by rw [HX.out, HU.out]; simp [foA, ← HG.out]
      refine ⟨_, _, by rw [e, e2], by rw [e2]; exact ho.mono fun q hq => ⟨by have := hq.1; omega, by have := hq.2; omega⟩, hW⟩)
    clear hb ho C2
    go_wp2
    have hn : ¬ Fresh w2 w3 (w.heap.size + 1) := fun h => by have := h.1; omega
    refine bodyPost_ret (v := .tuple #[.agg #[.int .i64 x.op, .string x.atom.name, .slice p3 x.atom.args.length c3, .string x.var, .slice pp3 x.parts.length cp3], .bool ok]) (by simp [results, Tryz.results15, go_sem, r0, r1, r2, r3, r4]) rfl (HE.out _ ?_ ?_ ?_)
    · exact ((((HB3.out.setCell (by simp) _).setCell (by simp) _).setCell (by simp) _).setCell (by simp) _).setCell (by simp) _
    · simp only [size_setCell]; exact Nat.le_refl _
    · exact ((((HO3.out.setCell hn _).setCell hn _).setCell hn _).setCell hn _).setCell hn _

end Go.Proofs.YtdpeanpmjhpblaaGreat
