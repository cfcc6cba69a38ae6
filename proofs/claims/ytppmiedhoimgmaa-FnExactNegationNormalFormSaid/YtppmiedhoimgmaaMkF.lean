/- The laws' helper that writes marks into a list of formulas of the call's own: a contract. -/
import Derived.Test.YtppmiedhoimgmaaMarkT
import Derived.Test.YtppmiedhoimgmaaFmW
import Derived.Test.YtppmiedhoimgmaaInts
namespace Go.Proofs.Ytppmiedhoimgmaa
open Go.RowKit
set_option linter.unusedVariables false
set_option linter.unusedSimpArgs false

mutual
/-- The number of marks that a formula takes. -/
def Fm.mn : Fm → Nat
  | .node _ a _ ps => 3 + sumL Tm.sz a.args + Fm.mnL ps
def Fm.mnL : List Fm → Nat
  | [] => 0
  | t :: r => Fm.mn t + Fm.mnL r
/-- The formula with marks in it. -/
def mkFm (k : Nat) : Fm → Fm
  | .node _ a _ ps => .node (k : Int) (.node (markB (k + 1)) (mkL (k + 1 + 1) a.args)) (markB (k + 1 + 1 + sumL Tm.sz a.args)) (mkFs (k + 1 + 1 + sumL Tm.sz a.args + 1) ps)
def mkFs (k : Nat) : List Fm → List Fm
  | [] => []
  | t :: r => mkFm k t :: mkFs (k + Fm.mn t) r
end
theorem Fm.mnL_sum : ∀ l : List Fm, Fm.mnL l = sumG Fm.mn l
  | [] => by simp [Fm.mnL, sumG]
  | t :: r => by simp [Fm.mnL, sumG, Fm.mnL_sum r]
theorem Fm.mn_eq (t : Fm) : t.mn = 3 + sumL Tm.sz t.atom.args + sumG Fm.mn t.parts := by
  cases t with
  | node o a v l => rw [Fm.mn, Fm.mnL_sum]; rfl
theorem mkFm_op (k : Nat) (t : Fm) : (mkFm k t).op = (k : Int) := by cases t; rw [mkFm]; rfl
theorem mkFm_name (k : Nat) (t : Fm) : (mkFm k t).atom.name = markB (k + 1) := by cases t; rw [mkFm]; rfl
theorem mkFm_args (k : Nat) (t : Fm) : (mkFm k t).atom.args = mkL (k + 1 + 1) t.atom.args := by cases t; rw [mkFm]; rfl
theorem mkFm_var (k : Nat) (t : Fm) : (mkFm k t).var = markB (k + 1 + 1 + sumL Tm.sz t.atom.args) := by cases t; rw [mkFm]; rfl
theorem mkFm_parts (k : Nat) (t : Fm) : (mkFm k t).parts = mkFs (k + 1 + 1 + sumL Tm.sz t.atom.args + 1) t.parts := by cases t; rw [mkFm]; rfl
theorem mkFs_len : ∀ (k : Nat) (l : List Fm), (mkFs k l).length = l.length
  | _, [] => by rw [mkFs]
  | k, t :: r => by rw [mkFs, List.length_cons, mkFs_len, List.length_cons]
theorem mkFs_at : ∀ (l : List Fm) (k j : Nat) (t : Fm), l[j]? = some t → (mkFs k l)[j]? = some (mkFm (k + sumG Fm.mn (l.take j)) t)
  | [], _, _, _, h => by cases h
  | a :: l, k, 0, t, h => by
    simp at h
    subst h
    rw [mkFs]; simp [sumG]
  | a :: l, k, j + 1, t, h => by
    rw [mkFs]
    have := mkFs_at l (k + a.mn) j t (by simpa using h)
    simp [sumG]
    rw [this, Nat.add_assoc]
theorem mkFs_from {l : List Fm} {k j : Nat} {x : Fm} (h : (mkFs k l)[j]? = some x) : ∃ t, l[j]? = some t ∧ x = mkFm (k + sumG Fm.mn (l.take j)) t := by
  have hj : j < l.length := by have := (List.getElem?_eq_some_iff.1 h).1; rwa [mkFs_len] at this
  have ht : l[j]? = some l[j] := List.getElem?_eq_getElem hj
  have := mkFs_at l k j _ ht
  rw [h] at this
  injection this with e
  exact ⟨_, ht, e⟩
theorem Fm.mn_pos (t : Fm) : 3 ≤ t.mn := by rw [t.mn_eq]; omega
theorem sumMn_len (l : List Fm) : l.length ≤ sumG Fm.mn l := by
  induction l with
  | nil => simp [sumG]
  | cons t r ih => have := Fm.mn_pos t; simp [sumG]; omega
theorem Fm.mn_wt : ∀ t : Fm, t.mn ≤ 3 * t.wt + 3 := Fm.ind fun t ih => by
  rw [t.mn_eq, t.wt_eq]
  have h := sumG_le_of (f := Fm.mn) (g := fun s => 3 * s.wt + 3) (l := t.parts) ih
  have h2 : ∀ l : List Fm, sumG (fun s : Fm => 3 * s.wt + 3) l = 3 * sumG Fm.wt l + 3 * l.length := by
    intro l
    induction l with
    | nil => simp [sumG]
    | cons x r ih => simp only [sumG, List.length_cons, ih]; omega
  rw [h2] at h
  have h3 := t.atom.sz_wt
  rw [t.atom.sz_eq] at h3
  omega

def updG {α : Type} (h : Nat → α) (i : Nat) (x : α) : Nat → α := fun j => if j = i then x else h j
def mixG {α : Type} (a b : Nat → α) (i : Nat) : Nat → α := fun j => if j < i then a j else b j
theorem updG_mix {α : Type} (a b : Nat → α) (i : Nat) {x : α} (hx : x = a i) : updG (mixG a b i) i x = mixG a b (i + 1) := by
  funext j
  unfold updG mixG
  by_cases h : j = i
  · subst h; rw [if_pos rfl, if_pos (by omega)]; exact hx
  · rw [if_neg h]
    by_cases h2 : j < i
    · rw [if_pos h2, if_pos (by omega)]
    · rw [if_neg h2, if_neg (by omega)]
theorem mixG_lt {α : Type} (a b : Nat → α) {i j : Nat} (h : j < i) : mixG a b i j = a j := by unfold mixG; rw [if_pos h]
theorem mixG_ge {α : Type} (a b : Nat → α) {i j : Nat} (h : ¬ j < i) : mixG a b i j = b j := by unfold mixG; rw [if_neg h]

theorem Outside.ownF {S S' : Nat → Prop} {a b : World} (h : Outside S a b) {v : Value} {l : List Fm} (ho : FmO a S' v l) (hs : ∀ k, S' k → k < a.heap.size ∧ ¬ S k) : FmO b S' v l :=
  ho.frame fun k hk => h.block k (hs k hk).1 (hs k hk).2
theorem Outside.fiv {S : Nat → Prop} {a b : World} (h : Outside S a b) {g o : Nat} {x0 x1 x2 x3 x4 : Value} (hf : Fiv a g o x0 x1 x2 x3 x4) (hn : ¬ S g) : Fiv b g o x0 x1 x2 x3 x4 :=
  hf.block (h.block g (World.block_lt_of_cell? a _ hf.1) hn)

/-- A row of formulas of the call's own, element by element. -/
structure RowGF (w : World) (g : Nat) (f p : Nat → Value) (Q : Nat → Nat → Prop) (n : Nat) (oo : Nat → Int) (nn vv : Nat → ByteArray) (aa : Nat → List Tm) (pp : Nat → List Fm) : Prop where
  free : ∀ j, w.frozen? ⟨g, j, none⟩ = false
  cells : ∀ j, j < n → Fiv w g (j * 5) (.int .i64 (oo j)) (.string (nn j)) (f j) (.string (vv j)) (p j)
  own : ∀ j, j < n → TmO w (Q (2 * j)) (f j) (aa j)
  pown : ∀ j, j < n → FmO w (Q (2 * j + 1)) (p j) (pp j)

section
variable {w w' : World} {g : Nat} {f p : Nat → Value} {Q : Nat → Nat → Prop} {n : Nat} {oo : Nat → Int} {nn vv : Nat → ByteArray} {aa : Nat → List Tm} {pp : Nat → List Fm}
theorem RowGF.lt (h : RowGF w g f p Q n oo nn vv aa pp) (hp : 0 < n) : g < w.heap.size := World.block_lt_of_cell? w _ (h.cells 0 hp).1
theorem RowGF.below (h : RowGF w g f p Q n oo nn vv aa pp) (hb : Below w.heap.size w w') (hp : 0 < n) (hs : ∀ j b, j < 2 * n → Q j b → b < w.heap.size) : RowGF w' g f p Q n oo nn vv aa pp :=
  ⟨fun j => (hb.frozen (p := ⟨g, j, none⟩) (h.lt hp)).trans (h.free j), fun j hj => (h.cells j hj).kept hb, fun j hj => (h.own j hj).frame fun b hb' => hb.block b (hs _ b (by omega) hb'),
    fun j hj => (h.pown j hj).frame fun b hb' => hb.block b (hs _ b (by omega) hb')⟩
theorem RowGF.outside {S : Nat → Prop} (h : RowGF w g f p Q n oo nn vv aa pp) (hout : Outside S w w') (hp : 0 < n) (hg : ¬ S g) : (∀ j, w'.frozen? ⟨g, j, none⟩ = false) ∧ ∀ j, j < n → Fiv w' g (j * 5) (.int .i64 (oo j)) (.string (nn j)) (f j) (.string (vv j)) (p j) :=
  ⟨fun j => by rw [World.frozen?_of_block (w := w) (a := ⟨g, j, none⟩) (hout.block g (h.lt hp) hg)]; exact h.free j, fun j hj => hout.fiv (h.cells j hj) hg⟩
theorem RowGF.set0 (h : RowGF w g f p Q n oo nn vv aa pp) {i : Nat} (hi : i < n) (hs : ∀ j, j < 2 * n → ¬ Q j g) (x : Int) : RowGF (w.setCell ⟨g, i * 5, none⟩ (.int .i64 x)) g f p Q n (updG oo i x) nn vv aa pp := by
  refine ⟨fun j => by rw [World.frozen?_setCell]; exact h.free j, fun j hj => ⟨?_, ?_, ?_, ?_, ?_⟩, fun j hj => (h.own j hj).setCell (hs _ (by omega)) _, fun j hj => (h.pown j hj).setCell (hs _ (by omega)) _⟩
  · unfold updG
    split
    · rename_i e; subst e; exact World.cell?_setCell_same _ _ _ (h.cells j hj).1
    · exact (World.cell?_setCell_other _ _ _ _ (by simp; try omega)).trans (h.cells j hj).1
  · exact (World.cell?_setCell_other _ _ _ _ (by simp; try omega)).trans (h.cells j hj).2.1
  · exact (World.cell?_setCell_other _ _ _ _ (by simp; try omega)).trans (h.cells j hj).2.2.1
  · exact (World.cell?_setCell_other _ _ _ _ (by simp; try omega)).trans (h.cells j hj).2.2.2.1
  · exact (World.cell?_setCell_other _ _ _ _ (by simp; try omega)).trans (h.cells j hj).2.2.2.2
theorem RowGF.set1 (h : RowGF w g f p Q n oo nn vv aa pp) {i : Nat} (hi : i < n) (hs : ∀ j, j < 2 * n → ¬ Q j g) (x : ByteArray) : RowGF (w.setCell ⟨g, i * 5 + 1, none⟩ (.string x)) g f p Q n oo (updG nn i x) vv aa pp := by
  refine ⟨fun j => by rw [World.frozen?_setCell]; exact h.free j, fun j hj => ⟨?_, ?_, ?_, ?_, ?_⟩, fun j hj => (h.own j hj).setCell (hs _ (by omega)) _, fun j hj => (h.pown j hj).setCell (hs _ (by omega)) _⟩
  · exact (World.cell?_setCell_other _ _ _ _ (by simp; try omega)).trans (h.cells j hj).1
  · unfold updG
    split
    · rename_i e; subst e; exact World.cell?_setCell_same _ _ _ (h.cells j hj).2.1
    · exact (World.cell?_setCell_other _ _ _ _ (by simp; try omega)).trans (h.cells j hj).2.1
  · exact (World.cell?_setCell_other _ _ _ _ (by simp; try omega)).trans (h.cells j hj).2.2.1
  · exact (World.cell?_setCell_other _ _ _ _ (by simp; try omega)).trans (h.cells j hj).2.2.2.1
  · exact (World.cell?_setCell_other _ _ _ _ (by simp; try omega)).trans (h.cells j hj).2.2.2.2
theorem RowGF.set3 (h : RowGF w g f p Q n oo nn vv aa pp) {i : Nat} (hi : i < n) (hs : ∀ j, j < 2 * n → ¬ Q j g) (x : ByteArray) : RowGF (w.setCell ⟨g, i * 5 + 3, none⟩ (.string x)) g f p Q n oo nn (updG vv i x) aa pp := by
  refine ⟨fun j => by rw [World.frozen?_setCell]; exact h.free j, fun j hj => ⟨?_, ?_, ?_, ?_, ?_⟩, fun j hj => (h.own j hj).setCell (hs _ (by omega)) _, fun j hj => (h.pown j hj).setCell (hs _ (by omega)) _⟩
  · exact (World.cell?_setCell_other _ _ _ _ (by simp; try omega)).trans (h.cells j hj).1
  · exact (World.cell?_setCell_other _ _ _ _ (by simp; try omega)).trans (h.cells j hj).2.1
  · exact (World.cell?_setCell_other _ _ _ _ (by simp; try omega)).trans (h.cells j hj).2.2.1
  · unfold updG
    split
    · rename_i e; subst e; exact World.cell?_setCell_same _ _ _ (h.cells j hj).2.2.2.1
    · exact (World.cell?_setCell_other _ _ _ _ (by simp; try omega)).trans (h.cells j hj).2.2.2.1
  · exact (World.cell?_setCell_other _ _ _ _ (by simp; try omega)).trans (h.cells j hj).2.2.2.2
theorem RowGF.args (h : RowGF w g f p Q n oo nn vv aa pp) {i : Nat} (hi : i < n) (hs : ∀ j b, j < 2 * n → Q j b → b < w.heap.size ∧ b ≠ g) (hdis : ∀ i j b, i < 2 * n → j < 2 * n → i ≠ j → Q i b → Q j b → False)
    {a' : List Tm} (ho : TmO w' (Q (2 * i)) (f i) a') (hout : Outside (Q (2 * i)) w w') : RowGF w' g f p Q n oo nn vv (updG aa i a') pp := by
  obtain ⟨h1, h2⟩ := h.outside hout (by omega) (fun e => (hs _ g (by omega) e).2 rfl)
  refine ⟨h1, h2, fun j hj => ?_, fun j hj => hout.ownF (h.pown j hj) fun b hb => ⟨(hs _ b (by omega) hb).1, fun hb' => hdis (2 * j + 1) (2 * i) b (by omega) (by omega) (by omega) hb hb'⟩⟩
  unfold updG
  split
  · rename_i e; subst e; exact ho
  · rename_i e; exact hout.own (h.own j hj) fun b hb => ⟨(hs _ b (by omega) hb).1, fun hb' => hdis (2 * j) (2 * i) b (by omega) (by omega) (by omega) hb hb'⟩
theorem RowGF.parts (h : RowGF w g f p Q n oo nn vv aa pp) {i : Nat} (hi : i < n) (hs : ∀ j b, j < 2 * n → Q j b → b < w.heap.size ∧ b ≠ g) (hdis : ∀ i j b, i < 2 * n → j < 2 * n → i ≠ j → Q i b → Q j b → False)
    {a' : List Fm} (ho : FmO w' (Q (2 * i + 1)) (p i) a') (hout : Outside (Q (2 * i + 1)) w w') : RowGF w' g f p Q n oo nn vv aa (updG pp i a') := by
  obtain ⟨h1, h2⟩ := h.outside hout (by omega) (fun e => (hs _ g (by omega) e).2 rfl)
  refine ⟨h1, h2, fun j hj => hout.own (h.own j hj) fun b hb => ⟨(hs _ b (by omega) hb).1, fun hb' => hdis (2 * j) (2 * i + 1) b (by omega) (by omega) (by omega) hb hb'⟩, fun j hj => ?_⟩
  unfold updG
  split
  · rename_i e; subst e; exact ho
  · rename_i e; exact hout.ownF (h.pown j hj) fun b hb => ⟨(hs _ b (by omega) hb).1, fun hb' => hdis (2 * j + 1) (2 * i + 1) b (by omega) (by omega) (by omega) hb hb'⟩
end

/-- The elements, before and behind the marks. -/
def dF (l : List Fm) (j : Nat) : Fm := l.getD j default
def eF (l : List Fm) (k j : Nat) : Fm := mkFm (k + sumG Fm.mn (l.take j)) (dF l j)
theorem dF_of {l : List Fm} {i : Nat} {t : Fm} (h : l[i]? = some t) : dF l i = t := by unfold dF; rw [List.getD_eq_getElem?_getD, h]; rfl
theorem eF_of {l : List Fm} {k i q : Nat} {t : Fm} (h : l[i]? = some t) (hq : q = k + sumG Fm.mn (l.take i)) : eF l k i = mkFm q t := by unfold eF; rw [dF_of h, hq]

/-- The row, the first i elements of it marked. -/
def RMF (w : World) (g : Nat) (f p : Nat → Value) (Q : Nat → Nat → Prop) (l : List Fm) (k i : Nat) : Prop :=
  RowGF w g f p Q l.length (mixG (fun j => (eF l k j).op) (fun j => (dF l j).op) i) (mixG (fun j => (eF l k j).atom.name) (fun j => (dF l j).atom.name) i) (mixG (fun j => (eF l k j).var) (fun j => (dF l j).var) i)
    (mixG (fun j => (eF l k j).atom.args) (fun j => (dF l j).atom.args) i) (mixG (fun j => (eF l k j).parts) (fun j => (dF l j).parts) i)

def MarkFEnd (l : List Fm) (k : Nat) (v : Value) (S : Nat → Prop) (w : World) (e : Ending) (w' : World) : Prop :=
  e = .returned (.int .i64 (k + sumG Fm.mn l : Nat)) ∧ FmO w' S v (mkFs k l) ∧ Outside S w w'
def MarkF (l : List Fm) : Prop := ∀ (k : Nat) (v : Value) (S : Nat → Prop) (w : World), FmO w S v l → (∀ b, S b → b < w.heap.size) → 1 ≤ k → k + sumG Fm.mn l ≤ 100000000 → l.length ≤ 100000000 →
  Calls Try.prog 99 #[v, .int .i64 k] w (MarkFEnd l k v S w)

theorem RMF.done {w wr : World} {g c : Nat} {f p : Nat → Value} {Q : Nat → Nat → Prop} {S : Nat → Prop} {l : List Fm} {k : Nat} (hM : RMF wr g f p Q l k l.length) (hp : 0 < l.length) (hS : S g) (hc : l.length ≤ c)
    (hsub : ∀ i b, i < 2 * l.length → Q i b → S b ∧ b ≠ g) (hdis : ∀ i j b, i < 2 * l.length → j < 2 * l.length → i ≠ j → Q i b → Q j b → False) : FmO wr S (.slice (some ⟨g, 0, none⟩) l.length c) (mkFs k l) := by
  have key : ∀ i x, (mkFs k l)[i]? = some x → i < l.length ∧ eF l k i = x := fun i x hx => by
    obtain ⟨s, hs, rfl⟩ := mkFs_from hx
    exact ⟨(List.getElem?_eq_some_iff.1 hs).1, eF_of hs rfl⟩
  have r := FmO.row (w := wr) S g c (mkFs k l) f p Q (by rw [mkFs_len]; exact hp) hS (by rw [mkFs_len]; exact hc) hM.free
    (fun i x hx => by
      obtain ⟨hi, e⟩ := key i x hx
      have h := hM.cells i hi
      rw [mixG_lt _ _ hi, mixG_lt _ _ hi, mixG_lt _ _ hi, e] at h
      exact h)
    (fun i x hx => by
      obtain ⟨hi, e⟩ := key i x hx
      have h := hM.own i hi
      rw [mixG_lt _ _ hi, e] at h
      exact h)
    (fun i x hx => by
      obtain ⟨hi, e⟩ := key i x hx
      have h := hM.pown i hi
      rw [mixG_lt _ _ hi, e] at h
      exact h)
    (fun i b hi => hsub i b (by rwa [mkFs_len] at hi)) (fun i j b hi hj => hdis i j b (by rwa [mkFs_len] at hi) (by rwa [mkFs_len] at hj))
  rwa [mkFs_len] at r

set_option maxRecDepth 100000 in
set_option maxHeartbeats 4000000 in
theorem markF_of (l : List Fm) (h : ∀ t ∈ l, MarkF t.parts) : MarkF l := by
  intro k v S w hv hS hk hsz hlen
  have H := Lib.hid h
  have HSZ := Lib.hid (fun i => sumG_take Fm.mn l i)
  clear h
  cases hv with
  | emp S a c =>
    have HM : Hid (MarkFEnd [] k (.slice a 0 c) S w (.returned (.int .i64 k)) w) := Lib.hid ⟨by simp [sumG], by rw [mkFs]; exact .emp _ _ _, Outside.refl _ _⟩
    go_enter Try.func99, Try.ntmps99
    go_wp2
    refine wp_loop_rounds 1 ?_
    rw [rounds_succ]
    go_wp2
    go_ret
    exact HM.out
  | row S g c l f p Q hp hSg hc hz hcc ha hr hsub hdis =>
    have HS := Lib.hid hS
    have HSG := Lib.hid hSg
    have HSUB := Lib.hid hsub
    have HDIS := Lib.hid hdis
    have HCP := Lib.hid hc
    have HNG : Hid (∀ j, j < 2 * l.length → ¬ Q j g) := Lib.hid (fun j hj h => (hsub j g hj h).2 rfl)
    have HM0 : Hid (RMF w g f p Q l k 0) := Lib.hid (by
      have h0 : ∀ j, j < l.length → l[j]? = some (dF l j) := fun j hj => by unfold dF; rw [List.getD_eq_getElem?_getD, List.getElem?_eq_getElem hj]; rfl
      exact ⟨hz, fun j hj => hcc j _ (h0 j hj), fun j hj => ha j _ (h0 j hj), fun j hj => hr j _ (h0 j hj)⟩)
    clear hS hSg hc hz hcc ha hr hsub hdis
    go_enter Try.func99, Try.ntmps99
    go_wp2
    go_loopw [1, 5] (fun kk i wr => ∃ j q : Nat, j ≤ l.length ∧ i = .int .i64 j ∧ kk = .int .i64 q ∧ q = k + sumG Fm.mn (l.take j) ∧ RMF wr g f p Q l k j ∧ Outside S w wr) (fun _ i _ => l.length - (intOf i).toNat)
    case atStart => exact ⟨0, k, Nat.zero_le _, rfl, rfl, by simp [sumG], HM0.out, Outside.refl _ _⟩
    case round =>
      obtain ⟨j, q, hj, rfl, rfl, hq, hrel, hout0⟩ := hrel
      have HM := Lib.hid hrel
      have HO := Lib.hid hout0
      have HQ := Lib.hid hq
      clear hrel hout0 hq
      by_cases hlt : j < l.length
      · obtain ⟨t, ht⟩ : ∃ t, l[j]? = some t := ⟨_, List.getElem?_eq_getElem hlt⟩
        have HT := Lib.hid ht
        have HN := Lib.hid (sumG_next (f := Fm.mn) ht)
        have HE := Lib.hid t.mn_eq
        have HF := Lib.hid (eF_of (k := k) ht HQ.out)
        have HD := Lib.hid (dF_of ht)
        have hqb : q + t.mn ≤ 100000000 := by have := HSZ.out (j + 1); have := HN.out; have := HQ.out; omega
        have hq1 : 1 ≤ q := by have := HQ.out; omega
        have hts : 3 ≤ t.mn := Fm.mn_pos t
        have hsa : q + 3 + sumL Tm.sz t.atom.args + sumG Fm.mn t.parts ≤ 100000000 := by have := HE.out; omega
        have HLT : Hid (∀ j b, j < 2 * l.length → Q j b → b < wr.heap.size ∧ b ≠ g) := Lib.hid (fun j b hj hb' => ⟨Nat.lt_of_lt_of_le (HS.out b (HSUB.out j b hj hb').1) HO.out.size, (HSUB.out j b hj hb').2⟩)
        clear ht
        obtain ⟨c0, c1, c2, c3, c4⟩ := HM.out.cells j hlt
        have f0 := HM.out.free (j * 5)
        have HM1 := Lib.hid (HM.out.set0 hlt HNG.out (q : Int))
        have HO1 : Hid (Outside S w (wr.setCell ⟨g, j * 5, none⟩ (.int .i64 (q : Int)))) := Lib.hid (HO.out.trans (Outside.setCell _ _ _ HSG.out))
        go_wp2_with fail
        rw [show (q : Int) + 1 = ((q + 1 : Nat) : Int) by omega]
        refine (markText_any (q + 1) _ (by omega) (by omega)).mono ?_
        rintro e w2 ⟨rfl, hb⟩
        have hz2 : wr.heap.size ≤ w2.heap.size := by have := hb.size; rwa [size_setCell] at this
        have HM2 := Lib.hid (HM1.out.below hb hp (fun j b hj hb' => by rw [size_setCell]; exact (HLT.out j b hj hb').1))
        have HO2 : Hid (Outside S w w2) := Lib.hid (HO1.out.trans (Outside.of_below hb))
        clear c0 c1 c2 c3 c4 f0 hb
        obtain ⟨c0, c1, c2, c3, c4⟩ := HM2.out.cells j hlt
        have f1 := HM2.out.free (j * 5 + 1)
        obtain ⟨m, hm⟩ : ∃ m, m = markB (q + 1) := ⟨_, rfl⟩
        rw [← hm]
        have HMM := Lib.hid hm
        have HM3 := Lib.hid (HM2.out.set1 hlt HNG.out m)
        have HO3 : Hid (Outside S w (w2.setCell ⟨g, j * 5 + 1, none⟩ (.string m))) := Lib.hid (HO2.out.trans (Outside.setCell _ _ _ HSG.out))
        have hcc2 : (w2.setCell ⟨g, j * 5 + 1, none⟩ (.string m)).cell? ⟨g, j * 5 + 2, none⟩ = some (f j) := (HM3.out.cells j hlt).2.2.1
        have HOW : Hid (TmO (w2.setCell ⟨g, j * 5 + 1, none⟩ (.string m)) (Q (2 * j)) (f j) t.atom.args) := Lib.hid (by
          have h1 := HM3.out.own j hlt
          rw [mixG_ge _ _ (by omega), HD.out] at h1
          exact h1)
        have HLT2 : Hid (∀ j b, j < 2 * l.length → Q j b → b < w2.heap.size ∧ b ≠ g) := Lib.hid (fun j b hj hb' => ⟨Nat.lt_of_lt_of_le (HLT.out j b hj hb').1 hz2, (HLT.out j b hj hb').2⟩)
        have C1 := Lib.hid (markL_any t.atom.args (q + 1 + 1) (f j) (Q (2 * j)) _ HOW.out (fun b hb' => by rw [size_setCell]; exact (HLT2.out _ b (by omega) hb').1) (by omega) (by omega) (by have := sumL_len t.atom.args; omega))
        clear hm c0 c2 c3 c4
        go_wp2_with fail
        rw [show (q : Int) + 1 + 1 = ((q + 1 + 1 : Nat) : Int) by omega]
        refine C1.out.mono ?_
        rintro e w3 ⟨rfl, ho2, hout⟩
        have hz3 : w2.heap.size ≤ w3.heap.size := by have := hout.size; rwa [size_setCell] at this
        have HM4 := Lib.hid (HM3.out.args hlt (fun j b hj hb' => by rw [size_setCell]; exact HLT2.out j b hj hb') HDIS.out ho2 hout)
        have HO4 : Hid (Outside S w w3) := Lib.hid (HO3.out.trans (hout.mono fun b hb' => (HSUB.out _ b (by omega) hb').1))
        obtain ⟨q2, hq2⟩ : ∃ q2, q2 = q + 1 + 1 + sumL Tm.sz t.atom.args := ⟨_, rfl⟩
        rw [← hq2]
        have HQ2 := Lib.hid hq2
        have hq2b : q2 + 1 + sumG Fm.mn t.parts ≤ 100000000 := by omega
        have hq21 : 1 ≤ q2 := by omega
        have HLT3 : Hid (∀ j b, j < 2 * l.length → Q j b → b < w3.heap.size ∧ b ≠ g) := Lib.hid (fun j b hj hb' => ⟨Nat.lt_of_lt_of_le (HLT2.out j b hj hb').1 hz3, (HLT2.out j b hj hb').2⟩)
        clear ho2 hout hcc2 hq2 f1 c1 hsa C1
        have C2 := Lib.hid (markText_any q2 w3 hq21 (by omega))
        go_wp2_with fail
        refine C2.out.mono ?_
        rintro e w4 ⟨rfl, hb⟩
        have hz4 : w3.heap.size ≤ w4.heap.size := hb.size
        have HM5 := Lib.hid (HM4.out.below hb hp (fun j b hj hb' => (HLT3.out j b hj hb').1))
        have HO5 : Hid (Outside S w w4) := Lib.hid (HO4.out.trans (Outside.of_below hb))
        have HLT4 : Hid (∀ j b, j < 2 * l.length → Q j b → b < w4.heap.size ∧ b ≠ g) := Lib.hid (fun j b hj hb' => ⟨Nat.lt_of_lt_of_le (HLT3.out j b hj hb').1 hz4, (HLT3.out j b hj hb').2⟩)
        clear hb C2
        obtain ⟨c0, c1, c2, c3, c4⟩ := HM5.out.cells j hlt
        have f3 := HM5.out.free (j * 5 + 3)
        obtain ⟨m2, hm2⟩ : ∃ m, m = markB q2 := ⟨_, rfl⟩
        rw [← hm2]
        have HMM2 := Lib.hid hm2
        have HM6 := Lib.hid (HM5.out.set3 hlt HNG.out m2)
        have HO6 : Hid (Outside S w (w4.setCell ⟨g, j * 5 + 3, none⟩ (.string m2))) := Lib.hid (HO5.out.trans (Outside.setCell _ _ _ HSG.out))
        have hcc4 : (w4.setCell ⟨g, j * 5 + 3, none⟩ (.string m2)).cell? ⟨g, j * 5 + 4, none⟩ = some (p j) := (HM6.out.cells j hlt).2.2.2.2
        have HOW2 : Hid (FmO (w4.setCell ⟨g, j * 5 + 3, none⟩ (.string m2)) (Q (2 * j + 1)) (p j) t.parts) := Lib.hid (by
          have h1 := HM6.out.pown j hlt
          rw [mixG_ge _ _ (by omega), HD.out] at h1
          exact h1)
        have C3 := Lib.hid (H.out t (mem_of_at HT.out) (q2 + 1) (p j) (Q (2 * j + 1)) _ HOW2.out (fun b hb' => by rw [size_setCell]; exact (HLT4.out _ b (by omega) hb').1) (by omega) (by omega) (by have := sumMn_len t.parts; omega))
        clear hm2 c0 c1 c2 c4
        go_wp2_with fail
        rw [show (q2 : Int) + 1 = ((q2 + 1 : Nat) : Int) by omega]
        refine C3.out.mono ?_
        rintro e w5 ⟨rfl, ho5, hout5⟩
        have HNX : Hid (RMF w5 g f p Q l k (j + 1)) := Lib.hid (by
          have h := HM6.out.parts hlt (fun j b hj hb' => by rw [size_setCell]; exact HLT4.out j b hj hb') HDIS.out ho5 hout5
          have e1 := HF.out
          rw [updG_mix _ _ _ (by rw [e1, mkFm_op]), updG_mix _ _ _ (by rw [e1, mkFm_name]; exact HMM.out), updG_mix _ _ _ (by rw [e1, mkFm_var, ← HQ2.out]; exact HMM2.out), updG_mix _ _ _ (by rw [e1, mkFm_args]), updG_mix _ _ _ (by rw [e1, mkFm_parts, ← HQ2.out])] at h
          exact h)
        have HO7 : Hid (Outside S w w5) := Lib.hid (HO6.out.trans (hout5.mono fun b hb' => (HSUB.out _ b (by omega) hb').1))
        have HQ3 : Hid (q2 + 1 + sumG Fm.mn t.parts = k + sumG Fm.mn (l.take (j + 1))) := Lib.hid (by rw [HN.out]; have := HQ.out; have := HE.out; have := HQ2.out; omega)
        generalize q2 + 1 + sumG Fm.mn t.parts = q3 at *
        clear ho5 hout5 hcc4 f3 c3 C3
        go_wp2
        go_roundw
        case rel => exact ⟨j + 1, q3, by omega, by go_num, rfl, HQ3.out, HNX.out, HO7.out⟩
        case measure => simp [intOf]; omega
      · have hje : j = l.length := by omega
        have HE : Hid (MarkFEnd l k (.slice (some ⟨g, 0, none⟩) l.length c) S w (.returned (.int .i64 q)) wr) := Lib.hid (by
          have hM := HM.out
          have hQ := HQ.out
          subst hje
          rw [sumG_all (Nat.le_refl _)] at hQ
          exact ⟨by rw [hQ], RMF.done (w := w) hM hp HSG.out HCP.out HSUB.out HDIS.out, HO.out⟩)
        clear hje
        go_wp2
        go_ret
        exact HE.out

theorem markF_parts (t : Fm) : MarkF t.parts := Fm.ind (P := fun t => MarkF t.parts) (fun t ih => markF_of t.parts ih) t
theorem markF_any (l : List Fm) : MarkF l := markF_of l fun t _ => markF_parts t

def MarkFmEnd (t : Fm) (k : Nat) (va vp : Value) (S : Nat → Prop) (w : World) (e : Ending) (w' : World) : Prop :=
  e = .returned (.int .i64 (k + sumL Tm.sz t.atom.args + sumG Fm.mn t.parts : Nat)) ∧ Outside S w w' ∧ ∃ Sa Sp, (∀ b, Sa b → S b) ∧ (∀ b, Sp b → S b) ∧ (∀ b, Sa b → Sp b → False) ∧ TmO w' Sa va (mkL k t.atom.args) ∧ FmO w' Sp vp (mkFs (k + sumL Tm.sz t.atom.args) t.parts)

set_option maxRecDepth 100000 in
set_option maxHeartbeats 2000000 in
theorem markFm_any (t : Fm) (k : Nat) (va vp : Value) (S : Nat → Prop) (w : World) (ho : FOwn w S t va vp) (hS : ∀ b, S b → b < w.heap.size) (hk : 1 ≤ k) (hsz : k + sumL Tm.sz t.atom.args + sumG Fm.mn t.parts ≤ 100000000) :
    Calls Try.prog 41 #[.agg #[.int .i64 t.op, .string t.atom.name, va, .string t.var, vp], .int .i64 k] w (MarkFmEnd t k va vp S w) := by
  obtain ⟨pa, ca, pp, cp, rfl, rfl⟩ := ho.read.open
  obtain ⟨Sa, Sp, h1, h2, h3, h4, h5⟩ := ho
  have hb0 := (Below.refl w.heap.size w).alloc (Nat.le_refl _) (.cells #[.int .i64 t.op, .string t.atom.name, .slice pa t.atom.args.length ca, .string t.var, .slice pp t.parts.length cp] 68)
  have HB0 := Lib.hid hb0
  have H2 := Lib.hid (fivB_new w (.int .i64 t.op) (.string t.atom.name) (.slice pa t.atom.args.length ca) (.string t.var) (.slice pp t.parts.length cp) 68 _ rfl)
  have HA := Lib.hid h1
  have HP := Lib.hid (h2.frame fun b hb => hb0.block b (hS b (h4 b hb)))
  have C1 := Lib.hid (markTerm_any t.atom k _ Sa _ (h1.frame fun b hb => hb0.block b (hS b (h3 b hb))) (fun b hb => Nat.lt_of_lt_of_le (hS b (h3 b hb)) hb0.size) hk (by omega))
  have H3 := Lib.hid h3
  have H4 := Lib.hid h4
  have H5 := Lib.hid h5
  have HS := Lib.hid hS
  obtain ⟨b0, b1, b2, b3, b4, b5⟩ := H2.out
  have hw0 : w.heap.size < (w.alloc (.cells #[.int .i64 t.op, .string t.atom.name, .slice pa t.atom.args.length ca, .string t.var, .slice pp t.parts.length cp] 68)).heap.size := by simp
  clear hb0 h1 h2 h3 h4 h5 hS
  go_enter Try.func41, Try.ntmps41
  go_wp2_with fail
  refine C1.out.mono ?_
  rintro e w2 ⟨rfl, ho2, hout⟩
  have HX2 := Lib.hid ho2
  have HO2 := Lib.hid hout
  obtain ⟨q, hq⟩ : ∃ q, q = k + sumL Tm.sz t.atom.args := ⟨_, rfl⟩
  rw [← hq]
  have HQ := Lib.hid hq
  rw [← hq] at hsz
  have hq1 : 1 ≤ q := by omega
  have HF2 := Lib.hid (hout.fiv H2.out.fiv (fun e => by have := HS.out _ (H3.out _ e); omega))
  have C2 := Lib.hid (markF_any t.parts q _ Sp w2 (hout.ownF HP.out fun b hb => ⟨Nat.lt_of_lt_of_le (HS.out b (H4.out b hb)) HB0.out.size, fun hb' => H5.out b hb' hb⟩) (fun b hb => Nat.lt_of_lt_of_le (HS.out b (H4.out b hb)) (Nat.le_trans HB0.out.size hout.size)) hq1 hsz (by have := sumMn_len t.parts; omega))
  clear hout ho2 hq b0 b1 b2 b3 b4 b5 hw0
  obtain ⟨b0, b1, b2, b3, b4⟩ := HF2.out
  go_wp2_with fail
  refine C2.out.mono ?_
  rintro e w3 ⟨rfl, ho3, hout3⟩
  have HE : Hid (MarkFmEnd t k (.slice pa t.atom.args.length ca) (.slice pp t.parts.length cp) S w (.returned (.int .i64 (q + sumG Fm.mn t.parts : Nat))) w3) := Lib.hid (by
    refine ⟨by rw [HQ.out], ((Outside.of_below HB0.out).trans (HO2.out.mono H3.out)).trans (hout3.mono H4.out), Sa, Sp, H3.out, H4.out, H5.out, ?_, by rw [← HQ.out]; exact ho3⟩
    exact hout3.own HX2.out fun b hb => ⟨Nat.lt_of_lt_of_le (HS.out b (H3.out b hb)) (Nat.le_trans HB0.out.size HO2.out.size), fun hb' => H5.out b hb hb'⟩)
  generalize q + sumG Fm.mn t.parts = q3 at *
  clear ho3 hout3
  go_wp2
  go_ret
  exact HE.out

end Go.Proofs.Ytppmiedhoimgmaa
