/- Negation normal form as a plain function on formulas, its size and its validity, and how it lies in memory. No condition. -/
import Derived.Test.YtppmiedhoimgmaaPst
import Derived.Test.YtppmiedhoimgmaaCqM
import Derived.Test.YtppmiedhoimgmaaFmW
import Derived.Test.YtppmiedhoimgmaaThr
namespace Go.Proofs.Ytppmiedhoimgmaa
open Go.RowKit
set_option linter.unusedVariables false
set_option linter.unusedSimpArgs false

def zT : Tm := .node ⟨#[]⟩ []
def atG (a : Tm) : Fm := .node 3 a ⟨#[]⟩ []
/-- An atom or its negation. -/
def litG (p : Bool) (a : Tm) : Fm := if p then atG a else .node 4 zT ⟨#[]⟩ [atG a]
/-- The Op of the negation normal form of a formula or of its negation. -/
def nop (o : Int) (g : Bool) : Int :=
  if g then (if o = 1 then 2 else if o = 2 then 1 else if o = 5 then 6 else if o = 6 ∨ o = 7 then 5 else if o = 8 then 9 else 8) else if o = 7 then 6 else o
mutual
def Fm.nnf : Bool → Fm → Fm
  | g, .node o a v l => if o = 3 then litG (!g) a else if o = 4 then (Fm.nnfL o g 0 l).headD default else .node (nop o g) zT v (Fm.nnfL o g 0 l)
def Fm.nnfL (o : Int) (g : Bool) : Nat → List Fm → List Fm
  | _, [] => []
  | i, t :: r => Fm.nnf (polB o g i) t :: Fm.nnfL o g (i + 1) r
end
theorem Fm.nnf_eq (g : Bool) (t : Fm) : t.nnf g = if t.op = 3 then litG (!g) t.atom else if t.op = 4 then (Fm.nnfL t.op g 0 t.parts).headD default else .node (nop t.op g) zT t.var (Fm.nnfL t.op g 0 t.parts) := by
  cases t with
  | node o a v l => rw [Fm.nnf]; rfl
theorem nnfL_len (o : Int) (g : Bool) : ∀ (l : List Fm) (i : Nat), (Fm.nnfL o g i l).length = l.length
  | [], i => by simp [Fm.nnfL]
  | t :: r, i => by simp [Fm.nnfL, nnfL_len o g r (i + 1)]
theorem nnfL_at (o : Int) (g : Bool) : ∀ (l : List Fm) (i k : Nat) (t : Fm), l[k]? = some t → (Fm.nnfL o g i l)[k]? = some (t.nnf (polB o g (i + k)))
  | [], i, k, t, h => by cases h
  | a :: r, i, 0, t, h => by
    simp only [List.getElem?_cons_zero, Option.some.injEq] at h
    subst h; simp [Fm.nnfL]
  | a :: r, i, k + 1, t, h => by
    have e := nnfL_at o g r (i + 1) k t (by simpa using h)
    rw [Fm.nnfL, List.getElem?_cons_succ, e, show i + 1 + k = i + (k + 1) by omega]
theorem nnf_at {t : Fm} {g : Bool} (h : t.op = 3) : t.nnf g = litG (!g) t.atom := by rw [Fm.nnf_eq, if_pos h]
theorem nnf_neg {t s : Fm} {g : Bool} (h : t.op = 4) (hs : t.parts = [s]) : t.nnf g = s.nnf (!g) := by
  rw [Fm.nnf_eq, if_neg (by omega), if_pos h, hs, h]
  simp [Fm.nnfL, polB]
theorem nnf_else {t : Fm} {g : Bool} (h : t.op ≠ 3) (h' : t.op ≠ 4) : t.nnf g = .node (nop t.op g) zT t.var (Fm.nnfL t.op g 0 t.parts) := by
  rw [Fm.nnf_eq, if_neg h, if_neg h']

/-! ### Weights -/
theorem zT_wt : zT.wt = 0 := by unfold zT; rw [Tm.wt_eq]; rfl
theorem litG_wt (p : Bool) (a : Tm) : (litG p a).wt ≤ a.wt + 1 := by
  have h1 : (atG a).wt = a.wt := by
    rw [Fm.wt_eq]
    show a.wt + 0 + 0 + sumG Fm.wt [] = _
    simp [sumG]
  unfold litG
  split
  · omega
  · rw [Fm.wt_eq]
    show zT.wt + 0 + 1 + sumG Fm.wt [atG a] ≤ _
    rw [zT_wt]; simp only [sumG]; omega
theorem nnfL_wt (o : Int) (g : Bool) : ∀ (l : List Fm) (i : Nat), (∀ s ∈ l, ∀ g, (s.nnf g).wt ≤ s.wt + s.sz) → sumG Fm.wt (Fm.nnfL o g i l) ≤ sumG Fm.wt l + sumG Fm.sz l
  | [], i, _ => by simp [Fm.nnfL, sumG]
  | t :: r, i, h => by
    have h1 := h t List.mem_cons_self (polB o g i)
    have h2 := nnfL_wt o g r (i + 1) fun s hs => h s (List.mem_cons_of_mem _ hs)
    simp only [Fm.nnfL, sumG]; omega
theorem default_wt : (default : Fm).wt = 0 := by
  show (Fm.node 0 default ByteArray.empty []).wt = 0
  rw [Fm.wt_eq]
  show (default : Tm).wt + 0 + 0 + sumG Fm.wt [] = _
  have : (default : Tm).wt = 0 := by
    show (Tm.node ByteArray.empty []).wt = 0
    rw [Tm.wt_eq]; rfl
  rw [this]; rfl
theorem nnf_wt : ∀ t : Fm, ∀ g, (t.nnf g).wt ≤ t.wt + t.sz := Fm.ind fun t ih g => by
  have hL := nnfL_wt t.op g t.parts 0 ih
  rw [Fm.nnf_eq]
  split
  · have := litG_wt (!g) t.atom
    have := t.wt_atom
    have := t.sz_pos
    omega
  · split
    · cases hl : Fm.nnfL t.op g 0 t.parts with
      | nil => simp only [List.headD_nil]; rw [default_wt]; omega
      | cons a r =>
        rw [hl] at hL
        simp only [List.headD_cons]
        simp only [sumG] at hL
        rw [t.wt_eq, t.sz_eq]; omega
    · rw [Fm.wt_eq]
      show zT.wt + t.var.size + (Fm.nnfL t.op g 0 t.parts).length + sumG Fm.wt (Fm.nnfL t.op g 0 t.parts) ≤ _
      rw [zT_wt, nnfL_len, t.wt_eq, t.sz_eq]; omega

/-! ### What both functions answer -/
def nnB (t : Fm) : Bool := fgoodB t && fgoodB (t.nnf false)
def nnA (t : Fm) : Fm := if nnB t then t.nnf false else zeroF
theorem nnf_small {t : Fm} (h : fgoodB t = true) : (t.nnf false).wt ≤ 20000 := by
  have h1 := fgood_open h
  have h2 := forms_wt t h1.2
  have h3 := nnf_wt t false
  omega
theorem nnA_wt (t : Fm) : (nnA t).wt ≤ 20000 := by
  unfold nnA
  split
  · rename_i h
    unfold nnB at h
    rw [Bool.and_eq_true] at h
    exact nnf_small h.1
  · rw [zeroF_wt]; omega
def NnEnd (t : Fm) (w : World) (e : Ending) (w' : World) : Prop :=
  ∃ va vp, e = .returned (.tuple #[.agg #[.int .i64 (nnA t).op, .string (nnA t).atom.name, va, .string (nnA t).var, vp], .bool (nnB t)]) ∧ FOwn w' (Fresh w w') (nnA t) va vp ∧ Below w.heap.size w w'

/-! ### Formulas of one part and of two, in blocks of their own -/
theorem fown_un {w : World} {S S' : Nat → Prop} {t : Fm} {va vp : Value} {g c : Nat} {o : Int} {v : ByteArray} (h : FOwn w S t va vp) (hg : Fiv w g 0 (.int .i64 t.op) (.string t.atom.name) va (.string t.var) vp) (hz : ∀ j, w.frozen? ⟨g, j, none⟩ = false) (hn : ¬ S g) (hs : ∀ k, S k → S' k) (hg' : S' g) (hc : 1 ≤ c) :
    FOwn w S' (.node o zT v [t]) (.slice none 0 0) (.slice (some ⟨g, 0, none⟩) 1 c) := by
  obtain ⟨Sa, Sp, h1, h2, h3, h4, h5⟩ := h
  have h0 : ∀ {i : Nat} {s : Fm}, [t][i]? = some s → i = 0 ∧ t = s := fun {i s} hi => by
    have e : i = 0 := by have := (List.getElem?_eq_some_iff.1 hi).1; simp at this; omega
    subst e
    exact ⟨rfl, by simpa using hi⟩
  refine ⟨fun _ => False, S', .emp _ _ _, ?_, fun _ h => h.elim, fun _ h => h, fun _ h => h.elim⟩
  refine FmO.row (w := w) S' g c [t] (fun _ => va) (fun _ => vp) (fun j => if j = 0 then Sa else Sp) (by simp) hg' hc hz (fun i s hi => ?_) (fun i s hi => ?_) (fun i s hi => ?_) (fun i k hi hk => ?_) (fun i j k hi hj hij hk hk' => ?_)
  · obtain ⟨rfl, rfl⟩ := h0 hi; simpa using hg
  · obtain ⟨rfl, rfl⟩ := h0 hi; exact h1
  · obtain ⟨rfl, rfl⟩ := h0 hi; exact h2
  · by_cases e : i = 0
    · rw [if_pos e] at hk; exact ⟨hs k (h3 k hk), fun e' => hn (e' ▸ h3 k hk)⟩
    · rw [if_neg e] at hk; exact ⟨hs k (h4 k hk), fun e' => hn (e' ▸ h4 k hk)⟩
  · by_cases e : i = 0
    · by_cases e' : j = 0
      · omega
      · rw [if_pos e] at hk; rw [if_neg e'] at hk'; exact h5 k hk hk'
    · by_cases e' : j = 0
      · rw [if_neg e] at hk; rw [if_pos e'] at hk'; exact h5 k hk' hk
      · simp at hi hj; omega
theorem fown_bin {w : World} {SA SB S' : Nat → Prop} {a b : Fm} {va vp vb vq : Value} {g c : Nat} {o : Int} {v : ByteArray} (ha : FOwn w SA a va vp) (hb : FOwn w SB b vb vq) (hd : ∀ k, SA k → SB k → False)
    (h0 : Fiv w g 0 (.int .i64 a.op) (.string a.atom.name) va (.string a.var) vp) (h1 : Fiv w g 5 (.int .i64 b.op) (.string b.atom.name) vb (.string b.var) vq) (hz : ∀ j, w.frozen? ⟨g, j, none⟩ = false) (hnA : ¬ SA g) (hnB : ¬ SB g) (hsA : ∀ k, SA k → S' k) (hsB : ∀ k, SB k → S' k) (hg' : S' g) (hc : 2 ≤ c) :
    FOwn w S' (.node o zT v [a, b]) (.slice none 0 0) (.slice (some ⟨g, 0, none⟩) 2 c) := by
  obtain ⟨Sa, Sp, a1, a2, a3, a4, a5⟩ := ha
  obtain ⟨Ta, Tp, b1, b2, b3, b4, b5⟩ := hb
  have hcs : ∀ {i : Nat} {s : Fm}, [a, b][i]? = some s → (i = 0 ∧ s = a) ∨ (i = 1 ∧ s = b) := fun {i s} hi => by
    match i, hi with
    | 0, hi => exact .inl ⟨rfl, by simpa using hi.symm⟩
    | 1, hi => exact .inr ⟨rfl, by simpa using hi.symm⟩
    | n + 2, hi => simp at hi
  refine ⟨fun _ => False, S', .emp _ _ _, ?_, fun _ h => h.elim, fun _ h => h, fun _ h => h.elim⟩
  have hQ : ∀ j k, (fun j : Nat => if j = 0 then Sa else if j = 1 then Sp else if j = 2 then Ta else Tp) j k → (j = 0 ∧ Sa k) ∨ (j = 1 ∧ Sp k) ∨ (j = 2 ∧ Ta k) ∨ (j ≠ 0 ∧ j ≠ 1 ∧ j ≠ 2 ∧ Tp k) := fun j k h => by
    simp only at h
    by_cases e : j = 0
    · rw [if_pos e] at h; exact .inl ⟨e, h⟩
    · rw [if_neg e] at h
      by_cases e1 : j = 1
      · rw [if_pos e1] at h; exact .inr (.inl ⟨e1, h⟩)
      · rw [if_neg e1] at h
        by_cases e2 : j = 2
        · rw [if_pos e2] at h; exact .inr (.inr (.inl ⟨e2, h⟩))
        · rw [if_neg e2] at h; exact .inr (.inr (.inr ⟨e, e1, e2, h⟩))
  refine FmO.row (w := w) S' g c [a, b] (fun i => if i = 0 then va else vb) (fun i => if i = 0 then vp else vq) (fun j => if j = 0 then Sa else if j = 1 then Sp else if j = 2 then Ta else Tp) (by simp) hg' hc hz (fun i s hi => ?_) (fun i s hi => ?_) (fun i s hi => ?_) (fun i k hi hk => ?_) (fun i j k hi hj hij hk hk' => ?_)
  · rcases hcs hi with ⟨rfl, rfl⟩ | ⟨rfl, rfl⟩
    · simpa using h0
    · simpa using h1
  · rcases hcs hi with ⟨rfl, rfl⟩ | ⟨rfl, rfl⟩
    · exact a1
    · exact b1
  · rcases hcs hi with ⟨rfl, rfl⟩ | ⟨rfl, rfl⟩
    · exact a2
    · exact b2
  · rcases hQ i k hk with ⟨_, h⟩ | ⟨_, h⟩ | ⟨_, h⟩ | ⟨_, _, _, h⟩
    · exact ⟨hsA k (a3 k h), fun e => hnA (e ▸ a3 k h)⟩
    · exact ⟨hsA k (a4 k h), fun e => hnA (e ▸ a4 k h)⟩
    · exact ⟨hsB k (b3 k h), fun e => hnB (e ▸ b3 k h)⟩
    · exact ⟨hsB k (b4 k h), fun e => hnB (e ▸ b4 k h)⟩
  · simp at hi hj
    rcases hQ i k hk with ⟨e, h⟩ | ⟨e, h⟩ | ⟨e, h⟩ | ⟨e, e1, e2, h⟩ <;> rcases hQ j k hk' with ⟨f, h'⟩ | ⟨f, h'⟩ | ⟨f, h'⟩ | ⟨f, f1, f2, h'⟩
    all_goals first
      | omega
      | exact a5 k h h'
      | exact a5 k h' h
      | exact b5 k h h'
      | exact b5 k h' h
      | exact hd k (a3 k h) (b3 k h')
      | exact hd k (a3 k h) (b4 k h')
      | exact hd k (a4 k h) (b3 k h')
      | exact hd k (a4 k h) (b4 k h')
      | exact hd k (a3 k h') (b3 k h)
      | exact hd k (a3 k h') (b4 k h)
      | exact hd k (a4 k h') (b3 k h)
      | exact hd k (a4 k h') (b4 k h)
theorem fown_at {w : World} {S : Nat → Prop} {a : Tm} {va : Value} (h : TmO w S va a.args) (v : Value) (hv : v = .slice none 0 0) : FOwn w S (atG a) va v := by
  subst hv
  exact ⟨S, fun _ => False, h, .emp _ _ _, fun _ h => h, fun _ h => h.elim, fun _ _ h => h⟩
end Go.Proofs.Ytppmiedhoimgmaa
