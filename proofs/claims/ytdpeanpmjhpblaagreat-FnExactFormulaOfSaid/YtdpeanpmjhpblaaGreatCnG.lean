/- Several texts in one: each says what it proves. No condition but theirs. -/
import Derived.Test.YtdpeanpmjhpblaaGreatSizes
import Derived.Test.YtdpeanpmjhpblaaGreatOrdS
import Derived.Test.YtdpeanpmjhpblaaGreatCopy
import Derived.Test.YtdpeanpmjhpblaaGreatOwn
import Derived.Test.YtdpeanpmjhpblaaGreatInts
import Derived.Test.YtdpeanpmjhpblaaGreatIter
import Derived.Test.YtdpeanpmjhpblaaGreatImplV2
/- SubtermAt, the program's and the model's: contracts, for terms of at most 1048576 names' bytes and arguments and positions of at most 1048576 indices. -/
namespace Go.Proofs.YtdpeanpmjhpblaaGreat
open Go.RowKit
set_option linter.unusedVariables false

/-- The subterm at a position. -/
def subAt : List Int → Tm → Option Tm
  | [], t => some t
  | i :: r, t => if i < 0 then none else (t.args[i.toNat]?).bind fun s => subAt r s

theorem subAt_append (p q : List Int) (t : Tm) : subAt (p ++ q) t = (subAt p t).bind (subAt q) := by
  induction p generalizing t with
  | nil => rfl
  | cons i r ih =>
    rw [List.cons_append, subAt, subAt]
    by_cases h : i < 0
    · rw [if_pos h, if_pos h]; rfl
    · rw [if_neg h, if_neg h]
      cases t.args[i.toNat]? with
      | none => rfl
      | some s => exact ih s

theorem subAt_next {p : List Int} {k : Nat} {t s : Tm} {i : Int} (h : subAt (p.take k) t = some s) (hi : p[k]? = some i) : subAt (p.take (k + 1)) t = if i < 0 then none else s.args[i.toNat]? := by
  rw [take_next hi, subAt_append, h]
  show subAt [i] s = _
  rw [subAt]
  by_cases h0 : i < 0
  · rw [if_pos h0, if_pos h0]
  · rw [if_neg h0, if_neg h0]
    cases s.args[i.toNat]? with
    | none => rfl
    | some u => rfl

theorem subAt_none {p : List Int} {k : Nat} {t : Tm} (h : subAt (p.take k) t = none) : subAt p t = none := by
  have e := subAt_append (p.take k) (p.drop k) t
  rw [List.take_append_drop, h] at e
  exact e

theorem subAt_all {p : List Int} {t : Tm} {s : Tm} {k : Nat} (h : subAt (p.take k) t = some s) (hk : p.length ≤ k) : subAt p t = some s := by
  rwa [List.take_of_length_le hk] at h

theorem subAt_wt : ∀ (p : List Int) (t s : Tm), subAt p t = some s → s.wt ≤ t.wt
  | [], t, s, h => by injection h with h; subst h; exact Nat.le_refl _
  | i :: r, t, s, h => by
    rw [subAt] at h
    by_cases h0 : i < 0
    · rw [if_pos h0] at h; cases h
    · rw [if_neg h0] at h
      obtain ⟨u, hu, hs⟩ := Option.bind_eq_some_iff.1 h
      exact Nat.le_trans (subAt_wt r u s hs) (Tm.wt_arg (mem_of_at hu))

def noTm : Tm := .node ⟨#[]⟩ []
def subA (t : Tm) (p : List Int) : Option Tm := if anyB t = true then subAt p t else none
def subR (t : Tm) (p : List Int) : Tm := (subA t p).getD noTm
theorem subR_wt (t : Tm) (p : List Int) : (subR t p).wt ≤ t.wt := by
  unfold subR
  cases h : subA t p with
  | none => have e : noTm.wt = 0 := by decide
            show noTm.wt ≤ _; omega
  | some s =>
    unfold subA at h
    split at h
    · exact subAt_wt p t s h
    · cases h

/-- What both functions answer. -/
def SubEnd (r : Option Tm) (w : World) (e : Ending) (w' : World) : Prop :=
  ∃ va, e = .returned (.tuple #[.agg #[.string (r.getD noTm).name, va], .bool r.isSome]) ∧ TmO w' (Fresh w w') va (r.getD noTm).args ∧ Below w.heap.size w w'

theorem SubEnd.no {w w' : World} (hb : Below w.heap.size w w') : SubEnd none w (.returned (.tuple #[.agg #[.string ⟨#[]⟩, .slice none 0 0], .bool false])) w' := ⟨_, rfl, .emp _ _ _, hb⟩

end Go.Proofs.YtdpeanpmjhpblaaGreat

/- The program's SubtermAt, and the node of a term in memory at a position: contracts. -/
namespace Go.Proofs.YtdpeanpmjhpblaaGreat
open Go.RowKit
set_option linter.unusedVariables false

/-- A node of a term lies at this place. -/
def NodeAt (w : World) (b o : Nat) (s : Tm) : Prop := ∃ va, w.cell? ⟨b, o, none⟩ = some (.string s.name) ∧ w.cell? ⟨b, o + 1, none⟩ = some va ∧ TmS w va s.args

/-- A position leads from one place to another. -/
inductive PathTo (w : World) : Nat → Nat → List Int → Nat → Nat → Prop where
  | here (b o : Nat) : PathTo w b o [] b o
  | step (b o g off n c i : Nat) (r : List Int) (b' o' : Nat) (hc : w.cell? ⟨b, o + 1, none⟩ = some (.slice (some ⟨g, off, none⟩) n c)) (hi : i < n) (h : PathTo w g (off + i * 2) r b' o') : PathTo w b o ((i : Int) :: r) b' o'

theorem PathTo.snoc {w : World} {b o b1 o1 : Nat} {p : List Int} (h : PathTo w b o p b1 o1) {g off n c i : Nat} (hc : w.cell? ⟨b1, o1 + 1, none⟩ = some (.slice (some ⟨g, off, none⟩) n c)) (hi : i < n) : PathTo w b o (p ++ [(i : Int)]) g (off + i * 2) := by
  induction h with
  | here b o => exact .step b o g off n c i [] _ _ hc hi (.here _ _)
  | step b o g' off' n' c' i' r b' o' hc' hi' h' ih => exact .step b o g' off' n' c' i' _ _ _ hc' hi' (ih hc)

/-- What nodeAt answers. -/
def NodeEnd (w : World) (b o : Nat) (t : Tm) (p : List Int) (e : Ending) (w' : World) : Prop :=
  w = w' ∧ ((subAt p t = none ∧ e = .returned (.pointer none)) ∨ ∃ s b' o', subAt p t = some s ∧ e = .returned (.pointer (some ⟨b', o', none⟩)) ∧ PathTo w b o p b' o' ∧ NodeAt w b' o' s)

end Go.Proofs.YtdpeanpmjhpblaaGreat

/- Terms with a subterm replaced, and what a store at a node of a term of a call's own leaves. No condition. -/
namespace Go.Proofs.YtdpeanpmjhpblaaGreat
open Go.RowKit
set_option linter.unusedVariables false

/-- The term with the subterm at a position replaced. -/
def withAt : List Int → Tm → Tm → Tm
  | [], _, s => s
  | i :: r, t, s => match t.args[i.toNat]? with
    | none => t
    | some u => .node t.name (t.args.set i.toNat (withAt r u s))

theorem withAt_cons {i : Int} {r : List Int} {t s u : Tm} (h : t.args[i.toNat]? = some u) : withAt (i :: r) t s = .node t.name (t.args.set i.toNat (withAt r u s)) := by rw [withAt, h]

theorem sumL_set (f : Tm → Nat) : ∀ (l : List Tm) (i : Nat) (u x : Tm), l[i]? = some u → sumL f (l.set i x) + f u = sumL f l + f x
  | [], i, u, x, h => by cases h
  | t :: r, 0, u, x, h => by
    have e : t = u := by simpa using h
    subst e; simp [sumL]; omega
  | t :: r, i + 1, u, x, h => by
    have := sumL_set f r i u x (by simpa using h)
    simp [sumL]; omega

theorem withAt_wt : ∀ (p : List Int) (t s : Tm), (withAt p t s).wt ≤ t.wt + s.wt
  | [], t, s => by rw [withAt]; omega
  | i :: r, t, s => by
    cases h : t.args[i.toNat]? with
    | none =>
      have e : withAt (i :: r) t s = t := by rw [withAt, h]
      rw [e]; omega
    | some u =>
      rw [withAt_cons h]
      have h1 := withAt_wt r u s
      have h2 := sumL_set Tm.wt t.args i.toNat u (withAt r u s) h
      have h3 := Tm.wt_eq t
      generalize hL : t.args.set i.toNat (withAt r u s) = L at h2
      have h5 : L.length = t.args.length := by rw [← hL, List.length_set]
      have h4 : (Tm.node t.name L).wt = t.name.size + L.length + sumL Tm.wt L := Tm.wt_eq _
      omega

/-- One element of a row of terms made anew. -/
theorem TmO.setAt {w w' : World} {S S' T : Nat → Prop} {g c i : Nat} {l : List Tm} {f : Nat → Value} {Ss : Nat → Nat → Prop} {u x : Tm} {v' : Value} (hp : 0 < l.length) (hS : S g) (hc : l.length ≤ c)
    (hn : ∀ (i : Nat) (t : Tm), l[i]? = some t → w.cell? ⟨g, i * 2, none⟩ = some (.string t.name))
    (ha : ∀ (i : Nat) (t : Tm), l[i]? = some t → w.cell? ⟨g, i * 2 + 1, none⟩ = some (f i))
    (hr : ∀ (i : Nat) (t : Tm), l[i]? = some t → TmO w (Ss i) (f i) t.args)
    (hsub : ∀ i k, i < l.length → Ss i k → S k ∧ k ≠ g)
    (hdis : ∀ i j k, i < l.length → j < l.length → i ≠ j → Ss i k → Ss j k → False)
    (hi : l[i]? = some u) (hz : ∀ j, w'.frozen? ⟨g, j, none⟩ = false) (hcell : ∀ j, j ≠ i * 2 → j ≠ i * 2 + 1 → w'.cell? ⟨g, j, none⟩ = w.cell? ⟨g, j, none⟩)
    (h0 : w'.cell? ⟨g, i * 2, none⟩ = some (.string x.name)) (h1 : w'.cell? ⟨g, i * 2 + 1, none⟩ = some v') (ho : TmO w' T v' x.args)
    (hoth : ∀ j b, j < l.length → j ≠ i → Ss j b → w'.heap[b]? = w.heap[b]?) (hT : ∀ b, T b → Ss i b ∨ S' b) (hS' : ∀ b, S' b → ¬ S b) :
    TmO w' (fun b => S b ∨ S' b) (.slice (some ⟨g, 0, none⟩) l.length c) (l.set i x) := by
  have hil : i < l.length := (List.getElem?_eq_some_iff.1 hi).1
  have hget : ∀ j t, (l.set i x)[j]? = some t → (j = i ∧ t = x) ∨ (j ≠ i ∧ l[j]? = some t) := fun j t hj => by
    by_cases e : j = i
    · subst e; rw [List.getElem?_set_self hil] at hj; exact .inl ⟨rfl, (Option.some.inj hj).symm⟩
    · rw [List.getElem?_set_ne (fun h => e h.symm)] at hj; exact .inr ⟨e, hj⟩
  have hlen : (l.set i x).length = l.length := List.length_set
  rw [← hlen]
  refine .row _ g c (l.set i x) (fun j => if j = i then v' else f j) (fun j => if j = i then T else Ss j) (by omega) (.inl hS) (by omega) hz (fun j t hj => ?_) (fun j t hj => ?_) (fun j t hj => ?_) (fun j k hj hk => ?_) (fun j j' k hj hj' hne hk hk' => ?_)
  · rcases hget j t hj with ⟨rfl, rfl⟩ | ⟨e, hj⟩
    · exact h0
    · rw [hcell _ (by omega) (by omega)]; exact hn j t hj
  · rcases hget j t hj with ⟨rfl, rfl⟩ | ⟨e, hj⟩
    · simp only [if_pos]; exact h1
    · simp only [if_neg e]; rw [hcell _ (by omega) (by omega)]; exact ha j t hj
  · rcases hget j t hj with ⟨rfl, rfl⟩ | ⟨e, hj⟩
    · simp only [if_pos]; exact ho
    · simp only [if_neg e]; exact (hr j t hj).frame fun b hb => hoth j b (List.getElem?_eq_some_iff.1 hj).1 e hb
  · rw [hlen] at hj
    by_cases e : j = i
    · simp only [if_pos e] at hk
      rcases hT k hk with h | h
      · exact ⟨.inl (hsub i k hil h).1, (hsub i k hil h).2⟩
      · exact ⟨.inr h, fun e2 => hS' k h (e2 ▸ hS)⟩
    · simp only [if_neg e] at hk; exact ⟨.inl (hsub j k hj hk).1, (hsub j k hj hk).2⟩
  · rw [hlen] at hj hj'
    by_cases e : j = i
    · by_cases e' : j' = i
      · omega
      · simp only [if_pos e] at hk; simp only [if_neg e'] at hk'
        rcases hT k hk with h | h
        · exact hdis i j' k hil hj' (fun h => e' h.symm) h hk'
        · exact hS' k h (hsub j' k hj' hk').1
    · by_cases e' : j' = i
      · simp only [if_neg e] at hk; simp only [if_pos e'] at hk'
        rcases hT k hk' with h | h
        · exact hdis j i k hj hil e hk h
        · exact hS' k h (hsub j k hj hk).1
      · simp only [if_neg e] at hk; simp only [if_neg e'] at hk'
        exact hdis j j' k hj hj' hne hk hk'

/-- The world behind a store of a term at a node. -/
def stored (w : World) (b o : Nat) (n : ByteArray) (v : Value) : World := (w.setCell ⟨b, o, none⟩ (.string n)).setCell ⟨b, o + 1, none⟩ v

theorem stored_heap {w : World} {b o k : Nat} {n : ByteArray} {v : Value} (h : k ≠ b) : (stored w b o n v).heap[k]? = w.heap[k]? := by
  unfold stored
  rw [Below.heap_setCell _ _ _ _ h, Below.heap_setCell _ _ _ _ h]

theorem stored_size {w : World} {b o : Nat} {n : ByteArray} {v : Value} : (stored w b o n v).heap.size = w.heap.size := by unfold stored; simp only [size_setCell]

theorem stored_frozen {w : World} {b o : Nat} {n : ByteArray} {v : Value} (a : Addr) : (stored w b o n v).frozen? a = w.frozen? a := by unfold stored; rw [World.frozen?_setCell, World.frozen?_setCell]

theorem stored_other {w : World} {b o : Nat} {n : ByteArray} {v : Value} {g j : Nat} (h : g ≠ b ∨ (j ≠ o ∧ j ≠ o + 1)) : (stored w b o n v).cell? ⟨g, j, none⟩ = w.cell? ⟨g, j, none⟩ := by
  unfold stored
  rw [World.cell?_setCell_other _ _ _ _ (by simp; omega), World.cell?_setCell_other _ _ _ _ (by simp; omega)]

theorem stored_name {w : World} {b o : Nat} {n : ByteArray} {v x : Value} (h : w.cell? ⟨b, o, none⟩ = some x) : (stored w b o n v).cell? ⟨b, o, none⟩ = some (.string n) := by
  unfold stored
  rw [World.cell?_setCell_other _ _ _ _ (by simp)]
  exact World.cell?_setCell_same _ _ _ h

theorem stored_args {w : World} {b o : Nat} {n : ByteArray} {v x : Value} (h : w.cell? ⟨b, o + 1, none⟩ = some x) : (stored w b o n v).cell? ⟨b, o + 1, none⟩ = some v := by
  unfold stored
  refine World.cell?_setCell_same _ _ _ ((World.cell?_setCell_other _ _ _ _ (by simp)).trans h)

/-- What a store at the end of a path leaves of a term of a call's own. -/
theorem stored_path {w : World} {b o b' o' : Nat} {p : List Int} (hpath : PathTo w b o p b' o') {S S' : Nat → Prop} {t s : Tm} {va v' : Value} (hS' : ∀ k, S' k → ¬ S k) (hS'b : ∀ k, S' k → k ≠ b) (hSb : ¬ S b)
    (hc : w.cell? ⟨b, o + 1, none⟩ = some va) (ht : TmO w S va t.args) (hs : TmO (stored w b' o' s.name v') S' v' s.args) :
    (p = [] ∧ b' = b ∧ o' = o) ∨ (p ≠ [] ∧ S b' ∧ TmO (stored w b' o' s.name v') (fun k => S k ∨ S' k) va (withAt p t s).args ∧ (withAt p t s).name = t.name) := by
  induction hpath generalizing S t va with
  | here b o => exact .inl ⟨rfl, rfl, rfl⟩
  | step b o g off n c i r b' o' hc1 hi hpath ih =>
    right
    have e : va = .slice (some ⟨g, off, none⟩) n c := Option.some.inj (hc.symm.trans hc1)
    subst e
    generalize hl : t.args = l0 at ht
    cases ht with
    | emp => exact absurd hi (Nat.not_lt_zero _)
    | row _ _ _ l f Ss hp hSg hcc hz hn ha hr hsub hdis =>
      have hiu : ∃ u, l0[i]? = some u := ⟨_, List.getElem?_eq_getElem hi⟩
      obtain ⟨u, hu⟩ := hiu
      have hcons : withAt ((i : Int) :: r) t s = .node t.name (l0.set i (withAt r u s)) := by rw [← hl]; exact withAt_cons (by rw [hl]; simpa using hu)
      rw [hcons]
      have hga := ha i u hu
      have hgn := hn i u hu
      have hro := hr i u hu
      have ih' := ih (S := Ss i) (t := u) (va := f i) (fun k hk h => hS' k hk (hsub i k hi h).1) (fun k hk e => hS' k hk (e ▸ hSg)) (fun h => (hsub i g hi h).2 rfl) (by simpa using hga) hro hs
      refine ⟨by simp, ?_, ?_, rfl⟩
      · rcases ih' with ⟨_, e, _⟩ | ⟨_, h, _⟩
        · rw [e]; exact hSg
        · exact (hsub i _ hi h).1
      · rcases ih' with ⟨rfl, rfl, rfl⟩ | ⟨hr0, hsb, hto, hnm⟩
        · have e0 : 0 + i * 2 = i * 2 := by omega
          rw [e0] at hs ⊢
          exact TmO.setAt hp hSg hcc hn ha hr hsub hdis hu (fun j => by rw [stored_frozen]; exact hz j) (fun j h1 h2 => stored_other (.inr ⟨h1, h2⟩)) (by rw [withAt]; exact stored_name hgn) (stored_args hga) (by rw [withAt]; exact hs)
            (fun j k hj _ hk => stored_heap (hsub j k hj hk).2) (fun k hk => .inr hk) hS'
        · have hne : g ≠ b' := fun e => (hsub i b' hi hsb).2 e.symm
          refine TmO.setAt (T := fun k => Ss i k ∨ S' k) hp hSg hcc hn ha hr hsub hdis hu (fun j => by rw [stored_frozen]; exact hz j) (fun j h1 h2 => stored_other (.inl hne)) (by rw [stored_other (.inl hne), hnm]; exact hgn) ((stored_other (.inl hne)).trans hga) hto
            (fun j k hj hji hk => stored_heap (fun e => hdis j i k hj hi hji hk (e ▸ hsb))) (fun k hk => hk) hS'

end Go.Proofs.YtdpeanpmjhpblaaGreat

/- CountSymbol, the program's and the model's: contracts, for terms of at most 1048576 names' bytes and arguments. -/
namespace Go.Proofs.YtdpeanpmjhpblaaGreat
open Go.RowKit Go.Shelf
set_option linter.unusedVariables false

attribute [local go_sem] Oper.semAt_some

/-- How many of the terms bear the name. -/
def cnt (nm : ByteArray) (l : List Tm) : Nat := l.countP (fun s => decide (s.name = nm))
theorem cnt_append (nm : ByteArray) (a b : List Tm) : cnt nm (a ++ b) = cnt nm a + cnt nm b := by simp [cnt]
theorem cnt_nil (nm : ByteArray) : cnt nm [] = 0 := by simp [cnt]
theorem cnt_cons_yes {nm : ByteArray} {t : Tm} (h : t.name = nm) (l : List Tm) : cnt nm (t :: l) = 1 + cnt nm l := by simp [cnt, h]; omega
theorem cnt_cons_no {nm : ByteArray} {t : Tm} (h : t.name ≠ nm) (l : List Tm) : cnt nm (t :: l) = cnt nm l := by simp [cnt, h]
theorem cnt_le (nm : ByteArray) (l : List Tm) : cnt nm l ≤ l.length := by unfold cnt; exact List.countP_le_length
def here (nm : ByteArray) (t : Tm) : Nat := if t.name = nm then 1 else 0
theorem cnt_nds (nm : ByteArray) (t : Tm) : cnt nm t.nds = here nm t + cnt nm (Tm.ndsL t.args) := by
  rw [t.nds_eq]
  unfold here
  by_cases h : t.name = nm
  · rw [cnt_cons_yes h, if_pos h]
  · rw [cnt_cons_no h, if_neg h]; omega
theorem name_ways (s t : ByteArray) : (s = t ∧ (s.toList == t.toList) = true) ∨ (s ≠ t ∧ (s.toList == t.toList) = false) := by
  by_cases h : s = t
  · exact .inl ⟨h, by rw [h]; simp⟩
  · refine .inr ⟨h, ?_⟩
    rw [beq_eq_false_iff_ne]
    intro e
    exact h (toList_inj e)

def cntA (t : Tm) (nm : ByteArray) : Int := if anyB t then cnt nm t.nds else 0
theorem cntA_yes {t : Tm} {nm : ByteArray} (h : anyB t = true) : cntA t nm = cnt nm t.nds := by simp [cntA, h]
theorem cntA_no {t : Tm} {nm : ByteArray} (h : anyB t = false) : cntA t nm = 0 := by simp [cntA, h]

end Go.Proofs.YtdpeanpmjhpblaaGreat

/- CountSymbol, the program's: a contract, for terms of at most 1048576 names' bytes and arguments. -/
namespace Go.Proofs.YtdpeanpmjhpblaaGreat
open Go.RowKit Go.Shelf
set_option linter.unusedVariables false

attribute [local go_sem] Oper.semAt_some

/-- A node's own box. -/
def NdBox (W : World) (B : Nat) (x : Nd) : Prop := W.heap[B]? = some (Obj.cells #[.string x.tm.name, .slice x.a x.tm.args.length x.c] 31 (0, 0))
theorem NdBox.cells {W : World} {B : Nat} {x : Nd} (h : NdBox W B x) : W.cell? ⟨B, 0, none⟩ = some (.string x.tm.name) ∧ W.cell? ⟨B, 1, none⟩ = some (.slice x.a x.tm.args.length x.c) := by
  have e : W.heap[B]? = _ := h
  constructor <;> simp [World.cell?, e]
theorem ndBox_own (B : Nat) (f : Unit → Nd) : Own (fun s W => NdBox W B (f s)) := fun s X Y row hs hg hrow =>
  (hg.block B (Array.getElem?_eq_some_iff.1 hs).1 (fun e' => by
    obtain ⟨o, ho, hc⟩ := hrow B e'.symm
    rw [show X.heap[B]? = _ from hs] at ho; cases ho; cases hc)).trans hs
theorem NdBox.new (W : World) (x : Nd) : NdBox (W.alloc (.cells #[.string x.tm.name, .slice x.a x.tm.args.length x.c] 31)) W.heap.size x := World.alloc_heap_new W _

end Go.Proofs.YtdpeanpmjhpblaaGreat
