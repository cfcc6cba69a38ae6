/- Terms with a subterm replaced, and what a store at a node of a term of a call's own leaves. No condition. -/
import Derived.Test.YtppmiedhoimgmaaSubI
namespace Go.Proofs.Ytppmiedhoimgmaa
open Go.RowKit
set_option linter.unusedVariables false

/-- The term with the subterm at a position replaced. -/
def withAt : List Int → Tm → Tm → Tm
  | [], _, s => s
  | i :: r, t, s => match t.args[i.toNat]? with
    | none => t
    | some u => .node t.name (t.args.set i.toNat (withAt r u s))

theorem withAt_cons {i : Int} {r : List Int} {t s u : Tm} (h : t.args[i.toNat]? = some u) : withAt (i :: r) t s = .node t.name (t.args.set i.toNat (withAt r u s)) := by rw [withAt, h]

theorem sumL_set (f : Tm → Nat) : ∀ (l : List Tm) (i : Nat) (u x : Tm), l[i]? = some u → sumL f (l.set i x) + f u = sumL f l + f x
  | [], i, u, x, h => by cases h
  | t :: r, 0, u, x, h => by
    have e : t = u := by simpa using h
    subst e; simp [sumL]; omega
  | t :: r, i + 1, u, x, h => by
    have := sumL_set f r i u x (by simpa using h)
    simp [sumL]; omega

theorem withAt_wt : ∀ (p : List Int) (t s : Tm), (withAt p t s).wt ≤ t.wt + s.wt
  | [], t, s => by rw [withAt]; omega
  | i :: r, t, s => by
    cases h : t.args[i.toNat]? with
    | none =>
      have e : withAt (i :: r) t s = t := by rw [withAt, h]
      rw [e]; omega
    | some u =>
      rw [withAt_cons h]
      have h1 := withAt_wt r u s
      have h2 := sumL_set Tm.wt t.args i.toNat u (withAt r u s) h
      have h3 := Tm.wt_eq t
      generalize hL : t.args.set i.toNat (withAt r u s) = L at h2
      have h5 : L.length = t.args.length := by rw [← hL, List.length_set]
      have h4 : (Tm.node t.name L).wt = t.name.size + L.length + sumL Tm.wt L := Tm.wt_eq _
      omega

/-- One element of a row of terms made anew. -/
theorem TmO.setAt {w w' : World} {S S' T : Nat → Prop} {g c i : Nat} {l : List Tm} {f : Nat → Value} {Ss : Nat → Nat → Prop} {u x : Tm} {v' : Value} (hp : 0 < l.length) (hS : S g) (hc : l.length ≤ c)
    (hn : ∀ (i : Nat) (t : Tm), l[i]? = some t → w.cell? ⟨g, i * 2, none⟩ = some (.string t.name))
    (ha : ∀ (i : Nat) (t : Tm), l[i]? = some t → w.cell? ⟨g, i * 2 + 1, none⟩ = some (f i))
    (hr : ∀ (i : Nat) (t : Tm), l[i]? = some t → TmO w (Ss i) (f i) t.args)
    (hsub : ∀ i k, i < l.length → Ss i k → S k ∧ k ≠ g)
    (hdis : ∀ i j k, i < l.length → j < l.length → i ≠ j → Ss i k → Ss j k → False)
    (hi : l[i]? = some u) (hz : ∀ j, w'.frozen? ⟨g, j, none⟩ = false) (hcell : ∀ j, j ≠ i * 2 → j ≠ i * 2 + 1 → w'.cell? ⟨g, j, none⟩ = w.cell? ⟨g, j, none⟩)
    (h0 : w'.cell? ⟨g, i * 2, none⟩ = some (.string x.name)) (h1 : w'.cell? ⟨g, i * 2 + 1, none⟩ = some v') (ho : TmO w' T v' x.args)
    (hoth : ∀ j b, j < l.length → j ≠ i → Ss j b → w'.heap[b]? = w.heap[b]?) (hT : ∀ b, T b → Ss i b ∨ S' b) (hS' : ∀ b, S' b → ¬ S b) :
    TmO w' (fun b => S b ∨ S' b) (.slice (some ⟨g, 0, none⟩) l.length c) (l.set i x) := by
  have hil : i < l.length := (List.getElem?_eq_some_iff.1 hi).1
  have hget : ∀ j t, (l.set i x)[j]? = some t → (j = i ∧ t = x) ∨ (j ≠ i ∧ l[j]? = some t) := fun j t hj => by
    by_cases e : j = i
    · subst e; rw [List.getElem?_set_self hil] at hj; exact .inl ⟨rfl, (Option.some.inj hj).symm⟩
    · rw [List.getElem?_set_ne (fun h => e h.symm)] at hj; exact .inr ⟨e, hj⟩
  have hlen : (l.set i x).length = l.length := List.length_set
  rw [← hlen]
  refine .row _ g c (l.set i x) (fun j => if j = i then v' else f j) (fun j => if j = i then T else Ss j) (by omega) (.inl hS) (by omega) hz (fun j t hj => ?_) (fun j t hj => ?_) (fun j t hj => ?_) (fun j k hj hk => ?_) (fun j j' k hj hj' hne hk hk' => ?_)
  · rcases hget j t hj with ⟨rfl, rfl⟩ | ⟨e, hj⟩
    · exact h0
    · rw [hcell _ (by omega) (by omega)]; exact hn j t hj
  · rcases hget j t hj with ⟨rfl, rfl⟩ | ⟨e, hj⟩
    · simp only [if_pos]; exact h1
    · simp only [if_neg e]; rw [hcell _ (by omega) (by omega)]; exact ha j t hj
  · rcases hget j t hj with ⟨rfl, rfl⟩ | ⟨e, hj⟩
    · simp only [if_pos]; exact ho
    · simp only [if_neg e]; exact (hr j t hj).frame fun b hb => hoth j b (List.getElem?_eq_some_iff.1 hj).1 e hb
  · rw [hlen] at hj
    by_cases e : j = i
    · simp only [if_pos e] at hk
      rcases hT k hk with h | h
      · exact ⟨.inl (hsub i k hil h).1, (hsub i k hil h).2⟩
      · exact ⟨.inr h, fun e2 => hS' k h (e2 ▸ hS)⟩
    · simp only [if_neg e] at hk; exact ⟨.inl (hsub j k hj hk).1, (hsub j k hj hk).2⟩
  · rw [hlen] at hj hj'
    by_cases e : j = i
    · by_cases e' : j' = i
      · omega
      · simp only [if_pos e] at hk; simp only [if_neg e'] at hk'
        rcases hT k hk with h | h
        · exact hdis i j' k hil hj' (fun h => e' h.symm) h hk'
        · exact hS' k h (hsub j' k hj' hk').1
    · by_cases e' : j' = i
      · simp only [if_neg e] at hk; simp only [if_pos e'] at hk'
        rcases hT k hk' with h | h
        · exact hdis j i k hj hil e hk h
        · exact hS' k h (hsub j k hj hk).1
      · simp only [if_neg e] at hk; simp only [if_neg e'] at hk'
        exact hdis j j' k hj hj' hne hk hk'

/-- The world behind a store of a term at a node. -/
def stored (w : World) (b o : Nat) (n : ByteArray) (v : Value) : World := (w.setCell ⟨b, o, none⟩ (.string n)).setCell ⟨b, o + 1, none⟩ v

theorem stored_heap {w : World} {b o k : Nat} {n : ByteArray} {v : Value} (h : k ≠ b) : (stored w b o n v).heap[k]? = w.heap[k]? := by
  unfold stored
  rw [Below.heap_setCell _ _ _ _ h, Below.heap_setCell _ _ _ _ h]

theorem stored_size {w : World} {b o : Nat} {n : ByteArray} {v : Value} : (stored w b o n v).heap.size = w.heap.size := by unfold stored; simp only [size_setCell]

theorem stored_frozen {w : World} {b o : Nat} {n : ByteArray} {v : Value} (a : Addr) : (stored w b o n v).frozen? a = w.frozen? a := by unfold stored; rw [World.frozen?_setCell, World.frozen?_setCell]

theorem stored_other {w : World} {b o : Nat} {n : ByteArray} {v : Value} {g j : Nat} (h : g ≠ b ∨ (j ≠ o ∧ j ≠ o + 1)) : (stored w b o n v).cell? ⟨g, j, none⟩ = w.cell? ⟨g, j, none⟩ := by
  unfold stored
  rw [World.cell?_setCell_other _ _ _ _ (by simp; omega), World.cell?_setCell_other _ _ _ _ (by simp; omega)]

theorem stored_name {w : World} {b o : Nat} {n : ByteArray} {v x : Value} (h : w.cell? ⟨b, o, none⟩ = some x) : (stored w b o n v).cell? ⟨b, o, none⟩ = some (.string n) := by
  unfold stored
  rw [World.cell?_setCell_other _ _ _ _ (by simp)]
  exact World.cell?_setCell_same _ _ _ h

theorem stored_args {w : World} {b o : Nat} {n : ByteArray} {v x : Value} (h : w.cell? ⟨b, o + 1, none⟩ = some x) : (stored w b o n v).cell? ⟨b, o + 1, none⟩ = some v := by
  unfold stored
  refine World.cell?_setCell_same _ _ _ ((World.cell?_setCell_other _ _ _ _ (by simp)).trans h)

/-- What a store at the end of a path leaves of a term of a call's own. -/
theorem stored_path {w : World} {b o b' o' : Nat} {p : List Int} (hpath : PathTo w b o p b' o') {S S' : Nat → Prop} {t s : Tm} {va v' : Value} (hS' : ∀ k, S' k → ¬ S k) (hS'b : ∀ k, S' k → k ≠ b) (hSb : ¬ S b)
    (hc : w.cell? ⟨b, o + 1, none⟩ = some va) (ht : TmO w S va t.args) (hs : TmO (stored w b' o' s.name v') S' v' s.args) :
    (p = [] ∧ b' = b ∧ o' = o) ∨ (p ≠ [] ∧ S b' ∧ TmO (stored w b' o' s.name v') (fun k => S k ∨ S' k) va (withAt p t s).args ∧ (withAt p t s).name = t.name) := by
  induction hpath generalizing S t va with
  | here b o => exact .inl ⟨rfl, rfl, rfl⟩
  | step b o g off n c i r b' o' hc1 hi hpath ih =>
    right
    have e : va = .slice (some ⟨g, off, none⟩) n c := Option.some.inj (hc.symm.trans hc1)
    subst e
    generalize hl : t.args = l0 at ht
    cases ht with
    | emp => exact absurd hi (Nat.not_lt_zero _)
    | row _ _ _ l f Ss hp hSg hcc hz hn ha hr hsub hdis =>
      have hiu : ∃ u, l0[i]? = some u := ⟨_, List.getElem?_eq_getElem hi⟩
      obtain ⟨u, hu⟩ := hiu
      have hcons : withAt ((i : Int) :: r) t s = .node t.name (l0.set i (withAt r u s)) := by rw [← hl]; exact withAt_cons (by rw [hl]; simpa using hu)
      rw [hcons]
      have hga := ha i u hu
      have hgn := hn i u hu
      have hro := hr i u hu
      have ih' := ih (S := Ss i) (t := u) (va := f i) (fun k hk h => hS' k hk (hsub i k hi h).1) (fun k hk e => hS' k hk (e ▸ hSg)) (fun h => (hsub i g hi h).2 rfl) (by simpa using hga) hro hs
      refine ⟨by simp, ?_, ?_, rfl⟩
      · rcases ih' with ⟨_, e, _⟩ | ⟨_, h, _⟩
        · rw [e]; exact hSg
        · exact (hsub i _ hi h).1
      · rcases ih' with ⟨rfl, rfl, rfl⟩ | ⟨hr0, hsb, hto, hnm⟩
        · have e0 : 0 + i * 2 = i * 2 := by omega
          rw [e0] at hs ⊢
          exact TmO.setAt hp hSg hcc hn ha hr hsub hdis hu (fun j => by rw [stored_frozen]; exact hz j) (fun j h1 h2 => stored_other (.inr ⟨h1, h2⟩)) (by rw [withAt]; exact stored_name hgn) (stored_args hga) (by rw [withAt]; exact hs)
            (fun j k hj _ hk => stored_heap (hsub j k hj hk).2) (fun k hk => .inr hk) hS'
        · have hne : g ≠ b' := fun e => (hsub i b' hi hsb).2 e.symm
          refine TmO.setAt (T := fun k => Ss i k ∨ S' k) hp hSg hcc hn ha hr hsub hdis hu (fun j => by rw [stored_frozen]; exact hz j) (fun j h1 h2 => stored_other (.inl hne)) (by rw [stored_other (.inl hne), hnm]; exact hgn) ((stored_other (.inl hne)).trans hga) hto
            (fun j k hj hji hk => stored_heap (fun e => hdis j i k hj hi hji hk (e ▸ hsb))) (fun k hk => hk) hS'

end Go.Proofs.Ytppmiedhoimgmaa
