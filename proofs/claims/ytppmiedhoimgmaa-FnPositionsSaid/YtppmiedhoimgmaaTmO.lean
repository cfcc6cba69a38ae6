/- Terms that a call has made itself: every list of arguments lies in a block of its own. No condition. -/
import Derived.Test.YtppmiedhoimgmaaTmW
namespace Go.Proofs.Ytppmiedhoimgmaa
open Go.RowKit
set_option linter.unusedVariables false

/-- The slice value reads as the list of terms; all its blocks lie in S, none is met twice, none is frozen. -/
inductive TmO (w : World) : (Nat → Prop) → Value → List Tm → Prop where
  | emp (S : Nat → Prop) (a : Option Addr) (c : Nat) : TmO w S (.slice a 0 c) []
  | row (S : Nat → Prop) (g c : Nat) (l : List Tm) (f : Nat → Value) (Ss : Nat → Nat → Prop) (hp : 0 < l.length) (hS : S g) (hc : l.length ≤ c)
      (hz : ∀ j, w.frozen? ⟨g, j, none⟩ = false)
      (hn : ∀ (i : Nat) (t : Tm), l[i]? = some t → w.cell? ⟨g, i * 2, none⟩ = some (.string t.name))
      (ha : ∀ (i : Nat) (t : Tm), l[i]? = some t → w.cell? ⟨g, i * 2 + 1, none⟩ = some (f i))
      (hr : ∀ (i : Nat) (t : Tm), l[i]? = some t → TmO w (Ss i) (f i) t.args)
      (hsub : ∀ i k, i < l.length → Ss i k → S k ∧ k ≠ g)
      (hdis : ∀ i j k, i < l.length → j < l.length → i ≠ j → Ss i k → Ss j k → False) : TmO w S (.slice (some ⟨g, 0, none⟩) l.length c) l

theorem TmO.read {w : World} {S : Nat → Prop} {v : Value} {l : List Tm} (h : TmO w S v l) : TmS w v l := by
  induction h with
  | emp S a c => exact .emp a c
  | row S g c l f Ss hp hS hc hz hn ha hr hsub hdis ih =>
    exact .row g 0 c l f hp (fun i t hi => by simpa using hn i t hi) (fun i t hi => by simpa using ha i t hi) ih

theorem TmO.frame {w w' : World} {S : Nat → Prop} {v : Value} {l : List Tm} (h : TmO w S v l) : (∀ k, S k → w'.heap[k]? = w.heap[k]?) → TmO w' S v l := by
  induction h with
  | emp S a c => exact fun _ => .emp S a c
  | row S g c l f Ss hp hS hc hz hn ha hr hsub hdis ih =>
    intro hf
    have e := hf g hS
    refine .row S g c l f Ss hp hS hc (fun j => ?_) (fun i t hi => ?_) (fun i t hi => ?_) (fun i t hi => ih i t hi fun k hk => hf k (hsub i k ?_ hk).1) hsub hdis
    · exact (World.frozen?_of_block (a := ⟨g, j, none⟩) (w := w) e).trans (hz j)
    · exact (World.cell?_of_block (a := ⟨g, i * 2, none⟩) (w := w) e).trans (hn i t hi)
    · exact (World.cell?_of_block (a := ⟨g, i * 2 + 1, none⟩) (w := w) e).trans (ha i t hi)
    · exact (List.getElem?_eq_some_iff.1 hi).1

theorem TmO.mono {w : World} {S S' : Nat → Prop} {v : Value} {l : List Tm} (h : TmO w S v l) (hs : ∀ k, S k → S' k) : TmO w S' v l := by
  cases h with
  | emp S a c => exact .emp S' a c
  | row S g c l f Ss hp hS hc hz hn ha hr hsub hdis => exact .row S' g c l f Ss hp (hs g hS) hc hz hn ha hr (fun i k hi hk => ⟨hs k (hsub i k hi hk).1, (hsub i k hi hk).2⟩) hdis

/-- The blocks that have come since the first world. -/
def Fresh (w w' : World) (k : Nat) : Prop := w.heap.size ≤ k ∧ k < w'.heap.size

theorem TmO.kept {w0 w w' : World} {v : Value} {l : List Tm} (h : TmO w (Fresh w0 w) v l) (hb : Below w.heap.size w w') : TmO w' (Fresh w0 w) v l :=
  h.frame fun k hk => hb.block k hk.2

theorem TmO.setCell {w : World} {S : Nat → Prop} {v : Value} {l : List Tm} (h : TmO w S v l) {a : Addr} (ha : ¬ S a.block) (u : Value) : TmO (w.setCell a u) S v l :=
  h.frame fun k hk => Below.heap_setCell _ _ _ _ (fun e => ha (e ▸ hk))

theorem size_setCell (w : World) (a : Addr) (u : Value) : (w.setCell a u).heap.size = w.heap.size := by simp [World.setCell]

theorem grown_of_below {w w' : World} (h : Below w.heap.size w w') (row : Option Nat) : w.grownBy w' row := ⟨h.os, h.tape, h.output, h.size, fun k hk _ => h.block k hk⟩

theorem infoTm : (Try.prog.info? 26).map (fun i => (i.zero, i.size, i.bytes)) = some (some (.agg #[.string ByteArray.empty, .slice none 0 0]), 2, 40) := by kernel_rfl

/-- What a loop that makes the terms of a list one by one has made: of the first k elements of the row. -/
structure Made (w0 w : World) (xs : List Value) (l : List Tm) (k : Nat) (f : Nat → Value) (Ss : Nat → Nat → Prop) : Prop where
  name : ∀ i t, i < k → l[i]? = some t → xs[i * 2]? = some (.string t.name)
  arg : ∀ i t, i < k → l[i]? = some t → xs[i * 2 + 1]? = some (f i)
  own : ∀ i t, i < k → l[i]? = some t → TmO w (Ss i) (f i) t.args
  sub : ∀ i b, i < k → Ss i b → w0.heap.size ≤ b ∧ b < w.heap.size
  dis : ∀ i j b, i < k → j < k → i ≠ j → Ss i b → Ss j b → False

theorem Made.start (w0 w : World) (xs : List Value) (l : List Tm) : Made w0 w xs l 0 (fun _ => .slice none 0 0) (fun _ _ => False) :=
  ⟨fun i t h => absurd h (Nat.not_lt_zero _), fun i t h => absurd h (Nat.not_lt_zero _), fun i t h => absurd h (Nat.not_lt_zero _), fun i b h => absurd h (Nat.not_lt_zero _), fun i j b h => absurd h (Nat.not_lt_zero _)⟩

/-- The world has gone on and no block of the made terms has changed. -/
theorem Made.keep {w0 w w' : World} {xs : List Value} {l : List Tm} {k : Nat} {f : Nat → Value} {Ss : Nat → Nat → Prop} (h : Made w0 w xs l k f Ss) (hz : w.heap.size ≤ w'.heap.size)
    (hf : ∀ i b, i < k → Ss i b → w'.heap[b]? = w.heap[b]?) : Made w0 w' xs l k f Ss :=
  ⟨h.name, h.arg, fun i t hi ht => (h.own i t hi ht).frame fun b hb => hf i b hi hb, fun i b hi hb => ⟨(h.sub i b hi hb).1, Nat.lt_of_lt_of_le (h.sub i b hi hb).2 hz⟩, h.dis⟩

/-- One term more. -/
theorem Made.next {w0 w w' : World} {xs xs' : List Value} {l : List Tm} {k : Nat} {f : Nat → Value} {Ss : Nat → Nat → Prop} {t : Tm} {va : Value} {S : Nat → Prop} (h : Made w0 w xs l k f Ss)
    (ht : l[k]? = some t) (hk : ∀ i, i < k → xs'[i * 2]? = xs[i * 2]? ∧ xs'[i * 2 + 1]? = xs[i * 2 + 1]?) (h0 : xs'[k * 2]? = some (.string t.name)) (h1 : xs'[k * 2 + 1]? = some va)
    (ho : TmO w' S va t.args) (hS : ∀ b, S b → w.heap.size ≤ b ∧ b < w'.heap.size) (hz : w.heap.size ≤ w'.heap.size) (hw : w0.heap.size ≤ w.heap.size)
    (hf : ∀ i b, i < k → Ss i b → w'.heap[b]? = w.heap[b]?) : Made w0 w' xs' l (k + 1) (fun i => if i = k then va else f i) (fun i => if i = k then S else Ss i) := by
  have h' := h.keep hz hf
  refine ⟨fun i s hi hs => ?_, fun i s hi hs => ?_, fun i s hi hs => ?_, fun i b hi hb => ?_, fun i j b hi hj hij hb hb' => ?_⟩
  · by_cases e : i = k
    · subst e; rw [ht] at hs; injection hs with hs; subst hs; exact h0
    · rw [(hk i (by omega)).1]; exact h.name i s (by omega) hs
  · by_cases e : i = k
    · subst e; simp only [if_pos]; exact h1
    · rw [(hk i (by omega)).2]; simp only [if_neg e]; exact h.arg i s (by omega) hs
  · by_cases e : i = k
    · subst e; rw [ht] at hs; injection hs with hs; subst hs; simp only [if_pos]; exact ho
    · simp only [if_neg e]; exact h'.own i s (by omega) hs
  · by_cases e : i = k
    · subst e; simp only [if_pos] at hb; have := hS b hb; omega
    · simp only [if_neg e] at hb; exact h'.sub i b (by omega) hb
  · by_cases e : i = k
    · by_cases e' : j = k
      · omega
      · simp only [if_pos e] at hb; simp only [if_neg e'] at hb'
        have a := hS b hb
        have c := h.sub j b (by omega) hb'
        omega
    · by_cases e' : j = k
      · simp only [if_neg e] at hb; simp only [if_pos e'] at hb'
        have a := hS b hb'
        have c := h.sub i b (by omega) hb
        omega
      · simp only [if_neg e] at hb; simp only [if_neg e'] at hb'
        exact h.dis i j b (by omega) (by omega) hij hb hb'

/-- A whole row of made terms is a list of terms of its own. -/
theorem Made.whole {w0 w : World} {base : Nat} {v : Value} {xs : List Value} {l : List Tm} {f : Nat → Value} {Ss : Nat → Nat → Prop} (hown : w.ownsRow base 26 2 v l.length xs)
    (hm : Made w0 w xs l l.length f Ss) (hb : w0.heap.size ≤ base) (hne : ∀ g, v.ownBlock = some g → ∀ i, i < l.length → ¬ Ss i g) : TmO w (Fresh w0 w) v l := by
  rcases hown.2 with ⟨rfl, h0⟩ | ⟨g, cap, cur, rfl, hbg, hg, hnc, hcm, hcs, htake⟩
  · have : l = [] := List.length_eq_zero_iff.1 h0
    subst this; exact .emp _ _ _
  · by_cases h0 : l.length = 0
    · have : l = [] := List.length_eq_zero_iff.1 h0
      subst this; exact .emp _ _ _
    · have hlt : g < w.heap.size := (Array.getElem?_eq_some_iff.1 hg).1
      have hcell : ∀ j u, xs[j]? = some u → w.cell? ⟨g, j, none⟩ = some u := fun j u hj => by
        have hjl : j < xs.length := (List.getElem?_eq_some_iff.1 hj).1
        rw [hown.cellAt j (by have := hown.1; omega)]; exact hj
      exact .row _ g cap l f Ss (by omega) ⟨by omega, hlt⟩ hnc (fun j => hown.frozenAt j)
        (fun i t hi => hcell _ _ (hm.name i t (List.getElem?_eq_some_iff.1 hi).1 hi)) (fun i t hi => hcell _ _ (hm.arg i t (List.getElem?_eq_some_iff.1 hi).1 hi))
        (fun i t hi => hm.own i t (List.getElem?_eq_some_iff.1 hi).1 hi) (fun i k hi hk => ⟨hm.sub i k hi hk, fun e => by subst e; exact hne k rfl i hi hk⟩) (fun i j k hi hj hij => hm.dis i j k hi hj hij)

end Go.Proofs.Ytppmiedhoimgmaa
