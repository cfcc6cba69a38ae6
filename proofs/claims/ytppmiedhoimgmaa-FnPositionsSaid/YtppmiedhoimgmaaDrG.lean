/- Drawn terms as they lie in memory: a row of arguments of the call's own that may still be appended to. No condition. -/
import Derived.Test.YtppmiedhoimgmaaDrawF
import Derived.Test.YtppmiedhoimgmaaOwn
namespace Go.Proofs.Ytppmiedhoimgmaa
open Go.RowKit
set_option linter.unusedVariables false
set_option linter.unusedSimpArgs false

/-- The value is a row of terms of the call's own: the row's block lies from w0 on, and so do the terms' blocks, each in blocks of its own. -/
def TmG (w0 w : World) (va : Value) (l : List Tm) : Prop :=
  ∃ xs f Ss, w.ownsRow w0.heap.size 26 2 va l.length xs ∧ Made w0 w xs l l.length f Ss ∧ ∀ g, va.ownBlock = some g → ∀ i, i < l.length → ¬ Ss i g

theorem TmG.whole {w0 w : World} {va : Value} {l : List Tm} (h : TmG w0 w va l) : TmO w (Fresh w0 w) va l := by
  obtain ⟨xs, f, Ss, h1, h2, h3⟩ := h
  exact Made.whole h1 h2 (Nat.le_refl _) h3
theorem TmG.nil (w0 w : World) : TmG w0 w (.slice none 0 0) [] :=
  ⟨[], _, _, World.ownsRow_nil _ _ _ _, Made.start w0 w [] [], fun g hg => by simp [Value.ownBlock] at hg⟩
theorem Made.down {w0 w1 w : World} {xs : List Value} {l : List Tm} {k : Nat} {f : Nat → Value} {Ss : Nat → Nat → Prop} (h : Made w1 w xs l k f Ss) (hz : w0.heap.size ≤ w1.heap.size) : Made w0 w xs l k f Ss :=
  ⟨h.name, h.arg, h.own, fun i b hi hb => ⟨Nat.le_trans hz (h.sub i b hi hb).1, (h.sub i b hi hb).2⟩, h.dis⟩
theorem ownsRow_down {w : World} {base base' : Nat} {e : TypeId} {size n : Nat} {v : Value} {xs : List Value} (h : w.ownsRow base e size v n xs) (hb : base' ≤ base) : w.ownsRow base' e size v n xs := by
  obtain ⟨hl, h⟩ := h
  refine ⟨hl, ?_⟩
  rcases h with h | ⟨g, cap, cur, h1, h2, h3⟩
  · exact .inl h
  · exact .inr ⟨g, cap, cur, h1, Nat.le_trans hb h2, h3⟩
theorem TmG.down {w0 w1 w : World} {va : Value} {l : List Tm} (h : TmG w1 w va l) (hz : w0.heap.size ≤ w1.heap.size) : TmG w0 w va l := by
  obtain ⟨xs, f, Ss, h1, h2, h3⟩ := h
  exact ⟨xs, f, Ss, ownsRow_down h1 hz, h2.down hz, h3⟩
theorem TmG.later {w0 w w' : World} {va : Value} {l : List Tm} {row : Option Nat} (h : TmG w0 w va l) (hg : w.grownBy w' row) (hr : ∀ r, row = some r → r < w0.heap.size) : TmG w0 w' va l := by
  obtain ⟨xs, f, Ss, h1, h2, h3⟩ := h
  refine ⟨xs, f, Ss, h1.kept hg ?_, h2.keep hg.size (fun i b hi hb => hg.block b (h2.sub i b hi hb).2 (fun e => by have := hr b e.symm; have := (h2.sub i b hi hb).1; omega)), h3⟩
  cases e : va.ownBlock with
  | none => exact .inl rfl
  | some g => exact .inr (fun e2 => by have := hr g e2.symm; have := (h1.lt g e).1; omega)
theorem TmG.setBelow {w0 w : World} {va : Value} {l : List Tm} (h : TmG w0 w va l) {a : Addr} (ha : a.block < w0.heap.size) (u : Value) : TmG w0 (w.setCell a u) va l :=
  h.later (row := some a.block) ⟨rfl, rfl, rfl, by simp, fun k _ hk => Below.heap_setCell _ _ _ _ (fun e => hk (by rw [e]))⟩ (fun r e => by cases e; exact ha)
theorem TmG.alloc {w0 w : World} {va : Value} {l : List Tm} (h : TmG w0 w va l) (o : Obj) : TmG w0 (w.alloc o) va l := h.later (World.grownBy_alloc w o none) (fun r e => by cases e)
theorem TmG.drew {w0 w : World} {va : Value} {l : List Tm} (h : TmG w0 w va l) : TmG w0 w.drew va l := h.later (row := none) ⟨rfl, rfl, rfl, Nat.le_refl _, fun _ _ _ => rfl⟩ (fun r e => by cases e)
theorem TmG.kept {w0 w w' : World} {va : Value} {l : List Tm} (h : TmG w0 w va l) (hb : Below w.heap.size w w') : TmG w0 w' va l := h.later (grown_of_below hb none) (fun r e => by cases e)
theorem TmG.slice {w0 w : World} {va : Value} {l : List Tm} (h : TmG w0 w va l) : ∃ p c, va = .slice p l.length c := h.whole.read.is_slice
theorem TmG.cap {w0 w : World} {va : Value} {l : List Tm} (h : TmG w0 w va l) : ∀ p n c, va = .slice p n c → n ≤ c := by
  obtain ⟨xs, f, Ss, h1, h2, h3⟩ := h
  exact owns_cap h1

/-- A row of one term, just built. -/
theorem TmG.one {w0 w : World} {t : Tm} {va : Value} (h : TmO w (Fresh w0 w) va t.args) (hz : w0.heap.size ≤ w.heap.size) : TmG w0 (w.alloc (.cells #[.string t.name, va] 26)) (.slice (some ⟨w.heap.size, 0, none⟩) 1 1) [t] := by
  have h0 : ∀ {i : Nat} {s : Tm}, [t][i]? = some s → i = 0 ∧ t = s := fun {i s} hi => by
    have e : i = 0 := by have := (List.getElem?_eq_some_iff.1 hi).1; simp at this; omega
    subst e
    exact ⟨rfl, by simpa using hi⟩
  refine ⟨[.string t.name, va], fun _ => va, fun _ => Fresh w0 w, ⟨rfl, .inr ⟨w.heap.size, 1, #[.string t.name, va], rfl, hz, heap_alloc_new w _, Nat.le_refl _, by decide, rfl, rfl⟩⟩, ⟨fun i s hi hs => ?_, fun i s hi hs => ?_, fun i s hi hs => ?_, fun i b hi hb => ⟨hb.1, by have := hb.2; simp; omega⟩, fun i j b hi hj hij => ?_⟩, fun g hg i hi hb => ?_⟩
  · obtain ⟨rfl, rfl⟩ := h0 hs; rfl
  · obtain ⟨rfl, rfl⟩ := h0 hs; rfl
  · obtain ⟨rfl, rfl⟩ := h0 hs; exact h.frame fun k hk => Below.heap_alloc _ _ _ hk.2
  · simp at hi hj; omega
  · simp [Value.ownBlock] at hg; subst hg; have := hb.2; omega
/-- A row of two terms, just built. -/
theorem TmG.two {w0 w1 w : World} {a b : Tm} {va vb : Value} (ha : TmO w (Fresh w0 w1) va a.args) (hb : TmO w (Fresh w1 w) vb b.args) (h0 : w0.heap.size ≤ w1.heap.size) (h1 : w1.heap.size ≤ w.heap.size) :
    TmG w0 (w.alloc (.cells #[.string a.name, va, .string b.name, vb] 26)) (.slice (some ⟨w.heap.size, 0, none⟩) 2 2) [a, b] := by
  have hcs : ∀ {i : Nat} {s : Tm}, [a, b][i]? = some s → (i = 0 ∧ s = a) ∨ (i = 1 ∧ s = b) := fun {i s} hi => by
    match i, hi with
    | 0, hi => exact .inl ⟨rfl, by simpa using hi.symm⟩
    | 1, hi => exact .inr ⟨rfl, by simpa using hi.symm⟩
    | n + 2, hi => simp at hi
  have hS : ∀ i k, (fun i : Nat => if i = 0 then Fresh w0 w1 else Fresh w1 w) i k → (i = 0 ∧ w0.heap.size ≤ k ∧ k < w1.heap.size) ∨ (i ≠ 0 ∧ w1.heap.size ≤ k ∧ k < w.heap.size) := fun i k h => by
    simp only at h
    by_cases e : i = 0
    · rw [if_pos e] at h; exact .inl ⟨e, h.1, h.2⟩
    · rw [if_neg e] at h; exact .inr ⟨e, h.1, h.2⟩
  refine ⟨[.string a.name, va, .string b.name, vb], fun i => if i = 0 then va else vb, fun i => if i = 0 then Fresh w0 w1 else Fresh w1 w, ⟨rfl, .inr ⟨w.heap.size, 2, #[.string a.name, va, .string b.name, vb], rfl, by omega, heap_alloc_new w _, Nat.le_refl _, by decide, rfl, rfl⟩⟩, ⟨fun i s hi hs => ?_, fun i s hi hs => ?_, fun i s hi hs => ?_, fun i k hi hk => ?_, fun i j k hi hj hij hk hk' => ?_⟩, fun g hg i hi hk => ?_⟩
  · rcases hcs hs with ⟨rfl, rfl⟩ | ⟨rfl, rfl⟩ <;> rfl
  · rcases hcs hs with ⟨rfl, rfl⟩ | ⟨rfl, rfl⟩ <;> rfl
  · rcases hcs hs with ⟨rfl, rfl⟩ | ⟨rfl, rfl⟩
    · exact ha.frame fun k hk => Below.heap_alloc _ _ _ (by have := hk.2; omega)
    · exact hb.frame fun k hk => Below.heap_alloc _ _ _ hk.2
  · rw [World.size_alloc]
    rcases hS i k hk with h | h
    · exact ⟨h.2.1, by omega⟩
    · exact ⟨by omega, by omega⟩
  · simp at hi hj
    rcases hS i k hk with h | h <;> rcases hS j k hk' with h' | h' <;> omega
  · simp [Value.ownBlock] at hg; subst hg
    rcases hS i _ hk with h | h <;> omega

/-- Terms appended to a row. -/
theorem TmG.pushX {w0 w1 x0 w w' : World} {va : Value} {l ns : List Tm} {xs news : List Value} {f fN : Nat → Value} {Ss SN : Nat → Nat → Prop} {g cap H : Nat}
    (hm : Made w0 w1 xs l l.length f Ss) (hxl : xs.length = l.length * 2) (hne : ∀ g, va.ownBlock = some g → ∀ i, i < l.length → ¬ Ss i g) (hob : ∀ g, va.ownBlock = some g → g < w1.heap.size)
    (hk : ∀ k, k < w1.heap.size → w0.heap.size ≤ k → w.heap[k]? = w1.heap[k]?) (hz1 : w1.heap.size ≤ w.heap.size) (hz0 : w0.heap.size ≤ w1.heap.size)
    (hx0 : w1.heap.size ≤ x0.heap.size) (hN : Made x0 w news ns ns.length fN SN)
    (hown : w'.ownsRow w0.heap.size 26 2 (.slice (some ⟨g, 0, none⟩) (l.length + ns.length) cap) (l.length + ns.length) (xs ++ news)) (hgz : w.heap.size ≤ w'.heap.size) (hgf : ∀ k, (w0.heap.size ≤ k ∧ k < w1.heap.size) ∨ (x0.heap.size ≤ k ∧ k < w.heap.size) → va.ownBlock ≠ some k → w'.heap[k]? = w.heap[k]?) (hat : va.ownBlock = some g ∨ g = H) (hH : w.heap.size ≤ H) :
    TmG w0 w' (.slice (some ⟨g, 0, none⟩) (l.length + ns.length) cap) (l ++ ns) := by
  have hlen : (l ++ ns).length = l.length + ns.length := List.length_append
  have hz := hgz
  have hfold : ∀ i b, i < l.length → Ss i b → w'.heap[b]? = w1.heap[b]? := fun i b hi hb => by
    have h1 := hm.sub i b hi hb
    rw [hgf b (.inl h1) (fun e => hne b e i hi hb), hk b h1.2 h1.1]
  have hfnew : ∀ i b, i < ns.length → SN i b → w'.heap[b]? = w.heap[b]? := fun i b hi hb => by
    have h1 := hN.sub i b hi hb
    exact hgf b (.inr h1) (fun e => by have := hob b e; omega)
  refine ⟨xs ++ news, fun i => if i < l.length then f i else fN (i - l.length), fun i => if i < l.length then Ss i else SN (i - l.length), by rw [hlen]; exact hown, ⟨fun i s hi hs => ?_, fun i s hi hs => ?_, fun i s hi hs => ?_, fun i b hi hb => ?_, fun i j b hi hj hij hb hb' => ?_⟩, fun g' hg' i hi hb => ?_⟩
  · by_cases e : i < l.length
    · rw [List.getElem?_append_left (by omega)]
      rw [List.getElem?_append_left e] at hs
      exact hm.name i s e hs
    · rw [List.getElem?_append_right (by omega), show i * 2 - xs.length = (i - l.length) * 2 by omega]
      rw [List.getElem?_append_right (by omega)] at hs
      exact hN.name _ s (by omega) hs
  · by_cases e : i < l.length
    · simp only [if_pos e]
      rw [List.getElem?_append_left (by omega)]
      rw [List.getElem?_append_left e] at hs
      exact hm.arg i s e hs
    · simp only [if_neg e]
      rw [List.getElem?_append_right (by omega), show i * 2 + 1 - xs.length = (i - l.length) * 2 + 1 by omega]
      rw [List.getElem?_append_right (by omega)] at hs
      exact hN.arg _ s (by omega) hs
  · by_cases e : i < l.length
    · simp only [if_pos e]
      rw [List.getElem?_append_left e] at hs
      exact (hm.own i s e hs).frame fun b hb => hfold i b e hb
    · simp only [if_neg e]
      rw [List.getElem?_append_right (by omega)] at hs
      exact (hN.own _ s (by omega) hs).frame fun b hb => hfnew _ b (by omega) hb
  · by_cases e : i < l.length
    · simp only [if_pos e] at hb
      have h1 := hm.sub i b e hb
      exact ⟨h1.1, by omega⟩
    · simp only [if_neg e] at hb
      have h1 := hN.sub _ b (by omega) hb
      exact ⟨by omega, by omega⟩
  · by_cases e : i < l.length
    · simp only [if_pos e] at hb
      by_cases e' : j < l.length
      · simp only [if_pos e'] at hb'
        exact hm.dis i j b e e' hij hb hb'
      · simp only [if_neg e'] at hb'
        have h1 := hm.sub i b e hb
        have h2 := hN.sub _ b (by omega) hb'
        omega
    · simp only [if_neg e] at hb
      by_cases e' : j < l.length
      · simp only [if_pos e'] at hb'
        have h1 := hm.sub j b e' hb'
        have h2 := hN.sub _ b (by omega) hb
        omega
      · simp only [if_neg e'] at hb'
        exact hN.dis _ _ b (by omega) (by omega) (by omega) hb hb'
  · have eg : g' = g := by simp [Value.ownBlock] at hg'; exact hg'.symm
    subst eg
    by_cases e : i < l.length
    · simp only [if_pos e] at hb
      have h1 := hm.sub i g' e hb
      rcases hat with h | h
      · exact hne g' h i e hb
      · omega
    · simp only [if_neg e] at hb
      have h1 := hN.sub _ g' (by omega) hb
      rcases hat with h | h
      · have := hob g' h; omega
      · omega
theorem TmG.push {w0 w1 w w' : World} {va : Value} {l ns : List Tm} {xs news : List Value} {f fN : Nat → Value} {Ss SN : Nat → Nat → Prop} {g cap H : Nat}
    (hm : Made w0 w1 xs l l.length f Ss) (hxl : xs.length = l.length * 2) (hne : ∀ g, va.ownBlock = some g → ∀ i, i < l.length → ¬ Ss i g) (hob : ∀ g, va.ownBlock = some g → g < w1.heap.size)
    (hk : ∀ k, k < w1.heap.size → w0.heap.size ≤ k → w.heap[k]? = w1.heap[k]?) (hz1 : w1.heap.size ≤ w.heap.size) (hz0 : w0.heap.size ≤ w1.heap.size)
    (hN : Made w1 w news ns ns.length fN SN)
    (hown : w'.ownsRow w0.heap.size 26 2 (.slice (some ⟨g, 0, none⟩) (l.length + ns.length) cap) (l.length + ns.length) (xs ++ news)) (hg : w.grownBy w' va.ownBlock) (hat : va.ownBlock = some g ∨ g = H) (hH : w.heap.size ≤ H) :
    TmG w0 w' (.slice (some ⟨g, 0, none⟩) (l.length + ns.length) cap) (l ++ ns) :=
  TmG.pushX hm hxl hne hob hk hz1 hz0 (Nat.le_refl _) hN hown hg.size (fun k h hne2 => hg.block k (by rcases h with h | h <;> omega) (fun e => hne2 e.symm)) hat hH
/-- A row cut short. -/
theorem TmG.short {w0 w : World} {g n c k : Nat} {l : List Tm} (h : TmG w0 w (.slice (some ⟨g, 0, none⟩) n c) l) (hk : k ≤ l.length) : TmG w0 w (.slice (some ⟨g, 0, none⟩) k c) (l.take k) := by
  obtain ⟨xs, f, Ss, ⟨h0, h1⟩, h2, h3⟩ := h
  have hl : (l.take k).length = k := by rw [List.length_take]; omega
  have ht : ∀ {i : Nat} {s : Tm}, (l.take k)[i]? = some s → i < k ∧ l[i]? = some s := fun {i s} hs => by
    have hi := (List.getElem?_eq_some_iff.1 hs).1
    rw [hl] at hi
    rw [List.getElem?_take_of_lt hi] at hs
    exact ⟨hi, hs⟩
  refine ⟨xs.take (k * 2), f, Ss, ⟨?_, ?_⟩, ⟨fun i s hi hs => ?_, fun i s hi hs => ?_, fun i s hi hs => ?_, fun i b hi hb => h2.sub i b (by omega) hb, fun i j b hi hj => h2.dis i j b (by omega) (by omega)⟩, fun g' hg' i hi => h3 g' (by simpa [Value.ownBlock] using hg') i (by omega)⟩
  · rw [List.length_take, hl]; omega
  · rcases h1 with ⟨e, _⟩ | ⟨g', cap, cur, e, hb, hblk, hn, hc, hcs, htk⟩
    · cases e
    · injection e with e1 e2 e3
      injection e1 with e1
      injection e1 with e1 _ _
      subst e1 e2 e3
      refine .inr ⟨g, c, cur, by rw [hl], hb, hblk, by rw [hl]; omega, hc, hcs, ?_⟩
      rw [hl, ← htk, List.take_take, Nat.min_eq_left (by omega)]
  · obtain ⟨a, b⟩ := ht hs
    rw [List.getElem?_take_of_lt (by omega)]; exact h2.name i s (by omega) b
  · obtain ⟨a, b⟩ := ht hs
    rw [List.getElem?_take_of_lt (by omega)]; exact h2.arg i s (by omega) b
  · obtain ⟨a, b⟩ := ht hs
    exact h2.own i s (by omega) b
/-- The first term of a row with another name. -/
theorem TmG.rename {w0 w : World} {g n c : Nat} {t : Tm} {l : List Tm} (h : TmG w0 w (.slice (some ⟨g, 0, none⟩) n c) (t :: l)) (nm : ByteArray) (va : Value) (hva : w.cell? ⟨g, 1, none⟩ = some va) :
    TmG w0 ((w.setCell ⟨g, 0, none⟩ (.string nm)).setCell ⟨g, 1, none⟩ va) (.slice (some ⟨g, 0, none⟩) n c) (.node nm t.args :: l) := by
  obtain ⟨xs, f, Ss, h1, h2, h3⟩ := h
  have hx1 := h2.arg 0 t (by simp) rfl
  obtain ⟨hl, h1⟩ := h1
  rcases h1 with ⟨e, _⟩ | ⟨g', cap, cur, e, hb, hblk, hn, hc, hcs, htk⟩
  · cases e
  injection e with e1 e2 e3
  injection e1 with e1
  injection e1 with e1 _ _
  subst e1 e2 e3
  have hlx : xs.length = (l.length + 1) * 2 := by simpa using hl
  have hcur : ∀ j, j < xs.length → cur.toList[j]? = xs[j]? := fun j hj => by
    rw [← htk, List.getElem?_take_of_lt (by rw [List.length_cons]; omega)]
  have hc1 : w.cell? ⟨g, 1, none⟩ = some (f 0) := by
    rw [cell_of_row w g 1 cur _ _ hblk]
    have := hcur 1 (by omega)
    rw [hx1] at this
    simpa using this
  rw [hva] at hc1
  have hva0 : va = f 0 := by simpa using hc1
  subst hva0
  have e1 := heap_setCell_same w g 0 cur _ (.string nm) hblk
  have e2 := heap_setCell_same _ g 1 _ _ (f 0) e1
  have hset : ((cur.setIfInBounds 0 (.string nm)).setIfInBounds 1 (f 0)).toList.take ((t :: l).length * 2) = (xs.set 0 (.string nm)).set 1 (f 0) := by
    rw [Array.toList_setIfInBounds, Array.toList_setIfInBounds, List.take_set, List.take_set, htk]
  have hfr : ∀ b, b ≠ g → ((w.setCell ⟨g, 0, none⟩ (.string nm)).setCell ⟨g, 1, none⟩ (f 0)).heap[b]? = w.heap[b]? := fun b hb => by
    rw [Below.heap_setCell _ _ _ _ (by simpa using hb), Below.heap_setCell _ _ _ _ (by simpa using hb)]
  have hno : ∀ i b, i < (t :: l).length → Ss i b → b ≠ g := fun i b hi hb e => h3 g rfl i hi (e ▸ hb)
  have hat : ∀ {i : Nat} {s : Tm}, (Tm.node nm t.args :: l)[i]? = some s → (i = 0 ∧ s = .node nm t.args) ∨ (0 < i ∧ (t :: l)[i]? = some s) := fun {i s} hs => by
    cases i with
    | zero => exact .inl ⟨rfl, by simpa using hs.symm⟩
    | succ i => exact .inr ⟨by omega, by simpa using hs⟩
  refine ⟨(xs.set 0 (.string nm)).set 1 (f 0), f, Ss, ⟨by simpa using hl, .inr ⟨g, c, _, rfl, hb, e2, by simpa using hn, hc, by simpa using hcs, hset⟩⟩, ⟨fun i s hi hs => ?_, fun i s hi hs => ?_, fun i s hi hs => ?_, fun i b hi hb => by simpa [size_setCell] using h2.sub i b (by simpa using hi) hb, fun i j b hi hj => h2.dis i j b (by simpa using hi) (by simpa using hj)⟩, fun g' hg' i hi => h3 g' hg' i (by simpa using hi)⟩
  · rcases hat hs with ⟨rfl, rfl⟩ | ⟨hp, hs⟩
    · rw [List.getElem?_set_ne (show 1 ≠ 0 * 2 by omega), show 0 * 2 = 0 from rfl, List.getElem?_set_self (by omega)]; rfl
    · have := h2.name i s (by simpa using hi) hs
      rw [List.getElem?_set_ne (show 1 ≠ i * 2 by omega), List.getElem?_set_ne (show 0 ≠ i * 2 by omega)]; exact this
  · rcases hat hs with ⟨rfl, rfl⟩ | ⟨hp, hs⟩
    · rw [show 0 * 2 + 1 = 1 from rfl, List.getElem?_set_self (by rw [List.length_set]; omega)]
    · have := h2.arg i s (by simpa using hi) hs
      rw [List.getElem?_set_ne (show 1 ≠ i * 2 + 1 by omega), List.getElem?_set_ne (show 0 ≠ i * 2 + 1 by omega)]; exact this
  · rcases hat hs with ⟨rfl, rfl⟩ | ⟨hp, hs⟩
    · exact (h2.own 0 t (by simp) rfl).frame fun b hb => hfr b (hno 0 b (by simp) hb)
    · exact (h2.own i s (by simpa using hi) hs).frame fun b hb => hfr b (hno i b (by simpa using hi) hb)
end Go.Proofs.Ytppmiedhoimgmaa
