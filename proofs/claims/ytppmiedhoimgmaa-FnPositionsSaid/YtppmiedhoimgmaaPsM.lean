/- A term's positions: each leads to a subterm, and putting that subterm back changes nothing. No condition. -/
import Derived.Test.YtppmiedhoimgmaaPosJ
import Derived.Test.YtppmiedhoimgmaaRepI
namespace Go.Proofs.Ytppmiedhoimgmaa
open Go.RowKit
set_option linter.unusedVariables false

theorem set_self {l : List Tm} {k : Nat} {u : Tm} (h : l[k]? = some u) : l.set k u = l := by
  obtain ⟨hk, e⟩ := List.getElem?_eq_some_iff.1 h
  rw [← e]; exact List.set_getElem_self hk
theorem posL_mem : ∀ (l : List Tm) (q : List Int) (i : Nat) (p : List Int), p ∈ posL q i l → ∃ k t, l[k]? = some t ∧ p ∈ posT (q ++ [((i + k : Nat) : Int)]) t
  | [], q, i, p, h => by cases h
  | a :: r, q, i, p, h => by
    rw [posL, List.mem_append] at h
    rcases h with h | h
    · exact ⟨0, a, rfl, by simpa using h⟩
    · obtain ⟨k, t, hk, ht⟩ := posL_mem r q (i + 1) p h
      exact ⟨k + 1, t, by simpa using hk, by rw [show i + (k + 1) = i + 1 + k by omega]; exact ht⟩
/-- A position of a term, below a prefix. -/
theorem pos_at : ∀ (t : Tm) (q p : List Int), p ∈ posT q t → ∃ r, p = q ++ r ∧ r.length < t.sz ∧ ∃ s, subAt r t = some s ∧ withAt r t s = t := Tm.ind fun t ih q p h => by
  rw [posT_eq] at h
  rcases List.mem_cons.1 h with rfl | h
  · exact ⟨[], by simp, by rw [t.sz_eq, List.length_nil]; omega, t, rfl, rfl⟩
  · obtain ⟨k, u, hk, hp⟩ := posL_mem t.args q 0 p h
    obtain ⟨r, rfl, hl, s, h1, h2⟩ := ih u (mem_of_at hk) _ p hp
    rw [Nat.zero_add] at *
    have hk2 : t.args[((k : Nat) : Int).toNat]? = some u := by simpa using hk
    refine ⟨(k : Int) :: r, by simp, ?_, s, ?_, ?_⟩
    · have h3 : u.sz ≤ sumL Tm.sz t.args := sumL_mem (mem_of_at hk)
      rw [t.sz_eq, List.length_cons]; omega
    · rw [subAt, if_neg (by omega), hk2]; exact h1
    · rw [withAt_cons hk2, h2]
      have e : t.args.set ((k : Nat) : Int).toNat u = t.args := set_self hk2
      rw [e]; exact t.eta.symm
theorem posA_at {t : Tm} {k : Nat} {p : List Int} (h : (posA t)[k]? = some p) : anyB t = true ∧ p.length ≤ 30 ∧ ∃ s, subAt p t = some s ∧ withAt p t s = t := by
  unfold posA at h
  split at h
  · rename_i ha
    have hz := (fits_iff.1 (anyB_fits ha)).1
    obtain ⟨r, e, hl, s, h1, h2⟩ := pos_at t [] p (List.mem_of_getElem? h)
    rw [List.nil_append] at e
    subst e
    exact ⟨ha, by omega, s, h1, h2⟩
  · simp at h
theorem posA_len (t : Tm) : ((posA t).length : Int) = sizeA t := by
  unfold posA sizeA
  split
  · rw [posT_len]
  · rfl
theorem IntsO.shape {w : World} {S : Nat → Prop} {v : Value} {is : List Int} (h : IntsO w S v is) : ∃ a c, v = .slice a is.length c ∧ is.length ≤ c := by
  rcases h with ⟨a, c, rfl, rfl⟩ | ⟨g, c, rfl, _, hl, _⟩
  · exact ⟨a, c, rfl, Nat.zero_le _⟩
  · exact ⟨_, c, rfl, hl⟩
theorem Acc.get {w : World} {base : Nat} {v : Value} {L : List (List Int)} (h : Acc w base v L) {k : Nat} {p : List Int} (hk : L[k]? = some p) : ∃ g cap u, v = .slice (some ⟨g, 0, none⟩) L.length cap ∧ w.cell? ⟨g, k, none⟩ = some u ∧ IntsC w u p := by
  obtain ⟨us, Ss, h1, h2, h3⟩ := h
  have hlt := (List.getElem?_eq_some_iff.1 hk).1
  obtain ⟨u, hu, ho⟩ := h2.row k p hk
  have h1' := h1
  obtain ⟨hl, hh⟩ := h1
  rcases hh with ⟨_, e⟩ | ⟨g, cap, cur, e, hb, hblk, hn, hc, hcs, htk⟩
  · omega
  · subst e
    refine ⟨g, cap, u, rfl, ?_, ho.read, ho.shape⟩
    rw [h1'.cellAt k (by omega)]; exact hu
theorem Acc.val {w : World} {base : Nat} {v : Value} {L : List (List Int)} (h : Acc w base v L) : ∃ a c, v = .slice a L.length c := by
  obtain ⟨us, Ss, ⟨_, h1⟩, _, _⟩ := h
  rcases h1 with ⟨e, e2⟩ | ⟨g, cap, cur, e, _⟩
  · exact ⟨none, 0, by rw [e, e2]⟩
  · exact ⟨_, _, e⟩
end Go.Proofs.Ytppmiedhoimgmaa
