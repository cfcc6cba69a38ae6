/- Plain facts on joining lists of bytes by one byte, bounded by 4000: what both JoinStrings functions compute. No condition. -/
import Derived.Test.YtcijmhhajbgknaaDoorStandsF
import Derived.Lib.Join
import Derived.Lib.IndexAny
namespace Go.Proofs.YtcijmhhajbgknaaDoor
open Go.RowKit

/-- The parts may be joined: there is one, none holds the byte, and the whole has at most 4000 bytes. -/
def jOk (c : UInt8) (P : List (List UInt8)) : Bool := decide (P ≠ []) && (P.all fun p => !hasB c p) && decide ((Lib.join P [c]).length ≤ 4000)
def jText (c : UInt8) (P : List (List UInt8)) : ByteArray := if jOk c P then ⟨(Lib.join P [c]).toArray⟩ else ⟨#[]⟩

theorem join_len (c : UInt8) : ∀ P : List (List UInt8), P ≠ [] → (Lib.join P [c]).length + 1 = P.length + Lib.lens P
  | [], h => absurd rfl h
  | x :: r, _ => by rw [Lib.join_length]; simp [List.length]; omega

theorem join_take_succ (c : UInt8) (P : List (List UInt8)) (k : Nat) (p : List UInt8) (h : P[k]? = some p) :
    Lib.join (P.take (k + 1)) [c] = if k = 0 then p else Lib.join (P.take k) [c] ++ [c] ++ p := by
  cases P with
  | nil => simp at h
  | cons x r =>
    cases k with
    | zero => simp at h; subst h; simp [Lib.join_one]
    | succ k =>
      simp only [List.getElem?_cons_succ] at h
      rw [if_neg (by omega)]
      simp only [List.take_succ_cons]
      rw [Lib.join_cons, Lib.join_cons, Lib.joinTail_take_succ _ _ _ _ h]
      simp [List.append_assoc]

theorem lens_take_succ (P : List (List UInt8)) (k : Nat) (p : List UInt8) (h : P[k]? = some p) : Lib.lens (P.take (k + 1)) = Lib.lens (P.take k) + p.length := by
  rw [List.take_add_one, h]
  simp [Lib.lens]

theorem lens_take_le (P : List (List UInt8)) (k : Nat) : Lib.lens (P.take k) ≤ Lib.lens P := by
  have e : ∀ A B : List (List UInt8), Lib.lens (A ++ B) = Lib.lens A + Lib.lens B := fun A B => by simp [Lib.lens]
  have d := e (P.take k) (P.drop k)
  rw [List.take_append_drop] at d
  omega

theorem take_len_le (c : UInt8) (P : List (List UInt8)) (k : Nat) : (Lib.join (P.take k) [c]).length ≤ (Lib.join P [c]).length := by
  by_cases h : P.take k = []
  · rw [h]; simp [Lib.join_nil]
  · have h' : P ≠ [] := by intro e; subst e; simp at h
    have a := join_len c _ h
    have b := join_len c _ h'
    have d := lens_take_le P k
    have e : (P.take k).length ≤ P.length := List.length_take_le' _ _
    omega

theorem jOk_of {c : UInt8} {P : List (List UInt8)} (h0 : P ≠ []) (h1 : ∀ k, k < P.length → hasB c (P.getD k []) = false) (h2 : (Lib.join P [c]).length ≤ 4000) : jOk c P = true := by
  simp only [jOk, Bool.and_eq_true, decide_eq_true_eq, List.all_eq_true]
  refine ⟨⟨h0, fun p hp => ?_⟩, h2⟩
  obtain ⟨k, hk, rfl⟩ := List.getElem_of_mem hp
  have := h1 k hk
  simp [hk] at this
  simp [this]

theorem jOk_has {c : UInt8} {P : List (List UInt8)} {k : Nat} (hk : k < P.length) (h : hasB c (P.getD k []) = true) : jOk c P = false := by
  have : (P.all fun p => !hasB c p) = false := by
    rw [List.all_eq_false]
    refine ⟨P[k], List.getElem_mem hk, ?_⟩
    simp [hk] at h
    simp [h]
  simp [jOk, this]

theorem jOk_long {c : UInt8} {P : List (List UInt8)} (h : 4000 < (Lib.join P [c]).length) : jOk c P = false := by
  simp [jOk]; intro _ _; omega

theorem contains_one (s : ByteArray) (c : UInt8) : decide (0 ≤ Lib.indexByte s.data.toList c) = hasB c s.data.toList := by
  rw [← Lib.contains_iff_indexByte]
  simp [hasB]

end Go.Proofs.YtcijmhhajbgknaaDoor
