/- Where two terms first differ: the preorder search over the first one's positions finds the same as the recursion. No condition. -/
import Derived.Test.YtnabjnlphelccaaPosI
import Derived.Test.YtnabjnlphelccaaSubI
namespace Go.Proofs.Ytnabjnlphelccaa
set_option linter.unusedVariables false

/-- The roots of two terms are the same. -/
def sameB (a b : Tm) : Bool := decide (a.name = b.name) && decide (a.args.length = b.args.length)

mutual
def disT : Tm → Tm → Option (List Int)
  | .node n l, b => if sameB (.node n l) b = true then disL 0 l b.args else some []
def disL (i : Nat) : List Tm → List Tm → Option (List Int)
  | [], _ => none
  | s :: l, [] => none
  | s :: l, u :: r => match disT s u with
    | some q => some ((i : Int) :: q)
    | none => disL (i + 1) l r
end

theorem disT_ne {a b : Tm} (h : sameB a b = false) : disT a b = some [] := by cases a; rw [disT, h]; rfl
theorem disT_eq {a b : Tm} (h : sameB a b = true) : disT a b = disL 0 a.args b.args := by cases a; rw [disT, h]; rfl
theorem sameB_ne1 {a b : Tm} (h : a.name ≠ b.name) : sameB a b = false := by simp [sameB, h]
theorem sameB_ne2 {a b : Tm} (h : a.args.length ≠ b.args.length) : sameB a b = false := by simp [sameB, h]
theorem sameB_eq {a b : Tm} (h : a.name = b.name) (h' : a.args.length = b.args.length) : sameB a b = true := by simp [sameB, h, h']

theorem disL_step {k : Nat} {l r : List Tm} {s u : Tm} (hs : l[k]? = some s) (hu : r[k]? = some u) (x : Option (List Int)) (h : disL k (l.drop k) (r.drop k) = x) :
    (∀ q, disT s u = some q → x = some ((k : Int) :: q)) ∧ (disT s u = none → disL (k + 1) (l.drop (k + 1)) (r.drop (k + 1)) = x) := by
  obtain ⟨hk, e⟩ := List.getElem?_eq_some_iff.1 hs
  obtain ⟨hk', e'⟩ := List.getElem?_eq_some_iff.1 hu
  rw [List.drop_eq_getElem_cons hk, List.drop_eq_getElem_cons hk', e, e', disL] at h
  refine ⟨fun q hq => ?_, fun hq => ?_⟩
  · rw [hq] at h; exact h.symm
  · rw [hq] at h; exact h

theorem disL_end {l r : List Tm} {x : Option (List Int)} (h : disL l.length (l.drop l.length) (r.drop l.length) = x) : x = none := by
  rw [List.drop_length, disL] at h; exact h.symm

/-- The search over positions; nothing where a position leads nowhere. -/
def fnd (a b : Tm) : List (List Int) → Option (Option (List Int))
  | [] => some none
  | p :: L => match subAt p a, subAt p b with
    | some s, some u => if sameB s u = true then fnd a b L else some (some p)
    | _, _ => none

theorem subAt_one {p : List Int} {a s : Tm} (h : subAt p a = some s) (i : Nat) : subAt (p ++ [(i : Int)]) a = s.args[i]? := by
  rw [subAt_append, h]
  show subAt [(i : Int)] s = _
  rw [subAt, if_neg (by omega)]
  cases hx : s.args[((i : Nat) : Int).toNat]? with
  | none => simp at hx ⊢; exact hx
  | some x => simp at hx ⊢; rw [hx]; rfl

mutual
theorem fnd_T (a0 b0 : Tm) : ∀ (a b : Tm) (p : List Int) (R : List (List Int)), subAt p a0 = some a → subAt p b0 = some b →
    fnd a0 b0 (posT p a ++ R) = match disT a b with | some q => some (some (p ++ q)) | none => fnd a0 b0 R
  | .node n l, b, p, R, ha, hb => by
    rw [posT, List.cons_append, fnd, ha, hb]
    show (if sameB (.node n l) b = true then fnd a0 b0 (posL p 0 l ++ R) else some (some p)) = _
    cases hs : sameB (.node n l) b with
    | false => rw [if_neg (by simp), disT_ne hs]; simp
    | true =>
      rw [if_pos rfl, disT_eq hs]
      have hl : l.length = b.args.length := by have := hs; simp [sameB] at this; exact this.2
      have h := fnd_L a0 b0 l b.args p 0 R hl (fun k s hk => by rw [subAt_one ha, Nat.zero_add]; exact hk) (fun k s hk => by rw [subAt_one hb, Nat.zero_add]; exact hk)
      exact h
theorem fnd_L (a0 b0 : Tm) : ∀ (l r : List Tm) (p : List Int) (i : Nat) (R : List (List Int)), l.length = r.length →
    (∀ k s, l[k]? = some s → subAt (p ++ [((i + k : Nat) : Int)]) a0 = some s) → (∀ k s, r[k]? = some s → subAt (p ++ [((i + k : Nat) : Int)]) b0 = some s) →
    fnd a0 b0 (posL p i l ++ R) = match disL i l r with | some q => some (some (p ++ q)) | none => fnd a0 b0 R
  | [], r, p, i, R, hl, ha, hb => by rw [disL]; rfl
  | s :: l, [], p, i, R, hl, ha, hb => by cases hl
  | s :: l, u :: r, p, i, R, hl, ha, hb => by
    have h1 := fnd_T a0 b0 s u (p ++ [(i : Int)]) (posL p (i + 1) l ++ R) (by have := ha 0 s rfl; simpa using this) (by have := hb 0 u rfl; simpa using this)
    rw [posL, List.append_assoc, h1, disL]
    cases hq : disT s u with
    | some q => simp
    | none =>
      have h2 := fnd_L a0 b0 l r p (i + 1) R (by simpa using hl) (fun k x hk => by have := ha (k + 1) x (by simpa using hk); rwa [show i + 1 + k = i + (k + 1) by omega]) (fun k x hk => by have := hb (k + 1) x (by simpa using hk); rwa [show i + 1 + k = i + (k + 1) by omega])
      simpa using h2
end

theorem fnd_all (a b : Tm) : fnd a b (posT [] a) = some (disT a b) := by
  have h := fnd_T a b a b [] [] rfl rfl
  rw [List.append_nil] at h
  rw [h]
  cases disT a b with
  | some q => simp
  | none => rfl

theorem fnd_step {a b : Tm} {L : List (List Int)} {k : Nat} {p : List Int} {x : Option (List Int)} (h : fnd a b (L.drop k) = some x) (hp : L[k]? = some p) :
    ∃ s u, subAt p a = some s ∧ subAt p b = some u ∧ (sameB s u = true → fnd a b (L.drop (k + 1)) = some x) ∧ (sameB s u = false → x = some p) := by
  obtain ⟨hk, e⟩ := List.getElem?_eq_some_iff.1 hp
  rw [List.drop_eq_getElem_cons hk, e, fnd] at h
  cases hs : subAt p a with
  | none => rw [hs] at h; cases h
  | some s =>
    cases hu : subAt p b with
    | none => rw [hs, hu] at h; cases h
    | some u =>
      rw [hs, hu] at h
      refine ⟨s, u, rfl, rfl, fun hq => ?_, fun hq => ?_⟩
      · simpa [hq] using h
      · simp [hq] at h; exact h.symm

theorem fnd_end {a b : Tm} {L : List (List Int)} {x : Option (List Int)} (h : fnd a b (L.drop L.length) = some x) : x = none := by
  rw [List.drop_length, fnd] at h; exact (Option.some.inj h).symm

/-- What Disagreement answers. -/
def disOk (a b : Tm) : Bool := anyB a && anyB b && (disT a b).isSome
def disP (a b : Tm) : List Int := if anyB a && anyB b then (disT a b).getD [] else []

theorem dis_a {a b : Tm} (h : anyB a = false) : disOk a b = false ∧ disP a b = [] := by simp [disOk, disP, h]
theorem dis_b {a b : Tm} (h : anyB b = false) : disOk a b = false ∧ disP a b = [] := by simp [disOk, disP, h]
theorem dis_n {a b : Tm} (h : disT a b = none) : disOk a b = false ∧ disP a b = [] := by simp [disOk, disP, h]
theorem dis_y {a b : Tm} {p : List Int} (ha : anyB a = true) (hb : anyB b = true) (h : disT a b = some p) : disOk a b = true ∧ disP a b = p := by simp [disOk, disP, h, ha, hb]

mutual
theorem posT_length : ∀ (t : Tm) (p q : List Int), q ∈ posT p t → q.length ≤ p.length + t.dp
  | .node n l, p, q, h => by
    rw [posT, List.mem_cons] at h
    rcases h with rfl | h
    · omega
    · have := posL_length l p 0 q h
      rw [Tm.dp_eq]; simp only [Tm.args]; omega
theorem posL_length : ∀ (l : List Tm) (p : List Int) (i : Nat) (q : List Int), q ∈ posL p i l → q.length ≤ p.length + 1 + maxL Tm.dp l
  | [], p, i, q, h => by rw [posL] at h; cases h
  | t :: r, p, i, q, h => by
    rw [posL, List.mem_append] at h
    have e : maxL Tm.dp (t :: r) = max t.dp (maxL Tm.dp r) := rfl
    rcases h with h | h
    · have := posT_length t _ q h
      rw [List.length_append] at this; simp at this; rw [e]; omega
    · have := posL_length r p (i + 1) q h
      rw [e]; omega
end

end Go.Proofs.Ytnabjnlphelccaa
