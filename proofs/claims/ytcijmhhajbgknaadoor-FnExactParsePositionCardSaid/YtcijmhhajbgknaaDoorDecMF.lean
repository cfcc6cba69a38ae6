/- Plain facts on decimal numerals: a numeral of at most six digits is read back as its number, and only as that. No condition. -/
import Derived.Test.YtcijmhhajbgknaaDoorMathF
import Derived.Lib.ItoaNum
import Derived.Lib.AtoiAllCases
namespace Go.Proofs.YtcijmhhajbgknaaDoor

def isDig (c : UInt8) : Prop := 48 ≤ c.toNat ∧ c.toNat ≤ 57
def valStep (n : Nat) (c : UInt8) : Nat := 10 * n + (c.toNat - 48)
def val (l : List UInt8) : Nat := l.foldl valStep 0

theorem digOf (d : Nat) (h : d < 10) : (UInt8.ofNat (48 + d)).toNat = 48 + d := by rw [UInt8.toNat_ofNat']; omega

theorem dec_dig (u : Nat) : ∀ c ∈ Lib.decDigits u, isDig c := by
  induction u using Nat.strongRecOn with
  | _ u ih =>
    rw [Lib.decDigits.eq_def]
    split
    · rename_i h
      intro c hc
      rw [List.mem_singleton] at hc
      subst hc
      have := digOf u h
      exact ⟨by omega, by omega⟩
    · intro c hc
      rcases List.mem_append.1 hc with hc | hc
      · exact ih (u / 10) (by omega) c hc
      · rw [List.mem_singleton] at hc
        subst hc
        have := digOf (u % 10) (by omega)
        exact ⟨by omega, by omega⟩

theorem dec_ne (u : Nat) : 1 ≤ (Lib.decDigits u).length := by
  rw [Lib.decDigits.eq_def]
  split <;> simp

theorem dec_len (k : Nat) : ∀ u, u < 10 ^ (k + 1) → (Lib.decDigits u).length ≤ k + 1 := by
  induction k with
  | zero => intro u h; rw [Lib.decDigits_one (by simpa using h)]; simp
  | succ k ih =>
    intro u h
    rw [Lib.decDigits.eq_def]
    split
    · simp
    · have := ih (u / 10) (by rw [Nat.div_lt_iff_lt_mul (by omega)]; rw [Nat.pow_succ] at h; exact h)
      simp only [List.length_append, List.length_singleton]; omega

theorem dec_val (u : Nat) : val (Lib.decDigits u) = u := by
  induction u using Nat.strongRecOn with
  | _ u ih =>
    rw [Lib.decDigits.eq_def]
    split
    · rename_i h
      have := digOf u h
      simp only [val, List.foldl_cons, List.foldl_nil, valStep]; omega
    · have e := ih (u / 10) (by omega)
      have := digOf (u % 10) (by omega)
      unfold val at e ⊢
      rw [List.foldl_append, e]
      simp only [List.foldl_cons, List.foldl_nil, valStep]; omega

theorem parse_val (l : List UInt8) : ∀ (acc k : Nat), (∀ c ∈ l, isDig c) → acc < 10 ^ k → l.length + k ≤ 18 → Lib.parseUint10 acc l = .ok (l.foldl valStep acc) := by
  induction l with
  | nil => intro acc k _ _ _; rfl
  | cons c r ih =>
    intro acc k hd ha hk
    have hc := hd c (by simp)
    have hp : 10 ^ k ≤ 10 ^ 17 := Nat.pow_le_pow_right (by omega) (by simp at hk; omega)
    have e : acc * 10 + (c.toNat - 48) = valStep acc c := by unfold valStep; omega
    have h1 : ¬ 1844674407370955162 ≤ acc := by omega
    have hd9 : c.toNat - 48 ≤ 9 := by have := hc.2; omega
    have h2 : ¬ 18446744073709551616 ≤ acc * 10 + (c.toNat - 48) := by omega
    simp only [Lib.parseUint10, if_pos (show 48 ≤ c.toNat ∧ c.toNat ≤ 57 from hc), if_neg h1, if_neg h2]
    rw [e]
    exact ih (valStep acc c) (k + 1) (fun x hx => hd x (by simp [hx])) (by rw [Nat.pow_succ]; unfold valStep; omega) (by simp at hk; omega)

theorem mag_dec {u : Nat} (h : u ≤ 999999) : Lib.parseMag (Lib.decDigits u) = .ok u := by
  have hn := dec_ne u
  have hl := dec_len 5 u (by omega)
  unfold Lib.parseMag
  rw [if_neg (by intro e; rw [e] at hn; simp at hn), parse_val _ 0 0 (dec_dig u) (by omega) (by omega)]
  exact congrArg _ (dec_val u)

theorem dec_head (u : Nat) : ∃ c r, Lib.decDigits u = c :: r ∧ isDig c := by
  have hn := dec_ne u
  have hd := dec_dig u
  cases h : Lib.decDigits u with
  | nil => rw [h] at hn; simp at hn
  | cons c r => exact ⟨c, r, rfl, hd c (by rw [h]; simp)⟩

/-- The library's Atoi reads a short numeral as its number. -/
theorem atoi_itoa {m : Int} (h0 : -999999 ≤ m) (h1 : m ≤ 999999) : Lib.atoiAll (Lib.itoa m) = .ok m := by
  by_cases hm : m < 0
  · have e : Lib.itoa m = 45 :: Lib.decDigits m.natAbs := by simp [Lib.itoa, hm]
    rw [e, Lib.atoiAll_minus, mag_dec (by omega)]
    simp only [Lib.signed]
    rw [if_neg (by omega)]
    congr 1; omega
  · have e : Lib.itoa m = Lib.decDigits m.toNat := by simp [Lib.itoa, hm]
    obtain ⟨c, r, hc, hd⟩ := dec_head m.toNat
    have hg := mag_dec (u := m.toNat) (by omega)
    rw [hc] at hg
    rw [e, hc, Lib.atoiAll_plain c r (by have := hd.1; omega) (by have := hd.1; omega), hg]
    simp only [Lib.signless]
    rw [if_neg (by omega)]
    congr 1; omega

theorem itoa_inj {a b : Int} (ha0 : -999999 ≤ a) (ha1 : a ≤ 999999) (hb0 : -999999 ≤ b) (hb1 : b ≤ 999999) (h : Lib.itoa a = Lib.itoa b) : a = b := by
  have e1 := atoi_itoa ha0 ha1
  rw [h, atoi_itoa hb0 hb1] at e1
  injection e1 with e1
  exact e1.symm

/-- What both ParseInt functions answer at the bytes l: the number whose numeral l is, if there is one between -999999 and 999999. -/
def PRes (l : List UInt8) (n : Int) (ok : Bool) : Prop :=
  (ok = true ∧ -999999 ≤ n ∧ n ≤ 999999 ∧ Lib.itoa n = l) ∨ (ok = false ∧ n = 0 ∧ ∀ m : Int, -999999 ≤ m → m ≤ 999999 → Lib.itoa m ≠ l)

theorem PRes.one {l : List UInt8} {a b : Int} {p q : Bool} (h : PRes l a p) (k : PRes l b q) : a = b ∧ p = q := by
  rcases h with ⟨rfl, h1, h2, h3⟩ | ⟨rfl, rfl, h1⟩ <;> rcases k with ⟨rfl, k1, k2, k3⟩ | ⟨rfl, rfl, k1⟩
  · exact ⟨itoa_inj h1 h2 k1 k2 (h3.trans k3.symm), rfl⟩
  · exact absurd h3 (k1 a h1 h2)
  · exact absurd k3 (h1 b k1 k2)
  · exact ⟨rfl, rfl⟩

end Go.Proofs.YtcijmhhajbgknaaDoor
