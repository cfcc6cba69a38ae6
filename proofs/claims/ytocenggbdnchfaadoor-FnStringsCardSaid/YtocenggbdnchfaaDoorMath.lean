/- Plain facts on lists of bytes and integers that the walks use: the checksum of a list of bytes. No condition. -/
namespace Go.Proofs.YtocenggbdnchfaaDoor

/-- One step of the checksum. -/
def sumL (l : List UInt8) : Int := l.foldl (fun (h : Int) (c : UInt8) => (41 * h + (c.toNat : Int) + 1) % 999979) 7

theorem sumL_snoc (l : List UInt8) (c : UInt8) : sumL (l ++ [c]) = (41 * sumL l + (c.toNat : Int) + 1) % 999979 := by
  simp [sumL, List.foldl_append]

theorem foldl_bd (l : List UInt8) (h : Int) (h0 : 0 ≤ h) (h1 : h < 999979) :
    0 ≤ l.foldl (fun (h : Int) (c : UInt8) => (41 * h + (c.toNat : Int) + 1) % 999979) h ∧ l.foldl (fun (h : Int) (c : UInt8) => (41 * h + (c.toNat : Int) + 1) % 999979) h < 999979 := by
  induction l generalizing h with
  | nil => exact ⟨h0, h1⟩
  | cons c l ih =>
    have a : 0 ≤ (41 * h + (c.toNat : Int) + 1) % 999979 := by omega
    have b : (41 * h + (c.toNat : Int) + 1) % 999979 < 999979 := by omega
    exact ih _ a b

theorem sumL_bd (l : List UInt8) : 0 ≤ sumL l ∧ sumL l < 999979 := foldl_bd l 7 (by omega) (by omega)

theorem take_snoc (s : ByteArray) (k : Nat) (h : k < s.size) : s.data.toList.take (k + 1) = s.data.toList.take k ++ [s[k]] := by
  rw [List.take_succ_eq_append_getElem (by simpa using h)]; rfl

theorem take_all (s : ByteArray) (k : Nat) (h : s.size ≤ k) : s.data.toList.take k = s.data.toList := by
  rw [List.take_of_length_le]; simpa using h

end Go.Proofs.YtocenggbdnchfaaDoor
