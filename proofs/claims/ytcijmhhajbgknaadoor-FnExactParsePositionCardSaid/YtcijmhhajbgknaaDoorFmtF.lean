/- FormatInt of the program: a contract for every int, in a world that holds the library's table of powers of ten as its initialiser lays it. -/
import Derived.Test.YtcijmhhajbgknaaDoorNumF
import Derived.Test.YtcijmhhajbgknaaDoorShelf
import Derived.Shelf.SlSorted.Search
namespace Go.Proofs.YtcijmhhajbgknaaDoor
open Go.RowKit

/-- The library's table of powers of ten is there. -/
def Pow10 (w : World) : Prop := Lib.TabIs Tryd.prog w "internal/strconv.uint64pow10" .u64 Lib.pow10Tab
theorem Pow10.drawn {w w' : World} (h : Pow10 w) (hd : Drawn w w') : Pow10 w' := by
  obtain ⟨n, rfl⟩ := hd; exact h

theorem below_of_grow {w w' : World} (h : ∃ k os, w' = Sort.grow (w.drewN k) os) : Below w.heap.size w w' := by
  obtain ⟨k, os, rfl⟩ := h
  exact below_grown_sl _ _ _ _ (Nat.le_refl _)

theorem implFormat_any (n : Int) (w : World) (ht : Pow10 w) :
    Calls Tryd.prog 63 #[.int .i64 n] w fun e w' => e = fEnd n ∧ Below w.heap.size w w' := by
  by_cases h0 : n < -999999
  · have HE : Hid (Ending.returned (.tuple #[.string ⟨#[]⟩, .bool false]) = fEnd n) := Lib.hid (fEnd_no (.inl h0))
    go_enter Tryd.func63, Tryd.ntmps63
    go_wp2
    go_ret2
    exact ⟨HE.out, Below.refl _ _⟩
  · by_cases h1 : 999999 < n
    · have HE : Hid (Ending.returned (.tuple #[.string ⟨#[]⟩, .bool false]) = fEnd n) := Lib.hid (fEnd_no (.inr h1))
      go_enter Tryd.func63, Tryd.ntmps63
      go_wp2
      go_ret2
      exact ⟨HE.out, Below.refl _ _⟩
    · have HE : Hid (Ending.returned (.tuple #[.string ⟨(Lib.itoa n).toArray⟩, .bool true]) = fEnd n) := Lib.hid (fEnd_yes (by omega) (by omega))
      have CN := hide (Tryd.strconv_Itoa n (by omega) (by omega) w ht)
      go_enter Tryd.func63, Tryd.ntmps63
      go_wp2_with (go_at_call 95; refine (unhide CN).mono ?_; rintro e w' ⟨rfl, hg⟩; have hb := hide (below_of_grow hg); clear hg)
      go_ret2
      exact ⟨HE.out, unhide (by assumption)⟩

end Go.Proofs.YtcijmhhajbgknaaDoor
