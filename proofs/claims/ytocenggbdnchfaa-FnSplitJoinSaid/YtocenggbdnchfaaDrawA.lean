/- The drawn inputs of the laws on splitting, joining and comparing: contracts. -/
import Derived.Test.YtocenggbdnchfaaDraw
import Derived.Maps.AppendAt
import Derived.Laws.IdiomStrings
namespace Go.Proofs.Ytocenggbdnchfaa
open Go.RowKit

def TwoEnd (w : World) (e : Ending) (w' : World) : Prop := ∃ s t : ByteArray, e = .returned (.tuple #[.string s, .string t]) ∧ s.size ≤ 10 ∧ t.size ≤ 10 ∧ Below w.heap.size w w'

theorem below_cur {w w1 : World} {o : Obj} (hg : (w.alloc o).grownBy w1 (some w.heap.size)) : Below w.heap.size w w1 :=
  ((Below.refl _ _).alloc (Nat.le_refl _) o).grown hg (by simp) (fun k e => by cases e; exact Nat.le_refl _)

theorem drawLess_any (w : World) (v : Value) (n : Nat) (h : CodeV w v n w.heap.size) (hn : n ≤ 9223372036854775807) :
    Calls Try.prog 14 #[v] w fun e w' => TwoEnd w e w' := by
  obtain ⟨a, c, rfl⟩ := h.shape
  have C0 := Lib.hid (any1_any _ _ _ _ (cur_new h hn) (by omega))
  clear h
  go_enter Try.func14, Try.ntmps14
  go_wp2_with fail
  refine C0.out.mono ?_
  rintro e w1 ⟨s, rfl, hs, hg, hc⟩
  have C1 := Lib.hid (any1_any _ _ _ _ hc (by omega))
  have HG := Lib.hid hg
  clear hg hc
  go_wp2_with fail
  refine C1.out.mono ?_
  rintro e w2 ⟨t, rfl, ht, hg2, hc2⟩
  have HE : Hid (TwoEnd w (.returned (.tuple #[.string s, .string t])) w2) := Lib.hid ⟨s, t, rfl, hs, ht, below_cur (grown_step HG.out hg2)⟩
  clear hg2 hc2
  go_wp2_with fail
  go_ret2
  exact HE.out

def sepList : List ByteArray := [⟨#[44]⟩, ⟨#[44]⟩, ⟨#[32]⟩, ⟨#[]⟩, ⟨#[44, 44]⟩]
theorem sepList_size : ∀ s ∈ sepList, s.size ≤ 10 := by decide
theorem drawSplit_any (w : World) (v : Value) (n : Nat) (h : CodeV w v n w.heap.size) (hn : n ≤ 9223372036854775807) :
    Calls Try.prog 9 #[v] w fun e w' => TwoEnd w e w' := by
  obtain ⟨a, c, rfl⟩ := h.shape
  have C0 := Lib.hid (any1_any _ _ _ _ (cur_new h hn) (by omega))
  clear h
  go_enter Try.func9, Try.ntmps9
  go_wp2_with fail
  refine C0.out.mono ?_
  rintro e w1 ⟨s, rfl, hs, hg, hc⟩
  have C1 : Hid (Calls Try.prog 26 #[.pointer (some ⟨w.heap.size, 0, none⟩), .slice (some ⟨w1.heap.size, 0, none⟩) 5 5] (w1.alloc (.cells #[.string ⟨#[44]⟩, .string ⟨#[44]⟩, .string ⟨#[32]⟩, .string ⟨#[]⟩, .string ⟨#[44, 44]⟩] 9)) fun e w' => OfEnd w1 w.heap.size w.heap.size (0 + 2 + 2) sepList e w') := Lib.hid (ofLit_any w1 _ _ _ sepList hc (by omega) (by decide) (by decide))
  have HG := Lib.hid hg
  clear hg hc
  go_wp2_with fail
  refine C1.out.mono ?_
  rintro e w2 ⟨t, rfl, ht, hg2, hc2⟩
  have HE : Hid (TwoEnd w (.returned (.tuple #[.string s, .string t])) w2) := Lib.hid ⟨s, t, rfl, hs, sepList_size t ht, below_cur (grown_step HG.out hg2)⟩
  clear hg2 hc2 ht
  go_wp2_with fail
  go_ret2
  exact HE.out

end Go.Proofs.Ytocenggbdnchfaa
