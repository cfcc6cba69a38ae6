/- VerifyChecksum of the program and of the model give the same two results: contracts for every string of at most 1048576 bytes, the program's in a world that holds the library's table of powers of ten. -/
import Derived.Test.YtocenggbdnchfaaDoorSeal
import Derived.Test.YtocenggbdnchfaaDoorSplitB
import Derived.Test.YtocenggbdnchfaaDoorBefM
namespace Go.Proofs.YtocenggbdnchfaaDoor
open Go.RowKit

/-- The text before the first mark. -/
def befB (s : ByteArray) : ByteArray := ⟨(bef 35 s.data.toList).toArray⟩
def vOk (s : ByteArray) : Bool := decide (s.size ≤ 4000) && decide (sealB (befB s) = s)
def vT (s : ByteArray) : ByteArray := if vOk s then befB s else ⟨#[]⟩
def vEnd (s : ByteArray) : Ending := .returned (.tuple #[.string (vT s), .bool (vOk s)])
theorem vEnd_no {s : ByteArray} (h : vOk s = false) : Ending.returned (.tuple #[.string ⟨#[]⟩, .bool false]) = vEnd s := by simp [vEnd, vT, h]
theorem vEnd_yes {s : ByteArray} (h : vOk s = true) : Ending.returned (.tuple #[.string (befB s), .bool true]) = vEnd s := by simp [vEnd, vT, h]

theorem bef_len (c : UInt8) : ∀ l : List UInt8, (bef c l).length ≤ l.length
  | [] => by simp [bef]
  | x :: l => by
    have := bef_len c l
    rw [bef]
    split <;> simp <;> omega
theorem befB_size (s : ByteArray) : (befB s).size ≤ s.size := by
  have h := bef_len 35 s.data.toList
  have e : s.data.toList.length = s.size := by rw [Array.length_toList]; rfl
  rw [e] at h
  exact h

theorem toList_eq_iff {s t : ByteArray} : (s.toList == t.toList) = decide (s = t) := by
  by_cases h : s = t
  · subst h; simp
  · rw [decide_eq_false h, beq_eq_false_iff_ne]
    exact fun e => h (toList_inj e)

set_option maxHeartbeats 1000000 in
theorem specVerify_any (s : ByteArray) (w : World) (hs : s.size ≤ 1048576) :
    Calls Tryd.prog 20 #[.string s] w fun e w' => e = vEnd s ∧ Below w.heap.size w w' := by
  by_cases h0 : (4000 : Int) < s.size
  · have HE := Lib.hid (vEnd_no (s := s) (by simp [vOk]; intro h; omega))
    go_enter Tryd.func20, Tryd.ntmps20
    go_wp2
    go_ret2
    exact ⟨HE.out, Below.refl _ _⟩
  · have hbz := befB_size s
    obtain ⟨t, ht⟩ : ∃ t, t = befB s := ⟨_, rfl⟩
    rw [← ht] at hbz
    have CS : Hid (Calls Tryd.prog 36 #[.string s, .int .u8 35] w fun e w' => Got w w' 35 s e) := Lib.hid (l1Split_any s 35 w hs)
    have HT : Hid (t = befB s) := Lib.hid ht
    clear ht
    go_enter Tryd.func20, Tryd.ntmps20
    go_wp2_with fail
    refine CS.out.mono ?_
    rintro e w1 ⟨v, ss, rfl, hm, hown, hb⟩
    have HB := Lib.hid hb
    have hh : ss[0]?.map (·.data.toList) = some (bef 35 s.data.toList) := by
      rw [← split_head, ← hm, List.getElem?_map]
    have hsv := strsV_of_owns hown
    rcases hsv with ⟨a, c, _, h2⟩ | ⟨b, off, c, hv, hp, hc⟩
    · rw [h2] at hh; simp at hh
    · have hc0 := hc 0 hp
      have e0 : ss.getD 0 ByteArray.empty = t := by
        rw [getD_eq hp]
        rw [List.getElem?_eq_getElem hp] at hh
        simp only [Option.map_some, Option.some.injEq] at hh
        rw [HT.out]
        apply ByteArray.ext
        apply Array.toList_inj.1
        rw [hh]
        rfl
      rw [e0, Nat.add_zero] at hc0
      have hpi : (0 : Int) < (ss.length : Int) := by omega
      subst hv
      have CL := Lib.hid (l1Seal_any t w1 (by omega))
      obtain ⟨u, hu⟩ : ∃ u, u = sealB t := ⟨_, rfl⟩
      rw [← hu] at CL
      have HU : Hid (u = sealB t) := Lib.hid hu
      clear hm hown hb hh hc e0 hu
      by_cases he : u = s
      · have hq : (u.toList == s.toList) = true := by rw [toList_eq_iff, decide_eq_true he]
        have HE : Hid (Ending.returned (.tuple #[.string t, .bool true]) = vEnd s) := Lib.hid (by
          rw [HT.out]
          refine vEnd_yes ?_
          simp only [vOk, Bool.and_eq_true, decide_eq_true_eq]
          exact ⟨by omega, by rw [← HT.out, ← HU.out]; exact he⟩)
        clear he
        go_wp2_with fail
        refine CL.out.mono ?_
        rintro e w2 ⟨rfl, hd⟩
        have HB2 : Hid (Below w.heap.size w w2) := Lib.hid (HB.out.trans (hd.below _))
        clear hd
        go_wp2_with fail
        go_ret2
        exact ⟨HE.out, HB2.out⟩
      · have hq : (u.toList == s.toList) = false := by rw [toList_eq_iff, decide_eq_false he]
        have HE : Hid (Ending.returned (.tuple #[.string ⟨#[]⟩, .bool false]) = vEnd s) := Lib.hid (by
          refine vEnd_no ?_
          simp only [vOk, Bool.and_eq_false_iff, decide_eq_false_iff_not]
          exact .inr (by rw [← HT.out, ← HU.out]; exact he))
        clear he
        go_wp2_with fail
        refine CL.out.mono ?_
        rintro e w2 ⟨rfl, hd⟩
        have HB2 : Hid (Below w.heap.size w w2) := Lib.hid (HB.out.trans (hd.below _))
        clear hd
        go_wp2_with fail
        go_ret2
        exact ⟨HE.out, HB2.out⟩

/-- What Cut answers: its first result alone is told. -/
def CutEnd (s : ByteArray) (w : World) (e : Ending) (w' : World) : Prop := ∃ (x : ByteArray) (b : Bool), e = .returned (.tuple #[.string (befB s), .string x, .bool b]) ∧ Drawn w w'

theorem liteCut_any (s : ByteArray) (w : World) (hs : s.size ≤ 1048576) :
    Calls Tryd.prog 43 #[.string s, .string ⟨#[35]⟩] w fun e w' => CutEnd s w e w' := by
  have CI0 := Tryd.stringslite_Index_one s 35 w
  obtain ⟨i, hi⟩ : ∃ i, i = Lib.indexByte s.data.toList 35 := ⟨_, rfl⟩
  rw [← hi] at CI0
  have CI : Hid (Calls Tryd.prog 50 #[.string s, .string ⟨#[35]⟩] w fun e w' => e = .returned (.int .i64 i) ∧ w = w') := Lib.hid (CI0.mono fun _ _ h => ⟨h.1, h.2.symm⟩)
  clear CI0
  by_cases h0 : i < 0
  · have HE : Hid (∀ x b, CutEnd s w (.returned (.tuple #[.string s, .string x, .bool b])) w) := Lib.hid (fun x b => by
      have e : befB s = s := by
        apply ByteArray.ext
        apply Array.toList_inj.1
        exact cut_none (by rw [← hi]; exact h0)
      exact ⟨x, b, by rw [e], 0, rfl⟩)
    clear hi
    go_enter Tryd.func43, Tryd.ntmps43
    go_wp2_with (go_at_call 50; refine CI.out.mono ?_; rintro e w' ⟨rfl, rfl⟩)
    go_ret3
    exact HE.out _ _
  · obtain ⟨o, rfl⟩ : ∃ o : Nat, i = (o : Int) := ⟨i.toNat, by omega⟩
    obtain ⟨ho, hbo⟩ := cut_some hi.symm
    have e : s.data.toList.length = s.size := by rw [Array.length_toList]; rfl
    have hos : o < s.size := by omega
    have HE : Hid (∀ x b m, CutEnd s w (.returned (.tuple #[.string (s.extract 0 o), .string x, .bool b])) (w.drewN m)) := Lib.hid (fun x b m => by
      have e : befB s = s.extract 0 o := by
        apply ByteArray.ext
        apply Array.toList_inj.1
        rw [ext_list]
        exact hbo
      exact ⟨x, b, by rw [e], m, rfl⟩)
    have e1 : IntKind.i64.wrap ((o : Int) + 1) = (o : Int) + 1 := IntWalk.i64_in _ (by omega)
    clear hi hbo ho e h0
    go_enter Tryd.func43, Tryd.ntmps43
    go_wp2_with (go_at_call 50; refine CI.out.mono ?_; rintro e w' ⟨rfl, rfl⟩)
    go_quiet (fail)
    go_wp2_with fail
    go_ret3
    exact HE.out _ _ _

theorem cut_any (s : ByteArray) (w : World) (hs : s.size ≤ 1048576) :
    Calls Tryd.prog 35 #[.string s, .string ⟨#[35]⟩] w fun e w' => CutEnd s w e w' := by
  have CL := Lib.hid (liteCut_any s w hs)
  go_enter Tryd.func35, Tryd.ntmps35
  go_wp2_with fail
  refine CL.out.mono ?_
  rintro e w1 ⟨x, b, rfl, hd⟩
  have HE : Hid (CutEnd s w (.returned (.tuple #[.string (befB s), .string x, .bool b])) w1) := Lib.hid ⟨x, b, rfl, hd⟩
  clear hd
  go_wp2_with fail
  go_ret3
  exact HE.out

theorem befB_no (s : ByteArray) : hasB 35 (befB s).data.toList = false := by
  have h := bef_not 35 s.data.toList
  have e : (befB s).data.toList = bef 35 s.data.toList := rfl
  rw [e]; simp [hasB, h]

set_option maxHeartbeats 1000000 in
theorem implVerify_any (s : ByteArray) (w : World) (hs : s.size ≤ 1048576) (ht : Pow10 w) :
    Calls Tryd.prog 18 #[.string s] w fun e w' => e = vEnd s ∧ Below w.heap.size w w' := by
  have hbz := befB_size s
  have hno := befB_no s
  obtain ⟨t, htt⟩ : ∃ t, t = befB s := ⟨_, rfl⟩
  have CC : Hid (Calls Tryd.prog 35 #[.string s, .string ⟨#[35]⟩] w fun e w' => ∃ (x : ByteArray) (b : Bool), e = .returned (.tuple #[.string t, .string x, .bool b]) ∧ Drawn w w') := Lib.hid (by rw [htt]; exact cut_any s w hs)
  rw [← htt] at hbz hno
  have HT : Hid (t = befB s) := Lib.hid htt
  have HN : Hid (hasB 35 t.data.toList = false) := Lib.hid hno
  have HP : Hid (Pow10 w) := Lib.hid ht
  clear htt hno ht
  obtain ⟨u, hu⟩ : ∃ u, u = sealB t := ⟨_, rfl⟩
  have HU : Hid (u = sealB t) := Lib.hid hu
  have hsz : t.size ≤ u.size := by rw [hu, seal_size]; omega
  cases hk : aOk t with
  | false =>
    have CA : Hid (∀ W : World, Pow10 W → Calls Tryd.prog 16 #[.string t] W fun e w' => e = .returned (.tuple #[.string ⟨#[]⟩, .bool false]) ∧ Below W.heap.size W w') := Lib.hid (fun W hW => by
      have c := implAppend_any t W (by omega) hW
      rwa [← aEnd_no hk] at c)
    have HE : Hid (Ending.returned (.tuple #[.string ⟨#[]⟩, .bool false]) = vEnd s) := Lib.hid (vEnd_no (by
      rw [Bool.eq_false_iff]
      intro h
      simp only [vOk, Bool.and_eq_true, decide_eq_true_eq] at h
      rw [← HT.out, ← hu] at h
      have e : u.size = s.size := by rw [h.2]
      have := aOk_of (s := t) (by omega) HN.out (by rw [← hu]; omega)
      rw [this] at hk; cases hk))
    clear hk hu
    go_enter Tryd.func18, Tryd.ntmps18
    go_wp2_with fail
    refine CC.out.mono ?_
    rintro e w1 ⟨x, b, rfl, hd⟩
    have HD := Lib.hid hd
    clear hd
    go_wp2_with fail
    refine (CA.out _ (HP.out.drawn HD.out)).mono ?_
    rintro e w2 ⟨rfl, hb⟩
    have HB : Hid (Below w.heap.size w w2) := Lib.hid ((HD.out.below _).trans (hb.mono (HD.out.below w.heap.size).size))
    clear hb
    go_wp2_with fail
    go_ret2
    exact ⟨HE.out, HB.out⟩
  | true =>
    have CA : Hid (∀ W : World, Pow10 W → Calls Tryd.prog 16 #[.string t] W fun e w' => e = .returned (.tuple #[.string u, .bool true]) ∧ Below W.heap.size W w') := Lib.hid (fun W hW => by
      have c := implAppend_any t W (by omega) hW
      rw [← aEnd_yes hk, ← hu] at c
      exact c)
    by_cases he : u = s
    · have HE : Hid (Ending.returned (.tuple #[.string t, .bool true]) = vEnd s) := Lib.hid (by
        rw [HT.out]
        refine vEnd_yes ?_
        simp only [vOk, Bool.and_eq_true, decide_eq_true_eq]
        refine ⟨?_, by rw [← HT.out, ← hu]; exact he⟩
        simp only [aOk, Bool.and_eq_true, decide_eq_true_eq] at hk
        rw [← hu] at hk
        rw [← he]; exact hk.2)
      have hq : (u.toList == s.toList) = true := by rw [toList_eq_iff, decide_eq_true he]
      clear hk hu he
      go_enter Tryd.func18, Tryd.ntmps18
      go_wp2_with fail
      refine CC.out.mono ?_
      rintro e w1 ⟨x, b, rfl, hd⟩
      have HD := Lib.hid hd
      clear hd
      go_wp2_with fail
      refine (CA.out _ (HP.out.drawn HD.out)).mono ?_
      rintro e w2 ⟨rfl, hb⟩
      have HB : Hid (Below w.heap.size w w2) := Lib.hid ((HD.out.below _).trans (hb.mono (HD.out.below w.heap.size).size))
      clear hb
      go_wp2_with fail
      go_ret2
      exact ⟨HE.out, HB.out⟩
    · have HE : Hid (Ending.returned (.tuple #[.string ⟨#[]⟩, .bool false]) = vEnd s) := Lib.hid (vEnd_no (by
        simp only [vOk, Bool.and_eq_false_iff, decide_eq_false_iff_not]
        exact .inr (by rw [← HT.out, ← hu]; exact he)))
      have hq : (u.toList == s.toList) = false := by rw [toList_eq_iff, decide_eq_false he]
      clear hk hu he
      go_enter Tryd.func18, Tryd.ntmps18
      go_wp2_with fail
      refine CC.out.mono ?_
      rintro e w1 ⟨x, b, rfl, hd⟩
      have HD := Lib.hid hd
      clear hd
      go_wp2_with fail
      refine (CA.out _ (HP.out.drawn HD.out)).mono ?_
      rintro e w2 ⟨rfl, hb⟩
      have HB : Hid (Below w.heap.size w w2) := Lib.hid ((HD.out.below _).trans (hb.mono (HD.out.below w.heap.size).size))
      clear hb
      go_wp2_with fail
      go_ret2
      exact ⟨HE.out, HB.out⟩

end Go.Proofs.YtocenggbdnchfaaDoor
