/- ParsePosition of the model and of the program: contracts, for every string of at most 1048576 bytes. -/
import Derived.Test.YtcijmhhajbgknaaDoorPosM
namespace Go.Proofs.YtcijmhhajbgknaaDoor
open Go.RowKit
set_option linter.unusedVariables false

theorem owned_strs {W : World} {base : Nat} {v : Value} {ss : List ByteArray} (h : W.ownsRow base 9 1 v ss.length (ss.map Value.string)) (h0 : 0 < ss.length) :
    ∃ g cap, v = .slice (some ⟨g, 0, none⟩) ss.length cap ∧ base ≤ g ∧ ∀ i, i < ss.length → W.cell? ⟨g, i, none⟩ = some (.string (ss.getD i ByteArray.empty)) := by
  rcases id h.2 with ⟨rfl, h1⟩ | ⟨g, cap, cur, rfl, hbg, _⟩
  · omega
  · refine ⟨g, cap, rfl, hbg, fun i hi => ?_⟩
    rw [h.cellAt i (by omega), List.getElem?_map, List.getElem?_eq_getElem hi, List.getD_eq_getElem?_getD, List.getElem?_eq_getElem hi]
    rfl

theorem split_part_size {ss : List ByteArray} {s : ByteArray} (h : ss.map (·.data.toList) = splitL 46 s.data.toList) {k : Nat} (hk : k < ss.length) : (splitL 46 s.data.toList)[k]? = some (ss.getD k ByteArray.empty).data.toList ∧ (ss.getD k ByteArray.empty).size ≤ s.size := by
  have e : (splitL 46 s.data.toList)[k]? = some (ss.getD k ByteArray.empty).data.toList := by
    rw [← h, List.getElem?_map, List.getElem?_eq_getElem hk, List.getD_eq_getElem?_getD, List.getElem?_eq_getElem hk]
    rfl
  refine ⟨e, ?_⟩
  have := split_part (List.mem_of_getElem? e)
  have e1 : ∀ t : ByteArray, t.size = t.data.toList.length := fun t => by rw [Array.length_toList]; rfl
  rw [e1, e1]; exact this

theorem parts_some {ss : List ByteArray} {s : ByteArray} (h : ss.map (·.data.toList) = splitL 46 s.data.toList) : 0 < ss.length ∧ ss.length = (splitL 46 s.data.toList).length ∧ ss.length ≤ s.size + 1 := by
  have h1 : ss.length = (splitL 46 s.data.toList).length := by rw [← h, List.length_map]
  have h2 := split_len 46 s.data.toList
  have h3 := split_len_le 46 s.data.toList
  have e1 : s.size = s.data.toList.length := by rw [Array.length_toList]; rfl
  omega

theorem dash_no {s : ByteArray} (h : s.data.toList ≠ [45]) : (s.toList == [45]) = false := by
  rw [beq_eq_false_iff_ne, ByteArray.toList_eq]; exact h
theorem dash_yes {s : ByteArray} (h : s.data.toList = [45]) : (s.toList == [45]) = true := by
  rw [beq_iff_eq, ByteArray.toList_eq]; exact h

set_option maxRecDepth 100000 in
set_option maxHeartbeats 2000000 in
theorem specPP_any (s : ByteArray) (w : World) (hs : s.size ≤ 1048576) :
    Calls Tryd.prog 32 #[.string s] w (PPEnd s w) := by
  obtain ⟨i0, hi, hz0, hz1, hz2⟩ := info_parts infoInt
  by_cases hd : s.data.toList = [45]
  · have hy := dash_yes hd
    have HE : Hid (PPEnd s w (.returned (.tuple #[.slice (some ⟨w.heap.size, 0, none⟩) 0 0, .bool true])) (w.alloc (.cells #[] 3))) := Lib.hid (ppEnd_yes (is := []) (.inl ⟨_, _, rfl, rfl⟩) (by rw [hd]; exact pp_dash) ((Below.refl _ _).alloc (Nat.le_refl _) _))
    clear hd
    go_enter Tryd.func32, Tryd.ntmps32
    go_wp2
    go_ret2
    exact HE.out
  · have hy := dash_no hd
    have HD := Lib.hid hd
    have HB0 := Lib.hid ((Below.refl w.heap.size w).alloc (Nat.le_refl _) (.cells #[] 3))
    have HO0 : Hid ((w.alloc (.cells #[] 3)).ownsRow w.heap.size 3 1 (.slice (some ⟨w.heap.size, 0, none⟩) 0 0) 0 []) := Lib.hid (World.ownsRow_lit w #[] 0 (Nat.le_refl _) (Nat.zero_le _) rfl)
    clear hd
    go_enter Tryd.func32, Tryd.ntmps32
    go_wp2_with fail
    refine (l1Split_any s 46 _ hs).mono ?_
    rintro e w1 ⟨v1, ss, rfl, hss, hown, hb⟩
    obtain ⟨hp0, hpl, hp1⟩ := parts_some hss
    obtain ⟨g, cap, rfl, hbg, hcell⟩ := owned_strs hown hp0
    have HSS := Lib.hid hss
    have HR0 : Hid (PRow w w1 (.slice (some ⟨w.heap.size, 0, none⟩) 0 0) g ss (splitL 46 s.data.toList) 0) := Lib.hid (PRow.start (HO0.out.kept (grown_of_below hb none) (.inr (by simp [Value.ownBlock]))) (fun e => by simp [Value.ownBlock] at e; simp at hbg; omega) hcell (carry_below HB0.out (by simp) hb))
    have HPL := Lib.hid hpl
    clear hss hown hb hcell hpl hbg
    go_wp2
    go_loopw [4, 6] (fun z i wr => ∃ k : Nat, k ≤ ss.length ∧ i = .int .i64 k ∧ PRow w wr z g ss (splitL 46 s.data.toList) k) (fun _ i _ => ss.length - (intOf i).toNat)
    case atStart => exact ⟨0, Nat.zero_le _, rfl, HR0.out⟩
    case round =>
      obtain ⟨k, hk, rfl, hrow⟩ := hrel
      have HROW := Lib.hid hrow
      have hwz := hrow.below.size
      obtain ⟨a2, c2, rfl⟩ := hrow.shape
      clear hrow
      by_cases hlt : k < ss.length
      · have hcr := HROW.out.cell hlt
        obtain ⟨hpk, hqs⟩ := split_part_size HSS.out hlt
        obtain ⟨q, hq⟩ : ∃ q, q = ss.getD k ByteArray.empty := ⟨_, rfl⟩
        rw [← hq] at hcr hpk hqs
        have HPK := Lib.hid hpk
        have C := Lib.hid (fun W => l1Read_any q W (by omega))
        clear hq hpk hqs
        go_wp2_with fail
        refine (C.out _).mono ?_
        rintro e w2 ⟨⟨n, ok, rfl, hres⟩, hd2⟩
        have HR2 := Lib.hid (HROW.out.kept (hd2.below _))
        rcases hres.read with ⟨rfl, hn⟩ | ⟨rfl, hn⟩
        · have HN := Lib.hid hn
          clear hres hn hcr hd2
          obtain ⟨is, h1, h2, h3, _⟩ := HR2.out
          have hw2 := HR2.out.below.size
          have HO2 := Lib.hid h3
          have HI2 := Lib.hid h2
          clear h2 h3
          go_wp2_with (at_builtin; go_loud (refine wpList_append_own _ rfl _ _ 58 rfl w.heap.size 3 i0 (.int .i64 0) 1 8 Tryd.underlying58 hi hz0 hz1 hz2 rfl (by decide) _ _ _ rfl (HO2.out.alloc _) ⟨w2.heap.size, 0, none⟩ 1 1 [.int .i64 n] rfl rfl (cell_one_new _ _ _) (by simp [Value.oneCell']) (by unfold maxLen; omega) (by omega) (by simp; omega) ?_; intro v3 w3 hown3 hg3 _; obtain ⟨g3, cap3, rfl⟩ := ownsRow_succ hown3; have HO3 := Lib.hid hown3; have HG3 := Lib.hid hg3; clear hown3 hg3))
          go_roundw
          case rel => exact ⟨k + 1, by omega, by go_num, HR2.out.next h1 HI2.out HO2.out HPK.out HN.out hlt HO3.out HG3.out⟩
          case measure => simp [intOf]; omega
        · have HE : Hid (PPEnd s w (.returned (.tuple #[.slice (some ⟨w2.heap.size, 0, none⟩) 0 0, .bool false])) (w2.alloc (.cells #[] 3))) := Lib.hid (ppEnd_no rfl (pp_bad HD.out (readAll_none _ _ (List.mem_of_getElem? HPK.out) hn)) (HR2.out.below.alloc HR2.out.below.size _))
          clear hres hn hcr hd2
          go_wp2
          go_ret2
          exact HE.out
      · obtain ⟨is, hra, hio⟩ := HROW.out.done (by have := HPL.out; omega)
        have hil := (readAll_len _ _ hra).1
        have HRA := Lib.hid hra
        have HIO := Lib.hid hio
        have C := Lib.hid (place_any is _ wr hio.read (by have := HPL.out; omega))
        clear hra hio hil
        cases hp : pOk is with
        | true =>
          rw [hp] at C
          have HE : Hid (PPEnd s w (.returned (.tuple #[.slice a2 k c2, .bool true])) wr) := Lib.hid (ppEnd_yes HIO.out (pp_yes HD.out HRA.out hp) HROW.out.below)
          clear hp
          go_wp2_with (go_at_call 60; refine C.out.mono ?_; rintro e w' ⟨rfl, rfl⟩)
          go_ret2
          exact HE.out
        | false =>
          rw [hp] at C
          have HE : Hid (PPEnd s w (.returned (.tuple #[.slice (some ⟨wr.heap.size, 0, none⟩) 0 0, .bool false])) (wr.alloc (.cells #[] 3))) := Lib.hid (ppEnd_no rfl (pp_not HD.out HRA.out hp) (HROW.out.below.alloc HROW.out.below.size _))
          clear hp
          go_wp2_with (go_at_call 60; refine C.out.mono ?_; rintro e w' ⟨rfl, rfl⟩)
          go_ret2
          exact HE.out

set_option maxRecDepth 100000 in
set_option maxHeartbeats 2000000 in
theorem implPP_any (s : ByteArray) (w : World) (hs : s.size ≤ 1048576) (ht : Pow10 w) (hh1 : Holds "strconv.ErrSyntax" w) (hh2 : Holds "strconv.ErrRange" w) :
    Calls Tryd.prog 33 #[.string s] w (PPEnd s w) := by
  obtain ⟨i0, hi, hz0, hz1, hz2⟩ := info_parts infoInt
  have HT := Lib.hid ht
  have HH1 := Lib.hid hh1
  have HH2 := Lib.hid hh2
  clear ht hh1 hh2
  by_cases hd : s.data.toList = [45]
  · have hy := dash_yes hd
    have HE : Hid (PPEnd s w (.returned (.tuple #[.slice (some ⟨w.heap.size, 0, none⟩) 0 0, .bool true])) (w.alloc (.cells #[] 3))) := Lib.hid (ppEnd_yes (is := []) (.inl ⟨_, _, rfl, rfl⟩) (by rw [hd]; exact pp_dash) ((Below.refl _ _).alloc (Nat.le_refl _) _))
    clear hd
    go_enter Tryd.func33, Tryd.ntmps33
    go_wp2
    go_ret2
    exact HE.out
  · have hy := dash_no hd
    have HD := Lib.hid hd
    have CS := Lib.hid (implSplit_any s ⟨#[46]⟩ w (by unfold maxLen; omega) (by decide))
    clear hd
    by_cases hbig : 4000 < s.size
    · have hk : sOk s ⟨#[46]⟩ = false := by simp [sOk]; omega
      have HPL : Hid (ppL s.data.toList = none) := Lib.hid (pp_long (by rw [Array.length_toList]; exact hbig))
      clear hbig
      go_enter Tryd.func33, Tryd.ntmps33
      go_wp2_with fail
      refine CS.out.mono ?_
      rintro e w1 ⟨v1, ss, rfl, hss, hown, hb⟩
      rw [hk]
      have HB := Lib.hid hb
      have HE : Hid (PPEnd s w (.returned (.tuple #[.slice (some ⟨w1.heap.size, 0, none⟩) 0 0, .bool false])) (w1.alloc (.cells #[] 3))) := Lib.hid (ppEnd_no rfl HPL.out (hb.alloc hb.size _))
      obtain ⟨a1, c1, rfl⟩ : ∃ a c, v1 = .slice a ss.length c := by
        rcases hown.2 with ⟨rfl, h0⟩ | ⟨gg, cap, cur, rfl, _⟩
        · exact ⟨none, 0, by rw [h0]⟩
        · exact ⟨_, cap, rfl⟩
      clear hss hown hb hk
      go_wp2
      go_ret2
      exact HE.out
    · have hk : sOk s ⟨#[46]⟩ = true := sOk_yes (by omega)
      have hkL : sL s ⟨#[46]⟩ = splitL 46 s.data.toList := sL_yes (by omega)
      go_enter Tryd.func33, Tryd.ntmps33
      go_wp2_with fail
      refine CS.out.mono ?_
      rintro e w1 ⟨v1, ss, rfl, hss, hown, hb⟩
      rw [hk]
      rw [hkL] at hss
      obtain ⟨hp0, hpl, hp1⟩ := parts_some hss
      obtain ⟨g, cap, rfl, hbg, hcell⟩ := owned_strs hown hp0
      have HSS := Lib.hid hss
      have HR0 : Hid (PRow w (w1.alloc (.cells #[] 3)) (.slice (some ⟨w1.heap.size, 0, none⟩) 0 0) g ss (splitL 46 s.data.toList) 0) := Lib.hid (PRow.start (World.ownsRow_lit w1 #[] 0 hb.size (Nat.zero_le _) rfl) (fun e => by
          simp [Value.ownBlock] at e
          have := World.block_lt_of_cell? w1 _ (hcell 0 hp0)
          simp at this
          omega) (fun i hi => carry_cell (hcell i hi) ((Below.refl _ _).alloc (Nat.le_refl _) _)) (hb.alloc hb.size _))
      have HPL := Lib.hid hpl
      clear hss hown hb hcell hpl hbg hk hkL
      go_wp2
      go_loopw [6, 25] (fun z i wr => ∃ k : Nat, k ≤ ss.length ∧ i = .int .i64 k ∧ PRow w wr z g ss (splitL 46 s.data.toList) k) (fun _ i _ => ss.length - (intOf i).toNat)
      case atStart => exact ⟨0, Nat.zero_le _, rfl, HR0.out⟩
      case round =>
        obtain ⟨k, hk, rfl, hrow⟩ := hrel
        have HROW := Lib.hid hrow
        have hwz := hrow.below.size
        obtain ⟨a2, c2, rfl⟩ := hrow.shape
        clear hrow
        by_cases hlt : k < ss.length
        · have hcr := HROW.out.cell hlt
          obtain ⟨hpk, hqs⟩ := split_part_size HSS.out hlt
          obtain ⟨q, hq⟩ : ∃ q, q = ss.getD k ByteArray.empty := ⟨_, rfl⟩
          rw [← hq] at hcr hpk hqs
          have HPK := Lib.hid hpk
          have C := Lib.hid (implParse_any q wr (by omega) (HT.out.below HROW.out.below) (HH1.out.below gSyn HROW.out.below) (HH2.out.below gRng HROW.out.below))
          clear hq hpk hqs
          go_wp2_with fail
          refine C.out.mono ?_
          rintro e w2 ⟨⟨n, ok, rfl, hres⟩, hb2⟩
          have HR2 := Lib.hid (HROW.out.kept hb2)
          rcases hres.read with ⟨rfl, hn⟩ | ⟨rfl, hn⟩
          · have HN := Lib.hid hn
            clear hres hn hcr hb2
            obtain ⟨is, h1, h2, h3, _⟩ := HR2.out
            have hw2 := HR2.out.below.size
            have HO2 := Lib.hid h3
            have HI2 := Lib.hid h2
            clear h2 h3
            go_wp2_with (at_builtin; go_loud (refine wpList_append_own _ rfl _ _ 58 rfl w.heap.size 3 i0 (.int .i64 0) 1 8 Tryd.underlying58 hi hz0 hz1 hz2 rfl (by decide) _ _ _ rfl (HO2.out.alloc _) ⟨w2.heap.size, 0, none⟩ 1 1 [.int .i64 n] rfl rfl (cell_one_new _ _ _) (by simp [Value.oneCell']) (by unfold maxLen; omega) (by omega) (by simp; omega) ?_; intro v3 w3 hown3 hg3 _; obtain ⟨g3, cap3, rfl⟩ := ownsRow_succ hown3; have HO3 := Lib.hid hown3; have HG3 := Lib.hid hg3; clear hown3 hg3))
            go_roundw
            case rel => exact ⟨k + 1, by omega, by go_num, HR2.out.next h1 HI2.out HO2.out HPK.out HN.out hlt HO3.out HG3.out⟩
            case measure => simp [intOf]; omega
          · have HE : Hid (PPEnd s w (.returned (.tuple #[.slice (some ⟨w2.heap.size, 0, none⟩) 0 0, .bool false])) (w2.alloc (.cells #[] 3))) := Lib.hid (ppEnd_no rfl (pp_bad HD.out (readAll_none _ _ (List.mem_of_getElem? HPK.out) hn)) (HR2.out.below.alloc HR2.out.below.size _))
            clear hres hn hcr hb2
            go_wp2
            go_ret2
            exact HE.out
        · obtain ⟨is, hra, hio⟩ := HROW.out.done (by have := HPL.out; omega)
          have hil := (readAll_len _ _ hra).1
          have HRA := Lib.hid hra
          have HIO := Lib.hid hio
          have C := Lib.hid (isPos_any is _ wr hio.read (by have := HPL.out; omega))
          clear hra hio hil
          cases hp : pOk is with
          | true =>
            rw [hp] at C
            have HE : Hid (PPEnd s w (.returned (.tuple #[.slice a2 k c2, .bool true])) wr) := Lib.hid (ppEnd_yes HIO.out (pp_yes HD.out HRA.out hp) HROW.out.below)
            clear hp
            go_wp2_with (go_at_call 62; refine C.out.mono ?_; rintro e w' ⟨rfl, rfl⟩)
            go_ret2
            exact HE.out
          | false =>
            rw [hp] at C
            have HE : Hid (PPEnd s w (.returned (.tuple #[.slice (some ⟨wr.heap.size, 0, none⟩) 0 0, .bool false])) (wr.alloc (.cells #[] 3))) := Lib.hid (ppEnd_no rfl (pp_not HD.out HRA.out hp) (HROW.out.below.alloc HROW.out.below.size _))
            clear hp
            go_wp2_with (go_at_call 62; refine C.out.mono ?_; rintro e w' ⟨rfl, rfl⟩)
            go_ret2
            exact HE.out

end Go.Proofs.YtcijmhhajbgknaaDoor
