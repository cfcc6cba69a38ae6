/- The drawn inputs of the law on numbers and checksums: contracts. -/
import Derived.Test.YtocenggbdnchfaaDoorDraw
import Derived.Test.YtocenggbdnchfaaDoorNum
import Derived.Maps.AppendAt
import Derived.Laws.IdiomStrings
namespace Go.Proofs.YtocenggbdnchfaaDoor
open Go.RowKit

theorem below_cur {w w1 : World} {o : Obj} (hg : (w.alloc o).grownBy w1 (some w.heap.size)) : Below w.heap.size w w1 :=
  ((Below.refl _ _).alloc (Nat.le_refl _) o).grown hg (by simp) (fun k e => by cases e; exact Nat.le_refl _)

theorem cells_int (w : World) (zs : List Int) (e : TypeId) (i : Nat) (hi : i < zs.length) : (w.alloc (.cells (zs.map (Value.int .i64)).toArray e)).cell? ⟨w.heap.size, i, none⟩ = some (.int .i64 (zs.getD i 0)) := by
  rw [cell_of_row _ _ i _ e (0, 0) (heap_alloc_new w _)]
  simp [hi]

def AmongEnd (w : World) (B b K : Nat) (zs : List Int) (e : Ending) (w' : World) : Prop := ∃ z : Int, e = .returned (.int .i64 z) ∧ z ∈ zs ∧ w.grownBy w' (some b) ∧ Cur w' B b K
theorem among_any (w : World) (B b K : Nat) (zs : List Int) (h : Cur w B b K) (hK : K ≤ 999990) (h1 : 1 < zs.length) (h2 : zs.length ≤ 60000) :
    Calls Tryd.prog 21 #[.pointer (some ⟨b, 0, none⟩), .slice (some ⟨w.heap.size, 0, none⟩) zs.length zs.length] (w.alloc (.cells (zs.map (Value.int .i64)).toArray 3)) fun e w' => AmongEnd w B b (K + 2) zs e w' := by
  have hb := h.block
  have C0 := Lib.hid (pick_any _ B b K zs.length (h.alloc (.cells (zs.map (Value.int .i64)).toArray 3)) hK (by omega) (by omega))
  obtain ⟨W, hW⟩ : ∃ W, W = w.alloc (.cells (zs.map (Value.int .i64)).toArray 3) := ⟨_, rfl⟩
  have HC : Hid (∀ i, i < zs.length → W.cell? ⟨w.heap.size, i, none⟩ = some (.int .i64 (zs.getD i 0))) := Lib.hid (fun i hi => by rw [hW]; exact cells_int w zs _ i hi)
  have HW : Hid (w.grownBy W (some b)) := Lib.hid (by rw [hW]; exact World.grownBy_alloc w _ _)
  rw [← hW] at C0 ⊢
  obtain ⟨g, hg⟩ : ∃ g, g = w.heap.size := ⟨_, rfl⟩
  have hgb : g ≠ b := by omega
  rw [← hg] at HC ⊢
  clear h hW hg
  go_enter Tryd.func21, Tryd.ntmps21
  go_wp2_with fail
  refine C0.out.mono ?_
  rintro e w1 ⟨r, rfl, hr0, hr1, hg, hc⟩
  obtain ⟨p, rfl⟩ : ∃ p : Nat, r = (p : Int) := ⟨r.toNat, by omega⟩
  have hp : p < zs.length := by omega
  obtain ⟨z, hz⟩ : ∃ z, z = zs.getD p 0 := ⟨_, rfl⟩
  have hcw : w1.cell? ⟨g, p, none⟩ = some (.int .i64 z) := by rw [hz]; exact hg.cell (HC.out p hp) (by simpa using hgb)
  have hzm : z ∈ zs := by rw [hz, List.getD_eq_getElem?_getD, List.getElem?_eq_getElem hp]; exact List.getElem_mem hp
  have HE : Hid (AmongEnd w B b (K + 2) zs (.returned (.int .i64 z)) w1) := Lib.hid ⟨_, rfl, hzm, grown_step HW.out hg, hc⟩
  clear hg hc hz hzm
  go_wp2_with fail
  go_ret
  exact HE.out

def NumEnd (w : World) (e : Ending) (w' : World) : Prop := ∃ n : Int, e = .returned (.int .i64 n) ∧ -1000000 ≤ n ∧ n ≤ 1000000 ∧ Below w.heap.size w w'
theorem drawFormat_any (w : World) (v : Value) (n : Nat) (h : CodeV w v n w.heap.size) (hn : n ≤ 9223372036854775807) :
    Calls Tryd.prog 9 #[v] w fun e w' => NumEnd w e w' := by
  obtain ⟨a, c, rfl⟩ := h.shape
  have C0 := Lib.hid (pick_any _ _ _ _ 1000 (cur_new h hn) (by omega) (by omega) (by omega))
  clear h
  go_enter Tryd.func9, Tryd.ntmps9
  go_wp2_with fail
  refine C0.out.mono ?_
  rintro e w1 ⟨q, rfl, hq0, hq1, hg, hc⟩
  have C1 : Hid (Calls Tryd.prog 21 #[.pointer (some ⟨w.heap.size, 0, none⟩), .slice (some ⟨w1.heap.size, 0, none⟩) 9 9] (w1.alloc (.cells #[.int .i64 0, .int .i64 1, .int .i64 (-1), .int .i64 10, .int .i64 999999, .int .i64 (-999999), .int .i64 1000000, .int .i64 (-1000000), .int .i64 (q - 500)] 3)) fun e w' => AmongEnd w1 w.heap.size w.heap.size (0 + 2 + 2) [0, 1, -1, 10, 999999, -999999, 1000000, -1000000, q - 500] e w') := Lib.hid (among_any w1 _ _ _ [0, 1, -1, 10, 999999, -999999, 1000000, -1000000, q - 500] hc (by omega) (by simp) (by simp))
  have HG := Lib.hid hg
  clear hg hc
  go_wp2_with fail
  refine C1.out.mono ?_
  rintro e w2 ⟨z, rfl, hz, hg2, hc2⟩
  have HE : Hid (NumEnd w (.returned (.int .i64 z)) w2) := Lib.hid (by
    refine ⟨z, rfl, ?_, ?_, below_cur (grown_step HG.out hg2)⟩ <;> (simp at hz; omega))
  clear hz hg2 hc2
  go_wp2_with fail
  go_ret
  exact HE.out

def TextEnd (w : World) (e : Ending) (w' : World) : Prop := ∃ s : ByteArray, e = .returned (.string s) ∧ s.size ≤ 4010 ∧ Below w.heap.size w w'

def numList : List ByteArray := [⟨#[]⟩, ⟨#[45]⟩, ⟨#[45, 48]⟩, ⟨#[48, 48]⟩, ⟨#[48, 49]⟩, ⟨#[45, 45, 49]⟩, ⟨#[49, 120]⟩, ⟨#[57, 57, 57, 57, 57, 57]⟩, ⟨#[49, 48, 48, 48, 48, 48, 48]⟩, ⟨#[45, 57, 57, 57, 57, 57, 57]⟩, ⟨#[49, 56, 52, 52, 54, 55, 52, 52, 48, 55, 51, 55, 48, 57, 53, 53, 49, 54, 49, 55]⟩]
theorem numList_size : ∀ s ∈ numList, s.size ≤ 20 := by decide
theorem itoa_size (n : Int) (h0 : -1000 ≤ n) (h1 : n ≤ 1000) : (ByteArray.mk (Lib.itoa n).toArray).size ≤ 4010 := by
  show (Lib.itoa n).length ≤ 4010
  unfold Lib.itoa
  split
  · have := decDigits_le n.natAbs
    simp only [List.length_cons]; omega
  · have := decDigits_le n.toNat
    omega

theorem drawParse_any (w : World) (v : Value) (n : Nat) (h : CodeV w v n w.heap.size) (hn : n ≤ 9223372036854775807) :
    Calls Tryd.prog 12 #[v] w fun e w' => TextEnd w e w' := by
  obtain ⟨a, c, rfl⟩ := h.shape
  have C0 := Lib.hid (one_any _ _ _ _ 2 (cur_new h hn) (by omega) (by omega) (by omega))
  clear h
  go_enter Tryd.func12, Tryd.ntmps12
  go_wp2_with fail
  refine C0.out.mono ?_
  rintro e w1 ⟨q, rfl, hg, hc⟩
  have HG := Lib.hid hg
  have HC := Lib.hid hc
  clear hg hc
  cases q with
  | true =>
    have C1 : Hid (Calls Tryd.prog 27 #[.pointer (some ⟨w.heap.size, 0, none⟩), .slice (some ⟨w1.heap.size, 0, none⟩) 11 11] (w1.alloc (.cells #[.string ⟨#[]⟩, .string ⟨#[45]⟩, .string ⟨#[45, 48]⟩, .string ⟨#[48, 48]⟩, .string ⟨#[48, 49]⟩, .string ⟨#[45, 45, 49]⟩, .string ⟨#[49, 120]⟩, .string ⟨#[57, 57, 57, 57, 57, 57]⟩, .string ⟨#[49, 48, 48, 48, 48, 48, 48]⟩, .string ⟨#[45, 57, 57, 57, 57, 57, 57]⟩, .string ⟨#[49, 56, 52, 52, 54, 55, 52, 52, 48, 55, 51, 55, 48, 57, 53, 53, 49, 54, 49, 55]⟩] 9)) fun e w' => OfEnd w1 w.heap.size w.heap.size (0 + 2 + 2) numList e w') := Lib.hid (ofLit_any w1 _ _ _ numList HC.out (by omega) (by decide) (by decide))
    go_wp2_with fail
    refine C1.out.mono ?_
    rintro e w2 ⟨s, rfl, hs, hg2, hc2⟩
    have HE : Hid (TextEnd w (.returned (.string s)) w2) := Lib.hid ⟨s, rfl, by have := numList_size s hs; omega, below_cur (grown_step HG.out hg2)⟩
    clear hs hg2 hc2
    go_wp2_with fail
    go_ret
    exact HE.out
  | false =>
    have C1 := Lib.hid (pick_any _ _ _ _ 2000 HC.out (by omega) (by omega) (by omega))
    go_wp2_with fail
    refine C1.out.mono ?_
    rintro e w2 ⟨r, rfl, hr0, hr1, hg2, hc2⟩
    have HB2 : Hid (Below w.heap.size w w2) := Lib.hid (below_cur (grown_step HG.out hg2))
    have C2 := Lib.hid (num_any (r - 1000) w2 (by omega) (by omega))
    clear hg2 hc2
    go_wp2_with fail
    refine C2.out.mono ?_
    rintro e w3 ⟨rfl, hd⟩
    have HE : Hid (TextEnd w (.returned (.string ⟨(Lib.itoa (r - 1000)).toArray⟩)) w3) := Lib.hid ⟨_, rfl, itoa_size _ (by omega) (by omega), HB2.out.trans (hd.below _)⟩
    clear hd
    go_wp2_with fail
    go_ret
    exact HE.out

theorem infoByte : (Tryd.prog.info? 5).map (fun i => (i.zero, i.size, i.bytes)) = some (some (.int .u8 0), 1, 1) := by kernel_rfl
theorem conv_zero {w : World} {base n : Nat} {g : Nat} (h : w.ownsRow base 5 1 (.slice (some ⟨g, 0, none⟩) n n) n (madeCells (Value.int .u8 0).cells (n * 1)).toList) :
    (convert 22 9 (.slice (some ⟨g, 0, none⟩) n n)).run Tryd.prog w = .ok (.string ⟨Array.replicate n (0 : UInt8)⟩) w := by
  have c := run_convert_bytes_back (P := Tryd.prog) w 22 9 5 ⟨g, 0, none⟩ n (List.replicate n 0) Tryd.underlying22 Tryd.underlying5 Tryd.underlying9 (fun j hj => by
    have hj' : j < n := by simpa using hj
    have e : Addr.add ⟨g, 0, none⟩ j = ⟨g, j, none⟩ := by
      simp only [Addr.add]; split <;> simp_all
    rw [e, h.cellAt j (by omega)]
    have e2 : (Value.int .u8 0).cells = #[Value.int .u8 0] := rfl
    rw [e2, Nat.mul_one, toList_madeCells_one]
    simp [hj'])
  rw [List.length_replicate] at c
  simpa using c

theorem drawAppend_any (w : World) (v : Value) (n : Nat) (h : CodeV w v n w.heap.size) (hn : n ≤ 9223372036854775807) :
    Calls Tryd.prog 15 #[v] w fun e w' => TextEnd w e w' := by
  obtain ⟨j0, hj, hy0, hy1, hy2⟩ := info_parts infoByte
  obtain ⟨a, c, rfl⟩ := h.shape
  have C0 := Lib.hid (one_any _ _ _ _ 20 (cur_new h hn) (by omega) (by omega) (by omega))
  clear h
  go_enter Tryd.func15, Tryd.ntmps15
  go_wp2_with fail
  refine C0.out.mono ?_
  rintro e w1 ⟨q, rfl, hg, hc⟩
  have HG := Lib.hid hg
  have HC := Lib.hid hc
  clear hg hc
  cases q with
  | true =>
    have C1 := Lib.hid (pick_any _ _ _ _ 10 HC.out (by omega) (by omega) (by omega))
    go_wp2_with fail
    refine C1.out.mono ?_
    rintro e w2 ⟨p, rfl, hp0, hp1, hg2, hc2⟩
    obtain ⟨m, rfl⟩ : ∃ m : Nat, p = (m : Int) := ⟨p.toNat, by omega⟩
    have HB2 : Hid (Below w.heap.size w w2) := Lib.hid (below_cur (grown_step HG.out hg2))
    clear hg2 hc2
    go_wp2_with (at_make; refine wpList_make_full _ rfl _ _ 22 rfl w2.heap.size 5 j0 (.int .u8 0) 1 Tryd.underlying22 hj hy0 hy1 .i64 .i64 _ _ (3990 + m) rfl rfl (by omega) (by omega) (by rw [hy2]; omega) (by unfold maxLen; omega) (Nat.le_refl _) ?_; intro w4 hown4 hg4; have hcv := conv_zero hown4; have HB4 : Hid (Below w.heap.size w w4) := Lib.hid (HB2.out.grown hg4 HB2.out.size (by simp)); clear hown4 hg4)
    go_ret
    exact ⟨_, rfl, by show (Array.replicate (3990 + m) (0 : UInt8)).size ≤ 4010; simp; omega, Hid.out (by assumption)⟩
  | false =>
    have C1 := Lib.hid (any1_any _ _ _ _ HC.out (by omega))
    go_wp2_with fail
    refine C1.out.mono ?_
    rintro e w2 ⟨s, rfl, hs, hg2, hc2⟩
    have HE : Hid (TextEnd w (.returned (.string s)) w2) := Lib.hid ⟨s, rfl, by omega, below_cur (grown_step HG.out hg2)⟩
    clear hg2 hc2
    go_wp2_with fail
    go_ret
    exact HE.out

def VEnd (w : World) (e : Ending) (w' : World) : Prop := ∃ r : Int, e = .returned (.int .i64 r) ∧ 0 ≤ r ∧ r < 256 ∧ w = w'
theorem vAt_any (w : World) (v : Value) (n B k : Nat) (h : CodeV w v n B) (hn : n ≤ 1000000) (hk : k ≤ 1000) :
    Calls Tryd.prog 19 #[v, .int .i64 (k : Int)] w fun e w' => VEnd w e w' := by
  by_cases hlt : k < n
  · rcases h with ⟨a, c, rfl, rfl⟩ | ⟨g, off, c, rfl, hp, hg, hz⟩
    · omega
    · obtain ⟨z, h0, h1, hc⟩ := hz k hlt
      clear hz
      go_enter Tryd.func19, Tryd.ntmps19
      go_wp2
      go_ret
      exact ⟨z, rfl, h0, by omega, rfl⟩
  · obtain ⟨a, c, rfl⟩ := h.shape
    clear h
    go_enter Tryd.func19, Tryd.ntmps19
    go_wp2
    go_ret
    exact ⟨_, rfl, by omega, by omega, rfl⟩

end Go.Proofs.YtocenggbdnchfaaDoor
