/- The drawn list of parts and the drawn separator of the law on joining: a contract. -/
import Derived.Test.YtocenggbdnchfaaDrawA
namespace Go.Proofs.Ytocenggbdnchfaa
open Go.RowKit

def JDraw (w : World) (e : Ending) (w' : World) : Prop :=
  ∃ (v : Value) (ss : List ByteArray) (sep : ByteArray), e = .returned (.tuple #[v, .string sep]) ∧ w'.ownsRow (w.heap.size + 1) 9 1 v ss.length (ss.map Value.string) ∧ ss.length ≤ 4 ∧ (∀ s ∈ ss, s.size ≤ 4010) ∧ sep.size ≤ 10 ∧ Below w.heap.size w w'

/-- What holds of the gathered parts and of the cursor. -/
structure JRel2 (w wr : World) (v : Value) (ss : List ByteArray) (k K : Nat) : Prop where
  own : wr.ownsRow (w.heap.size + 1) 9 1 v ss.length (ss.map Value.string)
  len : ss.length = k
  small : ∀ s ∈ ss, s.size ≤ 4010
  cur : Cur wr w.heap.size w.heap.size K
  below : Below w.heap.size w wr

theorem ownBlock_ne {w : World} {base e size n b : Nat} {v : Value} {xs : List Value} (h : w.ownsRow base e size v n xs) (hb : b < base) : v.ownBlock ≠ some b := by
  intro e
  have := (h.lt b e).1
  omega
theorem owns_far {w w' : World} {base e size n b : Nat} {v : Value} {xs : List Value} (h : w.ownsRow base e size v n xs) (hb : b < base) (hg : w.grownBy w' (some b)) : w'.ownsRow base e size v n xs :=
  h.kept hg (.inr (ownBlock_ne h hb))

/-- The cursor has stepped. -/
theorem JRel2.step {w wr w1 : World} {v : Value} {ss : List ByteArray} {k K K' : Nat} (h : JRel2 w wr v ss k K) (hg : wr.grownBy w1 (some w.heap.size)) (hc : Cur w1 w.heap.size w.heap.size K') : JRel2 w w1 v ss k K' :=
  ⟨owns_far h.own (Nat.lt_succ_self _) hg, h.len, h.small, hc, h.below.grown hg h.below.size (fun k e => by cases e; exact Nat.le_refl _)⟩
/-- A part has been appended. -/
theorem JRel2.app {w w1 w2 : World} {v v' : Value} {ss : List ByteArray} {s : ByteArray} {k K : Nat} {o : Obj} (h : JRel2 w w1 v ss k K) (hs : s.size ≤ 4010)
    (hown : w2.ownsRow (w.heap.size + 1) 9 1 v' (ss.length + 1) (ss.map Value.string ++ [.string s])) (hg : (w1.alloc o).grownBy w2 v.ownBlock) : JRel2 w w2 v' (ss ++ [s]) (k + 1) K :=
  ⟨by simpa using hown, by simp [h.len], fun x hx => by
    rcases List.mem_append.1 hx with hx | hx
    · exact h.small x hx
    · rw [List.mem_singleton] at hx; rw [hx]; exact hs, (h.cur.alloc o).later hg (ownBlock_ne h.own (Nat.lt_succ_self _)) (fun j e => by have := (h.own.lt j e).1; omega),
   (h.below.alloc h.below.size o).grown hg (by have := h.below.size; simp; omega) (fun j e => by have := (h.own.lt j e).1; omega)⟩
/-- New memory. -/
theorem JRel2.new {w wr w1 : World} {v : Value} {ss : List ByteArray} {k K : Nat} (h : JRel2 w wr v ss k K) (hg : wr.grownBy w1 none) : JRel2 w w1 v ss k K :=
  ⟨h.own.kept hg (by cases v.ownBlock <;> simp), h.len, h.small, h.cur.later hg (by simp) (by simp), h.below.grown hg h.below.size (by simp)⟩

theorem conv_zero {w : World} {base n : Nat} {g : Nat} (h : w.ownsRow base 5 1 (.slice (some ⟨g, 0, none⟩) n n) n (madeCells (Value.int .u8 0).cells (n * 1)).toList) :
    (convert 22 9 (.slice (some ⟨g, 0, none⟩) n n)).run Try.prog w = .ok (.string ⟨Array.replicate n (0 : UInt8)⟩) w := by
  have c := run_convert_bytes_back (P := Try.prog) w 22 9 5 ⟨g, 0, none⟩ n (List.replicate n 0) Try.underlying22 Try.underlying5 Try.underlying9 (fun j hj => by
    have hj' : j < n := by simpa using hj
    have e : Addr.add ⟨g, 0, none⟩ j = ⟨g, j, none⟩ := by
      simp only [Addr.add]; split <;> simp_all
    rw [e, h.cellAt j (by omega)]
    have e2 : (Value.int .u8 0).cells = #[Value.int .u8 0] := rfl
    rw [e2, Nat.mul_one, toList_madeCells_one]
    simp [hj'])
  rw [List.length_replicate] at c
  simpa using c

theorem infoByte : (Try.prog.info? 5).map (fun i => (i.zero, i.size, i.bytes)) = some (some (.int .u8 0), 1, 1) := by kernel_rfl

def sepList2 : List ByteArray := [⟨#[44]⟩, ⟨#[59]⟩, ⟨#[59]⟩, ⟨#[]⟩, ⟨#[97, 98]⟩]
theorem sepList2_size : ∀ s ∈ sepList2, s.size ≤ 10 := by decide

set_option maxHeartbeats 1000000 in
theorem drawJoin_any (w : World) (v : Value) (n : Nat) (h : CodeV w v n w.heap.size) (hn : n ≤ 9223372036854775807) :
    Calls Try.prog 11 #[v] w fun e w' => JDraw w e w' := by
  obtain ⟨i0, hi, hz0, hz1, hz2⟩ := info_parts infoStr
  obtain ⟨j0, hj, hy0, hy1, hy2⟩ := info_parts infoByte
  obtain ⟨a, c, rfl⟩ := h.shape
  have R0 : JRel2 w ((w.alloc (.cells #[.slice a n c, .int .i64 0, .int .u64 0] 44)).alloc (.cells #[] 9)) (.slice (some ⟨w.heap.size + 1, 0, none⟩) 0 0) [] 0 0 :=
    ⟨by simpa using World.ownsRow_lit (base := w.heap.size + 1) (w.alloc (.cells #[.slice a n c, .int .i64 0, .int .u64 0] 44)) #[] 0 (by simp) (Nat.zero_le _) rfl, rfl, by simp, (cur_new h hn).alloc _, ((Below.refl _ _).alloc (Nat.le_refl _) _).alloc (by simp) _⟩
  have C0 := Lib.hid (pick_any _ _ _ _ 4 R0.cur (by omega) (by omega) (by omega))
  have HR0 := Lib.hid R0
  clear h R0
  go_enter Try.func11, Try.ntmps11
  go_wp2_with fail
  refine C0.out.mono ?_
  rintro e w1 ⟨r, rfl, hr0, hr1, hg, hc⟩
  have HR1 := Lib.hid (HR0.out.step hg hc)
  clear hg hc
  go_wp2_with fail
  go_loopw [5, 7] (fun o i wr => ∃ (k : Nat) (ss : List ByteArray), i = .int .i64 k ∧ (k : Int) ≤ r ∧ JRel2 w wr o ss k (0 + 2 + 2 * k)) (fun _ i _ => (r - intOf i).toNat)
  case atStart => exact ⟨0, [], rfl, by simpa using hr0, HR1.out⟩
  case round =>
    obtain ⟨k, ss, rfl, hkr, hrr⟩ := hrel
    have HR := Lib.hid hrr
    have hlen := hrr.len
    have hbs := hrr.below.size
    clear hrr
    by_cases hlt : (k : Int) < r
    · have C1 := Lib.hid (any1_any _ _ _ _ HR.out.cur (by omega))
      go_wp2_with fail
      refine C1.out.mono ?_
      rintro e w2 ⟨s, rfl, hs, hg, hc⟩
      have HR2 := Lib.hid (HR.out.step hg hc)
      have hown := HR2.out.own
      have hbs2 := HR2.out.below.size
      clear hg hc
      go_wp2_with (at_builtin; refine wpList_append_own _ rfl _ _ 26 rfl (w.heap.size + 1) 9 i0 (.string ByteArray.empty) 1 16 Try.underlying26 hi hz0 hz1 hz2 rfl (by decide) _ _ _ rfl (hown.alloc _) ⟨w2.heap.size, 0, none⟩ 1 1 [.string s] rfl rfl (cell_one_new _ _ _) (by simp [Value.oneCell']) (by unfold maxLen; omega) (by omega) (by have := HR2.out.cur.block.2; simp; omega) ?_; intro v' w3 hown' hgrow _)
      have HR3 := Lib.hid (HR2.out.app (by omega) hown' hgrow)
      clear hown hown' hgrow
      go_wp2
      go_roundw
      case rel => exact ⟨k + 1, _, by go_num, by omega, HR3.out⟩
      case measure => simp [intOf]; omega
    · have C1 := Lib.hid (one_any _ _ _ _ 20 HR.out.cur (by omega) (by omega) (by omega))
      go_wp2_with fail
      refine C1.out.mono ?_
      rintro e w2 ⟨q, rfl, hg, hc⟩
      have HR2 := Lib.hid (HR.out.step hg hc)
      clear hg hc
      cases q with
      | false =>
        have HR9 := HR2
        have C9 : Hid (Calls Try.prog 26 #[.pointer (some ⟨w.heap.size, 0, none⟩), .slice (some ⟨w2.heap.size, 0, none⟩) 5 5] (w2.alloc (.cells #[.string ⟨#[44]⟩, .string ⟨#[59]⟩, .string ⟨#[59]⟩, .string ⟨#[]⟩, .string ⟨#[97, 98]⟩] 9)) fun e w' => OfEnd w2 w.heap.size w.heap.size (0 + 2 + 2 * k + 2 + 2) sepList2 e w') := Lib.hid (ofLit_any w2 _ _ _ sepList2 HR9.out.cur (by omega) (by decide) (by decide))
        go_wp2_with fail
        refine C9.out.mono ?_
        rintro e wz ⟨t, rfl, ht, hgz, hcz⟩
        have HRz := Lib.hid (HR9.out.step hgz hcz)
        have HT := Lib.hid (sepList2_size t ht)
        clear ht hgz hcz
        go_wp2_with fail
        go_ret2
        exact ⟨_, _, _, rfl, HRz.out.own, by omega, HRz.out.small, HT.out, HRz.out.below⟩
      | true =>
        have C2 := Lib.hid (pick_any _ _ _ _ 20 HR2.out.cur (by omega) (by omega) (by omega))
        go_wp2_with fail
        refine C2.out.mono ?_
        rintro e w3 ⟨p, rfl, hp0, hp1, hg, hc⟩
        obtain ⟨m, rfl⟩ : ∃ m : Nat, p = (m : Int) := ⟨p.toNat, by omega⟩
        have HR3 := Lib.hid (HR2.out.step hg hc)
        clear hg hc
        have HZ : Hid ((ByteArray.mk (Array.replicate (3990 + m) (0 : UInt8))).size ≤ 4010) := Lib.hid (by show (Array.replicate (3990 + m) (0 : UInt8)).size ≤ 4010; simp; omega)
        go_wp2_with (first | (at_make; refine wpList_make_full _ rfl _ _ 22 rfl w3.heap.size 5 j0 (.int .u8 0) 1 Try.underlying22 hj hy0 hy1 .i64 .i64 _ _ (3990 + m) rfl rfl (by omega) (by omega) (by rw [hy2]; omega) (by unfold maxLen; omega) (Nat.le_refl _) ?_; intro w4 hown4 hg4; have hcv := conv_zero hown4; have HR4 := Lib.hid (HR3.out.new hg4); have hown := HR4.out.own; clear hown4 hg4) | (at_builtin; refine wpList_append_own _ rfl _ _ 26 rfl (w.heap.size + 1) 9 i0 (.string ByteArray.empty) 1 16 Try.underlying26 hi hz0 hz1 hz2 rfl (by decide) _ _ _ rfl (hown.alloc _) ⟨w4.heap.size, 0, none⟩ 1 1 [.string ⟨Array.replicate (3990 + m) 0⟩] rfl rfl (cell_one_new _ _ _) (by simp [Value.oneCell']) (by unfold maxLen; omega) (by omega) (by have := HR4.out.cur.block.2; simp; omega) ?_; intro v' w5 hown' hgrow _; have HR9 := Lib.hid (HR4.out.app HZ.out hown' hgrow); clear hown hown' hgrow))
        have C9 : Hid (Calls Try.prog 26 #[.pointer (some ⟨w.heap.size, 0, none⟩), .slice (some ⟨w5.heap.size, 0, none⟩) 5 5] (w5.alloc (.cells #[.string ⟨#[44]⟩, .string ⟨#[59]⟩, .string ⟨#[59]⟩, .string ⟨#[]⟩, .string ⟨#[97, 98]⟩] 9)) fun e w' => OfEnd w5 w.heap.size w.heap.size (0 + 2 + 2 * k + 2 + 2 + 2) sepList2 e w') := Lib.hid (ofLit_any w5 _ _ _ sepList2 HR9.out.cur (by omega) (by decide) (by decide))
        go_wp2_with fail
        refine C9.out.mono ?_
        rintro e wz ⟨t, rfl, ht, hgz, hcz⟩
        have HRz := Lib.hid (HR9.out.step hgz hcz)
        have HT := Lib.hid (sepList2_size t ht)
        clear ht hgz hcz
        go_wp2_with fail
        go_ret2
        exact ⟨_, _, _, rfl, HRz.out.own, by simp; omega, HRz.out.small, HT.out, HRz.out.below⟩

end Go.Proofs.Ytocenggbdnchfaa
