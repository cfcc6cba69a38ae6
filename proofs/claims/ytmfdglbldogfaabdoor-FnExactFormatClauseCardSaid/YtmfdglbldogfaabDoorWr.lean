/- The program writes the texts of terms into a buffer: a contract, for terms of at most 1048576 names' bytes and arguments. -/
import Derived.Test.YtmfdglbldogfaabDoorFmtE
import Derived.Test.YtmfdglbldogfaabDoorShelf
import Derived.Shelf.Bytes.BufferK
import Derived.Shelf.Bytes.String
import Derived.RangeFuncRecord
namespace Go.Proofs.YtmfdglbldogfaabDoor
open Go.RowKit
set_option linter.unusedVariables false

def IsBuf (B b : Nat) (l : List UInt8) (W : World) : Prop := Lib.IsBuffer 46 5 B b (Lib.byteCells l) W
/-- What stands while the buffer is written. -/
def Keep (B b : Nat) (W W' : World) : Prop := Below B W W' ∧ Lib.OthersKept 5 (some b) W W'
theorem Keep.refl (B b : Nat) (W : World) : Keep B b W W := ⟨Below.refl _ _, Lib.OthersKept.refl _ _ _⟩
theorem Keep.trans {B b : Nat} {W1 W2 W3 : World} (h : Keep B b W1 W2) (k : Keep B b W2 W3) : Keep B b W1 W3 := ⟨h.1.trans k.1, h.2.trans k.2⟩
theorem Keep.alloc {B b : Nat} {W1 W2 : World} (h : Keep B b W1 W2) (hB : B ≤ W2.heap.size) (o : Obj) : Keep B b W1 (W2.alloc o) := ⟨h.1.alloc hB o, h.2.alloc o⟩
theorem Keep.size {B b : Nat} {W1 W2 : World} (h : Keep B b W1 W2) (hB : B ≤ W1.heap.size) : B ≤ W2.heap.size := Nat.le_trans hB h.1.size

/-- A box that holds a term. -/
def BoxT (W : World) (g : Nat) (n : ByteArray) (v : Value) : Prop := W.heap[g]? = some (Obj.cells #[.string n, v] 49 (0, 0))
theorem BoxT.new (W : World) (n : ByteArray) (v : Value) : BoxT (W.alloc (.cells #[.string n, v] 49)) W.heap.size n v := World.alloc_heap_new W _
theorem BoxT.two {W : World} {g : Nat} {n : ByteArray} {v : Value} (h : BoxT W g n v) : Two W g (.string n) v := by
  have e : W.heap[g]? = _ := h
  exact ⟨by simp [World.cell?, e], by simp [World.cell?, e], fun j => by simp [World.frozen?, e]⟩
theorem BoxT.kept {B b g : Nat} {W W' : World} {n : ByteArray} {v : Value} (h : BoxT W g n v) (hg : g ≠ b) (hk : Keep B b W W') : BoxT W' g n v :=
  hk.2 g _ h (fun e => hg (by injection e)) (fun c fz e => by injection e with _ e2; cases e2)

/-- The slice value's elements can be read while the buffer is written. -/
def RowK (B b : Nat) (w0 W : World) (v : Value) (l : List Tm) : Prop :=
  ∃ a c, v = .slice a l.length c ∧ ∀ (k : Nat) (t : Tm), l[k]? = some t → ∃ g off va, a = some ⟨g, off, none⟩ ∧
    (∀ W', Keep B b W W' → W'.cell? ⟨g, off + k * 2, none⟩ = some (.string t.name) ∧ W'.cell? ⟨g, off + k * 2 + 1, none⟩ = some va) ∧ TmS w0 va t.args

theorem RowK.below {B b : Nat} {w0 W : World} {v : Value} {l : List Tm} (hv : TmS w0 v l) (hB : w0.heap.size = B) (hb : Below B w0 W) : RowK B b w0 W v l := by
  obtain ⟨a, c, rfl⟩ := hv.is_slice
  refine ⟨a, c, rfl, fun k t hk => ?_⟩
  obtain ⟨g, off, e, va, c0, c1, hva⟩ := hv.get hk
  subst hB
  exact ⟨g, off, va, e, fun W' hW' => ⟨carry_cell c0 (hb.trans hW'.1), carry_cell c1 (hb.trans hW'.1)⟩, hva⟩

theorem RowK.one {B b g c : Nat} {w0 W : World} {t : Tm} {va : Value} (hv : TmS w0 va t.args) (hx : BoxT W g t.name va) (hg : g ≠ b) : RowK B b w0 W (.slice (some ⟨g, 0, none⟩) 1 c) [t] := by
  refine ⟨_, c, rfl, fun k s hk => ?_⟩
  have hk0 : k = 0 ∧ s = t := by
    cases k with
    | zero => simp at hk; exact ⟨rfl, hk.symm⟩
    | succ k => simp at hk
  obtain ⟨rfl, rfl⟩ := hk0
  exact ⟨g, 0, va, rfl, fun W' hW' => by
    obtain ⟨h0, h1, _⟩ := (hx.kept hg hW').two
    exact ⟨by simpa using h0, by simpa using h1⟩, hv⟩

theorem wr_any (B b : Nat) (l : List UInt8) (s : ByteArray) (W : World) (h : IsBuf B b l W) (hB : B ≤ W.heap.size) (hlim : l.length + s.size ≤ 140737488355328) :
    Calls Tryd.prog 19 #[.pointer (some ⟨b, 0, none⟩), .string s] W fun e W' => e = .returned (.tuple #[.int .i64 s.size, .nilIface]) ∧ IsBuf B b (l ++ s.data.toList) W' ∧ Keep B b W W' := by
  refine (Tryd.Buffer_WriteString_k B b (Lib.byteCells l) s W h hB (Lib.byteCells_one _) (by rw [Lib.byteCells_length]; exact hlim)).mono ?_
  rintro e W' ⟨rfl, h1, h2, h3⟩
  refine ⟨rfl, ?_, h2, h3⟩
  unfold IsBuf
  rw [Lib.byteCells_append]
  exact h1

theorem sumL_lin : ∀ l : List Tm, sumL (fun s => 3 * s.wt + 10) l = 3 * sumL Tm.wt l + 10 * l.length
  | [] => by simp [sumL]
  | a :: r => by simp only [sumL, sumL_lin r, List.length_cons]; omega

def WriteL (l : List Tm) : Prop := ∀ (sep l0 : List UInt8) (B b : Nat) (w0 W : World) (v : Value), IsBuf B b l0 W → B ≤ W.heap.size → w0.heap.size = B → Below B w0 W → RowK B b w0 W v l → l.length + sumL Tm.wt l ≤ 2000000 → l0.length + (jn sep l).length ≤ 100000000000000 → sep.length ≤ 10 →
  Calls Tryd.prog 63 #[.pointer (some ⟨b, 0, none⟩), .string (bs sep), v] W fun e W' => e = .returned (.tuple #[]) ∧ IsBuf B b (l0 ++ jn sep l) W' ∧ Keep B b W W'

theorem isBuf_alloc {B b : Nat} {l : List UInt8} {W : World} (h : IsBuf B b l W) (o : Obj) : IsBuf B b l (W.alloc o) := Lib.IsBuffer.alloc h o

set_option maxRecDepth 100000 in
set_option maxHeartbeats 4000000 in
theorem write_of (l : List Tm) (h : ∀ s ∈ l, WriteL s.args) : WriteL l := by
  intro sep l0 B b w0 W v hbuf hB hw0 hbel hrow hw hl0 hsep
  have H := Lib.hid h
  have HLEN : Hid (∀ k, (jn sep (l.take k)).length ≤ (jn sep l).length) := Lib.hid (fun k => by
    have h1 := jn_len_append sep (l.take k) (l.drop k)
    rw [List.take_append_drop] at h1
    exact h1)
  have HW := Lib.hid (fun (s : Tm) (hs : s ∈ l) => sumL_mem (f := Tm.wt) hs)
  obtain ⟨a, c, rfl, hrow⟩ := hrow
  have HR := Lib.hid hrow
  have HBUF := Lib.hid hbuf
  have HBEL := Lib.hid hbel
  have hbB : B ≤ b := hbuf.1
  have hbs : b < W.heap.size := Lib.IsBuffer.lt hbuf
  have hsz : (bs sep).size ≤ 10 := by rw [bs_size]; exact hsep
  clear h hrow hbuf hbel
  go_enter Tryd.func63, Tryd.ntmps63
  go_wp2
  go_loopw [10] (fun i wr => ∃ k : Nat, k ≤ l.length ∧ i = .int .i64 k ∧ IsBuf B b (l0 ++ jn sep (l.take k)) wr ∧ Keep B b W wr) (fun i _ => l.length - (intOf i).toNat)
  case atStart => exact ⟨0, Nat.zero_le _, rfl, by simpa [jn] using HBUF.out, Keep.refl _ _ _⟩
  case round =>
    obtain ⟨k, hk, rfl, hbuf, hkeep⟩ := hrel
    have HU := Lib.hid hbuf
    have HK := Lib.hid hkeep
    have hBr : B ≤ wr.heap.size := hkeep.size hB
    have hbr : b < wr.heap.size := Lib.IsBuffer.lt hbuf
    clear hbuf hkeep
    by_cases hlt : k < l.length
    · obtain ⟨s, hs⟩ : ∃ s, l[k]? = some s := ⟨_, List.getElem?_eq_getElem hlt⟩
      obtain ⟨g, off, va, rfl, hcell, hva⟩ := HR.out k s hs
      obtain ⟨c0, c1⟩ := hcell wr HK.out
      obtain ⟨a', c', rfl⟩ := hva.is_slice
      have HVA := Lib.hid hva
      have HS := Lib.hid hs
      have hns : s.name.size ≤ 1000000000 := by have := Tm.wt_name s; have := HW.out s (mem_of_at hs); omega
      have hal : s.args.length ≤ 1000000000 := by have := Tm.wt_len s; have := HW.out s (mem_of_at hs); omega
      have hnl : s.name.data.toList.length = s.name.size := by rw [Array.length_toList]; rfl
      have hwa : s.args.length + sumL Tm.wt s.args ≤ 2000000 := by have := s.wt_eq; have := HW.out s (mem_of_at hs); omega
      have htl : s.txt.length ≤ 100000000 := by have := s.txt_wt; have := HW.out s (mem_of_at hs); omega
      have hjl := HLEN.out k
      have HREC := Lib.hid (H.out s (mem_of_at hs) [44])
      clear hs hcell hva
      have BX1 := Lib.hid (BoxT.new wr s.name (.slice a' s.args.length c'))
      have HU1 := Lib.hid (isBuf_alloc HU.out (.cells #[.string s.name, .slice a' s.args.length c'] 49))
      have HK1 := Lib.hid (HK.out.alloc hBr (.cells #[.string s.name, .slice a' s.args.length c'] 49))
      obtain ⟨W1, hW1⟩ : ∃ W1, wr.alloc (.cells #[.string s.name, .slice a' s.args.length c'] 49) = W1 := ⟨_, rfl⟩
      rw [hW1] at BX1 HU1 HK1
      have hne : wr.heap.size ≠ b := by omega
      have hB1 : B ≤ W1.heap.size := HK1.out.size hB
      obtain ⟨d0, d1, d2⟩ := BX1.out.two
      clear HU HK
      by_cases hk0 : k = 0
      · have hk0' : ¬ (0 : Int) < (k : Int) := by omega
        obtain ⟨W2, hW2⟩ : ∃ W2, W1 = W2 := ⟨_, rfl⟩
        obtain ⟨p, hp⟩ : ∃ p, p = l0 ++ jn sep (l.take k) := ⟨_, rfl⟩
        have HP : Hid (p ++ s.txt = l0 ++ jn sep (l.take (k + 1))) := Lib.hid (by
          have := HS.out
          subst hk0
          rw [hp, jn_first this]; simp [jn])
        have hpl : p.length + s.txt.length ≤ 100000000000000 := by have h := congrArg List.length HP.out; rw [List.length_append, List.length_append] at h; have := HLEN.out (k + 1); omega
        have HU2 : Hid (IsBuf B b p W2) := Lib.hid (by rw [hp, ← hW2]; exact HU1.out)
        have HK2 : Hid (Keep B b W W2) := Lib.hid (by rw [← hW2]; exact HK1.out)
        have BX2 : Hid (BoxT W2 wr.heap.size s.name (.slice a' s.args.length c')) := Lib.hid (by rw [← hW2]; exact BX1.out)
        have hB2 := HK2.out.size hB
        rw [hW2] at hW1
        clear hp HU1 HK1 BX1 d0 d1 d2 hk0
        obtain ⟨d0, d1, d2⟩ := BX2.out.two
        have HWN := Lib.hid (wr_any B b p s.name W2 HU2.out hB2 (by omega))
        go_wp2_with fail
        refine HWN.out.mono ?_
        rintro e W3 ⟨rfl, hu, hkk⟩
        have HU3 := Lib.hid hu
        have HK3 := Lib.hid (HK2.out.trans hkk)
        have BX3 := Lib.hid (BX2.out.kept hne hkk)
        have hB3 := HK3.out.size hB
        clear HU2 HK2 BX2 d0 d1 d2 hu hkk
        obtain ⟨d0, d1, d2⟩ := BX3.out.two
        by_cases h0 : 0 < s.args.length
        · have h0' : (0 : Int) < (s.args.length : Int) := by omega
          have HWO := Lib.hid (wr_any B b (p ++ s.name.data.toList) ⟨#[40]⟩ W3 HU3.out hB3 (by rw [List.length_append]; show _ + 1 ≤ _; omega))
          go_wp2_with fail
          refine HWO.out.mono ?_
          rintro e W4 ⟨rfl, hu, hkk⟩
          have HU4 := Lib.hid hu
          have HK4 := Lib.hid (HK3.out.trans hkk)
          have BX4 := Lib.hid (BX3.out.kept hne hkk)
          have hB4 := HK4.out.size hB
          clear HU3 HK3 BX3 d0 d1 d2 hu hkk
          obtain ⟨d0, d1, d2⟩ := BX4.out.two
          have HBW4 : Hid (Below B w0 W4) := Lib.hid (HBEL.out.trans HK4.out.1)
          go_wp2_with fail
          refine (HREC.out _ B b w0 W4 _ HU4.out hB4 hw0 HBW4.out (RowK.below HVA.out hw0 HBW4.out) hwa (by have h := congrArg List.length (Tm.txt_some h0); simp only [List.length_append, List.length_cons, List.length_nil] at h ⊢; show _ + 1 + _ ≤ _; omega) (by simp)).mono ?_
          rintro e W5 ⟨rfl, hu, hkk⟩
          have HU5 := Lib.hid hu
          have HK5 := Lib.hid (HK4.out.trans hkk)
          have hB5 := HK5.out.size hB
          clear HU4 HK4 BX4 d0 d1 d2 hu hkk
          have hjs : (jn [44] s.args).length ≤ 100000000 := by have := congrArg List.length (Tm.txt_some h0); simp only [List.length_append, List.length_cons, List.length_nil] at this; omega
          have HWC := Lib.hid (wr_any B b _ ⟨#[41]⟩ W5 HU5.out hB5 (by simp only [List.length_append, List.length_cons, List.length_nil]; show _ + 1 ≤ _; omega))
          go_wp2_with fail
          refine HWC.out.mono ?_
          rintro e W6 ⟨rfl, hu, hkk⟩
          have HU6 : Hid (IsBuf B b (l0 ++ jn sep (l.take (k + 1))) W6) := Lib.hid (by
            rw [← HP.out, Tm.txt_some h0]
            simpa using hu)
          have HK6 := Lib.hid (HK5.out.trans hkk)
          clear hu hkk
          go_wp2
          go_roundw
          case rel => exact ⟨k + 1, by omega, by go_num, HU6.out, HK6.out⟩
          case measure => simp [intOf]; omega
        · have h0' : ¬ (0 : Int) < (s.args.length : Int) := by omega
          have HU6 : Hid (IsBuf B b (l0 ++ jn sep (l.take (k + 1))) W3) := Lib.hid (by
            rw [← HP.out, Tm.txt_none (by omega)]
            exact HU3.out)
          go_wp2
          go_roundw
          case rel => exact ⟨k + 1, by omega, by go_num, HU6.out, HK3.out⟩
          case measure => simp [intOf]; omega
      · have hk0' : (0 : Int) < (k : Int) := by omega
        obtain ⟨p, hp⟩ : ∃ p, p = l0 ++ jn sep (l.take k) ++ sep := ⟨_, rfl⟩
        have HP : Hid (p ++ s.txt = l0 ++ jn sep (l.take (k + 1))) := Lib.hid (by rw [hp, jn_next HS.out (by omega)]; simp)
        have hpl : p.length + s.txt.length ≤ 100000000000000 := by have h := congrArg List.length HP.out; rw [List.length_append, List.length_append] at h; have := HLEN.out (k + 1); omega
        have HWS := Lib.hid (wr_any B b (l0 ++ jn sep (l.take k)) (bs sep) W1 HU1.out hB1 (by rw [List.length_append]; omega))
        rw [bs_list, ← hp] at HWS
        clear hk0
        go_wp2_with fail
        refine HWS.out.mono ?_
        rintro e W2 ⟨rfl, hu, hkk⟩
        have HU2 := Lib.hid hu
        have HK2 := Lib.hid (HK1.out.trans hkk)
        have BX2 := Lib.hid (BX1.out.kept hne hkk)
        have hB2 := HK2.out.size hB
        clear hp HU1 HK1 BX1 d0 d1 d2 hu hkk
        obtain ⟨d0, d1, d2⟩ := BX2.out.two
        have HWN := Lib.hid (wr_any B b p s.name W2 HU2.out hB2 (by omega))
        go_wp2_with fail
        refine HWN.out.mono ?_
        rintro e W3 ⟨rfl, hu, hkk⟩
        have HU3 := Lib.hid hu
        have HK3 := Lib.hid (HK2.out.trans hkk)
        have BX3 := Lib.hid (BX2.out.kept hne hkk)
        have hB3 := HK3.out.size hB
        clear HU2 HK2 BX2 d0 d1 d2 hu hkk
        obtain ⟨d0, d1, d2⟩ := BX3.out.two
        by_cases h0 : 0 < s.args.length
        · have h0' : (0 : Int) < (s.args.length : Int) := by omega
          have HWO := Lib.hid (wr_any B b (p ++ s.name.data.toList) ⟨#[40]⟩ W3 HU3.out hB3 (by rw [List.length_append]; show _ + 1 ≤ _; omega))
          go_wp2_with fail
          refine HWO.out.mono ?_
          rintro e W4 ⟨rfl, hu, hkk⟩
          have HU4 := Lib.hid hu
          have HK4 := Lib.hid (HK3.out.trans hkk)
          have BX4 := Lib.hid (BX3.out.kept hne hkk)
          have hB4 := HK4.out.size hB
          clear HU3 HK3 BX3 d0 d1 d2 hu hkk
          obtain ⟨d0, d1, d2⟩ := BX4.out.two
          have HBW4 : Hid (Below B w0 W4) := Lib.hid (HBEL.out.trans HK4.out.1)
          go_wp2_with fail
          refine (HREC.out _ B b w0 W4 _ HU4.out hB4 hw0 HBW4.out (RowK.below HVA.out hw0 HBW4.out) hwa (by have h := congrArg List.length (Tm.txt_some h0); simp only [List.length_append, List.length_cons, List.length_nil] at h ⊢; show _ + 1 + _ ≤ _; omega) (by simp)).mono ?_
          rintro e W5 ⟨rfl, hu, hkk⟩
          have HU5 := Lib.hid hu
          have HK5 := Lib.hid (HK4.out.trans hkk)
          have hB5 := HK5.out.size hB
          clear HU4 HK4 BX4 d0 d1 d2 hu hkk
          have hjs : (jn [44] s.args).length ≤ 100000000 := by have := congrArg List.length (Tm.txt_some h0); simp only [List.length_append, List.length_cons, List.length_nil] at this; omega
          have HWC := Lib.hid (wr_any B b _ ⟨#[41]⟩ W5 HU5.out hB5 (by simp only [List.length_append, List.length_cons, List.length_nil]; show _ + 1 ≤ _; omega))
          go_wp2_with fail
          refine HWC.out.mono ?_
          rintro e W6 ⟨rfl, hu, hkk⟩
          have HU6 : Hid (IsBuf B b (l0 ++ jn sep (l.take (k + 1))) W6) := Lib.hid (by
            rw [← HP.out, Tm.txt_some h0]
            simpa using hu)
          have HK6 := Lib.hid (HK5.out.trans hkk)
          clear hu hkk
          go_wp2
          go_roundw
          case rel => exact ⟨k + 1, by omega, by go_num, HU6.out, HK6.out⟩
          case measure => simp [intOf]; omega
        · have h0' : ¬ (0 : Int) < (s.args.length : Int) := by omega
          have HU6 : Hid (IsBuf B b (l0 ++ jn sep (l.take (k + 1))) W3) := Lib.hid (by
            rw [← HP.out, Tm.txt_none (by omega)]
            exact HU3.out)
          go_wp2
          go_roundw
          case rel => exact ⟨k + 1, by omega, by go_num, HU6.out, HK3.out⟩
          case measure => simp [intOf]; omega
    · have hke : k = l.length := by omega
      have HF : Hid (IsBuf B b (l0 ++ jn sep l) wr) := Lib.hid (by have h := HU.out; rw [hke, jn_all (Nat.le_refl _)] at h; exact h)
      go_wp2
      go_end0
      exact ⟨rfl, HF.out, HK.out⟩

theorem write_args (t : Tm) : WriteL t.args := Tm.ind (P := fun t => WriteL t.args) (fun t ih => write_of t.args ih) t
theorem write_any (l : List Tm) : WriteL l := write_of l fun s _ => write_args s

end Go.Proofs.YtmfdglbldogfaabDoor
