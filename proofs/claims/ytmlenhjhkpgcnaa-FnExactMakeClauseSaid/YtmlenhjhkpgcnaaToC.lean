/- The laws' copying helper over substitutions: contracts, for bindings of at most 1048576 names' bytes, bindings and arguments. -/
import Derived.Test.YtmlenhjhkpgcnaaLt
import Derived.Test.YtmlenhjhkpgcnaaLit
namespace Go.Proofs.Ytmlenhjhkpgcnaa
open Go.RowKit
set_option linter.unusedVariables false

def ToCEnd (l : List Lt) (w : World) (e : Ending) (w' : World) : Prop :=
  ∃ v, e = .returned v ∧ LtO w' (Fresh w w') v l ∧ Below w.heap.size w w'

def ToRelC (w wr : World) (l : List Lt) (k : Nat) : Prop :=
  ∃ xs f Ss, wr.ownsRow w.heap.size 33 3 (.slice (some ⟨w.heap.size, 0, none⟩) l.length l.length) l.length xs ∧ MadeC w wr xs l k f Ss ∧ (∀ i, i < k → ¬ Ss i w.heap.size) ∧ Below w.heap.size w wr

theorem ToRelC.next {w wr w' : World} {l : List Lt} {k : Nat} {d : Lt} {v' : Value} {xs : List Value} {f : Nat → Value} {Ss : Nat → Nat → Prop}
    (hown : wr.ownsRow w.heap.size 33 3 (.slice (some ⟨w.heap.size, 0, none⟩) l.length l.length) l.length xs) (hm : MadeC w wr xs l k f Ss) (hne : ∀ i, i < k → ¬ Ss i w.heap.size) (hb : Below w.heap.size w wr)
    (ht : l[k]? = some d) (ho : TmO w' (Fresh wr w') v' d.tm.args) (hb' : Below wr.heap.size wr w') (hg : w.heap.size < wr.heap.size) :
    ToRelC w (((w'.setCell ⟨w.heap.size, k * 3, none⟩ (.bool d.var)).setCell ⟨w.heap.size, k * 3 + 1, none⟩ (.string d.tm.name)).setCell ⟨w.heap.size, k * 3 + 2, none⟩ v') l (k + 1) := by
  have hlt : k < l.length := (List.getElem?_eq_some_iff.1 ht).1
  have h0 := hown.kept (grown_of_below hb' none) (.inr (by simp [Value.ownBlock]))
  have h1 := (h0.stored (k * 3) (.bool d.var)).1
  have h2 := (h1.stored (k * 3 + 1) (.string d.tm.name)).1
  have h3 := (h2.stored (k * 3 + 2) v').1
  have hl := hown.1
  refine ⟨_, _, _, h3, hm.next (va := v') (S := Fresh wr w') ht (fun i hi => ⟨?_, ?_, ?_⟩) ?_ ?_ ?_ ?_ (fun b hb => ⟨hb.1, by simp only [size_setCell]; exact hb.2⟩) (by simp only [size_setCell]; exact hb'.size) hb.size (fun i b hi hs => ?_), fun i hi => ?_, ?_⟩
  · rw [List.getElem?_set_ne (by omega), List.getElem?_set_ne (by omega), List.getElem?_set_ne (by omega)]
  · rw [List.getElem?_set_ne (by omega), List.getElem?_set_ne (by omega), List.getElem?_set_ne (by omega)]
  · rw [List.getElem?_set_ne (by omega), List.getElem?_set_ne (by omega), List.getElem?_set_ne (by omega)]
  · rw [List.getElem?_set_ne (by omega), List.getElem?_set_ne (by omega), List.getElem?_set_self (by omega)]
  · rw [List.getElem?_set_ne (by omega), List.getElem?_set_self (by rw [List.length_set]; omega)]
  · rw [List.getElem?_set_self (by rw [List.length_set, List.length_set]; omega)]
  · exact ((ho.setCell (fun h => by have := h.1; simp at this; omega) _).setCell (fun h => by have := h.1; simp at this; omega) _).setCell (fun h => by have := h.1; simp at this; omega) _
  · have e : b ≠ w.heap.size := fun e => hne i hi (e ▸ hs)
    rw [Below.heap_setCell _ _ _ _ (by simpa using e), Below.heap_setCell _ _ _ _ (by simpa using e), Below.heap_setCell _ _ _ _ (by simpa using e)]
    exact hb'.block b (hm.sub i b hi hs).2
  · intro h
    by_cases e : i = k
    · simp only [if_pos e] at h; have := h.1; omega
    · simp only [if_neg e] at h; exact hne i (by omega) h
  · exact (((carry_below hb (Nat.le_refl _) hb').setCell (by simp) _).setCell (by simp) _).setCell (by simp) _

set_option maxRecDepth 100000 in
set_option maxHeartbeats 1000000 in
theorem toLiteralS_any (l : List Lt) (w : World) (v : Value) (hv : LtS w v l) (hw : wtC l ≤ 1048576) :
    Calls Try.prog 28 #[v] w (ToCEnd l w) := by
  obtain ⟨i0, hi, hz0, hz1, hz2⟩ := info_parts infoLt
  have hlen := wtC_len l
  rcases hv with ⟨a, c, rfl, rfl⟩ | ⟨b, off, c, rfl, hp, hat⟩
  · go_enter Try.func28, Try.ntmps28
    go_wp2_with (at_make; refine wpList_make_full _ rfl _ _ 42 rfl w.heap.size 33 i0 (.agg #[.bool false, .string ByteArray.empty, .slice none 0 0]) 3 Try.underlying42 hi hz0 hz1 .i64 .i64 _ _ 0 rfl rfl rfl rfl (by omega) (by decide) (Nat.le_refl _) ?_; intro w1 hown1 hg1)
    have HG : Hid (w.grownBy w1 none) := Lib.hid hg1
    clear hg1 hown1
    refine wp_loop_rounds 1 ?_
    rw [rounds_succ]
    go_wp2
    go_ret
    exact ⟨_, rfl, .inl ⟨_, _, rfl, rfl⟩, (Below.refl _ _).grown HG.out (Nat.le_refl _) (by simp)⟩
  · have HA := Lib.hid hat
    have HW := Lib.hid hw
    have hl6 : l.length ≤ 1048576 := Nat.le_trans hlen hw
    clear hat hw
    go_enter Try.func28, Try.ntmps28
    go_wp2_with (at_make; refine wpList_make_full _ rfl _ _ 42 rfl w.heap.size 33 i0 (.agg #[.bool false, .string ByteArray.empty, .slice none 0 0]) 3 Try.underlying42 hi hz0 hz1 .i64 .i64 _ _ l.length rfl rfl rfl rfl (by rw [hz2]; have := HW.out; omega) (by unfold maxLen; have := HW.out; omega) (Nat.le_refl _) ?_; intro w1 hown1 hg1)
    have HG : Hid (w.grownBy w1 none) := Lib.hid hg1
    have HO1 : Hid (w1.ownsRow w.heap.size 33 3 (.slice (some ⟨w.heap.size, 0, none⟩) l.length l.length) l.length _) := Lib.hid hown1
    clear hg1 hown1
    go_loopw [4] (fun i wr => ∃ k : Nat, k ≤ l.length ∧ i = .int .i64 k ∧ ToRelC w wr l k) (fun i _ => l.length - (intOf i).toNat)
    case atStart => exact ⟨0, Nat.zero_le _, rfl, _, _, _, HO1.out, MadeC.start _ _ _ _, fun i hi => absurd hi (Nat.not_lt_zero _), (Below.refl _ _).grown HG.out (Nat.le_refl _) (by simp)⟩
    case round =>
      obtain ⟨k, hk, rfl, hrel⟩ := hrel
      have HR : Hid (ToRelC w wr l k) := Lib.hid hrel
      clear hrel
      obtain ⟨xs, f, Ss, hown, hm, hne, hbel⟩ := HR.out
      have HB := Lib.hid hbel
      have HM := Lib.hid hm
      have HO := Lib.hid hown
      have HN := Lib.hid hne
      clear hbel hm hown hne
      by_cases hlt : k < l.length
      · obtain ⟨t, ht⟩ : ∃ t, l[k]? = some t := ⟨_, List.getElem?_eq_getElem hlt⟩
        obtain ⟨va, hc0, hc1, hc2, hva⟩ := HA.out k t ht
        have hc0' := carry_cell hc0 (by exact HB.out)
        have hc1' := carry_cell hc1 (by exact HB.out)
        have hc2' := carry_cell hc2 (by exact HB.out)
        have HV := Lib.hid (hva.kept HB.out)
        have HT : Hid (l[k]? = some t) := Lib.hid ht
        clear ht hc0 hc1 hc2 hva
        go_wp2_with fail
        refine (toLiteral_any t.var t.tm _ va HV.out (Nat.le_trans (wtC_tm (mem_of_at HT.out)) HW.out)).mono ?_
        rintro e w' ⟨v', rfl, ho, hb⟩
        obtain ⟨p', c', rfl⟩ := ho.read.is_slice
        have hlen := HO.out.1
        have hx0 := HO.out.cellAt (k * 3) (by omega)
        have hx1 := HO.out.cellAt (k * 3 + 1) (by omega)
        have hx2 := HO.out.cellAt (k * 3 + 2) (by omega)
        rw [List.getElem?_eq_getElem (by omega)] at hx0 hx1 hx2
        obtain ⟨x0, e0⟩ : ∃ x, x = xs[k * 3]'(by omega) := ⟨_, rfl⟩
        obtain ⟨x1, e1⟩ : ∃ x, x = xs[k * 3 + 1]'(by omega) := ⟨_, rfl⟩
        obtain ⟨x2, e2⟩ : ∃ x, x = xs[k * 3 + 2]'(by omega) := ⟨_, rfl⟩
        rw [← e0] at hx0
        rw [← e1] at hx1
        rw [← e2] at hx2
        have hx0' := carry_cell hx0 hb
        have hx1' := carry_cell hx1 hb
        have hx2' := carry_cell hx2 hb
        have hg : w.heap.size < wr.heap.size := World.block_lt_of_cell? _ _ hx0
        have hf : ∀ j, w'.frozen? ⟨w.heap.size, j, none⟩ = false := fun j => (hb.frozen (p := ⟨w.heap.size, j, none⟩) hg).trans (HO.out.frozenAt _)
        have hf0 := hf (k * 3)
        have hy1 : (w'.setCell ⟨w.heap.size, k * 3, none⟩ (.bool t.var)).cell? ⟨w.heap.size, k * 3 + 1, none⟩ = some x1 := (World.cell?_setCell_other _ _ _ _ (by simp)).trans hx1'
        have hf1 : (w'.setCell ⟨w.heap.size, k * 3, none⟩ (.bool t.var)).frozen? ⟨w.heap.size, k * 3 + 1, none⟩ = false := by rw [World.frozen?_setCell]; exact hf _
        have hy2 : ((w'.setCell ⟨w.heap.size, k * 3, none⟩ (.bool t.var)).setCell ⟨w.heap.size, k * 3 + 1, none⟩ (.string t.tm.name)).cell? ⟨w.heap.size, k * 3 + 2, none⟩ = some x2 := (World.cell?_setCell_other _ _ _ _ (by simp)).trans ((World.cell?_setCell_other _ _ _ _ (by simp)).trans hx2')
        have hf2 : ((w'.setCell ⟨w.heap.size, k * 3, none⟩ (.bool t.var)).setCell ⟨w.heap.size, k * 3 + 1, none⟩ (.string t.tm.name)).frozen? ⟨w.heap.size, k * 3 + 2, none⟩ = false := by rw [World.frozen?_setCell, World.frozen?_setCell]; exact hf _
        have HOT := Lib.hid ho
        have HBB := Lib.hid hb
        have HLN := Lib.hid hlen
        clear ho hb e0 e1 e2 hx0 hx1 hx2 hc0' hc1' hc2' hlen hf
        have HNX := Lib.hid (ToRelC.next HO.out HM.out HN.out HB.out HT.out HOT.out HBB.out hg)
        go_wp2
        go_roundw
        case rel => exact ⟨k + 1, by omega, by go_num, HNX.out⟩
        case measure => simp [intOf]; omega
      · have hke : k = l.length := by omega
        subst hke
        have HE : Hid (LtO wr (Fresh w wr) (.slice (some ⟨w.heap.size, 0, none⟩) l.length l.length) l) := Lib.hid (MadeC.whole HO.out HM.out (Nat.le_refl _) (fun g hg i hi => by
          simp [Value.ownBlock] at hg; subst hg; exact HN.out i hi))
        go_wp2
        go_ret
        exact ⟨_, rfl, HE.out, HB.out⟩

def ToClEnd (l : List Lt) (w : World) (e : Ending) (w' : World) : Prop :=
  ∃ v, e = .returned (.agg #[v]) ∧ LtO w' (Fresh w w') v l ∧ Below w.heap.size w w'

set_option maxRecDepth 100000 in
set_option maxHeartbeats 1000000 in
theorem toClause_any (l : List Lt) (w : World) (v : Value) (hv : LtS w v l) (hw : wtC l ≤ 1048576) :
    Calls Try.prog 21 #[.agg #[v]] w (ToClEnd l w) := by
  obtain ⟨pa, ca, rfl⟩ := hv.is_slice
  have HV := Lib.hid hv
  clear hv
  have HB := Lib.hid ((((Below.refl w.heap.size w).alloc (Nat.le_refl _) (.cells #[.slice pa l.length ca] 39)).alloc (by simp) (.cells #[.slice none 0 0] 44)).alloc (by simp; omega) (.cells #[.slice none 0 0] 44))
  have R2 := Lib.hid ((oner_new (w.alloc (.cells #[.slice pa l.length ca] 39)) (.slice none 0 0) 44 (w.heap.size + 1) (by simp)).alloc (.cells #[.slice none 0 0] 44))
  have O2 := Lib.hid (oner_new ((w.alloc (.cells #[.slice pa l.length ca] 39)).alloc (.cells #[.slice none 0 0] 44)) (.slice none 0 0) 44 (w.heap.size + 1 + 1) (by simp))
  go_enter Try.func21, Try.ntmps21
  go_wp2_with fail
  refine (toLiteralS_any l _ _ (HV.out.kept HB.out) hw).mono ?_
  rintro e w1 ⟨v1, rfl, ho, hb⟩
  obtain ⟨qv, qc, rfl⟩ := ho.read.is_slice
  have HB1 := Lib.hid (carry_below HB.out (Nat.le_refl _) hb)
  have HO := Lib.hid ho
  obtain ⟨r0, r3⟩ := R2.out.kept hb
  obtain ⟨o0, o3⟩ := O2.out.kept hb
  have hz := hb.size
  simp at hz
  clear ho hb
  have hne : w.heap.size + 1 + 1 ≠ w.heap.size + 1 := by omega
  have hne' : w.heap.size + 1 ≠ w.heap.size + 1 + 1 := by omega
  obtain ⟨W2, hW2⟩ : ∃ W2, (w1.setCell ⟨w.heap.size + 1 + 1, 0, none⟩ (.slice qv l.length qc)) = W2 := ⟨_, rfl⟩
  have p0 : W2.cell? ⟨w.heap.size + 1 + 1, 0, none⟩ = some (.slice qv l.length qc) := by rw [← hW2]; exact World.cell?_setCell_same _ _ _ o0
  have q0 : W2.cell? ⟨w.heap.size + 1, 0, none⟩ = some (.slice none 0 0) := by rw [← hW2, World.cell?_setCell_other _ _ _ _ (by simp)]; exact r0
  have q3 : ∀ j, W2.frozen? ⟨w.heap.size + 1, j, none⟩ = false := fun j => by rw [← hW2, World.frozen?_setCell]; exact r3 j
  have HB2 : Hid (Below w.heap.size w W2) := Lib.hid (by rw [← hW2]; exact HB1.out.setCell (by simp; omega) _)
  have HNR : Hid (LtO W2 (fun k => w.heap.size + 1 + 1 < k ∧ k < W2.heap.size) (.slice qv l.length qc) l) := Lib.hid (by
    rw [← hW2]
    refine (HO.out.setCell (fun h => by have := h.1; simp at this; omega) _).mono fun x hx => ⟨?_, ?_⟩
    · have := hx.1; simp at this; omega
    · simp only [size_setCell]; exact hx.2)
  go_wp2
  refine bodyPost_ret (v := .agg #[.slice qv l.length qc]) (by simp [results, Try.results21, go_sem, q0]) rfl ?_
  refine ⟨_, rfl, ?_, HB2.out.setCell (by simp) _⟩
  refine (HNR.out.setCell (fun h => by have h1 : w.heap.size + 1 + 1 < w.heap.size + 1 := h.1; omega) _).mono fun x hx => ⟨?_, ?_⟩
  · have := hx.1; omega
  · simp only [size_setCell]; exact hx.2

end Go.Proofs.Ytmlenhjhkpgcnaa
