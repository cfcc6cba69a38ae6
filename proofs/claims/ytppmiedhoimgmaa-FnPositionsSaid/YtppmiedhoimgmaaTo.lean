/- The laws' copying helper over terms: a contract, for terms of at most 1048576 names' bytes and arguments. -/
import Derived.Test.YtppmiedhoimgmaaTmO
namespace Go.Proofs.Ytppmiedhoimgmaa
open Go.RowKit
set_option linter.unusedVariables false

def ToEnd (t : Tm) (w : World) (e : Ending) (w' : World) : Prop :=
  ∃ va, e = .returned (.agg #[.string t.name, va]) ∧ TmO w' (Fresh w w') va t.args ∧ Below w.heap.size w w'
def ToT (t : Tm) : Prop := ∀ (w : World) (va : Value), TmS w va t.args → t.wt ≤ 1048576 →
  Calls Try.prog 37 #[.agg #[.string t.name, va]] w (ToEnd t w)

def ToLEnd (l : List Tm) (w : World) (e : Ending) (w' : World) : Prop :=
  ∃ v, e = .returned v ∧ TmO w' (Fresh w w') v l ∧ Below w.heap.size w w'
def ToL (l : List Tm) : Prop := ∀ (w : World) (v : Value), TmS w v l → l.length + sumL Tm.wt l ≤ 1048576 →
  Calls Try.prog 89 #[v] w (ToLEnd l w)

set_option maxHeartbeats 400000 in
theorem toTerm_of (t : Tm) (h : ToL t.args) : ToT t := by
  intro w va hv hw
  have HV : Hid (TmS w va t.args) := Lib.hid hv
  have HW : Hid (t.args.length + sumL Tm.wt t.args ≤ 1048576) := Lib.hid (by have := t.wt_eq; omega)
  have H : Hid (ToL t.args) := Lib.hid h
  clear hv hw h
  go_enter Try.func37, Try.ntmps37
  go_wp2_with fail
  refine (H.out _ va ?_ HW.out).mono ?_
  · exact ((HV.out.alloc _).alloc _).alloc _
  rintro e w' ⟨v', rfl, ho, hb⟩
  obtain ⟨p', c', rfl⟩ := ho.read.is_slice
  obtain ⟨a0, a1, a2⟩ := (((two_new w (.string t.name) va 60 _ rfl).alloc _).alloc _).kept hb
  obtain ⟨b0, b1, b2⟩ := ((two_new (w.alloc _) _ _ 26 (w.heap.size + 1) (by simp)).alloc _).kept hb
  obtain ⟨c0, c1, c2⟩ := (two_new ((w.alloc _).alloc _) _ _ 26 (w.heap.size + 1 + 1) (by simp)).kept hb
  have HO := Lib.hid ho
  have HB := Lib.hid hb
  have hz : w.heap.size + 3 ≤ w'.heap.size := by have := hb.size; simp at this; omega
  clear ho hb
  go_wp2
  refine bodyPost_ret (v := .agg #[.string t.name, .slice p' t.args.length c']) (by simp [results, Try.results37, go_sem, b0, b1]) rfl ⟨_, rfl, ?_, ?_⟩
  · refine (((HO.out.setCell (by simp [Fresh]; omega) _).setCell (by simp [Fresh]; omega) _).setCell (by simp [Fresh]; omega) _).mono fun k hk => ?_
    have h1 := hk.1
    have h2 := hk.2
    simp at h1
    exact ⟨by omega, by simp only [size_setCell]; omega⟩
  · exact (((carry_below ((((Below.refl _ _).alloc (Nat.le_refl _) _).alloc (by simp) _).alloc (by simp; omega) _) (Nat.le_refl _) HB.out).setCell (by simp; omega) _).setCell (by simp) _).setCell (by simp) _

def ToRel (w wr : World) (l : List Tm) (k : Nat) : Prop :=
  ∃ xs f Ss, wr.ownsRow w.heap.size 26 2 (.slice (some ⟨w.heap.size, 0, none⟩) l.length l.length) l.length xs ∧ Made w wr xs l k f Ss ∧ (∀ i, i < k → ¬ Ss i w.heap.size) ∧ Below w.heap.size w wr

theorem ToRel.next {w wr w' : World} {l : List Tm} {k : Nat} {t : Tm} {v' : Value} {xs : List Value} {f : Nat → Value} {Ss : Nat → Nat → Prop}
    (hown : wr.ownsRow w.heap.size 26 2 (.slice (some ⟨w.heap.size, 0, none⟩) l.length l.length) l.length xs) (hm : Made w wr xs l k f Ss) (hne : ∀ i, i < k → ¬ Ss i w.heap.size) (hb : Below w.heap.size w wr)
    (ht : l[k]? = some t) (ho : TmO w' (Fresh wr w') v' t.args) (hb' : Below wr.heap.size wr w') (hg : w.heap.size < wr.heap.size) :
    ToRel w ((w'.setCell ⟨w.heap.size, k * 2, none⟩ (.string t.name)).setCell ⟨w.heap.size, k * 2 + 1, none⟩ v') l (k + 1) := by
  have hlt : k < l.length := (List.getElem?_eq_some_iff.1 ht).1
  have h0 := hown.kept (grown_of_below hb' none) (.inr (by simp [Value.ownBlock]))
  have h1 := (h0.stored (k * 2) (.string t.name)).1
  have h2 := (h1.stored (k * 2 + 1) v').1
  have hl := hown.1
  refine ⟨_, _, _, h2, hm.next (va := v') (S := Fresh wr w') ht (fun i hi => ⟨?_, ?_⟩) ?_ ?_ ?_ (fun b hb => ⟨hb.1, by simp only [size_setCell]; exact hb.2⟩) (by simp only [size_setCell]; exact hb'.size) hb.size (fun i b hi hs => ?_), fun i hi => ?_, ?_⟩
  · rw [List.getElem?_set_ne (by omega), List.getElem?_set_ne (by omega)]
  · rw [List.getElem?_set_ne (by omega), List.getElem?_set_ne (by omega)]
  · rw [List.getElem?_set_ne (by omega), List.getElem?_set_self (by omega)]
  · rw [List.getElem?_set_self (by rw [List.length_set]; omega)]
  · exact (ho.setCell (fun h => by have := h.1; simp at this; omega) _).setCell (fun h => by have := h.1; simp at this; omega) _
  · have e : b ≠ w.heap.size := fun e => hne i hi (e ▸ hs)
    rw [Below.heap_setCell _ _ _ _ (by simpa using e), Below.heap_setCell _ _ _ _ (by simpa using e)]
    exact hb'.block b (hm.sub i b hi hs).2
  · intro h
    by_cases e : i = k
    · simp only [if_pos e] at h; have := h.1; omega
    · simp only [if_neg e] at h; exact hne i (by omega) h
  · exact ((carry_below hb (Nat.le_refl _) hb').setCell (by simp) _).setCell (by simp) _

set_option maxHeartbeats 400000 in
theorem toTermS_of (l : List Tm) (h : ∀ t ∈ l, ToT t) : ToL l := by
  intro w v hv hw
  have H : Hid (∀ t ∈ l, ToT t) := Lib.hid h
  clear h
  obtain ⟨i0, hi, hz0, hz1, hz2⟩ := info_parts infoTm
  rcases hv.parts with ⟨a, c, rfl, rfl⟩ | ⟨b, off, c, rfl, hp, hat⟩
  · clear hv
    go_enter Try.func89, Try.ntmps89
    go_wp2_with (at_make; refine wpList_make_full _ rfl _ _ 24 rfl w.heap.size 26 i0 (.agg #[.string ByteArray.empty, .slice none 0 0]) 2 Try.underlying24 hi hz0 hz1 .i64 .i64 _ _ 0 rfl rfl rfl rfl (by omega) (by decide) (Nat.le_refl _) ?_; intro w1 hown1 hg1)
    have HG : Hid (w.grownBy w1 none) := Lib.hid hg1
    clear hg1 hown1
    refine wp_loop_rounds 1 ?_
    rw [rounds_succ]
    go_wp2
    go_ret
    exact ⟨_, rfl, .emp _ _ _, (Below.refl _ _).grown HG.out (Nat.le_refl _) (by simp)⟩
  · have HA : Hid (∀ k t, l[k]? = some t → TmAt w b off k t) := Lib.hid hat
    clear hat hv
    go_enter Try.func89, Try.ntmps89
    go_wp2_with (at_make; refine wpList_make_full _ rfl _ _ 24 rfl w.heap.size 26 i0 (.agg #[.string ByteArray.empty, .slice none 0 0]) 2 Try.underlying24 hi hz0 hz1 .i64 .i64 _ _ l.length rfl rfl rfl rfl (by rw [hz2]; omega) (by unfold maxLen; omega) (Nat.le_refl _) ?_; intro w1 hown1 hg1)
    have HG : Hid (w.grownBy w1 none) := Lib.hid hg1
    have HO1 : Hid (w1.ownsRow w.heap.size 26 2 (.slice (some ⟨w.heap.size, 0, none⟩) l.length l.length) l.length _) := Lib.hid hown1
    clear hg1 hown1
    go_loopw [4] (fun i wr => ∃ k : Nat, k ≤ l.length ∧ i = .int .i64 k ∧ ToRel w wr l k) (fun i _ => l.length - (intOf i).toNat)
    case atStart => exact ⟨0, Nat.zero_le _, rfl, _, _, _, HO1.out, Made.start _ _ _ _, fun i hi => absurd hi (Nat.not_lt_zero _), (Below.refl _ _).grown HG.out (Nat.le_refl _) (by simp)⟩
    case round =>
      obtain ⟨k, hk, rfl, hrel⟩ := hrel
      have HR : Hid (ToRel w wr l k) := Lib.hid hrel
      clear hrel
      obtain ⟨xs, f, Ss, hown, hm, hne, hbel⟩ := HR.out
      have HB : Hid (Below w.heap.size w wr) := Lib.hid hbel
      have HM : Hid (Made w wr xs l k f Ss) := Lib.hid hm
      have HO : Hid (wr.ownsRow w.heap.size 26 2 (.slice (some ⟨w.heap.size, 0, none⟩) l.length l.length) l.length xs) := Lib.hid hown
      have HN : Hid (∀ i, i < k → ¬ Ss i w.heap.size) := Lib.hid hne
      clear hbel hm hown hne
      by_cases hlt : k < l.length
      · obtain ⟨t, ht⟩ : ∃ t, l[k]? = some t := ⟨_, List.getElem?_eq_getElem hlt⟩
        obtain ⟨va, hc0, hc1, hva⟩ := HA.out k t ht
        have hc0' := carry_cell hc0 (by exact HB.out)
        have hc1' := carry_cell hc1 (by exact HB.out)
        have HV : Hid (TmS wr va t.args) := Lib.hid (hva.kept HB.out)
        have HT : Hid (l[k]? = some t) := Lib.hid ht
        clear ht hc0 hc1 hva
        go_wp2_with fail
        refine (H.out t (mem_of_at HT.out) _ va HV.out (by have := sumL_mem (f := Tm.wt) (mem_of_at HT.out); omega)).mono ?_
        rintro e w' ⟨v', rfl, ho, hb⟩
        obtain ⟨p', c', rfl⟩ := ho.read.is_slice
        have hlen := HO.out.1
        have hx0 := HO.out.cellAt (k * 2) (by omega)
        have hx1 := HO.out.cellAt (k * 2 + 1) (by omega)
        rw [List.getElem?_eq_getElem (by omega)] at hx0 hx1
        obtain ⟨x0, e0⟩ : ∃ x, x = xs[k * 2]'(by omega) := ⟨_, rfl⟩
        obtain ⟨x1, e1⟩ : ∃ x, x = xs[k * 2 + 1]'(by omega) := ⟨_, rfl⟩
        rw [← e0] at hx0
        rw [← e1] at hx1
        have hx0' := carry_cell hx0 hb
        have hx1' := carry_cell hx1 hb
        have hg : w.heap.size < wr.heap.size := World.block_lt_of_cell? _ _ hx0
        have hf0 : w'.frozen? ⟨w.heap.size, k * 2, none⟩ = false := (hb.frozen (p := ⟨w.heap.size, k * 2, none⟩) hg).trans (HO.out.frozenAt _)
        have hf1 : w'.frozen? ⟨w.heap.size, k * 2 + 1, none⟩ = false := (hb.frozen (p := ⟨w.heap.size, k * 2 + 1, none⟩) hg).trans (HO.out.frozenAt _)
        have hx2 : (w'.setCell ⟨w.heap.size, k * 2, none⟩ (.string t.name)).cell? ⟨w.heap.size, k * 2 + 1, none⟩ = some x1 := (World.cell?_setCell_other _ _ _ _ (by simp)).trans hx1'
        have hf2 : (w'.setCell ⟨w.heap.size, k * 2, none⟩ (.string t.name)).frozen? ⟨w.heap.size, k * 2 + 1, none⟩ = false := by rw [World.frozen?_setCell]; exact hf1
        have HOT := Lib.hid ho
        have HBB := Lib.hid hb
        have HLN := Lib.hid hlen
        clear ho hb e0 e1 hx0 hx1 hc0' hc1' hlen
        have HNX := Lib.hid (ToRel.next HO.out HM.out HN.out HB.out HT.out HOT.out HBB.out hg)
        go_wp2
        go_roundw
        case rel => exact ⟨k + 1, by omega, by go_num, HNX.out⟩
        case measure => simp [intOf]; omega
      · have hke : k = l.length := by omega
        subst hke
        have HE : Hid (TmO wr (Fresh w wr) (.slice (some ⟨w.heap.size, 0, none⟩) l.length l.length) l) := Lib.hid (Made.whole HO.out HM.out (Nat.le_refl _) (fun g hg i hi => by
          simp [Value.ownBlock] at hg; subst hg; exact HN.out i hi))
        go_wp2
        go_ret
        exact ⟨_, rfl, HE.out, HB.out⟩

theorem toTerm_any (t : Tm) : ToT t := Tm.ind (P := ToT) (fun t ih => toTerm_of t (toTermS_of t.args ih)) t
end Go.Proofs.Ytppmiedhoimgmaa
