/- The program's copy of a term: a contract, for terms of at most 1048576 names' bytes and arguments. -/
import Derived.Test.YtppmiedhoimgmaaTo
namespace Go.Proofs.Ytppmiedhoimgmaa
open Go.RowKit
set_option linter.unusedVariables false

/-- What a copying loop has made after k rounds; the row lies at g, the blocks of the made terms from B on. -/
def CpRel (w W0 : World) (g : Nat) (wr : World) (l : List Tm) (k : Nat) : Prop :=
  ∃ xs f Ss, wr.ownsRow g 26 2 (.slice (some ⟨g, 0, none⟩) l.length l.length) l.length xs ∧ Made W0 wr xs l k f Ss ∧ (∀ i, i < k → ¬ Ss i g) ∧ Below w.heap.size w wr ∧ W0.heap.size ≤ wr.heap.size

theorem CpRel.next {w W0 wr w' : World} {g : Nat} {l : List Tm} {k : Nat} {t : Tm} {v' : Value} (h : CpRel w W0 g wr l k) (hgw : w.heap.size ≤ g) (ht : l[k]? = some t) (ho : TmO w' (Fresh wr w') v' t.args) (hb' : Below wr.heap.size wr w') (hg : g < wr.heap.size) :
    CpRel w W0 g ((w'.setCell ⟨g, k * 2, none⟩ (.string t.name)).setCell ⟨g, k * 2 + 1, none⟩ v') l (k + 1) := by
  obtain ⟨xs, f, Ss, hown, hm, hne, hb, hz⟩ := h
  have hlt : k < l.length := (List.getElem?_eq_some_iff.1 ht).1
  have h0 := hown.kept (grown_of_below hb' none) (.inr (by simp [Value.ownBlock]))
  have h1 := (h0.stored (k * 2) (.string t.name)).1
  have h2 := (h1.stored (k * 2 + 1) v').1
  have hl := hown.1
  refine ⟨_, _, _, h2, hm.next (va := v') (S := Fresh wr w') ht (fun i hi => ⟨?_, ?_⟩) ?_ ?_ ?_ (fun b hb => ⟨hb.1, by simp only [size_setCell]; exact hb.2⟩) (by simp only [size_setCell]; exact hb'.size) hz (fun i b hi hs => ?_), fun i hi => ?_, ?_, ?_⟩
  · rw [List.getElem?_set_ne (by omega), List.getElem?_set_ne (by omega)]
  · rw [List.getElem?_set_ne (by omega), List.getElem?_set_ne (by omega)]
  · rw [List.getElem?_set_ne (by omega), List.getElem?_set_self (by omega)]
  · rw [List.getElem?_set_self (by rw [List.length_set]; omega)]
  · exact (ho.setCell (fun h => by have := h.1; simp at this; omega) _).setCell (fun h => by have := h.1; simp at this; omega) _
  · have e : b ≠ g := fun e => hne i hi (e ▸ hs)
    rw [Below.heap_setCell _ _ _ _ (by simpa using e), Below.heap_setCell _ _ _ _ (by simpa using e)]
    exact hb'.block b (hm.sub i b hi hs).2
  · intro h
    by_cases e : i = k
    · simp only [if_pos e] at h; have := h.1; omega
    · simp only [if_neg e] at h; exact hne i (by omega) h
  · exact ((carry_below hb (Nat.le_refl _) hb').setCell hgw _).setCell hgw _
  · simp only [size_setCell]; exact Nat.le_trans hz hb'.size

def CopyT (t : Tm) : Prop := ∀ (w : World) (va : Value), TmS w va t.args → t.wt ≤ 1048576 →
  Calls Try.prog 55 #[.agg #[.string t.name, va]] w (ToEnd t w)

set_option maxRecDepth 100000 in
set_option maxHeartbeats 2000000 in
theorem copy_of (t : Tm) (h : ∀ s ∈ t.args, CopyT s) : CopyT t := by
  intro w va hv hw
  have H := Lib.hid h
  have HL := Lib.hid (fun (s : Tm) (hs : s ∈ t.args) => Nat.le_trans (Tm.wt_arg hs) hw)
  have hlen := Tm.wt_len t
  obtain ⟨a, c, rfl⟩ := hv.is_slice
  have HV := Lib.hid hv
  clear h hv
  by_cases h0 : t.args.length = 0
  · have h0b : ((t.args.length : Int) == 0) = true := by rw [h0]; rfl
    have HE : Hid (t.args = []) := Lib.hid (List.length_eq_zero_iff.1 h0)
    clear h0
    go_enter Try.func55, Try.ntmps55
    go_wp2
    refine bodyPost_ret (v := .agg #[.string t.name, .slice none 0 0]) (by simp [results, Try.results55, go_sem]) rfl ⟨_, rfl, by rw [HE.out]; exact .emp _ _ _, ?_⟩
    exact (((Below.refl _ _).alloc (Nat.le_refl _) _).alloc (by simp) _)
  · have h0b : ((t.args.length : Int) == 0) = false := by rw [beq_eq_false_iff_ne]; omega
    obtain ⟨i0, hi, hz0, hz1, hz2⟩ := info_parts infoTm
    have H2 := Lib.hid ((two_new w (.string t.name) (.slice a t.args.length c) 26 _ rfl).alloc (.cells #[.string ⟨#[]⟩, .slice none 0 0] 26))
    have R2 := Lib.hid (two_new (w.alloc (.cells #[.string t.name, .slice a t.args.length c] 26)) (.string ⟨#[]⟩) (.slice none 0 0) 26 (w.heap.size + 1) (by simp))
    have HB := Lib.hid (((Below.refl w.heap.size w).alloc (Nat.le_refl _) (.cells #[.string t.name, .slice a t.args.length c] 26)).alloc (by simp) (.cells #[.string ⟨#[]⟩, .slice none 0 0] 26))
    clear h0
    go_enter Try.func55, Try.ntmps55
    go_wp2_with (at_make; refine wpList_make_full _ rfl _ _ 24 rfl (w.heap.size + 1 + 1) 26 i0 (.agg #[.string ByteArray.empty, .slice none 0 0]) 2 Try.underlying24 hi hz0 hz1 .i64 .i64 _ _ t.args.length rfl rfl rfl rfl (by rw [hz2]; omega) (by unfold maxLen; omega) (by simp) ?_; intro w1 hown1 hg1; have HBD : Hid (Below ((w.alloc (.cells #[.string t.name, .slice a t.args.length c] 26)).alloc (.cells #[.string ⟨#[]⟩, .slice none 0 0] 26)).heap.size ((w.alloc (.cells #[.string t.name, .slice a t.args.length c] 26)).alloc (.cells #[.string ⟨#[]⟩, .slice none 0 0] 26)) w1) := Lib.hid ((Below.refl _ _).grown hg1 (Nat.le_refl _) (by simp)); have HOWN := Lib.hid hown1; clear hown1 hg1; obtain ⟨b0, b1, b2⟩ := H2.out.kept HBD.out)
    have hown1 := HOWN.out
    have HB1 := Lib.hid (carry_below HB.out (Nat.le_refl _) HBD.out)
    have H21 := Lib.hid (H2.out.kept HBD.out)
    have R21 := Lib.hid (R2.out.kept HBD.out)
    have hwz : ((w.alloc (.cells #[.string t.name, .slice a t.args.length c] 26)).alloc (.cells #[.string ⟨#[]⟩, .slice none 0 0] 26)).heap.size = w.heap.size + 1 + 1 := by simp
    rw [hwz] at hown1
    have HR0 : Hid (CpRel w ((w.alloc (.cells #[.string t.name, .slice a t.args.length c] 26)).alloc (.cells #[.string ⟨#[]⟩, .slice none 0 0] 26)) (w.heap.size + 1 + 1) w1 t.args 0) := Lib.hid ⟨_, _, _, hown1, Made.start _ _ _ _, fun i hi => absurd hi (Nat.not_lt_zero _), HB1.out, HBD.out.size⟩
    generalize hW0 : ((w.alloc (.cells #[.string t.name, .slice a t.args.length c] 26)).alloc (.cells #[.string ⟨#[]⟩, .slice none 0 0] 26)) = W0 at HR0
    have HWZ : Hid (W0.heap.size = w.heap.size + 1 + 1) := Lib.hid (by rw [← hW0]; simp)
    clear hown1 hwz hW0
    go_loopw [20] (fun i wr => ∃ k : Nat, k ≤ t.args.length ∧ i = .int .i64 k ∧ CpRel w W0 (w.heap.size + 1 + 1) wr t.args k ∧ Two wr w.heap.size (.string t.name) (.slice a t.args.length c) ∧ Two wr (w.heap.size + 1) (.string ⟨#[]⟩) (.slice none 0 0)) (fun i _ => t.args.length - (intOf i).toNat)
    case atStart => exact ⟨0, Nat.zero_le _, rfl, HR0.out, H21.out, R21.out⟩
    case round =>
      obtain ⟨k, hk, rfl, hrel, htwo, hres⟩ := hrel
      have HR := Lib.hid hrel
      have HTW := Lib.hid htwo
      have HRS := Lib.hid hres
      have HBE : Hid (Below w.heap.size w wr) := Lib.hid (by obtain ⟨_, _, _, _, _, _, hb, _⟩ := HR.out; exact hb)
      clear hrel htwo hres b0 b1 b2
      by_cases hlt : k < t.args.length
      · obtain ⟨s, hs⟩ : ∃ s, t.args[k]? = some s := ⟨_, List.getElem?_eq_getElem hlt⟩
        obtain ⟨b, off, rfl, va, c0, c1, hva⟩ := HV.out.get hs
        have c0' := carry_cell c0 HBE.out
        have c1' := carry_cell c1 HBE.out
        have HVA := Lib.hid (hva.kept HBE.out)
        have HS := Lib.hid hs
        obtain ⟨a', c', rfl⟩ := hva.is_slice
        clear hs c0 c1 hva
        go_wp2_with fail
        refine (H.out s (mem_of_at HS.out) _ _ (HVA.out.alloc _) (HL.out s (mem_of_at HS.out))).mono ?_
        rintro e w' ⟨v', rfl, ho, hb⟩
        obtain ⟨pv, cv, rfl⟩ := ho.read.is_slice
        have HBW : Hid (Below wr.heap.size wr w') := Lib.hid (carry_below ((Below.refl _ _).alloc (Nat.le_refl _) _) (Nat.le_refl _) hb)
        have HOW : Hid (TmO w' (Fresh wr w') (.slice pv s.args.length cv) s.args) := Lib.hid (ho.mono fun b hb => ⟨by have := hb.1; simp at this; omega, hb.2⟩)
        obtain ⟨x0, x1, hx0, hx1, hf, hg⟩ : ∃ x0 x1, wr.cell? ⟨w.heap.size + 1 + 1, k * 2, none⟩ = some x0 ∧ wr.cell? ⟨w.heap.size + 1 + 1, k * 2 + 1, none⟩ = some x1 ∧ (∀ j, wr.frozen? ⟨w.heap.size + 1 + 1, j, none⟩ = false) ∧ w.heap.size + 1 + 1 < wr.heap.size := by
          obtain ⟨xs, f, Ss, hown, hm, hne, hb, hz⟩ := HR.out
          have hl := hown.1
          have h0 := hown.cellAt (k * 2) (by omega)
          have h1 := hown.cellAt (k * 2 + 1) (by omega)
          rw [List.getElem?_eq_getElem (by omega)] at h0 h1
          exact ⟨_, _, h0, h1, fun j => hown.frozenAt j, World.block_lt_of_cell? wr _ h0⟩
        have hx0' := carry_cell hx0 HBW.out
        have hx1' := carry_cell hx1 HBW.out
        have hf0 : w'.frozen? ⟨w.heap.size + 1 + 1, k * 2, none⟩ = false := (HBW.out.frozen (p := ⟨w.heap.size + 1 + 1, k * 2, none⟩) hg).trans (hf _)
        have hf1 : w'.frozen? ⟨w.heap.size + 1 + 1, k * 2 + 1, none⟩ = false := (HBW.out.frozen (p := ⟨w.heap.size + 1 + 1, k * 2 + 1, none⟩) hg).trans (hf _)
        have hx2 : (w'.setCell ⟨w.heap.size + 1 + 1, k * 2, none⟩ (.string s.name)).cell? ⟨w.heap.size + 1 + 1, k * 2 + 1, none⟩ = some x1 := (World.cell?_setCell_other _ _ _ _ (by simp)).trans hx1'
        have hf2 : (w'.setCell ⟨w.heap.size + 1 + 1, k * 2, none⟩ (.string s.name)).frozen? ⟨w.heap.size + 1 + 1, k * 2 + 1, none⟩ = false := by rw [World.frozen?_setCell]; exact hf1
        have hel := ((two_new wr (.string s.name) (.slice a' s.args.length c') 26 _ rfl).kept hb)
        obtain ⟨l0, l1, l2⟩ := hel
        have HN := Lib.hid (HR.out.next (by omega) HS.out HOW.out HBW.out hg)
        have HTW2 : Hid (Two ((w'.setCell ⟨w.heap.size + 1 + 1, k * 2, none⟩ (.string s.name)).setCell ⟨w.heap.size + 1 + 1, k * 2 + 1, none⟩ (.slice pv s.args.length cv)) w.heap.size (.string t.name) (.slice (some ⟨b, off, none⟩) t.args.length c)) := Lib.hid (((HTW.out.kept HBW.out).setFar (by simp; omega) _).setFar (by simp; omega) _)
        have HRS2 : Hid (Two ((w'.setCell ⟨w.heap.size + 1 + 1, k * 2, none⟩ (.string s.name)).setCell ⟨w.heap.size + 1 + 1, k * 2 + 1, none⟩ (.slice pv s.args.length cv)) (w.heap.size + 1) (.string ⟨#[]⟩) (.slice none 0 0)) := Lib.hid (((HRS.out.kept HBW.out).setFar (by simp) _).setFar (by simp) _)
        clear hb ho hx0 hx1 c0' c1' hf
        go_wp2
        go_roundw
        case rel => exact ⟨k + 1, by omega, by go_num, HN.out, HTW2.out, HRS2.out⟩
        case measure => simp [intOf]; omega
      · have hke : k = t.args.length := by omega
        subst hke
        have HE : Hid (TmO wr (Fresh W0 wr) (.slice (some ⟨w.heap.size + 1 + 1, 0, none⟩) t.args.length t.args.length) t.args) := Lib.hid (by
          obtain ⟨xs, f, Ss, hown, hm, hne, hb, hz⟩ := HR.out
          exact Made.whole hown hm (by have := HWZ.out; omega) (fun g hg i hi => by simp [Value.ownBlock] at hg; subst hg; exact hne i hi))
        obtain ⟨b0, b1, b2⟩ := HTW.out
        obtain ⟨r0, r1, r2⟩ := HRS.out
        go_wp2
        refine bodyPost_ret (v := .agg #[.string t.name, .slice (some ⟨w.heap.size + 1 + 1, 0, none⟩) t.args.length t.args.length]) (by simp [results, Try.results55, go_sem, r0, r1]) rfl ⟨_, rfl, ?_, ?_⟩
        · refine ((HE.out.setCell (by have := HWZ.out; simp [Fresh]; omega) _).setCell (by have := HWZ.out; simp [Fresh]; omega) _).mono fun x hx => ?_
          have h1 := hx.1
          have h2 := hx.2
          have := HWZ.out
          exact ⟨by omega, by simp only [size_setCell]; omega⟩
        · exact (HBE.out.setCell (by simp) _).setCell (by simp) _

theorem copyTerm_any (t : Tm) : CopyT t := Tm.ind (P := CopyT) copy_of t

end Go.Proofs.Ytppmiedhoimgmaa
