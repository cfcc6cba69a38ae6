/- The model's copy of a term: a contract, for terms of at most 1048576 names' bytes and arguments. -/
import Derived.Test.YtppmiedhoimgmaaTo
import Derived.Deep.AppendLies
import Derived.Deep.RegionLaw
namespace Go.Proofs.Ytppmiedhoimgmaa
open Go.RowKit
set_option linter.unusedVariables false

/-- What the copying loop has appended after k rounds: the blocks of the row and of the made terms lie from the world W0 on. -/
def OwnRel (w W0 wr : World) (v : Value) (l : List Tm) (k : Nat) : Prop :=
  ∃ xs f Ss, wr.ownsRow W0.heap.size 26 2 v k xs ∧ Made W0 wr xs l k f Ss ∧ (∀ g, v.ownBlock = some g → ∀ i, i < k → ¬ Ss i g) ∧ Below w.heap.size w wr ∧ W0.heap.size ≤ wr.heap.size

theorem OwnRel.row {w W0 wr : World} {v : Value} {l : List Tm} {k : Nat} (h : OwnRel w W0 wr v l k) : ∃ xs, wr.ownsRow W0.heap.size 26 2 v k xs := by
  obtain ⟨xs, f, Ss, h1, _⟩ := h; exact ⟨xs, h1⟩

/-- One term more: made, laid into a block of its own, appended, and the row's value stored. -/
theorem OwnRel.next {w W0 wr w' w'' : World} {v : Value} {l : List Tm} {k : Nat} {t : Tm} {v' : Value} {xs : List Value} {f : Nat → Value} {Ss : Nat → Nat → Prop} {g cap : Nat} {o : Obj} {a : Addr} {u : Value}
    (hw0 : w.heap.size ≤ W0.heap.size) (hb : Below w.heap.size w wr) (hown : wr.ownsRow W0.heap.size 26 2 v k xs) (hm : Made W0 wr xs l k f Ss) (hne : ∀ g, v.ownBlock = some g → ∀ i, i < k → ¬ Ss i g) (hz : W0.heap.size ≤ wr.heap.size)
    (ht : l[k]? = some t) (ho : TmO w' (Fresh wr w') v' t.args) (hb' : Below wr.heap.size wr w')
    (hown2 : w''.ownsRow W0.heap.size 26 2 (.slice (some ⟨g, 0, none⟩) (k + 1) cap) (k + 1) (xs ++ [.string t.name, v'])) (hgr : (w'.alloc o).grownBy w'' v.ownBlock) (hat : v.ownBlock = some g ∨ g = w'.heap.size + 1) (ha : a.block < W0.heap.size) (haw : w.heap.size ≤ a.block) :
    OwnRel w W0 (w''.setCell a u) (.slice (some ⟨g, 0, none⟩) (k + 1) cap) l (k + 1) := by
  have hl := hown.1
  have hold : ∀ b, v.ownBlock = some b → W0.heap.size ≤ b ∧ b < wr.heap.size := fun b hb => hown.lt b hb
  have hz' := hb'.size
  have hz2 := hgr.size
  have hsz : w''.heap.size ≥ w'.heap.size + 1 := by simpa using hz2
  refine ⟨_, _, _, ownsRow_setCell_below hown2 ha u, hm.next (va := v') (S := Fresh wr w') ht (fun i hi => ⟨?_, ?_⟩) ?_ ?_ ?_ (fun b hb => ⟨hb.1, by simp only [size_setCell]; have := hb.2; omega⟩) (by simp only [size_setCell]; omega) hz (fun i b hi hs => ?_), fun g' hg' i hi => ?_, ?_, ?_⟩
  · rw [List.getElem?_append_left (by omega)]
  · rw [List.getElem?_append_left (by omega)]
  · rw [List.getElem?_append_right (by omega), show k * 2 - xs.length = 0 by omega]; rfl
  · rw [List.getElem?_append_right (by omega), show k * 2 + 1 - xs.length = 1 by omega]; rfl
  · refine ((ho.frame fun b hb => ?_).setCell (fun h => by have := h.1; omega) _)
    rw [hgr.block b (by simp; have := hb.2; omega) (fun e => by have := hold b e.symm; have := hb.1; omega)]
    exact Below.heap_alloc _ _ _ hb.2
  · have h1 := hm.sub i b hi hs
    have hnb : some b ≠ v.ownBlock := fun e => hne b e.symm i hi hs
    rw [Below.heap_setCell _ _ _ _ (by omega), hgr.block b (by simp; omega) hnb, Below.heap_alloc _ _ _ (by omega)]
    exact hb'.block b h1.2
  · have e : g' = g := by simp [Value.ownBlock] at hg'; exact hg'.symm
    subst e
    intro h
    by_cases e : i = k
    · simp only [if_pos e] at h
      rcases hat with h1 | h1
      · have := hold g' h1; have := h.1; omega
      · have := h.2; omega
    · simp only [if_neg e] at h
      have h2 := hm.sub i g' (by omega) h
      rcases hat with h1 | h1
      · exact hne g' h1 i (by omega) h
      · omega
  · refine Below.setCell ((carry_below hb (Nat.le_refl _) hb').trans ⟨?_, ?_, ?_, ?_, fun b hb2 => ?_⟩) haw u
    · exact hgr.os
    · exact hgr.tape
    · exact hgr.output
    · omega
    · have := hb.size
      rw [hgr.block b (by simp; omega) (fun e => by have := hold b e.symm; omega), Below.heap_alloc _ _ _ (by omega)]
  · simp only [size_setCell]; omega

theorem OwnRel.whole {w W0 wr : World} {v : Value} {l : List Tm} (h : OwnRel w W0 wr v l l.length) : TmO wr (Fresh W0 wr) v l := by
  obtain ⟨xs, f, Ss, h1, h2, h3, h4, h5⟩ := h
  exact Made.whole h1 h2 (Nat.le_refl _) h3

theorem own_kept {w w' : World} {base : Nat} {e : TypeId} {size : Nat} {v : Value} {n : Nat} {xs : List Value} (h : w.ownsRow base e size v n xs) (hb : Below w.heap.size w w') : w'.ownsRow base e size v n xs := by
  refine h.kept (grown_of_below hb none) ?_
  cases v.ownBlock with
  | none => exact .inl rfl
  | some g => exact .inr (by simp)

theorem app_cell {w w' : World} {o : Obj} {row : Option Nat} (hg : (w.alloc o).grownBy w' row) {p : Addr} {u : Value} (hc : w.cell? p = some u) (hne : some p.block ≠ row) : w'.cell? p = some u :=
  hg.cell (carry_cell hc ((Below.refl _ _).alloc (Nat.le_refl _) o)) hne

theorem app_two {w w' : World} {o : Obj} {row : Option Nat} (hg : (w.alloc o).grownBy w' row) {b : Nat} {x y : Value} (h : Two w b x y) (hne : some b ≠ row) : Two w' b x y :=
  ⟨app_cell hg h.1 hne, app_cell hg h.2.1 hne, fun j => by
    have h1 := h.alloc o
    have hlt := World.block_lt_of_cell? (w.alloc o) ⟨b, 0, none⟩ h1.1
    exact (World.frozen?_of_block (w := w.alloc o) (a := ⟨b, j, none⟩) (hg.block b hlt hne)).trans (h1.2.2 j)⟩

theorem far_row {row : Option Nat} {B b : Nat} (h : ∀ g, row = some g → B ≤ g) (hb : b < B) : some b ≠ row := fun e => by have := h b e.symm; omega

def OwnT (t : Tm) : Prop := ∀ (w : World) (va : Value), TmS w va t.args → t.wt ≤ 1048576 →
  Calls Try.prog 127 #[.agg #[.string t.name, va]] w (ToEnd t w)

set_option maxRecDepth 100000 in
set_option maxHeartbeats 4000000 in
theorem own_of (t : Tm) (h : ∀ s ∈ t.args, OwnT s) : OwnT t := by
  intro w va hv hw
  have H := Lib.hid h
  have HL := Lib.hid (fun (s : Tm) (hs : s ∈ t.args) => Nat.le_trans (Tm.wt_arg hs) hw)
  have hlen := Tm.wt_len t
  obtain ⟨a, c, rfl⟩ := hv.is_slice
  have HV := Lib.hid hv
  obtain ⟨i0, hi, hz0, hz1, hz2⟩ := info_parts infoTm
  have H2 := Lib.hid (((two_new w (.string t.name) (.slice a t.args.length c) 26 _ rfl).alloc (.cells #[.string ⟨#[]⟩, .slice none 0 0] 26)).alloc (.cells #[.string t.name, .slice none 0 0] 26))
  have R2 := Lib.hid ((two_new (w.alloc (.cells #[.string t.name, .slice a t.args.length c] 26)) (.string ⟨#[]⟩) (.slice none 0 0) 26 (w.heap.size + 1) (by simp)).alloc (.cells #[.string t.name, .slice none 0 0] 26))
  have O2 := Lib.hid (two_new ((w.alloc (.cells #[.string t.name, .slice a t.args.length c] 26)).alloc (.cells #[.string ⟨#[]⟩, .slice none 0 0] 26)) (.string t.name) (.slice none 0 0) 26 (w.heap.size + 1 + 1) (by simp))
  have HB := Lib.hid ((((Below.refl w.heap.size w).alloc (Nat.le_refl _) (.cells #[.string t.name, .slice a t.args.length c] 26)).alloc (by simp) (.cells #[.string ⟨#[]⟩, .slice none 0 0] 26)).alloc (by simp; omega) (.cells #[.string t.name, .slice none 0 0] 26))
  obtain ⟨W0, hW0⟩ : ∃ W0, W0 = ((w.alloc (.cells #[.string t.name, .slice a t.args.length c] 26)).alloc (.cells #[.string ⟨#[]⟩, .slice none 0 0] 26)).alloc (.cells #[.string t.name, .slice none 0 0] 26) := ⟨_, rfl⟩
  have HWZ : Hid (W0.heap.size = w.heap.size + 3) := Lib.hid (by rw [hW0]; simp)
  have HR0 : Hid (OwnRel w W0 (((w.alloc (.cells #[.string t.name, .slice a t.args.length c] 26)).alloc (.cells #[.string ⟨#[]⟩, .slice none 0 0] 26)).alloc (.cells #[.string t.name, .slice none 0 0] 26)) (.slice none 0 0) t.args 0) := Lib.hid ⟨_, _, _, World.ownsRow_nil _ _ _ _, Made.start _ _ _ _, fun g hg => by simp [Value.ownBlock] at hg, HB.out, by rw [hW0]; exact Nat.le_refl _⟩
  clear h hv hW0
  go_enter Try.func127, Try.ntmps127
  go_wp2
  go_loopw [4] (fun i wr => ∃ (k : Nat) (v : Value), k ≤ t.args.length ∧ i = .int .i64 k ∧ OwnRel w W0 wr v t.args k ∧ Two wr w.heap.size (.string t.name) (.slice a t.args.length c) ∧ Two wr (w.heap.size + 1) (.string ⟨#[]⟩) (.slice none 0 0) ∧ Two wr (w.heap.size + 1 + 1) (.string t.name) v) (fun i _ => t.args.length - (intOf i).toNat)
  case atStart => exact ⟨0, _, Nat.zero_le _, rfl, HR0.out, H2.out, R2.out, O2.out⟩
  case round =>
    obtain ⟨k, v, hk, rfl, hrel, htwo, hres, hout⟩ := hrel
    have HR := Lib.hid hrel
    have HTW := Lib.hid htwo
    have HRS := Lib.hid hres
    have HOU := Lib.hid hout
    obtain ⟨xs, f, Ss, hown, hm, hne, hbe, hz⟩ := hrel
    have HOWN := Lib.hid hown
    have HM := Lib.hid hm
    have HNE := Lib.hid hne
    have HBE := Lib.hid hbe
    have HZ := Lib.hid hz
    obtain ⟨d0, d1, d2⟩ := htwo
    obtain ⟨o0, o1, o2⟩ := hout
    clear hown hm hne hbe hz hres
    by_cases hlt : k < t.args.length
    · obtain ⟨s, hs⟩ : ∃ s, t.args[k]? = some s := ⟨_, List.getElem?_eq_getElem hlt⟩
      obtain ⟨b, off, rfl, va, c0, c1, hva⟩ := HV.out.get hs
      have c0' := carry_cell c0 HBE.out
      have c1' := carry_cell c1 HBE.out
      have HVA := Lib.hid (hva.kept HBE.out)
      have HS := Lib.hid hs
      have HLB : Hid (b < w.heap.size) := Lib.hid (World.block_lt_of_cell? w _ c0)
      clear hs c0 c1 hva
      have C0 : Hid (∀ W : World, Below wr.heap.size wr W → Calls Try.prog 127 #[.agg #[.string s.name, va]] W (ToEnd s W)) := Lib.hid (fun W hW => H.out s (mem_of_at HS.out) W _ (HVA.out.kept hW) (HL.out s (mem_of_at HS.out)))
      have hB0 : Below wr.heap.size wr wr.drew := (Below.refl _ _).drew
      have hWZ : w.heap.size + 1 + 1 < W0.heap.size := by have := HWZ.out; omega
      have hWa : w.heap.size < W0.heap.size := by omega
      have hWb : b < W0.heap.size := by have := HLB.out; omega
      have HFAR : Hid (∀ g, v.ownBlock = some g → W0.heap.size ≤ g) := Lib.hid (fun g hg => (HOWN.out.lt g hg).1)
      go_wp2_with fail
      go_region_law (first
          | (refine step_append_lies _ (by rfl) _ _ _ (by rfl) W0.heap.size 26 i0 _ 2 40 Try.underlying24 hi hz0 hz1 hz2 rfl (by omega) v k xs (by rfl) (HW6.out.alloc _) ⟨w6.heap.size, 0, none⟩ 1 1 [.string s.name, .slice pv s.args.length cv] (by rfl) (by rfl) (World.news_of_block (cs := #[.string s.name, .slice pv s.args.length cv]) (t := 26) (fr := (0, 0)) (heap_alloc_new w6 _)) (by simp [Value.oneCell']) (by omega) (by unfold maxLen; omega) (by omega) (by have := hB6.size; have := HZ.out; simp; omega) (w6.heap.size + 1) (by simp) ?_; intro gg cap w7 hown7 hgrow hat hlt7; have s0 := app_cell hgrow q0 (far_row HFAR.out hWa); have s1 := app_cell hgrow q1 (far_row HFAR.out hWZ); have s2 := app_cell hgrow q2 (far_row HFAR.out hWb); have s3 := app_cell hgrow q3 (far_row HFAR.out hWb); have s4 := (app_two hgrow O6.out (far_row HFAR.out hWZ)).2.2; have HOWN7 := Lib.hid hown7; have HGROW7 := Lib.hid hgrow; have HAT7 := Lib.hid hat; clear hown7 hgrow hat)
          | (go_simp; go_at_call 127; refine (C0.out _ hB0).mono ?_; rintro e w6 ⟨v6, rfl, ho, hb⟩; have q0 := carry_cell' hb d1; have q1 := carry_cell' hb o1; have q2 := carry_cell' hb c0'; have q3 := carry_cell' hb c1'; have hB6 := carry_below hB0 (Nat.le_refl _) hb; obtain ⟨pv, cv, rfl⟩ := ho.read.is_slice; have HO6 := Lib.hid ho; have HW6 := Lib.hid (own_kept HOWN.out hB6); have T6 := Lib.hid (HTW.out.kept hB6); have R6 := Lib.hid (HRS.out.kept hB6); have O6 := Lib.hid (HOU.out.kept hB6); have hz6 : w.heap.size + 1 + 1 < w6.heap.size := World.block_lt_of_cell? w6 _ q1; clear hb ho))
      all_goals
        have HN : Hid (OwnRel w W0 (w7.setCell ⟨w.heap.size + 1 + 1, 1, none⟩ (.slice (some ⟨gg, 0, none⟩) (k + 1) cap)) (.slice (some ⟨gg, 0, none⟩) (k + 1) cap) t.args (k + 1)) := Lib.hid (OwnRel.next (by omega) HBE.out HOWN.out HM.out HNE.out HZ.out HS.out HO6.out hB6 HOWN7.out HGROW7.out HAT7.out hWZ (by simp; omega))
        have HT7 : Hid (Two (w7.setCell ⟨w.heap.size + 1 + 1, 1, none⟩ (.slice (some ⟨gg, 0, none⟩) (k + 1) cap)) w.heap.size (.string t.name) (.slice (some ⟨b, off, none⟩) t.args.length c)) := Lib.hid ((app_two HGROW7.out T6.out (far_row HFAR.out hWa)).setFar (by simp; omega) _)
        have HS7 : Hid (Two (w7.setCell ⟨w.heap.size + 1 + 1, 1, none⟩ (.slice (some ⟨gg, 0, none⟩) (k + 1) cap)) (w.heap.size + 1) (.string ⟨#[]⟩) (.slice none 0 0)) := Lib.hid ((app_two HGROW7.out R6.out (far_row HFAR.out (by omega))).setFar (by simp) _)
        have HO7 : Hid (Two (w7.setCell ⟨w.heap.size + 1 + 1, 1, none⟩ (.slice (some ⟨gg, 0, none⟩) (k + 1) cap)) (w.heap.size + 1 + 1) (.string t.name) (.slice (some ⟨gg, 0, none⟩) (k + 1) cap)) := Lib.hid ((app_two HGROW7.out O6.out (far_row HFAR.out hWZ)).setOne _)
        clear s0 s1 s2 s3 s4 q0 q1 q2 q3 d0 d1 d2 o0 o1 o2 c0' c1' hB0 hB6
        go_wp2
        go_roundw
        case rel => exact ⟨k + 1, _, by omega, by go_num, HN.out, HT7.out, HS7.out, HO7.out⟩
        case measure => simp [intOf]; omega
    · have hke : k = t.args.length := by omega
      subst hke
      have HE := Lib.hid HR.out.whole
      have HVS : ∃ p q, v = .slice p t.args.length q := by
        obtain ⟨p, q, e⟩ := HR.out.whole.read.is_slice; exact ⟨p, q, e⟩
      obtain ⟨p, q, rfl⟩ := HVS
      obtain ⟨r0, r1, r2⟩ := HRS.out
      go_wp2
      refine bodyPost_ret (v := .agg #[.string t.name, .slice p t.args.length q]) (by simp [results, Try.results127, go_sem, r0, r1]) rfl ⟨_, rfl, ?_, ?_⟩
      · refine ((HE.out.setCell (by have := HWZ.out; simp [Fresh]; omega) _).setCell (by have := HWZ.out; simp [Fresh]; omega) _).mono fun x hx => ?_
        have h1 := hx.1
        have h2 := hx.2
        have := HWZ.out
        exact ⟨by omega, by simp only [size_setCell]; omega⟩
      · exact (HBE.out.setCell (by simp) _).setCell (by simp) _

theorem l2Own_any (t : Tm) : OwnT t := Tm.ind (P := OwnT) own_of t

end Go.Proofs.Ytppmiedhoimgmaa
