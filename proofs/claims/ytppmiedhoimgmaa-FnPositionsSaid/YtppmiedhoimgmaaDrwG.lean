/- Several texts in one: each says what it proves. No condition but theirs. -/
import Derived.Test.YtppmiedhoimgmaaDrT
import Derived.Test.YtppmiedhoimgmaaInS
import Derived.Deep.AppendLies
import Derived.Test.YtppmiedhoimgmaaSink
import Derived.Deep.RegionLaw
import Derived.Deep.Cut
import Derived.Deep.CutRange
/- Drawn small terms and atoms: contracts, for a cursor of at most 900000 steps. -/
namespace Go.Proofs.Ytppmiedhoimgmaa
open Go.RowKit
set_option linter.unusedVariables false
set_option linter.unusedSimpArgs false

theorem cg_mono {d : Nat} (h : d ≤ 3) : cg d ≤ 74 := by
  match d, h with
  | 0, _ => decide
  | 1, _ => decide
  | 2, _ => decide
  | 3, _ => decide
theorem wg_mono {d : Nat} (h : d ≤ 3) : wg d ≤ 29 := by
  match d, h with
  | 0, _ => decide
  | 1, _ => decide
  | 2, _ => decide
  | 3, _ => decide

set_option maxRecDepth 100000 in
set_option maxHeartbeats 1000000 in
theorem term_any (w : World) (B b K : Nat) (hc : Cur w B b K) (hK : K + 76 ≤ 900000) :
    Calls Try.prog 75 #[.pointer (some ⟨b, 0, none⟩)] w (DrE w B b (K + 76) 29) := by
  have hbb := hc.block
  obtain ⟨WA, hWA⟩ : ∃ W, W = w.alloc (.cells #[.string ⟨#[]⟩, .slice none 0 0] 26) := ⟨_, rfl⟩
  have HRA : Hid (Two WA w.heap.size (.string ⟨#[]⟩) (.slice none 0 0)) := Lib.hid (by rw [hWA]; exact two_new w _ _ 26 _ rfl)
  have HGA : Hid ((w.alloc (.cells #[.string ⟨#[]⟩, .slice none 0 0] 26)).grownBy WA (some b)) := Lib.hid (by rw [hWA]; exact grown_refl _ _)
  have HZA : Hid (WA.heap.size = w.heap.size + 1) := Lib.hid (by rw [hWA]; simp)
  have HCA : Hid (Cur WA B b K) := Lib.hid (by rw [hWA]; exact hc.alloc _)
  have hnb : w.heap.size ≠ b := by omega
  clear hc
  go_enter Try.func75, Try.ntmps75
  have C1 := Lib.hid (pick_any WA B b (K) 3 HCA.out (by omega) (by omega) (by omega))
  go_wp2_with fail
  try rw [← hWA]
  clear hWA
  refine C1.out.mono ?_
  rintro e w1 ⟨r, rfl, hr0, hr1, hg, hc⟩
  have HG1 := Lib.hid (grown_step HGA.out hg)
  have HC1 := Lib.hid hc
  have HR1 := Lib.hid (two_grown HRA.out hg hnb)
  have hz1 := hg.size
  have hb1 := hc.block
  clear hg hc C1
  obtain ⟨d, hd⟩ : ∃ d : Nat, 1 + r = (d : Int) := ⟨(1 + r).toNat, by omega⟩
  have hd3 : d ≤ 3 := by omega
  have hcd := cg_mono hd3
  have hwd := wg_mono hd3
  have HD := Lib.hid hd
  clear hd
  have C2 := Lib.hid (grown_any d (1 + r) w1 B b (K + 2) HD.out (by omega) HC1.out (by omega))
  go_wp2_with fail
  refine C2.out.mono ?_
  rintro e w2 ⟨t, vt, rfl, ht, hwt, hg, hc⟩
  have HG2 := Lib.hid (grown_step HG1.out hg)
  have HC2 := Lib.hid hc
  have HR2 := Lib.hid (two_grown HR1.out hg hnb)
  have hz2 := hg.size
  have hb2 := hc.block
  obtain ⟨pt, ct, rfl⟩ := ht.slice
  have HTt := Lib.hid ht
  have HGot := Lib.hid hg
  have hw0t : w.heap.size < w1.heap.size := by have := HZA.out; omega
  clear ht hg hc C2
  obtain ⟨X, Y, hX, hY⟩ : ∃ X Y : Value, X = .string t.name ∧ Y = .slice pt t.args.length ct := ⟨_, _, rfl, rfl⟩
  have HTX := Lib.hid (HTt.out.setTwo hw0t X Y)
  have HGX := Lib.hid (fin_grown HG2.out X Y)
  have HCX := Lib.hid (fin_cur HC2.out hnb (by omega) X Y)
  have HRX := Lib.hid ((HR2.out.setNil X).setOne Y)
  subst hX hY
  obtain ⟨r0, r1, r2⟩ := HR2.out
  have hrl : w.heap.size < w2.heap.size := World.block_lt_of_cell? _ ⟨w.heap.size, 0, none⟩ r0
  go_wp2
  clear r0 r1 r2
  obtain ⟨r0, r1, r2⟩ := HRX.out
  refine bodyPost_ret (v := .agg #[.string t.name, .slice pt t.args.length ct]) (by simp [results, Try.results75, go_sem, r0, r1]) rfl ?_
  exact dr_fin (t := t) HTX.out (by have := HZA.out; omega) (by omega) HGX.out HCX.out (by omega)

set_option maxRecDepth 100000 in
set_option maxHeartbeats 1000000 in
theorem atom_any (w : World) (B b K : Nat) (hc : Cur w B b K) (hK : K + 154 ≤ 900000) :
    Calls Try.prog 117 #[.pointer (some ⟨b, 0, none⟩)] w (DrE w B b (K + 154) 61) := by
  have hbb := hc.block
  obtain ⟨WA, hWA⟩ : ∃ W, W = w.alloc (.cells #[.string ⟨#[]⟩, .slice none 0 0] 26) := ⟨_, rfl⟩
  have HRA : Hid (Two WA w.heap.size (.string ⟨#[]⟩) (.slice none 0 0)) := Lib.hid (by rw [hWA]; exact two_new w _ _ 26 _ rfl)
  have HGA : Hid ((w.alloc (.cells #[.string ⟨#[]⟩, .slice none 0 0] 26)).grownBy WA (some b)) := Lib.hid (by rw [hWA]; exact grown_refl _ _)
  have HZA : Hid (WA.heap.size = w.heap.size + 1) := Lib.hid (by rw [hWA]; simp)
  have HCA : Hid (Cur WA B b K) := Lib.hid (by rw [hWA]; exact hc.alloc _)
  have hnb : w.heap.size ≠ b := by omega
  clear hc
  go_enter Try.func117, Try.ntmps117
  have C1 := Lib.hid (pick_any WA B b (K) 8 HCA.out (by omega) (by omega) (by omega))
  go_wp2_with fail
  try rw [← hWA]
  clear hWA
  refine C1.out.mono ?_
  rintro e w1 ⟨r, rfl, hr0, hr1, hg, hc⟩
  have HG1 := Lib.hid (grown_step HGA.out hg)
  have HC1 := Lib.hid hc
  have HR1 := Lib.hid (two_grown HRA.out hg hnb)
  have hz1 := hg.size
  have hb1 := hc.block
  clear hg hc C1
  have hc2 : cg 2 = 34 := rfl
  have hw2 : wg 2 = 13 := rfl
  by_cases h0 : r = 0
  · have t0 := op_is h0
    clear h0
    have C2 := Lib.hid (term_any w1 B b (K + 2) HC1.out (by omega))
    go_wp2_with fail
    refine C2.out.mono ?_
    rintro e w2 ⟨t, vt, rfl, ht, hwt, hg, hc⟩
    have HG2 := Lib.hid (grown_step HG1.out hg)
    have HC2 := Lib.hid hc
    have HR2 := Lib.hid (two_grown HR1.out hg hnb)
    have hz2 := hg.size
    have hb2 := hc.block
    obtain ⟨pt, ct, rfl⟩ := ht.slice
    have HTt := Lib.hid ht
    have HGot := Lib.hid hg
    have hw0t : w.heap.size < w1.heap.size := by have := HZA.out; omega
    clear ht hg hc C2
    have C3 := Lib.hid (term_any w2 B b (K + 2 + 76) HC2.out (by omega))
    go_wp2_with fail
    refine C3.out.mono ?_
    rintro e w3 ⟨u, vu, rfl, ht, hwu, hg, hc⟩
    have HG3 := Lib.hid (grown_step HG2.out hg)
    have HC3 := Lib.hid hc
    have HR3 := Lib.hid (two_grown HR2.out hg hnb)
    have hz3 := hg.size
    have hb3 := hc.block
    obtain ⟨pu, cu, rfl⟩ := ht.slice
    have HTu := Lib.hid ht
    have HGou := Lib.hid hg
    have hw0u : w.heap.size < w2.heap.size := by have := HZA.out; omega
    clear ht hg hc C3
    have HTO : Hid (TmO w3 (Fresh w1 w2) (.slice pt t.args.length ct) t.args) := Lib.hid (HTt.out.whole.frame fun k hk => HGou.out.block k hk.2 (fun e => by have := Option.some.inj e; have := hk.1; omega))
    obtain ⟨X, Y, hX, hY⟩ : ∃ X Y : Value, X = .string ⟨#[61]⟩ ∧ Y = .slice (some ⟨w3.heap.size, 0, none⟩) 2 2 := ⟨_, _, rfl, rfl⟩
    have HTX := Lib.hid (by have hfr : ∀ k, w1.heap.size ≤ k → ((w3.setCell ⟨w.heap.size, 0, none⟩ X).setCell ⟨w.heap.size, 1, none⟩ Y).heap[k]? = w3.heap[k]? := (fun k hk => by rw [Below.heap_setCell _ _ _ _ (by simp; omega), Below.heap_setCell _ _ _ _ (by simp; omega)]); have h := TmG.two (w := (w3.setCell ⟨w.heap.size, 0, none⟩ X).setCell ⟨w.heap.size, 1, none⟩ Y) (HTO.out.frame fun k hk => hfr k hk.1) ((HTu.out.setTwo (by omega) X Y).whole) (by omega) (by rw [size_two]; omega); rw [size_two] at h; exact h)
    have HGX := Lib.hid (grown_step (fin_grown HG3.out X Y) (World.grownBy_alloc _ (.cells #[.string t.name, .slice pt t.args.length ct, .string u.name, .slice pu u.args.length cu] 26) _))
    have HCX := Lib.hid ((fin_cur HC3.out hnb (by omega) X Y).alloc (.cells #[.string t.name, .slice pt t.args.length ct, .string u.name, .slice pu u.args.length cu] 26))
    have HRX := Lib.hid (((HR3.out.setNil X).setOne Y).alloc (.cells #[.string t.name, .slice pt t.args.length ct, .string u.name, .slice pu u.args.length cu] 26))
    subst hX hY
    obtain ⟨r0, r1, r2⟩ := HR3.out
    have hrl : w.heap.size < w3.heap.size := World.block_lt_of_cell? _ ⟨w.heap.size, 0, none⟩ r0
    go_wp2
    clear r0 r1 r2
    obtain ⟨r0, r1, r2⟩ := HRX.out
    refine bodyPost_ret (v := .agg #[.string ⟨#[61]⟩, .slice (some ⟨w3.heap.size, 0, none⟩) 2 2]) (by simp [results, Try.results117, go_sem, r0, r1]) rfl ?_
    exact dr_fin (t := .node ⟨#[61]⟩ [t, u]) HTX.out (by have := HZA.out; omega) (by rw [two_wt]; show 1 + 2 + t.wt + u.wt ≤ 61; omega) HGX.out HCX.out (by omega)
  have t0 := op_not h0
  by_cases h1 : r = 1
  · have t1 := op_is h1
    clear h0 h1
    have C2 := Lib.hid (term_any w1 B b (K + 2) HC1.out (by omega))
    go_wp2_with fail
    refine C2.out.mono ?_
    rintro e w2 ⟨t, vt, rfl, ht, hwt, hg, hc⟩
    have HG2 := Lib.hid (grown_step HG1.out hg)
    have HC2 := Lib.hid hc
    have HR2 := Lib.hid (two_grown HR1.out hg hnb)
    have hz2 := hg.size
    have hb2 := hc.block
    obtain ⟨pt, ct, rfl⟩ := ht.slice
    have HTt := Lib.hid ht
    have HGot := Lib.hid hg
    have hw0t : w.heap.size < w1.heap.size := by have := HZA.out; omega
    clear ht hg hc C2
    have C3 := Lib.hid (term_any w2 B b (K + 2 + 76) HC2.out (by omega))
    go_wp2_with fail
    refine C3.out.mono ?_
    rintro e w3 ⟨u, vu, rfl, ht, hwu, hg, hc⟩
    have HG3 := Lib.hid (grown_step HG2.out hg)
    have HC3 := Lib.hid hc
    have HR3 := Lib.hid (two_grown HR2.out hg hnb)
    have hz3 := hg.size
    have hb3 := hc.block
    obtain ⟨pu, cu, rfl⟩ := ht.slice
    have HTu := Lib.hid ht
    have HGou := Lib.hid hg
    have hw0u : w.heap.size < w2.heap.size := by have := HZA.out; omega
    clear ht hg hc C3
    have HTO : Hid (TmO w3 (Fresh w1 w2) (.slice pt t.args.length ct) t.args) := Lib.hid (HTt.out.whole.frame fun k hk => HGou.out.block k hk.2 (fun e => by have := Option.some.inj e; have := hk.1; omega))
    obtain ⟨X, Y, hX, hY⟩ : ∃ X Y : Value, X = .string ⟨#[61]⟩ ∧ Y = .slice (some ⟨w3.heap.size, 0, none⟩) 2 2 := ⟨_, _, rfl, rfl⟩
    have HTX := Lib.hid (by have hfr : ∀ k, w1.heap.size ≤ k → ((w3.setCell ⟨w.heap.size, 0, none⟩ X).setCell ⟨w.heap.size, 1, none⟩ Y).heap[k]? = w3.heap[k]? := (fun k hk => by rw [Below.heap_setCell _ _ _ _ (by simp; omega), Below.heap_setCell _ _ _ _ (by simp; omega)]); have h := TmG.two (w := (w3.setCell ⟨w.heap.size, 0, none⟩ X).setCell ⟨w.heap.size, 1, none⟩ Y) (HTO.out.frame fun k hk => hfr k hk.1) ((HTu.out.setTwo (by omega) X Y).whole) (by omega) (by rw [size_two]; omega); rw [size_two] at h; exact h)
    have HGX := Lib.hid (grown_step (fin_grown HG3.out X Y) (World.grownBy_alloc _ (.cells #[.string t.name, .slice pt t.args.length ct, .string u.name, .slice pu u.args.length cu] 26) _))
    have HCX := Lib.hid ((fin_cur HC3.out hnb (by omega) X Y).alloc (.cells #[.string t.name, .slice pt t.args.length ct, .string u.name, .slice pu u.args.length cu] 26))
    have HRX := Lib.hid (((HR3.out.setNil X).setOne Y).alloc (.cells #[.string t.name, .slice pt t.args.length ct, .string u.name, .slice pu u.args.length cu] 26))
    subst hX hY
    obtain ⟨r0, r1, r2⟩ := HR3.out
    have hrl : w.heap.size < w3.heap.size := World.block_lt_of_cell? _ ⟨w.heap.size, 0, none⟩ r0
    go_wp2
    clear r0 r1 r2
    obtain ⟨r0, r1, r2⟩ := HRX.out
    refine bodyPost_ret (v := .agg #[.string ⟨#[61]⟩, .slice (some ⟨w3.heap.size, 0, none⟩) 2 2]) (by simp [results, Try.results117, go_sem, r0, r1]) rfl ?_
    exact dr_fin (t := .node ⟨#[61]⟩ [t, u]) HTX.out (by have := HZA.out; omega) (by rw [two_wt]; show 1 + 2 + t.wt + u.wt ≤ 61; omega) HGX.out HCX.out (by omega)
  have t1 := op_not h1
  by_cases h2 : r = 2
  · have t2 := op_is h2
    clear h0 h1 h2
    obtain ⟨X, Y, hX, hY⟩ : ∃ X Y : Value, X = .string ⟨#[114]⟩ ∧ Y = .slice none 0 0 := ⟨_, _, rfl, rfl⟩
    have HTX := Lib.hid (TmG.nil WA ((w1.setCell ⟨w.heap.size, 0, none⟩ X).setCell ⟨w.heap.size, 1, none⟩ Y))
    have HGX := Lib.hid (fin_grown HG1.out X Y)
    have HCX := Lib.hid (fin_cur HC1.out hnb (by omega) X Y)
    have HRX := Lib.hid ((HR1.out.setNil X).setOne Y)
    subst hX hY
    obtain ⟨r0, r1, r2⟩ := HR1.out
    have hrl : w.heap.size < w1.heap.size := World.block_lt_of_cell? _ ⟨w.heap.size, 0, none⟩ r0
    go_wp2
    clear r0 r1 r2
    obtain ⟨r0, r1, r2⟩ := HRX.out
    refine bodyPost_ret (v := .agg #[.string ⟨#[114]⟩, .slice none 0 0]) (by simp [results, Try.results117, go_sem, r0, r1]) rfl ?_
    exact dr_fin (t := .node ⟨#[114]⟩ []) HTX.out (by have := HZA.out; omega) (by rw [leaf_wt]; decide) HGX.out HCX.out (by omega)
  have t2 := op_not h2
  by_cases h3 : r = 3
  · have t3 := op_is h3
    clear h0 h1 h2 h3
    have C2 := Lib.hid (grown_any 2 2 w1 B b (K + 2) rfl (by omega) HC1.out (by omega))
    go_wp2_with fail
    refine C2.out.mono ?_
    rintro e w2 ⟨t, vt, rfl, ht, hwt, hg, hc⟩
    have HG2 := Lib.hid (grown_step HG1.out hg)
    have HC2 := Lib.hid hc
    have HR2 := Lib.hid (two_grown HR1.out hg hnb)
    have hz2 := hg.size
    have hb2 := hc.block
    obtain ⟨pt, ct, rfl⟩ := ht.slice
    have HTt := Lib.hid ht
    have HGot := Lib.hid hg
    have hw0t : w.heap.size < w1.heap.size := by have := HZA.out; omega
    clear ht hg hc C2
    have C3 := Lib.hid (grown_any 2 2 w2 B b (K + 2 + cg 2) rfl (by omega) HC2.out (by omega))
    go_wp2_with fail
    refine C3.out.mono ?_
    rintro e w3 ⟨u, vu, rfl, ht, hwu, hg, hc⟩
    have HG3 := Lib.hid (grown_step HG2.out hg)
    have HC3 := Lib.hid hc
    have HR3 := Lib.hid (two_grown HR2.out hg hnb)
    have hz3 := hg.size
    have hb3 := hc.block
    obtain ⟨pu, cu, rfl⟩ := ht.slice
    have HTu := Lib.hid ht
    have HGou := Lib.hid hg
    have hw0u : w.heap.size < w2.heap.size := by have := HZA.out; omega
    clear ht hg hc C3
    have HTO : Hid (TmO w3 (Fresh w1 w2) (.slice pt t.args.length ct) t.args) := Lib.hid (HTt.out.whole.frame fun k hk => HGou.out.block k hk.2 (fun e => by have := Option.some.inj e; have := hk.1; omega))
    obtain ⟨X, Y, hX, hY⟩ : ∃ X Y : Value, X = .string ⟨#[113]⟩ ∧ Y = .slice (some ⟨w3.heap.size, 0, none⟩) 2 2 := ⟨_, _, rfl, rfl⟩
    have HTX := Lib.hid (by have hfr : ∀ k, w1.heap.size ≤ k → ((w3.setCell ⟨w.heap.size, 0, none⟩ X).setCell ⟨w.heap.size, 1, none⟩ Y).heap[k]? = w3.heap[k]? := (fun k hk => by rw [Below.heap_setCell _ _ _ _ (by simp; omega), Below.heap_setCell _ _ _ _ (by simp; omega)]); have h := TmG.two (w := (w3.setCell ⟨w.heap.size, 0, none⟩ X).setCell ⟨w.heap.size, 1, none⟩ Y) (HTO.out.frame fun k hk => hfr k hk.1) ((HTu.out.setTwo (by omega) X Y).whole) (by omega) (by rw [size_two]; omega); rw [size_two] at h; exact h)
    have HGX := Lib.hid (grown_step (fin_grown HG3.out X Y) (World.grownBy_alloc _ (.cells #[.string t.name, .slice pt t.args.length ct, .string u.name, .slice pu u.args.length cu] 26) _))
    have HCX := Lib.hid ((fin_cur HC3.out hnb (by omega) X Y).alloc (.cells #[.string t.name, .slice pt t.args.length ct, .string u.name, .slice pu u.args.length cu] 26))
    have HRX := Lib.hid (((HR3.out.setNil X).setOne Y).alloc (.cells #[.string t.name, .slice pt t.args.length ct, .string u.name, .slice pu u.args.length cu] 26))
    subst hX hY
    obtain ⟨r0, r1, r2⟩ := HR3.out
    have hrl : w.heap.size < w3.heap.size := World.block_lt_of_cell? _ ⟨w.heap.size, 0, none⟩ r0
    go_wp2
    clear r0 r1 r2
    obtain ⟨r0, r1, r2⟩ := HRX.out
    refine bodyPost_ret (v := .agg #[.string ⟨#[113]⟩, .slice (some ⟨w3.heap.size, 0, none⟩) 2 2]) (by simp [results, Try.results117, go_sem, r0, r1]) rfl ?_
    exact dr_fin (t := .node ⟨#[113]⟩ [t, u]) HTX.out (by have := HZA.out; omega) (by rw [two_wt]; show 1 + 2 + t.wt + u.wt ≤ 61; omega) HGX.out HCX.out (by omega)
  have t3 := op_not h3
  by_cases h4 : r = 4
  · have t4 := op_is h4
    clear h0 h1 h2 h3 h4
    have C2 := Lib.hid (grown_any 2 2 w1 B b (K + 2) rfl (by omega) HC1.out (by omega))
    go_wp2_with fail
    refine C2.out.mono ?_
    rintro e w2 ⟨t, vt, rfl, ht, hwt, hg, hc⟩
    have HG2 := Lib.hid (grown_step HG1.out hg)
    have HC2 := Lib.hid hc
    have HR2 := Lib.hid (two_grown HR1.out hg hnb)
    have hz2 := hg.size
    have hb2 := hc.block
    obtain ⟨pt, ct, rfl⟩ := ht.slice
    have HTt := Lib.hid ht
    have HGot := Lib.hid hg
    have hw0t : w.heap.size < w1.heap.size := by have := HZA.out; omega
    clear ht hg hc C2
    have C3 := Lib.hid (grown_any 2 2 w2 B b (K + 2 + cg 2) rfl (by omega) HC2.out (by omega))
    go_wp2_with fail
    refine C3.out.mono ?_
    rintro e w3 ⟨u, vu, rfl, ht, hwu, hg, hc⟩
    have HG3 := Lib.hid (grown_step HG2.out hg)
    have HC3 := Lib.hid hc
    have HR3 := Lib.hid (two_grown HR2.out hg hnb)
    have hz3 := hg.size
    have hb3 := hc.block
    obtain ⟨pu, cu, rfl⟩ := ht.slice
    have HTu := Lib.hid ht
    have HGou := Lib.hid hg
    have hw0u : w.heap.size < w2.heap.size := by have := HZA.out; omega
    clear ht hg hc C3
    have HTO : Hid (TmO w3 (Fresh w1 w2) (.slice pt t.args.length ct) t.args) := Lib.hid (HTt.out.whole.frame fun k hk => HGou.out.block k hk.2 (fun e => by have := Option.some.inj e; have := hk.1; omega))
    obtain ⟨X, Y, hX, hY⟩ : ∃ X Y : Value, X = .string ⟨#[113]⟩ ∧ Y = .slice (some ⟨w3.heap.size, 0, none⟩) 2 2 := ⟨_, _, rfl, rfl⟩
    have HTX := Lib.hid (by have hfr : ∀ k, w1.heap.size ≤ k → ((w3.setCell ⟨w.heap.size, 0, none⟩ X).setCell ⟨w.heap.size, 1, none⟩ Y).heap[k]? = w3.heap[k]? := (fun k hk => by rw [Below.heap_setCell _ _ _ _ (by simp; omega), Below.heap_setCell _ _ _ _ (by simp; omega)]); have h := TmG.two (w := (w3.setCell ⟨w.heap.size, 0, none⟩ X).setCell ⟨w.heap.size, 1, none⟩ Y) (HTO.out.frame fun k hk => hfr k hk.1) ((HTu.out.setTwo (by omega) X Y).whole) (by omega) (by rw [size_two]; omega); rw [size_two] at h; exact h)
    have HGX := Lib.hid (grown_step (fin_grown HG3.out X Y) (World.grownBy_alloc _ (.cells #[.string t.name, .slice pt t.args.length ct, .string u.name, .slice pu u.args.length cu] 26) _))
    have HCX := Lib.hid ((fin_cur HC3.out hnb (by omega) X Y).alloc (.cells #[.string t.name, .slice pt t.args.length ct, .string u.name, .slice pu u.args.length cu] 26))
    have HRX := Lib.hid (((HR3.out.setNil X).setOne Y).alloc (.cells #[.string t.name, .slice pt t.args.length ct, .string u.name, .slice pu u.args.length cu] 26))
    subst hX hY
    obtain ⟨r0, r1, r2⟩ := HR3.out
    have hrl : w.heap.size < w3.heap.size := World.block_lt_of_cell? _ ⟨w.heap.size, 0, none⟩ r0
    go_wp2
    clear r0 r1 r2
    obtain ⟨r0, r1, r2⟩ := HRX.out
    refine bodyPost_ret (v := .agg #[.string ⟨#[113]⟩, .slice (some ⟨w3.heap.size, 0, none⟩) 2 2]) (by simp [results, Try.results117, go_sem, r0, r1]) rfl ?_
    exact dr_fin (t := .node ⟨#[113]⟩ [t, u]) HTX.out (by have := HZA.out; omega) (by rw [two_wt]; show 1 + 2 + t.wt + u.wt ≤ 61; omega) HGX.out HCX.out (by omega)
  have t4 := op_not h4
  clear h0 h1 h2 h3 h4
  have C2 := Lib.hid (grown_any 2 2 w1 B b (K + 2) rfl (by omega) HC1.out (by omega))
  go_wp2_with fail
  refine C2.out.mono ?_
  rintro e w2 ⟨t, vt, rfl, ht, hwt, hg, hc⟩
  have HG2 := Lib.hid (grown_step HG1.out hg)
  have HC2 := Lib.hid hc
  have HR2 := Lib.hid (two_grown HR1.out hg hnb)
  have hz2 := hg.size
  have hb2 := hc.block
  obtain ⟨pt, ct, rfl⟩ := ht.slice
  have HTt := Lib.hid ht
  have HGot := Lib.hid hg
  have hw0t : w.heap.size < w1.heap.size := by have := HZA.out; omega
  clear ht hg hc C2
  obtain ⟨X, Y, hX, hY⟩ : ∃ X Y : Value, X = .string ⟨#[112]⟩ ∧ Y = .slice (some ⟨w2.heap.size, 0, none⟩) 1 1 := ⟨_, _, rfl, rfl⟩
  have HTX := Lib.hid (by have h := TmG.one (w0 := w1) (w := (w2.setCell ⟨w.heap.size, 0, none⟩ X).setCell ⟨w.heap.size, 1, none⟩ Y) (HTt.out.setTwo hw0t X Y).whole (by rw [size_two]; omega); rw [size_two] at h; exact h)
  have HGX := Lib.hid (grown_step (fin_grown HG2.out X Y) (World.grownBy_alloc _ (.cells #[.string t.name, .slice pt t.args.length ct] 26) _))
  have HCX := Lib.hid ((fin_cur HC2.out hnb (by omega) X Y).alloc (.cells #[.string t.name, .slice pt t.args.length ct] 26))
  have HRX := Lib.hid (((HR2.out.setNil X).setOne Y).alloc (.cells #[.string t.name, .slice pt t.args.length ct] 26))
  subst hX hY
  obtain ⟨r0, r1, r2⟩ := HR2.out
  have hrl : w.heap.size < w2.heap.size := World.block_lt_of_cell? _ ⟨w.heap.size, 0, none⟩ r0
  go_wp2
  clear r0 r1 r2
  obtain ⟨r0, r1, r2⟩ := HRX.out
  refine bodyPost_ret (v := .agg #[.string ⟨#[112]⟩, .slice (some ⟨w2.heap.size, 0, none⟩) 1 1]) (by simp [results, Try.results117, go_sem, r0, r1]) rfl ?_
  exact dr_fin (t := .node ⟨#[112]⟩ [t]) HTX.out (by have := HZA.out; omega) (by rw [one_wt]; show 1 + 1 + t.wt ≤ 61; omega) HGX.out HCX.out (by omega)

end Go.Proofs.Ytppmiedhoimgmaa

/- Drawn towers and wide terms: contracts, for a cursor of at most 900000 steps. -/
namespace Go.Proofs.Ytppmiedhoimgmaa
open Go.RowKit
set_option linter.unusedVariables false
set_option linter.unusedSimpArgs false

def twList : List ByteArray := [⟨#[88]⟩, ⟨#[97]⟩]
theorem twList_size : ∀ s ∈ twList, s.size ≤ 1 := by decide
theorem grown_new {w0 w1 : World} {row : Option Nat} (h : w0.grownBy w1 row) {r : Nat} (hr : w0.heap.size ≤ r) (x y : Value) : w0.grownBy ((w1.setCell ⟨r, 0, none⟩ x).setCell ⟨r, 1, none⟩ y) row :=
  ⟨h.os, h.tape, h.output, by rw [size_two]; exact h.size, fun k hk hne => by
    rw [Below.heap_setCell _ _ _ _ (by simp; omega), Below.heap_setCell _ _ _ _ (by simp; omega)]
    exact h.block k hk hne⟩
theorem grown_one {w0 w1 : World} {row : Option Nat} (h : w0.grownBy w1 row) {a : Addr} (hr : w0.heap.size ≤ a.block) (x : Value) : w0.grownBy (w1.setCell a x) row :=
  ⟨h.os, h.tape, h.output, by rw [size_setCell]; exact h.size, fun k hk hne => by
    rw [Below.heap_setCell _ _ _ _ (by omega)]
    exact h.block k hk hne⟩
theorem cur_one {w : World} {B b K : Nat} (hc : Cur w B b K) {a : Addr} (hr : a.block ≠ b) (hB : B ≤ a.block) (x : Value) : Cur (w.setCell a x) B b K :=
  hc.later (row := some a.block) ⟨rfl, rfl, rfl, by simp, fun k _ hk => Below.heap_setCell _ _ _ _ (fun e => hk (by rw [e]))⟩ (fun e => hr (Option.some.inj e)) (fun k e => by have := Option.some.inj e; omega)

/-- One term more, ready for the append: the row as it stands, and what the append makes of it. -/
theorem TmG.push1 {w0 w1 wA : World} {va vt : Value} {l : List Tm} {t : Tm} {S : Nat → Prop} (h : TmG w0 w1 va l) (hz0 : w0.heap.size ≤ w1.heap.size) (hk : ∀ k, k < w1.heap.size → w0.heap.size ≤ k → wA.heap[k]? = w1.heap[k]?) (hz1 : w1.heap.size ≤ wA.heap.size)
    (ho : TmO wA S vt t.args) (hS : ∀ k, S k → w1.heap.size ≤ k ∧ k < wA.heap.size) :
    ∃ xs, wA.ownsRow w0.heap.size 26 2 va l.length xs ∧ ∀ (w' : World) (g cap H : Nat), w'.ownsRow w0.heap.size 26 2 (.slice (some ⟨g, 0, none⟩) (l.length + 1) cap) (l.length + 1) (xs ++ [.string t.name, vt]) → wA.grownBy w' va.ownBlock → (va.ownBlock = some g ∨ g = H) → wA.heap.size ≤ H →
      TmG w0 w' (.slice (some ⟨g, 0, none⟩) (l.length + 1) cap) (l ++ [t]) := by
  obtain ⟨xs, f, Ss, h1, h2, h3⟩ := h
  have hlt : ∀ g, va.ownBlock = some g → g < w1.heap.size := fun g hg => (h1.lt g hg).2
  have h1A : wA.ownsRow w0.heap.size 26 2 va l.length xs := by
    obtain ⟨hl, h⟩ := h1
    refine ⟨hl, ?_⟩
    rcases h with h | ⟨g, cap, cur, e, hb, hblk, hr⟩
    · exact .inl h
    · have hg : g < w1.heap.size := (Array.getElem?_eq_some_iff.1 hblk).1
      exact .inr ⟨g, cap, cur, e, hb, (hk g hg hb).trans hblk, hr⟩
  have h0 : ∀ {i : Nat} {s : Tm}, [t][i]? = some s → i = 0 ∧ t = s := fun {i s} hi => by
    have e : i = 0 := by have := (List.getElem?_eq_some_iff.1 hi).1; simp at this; omega
    subst e
    exact ⟨rfl, by simpa using hi⟩
  refine ⟨xs, h1A, fun w' g cap H hown hg hat hH => ?_⟩
  refine TmG.push (ns := [t]) (news := [.string t.name, vt]) (fN := fun _ => vt) (SN := fun _ => S) h2 h1.1 h3 hlt hk hz1 hz0 ⟨fun i s hi hs => ?_, fun i s hi hs => ?_, fun i s hi hs => ?_, fun i b hi hb => hS b hb, fun i j b hi hj hij => ?_⟩ hown hg hat hH
  · obtain ⟨rfl, rfl⟩ := h0 hs; rfl
  · obtain ⟨rfl, rfl⟩ := h0 hs; rfl
  · obtain ⟨rfl, rfl⟩ := h0 hs; exact ho
  · simp at hi hj; omega

set_option maxRecDepth 100000 in
set_option maxHeartbeats 1000000 in
theorem tower_any (n : Int) (hn : 1 ≤ n) (hn2 : n ≤ 20) (w : World) (B b K : Nat) (hc : Cur w B b K) (hK : K + 2 ≤ 900000) :
    Calls Try.prog 61 #[.pointer (some ⟨b, 0, none⟩), .int .i64 n] w (DrE w B b (K + 2) 60) := by
  have hbb := hc.block
  obtain ⟨WA, hWA⟩ : ∃ W, W = w.alloc (.cells #[.string ⟨#[]⟩, .slice none 0 0] 26) := ⟨_, rfl⟩
  have HRA : Hid (Two WA w.heap.size (.string ⟨#[]⟩) (.slice none 0 0)) := Lib.hid (by rw [hWA]; exact two_new w _ _ 26 _ rfl)
  have HGA : Hid ((w.alloc (.cells #[.string ⟨#[]⟩, .slice none 0 0] 26)).grownBy WA (some b)) := Lib.hid (by rw [hWA]; exact grown_refl _ _)
  have HZA : Hid (WA.heap.size = w.heap.size + 1) := Lib.hid (by rw [hWA]; simp)
  have HCA : Hid (Cur WA B b K) := Lib.hid (by rw [hWA]; exact hc.alloc _)
  have hnb : w.heap.size ≠ b := by omega
  clear hc
  have CL : Hid (Calls Try.prog 114 #[.pointer (some ⟨b, 0, none⟩), .slice (some ⟨w.heap.size + 1, 0, none⟩) 2 2] (WA.alloc (.cells #[.string ⟨#[88]⟩, .string ⟨#[97]⟩] 9)) fun e w' => OfEnd WA B b (K + 2) twList e w') := Lib.hid (by have h := ofLit_any WA _ _ _ twList HCA.out (by omega) (by decide) (by decide); rw [HZA.out] at h; exact h)
  go_enter Try.func61, Try.ntmps61
  go_wp2_with fail
  rw [← hWA]
  clear hWA
  refine CL.out.mono ?_
  rintro e w1 ⟨s, rfl, hs, hg, hc⟩
  have hsz := twList_size s hs
  have hb1 := hc.block
  obtain ⟨tb, htb⟩ : ∃ tb, tb = w1.heap.size := ⟨_, rfl⟩
  have hg1 := hg.size
  have htr : w.heap.size < tb := by have := HZA.out; omega
  have htn : tb ≠ b := by omega
  obtain ⟨W2, hW2⟩ : ∃ W, W = w1.alloc (.cells #[.string s, .slice none 0 0] 26) := ⟨_, rfl⟩
  have HTB : Hid (Two W2 tb (.string s) (.slice none 0 0)) := Lib.hid (by rw [hW2]; exact two_new _ _ _ _ _ htb)
  have HG2 := Lib.hid (grown_step (grown_step HGA.out hg) (World.grownBy_alloc w1 (.cells #[.string s, .slice none 0 0] 26) (some b)))
  have HC2 := Lib.hid (hc.alloc (.cells #[.string s, .slice none 0 0] 26))
  have HR2 := Lib.hid ((two_grown HRA.out hg hnb).alloc (.cells #[.string s, .slice none 0 0] 26))
  rw [← hW2] at HG2 HC2 HR2
  have HZ2 : Hid (W2.heap.size = tb + 1) := Lib.hid (by rw [hW2, World.size_alloc, htb])
  have HTE := Lib.hid htb
  clear hg hc hs CL htb
  go_wp2
  rw [← hW2]
  try rw [← HTE.out]
  clear hW2 HTE
  go_loopw [1] (fun i wr => ∃ (k : Nat) (t : Tm) (va : Value), 1 ≤ (n - k : Int) ∧ i = .int .i64 (n - k) ∧ t.wt ≤ 1 + 2 * k ∧ Two wr tb (.string t.name) va ∧ TmG W2 wr va t.args ∧ Two wr w.heap.size (.string ⟨#[]⟩) (.slice none 0 0) ∧ (w.alloc (.cells #[.string ⟨#[]⟩, .slice none 0 0] 26)).grownBy wr (some b) ∧ Cur wr B b (K + 2) ∧ W2.heap.size ≤ wr.heap.size) (fun i _ => (intOf i).toNat)
  case atStart => exact ⟨0, .node s [], .slice none 0 0, by omega, by congr 1; omega, by rw [leaf_wt]; omega, HTB.out, TmG.nil _ _, HR2.out, HG2.out, HC2.out, Nat.le_refl _⟩
  case round =>
    obtain ⟨k, t, va, hk1, rfl, hwt, htb, ht, hr, hg, hc, hz⟩ := hrel
    obtain ⟨p, c, rfl⟩ := ht.slice
    obtain ⟨m, hm⟩ : ∃ m : Int, m = n - k := ⟨_, rfl⟩
    rw [← hm] at hk1 ⊢
    have HM := Lib.hid hm
    have HT := Lib.hid ht
    have HTW := Lib.hid htb
    have HR := Lib.hid hr
    have HG := Lib.hid hg
    have HC := Lib.hid hc
    have hml : m ≤ 20 := by omega
    have hzt : tb < W2.heap.size := by have := HZ2.out; omega
    have hbt := hc.block
    have hrt : w.heap.size < wr.heap.size := by omega
    have htt : tb < wr.heap.size := by omega
    clear hm ht hr hg hc
    obtain ⟨b0, b1, b2⟩ := htb
    by_cases hgt : 1 < m
    · obtain ⟨X, Y, hX, hY⟩ : ∃ X Y : Value, X = .string ⟨#[102]⟩ ∧ Y = .slice (some ⟨wr.heap.size, 0, none⟩) 1 1 := ⟨_, _, rfl, rfl⟩
      have HTX : Hid (TmG W2 (((wr.setCell ⟨tb, 0, none⟩ X).setCell ⟨tb, 1, none⟩ Y).alloc (.cells #[.string t.name, .slice p t.args.length c] 26)) (.slice (some ⟨wr.heap.size, 0, none⟩) 1 1) [t]) := Lib.hid (by
        have h := TmG.one (w0 := W2) (w := (wr.setCell ⟨tb, 0, none⟩ X).setCell ⟨tb, 1, none⟩ Y) (HT.out.setTwo hzt X Y).whole (by rw [size_two]; omega)
        rw [size_two] at h; exact h)
      have HGX := Lib.hid (grown_step (grown_new HG.out (r := tb) (by simp; omega) X Y) (World.grownBy_alloc _ (.cells #[.string t.name, .slice p t.args.length c] 26) _))
      have HCX := Lib.hid ((fin_cur HC.out htn (by omega) X Y).alloc (.cells #[.string t.name, .slice p t.args.length c] 26))
      have HRX := Lib.hid (((HR.out.setFar (a := ⟨tb, 0, none⟩) (by simp; omega) X).setFar (a := ⟨tb, 1, none⟩) (by simp; omega) Y).alloc (.cells #[.string t.name, .slice p t.args.length c] 26))
      have HBX := Lib.hid (((HTW.out.setNil X).setOne Y).alloc (.cells #[.string t.name, .slice p t.args.length c] 26))
      have hwx : (Tm.node ⟨#[102]⟩ [t]).wt ≤ 1 + 2 * (k + 1) := by rw [one_wt]; show 1 + 1 + t.wt ≤ _; omega
      subst hX hY
      go_wp2
      go_roundw
      case rel => exact ⟨k + 1, .node ⟨#[102]⟩ [t], .slice (some ⟨wr.heap.size, 0, none⟩) 1 1, by have := HM.out; omega, by have := HM.out; congr 1; omega, hwx, HBX.out, HTX.out, HRX.out, HGX.out, HCX.out, by rw [World.size_alloc, size_two]; omega⟩
      case measure => simp [intOf]; omega
    · obtain ⟨X, Y, hX, hY⟩ : ∃ X Y : Value, X = .string t.name ∧ Y = .slice p t.args.length c := ⟨_, _, rfl, rfl⟩
      have HTX := Lib.hid (HT.out.setTwo (r := w.heap.size) (by omega) X Y)
      have HGX := Lib.hid (fin_grown HG.out X Y)
      have HCX := Lib.hid (fin_cur HC.out hnb (by omega) X Y)
      have HRX := Lib.hid ((HR.out.setNil X).setOne Y)
      subst hX hY
      obtain ⟨r0, r1, r2⟩ := HR.out
      go_wp2
      clear r0 r1 r2
      obtain ⟨r0, r1, r2⟩ := HRX.out
      refine bodyPost_ret (v := .agg #[.string t.name, .slice p t.args.length c]) (by simp [results, Try.results61, go_sem, r0, r1]) rfl ?_
      exact dr_fin (t := t) HTX.out (by omega) (by have := HM.out; omega) HGX.out HCX.out (by omega)
end Go.Proofs.Ytppmiedhoimgmaa

/- Drawn wide terms: a contract, for a cursor of at most 900000 steps. -/
namespace Go.Proofs.Ytppmiedhoimgmaa
open Go.RowKit
set_option linter.unusedVariables false
set_option linter.unusedSimpArgs false

def faT : Tm := .node ⟨#[102]⟩ [.node ⟨#[97]⟩ []]
def fbT : Tm := .node ⟨#[102]⟩ [.node ⟨#[98]⟩ []]
def haT : Tm := .node ⟨#[104]⟩ (List.replicate 4 faT)
theorem two_row {w w' : World} {r : Nat} {x y : Value} {row : Option Nat} (h : Two w r x y) (hg : w.grownBy w' row) (hn : some r ≠ row) : Two w' r x y := by
  have hl := World.block_lt_of_cell? w ⟨r, 0, none⟩ h.1
  have e : w'.heap[r]? = w.heap[r]? := hg.block r hl hn
  exact ⟨(World.cell?_of_block (w := w) (a := ⟨r, 0, none⟩) e).trans h.1, (World.cell?_of_block (w := w) (a := ⟨r, 1, none⟩) e).trans h.2.1, fun j => (World.frozen?_of_block (w := w) (a := ⟨r, j, none⟩) e).trans (h.2.2 j)⟩
theorem grown_far {a b c : World} {row row' : Option Nat} (h : a.grownBy b row') (k : b.grownBy c row) (hr : ∀ g, row = some g → a.heap.size ≤ g) : a.grownBy c row' :=
  ⟨k.os.trans h.os, k.tape.trans h.tape, k.output.trans h.output, Nat.le_trans h.size k.size, fun i hi hne => (k.block i (Nat.lt_of_lt_of_le hi h.size) (fun e => by have := hr i e.symm; omega)).trans (h.block i hi hne)⟩
theorem TmG.own {w0 w : World} {va : Value} {l : List Tm} (h : TmG w0 w va l) : ∀ g, va.ownBlock = some g → w0.heap.size ≤ g ∧ g < w.heap.size := by
  obtain ⟨xs, f, Ss, h1, h2, h3⟩ := h
  exact fun g hg => h1.lt g hg
theorem TmG.shape {w0 w : World} {va : Value} {l : List Tm} (h : TmG w0 w va l) (hl : l ≠ []) : ∃ g c, va = .slice (some ⟨g, 0, none⟩) l.length c ∧ l.length ≤ c ∧ c ≤ maxLen := by
  obtain ⟨xs, f, Ss, ⟨_, h1⟩, h2, h3⟩ := h
  rcases h1 with ⟨_, e⟩ | ⟨g, cap, cur, e, hb, hblk, hn, hc, _⟩
  · exact absurd (List.length_eq_zero_iff.1 e) hl
  · exact ⟨g, cap, e, hn, hc⟩

set_option maxRecDepth 100000 in
set_option maxHeartbeats 4000000 in
theorem wide_any (w : World) (B b K : Nat) (hc : Cur w B b K) (hK : K + 4 ≤ 900000) :
    Calls Try.prog 157 #[.pointer (some ⟨b, 0, none⟩)] w (DrE w B b (K + 4) 200) := by
  have hbb := hc.block
  obtain ⟨WA, hWA⟩ : ∃ W, W = w.alloc (.cells #[.string ⟨#[]⟩, .slice none 0 0] 26) := ⟨_, rfl⟩
  have HRA : Hid (Two WA w.heap.size (.string ⟨#[]⟩) (.slice none 0 0)) := Lib.hid (by rw [hWA]; exact two_new w _ _ 26 _ rfl)
  have HGA : Hid ((w.alloc (.cells #[.string ⟨#[]⟩, .slice none 0 0] 26)).grownBy WA (some b)) := Lib.hid (by rw [hWA]; exact grown_refl _ _)
  have HZA : Hid (WA.heap.size = w.heap.size + 1) := Lib.hid (by rw [hWA]; simp)
  have HCA : Hid (Cur WA B b K) := Lib.hid (by rw [hWA]; exact hc.alloc _)
  have hnb : w.heap.size ≠ b := by omega
  clear hc
  obtain ⟨i0, hi, hz0, hz1, hz2⟩ := info_parts infoTm
  obtain ⟨WT, hWT⟩ : ∃ W, W = WA.alloc (.cells #[.string ⟨#[103]⟩, .slice none 0 0] 26) := ⟨_, rfl⟩
  obtain ⟨tb, htb⟩ : ∃ tb, tb = w.heap.size + 1 := ⟨_, rfl⟩
  have HTB : Hid (Two WT tb (.string ⟨#[103]⟩) (.slice none 0 0)) := Lib.hid (by rw [hWT]; exact two_new _ _ _ _ _ (by rw [htb]; exact HZA.out.symm))
  have HGT : Hid (WA.grownBy WT none) := Lib.hid (by rw [hWT]; exact World.grownBy_alloc _ _ _)
  have HZT : Hid (WT.heap.size = tb + 1) := Lib.hid (by rw [hWT, World.size_alloc, HZA.out, htb])
  have htr : w.heap.size < tb := by omega
  have hzA : WA.heap.size ≤ tb := by have := HZA.out; omega
  have hzT : tb < WT.heap.size := by have := HZT.out; omega
  have htn : tb ≠ b := by omega
  have HTE := Lib.hid htb
  clear htb
  go_enter Try.func157, Try.ntmps157
  go_wp2
  rw [← hWA]
  try rw [← hWT]
  try rw [← HTE.out]
  clear hWA hWT HTE
  go_loopw [4] (fun i wr => ∃ (k : Nat) (va : Value), k ≤ 4 ∧ i = .int .i64 k ∧ Two wr tb (.string ⟨#[103]⟩) va ∧ TmG WT wr va (List.replicate k haT) ∧ WA.grownBy wr none ∧ WT.heap.size ≤ wr.heap.size) (fun i _ => 4 - (intOf i).toNat)
  case atStart => exact ⟨0, .slice none 0 0, Nat.zero_le _, rfl, HTB.out, TmG.nil _ _, HGT.out, Nat.le_refl _⟩
  case round =>
    rename World => wo
    obtain ⟨k, va, hk, rfl, htw, ht, hg, hz⟩ := hrel
    obtain ⟨L, hL⟩ : ∃ L, L = List.replicate k haT := ⟨_, rfl⟩
    rw [← hL] at ht
    have HL := Lib.hid hL
    obtain ⟨p, c, rfl⟩ := ht.slice
    have HT := Lib.hid ht
    have HTW := Lib.hid htw
    have HG := Lib.hid hg
    have hlL : L.length ≤ 4 := by rw [hL, List.length_replicate]; exact hk
    clear hL ht hg htw
    by_cases hlt : k < 4
    · have hki : (k : Int) < 4 := by omega
      obtain ⟨W5, hW5⟩ : ∃ W, W = wo.alloc (.cells #[.string ⟨#[104]⟩, .slice none 0 0] 26) := ⟨_, rfl⟩
      obtain ⟨pb, hpb⟩ : ∃ pb, pb = wo.heap.size := ⟨_, rfl⟩
      have HPB : Hid (Two W5 pb (.string ⟨#[104]⟩) (.slice none 0 0)) := Lib.hid (by rw [hW5]; exact two_new _ _ _ _ _ hpb)
      have HG5 : Hid (wo.grownBy W5 none) := Lib.hid (by rw [hW5]; exact World.grownBy_alloc _ _ _)
      have HZ5 : Hid (W5.heap.size = pb + 1) := Lib.hid (by rw [hW5, World.size_alloc, hpb])
      have hp5 : pb < W5.heap.size := by have := HZ5.out; omega
      have hpt : tb < pb := by omega
      have hpr : wo.heap.size ≤ pb := by omega
      have HPE := Lib.hid hpb
      clear hpb
      go_wp2
      try rw [← hW5]
      try rw [← HPE.out]
      go_loopw [6] (fun i ws => ∃ (q : Nat) (vp : Value), q ≤ 4 ∧ i = .int .i64 q ∧ Two ws pb (.string ⟨#[104]⟩) vp ∧ TmG W5 ws vp (List.replicate q faT) ∧ wo.grownBy ws none ∧ W5.heap.size ≤ ws.heap.size) (fun i _ => 4 - (intOf i).toNat)
      case atStart => exact ⟨0, .slice none 0 0, Nat.zero_le _, rfl, HPB.out, TmG.nil _ _, HG5.out, Nat.le_refl _⟩
      case round =>
        rename World => ws
        obtain ⟨q, vp, hq, rfl, hpw, hpt2, hgs, hzs⟩ := hrel
        obtain ⟨M, hM⟩ : ∃ M, M = List.replicate q faT := ⟨_, rfl⟩
        rw [← hM] at hpt2
        have HM := Lib.hid hM
        obtain ⟨pp, pc, rfl⟩ := hpt2.slice
        have HPT := Lib.hid hpt2
        have HPW := Lib.hid hpw
        have HGS := Lib.hid hgs
        have hlM : M.length ≤ 4 := by rw [hM, List.length_replicate]; exact hq
        clear hM hpt2 hgs hpw
        obtain ⟨p0, p1, p2⟩ := HPW.out
        by_cases hlt2 : q < 4
        · have hqi : (q : Int) < 4 := by omega
          obtain ⟨WB, hWB⟩ : ∃ W, W = (ws.alloc (.cells #[.string ⟨#[97]⟩, .slice none 0 0] 26)).alloc (.cells #[.string ⟨#[102]⟩, .slice (some ⟨ws.heap.size, 0, none⟩) 1 1] 26) := ⟨_, rfl⟩
          have HGB : Hid (ws.grownBy WB none) := Lib.hid (by rw [hWB]; exact grown_step (World.grownBy_alloc _ _ _) (World.grownBy_alloc _ _ _))
          have HZB : Hid (WB.heap.size = ws.heap.size + 2) := Lib.hid (by rw [hWB]; simp)
          have HBL : Hid (WB.heap[ws.heap.size + 1]? = some (.cells #[.string ⟨#[102]⟩, .slice (some ⟨ws.heap.size, 0, none⟩) 1 1] 26 (0, 0))) := Lib.hid (by
            rw [hWB]; have h := heap_alloc_new (ws.alloc (.cells #[.string ⟨#[97]⟩, .slice none 0 0] 26)) (.cells #[.string ⟨#[102]⟩, .slice (some ⟨ws.heap.size, 0, none⟩) 1 1] 26); rw [World.size_alloc] at h; exact h)
          have HTA : Hid (TmG ws WB (.slice (some ⟨ws.heap.size, 0, none⟩) 1 1) [.node ⟨#[97]⟩ []]) := Lib.hid (by
            rw [hWB]; exact (TmG.one (w0 := ws) (t := .node ⟨#[97]⟩ []) (.emp _ _ _) (Nat.le_refl _)).alloc _)
          obtain ⟨xs, hx, hp⟩ := HPT.out.push1 (wA := WB) (t := faT) (vt := .slice (some ⟨ws.heap.size, 0, none⟩) 1 1) (S := Fresh ws WB) hzs (fun i hi _ => HGB.out.block i hi (by simp)) HGB.out.size HTA.out.whole (fun i hi => hi)
          have HX := Lib.hid hx
          have HP := Lib.hid hp
          have HPB2 := Lib.hid (two_row HPW.out HGB.out (by simp))
          have hzb : ws.heap.size ≤ WB.heap.size := HGB.out.size
          have hpo : some pb ≠ (Value.slice pp M.length pc).ownBlock := fun e => by have := (HPT.out.own pb e.symm).1; omega
          have HPO := Lib.hid hpo
          have HOB := Lib.hid HPT.out.own
          clear hx hp hpo
          go_wp2_with (at_builtin; refine wpList_append_lies _ rfl _ _ _ (by rfl) W5.heap.size 26 i0 _ 2 40 Try.underlying24 hi hz0 hz1 hz2 rfl (by omega) (.slice pp M.length pc) M.length xs (by rfl) (by rw [← hWB]; exact HX.out) ⟨ws.heap.size + 1, 0, none⟩ 1 1 [.string ⟨#[102]⟩, .slice (some ⟨ws.heap.size, 0, none⟩) 1 1] (by rfl) (by rfl) (World.news_of_block (cs := #[.string ⟨#[102]⟩, .slice (some ⟨ws.heap.size, 0, none⟩) 1 1]) (t := 26) (fr := (0, 0)) (by rw [← hWB]; exact HBL.out)) (by simp [Value.oneCell']) (by omega) (by unfold maxLen; omega) (by omega) (by simp; omega) (ws.heap.size + 2) (by simp) ?_; intro gg cap w7 hown7 hgrow hat hlt7; rw [← hWB] at hgrow; have HOW := Lib.hid hown7; have HGW := Lib.hid hgrow; have HAT := Lib.hid hat; obtain ⟨s0, s1, s2⟩ := two_row HPB2.out hgrow HPO.out; clear hown7 hgrow hat)
          have hsz7 : WB.heap.size ≤ w7.heap.size := HGW.out.size
          have HB7 := Lib.hid (two_row HPB2.out HGW.out HPO.out)
          have HT7 := Lib.hid (HP.out w7 gg cap (ws.heap.size + 2) HOW.out HGW.out HAT.out (Nat.le_of_eq HZB.out))
          have HG7 : Hid (wo.grownBy (w7.setCell ⟨pb, 1, none⟩ (.slice (some ⟨gg, 0, none⟩) (M.length + 1) cap)) none) := Lib.hid (grown_one (grown_far (grown_step HGS.out HGB.out) HGW.out (fun g e => by have := (HOB.out g e).1; omega)) (by simpa using hpr) _)
          have HB8 := Lib.hid (HB7.out.setOne (.slice (some ⟨gg, 0, none⟩) (M.length + 1) cap))
          have HT8 := Lib.hid (HT7.out.setBelow (a := ⟨pb, 1, none⟩) (by simpa using hp5) (.slice (some ⟨gg, 0, none⟩) (M.length + 1) cap))
          have HM8 : Hid (M ++ [faT] = List.replicate (q + 1) faT) := Lib.hid (by rw [HM.out, List.replicate_succ'])
          have hz8 : W5.heap.size ≤ (w7.setCell ⟨pb, 1, none⟩ (.slice (some ⟨gg, 0, none⟩) (M.length + 1) cap)).heap.size := by rw [size_setCell]; omega
          clear p0 p1 p2 s0 s1 s2
          go_wp2
          go_roundw
          case rel => exact ⟨q + 1, _, by omega, by go_num, HB8.out, by rw [← HM8.out]; exact HT8.out, HG7.out, hz8⟩
          case measure => simp [intOf]; omega
        · have hq4 : q = 4 := by omega
          have hqi : ¬ (q : Int) < 4 := by omega
          have HM4 : Hid (M = List.replicate 4 faT) := Lib.hid (by rw [HM.out, hq4])
          have hml : M.length = 4 := by rw [HM4.out, List.length_replicate]
          have HML := Lib.hid hml
          clear hq4 hml
          obtain ⟨WB, hWB⟩ : ∃ W, W = ws.alloc (.cells #[.string ⟨#[104]⟩, .slice pp M.length pc] 26) := ⟨_, rfl⟩
          have HGB : Hid (ws.grownBy WB none) := Lib.hid (by rw [hWB]; exact World.grownBy_alloc _ _ _)
          have HZB : Hid (WB.heap.size = ws.heap.size + 1) := Lib.hid (by rw [hWB]; simp)
          have HBL : Hid (WB.heap[ws.heap.size]? = some (.cells #[.string ⟨#[104]⟩, .slice pp M.length pc] 26 (0, 0))) := Lib.hid (by rw [hWB]; exact heap_alloc_new ws _)
          have HRB := Lib.hid (grown_step HGS.out HGB.out)
          have HTO : Hid (TmO WB (Fresh W5 ws) (.slice pp M.length pc) haT.args) := Lib.hid (by
            show TmO WB (Fresh W5 ws) (.slice pp M.length pc) (List.replicate 4 faT)
            rw [← HM4.out]; exact HPT.out.whole.frame fun i hi => HGB.out.block i hi.2 (by simp))
          obtain ⟨xs, hx, hp⟩ := HT.out.push1 (wA := WB) (t := haT) (vt := .slice pp M.length pc) (S := Fresh W5 ws) hz (fun i hi _ => HRB.out.block i hi (by simp)) HRB.out.size HTO.out (fun i hi => ⟨by have := hi.1; omega, by have := hi.2; have := HGB.out.size; omega⟩)
          have HX := Lib.hid hx
          have HP := Lib.hid hp
          have HTB2 := Lib.hid (two_row HTW.out HRB.out (by simp))
          have hzb : ws.heap.size ≤ WB.heap.size := HGB.out.size
          have hpo : some tb ≠ (Value.slice p L.length c).ownBlock := fun e => by have := (HT.out.own tb e.symm).1; omega
          have HPO := Lib.hid hpo
          have HOB := Lib.hid HT.out.own
          clear hx hp hpo
          obtain ⟨t0, t1, t2⟩ := two_row HTW.out HGS.out (by simp)
          go_wp2_with (at_builtin; refine wpList_append_lies _ rfl _ _ _ (by rfl) WT.heap.size 26 i0 _ 2 40 Try.underlying24 hi hz0 hz1 hz2 rfl (by omega) (.slice p L.length c) L.length xs (by rfl) (by rw [← hWB]; exact HX.out) ⟨ws.heap.size, 0, none⟩ 1 1 [.string ⟨#[104]⟩, .slice pp M.length pc] (by rfl) (by rfl) (World.news_of_block (cs := #[.string ⟨#[104]⟩, .slice pp M.length pc]) (t := 26) (fr := (0, 0)) (by rw [← hWB]; exact HBL.out)) (by simp [Value.oneCell']) (by omega) (by unfold maxLen; omega) (by omega) (by simp; omega) (ws.heap.size + 1) (by simp) ?_; intro gg cap w7 hown7 hgrow hat hlt7; rw [← hWB] at hgrow; have HOW := Lib.hid hown7; have HGW := Lib.hid hgrow; have HAT := Lib.hid hat; obtain ⟨s0, s1, s2⟩ := two_row HTB2.out hgrow HPO.out; clear hown7 hgrow hat)
          have hsz7 : WB.heap.size ≤ w7.heap.size := HGW.out.size
          have HB7 := Lib.hid (two_row HTB2.out HGW.out HPO.out)
          have HT7 := Lib.hid (HP.out w7 gg cap (ws.heap.size + 1) HOW.out HGW.out HAT.out (Nat.le_of_eq HZB.out))
          have HG7 : Hid (WA.grownBy (w7.setCell ⟨tb, 1, none⟩ (.slice (some ⟨gg, 0, none⟩) (L.length + 1) cap)) none) := Lib.hid (grown_one (grown_far (grown_step HG.out HRB.out) HGW.out (fun g e => by have := (HOB.out g e).1; omega)) (by simpa using hzA) _)
          have HB8 := Lib.hid (HB7.out.setOne (.slice (some ⟨gg, 0, none⟩) (L.length + 1) cap))
          have HT8 := Lib.hid (HT7.out.setBelow (a := ⟨tb, 1, none⟩) (by simpa using hzT) (.slice (some ⟨gg, 0, none⟩) (L.length + 1) cap))
          have HM8 : Hid (L ++ [haT] = List.replicate (k + 1) haT) := Lib.hid (by rw [HL.out, List.replicate_succ'])
          have hz8 : WT.heap.size ≤ (w7.setCell ⟨tb, 1, none⟩ (.slice (some ⟨gg, 0, none⟩) (L.length + 1) cap)).heap.size := by rw [size_setCell]; omega
          clear p0 p1 p2 t0 t1 t2 s0 s1 s2
          go_wp2
          go_roundw
          case rel => exact ⟨k + 1, _, by omega, by go_num, HB8.out, by rw [← HM8.out]; exact HT8.out, HG7.out, hz8⟩
          case measure => simp [intOf]; omega
    · have hk4 : k = 4 := by omega
      have hki : ¬ (k : Int) < 4 := by omega
      have HL4 : Hid (L = List.replicate 4 haT) := Lib.hid (by rw [HL.out, hk4])
      have HLL : Hid (L.length = 4) := Lib.hid (by rw [HL4.out, List.length_replicate])
      clear hk4
      obtain ⟨g, c9, e9, hcap, hcap2⟩ := HT.out.shape (by intro e; have := HLL.out; rw [e] at this; cases this)
      obtain ⟨rfl, rfl⟩ : p = some ⟨g, 0, none⟩ ∧ c = c9 := by simpa using e9
      clear e9
      have hl4 : ((L.length : Int) == 3) = false := by rw [beq_eq_false_iff_ne, HLL.out]; decide
      have hc3 : (3 : Int) ≤ c := by have := HLL.out; omega
      have hc3n : 3 ≤ c := by omega
      have hbT : b < WT.heap.size := by omega
      have GO := Lib.hid (grown_far HGA.out HG.out (fun q e => by cases e))
      have KO := Lib.hid (HCA.out.later HG.out (by simp) (fun q e => by cases e))
      have RO := Lib.hid (two_row HRA.out HG.out (by simp))
      have C8 := Lib.hid (one_any wo B b (K) 2 KO.out (by omega) (by omega) (by omega))
      go_wp2_with fail
      refine C8.out.mono ?_
      rintro e w8 ⟨r, rfl, hg, hc⟩
      have G8 := Lib.hid (grown_step GO.out hg)
      have K8 := Lib.hid hc
      have R8 := Lib.hid (two_grown RO.out hg hnb)
      have T8 := Lib.hid (two_grown HTW.out hg htn)
      have H8 := Lib.hid (HT.out.later hg (fun q e => by have := Option.some.inj e; omega))
      have hzz8 := hg.size
      clear hg hc C8
      cases r with
      | true =>
        obtain ⟨W9, hW9⟩ : ∃ W, W = w8.setCell ⟨tb, 1, none⟩ (.slice (some ⟨g, 0, none⟩) 3 c) := ⟨_, rfl⟩
        obtain ⟨M, hM⟩ : ∃ M, M = L.take 3 := ⟨_, rfl⟩
        have HM := Lib.hid hM
        have hml : M.length = 3 := by rw [hM, List.length_take, HLL.out]; rfl
        have HML := Lib.hid hml
        have T9 : Hid (Two W9 tb (.string ⟨#[103]⟩) (.slice (some ⟨g, 0, none⟩) 3 c)) := Lib.hid (by rw [hW9]; exact T8.out.setOne _)
        have H9 : Hid (TmG WT W9 (.slice (some ⟨g, 0, none⟩) 3 c) M) := Lib.hid (by rw [hW9, hM]; exact (H8.out.short (k := 3) (by rw [HLL.out]; decide)).setBelow (by simpa using hzT) _)
        have R9 : Hid (Two W9 w.heap.size (.string ⟨#[]⟩) (.slice none 0 0)) := Lib.hid (by rw [hW9]; exact R8.out.setFar (by simp; omega) _)
        have G9 : Hid ((w.alloc (.cells #[.string ⟨#[]⟩, .slice none 0 0] 26)).grownBy W9 (some b)) := Lib.hid (by rw [hW9]; exact grown_one G8.out (by simp; omega) _)
        have K9 : Hid (Cur W9 B b (K + 2)) := Lib.hid (by rw [hW9]; exact cur_one K8.out htn (by show B ≤ tb; omega) _)
        have hz9 : w8.heap.size ≤ W9.heap.size := by rw [hW9, size_setCell]; exact Nat.le_refl _
        clear hM hml
        obtain ⟨t0, t1, t2⟩ := T8.out
        have htl : tb < w8.heap.size := World.block_lt_of_cell? _ ⟨tb, 0, none⟩ t0
        have C10 := Lib.hid (one_any W9 B b (K + 2) 2 K9.out (by omega) (by omega) (by omega))
        go_wp2_with fail
        rw [← hW9]; clear hW9 t0 t1 t2
        refine C10.out.mono ?_
        rintro e w10 ⟨r, rfl, hg, hc⟩
        have G10 := Lib.hid (grown_step G9.out hg)
        have K10 := Lib.hid hc
        have R10 := Lib.hid (two_grown R9.out hg hnb)
        have T10 := Lib.hid (two_grown T9.out hg htn)
        have H10 := Lib.hid (H9.out.later hg (fun q e => by have := Option.some.inj e; omega))
        have hzz10 := hg.size
        clear hg hc C10
        cases r with
        | false =>
          have TE := T10
          have HTE := H10
          have GE := G10
          have CE := K10
          have RE := R10
          obtain ⟨X, Y, hX, hY⟩ : ∃ X Y : Value, X = .string ⟨#[103]⟩ ∧ Y = .slice (some ⟨g, 0, none⟩) 3 c := ⟨_, _, rfl, rfl⟩
          have HTX := Lib.hid (HTE.out.setTwo (r := w.heap.size) (by omega) X Y)
          have HGX := Lib.hid (fin_grown GE.out X Y)
          have HCX := Lib.hid (fin_cur CE.out hnb (by omega) X Y)
          have HRX := Lib.hid ((RE.out.setNil X).setOne Y)
          have hwt : (Tm.node ⟨#[103]⟩ (M)).wt ≤ 200 := by rw [HM.out, HL4.out]; decide
          subst hX hY
          obtain ⟨r0, r1, r2⟩ := RE.out
          obtain ⟨t0, t1, t2⟩ := TE.out
          have hrl : w.heap.size < w10.heap.size := World.block_lt_of_cell? _ ⟨w.heap.size, 0, none⟩ r0
          have htl : tb < w10.heap.size := World.block_lt_of_cell? _ ⟨tb, 0, none⟩ t0
          go_wp2
          clear r0 r1 r2
          obtain ⟨r0, r1, r2⟩ := HRX.out
          refine bodyPost_ret (v := .agg #[.string ⟨#[103]⟩, .slice (some ⟨g, 0, none⟩) 3 c]) (by simp [results, Try.results157, go_sem, r0, r1]) rfl ?_
          exact dr_fin (t := .node ⟨#[103]⟩ (M)) HTX.out (by omega) hwt HGX.out HCX.out (by omega)
        | true =>
          obtain ⟨WB, hWB⟩ : ∃ W, W = (w10.alloc (.cells #[.string ⟨#[98]⟩, .slice none 0 0] 26)).alloc (.cells #[.string ⟨#[102]⟩, .slice (some ⟨w10.heap.size, 0, none⟩) 1 1] 26) := ⟨_, rfl⟩
          have HGB : Hid (w10.grownBy WB none) := Lib.hid (by rw [hWB]; exact grown_step (World.grownBy_alloc _ _ _) (World.grownBy_alloc _ _ _))
          have HZB : Hid (WB.heap.size = w10.heap.size + 2) := Lib.hid (by rw [hWB]; simp)
          have HBL : Hid (WB.heap[w10.heap.size + 1]? = some (.cells #[.string ⟨#[102]⟩, .slice (some ⟨w10.heap.size, 0, none⟩) 1 1] 26 (0, 0))) := Lib.hid (by
            rw [hWB]; have h := heap_alloc_new (w10.alloc (.cells #[.string ⟨#[98]⟩, .slice none 0 0] 26)) (.cells #[.string ⟨#[102]⟩, .slice (some ⟨w10.heap.size, 0, none⟩) 1 1] 26); rw [World.size_alloc] at h; exact h)
          have HTA : Hid (TmG w10 WB (.slice (some ⟨w10.heap.size, 0, none⟩) 1 1) [.node ⟨#[98]⟩ []]) := Lib.hid (by
            rw [hWB]; exact (TmG.one (w0 := w10) (t := .node ⟨#[98]⟩ []) (.emp _ _ _) (Nat.le_refl _)).alloc _)
          obtain ⟨xs, hx, hp⟩ := H10.out.push1 (wA := WB) (t := fbT) (vt := .slice (some ⟨w10.heap.size, 0, none⟩) 1 1) (S := Fresh w10 WB) (by omega) (fun i hi _ => HGB.out.block i hi (by simp)) HGB.out.size HTA.out.whole (fun i hi => hi)
          have HX := Lib.hid hx
          have HP := Lib.hid hp
          have TB := Lib.hid (two_row T10.out HGB.out (by simp))
          have RB := Lib.hid (two_row R10.out HGB.out (by simp))
          have hzb : w10.heap.size ≤ WB.heap.size := HGB.out.size
          have hml3 : M.length ≤ 4 := by have := HML.out; omega
          have HPO : Hid (some tb ≠ (Value.slice (some ⟨g, 0, none⟩) 3 c).ownBlock) := Lib.hid (fun e => by have := (H10.out.own tb e.symm).1; omega)
          have HPR : Hid (some w.heap.size ≠ (Value.slice (some ⟨g, 0, none⟩) 3 c).ownBlock) := Lib.hid (fun e => by have := (H10.out.own _ e.symm).1; omega)
          have HOB := Lib.hid H10.out.own
          clear hx hp
          obtain ⟨t0, t1, t2⟩ := T10.out
          have htl10 : tb < w10.heap.size := World.block_lt_of_cell? _ ⟨tb, 0, none⟩ t0
          go_wp2_with (at_builtin; refine wpList_append_lies _ rfl _ _ _ (by rfl) WT.heap.size 26 i0 _ 2 40 Try.underlying24 hi hz0 hz1 hz2 rfl (by omega) (.slice (some ⟨g, 0, none⟩) 3 c) M.length xs (by rfl) (by rw [← hWB]; exact HX.out) ⟨w10.heap.size + 1, 0, none⟩ 1 1 [.string ⟨#[102]⟩, .slice (some ⟨w10.heap.size, 0, none⟩) 1 1] (by rfl) (by rfl) (World.news_of_block (cs := #[.string ⟨#[102]⟩, .slice (some ⟨w10.heap.size, 0, none⟩) 1 1]) (t := 26) (fr := (0, 0)) (by rw [← hWB]; exact HBL.out)) (by simp [Value.oneCell']) (by omega) (by unfold maxLen; omega) (by omega) (by simp; omega) (w10.heap.size + 2) (by simp) ?_; intro gg cap w7 hown7 hgrow hat hlt7; rw [← hWB] at hgrow; have HOW := Lib.hid hown7; have HGW := Lib.hid hgrow; have HAT := Lib.hid hat; obtain ⟨s0, s1, s2⟩ := two_row TB.out hgrow HPO.out; obtain ⟨r0, r1, r2⟩ := two_row RB.out hgrow HPR.out; have hrl : w.heap.size < w7.heap.size := World.block_lt_of_cell? _ ⟨w.heap.size, 0, none⟩ r0; have htl : tb < w7.heap.size := World.block_lt_of_cell? _ ⟨tb, 0, none⟩ s0; clear hown7 hgrow hat)
          have hsz7 : WB.heap.size ≤ w7.heap.size := HGW.out.size
          have R7 := Lib.hid (two_row RB.out HGW.out HPR.out)
          have T7 := Lib.hid (two_row TB.out HGW.out HPO.out)
          have HT7 := Lib.hid (HP.out w7 gg cap (w10.heap.size + 2) HOW.out HGW.out HAT.out (Nat.le_of_eq HZB.out))
          obtain ⟨V, hV⟩ : ∃ V : Value, V = .slice (some ⟨gg, 0, none⟩) (M.length + 1) cap := ⟨_, rfl⟩
          rw [← hV] at HT7
          have HT8 := Lib.hid ((HT7.out.setBelow (a := ⟨tb, 1, none⟩) (by simpa using hzT) V).setTwo (r := w.heap.size) (by omega) (.string ⟨#[103]⟩) V)
          have GB := Lib.hid (grown_far (row := none) G10.out HGB.out (fun q e => by cases e))
          have G7 := Lib.hid (grown_far GB.out HGW.out (fun q e => by have := (HOB.out q e).1; simp; omega))
          have KB := Lib.hid (K10.out.later (row := none) HGB.out (by simp) (fun q e => by cases e))
          have K7 := Lib.hid (KB.out.later HGW.out (fun e => by have := (HOB.out b e).1; omega) (fun q e => by have := (HOB.out q e).1; omega))
          have GX := Lib.hid (fin_grown (grown_one G7.out (a := ⟨tb, 1, none⟩) (by simp; omega) V) (.string ⟨#[103]⟩) V)
          have KX := Lib.hid (fin_cur (cur_one K7.out (a := ⟨tb, 1, none⟩) htn (by show B ≤ tb; omega) V) hnb (by omega) (.string ⟨#[103]⟩) V)
          have RX := Lib.hid (((R7.out.setFar (a := ⟨tb, 1, none⟩) (by simp; omega) V).setNil (.string ⟨#[103]⟩)).setOne V)
          have hwt : (Tm.node ⟨#[103]⟩ (M ++ [fbT])).wt ≤ 200 := by rw [HM.out, HL4.out]; decide
          subst hV
          clear s0 s1 s2 r0 r1 r2
          obtain ⟨r0, r1, r2⟩ := RX.out
          refine bodyPost_ret (v := .agg #[.string ⟨#[103]⟩, .slice (some ⟨gg, 0, none⟩) (M.length + 1) cap]) (by simp [results, Try.results157, go_sem, r0, r1]) rfl ?_
          exact dr_fin (t := .node ⟨#[103]⟩ (M ++ [fbT])) HT8.out (by omega) hwt GX.out KX.out (by omega)
      | false =>
        have C10 := Lib.hid (one_any w8 B b (K + 2) 2 K8.out (by omega) (by omega) (by omega))
        go_wp2_with fail
        refine C10.out.mono ?_
        rintro e w10 ⟨r, rfl, hg, hc⟩
        have G10 := Lib.hid (grown_step G8.out hg)
        have K10 := Lib.hid hc
        have R10 := Lib.hid (two_grown R8.out hg hnb)
        have T10 := Lib.hid (two_grown T8.out hg htn)
        have H10 := Lib.hid (H8.out.later hg (fun q e => by have := Option.some.inj e; omega))
        have hzz10 := hg.size
        clear hg hc C10
        cases r with
        | false =>
          have TE := T10
          have HTE := H10
          have GE := G10
          have CE := K10
          have RE := R10
          obtain ⟨X, Y, hX, hY⟩ : ∃ X Y : Value, X = .string ⟨#[103]⟩ ∧ Y = .slice (some ⟨g, 0, none⟩) L.length c := ⟨_, _, rfl, rfl⟩
          have HTX := Lib.hid (HTE.out.setTwo (r := w.heap.size) (by omega) X Y)
          have HGX := Lib.hid (fin_grown GE.out X Y)
          have HCX := Lib.hid (fin_cur CE.out hnb (by omega) X Y)
          have HRX := Lib.hid ((RE.out.setNil X).setOne Y)
          have hwt : (Tm.node ⟨#[103]⟩ (L)).wt ≤ 200 := by rw [HL4.out]; decide
          subst hX hY
          obtain ⟨r0, r1, r2⟩ := RE.out
          obtain ⟨t0, t1, t2⟩ := TE.out
          have hrl : w.heap.size < w10.heap.size := World.block_lt_of_cell? _ ⟨w.heap.size, 0, none⟩ r0
          have htl : tb < w10.heap.size := World.block_lt_of_cell? _ ⟨tb, 0, none⟩ t0
          go_wp2
          clear r0 r1 r2
          obtain ⟨r0, r1, r2⟩ := HRX.out
          refine bodyPost_ret (v := .agg #[.string ⟨#[103]⟩, .slice (some ⟨g, 0, none⟩) L.length c]) (by simp [results, Try.results157, go_sem, r0, r1]) rfl ?_
          exact dr_fin (t := .node ⟨#[103]⟩ (L)) HTX.out (by omega) hwt HGX.out HCX.out (by omega)
        | true =>
          have TE := T10
          have HTE := H10
          have GE := G10
          have CE := K10
          have RE := R10
          obtain ⟨X, Y, hX, hY⟩ : ∃ X Y : Value, X = .string ⟨#[103]⟩ ∧ Y = .slice (some ⟨g, 0, none⟩) L.length c := ⟨_, _, rfl, rfl⟩
          have HTX := Lib.hid (HTE.out.setTwo (r := w.heap.size) (by omega) X Y)
          have HGX := Lib.hid (fin_grown GE.out X Y)
          have HCX := Lib.hid (fin_cur CE.out hnb (by omega) X Y)
          have HRX := Lib.hid ((RE.out.setNil X).setOne Y)
          have hwt : (Tm.node ⟨#[103]⟩ (L)).wt ≤ 200 := by rw [HL4.out]; decide
          subst hX hY
          obtain ⟨r0, r1, r2⟩ := RE.out
          obtain ⟨t0, t1, t2⟩ := TE.out
          have hrl : w.heap.size < w10.heap.size := World.block_lt_of_cell? _ ⟨w.heap.size, 0, none⟩ r0
          have htl : tb < w10.heap.size := World.block_lt_of_cell? _ ⟨tb, 0, none⟩ t0
          go_wp2
          clear r0 r1 r2
          obtain ⟨r0, r1, r2⟩ := HRX.out
          refine bodyPost_ret (v := .agg #[.string ⟨#[103]⟩, .slice (some ⟨g, 0, none⟩) L.length c]) (by simp [results, Try.results157, go_sem, r0, r1]) rfl ?_
          exact dr_fin (t := .node ⟨#[103]⟩ (L)) HTX.out (by omega) hwt HGX.out HCX.out (by omega)

end Go.Proofs.Ytppmiedhoimgmaa

/- Drawn terms that may be invalid: a contract, for a cursor of at most 900000 steps. -/
namespace Go.Proofs.Ytppmiedhoimgmaa
open Go.RowKit
set_option linter.unusedVariables false
set_option linter.unusedSimpArgs false

def anList : List ByteArray := [⟨#[]⟩, ⟨#[116, 114, 117, 101]⟩, ⟨#[116, 114, 117, 116, 104]⟩, ⟨#[105, 102]⟩, ⟨#[88, 121, 122, 57]⟩, ⟨#[88, 121, 122, 57, 57]⟩, ⟨#[120, 65]⟩, ⟨#[97, 95, 98]⟩, ⟨#[97, 98, 99, 100, 101, 102]⟩, ⟨#[97, 98, 99, 100, 101, 102, 103]⟩, ⟨#[95, 97]⟩, ⟨#[57]⟩, ⟨#[88, 95]⟩, ⟨#[61]⟩]
theorem anList_size : ∀ s ∈ anList, s.size ≤ 7 := by decide
def rnList : List ByteArray := [⟨#[61]⟩, ⟨#[]⟩, ⟨#[81, 49]⟩, ⟨#[98, 50]⟩]
theorem rnList_size : ∀ s ∈ rnList, s.size ≤ 2 := by decide
theorem rename_wt (s : ByteArray) (t : Tm) : (Tm.node s t.args).wt + t.name.size = t.wt + s.size := by
  rw [Tm.wt_eq, t.wt_eq]; simp [Tm.name, Tm.args]; omega
theorem cons_wt (n : ByteArray) (x : Tm) (l : List Tm) : (Tm.node n (x :: l)).wt = n.size + (l.length + 1) + (x.wt + sumL Tm.wt l) := by
  rw [Tm.wt_eq]; simp [Tm.name, Tm.args, sumL]
theorem TmG.unfrozen {w0 w : World} {va : Value} {l : List Tm} (h : TmG w0 w va l) (g : Nat) (hg : va.ownBlock = some g) : ∀ j, w.frozen? ⟨g, j, none⟩ = false := by
  obtain ⟨xs, f, Ss, h1, h2, h3⟩ := h
  rcases h1.2 with ⟨e, _⟩ | ⟨g', cap, cur, e, hb, hblk, _⟩
  · subst e; simp [Value.ownBlock] at hg
  · subst e
    have eg : g' = g := by simpa [Value.ownBlock] using hg
    subst eg
    intro j; simp [World.frozen?, hblk]
theorem app3_wt (t a d e : Tm) : (Tm.node t.name (t.args ++ [a, d, e])).wt = t.wt + 3 + a.wt + d.wt + e.wt := by
  rw [Tm.wt_eq, t.wt_eq]; simp [Tm.name, Tm.args, sumL_append, sumL]; omega
/-- Three terms in a row, each in blocks of its own. -/
theorem made_three {w1 x0 x1 x2 x3 w : World} {a d e : Tm} {va vd ve : Value} (ha : TmO w (Fresh x0 x1) va a.args) (hd : TmO w (Fresh x1 x2) vd d.args) (he : TmO w (Fresh x2 x3) ve e.args) (h1 : w1.heap.size ≤ x0.heap.size) (h2 : x0.heap.size ≤ x1.heap.size) (h3 : x1.heap.size ≤ x2.heap.size) (h4 : x2.heap.size ≤ x3.heap.size) (h5 : x3.heap.size ≤ w.heap.size) :
    ∃ fN SN, Made w1 w [.string a.name, va, .string d.name, vd, .string e.name, ve] [a, d, e] ([a, d, e] : List Tm).length fN SN := by
  have hcs : ∀ {i : Nat} {s : Tm}, [a, d, e][i]? = some s → (i = 0 ∧ s = a) ∨ (i = 1 ∧ s = d) ∨ (i = 2 ∧ s = e) := fun {i s} hi => by
    match i, hi with
    | 0, hi => exact .inl ⟨rfl, by simpa using hi.symm⟩
    | 1, hi => exact .inr (.inl ⟨rfl, by simpa using hi.symm⟩)
    | 2, hi => exact .inr (.inr ⟨rfl, by simpa using hi.symm⟩)
    | n + 3, hi => simp at hi
  have hS : ∀ i k, (fun i : Nat => if i = 0 then Fresh x0 x1 else if i = 1 then Fresh x1 x2 else Fresh x2 x3) i k → (i = 0 ∧ x0.heap.size ≤ k ∧ k < x1.heap.size) ∨ (i = 1 ∧ x1.heap.size ≤ k ∧ k < x2.heap.size) ∨ (i ≠ 0 ∧ i ≠ 1 ∧ x2.heap.size ≤ k ∧ k < x3.heap.size) := fun i k h => by
    simp only at h
    by_cases e : i = 0
    · rw [if_pos e] at h; exact .inl ⟨e, h.1, h.2⟩
    · rw [if_neg e] at h
      by_cases e1 : i = 1
      · rw [if_pos e1] at h; exact .inr (.inl ⟨e1, h.1, h.2⟩)
      · rw [if_neg e1] at h; exact .inr (.inr ⟨e, e1, h.1, h.2⟩)
  refine ⟨fun i => if i = 0 then va else if i = 1 then vd else ve, fun i => if i = 0 then Fresh x0 x1 else if i = 1 then Fresh x1 x2 else Fresh x2 x3, fun i s hi hs => ?_, fun i s hi hs => ?_, fun i s hi hs => ?_, fun i k hi hk => ?_, fun i j k hi hj hij hk hk' => ?_⟩
  · rcases hcs hs with ⟨rfl, rfl⟩ | ⟨rfl, rfl⟩ | ⟨rfl, rfl⟩ <;> rfl
  · rcases hcs hs with ⟨rfl, rfl⟩ | ⟨rfl, rfl⟩ | ⟨rfl, rfl⟩ <;> rfl
  · rcases hcs hs with ⟨rfl, rfl⟩ | ⟨rfl, rfl⟩ | ⟨rfl, rfl⟩
    · exact ha
    · exact hd
    · exact he
  · rcases hS i k hk with h | h | h
    · exact ⟨by omega, by omega⟩
    · exact ⟨by omega, by omega⟩
    · exact ⟨by omega, by omega⟩
  · simp at hi hj
    rcases hS i k hk with h | h | h <;> rcases hS j k hk' with h' | h' | h' <;> omega
/-- Several terms more, ready for the append. -/
theorem TmG.pushN {w0 w1 wA : World} {va : Value} {l ns : List Tm} {news : List Value} (h : TmG w0 w1 va l) (hz0 : w0.heap.size ≤ w1.heap.size) (hk : ∀ k, k < w1.heap.size → w0.heap.size ≤ k → wA.heap[k]? = w1.heap[k]?) (hz1 : w1.heap.size ≤ wA.heap.size)
    {x0 : World} (hx0 : w1.heap.size ≤ x0.heap.size) (hN : ∃ fN SN, Made x0 wA news ns ns.length fN SN) :
    ∃ xs, wA.ownsRow w0.heap.size 26 2 va l.length xs ∧ ∀ (w' : World) (g cap H : Nat), w'.ownsRow w0.heap.size 26 2 (.slice (some ⟨g, 0, none⟩) (l.length + ns.length) cap) (l.length + ns.length) (xs ++ news) → wA.heap.size ≤ w'.heap.size → (∀ k, (w0.heap.size ≤ k ∧ k < w1.heap.size) ∨ (x0.heap.size ≤ k ∧ k < wA.heap.size) → va.ownBlock ≠ some k → w'.heap[k]? = wA.heap[k]?) → (va.ownBlock = some g ∨ g = H) → wA.heap.size ≤ H →
      TmG w0 w' (.slice (some ⟨g, 0, none⟩) (l.length + ns.length) cap) (l ++ ns) := by
  obtain ⟨xs, f, Ss, h1, h2, h3⟩ := h
  obtain ⟨fN, SN, hN⟩ := hN
  have h1A : wA.ownsRow w0.heap.size 26 2 va l.length xs := by
    obtain ⟨hl, h⟩ := h1
    refine ⟨hl, ?_⟩
    rcases h with h | ⟨g, cap, cur, e, hb, hblk, hr⟩
    · exact .inl h
    · have hg : g < w1.heap.size := (Array.getElem?_eq_some_iff.1 hblk).1
      exact .inr ⟨g, cap, cur, e, hb, (hk g hg hb).trans hblk, hr⟩
  exact ⟨xs, h1A, fun w' g cap H hown hgz hgf hat hH => TmG.pushX h2 h1.1 h3 (fun g hg => (h1.lt g hg).2) hk hz1 hz0 hx0 hN hown hgz hgf hat hH⟩

set_option maxRecDepth 100000 in
set_option maxHeartbeats 4000000 in
theorem anyTerm_any (w : World) (B b K : Nat) (hc : Cur w B b K) (hK : K + 400 ≤ 900000) :
    Calls Try.prog 115 #[.pointer (some ⟨b, 0, none⟩)] w (DrE w B b (K + 400) 210) := by
  have hbb := hc.block
  obtain ⟨WA, hWA⟩ : ∃ W, W = w.alloc (.cells #[.string ⟨#[]⟩, .slice none 0 0] 26) := ⟨_, rfl⟩
  have HRA : Hid (Two WA w.heap.size (.string ⟨#[]⟩) (.slice none 0 0)) := Lib.hid (by rw [hWA]; exact two_new w _ _ 26 _ rfl)
  have HGA : Hid ((w.alloc (.cells #[.string ⟨#[]⟩, .slice none 0 0] 26)).grownBy WA (some b)) := Lib.hid (by rw [hWA]; exact grown_refl _ _)
  have HZA : Hid (WA.heap.size = w.heap.size + 1) := Lib.hid (by rw [hWA]; simp)
  have HCA : Hid (Cur WA B b K) := Lib.hid (by rw [hWA]; exact hc.alloc _)
  have hnb : w.heap.size ≠ b := by omega
  clear hc
  obtain ⟨i0, hi, hz0, hz1, hz2⟩ := info_parts infoTm
  go_enter Try.func115, Try.ntmps115
  have C0 := Lib.hid (term_any WA B b K HCA.out (by omega))
  go_wp2_with fail
  rw [← hWA]
  clear hWA
  refine C0.out.mono ?_
  rintro e w1 ⟨t, vt, rfl, ht, hwt, hg, hc⟩
  obtain ⟨p, c, rfl⟩ := ht.slice
  have hg1 := hg.size
  have hzA : w.heap.size < WA.heap.size := by have := HZA.out; omega
  have HT1 : Hid (TmG WA w1 (.slice p t.args.length c) t.args) := Lib.hid (TmG.down ht (Nat.le_refl _))
  have G1 := Lib.hid (grown_step HGA.out hg)
  have R1 := Lib.hid (two_grown HRA.out hg hnb)
  obtain ⟨tb, htb⟩ : ∃ tb, tb = w1.heap.size := ⟨_, rfl⟩
  obtain ⟨W2, hW2⟩ : ∃ W, W = w1.alloc (.cells #[.string t.name, .slice p t.args.length c] 26) := ⟨_, rfl⟩
  have hz1 := G1.out.size
  have hzA1 : WA.heap.size ≤ w1.heap.size := by have := HZA.out; rw [World.size_alloc] at hz1; omega
  have htr : w.heap.size < tb := by omega
  have htn : tb ≠ b := by omega
  have ht1 : w1.heap.size ≤ tb := by omega
  have T2 : Hid (Two W2 tb (.string t.name) (.slice p t.args.length c)) := Lib.hid (by rw [hW2]; exact two_new _ _ _ _ _ htb)
  have N2 : Hid (w1.grownBy W2 (some b)) := Lib.hid (by rw [hW2]; exact World.grownBy_alloc _ _ _)
  have K2 : Hid (Cur W2 B b (K + 76)) := Lib.hid (by rw [hW2]; exact hc.alloc _)
  have HZ2 : Hid (W2.heap.size = tb + 1) := Lib.hid (by rw [hW2, World.size_alloc, htb])
  have HTE := Lib.hid htb
  have hbA : b < WA.heap.size := by omega
  clear ht hg hc C0 htb hz1
  have C3 := Lib.hid (pick_any W2 B b (K + 76) 24 K2.out (by omega) (by omega) (by omega))
  go_wp2_with fail
  try rw [← hW2]
  try rw [← HTE.out]
  clear hW2 HTE
  refine C3.out.mono ?_
  rintro e w3 ⟨r, rfl, hr0, hr1, hg, hc⟩
  have N3 := Lib.hid (grown_step N2.out hg)
  have K3 := Lib.hid hc
  have T3 := Lib.hid (two_grown T2.out hg htn)
  have hz3 := hg.size
  clear hg hc C3
  obtain ⟨t0, t1, t2⟩ := T3.out
  have htl3 : tb < w3.heap.size := World.block_lt_of_cell? _ ⟨tb, 0, none⟩ t0
  by_cases h0 : r = 0
  · have q0 := op_is h0
    clear h0
    have CL : Hid (Calls Try.prog 114 #[.pointer (some ⟨b, 0, none⟩), .slice (some ⟨w3.heap.size, 0, none⟩) 14 14] (w3.alloc (.cells #[.string ⟨#[]⟩, .string ⟨#[116, 114, 117, 101]⟩, .string ⟨#[116, 114, 117, 116, 104]⟩, .string ⟨#[105, 102]⟩, .string ⟨#[88, 121, 122, 57]⟩, .string ⟨#[88, 121, 122, 57, 57]⟩, .string ⟨#[120, 65]⟩, .string ⟨#[97, 95, 98]⟩, .string ⟨#[97, 98, 99, 100, 101, 102]⟩, .string ⟨#[97, 98, 99, 100, 101, 102, 103]⟩, .string ⟨#[95, 97]⟩, .string ⟨#[57]⟩, .string ⟨#[88, 95]⟩, .string ⟨#[61]⟩] 9)) fun e w' => OfEnd w3 B b (K + 76 + 2 + 2) anList e w') := Lib.hid (ofLit_any w3 _ _ _ anList K3.out (by omega) (by decide) (by decide))
    go_wp2_with fail
    refine CL.out.mono ?_
    rintro e w4 ⟨s, rfl, hs, hg, hc⟩
    have hsz := anList_size s hs
    have N4 := Lib.hid (grown_step N3.out hg)
    have K4 := Lib.hid hc
    have T4 := Lib.hid (two_grown T3.out hg htn)
    clear hg hc hs CL t0 t1 t2
    have NX := Lib.hid (grown_one N4.out (a := ⟨tb, 0, none⟩) (by show w1.heap.size ≤ tb; omega) (.string s))
    have KX := Lib.hid (cur_one K4.out (a := ⟨tb, 0, none⟩) htn (by show B ≤ tb; omega) (.string s))
    have hrw := rename_wt s t
    obtain ⟨X, Y, hX, hY⟩ : ∃ X Y : Value, X = .string s ∧ Y = .slice p t.args.length c := ⟨_, _, rfl, rfl⟩
    have HTX := Lib.hid ((HT1.out.later NX.out (fun q e => by have := Option.some.inj e; omega)).setTwo (r := w.heap.size) (by omega) X Y)
    have HGX := Lib.hid (fin_grown (grown_step G1.out NX.out) X Y)
    have HCX := Lib.hid (fin_cur KX.out hnb (by omega) X Y)
    have RE := Lib.hid (two_grown R1.out NX.out hnb)
    have HRX := Lib.hid ((RE.out.setNil X).setOne Y)
    have R4 := Lib.hid (two_grown R1.out N4.out hnb)
    have hwx : (Tm.node s t.args).wt ≤ 210 := by omega
    subst hX hY
    obtain ⟨r0, r1, r2⟩ := R4.out
    obtain ⟨t0, t1, t2⟩ := T4.out
    have hrl : w.heap.size < w4.heap.size := World.block_lt_of_cell? _ ⟨w.heap.size, 0, none⟩ r0
    have htl : tb < w4.heap.size := World.block_lt_of_cell? _ ⟨tb, 0, none⟩ t0
    go_wp2
    clear r0 r1 r2 t0 t1 t2
    obtain ⟨r0, r1, r2⟩ := HRX.out
    refine bodyPost_ret (v := .agg #[.string s, .slice p t.args.length c]) (by simp [results, Try.results115, go_sem, r0, r1]) rfl ?_
    exact dr_fin (t := .node s t.args) HTX.out (by omega) hwx HGX.out HCX.out (by omega)
  have q0 := op_not h0
  clear h0
  by_cases h1 : r = 1
  · have q1 := op_is h1
    clear h1
    clear t0 t1 t2
    have C4 := Lib.hid (pick_any w3 B b (K + 76 + 2) 3 K3.out (by omega) (by omega) (by omega))
    go_wp2_with fail
    refine C4.out.mono ?_
    rintro e w4 ⟨d, rfl, hd0, hd1, hg, hc⟩
    have N4 := Lib.hid (grown_step N3.out hg)
    have K4 := Lib.hid hc
    have T4 := Lib.hid (two_grown T3.out hg htn)
    have hz4 := hg.size
    clear hg hc C4
    have C5 := Lib.hid (tower_any (7 + d) (by omega) (by omega) w4 B b (K + 76 + 2 + 2) K4.out (by omega))
    go_wp2_with fail
    refine C5.out.mono ?_
    rintro e w5 ⟨u, vu, rfl, hu, hwu, hg, hc⟩
    obtain ⟨pu, cu, rfl⟩ := hu.slice
    have HU := Lib.hid hu
    have N5 := Lib.hid (grown_step N4.out hg)
    have K5 := Lib.hid hc
    have T5 := Lib.hid (two_grown T4.out hg htn)
    have hz5 := hg.size
    clear hg hc C5 hu
    obtain ⟨X, Y, hX, hY⟩ : ∃ X Y : Value, X = .string u.name ∧ Y = .slice pu u.args.length cu := ⟨_, _, rfl, rfl⟩
    have HTX := Lib.hid (((HU.out.down (w0 := WA) (by have := N4.out.size; omega))).setTwo (r := w.heap.size) (by omega) X Y)
    have HGX := Lib.hid (fin_grown (grown_step G1.out N5.out) X Y)
    have HCX := Lib.hid (fin_cur K5.out hnb (by omega) X Y)
    have RE := Lib.hid (two_grown R1.out N5.out hnb)
    have HRX := Lib.hid ((RE.out.setNil X).setOne Y)
    have hwx : (u).wt ≤ 210 := by omega
    subst hX hY
    obtain ⟨r0, r1, r2⟩ := RE.out
    have hrl : w.heap.size < w5.heap.size := World.block_lt_of_cell? _ ⟨w.heap.size, 0, none⟩ r0
    go_wp2
    clear r0 r1 r2
    obtain ⟨r0, r1, r2⟩ := HRX.out
    refine bodyPost_ret (v := .agg #[.string u.name, .slice pu u.args.length cu]) (by simp [results, Try.results115, go_sem, r0, r1]) rfl ?_
    exact dr_fin (t := u) HTX.out (by omega) hwx HGX.out HCX.out (by omega)
  have q1 := op_not h1
  clear h1
  by_cases h2 : r = 2
  · have q2 := op_is h2
    clear h2
    clear t0 t1 t2
    have C5 := Lib.hid (wide_any w3 B b (K + 76 + 2) K3.out (by omega))
    go_wp2_with fail
    refine C5.out.mono ?_
    rintro e w5 ⟨u, vu, rfl, hu, hwu, hg, hc⟩
    obtain ⟨pu, cu, rfl⟩ := hu.slice
    have HU := Lib.hid hu
    have N5 := Lib.hid (grown_step N3.out hg)
    have K5 := Lib.hid hc
    have T5 := Lib.hid (two_grown T3.out hg htn)
    have hz5 := hg.size
    clear hg hc C5 hu
    obtain ⟨X, Y, hX, hY⟩ : ∃ X Y : Value, X = .string u.name ∧ Y = .slice pu u.args.length cu := ⟨_, _, rfl, rfl⟩
    have HTX := Lib.hid (((HU.out.down (w0 := WA) (by have := N3.out.size; omega))).setTwo (r := w.heap.size) (by omega) X Y)
    have HGX := Lib.hid (fin_grown (grown_step G1.out N5.out) X Y)
    have HCX := Lib.hid (fin_cur K5.out hnb (by omega) X Y)
    have RE := Lib.hid (two_grown R1.out N5.out hnb)
    have HRX := Lib.hid ((RE.out.setNil X).setOne Y)
    have hwx : (u).wt ≤ 210 := by omega
    subst hX hY
    obtain ⟨r0, r1, r2⟩ := RE.out
    have hrl : w.heap.size < w5.heap.size := World.block_lt_of_cell? _ ⟨w.heap.size, 0, none⟩ r0
    go_wp2
    clear r0 r1 r2
    obtain ⟨r0, r1, r2⟩ := HRX.out
    refine bodyPost_ret (v := .agg #[.string u.name, .slice pu u.args.length cu]) (by simp [results, Try.results115, go_sem, r0, r1]) rfl ?_
    exact dr_fin (t := u) HTX.out (by omega) hwx HGX.out HCX.out (by omega)
  have q2 := op_not h2
  clear h2
  by_cases h3 : r = 3
  · have q3 := op_is h3
    clear h3
    have KD : Hid (Cur w3.drew B b (K + 76 + 2)) := Lib.hid (K3.out.later (row := none) ⟨rfl, rfl, rfl, Nat.le_refl _, fun _ _ _ => rfl⟩ (by simp) (fun q e => by cases e))
    have TD := Lib.hid T3.out.drew
    have ND : Hid (w1.grownBy w3.drew (some b)) := Lib.hid (grown_step N3.out ⟨rfl, rfl, rfl, Nat.le_refl _, fun _ _ _ => rfl⟩)
    have HPO : Hid (some tb ≠ (Value.slice p t.args.length c).ownBlock) := Lib.hid (fun e => by have := (HT1.out.own tb e.symm).2; omega)
    have hlen := t.wt_len
    have hdq : w3.heap.size ≤ w3.drew.heap.size := Nat.le_refl _
    go_upto_region 10 with fail
    clear t0 t1 t2
    obtain ⟨t0, t1, t2⟩ := TD.out
    refine sink_start 11 (fun w' => w'.cell? ⟨tb, 1, none⟩ = some (.slice p t.args.length c)) (by kernel_rfl) (t1) (fun hHeld => ?_)
    refine sink_take 0 (v := ?_) rfl (by kernel_rfl) (by kernel_rfl) (by kernel_rfl) (by kernel_rfl) (by rfl) (fun _ _ _ h => h) (by assumption) ?_ ?_; rotate_left; (intro w hSw; (try dsimp only at hSw); go_simp; try (with_reducible rfl))
    try simp only [Act.put, List.getElem_toArray, List.getElem_cons_zero, List.getElem_cons_succ, List.setIfInBounds_toArray, List.set_cons_zero, List.set_cons_succ]
    refine sink_take 1 (v := ?_) rfl (by kernel_rfl) (by kernel_rfl) (by kernel_rfl) (by kernel_rfl) (by rfl) (fun _ _ _ h => h) (by assumption) ?_ ?_; rotate_left; (intro w hSw; (try dsimp only at hSw); go_simp; try (with_reducible rfl))
    try simp only [Act.put, List.getElem_toArray, List.getElem_cons_zero, List.getElem_cons_succ, List.setIfInBounds_toArray, List.set_cons_zero, List.set_cons_succ]
    refine sink_take 2 (v := ?_) rfl (by kernel_rfl) (by kernel_rfl) (by kernel_rfl) (by kernel_rfl) (by rfl) (fun _ _ _ h => h) (by assumption) ?_ ?_; rotate_left; (intro w hSw; (try dsimp only at hSw); go_simp; try (with_reducible rfl))
    try simp only [Act.put, List.getElem_toArray, List.getElem_cons_zero, List.getElem_cons_succ, List.setIfInBounds_toArray, List.set_cons_zero, List.set_cons_succ]
    refine sink_take 4 (v := ?_) rfl (by kernel_rfl) (by kernel_rfl) (by kernel_rfl) (by kernel_rfl) (by rfl) (fun _ _ _ h => h) (by assumption) ?_ ?_; rotate_left; (intro w hSw; (try dsimp only at hSw); go_simp; try (with_reducible rfl))
    try simp only [Act.put, List.getElem_toArray, List.getElem_cons_zero, List.getElem_cons_succ, List.setIfInBounds_toArray, List.set_cons_zero, List.set_cons_succ]
    refine sink_take 6 (v := ?_) rfl (by kernel_rfl) (by kernel_rfl) (by kernel_rfl) (by kernel_rfl) (by rfl) (fun _ _ _ h => h) (by assumption) ?_ ?_; rotate_left; (intro w hSw; (try dsimp only at hSw); go_simp; try (with_reducible rfl))
    try simp only [Act.put, List.getElem_toArray, List.getElem_cons_zero, List.getElem_cons_succ, List.setIfInBounds_toArray, List.set_cons_zero, List.set_cons_succ]
    refine sink_one (i := 3) (by kernel_rfl) rfl (fun K hK => ?_)
    go_simp
    go_at_call 75; refine (term_any w3.drew B b _ KD.out (by omega)).mono ?_; rintro e w4 ⟨a, va, rfl, ha, hwa, hg, hc⟩; obtain ⟨pa, ca, rfl⟩ := ha.slice; have Ha := Lib.hid ha; have GGa := Lib.hid hg; have N4 := Lib.hid (grown_step ND.out hg); have K4 := Lib.hid hc; have T4 := Lib.hid (two_grown TD.out hg htn); have hz4 := hg.size; have k4 := T4.out.2.1; clear hg hc ha
    refine hK.out _ _ (fun _ => k4) (fun hHeld => ?_)
    have hHeld := hHeld (by decide)
    clear hK K
    try simp only [Act.put, List.getElem_toArray, List.getElem_cons_zero, List.getElem_cons_succ, List.setIfInBounds_toArray, List.set_cons_zero, List.set_cons_succ]
    refine sink_one (i := 5) (by kernel_rfl) rfl (fun K hK => ?_)
    go_simp
    go_at_call 75; refine (term_any w4 B b _ K4.out (by omega)).mono ?_; rintro e w5 ⟨d, vd, rfl, hd, hwd, hg, hc⟩; obtain ⟨pd, cd, rfl⟩ := hd.slice; have Hd := Lib.hid hd; have GGd := Lib.hid hg; have N5 := Lib.hid (grown_step N4.out hg); have K5 := Lib.hid hc; have T5 := Lib.hid (two_grown T4.out hg htn); have hz5 := hg.size; have k5 := T5.out.2.1; clear hg hc hd
    refine hK.out _ _ (fun _ => k5) (fun hHeld => ?_)
    have hHeld := hHeld (by decide)
    clear hK K
    try simp only [Act.put, List.getElem_toArray, List.getElem_cons_zero, List.getElem_cons_succ, List.setIfInBounds_toArray, List.set_cons_zero, List.set_cons_succ]
    refine sink_one (i := 7) (by kernel_rfl) rfl (fun K hK => ?_)
    go_simp
    go_at_call 75; refine (term_any w5 B b _ K5.out (by omega)).mono ?_; rintro e w6 ⟨u, vu, rfl, hu, hwu, hg, hc⟩; obtain ⟨pu, cu, rfl⟩ := hu.slice; have Hu := Lib.hid hu; have GGu := Lib.hid hg; have N6 := Lib.hid (grown_step N5.out hg); have K6 := Lib.hid hc; have T6 := Lib.hid (two_grown T5.out hg htn); have hz6 := hg.size; have k6 := T6.out.2.1; clear hg hc hu
    refine hK.out _ _ (fun _ => k6) (fun hHeld => ?_)
    have hHeld := hHeld (by decide)
    clear hK K
    try simp only [Act.put, List.getElem_toArray, List.getElem_cons_zero, List.getElem_cons_succ, List.setIfInBounds_toArray, List.set_cons_zero, List.set_cons_succ]
    refine sink_one (i := 8) (by kernel_rfl) rfl (fun K hK => ?_)
    go_simp
    refine hK.out _ _ (fun _ => carry_cell' ((Below.refl _ _).alloc (Nat.le_refl _) _) k6) (fun hHeld => ?_)
    have hHeld := hHeld (by decide)
    clear hK K
    try simp only [Act.put, List.getElem_toArray, List.getElem_cons_zero, List.getElem_cons_succ, List.setIfInBounds_toArray, List.set_cons_zero, List.set_cons_succ]
    refine sink_one (i := 9) (by kernel_rfl) rfl (fun K hK => ?_)
    have NB := Lib.hid (grown_step N6.out (World.grownBy_alloc w6 (.cells #[.string a.name, .slice pa a.args.length ca, .string d.name, .slice pd d.args.length cd, .string u.name, .slice pu u.args.length cu] 26) (some b))); have HTa : Hid (TmO (w6.alloc (.cells #[.string a.name, .slice pa a.args.length ca, .string d.name, .slice pd d.args.length cd, .string u.name, .slice pu u.args.length cu] 26)) (Fresh w3.drew w4) (.slice pa a.args.length ca) a.args) := Lib.hid ((Ha.out.whole.frame fun k hk => GGd.out.block k hk.2 (fun e => by have := Option.some.inj e; have := hk.1; omega)).frame fun k hk => (Below.heap_alloc _ _ _ (by have := hk.2; omega)).trans (GGu.out.block k (by have := hk.2; omega) (fun e => by have := Option.some.inj e; have := hk.1; omega))); have HTd : Hid (TmO (w6.alloc (.cells #[.string a.name, .slice pa a.args.length ca, .string d.name, .slice pd d.args.length cd, .string u.name, .slice pu u.args.length cu] 26)) (Fresh w4 w5) (.slice pd d.args.length cd) d.args) := Lib.hid (Hd.out.whole.frame fun k hk => (Below.heap_alloc _ _ _ (by have := hk.2; omega)).trans (GGu.out.block k hk.2 (fun e => by have := Option.some.inj e; have := hk.1; omega))); have HTu : Hid (TmO (w6.alloc (.cells #[.string a.name, .slice pa a.args.length ca, .string d.name, .slice pd d.args.length cd, .string u.name, .slice pu u.args.length cu] 26)) (Fresh w5 w6) (.slice pu u.args.length cu) u.args) := Lib.hid (Hu.out.whole.frame fun k hk => Below.heap_alloc _ _ _ hk.2); obtain ⟨xs, hx, hp⟩ := HT1.out.pushN (wA := w6.alloc (.cells #[.string a.name, .slice pa a.args.length ca, .string d.name, .slice pd d.args.length cd, .string u.name, .slice pu u.args.length cu] 26)) (by omega) (fun k hk1 hk2 => NB.out.block k hk1 (fun e => by have := Option.some.inj e; omega)) NB.out.size (x0 := w3.drew) (show w1.heap.size ≤ w3.heap.size by omega) (made_three (w1 := w3.drew) HTa.out HTd.out HTu.out (Nat.le_refl _) (show w3.heap.size ≤ w4.heap.size by omega) (by omega) (by omega) (by rw [World.size_alloc]; omega)); have HP := Lib.hid hp; refine step_append_lies _ (by rfl) _ _ _ (by rfl) WA.heap.size 26 i0 _ 2 40 Try.underlying24 hi hz0 hz1 hz2 rfl (by omega) (.slice p t.args.length c) t.args.length xs (by rfl) hx ⟨w6.heap.size, 0, none⟩ 3 3 [.string a.name, .slice pa a.args.length ca, .string d.name, .slice pd d.args.length cd, .string u.name, .slice pu u.args.length cu] (by rfl) (by rfl) (World.news_of_block (cs := #[.string a.name, .slice pa a.args.length ca, .string d.name, .slice pd d.args.length cd, .string u.name, .slice pu u.args.length cu]) (t := 26) (fr := (0, 0)) (heap_alloc_new w6 _)) (by simp [Value.oneCell']) (by omega) (by unfold maxLen; omega) (by omega) (by simp; omega) (w6.heap.size + 1) (by simp) ?_; intro gg cap w7 hown7 hgrow hat hlt7; have HOW := Lib.hid hown7; have HGW := Lib.hid hgrow; have HAT := Lib.hid hat; obtain ⟨s0, s1, s2⟩ := two_row (T6.out.alloc (.cells #[.string a.name, .slice pa a.args.length ca, .string d.name, .slice pd d.args.length cd, .string u.name, .slice pu u.args.length cu] 26)) hgrow HPO.out; clear hown7 hgrow hat hp hx
    try go_simp
    refine hK.out _ _ (fun _ => s1) (fun hHeld => ?_)
    have hHeld := hHeld (by decide)
    clear hK K
    try simp only [Act.put, List.getElem_toArray, List.getElem_cons_zero, List.getElem_cons_succ, List.setIfInBounds_toArray, List.set_cons_zero, List.set_cons_succ]
    refine sink_take 10 (v := ?_) rfl (by kernel_rfl) (by kernel_rfl) (by kernel_rfl) (by kernel_rfl) (by rfl) (fun _ _ _ h => h) (by assumption) ?_ ?_; rotate_left; (intro w hSw; (try dsimp only at hSw); go_simp; try (with_reducible rfl))
    try simp only [Act.put, List.getElem_toArray, List.getElem_cons_zero, List.getElem_cons_succ, List.setIfInBounds_toArray, List.set_cons_zero, List.set_cons_succ]
    refine sink_one (i := 11) (by kernel_rfl) rfl (fun K hK => ?_)
    go_simp
    refine hK.out _ _ (fun hne => absurd rfl hne) (fun hHeld => ?_)
    clear hK K
    try simp only [Act.put, List.getElem_toArray, List.getElem_cons_zero, List.getElem_cons_succ, List.setIfInBounds_toArray, List.set_cons_zero, List.set_cons_succ]
    refine sink_done (by kernel_rfl) ?_ _
    have hsz7 := HGW.out.size
    have NA := Lib.hid (grown_step N6.out (World.grownBy_alloc w6 (.cells #[.string a.name, .slice pa a.args.length ca, .string d.name, .slice pd d.args.length cd, .string u.name, .slice pu u.args.length cu] 26) (some b)))
    have hwa := app3_wt t a d u
    obtain ⟨V, hV⟩ : ∃ V : Value, V = .slice (some ⟨gg, 0, none⟩) (t.args.length + 3) cap := ⟨_, rfl⟩
    obtain ⟨WF, hWF⟩ : ∃ W, W = ((w7.setCell ⟨tb, 1, none⟩ V).setCell ⟨w.heap.size, 0, none⟩ (.string t.name)).setCell ⟨w.heap.size, 1, none⟩ V := ⟨_, rfl⟩
    have hgt : gg ≠ tb := fun e => by rcases HAT.out with h | h; exact HPO.out (by rw [← e]; exact h.symm); omega
    have hgr : WA.heap.size ≤ gg := by rcases HAT.out with h | h; exact (HT1.out.own gg h).1; omega
    have hfrW : ∀ k, k ≠ tb → k ≠ w.heap.size → WF.heap[k]? = w7.heap[k]? := fun k h1 h2 => by rw [hWF, Below.heap_setCell _ _ _ _ (by simpa using h2), Below.heap_setCell _ _ _ _ (by simpa using h2), Below.heap_setCell _ _ _ _ (by simpa using h1)]
    have hszF : WF.heap.size = w7.heap.size := by rw [hWF]; simp only [size_setCell]
    have HOF : Hid (WF.ownsRow WA.heap.size 26 2 (.slice (some ⟨gg, 0, none⟩) (t.args.length + 3) cap) (t.args.length + 3) (xs ++ [.string a.name, .slice pa a.args.length ca, .string d.name, .slice pd d.args.length cd, .string u.name, .slice pu u.args.length cu])) := Lib.hid (by
      obtain ⟨hl, h⟩ := HOW.out
      refine ⟨hl, ?_⟩
      rcases h with ⟨e, _⟩ | ⟨g2, cap2, cur, e, hb, hblk, hr⟩
      · cases e
      · have eg : gg = g2 := by injection e with e1; injection e1 with e1; injection e1
        exact .inr ⟨g2, cap2, cur, e, hb, (hfrW g2 (by omega) (by omega)).trans hblk, hr⟩)
    have HT9 := Lib.hid (HP.out WF gg cap (w6.heap.size + 1) HOF.out (by rw [hszF]; exact HGW.out.size) (fun k hk1 hk2 => (hfrW k (by rcases hk1 with h | h <;> omega) (by rcases hk1 with h | h <;> omega)).trans (HGW.out.block k (by rw [World.size_alloc]; rw [World.size_alloc] at hk1; rcases hk1 with h | h <;> omega) (fun e => hk2 e.symm))) HAT.out (by rw [World.size_alloc]; exact Nat.le_refl _))
    rw [hWF] at HT9
    clear hWF hfrW hszF
    have HOB := Lib.hid HT1.out.own
    have G7 := Lib.hid (grown_far (grown_step G1.out NA.out) HGW.out (fun q e => by have := (HOB.out q e).1; simp; have := HZA.out; omega))
    have K7 := Lib.hid ((K6.out.alloc (.cells #[.string a.name, .slice pa a.args.length ca, .string d.name, .slice pd d.args.length cd, .string u.name, .slice pu u.args.length cu] 26)).later HGW.out (fun e => by have := (HOB.out b e).1; omega) (fun q e => by have := (HOB.out q e).1; omega))
    have T7 := Lib.hid (two_row (T6.out.alloc (.cells #[.string a.name, .slice pa a.args.length ca, .string d.name, .slice pd d.args.length cd, .string u.name, .slice pu u.args.length cu] 26)) HGW.out HPO.out)
    have R7 := Lib.hid (two_row (two_grown R1.out NA.out hnb) HGW.out (fun e => by have := (HOB.out _ e.symm).1; omega))
    have GX := Lib.hid (fin_grown (grown_one G7.out (a := ⟨tb, 1, none⟩) (by simp; omega) V) (.string t.name) V)
    have KX := Lib.hid (fin_cur (cur_one K7.out (a := ⟨tb, 1, none⟩) htn (by show B ≤ tb; omega) V) hnb (by omega) (.string t.name) V)
    have RX := Lib.hid (((R7.out.setFar (a := ⟨tb, 1, none⟩) (by simp; omega) V).setNil (.string t.name)).setOne V)
    have T8 := Lib.hid (T7.out.setOne V)
    have R8 := Lib.hid (R7.out.setFar (a := ⟨tb, 1, none⟩) (by simp; omega) V)
    clear s0 s1 s2
    subst hV
    obtain ⟨r0, r1, r2⟩ := R8.out
    obtain ⟨t0, t1, t2⟩ := T8.out
    have hrl : w.heap.size < w7.heap.size := World.block_lt_of_cell? _ ⟨w.heap.size, 0, none⟩ R7.out.1
    have htl : tb < w7.heap.size := World.block_lt_of_cell? _ ⟨tb, 0, none⟩ T7.out.1
    go_wp2
    clear r0 r1 r2 t0 t1 t2
    obtain ⟨r0, r1, r2⟩ := RX.out
    refine bodyPost_ret (v := .agg #[.string t.name, .slice (some ⟨gg, 0, none⟩) (t.args.length + 3) cap]) (by simp [results, Try.results115, go_sem, r0, r1]) rfl ?_
    exact dr_fin (t := .node t.name (t.args ++ [a, d, u])) HT9.out (by omega) (by omega) GX.out KX.out (by omega)
  have q3 := op_not h3
  clear h3
  by_cases h4 : r = 4
  · have q4 := op_is h4
    clear h4
    by_cases hl0 : 0 < t.args.length
    · have hl1 : (0 : Int) < (t.args.length : Int) := by omega
      obtain ⟨x, l, hxl⟩ : ∃ x l, t.args = x :: l := List.exists_cons_of_length_pos hl0
      have HXL := Lib.hid hxl
      obtain ⟨g, c9, e9, hcap, hcap2⟩ := HT1.out.shape (by intro e; rw [e] at hl0; exact absurd hl0 (by simp))
      obtain ⟨rfl, rfl⟩ : p = some ⟨g, 0, none⟩ ∧ c = c9 := by simpa using e9
      clear e9
      obtain ⟨bg, og, eg, va0, hc0, hc1, hva0⟩ := HT1.out.whole.read.get (k := 0) (t := x) (by rw [hxl]; rfl)
      obtain ⟨rfl, rfl⟩ : g = bg ∧ og = 0 := by simp at eg; exact ⟨eg.1, eg.2.symm⟩
      obtain ⟨qa, qc, rfl⟩ := hva0.is_slice
      have hgo := HT1.out.own g rfl
      have hgb : g ≠ b := by omega
      obtain ⟨qn, hqn⟩ : ∃ n, n = x.args.length := ⟨_, rfl⟩
      rw [← hqn] at hc1
      have hzw3 := N3.out.size
      have GB1 : Hid (Two w1 g (.string x.name) (.slice qa qn qc)) := Lib.hid ⟨by simpa using hc0, by simpa using hc1, HT1.out.unfrozen g rfl⟩
      have GD : Hid (Two w3 g (.string x.name) (.slice qa qn qc)) := Lib.hid (two_grown GB1.out N3.out hgb)
      have GB := Lib.hid GD.out.drew
      have TD := Lib.hid T3.out.drew
      have KD : Hid (Cur w3.drew B b (K + 76 + 2)) := Lib.hid (K3.out.later (row := none) ⟨rfl, rfl, rfl, Nat.le_refl _, fun _ _ _ => rfl⟩ (by simp) (fun q e => by cases e))
      have ND : Hid (w1.grownBy w3.drew (some b)) := Lib.hid (grown_step N3.out ⟨rfl, rfl, rfl, Nat.le_refl _, fun _ _ _ => rfl⟩)
      have CL : Hid (Calls Try.prog 114 #[.pointer (some ⟨b, 0, none⟩), .slice (some ⟨w3.heap.size, 0, none⟩) 4 4] (w3.drew.alloc (.cells #[.string ⟨#[61]⟩, .string ⟨#[]⟩, .string ⟨#[81, 49]⟩, .string ⟨#[98, 50]⟩] 9)) fun e w' => OfEnd w3.drew B b (K + 76 + 2 + 2) rnList e w') := Lib.hid (ofLit_any w3.drew _ _ _ rnList KD.out (by omega) (by decide) (by decide))
      have hdq : w3.heap.size ≤ w3.drew.heap.size := Nat.le_refl _
      clear hc0 hc1 hva0 hxl eg hqn
      go_upto_region 13 with fail
      clear t0 t1 t2
      obtain ⟨t0, t1, t2⟩ := TD.out
      obtain ⟨g0, g1, g2⟩ := GB.out
      refine sink_start 12 (fun w' => w'.cell? ⟨tb, 1, none⟩ = some (.slice (some ⟨g, 0, none⟩) t.args.length c) ∧ w'.cell? ⟨g, 1, none⟩ = some (.slice qa qn qc)) (by kernel_rfl) (⟨t1, g1⟩) (fun hHeld => ?_)
      refine sink_take 0 (v := ?_) rfl (by kernel_rfl) (by kernel_rfl) (by kernel_rfl) (by kernel_rfl) (by rfl) (fun _ _ _ h => h) (by assumption) ?_ ?_; rotate_left; (intro w hSw; (try dsimp only at hSw); go_simp; try (with_reducible rfl))
      try simp only [Act.put, List.getElem_toArray, List.getElem_cons_zero, List.getElem_cons_succ, List.setIfInBounds_toArray, List.set_cons_zero, List.set_cons_succ]
      refine sink_take 1 (v := ?_) rfl (by kernel_rfl) (by kernel_rfl) (by kernel_rfl) (by kernel_rfl) (by rfl) (fun _ _ _ h => h) (by assumption) ?_ ?_; rotate_left; (intro w hSw; (try dsimp only at hSw); go_simp; try (with_reducible rfl))
      try simp only [Act.put, List.getElem_toArray, List.getElem_cons_zero, List.getElem_cons_succ, List.setIfInBounds_toArray, List.set_cons_zero, List.set_cons_succ]
      refine sink_take 2 (v := ?_) rfl (by kernel_rfl) (by kernel_rfl) (by kernel_rfl) (by kernel_rfl) (by rfl) (fun _ _ _ h => h) (by assumption) ?_ ?_; rotate_left; (intro w hSw; (try dsimp only at hSw); go_simp; try (with_reducible rfl))
      try simp only [Act.put, List.getElem_toArray, List.getElem_cons_zero, List.getElem_cons_succ, List.setIfInBounds_toArray, List.set_cons_zero, List.set_cons_succ]
      refine sink_take 5 (v := ?_) rfl (by kernel_rfl) (by kernel_rfl) (by kernel_rfl) (by kernel_rfl) (by rfl) (fun _ _ _ h => h) (by assumption) ?_ ?_; rotate_left; (intro w hSw; (try dsimp only at hSw); go_simp; try (with_reducible rfl))
      try simp only [Act.put, List.getElem_toArray, List.getElem_cons_zero, List.getElem_cons_succ, List.setIfInBounds_toArray, List.set_cons_zero, List.set_cons_succ]
      refine sink_take 6 (v := ?_) rfl (by kernel_rfl) (by kernel_rfl) (by kernel_rfl) (by kernel_rfl) (by rfl) (fun _ _ _ h => h) (by assumption) ?_ ?_; rotate_left; (intro w hSw; (try dsimp only at hSw); go_simp; try (with_reducible rfl))
      try simp only [Act.put, List.getElem_toArray, List.getElem_cons_zero, List.getElem_cons_succ, List.setIfInBounds_toArray, List.set_cons_zero, List.set_cons_succ]
      refine sink_take 7 (v := ?_) rfl (by kernel_rfl) (by kernel_rfl) (by kernel_rfl) (by kernel_rfl) (by rfl) (fun _ _ _ h => h) (by assumption) ?_ ?_; rotate_left; (intro w hSw; (try dsimp only at hSw); go_simp; try (with_reducible rfl))
      try simp only [Act.put, List.getElem_toArray, List.getElem_cons_zero, List.getElem_cons_succ, List.setIfInBounds_toArray, List.set_cons_zero, List.set_cons_succ]
      refine sink_take 8 (v := ?_) rfl (by kernel_rfl) (by kernel_rfl) (by kernel_rfl) (by kernel_rfl) (by rfl) (fun _ _ _ h => h) (by assumption) ?_ ?_; rotate_left; (intro w hSw; (try dsimp only at hSw); go_simp; try (with_reducible rfl))
      try simp only [Act.put, List.getElem_toArray, List.getElem_cons_zero, List.getElem_cons_succ, List.setIfInBounds_toArray, List.set_cons_zero, List.set_cons_succ]
      refine sink_take 9 (v := ?_) rfl (by kernel_rfl) (by kernel_rfl) (by kernel_rfl) (by kernel_rfl) (by rfl) (fun _ _ _ h => h) (by assumption) ?_ ?_; rotate_left; (intro w hSw; (try dsimp only at hSw); go_simp; try (with_reducible rfl))
      try simp only [Act.put, List.getElem_toArray, List.getElem_cons_zero, List.getElem_cons_succ, List.setIfInBounds_toArray, List.set_cons_zero, List.set_cons_succ]
      refine sink_one (i := 3) (by kernel_rfl) rfl (fun K hK => ?_)
      go_simp
      refine hK.out _ _ (fun _ => ⟨by first | assumption | exact carry_cell' ((Below.refl _ _).alloc (Nat.le_refl _) _) (by assumption), by first | assumption | exact carry_cell' ((Below.refl _ _).alloc (Nat.le_refl _) _) (by assumption)⟩) (fun hHeld => ?_)
      have hHeld := hHeld (by decide)
      clear hK K
      try simp only [Act.put, List.getElem_toArray, List.getElem_cons_zero, List.getElem_cons_succ, List.setIfInBounds_toArray, List.set_cons_zero, List.set_cons_succ]
      refine sink_one (i := 4) (by kernel_rfl) rfl (fun K hK => ?_)
      go_simp
      go_at_call 114; refine CL.out.mono ?_; rintro e w4 ⟨s, rfl, hs, hg, hc⟩; have hsz := rnList_size s hs; have GG4 := Lib.hid hg; have N4 := Lib.hid (grown_step ND.out hg); have K4 := Lib.hid hc; have T4 := Lib.hid (two_grown TD.out hg htn); have B4 := Lib.hid (two_grown GB.out hg hgb); obtain ⟨t0, t1, t2⟩ := T4.out; obtain ⟨g0, g1, g2⟩ := B4.out; clear hg hc hs
      refine hK.out _ _ (fun _ => ⟨t1, g1⟩) (fun hHeld => ?_)
      have hHeld := hHeld (by decide)
      clear hK K
      try simp only [Act.put, List.getElem_toArray, List.getElem_cons_zero, List.getElem_cons_succ, List.setIfInBounds_toArray, List.set_cons_zero, List.set_cons_succ]
      refine sink_take 10 (v := ?_) rfl (by kernel_rfl) (by kernel_rfl) (by kernel_rfl) (by kernel_rfl) (by rfl) (fun _ _ _ h => h) (by assumption) ?_ ?_; rotate_left; (intro w hSw; (try dsimp only at hSw); go_simp; try (with_reducible rfl))
      try simp only [Act.put, List.getElem_toArray, List.getElem_cons_zero, List.getElem_cons_succ, List.setIfInBounds_toArray, List.set_cons_zero, List.set_cons_succ]
      refine sink_take 11 (v := ?_) rfl (by kernel_rfl) (by kernel_rfl) (by kernel_rfl) (by kernel_rfl) (by rfl) (fun _ _ _ h => h) (by assumption) ?_ ?_; rotate_left; (intro w hSw; (try dsimp only at hSw); go_simp; try (with_reducible rfl))
      try simp only [Act.put, List.getElem_toArray, List.getElem_cons_zero, List.getElem_cons_succ, List.setIfInBounds_toArray, List.set_cons_zero, List.set_cons_succ]
      refine sink_one (i := 12) (by kernel_rfl) rfl (fun K hK => ?_)
      go_simp
      refine hK.out _ _ (fun hne => absurd rfl hne) (fun hHeld => ?_)
      clear hK K
      try simp only [Act.put, List.getElem_toArray, List.getElem_cons_zero, List.getElem_cons_succ, List.setIfInBounds_toArray, List.set_cons_zero, List.set_cons_succ]
      refine sink_done (by kernel_rfl) ?_ _
      have hw4 := rename_wt s x
      have H4 : Hid (TmG WA w4 (.slice (some ⟨g, 0, none⟩) t.args.length c) (x :: l)) := Lib.hid (by have h := HT1.out.later N4.out (fun q e => by have := Option.some.inj e; omega); rw [HXL.out] at h; rw [HXL.out]; exact h)
      have HR5 := Lib.hid (H4.out.rename s (.slice qa qn qc) g1)
      have G5 := Lib.hid (grown_new (grown_step G1.out N4.out) (r := g) (by have := HZA.out; simp; omega) (.string s) (.slice qa qn qc))
      have K5 := Lib.hid (fin_cur K4.out hgb (by omega) (.string s) (.slice qa qn qc))
      have R4 := Lib.hid (two_grown R1.out N4.out hnb)
      have R5 := Lib.hid ((R4.out.setFar (a := ⟨g, 0, none⟩) (by simp; omega) (.string s)).setFar (a := ⟨g, 1, none⟩) (by simp; omega) (.slice qa qn qc))
      have T5 := Lib.hid ((T4.out.setFar (a := ⟨g, 0, none⟩) (by simp; omega) (.string s)).setFar (a := ⟨g, 1, none⟩) (by simp; omega) (.slice qa qn qc))
      have htx : t.wt = (Tm.node t.name (x :: l)).wt := by have h := t.eta; rw [HXL.out] at h; exact congrArg Tm.wt h
      have hw5 := cons_wt t.name x l
      have hw6 := cons_wt t.name (.node s x.args) l
      have hwx : (Tm.node t.name (.node s x.args :: l)).wt ≤ 210 := by omega
      obtain ⟨W5, hW5⟩ : ∃ W, W = (w4.setCell ⟨g, 0, none⟩ (.string s)).setCell ⟨g, 1, none⟩ (.slice qa qn qc) := ⟨_, rfl⟩
      rw [← hW5] at HR5 G5 K5 R5 T5
      obtain ⟨X, Y, hX, hY⟩ : ∃ X Y : Value, X = .string t.name ∧ Y = .slice (some ⟨g, 0, none⟩) t.args.length c := ⟨_, _, rfl, rfl⟩
      have HTX := Lib.hid (HR5.out.setTwo (r := w.heap.size) (by omega) X Y)
      have HGX := Lib.hid (fin_grown G5.out X Y)
      have HCX := Lib.hid (fin_cur K5.out hnb (by omega) X Y)
      have HRX := Lib.hid ((R5.out.setNil X).setOne Y)
      subst hX hY
      clear t0 t1 t2 g0 g1 g2 htx
      obtain ⟨r0, r1, r2⟩ := R5.out
      obtain ⟨t0, t1, t2⟩ := T5.out
      have hrl : w.heap.size < W5.heap.size := World.block_lt_of_cell? _ ⟨w.heap.size, 0, none⟩ r0
      have htl : tb < W5.heap.size := World.block_lt_of_cell? _ ⟨tb, 0, none⟩ t0
      try rw [← hW5]
      clear hW5
      go_wp2
      clear r0 r1 r2 t0 t1 t2
      obtain ⟨r0, r1, r2⟩ := HRX.out
      refine bodyPost_ret (v := .agg #[.string t.name, .slice (some ⟨g, 0, none⟩) t.args.length c]) (by simp [results, Try.results115, go_sem, r0, r1]) rfl ?_
      exact dr_fin (t := .node t.name (.node s x.args :: l)) HTX.out (by omega) hwx HGX.out HCX.out (by omega)
    · have hl1 : ¬ (0 : Int) < (t.args.length : Int) := by omega
      clear t0 t1 t2
      obtain ⟨X, Y, hX, hY⟩ : ∃ X Y : Value, X = .string t.name ∧ Y = .slice p t.args.length c := ⟨_, _, rfl, rfl⟩
      have HTX := Lib.hid ((HT1.out.later N3.out (fun q e => by have := Option.some.inj e; omega)).setTwo (r := w.heap.size) (by omega) X Y)
      have HGX := Lib.hid (fin_grown (grown_step G1.out N3.out) X Y)
      have HCX := Lib.hid (fin_cur K3.out hnb (by omega) X Y)
      have RE := Lib.hid (two_grown R1.out N3.out hnb)
      have HRX := Lib.hid ((RE.out.setNil X).setOne Y)
      have hwx : (t).wt ≤ 210 := by omega
      subst hX hY
      obtain ⟨r0, r1, r2⟩ := RE.out
      have hrl : w.heap.size < w3.heap.size := World.block_lt_of_cell? _ ⟨w.heap.size, 0, none⟩ r0
      obtain ⟨t0, t1, t2⟩ := T3.out
      have htl : tb < w3.heap.size := World.block_lt_of_cell? _ ⟨tb, 0, none⟩ t0
      go_wp2
      clear r0 r1 r2
      obtain ⟨r0, r1, r2⟩ := HRX.out
      refine bodyPost_ret (v := .agg #[.string t.name, .slice p t.args.length c]) (by simp [results, Try.results115, go_sem, r0, r1]) rfl ?_
      exact dr_fin (t := t) HTX.out (by omega) hwx HGX.out HCX.out (by omega)
  have q4 := op_not h4
  clear h4
  clear t0 t1 t2
  obtain ⟨X, Y, hX, hY⟩ : ∃ X Y : Value, X = .string t.name ∧ Y = .slice p t.args.length c := ⟨_, _, rfl, rfl⟩
  have HTX := Lib.hid ((HT1.out.later N3.out (fun q e => by have := Option.some.inj e; omega)).setTwo (r := w.heap.size) (by omega) X Y)
  have HGX := Lib.hid (fin_grown (grown_step G1.out N3.out) X Y)
  have HCX := Lib.hid (fin_cur K3.out hnb (by omega) X Y)
  have RE := Lib.hid (two_grown R1.out N3.out hnb)
  have HRX := Lib.hid ((RE.out.setNil X).setOne Y)
  have hwx : (t).wt ≤ 210 := by omega
  subst hX hY
  obtain ⟨r0, r1, r2⟩ := RE.out
  have hrl : w.heap.size < w3.heap.size := World.block_lt_of_cell? _ ⟨w.heap.size, 0, none⟩ r0
  obtain ⟨t0, t1, t2⟩ := T3.out
  have htl : tb < w3.heap.size := World.block_lt_of_cell? _ ⟨tb, 0, none⟩ t0
  go_wp2
  clear r0 r1 r2
  obtain ⟨r0, r1, r2⟩ := HRX.out
  refine bodyPost_ret (v := .agg #[.string t.name, .slice p t.args.length c]) (by simp [results, Try.results115, go_sem, r0, r1]) rfl ?_
  exact dr_fin (t := t) HTX.out (by omega) hwx HGX.out HCX.out (by omega)
end Go.Proofs.Ytppmiedhoimgmaa

/- Drawn expressions, and the draws of one: contracts. -/
namespace Go.Proofs.Ytppmiedhoimgmaa
open Go.RowKit
set_option linter.unusedVariables false
set_option linter.unusedSimpArgs false

theorem made_one {x0 w : World} {a : Tm} {va : Value} (ha : TmO w (Fresh x0 w) va a.args) : ∃ fN SN, Made x0 w [.string a.name, va] [a] ([a] : List Tm).length fN SN := by
  have h0 : ∀ {i : Nat} {s : Tm}, [a][i]? = some s → i = 0 ∧ a = s := fun {i s} hi => by
    have e : i = 0 := by have := (List.getElem?_eq_some_iff.1 hi).1; simp at this; omega
    subst e
    exact ⟨rfl, by simpa using hi⟩
  refine ⟨fun _ => va, fun _ => Fresh x0 w, fun i s hi hs => ?_, fun i s hi hs => ?_, fun i s hi hs => ?_, fun i b hi hb => hb, fun i j b hi hj hij => ?_⟩
  · obtain ⟨rfl, rfl⟩ := h0 hs; rfl
  · obtain ⟨rfl, rfl⟩ := h0 hs; rfl
  · obtain ⟨rfl, rfl⟩ := h0 hs; exact ha
  · simp at hi hj; omega
theorem app1_wt (t a : Tm) : (Tm.node t.name (t.args ++ [a])).wt = t.wt + 1 + a.wt := by
  rw [Tm.wt_eq, t.wt_eq]; simp [Tm.name, Tm.args, sumL_append, sumL]; omega

set_option maxRecDepth 100000 in
set_option maxHeartbeats 4000000 in
theorem expression_any (w : World) (B b K : Nat) (hc : Cur w B b K) (hK : K + 500 ≤ 900000) :
    Calls Try.prog 62 #[.pointer (some ⟨b, 0, none⟩)] w (DrE w B b (K + 500) 220) := by
  have hbb := hc.block
  obtain ⟨WA, hWA⟩ : ∃ W, W = w.alloc (.cells #[.string ⟨#[]⟩, .slice none 0 0] 26) := ⟨_, rfl⟩
  have HRA : Hid (Two WA w.heap.size (.string ⟨#[]⟩) (.slice none 0 0)) := Lib.hid (by rw [hWA]; exact two_new w _ _ 26 _ rfl)
  have HGA : Hid ((w.alloc (.cells #[.string ⟨#[]⟩, .slice none 0 0] 26)).grownBy WA (some b)) := Lib.hid (by rw [hWA]; exact grown_refl _ _)
  have HZA : Hid (WA.heap.size = w.heap.size + 1) := Lib.hid (by rw [hWA]; simp)
  have HCA : Hid (Cur WA B b K) := Lib.hid (by rw [hWA]; exact hc.alloc _)
  have hnb : w.heap.size ≠ b := by omega
  clear hc
  obtain ⟨i0, hi, hz0, hz1, hz2⟩ := info_parts infoTm
  have C9 := Lib.hid (one_any WA B b K 3 HCA.out (by omega) (by omega) (by omega))
  go_enter Try.func62, Try.ntmps62
  go_wp2_with fail
  rw [← hWA]
  clear hWA
  refine C9.out.mono ?_
  rintro e w0 ⟨r, rfl, hg, hc⟩
  have G0 := Lib.hid (grown_step HGA.out hg)
  have K0 := Lib.hid hc
  have R0 := Lib.hid (two_grown HRA.out hg hnb)
  have hz0' := hg.size
  have hzW : w.heap.size < WA.heap.size := by have := HZA.out; omega
  clear hg hc C9
  cases r with
  | false =>
    have C5 := Lib.hid (anyTerm_any w0 B b (K + 2) K0.out (by omega))
    go_wp2_with fail
    refine C5.out.mono ?_
    rintro e w5 ⟨u, vu, rfl, hu, hwu, hg, hc⟩
    obtain ⟨pu, cu, rfl⟩ := hu.slice
    have HU := Lib.hid hu
    have N5 := Lib.hid hg
    have K5 := Lib.hid hc
    have G1 := G0
    have R1 := R0
    clear hg hc hu C5
    obtain ⟨X, Y, hX, hY⟩ : ∃ X Y : Value, X = .string u.name ∧ Y = .slice pu u.args.length cu := ⟨_, _, rfl, rfl⟩
    have HTX := Lib.hid (((HU.out.down (w0 := WA) (by omega))).setTwo (r := w.heap.size) (by omega) X Y)
    have HGX := Lib.hid (fin_grown (grown_step G1.out N5.out) X Y)
    have HCX := Lib.hid (fin_cur K5.out hnb (by omega) X Y)
    have RE := Lib.hid (two_grown R1.out N5.out hnb)
    have HRX := Lib.hid ((RE.out.setNil X).setOne Y)
    have hwx : (u).wt ≤ 220 := by omega
    subst hX hY
    obtain ⟨r0, r1, r2⟩ := RE.out
    have hrl : w.heap.size < w5.heap.size := World.block_lt_of_cell? _ ⟨w.heap.size, 0, none⟩ r0
    go_wp2
    clear r0 r1 r2
    obtain ⟨r0, r1, r2⟩ := HRX.out
    refine bodyPost_ret (v := .agg #[.string u.name, .slice pu u.args.length cu]) (by simp [results, Try.results62, go_sem, r0, r1]) rfl ?_
    exact dr_fin (t := u) HTX.out (by omega) hwx HGX.out HCX.out (by omega)
  | true =>
    have C0 := Lib.hid (atom_any w0 B b (K + 2) K0.out (by omega))
    go_wp2_with fail
    refine C0.out.mono ?_
    rintro e w1 ⟨t, vt, rfl, ht, hwt, hg, hc⟩
    obtain ⟨p, c, rfl⟩ := ht.slice
    have hg1 := hg.size
    have hzA : w.heap.size < WA.heap.size := by have := HZA.out; omega
    have HT1 : Hid (TmG WA w1 (.slice p t.args.length c) t.args) := Lib.hid (TmG.down ht hz0')
    have G1 := Lib.hid (grown_step G0.out hg)
    have R1 := Lib.hid (two_grown R0.out hg hnb)
    obtain ⟨tb, htb⟩ : ∃ tb, tb = w1.heap.size := ⟨_, rfl⟩
    obtain ⟨W2, hW2⟩ : ∃ W, W = w1.alloc (.cells #[.string t.name, .slice p t.args.length c] 26) := ⟨_, rfl⟩
    have hz1 := G1.out.size
    have hzA1 : WA.heap.size ≤ w1.heap.size := by omega
    have htr : w.heap.size < tb := by omega
    have htn : tb ≠ b := by omega
    have ht1 : w1.heap.size ≤ tb := by omega
    have T2 : Hid (Two W2 tb (.string t.name) (.slice p t.args.length c)) := Lib.hid (by rw [hW2]; exact two_new _ _ _ _ _ htb)
    have N2 : Hid (w1.grownBy W2 (some b)) := Lib.hid (by rw [hW2]; exact World.grownBy_alloc _ _ _)
    have K2 : Hid (Cur W2 B b (K + 2 + 154)) := Lib.hid (by rw [hW2]; exact hc.alloc _)
    have HZ2 : Hid (W2.heap.size = tb + 1) := Lib.hid (by rw [hW2, World.size_alloc, htb])
    have HTE := Lib.hid htb
    have hbA : b < WA.heap.size := by omega
    clear ht hg hc C0 htb hz1
    have C3 := Lib.hid (one_any W2 B b (K + 2 + 154) 12 K2.out (by omega) (by omega) (by omega))
    go_wp2_with fail
    try rw [← hW2]
    try rw [← HTE.out]
    clear hW2 HTE
    refine C3.out.mono ?_
    rintro e w3 ⟨r, rfl, hg, hc⟩
    have N3 := Lib.hid (grown_step N2.out hg)
    have K3 := Lib.hid hc
    have T3 := Lib.hid (two_grown T2.out hg htn)
    have hz3 := hg.size
    clear hg hc C3
    obtain ⟨t0, t1, t2⟩ := T3.out
    have htl3 : tb < w3.heap.size := World.block_lt_of_cell? _ ⟨tb, 0, none⟩ t0
    cases r with
    | false =>
      clear t0 t1 t2
      obtain ⟨X, Y, hX, hY⟩ : ∃ X Y : Value, X = .string t.name ∧ Y = .slice p t.args.length c := ⟨_, _, rfl, rfl⟩
      have HTX := Lib.hid ((HT1.out.later N3.out (fun q e => by have := Option.some.inj e; omega)).setTwo (r := w.heap.size) (by omega) X Y)
      have HGX := Lib.hid (fin_grown (grown_step G1.out N3.out) X Y)
      have HCX := Lib.hid (fin_cur K3.out hnb (by omega) X Y)
      have RE := Lib.hid (two_grown R1.out N3.out hnb)
      have HRX := Lib.hid ((RE.out.setNil X).setOne Y)
      have hwx : (t).wt ≤ 220 := by omega
      subst hX hY
      obtain ⟨r0, r1, r2⟩ := RE.out
      have hrl : w.heap.size < w3.heap.size := World.block_lt_of_cell? _ ⟨w.heap.size, 0, none⟩ r0
      obtain ⟨t0, t1, t2⟩ := T3.out
      have htl : tb < w3.heap.size := World.block_lt_of_cell? _ ⟨tb, 0, none⟩ t0
      go_wp2
      clear r0 r1 r2
      obtain ⟨r0, r1, r2⟩ := HRX.out
      refine bodyPost_ret (v := .agg #[.string t.name, .slice p t.args.length c]) (by simp [results, Try.results62, go_sem, r0, r1]) rfl ?_
      exact dr_fin (t := t) HTX.out (by omega) hwx HGX.out HCX.out (by omega)
    | true =>
      have KD : Hid (Cur w3.drew B b (K + 2 + 154 + 2)) := Lib.hid (K3.out.later (row := none) ⟨rfl, rfl, rfl, Nat.le_refl _, fun _ _ _ => rfl⟩ (by simp) (fun q e => by cases e))
      have TD := Lib.hid T3.out.drew
      have ND : Hid (w1.grownBy w3.drew (some b)) := Lib.hid (grown_step N3.out ⟨rfl, rfl, rfl, Nat.le_refl _, fun _ _ _ => rfl⟩)
      have HPO : Hid (some tb ≠ (Value.slice p t.args.length c).ownBlock) := Lib.hid (fun e => by have := (HT1.out.own tb e.symm).2; omega)
      have hlen := t.wt_len
      have hdq : w3.heap.size ≤ w3.drew.heap.size := Nat.le_refl _
      go_upto_region 4 with fail
      clear t0 t1 t2
      obtain ⟨t0, t1, t2⟩ := TD.out
      refine sink_start 7 (fun w' => w'.cell? ⟨tb, 1, none⟩ = some (.slice p t.args.length c)) (by kernel_rfl) (t1) (fun hHeld => ?_)
      refine sink_take 0 (v := ?_) rfl (by kernel_rfl) (by kernel_rfl) (by kernel_rfl) (by kernel_rfl) (by rfl) (fun _ _ _ h => h) (by assumption) ?_ ?_; rotate_left; (intro w hSw; (try dsimp only at hSw); go_simp; try (with_reducible rfl))
      try simp only [Act.put, List.getElem_toArray, List.getElem_cons_zero, List.getElem_cons_succ, List.setIfInBounds_toArray, List.set_cons_zero, List.set_cons_succ]
      refine sink_take 1 (v := ?_) rfl (by kernel_rfl) (by kernel_rfl) (by kernel_rfl) (by kernel_rfl) (by rfl) (fun _ _ _ h => h) (by assumption) ?_ ?_; rotate_left; (intro w hSw; (try dsimp only at hSw); go_simp; try (with_reducible rfl))
      try simp only [Act.put, List.getElem_toArray, List.getElem_cons_zero, List.getElem_cons_succ, List.setIfInBounds_toArray, List.set_cons_zero, List.set_cons_succ]
      refine sink_take 2 (v := ?_) rfl (by kernel_rfl) (by kernel_rfl) (by kernel_rfl) (by kernel_rfl) (by rfl) (fun _ _ _ h => h) (by assumption) ?_ ?_; rotate_left; (intro w hSw; (try dsimp only at hSw); go_simp; try (with_reducible rfl))
      try simp only [Act.put, List.getElem_toArray, List.getElem_cons_zero, List.getElem_cons_succ, List.setIfInBounds_toArray, List.set_cons_zero, List.set_cons_succ]
      refine sink_one (i := 3) (by kernel_rfl) rfl (fun K hK => ?_)
      go_simp
      go_at_call 75; refine (term_any w3.drew B b _ KD.out (by omega)).mono ?_; rintro e w6 ⟨a, va, rfl, ha, hwa, hg, hc⟩; obtain ⟨pa, ca, rfl⟩ := ha.slice; have Ha := Lib.hid ha; have N6 := Lib.hid (grown_step ND.out hg); have K6 := Lib.hid hc; have T6 := Lib.hid (two_grown TD.out hg htn); have hz6 := hg.size; have k6 := T6.out.2.1; clear hg hc ha
      refine hK.out _ _ (fun _ => k6) (fun hHeld => ?_)
      have hHeld := hHeld (by decide)
      clear hK K
      try simp only [Act.put, List.getElem_toArray, List.getElem_cons_zero, List.getElem_cons_succ, List.setIfInBounds_toArray, List.set_cons_zero, List.set_cons_succ]
      refine sink_one (i := 4) (by kernel_rfl) rfl (fun K hK => ?_)
      go_simp
      refine hK.out _ _ (fun _ => carry_cell' ((Below.refl _ _).alloc (Nat.le_refl _) _) k6) (fun hHeld => ?_)
      have hHeld := hHeld (by decide)
      clear hK K
      try simp only [Act.put, List.getElem_toArray, List.getElem_cons_zero, List.getElem_cons_succ, List.setIfInBounds_toArray, List.set_cons_zero, List.set_cons_succ]
      refine sink_one (i := 5) (by kernel_rfl) rfl (fun K hK => ?_)
      have NB := Lib.hid (grown_step N6.out (World.grownBy_alloc w6 (.cells #[.string a.name, .slice pa a.args.length ca] 26) (some b))); have HTa : Hid (TmO (w6.alloc (.cells #[.string a.name, .slice pa a.args.length ca] 26)) (Fresh w3.drew (w6.alloc (.cells #[.string a.name, .slice pa a.args.length ca] 26))) (.slice pa a.args.length ca) a.args) := Lib.hid ((Ha.out.whole.frame fun k hk => Below.heap_alloc _ _ _ hk.2).mono fun k hk => ⟨hk.1, by have := hk.2; rw [World.size_alloc]; omega⟩); obtain ⟨xs, hx, hp⟩ := HT1.out.pushN (wA := w6.alloc (.cells #[.string a.name, .slice pa a.args.length ca] 26)) (by omega) (fun k hk1 hk2 => NB.out.block k hk1 (fun e => by have := Option.some.inj e; omega)) NB.out.size (x0 := w3.drew) (show w1.heap.size ≤ w3.heap.size by omega) (made_one HTa.out); have HP := Lib.hid hp; refine step_append_lies _ (by rfl) _ _ _ (by rfl) WA.heap.size 26 i0 _ 2 40 Try.underlying24 hi hz0 hz1 hz2 rfl (by omega) (.slice p t.args.length c) t.args.length xs (by rfl) hx ⟨w6.heap.size, 0, none⟩ 1 1 [.string a.name, .slice pa a.args.length ca] (by rfl) (by rfl) (World.news_of_block (cs := #[.string a.name, .slice pa a.args.length ca]) (t := 26) (fr := (0, 0)) (heap_alloc_new w6 _)) (by simp [Value.oneCell']) (by omega) (by unfold maxLen; omega) (by omega) (by simp; omega) (w6.heap.size + 1) (by simp) ?_; intro gg cap w7 hown7 hgrow hat hlt7; have HOW := Lib.hid hown7; have HGW := Lib.hid hgrow; have HAT := Lib.hid hat; obtain ⟨s0, s1, s2⟩ := two_row (T6.out.alloc (.cells #[.string a.name, .slice pa a.args.length ca] 26)) hgrow HPO.out; clear hown7 hgrow hat hp hx
      try go_simp
      refine hK.out _ _ (fun _ => s1) (fun hHeld => ?_)
      have hHeld := hHeld (by decide)
      clear hK K
      try simp only [Act.put, List.getElem_toArray, List.getElem_cons_zero, List.getElem_cons_succ, List.setIfInBounds_toArray, List.set_cons_zero, List.set_cons_succ]
      refine sink_take 6 (v := ?_) rfl (by kernel_rfl) (by kernel_rfl) (by kernel_rfl) (by kernel_rfl) (by rfl) (fun _ _ _ h => h) (by assumption) ?_ ?_; rotate_left; (intro w hSw; (try dsimp only at hSw); go_simp; try (with_reducible rfl))
      try simp only [Act.put, List.getElem_toArray, List.getElem_cons_zero, List.getElem_cons_succ, List.setIfInBounds_toArray, List.set_cons_zero, List.set_cons_succ]
      refine sink_one (i := 7) (by kernel_rfl) rfl (fun K hK => ?_)
      go_simp
      refine hK.out _ _ (fun hne => absurd rfl hne) (fun hHeld => ?_)
      clear hK K
      try simp only [Act.put, List.getElem_toArray, List.getElem_cons_zero, List.getElem_cons_succ, List.setIfInBounds_toArray, List.set_cons_zero, List.set_cons_succ]
      refine sink_done (by kernel_rfl) ?_ _
      have hsz7 := HGW.out.size
      have NA := Lib.hid (grown_step N6.out (World.grownBy_alloc w6 (.cells #[.string a.name, .slice pa a.args.length ca] 26) (some b)))
      have hwa2 := app1_wt t a
      obtain ⟨V, hV⟩ : ∃ V : Value, V = .slice (some ⟨gg, 0, none⟩) (t.args.length + 1) cap := ⟨_, rfl⟩
      obtain ⟨WF, hWF⟩ : ∃ W, W = ((w7.setCell ⟨tb, 1, none⟩ V).setCell ⟨w.heap.size, 0, none⟩ (.string t.name)).setCell ⟨w.heap.size, 1, none⟩ V := ⟨_, rfl⟩
      have hgt : gg ≠ tb := fun e => by rcases HAT.out with h | h; exact HPO.out (by rw [← e]; exact h.symm); omega
      have hgr : WA.heap.size ≤ gg := by rcases HAT.out with h | h; exact (HT1.out.own gg h).1; omega
      have hfrW : ∀ k, k ≠ tb → k ≠ w.heap.size → WF.heap[k]? = w7.heap[k]? := fun k h1 h2 => by rw [hWF, Below.heap_setCell _ _ _ _ (by simpa using h2), Below.heap_setCell _ _ _ _ (by simpa using h2), Below.heap_setCell _ _ _ _ (by simpa using h1)]
      have hszF : WF.heap.size = w7.heap.size := by rw [hWF]; simp only [size_setCell]
      have HOF : Hid (WF.ownsRow WA.heap.size 26 2 (.slice (some ⟨gg, 0, none⟩) (t.args.length + 1) cap) (t.args.length + 1) (xs ++ [.string a.name, .slice pa a.args.length ca])) := Lib.hid (by
        obtain ⟨hl, h⟩ := HOW.out
        refine ⟨hl, ?_⟩
        rcases h with ⟨e, _⟩ | ⟨g2, cap2, cur, e, hb, hblk, hr⟩
        · cases e
        · have eg : gg = g2 := by injection e with e1; injection e1 with e1; injection e1
          exact .inr ⟨g2, cap2, cur, e, hb, (hfrW g2 (by omega) (by omega)).trans hblk, hr⟩)
      have HT9 := Lib.hid (HP.out WF gg cap (w6.heap.size + 1) HOF.out (by rw [hszF]; exact HGW.out.size) (fun k hk1 hk2 => (hfrW k (by rcases hk1 with h | h <;> omega) (by rcases hk1 with h | h <;> omega)).trans (HGW.out.block k (by rw [World.size_alloc]; rw [World.size_alloc] at hk1; rcases hk1 with h | h <;> omega) (fun e => hk2 e.symm))) HAT.out (by rw [World.size_alloc]; exact Nat.le_refl _))
      rw [hWF] at HT9
      clear hWF hfrW hszF
      have HOB := Lib.hid HT1.out.own
      have G7 := Lib.hid (grown_far (grown_step G1.out NA.out) HGW.out (fun q e => by have := (HOB.out q e).1; simp; have := HZA.out; omega))
      have K7 := Lib.hid ((K6.out.alloc (.cells #[.string a.name, .slice pa a.args.length ca] 26)).later HGW.out (fun e => by have := (HOB.out b e).1; omega) (fun q e => by have := (HOB.out q e).1; omega))
      have T7 := Lib.hid (two_row (T6.out.alloc (.cells #[.string a.name, .slice pa a.args.length ca] 26)) HGW.out HPO.out)
      have R7 := Lib.hid (two_row (two_grown R1.out NA.out hnb) HGW.out (fun e => by have := (HOB.out _ e.symm).1; omega))
      have GX := Lib.hid (fin_grown (grown_one G7.out (a := ⟨tb, 1, none⟩) (by simp; omega) V) (.string t.name) V)
      have KX := Lib.hid (fin_cur (cur_one K7.out (a := ⟨tb, 1, none⟩) htn (by show B ≤ tb; omega) V) hnb (by omega) (.string t.name) V)
      have RX := Lib.hid (((R7.out.setFar (a := ⟨tb, 1, none⟩) (by simp; omega) V).setNil (.string t.name)).setOne V)
      have T8 := Lib.hid (T7.out.setOne V)
      have R8 := Lib.hid (R7.out.setFar (a := ⟨tb, 1, none⟩) (by simp; omega) V)
      clear s0 s1 s2
      subst hV
      obtain ⟨r0, r1, r2⟩ := R8.out
      obtain ⟨t0, t1, t2⟩ := T8.out
      have hrl : w.heap.size < w7.heap.size := World.block_lt_of_cell? _ ⟨w.heap.size, 0, none⟩ R7.out.1
      have htl : tb < w7.heap.size := World.block_lt_of_cell? _ ⟨tb, 0, none⟩ T7.out.1
      go_wp2
      clear r0 r1 r2 t0 t1 t2
      obtain ⟨r0, r1, r2⟩ := RX.out
      refine bodyPost_ret (v := .agg #[.string t.name, .slice (some ⟨gg, 0, none⟩) (t.args.length + 1) cap]) (by simp [results, Try.results62, go_sem, r0, r1]) rfl ?_
      exact dr_fin (t := .node t.name (t.args ++ [a])) HT9.out (by omega) (by omega) GX.out KX.out (by omega)

def DrB (m : Nat) (w : World) (e : Ending) (w' : World) : Prop :=
  ∃ (t : Tm) (va : Value), e = .returned (.agg #[.string t.name, va]) ∧ TmG w w' va t.args ∧ t.wt ≤ m ∧ Below w.heap.size w w'
theorem codeV_up' {w w' : World} {v : Value} {n : Nat} (h : CodeV w v n w.heap.size) (hb : Below w.heap.size w w') : CodeV w' v n w'.heap.size := by
  rcases h with h | ⟨g, off, c, hv, hp, hg, hc⟩
  · exact .inl h
  · exact .inr ⟨g, off, c, hv, hp, Nat.lt_of_lt_of_le hg hb.size, fun i hi => by
      obtain ⟨z, h0, h1, h2⟩ := hc i hi
      exact ⟨z, h0, h1, (hb.cell (p := ⟨g, off + i, none⟩) hg).trans h2⟩⟩

set_option maxHeartbeats 1000000 in
theorem drawValid_any (w : World) (v : Value) (n0 : Nat) (h : CodeV w v n0 w.heap.size) (hn : n0 ≤ 9223372036854775807) :
    Calls Try.prog 48 #[v] w (DrB 220 w) := by
  obtain ⟨a0, c0, rfl⟩ := h.shape
  obtain ⟨WA, hWA⟩ : ∃ W, W = w.alloc (.cells #[.string ⟨#[]⟩, .slice none 0 0] 26) := ⟨_, rfl⟩
  have HRA : Hid (Two WA w.heap.size (.string ⟨#[]⟩) (.slice none 0 0)) := Lib.hid (by rw [hWA]; exact two_new w _ _ 26 _ rfl)
  have HBA : Hid (Below w.heap.size w WA) := Lib.hid (by rw [hWA]; exact (Below.refl _ _).alloc (Nat.le_refl _) _)
  have HZA : Hid (WA.heap.size = w.heap.size + 1) := Lib.hid (by rw [hWA]; simp)
  have HCV : Hid (CodeV WA (.slice a0 n0 c0) n0 WA.heap.size) := Lib.hid (codeV_up' h HBA.out)
  obtain ⟨W1, hW1⟩ : ∃ W, W = WA.alloc (.cells #[.slice a0 n0 c0, .int .i64 0, .int .u64 0] 89) := ⟨_, rfl⟩
  have HC1 : Hid (Cur W1 WA.heap.size (w.heap.size + 1) 0) := Lib.hid (by rw [hW1, ← HZA.out]; exact cur_new HCV.out hn)
  have C0 := Lib.hid (expression_any W1 _ _ _ HC1.out (by omega))
  have HR1 : Hid (Two W1 w.heap.size (.string ⟨#[]⟩) (.slice none 0 0)) := Lib.hid (by rw [hW1]; exact HRA.out.alloc _)
  have HB1 : Hid (Below w.heap.size w W1) := Lib.hid (by rw [hW1]; exact HBA.out.alloc HBA.out.size _)
  have HZ1 : Hid (W1.heap.size = w.heap.size + 1 + 1) := Lib.hid (by rw [hW1, World.size_alloc, HZA.out])
  clear h
  go_enter Try.func48, Try.ntmps48
  go_wp2_with fail
  rw [← hWA, ← hW1]
  clear hWA hW1
  refine C0.out.mono ?_
  rintro e w3 ⟨t, vt, rfl, ht, hwt, hg, hc⟩
  have HR3 := Lib.hid (two_grown HR1.out hg (by omega))
  have hz1 := HZ1.out
  have HB3 := Lib.hid (HB1.out.grown hg (by omega) (fun k e => by have := Option.some.inj e; omega))
  have hs3 := hg.size
  obtain ⟨p, c, rfl⟩ := ht.slice
  have HRX := Lib.hid ((HR3.out.setNil (.string t.name)).setOne (.slice p t.args.length c))
  have HB9 : Hid (Below w.heap.size w ((w3.setCell ⟨w.heap.size, 0, none⟩ (.string t.name)).setCell ⟨w.heap.size, 1, none⟩ (.slice p t.args.length c))) := Lib.hid ((HB3.out.setCell (Nat.le_refl _) _).setCell (Nat.le_refl _) _)
  have HTX := Lib.hid ((ht.setTwo (r := w.heap.size) (by omega) (.string t.name) (.slice p t.args.length c)).down (w0 := w) (by omega))
  obtain ⟨r0, r1, r2⟩ := HR3.out
  have hrl : w.heap.size < w3.heap.size := World.block_lt_of_cell? _ ⟨w.heap.size, 0, none⟩ r0
  clear ht
  go_wp2
  clear r0 r1 r2
  obtain ⟨r0, r1, r2⟩ := HRX.out
  refine bodyPost_ret (v := .agg #[.string t.name, .slice p t.args.length c]) (by simp [results, Try.results48, go_sem, r0, r1]) rfl ⟨t, _, rfl, HTX.out, hwt, HB9.out⟩

set_option maxHeartbeats 1000000 in
theorem drawPos_any (w : World) (v : Value) (n0 : Nat) (h : CodeV w v n0 w.heap.size) (hn : n0 ≤ 9223372036854775807) :
    Calls Try.prog 10 #[v] w (DrB 220 w) := by
  obtain ⟨a0, c0, rfl⟩ := h.shape
  obtain ⟨WA, hWA⟩ : ∃ W, W = w.alloc (.cells #[.string ⟨#[]⟩, .slice none 0 0] 26) := ⟨_, rfl⟩
  have HRA : Hid (Two WA w.heap.size (.string ⟨#[]⟩) (.slice none 0 0)) := Lib.hid (by rw [hWA]; exact two_new w _ _ 26 _ rfl)
  have HBA : Hid (Below w.heap.size w WA) := Lib.hid (by rw [hWA]; exact (Below.refl _ _).alloc (Nat.le_refl _) _)
  have HZA : Hid (WA.heap.size = w.heap.size + 1) := Lib.hid (by rw [hWA]; simp)
  have HCV : Hid (CodeV WA (.slice a0 n0 c0) n0 WA.heap.size) := Lib.hid (codeV_up' h HBA.out)
  have C0 := Lib.hid (drawValid_any WA _ n0 HCV.out hn)
  clear h
  go_enter Try.func10, Try.ntmps10
  go_wp2_with fail
  rw [← hWA]
  clear hWA
  refine C0.out.mono ?_
  rintro e w3 ⟨t, vt, rfl, ht, hwt, hb⟩
  have HR3 := Lib.hid (HRA.out.kept hb)
  have hz1 := HZA.out
  have HB3 := Lib.hid (carry_below HBA.out (Nat.le_refl _) hb)
  obtain ⟨p, c, rfl⟩ := ht.slice
  have HRX := Lib.hid ((HR3.out.setNil (.string t.name)).setOne (.slice p t.args.length c))
  have HB9 : Hid (Below w.heap.size w ((w3.setCell ⟨w.heap.size, 0, none⟩ (.string t.name)).setCell ⟨w.heap.size, 1, none⟩ (.slice p t.args.length c))) := Lib.hid ((HB3.out.setCell (Nat.le_refl _) _).setCell (Nat.le_refl _) _)
  have HTX := Lib.hid ((ht.setTwo (r := w.heap.size) (by omega) (.string t.name) (.slice p t.args.length c)).down (w0 := w) (by omega))
  obtain ⟨r0, r1, r2⟩ := HR3.out
  have hrl : w.heap.size < w3.heap.size := World.block_lt_of_cell? _ ⟨w.heap.size, 0, none⟩ r0
  clear ht
  go_wp2
  clear r0 r1 r2
  obtain ⟨r0, r1, r2⟩ := HRX.out
  refine bodyPost_ret (v := .agg #[.string t.name, .slice p t.args.length c]) (by simp [results, Try.results10, go_sem, r0, r1]) rfl ⟨t, _, rfl, HTX.out, hwt, HB9.out⟩
end Go.Proofs.Ytppmiedhoimgmaa
