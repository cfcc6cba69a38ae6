/- Drawn terms of a small depth, and drawn atoms: contracts, for a cursor of at most 900000 steps. -/
import Derived.Test.YtppmiedhoimgmaaDrG
namespace Go.Proofs.Ytppmiedhoimgmaa
open Go.RowKit
set_option linter.unusedVariables false
set_option linter.unusedSimpArgs false

/-- What a draw of a term answers: a term of the call's own, of weight at most m; of what was there only the cursor's block has changed. -/
def DrE (w : World) (B b K m : Nat) (e : Ending) (w' : World) : Prop :=
  ∃ (t : Tm) (va : Value), e = .returned (.agg #[.string t.name, va]) ∧ TmG w w' va t.args ∧ t.wt ≤ m ∧ w.grownBy w' (some b) ∧ Cur w' B b K

theorem leaf_wt (s : ByteArray) : (Tm.node s []).wt = s.size := by rw [Tm.wt_eq]; simp [Tm.name, Tm.args, sumL]
theorem one_wt (s : ByteArray) (a : Tm) : (Tm.node s [a]).wt = s.size + 1 + a.wt := by rw [Tm.wt_eq]; simp [Tm.name, Tm.args, sumL]
theorem two_wt (s : ByteArray) (a b : Tm) : (Tm.node s [a, b]).wt = s.size + 2 + a.wt + b.wt := by rw [Tm.wt_eq]; simp [Tm.name, Tm.args, sumL]; omega

theorem two_grown {w w' : World} {r b : Nat} {x y : Value} (h : Two w r x y) (hg : w.grownBy w' (some b)) (hn : r ≠ b) : Two w' r x y := by
  have hl := World.block_lt_of_cell? w ⟨r, 0, none⟩ h.1
  have e : w'.heap[r]? = w.heap[r]? := hg.block r hl (fun e => hn (Option.some.inj e))
  exact ⟨(World.cell?_of_block (w := w) (a := ⟨r, 0, none⟩) e).trans h.1, (World.cell?_of_block (w := w) (a := ⟨r, 1, none⟩) e).trans h.2.1, fun j => (World.frozen?_of_block (w := w) (a := ⟨r, j, none⟩) e).trans (h.2.2 j)⟩
/-- The result's box, at the end of a draw. -/
theorem dr_end {w wc w' : World} {B b K K' m : Nat} {t : Tm} {va : Value} {o : Obj} {x y : Value} (hw : (w.alloc o).grownBy wc (some b)) (hb : b < w.heap.size) (ht : TmG wc w' va t.args ∨ (va = .slice none 0 0 ∧ t.args = [])) (hz : (w.alloc o).heap.size ≤ wc.heap.size)
    (hm : t.wt ≤ m) (hg : wc.grownBy w' (some b)) (hc : Cur w' B b K) (hk : K ≤ K') :
    DrE w B b K' m (.returned (.agg #[.string t.name, va])) ((w'.setCell ⟨w.heap.size, 0, none⟩ x).setCell ⟨w.heap.size, 1, none⟩ y) := by
  have hz' : w.heap.size + 1 ≤ wc.heap.size := by simpa using hz
  refine ⟨t, va, rfl, ?_, hm, ?_, ?_⟩
  · rcases ht with h | ⟨h1, h2⟩
    · exact ((h.setBelow (by show w.heap.size < wc.heap.size; omega) _).setBelow (by show w.heap.size < wc.heap.size; omega) _).down (by omega)
    · rw [h1, h2]; exact TmG.nil _ _
  · have g0 := grown_step (grown_step (World.grownBy_alloc w o (some b)) hw) hg
    refine ⟨g0.os, g0.tape, g0.output, by simpa [size_setCell] using g0.size, fun k hk hne => ?_⟩
    rw [Below.heap_setCell _ _ _ _ (by simp; omega), Below.heap_setCell _ _ _ _ (by simp; omega)]
    exact g0.block k hk hne
  · have g1 : w'.grownBy ((w'.setCell ⟨w.heap.size, 0, none⟩ x).setCell ⟨w.heap.size, 1, none⟩ y) (some w.heap.size) := ⟨rfl, rfl, rfl, by simp [size_setCell], fun k _ hk => by
      have hk' : k ≠ w.heap.size := fun e => hk (by rw [e])
      rw [Below.heap_setCell _ _ _ _ (by simpa using hk'), Below.heap_setCell _ _ _ _ (by simpa using hk')]⟩
    obtain ⟨n, v, pos, seed, h⟩ := hc
    exact (Cur.later ⟨n, v, pos, seed, h⟩ g1 (fun e => by have := Option.some.inj e; omega) (fun k e => by have := Option.some.inj e; have := h.le; omega)).mono hk

theorem fin_grown {w w3 : World} {b : Nat} {o : Obj} (h : (w.alloc o).grownBy w3 (some b)) (x y : Value) : w.grownBy ((w3.setCell ⟨w.heap.size, 0, none⟩ x).setCell ⟨w.heap.size, 1, none⟩ y) (some b) := by
  have g0 := grown_step (World.grownBy_alloc w o (some b)) h
  refine ⟨g0.os, g0.tape, g0.output, by simpa [size_setCell] using g0.size, fun k hk hne => ?_⟩
  rw [Below.heap_setCell _ _ _ _ (by simp; omega), Below.heap_setCell _ _ _ _ (by simp; omega)]
  exact g0.block k hk hne
theorem set_grown (w : World) (r : Nat) (x y : Value) : w.grownBy ((w.setCell ⟨r, 0, none⟩ x).setCell ⟨r, 1, none⟩ y) (some r) :=
  ⟨rfl, rfl, rfl, by simp [size_setCell], fun k _ hk => by
    have hk' : k ≠ r := fun e => hk (by rw [e])
    rw [Below.heap_setCell _ _ _ _ (by simpa using hk'), Below.heap_setCell _ _ _ _ (by simpa using hk')]⟩
theorem fin_cur {w : World} {B b K r : Nat} (hc : Cur w B b K) (hr : r ≠ b) (hB : B ≤ r) (x y : Value) : Cur ((w.setCell ⟨r, 0, none⟩ x).setCell ⟨r, 1, none⟩ y) B b K :=
  hc.later (set_grown w r x y) (fun e => hr (Option.some.inj e)) (fun k e => by have := Option.some.inj e; omega)
theorem dr_fin {w wc W : World} {B b K K' m : Nat} {t : Tm} {va : Value} (ht : TmG wc W va t.args) (hz : w.heap.size ≤ wc.heap.size) (hm : t.wt ≤ m) (hg : w.grownBy W (some b)) (hc : Cur W B b K) (hk : K ≤ K') :
    DrE w B b K' m (.returned (.agg #[.string t.name, va])) W := ⟨t, va, rfl, ht.down hz, hm, hg, hc.mono hk⟩
theorem TmG.setTwo {w0 w : World} {va : Value} {l : List Tm} (h : TmG w0 w va l) {r : Nat} (hr : r < w0.heap.size) (x y : Value) : TmG w0 ((w.setCell ⟨r, 0, none⟩ x).setCell ⟨r, 1, none⟩ y) va l := (h.setBelow hr _).setBelow hr _
theorem size_two (w : World) (r : Nat) (x y : Value) : ((w.setCell ⟨r, 0, none⟩ x).setCell ⟨r, 1, none⟩ y).heap.size = w.heap.size := by simp only [size_setCell]

def gnList : List ByteArray := [⟨#[88]⟩, ⟨#[89]⟩, ⟨#[90]⟩, ⟨#[97]⟩, ⟨#[98]⟩, ⟨#[88]⟩, ⟨#[97]⟩]
theorem gnList_size : ∀ s ∈ gnList, s.size ≤ 1 := by decide
/-- Steps of the cursor, and the weight, of a drawn term of a depth. -/
def cg : Nat → Nat
  | 0 => 4
  | d + 1 => 6 + 2 * cg d
def wg : Nat → Nat
  | 0 => 1
  | d + 1 => 3 + 2 * wg d
theorem cg_pos (d : Nat) : 4 ≤ cg d := by cases d <;> simp [cg] <;> omega
theorem wg_pos (d : Nat) : 1 ≤ wg d := by cases d <;> simp [wg] <;> omega

set_option maxRecDepth 100000 in
set_option maxHeartbeats 4000000 in
theorem grown_any : ∀ (d : Nat) (n : Int) (w : World) (B b K : Nat), n = (d : Int) → d ≤ 10 → Cur w B b K → K + cg d ≤ 900000 →
    Calls Try.prog 60 #[.pointer (some ⟨b, 0, none⟩), .int .i64 n] w (DrE w B b (K + cg d) (wg d)) := by
  intro d
  induction d with
  | zero =>
    intro n w B b K hn hd hc hK
    have hbb := hc.block
    obtain ⟨WA, hWA⟩ : ∃ W, W = w.alloc (.cells #[.string ⟨#[]⟩, .slice none 0 0] 26) := ⟨_, rfl⟩
    have HRA : Hid (Two WA w.heap.size (.string ⟨#[]⟩) (.slice none 0 0)) := Lib.hid (by rw [hWA]; exact two_new w _ _ 26 _ rfl)
    have HGA : Hid ((w.alloc (.cells #[.string ⟨#[]⟩, .slice none 0 0] 26)).grownBy WA (some b)) := Lib.hid (by rw [hWA]; exact grown_refl _ _)
    have HSA : Hid ((w.alloc (.cells #[.string ⟨#[]⟩, .slice none 0 0] 26)).heap.size = WA.heap.size) := Lib.hid (by rw [hWA])
    have HZA : Hid (WA.heap.size = w.heap.size + 1) := Lib.hid (by rw [hWA]; simp)
    have HCA : Hid (Cur WA B b K) := Lib.hid (by rw [hWA]; exact hc.alloc _)
    have hnb : w.heap.size ≠ b := by omega
    have hcp := cg_pos
    have hwp := wg_pos
    clear hc
    have hn1 : n ≤ 1 := by omega
    clear hn hcp hwp
    have hK2 : K + 4 ≤ 900000 := hK
    go_enter Try.func60, Try.ntmps60
    have CL : Hid (Calls Try.prog 114 #[.pointer (some ⟨b, 0, none⟩), .slice (some ⟨w.heap.size + 1, 0, none⟩) 7 7] (WA.alloc (.cells #[.string ⟨#[88]⟩, .string ⟨#[89]⟩, .string ⟨#[90]⟩, .string ⟨#[97]⟩, .string ⟨#[98]⟩, .string ⟨#[88]⟩, .string ⟨#[97]⟩] 9)) fun e w' => OfEnd WA B b (K + 2) gnList e w') := Lib.hid (by have h := ofLit_any WA _ _ _ gnList HCA.out (by omega) (by decide) (by decide); rw [HZA.out] at h; exact h)
    go_wp2_with fail
    rw [← hWA]
    clear hWA
    refine CL.out.mono ?_
    rintro e wl ⟨s, rfl, hs, hgl, hcl⟩
    have HGX := Lib.hid (grown_step (grown_refl WA (some b)) hgl)
    have HCX := Lib.hid hcl
    have HRX := Lib.hid (two_grown HRA.out hgl hnb)
    have hsz := gnList_size s hs
    clear hgl hcl hs CL
    have hrl : w.heap.size < wl.heap.size := World.block_lt_of_cell? _ ⟨w.heap.size, 0, none⟩ HRX.out.1
    obtain ⟨r0, r1, r2⟩ := HRX.out
    go_wp2
    have HRZ : Hid (Two ((wl.setCell ⟨w.heap.size, 0, none⟩ (.string s)).setCell ⟨w.heap.size, 1, none⟩ (.slice none 0 0)) w.heap.size (.string s) (.slice none 0 0)) := Lib.hid ((HRX.out.setNil _).setOne _)
    clear r0 r1 r2
    obtain ⟨r0, r1, r2⟩ := HRZ.out
    refine bodyPost_ret (v := .agg #[.string s, .slice none 0 0]) (by simp [results, Try.results60, go_sem, r0, r1]) rfl ?_
    exact dr_end (t := .node s []) HGA.out hbb.2 (.inr ⟨rfl, rfl⟩) (Nat.le_of_eq HSA.out) (by rw [leaf_wt]; exact hsz) HGX.out HCX.out (by show K + 2 ≤ K + 4; omega)
  | succ d ih =>
    intro n w B b K hn hd hc hK
    have hbb := hc.block
    obtain ⟨WA, hWA⟩ : ∃ W, W = w.alloc (.cells #[.string ⟨#[]⟩, .slice none 0 0] 26) := ⟨_, rfl⟩
    have HRA : Hid (Two WA w.heap.size (.string ⟨#[]⟩) (.slice none 0 0)) := Lib.hid (by rw [hWA]; exact two_new w _ _ 26 _ rfl)
    have HGA : Hid ((w.alloc (.cells #[.string ⟨#[]⟩, .slice none 0 0] 26)).grownBy WA (some b)) := Lib.hid (by rw [hWA]; exact grown_refl _ _)
    have HSA : Hid ((w.alloc (.cells #[.string ⟨#[]⟩, .slice none 0 0] 26)).heap.size = WA.heap.size) := Lib.hid (by rw [hWA])
    have HZA : Hid (WA.heap.size = w.heap.size + 1) := Lib.hid (by rw [hWA]; simp)
    have HCA : Hid (Cur WA B b K) := Lib.hid (by rw [hWA]; exact hc.alloc _)
    have hnb : w.heap.size ≠ b := by omega
    have hcp := cg_pos
    have hwp := wg_pos
    clear hc
    have hcg : cg (d + 1) = 6 + 2 * cg d := rfl
    have hwg : wg (d + 1) = 3 + 2 * wg d := rfl
    have hcd := hcp d
    have hwd := hwp d
    have HK : Hid (K + (6 + 2 * cg d) ≤ 900000) := Lib.hid (by rw [← hcg]; exact hK)
    have IH := Lib.hid ih
    clear ih hcp hwp
    by_cases hd0 : d = 0
    · have hn1 : n ≤ 1 := by omega
      clear hn hd0
      go_enter Try.func60, Try.ntmps60
      have CL : Hid (Calls Try.prog 114 #[.pointer (some ⟨b, 0, none⟩), .slice (some ⟨w.heap.size + 1, 0, none⟩) 7 7] (WA.alloc (.cells #[.string ⟨#[88]⟩, .string ⟨#[89]⟩, .string ⟨#[90]⟩, .string ⟨#[97]⟩, .string ⟨#[98]⟩, .string ⟨#[88]⟩, .string ⟨#[97]⟩] 9)) fun e w' => OfEnd WA B b (K + 2) gnList e w') := Lib.hid (by have h := ofLit_any WA _ _ _ gnList HCA.out (by omega) (by decide) (by decide); rw [HZA.out] at h; exact h)
      go_wp2_with fail
      rw [← hWA]
      clear hWA
      refine CL.out.mono ?_
      rintro e wl ⟨s, rfl, hs, hgl, hcl⟩
      have HGX := Lib.hid (grown_step (grown_refl WA (some b)) hgl)
      have HCX := Lib.hid hcl
      have HRX := Lib.hid (two_grown HRA.out hgl hnb)
      have hsz := gnList_size s hs
      clear hgl hcl hs CL
      have hrl : w.heap.size < wl.heap.size := World.block_lt_of_cell? _ ⟨w.heap.size, 0, none⟩ HRX.out.1
      obtain ⟨r0, r1, r2⟩ := HRX.out
      go_wp2
      have HRZ : Hid (Two ((wl.setCell ⟨w.heap.size, 0, none⟩ (.string s)).setCell ⟨w.heap.size, 1, none⟩ (.slice none 0 0)) w.heap.size (.string s) (.slice none 0 0)) := Lib.hid ((HRX.out.setNil _).setOne _)
      clear r0 r1 r2
      obtain ⟨r0, r1, r2⟩ := HRZ.out
      refine bodyPost_ret (v := .agg #[.string s, .slice none 0 0]) (by simp [results, Try.results60, go_sem, r0, r1]) rfl ?_
      exact dr_end (t := .node s []) HGA.out hbb.2 (.inr ⟨rfl, rfl⟩) (Nat.le_of_eq HSA.out) (by rw [leaf_wt]; omega) HGX.out HCX.out (by rw [hcg]; omega)
    · have hn1 : 1 < n := by omega
      have hn2 : n ≤ 11 := by omega
      have hnd : n - 1 = (d : Int) := by omega
      have HND := Lib.hid hnd
      clear hn hnd hcg hwg
      have C0 := Lib.hid (one_any WA B b K 3 HCA.out (by omega) (by omega) (by omega))
      go_enter Try.func60, Try.ntmps60
      go_wp2_with fail
      rw [← hWA]
      clear hWA
      refine C0.out.mono ?_
      rintro e w1 ⟨r, rfl, hg, hc⟩
      have HG1 := Lib.hid hg
      have HC1 := Lib.hid hc
      have HR1 := Lib.hid (two_grown HRA.out hg hnb)
      clear hg hc C0
      cases r with
      | true =>
        have CL : Hid (Calls Try.prog 114 #[.pointer (some ⟨b, 0, none⟩), .slice (some ⟨w1.heap.size, 0, none⟩) 7 7] (w1.alloc (.cells #[.string ⟨#[88]⟩, .string ⟨#[89]⟩, .string ⟨#[90]⟩, .string ⟨#[97]⟩, .string ⟨#[98]⟩, .string ⟨#[88]⟩, .string ⟨#[97]⟩] 9)) fun e w' => OfEnd w1 B b (K + 2 + 2) gnList e w') := Lib.hid (ofLit_any w1 _ _ _ gnList HC1.out (by omega) (by decide) (by decide))
        go_wp2_with fail
        refine CL.out.mono ?_
        rintro e wl ⟨s, rfl, hs, hgl, hcl⟩
        have HGX := Lib.hid (grown_step HG1.out hgl)
        have HCX := Lib.hid hcl
        have HRX := Lib.hid (two_grown HR1.out hgl hnb)
        have hsz := gnList_size s hs
        clear hgl hcl hs CL
        have hrl : w.heap.size < wl.heap.size := World.block_lt_of_cell? _ ⟨w.heap.size, 0, none⟩ HRX.out.1
        obtain ⟨r0, r1, r2⟩ := HRX.out
        go_wp2
        have HRZ : Hid (Two ((wl.setCell ⟨w.heap.size, 0, none⟩ (.string s)).setCell ⟨w.heap.size, 1, none⟩ (.slice none 0 0)) w.heap.size (.string s) (.slice none 0 0)) := Lib.hid ((HRX.out.setNil _).setOne _)
        clear r0 r1 r2
        obtain ⟨r0, r1, r2⟩ := HRZ.out
        refine bodyPost_ret (v := .agg #[.string s, .slice none 0 0]) (by simp [results, Try.results60, go_sem, r0, r1]) rfl ?_
        exact dr_end (t := .node s []) HGA.out hbb.2 (.inr ⟨rfl, rfl⟩) (Nat.le_of_eq HSA.out) (by rw [leaf_wt]; show s.size ≤ 3 + 2 * wg d; omega) HGX.out HCX.out (by show K + 2 + 2 ≤ K + (6 + 2 * cg d); omega)
      | false =>
        have C1 := Lib.hid (one_any w1 B b (K + 2) 2 HC1.out (by have := HK.out; omega) (by omega) (by omega))
        go_wp2_with fail
        refine C1.out.mono ?_
        rintro e w2 ⟨r, rfl, hg, hc⟩
        have HG2 := Lib.hid (grown_step HG1.out hg)
        have HC2 := Lib.hid hc
        have HR2 := Lib.hid (two_grown HR1.out hg hnb)
        clear hg hc C1
        cases r with
        | true =>
          have C2 := Lib.hid (IH.out (n - 1) w2 B b (K + 2 + 2) HND.out (by omega) HC2.out (by have := HK.out; omega))
          go_wp2_with fail
          refine C2.out.mono ?_
          rintro e w3 ⟨t, va, rfl, ht, hwt, hg, hc⟩
          obtain ⟨pt, ct, rfl⟩ := ht.slice
          have HT := Lib.hid ht
          have HG3 := Lib.hid hg
          have HC3 := Lib.hid hc
          have hb2 := HC2.out.block
          have hz2 := HG2.out.size
          have hz3 := hg.size
          have hw2 : w.heap.size < w2.heap.size := by have := HZA.out; omega
          obtain ⟨x, y, hx, hy⟩ : ∃ x y : Value, x = .string ⟨#[102]⟩ ∧ y = .slice (some ⟨w3.heap.size, 0, none⟩) 1 1 := ⟨_, _, rfl, rfl⟩
          have HTX : Hid (TmG w2 (((w3.setCell ⟨w.heap.size, 0, none⟩ x).setCell ⟨w.heap.size, 1, none⟩ y).alloc (.cells #[.string t.name, .slice pt t.args.length ct] 26)) (.slice (some ⟨w3.heap.size, 0, none⟩) 1 1) [t]) := Lib.hid (by
            have h := TmG.one (w := (w3.setCell ⟨w.heap.size, 0, none⟩ x).setCell ⟨w.heap.size, 1, none⟩ y) (ht.setTwo hw2 x y).whole (by rw [size_two]; exact hz3)
            rw [size_two] at h; exact h)
          have HGX := Lib.hid (grown_step (fin_grown (grown_step (grown_step HGA.out HG2.out) hg) x y) (World.grownBy_alloc _ (.cells #[.string t.name, .slice pt t.args.length ct] 26) _))
          have HCX := Lib.hid ((fin_cur hc hnb (by omega) x y).alloc (.cells #[.string t.name, .slice pt t.args.length ct] 26))
          have HR3 := Lib.hid (two_grown HR2.out hg hnb)
          have HRX := Lib.hid (((HR3.out.setNil x).setOne y).alloc (.cells #[.string t.name, .slice pt t.args.length ct] 26))
          subst hx hy
          obtain ⟨r0, r1, r2⟩ := HR3.out
          have hrl : w.heap.size < w3.heap.size := World.block_lt_of_cell? _ ⟨w.heap.size, 0, none⟩ r0
          clear hg hc ht C2
          go_wp2
          clear r0 r1 r2
          obtain ⟨r0, r1, r2⟩ := HRX.out
          refine bodyPost_ret (v := .agg #[.string ⟨#[102]⟩, .slice (some ⟨w3.heap.size, 0, none⟩) 1 1]) (by simp [results, Try.results60, go_sem, r0, r1]) rfl ?_
          exact dr_fin (t := .node ⟨#[102]⟩ [t]) HTX.out (by omega) (by rw [one_wt]; show 1 + 1 + t.wt ≤ 3 + 2 * wg d; omega) HGX.out HCX.out (by show _ ≤ K + (6 + 2 * cg d); omega)
        | false =>
          have C2 := Lib.hid (IH.out (n - 1) w2 B b (K + 2 + 2) HND.out (by omega) HC2.out (by have := HK.out; omega))
          go_wp2_with fail
          refine C2.out.mono ?_
          rintro e w3 ⟨t, va, rfl, ht, hwt, hg, hc⟩
          obtain ⟨pt, ct, rfl⟩ := ht.slice
          have HT := Lib.hid ht
          have HG3 := Lib.hid hg
          have HC3 := Lib.hid hc
          have hb2 := HC2.out.block
          have hz2 := HG2.out.size
          have hz3 := hg.size
          have hb3 := hc.block
          clear hg hc ht C2
          have C3 := Lib.hid (IH.out (n - 1) w3 B b (K + 2 + 2 + cg d) HND.out (by omega) HC3.out (by have := HK.out; omega))
          go_wp2_with fail
          refine C3.out.mono ?_
          rintro e w4 ⟨u, vb, rfl, hu, hwu, hg, hc⟩
          obtain ⟨pu, cu, rfl⟩ := hu.slice
          have hz4 := hg.size
          have HTO : Hid (TmO w4 (Fresh w2 w3) (.slice pt t.args.length ct) t.args) := Lib.hid (HT.out.whole.frame fun k hk => hg.block k hk.2 (fun e => by have := Option.some.inj e; have := hk.1; omega))
          have hw2 : w.heap.size < w2.heap.size := by have := HZA.out; omega
          obtain ⟨x, y, hx, hy⟩ : ∃ x y : Value, x = .string ⟨#[103]⟩ ∧ y = .slice (some ⟨w4.heap.size, 0, none⟩) 2 2 := ⟨_, _, rfl, rfl⟩
          have HTX : Hid (TmG w2 (((w4.setCell ⟨w.heap.size, 0, none⟩ x).setCell ⟨w.heap.size, 1, none⟩ y).alloc (.cells #[.string t.name, .slice pt t.args.length ct, .string u.name, .slice pu u.args.length cu] 26)) (.slice (some ⟨w4.heap.size, 0, none⟩) 2 2) [t, u]) := Lib.hid (by
            have hfr : ∀ k, w2.heap.size ≤ k → ((w4.setCell ⟨w.heap.size, 0, none⟩ x).setCell ⟨w.heap.size, 1, none⟩ y).heap[k]? = w4.heap[k]? := fun k hk => by
              rw [Below.heap_setCell _ _ _ _ (by simp; omega), Below.heap_setCell _ _ _ _ (by simp; omega)]
            have h := TmG.two (w := (w4.setCell ⟨w.heap.size, 0, none⟩ x).setCell ⟨w.heap.size, 1, none⟩ y) (HTO.out.frame fun k hk => hfr k hk.1) ((hu.setTwo (by omega) x y).whole) hz3 (by rw [size_two]; exact hz4)
            rw [size_two] at h; exact h)
          have HGX := Lib.hid (grown_step (fin_grown (grown_step (grown_step (grown_step HGA.out HG2.out) HG3.out) hg) x y) (World.grownBy_alloc _ (.cells #[.string t.name, .slice pt t.args.length ct, .string u.name, .slice pu u.args.length cu] 26) _))
          have HCX := Lib.hid ((fin_cur hc hnb (by omega) x y).alloc (.cells #[.string t.name, .slice pt t.args.length ct, .string u.name, .slice pu u.args.length cu] 26))
          have HR4 := Lib.hid (two_grown (two_grown HR2.out HG3.out hnb) hg hnb)
          have HRX := Lib.hid (((HR4.out.setNil x).setOne y).alloc (.cells #[.string t.name, .slice pt t.args.length ct, .string u.name, .slice pu u.args.length cu] 26))
          subst hx hy
          obtain ⟨r0, r1, r2⟩ := HR4.out
          have hrl : w.heap.size < w4.heap.size := World.block_lt_of_cell? _ ⟨w.heap.size, 0, none⟩ r0
          clear hg hc hu C3
          go_wp2
          clear r0 r1 r2
          obtain ⟨r0, r1, r2⟩ := HRX.out
          refine bodyPost_ret (v := .agg #[.string ⟨#[103]⟩, .slice (some ⟨w4.heap.size, 0, none⟩) 2 2]) (by simp [results, Try.results60, go_sem, r0, r1]) rfl ?_
          exact dr_fin (t := .node ⟨#[103]⟩ [t, u]) HTX.out (by omega) (by rw [two_wt]; show 1 + 2 + t.wt + u.wt ≤ 3 + 2 * wg d; omega) HGX.out HCX.out (by show _ ≤ K + (6 + 2 * cg d); omega)
end Go.Proofs.Ytppmiedhoimgmaa
