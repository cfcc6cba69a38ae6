/- The negation normal form, the program's: a contract, for formulas of at most 1048576 names' bytes, parts and arguments all of whose forms are valid. -/
import Derived.Test.YtppmiedhoimgmaaLiO
import Derived.Test.YtppmiedhoimgmaaOwR
import Derived.Test.YtppmiedhoimgmaaSink
import Derived.Test.YtppmiedhoimgmaaCopy
import Derived.Test.YtppmiedhoimgmaaInS
import Derived.Deep.AppendLies
import Derived.Deep.RegionLaw
import Derived.Deep.Cut
import Derived.Deep.CutRange
namespace Go.Proofs.Ytppmiedhoimgmaa
open Go.RowKit
set_option linter.unusedVariables false
set_option linter.unusedSimpArgs false

/-- The variable that the result is built in, wherever it lies. -/
def OutN (WA W0 : World) (o : Int) (v : ByteArray) (ob : Nat) : Prop :=
  FivB W0 ob (.int .i64 o) (.string ⟨#[]⟩) (.slice none 0 0) (.string v) (.slice none 0 0) ∧ WA.heap.size ≤ ob ∧ ob < W0.heap.size ∧ Below WA.heap.size WA W0

theorem normalOp_any (o : Int) (g : Bool) (w : World) :
    Calls Try.prog 152 #[.int .i64 o, .bool g] w (fun e w' => e = .returned (.int .i64 (nop o g)) ∧ w = w') := by
  cases g with
  | false =>
    by_cases h7 : o = 7
    · subst h7
      go_enter Try.func152, Try.ntmps152
      go_wp2
      go_ret
      exact ⟨rfl, rfl⟩
    · have HN : Hid (nop o false = o) := Lib.hid (by simp [nop, h7])
      have o7 := op_not h7
      clear h7
      go_enter Try.func152, Try.ntmps152
      go_wp2
      go_ret
      exact ⟨ret_int HN.out.symm, rfl⟩
  | true =>
    by_cases h7 : o = 7
    · subst h7
      go_enter Try.func152, Try.ntmps152
      go_wp2
      go_ret
      exact ⟨rfl, rfl⟩
    by_cases h1 : o = 1
    · subst h1
      go_enter Try.func152, Try.ntmps152
      go_wp2
      go_ret
      exact ⟨rfl, rfl⟩
    by_cases h2 : o = 2
    · subst h2
      go_enter Try.func152, Try.ntmps152
      go_wp2
      go_ret
      exact ⟨rfl, rfl⟩
    by_cases h5 : o = 5
    · subst h5
      go_enter Try.func152, Try.ntmps152
      go_wp2
      go_ret
      exact ⟨rfl, rfl⟩
    by_cases h6 : o = 6
    · subst h6
      go_enter Try.func152, Try.ntmps152
      go_wp2
      go_ret
      exact ⟨rfl, rfl⟩
    by_cases h8 : o = 8
    · subst h8
      go_enter Try.func152, Try.ntmps152
      go_wp2
      go_ret
      exact ⟨rfl, rfl⟩
    · have HN : Hid (nop o true = 8) := Lib.hid (by simp [nop, h1, h2, h5, h6, h7, h8])
      have o7 := op_not h7
      have o1 := op_not h1
      have o2 := op_not h2
      have o5 := op_not h5
      have o6 := op_not h6
      have o8 := op_not h8
      clear h7 h1 h2 h5 h6 h8
      go_enter Try.func152, Try.ntmps152
      go_wp2
      go_ret
      exact ⟨ret_int HN.out.symm, rfl⟩

def PnT (t : Fm) : Prop := ∀ (w : World) (va vp : Value) (g : Bool), FmV w va vp t → t.formsB = true → t.wt ≤ 1048576 →
  Calls Try.prog 105 #[.agg #[.int .i64 t.op, .string t.atom.name, va, .string t.var, vp], .bool g] w (ToFmEnd (t.nnf g) w)

set_option maxRecDepth 100000 in
set_option maxHeartbeats 8000000 in
theorem pushNeg_of (t : Fm) (h : ∀ s ∈ t.parts, PnT s) : PnT t := by
  intro w va vp g hv hf hw
  have H := Lib.hid h
  have HW := Lib.hid hw
  have HFP := Lib.hid (forms_parts hf).2
  have HFM := Lib.hid (forms_parts hf).1
  have hlen : t.parts.length ≤ 1048576 := Nat.le_trans t.wt_len hw
  obtain ⟨pa, ca, pp, cp, rfl, rfl⟩ := hv.open
  have HV := Lib.hid hv
  obtain ⟨i0, hi, hz0, hz1, hz2⟩ := info_parts infoFm
  obtain ⟨WA, hWA⟩ : ∃ W, W = (w.alloc (.cells #[.int .i64 t.op, .string t.atom.name, .slice pa t.atom.args.length ca, .string t.var, .slice pp t.parts.length cp] 68)).alloc (.cells #[.int .i64 0, .string ⟨#[]⟩, .slice none 0 0, .string ⟨#[]⟩, .slice none 0 0] 68) := ⟨_, rfl⟩
  have HFA : Hid (FivB WA w.heap.size (.int .i64 t.op) (.string t.atom.name) (.slice pa t.atom.args.length ca) (.string t.var) (.slice pp t.parts.length cp)) := Lib.hid (by rw [hWA]; exact (fivB_new w (.int .i64 t.op) (.string t.atom.name) (.slice pa t.atom.args.length ca) (.string t.var) (.slice pp t.parts.length cp) 68 _ rfl).alloc _)
  have HRA : Hid (FivB WA (w.heap.size + 1) (.int .i64 0) (.string ⟨#[]⟩) (.slice none 0 0) (.string ⟨#[]⟩) (.slice none 0 0)) := Lib.hid (by rw [hWA]; exact fivB_new _ (.int .i64 0) (.string ⟨#[]⟩) (.slice none 0 0) (.string ⟨#[]⟩) (.slice none 0 0) 68 _ (by simp))
  have HBA : Hid (Below w.heap.size w WA) := Lib.hid (by rw [hWA]; exact ((Below.refl _ _).alloc (Nat.le_refl _) _).alloc (by simp) _)
  have HSA : Hid (WA.heap.size = w.heap.size + 1 + 1) := Lib.hid (by rw [hWA]; simp)
  clear hv hw h hf
  by_cases h3 : t.op = 3
  · have HU : Hid (t.nnf g = litG (!g) t.atom) := Lib.hid (nnf_at h3)
    have C0 := Lib.hid (copyTerm_any t.atom WA _ (HV.out.kept HBA.out).1 (Nat.le_trans t.wt_atom HW.out))
    have o3 := op_is h3
    obtain ⟨d0, d1, d2, d3, d4, d5⟩ := HFA.out
    rw [hWA] at d0 d1 d2 d3 d4 d5
    clear h3
    go_enter Try.func105, Try.ntmps105
    go_wp2_with fail
    rw [← hWA]
    clear hWA d0 d1 d2 d3 d4 d5
    refine C0.out.mono ?_
    rintro e w6 ⟨v6, rfl, ho, hb⟩
    obtain ⟨pv, cv, rfl⟩ := ho.read.is_slice
    have C1 := Lib.hid (litOwn_any (!g) t.atom (Fresh WA w6) w6 _ ho (fun q hq => hq.2))
    have HB6 := Lib.hid (carry_below HBA.out (Nat.le_refl _) hb)
    have HR6 := Lib.hid (HRA.out.kept hb)
    have hb6 := hb.size
    clear hb ho C0
    go_wp2_with fail
    refine C1.out.mono ?_
    rintro e w9 ⟨va9, vp9, rfl, ho, hb⟩
    obtain ⟨u, hu⟩ : ∃ u, u = litG (!g) t.atom := ⟨_, rfl⟩
    rw [← hu] at ho HU ⊢
    · obtain ⟨qa, qc, qp, qd, rfl, rfl⟩ := ho.read.open
      have HO := Lib.hid ho
      have HB9 := Lib.hid (carry_below HB6.out (Nat.le_refl _) hb)
      have HRS := Lib.hid (HR6.out.kept hb)
      have hb9 := hb.size
      have HSB : Hid (∀ q, (Fresh WA w6 q ∨ Fresh w6 w9 q) → w.heap.size ≤ q ∧ q < w9.heap.size) := Lib.hid (fun q hq => by
        have := HSA.out
        rcases hq with hq | hq
        · have h1 := hq.1; have h2 := hq.2; exact ⟨by omega, by omega⟩
        · have h1 := hq.1; have h2 := hq.2; exact ⟨by omega, by omega⟩)
      have HN1 : Hid (¬ (fun q => Fresh WA w6 q ∨ Fresh w6 w9 q) (w.heap.size + 1)) := Lib.hid (fun hq => by
        have := HSA.out
        rcases hq with hq | hq
        · have h1 := hq.1; omega
        · have h1 := hq.1; omega)
      clear hb ho hu C1
      obtain ⟨r0, r1, r2, r3, r4, r5⟩ := HRS.out
      go_wp2
      have HR9 : Hid (FivB (((((w9.setCell ⟨w.heap.size + 1, 0, none⟩ (.int .i64 u.op)).setCell ⟨w.heap.size + 1, 1, none⟩ (.string u.atom.name)).setCell ⟨w.heap.size + 1, 2, none⟩ (.slice qa u.atom.args.length qc)).setCell ⟨w.heap.size + 1, 3, none⟩ (.string u.var)).setCell ⟨w.heap.size + 1, 4, none⟩ (.slice qp u.parts.length qd)) (w.heap.size + 1) (.int .i64 u.op) (.string u.atom.name) (.slice qa u.atom.args.length qc) (.string u.var) (.slice qp u.parts.length qd)) := Lib.hid (((((HRS.out.set0 _).set1 _).set2 _).set3 _).set4 _)
      clear r0 r1 r2 r3 r4 r5
      obtain ⟨r0, r1, r2, r3, r4, r5⟩ := HR9.out
      refine bodyPost_ret (v := .agg #[.int .i64 u.op, .string u.atom.name, .slice qa u.atom.args.length qc, .string u.var, .slice qp u.parts.length qd]) (by simp [results, Try.results105, go_sem, r0, r1, r2, r3, r4]) rfl ⟨_, _, by rw [HU.out], ?_, ?_⟩
      · rw [HU.out]
        exact (((((HO.out.setCell HN1.out _).setCell HN1.out _).setCell HN1.out _).setCell HN1.out _).setCell HN1.out _).mono fun q hq => ⟨(HSB.out q hq).1, by simp only [size_setCell]; exact (HSB.out q hq).2⟩
      · exact ((((HB9.out.setCell (by simp) _).setCell (by simp) _).setCell (by simp) _).setCell (by simp) _).setCell (by simp) _
  · by_cases h4 : t.op = 4
    · obtain ⟨s, hs⟩ := form4 HFM.out h4
      have HU : Hid (t.nnf g = s.nnf (!g)) := Lib.hid (nnf_neg h4 hs)
      have hl1 : 0 < t.parts.length := by rw [hs]; simp
      obtain ⟨b, off, e, va, vp, hc, hva, hvp⟩ := HV.out.2.get (k := 0) (t := s) (by rw [hs]; rfl)
      subst e
      have hsm : s ∈ t.parts := by rw [hs]; simp
      obtain ⟨c0, c1, c2, c3, c4⟩ : Fiv WA b off (.int .i64 s.op) (.string s.atom.name) va (.string s.var) vp := by simpa using hc.kept HBA.out
      have C0 := Lib.hid (H.out s hsm WA va vp (!g) (FmV.kept (t := s) ⟨hva, hvp⟩ HBA.out) (HFP.out s hsm) (Nat.le_trans (Fm.wt_part hsm) HW.out))
      have o3 := op_not h3
      have o4 := op_is h4
      obtain ⟨d0, d1, d2, d3, d4, d5⟩ := HFA.out
      rw [hWA] at d0 d1 d2 d3 d4 d5 c0 c1 c2 c3 c4
      clear h3 h4 hs hc hva hvp hsm
      go_enter Try.func105, Try.ntmps105
      go_wp2_with fail
      rw [← hWA]
      clear hWA d0 d1 d2 d3 d4 d5 c0 c1 c2 c3 c4
      refine C0.out.mono ?_
      rintro e w9 ⟨va9, vp9, rfl, ho, hb⟩
      obtain ⟨u, hu⟩ : ∃ u, u = s.nnf (!g) := ⟨_, rfl⟩
      rw [← hu] at ho HU ⊢
      obtain ⟨qa, qc, qp, qd, rfl, rfl⟩ := ho.read.open
      have HO := Lib.hid ho
      have HB9 := Lib.hid (carry_below HBA.out (Nat.le_refl _) hb)
      have HRS := Lib.hid (HRA.out.kept hb)
      have hb9 := hb.size
      have HSB : Hid (∀ q, Fresh WA w9 q → w.heap.size ≤ q ∧ q < w9.heap.size) := Lib.hid (fun q hq => by
        have := HSA.out
        have h1 := hq.1; have h2 := hq.2; exact ⟨by omega, by omega⟩)
      have HN1 : Hid (¬ Fresh WA w9 (w.heap.size + 1)) := Lib.hid (fun hq => by
        have := HSA.out
        have h1 := hq.1; omega)
      clear hb ho hu C0
      obtain ⟨r0, r1, r2, r3, r4, r5⟩ := HRS.out
      go_wp2
      have HR9 : Hid (FivB (((((w9.setCell ⟨w.heap.size + 1, 0, none⟩ (.int .i64 u.op)).setCell ⟨w.heap.size + 1, 1, none⟩ (.string u.atom.name)).setCell ⟨w.heap.size + 1, 2, none⟩ (.slice qa u.atom.args.length qc)).setCell ⟨w.heap.size + 1, 3, none⟩ (.string u.var)).setCell ⟨w.heap.size + 1, 4, none⟩ (.slice qp u.parts.length qd)) (w.heap.size + 1) (.int .i64 u.op) (.string u.atom.name) (.slice qa u.atom.args.length qc) (.string u.var) (.slice qp u.parts.length qd)) := Lib.hid (((((HRS.out.set0 _).set1 _).set2 _).set3 _).set4 _)
      clear r0 r1 r2 r3 r4 r5
      obtain ⟨r0, r1, r2, r3, r4, r5⟩ := HR9.out
      refine bodyPost_ret (v := .agg #[.int .i64 u.op, .string u.atom.name, .slice qa u.atom.args.length qc, .string u.var, .slice qp u.parts.length qd]) (by simp [results, Try.results105, go_sem, r0, r1, r2, r3, r4]) rfl ⟨_, _, by rw [HU.out], ?_, ?_⟩
      · rw [HU.out]
        exact (((((HO.out.setCell HN1.out _).setCell HN1.out _).setCell HN1.out _).setCell HN1.out _).setCell HN1.out _).mono fun q hq => ⟨(HSB.out q hq).1, by simp only [size_setCell]; exact (HSB.out q hq).2⟩
      · exact ((((HB9.out.setCell (by simp) _).setCell (by simp) _).setCell (by simp) _).setCell (by simp) _).setCell (by simp) _
    · have o3 := op_not h3
      have o4 := op_not h4
      obtain ⟨d0, d1, d2, d3, d4, d5⟩ := HFA.out
      rw [hWA] at d0 d1 d2 d3 d4 d5
      go_enter Try.func105, Try.ntmps105
      go_upto_region 6 with fail
      rw [← hWA]
      clear hWA d0 d1 d2 d3 d4 d5 o3 o4
      go_cut [5] from 29 to 36 (fun z wx => ∃ ob : Nat, z = .pointer (some ⟨ob, 0, none⟩) ∧ OutN WA wx (nop t.op g) t.var ob)
      case first =>
        have hB0 : Below WA.heap.size WA WA.drew := (Below.refl _ _).drew
        obtain ⟨d0, d1, d2, d3, d4, d5⟩ := HFA.out.drew
        refine sink_start 8 (fun w' => w'.cell? ⟨w.heap.size, 0, none⟩ = some (.int .i64 t.op) ∧ w'.cell? ⟨w.heap.size, 3, none⟩ = some (.string t.var)) (by kernel_rfl) (by exact ⟨by first | assumption | exact carry_cell' ((Below.refl _ _).alloc (Nat.le_refl _) _) (by assumption), by first | assumption | exact carry_cell' ((Below.refl _ _).alloc (Nat.le_refl _) _) (by assumption)⟩) (fun hHeld => ?_)
        refine sink_take 0 (v := ?_) rfl (by kernel_rfl) (by kernel_rfl) (by kernel_rfl) (by kernel_rfl) (by rfl) (fun _ _ _ h => h) (by assumption) ?_ ?_; rotate_left; (intro w hSw; (try dsimp only at hSw); go_simp; try (with_reducible rfl))
        try simp only [Act.put, List.getElem_toArray, List.getElem_cons_zero, List.getElem_cons_succ, List.setIfInBounds_toArray, List.set_cons_zero, List.set_cons_succ]
        refine sink_take 1 (v := ?_) rfl (by kernel_rfl) (by kernel_rfl) (by kernel_rfl) (by kernel_rfl) (by rfl) (fun _ _ _ h => h) (by assumption) ?_ ?_; rotate_left; (intro w hSw; (try dsimp only at hSw); go_simp; try (with_reducible rfl))
        try simp only [Act.put, List.getElem_toArray, List.getElem_cons_zero, List.getElem_cons_succ, List.setIfInBounds_toArray, List.set_cons_zero, List.set_cons_succ]
        refine sink_take 2 (v := ?_) rfl (by kernel_rfl) (by kernel_rfl) (by kernel_rfl) (by kernel_rfl) (by rfl) (fun _ _ _ h => h) (by assumption) ?_ ?_; rotate_left; (intro w hSw; (try dsimp only at hSw); go_simp; try (with_reducible rfl))
        try simp only [Act.put, List.getElem_toArray, List.getElem_cons_zero, List.getElem_cons_succ, List.setIfInBounds_toArray, List.set_cons_zero, List.set_cons_succ]
        refine sink_take 4 (v := ?_) rfl (by kernel_rfl) (by kernel_rfl) (by kernel_rfl) (by kernel_rfl) (by rfl) (fun _ _ _ h => h) (by assumption) ?_ ?_; rotate_left; (intro w hSw; (try dsimp only at hSw); go_simp; try (with_reducible rfl))
        try simp only [Act.put, List.getElem_toArray, List.getElem_cons_zero, List.getElem_cons_succ, List.setIfInBounds_toArray, List.set_cons_zero, List.set_cons_succ]
        refine sink_take 5 (v := ?_) rfl (by kernel_rfl) (by kernel_rfl) (by kernel_rfl) (by kernel_rfl) (by rfl) (fun _ _ _ h => h) (by assumption) ?_ ?_; rotate_left; (intro w hSw; (try dsimp only at hSw); go_simp; try (with_reducible rfl))
        try simp only [Act.put, List.getElem_toArray, List.getElem_cons_zero, List.getElem_cons_succ, List.setIfInBounds_toArray, List.set_cons_zero, List.set_cons_succ]
        refine sink_two (i := 3) (j := 7) (by kernel_rfl) rfl rfl (fun K hK => ?_) (fun K hK => ?_)
        · go_simp
          go_at_call 152; refine (normalOp_any _ _ _).mono ?_; rintro e w6 ⟨rfl, rfl⟩
          refine hK.out _ _ (fun _ => by exact ⟨by first | assumption | exact carry_cell' ((Below.refl _ _).alloc (Nat.le_refl _) _) (by assumption), by first | assumption | exact carry_cell' ((Below.refl _ _).alloc (Nat.le_refl _) _) (by assumption)⟩) (fun hHeld => ?_)
          have hHeld := hHeld (by decide)
          clear hK K
          try simp only [Act.put, List.getElem_toArray, List.getElem_cons_zero, List.getElem_cons_succ, List.setIfInBounds_toArray, List.set_cons_zero, List.set_cons_succ]
          refine sink_take 6 (v := ?_) rfl (by kernel_rfl) (by kernel_rfl) (by kernel_rfl) (by kernel_rfl) (by rfl) (fun _ _ _ h => h) (by assumption) ?_ ?_; rotate_left; (intro w hSw; (try dsimp only at hSw); go_simp; try (with_reducible rfl))
          try simp only [Act.put, List.getElem_toArray, List.getElem_cons_zero, List.getElem_cons_succ, List.setIfInBounds_toArray, List.set_cons_zero, List.set_cons_succ]
          refine sink_one (i := 7) (by kernel_rfl) rfl (fun K hK => ?_)
          go_simp
          refine hK.out _ _ (fun _ => by exact ⟨by first | assumption | exact carry_cell' ((Below.refl _ _).alloc (Nat.le_refl _) _) (by assumption), by first | assumption | exact carry_cell' ((Below.refl _ _).alloc (Nat.le_refl _) _) (by assumption)⟩) (fun hHeld => ?_)
          have hHeld := hHeld (by decide)
          clear hK K
          try simp only [Act.put, List.getElem_toArray, List.getElem_cons_zero, List.getElem_cons_succ, List.setIfInBounds_toArray, List.set_cons_zero, List.set_cons_succ]
          refine sink_one (i := 8) (by kernel_rfl) rfl (fun K hK => ?_)
          go_simp
          refine hK.out _ _ (fun hne => absurd rfl hne) (fun hHeld => ?_)
          clear hK K
          try simp only [Act.put, List.getElem_toArray, List.getElem_cons_zero, List.getElem_cons_succ, List.setIfInBounds_toArray, List.set_cons_zero, List.set_cons_succ]
          refine sink_done (by kernel_rfl) ?_ _
          go_wp2_with fail
          go_meet
          exact ⟨WA.heap.size, rfl, (fivB_new WA _ _ _ _ _ _ _ rfl).drew, Nat.le_refl _, by show WA.heap.size < (WA.alloc _).heap.size; rw [World.size_alloc]; exact Nat.lt_succ_self _, ((Below.refl _ _).alloc (Nat.le_refl _) _).drew⟩
        · go_simp
          refine hK.out _ _ (fun _ => by exact ⟨by first | assumption | exact carry_cell' ((Below.refl _ _).alloc (Nat.le_refl _) _) (by assumption), by first | assumption | exact carry_cell' ((Below.refl _ _).alloc (Nat.le_refl _) _) (by assumption)⟩) (fun hHeld => ?_)
          have hHeld := hHeld (by decide)
          clear hK K
          try simp only [Act.put, List.getElem_toArray, List.getElem_cons_zero, List.getElem_cons_succ, List.setIfInBounds_toArray, List.set_cons_zero, List.set_cons_succ]
          refine sink_one (i := 3) (by kernel_rfl) rfl (fun K hK => ?_)
          go_simp
          go_at_call 152; refine (normalOp_any _ _ _).mono ?_; rintro e w6 ⟨rfl, rfl⟩
          refine hK.out _ _ (fun _ => by exact ⟨by first | assumption | exact carry_cell' ((Below.refl _ _).alloc (Nat.le_refl _) _) (by assumption), by first | assumption | exact carry_cell' ((Below.refl _ _).alloc (Nat.le_refl _) _) (by assumption)⟩) (fun hHeld => ?_)
          have hHeld := hHeld (by decide)
          clear hK K
          try simp only [Act.put, List.getElem_toArray, List.getElem_cons_zero, List.getElem_cons_succ, List.setIfInBounds_toArray, List.set_cons_zero, List.set_cons_succ]
          refine sink_take 6 (v := ?_) rfl (by kernel_rfl) (by kernel_rfl) (by kernel_rfl) (by kernel_rfl) (by rfl) (fun _ _ _ h => h) (by assumption) ?_ ?_; rotate_left; (intro w hSw; (try dsimp only at hSw); go_simp; try (with_reducible rfl))
          try simp only [Act.put, List.getElem_toArray, List.getElem_cons_zero, List.getElem_cons_succ, List.setIfInBounds_toArray, List.set_cons_zero, List.set_cons_succ]
          refine sink_one (i := 8) (by kernel_rfl) rfl (fun K hK => ?_)
          go_simp
          refine hK.out _ _ (fun hne => absurd rfl hne) (fun hHeld => ?_)
          clear hK K
          try simp only [Act.put, List.getElem_toArray, List.getElem_cons_zero, List.getElem_cons_succ, List.setIfInBounds_toArray, List.set_cons_zero, List.set_cons_succ]
          refine sink_done (by kernel_rfl) ?_ _
          go_wp2_with fail
          go_meet
          exact ⟨WA.heap.size, rfl, (fivB_new WA _ _ _ _ _ _ _ rfl).drew, Nat.le_refl _, by show WA.heap.size < (WA.alloc _).heap.size; rw [World.size_alloc]; exact Nat.lt_succ_self _, ((Below.refl _ _).alloc (Nat.le_refl _) _).drew⟩
      case rest =>
        obtain ⟨ob, rfl, hob⟩ := hcut
        obtain ⟨W0, hW0⟩ : ∃ x, x = wc := ⟨_, rfl⟩
        rw [← hW0] at hob ⊢
        clear hW0
        obtain ⟨hf0, hob1, hob2, hbw⟩ := hob
        have HF0 := Lib.hid (HFA.out.kept hbw)
        have HR0 := Lib.hid (HRA.out.kept hbw)
        have HO0 := Lib.hid hf0
        have HBW := Lib.hid (carry_below HBA.out (Nat.le_refl _) hbw)
        have hob3 : w.heap.size + 1 + 1 ≤ ob := by have := HSA.out; omega
        obtain ⟨L, hL⟩ : ∃ L, L = Fm.nnfL t.op g 0 t.parts := ⟨_, rfl⟩
        have HLL : Hid (L.length = t.parts.length) := Lib.hid (by rw [hL, nnfL_len])
        have HLA : Hid (∀ (k : Nat) (s : Fm), t.parts[k]? = some s → L[k]? = some (s.nnf (polB t.op g k))) := Lib.hid (fun k s hs => by rw [hL, nnfL_at t.op g t.parts 0 k s hs, Nat.zero_add])
        have HLE : Hid (t.nnf g = .node (nop t.op g) zT t.var L) := Lib.hid (by rw [hL]; exact nnf_else h3 h4)
        clear hL
        have HR00 : Hid (OwnRelF w W0 W0 (.slice none 0 0) L 0) := Lib.hid ⟨_, _, _, _, World.ownsRow_nil _ _ _ _, MadeF.start _ _ _ _, fun g hg => by simp [Value.ownBlock] at hg, HBW.out, Nat.le_refl _⟩
        obtain ⟨d0, d1, d2, d3, d4, d5⟩ := HF0.out
        obtain ⟨o0, o1, o2, o3, o4, o5⟩ := HO0.out
        clear hf0 hbw
        go_wp2
        go_loopw [39] (fun i wr => ∃ (k : Nat) (v : Value), k ≤ t.parts.length ∧ i = .int .i64 k ∧ OwnRelF w W0 wr v L k ∧ FivB wr w.heap.size (.int .i64 t.op) (.string t.atom.name) (.slice pa t.atom.args.length ca) (.string t.var) (.slice pp t.parts.length cp) ∧ FivB wr (w.heap.size + 1) (.int .i64 0) (.string ⟨#[]⟩) (.slice none 0 0) (.string ⟨#[]⟩) (.slice none 0 0) ∧ FivB wr ob (.int .i64 (nop t.op g)) (.string ⟨#[]⟩) (.slice none 0 0) (.string t.var) v) (fun i _ => t.parts.length - (intOf i).toNat)
        case atStart => exact ⟨0, _, Nat.zero_le _, rfl, HR00.out, HF0.out, HR0.out, HO0.out⟩
        case round =>
          obtain ⟨k, v, hk, rfl, hrel, htwo, hres, hout⟩ := hrel
          have HR := Lib.hid hrel
          have HTW := Lib.hid htwo
          have HRS := Lib.hid hres
          have HOU := Lib.hid hout
          obtain ⟨xs, f, p, Q, hown, hm, hne, hbe, hz⟩ := hrel
          have HOWN := Lib.hid hown
          have HM := Lib.hid hm
          have HNE := Lib.hid hne
          have HBE := Lib.hid hbe
          have HZ := Lib.hid hz
          clear hown hm hne hbe hz hres d0 d1 d2 d3 d4 d5 o0 o1 o2 o3 o4 o5
          obtain ⟨d0, d1, d2, d3, d4, d5⟩ := htwo
          obtain ⟨o0, o1, o2, o3, o4, o5⟩ := hout
          by_cases hlt : k < t.parts.length
          · obtain ⟨s, hs⟩ : ∃ s, t.parts[k]? = some s := ⟨_, List.getElem?_eq_getElem hlt⟩
            obtain ⟨b, off, rfl, va, vp, hc, hva, hvp⟩ := HV.out.2.get hs
            obtain ⟨qa0, qc0, qp0, qd0, rfl, rfl⟩ := FmV.open (t := s) ⟨hva, hvp⟩
            have hlb : b < w.heap.size := World.block_lt_of_cell? w _ hc.1
            have HS := Lib.hid hs
            have HSV := Lib.hid (FmV.kept (t := s) ⟨hva, hvp⟩ HBE.out)
            obtain ⟨c0, c1, c2, c3, c4⟩ := hc.kept HBE.out
            have hWb : b < W0.heap.size := by have := HBW.out.size; omega
            have hWa : w.heap.size < W0.heap.size := by omega
            have hWZ : w.heap.size + 1 < W0.heap.size := by omega
            have HFAR : Hid (∀ g, v.ownBlock = some g → W0.heap.size ≤ g) := Lib.hid (fun g hg => (HOWN.out.lt g hg).1)
            have hzz := HZ.out
            clear hs hva hvp hc
            obtain ⟨wq, hwq⟩ : ∃ wq, wr.alloc (.cells #[.int .i64 s.op, .string s.atom.name, .slice qa0 s.atom.args.length qc0, .string s.var, .slice qp0 s.parts.length qd0] 68) = wq := ⟨_, rfl⟩
            have HAQ : Hid (Below wr.heap.size wr wq) := Lib.hid (by rw [← hwq]; exact (Below.refl _ _).alloc (Nat.le_refl _) _)
            have HBX : Hid (FivB wq wr.heap.size (.int .i64 s.op) (.string s.atom.name) (.slice qa0 s.atom.args.length qc0) (.string s.var) (.slice qp0 s.parts.length qd0)) := Lib.hid (by rw [← hwq]; exact fivB_new _ _ _ _ _ _ _ _ rfl)
            have HOQ := Lib.hid (HOU.out.kept HAQ.out)
            have HFQ := Lib.hid (HTW.out.kept HAQ.out)
            have hqz : wr.heap.size ≤ wq.heap.size := HAQ.out.size
            have hlr : ob < wr.heap.size := by omega
            go_upto_region 10 with fail
            try rw [hwq]
            clear o0 o1 o2 o3 o4 o5 d0 d1 d2 d3 d4 d5 c0 c1 c2 c3 c4
            go_cut [8] from 44 to 51 (fun z wx => ∃ q : Bool, z = .bool q ∧ polB t.op g k = (g != q) ∧ wx = wq)
            case first =>
              obtain ⟨d0, d1, d2, d3, d4, d5⟩ := HFQ.out
              clear HLA
              by_cases h7 : t.op = 7
              · have o7 := op_is h7
                by_cases hk0 : k = 0
                · have HQ : Hid (polB t.op g k = (g != true)) := Lib.hid (by unfold polB; rw [if_pos (Or.inr ⟨h7, hk0⟩)]; cases g <;> rfl)
                  have k0 : (((k : Nat) : Int) == 0) = true := by rw [hk0]; rfl
                  clear h7 hk0
                  go_wp2_with fail
                  go_meet
                  exact ⟨true, rfl, HQ.out, rfl⟩
                · have HQ : Hid (polB t.op g k = (g != false)) := Lib.hid (by unfold polB; rw [if_neg (by omega)]; cases g <;> rfl)
                  have k0 : (((k : Nat) : Int) == 0) = false := by rw [beq_eq_false_iff_ne]; omega
                  clear h7 hk0
                  go_wp2_with fail
                  go_meet
                  exact ⟨false, rfl, HQ.out, rfl⟩
              · have o7 := op_not h7
                have HQ : Hid (polB t.op g k = (g != false)) := Lib.hid (by unfold polB; rw [if_neg (by omega)]; cases g <;> rfl)
                clear h7
                go_wp2_with fail
                go_meet
                exact ⟨false, rfl, HQ.out, rfl⟩
            case rest =>
              obtain ⟨q, rfl, hq, hwx⟩ := hcut
              subst hwx
              have HAT : Hid (∀ r : Bool, r = (g != q) → L[k]? = some (s.nnf r)) := Lib.hid (fun r hr => by rw [hr, ← hq]; exact HLA.out k s HS.out)
              clear hq hwq
              obtain ⟨o0, o1, o2, o3, o4, o5⟩ := HOQ.out
              obtain ⟨x0, x1, x2, x3, x4, x5⟩ := HBX.out
              have C1 : Hid (∀ (r : Bool) (W : World), Below wc.heap.size wc W → Calls Try.prog 105 #[.agg #[.int .i64 s.op, .string s.atom.name, .slice qa0 s.atom.args.length qc0, .string s.var, .slice qp0 s.parts.length qd0], .bool r] W (ToFmEnd (s.nnf r) W)) := Lib.hid (fun r W hW => H.out s (mem_of_at HS.out) W _ _ r (HSV.out.kept (carry_below HAQ.out (Nat.le_refl _) hW)) (HFP.out s (mem_of_at HS.out)) (Nat.le_trans (Fm.wt_part (mem_of_at HS.out)) HW.out))
              have hB0 : Below wc.heap.size wc wc.drew := (Below.refl _ _).drew
              go_wp2_with fail
              go_region_law (first
                  | (refine step_append_lies _ (by rfl) _ _ _ (by rfl) W0.heap.size 68 i0 _ 5 88 Try.underlying66 hi hz0 hz1 hz2 rfl (by omega) v k xs (by rfl) (HW6.out.alloc _) ⟨w6.heap.size, 0, none⟩ 1 1 [.int .i64 s2.op, .string s2.atom.name, .slice qa s2.atom.args.length qc, .string s2.var, .slice qp s2.parts.length qd] (by rfl) (by rfl) (World.news_of_block (cs := #[.int .i64 s2.op, .string s2.atom.name, .slice qa s2.atom.args.length qc, .string s2.var, .slice qp s2.parts.length qd]) (t := 68) (fr := (0, 0)) (heap_alloc_new w6 _)) (by simp [Value.oneCell']) (by omega) (by unfold maxLen; omega) (by omega) (by have := hB6.size; simp; omega) (w6.heap.size + 1) (by simp) ?_; intro gg cap w7 hown7 hgrow hat hlt7; have s1 := app_cell hgrow q1 (far_row HFAR.out hob2); have s9 := (app_fiv hgrow O6.out (far_row HFAR.out hob2)).2.2.2.2.2; have HOWN7 := Lib.hid hown7; have HGROW7 := Lib.hid hgrow; have HAT7 := Lib.hid hat; clear hown7 hgrow hat)
                  | (go_simp; go_at_call 105; refine (C1.out _ _ hB0).mono ?_; rintro e w6 ⟨va6, vp6, rfl, ho, hb⟩; have HT6 := Lib.hid (HAT.out (!(g == q)) rfl); obtain ⟨s2, hs2⟩ : ∃ s2, s2 = s.nnf (!(g == q)) := ⟨_, rfl⟩; rw [← hs2] at ho HT6 ⊢; have q1 := carry_cell' hb o4; have hB6 := carry_below hB0 (Nat.le_refl _) hb; obtain ⟨qa, qc, qp, qd, rfl, rfl⟩ := ho.read.open; have HO6 := Lib.hid ho; have HW6 := Lib.hid (own_kept HOWN.out (carry_below HAQ.out (Nat.le_refl _) hB6)); have T6 := Lib.hid (HTW.out.kept (carry_below HAQ.out (Nat.le_refl _) hB6)); have R6 := Lib.hid (HRS.out.kept (carry_below HAQ.out (Nat.le_refl _) hB6)); have O6 := Lib.hid (HOU.out.kept (carry_below HAQ.out (Nat.le_refl _) hB6)); have hz6 : W0.heap.size ≤ w6.heap.size := Nat.le_trans HZ.out (carry_below HAQ.out (Nat.le_refl _) hB6).size; have hl1 : ob < w6.heap.size := (by omega); have hl2 : w.heap.size < w6.heap.size := (by omega); have hl3 : b < w6.heap.size := (by omega); clear hb ho hs2))
              all_goals
                have HN : Hid (OwnRelF w W0 (w7.setCell ⟨ob, 4, none⟩ (.slice (some ⟨gg, 0, none⟩) (k + 1) cap)) (.slice (some ⟨gg, 0, none⟩) (k + 1) cap) L (k + 1)) := Lib.hid (OwnRelF.next (by omega) HBE.out HOWN.out HM.out HNE.out HZ.out HT6.out (HO6.out.mono fun q hq => ⟨Nat.le_trans HAQ.out.size hq.1, hq.2⟩) (carry_below HAQ.out (Nat.le_refl _) hB6) HOWN7.out HGROW7.out HAT7.out (by simp; omega) (by simp; omega))
                have HT7 : Hid (FivB (w7.setCell ⟨ob, 4, none⟩ (.slice (some ⟨gg, 0, none⟩) (k + 1) cap)) w.heap.size (.int .i64 t.op) (.string t.atom.name) (.slice pa t.atom.args.length ca) (.string t.var) (.slice (some ⟨b, off, none⟩) t.parts.length cp)) := Lib.hid ((app_fiv HGROW7.out T6.out (far_row HFAR.out hWa)).setFar (by simp; omega) _)
                have HS7 : Hid (FivB (w7.setCell ⟨ob, 4, none⟩ (.slice (some ⟨gg, 0, none⟩) (k + 1) cap)) (w.heap.size + 1) (.int .i64 0) (.string ⟨#[]⟩) (.slice none 0 0) (.string ⟨#[]⟩) (.slice none 0 0)) := Lib.hid ((app_fiv HGROW7.out R6.out (far_row HFAR.out hWZ)).setFar (by simp; omega) _)
                have HO7 : Hid (FivB (w7.setCell ⟨ob, 4, none⟩ (.slice (some ⟨gg, 0, none⟩) (k + 1) cap)) ob (.int .i64 (nop t.op g)) (.string ⟨#[]⟩) (.slice none 0 0) (.string t.var) (.slice (some ⟨gg, 0, none⟩) (k + 1) cap)) := Lib.hid ((app_fiv HGROW7.out O6.out (far_row HFAR.out hob2)).set4 _)
                clear o0 o1 o2 o3 o4 o5 hB0 hB6 q1 s1 s9 x0 x1 x2 x3 x4 x5
                go_wp2
                go_roundw
                case rel => exact ⟨k + 1, _, by omega, by go_num, HN.out, HT7.out, HS7.out, HO7.out⟩
                case measure => simp [intOf]; omega
          · have hke : k = L.length := by have := HLL.out; omega
            subst hke
            have HE := Lib.hid HR.out.whole
            obtain ⟨pq, cq, rfl⟩ : ∃ p q, v = .slice p L.length q := by
              obtain ⟨p, q, e⟩ := HR.out.whole.read.is_slice; exact ⟨p, q, e⟩
            obtain ⟨r0, r1, r2, r3, r4, r5⟩ := HRS.out
            have hn0 : decide ((L.length : Int) < (t.parts.length : Int)) = false := by rw [decide_eq_false_iff_not]; omega
            go_wp2
            refine bodyPost_ret (v := .agg #[.int .i64 (nop t.op g), .string ⟨#[]⟩, .slice none 0 0, .string t.var, .slice pq L.length cq]) (by simp [results, Try.results105, go_sem, r0, r1, r2, r3, r4]) rfl ⟨.slice none 0 0, .slice pq L.length cq, by rw [HLE.out]; rfl, ?_, ?_⟩
            · rw [HLE.out]
              refine ⟨fun _ => False, Fresh W0 wr, .emp _ _ _, ?_, fun _ h => h.elim, fun q hq => ?_, fun _ h => h.elim⟩
              · have hn : ¬ Fresh W0 wr (w.heap.size + 1) := fun h => by have := h.1; omega
                exact ((((HE.out.setCell hn _).setCell hn _).setCell hn _).setCell hn _).setCell hn _
              · have h1 := hq.1
                have h2 := HBW.out.size
                exact ⟨by omega, by simp only [size_setCell]; exact hq.2⟩
            · exact ((((HBE.out.setCell (by simp) _).setCell (by simp) _).setCell (by simp) _).setCell (by simp) _).setCell (by simp) _

theorem pushNeg_any (t : Fm) : PnT t := Fm.ind (P := PnT) (fun t ih => pushNeg_of t ih) t

end Go.Proofs.Ytppmiedhoimgmaa
