/- NegationNormalForm, both sides: contracts, for formulas of at most 1048576 names' bytes, arguments and parts. -/
import Derived.Test.YtppmiedhoimgmaaNnS
import Derived.Test.YtppmiedhoimgmaaNnI
import Derived.Test.YtppmiedhoimgmaaFmI
namespace Go.Proofs.Ytppmiedhoimgmaa
open Go.RowKit
set_option linter.unusedVariables false
set_option linter.unusedSimpArgs false

theorem nnB_no {t : Fm} (h : fgoodB t = false) : nnB t = false := by simp [nnB, h]
theorem nnA_no {t : Fm} (h : fgoodB t = false) : nnA t = zeroF := by simp [nnA, nnB, h]
theorem nnB_no2 {t : Fm} (h : fgoodB (t.nnf false) = false) : nnB t = false := by simp [nnB, h]
theorem nnA_no2 {t : Fm} (h : fgoodB (t.nnf false) = false) : nnA t = zeroF := by simp [nnA, nnB, h]
theorem nnB_yes {t : Fm} (h : fgoodB t = true) (k : fgoodB (t.nnf false) = true) : nnB t = true := by simp [nnB, h, k]
theorem nnA_yes {t : Fm} (h : fgoodB t = true) (k : fgoodB (t.nnf false) = true) : nnA t = t.nnf false := by simp [nnA, nnB, h, k]

set_option maxRecDepth 100000 in
set_option maxHeartbeats 4000000 in
theorem validOr_any (u : Fm) (w : World) (va vp : Value) (hv : FmV w va vp u) (hw : u.wt ≤ 1048576) :
    Calls Try.prog 104 #[.agg #[.int .i64 u.op, .string u.atom.name, va, .string u.var, vp]] w (fun e w' => e = .returned (.tuple #[(if fgoodB u then .agg #[.int .i64 u.op, .string u.atom.name, va, .string u.var, vp] else .agg #[.int .i64 0, .string ⟨#[]⟩, .slice none 0 0, .string ⟨#[]⟩, .slice none 0 0]), .bool (fgoodB u)]) ∧ Below w.heap.size w w') := by
  obtain ⟨pa, ca, pp, cp, rfl, rfl⟩ := hv.open
  obtain ⟨WA, hWA⟩ : ∃ W, W = (w.alloc (.cells #[.int .i64 u.op, .string u.atom.name, .slice pa u.atom.args.length ca, .string u.var, .slice pp u.parts.length cp] 68)).alloc (.cells #[.int .i64 0, .string ⟨#[]⟩, .slice none 0 0, .string ⟨#[]⟩, .slice none 0 0] 68) := ⟨_, rfl⟩
  have HFA : Hid (FivB WA w.heap.size (.int .i64 u.op) (.string u.atom.name) (.slice pa u.atom.args.length ca) (.string u.var) (.slice pp u.parts.length cp)) := Lib.hid (by rw [hWA]; exact (fivB_new w (.int .i64 u.op) (.string u.atom.name) (.slice pa u.atom.args.length ca) (.string u.var) (.slice pp u.parts.length cp) 68 _ rfl).alloc _)
  have HRA : Hid (FivB WA (w.heap.size + 1) (.int .i64 0) (.string ⟨#[]⟩) (.slice none 0 0) (.string ⟨#[]⟩) (.slice none 0 0)) := Lib.hid (by rw [hWA]; exact fivB_new _ (.int .i64 0) (.string ⟨#[]⟩) (.slice none 0 0) (.string ⟨#[]⟩) (.slice none 0 0) 68 _ (by simp))
  have HBA : Hid (Below w.heap.size w WA) := Lib.hid (by rw [hWA]; exact ((Below.refl _ _).alloc (Nat.le_refl _) _).alloc (by simp) _)
  have CG := Lib.hid (implVF_any u WA _ _ (hv.kept HBA.out) hw)
  obtain ⟨d0, d1, d2, d3, d4, d5⟩ := HFA.out
  rw [hWA] at d0 d1 d2 d3 d4 d5
  clear hv hw
  obtain ⟨g2, hg2⟩ : ∃ b, b = fgoodB u := ⟨_, rfl⟩
  rw [← hg2] at CG ⊢
  clear hg2
  cases g2 with
  | false =>
    go_enter Try.func104, Try.ntmps104
    go_wp2_with fail
    rw [← hWA]
    clear hWA d0 d1 d2 d3 d4 d5
    refine CG.out.mono ?_
    rintro e w9 ⟨rfl, hb⟩
    have HF9 := Lib.hid (HFA.out.kept hb)
    have HR9 := Lib.hid (HRA.out.kept hb)
    have HB9 := Lib.hid (carry_below HBA.out (Nat.le_refl _) hb)
    clear hb CG
    obtain ⟨d0, d1, d2, d3, d4, d5⟩ := HF9.out
    obtain ⟨r0, r1, r2, r3, r4, r5⟩ := HR9.out
    have hrl : w.heap.size + 1 < w9.heap.size := World.block_lt_of_cell? _ ⟨w.heap.size + 1, 0, none⟩ r0
    go_wp2
    have HRZ : Hid (FivB (((((w9.setCell ⟨w.heap.size + 1, 0, none⟩ (.int .i64 0)).setCell ⟨w.heap.size + 1, 1, none⟩ (.string ⟨#[]⟩)).setCell ⟨w.heap.size + 1, 2, none⟩ (.slice none 0 0)).setCell ⟨w.heap.size + 1, 3, none⟩ (.string ⟨#[]⟩)).setCell ⟨w.heap.size + 1, 4, none⟩ (.slice none 0 0)) (w.heap.size + 1) (.int .i64 0) (.string ⟨#[]⟩) (.slice none 0 0) (.string ⟨#[]⟩) (.slice none 0 0)) := Lib.hid (((((HR9.out.set0 _).set1 _).set2 _).set3 _).set4 _)
    clear r0 r1 r2 r3 r4 r5
    obtain ⟨r0, r1, r2, r3, r4, r5⟩ := HRZ.out
    refine bodyPost_ret (v := .tuple #[.agg #[.int .i64 0, .string ⟨#[]⟩, .slice none 0 0, .string ⟨#[]⟩, .slice none 0 0], .bool false]) (by simp [results, Try.results104, go_sem, r0, r1, r2, r3, r4]) rfl ⟨rfl, ?_⟩
    exact ((((HB9.out.setCell (by simp) _).setCell (by simp) _).setCell (by simp) _).setCell (by simp) _).setCell (by simp) _
  | true =>
    go_enter Try.func104, Try.ntmps104
    go_wp2_with fail
    rw [← hWA]
    clear hWA d0 d1 d2 d3 d4 d5
    refine CG.out.mono ?_
    rintro e w9 ⟨rfl, hb⟩
    have HF9 := Lib.hid (HFA.out.kept hb)
    have HR9 := Lib.hid (HRA.out.kept hb)
    have HB9 := Lib.hid (carry_below HBA.out (Nat.le_refl _) hb)
    clear hb CG
    obtain ⟨d0, d1, d2, d3, d4, d5⟩ := HF9.out
    obtain ⟨r0, r1, r2, r3, r4, r5⟩ := HR9.out
    have hrl : w.heap.size + 1 < w9.heap.size := World.block_lt_of_cell? _ ⟨w.heap.size + 1, 0, none⟩ r0
    go_wp2
    have HRZ : Hid (FivB (((((w9.setCell ⟨w.heap.size + 1, 0, none⟩ (.int .i64 u.op)).setCell ⟨w.heap.size + 1, 1, none⟩ (.string u.atom.name)).setCell ⟨w.heap.size + 1, 2, none⟩ (.slice pa u.atom.args.length ca)).setCell ⟨w.heap.size + 1, 3, none⟩ (.string u.var)).setCell ⟨w.heap.size + 1, 4, none⟩ (.slice pp u.parts.length cp)) (w.heap.size + 1) (.int .i64 u.op) (.string u.atom.name) (.slice pa u.atom.args.length ca) (.string u.var) (.slice pp u.parts.length cp)) := Lib.hid (((((HR9.out.set0 _).set1 _).set2 _).set3 _).set4 _)
    clear r0 r1 r2 r3 r4 r5
    obtain ⟨r0, r1, r2, r3, r4, r5⟩ := HRZ.out
    refine bodyPost_ret (v := .tuple #[.agg #[.int .i64 u.op, .string u.atom.name, .slice pa u.atom.args.length ca, .string u.var, .slice pp u.parts.length cp], .bool true]) (by simp [results, Try.results104, go_sem, r0, r1, r2, r3, r4]) rfl ⟨rfl, ?_⟩
    exact ((((HB9.out.setCell (by simp) _).setCell (by simp) _).setCell (by simp) _).setCell (by simp) _).setCell (by simp) _

theorem validOr_yes {u : Fm} {w : World} {va vp : Value} (h : fgoodB u = true) (hv : FmV w va vp u) (hw : u.wt ≤ 1048576) :
    Calls Try.prog 104 #[.agg #[.int .i64 u.op, .string u.atom.name, va, .string u.var, vp]] w (fun e w' => e = .returned (.tuple #[.agg #[.int .i64 u.op, .string u.atom.name, va, .string u.var, vp], .bool true]) ∧ Below w.heap.size w w') := by
  have c := validOr_any u w va vp hv hw
  rw [h] at c
  exact c
theorem validOr_no {u : Fm} {w : World} {va vp : Value} (h : fgoodB u = false) (hv : FmV w va vp u) (hw : u.wt ≤ 1048576) :
    Calls Try.prog 104 #[.agg #[.int .i64 u.op, .string u.atom.name, va, .string u.var, vp]] w (fun e w' => e = .returned (.tuple #[.agg #[.int .i64 0, .string ⟨#[]⟩, .slice none 0 0, .string ⟨#[]⟩, .slice none 0 0], .bool false]) ∧ Below w.heap.size w w') := by
  have c := validOr_any u w va vp hv hw
  rw [h] at c
  exact c

set_option maxRecDepth 100000 in
set_option maxHeartbeats 8000000 in
theorem specNn_any (t : Fm) (w : World) (va vp : Value) (hv : FmV w va vp t) (hw : t.wt ≤ 1048576) :
    Calls Try.prog 44 #[.agg #[.int .i64 t.op, .string t.atom.name, va, .string t.var, vp]] w (NnEnd t w) := by
  obtain ⟨pa, ca, pp, cp, rfl, rfl⟩ := hv.open
  have HV := Lib.hid hv
  have HW := Lib.hid hw
  obtain ⟨WA, hWA⟩ : ∃ W, W = (w.alloc (.cells #[.int .i64 t.op, .string t.atom.name, .slice pa t.atom.args.length ca, .string t.var, .slice pp t.parts.length cp] 68)).alloc (.cells #[.int .i64 0, .string ⟨#[]⟩, .slice none 0 0, .string ⟨#[]⟩, .slice none 0 0] 68) := ⟨_, rfl⟩
  have HFA : Hid (FivB WA w.heap.size (.int .i64 t.op) (.string t.atom.name) (.slice pa t.atom.args.length ca) (.string t.var) (.slice pp t.parts.length cp)) := Lib.hid (by rw [hWA]; exact (fivB_new w (.int .i64 t.op) (.string t.atom.name) (.slice pa t.atom.args.length ca) (.string t.var) (.slice pp t.parts.length cp) 68 _ rfl).alloc _)
  have HRA : Hid (FivB WA (w.heap.size + 1) (.int .i64 0) (.string ⟨#[]⟩) (.slice none 0 0) (.string ⟨#[]⟩) (.slice none 0 0)) := Lib.hid (by rw [hWA]; exact fivB_new _ (.int .i64 0) (.string ⟨#[]⟩) (.slice none 0 0) (.string ⟨#[]⟩) (.slice none 0 0) 68 _ (by simp))
  have HBA : Hid (Below w.heap.size w WA) := Lib.hid (by rw [hWA]; exact ((Below.refl _ _).alloc (Nat.le_refl _) _).alloc (by simp) _)
  have HSA : Hid (WA.heap.size = w.heap.size + 1 + 1) := Lib.hid (by rw [hWA]; simp)
  have CG := Lib.hid (l8Good_any t WA _ _ (hv.kept HBA.out) hw)
  obtain ⟨d0, d1, d2, d3, d4, d5⟩ := HFA.out
  rw [hWA] at d0 d1 d2 d3 d4 d5
  clear hv hw
  cases hg : fgoodB t with
  | false =>
    have HU : Hid (nnA t = zeroF) := Lib.hid (nnA_no hg)
    have HB : Hid (nnB t = false) := Lib.hid (nnB_no hg)
    rw [hg] at CG
    clear hg
    go_enter Try.func44, Try.ntmps44
    go_wp2_with fail
    rw [← hWA]
    clear hWA d0 d1 d2 d3 d4 d5
    refine CG.out.mono ?_
    rintro e w9 ⟨rfl, hb⟩
    have HR9 := Lib.hid (HRA.out.kept hb)
    have HB9 := Lib.hid (carry_below HBA.out (Nat.le_refl _) hb)
    clear hb CG
    obtain ⟨r0, r1, r2, r3, r4, r5⟩ := HR9.out
    have hrl : w.heap.size + 1 < w9.heap.size := World.block_lt_of_cell? _ ⟨w.heap.size + 1, 0, none⟩ r0
    go_wp2
    have HRZ : Hid (FivB (((((w9.setCell ⟨w.heap.size + 1, 0, none⟩ (.int .i64 0)).setCell ⟨w.heap.size + 1, 1, none⟩ (.string ⟨#[]⟩)).setCell ⟨w.heap.size + 1, 2, none⟩ (.slice none 0 0)).setCell ⟨w.heap.size + 1, 3, none⟩ (.string ⟨#[]⟩)).setCell ⟨w.heap.size + 1, 4, none⟩ (.slice none 0 0)) (w.heap.size + 1) (.int .i64 0) (.string ⟨#[]⟩) (.slice none 0 0) (.string ⟨#[]⟩) (.slice none 0 0)) := Lib.hid (((((HR9.out.set0 _).set1 _).set2 _).set3 _).set4 _)
    clear r0 r1 r2 r3 r4 r5
    obtain ⟨r0, r1, r2, r3, r4, r5⟩ := HRZ.out
    refine bodyPost_ret (v := .tuple #[.agg #[.int .i64 0, .string ⟨#[]⟩, .slice none 0 0, .string ⟨#[]⟩, .slice none 0 0], .bool false]) (by simp [results, Try.results44, go_sem, r0, r1, r2, r3, r4]) rfl ⟨.slice none 0 0, .slice none 0 0, by rw [HU.out, HB.out]; rfl, ?_, ?_⟩
    · rw [HU.out]; exact ⟨fun _ => False, fun _ => False, .emp _ _ _, .emp _ _ _, fun _ h => h.elim, fun _ h => h.elim, fun _ h => h.elim⟩
    · exact ((((HB9.out.setCell (by simp) _).setCell (by simp) _).setCell (by simp) _).setCell (by simp) _).setCell (by simp) _
  | true =>
    have HG := Lib.hid hg
    have HFM := Lib.hid (fgood_open hg).2
    have HSM := Lib.hid (nnf_small hg)
    rw [hg] at CG
    clear hg
    go_enter Try.func44, Try.ntmps44
    go_wp2_with fail
    rw [← hWA]
    clear hWA d0 d1 d2 d3 d4 d5
    refine CG.out.mono ?_
    rintro e w3 ⟨rfl, hb⟩
    have HF3 := Lib.hid (HFA.out.kept hb)
    have HR3 := Lib.hid (HRA.out.kept hb)
    have HB3 := Lib.hid (carry_below HBA.out (Nat.le_refl _) hb)
    have hz3 : w.heap.size + 1 + 1 ≤ w3.heap.size := by have := hb.size; have := HSA.out; omega
    clear hb CG
    obtain ⟨d0, d1, d2, d3, d4, d5⟩ := HF3.out
    have C1 : Hid (Calls Try.prog 103 #[.agg #[.int .i64 t.op, .string t.atom.name, .slice pa t.atom.args.length ca, .string t.var, .slice pp t.parts.length cp], .bool true] w3 (ToFmEnd (t.nnf false) w3)) := Lib.hid (l9Nnf_any t w3 _ _ true (HV.out.kept HB3.out) HFM.out HW.out)
    obtain ⟨u, hu⟩ : ∃ u, u = t.nnf false := ⟨_, rfl⟩
    rw [← hu] at C1 HSM
    have HUU := Lib.hid hu
    clear hu
    go_wp2_with fail
    refine C1.out.mono ?_
    rintro e w4 ⟨va4, vp4, rfl, ho, hb⟩
    obtain ⟨qa, qc, qp, qd, rfl, rfl⟩ := ho.read.open
    have HO4 := Lib.hid ho
    have HR4 := Lib.hid (HR3.out.kept hb)
    have HB4 := Lib.hid (carry_below HB3.out (Nat.le_refl _) hb)
    have hz4 := hb.size
    clear ho hb C1 d0 d1 d2 d3 d4 d5
    obtain ⟨W5, hW5⟩ : ∃ W5, W5 = w4.alloc (.cells #[.int .i64 u.op, .string u.atom.name, .slice qa u.atom.args.length qc, .string u.var, .slice qp u.parts.length qd] 68) := ⟨_, rfl⟩
    have HA5 : Hid (Below w4.heap.size w4 W5) := Lib.hid (by rw [hW5]; exact (Below.refl _ _).alloc (Nat.le_refl _) _)
    have HX5 : Hid (FivB W5 w4.heap.size (.int .i64 u.op) (.string u.atom.name) (.slice qa u.atom.args.length qc) (.string u.var) (.slice qp u.parts.length qd)) := Lib.hid (by rw [hW5]; exact fivB_new w4 _ _ _ _ _ _ _ rfl)
    have CH := Lib.hid (l8Good_any u W5 _ _ (HO4.out.read.kept HA5.out) (by have := HSM.out; omega))
    obtain ⟨x0, x1, x2, x3, x4, x5⟩ := HX5.out
    rw [hW5] at x0 x1 x2 x3 x4 x5
    obtain ⟨g2, hg2⟩ : ∃ b, b = fgoodB u := ⟨_, rfl⟩
    rw [← hg2] at CH
    have HG2 := Lib.hid hg2
    clear hg2
    go_wp2_with fail
    rw [← hW5]
    clear x0 x1 x2 x3 x4 x5 hW5
    refine CH.out.mono ?_
    rintro e w6 ⟨rfl, hb⟩
    have hb2 := carry_below HA5.out (Nat.le_refl _) hb
    have HX6 := Lib.hid (HX5.out.kept hb)
    have HR9 := Lib.hid (HR4.out.kept hb2)
    have HB9 := Lib.hid (carry_below HB4.out (Nat.le_refl _) hb2)
    have HO9 := Lib.hid (HO4.out.kept hb2)
    have hz6 := hb2.size
    clear hb hb2 CH
    obtain ⟨x0, x1, x2, x3, x4, x5⟩ := HX6.out
    cases g2 with
    | false =>
      have HU : Hid (nnA t = zeroF) := Lib.hid (nnA_no2 (by rw [← HUU.out]; exact HG2.out.symm))
      have HB : Hid (nnB t = false) := Lib.hid (nnB_no2 (by rw [← HUU.out]; exact HG2.out.symm))
      obtain ⟨r0, r1, r2, r3, r4, r5⟩ := HR9.out
      have hrl : w.heap.size + 1 < w6.heap.size := World.block_lt_of_cell? _ ⟨w.heap.size + 1, 0, none⟩ r0
      go_wp2
      have HRZ : Hid (FivB (((((w6.setCell ⟨w.heap.size + 1, 0, none⟩ (.int .i64 0)).setCell ⟨w.heap.size + 1, 1, none⟩ (.string ⟨#[]⟩)).setCell ⟨w.heap.size + 1, 2, none⟩ (.slice none 0 0)).setCell ⟨w.heap.size + 1, 3, none⟩ (.string ⟨#[]⟩)).setCell ⟨w.heap.size + 1, 4, none⟩ (.slice none 0 0)) (w.heap.size + 1) (.int .i64 0) (.string ⟨#[]⟩) (.slice none 0 0) (.string ⟨#[]⟩) (.slice none 0 0)) := Lib.hid (((((HR9.out.set0 _).set1 _).set2 _).set3 _).set4 _)
      clear r0 r1 r2 r3 r4 r5
      obtain ⟨r0, r1, r2, r3, r4, r5⟩ := HRZ.out
      refine bodyPost_ret (v := .tuple #[.agg #[.int .i64 0, .string ⟨#[]⟩, .slice none 0 0, .string ⟨#[]⟩, .slice none 0 0], .bool false]) (by simp [results, Try.results44, go_sem, r0, r1, r2, r3, r4]) rfl ⟨.slice none 0 0, .slice none 0 0, by rw [HU.out, HB.out]; rfl, ?_, ?_⟩
      · rw [HU.out]; exact ⟨fun _ => False, fun _ => False, .emp _ _ _, .emp _ _ _, fun _ h => h.elim, fun _ h => h.elim, fun _ h => h.elim⟩
      · exact ((((HB9.out.setCell (by simp) _).setCell (by simp) _).setCell (by simp) _).setCell (by simp) _).setCell (by simp) _
    | true =>
      have HU : Hid (nnA t = u) := Lib.hid (by rw [HUU.out]; exact nnA_yes HG.out (by rw [← HUU.out]; exact HG2.out.symm))
      have HB : Hid (nnB t = true) := Lib.hid (nnB_yes HG.out (by rw [← HUU.out]; exact HG2.out.symm))
      obtain ⟨r0, r1, r2, r3, r4, r5⟩ := HR9.out
      have hrl : w.heap.size + 1 < w6.heap.size := World.block_lt_of_cell? _ ⟨w.heap.size + 1, 0, none⟩ r0
      go_wp2
      have HRZ : Hid (FivB (((((w6.setCell ⟨w.heap.size + 1, 0, none⟩ (.int .i64 u.op)).setCell ⟨w.heap.size + 1, 1, none⟩ (.string u.atom.name)).setCell ⟨w.heap.size + 1, 2, none⟩ (.slice qa u.atom.args.length qc)).setCell ⟨w.heap.size + 1, 3, none⟩ (.string u.var)).setCell ⟨w.heap.size + 1, 4, none⟩ (.slice qp u.parts.length qd)) (w.heap.size + 1) (.int .i64 u.op) (.string u.atom.name) (.slice qa u.atom.args.length qc) (.string u.var) (.slice qp u.parts.length qd)) := Lib.hid (((((HR9.out.set0 _).set1 _).set2 _).set3 _).set4 _)
      clear r0 r1 r2 r3 r4 r5
      obtain ⟨r0, r1, r2, r3, r4, r5⟩ := HRZ.out
      refine bodyPost_ret (v := .tuple #[.agg #[.int .i64 u.op, .string u.atom.name, .slice qa u.atom.args.length qc, .string u.var, .slice qp u.parts.length qd], .bool true]) (by simp [results, Try.results44, go_sem, r0, r1, r2, r3, r4]) rfl ⟨_, _, by rw [HU.out, HB.out], ?_, ?_⟩
      · rw [HU.out]
        have hn : ¬ Fresh w3 w4 (w.heap.size + 1) := fun h => by have := h.1; omega
        exact (((((HO9.out.setCell hn _).setCell hn _).setCell hn _).setCell hn _).setCell hn _).mono fun q hq => ⟨by have := hq.1; omega, by simp only [size_setCell]; have := hq.2; omega⟩
      · exact ((((HB9.out.setCell (by simp) _).setCell (by simp) _).setCell (by simp) _).setCell (by simp) _).setCell (by simp) _

set_option maxRecDepth 100000 in
set_option maxHeartbeats 8000000 in
theorem implNn_any (t : Fm) (w : World) (va vp : Value) (hv : FmV w va vp t) (hw : t.wt ≤ 1048576) :
    Calls Try.prog 45 #[.agg #[.int .i64 t.op, .string t.atom.name, va, .string t.var, vp]] w (NnEnd t w) := by
  obtain ⟨pa, ca, pp, cp, rfl, rfl⟩ := hv.open
  have HV := Lib.hid hv
  have HW := Lib.hid hw
  obtain ⟨WA, hWA⟩ : ∃ W, W = (w.alloc (.cells #[.int .i64 t.op, .string t.atom.name, .slice pa t.atom.args.length ca, .string t.var, .slice pp t.parts.length cp] 68)).alloc (.cells #[.int .i64 0, .string ⟨#[]⟩, .slice none 0 0, .string ⟨#[]⟩, .slice none 0 0] 68) := ⟨_, rfl⟩
  have HFA : Hid (FivB WA w.heap.size (.int .i64 t.op) (.string t.atom.name) (.slice pa t.atom.args.length ca) (.string t.var) (.slice pp t.parts.length cp)) := Lib.hid (by rw [hWA]; exact (fivB_new w (.int .i64 t.op) (.string t.atom.name) (.slice pa t.atom.args.length ca) (.string t.var) (.slice pp t.parts.length cp) 68 _ rfl).alloc _)
  have HRA : Hid (FivB WA (w.heap.size + 1) (.int .i64 0) (.string ⟨#[]⟩) (.slice none 0 0) (.string ⟨#[]⟩) (.slice none 0 0)) := Lib.hid (by rw [hWA]; exact fivB_new _ (.int .i64 0) (.string ⟨#[]⟩) (.slice none 0 0) (.string ⟨#[]⟩) (.slice none 0 0) 68 _ (by simp))
  have HBA : Hid (Below w.heap.size w WA) := Lib.hid (by rw [hWA]; exact ((Below.refl _ _).alloc (Nat.le_refl _) _).alloc (by simp) _)
  have HSA : Hid (WA.heap.size = w.heap.size + 1 + 1) := Lib.hid (by rw [hWA]; simp)
  have CG := Lib.hid (implVF_any t WA _ _ (hv.kept HBA.out) hw)
  obtain ⟨d0, d1, d2, d3, d4, d5⟩ := HFA.out
  rw [hWA] at d0 d1 d2 d3 d4 d5
  clear hv hw
  cases hg : fgoodB t with
  | false =>
    have HU : Hid (nnA t = zeroF) := Lib.hid (nnA_no hg)
    have HB : Hid (nnB t = false) := Lib.hid (nnB_no hg)
    rw [hg] at CG
    clear hg
    go_enter Try.func45, Try.ntmps45
    go_wp2_with fail
    rw [← hWA]
    clear hWA d0 d1 d2 d3 d4 d5
    refine CG.out.mono ?_
    rintro e w9 ⟨rfl, hb⟩
    have HR9 := Lib.hid (HRA.out.kept hb)
    have HB9 := Lib.hid (carry_below HBA.out (Nat.le_refl _) hb)
    clear hb CG
    obtain ⟨r0, r1, r2, r3, r4, r5⟩ := HR9.out
    have hrl : w.heap.size + 1 < w9.heap.size := World.block_lt_of_cell? _ ⟨w.heap.size + 1, 0, none⟩ r0
    go_wp2
    have HRZ : Hid (FivB (((((w9.setCell ⟨w.heap.size + 1, 0, none⟩ (.int .i64 0)).setCell ⟨w.heap.size + 1, 1, none⟩ (.string ⟨#[]⟩)).setCell ⟨w.heap.size + 1, 2, none⟩ (.slice none 0 0)).setCell ⟨w.heap.size + 1, 3, none⟩ (.string ⟨#[]⟩)).setCell ⟨w.heap.size + 1, 4, none⟩ (.slice none 0 0)) (w.heap.size + 1) (.int .i64 0) (.string ⟨#[]⟩) (.slice none 0 0) (.string ⟨#[]⟩) (.slice none 0 0)) := Lib.hid (((((HR9.out.set0 _).set1 _).set2 _).set3 _).set4 _)
    clear r0 r1 r2 r3 r4 r5
    obtain ⟨r0, r1, r2, r3, r4, r5⟩ := HRZ.out
    refine bodyPost_ret (v := .tuple #[.agg #[.int .i64 0, .string ⟨#[]⟩, .slice none 0 0, .string ⟨#[]⟩, .slice none 0 0], .bool false]) (by simp [results, Try.results45, go_sem, r0, r1, r2, r3, r4]) rfl ⟨.slice none 0 0, .slice none 0 0, by rw [HU.out, HB.out]; rfl, ?_, ?_⟩
    · rw [HU.out]; exact ⟨fun _ => False, fun _ => False, .emp _ _ _, .emp _ _ _, fun _ h => h.elim, fun _ h => h.elim, fun _ h => h.elim⟩
    · exact ((((HB9.out.setCell (by simp) _).setCell (by simp) _).setCell (by simp) _).setCell (by simp) _).setCell (by simp) _
  | true =>
    have HG := Lib.hid hg
    have HFM := Lib.hid (fgood_open hg).2
    have HSM := Lib.hid (nnf_small hg)
    rw [hg] at CG
    clear hg
    go_enter Try.func45, Try.ntmps45
    go_wp2_with fail
    rw [← hWA]
    clear hWA d0 d1 d2 d3 d4 d5
    refine CG.out.mono ?_
    rintro e w3 ⟨rfl, hb⟩
    have HF3 := Lib.hid (HFA.out.kept hb)
    have HR3 := Lib.hid (HRA.out.kept hb)
    have HB3 := Lib.hid (carry_below HBA.out (Nat.le_refl _) hb)
    have hz3 : w.heap.size + 1 + 1 ≤ w3.heap.size := by have := hb.size; have := HSA.out; omega
    clear hb CG
    obtain ⟨d0, d1, d2, d3, d4, d5⟩ := HF3.out
    have C1 : Hid (Calls Try.prog 105 #[.agg #[.int .i64 t.op, .string t.atom.name, .slice pa t.atom.args.length ca, .string t.var, .slice pp t.parts.length cp], .bool false] w3 (ToFmEnd (t.nnf false) w3)) := Lib.hid (pushNeg_any t w3 _ _ false (HV.out.kept HB3.out) HFM.out HW.out)
    obtain ⟨u, hu⟩ : ∃ u, u = t.nnf false := ⟨_, rfl⟩
    rw [← hu] at C1 HSM
    have HUU := Lib.hid hu
    clear hu
    go_wp2_with fail
    refine C1.out.mono ?_
    rintro e w4 ⟨va4, vp4, rfl, ho, hb⟩
    obtain ⟨qa, qc, qp, qd, rfl, rfl⟩ := ho.read.open
    have HO4 := Lib.hid ho
    have HR4 := Lib.hid (HR3.out.kept hb)
    have HB4 := Lib.hid (carry_below HB3.out (Nat.le_refl _) hb)
    have hz4 := hb.size
    clear ho hb C1 d0 d1 d2 d3 d4 d5
    obtain ⟨g2, hg2⟩ : ∃ b, b = fgoodB u := ⟨_, rfl⟩
    have HG2 := Lib.hid hg2
    clear hg2
    cases g2 with
    | false =>
      have CH := Lib.hid (validOr_no HG2.out.symm HO4.out.read (by have := HSM.out; omega))
      have HU : Hid (nnA t = zeroF) := Lib.hid (nnA_no2 (by rw [← HUU.out]; exact HG2.out.symm))
      have HB : Hid (nnB t = false) := Lib.hid (nnB_no2 (by rw [← HUU.out]; exact HG2.out.symm))
      go_wp2_with fail
      refine CH.out.mono ?_
      rintro e w6 ⟨rfl, hb⟩
      have HR9 := Lib.hid (HR4.out.kept hb)
      have HB9 := Lib.hid (carry_below HB4.out (Nat.le_refl _) hb)
      clear hb CH
      obtain ⟨r0, r1, r2, r3, r4, r5⟩ := HR9.out
      have hrl : w.heap.size + 1 < w6.heap.size := World.block_lt_of_cell? _ ⟨w.heap.size + 1, 0, none⟩ r0
      go_wp2
      have HRZ : Hid (FivB (((((w6.setCell ⟨w.heap.size + 1, 0, none⟩ (.int .i64 0)).setCell ⟨w.heap.size + 1, 1, none⟩ (.string ⟨#[]⟩)).setCell ⟨w.heap.size + 1, 2, none⟩ (.slice none 0 0)).setCell ⟨w.heap.size + 1, 3, none⟩ (.string ⟨#[]⟩)).setCell ⟨w.heap.size + 1, 4, none⟩ (.slice none 0 0)) (w.heap.size + 1) (.int .i64 0) (.string ⟨#[]⟩) (.slice none 0 0) (.string ⟨#[]⟩) (.slice none 0 0)) := Lib.hid (((((HR9.out.set0 _).set1 _).set2 _).set3 _).set4 _)
      clear r0 r1 r2 r3 r4 r5
      obtain ⟨r0, r1, r2, r3, r4, r5⟩ := HRZ.out
      refine bodyPost_ret (v := .tuple #[.agg #[.int .i64 0, .string ⟨#[]⟩, .slice none 0 0, .string ⟨#[]⟩, .slice none 0 0], .bool false]) (by simp [results, Try.results45, go_sem, r0, r1, r2, r3, r4]) rfl ⟨.slice none 0 0, .slice none 0 0, by rw [HU.out, HB.out]; rfl, ?_, ?_⟩
      · rw [HU.out]; exact ⟨fun _ => False, fun _ => False, .emp _ _ _, .emp _ _ _, fun _ h => h.elim, fun _ h => h.elim, fun _ h => h.elim⟩
      · exact ((((HB9.out.setCell (by simp) _).setCell (by simp) _).setCell (by simp) _).setCell (by simp) _).setCell (by simp) _
    | true =>
      have CH := Lib.hid (validOr_yes HG2.out.symm HO4.out.read (by have := HSM.out; omega))
      have HU : Hid (nnA t = u) := Lib.hid (by rw [HUU.out]; exact nnA_yes HG.out (by rw [← HUU.out]; exact HG2.out.symm))
      have HB : Hid (nnB t = true) := Lib.hid (nnB_yes HG.out (by rw [← HUU.out]; exact HG2.out.symm))
      go_wp2_with fail
      refine CH.out.mono ?_
      rintro e w6 ⟨rfl, hb⟩
      have HR9 := Lib.hid (HR4.out.kept hb)
      have HB9 := Lib.hid (carry_below HB4.out (Nat.le_refl _) hb)
      have HO9 := Lib.hid (HO4.out.kept hb)
      have hz6 := hb.size
      clear hb CH
      obtain ⟨r0, r1, r2, r3, r4, r5⟩ := HR9.out
      have hrl : w.heap.size + 1 < w6.heap.size := World.block_lt_of_cell? _ ⟨w.heap.size + 1, 0, none⟩ r0
      go_wp2
      have HRZ : Hid (FivB (((((w6.setCell ⟨w.heap.size + 1, 0, none⟩ (.int .i64 u.op)).setCell ⟨w.heap.size + 1, 1, none⟩ (.string u.atom.name)).setCell ⟨w.heap.size + 1, 2, none⟩ (.slice qa u.atom.args.length qc)).setCell ⟨w.heap.size + 1, 3, none⟩ (.string u.var)).setCell ⟨w.heap.size + 1, 4, none⟩ (.slice qp u.parts.length qd)) (w.heap.size + 1) (.int .i64 u.op) (.string u.atom.name) (.slice qa u.atom.args.length qc) (.string u.var) (.slice qp u.parts.length qd)) := Lib.hid (((((HR9.out.set0 _).set1 _).set2 _).set3 _).set4 _)
      clear r0 r1 r2 r3 r4 r5
      obtain ⟨r0, r1, r2, r3, r4, r5⟩ := HRZ.out
      refine bodyPost_ret (v := .tuple #[.agg #[.int .i64 u.op, .string u.atom.name, .slice qa u.atom.args.length qc, .string u.var, .slice qp u.parts.length qd], .bool true]) (by simp [results, Try.results45, go_sem, r0, r1, r2, r3, r4]) rfl ⟨_, _, by rw [HU.out, HB.out], ?_, ?_⟩
      · rw [HU.out]
        have hn : ¬ Fresh w3 w4 (w.heap.size + 1) := fun h => by have := h.1; omega
        exact (((((HO9.out.setCell hn _).setCell hn _).setCell hn _).setCell hn _).setCell hn _).mono fun q hq => ⟨by have := hq.1; omega, by simp only [size_setCell]; have := hq.2; omega⟩
      · exact ((((HB9.out.setCell (by simp) _).setCell (by simp) _).setCell (by simp) _).setCell (by simp) _).setCell (by simp) _

end Go.Proofs.Ytppmiedhoimgmaa
