/- The negation normal form, the model's: a contract, for formulas of at most 1048576 names' bytes, parts and arguments all of whose forms are valid. -/
import Derived.Test.YtppmiedhoimgmaaNnP
import Derived.Test.YtppmiedhoimgmaaOwF
import Derived.Test.YtppmiedhoimgmaaInS
namespace Go.Proofs.Ytppmiedhoimgmaa
open Go.RowKit
set_option linter.unusedVariables false
set_option linter.unusedSimpArgs false

def NnT (t : Fm) : Prop := ∀ (w : World) (va vp : Value) (p : Bool), FmV w va vp t → t.formsB = true → t.wt ≤ 1048576 →
  Calls Try.prog 103 #[.agg #[.int .i64 t.op, .string t.atom.name, va, .string t.var, vp], .bool p] w (ToFmEnd (t.nnf (!p)) w)

set_option maxRecDepth 100000 in
set_option maxHeartbeats 8000000 in
theorem nn_1 (t : Fm) (h : ∀ s ∈ t.parts, NnT s) (ho : t.op = 1) (w : World) (va vp : Value) (p : Bool) (hv : FmV w va vp t) (hf : t.formsB = true) (hw : t.wt ≤ 1048576) :
    Calls Try.prog 103 #[.agg #[.int .i64 t.op, .string t.atom.name, va, .string t.var, vp], .bool p] w (ToFmEnd (t.nnf (!p)) w) := by
  have H := Lib.hid h
  have HW := Lib.hid hw
  have HFP := Lib.hid (forms_parts hf).2
  have HFM := Lib.hid (forms_parts hf).1
  have hlen : t.parts.length ≤ 1048576 := Nat.le_trans t.wt_len hw
  obtain ⟨pa, ca, pp, cp, rfl, rfl⟩ := hv.open
  have HV := Lib.hid hv
  obtain ⟨WA, hWA⟩ : ∃ W, W = (w.alloc (.cells #[.int .i64 t.op, .string t.atom.name, .slice pa t.atom.args.length ca, .string t.var, .slice pp t.parts.length cp] 68)).alloc (.cells #[.int .i64 0, .string ⟨#[]⟩, .slice none 0 0, .string ⟨#[]⟩, .slice none 0 0] 68) := ⟨_, rfl⟩
  have HFA : Hid (FivB WA w.heap.size (.int .i64 t.op) (.string t.atom.name) (.slice pa t.atom.args.length ca) (.string t.var) (.slice pp t.parts.length cp)) := Lib.hid (by rw [hWA]; exact (fivB_new w (.int .i64 t.op) (.string t.atom.name) (.slice pa t.atom.args.length ca) (.string t.var) (.slice pp t.parts.length cp) 68 _ rfl).alloc _)
  have HRA : Hid (FivB WA (w.heap.size + 1) (.int .i64 0) (.string ⟨#[]⟩) (.slice none 0 0) (.string ⟨#[]⟩) (.slice none 0 0)) := Lib.hid (by rw [hWA]; exact fivB_new _ (.int .i64 0) (.string ⟨#[]⟩) (.slice none 0 0) (.string ⟨#[]⟩) (.slice none 0 0) 68 _ (by simp))
  have HBA : Hid (Below w.heap.size w WA) := Lib.hid (by rw [hWA]; exact ((Below.refl _ _).alloc (Nat.le_refl _) _).alloc (by simp) _)
  have HSA : Hid (WA.heap.size = w.heap.size + 1 + 1) := Lib.hid (by rw [hWA]; simp)
  clear hv hw h hf
  cases p with
  | true =>
    have HU : Hid (t.nnf (!true) = .node 1 zT ⟨#[]⟩ []) := Lib.hid (word_nnf (form12 HFM.out (.inl ho)) ho rfl)
    have o1 := op_is ho
    have o2 := op_not (show t.op ≠ 2 by omega)
    have o3 := op_not (show t.op ≠ 3 by omega)
    have o4 := op_not (show t.op ≠ 4 by omega)
    have o5 := op_not (show t.op ≠ 5 by omega)
    have o6 := op_not (show t.op ≠ 6 by omega)
    have o7 := op_not (show t.op ≠ 7 by omega)
    obtain ⟨d0, d1, d2, d3, d4, d5⟩ := HFA.out
    rw [hWA] at d0 d1 d2 d3 d4 d5
    clear ho HFM HFP H
    go_enter Try.func103, Try.ntmps103
    go_wp2
    obtain ⟨W7, hW7⟩ : ∃ W7, W7 = (w.alloc (.cells #[.int .i64 t.op, .string t.atom.name, .slice pa t.atom.args.length ca, .string t.var, .slice pp t.parts.length cp] 68)).alloc (.cells #[.int .i64 1, .string ⟨#[]⟩, .slice none 0 0, .string ⟨#[]⟩, .slice none 0 0] 68) := ⟨_, rfl⟩
    rw [← hW7]
    have HB7 : Hid (Below w.heap.size w W7) := Lib.hid (by rw [hW7]; exact ((Below.refl _ _).alloc (Nat.le_refl _) _).alloc (by simp) _)
    have HR7 : Hid (FivB W7 (w.heap.size + 1) (.int .i64 1) (.string ⟨#[]⟩) (.slice none 0 0) (.string ⟨#[]⟩) (.slice none 0 0)) := Lib.hid (by rw [hW7]; exact fivB_new _ _ _ _ _ _ _ _ (by simp))
    clear hW7
    obtain ⟨r0, r1, r2, r3, r4, r5⟩ := HR7.out
    refine bodyPost_ret (v := .agg #[.int .i64 1, .string ⟨#[]⟩, .slice none 0 0, .string ⟨#[]⟩, .slice none 0 0]) (by simp [results, Try.results103, go_sem, r0, r1, r2, r3, r4]) rfl ⟨.slice none 0 0, .slice none 0 0, by rw [HU.out]; rfl, ?_, HB7.out⟩
    rw [HU.out]
    exact ⟨fun _ => False, fun _ => False, .emp _ _ _, .emp _ _ _, fun _ h => h.elim, fun _ h => h.elim, fun _ h => h.elim⟩

  | false =>
    have HU : Hid (t.nnf (!false) = .node 2 zT ⟨#[]⟩ []) := Lib.hid (word_nnf (form12 HFM.out (.inl ho)) ho rfl)
    have o1 := op_is ho
    have o2 := op_not (show t.op ≠ 2 by omega)
    have o3 := op_not (show t.op ≠ 3 by omega)
    have o4 := op_not (show t.op ≠ 4 by omega)
    have o5 := op_not (show t.op ≠ 5 by omega)
    have o6 := op_not (show t.op ≠ 6 by omega)
    have o7 := op_not (show t.op ≠ 7 by omega)
    obtain ⟨d0, d1, d2, d3, d4, d5⟩ := HFA.out
    rw [hWA] at d0 d1 d2 d3 d4 d5
    clear ho HFM HFP H
    go_enter Try.func103, Try.ntmps103
    go_wp2
    obtain ⟨W7, hW7⟩ : ∃ W7, W7 = (w.alloc (.cells #[.int .i64 t.op, .string t.atom.name, .slice pa t.atom.args.length ca, .string t.var, .slice pp t.parts.length cp] 68)).alloc (.cells #[.int .i64 2, .string ⟨#[]⟩, .slice none 0 0, .string ⟨#[]⟩, .slice none 0 0] 68) := ⟨_, rfl⟩
    rw [← hW7]
    have HB7 : Hid (Below w.heap.size w W7) := Lib.hid (by rw [hW7]; exact ((Below.refl _ _).alloc (Nat.le_refl _) _).alloc (by simp) _)
    have HR7 : Hid (FivB W7 (w.heap.size + 1) (.int .i64 2) (.string ⟨#[]⟩) (.slice none 0 0) (.string ⟨#[]⟩) (.slice none 0 0)) := Lib.hid (by rw [hW7]; exact fivB_new _ _ _ _ _ _ _ _ (by simp))
    clear hW7
    obtain ⟨r0, r1, r2, r3, r4, r5⟩ := HR7.out
    refine bodyPost_ret (v := .agg #[.int .i64 2, .string ⟨#[]⟩, .slice none 0 0, .string ⟨#[]⟩, .slice none 0 0]) (by simp [results, Try.results103, go_sem, r0, r1, r2, r3, r4]) rfl ⟨.slice none 0 0, .slice none 0 0, by rw [HU.out]; rfl, ?_, HB7.out⟩
    rw [HU.out]
    exact ⟨fun _ => False, fun _ => False, .emp _ _ _, .emp _ _ _, fun _ h => h.elim, fun _ h => h.elim, fun _ h => h.elim⟩

set_option maxRecDepth 100000 in
set_option maxHeartbeats 8000000 in
theorem nn_2 (t : Fm) (h : ∀ s ∈ t.parts, NnT s) (ho : t.op = 2) (w : World) (va vp : Value) (p : Bool) (hv : FmV w va vp t) (hf : t.formsB = true) (hw : t.wt ≤ 1048576) :
    Calls Try.prog 103 #[.agg #[.int .i64 t.op, .string t.atom.name, va, .string t.var, vp], .bool p] w (ToFmEnd (t.nnf (!p)) w) := by
  have H := Lib.hid h
  have HW := Lib.hid hw
  have HFP := Lib.hid (forms_parts hf).2
  have HFM := Lib.hid (forms_parts hf).1
  have hlen : t.parts.length ≤ 1048576 := Nat.le_trans t.wt_len hw
  obtain ⟨pa, ca, pp, cp, rfl, rfl⟩ := hv.open
  have HV := Lib.hid hv
  obtain ⟨WA, hWA⟩ : ∃ W, W = (w.alloc (.cells #[.int .i64 t.op, .string t.atom.name, .slice pa t.atom.args.length ca, .string t.var, .slice pp t.parts.length cp] 68)).alloc (.cells #[.int .i64 0, .string ⟨#[]⟩, .slice none 0 0, .string ⟨#[]⟩, .slice none 0 0] 68) := ⟨_, rfl⟩
  have HFA : Hid (FivB WA w.heap.size (.int .i64 t.op) (.string t.atom.name) (.slice pa t.atom.args.length ca) (.string t.var) (.slice pp t.parts.length cp)) := Lib.hid (by rw [hWA]; exact (fivB_new w (.int .i64 t.op) (.string t.atom.name) (.slice pa t.atom.args.length ca) (.string t.var) (.slice pp t.parts.length cp) 68 _ rfl).alloc _)
  have HRA : Hid (FivB WA (w.heap.size + 1) (.int .i64 0) (.string ⟨#[]⟩) (.slice none 0 0) (.string ⟨#[]⟩) (.slice none 0 0)) := Lib.hid (by rw [hWA]; exact fivB_new _ (.int .i64 0) (.string ⟨#[]⟩) (.slice none 0 0) (.string ⟨#[]⟩) (.slice none 0 0) 68 _ (by simp))
  have HBA : Hid (Below w.heap.size w WA) := Lib.hid (by rw [hWA]; exact ((Below.refl _ _).alloc (Nat.le_refl _) _).alloc (by simp) _)
  have HSA : Hid (WA.heap.size = w.heap.size + 1 + 1) := Lib.hid (by rw [hWA]; simp)
  clear hv hw h hf
  cases p with
  | true =>
    have HU : Hid (t.nnf (!true) = .node 2 zT ⟨#[]⟩ []) := Lib.hid (word_nnf (form12 HFM.out (.inr ho)) ho rfl)
    have o1 := op_not (show t.op ≠ 1 by omega)
    have o2 := op_is ho
    have o3 := op_not (show t.op ≠ 3 by omega)
    have o4 := op_not (show t.op ≠ 4 by omega)
    have o5 := op_not (show t.op ≠ 5 by omega)
    have o6 := op_not (show t.op ≠ 6 by omega)
    have o7 := op_not (show t.op ≠ 7 by omega)
    obtain ⟨d0, d1, d2, d3, d4, d5⟩ := HFA.out
    rw [hWA] at d0 d1 d2 d3 d4 d5
    clear ho HFM HFP H
    go_enter Try.func103, Try.ntmps103
    go_wp2
    obtain ⟨W7, hW7⟩ : ∃ W7, W7 = (w.alloc (.cells #[.int .i64 t.op, .string t.atom.name, .slice pa t.atom.args.length ca, .string t.var, .slice pp t.parts.length cp] 68)).alloc (.cells #[.int .i64 2, .string ⟨#[]⟩, .slice none 0 0, .string ⟨#[]⟩, .slice none 0 0] 68) := ⟨_, rfl⟩
    rw [← hW7]
    have HB7 : Hid (Below w.heap.size w W7) := Lib.hid (by rw [hW7]; exact ((Below.refl _ _).alloc (Nat.le_refl _) _).alloc (by simp) _)
    have HR7 : Hid (FivB W7 (w.heap.size + 1) (.int .i64 2) (.string ⟨#[]⟩) (.slice none 0 0) (.string ⟨#[]⟩) (.slice none 0 0)) := Lib.hid (by rw [hW7]; exact fivB_new _ _ _ _ _ _ _ _ (by simp))
    clear hW7
    obtain ⟨r0, r1, r2, r3, r4, r5⟩ := HR7.out
    refine bodyPost_ret (v := .agg #[.int .i64 2, .string ⟨#[]⟩, .slice none 0 0, .string ⟨#[]⟩, .slice none 0 0]) (by simp [results, Try.results103, go_sem, r0, r1, r2, r3, r4]) rfl ⟨.slice none 0 0, .slice none 0 0, by rw [HU.out]; rfl, ?_, HB7.out⟩
    rw [HU.out]
    exact ⟨fun _ => False, fun _ => False, .emp _ _ _, .emp _ _ _, fun _ h => h.elim, fun _ h => h.elim, fun _ h => h.elim⟩

  | false =>
    have HU : Hid (t.nnf (!false) = .node 1 zT ⟨#[]⟩ []) := Lib.hid (word_nnf (form12 HFM.out (.inr ho)) ho rfl)
    have o1 := op_not (show t.op ≠ 1 by omega)
    have o2 := op_is ho
    have o3 := op_not (show t.op ≠ 3 by omega)
    have o4 := op_not (show t.op ≠ 4 by omega)
    have o5 := op_not (show t.op ≠ 5 by omega)
    have o6 := op_not (show t.op ≠ 6 by omega)
    have o7 := op_not (show t.op ≠ 7 by omega)
    obtain ⟨d0, d1, d2, d3, d4, d5⟩ := HFA.out
    rw [hWA] at d0 d1 d2 d3 d4 d5
    clear ho HFM HFP H
    go_enter Try.func103, Try.ntmps103
    go_wp2
    obtain ⟨W7, hW7⟩ : ∃ W7, W7 = (w.alloc (.cells #[.int .i64 t.op, .string t.atom.name, .slice pa t.atom.args.length ca, .string t.var, .slice pp t.parts.length cp] 68)).alloc (.cells #[.int .i64 1, .string ⟨#[]⟩, .slice none 0 0, .string ⟨#[]⟩, .slice none 0 0] 68) := ⟨_, rfl⟩
    rw [← hW7]
    have HB7 : Hid (Below w.heap.size w W7) := Lib.hid (by rw [hW7]; exact ((Below.refl _ _).alloc (Nat.le_refl _) _).alloc (by simp) _)
    have HR7 : Hid (FivB W7 (w.heap.size + 1) (.int .i64 1) (.string ⟨#[]⟩) (.slice none 0 0) (.string ⟨#[]⟩) (.slice none 0 0)) := Lib.hid (by rw [hW7]; exact fivB_new _ _ _ _ _ _ _ _ (by simp))
    clear hW7
    obtain ⟨r0, r1, r2, r3, r4, r5⟩ := HR7.out
    refine bodyPost_ret (v := .agg #[.int .i64 1, .string ⟨#[]⟩, .slice none 0 0, .string ⟨#[]⟩, .slice none 0 0]) (by simp [results, Try.results103, go_sem, r0, r1, r2, r3, r4]) rfl ⟨.slice none 0 0, .slice none 0 0, by rw [HU.out]; rfl, ?_, HB7.out⟩
    rw [HU.out]
    exact ⟨fun _ => False, fun _ => False, .emp _ _ _, .emp _ _ _, fun _ h => h.elim, fun _ h => h.elim, fun _ h => h.elim⟩

set_option maxRecDepth 100000 in
set_option maxHeartbeats 8000000 in
theorem nn_3 (t : Fm) (h : ∀ s ∈ t.parts, NnT s) (ho : t.op = 3) (w : World) (va vp : Value) (p : Bool) (hv : FmV w va vp t) (hf : t.formsB = true) (hw : t.wt ≤ 1048576) :
    Calls Try.prog 103 #[.agg #[.int .i64 t.op, .string t.atom.name, va, .string t.var, vp], .bool p] w (ToFmEnd (t.nnf (!p)) w) := by
  have H := Lib.hid h
  have HW := Lib.hid hw
  have HFP := Lib.hid (forms_parts hf).2
  have HFM := Lib.hid (forms_parts hf).1
  have hlen : t.parts.length ≤ 1048576 := Nat.le_trans t.wt_len hw
  obtain ⟨pa, ca, pp, cp, rfl, rfl⟩ := hv.open
  have HV := Lib.hid hv
  obtain ⟨WA, hWA⟩ : ∃ W, W = (w.alloc (.cells #[.int .i64 t.op, .string t.atom.name, .slice pa t.atom.args.length ca, .string t.var, .slice pp t.parts.length cp] 68)).alloc (.cells #[.int .i64 0, .string ⟨#[]⟩, .slice none 0 0, .string ⟨#[]⟩, .slice none 0 0] 68) := ⟨_, rfl⟩
  have HFA : Hid (FivB WA w.heap.size (.int .i64 t.op) (.string t.atom.name) (.slice pa t.atom.args.length ca) (.string t.var) (.slice pp t.parts.length cp)) := Lib.hid (by rw [hWA]; exact (fivB_new w (.int .i64 t.op) (.string t.atom.name) (.slice pa t.atom.args.length ca) (.string t.var) (.slice pp t.parts.length cp) 68 _ rfl).alloc _)
  have HRA : Hid (FivB WA (w.heap.size + 1) (.int .i64 0) (.string ⟨#[]⟩) (.slice none 0 0) (.string ⟨#[]⟩) (.slice none 0 0)) := Lib.hid (by rw [hWA]; exact fivB_new _ (.int .i64 0) (.string ⟨#[]⟩) (.slice none 0 0) (.string ⟨#[]⟩) (.slice none 0 0) 68 _ (by simp))
  have HBA : Hid (Below w.heap.size w WA) := Lib.hid (by rw [hWA]; exact ((Below.refl _ _).alloc (Nat.le_refl _) _).alloc (by simp) _)
  have HSA : Hid (WA.heap.size = w.heap.size + 1 + 1) := Lib.hid (by rw [hWA]; simp)
  clear hv hw h hf
  cases p with
  | true =>
    have HU : Hid (t.nnf (!true) = litG true t.atom) := Lib.hid (nnf_at ho)
    have HT : Hid (t = atG t.atom) := Lib.hid (form3_eq HFM.out ho)
    have C0 := Lib.hid (own8_any t WA _ _ (HV.out.kept HBA.out) HW.out)
    have o1 := op_not (show t.op ≠ 1 by omega)
    have o2 := op_not (show t.op ≠ 2 by omega)
    have o3 := op_is ho
    have o4 := op_not (show t.op ≠ 4 by omega)
    have o5 := op_not (show t.op ≠ 5 by omega)
    have o6 := op_not (show t.op ≠ 6 by omega)
    have o7 := op_not (show t.op ≠ 7 by omega)
    obtain ⟨d0, d1, d2, d3, d4, d5⟩ := HFA.out
    rw [hWA] at d0 d1 d2 d3 d4 d5
    clear ho HFM HFP H
    go_enter Try.func103, Try.ntmps103
    go_wp2_with fail
    rw [← hWA]
    clear hWA d0 d1 d2 d3 d4 d5
    refine C0.out.mono ?_
    rintro e w9 ⟨va9, vp9, rfl, ho, hb⟩
    obtain ⟨u, hu⟩ : ∃ u, u = t := ⟨_, rfl⟩
    have HU2 : Hid (t.nnf (!true) = u) := Lib.hid (by rw [HU.out, hu]; exact HT.out.symm)
    clear HU
    have HU := HU2
    rw [← hu] at ho
    rw [show t.op = u.op by rw [hu], show t.atom.name = u.atom.name by rw [hu], show t.var = u.var by rw [hu]]
    obtain ⟨qa, qc, qp, qd, rfl, rfl⟩ := ho.read.open
    have HO := Lib.hid ho
    have HB9 := Lib.hid (carry_below HBA.out (Nat.le_refl _) hb)
    have HRS := Lib.hid (HRA.out.kept hb)
    have hb9 := hb.size
    have HSB : Hid (∀ q, Fresh WA w9 q → w.heap.size ≤ q ∧ q < w9.heap.size) := Lib.hid (fun q hq => by have := HSA.out; have h1 := hq.1; have h2 := hq.2; exact ⟨by omega, by omega⟩)
    have HN1 : Hid (¬ Fresh WA w9 (w.heap.size + 1)) := Lib.hid (fun hq => by have := HSA.out; have h1 := hq.1; omega)
    clear hb ho hu C0 HT HU2
    obtain ⟨r0, r1, r2, r3, r4, r5⟩ := HRS.out
    go_wp2
    have HR9 : Hid (FivB (((((w9.setCell ⟨w.heap.size + 1, 0, none⟩ (.int .i64 u.op)).setCell ⟨w.heap.size + 1, 1, none⟩ (.string u.atom.name)).setCell ⟨w.heap.size + 1, 2, none⟩ (.slice qa u.atom.args.length qc)).setCell ⟨w.heap.size + 1, 3, none⟩ (.string u.var)).setCell ⟨w.heap.size + 1, 4, none⟩ (.slice qp u.parts.length qd)) (w.heap.size + 1) (.int .i64 u.op) (.string u.atom.name) (.slice qa u.atom.args.length qc) (.string u.var) (.slice qp u.parts.length qd)) := Lib.hid (((((HRS.out.set0 _).set1 _).set2 _).set3 _).set4 _)
    clear r0 r1 r2 r3 r4 r5
    obtain ⟨r0, r1, r2, r3, r4, r5⟩ := HR9.out
    refine bodyPost_ret (v := .agg #[.int .i64 u.op, .string u.atom.name, .slice qa u.atom.args.length qc, .string u.var, .slice qp u.parts.length qd]) (by simp [results, Try.results103, go_sem, r0, r1, r2, r3, r4]) rfl ⟨_, _, by rw [HU.out], ?_, ?_⟩
    · rw [HU.out]
      exact (((((HO.out.setCell HN1.out _).setCell HN1.out _).setCell HN1.out _).setCell HN1.out _).setCell HN1.out _).mono fun q hq => ⟨(HSB.out q hq).1, by simp only [size_setCell]; exact (HSB.out q hq).2⟩
    · exact ((((HB9.out.setCell (by simp) _).setCell (by simp) _).setCell (by simp) _).setCell (by simp) _).setCell (by simp) _

  | false =>
    have HU : Hid (t.nnf (!false) = litG false t.atom) := Lib.hid (nnf_at ho)
    have HT : Hid (t = atG t.atom) := Lib.hid (form3_eq HFM.out ho)
    have C0 := Lib.hid (own8_any t WA _ _ (HV.out.kept HBA.out) HW.out)
    have o1 := op_not (show t.op ≠ 1 by omega)
    have o2 := op_not (show t.op ≠ 2 by omega)
    have o3 := op_is ho
    have o4 := op_not (show t.op ≠ 4 by omega)
    have o5 := op_not (show t.op ≠ 5 by omega)
    have o6 := op_not (show t.op ≠ 6 by omega)
    have o7 := op_not (show t.op ≠ 7 by omega)
    obtain ⟨d0, d1, d2, d3, d4, d5⟩ := HFA.out
    rw [hWA] at d0 d1 d2 d3 d4 d5
    clear ho HFM HFP H
    go_enter Try.func103, Try.ntmps103
    go_wp2_with fail
    rw [← hWA]
    clear hWA d0 d1 d2 d3 d4 d5
    refine C0.out.mono ?_
    rintro e w6 ⟨va6, vp6, rfl, ho, hb⟩
    have C1 := Lib.hid (not_any t (Fresh WA w6) w6 _ _ ho (fun q hq => hq.2))
    obtain ⟨qa, qc, qp, qd, rfl, rfl⟩ := ho.read.open
    have HB6 := Lib.hid (carry_below HBA.out (Nat.le_refl _) hb)
    have HR6 := Lib.hid (HRA.out.kept hb)
    have hb6 := hb.size
    clear hb ho C0
    go_wp2_with fail
    refine C1.out.mono ?_
    rintro e w9 ⟨vp9, rfl, ho, hb⟩
    obtain ⟨u, hu⟩ : ∃ u, u = Fm.node 4 zT ⟨#[]⟩ [t] := ⟨_, rfl⟩
    have HU2 : Hid (t.nnf (!false) = u) := Lib.hid (by rw [HU.out, hu]; show Fm.node 4 zT ⟨#[]⟩ [atG t.atom] = _; rw [← HT.out])
    clear HU
    have HU := HU2
    rw [← hu] at ho
    obtain ⟨pq, cq, rfl⟩ : ∃ p c, vp9 = .slice p u.parts.length c := ho.read.2.is_slice
    have HO := Lib.hid ho
    have HB9 := Lib.hid (carry_below HB6.out (Nat.le_refl _) hb)
    have HRS := Lib.hid (HR6.out.kept hb)
    have hb9 := hb.size
    have HSB : Hid (∀ q, (fun q => Fresh WA w6 q ∨ Fresh w6 w9 q) q → w.heap.size ≤ q ∧ q < w9.heap.size) := Lib.hid (fun q hq => by
      have := HSA.out
      rcases hq with hq | hq
      · have h1 := hq.1; have h2 := hq.2; exact ⟨by omega, by omega⟩
      · have h1 := hq.1; have h2 := hq.2; exact ⟨by omega, by omega⟩)
    have HN1 : Hid (¬ (fun q => Fresh WA w6 q ∨ Fresh w6 w9 q) (w.heap.size + 1)) := Lib.hid (fun hq => by
      have := HSA.out
      rcases hq with hq | hq
      · have h1 := hq.1; omega
      · have h1 := hq.1; omega)
    have HUP : Hid (u.op = 4 ∧ u.atom.name = ⟨#[]⟩ ∧ u.var = ⟨#[]⟩) := Lib.hid (by rw [hu]; exact ⟨rfl, rfl, rfl⟩)
    clear hb ho hu
    obtain ⟨r0, r1, r2, r3, r4, r5⟩ := HRS.out
    go_wp2
    have HR9 : Hid (FivB (((((w9.setCell ⟨w.heap.size + 1, 0, none⟩ (.int .i64 (4))).setCell ⟨w.heap.size + 1, 1, none⟩ (.string ⟨#[]⟩)).setCell ⟨w.heap.size + 1, 2, none⟩ (.slice none 0 0)).setCell ⟨w.heap.size + 1, 3, none⟩ (.string ⟨#[]⟩)).setCell ⟨w.heap.size + 1, 4, none⟩ (.slice pq u.parts.length cq)) (w.heap.size + 1) (.int .i64 (4)) (.string ⟨#[]⟩) (.slice none 0 0) (.string ⟨#[]⟩) (.slice pq u.parts.length cq)) := Lib.hid (((((HRS.out.set0 _).set1 _).set2 _).set3 _).set4 _)
    clear r0 r1 r2 r3 r4 r5
    obtain ⟨r0, r1, r2, r3, r4, r5⟩ := HR9.out
    refine bodyPost_ret (v := .agg #[.int .i64 (4), .string ⟨#[]⟩, .slice none 0 0, .string ⟨#[]⟩, .slice pq u.parts.length cq]) (by simp [results, Try.results103, go_sem, r0, r1, r2, r3, r4]) rfl ⟨.slice none 0 0, .slice pq u.parts.length cq, by first | rw [HU.out, HUP.out.1, HUP.out.2.1, HUP.out.2.2] | rw [show t.nnf false = u from HU.out, HUP.out.1, HUP.out.2.1, HUP.out.2.2] | rw [show t.nnf true = u from HU.out, HUP.out.1, HUP.out.2.1, HUP.out.2.2], ?_, ?_⟩
    · first | rw [HU.out] | rw [show t.nnf false = u from HU.out] | rw [show t.nnf true = u from HU.out]
      exact (((((HO.out.setCell HN1.out _).setCell HN1.out _).setCell HN1.out _).setCell HN1.out _).setCell HN1.out _).mono fun q hq => ⟨(HSB.out q hq).1, by simp only [size_setCell]; exact (HSB.out q hq).2⟩
    · exact ((((HB9.out.setCell (by simp) _).setCell (by simp) _).setCell (by simp) _).setCell (by simp) _).setCell (by simp) _

set_option maxRecDepth 100000 in
set_option maxHeartbeats 8000000 in
theorem nn_4 (t : Fm) (h : ∀ s ∈ t.parts, NnT s) (ho : t.op = 4) (w : World) (va vp : Value) (p : Bool) (hv : FmV w va vp t) (hf : t.formsB = true) (hw : t.wt ≤ 1048576) :
    Calls Try.prog 103 #[.agg #[.int .i64 t.op, .string t.atom.name, va, .string t.var, vp], .bool p] w (ToFmEnd (t.nnf (!p)) w) := by
  have H := Lib.hid h
  have HW := Lib.hid hw
  have HFP := Lib.hid (forms_parts hf).2
  have HFM := Lib.hid (forms_parts hf).1
  have hlen : t.parts.length ≤ 1048576 := Nat.le_trans t.wt_len hw
  obtain ⟨pa, ca, pp, cp, rfl, rfl⟩ := hv.open
  have HV := Lib.hid hv
  obtain ⟨WA, hWA⟩ : ∃ W, W = (w.alloc (.cells #[.int .i64 t.op, .string t.atom.name, .slice pa t.atom.args.length ca, .string t.var, .slice pp t.parts.length cp] 68)).alloc (.cells #[.int .i64 0, .string ⟨#[]⟩, .slice none 0 0, .string ⟨#[]⟩, .slice none 0 0] 68) := ⟨_, rfl⟩
  have HFA : Hid (FivB WA w.heap.size (.int .i64 t.op) (.string t.atom.name) (.slice pa t.atom.args.length ca) (.string t.var) (.slice pp t.parts.length cp)) := Lib.hid (by rw [hWA]; exact (fivB_new w (.int .i64 t.op) (.string t.atom.name) (.slice pa t.atom.args.length ca) (.string t.var) (.slice pp t.parts.length cp) 68 _ rfl).alloc _)
  have HRA : Hid (FivB WA (w.heap.size + 1) (.int .i64 0) (.string ⟨#[]⟩) (.slice none 0 0) (.string ⟨#[]⟩) (.slice none 0 0)) := Lib.hid (by rw [hWA]; exact fivB_new _ (.int .i64 0) (.string ⟨#[]⟩) (.slice none 0 0) (.string ⟨#[]⟩) (.slice none 0 0) 68 _ (by simp))
  have HBA : Hid (Below w.heap.size w WA) := Lib.hid (by rw [hWA]; exact ((Below.refl _ _).alloc (Nat.le_refl _) _).alloc (by simp) _)
  have HSA : Hid (WA.heap.size = w.heap.size + 1 + 1) := Lib.hid (by rw [hWA]; simp)
  clear hv hw h hf
  cases p with
  | true =>
    obtain ⟨s, hs⟩ := form4 HFM.out ho
    have HU0 : Hid (t.nnf (!true) = s.nnf (!false)) := Lib.hid (nnf_neg ho hs)
    have hl1 : 0 < t.parts.length := by rw [hs]; simp
    obtain ⟨b, off, e, va, vp, hc, hva, hvp⟩ := HV.out.2.get (k := 0) (t := s) (by rw [hs]; rfl)
    subst e
    have hsm : s ∈ t.parts := by rw [hs]; simp
    obtain ⟨c0, c1, c2, c3, c4⟩ : Fiv WA b off (.int .i64 s.op) (.string s.atom.name) va (.string s.var) vp := by simpa using hc.kept HBA.out
    have C0 := Lib.hid (H.out s hsm WA va vp false (FmV.kept (t := s) ⟨hva, hvp⟩ HBA.out) (HFP.out s hsm) (Nat.le_trans (Fm.wt_part hsm) HW.out))
    have o1 := op_not (show t.op ≠ 1 by omega)
    have o2 := op_not (show t.op ≠ 2 by omega)
    have o3 := op_not (show t.op ≠ 3 by omega)
    have o4 := op_is ho
    have o5 := op_not (show t.op ≠ 5 by omega)
    have o6 := op_not (show t.op ≠ 6 by omega)
    have o7 := op_not (show t.op ≠ 7 by omega)
    obtain ⟨d0, d1, d2, d3, d4, d5⟩ := HFA.out
    rw [hWA] at d0 d1 d2 d3 d4 d5
    rw [hWA] at c0 c1 c2 c3 c4
    clear ho hs hc hva hvp hsm HFM HFP H
    go_enter Try.func103, Try.ntmps103
    go_wp2_with fail
    rw [← hWA]
    clear hWA d0 d1 d2 d3 d4 d5 c0 c1 c2 c3 c4
    refine C0.out.mono ?_
    rintro e w9 ⟨va9, vp9, rfl, ho, hb⟩
    obtain ⟨u, hu⟩ : ∃ u, u = s.nnf (!false) := ⟨_, rfl⟩
    have HU : Hid (t.nnf (!true) = u) := Lib.hid (by rw [hu]; exact HU0.out)
    rw [← hu] at ho ⊢
    obtain ⟨qa, qc, qp, qd, rfl, rfl⟩ := ho.read.open
    have HO := Lib.hid ho
    have HB9 := Lib.hid (carry_below HBA.out (Nat.le_refl _) hb)
    have HRS := Lib.hid (HRA.out.kept hb)
    have hb9 := hb.size
    have HSB : Hid (∀ q, Fresh WA w9 q → w.heap.size ≤ q ∧ q < w9.heap.size) := Lib.hid (fun q hq => by have := HSA.out; have h1 := hq.1; have h2 := hq.2; exact ⟨by omega, by omega⟩)
    have HN1 : Hid (¬ Fresh WA w9 (w.heap.size + 1)) := Lib.hid (fun hq => by have := HSA.out; have h1 := hq.1; omega)
    clear hb ho hu C0
    obtain ⟨r0, r1, r2, r3, r4, r5⟩ := HRS.out
    go_wp2
    have HR9 : Hid (FivB (((((w9.setCell ⟨w.heap.size + 1, 0, none⟩ (.int .i64 u.op)).setCell ⟨w.heap.size + 1, 1, none⟩ (.string u.atom.name)).setCell ⟨w.heap.size + 1, 2, none⟩ (.slice qa u.atom.args.length qc)).setCell ⟨w.heap.size + 1, 3, none⟩ (.string u.var)).setCell ⟨w.heap.size + 1, 4, none⟩ (.slice qp u.parts.length qd)) (w.heap.size + 1) (.int .i64 u.op) (.string u.atom.name) (.slice qa u.atom.args.length qc) (.string u.var) (.slice qp u.parts.length qd)) := Lib.hid (((((HRS.out.set0 _).set1 _).set2 _).set3 _).set4 _)
    clear r0 r1 r2 r3 r4 r5
    obtain ⟨r0, r1, r2, r3, r4, r5⟩ := HR9.out
    refine bodyPost_ret (v := .agg #[.int .i64 u.op, .string u.atom.name, .slice qa u.atom.args.length qc, .string u.var, .slice qp u.parts.length qd]) (by simp [results, Try.results103, go_sem, r0, r1, r2, r3, r4]) rfl ⟨_, _, by rw [HU.out], ?_, ?_⟩
    · rw [HU.out]
      exact (((((HO.out.setCell HN1.out _).setCell HN1.out _).setCell HN1.out _).setCell HN1.out _).setCell HN1.out _).mono fun q hq => ⟨(HSB.out q hq).1, by simp only [size_setCell]; exact (HSB.out q hq).2⟩
    · exact ((((HB9.out.setCell (by simp) _).setCell (by simp) _).setCell (by simp) _).setCell (by simp) _).setCell (by simp) _

  | false =>
    obtain ⟨s, hs⟩ := form4 HFM.out ho
    have HU0 : Hid (t.nnf (!false) = s.nnf (!true)) := Lib.hid (nnf_neg ho hs)
    have hl1 : 0 < t.parts.length := by rw [hs]; simp
    obtain ⟨b, off, e, va, vp, hc, hva, hvp⟩ := HV.out.2.get (k := 0) (t := s) (by rw [hs]; rfl)
    subst e
    have hsm : s ∈ t.parts := by rw [hs]; simp
    obtain ⟨c0, c1, c2, c3, c4⟩ : Fiv WA b off (.int .i64 s.op) (.string s.atom.name) va (.string s.var) vp := by simpa using hc.kept HBA.out
    have C0 := Lib.hid (H.out s hsm WA va vp true (FmV.kept (t := s) ⟨hva, hvp⟩ HBA.out) (HFP.out s hsm) (Nat.le_trans (Fm.wt_part hsm) HW.out))
    have o1 := op_not (show t.op ≠ 1 by omega)
    have o2 := op_not (show t.op ≠ 2 by omega)
    have o3 := op_not (show t.op ≠ 3 by omega)
    have o4 := op_is ho
    have o5 := op_not (show t.op ≠ 5 by omega)
    have o6 := op_not (show t.op ≠ 6 by omega)
    have o7 := op_not (show t.op ≠ 7 by omega)
    obtain ⟨d0, d1, d2, d3, d4, d5⟩ := HFA.out
    rw [hWA] at d0 d1 d2 d3 d4 d5
    rw [hWA] at c0 c1 c2 c3 c4
    clear ho hs hc hva hvp hsm HFM HFP H
    go_enter Try.func103, Try.ntmps103
    go_wp2_with fail
    rw [← hWA]
    clear hWA d0 d1 d2 d3 d4 d5 c0 c1 c2 c3 c4
    refine C0.out.mono ?_
    rintro e w9 ⟨va9, vp9, rfl, ho, hb⟩
    obtain ⟨u, hu⟩ : ∃ u, u = s.nnf (!true) := ⟨_, rfl⟩
    have HU : Hid (t.nnf (!false) = u) := Lib.hid (by rw [hu]; exact HU0.out)
    rw [← hu] at ho ⊢
    obtain ⟨qa, qc, qp, qd, rfl, rfl⟩ := ho.read.open
    have HO := Lib.hid ho
    have HB9 := Lib.hid (carry_below HBA.out (Nat.le_refl _) hb)
    have HRS := Lib.hid (HRA.out.kept hb)
    have hb9 := hb.size
    have HSB : Hid (∀ q, Fresh WA w9 q → w.heap.size ≤ q ∧ q < w9.heap.size) := Lib.hid (fun q hq => by have := HSA.out; have h1 := hq.1; have h2 := hq.2; exact ⟨by omega, by omega⟩)
    have HN1 : Hid (¬ Fresh WA w9 (w.heap.size + 1)) := Lib.hid (fun hq => by have := HSA.out; have h1 := hq.1; omega)
    clear hb ho hu C0
    obtain ⟨r0, r1, r2, r3, r4, r5⟩ := HRS.out
    go_wp2
    have HR9 : Hid (FivB (((((w9.setCell ⟨w.heap.size + 1, 0, none⟩ (.int .i64 u.op)).setCell ⟨w.heap.size + 1, 1, none⟩ (.string u.atom.name)).setCell ⟨w.heap.size + 1, 2, none⟩ (.slice qa u.atom.args.length qc)).setCell ⟨w.heap.size + 1, 3, none⟩ (.string u.var)).setCell ⟨w.heap.size + 1, 4, none⟩ (.slice qp u.parts.length qd)) (w.heap.size + 1) (.int .i64 u.op) (.string u.atom.name) (.slice qa u.atom.args.length qc) (.string u.var) (.slice qp u.parts.length qd)) := Lib.hid (((((HRS.out.set0 _).set1 _).set2 _).set3 _).set4 _)
    clear r0 r1 r2 r3 r4 r5
    obtain ⟨r0, r1, r2, r3, r4, r5⟩ := HR9.out
    refine bodyPost_ret (v := .agg #[.int .i64 u.op, .string u.atom.name, .slice qa u.atom.args.length qc, .string u.var, .slice qp u.parts.length qd]) (by simp [results, Try.results103, go_sem, r0, r1, r2, r3, r4]) rfl ⟨_, _, by rw [HU.out], ?_, ?_⟩
    · rw [HU.out]
      exact (((((HO.out.setCell HN1.out _).setCell HN1.out _).setCell HN1.out _).setCell HN1.out _).setCell HN1.out _).mono fun q hq => ⟨(HSB.out q hq).1, by simp only [size_setCell]; exact (HSB.out q hq).2⟩
    · exact ((((HB9.out.setCell (by simp) _).setCell (by simp) _).setCell (by simp) _).setCell (by simp) _).setCell (by simp) _

set_option maxRecDepth 100000 in
set_option maxHeartbeats 8000000 in
theorem nn_5 (t : Fm) (h : ∀ s ∈ t.parts, NnT s) (ho : t.op = 5) (w : World) (va vp : Value) (p : Bool) (hv : FmV w va vp t) (hf : t.formsB = true) (hw : t.wt ≤ 1048576) :
    Calls Try.prog 103 #[.agg #[.int .i64 t.op, .string t.atom.name, va, .string t.var, vp], .bool p] w (ToFmEnd (t.nnf (!p)) w) := by
  have H := Lib.hid h
  have HW := Lib.hid hw
  have HFP := Lib.hid (forms_parts hf).2
  have HFM := Lib.hid (forms_parts hf).1
  have hlen : t.parts.length ≤ 1048576 := Nat.le_trans t.wt_len hw
  obtain ⟨pa, ca, pp, cp, rfl, rfl⟩ := hv.open
  have HV := Lib.hid hv
  obtain ⟨WA, hWA⟩ : ∃ W, W = (w.alloc (.cells #[.int .i64 t.op, .string t.atom.name, .slice pa t.atom.args.length ca, .string t.var, .slice pp t.parts.length cp] 68)).alloc (.cells #[.int .i64 0, .string ⟨#[]⟩, .slice none 0 0, .string ⟨#[]⟩, .slice none 0 0] 68) := ⟨_, rfl⟩
  have HFA : Hid (FivB WA w.heap.size (.int .i64 t.op) (.string t.atom.name) (.slice pa t.atom.args.length ca) (.string t.var) (.slice pp t.parts.length cp)) := Lib.hid (by rw [hWA]; exact (fivB_new w (.int .i64 t.op) (.string t.atom.name) (.slice pa t.atom.args.length ca) (.string t.var) (.slice pp t.parts.length cp) 68 _ rfl).alloc _)
  have HRA : Hid (FivB WA (w.heap.size + 1) (.int .i64 0) (.string ⟨#[]⟩) (.slice none 0 0) (.string ⟨#[]⟩) (.slice none 0 0)) := Lib.hid (by rw [hWA]; exact fivB_new _ (.int .i64 0) (.string ⟨#[]⟩) (.slice none 0 0) (.string ⟨#[]⟩) (.slice none 0 0) 68 _ (by simp))
  have HBA : Hid (Below w.heap.size w WA) := Lib.hid (by rw [hWA]; exact ((Below.refl _ _).alloc (Nat.le_refl _) _).alloc (by simp) _)
  have HSA : Hid (WA.heap.size = w.heap.size + 1 + 1) := Lib.hid (by rw [hWA]; simp)
  clear hv hw h hf
  cases p with
  | true =>
    obtain ⟨x, y, hs, hvar⟩ := form57 HFM.out (by omega)
    have HU0 : Hid (t.nnf (!true) = .node (t.op) zT ⟨#[]⟩ [x.nnf (!true), y.nnf (!true)]) := Lib.hid (bin_nnf hs hvar (by omega) (by rw [ho]; decide) (by rw [ho]; decide) (by rw [ho]; rfl))
    have hl2 : 1 < t.parts.length := by rw [hs]; simp
    have hl1 : 0 < t.parts.length := by omega
    have hl3 : (1 : Int) < (t.parts.length : Int) := by omega
    have hl4 : decide ((1 : Int) < (t.parts.length : Int)) = true := by simpa using hl3
    obtain ⟨b, off, e, vxa, vxp, hcx, hxa, hxp⟩ := HV.out.2.get (k := 0) (t := x) (by rw [hs]; rfl)
    subst e
    obtain ⟨b', off', e, vya, vyp, hcy, hya, hyp⟩ := HV.out.2.get (k := 1) (t := y) (by rw [hs]; rfl)
    obtain ⟨rfl, rfl⟩ : b = b' ∧ off = off' := by simpa using e
    clear e
    obtain ⟨xa, xc, xp, xd, rfl, rfl⟩ := FmV.open (t := x) ⟨hxa, hxp⟩
    obtain ⟨ya, yc, yp, yd, rfl, rfl⟩ := FmV.open (t := y) ⟨hya, hyp⟩
    have hxm : x ∈ t.parts := by rw [hs]; simp
    have hym : y ∈ t.parts := by rw [hs]; simp
    have CX : Hid (∀ W, Below WA.heap.size WA W → Calls Try.prog 103 #[.agg #[.int .i64 x.op, .string x.atom.name, .slice xa x.atom.args.length xc, .string x.var, .slice xp x.parts.length xd], .bool true] W (ToFmEnd (x.nnf (!true)) W)) := Lib.hid (fun W hW => H.out x hxm W _ _ true (FmV.kept (t := x) ⟨hxa, hxp⟩ (carry_below HBA.out (Nat.le_refl _) hW)) (HFP.out x hxm) (Nat.le_trans (Fm.wt_part hxm) HW.out))
    have CY : Hid (∀ W, Below WA.heap.size WA W → Calls Try.prog 103 #[.agg #[.int .i64 y.op, .string y.atom.name, .slice ya y.atom.args.length yc, .string y.var, .slice yp y.parts.length yd], .bool true] W (ToFmEnd (y.nnf (!true)) W)) := Lib.hid (fun W hW => H.out y hym W _ _ true (FmV.kept (t := y) ⟨hya, hyp⟩ (carry_below HBA.out (Nat.le_refl _) hW)) (HFP.out y hym) (Nat.le_trans (Fm.wt_part hym) HW.out))
    have HSS : Hid (∀ w' : World, Below WA.heap.size WA w' → w'.cell? ⟨w.heap.size, 4, none⟩ = some (.slice (some ⟨b, off, none⟩) t.parts.length cp) ∧ w'.cell? ⟨b, off, none⟩ = some (.int .i64 x.op) ∧ w'.cell? ⟨b, off + 1, none⟩ = some (.string x.atom.name) ∧ w'.cell? ⟨b, off + 2, none⟩ = some (.slice xa x.atom.args.length xc) ∧ w'.cell? ⟨b, off + 3, none⟩ = some (.string x.var) ∧ w'.cell? ⟨b, off + 4, none⟩ = some (.slice xp x.parts.length xd) ∧ w'.cell? ⟨b, off + 5, none⟩ = some (.int .i64 y.op) ∧ w'.cell? ⟨b, off + 6, none⟩ = some (.string y.atom.name) ∧ w'.cell? ⟨b, off + 7, none⟩ = some (.slice ya y.atom.args.length yc) ∧ w'.cell? ⟨b, off + 8, none⟩ = some (.string y.var) ∧ w'.cell? ⟨b, off + 9, none⟩ = some (.slice yp y.parts.length yd)) := Lib.hid (fun w' hW => by
      obtain ⟨d0, d1, d2, d3, d4, d5⟩ := HFA.out.kept hW
      obtain ⟨c0, c1, c2, c3, c4⟩ : Fiv w' b off (.int .i64 x.op) (.string x.atom.name) (.slice xa x.atom.args.length xc) (.string x.var) (.slice xp x.parts.length xd) := by simpa using hcx.kept (carry_below HBA.out (Nat.le_refl _) hW)
      obtain ⟨e0, e1, e2, e3, e4⟩ : Fiv w' b (off + 5) (.int .i64 y.op) (.string y.atom.name) (.slice ya y.atom.args.length yc) (.string y.var) (.slice yp y.parts.length yd) := by simpa using hcy.kept (carry_below HBA.out (Nat.le_refl _) hW)
      exact ⟨d4, c0, c1, c2, c3, c4, e0, e1, e2, e3, e4⟩)
    have o1 := op_not (show t.op ≠ 1 by omega)
    have o2 := op_not (show t.op ≠ 2 by omega)
    have o3 := op_not (show t.op ≠ 3 by omega)
    have o4 := op_not (show t.op ≠ 4 by omega)
    have o5 := op_is ho
    have o6 := op_not (show t.op ≠ 6 by omega)
    have o7 := op_not (show t.op ≠ 7 by omega)
    have ob1 : 5 ≤ t.op := by omega
    have ob2 : t.op ≤ 7 := by omega
    obtain ⟨d0, d1, d2, d3, d4, d5⟩ := HFA.out
    rw [hWA] at d0 d1 d2 d3 d4 d5
    clear ho hs hcx hcy hxa hxp hya hyp hxm hym HFM HFP H hvar
    go_enter Try.func103, Try.ntmps103
    go_upto_region 22 with fail
    rw [← hWA]
    clear hWA d0 d1 d2 d3 d4 d5 o1 o2 o3 o4 o5 o6 o7
    have hB0 : Below WA.heap.size WA WA.drew := (Below.refl _ _).drew
    refine sink_start 14 (fun w' => w'.cell? ⟨w.heap.size, 4, none⟩ = some (.slice (some ⟨b, off, none⟩) t.parts.length cp) ∧ w'.cell? ⟨b, off, none⟩ = some (.int .i64 x.op) ∧ w'.cell? ⟨b, off + 1, none⟩ = some (.string x.atom.name) ∧ w'.cell? ⟨b, off + 2, none⟩ = some (.slice xa x.atom.args.length xc) ∧ w'.cell? ⟨b, off + 3, none⟩ = some (.string x.var) ∧ w'.cell? ⟨b, off + 4, none⟩ = some (.slice xp x.parts.length xd) ∧ w'.cell? ⟨b, off + 5, none⟩ = some (.int .i64 y.op) ∧ w'.cell? ⟨b, off + 6, none⟩ = some (.string y.atom.name) ∧ w'.cell? ⟨b, off + 7, none⟩ = some (.slice ya y.atom.args.length yc) ∧ w'.cell? ⟨b, off + 8, none⟩ = some (.string y.var) ∧ w'.cell? ⟨b, off + 9, none⟩ = some (.slice yp y.parts.length yd)) (by kernel_rfl) (HSS.out _ hB0) (fun hHeld => ?_)
    refine sink_take 0 (v := ?_) rfl (by kernel_rfl) (by kernel_rfl) (by kernel_rfl) (by kernel_rfl) (by rfl) (fun _ _ _ h => h) (by assumption) ?_ ?_; rotate_left; (intro w hSw; (try dsimp only at hSw); go_simp; try (with_reducible rfl))
    try simp only [Act.put, List.getElem_toArray, List.getElem_cons_zero, List.getElem_cons_succ, List.setIfInBounds_toArray, List.set_cons_zero, List.set_cons_succ]
    refine sink_take 1 (v := ?_) rfl (by kernel_rfl) (by kernel_rfl) (by kernel_rfl) (by kernel_rfl) (by rfl) (fun _ _ _ h => h) (by assumption) ?_ ?_; rotate_left; (intro w hSw; (try dsimp only at hSw); go_simp; try (with_reducible rfl))
    try simp only [Act.put, List.getElem_toArray, List.getElem_cons_zero, List.getElem_cons_succ, List.setIfInBounds_toArray, List.set_cons_zero, List.set_cons_succ]
    refine sink_take 2 (v := ?_) rfl (by kernel_rfl) (by kernel_rfl) (by kernel_rfl) (by kernel_rfl) (by rfl) (fun _ _ _ h => h) (by assumption) ?_ ?_; rotate_left; (intro w hSw; (try dsimp only at hSw); go_simp; try (with_reducible rfl))
    try simp only [Act.put, List.getElem_toArray, List.getElem_cons_zero, List.getElem_cons_succ, List.setIfInBounds_toArray, List.set_cons_zero, List.set_cons_succ]
    refine sink_take 3 (v := ?_) rfl (by kernel_rfl) (by kernel_rfl) (by kernel_rfl) (by kernel_rfl) (by rfl) (fun _ _ _ h => h) (by assumption) ?_ ?_; rotate_left; (intro w hSw; (try dsimp only at hSw); go_simp; try (with_reducible rfl))
    try simp only [Act.put, List.getElem_toArray, List.getElem_cons_zero, List.getElem_cons_succ, List.setIfInBounds_toArray, List.set_cons_zero, List.set_cons_succ]
    refine sink_take 4 (v := ?_) rfl (by kernel_rfl) (by kernel_rfl) (by kernel_rfl) (by kernel_rfl) (by rfl) (fun _ _ _ h => h) (by assumption) ?_ ?_; rotate_left; (intro w hSw; (try dsimp only at hSw); go_simp; try (with_reducible rfl))
    try simp only [Act.put, List.getElem_toArray, List.getElem_cons_zero, List.getElem_cons_succ, List.setIfInBounds_toArray, List.set_cons_zero, List.set_cons_succ]
    refine sink_take 5 (v := ?_) rfl (by kernel_rfl) (by kernel_rfl) (by kernel_rfl) (by kernel_rfl) (by rfl) (fun _ _ _ h => h) (by assumption) ?_ ?_; rotate_left; (intro w hSw; (try dsimp only at hSw); go_simp; try (with_reducible rfl))
    try simp only [Act.put, List.getElem_toArray, List.getElem_cons_zero, List.getElem_cons_succ, List.setIfInBounds_toArray, List.set_cons_zero, List.set_cons_succ]
    refine sink_take 7 (v := ?_) rfl (by kernel_rfl) (by kernel_rfl) (by kernel_rfl) (by kernel_rfl) (by rfl) (fun _ _ _ h => h) (by assumption) ?_ ?_; rotate_left; (intro w hSw; (try dsimp only at hSw); go_simp; try (with_reducible rfl))
    try simp only [Act.put, List.getElem_toArray, List.getElem_cons_zero, List.getElem_cons_succ, List.setIfInBounds_toArray, List.set_cons_zero, List.set_cons_succ]
    refine sink_take 8 (v := ?_) rfl (by kernel_rfl) (by kernel_rfl) (by kernel_rfl) (by kernel_rfl) (by rfl) (fun _ _ _ h => h) (by assumption) ?_ ?_; rotate_left; (intro w hSw; (try dsimp only at hSw); go_simp; try (with_reducible rfl))
    try simp only [Act.put, List.getElem_toArray, List.getElem_cons_zero, List.getElem_cons_succ, List.setIfInBounds_toArray, List.set_cons_zero, List.set_cons_succ]
    refine sink_take 9 (v := ?_) rfl (by kernel_rfl) (by kernel_rfl) (by kernel_rfl) (by kernel_rfl) (by rfl) (fun _ _ _ h => h) (by assumption) ?_ ?_; rotate_left; (intro w hSw; (try dsimp only at hSw); go_simp; try (with_reducible rfl))
    try simp only [Act.put, List.getElem_toArray, List.getElem_cons_zero, List.getElem_cons_succ, List.setIfInBounds_toArray, List.set_cons_zero, List.set_cons_succ]
    refine sink_take 10 (v := ?_) rfl (by kernel_rfl) (by kernel_rfl) (by kernel_rfl) (by kernel_rfl) (by rfl) (fun _ _ _ h => h) (by assumption) ?_ ?_; rotate_left; (intro w hSw; (try dsimp only at hSw); go_simp; try (with_reducible rfl))
    try simp only [Act.put, List.getElem_toArray, List.getElem_cons_zero, List.getElem_cons_succ, List.setIfInBounds_toArray, List.set_cons_zero, List.set_cons_succ]
    refine sink_take 11 (v := ?_) rfl (by kernel_rfl) (by kernel_rfl) (by kernel_rfl) (by kernel_rfl) (by rfl) (fun _ _ _ h => h) (by assumption) ?_ ?_; rotate_left; (intro w hSw; (try dsimp only at hSw); go_simp; try (with_reducible rfl))
    try simp only [Act.put, List.getElem_toArray, List.getElem_cons_zero, List.getElem_cons_succ, List.setIfInBounds_toArray, List.set_cons_zero, List.set_cons_succ]
    refine sink_one (i := 6) (by kernel_rfl) rfl (fun K hK => ?_)
    go_simp
    go_at_call 103; refine (CX.out _ hB0).mono ?_; rintro e w5 ⟨va5, vp5, rfl, ho5, hb⟩; have hB5 := carry_below hB0 (Nat.le_refl _) hb; obtain ⟨ga, gc, gp, gd, rfl, rfl⟩ := ho5.read.open; have HO5 := Lib.hid ho5; clear ho5 hb
    refine hK.out _ _ (fun _ => HSS.out _ hB5) (fun hHeld => ?_)
    have hHeld := hHeld (by decide)
    clear hK K
    try simp only [Act.put, List.getElem_toArray, List.getElem_cons_zero, List.getElem_cons_succ, List.setIfInBounds_toArray, List.set_cons_zero, List.set_cons_succ]
    refine sink_one (i := 12) (by kernel_rfl) rfl (fun K hK => ?_)
    go_simp
    go_at_call 103; refine (CY.out _ hB5).mono ?_; rintro e w6 ⟨va6, vp6, rfl, ho6, hb⟩; have hB6 := carry_below hB5 (Nat.le_refl _) hb; have HP6 := Lib.hid (FOwn.kept HO5.out hb); obtain ⟨ka, kc, kp, kd, rfl, rfl⟩ := ho6.read.open; have HO6 := Lib.hid ho6; have hz6 := hb.size; clear ho6 hb
    refine hK.out _ _ (fun _ => HSS.out _ hB6) (fun hHeld => ?_)
    have hHeld := hHeld (by decide)
    clear hK K
    try simp only [Act.put, List.getElem_toArray, List.getElem_cons_zero, List.getElem_cons_succ, List.setIfInBounds_toArray, List.set_cons_zero, List.set_cons_succ]
    refine sink_one (i := 13) (by kernel_rfl) rfl (fun K hK => ?_)
    go_simp
    go_at_call 150; refine (pair_any _ _ _ (Fresh WA.drew w5) (Fresh w5 w6) w6 _ _ _ _ HP6.out HO6.out (fun q h1 h2 => by have := h1.2; have := h2.1; omega) (fun q hq => by have := hq.2; omega) (fun q hq => hq.2)).mono ?_; rintro e w9 ⟨vp9, rfl, ho, hb⟩; have hB9 := carry_below hB6 (Nat.le_refl _) hb; have hb9 := hb.size; obtain ⟨u, hu⟩ : ∃ u, u = Fm.node (t.op) zT ⟨#[]⟩ [x.nnf (!true), y.nnf (!true)] := ⟨_, rfl⟩; rw [← hu] at ho; have HUU := Lib.hid hu; clear hu; obtain ⟨pq, cq, rfl⟩ : ∃ p c, vp9 = .slice p u.parts.length c := ho.read.2.is_slice; obtain ⟨r0, r1, r2, r3, r4, r5⟩ := HRA.out.kept hB9; have hrl : w.heap.size + 1 < w9.heap.size := World.block_lt_of_cell? w9 ⟨w.heap.size + 1, 0, none⟩ r0
    refine hK.out _ _ (fun _ => HSS.out _ hB9) (fun hHeld => ?_)
    have hHeld := hHeld (by decide)
    clear hK K
    try simp only [Act.put, List.getElem_toArray, List.getElem_cons_zero, List.getElem_cons_succ, List.setIfInBounds_toArray, List.set_cons_zero, List.set_cons_succ]
    refine sink_one (i := 14) (by kernel_rfl) rfl (fun K hK => ?_)
    go_simp
    refine hK.out _ _ (fun hne => absurd rfl hne) (fun hHeld => ?_)
    clear hK K
    try simp only [Act.put, List.getElem_toArray, List.getElem_cons_zero, List.getElem_cons_succ, List.setIfInBounds_toArray, List.set_cons_zero, List.set_cons_succ]
    refine sink_done (by kernel_rfl) ?_ _
    clear r0 r1 r2 r3 r4 r5
    have HB6 := Lib.hid (carry_below HBA.out (Nat.le_refl _) hB6)
    have HR6 := Lib.hid (HRA.out.kept hB6)
    have hb6 := hB6.size
    have HU : Hid (t.nnf (!true) = u) := Lib.hid (by rw [HUU.out]; exact HU0.out)
    have HO := Lib.hid ho
    have HB9 := Lib.hid (carry_below HB6.out (Nat.le_refl _) hb)
    have HRS := Lib.hid (HR6.out.kept hb)
    have hb9 := hb.size
    have HSB : Hid (∀ q, (fun q => (Fresh WA.drew w5 q ∨ Fresh w5 w6 q) ∨ Fresh w6 w9 q) q → w.heap.size ≤ q ∧ q < w9.heap.size) := Lib.hid (fun q hq => by
      have := HSA.out
      have h5 := hB5.size; rcases hq with (hq | hq) | hq
      · have h1 := hq.1; have h2 := hq.2; have h3 : WA.drew.heap.size = WA.heap.size := rfl; exact ⟨by omega, by omega⟩
      · have h1 := hq.1; have h2 := hq.2; exact ⟨by omega, by omega⟩
      · have h1 := hq.1; have h2 := hq.2; exact ⟨by omega, by omega⟩)
    have HN1 : Hid (¬ (fun q => (Fresh WA.drew w5 q ∨ Fresh w5 w6 q) ∨ Fresh w6 w9 q) (w.heap.size + 1)) := Lib.hid (fun hq => by
      have := HSA.out
      have h5 := hB5.size; rcases hq with (hq | hq) | hq
      · have h1 := hq.1; have h3 : WA.drew.heap.size = WA.heap.size := rfl; omega
      · have h1 := hq.1; omega
      · have h1 := hq.1; omega)
    have HUP : Hid (u.op = t.op ∧ u.atom.name = ⟨#[]⟩ ∧ u.var = ⟨#[]⟩) := Lib.hid (by rw [HUU.out]; exact ⟨rfl, rfl, rfl⟩)
    clear hb ho
    obtain ⟨r0, r1, r2, r3, r4, r5⟩ := HRS.out
    go_wp2
    have HR9 : Hid (FivB (((((w9.setCell ⟨w.heap.size + 1, 0, none⟩ (.int .i64 (t.op))).setCell ⟨w.heap.size + 1, 1, none⟩ (.string ⟨#[]⟩)).setCell ⟨w.heap.size + 1, 2, none⟩ (.slice none 0 0)).setCell ⟨w.heap.size + 1, 3, none⟩ (.string ⟨#[]⟩)).setCell ⟨w.heap.size + 1, 4, none⟩ (.slice pq u.parts.length cq)) (w.heap.size + 1) (.int .i64 (t.op)) (.string ⟨#[]⟩) (.slice none 0 0) (.string ⟨#[]⟩) (.slice pq u.parts.length cq)) := Lib.hid (((((HRS.out.set0 _).set1 _).set2 _).set3 _).set4 _)
    clear r0 r1 r2 r3 r4 r5
    obtain ⟨r0, r1, r2, r3, r4, r5⟩ := HR9.out
    refine bodyPost_ret (v := .agg #[.int .i64 (t.op), .string ⟨#[]⟩, .slice none 0 0, .string ⟨#[]⟩, .slice pq u.parts.length cq]) (by simp [results, Try.results103, go_sem, r0, r1, r2, r3, r4]) rfl ⟨.slice none 0 0, .slice pq u.parts.length cq, by first | rw [HU.out, HUP.out.1, HUP.out.2.1, HUP.out.2.2] | rw [show t.nnf false = u from HU.out, HUP.out.1, HUP.out.2.1, HUP.out.2.2] | rw [show t.nnf true = u from HU.out, HUP.out.1, HUP.out.2.1, HUP.out.2.2], ?_, ?_⟩
    · first | rw [HU.out] | rw [show t.nnf false = u from HU.out] | rw [show t.nnf true = u from HU.out]
      exact (((((HO.out.setCell HN1.out _).setCell HN1.out _).setCell HN1.out _).setCell HN1.out _).setCell HN1.out _).mono fun q hq => ⟨(HSB.out q hq).1, by simp only [size_setCell]; exact (HSB.out q hq).2⟩
    · exact ((((HB9.out.setCell (by simp) _).setCell (by simp) _).setCell (by simp) _).setCell (by simp) _).setCell (by simp) _

  | false =>
    obtain ⟨x, y, hs, hvar⟩ := form57 HFM.out (by omega)
    have HU0 : Hid (t.nnf (!false) = .node (11 - t.op) zT ⟨#[]⟩ [x.nnf (!false), y.nnf (!false)]) := Lib.hid (bin_nnf hs hvar (by omega) (by rw [ho]; decide) (by rw [ho]; decide) (by rw [ho]; rfl))
    have hl2 : 1 < t.parts.length := by rw [hs]; simp
    have hl1 : 0 < t.parts.length := by omega
    have hl3 : (1 : Int) < (t.parts.length : Int) := by omega
    have hl4 : decide ((1 : Int) < (t.parts.length : Int)) = true := by simpa using hl3
    obtain ⟨b, off, e, vxa, vxp, hcx, hxa, hxp⟩ := HV.out.2.get (k := 0) (t := x) (by rw [hs]; rfl)
    subst e
    obtain ⟨b', off', e, vya, vyp, hcy, hya, hyp⟩ := HV.out.2.get (k := 1) (t := y) (by rw [hs]; rfl)
    obtain ⟨rfl, rfl⟩ : b = b' ∧ off = off' := by simpa using e
    clear e
    obtain ⟨xa, xc, xp, xd, rfl, rfl⟩ := FmV.open (t := x) ⟨hxa, hxp⟩
    obtain ⟨ya, yc, yp, yd, rfl, rfl⟩ := FmV.open (t := y) ⟨hya, hyp⟩
    have hxm : x ∈ t.parts := by rw [hs]; simp
    have hym : y ∈ t.parts := by rw [hs]; simp
    have CX : Hid (∀ W, Below WA.heap.size WA W → Calls Try.prog 103 #[.agg #[.int .i64 x.op, .string x.atom.name, .slice xa x.atom.args.length xc, .string x.var, .slice xp x.parts.length xd], .bool false] W (ToFmEnd (x.nnf (!false)) W)) := Lib.hid (fun W hW => H.out x hxm W _ _ false (FmV.kept (t := x) ⟨hxa, hxp⟩ (carry_below HBA.out (Nat.le_refl _) hW)) (HFP.out x hxm) (Nat.le_trans (Fm.wt_part hxm) HW.out))
    have CY : Hid (∀ W, Below WA.heap.size WA W → Calls Try.prog 103 #[.agg #[.int .i64 y.op, .string y.atom.name, .slice ya y.atom.args.length yc, .string y.var, .slice yp y.parts.length yd], .bool false] W (ToFmEnd (y.nnf (!false)) W)) := Lib.hid (fun W hW => H.out y hym W _ _ false (FmV.kept (t := y) ⟨hya, hyp⟩ (carry_below HBA.out (Nat.le_refl _) hW)) (HFP.out y hym) (Nat.le_trans (Fm.wt_part hym) HW.out))
    have HSS : Hid (∀ w' : World, Below WA.heap.size WA w' → w'.cell? ⟨w.heap.size, 4, none⟩ = some (.slice (some ⟨b, off, none⟩) t.parts.length cp) ∧ w'.cell? ⟨b, off, none⟩ = some (.int .i64 x.op) ∧ w'.cell? ⟨b, off + 1, none⟩ = some (.string x.atom.name) ∧ w'.cell? ⟨b, off + 2, none⟩ = some (.slice xa x.atom.args.length xc) ∧ w'.cell? ⟨b, off + 3, none⟩ = some (.string x.var) ∧ w'.cell? ⟨b, off + 4, none⟩ = some (.slice xp x.parts.length xd) ∧ w'.cell? ⟨b, off + 5, none⟩ = some (.int .i64 y.op) ∧ w'.cell? ⟨b, off + 6, none⟩ = some (.string y.atom.name) ∧ w'.cell? ⟨b, off + 7, none⟩ = some (.slice ya y.atom.args.length yc) ∧ w'.cell? ⟨b, off + 8, none⟩ = some (.string y.var) ∧ w'.cell? ⟨b, off + 9, none⟩ = some (.slice yp y.parts.length yd)) := Lib.hid (fun w' hW => by
      obtain ⟨d0, d1, d2, d3, d4, d5⟩ := HFA.out.kept hW
      obtain ⟨c0, c1, c2, c3, c4⟩ : Fiv w' b off (.int .i64 x.op) (.string x.atom.name) (.slice xa x.atom.args.length xc) (.string x.var) (.slice xp x.parts.length xd) := by simpa using hcx.kept (carry_below HBA.out (Nat.le_refl _) hW)
      obtain ⟨e0, e1, e2, e3, e4⟩ : Fiv w' b (off + 5) (.int .i64 y.op) (.string y.atom.name) (.slice ya y.atom.args.length yc) (.string y.var) (.slice yp y.parts.length yd) := by simpa using hcy.kept (carry_below HBA.out (Nat.le_refl _) hW)
      exact ⟨d4, c0, c1, c2, c3, c4, e0, e1, e2, e3, e4⟩)
    have o1 := op_not (show t.op ≠ 1 by omega)
    have o2 := op_not (show t.op ≠ 2 by omega)
    have o3 := op_not (show t.op ≠ 3 by omega)
    have o4 := op_not (show t.op ≠ 4 by omega)
    have o5 := op_is ho
    have o6 := op_not (show t.op ≠ 6 by omega)
    have o7 := op_not (show t.op ≠ 7 by omega)
    have ob1 : 5 ≤ t.op := by omega
    have ob2 : t.op ≤ 7 := by omega
    obtain ⟨d0, d1, d2, d3, d4, d5⟩ := HFA.out
    rw [hWA] at d0 d1 d2 d3 d4 d5
    clear ho hs hcx hcy hxa hxp hya hyp hxm hym HFM HFP H hvar
    go_enter Try.func103, Try.ntmps103
    go_upto_region 22 with fail
    rw [← hWA]
    clear hWA d0 d1 d2 d3 d4 d5 o1 o2 o3 o4 o5 o6 o7
    have hB0 : Below WA.heap.size WA WA.drew := (Below.refl _ _).drew
    refine sink_start 14 (fun w' => w'.cell? ⟨w.heap.size, 4, none⟩ = some (.slice (some ⟨b, off, none⟩) t.parts.length cp) ∧ w'.cell? ⟨b, off, none⟩ = some (.int .i64 x.op) ∧ w'.cell? ⟨b, off + 1, none⟩ = some (.string x.atom.name) ∧ w'.cell? ⟨b, off + 2, none⟩ = some (.slice xa x.atom.args.length xc) ∧ w'.cell? ⟨b, off + 3, none⟩ = some (.string x.var) ∧ w'.cell? ⟨b, off + 4, none⟩ = some (.slice xp x.parts.length xd) ∧ w'.cell? ⟨b, off + 5, none⟩ = some (.int .i64 y.op) ∧ w'.cell? ⟨b, off + 6, none⟩ = some (.string y.atom.name) ∧ w'.cell? ⟨b, off + 7, none⟩ = some (.slice ya y.atom.args.length yc) ∧ w'.cell? ⟨b, off + 8, none⟩ = some (.string y.var) ∧ w'.cell? ⟨b, off + 9, none⟩ = some (.slice yp y.parts.length yd)) (by kernel_rfl) (HSS.out _ hB0) (fun hHeld => ?_)
    refine sink_take 0 (v := ?_) rfl (by kernel_rfl) (by kernel_rfl) (by kernel_rfl) (by kernel_rfl) (by rfl) (fun _ _ _ h => h) (by assumption) ?_ ?_; rotate_left; (intro w hSw; (try dsimp only at hSw); go_simp; try (with_reducible rfl))
    try simp only [Act.put, List.getElem_toArray, List.getElem_cons_zero, List.getElem_cons_succ, List.setIfInBounds_toArray, List.set_cons_zero, List.set_cons_succ]
    refine sink_take 1 (v := ?_) rfl (by kernel_rfl) (by kernel_rfl) (by kernel_rfl) (by kernel_rfl) (by rfl) (fun _ _ _ h => h) (by assumption) ?_ ?_; rotate_left; (intro w hSw; (try dsimp only at hSw); go_simp; try (with_reducible rfl))
    try simp only [Act.put, List.getElem_toArray, List.getElem_cons_zero, List.getElem_cons_succ, List.setIfInBounds_toArray, List.set_cons_zero, List.set_cons_succ]
    refine sink_take 2 (v := ?_) rfl (by kernel_rfl) (by kernel_rfl) (by kernel_rfl) (by kernel_rfl) (by rfl) (fun _ _ _ h => h) (by assumption) ?_ ?_; rotate_left; (intro w hSw; (try dsimp only at hSw); go_simp; try (with_reducible rfl))
    try simp only [Act.put, List.getElem_toArray, List.getElem_cons_zero, List.getElem_cons_succ, List.setIfInBounds_toArray, List.set_cons_zero, List.set_cons_succ]
    refine sink_take 3 (v := ?_) rfl (by kernel_rfl) (by kernel_rfl) (by kernel_rfl) (by kernel_rfl) (by rfl) (fun _ _ _ h => h) (by assumption) ?_ ?_; rotate_left; (intro w hSw; (try dsimp only at hSw); go_simp; try (with_reducible rfl))
    try simp only [Act.put, List.getElem_toArray, List.getElem_cons_zero, List.getElem_cons_succ, List.setIfInBounds_toArray, List.set_cons_zero, List.set_cons_succ]
    refine sink_take 4 (v := ?_) rfl (by kernel_rfl) (by kernel_rfl) (by kernel_rfl) (by kernel_rfl) (by rfl) (fun _ _ _ h => h) (by assumption) ?_ ?_; rotate_left; (intro w hSw; (try dsimp only at hSw); go_simp; try (with_reducible rfl))
    try simp only [Act.put, List.getElem_toArray, List.getElem_cons_zero, List.getElem_cons_succ, List.setIfInBounds_toArray, List.set_cons_zero, List.set_cons_succ]
    refine sink_take 5 (v := ?_) rfl (by kernel_rfl) (by kernel_rfl) (by kernel_rfl) (by kernel_rfl) (by rfl) (fun _ _ _ h => h) (by assumption) ?_ ?_; rotate_left; (intro w hSw; (try dsimp only at hSw); go_simp; try (with_reducible rfl))
    try simp only [Act.put, List.getElem_toArray, List.getElem_cons_zero, List.getElem_cons_succ, List.setIfInBounds_toArray, List.set_cons_zero, List.set_cons_succ]
    refine sink_take 7 (v := ?_) rfl (by kernel_rfl) (by kernel_rfl) (by kernel_rfl) (by kernel_rfl) (by rfl) (fun _ _ _ h => h) (by assumption) ?_ ?_; rotate_left; (intro w hSw; (try dsimp only at hSw); go_simp; try (with_reducible rfl))
    try simp only [Act.put, List.getElem_toArray, List.getElem_cons_zero, List.getElem_cons_succ, List.setIfInBounds_toArray, List.set_cons_zero, List.set_cons_succ]
    refine sink_take 8 (v := ?_) rfl (by kernel_rfl) (by kernel_rfl) (by kernel_rfl) (by kernel_rfl) (by rfl) (fun _ _ _ h => h) (by assumption) ?_ ?_; rotate_left; (intro w hSw; (try dsimp only at hSw); go_simp; try (with_reducible rfl))
    try simp only [Act.put, List.getElem_toArray, List.getElem_cons_zero, List.getElem_cons_succ, List.setIfInBounds_toArray, List.set_cons_zero, List.set_cons_succ]
    refine sink_take 9 (v := ?_) rfl (by kernel_rfl) (by kernel_rfl) (by kernel_rfl) (by kernel_rfl) (by rfl) (fun _ _ _ h => h) (by assumption) ?_ ?_; rotate_left; (intro w hSw; (try dsimp only at hSw); go_simp; try (with_reducible rfl))
    try simp only [Act.put, List.getElem_toArray, List.getElem_cons_zero, List.getElem_cons_succ, List.setIfInBounds_toArray, List.set_cons_zero, List.set_cons_succ]
    refine sink_take 10 (v := ?_) rfl (by kernel_rfl) (by kernel_rfl) (by kernel_rfl) (by kernel_rfl) (by rfl) (fun _ _ _ h => h) (by assumption) ?_ ?_; rotate_left; (intro w hSw; (try dsimp only at hSw); go_simp; try (with_reducible rfl))
    try simp only [Act.put, List.getElem_toArray, List.getElem_cons_zero, List.getElem_cons_succ, List.setIfInBounds_toArray, List.set_cons_zero, List.set_cons_succ]
    refine sink_take 11 (v := ?_) rfl (by kernel_rfl) (by kernel_rfl) (by kernel_rfl) (by kernel_rfl) (by rfl) (fun _ _ _ h => h) (by assumption) ?_ ?_; rotate_left; (intro w hSw; (try dsimp only at hSw); go_simp; try (with_reducible rfl))
    try simp only [Act.put, List.getElem_toArray, List.getElem_cons_zero, List.getElem_cons_succ, List.setIfInBounds_toArray, List.set_cons_zero, List.set_cons_succ]
    refine sink_one (i := 6) (by kernel_rfl) rfl (fun K hK => ?_)
    go_simp
    go_at_call 103; refine (CX.out _ hB0).mono ?_; rintro e w5 ⟨va5, vp5, rfl, ho5, hb⟩; have hB5 := carry_below hB0 (Nat.le_refl _) hb; obtain ⟨ga, gc, gp, gd, rfl, rfl⟩ := ho5.read.open; have HO5 := Lib.hid ho5; clear ho5 hb
    refine hK.out _ _ (fun _ => HSS.out _ hB5) (fun hHeld => ?_)
    have hHeld := hHeld (by decide)
    clear hK K
    try simp only [Act.put, List.getElem_toArray, List.getElem_cons_zero, List.getElem_cons_succ, List.setIfInBounds_toArray, List.set_cons_zero, List.set_cons_succ]
    refine sink_one (i := 12) (by kernel_rfl) rfl (fun K hK => ?_)
    go_simp
    go_at_call 103; refine (CY.out _ hB5).mono ?_; rintro e w6 ⟨va6, vp6, rfl, ho6, hb⟩; have hB6 := carry_below hB5 (Nat.le_refl _) hb; have HP6 := Lib.hid (FOwn.kept HO5.out hb); obtain ⟨ka, kc, kp, kd, rfl, rfl⟩ := ho6.read.open; have HO6 := Lib.hid ho6; have hz6 := hb.size; clear ho6 hb
    refine hK.out _ _ (fun _ => HSS.out _ hB6) (fun hHeld => ?_)
    have hHeld := hHeld (by decide)
    clear hK K
    try simp only [Act.put, List.getElem_toArray, List.getElem_cons_zero, List.getElem_cons_succ, List.setIfInBounds_toArray, List.set_cons_zero, List.set_cons_succ]
    refine sink_one (i := 13) (by kernel_rfl) rfl (fun K hK => ?_)
    go_simp
    go_at_call 150; refine (pair_any _ _ _ (Fresh WA.drew w5) (Fresh w5 w6) w6 _ _ _ _ HP6.out HO6.out (fun q h1 h2 => by have := h1.2; have := h2.1; omega) (fun q hq => by have := hq.2; omega) (fun q hq => hq.2)).mono ?_; rintro e w9 ⟨vp9, rfl, ho, hb⟩; have hB9 := carry_below hB6 (Nat.le_refl _) hb; have hb9 := hb.size; obtain ⟨u, hu⟩ : ∃ u, u = Fm.node (11 - t.op) zT ⟨#[]⟩ [x.nnf (!false), y.nnf (!false)] := ⟨_, rfl⟩; rw [← hu] at ho; have HUU := Lib.hid hu; clear hu; obtain ⟨pq, cq, rfl⟩ : ∃ p c, vp9 = .slice p u.parts.length c := ho.read.2.is_slice; obtain ⟨r0, r1, r2, r3, r4, r5⟩ := HRA.out.kept hB9; have hrl : w.heap.size + 1 < w9.heap.size := World.block_lt_of_cell? w9 ⟨w.heap.size + 1, 0, none⟩ r0
    refine hK.out _ _ (fun _ => HSS.out _ hB9) (fun hHeld => ?_)
    have hHeld := hHeld (by decide)
    clear hK K
    try simp only [Act.put, List.getElem_toArray, List.getElem_cons_zero, List.getElem_cons_succ, List.setIfInBounds_toArray, List.set_cons_zero, List.set_cons_succ]
    refine sink_one (i := 14) (by kernel_rfl) rfl (fun K hK => ?_)
    go_simp
    refine hK.out _ _ (fun hne => absurd rfl hne) (fun hHeld => ?_)
    clear hK K
    try simp only [Act.put, List.getElem_toArray, List.getElem_cons_zero, List.getElem_cons_succ, List.setIfInBounds_toArray, List.set_cons_zero, List.set_cons_succ]
    refine sink_done (by kernel_rfl) ?_ _
    clear r0 r1 r2 r3 r4 r5
    have HB6 := Lib.hid (carry_below HBA.out (Nat.le_refl _) hB6)
    have HR6 := Lib.hid (HRA.out.kept hB6)
    have hb6 := hB6.size
    have HU : Hid (t.nnf (!false) = u) := Lib.hid (by rw [HUU.out]; exact HU0.out)
    have HO := Lib.hid ho
    have HB9 := Lib.hid (carry_below HB6.out (Nat.le_refl _) hb)
    have HRS := Lib.hid (HR6.out.kept hb)
    have hb9 := hb.size
    have HSB : Hid (∀ q, (fun q => (Fresh WA.drew w5 q ∨ Fresh w5 w6 q) ∨ Fresh w6 w9 q) q → w.heap.size ≤ q ∧ q < w9.heap.size) := Lib.hid (fun q hq => by
      have := HSA.out
      have h5 := hB5.size; rcases hq with (hq | hq) | hq
      · have h1 := hq.1; have h2 := hq.2; have h3 : WA.drew.heap.size = WA.heap.size := rfl; exact ⟨by omega, by omega⟩
      · have h1 := hq.1; have h2 := hq.2; exact ⟨by omega, by omega⟩
      · have h1 := hq.1; have h2 := hq.2; exact ⟨by omega, by omega⟩)
    have HN1 : Hid (¬ (fun q => (Fresh WA.drew w5 q ∨ Fresh w5 w6 q) ∨ Fresh w6 w9 q) (w.heap.size + 1)) := Lib.hid (fun hq => by
      have := HSA.out
      have h5 := hB5.size; rcases hq with (hq | hq) | hq
      · have h1 := hq.1; have h3 : WA.drew.heap.size = WA.heap.size := rfl; omega
      · have h1 := hq.1; omega
      · have h1 := hq.1; omega)
    have HUP : Hid (u.op = 11 - t.op ∧ u.atom.name = ⟨#[]⟩ ∧ u.var = ⟨#[]⟩) := Lib.hid (by rw [HUU.out]; exact ⟨rfl, rfl, rfl⟩)
    clear hb ho
    obtain ⟨r0, r1, r2, r3, r4, r5⟩ := HRS.out
    go_wp2
    have HR9 : Hid (FivB (((((w9.setCell ⟨w.heap.size + 1, 0, none⟩ (.int .i64 (11 - t.op))).setCell ⟨w.heap.size + 1, 1, none⟩ (.string ⟨#[]⟩)).setCell ⟨w.heap.size + 1, 2, none⟩ (.slice none 0 0)).setCell ⟨w.heap.size + 1, 3, none⟩ (.string ⟨#[]⟩)).setCell ⟨w.heap.size + 1, 4, none⟩ (.slice pq u.parts.length cq)) (w.heap.size + 1) (.int .i64 (11 - t.op)) (.string ⟨#[]⟩) (.slice none 0 0) (.string ⟨#[]⟩) (.slice pq u.parts.length cq)) := Lib.hid (((((HRS.out.set0 _).set1 _).set2 _).set3 _).set4 _)
    clear r0 r1 r2 r3 r4 r5
    obtain ⟨r0, r1, r2, r3, r4, r5⟩ := HR9.out
    refine bodyPost_ret (v := .agg #[.int .i64 (11 - t.op), .string ⟨#[]⟩, .slice none 0 0, .string ⟨#[]⟩, .slice pq u.parts.length cq]) (by simp [results, Try.results103, go_sem, r0, r1, r2, r3, r4]) rfl ⟨.slice none 0 0, .slice pq u.parts.length cq, by first | rw [HU.out, HUP.out.1, HUP.out.2.1, HUP.out.2.2] | rw [show t.nnf false = u from HU.out, HUP.out.1, HUP.out.2.1, HUP.out.2.2] | rw [show t.nnf true = u from HU.out, HUP.out.1, HUP.out.2.1, HUP.out.2.2], ?_, ?_⟩
    · first | rw [HU.out] | rw [show t.nnf false = u from HU.out] | rw [show t.nnf true = u from HU.out]
      exact (((((HO.out.setCell HN1.out _).setCell HN1.out _).setCell HN1.out _).setCell HN1.out _).setCell HN1.out _).mono fun q hq => ⟨(HSB.out q hq).1, by simp only [size_setCell]; exact (HSB.out q hq).2⟩
    · exact ((((HB9.out.setCell (by simp) _).setCell (by simp) _).setCell (by simp) _).setCell (by simp) _).setCell (by simp) _

set_option maxRecDepth 100000 in
set_option maxHeartbeats 8000000 in
theorem nn_6 (t : Fm) (h : ∀ s ∈ t.parts, NnT s) (ho : t.op = 6) (w : World) (va vp : Value) (p : Bool) (hv : FmV w va vp t) (hf : t.formsB = true) (hw : t.wt ≤ 1048576) :
    Calls Try.prog 103 #[.agg #[.int .i64 t.op, .string t.atom.name, va, .string t.var, vp], .bool p] w (ToFmEnd (t.nnf (!p)) w) := by
  have H := Lib.hid h
  have HW := Lib.hid hw
  have HFP := Lib.hid (forms_parts hf).2
  have HFM := Lib.hid (forms_parts hf).1
  have hlen : t.parts.length ≤ 1048576 := Nat.le_trans t.wt_len hw
  obtain ⟨pa, ca, pp, cp, rfl, rfl⟩ := hv.open
  have HV := Lib.hid hv
  obtain ⟨WA, hWA⟩ : ∃ W, W = (w.alloc (.cells #[.int .i64 t.op, .string t.atom.name, .slice pa t.atom.args.length ca, .string t.var, .slice pp t.parts.length cp] 68)).alloc (.cells #[.int .i64 0, .string ⟨#[]⟩, .slice none 0 0, .string ⟨#[]⟩, .slice none 0 0] 68) := ⟨_, rfl⟩
  have HFA : Hid (FivB WA w.heap.size (.int .i64 t.op) (.string t.atom.name) (.slice pa t.atom.args.length ca) (.string t.var) (.slice pp t.parts.length cp)) := Lib.hid (by rw [hWA]; exact (fivB_new w (.int .i64 t.op) (.string t.atom.name) (.slice pa t.atom.args.length ca) (.string t.var) (.slice pp t.parts.length cp) 68 _ rfl).alloc _)
  have HRA : Hid (FivB WA (w.heap.size + 1) (.int .i64 0) (.string ⟨#[]⟩) (.slice none 0 0) (.string ⟨#[]⟩) (.slice none 0 0)) := Lib.hid (by rw [hWA]; exact fivB_new _ (.int .i64 0) (.string ⟨#[]⟩) (.slice none 0 0) (.string ⟨#[]⟩) (.slice none 0 0) 68 _ (by simp))
  have HBA : Hid (Below w.heap.size w WA) := Lib.hid (by rw [hWA]; exact ((Below.refl _ _).alloc (Nat.le_refl _) _).alloc (by simp) _)
  have HSA : Hid (WA.heap.size = w.heap.size + 1 + 1) := Lib.hid (by rw [hWA]; simp)
  clear hv hw h hf
  cases p with
  | true =>
    obtain ⟨x, y, hs, hvar⟩ := form57 HFM.out (by omega)
    have HU0 : Hid (t.nnf (!true) = .node (t.op) zT ⟨#[]⟩ [x.nnf (!true), y.nnf (!true)]) := Lib.hid (bin_nnf hs hvar (by omega) (by rw [ho]; decide) (by rw [ho]; decide) (by rw [ho]; rfl))
    have hl2 : 1 < t.parts.length := by rw [hs]; simp
    have hl1 : 0 < t.parts.length := by omega
    have hl3 : (1 : Int) < (t.parts.length : Int) := by omega
    have hl4 : decide ((1 : Int) < (t.parts.length : Int)) = true := by simpa using hl3
    obtain ⟨b, off, e, vxa, vxp, hcx, hxa, hxp⟩ := HV.out.2.get (k := 0) (t := x) (by rw [hs]; rfl)
    subst e
    obtain ⟨b', off', e, vya, vyp, hcy, hya, hyp⟩ := HV.out.2.get (k := 1) (t := y) (by rw [hs]; rfl)
    obtain ⟨rfl, rfl⟩ : b = b' ∧ off = off' := by simpa using e
    clear e
    obtain ⟨xa, xc, xp, xd, rfl, rfl⟩ := FmV.open (t := x) ⟨hxa, hxp⟩
    obtain ⟨ya, yc, yp, yd, rfl, rfl⟩ := FmV.open (t := y) ⟨hya, hyp⟩
    have hxm : x ∈ t.parts := by rw [hs]; simp
    have hym : y ∈ t.parts := by rw [hs]; simp
    have CX : Hid (∀ W, Below WA.heap.size WA W → Calls Try.prog 103 #[.agg #[.int .i64 x.op, .string x.atom.name, .slice xa x.atom.args.length xc, .string x.var, .slice xp x.parts.length xd], .bool true] W (ToFmEnd (x.nnf (!true)) W)) := Lib.hid (fun W hW => H.out x hxm W _ _ true (FmV.kept (t := x) ⟨hxa, hxp⟩ (carry_below HBA.out (Nat.le_refl _) hW)) (HFP.out x hxm) (Nat.le_trans (Fm.wt_part hxm) HW.out))
    have CY : Hid (∀ W, Below WA.heap.size WA W → Calls Try.prog 103 #[.agg #[.int .i64 y.op, .string y.atom.name, .slice ya y.atom.args.length yc, .string y.var, .slice yp y.parts.length yd], .bool true] W (ToFmEnd (y.nnf (!true)) W)) := Lib.hid (fun W hW => H.out y hym W _ _ true (FmV.kept (t := y) ⟨hya, hyp⟩ (carry_below HBA.out (Nat.le_refl _) hW)) (HFP.out y hym) (Nat.le_trans (Fm.wt_part hym) HW.out))
    have HSS : Hid (∀ w' : World, Below WA.heap.size WA w' → w'.cell? ⟨w.heap.size, 4, none⟩ = some (.slice (some ⟨b, off, none⟩) t.parts.length cp) ∧ w'.cell? ⟨b, off, none⟩ = some (.int .i64 x.op) ∧ w'.cell? ⟨b, off + 1, none⟩ = some (.string x.atom.name) ∧ w'.cell? ⟨b, off + 2, none⟩ = some (.slice xa x.atom.args.length xc) ∧ w'.cell? ⟨b, off + 3, none⟩ = some (.string x.var) ∧ w'.cell? ⟨b, off + 4, none⟩ = some (.slice xp x.parts.length xd) ∧ w'.cell? ⟨b, off + 5, none⟩ = some (.int .i64 y.op) ∧ w'.cell? ⟨b, off + 6, none⟩ = some (.string y.atom.name) ∧ w'.cell? ⟨b, off + 7, none⟩ = some (.slice ya y.atom.args.length yc) ∧ w'.cell? ⟨b, off + 8, none⟩ = some (.string y.var) ∧ w'.cell? ⟨b, off + 9, none⟩ = some (.slice yp y.parts.length yd)) := Lib.hid (fun w' hW => by
      obtain ⟨d0, d1, d2, d3, d4, d5⟩ := HFA.out.kept hW
      obtain ⟨c0, c1, c2, c3, c4⟩ : Fiv w' b off (.int .i64 x.op) (.string x.atom.name) (.slice xa x.atom.args.length xc) (.string x.var) (.slice xp x.parts.length xd) := by simpa using hcx.kept (carry_below HBA.out (Nat.le_refl _) hW)
      obtain ⟨e0, e1, e2, e3, e4⟩ : Fiv w' b (off + 5) (.int .i64 y.op) (.string y.atom.name) (.slice ya y.atom.args.length yc) (.string y.var) (.slice yp y.parts.length yd) := by simpa using hcy.kept (carry_below HBA.out (Nat.le_refl _) hW)
      exact ⟨d4, c0, c1, c2, c3, c4, e0, e1, e2, e3, e4⟩)
    have o1 := op_not (show t.op ≠ 1 by omega)
    have o2 := op_not (show t.op ≠ 2 by omega)
    have o3 := op_not (show t.op ≠ 3 by omega)
    have o4 := op_not (show t.op ≠ 4 by omega)
    have o5 := op_not (show t.op ≠ 5 by omega)
    have o6 := op_is ho
    have o7 := op_not (show t.op ≠ 7 by omega)
    have ob1 : 5 ≤ t.op := by omega
    have ob2 : t.op ≤ 7 := by omega
    obtain ⟨d0, d1, d2, d3, d4, d5⟩ := HFA.out
    rw [hWA] at d0 d1 d2 d3 d4 d5
    clear ho hs hcx hcy hxa hxp hya hyp hxm hym HFM HFP H hvar
    go_enter Try.func103, Try.ntmps103
    go_upto_region 22 with fail
    rw [← hWA]
    clear hWA d0 d1 d2 d3 d4 d5 o1 o2 o3 o4 o5 o6 o7
    have hB0 : Below WA.heap.size WA WA.drew := (Below.refl _ _).drew
    refine sink_start 14 (fun w' => w'.cell? ⟨w.heap.size, 4, none⟩ = some (.slice (some ⟨b, off, none⟩) t.parts.length cp) ∧ w'.cell? ⟨b, off, none⟩ = some (.int .i64 x.op) ∧ w'.cell? ⟨b, off + 1, none⟩ = some (.string x.atom.name) ∧ w'.cell? ⟨b, off + 2, none⟩ = some (.slice xa x.atom.args.length xc) ∧ w'.cell? ⟨b, off + 3, none⟩ = some (.string x.var) ∧ w'.cell? ⟨b, off + 4, none⟩ = some (.slice xp x.parts.length xd) ∧ w'.cell? ⟨b, off + 5, none⟩ = some (.int .i64 y.op) ∧ w'.cell? ⟨b, off + 6, none⟩ = some (.string y.atom.name) ∧ w'.cell? ⟨b, off + 7, none⟩ = some (.slice ya y.atom.args.length yc) ∧ w'.cell? ⟨b, off + 8, none⟩ = some (.string y.var) ∧ w'.cell? ⟨b, off + 9, none⟩ = some (.slice yp y.parts.length yd)) (by kernel_rfl) (HSS.out _ hB0) (fun hHeld => ?_)
    refine sink_take 0 (v := ?_) rfl (by kernel_rfl) (by kernel_rfl) (by kernel_rfl) (by kernel_rfl) (by rfl) (fun _ _ _ h => h) (by assumption) ?_ ?_; rotate_left; (intro w hSw; (try dsimp only at hSw); go_simp; try (with_reducible rfl))
    try simp only [Act.put, List.getElem_toArray, List.getElem_cons_zero, List.getElem_cons_succ, List.setIfInBounds_toArray, List.set_cons_zero, List.set_cons_succ]
    refine sink_take 1 (v := ?_) rfl (by kernel_rfl) (by kernel_rfl) (by kernel_rfl) (by kernel_rfl) (by rfl) (fun _ _ _ h => h) (by assumption) ?_ ?_; rotate_left; (intro w hSw; (try dsimp only at hSw); go_simp; try (with_reducible rfl))
    try simp only [Act.put, List.getElem_toArray, List.getElem_cons_zero, List.getElem_cons_succ, List.setIfInBounds_toArray, List.set_cons_zero, List.set_cons_succ]
    refine sink_take 2 (v := ?_) rfl (by kernel_rfl) (by kernel_rfl) (by kernel_rfl) (by kernel_rfl) (by rfl) (fun _ _ _ h => h) (by assumption) ?_ ?_; rotate_left; (intro w hSw; (try dsimp only at hSw); go_simp; try (with_reducible rfl))
    try simp only [Act.put, List.getElem_toArray, List.getElem_cons_zero, List.getElem_cons_succ, List.setIfInBounds_toArray, List.set_cons_zero, List.set_cons_succ]
    refine sink_take 3 (v := ?_) rfl (by kernel_rfl) (by kernel_rfl) (by kernel_rfl) (by kernel_rfl) (by rfl) (fun _ _ _ h => h) (by assumption) ?_ ?_; rotate_left; (intro w hSw; (try dsimp only at hSw); go_simp; try (with_reducible rfl))
    try simp only [Act.put, List.getElem_toArray, List.getElem_cons_zero, List.getElem_cons_succ, List.setIfInBounds_toArray, List.set_cons_zero, List.set_cons_succ]
    refine sink_take 4 (v := ?_) rfl (by kernel_rfl) (by kernel_rfl) (by kernel_rfl) (by kernel_rfl) (by rfl) (fun _ _ _ h => h) (by assumption) ?_ ?_; rotate_left; (intro w hSw; (try dsimp only at hSw); go_simp; try (with_reducible rfl))
    try simp only [Act.put, List.getElem_toArray, List.getElem_cons_zero, List.getElem_cons_succ, List.setIfInBounds_toArray, List.set_cons_zero, List.set_cons_succ]
    refine sink_take 5 (v := ?_) rfl (by kernel_rfl) (by kernel_rfl) (by kernel_rfl) (by kernel_rfl) (by rfl) (fun _ _ _ h => h) (by assumption) ?_ ?_; rotate_left; (intro w hSw; (try dsimp only at hSw); go_simp; try (with_reducible rfl))
    try simp only [Act.put, List.getElem_toArray, List.getElem_cons_zero, List.getElem_cons_succ, List.setIfInBounds_toArray, List.set_cons_zero, List.set_cons_succ]
    refine sink_take 7 (v := ?_) rfl (by kernel_rfl) (by kernel_rfl) (by kernel_rfl) (by kernel_rfl) (by rfl) (fun _ _ _ h => h) (by assumption) ?_ ?_; rotate_left; (intro w hSw; (try dsimp only at hSw); go_simp; try (with_reducible rfl))
    try simp only [Act.put, List.getElem_toArray, List.getElem_cons_zero, List.getElem_cons_succ, List.setIfInBounds_toArray, List.set_cons_zero, List.set_cons_succ]
    refine sink_take 8 (v := ?_) rfl (by kernel_rfl) (by kernel_rfl) (by kernel_rfl) (by kernel_rfl) (by rfl) (fun _ _ _ h => h) (by assumption) ?_ ?_; rotate_left; (intro w hSw; (try dsimp only at hSw); go_simp; try (with_reducible rfl))
    try simp only [Act.put, List.getElem_toArray, List.getElem_cons_zero, List.getElem_cons_succ, List.setIfInBounds_toArray, List.set_cons_zero, List.set_cons_succ]
    refine sink_take 9 (v := ?_) rfl (by kernel_rfl) (by kernel_rfl) (by kernel_rfl) (by kernel_rfl) (by rfl) (fun _ _ _ h => h) (by assumption) ?_ ?_; rotate_left; (intro w hSw; (try dsimp only at hSw); go_simp; try (with_reducible rfl))
    try simp only [Act.put, List.getElem_toArray, List.getElem_cons_zero, List.getElem_cons_succ, List.setIfInBounds_toArray, List.set_cons_zero, List.set_cons_succ]
    refine sink_take 10 (v := ?_) rfl (by kernel_rfl) (by kernel_rfl) (by kernel_rfl) (by kernel_rfl) (by rfl) (fun _ _ _ h => h) (by assumption) ?_ ?_; rotate_left; (intro w hSw; (try dsimp only at hSw); go_simp; try (with_reducible rfl))
    try simp only [Act.put, List.getElem_toArray, List.getElem_cons_zero, List.getElem_cons_succ, List.setIfInBounds_toArray, List.set_cons_zero, List.set_cons_succ]
    refine sink_take 11 (v := ?_) rfl (by kernel_rfl) (by kernel_rfl) (by kernel_rfl) (by kernel_rfl) (by rfl) (fun _ _ _ h => h) (by assumption) ?_ ?_; rotate_left; (intro w hSw; (try dsimp only at hSw); go_simp; try (with_reducible rfl))
    try simp only [Act.put, List.getElem_toArray, List.getElem_cons_zero, List.getElem_cons_succ, List.setIfInBounds_toArray, List.set_cons_zero, List.set_cons_succ]
    refine sink_one (i := 6) (by kernel_rfl) rfl (fun K hK => ?_)
    go_simp
    go_at_call 103; refine (CX.out _ hB0).mono ?_; rintro e w5 ⟨va5, vp5, rfl, ho5, hb⟩; have hB5 := carry_below hB0 (Nat.le_refl _) hb; obtain ⟨ga, gc, gp, gd, rfl, rfl⟩ := ho5.read.open; have HO5 := Lib.hid ho5; clear ho5 hb
    refine hK.out _ _ (fun _ => HSS.out _ hB5) (fun hHeld => ?_)
    have hHeld := hHeld (by decide)
    clear hK K
    try simp only [Act.put, List.getElem_toArray, List.getElem_cons_zero, List.getElem_cons_succ, List.setIfInBounds_toArray, List.set_cons_zero, List.set_cons_succ]
    refine sink_one (i := 12) (by kernel_rfl) rfl (fun K hK => ?_)
    go_simp
    go_at_call 103; refine (CY.out _ hB5).mono ?_; rintro e w6 ⟨va6, vp6, rfl, ho6, hb⟩; have hB6 := carry_below hB5 (Nat.le_refl _) hb; have HP6 := Lib.hid (FOwn.kept HO5.out hb); obtain ⟨ka, kc, kp, kd, rfl, rfl⟩ := ho6.read.open; have HO6 := Lib.hid ho6; have hz6 := hb.size; clear ho6 hb
    refine hK.out _ _ (fun _ => HSS.out _ hB6) (fun hHeld => ?_)
    have hHeld := hHeld (by decide)
    clear hK K
    try simp only [Act.put, List.getElem_toArray, List.getElem_cons_zero, List.getElem_cons_succ, List.setIfInBounds_toArray, List.set_cons_zero, List.set_cons_succ]
    refine sink_one (i := 13) (by kernel_rfl) rfl (fun K hK => ?_)
    go_simp
    go_at_call 150; refine (pair_any _ _ _ (Fresh WA.drew w5) (Fresh w5 w6) w6 _ _ _ _ HP6.out HO6.out (fun q h1 h2 => by have := h1.2; have := h2.1; omega) (fun q hq => by have := hq.2; omega) (fun q hq => hq.2)).mono ?_; rintro e w9 ⟨vp9, rfl, ho, hb⟩; have hB9 := carry_below hB6 (Nat.le_refl _) hb; have hb9 := hb.size; obtain ⟨u, hu⟩ : ∃ u, u = Fm.node (t.op) zT ⟨#[]⟩ [x.nnf (!true), y.nnf (!true)] := ⟨_, rfl⟩; rw [← hu] at ho; have HUU := Lib.hid hu; clear hu; obtain ⟨pq, cq, rfl⟩ : ∃ p c, vp9 = .slice p u.parts.length c := ho.read.2.is_slice; obtain ⟨r0, r1, r2, r3, r4, r5⟩ := HRA.out.kept hB9; have hrl : w.heap.size + 1 < w9.heap.size := World.block_lt_of_cell? w9 ⟨w.heap.size + 1, 0, none⟩ r0
    refine hK.out _ _ (fun _ => HSS.out _ hB9) (fun hHeld => ?_)
    have hHeld := hHeld (by decide)
    clear hK K
    try simp only [Act.put, List.getElem_toArray, List.getElem_cons_zero, List.getElem_cons_succ, List.setIfInBounds_toArray, List.set_cons_zero, List.set_cons_succ]
    refine sink_one (i := 14) (by kernel_rfl) rfl (fun K hK => ?_)
    go_simp
    refine hK.out _ _ (fun hne => absurd rfl hne) (fun hHeld => ?_)
    clear hK K
    try simp only [Act.put, List.getElem_toArray, List.getElem_cons_zero, List.getElem_cons_succ, List.setIfInBounds_toArray, List.set_cons_zero, List.set_cons_succ]
    refine sink_done (by kernel_rfl) ?_ _
    clear r0 r1 r2 r3 r4 r5
    have HB6 := Lib.hid (carry_below HBA.out (Nat.le_refl _) hB6)
    have HR6 := Lib.hid (HRA.out.kept hB6)
    have hb6 := hB6.size
    have HU : Hid (t.nnf (!true) = u) := Lib.hid (by rw [HUU.out]; exact HU0.out)
    have HO := Lib.hid ho
    have HB9 := Lib.hid (carry_below HB6.out (Nat.le_refl _) hb)
    have HRS := Lib.hid (HR6.out.kept hb)
    have hb9 := hb.size
    have HSB : Hid (∀ q, (fun q => (Fresh WA.drew w5 q ∨ Fresh w5 w6 q) ∨ Fresh w6 w9 q) q → w.heap.size ≤ q ∧ q < w9.heap.size) := Lib.hid (fun q hq => by
      have := HSA.out
      have h5 := hB5.size; rcases hq with (hq | hq) | hq
      · have h1 := hq.1; have h2 := hq.2; have h3 : WA.drew.heap.size = WA.heap.size := rfl; exact ⟨by omega, by omega⟩
      · have h1 := hq.1; have h2 := hq.2; exact ⟨by omega, by omega⟩
      · have h1 := hq.1; have h2 := hq.2; exact ⟨by omega, by omega⟩)
    have HN1 : Hid (¬ (fun q => (Fresh WA.drew w5 q ∨ Fresh w5 w6 q) ∨ Fresh w6 w9 q) (w.heap.size + 1)) := Lib.hid (fun hq => by
      have := HSA.out
      have h5 := hB5.size; rcases hq with (hq | hq) | hq
      · have h1 := hq.1; have h3 : WA.drew.heap.size = WA.heap.size := rfl; omega
      · have h1 := hq.1; omega
      · have h1 := hq.1; omega)
    have HUP : Hid (u.op = t.op ∧ u.atom.name = ⟨#[]⟩ ∧ u.var = ⟨#[]⟩) := Lib.hid (by rw [HUU.out]; exact ⟨rfl, rfl, rfl⟩)
    clear hb ho
    obtain ⟨r0, r1, r2, r3, r4, r5⟩ := HRS.out
    go_wp2
    have HR9 : Hid (FivB (((((w9.setCell ⟨w.heap.size + 1, 0, none⟩ (.int .i64 (t.op))).setCell ⟨w.heap.size + 1, 1, none⟩ (.string ⟨#[]⟩)).setCell ⟨w.heap.size + 1, 2, none⟩ (.slice none 0 0)).setCell ⟨w.heap.size + 1, 3, none⟩ (.string ⟨#[]⟩)).setCell ⟨w.heap.size + 1, 4, none⟩ (.slice pq u.parts.length cq)) (w.heap.size + 1) (.int .i64 (t.op)) (.string ⟨#[]⟩) (.slice none 0 0) (.string ⟨#[]⟩) (.slice pq u.parts.length cq)) := Lib.hid (((((HRS.out.set0 _).set1 _).set2 _).set3 _).set4 _)
    clear r0 r1 r2 r3 r4 r5
    obtain ⟨r0, r1, r2, r3, r4, r5⟩ := HR9.out
    refine bodyPost_ret (v := .agg #[.int .i64 (t.op), .string ⟨#[]⟩, .slice none 0 0, .string ⟨#[]⟩, .slice pq u.parts.length cq]) (by simp [results, Try.results103, go_sem, r0, r1, r2, r3, r4]) rfl ⟨.slice none 0 0, .slice pq u.parts.length cq, by first | rw [HU.out, HUP.out.1, HUP.out.2.1, HUP.out.2.2] | rw [show t.nnf false = u from HU.out, HUP.out.1, HUP.out.2.1, HUP.out.2.2] | rw [show t.nnf true = u from HU.out, HUP.out.1, HUP.out.2.1, HUP.out.2.2], ?_, ?_⟩
    · first | rw [HU.out] | rw [show t.nnf false = u from HU.out] | rw [show t.nnf true = u from HU.out]
      exact (((((HO.out.setCell HN1.out _).setCell HN1.out _).setCell HN1.out _).setCell HN1.out _).setCell HN1.out _).mono fun q hq => ⟨(HSB.out q hq).1, by simp only [size_setCell]; exact (HSB.out q hq).2⟩
    · exact ((((HB9.out.setCell (by simp) _).setCell (by simp) _).setCell (by simp) _).setCell (by simp) _).setCell (by simp) _

  | false =>
    obtain ⟨x, y, hs, hvar⟩ := form57 HFM.out (by omega)
    have HU0 : Hid (t.nnf (!false) = .node (11 - t.op) zT ⟨#[]⟩ [x.nnf (!false), y.nnf (!false)]) := Lib.hid (bin_nnf hs hvar (by omega) (by rw [ho]; decide) (by rw [ho]; decide) (by rw [ho]; rfl))
    have hl2 : 1 < t.parts.length := by rw [hs]; simp
    have hl1 : 0 < t.parts.length := by omega
    have hl3 : (1 : Int) < (t.parts.length : Int) := by omega
    have hl4 : decide ((1 : Int) < (t.parts.length : Int)) = true := by simpa using hl3
    obtain ⟨b, off, e, vxa, vxp, hcx, hxa, hxp⟩ := HV.out.2.get (k := 0) (t := x) (by rw [hs]; rfl)
    subst e
    obtain ⟨b', off', e, vya, vyp, hcy, hya, hyp⟩ := HV.out.2.get (k := 1) (t := y) (by rw [hs]; rfl)
    obtain ⟨rfl, rfl⟩ : b = b' ∧ off = off' := by simpa using e
    clear e
    obtain ⟨xa, xc, xp, xd, rfl, rfl⟩ := FmV.open (t := x) ⟨hxa, hxp⟩
    obtain ⟨ya, yc, yp, yd, rfl, rfl⟩ := FmV.open (t := y) ⟨hya, hyp⟩
    have hxm : x ∈ t.parts := by rw [hs]; simp
    have hym : y ∈ t.parts := by rw [hs]; simp
    have CX : Hid (∀ W, Below WA.heap.size WA W → Calls Try.prog 103 #[.agg #[.int .i64 x.op, .string x.atom.name, .slice xa x.atom.args.length xc, .string x.var, .slice xp x.parts.length xd], .bool false] W (ToFmEnd (x.nnf (!false)) W)) := Lib.hid (fun W hW => H.out x hxm W _ _ false (FmV.kept (t := x) ⟨hxa, hxp⟩ (carry_below HBA.out (Nat.le_refl _) hW)) (HFP.out x hxm) (Nat.le_trans (Fm.wt_part hxm) HW.out))
    have CY : Hid (∀ W, Below WA.heap.size WA W → Calls Try.prog 103 #[.agg #[.int .i64 y.op, .string y.atom.name, .slice ya y.atom.args.length yc, .string y.var, .slice yp y.parts.length yd], .bool false] W (ToFmEnd (y.nnf (!false)) W)) := Lib.hid (fun W hW => H.out y hym W _ _ false (FmV.kept (t := y) ⟨hya, hyp⟩ (carry_below HBA.out (Nat.le_refl _) hW)) (HFP.out y hym) (Nat.le_trans (Fm.wt_part hym) HW.out))
    have HSS : Hid (∀ w' : World, Below WA.heap.size WA w' → w'.cell? ⟨w.heap.size, 4, none⟩ = some (.slice (some ⟨b, off, none⟩) t.parts.length cp) ∧ w'.cell? ⟨b, off, none⟩ = some (.int .i64 x.op) ∧ w'.cell? ⟨b, off + 1, none⟩ = some (.string x.atom.name) ∧ w'.cell? ⟨b, off + 2, none⟩ = some (.slice xa x.atom.args.length xc) ∧ w'.cell? ⟨b, off + 3, none⟩ = some (.string x.var) ∧ w'.cell? ⟨b, off + 4, none⟩ = some (.slice xp x.parts.length xd) ∧ w'.cell? ⟨b, off + 5, none⟩ = some (.int .i64 y.op) ∧ w'.cell? ⟨b, off + 6, none⟩ = some (.string y.atom.name) ∧ w'.cell? ⟨b, off + 7, none⟩ = some (.slice ya y.atom.args.length yc) ∧ w'.cell? ⟨b, off + 8, none⟩ = some (.string y.var) ∧ w'.cell? ⟨b, off + 9, none⟩ = some (.slice yp y.parts.length yd)) := Lib.hid (fun w' hW => by
      obtain ⟨d0, d1, d2, d3, d4, d5⟩ := HFA.out.kept hW
      obtain ⟨c0, c1, c2, c3, c4⟩ : Fiv w' b off (.int .i64 x.op) (.string x.atom.name) (.slice xa x.atom.args.length xc) (.string x.var) (.slice xp x.parts.length xd) := by simpa using hcx.kept (carry_below HBA.out (Nat.le_refl _) hW)
      obtain ⟨e0, e1, e2, e3, e4⟩ : Fiv w' b (off + 5) (.int .i64 y.op) (.string y.atom.name) (.slice ya y.atom.args.length yc) (.string y.var) (.slice yp y.parts.length yd) := by simpa using hcy.kept (carry_below HBA.out (Nat.le_refl _) hW)
      exact ⟨d4, c0, c1, c2, c3, c4, e0, e1, e2, e3, e4⟩)
    have o1 := op_not (show t.op ≠ 1 by omega)
    have o2 := op_not (show t.op ≠ 2 by omega)
    have o3 := op_not (show t.op ≠ 3 by omega)
    have o4 := op_not (show t.op ≠ 4 by omega)
    have o5 := op_not (show t.op ≠ 5 by omega)
    have o6 := op_is ho
    have o7 := op_not (show t.op ≠ 7 by omega)
    have ob1 : 5 ≤ t.op := by omega
    have ob2 : t.op ≤ 7 := by omega
    obtain ⟨d0, d1, d2, d3, d4, d5⟩ := HFA.out
    rw [hWA] at d0 d1 d2 d3 d4 d5
    clear ho hs hcx hcy hxa hxp hya hyp hxm hym HFM HFP H hvar
    go_enter Try.func103, Try.ntmps103
    go_upto_region 22 with fail
    rw [← hWA]
    clear hWA d0 d1 d2 d3 d4 d5 o1 o2 o3 o4 o5 o6 o7
    have hB0 : Below WA.heap.size WA WA.drew := (Below.refl _ _).drew
    refine sink_start 14 (fun w' => w'.cell? ⟨w.heap.size, 4, none⟩ = some (.slice (some ⟨b, off, none⟩) t.parts.length cp) ∧ w'.cell? ⟨b, off, none⟩ = some (.int .i64 x.op) ∧ w'.cell? ⟨b, off + 1, none⟩ = some (.string x.atom.name) ∧ w'.cell? ⟨b, off + 2, none⟩ = some (.slice xa x.atom.args.length xc) ∧ w'.cell? ⟨b, off + 3, none⟩ = some (.string x.var) ∧ w'.cell? ⟨b, off + 4, none⟩ = some (.slice xp x.parts.length xd) ∧ w'.cell? ⟨b, off + 5, none⟩ = some (.int .i64 y.op) ∧ w'.cell? ⟨b, off + 6, none⟩ = some (.string y.atom.name) ∧ w'.cell? ⟨b, off + 7, none⟩ = some (.slice ya y.atom.args.length yc) ∧ w'.cell? ⟨b, off + 8, none⟩ = some (.string y.var) ∧ w'.cell? ⟨b, off + 9, none⟩ = some (.slice yp y.parts.length yd)) (by kernel_rfl) (HSS.out _ hB0) (fun hHeld => ?_)
    refine sink_take 0 (v := ?_) rfl (by kernel_rfl) (by kernel_rfl) (by kernel_rfl) (by kernel_rfl) (by rfl) (fun _ _ _ h => h) (by assumption) ?_ ?_; rotate_left; (intro w hSw; (try dsimp only at hSw); go_simp; try (with_reducible rfl))
    try simp only [Act.put, List.getElem_toArray, List.getElem_cons_zero, List.getElem_cons_succ, List.setIfInBounds_toArray, List.set_cons_zero, List.set_cons_succ]
    refine sink_take 1 (v := ?_) rfl (by kernel_rfl) (by kernel_rfl) (by kernel_rfl) (by kernel_rfl) (by rfl) (fun _ _ _ h => h) (by assumption) ?_ ?_; rotate_left; (intro w hSw; (try dsimp only at hSw); go_simp; try (with_reducible rfl))
    try simp only [Act.put, List.getElem_toArray, List.getElem_cons_zero, List.getElem_cons_succ, List.setIfInBounds_toArray, List.set_cons_zero, List.set_cons_succ]
    refine sink_take 2 (v := ?_) rfl (by kernel_rfl) (by kernel_rfl) (by kernel_rfl) (by kernel_rfl) (by rfl) (fun _ _ _ h => h) (by assumption) ?_ ?_; rotate_left; (intro w hSw; (try dsimp only at hSw); go_simp; try (with_reducible rfl))
    try simp only [Act.put, List.getElem_toArray, List.getElem_cons_zero, List.getElem_cons_succ, List.setIfInBounds_toArray, List.set_cons_zero, List.set_cons_succ]
    refine sink_take 3 (v := ?_) rfl (by kernel_rfl) (by kernel_rfl) (by kernel_rfl) (by kernel_rfl) (by rfl) (fun _ _ _ h => h) (by assumption) ?_ ?_; rotate_left; (intro w hSw; (try dsimp only at hSw); go_simp; try (with_reducible rfl))
    try simp only [Act.put, List.getElem_toArray, List.getElem_cons_zero, List.getElem_cons_succ, List.setIfInBounds_toArray, List.set_cons_zero, List.set_cons_succ]
    refine sink_take 4 (v := ?_) rfl (by kernel_rfl) (by kernel_rfl) (by kernel_rfl) (by kernel_rfl) (by rfl) (fun _ _ _ h => h) (by assumption) ?_ ?_; rotate_left; (intro w hSw; (try dsimp only at hSw); go_simp; try (with_reducible rfl))
    try simp only [Act.put, List.getElem_toArray, List.getElem_cons_zero, List.getElem_cons_succ, List.setIfInBounds_toArray, List.set_cons_zero, List.set_cons_succ]
    refine sink_take 5 (v := ?_) rfl (by kernel_rfl) (by kernel_rfl) (by kernel_rfl) (by kernel_rfl) (by rfl) (fun _ _ _ h => h) (by assumption) ?_ ?_; rotate_left; (intro w hSw; (try dsimp only at hSw); go_simp; try (with_reducible rfl))
    try simp only [Act.put, List.getElem_toArray, List.getElem_cons_zero, List.getElem_cons_succ, List.setIfInBounds_toArray, List.set_cons_zero, List.set_cons_succ]
    refine sink_take 7 (v := ?_) rfl (by kernel_rfl) (by kernel_rfl) (by kernel_rfl) (by kernel_rfl) (by rfl) (fun _ _ _ h => h) (by assumption) ?_ ?_; rotate_left; (intro w hSw; (try dsimp only at hSw); go_simp; try (with_reducible rfl))
    try simp only [Act.put, List.getElem_toArray, List.getElem_cons_zero, List.getElem_cons_succ, List.setIfInBounds_toArray, List.set_cons_zero, List.set_cons_succ]
    refine sink_take 8 (v := ?_) rfl (by kernel_rfl) (by kernel_rfl) (by kernel_rfl) (by kernel_rfl) (by rfl) (fun _ _ _ h => h) (by assumption) ?_ ?_; rotate_left; (intro w hSw; (try dsimp only at hSw); go_simp; try (with_reducible rfl))
    try simp only [Act.put, List.getElem_toArray, List.getElem_cons_zero, List.getElem_cons_succ, List.setIfInBounds_toArray, List.set_cons_zero, List.set_cons_succ]
    refine sink_take 9 (v := ?_) rfl (by kernel_rfl) (by kernel_rfl) (by kernel_rfl) (by kernel_rfl) (by rfl) (fun _ _ _ h => h) (by assumption) ?_ ?_; rotate_left; (intro w hSw; (try dsimp only at hSw); go_simp; try (with_reducible rfl))
    try simp only [Act.put, List.getElem_toArray, List.getElem_cons_zero, List.getElem_cons_succ, List.setIfInBounds_toArray, List.set_cons_zero, List.set_cons_succ]
    refine sink_take 10 (v := ?_) rfl (by kernel_rfl) (by kernel_rfl) (by kernel_rfl) (by kernel_rfl) (by rfl) (fun _ _ _ h => h) (by assumption) ?_ ?_; rotate_left; (intro w hSw; (try dsimp only at hSw); go_simp; try (with_reducible rfl))
    try simp only [Act.put, List.getElem_toArray, List.getElem_cons_zero, List.getElem_cons_succ, List.setIfInBounds_toArray, List.set_cons_zero, List.set_cons_succ]
    refine sink_take 11 (v := ?_) rfl (by kernel_rfl) (by kernel_rfl) (by kernel_rfl) (by kernel_rfl) (by rfl) (fun _ _ _ h => h) (by assumption) ?_ ?_; rotate_left; (intro w hSw; (try dsimp only at hSw); go_simp; try (with_reducible rfl))
    try simp only [Act.put, List.getElem_toArray, List.getElem_cons_zero, List.getElem_cons_succ, List.setIfInBounds_toArray, List.set_cons_zero, List.set_cons_succ]
    refine sink_one (i := 6) (by kernel_rfl) rfl (fun K hK => ?_)
    go_simp
    go_at_call 103; refine (CX.out _ hB0).mono ?_; rintro e w5 ⟨va5, vp5, rfl, ho5, hb⟩; have hB5 := carry_below hB0 (Nat.le_refl _) hb; obtain ⟨ga, gc, gp, gd, rfl, rfl⟩ := ho5.read.open; have HO5 := Lib.hid ho5; clear ho5 hb
    refine hK.out _ _ (fun _ => HSS.out _ hB5) (fun hHeld => ?_)
    have hHeld := hHeld (by decide)
    clear hK K
    try simp only [Act.put, List.getElem_toArray, List.getElem_cons_zero, List.getElem_cons_succ, List.setIfInBounds_toArray, List.set_cons_zero, List.set_cons_succ]
    refine sink_one (i := 12) (by kernel_rfl) rfl (fun K hK => ?_)
    go_simp
    go_at_call 103; refine (CY.out _ hB5).mono ?_; rintro e w6 ⟨va6, vp6, rfl, ho6, hb⟩; have hB6 := carry_below hB5 (Nat.le_refl _) hb; have HP6 := Lib.hid (FOwn.kept HO5.out hb); obtain ⟨ka, kc, kp, kd, rfl, rfl⟩ := ho6.read.open; have HO6 := Lib.hid ho6; have hz6 := hb.size; clear ho6 hb
    refine hK.out _ _ (fun _ => HSS.out _ hB6) (fun hHeld => ?_)
    have hHeld := hHeld (by decide)
    clear hK K
    try simp only [Act.put, List.getElem_toArray, List.getElem_cons_zero, List.getElem_cons_succ, List.setIfInBounds_toArray, List.set_cons_zero, List.set_cons_succ]
    refine sink_one (i := 13) (by kernel_rfl) rfl (fun K hK => ?_)
    go_simp
    go_at_call 150; refine (pair_any _ _ _ (Fresh WA.drew w5) (Fresh w5 w6) w6 _ _ _ _ HP6.out HO6.out (fun q h1 h2 => by have := h1.2; have := h2.1; omega) (fun q hq => by have := hq.2; omega) (fun q hq => hq.2)).mono ?_; rintro e w9 ⟨vp9, rfl, ho, hb⟩; have hB9 := carry_below hB6 (Nat.le_refl _) hb; have hb9 := hb.size; obtain ⟨u, hu⟩ : ∃ u, u = Fm.node (11 - t.op) zT ⟨#[]⟩ [x.nnf (!false), y.nnf (!false)] := ⟨_, rfl⟩; rw [← hu] at ho; have HUU := Lib.hid hu; clear hu; obtain ⟨pq, cq, rfl⟩ : ∃ p c, vp9 = .slice p u.parts.length c := ho.read.2.is_slice; obtain ⟨r0, r1, r2, r3, r4, r5⟩ := HRA.out.kept hB9; have hrl : w.heap.size + 1 < w9.heap.size := World.block_lt_of_cell? w9 ⟨w.heap.size + 1, 0, none⟩ r0
    refine hK.out _ _ (fun _ => HSS.out _ hB9) (fun hHeld => ?_)
    have hHeld := hHeld (by decide)
    clear hK K
    try simp only [Act.put, List.getElem_toArray, List.getElem_cons_zero, List.getElem_cons_succ, List.setIfInBounds_toArray, List.set_cons_zero, List.set_cons_succ]
    refine sink_one (i := 14) (by kernel_rfl) rfl (fun K hK => ?_)
    go_simp
    refine hK.out _ _ (fun hne => absurd rfl hne) (fun hHeld => ?_)
    clear hK K
    try simp only [Act.put, List.getElem_toArray, List.getElem_cons_zero, List.getElem_cons_succ, List.setIfInBounds_toArray, List.set_cons_zero, List.set_cons_succ]
    refine sink_done (by kernel_rfl) ?_ _
    clear r0 r1 r2 r3 r4 r5
    have HB6 := Lib.hid (carry_below HBA.out (Nat.le_refl _) hB6)
    have HR6 := Lib.hid (HRA.out.kept hB6)
    have hb6 := hB6.size
    have HU : Hid (t.nnf (!false) = u) := Lib.hid (by rw [HUU.out]; exact HU0.out)
    have HO := Lib.hid ho
    have HB9 := Lib.hid (carry_below HB6.out (Nat.le_refl _) hb)
    have HRS := Lib.hid (HR6.out.kept hb)
    have hb9 := hb.size
    have HSB : Hid (∀ q, (fun q => (Fresh WA.drew w5 q ∨ Fresh w5 w6 q) ∨ Fresh w6 w9 q) q → w.heap.size ≤ q ∧ q < w9.heap.size) := Lib.hid (fun q hq => by
      have := HSA.out
      have h5 := hB5.size; rcases hq with (hq | hq) | hq
      · have h1 := hq.1; have h2 := hq.2; have h3 : WA.drew.heap.size = WA.heap.size := rfl; exact ⟨by omega, by omega⟩
      · have h1 := hq.1; have h2 := hq.2; exact ⟨by omega, by omega⟩
      · have h1 := hq.1; have h2 := hq.2; exact ⟨by omega, by omega⟩)
    have HN1 : Hid (¬ (fun q => (Fresh WA.drew w5 q ∨ Fresh w5 w6 q) ∨ Fresh w6 w9 q) (w.heap.size + 1)) := Lib.hid (fun hq => by
      have := HSA.out
      have h5 := hB5.size; rcases hq with (hq | hq) | hq
      · have h1 := hq.1; have h3 : WA.drew.heap.size = WA.heap.size := rfl; omega
      · have h1 := hq.1; omega
      · have h1 := hq.1; omega)
    have HUP : Hid (u.op = 11 - t.op ∧ u.atom.name = ⟨#[]⟩ ∧ u.var = ⟨#[]⟩) := Lib.hid (by rw [HUU.out]; exact ⟨rfl, rfl, rfl⟩)
    clear hb ho
    obtain ⟨r0, r1, r2, r3, r4, r5⟩ := HRS.out
    go_wp2
    have HR9 : Hid (FivB (((((w9.setCell ⟨w.heap.size + 1, 0, none⟩ (.int .i64 (11 - t.op))).setCell ⟨w.heap.size + 1, 1, none⟩ (.string ⟨#[]⟩)).setCell ⟨w.heap.size + 1, 2, none⟩ (.slice none 0 0)).setCell ⟨w.heap.size + 1, 3, none⟩ (.string ⟨#[]⟩)).setCell ⟨w.heap.size + 1, 4, none⟩ (.slice pq u.parts.length cq)) (w.heap.size + 1) (.int .i64 (11 - t.op)) (.string ⟨#[]⟩) (.slice none 0 0) (.string ⟨#[]⟩) (.slice pq u.parts.length cq)) := Lib.hid (((((HRS.out.set0 _).set1 _).set2 _).set3 _).set4 _)
    clear r0 r1 r2 r3 r4 r5
    obtain ⟨r0, r1, r2, r3, r4, r5⟩ := HR9.out
    refine bodyPost_ret (v := .agg #[.int .i64 (11 - t.op), .string ⟨#[]⟩, .slice none 0 0, .string ⟨#[]⟩, .slice pq u.parts.length cq]) (by simp [results, Try.results103, go_sem, r0, r1, r2, r3, r4]) rfl ⟨.slice none 0 0, .slice pq u.parts.length cq, by first | rw [HU.out, HUP.out.1, HUP.out.2.1, HUP.out.2.2] | rw [show t.nnf false = u from HU.out, HUP.out.1, HUP.out.2.1, HUP.out.2.2] | rw [show t.nnf true = u from HU.out, HUP.out.1, HUP.out.2.1, HUP.out.2.2], ?_, ?_⟩
    · first | rw [HU.out] | rw [show t.nnf false = u from HU.out] | rw [show t.nnf true = u from HU.out]
      exact (((((HO.out.setCell HN1.out _).setCell HN1.out _).setCell HN1.out _).setCell HN1.out _).setCell HN1.out _).mono fun q hq => ⟨(HSB.out q hq).1, by simp only [size_setCell]; exact (HSB.out q hq).2⟩
    · exact ((((HB9.out.setCell (by simp) _).setCell (by simp) _).setCell (by simp) _).setCell (by simp) _).setCell (by simp) _

set_option maxRecDepth 100000 in
set_option maxHeartbeats 8000000 in
theorem nn_7 (t : Fm) (h : ∀ s ∈ t.parts, NnT s) (ho : t.op = 7) (w : World) (va vp : Value) (p : Bool) (hv : FmV w va vp t) (hf : t.formsB = true) (hw : t.wt ≤ 1048576) :
    Calls Try.prog 103 #[.agg #[.int .i64 t.op, .string t.atom.name, va, .string t.var, vp], .bool p] w (ToFmEnd (t.nnf (!p)) w) := by
  have H := Lib.hid h
  have HW := Lib.hid hw
  have HFP := Lib.hid (forms_parts hf).2
  have HFM := Lib.hid (forms_parts hf).1
  have hlen : t.parts.length ≤ 1048576 := Nat.le_trans t.wt_len hw
  obtain ⟨pa, ca, pp, cp, rfl, rfl⟩ := hv.open
  have HV := Lib.hid hv
  obtain ⟨WA, hWA⟩ : ∃ W, W = (w.alloc (.cells #[.int .i64 t.op, .string t.atom.name, .slice pa t.atom.args.length ca, .string t.var, .slice pp t.parts.length cp] 68)).alloc (.cells #[.int .i64 0, .string ⟨#[]⟩, .slice none 0 0, .string ⟨#[]⟩, .slice none 0 0] 68) := ⟨_, rfl⟩
  have HFA : Hid (FivB WA w.heap.size (.int .i64 t.op) (.string t.atom.name) (.slice pa t.atom.args.length ca) (.string t.var) (.slice pp t.parts.length cp)) := Lib.hid (by rw [hWA]; exact (fivB_new w (.int .i64 t.op) (.string t.atom.name) (.slice pa t.atom.args.length ca) (.string t.var) (.slice pp t.parts.length cp) 68 _ rfl).alloc _)
  have HRA : Hid (FivB WA (w.heap.size + 1) (.int .i64 0) (.string ⟨#[]⟩) (.slice none 0 0) (.string ⟨#[]⟩) (.slice none 0 0)) := Lib.hid (by rw [hWA]; exact fivB_new _ (.int .i64 0) (.string ⟨#[]⟩) (.slice none 0 0) (.string ⟨#[]⟩) (.slice none 0 0) 68 _ (by simp))
  have HBA : Hid (Below w.heap.size w WA) := Lib.hid (by rw [hWA]; exact ((Below.refl _ _).alloc (Nat.le_refl _) _).alloc (by simp) _)
  have HSA : Hid (WA.heap.size = w.heap.size + 1 + 1) := Lib.hid (by rw [hWA]; simp)
  clear hv hw h hf
  cases p with
  | true =>
    obtain ⟨x, y, hs, hvar⟩ := form57 HFM.out (by omega)
    have HU0 : Hid (t.nnf (!true) = .node (6) zT ⟨#[]⟩ [x.nnf (!false), y.nnf (!true)]) := Lib.hid (bin_nnf hs hvar (by omega) (by rw [ho]; decide) (by rw [ho]; decide) (by rw [ho]; rfl))
    have hl2 : 1 < t.parts.length := by rw [hs]; simp
    have hl1 : 0 < t.parts.length := by omega
    have hl3 : (1 : Int) < (t.parts.length : Int) := by omega
    have hl4 : decide ((1 : Int) < (t.parts.length : Int)) = true := by simpa using hl3
    obtain ⟨b, off, e, vxa, vxp, hcx, hxa, hxp⟩ := HV.out.2.get (k := 0) (t := x) (by rw [hs]; rfl)
    subst e
    obtain ⟨b', off', e, vya, vyp, hcy, hya, hyp⟩ := HV.out.2.get (k := 1) (t := y) (by rw [hs]; rfl)
    obtain ⟨rfl, rfl⟩ : b = b' ∧ off = off' := by simpa using e
    clear e
    obtain ⟨xa, xc, xp, xd, rfl, rfl⟩ := FmV.open (t := x) ⟨hxa, hxp⟩
    obtain ⟨ya, yc, yp, yd, rfl, rfl⟩ := FmV.open (t := y) ⟨hya, hyp⟩
    have hxm : x ∈ t.parts := by rw [hs]; simp
    have hym : y ∈ t.parts := by rw [hs]; simp
    have CX : Hid (∀ W, Below WA.heap.size WA W → Calls Try.prog 103 #[.agg #[.int .i64 x.op, .string x.atom.name, .slice xa x.atom.args.length xc, .string x.var, .slice xp x.parts.length xd], .bool false] W (ToFmEnd (x.nnf (!false)) W)) := Lib.hid (fun W hW => H.out x hxm W _ _ false (FmV.kept (t := x) ⟨hxa, hxp⟩ (carry_below HBA.out (Nat.le_refl _) hW)) (HFP.out x hxm) (Nat.le_trans (Fm.wt_part hxm) HW.out))
    have CY : Hid (∀ W, Below WA.heap.size WA W → Calls Try.prog 103 #[.agg #[.int .i64 y.op, .string y.atom.name, .slice ya y.atom.args.length yc, .string y.var, .slice yp y.parts.length yd], .bool true] W (ToFmEnd (y.nnf (!true)) W)) := Lib.hid (fun W hW => H.out y hym W _ _ true (FmV.kept (t := y) ⟨hya, hyp⟩ (carry_below HBA.out (Nat.le_refl _) hW)) (HFP.out y hym) (Nat.le_trans (Fm.wt_part hym) HW.out))
    have HSS : Hid (∀ w' : World, Below WA.heap.size WA w' → w'.cell? ⟨w.heap.size, 4, none⟩ = some (.slice (some ⟨b, off, none⟩) t.parts.length cp) ∧ w'.cell? ⟨b, off, none⟩ = some (.int .i64 x.op) ∧ w'.cell? ⟨b, off + 1, none⟩ = some (.string x.atom.name) ∧ w'.cell? ⟨b, off + 2, none⟩ = some (.slice xa x.atom.args.length xc) ∧ w'.cell? ⟨b, off + 3, none⟩ = some (.string x.var) ∧ w'.cell? ⟨b, off + 4, none⟩ = some (.slice xp x.parts.length xd) ∧ w'.cell? ⟨b, off + 5, none⟩ = some (.int .i64 y.op) ∧ w'.cell? ⟨b, off + 6, none⟩ = some (.string y.atom.name) ∧ w'.cell? ⟨b, off + 7, none⟩ = some (.slice ya y.atom.args.length yc) ∧ w'.cell? ⟨b, off + 8, none⟩ = some (.string y.var) ∧ w'.cell? ⟨b, off + 9, none⟩ = some (.slice yp y.parts.length yd)) := Lib.hid (fun w' hW => by
      obtain ⟨d0, d1, d2, d3, d4, d5⟩ := HFA.out.kept hW
      obtain ⟨c0, c1, c2, c3, c4⟩ : Fiv w' b off (.int .i64 x.op) (.string x.atom.name) (.slice xa x.atom.args.length xc) (.string x.var) (.slice xp x.parts.length xd) := by simpa using hcx.kept (carry_below HBA.out (Nat.le_refl _) hW)
      obtain ⟨e0, e1, e2, e3, e4⟩ : Fiv w' b (off + 5) (.int .i64 y.op) (.string y.atom.name) (.slice ya y.atom.args.length yc) (.string y.var) (.slice yp y.parts.length yd) := by simpa using hcy.kept (carry_below HBA.out (Nat.le_refl _) hW)
      exact ⟨d4, c0, c1, c2, c3, c4, e0, e1, e2, e3, e4⟩)
    have o1 := op_not (show t.op ≠ 1 by omega)
    have o2 := op_not (show t.op ≠ 2 by omega)
    have o3 := op_not (show t.op ≠ 3 by omega)
    have o4 := op_not (show t.op ≠ 4 by omega)
    have o5 := op_not (show t.op ≠ 5 by omega)
    have o6 := op_not (show t.op ≠ 6 by omega)
    have o7 := op_is ho
    have ob1 : 5 ≤ t.op := by omega
    have ob2 : t.op ≤ 7 := by omega
    obtain ⟨d0, d1, d2, d3, d4, d5⟩ := HFA.out
    rw [hWA] at d0 d1 d2 d3 d4 d5
    clear ho hs hcx hcy hxa hxp hya hyp hxm hym HFM HFP H hvar
    go_enter Try.func103, Try.ntmps103
    go_upto_region 15 with fail
    rw [← hWA]
    clear hWA d0 d1 d2 d3 d4 d5 o1 o2 o3 o4 o5 o6 o7
    have hB0 : Below WA.heap.size WA WA.drew := (Below.refl _ _).drew
    refine sink_start 11 (fun w' => w'.cell? ⟨w.heap.size, 4, none⟩ = some (.slice (some ⟨b, off, none⟩) t.parts.length cp) ∧ w'.cell? ⟨b, off, none⟩ = some (.int .i64 x.op) ∧ w'.cell? ⟨b, off + 1, none⟩ = some (.string x.atom.name) ∧ w'.cell? ⟨b, off + 2, none⟩ = some (.slice xa x.atom.args.length xc) ∧ w'.cell? ⟨b, off + 3, none⟩ = some (.string x.var) ∧ w'.cell? ⟨b, off + 4, none⟩ = some (.slice xp x.parts.length xd) ∧ w'.cell? ⟨b, off + 5, none⟩ = some (.int .i64 y.op) ∧ w'.cell? ⟨b, off + 6, none⟩ = some (.string y.atom.name) ∧ w'.cell? ⟨b, off + 7, none⟩ = some (.slice ya y.atom.args.length yc) ∧ w'.cell? ⟨b, off + 8, none⟩ = some (.string y.var) ∧ w'.cell? ⟨b, off + 9, none⟩ = some (.slice yp y.parts.length yd)) (by kernel_rfl) (HSS.out _ hB0) (fun hHeld => ?_)
    refine sink_take 0 (v := ?_) rfl (by kernel_rfl) (by kernel_rfl) (by kernel_rfl) (by kernel_rfl) (by rfl) (fun _ _ _ h => h) (by assumption) ?_ ?_; rotate_left; (intro w hSw; (try dsimp only at hSw); go_simp; try (with_reducible rfl))
    try simp only [Act.put, List.getElem_toArray, List.getElem_cons_zero, List.getElem_cons_succ, List.setIfInBounds_toArray, List.set_cons_zero, List.set_cons_succ]
    refine sink_take 1 (v := ?_) rfl (by kernel_rfl) (by kernel_rfl) (by kernel_rfl) (by kernel_rfl) (by rfl) (fun _ _ _ h => h) (by assumption) ?_ ?_; rotate_left; (intro w hSw; (try dsimp only at hSw); go_simp; try (with_reducible rfl))
    try simp only [Act.put, List.getElem_toArray, List.getElem_cons_zero, List.getElem_cons_succ, List.setIfInBounds_toArray, List.set_cons_zero, List.set_cons_succ]
    refine sink_take 2 (v := ?_) rfl (by kernel_rfl) (by kernel_rfl) (by kernel_rfl) (by kernel_rfl) (by rfl) (fun _ _ _ h => h) (by assumption) ?_ ?_; rotate_left; (intro w hSw; (try dsimp only at hSw); go_simp; try (with_reducible rfl))
    try simp only [Act.put, List.getElem_toArray, List.getElem_cons_zero, List.getElem_cons_succ, List.setIfInBounds_toArray, List.set_cons_zero, List.set_cons_succ]
    refine sink_take 3 (v := ?_) rfl (by kernel_rfl) (by kernel_rfl) (by kernel_rfl) (by kernel_rfl) (by rfl) (fun _ _ _ h => h) (by assumption) ?_ ?_; rotate_left; (intro w hSw; (try dsimp only at hSw); go_simp; try (with_reducible rfl))
    try simp only [Act.put, List.getElem_toArray, List.getElem_cons_zero, List.getElem_cons_succ, List.setIfInBounds_toArray, List.set_cons_zero, List.set_cons_succ]
    refine sink_take 5 (v := ?_) rfl (by kernel_rfl) (by kernel_rfl) (by kernel_rfl) (by kernel_rfl) (by rfl) (fun _ _ _ h => h) (by assumption) ?_ ?_; rotate_left; (intro w hSw; (try dsimp only at hSw); go_simp; try (with_reducible rfl))
    try simp only [Act.put, List.getElem_toArray, List.getElem_cons_zero, List.getElem_cons_succ, List.setIfInBounds_toArray, List.set_cons_zero, List.set_cons_succ]
    refine sink_take 6 (v := ?_) rfl (by kernel_rfl) (by kernel_rfl) (by kernel_rfl) (by kernel_rfl) (by rfl) (fun _ _ _ h => h) (by assumption) ?_ ?_; rotate_left; (intro w hSw; (try dsimp only at hSw); go_simp; try (with_reducible rfl))
    try simp only [Act.put, List.getElem_toArray, List.getElem_cons_zero, List.getElem_cons_succ, List.setIfInBounds_toArray, List.set_cons_zero, List.set_cons_succ]
    refine sink_take 7 (v := ?_) rfl (by kernel_rfl) (by kernel_rfl) (by kernel_rfl) (by kernel_rfl) (by rfl) (fun _ _ _ h => h) (by assumption) ?_ ?_; rotate_left; (intro w hSw; (try dsimp only at hSw); go_simp; try (with_reducible rfl))
    try simp only [Act.put, List.getElem_toArray, List.getElem_cons_zero, List.getElem_cons_succ, List.setIfInBounds_toArray, List.set_cons_zero, List.set_cons_succ]
    refine sink_take 8 (v := ?_) rfl (by kernel_rfl) (by kernel_rfl) (by kernel_rfl) (by kernel_rfl) (by rfl) (fun _ _ _ h => h) (by assumption) ?_ ?_; rotate_left; (intro w hSw; (try dsimp only at hSw); go_simp; try (with_reducible rfl))
    try simp only [Act.put, List.getElem_toArray, List.getElem_cons_zero, List.getElem_cons_succ, List.setIfInBounds_toArray, List.set_cons_zero, List.set_cons_succ]
    refine sink_one (i := 4) (by kernel_rfl) rfl (fun K hK => ?_)
    go_simp
    go_at_call 103; refine (CX.out _ hB0).mono ?_; rintro e w5 ⟨va5, vp5, rfl, ho5, hb⟩; have hB5 := carry_below hB0 (Nat.le_refl _) hb; obtain ⟨ga, gc, gp, gd, rfl, rfl⟩ := ho5.read.open; have HO5 := Lib.hid ho5; clear ho5 hb
    refine hK.out _ _ (fun _ => HSS.out _ hB5) (fun hHeld => ?_)
    have hHeld := hHeld (by decide)
    clear hK K
    try simp only [Act.put, List.getElem_toArray, List.getElem_cons_zero, List.getElem_cons_succ, List.setIfInBounds_toArray, List.set_cons_zero, List.set_cons_succ]
    refine sink_one (i := 9) (by kernel_rfl) rfl (fun K hK => ?_)
    go_simp
    go_at_call 103; refine (CY.out _ hB5).mono ?_; rintro e w6 ⟨va6, vp6, rfl, ho6, hb⟩; have hB6 := carry_below hB5 (Nat.le_refl _) hb; have HP6 := Lib.hid (FOwn.kept HO5.out hb); obtain ⟨ka, kc, kp, kd, rfl, rfl⟩ := ho6.read.open; have HO6 := Lib.hid ho6; have hz6 := hb.size; clear ho6 hb
    refine hK.out _ _ (fun _ => HSS.out _ hB6) (fun hHeld => ?_)
    have hHeld := hHeld (by decide)
    clear hK K
    try simp only [Act.put, List.getElem_toArray, List.getElem_cons_zero, List.getElem_cons_succ, List.setIfInBounds_toArray, List.set_cons_zero, List.set_cons_succ]
    refine sink_one (i := 10) (by kernel_rfl) rfl (fun K hK => ?_)
    go_simp
    go_at_call 150; refine (pair_any _ _ _ (Fresh WA.drew w5) (Fresh w5 w6) w6 _ _ _ _ HP6.out HO6.out (fun q h1 h2 => by have := h1.2; have := h2.1; omega) (fun q hq => by have := hq.2; omega) (fun q hq => hq.2)).mono ?_; rintro e w9 ⟨vp9, rfl, ho, hb⟩; have hB9 := carry_below hB6 (Nat.le_refl _) hb; have hb9 := hb.size; obtain ⟨u, hu⟩ : ∃ u, u = Fm.node (6) zT ⟨#[]⟩ [x.nnf (!false), y.nnf (!true)] := ⟨_, rfl⟩; rw [← hu] at ho; have HUU := Lib.hid hu; clear hu; obtain ⟨pq, cq, rfl⟩ : ∃ p c, vp9 = .slice p u.parts.length c := ho.read.2.is_slice; obtain ⟨r0, r1, r2, r3, r4, r5⟩ := HRA.out.kept hB9; have hrl : w.heap.size + 1 < w9.heap.size := World.block_lt_of_cell? w9 ⟨w.heap.size + 1, 0, none⟩ r0
    refine hK.out _ _ (fun _ => HSS.out _ hB9) (fun hHeld => ?_)
    have hHeld := hHeld (by decide)
    clear hK K
    try simp only [Act.put, List.getElem_toArray, List.getElem_cons_zero, List.getElem_cons_succ, List.setIfInBounds_toArray, List.set_cons_zero, List.set_cons_succ]
    refine sink_one (i := 11) (by kernel_rfl) rfl (fun K hK => ?_)
    go_simp
    refine hK.out _ _ (fun hne => absurd rfl hne) (fun hHeld => ?_)
    clear hK K
    try simp only [Act.put, List.getElem_toArray, List.getElem_cons_zero, List.getElem_cons_succ, List.setIfInBounds_toArray, List.set_cons_zero, List.set_cons_succ]
    refine sink_done (by kernel_rfl) ?_ _
    clear r0 r1 r2 r3 r4 r5
    have HB6 := Lib.hid (carry_below HBA.out (Nat.le_refl _) hB6)
    have HR6 := Lib.hid (HRA.out.kept hB6)
    have hb6 := hB6.size
    have HU : Hid (t.nnf (!true) = u) := Lib.hid (by rw [HUU.out]; exact HU0.out)
    have HO := Lib.hid ho
    have HB9 := Lib.hid (carry_below HB6.out (Nat.le_refl _) hb)
    have HRS := Lib.hid (HR6.out.kept hb)
    have hb9 := hb.size
    have HSB : Hid (∀ q, (fun q => (Fresh WA.drew w5 q ∨ Fresh w5 w6 q) ∨ Fresh w6 w9 q) q → w.heap.size ≤ q ∧ q < w9.heap.size) := Lib.hid (fun q hq => by
      have := HSA.out
      have h5 := hB5.size; rcases hq with (hq | hq) | hq
      · have h1 := hq.1; have h2 := hq.2; have h3 : WA.drew.heap.size = WA.heap.size := rfl; exact ⟨by omega, by omega⟩
      · have h1 := hq.1; have h2 := hq.2; exact ⟨by omega, by omega⟩
      · have h1 := hq.1; have h2 := hq.2; exact ⟨by omega, by omega⟩)
    have HN1 : Hid (¬ (fun q => (Fresh WA.drew w5 q ∨ Fresh w5 w6 q) ∨ Fresh w6 w9 q) (w.heap.size + 1)) := Lib.hid (fun hq => by
      have := HSA.out
      have h5 := hB5.size; rcases hq with (hq | hq) | hq
      · have h1 := hq.1; have h3 : WA.drew.heap.size = WA.heap.size := rfl; omega
      · have h1 := hq.1; omega
      · have h1 := hq.1; omega)
    have HUP : Hid (u.op = 6 ∧ u.atom.name = ⟨#[]⟩ ∧ u.var = ⟨#[]⟩) := Lib.hid (by rw [HUU.out]; exact ⟨rfl, rfl, rfl⟩)
    clear hb ho
    obtain ⟨r0, r1, r2, r3, r4, r5⟩ := HRS.out
    go_wp2
    have HR9 : Hid (FivB (((((w9.setCell ⟨w.heap.size + 1, 0, none⟩ (.int .i64 (6))).setCell ⟨w.heap.size + 1, 1, none⟩ (.string ⟨#[]⟩)).setCell ⟨w.heap.size + 1, 2, none⟩ (.slice none 0 0)).setCell ⟨w.heap.size + 1, 3, none⟩ (.string ⟨#[]⟩)).setCell ⟨w.heap.size + 1, 4, none⟩ (.slice pq u.parts.length cq)) (w.heap.size + 1) (.int .i64 (6)) (.string ⟨#[]⟩) (.slice none 0 0) (.string ⟨#[]⟩) (.slice pq u.parts.length cq)) := Lib.hid (((((HRS.out.set0 _).set1 _).set2 _).set3 _).set4 _)
    clear r0 r1 r2 r3 r4 r5
    obtain ⟨r0, r1, r2, r3, r4, r5⟩ := HR9.out
    refine bodyPost_ret (v := .agg #[.int .i64 (6), .string ⟨#[]⟩, .slice none 0 0, .string ⟨#[]⟩, .slice pq u.parts.length cq]) (by simp [results, Try.results103, go_sem, r0, r1, r2, r3, r4]) rfl ⟨.slice none 0 0, .slice pq u.parts.length cq, by first | rw [HU.out, HUP.out.1, HUP.out.2.1, HUP.out.2.2] | rw [show t.nnf false = u from HU.out, HUP.out.1, HUP.out.2.1, HUP.out.2.2] | rw [show t.nnf true = u from HU.out, HUP.out.1, HUP.out.2.1, HUP.out.2.2], ?_, ?_⟩
    · first | rw [HU.out] | rw [show t.nnf false = u from HU.out] | rw [show t.nnf true = u from HU.out]
      exact (((((HO.out.setCell HN1.out _).setCell HN1.out _).setCell HN1.out _).setCell HN1.out _).setCell HN1.out _).mono fun q hq => ⟨(HSB.out q hq).1, by simp only [size_setCell]; exact (HSB.out q hq).2⟩
    · exact ((((HB9.out.setCell (by simp) _).setCell (by simp) _).setCell (by simp) _).setCell (by simp) _).setCell (by simp) _

  | false =>
    obtain ⟨x, y, hs, hvar⟩ := form57 HFM.out (by omega)
    have HU0 : Hid (t.nnf (!false) = .node (5) zT ⟨#[]⟩ [x.nnf (!true), y.nnf (!false)]) := Lib.hid (bin_nnf hs hvar (by omega) (by rw [ho]; decide) (by rw [ho]; decide) (by rw [ho]; rfl))
    have hl2 : 1 < t.parts.length := by rw [hs]; simp
    have hl1 : 0 < t.parts.length := by omega
    have hl3 : (1 : Int) < (t.parts.length : Int) := by omega
    have hl4 : decide ((1 : Int) < (t.parts.length : Int)) = true := by simpa using hl3
    obtain ⟨b, off, e, vxa, vxp, hcx, hxa, hxp⟩ := HV.out.2.get (k := 0) (t := x) (by rw [hs]; rfl)
    subst e
    obtain ⟨b', off', e, vya, vyp, hcy, hya, hyp⟩ := HV.out.2.get (k := 1) (t := y) (by rw [hs]; rfl)
    obtain ⟨rfl, rfl⟩ : b = b' ∧ off = off' := by simpa using e
    clear e
    obtain ⟨xa, xc, xp, xd, rfl, rfl⟩ := FmV.open (t := x) ⟨hxa, hxp⟩
    obtain ⟨ya, yc, yp, yd, rfl, rfl⟩ := FmV.open (t := y) ⟨hya, hyp⟩
    have hxm : x ∈ t.parts := by rw [hs]; simp
    have hym : y ∈ t.parts := by rw [hs]; simp
    have CX : Hid (∀ W, Below WA.heap.size WA W → Calls Try.prog 103 #[.agg #[.int .i64 x.op, .string x.atom.name, .slice xa x.atom.args.length xc, .string x.var, .slice xp x.parts.length xd], .bool true] W (ToFmEnd (x.nnf (!true)) W)) := Lib.hid (fun W hW => H.out x hxm W _ _ true (FmV.kept (t := x) ⟨hxa, hxp⟩ (carry_below HBA.out (Nat.le_refl _) hW)) (HFP.out x hxm) (Nat.le_trans (Fm.wt_part hxm) HW.out))
    have CY : Hid (∀ W, Below WA.heap.size WA W → Calls Try.prog 103 #[.agg #[.int .i64 y.op, .string y.atom.name, .slice ya y.atom.args.length yc, .string y.var, .slice yp y.parts.length yd], .bool false] W (ToFmEnd (y.nnf (!false)) W)) := Lib.hid (fun W hW => H.out y hym W _ _ false (FmV.kept (t := y) ⟨hya, hyp⟩ (carry_below HBA.out (Nat.le_refl _) hW)) (HFP.out y hym) (Nat.le_trans (Fm.wt_part hym) HW.out))
    have HSS : Hid (∀ w' : World, Below WA.heap.size WA w' → w'.cell? ⟨w.heap.size, 4, none⟩ = some (.slice (some ⟨b, off, none⟩) t.parts.length cp) ∧ w'.cell? ⟨b, off, none⟩ = some (.int .i64 x.op) ∧ w'.cell? ⟨b, off + 1, none⟩ = some (.string x.atom.name) ∧ w'.cell? ⟨b, off + 2, none⟩ = some (.slice xa x.atom.args.length xc) ∧ w'.cell? ⟨b, off + 3, none⟩ = some (.string x.var) ∧ w'.cell? ⟨b, off + 4, none⟩ = some (.slice xp x.parts.length xd) ∧ w'.cell? ⟨b, off + 5, none⟩ = some (.int .i64 y.op) ∧ w'.cell? ⟨b, off + 6, none⟩ = some (.string y.atom.name) ∧ w'.cell? ⟨b, off + 7, none⟩ = some (.slice ya y.atom.args.length yc) ∧ w'.cell? ⟨b, off + 8, none⟩ = some (.string y.var) ∧ w'.cell? ⟨b, off + 9, none⟩ = some (.slice yp y.parts.length yd)) := Lib.hid (fun w' hW => by
      obtain ⟨d0, d1, d2, d3, d4, d5⟩ := HFA.out.kept hW
      obtain ⟨c0, c1, c2, c3, c4⟩ : Fiv w' b off (.int .i64 x.op) (.string x.atom.name) (.slice xa x.atom.args.length xc) (.string x.var) (.slice xp x.parts.length xd) := by simpa using hcx.kept (carry_below HBA.out (Nat.le_refl _) hW)
      obtain ⟨e0, e1, e2, e3, e4⟩ : Fiv w' b (off + 5) (.int .i64 y.op) (.string y.atom.name) (.slice ya y.atom.args.length yc) (.string y.var) (.slice yp y.parts.length yd) := by simpa using hcy.kept (carry_below HBA.out (Nat.le_refl _) hW)
      exact ⟨d4, c0, c1, c2, c3, c4, e0, e1, e2, e3, e4⟩)
    have o1 := op_not (show t.op ≠ 1 by omega)
    have o2 := op_not (show t.op ≠ 2 by omega)
    have o3 := op_not (show t.op ≠ 3 by omega)
    have o4 := op_not (show t.op ≠ 4 by omega)
    have o5 := op_not (show t.op ≠ 5 by omega)
    have o6 := op_not (show t.op ≠ 6 by omega)
    have o7 := op_is ho
    have ob1 : 5 ≤ t.op := by omega
    have ob2 : t.op ≤ 7 := by omega
    obtain ⟨d0, d1, d2, d3, d4, d5⟩ := HFA.out
    rw [hWA] at d0 d1 d2 d3 d4 d5
    clear ho hs hcx hcy hxa hxp hya hyp hxm hym HFM HFP H hvar
    go_enter Try.func103, Try.ntmps103
    go_upto_region 16 with fail
    rw [← hWA]
    clear hWA d0 d1 d2 d3 d4 d5 o1 o2 o3 o4 o5 o6 o7
    have hB0 : Below WA.heap.size WA WA.drew := (Below.refl _ _).drew
    refine sink_start 11 (fun w' => w'.cell? ⟨w.heap.size, 4, none⟩ = some (.slice (some ⟨b, off, none⟩) t.parts.length cp) ∧ w'.cell? ⟨b, off, none⟩ = some (.int .i64 x.op) ∧ w'.cell? ⟨b, off + 1, none⟩ = some (.string x.atom.name) ∧ w'.cell? ⟨b, off + 2, none⟩ = some (.slice xa x.atom.args.length xc) ∧ w'.cell? ⟨b, off + 3, none⟩ = some (.string x.var) ∧ w'.cell? ⟨b, off + 4, none⟩ = some (.slice xp x.parts.length xd) ∧ w'.cell? ⟨b, off + 5, none⟩ = some (.int .i64 y.op) ∧ w'.cell? ⟨b, off + 6, none⟩ = some (.string y.atom.name) ∧ w'.cell? ⟨b, off + 7, none⟩ = some (.slice ya y.atom.args.length yc) ∧ w'.cell? ⟨b, off + 8, none⟩ = some (.string y.var) ∧ w'.cell? ⟨b, off + 9, none⟩ = some (.slice yp y.parts.length yd)) (by kernel_rfl) (HSS.out _ hB0) (fun hHeld => ?_)
    refine sink_take 0 (v := ?_) rfl (by kernel_rfl) (by kernel_rfl) (by kernel_rfl) (by kernel_rfl) (by rfl) (fun _ _ _ h => h) (by assumption) ?_ ?_; rotate_left; (intro w hSw; (try dsimp only at hSw); go_simp; try (with_reducible rfl))
    try simp only [Act.put, List.getElem_toArray, List.getElem_cons_zero, List.getElem_cons_succ, List.setIfInBounds_toArray, List.set_cons_zero, List.set_cons_succ]
    refine sink_take 1 (v := ?_) rfl (by kernel_rfl) (by kernel_rfl) (by kernel_rfl) (by kernel_rfl) (by rfl) (fun _ _ _ h => h) (by assumption) ?_ ?_; rotate_left; (intro w hSw; (try dsimp only at hSw); go_simp; try (with_reducible rfl))
    try simp only [Act.put, List.getElem_toArray, List.getElem_cons_zero, List.getElem_cons_succ, List.setIfInBounds_toArray, List.set_cons_zero, List.set_cons_succ]
    refine sink_take 2 (v := ?_) rfl (by kernel_rfl) (by kernel_rfl) (by kernel_rfl) (by kernel_rfl) (by rfl) (fun _ _ _ h => h) (by assumption) ?_ ?_; rotate_left; (intro w hSw; (try dsimp only at hSw); go_simp; try (with_reducible rfl))
    try simp only [Act.put, List.getElem_toArray, List.getElem_cons_zero, List.getElem_cons_succ, List.setIfInBounds_toArray, List.set_cons_zero, List.set_cons_succ]
    refine sink_take 3 (v := ?_) rfl (by kernel_rfl) (by kernel_rfl) (by kernel_rfl) (by kernel_rfl) (by rfl) (fun _ _ _ h => h) (by assumption) ?_ ?_; rotate_left; (intro w hSw; (try dsimp only at hSw); go_simp; try (with_reducible rfl))
    try simp only [Act.put, List.getElem_toArray, List.getElem_cons_zero, List.getElem_cons_succ, List.setIfInBounds_toArray, List.set_cons_zero, List.set_cons_succ]
    refine sink_take 5 (v := ?_) rfl (by kernel_rfl) (by kernel_rfl) (by kernel_rfl) (by kernel_rfl) (by rfl) (fun _ _ _ h => h) (by assumption) ?_ ?_; rotate_left; (intro w hSw; (try dsimp only at hSw); go_simp; try (with_reducible rfl))
    try simp only [Act.put, List.getElem_toArray, List.getElem_cons_zero, List.getElem_cons_succ, List.setIfInBounds_toArray, List.set_cons_zero, List.set_cons_succ]
    refine sink_take 6 (v := ?_) rfl (by kernel_rfl) (by kernel_rfl) (by kernel_rfl) (by kernel_rfl) (by rfl) (fun _ _ _ h => h) (by assumption) ?_ ?_; rotate_left; (intro w hSw; (try dsimp only at hSw); go_simp; try (with_reducible rfl))
    try simp only [Act.put, List.getElem_toArray, List.getElem_cons_zero, List.getElem_cons_succ, List.setIfInBounds_toArray, List.set_cons_zero, List.set_cons_succ]
    refine sink_take 7 (v := ?_) rfl (by kernel_rfl) (by kernel_rfl) (by kernel_rfl) (by kernel_rfl) (by rfl) (fun _ _ _ h => h) (by assumption) ?_ ?_; rotate_left; (intro w hSw; (try dsimp only at hSw); go_simp; try (with_reducible rfl))
    try simp only [Act.put, List.getElem_toArray, List.getElem_cons_zero, List.getElem_cons_succ, List.setIfInBounds_toArray, List.set_cons_zero, List.set_cons_succ]
    refine sink_take 8 (v := ?_) rfl (by kernel_rfl) (by kernel_rfl) (by kernel_rfl) (by kernel_rfl) (by rfl) (fun _ _ _ h => h) (by assumption) ?_ ?_; rotate_left; (intro w hSw; (try dsimp only at hSw); go_simp; try (with_reducible rfl))
    try simp only [Act.put, List.getElem_toArray, List.getElem_cons_zero, List.getElem_cons_succ, List.setIfInBounds_toArray, List.set_cons_zero, List.set_cons_succ]
    refine sink_one (i := 4) (by kernel_rfl) rfl (fun K hK => ?_)
    go_simp
    go_at_call 103; refine (CX.out _ hB0).mono ?_; rintro e w5 ⟨va5, vp5, rfl, ho5, hb⟩; have hB5 := carry_below hB0 (Nat.le_refl _) hb; obtain ⟨ga, gc, gp, gd, rfl, rfl⟩ := ho5.read.open; have HO5 := Lib.hid ho5; clear ho5 hb
    refine hK.out _ _ (fun _ => HSS.out _ hB5) (fun hHeld => ?_)
    have hHeld := hHeld (by decide)
    clear hK K
    try simp only [Act.put, List.getElem_toArray, List.getElem_cons_zero, List.getElem_cons_succ, List.setIfInBounds_toArray, List.set_cons_zero, List.set_cons_succ]
    refine sink_one (i := 9) (by kernel_rfl) rfl (fun K hK => ?_)
    go_simp
    go_at_call 103; refine (CY.out _ hB5).mono ?_; rintro e w6 ⟨va6, vp6, rfl, ho6, hb⟩; have hB6 := carry_below hB5 (Nat.le_refl _) hb; have HP6 := Lib.hid (FOwn.kept HO5.out hb); obtain ⟨ka, kc, kp, kd, rfl, rfl⟩ := ho6.read.open; have HO6 := Lib.hid ho6; have hz6 := hb.size; clear ho6 hb
    refine hK.out _ _ (fun _ => HSS.out _ hB6) (fun hHeld => ?_)
    have hHeld := hHeld (by decide)
    clear hK K
    try simp only [Act.put, List.getElem_toArray, List.getElem_cons_zero, List.getElem_cons_succ, List.setIfInBounds_toArray, List.set_cons_zero, List.set_cons_succ]
    refine sink_one (i := 10) (by kernel_rfl) rfl (fun K hK => ?_)
    go_simp
    go_at_call 150; refine (pair_any _ _ _ (Fresh WA.drew w5) (Fresh w5 w6) w6 _ _ _ _ HP6.out HO6.out (fun q h1 h2 => by have := h1.2; have := h2.1; omega) (fun q hq => by have := hq.2; omega) (fun q hq => hq.2)).mono ?_; rintro e w9 ⟨vp9, rfl, ho, hb⟩; have hB9 := carry_below hB6 (Nat.le_refl _) hb; have hb9 := hb.size; obtain ⟨u, hu⟩ : ∃ u, u = Fm.node (5) zT ⟨#[]⟩ [x.nnf (!true), y.nnf (!false)] := ⟨_, rfl⟩; rw [← hu] at ho; have HUU := Lib.hid hu; clear hu; obtain ⟨pq, cq, rfl⟩ : ∃ p c, vp9 = .slice p u.parts.length c := ho.read.2.is_slice; obtain ⟨r0, r1, r2, r3, r4, r5⟩ := HRA.out.kept hB9; have hrl : w.heap.size + 1 < w9.heap.size := World.block_lt_of_cell? w9 ⟨w.heap.size + 1, 0, none⟩ r0
    refine hK.out _ _ (fun _ => HSS.out _ hB9) (fun hHeld => ?_)
    have hHeld := hHeld (by decide)
    clear hK K
    try simp only [Act.put, List.getElem_toArray, List.getElem_cons_zero, List.getElem_cons_succ, List.setIfInBounds_toArray, List.set_cons_zero, List.set_cons_succ]
    refine sink_one (i := 11) (by kernel_rfl) rfl (fun K hK => ?_)
    go_simp
    refine hK.out _ _ (fun hne => absurd rfl hne) (fun hHeld => ?_)
    clear hK K
    try simp only [Act.put, List.getElem_toArray, List.getElem_cons_zero, List.getElem_cons_succ, List.setIfInBounds_toArray, List.set_cons_zero, List.set_cons_succ]
    refine sink_done (by kernel_rfl) ?_ _
    clear r0 r1 r2 r3 r4 r5
    have HB6 := Lib.hid (carry_below HBA.out (Nat.le_refl _) hB6)
    have HR6 := Lib.hid (HRA.out.kept hB6)
    have hb6 := hB6.size
    have HU : Hid (t.nnf (!false) = u) := Lib.hid (by rw [HUU.out]; exact HU0.out)
    have HO := Lib.hid ho
    have HB9 := Lib.hid (carry_below HB6.out (Nat.le_refl _) hb)
    have HRS := Lib.hid (HR6.out.kept hb)
    have hb9 := hb.size
    have HSB : Hid (∀ q, (fun q => (Fresh WA.drew w5 q ∨ Fresh w5 w6 q) ∨ Fresh w6 w9 q) q → w.heap.size ≤ q ∧ q < w9.heap.size) := Lib.hid (fun q hq => by
      have := HSA.out
      have h5 := hB5.size; rcases hq with (hq | hq) | hq
      · have h1 := hq.1; have h2 := hq.2; have h3 : WA.drew.heap.size = WA.heap.size := rfl; exact ⟨by omega, by omega⟩
      · have h1 := hq.1; have h2 := hq.2; exact ⟨by omega, by omega⟩
      · have h1 := hq.1; have h2 := hq.2; exact ⟨by omega, by omega⟩)
    have HN1 : Hid (¬ (fun q => (Fresh WA.drew w5 q ∨ Fresh w5 w6 q) ∨ Fresh w6 w9 q) (w.heap.size + 1)) := Lib.hid (fun hq => by
      have := HSA.out
      have h5 := hB5.size; rcases hq with (hq | hq) | hq
      · have h1 := hq.1; have h3 : WA.drew.heap.size = WA.heap.size := rfl; omega
      · have h1 := hq.1; omega
      · have h1 := hq.1; omega)
    have HUP : Hid (u.op = 5 ∧ u.atom.name = ⟨#[]⟩ ∧ u.var = ⟨#[]⟩) := Lib.hid (by rw [HUU.out]; exact ⟨rfl, rfl, rfl⟩)
    clear hb ho
    obtain ⟨r0, r1, r2, r3, r4, r5⟩ := HRS.out
    go_wp2
    have HR9 : Hid (FivB (((((w9.setCell ⟨w.heap.size + 1, 0, none⟩ (.int .i64 (5))).setCell ⟨w.heap.size + 1, 1, none⟩ (.string ⟨#[]⟩)).setCell ⟨w.heap.size + 1, 2, none⟩ (.slice none 0 0)).setCell ⟨w.heap.size + 1, 3, none⟩ (.string ⟨#[]⟩)).setCell ⟨w.heap.size + 1, 4, none⟩ (.slice pq u.parts.length cq)) (w.heap.size + 1) (.int .i64 (5)) (.string ⟨#[]⟩) (.slice none 0 0) (.string ⟨#[]⟩) (.slice pq u.parts.length cq)) := Lib.hid (((((HRS.out.set0 _).set1 _).set2 _).set3 _).set4 _)
    clear r0 r1 r2 r3 r4 r5
    obtain ⟨r0, r1, r2, r3, r4, r5⟩ := HR9.out
    refine bodyPost_ret (v := .agg #[.int .i64 (5), .string ⟨#[]⟩, .slice none 0 0, .string ⟨#[]⟩, .slice pq u.parts.length cq]) (by simp [results, Try.results103, go_sem, r0, r1, r2, r3, r4]) rfl ⟨.slice none 0 0, .slice pq u.parts.length cq, by first | rw [HU.out, HUP.out.1, HUP.out.2.1, HUP.out.2.2] | rw [show t.nnf false = u from HU.out, HUP.out.1, HUP.out.2.1, HUP.out.2.2] | rw [show t.nnf true = u from HU.out, HUP.out.1, HUP.out.2.1, HUP.out.2.2], ?_, ?_⟩
    · first | rw [HU.out] | rw [show t.nnf false = u from HU.out] | rw [show t.nnf true = u from HU.out]
      exact (((((HO.out.setCell HN1.out _).setCell HN1.out _).setCell HN1.out _).setCell HN1.out _).setCell HN1.out _).mono fun q hq => ⟨(HSB.out q hq).1, by simp only [size_setCell]; exact (HSB.out q hq).2⟩
    · exact ((((HB9.out.setCell (by simp) _).setCell (by simp) _).setCell (by simp) _).setCell (by simp) _).setCell (by simp) _

set_option maxRecDepth 100000 in
set_option maxHeartbeats 8000000 in
theorem nn_8 (t : Fm) (h : ∀ s ∈ t.parts, NnT s) (ho : t.op = 8) (w : World) (va vp : Value) (p : Bool) (hv : FmV w va vp t) (hf : t.formsB = true) (hw : t.wt ≤ 1048576) :
    Calls Try.prog 103 #[.agg #[.int .i64 t.op, .string t.atom.name, va, .string t.var, vp], .bool p] w (ToFmEnd (t.nnf (!p)) w) := by
  have H := Lib.hid h
  have HW := Lib.hid hw
  have HFP := Lib.hid (forms_parts hf).2
  have HFM := Lib.hid (forms_parts hf).1
  have hlen : t.parts.length ≤ 1048576 := Nat.le_trans t.wt_len hw
  obtain ⟨pa, ca, pp, cp, rfl, rfl⟩ := hv.open
  have HV := Lib.hid hv
  obtain ⟨WA, hWA⟩ : ∃ W, W = (w.alloc (.cells #[.int .i64 t.op, .string t.atom.name, .slice pa t.atom.args.length ca, .string t.var, .slice pp t.parts.length cp] 68)).alloc (.cells #[.int .i64 0, .string ⟨#[]⟩, .slice none 0 0, .string ⟨#[]⟩, .slice none 0 0] 68) := ⟨_, rfl⟩
  have HFA : Hid (FivB WA w.heap.size (.int .i64 t.op) (.string t.atom.name) (.slice pa t.atom.args.length ca) (.string t.var) (.slice pp t.parts.length cp)) := Lib.hid (by rw [hWA]; exact (fivB_new w (.int .i64 t.op) (.string t.atom.name) (.slice pa t.atom.args.length ca) (.string t.var) (.slice pp t.parts.length cp) 68 _ rfl).alloc _)
  have HRA : Hid (FivB WA (w.heap.size + 1) (.int .i64 0) (.string ⟨#[]⟩) (.slice none 0 0) (.string ⟨#[]⟩) (.slice none 0 0)) := Lib.hid (by rw [hWA]; exact fivB_new _ (.int .i64 0) (.string ⟨#[]⟩) (.slice none 0 0) (.string ⟨#[]⟩) (.slice none 0 0) 68 _ (by simp))
  have HBA : Hid (Below w.heap.size w WA) := Lib.hid (by rw [hWA]; exact ((Below.refl _ _).alloc (Nat.le_refl _) _).alloc (by simp) _)
  have HSA : Hid (WA.heap.size = w.heap.size + 1 + 1) := Lib.hid (by rw [hWA]; simp)
  clear hv hw h hf
  cases p with
  | true =>
    obtain ⟨x, hs⟩ := form89 HFM.out (by omega)
    have HU0 : Hid (t.nnf (!true) = .node (t.op) zT t.var [x.nnf (!true)]) := Lib.hid (un_nnf hs (by omega) (by rw [ho]; decide) (by rw [ho]; rfl))
    have hl1 : 0 < t.parts.length := by rw [hs]; simp
    obtain ⟨b, off, e, vxa, vxp, hcx, hxa, hxp⟩ := HV.out.2.get (k := 0) (t := x) (by rw [hs]; rfl)
    subst e
    obtain ⟨xa, xc, xp, xd, rfl, rfl⟩ := FmV.open (t := x) ⟨hxa, hxp⟩
    have hxm : x ∈ t.parts := by rw [hs]; simp
    have CX : Hid (∀ W, Below WA.heap.size WA W → Calls Try.prog 103 #[.agg #[.int .i64 x.op, .string x.atom.name, .slice xa x.atom.args.length xc, .string x.var, .slice xp x.parts.length xd], .bool true] W (ToFmEnd (x.nnf (!true)) W)) := Lib.hid (fun W hW => H.out x hxm W _ _ true (FmV.kept (t := x) ⟨hxa, hxp⟩ (carry_below HBA.out (Nat.le_refl _) hW)) (HFP.out x hxm) (Nat.le_trans (Fm.wt_part hxm) HW.out))
    have HSS : Hid (∀ w' : World, Below WA.heap.size WA w' → w'.cell? ⟨w.heap.size, 3, none⟩ = some (.string t.var) ∧ w'.cell? ⟨w.heap.size, 4, none⟩ = some (.slice (some ⟨b, off, none⟩) t.parts.length cp) ∧ w'.cell? ⟨b, off, none⟩ = some (.int .i64 x.op) ∧ w'.cell? ⟨b, off + 1, none⟩ = some (.string x.atom.name) ∧ w'.cell? ⟨b, off + 2, none⟩ = some (.slice xa x.atom.args.length xc) ∧ w'.cell? ⟨b, off + 3, none⟩ = some (.string x.var) ∧ w'.cell? ⟨b, off + 4, none⟩ = some (.slice xp x.parts.length xd)) := Lib.hid (fun w' hW => by
      obtain ⟨d0, d1, d2, d3, d4, d5⟩ := HFA.out.kept hW
      obtain ⟨c0, c1, c2, c3, c4⟩ : Fiv w' b off (.int .i64 x.op) (.string x.atom.name) (.slice xa x.atom.args.length xc) (.string x.var) (.slice xp x.parts.length xd) := by simpa using hcx.kept (carry_below HBA.out (Nat.le_refl _) hW)
      exact ⟨d3, d4, c0, c1, c2, c3, c4⟩)
    have o1 := op_not (show t.op ≠ 1 by omega)
    have o2 := op_not (show t.op ≠ 2 by omega)
    have o3 := op_not (show t.op ≠ 3 by omega)
    have o4 := op_not (show t.op ≠ 4 by omega)
    have o5 := op_not (show t.op ≠ 5 by omega)
    have o6 := op_not (show t.op ≠ 6 by omega)
    have o7 := op_not (show t.op ≠ 7 by omega)
    have ob1 : 8 ≤ t.op := by omega
    have ob2 : t.op ≤ 9 := by omega
    obtain ⟨d0, d1, d2, d3, d4, d5⟩ := HFA.out
    rw [hWA] at d0 d1 d2 d3 d4 d5
    clear ho hs hcx hxa hxp hxm HFM HFP H
    go_enter Try.func103, Try.ntmps103
    go_upto_region 26 with fail
    rw [← hWA]
    clear hWA d0 d1 d2 d3 d4 d5 o1 o2 o3 o4 o5 o6 o7
    have hB0 : Below WA.heap.size WA WA.drew := (Below.refl _ _).drew
    refine sink_start 11 (fun w' => w'.cell? ⟨w.heap.size, 3, none⟩ = some (.string t.var) ∧ w'.cell? ⟨w.heap.size, 4, none⟩ = some (.slice (some ⟨b, off, none⟩) t.parts.length cp) ∧ w'.cell? ⟨b, off, none⟩ = some (.int .i64 x.op) ∧ w'.cell? ⟨b, off + 1, none⟩ = some (.string x.atom.name) ∧ w'.cell? ⟨b, off + 2, none⟩ = some (.slice xa x.atom.args.length xc) ∧ w'.cell? ⟨b, off + 3, none⟩ = some (.string x.var) ∧ w'.cell? ⟨b, off + 4, none⟩ = some (.slice xp x.parts.length xd)) (by kernel_rfl) (HSS.out _ hB0) (fun hHeld => ?_)
    refine sink_take 0 (v := ?_) rfl (by kernel_rfl) (by kernel_rfl) (by kernel_rfl) (by kernel_rfl) (by rfl) (fun _ _ _ h => h) (by assumption) ?_ ?_; rotate_left; (intro w hSw; (try dsimp only at hSw); go_simp; try (with_reducible rfl))
    try simp only [Act.put, List.getElem_toArray, List.getElem_cons_zero, List.getElem_cons_succ, List.setIfInBounds_toArray, List.set_cons_zero, List.set_cons_succ]
    refine sink_take 1 (v := ?_) rfl (by kernel_rfl) (by kernel_rfl) (by kernel_rfl) (by kernel_rfl) (by rfl) (fun _ _ _ h => h) (by assumption) ?_ ?_; rotate_left; (intro w hSw; (try dsimp only at hSw); go_simp; try (with_reducible rfl))
    try simp only [Act.put, List.getElem_toArray, List.getElem_cons_zero, List.getElem_cons_succ, List.setIfInBounds_toArray, List.set_cons_zero, List.set_cons_succ]
    refine sink_take 2 (v := ?_) rfl (by kernel_rfl) (by kernel_rfl) (by kernel_rfl) (by kernel_rfl) (by rfl) (fun _ _ _ h => h) (by assumption) ?_ ?_; rotate_left; (intro w hSw; (try dsimp only at hSw); go_simp; try (with_reducible rfl))
    try simp only [Act.put, List.getElem_toArray, List.getElem_cons_zero, List.getElem_cons_succ, List.setIfInBounds_toArray, List.set_cons_zero, List.set_cons_succ]
    refine sink_take 3 (v := ?_) rfl (by kernel_rfl) (by kernel_rfl) (by kernel_rfl) (by kernel_rfl) (by rfl) (fun _ _ _ h => h) (by assumption) ?_ ?_; rotate_left; (intro w hSw; (try dsimp only at hSw); go_simp; try (with_reducible rfl))
    try simp only [Act.put, List.getElem_toArray, List.getElem_cons_zero, List.getElem_cons_succ, List.setIfInBounds_toArray, List.set_cons_zero, List.set_cons_succ]
    refine sink_take 4 (v := ?_) rfl (by kernel_rfl) (by kernel_rfl) (by kernel_rfl) (by kernel_rfl) (by rfl) (fun _ _ _ h => h) (by assumption) ?_ ?_; rotate_left; (intro w hSw; (try dsimp only at hSw); go_simp; try (with_reducible rfl))
    try simp only [Act.put, List.getElem_toArray, List.getElem_cons_zero, List.getElem_cons_succ, List.setIfInBounds_toArray, List.set_cons_zero, List.set_cons_succ]
    refine sink_take 5 (v := ?_) rfl (by kernel_rfl) (by kernel_rfl) (by kernel_rfl) (by kernel_rfl) (by rfl) (fun _ _ _ h => h) (by assumption) ?_ ?_; rotate_left; (intro w hSw; (try dsimp only at hSw); go_simp; try (with_reducible rfl))
    try simp only [Act.put, List.getElem_toArray, List.getElem_cons_zero, List.getElem_cons_succ, List.setIfInBounds_toArray, List.set_cons_zero, List.set_cons_succ]
    refine sink_take 6 (v := ?_) rfl (by kernel_rfl) (by kernel_rfl) (by kernel_rfl) (by kernel_rfl) (by rfl) (fun _ _ _ h => h) (by assumption) ?_ ?_; rotate_left; (intro w hSw; (try dsimp only at hSw); go_simp; try (with_reducible rfl))
    try simp only [Act.put, List.getElem_toArray, List.getElem_cons_zero, List.getElem_cons_succ, List.setIfInBounds_toArray, List.set_cons_zero, List.set_cons_succ]
    refine sink_take 7 (v := ?_) rfl (by kernel_rfl) (by kernel_rfl) (by kernel_rfl) (by kernel_rfl) (by rfl) (fun _ _ _ h => h) (by assumption) ?_ ?_; rotate_left; (intro w hSw; (try dsimp only at hSw); go_simp; try (with_reducible rfl))
    try simp only [Act.put, List.getElem_toArray, List.getElem_cons_zero, List.getElem_cons_succ, List.setIfInBounds_toArray, List.set_cons_zero, List.set_cons_succ]
    refine sink_one (i := 8) (by kernel_rfl) rfl (fun K hK => ?_)
    go_simp
    go_at_call 103; refine (CX.out _ hB0).mono ?_; rintro e w5 ⟨va5, vp5, rfl, ho5, hb⟩; obtain ⟨z, hz⟩ : ∃ z, z = x.nnf (!true) := ⟨_, rfl⟩; rw [← hz] at ho5 ⊢; have HZ := Lib.hid hz; clear hz; have hB5 := carry_below hB0 (Nat.le_refl _) hb; obtain ⟨ga, gc, gp, gd, rfl, rfl⟩ := ho5.read.open; have HO5 := Lib.hid ho5; have hz5 := hb.size; obtain ⟨r0, r1, r2, r3, r4, r5⟩ := HRA.out.kept hB5; have hrl : w.heap.size + 1 < w5.heap.size := World.block_lt_of_cell? w5 ⟨w.heap.size + 1, 0, none⟩ r0; clear ho5 hb
    refine hK.out _ _ (fun _ => HSS.out _ hB5) (fun hHeld => ?_)
    have hHeld := hHeld (by decide)
    clear hK K
    try simp only [Act.put, List.getElem_toArray, List.getElem_cons_zero, List.getElem_cons_succ, List.setIfInBounds_toArray, List.set_cons_zero, List.set_cons_succ]
    refine sink_one (i := 9) (by kernel_rfl) rfl (fun K hK => ?_)
    go_simp
    refine hK.out _ _ (fun _ => HSS.out _ (hB5.alloc hB5.size _)) (fun hHeld => ?_)
    have hHeld := hHeld (by decide)
    clear hK K
    try simp only [Act.put, List.getElem_toArray, List.getElem_cons_zero, List.getElem_cons_succ, List.setIfInBounds_toArray, List.set_cons_zero, List.set_cons_succ]
    refine sink_take 10 (v := ?_) rfl (by kernel_rfl) (by kernel_rfl) (by kernel_rfl) (by kernel_rfl) (by rfl) (fun _ _ _ h => h) (by assumption) ?_ ?_; rotate_left; (intro w hSw; (try dsimp only at hSw); go_simp; try (with_reducible rfl))
    try simp only [Act.put, List.getElem_toArray, List.getElem_cons_zero, List.getElem_cons_succ, List.setIfInBounds_toArray, List.set_cons_zero, List.set_cons_succ]
    refine sink_one (i := 11) (by kernel_rfl) rfl (fun K hK => ?_)
    go_simp
    refine hK.out _ _ (fun hne => absurd rfl hne) (fun hHeld => ?_)
    clear hK K
    try simp only [Act.put, List.getElem_toArray, List.getElem_cons_zero, List.getElem_cons_succ, List.setIfInBounds_toArray, List.set_cons_zero, List.set_cons_succ]
    refine sink_done (by kernel_rfl) ?_ _
    clear r0 r1 r2 r3 r4 r5
    have HR5 := Lib.hid (HRA.out.kept hB5)
    have HB5 := Lib.hid (carry_below HBA.out (Nat.le_refl _) hB5)
    have hb5 := hB5.size
    have hsa := HSA.out
    have h3d : WA.drew.heap.size = WA.heap.size := rfl
    have HZU : Hid (t.nnf (!true) = .node (t.op) zT t.var [z]) := Lib.hid (by rw [HZ.out]; exact HU0.out)
    obtain ⟨W6, hW6⟩ : ∃ W6, W6 = (((((w5.setCell ⟨w.heap.size + 1, 0, none⟩ (.int .i64 (t.op))).setCell ⟨w.heap.size + 1, 1, none⟩ (.string ⟨#[]⟩)).setCell ⟨w.heap.size + 1, 2, none⟩ (.slice none 0 0)).setCell ⟨w.heap.size + 1, 3, none⟩ (.string t.var)).setCell ⟨w.heap.size + 1, 4, none⟩ (.slice (some ⟨w5.heap.size, 0, none⟩) 1 1)) := ⟨_, rfl⟩
    obtain ⟨W7, hW7⟩ : ∃ W7, W7 = W6.alloc (.cells #[.int .i64 z.op, .string z.atom.name, .slice ga z.atom.args.length gc, .string z.var, .slice gp z.parts.length gd] 68) := ⟨_, rfl⟩
    rw [← hW6, ← hW7]
    have hz6 : W6.heap.size = w5.heap.size := by rw [hW6]; simp only [size_setCell]
    have hB67 : Below W6.heap.size W6 W7 := by rw [hW7]; exact (Below.refl _ _).alloc (Nat.le_refl _) _
    have hz7 : W7.heap.size = w5.heap.size + 1 := by rw [hW7, World.size_alloc, hz6]
    have hn : ¬ Fresh WA.drew w5 (w.heap.size + 1) := fun h => by have := h.1; omega
    have HR7 : Hid (FivB W7 (w.heap.size + 1) (.int .i64 (t.op)) (.string ⟨#[]⟩) (.slice none 0 0) (.string t.var) (.slice (some ⟨w5.heap.size, 0, none⟩) 1 1)) := Lib.hid (FivB.kept (by rw [hW6]; exact ((((HR5.out.set0 _).set1 _).set2 _).set3 _).set4 _) hB67)
    have HG7 : Hid (FivB W7 w5.heap.size (.int .i64 z.op) (.string z.atom.name) (.slice ga z.atom.args.length gc) (.string z.var) (.slice gp z.parts.length gd)) := Lib.hid (by rw [hW7]; exact fivB_new _ _ _ _ _ _ _ _ hz6.symm)
    have HB7 : Hid (Below w.heap.size w W7) := Lib.hid (carry_below (by rw [hW6]; exact ((((HB5.out.setCell (by simp) _).setCell (by simp) _).setCell (by simp) _).setCell (by simp) _).setCell (by simp) _) (Nat.le_refl _) hB67)
    have HO7 : Hid (FOwn W7 (Fresh WA.drew w5) z (.slice ga z.atom.args.length gc) (.slice gp z.parts.length gd)) := Lib.hid (FOwn.frame (w := W6) (by rw [hW6]; exact ((((HO5.out.setCell hn _).setCell hn _).setCell hn _).setCell hn _).setCell hn _) fun k hk => hB67.block k (by have := hk.2; omega))
    clear hW6 hW7 hB67 hB5
    obtain ⟨r0, r1, r2, r3, r4, r5⟩ := HR7.out
    go_wp2
    refine bodyPost_ret (v := .agg #[.int .i64 (t.op), .string ⟨#[]⟩, .slice none 0 0, .string t.var, .slice (some ⟨w5.heap.size, 0, none⟩) 1 1]) (by simp [results, Try.results103, go_sem, r0, r1, r2, r3, r4]) rfl ⟨.slice none 0 0, .slice (some ⟨w5.heap.size, 0, none⟩) 1 1, ?_, ?_, HB7.out⟩
    · first | rw [HZU.out] | rw [show t.nnf false = _ from HZU.out] | rw [show t.nnf true = _ from HZU.out]
      rfl
    · first | rw [HZU.out] | rw [show t.nnf false = _ from HZU.out] | rw [show t.nnf true = _ from HZU.out]
      exact fown_un HO7.out HG7.out.fiv HG7.out.2.2.2.2.2 (fun h => by have := h.2; omega) (fun k hk => ⟨by have := hk.1; omega, by have := hk.2; omega⟩) ⟨by omega, by omega⟩ (Nat.le_refl _)

  | false =>
    obtain ⟨x, hs⟩ := form89 HFM.out (by omega)
    have HU0 : Hid (t.nnf (!false) = .node (17 - t.op) zT t.var [x.nnf (!false)]) := Lib.hid (un_nnf hs (by omega) (by rw [ho]; decide) (by rw [ho]; rfl))
    have hl1 : 0 < t.parts.length := by rw [hs]; simp
    obtain ⟨b, off, e, vxa, vxp, hcx, hxa, hxp⟩ := HV.out.2.get (k := 0) (t := x) (by rw [hs]; rfl)
    subst e
    obtain ⟨xa, xc, xp, xd, rfl, rfl⟩ := FmV.open (t := x) ⟨hxa, hxp⟩
    have hxm : x ∈ t.parts := by rw [hs]; simp
    have CX : Hid (∀ W, Below WA.heap.size WA W → Calls Try.prog 103 #[.agg #[.int .i64 x.op, .string x.atom.name, .slice xa x.atom.args.length xc, .string x.var, .slice xp x.parts.length xd], .bool false] W (ToFmEnd (x.nnf (!false)) W)) := Lib.hid (fun W hW => H.out x hxm W _ _ false (FmV.kept (t := x) ⟨hxa, hxp⟩ (carry_below HBA.out (Nat.le_refl _) hW)) (HFP.out x hxm) (Nat.le_trans (Fm.wt_part hxm) HW.out))
    have HSS : Hid (∀ w' : World, Below WA.heap.size WA w' → w'.cell? ⟨w.heap.size, 3, none⟩ = some (.string t.var) ∧ w'.cell? ⟨w.heap.size, 4, none⟩ = some (.slice (some ⟨b, off, none⟩) t.parts.length cp) ∧ w'.cell? ⟨b, off, none⟩ = some (.int .i64 x.op) ∧ w'.cell? ⟨b, off + 1, none⟩ = some (.string x.atom.name) ∧ w'.cell? ⟨b, off + 2, none⟩ = some (.slice xa x.atom.args.length xc) ∧ w'.cell? ⟨b, off + 3, none⟩ = some (.string x.var) ∧ w'.cell? ⟨b, off + 4, none⟩ = some (.slice xp x.parts.length xd)) := Lib.hid (fun w' hW => by
      obtain ⟨d0, d1, d2, d3, d4, d5⟩ := HFA.out.kept hW
      obtain ⟨c0, c1, c2, c3, c4⟩ : Fiv w' b off (.int .i64 x.op) (.string x.atom.name) (.slice xa x.atom.args.length xc) (.string x.var) (.slice xp x.parts.length xd) := by simpa using hcx.kept (carry_below HBA.out (Nat.le_refl _) hW)
      exact ⟨d3, d4, c0, c1, c2, c3, c4⟩)
    have o1 := op_not (show t.op ≠ 1 by omega)
    have o2 := op_not (show t.op ≠ 2 by omega)
    have o3 := op_not (show t.op ≠ 3 by omega)
    have o4 := op_not (show t.op ≠ 4 by omega)
    have o5 := op_not (show t.op ≠ 5 by omega)
    have o6 := op_not (show t.op ≠ 6 by omega)
    have o7 := op_not (show t.op ≠ 7 by omega)
    have ob1 : 8 ≤ t.op := by omega
    have ob2 : t.op ≤ 9 := by omega
    obtain ⟨d0, d1, d2, d3, d4, d5⟩ := HFA.out
    rw [hWA] at d0 d1 d2 d3 d4 d5
    clear ho hs hcx hxa hxp hxm HFM HFP H
    go_enter Try.func103, Try.ntmps103
    go_upto_region 26 with fail
    rw [← hWA]
    clear hWA d0 d1 d2 d3 d4 d5 o1 o2 o3 o4 o5 o6 o7
    have hB0 : Below WA.heap.size WA WA.drew := (Below.refl _ _).drew
    refine sink_start 11 (fun w' => w'.cell? ⟨w.heap.size, 3, none⟩ = some (.string t.var) ∧ w'.cell? ⟨w.heap.size, 4, none⟩ = some (.slice (some ⟨b, off, none⟩) t.parts.length cp) ∧ w'.cell? ⟨b, off, none⟩ = some (.int .i64 x.op) ∧ w'.cell? ⟨b, off + 1, none⟩ = some (.string x.atom.name) ∧ w'.cell? ⟨b, off + 2, none⟩ = some (.slice xa x.atom.args.length xc) ∧ w'.cell? ⟨b, off + 3, none⟩ = some (.string x.var) ∧ w'.cell? ⟨b, off + 4, none⟩ = some (.slice xp x.parts.length xd)) (by kernel_rfl) (HSS.out _ hB0) (fun hHeld => ?_)
    refine sink_take 0 (v := ?_) rfl (by kernel_rfl) (by kernel_rfl) (by kernel_rfl) (by kernel_rfl) (by rfl) (fun _ _ _ h => h) (by assumption) ?_ ?_; rotate_left; (intro w hSw; (try dsimp only at hSw); go_simp; try (with_reducible rfl))
    try simp only [Act.put, List.getElem_toArray, List.getElem_cons_zero, List.getElem_cons_succ, List.setIfInBounds_toArray, List.set_cons_zero, List.set_cons_succ]
    refine sink_take 1 (v := ?_) rfl (by kernel_rfl) (by kernel_rfl) (by kernel_rfl) (by kernel_rfl) (by rfl) (fun _ _ _ h => h) (by assumption) ?_ ?_; rotate_left; (intro w hSw; (try dsimp only at hSw); go_simp; try (with_reducible rfl))
    try simp only [Act.put, List.getElem_toArray, List.getElem_cons_zero, List.getElem_cons_succ, List.setIfInBounds_toArray, List.set_cons_zero, List.set_cons_succ]
    refine sink_take 2 (v := ?_) rfl (by kernel_rfl) (by kernel_rfl) (by kernel_rfl) (by kernel_rfl) (by rfl) (fun _ _ _ h => h) (by assumption) ?_ ?_; rotate_left; (intro w hSw; (try dsimp only at hSw); go_simp; try (with_reducible rfl))
    try simp only [Act.put, List.getElem_toArray, List.getElem_cons_zero, List.getElem_cons_succ, List.setIfInBounds_toArray, List.set_cons_zero, List.set_cons_succ]
    refine sink_take 3 (v := ?_) rfl (by kernel_rfl) (by kernel_rfl) (by kernel_rfl) (by kernel_rfl) (by rfl) (fun _ _ _ h => h) (by assumption) ?_ ?_; rotate_left; (intro w hSw; (try dsimp only at hSw); go_simp; try (with_reducible rfl))
    try simp only [Act.put, List.getElem_toArray, List.getElem_cons_zero, List.getElem_cons_succ, List.setIfInBounds_toArray, List.set_cons_zero, List.set_cons_succ]
    refine sink_take 4 (v := ?_) rfl (by kernel_rfl) (by kernel_rfl) (by kernel_rfl) (by kernel_rfl) (by rfl) (fun _ _ _ h => h) (by assumption) ?_ ?_; rotate_left; (intro w hSw; (try dsimp only at hSw); go_simp; try (with_reducible rfl))
    try simp only [Act.put, List.getElem_toArray, List.getElem_cons_zero, List.getElem_cons_succ, List.setIfInBounds_toArray, List.set_cons_zero, List.set_cons_succ]
    refine sink_take 5 (v := ?_) rfl (by kernel_rfl) (by kernel_rfl) (by kernel_rfl) (by kernel_rfl) (by rfl) (fun _ _ _ h => h) (by assumption) ?_ ?_; rotate_left; (intro w hSw; (try dsimp only at hSw); go_simp; try (with_reducible rfl))
    try simp only [Act.put, List.getElem_toArray, List.getElem_cons_zero, List.getElem_cons_succ, List.setIfInBounds_toArray, List.set_cons_zero, List.set_cons_succ]
    refine sink_take 6 (v := ?_) rfl (by kernel_rfl) (by kernel_rfl) (by kernel_rfl) (by kernel_rfl) (by rfl) (fun _ _ _ h => h) (by assumption) ?_ ?_; rotate_left; (intro w hSw; (try dsimp only at hSw); go_simp; try (with_reducible rfl))
    try simp only [Act.put, List.getElem_toArray, List.getElem_cons_zero, List.getElem_cons_succ, List.setIfInBounds_toArray, List.set_cons_zero, List.set_cons_succ]
    refine sink_take 7 (v := ?_) rfl (by kernel_rfl) (by kernel_rfl) (by kernel_rfl) (by kernel_rfl) (by rfl) (fun _ _ _ h => h) (by assumption) ?_ ?_; rotate_left; (intro w hSw; (try dsimp only at hSw); go_simp; try (with_reducible rfl))
    try simp only [Act.put, List.getElem_toArray, List.getElem_cons_zero, List.getElem_cons_succ, List.setIfInBounds_toArray, List.set_cons_zero, List.set_cons_succ]
    refine sink_one (i := 8) (by kernel_rfl) rfl (fun K hK => ?_)
    go_simp
    go_at_call 103; refine (CX.out _ hB0).mono ?_; rintro e w5 ⟨va5, vp5, rfl, ho5, hb⟩; obtain ⟨z, hz⟩ : ∃ z, z = x.nnf (!false) := ⟨_, rfl⟩; rw [← hz] at ho5 ⊢; have HZ := Lib.hid hz; clear hz; have hB5 := carry_below hB0 (Nat.le_refl _) hb; obtain ⟨ga, gc, gp, gd, rfl, rfl⟩ := ho5.read.open; have HO5 := Lib.hid ho5; have hz5 := hb.size; obtain ⟨r0, r1, r2, r3, r4, r5⟩ := HRA.out.kept hB5; have hrl : w.heap.size + 1 < w5.heap.size := World.block_lt_of_cell? w5 ⟨w.heap.size + 1, 0, none⟩ r0; clear ho5 hb
    refine hK.out _ _ (fun _ => HSS.out _ hB5) (fun hHeld => ?_)
    have hHeld := hHeld (by decide)
    clear hK K
    try simp only [Act.put, List.getElem_toArray, List.getElem_cons_zero, List.getElem_cons_succ, List.setIfInBounds_toArray, List.set_cons_zero, List.set_cons_succ]
    refine sink_one (i := 9) (by kernel_rfl) rfl (fun K hK => ?_)
    go_simp
    refine hK.out _ _ (fun _ => HSS.out _ (hB5.alloc hB5.size _)) (fun hHeld => ?_)
    have hHeld := hHeld (by decide)
    clear hK K
    try simp only [Act.put, List.getElem_toArray, List.getElem_cons_zero, List.getElem_cons_succ, List.setIfInBounds_toArray, List.set_cons_zero, List.set_cons_succ]
    refine sink_take 10 (v := ?_) rfl (by kernel_rfl) (by kernel_rfl) (by kernel_rfl) (by kernel_rfl) (by rfl) (fun _ _ _ h => h) (by assumption) ?_ ?_; rotate_left; (intro w hSw; (try dsimp only at hSw); go_simp; try (with_reducible rfl))
    try simp only [Act.put, List.getElem_toArray, List.getElem_cons_zero, List.getElem_cons_succ, List.setIfInBounds_toArray, List.set_cons_zero, List.set_cons_succ]
    refine sink_one (i := 11) (by kernel_rfl) rfl (fun K hK => ?_)
    go_simp
    refine hK.out _ _ (fun hne => absurd rfl hne) (fun hHeld => ?_)
    clear hK K
    try simp only [Act.put, List.getElem_toArray, List.getElem_cons_zero, List.getElem_cons_succ, List.setIfInBounds_toArray, List.set_cons_zero, List.set_cons_succ]
    refine sink_done (by kernel_rfl) ?_ _
    clear r0 r1 r2 r3 r4 r5
    have HR5 := Lib.hid (HRA.out.kept hB5)
    have HB5 := Lib.hid (carry_below HBA.out (Nat.le_refl _) hB5)
    have hb5 := hB5.size
    have hsa := HSA.out
    have h3d : WA.drew.heap.size = WA.heap.size := rfl
    have HZU : Hid (t.nnf (!false) = .node (17 - t.op) zT t.var [z]) := Lib.hid (by rw [HZ.out]; exact HU0.out)
    obtain ⟨W6, hW6⟩ : ∃ W6, W6 = (((((w5.setCell ⟨w.heap.size + 1, 0, none⟩ (.int .i64 (17 - t.op))).setCell ⟨w.heap.size + 1, 1, none⟩ (.string ⟨#[]⟩)).setCell ⟨w.heap.size + 1, 2, none⟩ (.slice none 0 0)).setCell ⟨w.heap.size + 1, 3, none⟩ (.string t.var)).setCell ⟨w.heap.size + 1, 4, none⟩ (.slice (some ⟨w5.heap.size, 0, none⟩) 1 1)) := ⟨_, rfl⟩
    obtain ⟨W7, hW7⟩ : ∃ W7, W7 = W6.alloc (.cells #[.int .i64 z.op, .string z.atom.name, .slice ga z.atom.args.length gc, .string z.var, .slice gp z.parts.length gd] 68) := ⟨_, rfl⟩
    rw [← hW6, ← hW7]
    have hz6 : W6.heap.size = w5.heap.size := by rw [hW6]; simp only [size_setCell]
    have hB67 : Below W6.heap.size W6 W7 := by rw [hW7]; exact (Below.refl _ _).alloc (Nat.le_refl _) _
    have hz7 : W7.heap.size = w5.heap.size + 1 := by rw [hW7, World.size_alloc, hz6]
    have hn : ¬ Fresh WA.drew w5 (w.heap.size + 1) := fun h => by have := h.1; omega
    have HR7 : Hid (FivB W7 (w.heap.size + 1) (.int .i64 (17 - t.op)) (.string ⟨#[]⟩) (.slice none 0 0) (.string t.var) (.slice (some ⟨w5.heap.size, 0, none⟩) 1 1)) := Lib.hid (FivB.kept (by rw [hW6]; exact ((((HR5.out.set0 _).set1 _).set2 _).set3 _).set4 _) hB67)
    have HG7 : Hid (FivB W7 w5.heap.size (.int .i64 z.op) (.string z.atom.name) (.slice ga z.atom.args.length gc) (.string z.var) (.slice gp z.parts.length gd)) := Lib.hid (by rw [hW7]; exact fivB_new _ _ _ _ _ _ _ _ hz6.symm)
    have HB7 : Hid (Below w.heap.size w W7) := Lib.hid (carry_below (by rw [hW6]; exact ((((HB5.out.setCell (by simp) _).setCell (by simp) _).setCell (by simp) _).setCell (by simp) _).setCell (by simp) _) (Nat.le_refl _) hB67)
    have HO7 : Hid (FOwn W7 (Fresh WA.drew w5) z (.slice ga z.atom.args.length gc) (.slice gp z.parts.length gd)) := Lib.hid (FOwn.frame (w := W6) (by rw [hW6]; exact ((((HO5.out.setCell hn _).setCell hn _).setCell hn _).setCell hn _).setCell hn _) fun k hk => hB67.block k (by have := hk.2; omega))
    clear hW6 hW7 hB67 hB5
    obtain ⟨r0, r1, r2, r3, r4, r5⟩ := HR7.out
    go_wp2
    refine bodyPost_ret (v := .agg #[.int .i64 (17 - t.op), .string ⟨#[]⟩, .slice none 0 0, .string t.var, .slice (some ⟨w5.heap.size, 0, none⟩) 1 1]) (by simp [results, Try.results103, go_sem, r0, r1, r2, r3, r4]) rfl ⟨.slice none 0 0, .slice (some ⟨w5.heap.size, 0, none⟩) 1 1, ?_, ?_, HB7.out⟩
    · first | rw [HZU.out] | rw [show t.nnf false = _ from HZU.out] | rw [show t.nnf true = _ from HZU.out]
      rfl
    · first | rw [HZU.out] | rw [show t.nnf false = _ from HZU.out] | rw [show t.nnf true = _ from HZU.out]
      exact fown_un HO7.out HG7.out.fiv HG7.out.2.2.2.2.2 (fun h => by have := h.2; omega) (fun k hk => ⟨by have := hk.1; omega, by have := hk.2; omega⟩) ⟨by omega, by omega⟩ (Nat.le_refl _)

set_option maxRecDepth 100000 in
set_option maxHeartbeats 8000000 in
theorem nn_9 (t : Fm) (h : ∀ s ∈ t.parts, NnT s) (ho : t.op = 9) (w : World) (va vp : Value) (p : Bool) (hv : FmV w va vp t) (hf : t.formsB = true) (hw : t.wt ≤ 1048576) :
    Calls Try.prog 103 #[.agg #[.int .i64 t.op, .string t.atom.name, va, .string t.var, vp], .bool p] w (ToFmEnd (t.nnf (!p)) w) := by
  have H := Lib.hid h
  have HW := Lib.hid hw
  have HFP := Lib.hid (forms_parts hf).2
  have HFM := Lib.hid (forms_parts hf).1
  have hlen : t.parts.length ≤ 1048576 := Nat.le_trans t.wt_len hw
  obtain ⟨pa, ca, pp, cp, rfl, rfl⟩ := hv.open
  have HV := Lib.hid hv
  obtain ⟨WA, hWA⟩ : ∃ W, W = (w.alloc (.cells #[.int .i64 t.op, .string t.atom.name, .slice pa t.atom.args.length ca, .string t.var, .slice pp t.parts.length cp] 68)).alloc (.cells #[.int .i64 0, .string ⟨#[]⟩, .slice none 0 0, .string ⟨#[]⟩, .slice none 0 0] 68) := ⟨_, rfl⟩
  have HFA : Hid (FivB WA w.heap.size (.int .i64 t.op) (.string t.atom.name) (.slice pa t.atom.args.length ca) (.string t.var) (.slice pp t.parts.length cp)) := Lib.hid (by rw [hWA]; exact (fivB_new w (.int .i64 t.op) (.string t.atom.name) (.slice pa t.atom.args.length ca) (.string t.var) (.slice pp t.parts.length cp) 68 _ rfl).alloc _)
  have HRA : Hid (FivB WA (w.heap.size + 1) (.int .i64 0) (.string ⟨#[]⟩) (.slice none 0 0) (.string ⟨#[]⟩) (.slice none 0 0)) := Lib.hid (by rw [hWA]; exact fivB_new _ (.int .i64 0) (.string ⟨#[]⟩) (.slice none 0 0) (.string ⟨#[]⟩) (.slice none 0 0) 68 _ (by simp))
  have HBA : Hid (Below w.heap.size w WA) := Lib.hid (by rw [hWA]; exact ((Below.refl _ _).alloc (Nat.le_refl _) _).alloc (by simp) _)
  have HSA : Hid (WA.heap.size = w.heap.size + 1 + 1) := Lib.hid (by rw [hWA]; simp)
  clear hv hw h hf
  cases p with
  | true =>
    obtain ⟨x, hs⟩ := form89 HFM.out (by omega)
    have HU0 : Hid (t.nnf (!true) = .node (t.op) zT t.var [x.nnf (!true)]) := Lib.hid (un_nnf hs (by omega) (by rw [ho]; decide) (by rw [ho]; rfl))
    have hl1 : 0 < t.parts.length := by rw [hs]; simp
    obtain ⟨b, off, e, vxa, vxp, hcx, hxa, hxp⟩ := HV.out.2.get (k := 0) (t := x) (by rw [hs]; rfl)
    subst e
    obtain ⟨xa, xc, xp, xd, rfl, rfl⟩ := FmV.open (t := x) ⟨hxa, hxp⟩
    have hxm : x ∈ t.parts := by rw [hs]; simp
    have CX : Hid (∀ W, Below WA.heap.size WA W → Calls Try.prog 103 #[.agg #[.int .i64 x.op, .string x.atom.name, .slice xa x.atom.args.length xc, .string x.var, .slice xp x.parts.length xd], .bool true] W (ToFmEnd (x.nnf (!true)) W)) := Lib.hid (fun W hW => H.out x hxm W _ _ true (FmV.kept (t := x) ⟨hxa, hxp⟩ (carry_below HBA.out (Nat.le_refl _) hW)) (HFP.out x hxm) (Nat.le_trans (Fm.wt_part hxm) HW.out))
    have HSS : Hid (∀ w' : World, Below WA.heap.size WA w' → w'.cell? ⟨w.heap.size, 3, none⟩ = some (.string t.var) ∧ w'.cell? ⟨w.heap.size, 4, none⟩ = some (.slice (some ⟨b, off, none⟩) t.parts.length cp) ∧ w'.cell? ⟨b, off, none⟩ = some (.int .i64 x.op) ∧ w'.cell? ⟨b, off + 1, none⟩ = some (.string x.atom.name) ∧ w'.cell? ⟨b, off + 2, none⟩ = some (.slice xa x.atom.args.length xc) ∧ w'.cell? ⟨b, off + 3, none⟩ = some (.string x.var) ∧ w'.cell? ⟨b, off + 4, none⟩ = some (.slice xp x.parts.length xd)) := Lib.hid (fun w' hW => by
      obtain ⟨d0, d1, d2, d3, d4, d5⟩ := HFA.out.kept hW
      obtain ⟨c0, c1, c2, c3, c4⟩ : Fiv w' b off (.int .i64 x.op) (.string x.atom.name) (.slice xa x.atom.args.length xc) (.string x.var) (.slice xp x.parts.length xd) := by simpa using hcx.kept (carry_below HBA.out (Nat.le_refl _) hW)
      exact ⟨d3, d4, c0, c1, c2, c3, c4⟩)
    have o1 := op_not (show t.op ≠ 1 by omega)
    have o2 := op_not (show t.op ≠ 2 by omega)
    have o3 := op_not (show t.op ≠ 3 by omega)
    have o4 := op_not (show t.op ≠ 4 by omega)
    have o5 := op_not (show t.op ≠ 5 by omega)
    have o6 := op_not (show t.op ≠ 6 by omega)
    have o7 := op_not (show t.op ≠ 7 by omega)
    have ob1 : 8 ≤ t.op := by omega
    have ob2 : t.op ≤ 9 := by omega
    obtain ⟨d0, d1, d2, d3, d4, d5⟩ := HFA.out
    rw [hWA] at d0 d1 d2 d3 d4 d5
    clear ho hs hcx hxa hxp hxm HFM HFP H
    go_enter Try.func103, Try.ntmps103
    go_upto_region 26 with fail
    rw [← hWA]
    clear hWA d0 d1 d2 d3 d4 d5 o1 o2 o3 o4 o5 o6 o7
    have hB0 : Below WA.heap.size WA WA.drew := (Below.refl _ _).drew
    refine sink_start 11 (fun w' => w'.cell? ⟨w.heap.size, 3, none⟩ = some (.string t.var) ∧ w'.cell? ⟨w.heap.size, 4, none⟩ = some (.slice (some ⟨b, off, none⟩) t.parts.length cp) ∧ w'.cell? ⟨b, off, none⟩ = some (.int .i64 x.op) ∧ w'.cell? ⟨b, off + 1, none⟩ = some (.string x.atom.name) ∧ w'.cell? ⟨b, off + 2, none⟩ = some (.slice xa x.atom.args.length xc) ∧ w'.cell? ⟨b, off + 3, none⟩ = some (.string x.var) ∧ w'.cell? ⟨b, off + 4, none⟩ = some (.slice xp x.parts.length xd)) (by kernel_rfl) (HSS.out _ hB0) (fun hHeld => ?_)
    refine sink_take 0 (v := ?_) rfl (by kernel_rfl) (by kernel_rfl) (by kernel_rfl) (by kernel_rfl) (by rfl) (fun _ _ _ h => h) (by assumption) ?_ ?_; rotate_left; (intro w hSw; (try dsimp only at hSw); go_simp; try (with_reducible rfl))
    try simp only [Act.put, List.getElem_toArray, List.getElem_cons_zero, List.getElem_cons_succ, List.setIfInBounds_toArray, List.set_cons_zero, List.set_cons_succ]
    refine sink_take 1 (v := ?_) rfl (by kernel_rfl) (by kernel_rfl) (by kernel_rfl) (by kernel_rfl) (by rfl) (fun _ _ _ h => h) (by assumption) ?_ ?_; rotate_left; (intro w hSw; (try dsimp only at hSw); go_simp; try (with_reducible rfl))
    try simp only [Act.put, List.getElem_toArray, List.getElem_cons_zero, List.getElem_cons_succ, List.setIfInBounds_toArray, List.set_cons_zero, List.set_cons_succ]
    refine sink_take 2 (v := ?_) rfl (by kernel_rfl) (by kernel_rfl) (by kernel_rfl) (by kernel_rfl) (by rfl) (fun _ _ _ h => h) (by assumption) ?_ ?_; rotate_left; (intro w hSw; (try dsimp only at hSw); go_simp; try (with_reducible rfl))
    try simp only [Act.put, List.getElem_toArray, List.getElem_cons_zero, List.getElem_cons_succ, List.setIfInBounds_toArray, List.set_cons_zero, List.set_cons_succ]
    refine sink_take 3 (v := ?_) rfl (by kernel_rfl) (by kernel_rfl) (by kernel_rfl) (by kernel_rfl) (by rfl) (fun _ _ _ h => h) (by assumption) ?_ ?_; rotate_left; (intro w hSw; (try dsimp only at hSw); go_simp; try (with_reducible rfl))
    try simp only [Act.put, List.getElem_toArray, List.getElem_cons_zero, List.getElem_cons_succ, List.setIfInBounds_toArray, List.set_cons_zero, List.set_cons_succ]
    refine sink_take 4 (v := ?_) rfl (by kernel_rfl) (by kernel_rfl) (by kernel_rfl) (by kernel_rfl) (by rfl) (fun _ _ _ h => h) (by assumption) ?_ ?_; rotate_left; (intro w hSw; (try dsimp only at hSw); go_simp; try (with_reducible rfl))
    try simp only [Act.put, List.getElem_toArray, List.getElem_cons_zero, List.getElem_cons_succ, List.setIfInBounds_toArray, List.set_cons_zero, List.set_cons_succ]
    refine sink_take 5 (v := ?_) rfl (by kernel_rfl) (by kernel_rfl) (by kernel_rfl) (by kernel_rfl) (by rfl) (fun _ _ _ h => h) (by assumption) ?_ ?_; rotate_left; (intro w hSw; (try dsimp only at hSw); go_simp; try (with_reducible rfl))
    try simp only [Act.put, List.getElem_toArray, List.getElem_cons_zero, List.getElem_cons_succ, List.setIfInBounds_toArray, List.set_cons_zero, List.set_cons_succ]
    refine sink_take 6 (v := ?_) rfl (by kernel_rfl) (by kernel_rfl) (by kernel_rfl) (by kernel_rfl) (by rfl) (fun _ _ _ h => h) (by assumption) ?_ ?_; rotate_left; (intro w hSw; (try dsimp only at hSw); go_simp; try (with_reducible rfl))
    try simp only [Act.put, List.getElem_toArray, List.getElem_cons_zero, List.getElem_cons_succ, List.setIfInBounds_toArray, List.set_cons_zero, List.set_cons_succ]
    refine sink_take 7 (v := ?_) rfl (by kernel_rfl) (by kernel_rfl) (by kernel_rfl) (by kernel_rfl) (by rfl) (fun _ _ _ h => h) (by assumption) ?_ ?_; rotate_left; (intro w hSw; (try dsimp only at hSw); go_simp; try (with_reducible rfl))
    try simp only [Act.put, List.getElem_toArray, List.getElem_cons_zero, List.getElem_cons_succ, List.setIfInBounds_toArray, List.set_cons_zero, List.set_cons_succ]
    refine sink_one (i := 8) (by kernel_rfl) rfl (fun K hK => ?_)
    go_simp
    go_at_call 103; refine (CX.out _ hB0).mono ?_; rintro e w5 ⟨va5, vp5, rfl, ho5, hb⟩; obtain ⟨z, hz⟩ : ∃ z, z = x.nnf (!true) := ⟨_, rfl⟩; rw [← hz] at ho5 ⊢; have HZ := Lib.hid hz; clear hz; have hB5 := carry_below hB0 (Nat.le_refl _) hb; obtain ⟨ga, gc, gp, gd, rfl, rfl⟩ := ho5.read.open; have HO5 := Lib.hid ho5; have hz5 := hb.size; obtain ⟨r0, r1, r2, r3, r4, r5⟩ := HRA.out.kept hB5; have hrl : w.heap.size + 1 < w5.heap.size := World.block_lt_of_cell? w5 ⟨w.heap.size + 1, 0, none⟩ r0; clear ho5 hb
    refine hK.out _ _ (fun _ => HSS.out _ hB5) (fun hHeld => ?_)
    have hHeld := hHeld (by decide)
    clear hK K
    try simp only [Act.put, List.getElem_toArray, List.getElem_cons_zero, List.getElem_cons_succ, List.setIfInBounds_toArray, List.set_cons_zero, List.set_cons_succ]
    refine sink_one (i := 9) (by kernel_rfl) rfl (fun K hK => ?_)
    go_simp
    refine hK.out _ _ (fun _ => HSS.out _ (hB5.alloc hB5.size _)) (fun hHeld => ?_)
    have hHeld := hHeld (by decide)
    clear hK K
    try simp only [Act.put, List.getElem_toArray, List.getElem_cons_zero, List.getElem_cons_succ, List.setIfInBounds_toArray, List.set_cons_zero, List.set_cons_succ]
    refine sink_take 10 (v := ?_) rfl (by kernel_rfl) (by kernel_rfl) (by kernel_rfl) (by kernel_rfl) (by rfl) (fun _ _ _ h => h) (by assumption) ?_ ?_; rotate_left; (intro w hSw; (try dsimp only at hSw); go_simp; try (with_reducible rfl))
    try simp only [Act.put, List.getElem_toArray, List.getElem_cons_zero, List.getElem_cons_succ, List.setIfInBounds_toArray, List.set_cons_zero, List.set_cons_succ]
    refine sink_one (i := 11) (by kernel_rfl) rfl (fun K hK => ?_)
    go_simp
    refine hK.out _ _ (fun hne => absurd rfl hne) (fun hHeld => ?_)
    clear hK K
    try simp only [Act.put, List.getElem_toArray, List.getElem_cons_zero, List.getElem_cons_succ, List.setIfInBounds_toArray, List.set_cons_zero, List.set_cons_succ]
    refine sink_done (by kernel_rfl) ?_ _
    clear r0 r1 r2 r3 r4 r5
    have HR5 := Lib.hid (HRA.out.kept hB5)
    have HB5 := Lib.hid (carry_below HBA.out (Nat.le_refl _) hB5)
    have hb5 := hB5.size
    have hsa := HSA.out
    have h3d : WA.drew.heap.size = WA.heap.size := rfl
    have HZU : Hid (t.nnf (!true) = .node (t.op) zT t.var [z]) := Lib.hid (by rw [HZ.out]; exact HU0.out)
    obtain ⟨W6, hW6⟩ : ∃ W6, W6 = (((((w5.setCell ⟨w.heap.size + 1, 0, none⟩ (.int .i64 (t.op))).setCell ⟨w.heap.size + 1, 1, none⟩ (.string ⟨#[]⟩)).setCell ⟨w.heap.size + 1, 2, none⟩ (.slice none 0 0)).setCell ⟨w.heap.size + 1, 3, none⟩ (.string t.var)).setCell ⟨w.heap.size + 1, 4, none⟩ (.slice (some ⟨w5.heap.size, 0, none⟩) 1 1)) := ⟨_, rfl⟩
    obtain ⟨W7, hW7⟩ : ∃ W7, W7 = W6.alloc (.cells #[.int .i64 z.op, .string z.atom.name, .slice ga z.atom.args.length gc, .string z.var, .slice gp z.parts.length gd] 68) := ⟨_, rfl⟩
    rw [← hW6, ← hW7]
    have hz6 : W6.heap.size = w5.heap.size := by rw [hW6]; simp only [size_setCell]
    have hB67 : Below W6.heap.size W6 W7 := by rw [hW7]; exact (Below.refl _ _).alloc (Nat.le_refl _) _
    have hz7 : W7.heap.size = w5.heap.size + 1 := by rw [hW7, World.size_alloc, hz6]
    have hn : ¬ Fresh WA.drew w5 (w.heap.size + 1) := fun h => by have := h.1; omega
    have HR7 : Hid (FivB W7 (w.heap.size + 1) (.int .i64 (t.op)) (.string ⟨#[]⟩) (.slice none 0 0) (.string t.var) (.slice (some ⟨w5.heap.size, 0, none⟩) 1 1)) := Lib.hid (FivB.kept (by rw [hW6]; exact ((((HR5.out.set0 _).set1 _).set2 _).set3 _).set4 _) hB67)
    have HG7 : Hid (FivB W7 w5.heap.size (.int .i64 z.op) (.string z.atom.name) (.slice ga z.atom.args.length gc) (.string z.var) (.slice gp z.parts.length gd)) := Lib.hid (by rw [hW7]; exact fivB_new _ _ _ _ _ _ _ _ hz6.symm)
    have HB7 : Hid (Below w.heap.size w W7) := Lib.hid (carry_below (by rw [hW6]; exact ((((HB5.out.setCell (by simp) _).setCell (by simp) _).setCell (by simp) _).setCell (by simp) _).setCell (by simp) _) (Nat.le_refl _) hB67)
    have HO7 : Hid (FOwn W7 (Fresh WA.drew w5) z (.slice ga z.atom.args.length gc) (.slice gp z.parts.length gd)) := Lib.hid (FOwn.frame (w := W6) (by rw [hW6]; exact ((((HO5.out.setCell hn _).setCell hn _).setCell hn _).setCell hn _).setCell hn _) fun k hk => hB67.block k (by have := hk.2; omega))
    clear hW6 hW7 hB67 hB5
    obtain ⟨r0, r1, r2, r3, r4, r5⟩ := HR7.out
    go_wp2
    refine bodyPost_ret (v := .agg #[.int .i64 (t.op), .string ⟨#[]⟩, .slice none 0 0, .string t.var, .slice (some ⟨w5.heap.size, 0, none⟩) 1 1]) (by simp [results, Try.results103, go_sem, r0, r1, r2, r3, r4]) rfl ⟨.slice none 0 0, .slice (some ⟨w5.heap.size, 0, none⟩) 1 1, ?_, ?_, HB7.out⟩
    · first | rw [HZU.out] | rw [show t.nnf false = _ from HZU.out] | rw [show t.nnf true = _ from HZU.out]
      rfl
    · first | rw [HZU.out] | rw [show t.nnf false = _ from HZU.out] | rw [show t.nnf true = _ from HZU.out]
      exact fown_un HO7.out HG7.out.fiv HG7.out.2.2.2.2.2 (fun h => by have := h.2; omega) (fun k hk => ⟨by have := hk.1; omega, by have := hk.2; omega⟩) ⟨by omega, by omega⟩ (Nat.le_refl _)

  | false =>
    obtain ⟨x, hs⟩ := form89 HFM.out (by omega)
    have HU0 : Hid (t.nnf (!false) = .node (17 - t.op) zT t.var [x.nnf (!false)]) := Lib.hid (un_nnf hs (by omega) (by rw [ho]; decide) (by rw [ho]; rfl))
    have hl1 : 0 < t.parts.length := by rw [hs]; simp
    obtain ⟨b, off, e, vxa, vxp, hcx, hxa, hxp⟩ := HV.out.2.get (k := 0) (t := x) (by rw [hs]; rfl)
    subst e
    obtain ⟨xa, xc, xp, xd, rfl, rfl⟩ := FmV.open (t := x) ⟨hxa, hxp⟩
    have hxm : x ∈ t.parts := by rw [hs]; simp
    have CX : Hid (∀ W, Below WA.heap.size WA W → Calls Try.prog 103 #[.agg #[.int .i64 x.op, .string x.atom.name, .slice xa x.atom.args.length xc, .string x.var, .slice xp x.parts.length xd], .bool false] W (ToFmEnd (x.nnf (!false)) W)) := Lib.hid (fun W hW => H.out x hxm W _ _ false (FmV.kept (t := x) ⟨hxa, hxp⟩ (carry_below HBA.out (Nat.le_refl _) hW)) (HFP.out x hxm) (Nat.le_trans (Fm.wt_part hxm) HW.out))
    have HSS : Hid (∀ w' : World, Below WA.heap.size WA w' → w'.cell? ⟨w.heap.size, 3, none⟩ = some (.string t.var) ∧ w'.cell? ⟨w.heap.size, 4, none⟩ = some (.slice (some ⟨b, off, none⟩) t.parts.length cp) ∧ w'.cell? ⟨b, off, none⟩ = some (.int .i64 x.op) ∧ w'.cell? ⟨b, off + 1, none⟩ = some (.string x.atom.name) ∧ w'.cell? ⟨b, off + 2, none⟩ = some (.slice xa x.atom.args.length xc) ∧ w'.cell? ⟨b, off + 3, none⟩ = some (.string x.var) ∧ w'.cell? ⟨b, off + 4, none⟩ = some (.slice xp x.parts.length xd)) := Lib.hid (fun w' hW => by
      obtain ⟨d0, d1, d2, d3, d4, d5⟩ := HFA.out.kept hW
      obtain ⟨c0, c1, c2, c3, c4⟩ : Fiv w' b off (.int .i64 x.op) (.string x.atom.name) (.slice xa x.atom.args.length xc) (.string x.var) (.slice xp x.parts.length xd) := by simpa using hcx.kept (carry_below HBA.out (Nat.le_refl _) hW)
      exact ⟨d3, d4, c0, c1, c2, c3, c4⟩)
    have o1 := op_not (show t.op ≠ 1 by omega)
    have o2 := op_not (show t.op ≠ 2 by omega)
    have o3 := op_not (show t.op ≠ 3 by omega)
    have o4 := op_not (show t.op ≠ 4 by omega)
    have o5 := op_not (show t.op ≠ 5 by omega)
    have o6 := op_not (show t.op ≠ 6 by omega)
    have o7 := op_not (show t.op ≠ 7 by omega)
    have ob1 : 8 ≤ t.op := by omega
    have ob2 : t.op ≤ 9 := by omega
    obtain ⟨d0, d1, d2, d3, d4, d5⟩ := HFA.out
    rw [hWA] at d0 d1 d2 d3 d4 d5
    clear ho hs hcx hxa hxp hxm HFM HFP H
    go_enter Try.func103, Try.ntmps103
    go_upto_region 26 with fail
    rw [← hWA]
    clear hWA d0 d1 d2 d3 d4 d5 o1 o2 o3 o4 o5 o6 o7
    have hB0 : Below WA.heap.size WA WA.drew := (Below.refl _ _).drew
    refine sink_start 11 (fun w' => w'.cell? ⟨w.heap.size, 3, none⟩ = some (.string t.var) ∧ w'.cell? ⟨w.heap.size, 4, none⟩ = some (.slice (some ⟨b, off, none⟩) t.parts.length cp) ∧ w'.cell? ⟨b, off, none⟩ = some (.int .i64 x.op) ∧ w'.cell? ⟨b, off + 1, none⟩ = some (.string x.atom.name) ∧ w'.cell? ⟨b, off + 2, none⟩ = some (.slice xa x.atom.args.length xc) ∧ w'.cell? ⟨b, off + 3, none⟩ = some (.string x.var) ∧ w'.cell? ⟨b, off + 4, none⟩ = some (.slice xp x.parts.length xd)) (by kernel_rfl) (HSS.out _ hB0) (fun hHeld => ?_)
    refine sink_take 0 (v := ?_) rfl (by kernel_rfl) (by kernel_rfl) (by kernel_rfl) (by kernel_rfl) (by rfl) (fun _ _ _ h => h) (by assumption) ?_ ?_; rotate_left; (intro w hSw; (try dsimp only at hSw); go_simp; try (with_reducible rfl))
    try simp only [Act.put, List.getElem_toArray, List.getElem_cons_zero, List.getElem_cons_succ, List.setIfInBounds_toArray, List.set_cons_zero, List.set_cons_succ]
    refine sink_take 1 (v := ?_) rfl (by kernel_rfl) (by kernel_rfl) (by kernel_rfl) (by kernel_rfl) (by rfl) (fun _ _ _ h => h) (by assumption) ?_ ?_; rotate_left; (intro w hSw; (try dsimp only at hSw); go_simp; try (with_reducible rfl))
    try simp only [Act.put, List.getElem_toArray, List.getElem_cons_zero, List.getElem_cons_succ, List.setIfInBounds_toArray, List.set_cons_zero, List.set_cons_succ]
    refine sink_take 2 (v := ?_) rfl (by kernel_rfl) (by kernel_rfl) (by kernel_rfl) (by kernel_rfl) (by rfl) (fun _ _ _ h => h) (by assumption) ?_ ?_; rotate_left; (intro w hSw; (try dsimp only at hSw); go_simp; try (with_reducible rfl))
    try simp only [Act.put, List.getElem_toArray, List.getElem_cons_zero, List.getElem_cons_succ, List.setIfInBounds_toArray, List.set_cons_zero, List.set_cons_succ]
    refine sink_take 3 (v := ?_) rfl (by kernel_rfl) (by kernel_rfl) (by kernel_rfl) (by kernel_rfl) (by rfl) (fun _ _ _ h => h) (by assumption) ?_ ?_; rotate_left; (intro w hSw; (try dsimp only at hSw); go_simp; try (with_reducible rfl))
    try simp only [Act.put, List.getElem_toArray, List.getElem_cons_zero, List.getElem_cons_succ, List.setIfInBounds_toArray, List.set_cons_zero, List.set_cons_succ]
    refine sink_take 4 (v := ?_) rfl (by kernel_rfl) (by kernel_rfl) (by kernel_rfl) (by kernel_rfl) (by rfl) (fun _ _ _ h => h) (by assumption) ?_ ?_; rotate_left; (intro w hSw; (try dsimp only at hSw); go_simp; try (with_reducible rfl))
    try simp only [Act.put, List.getElem_toArray, List.getElem_cons_zero, List.getElem_cons_succ, List.setIfInBounds_toArray, List.set_cons_zero, List.set_cons_succ]
    refine sink_take 5 (v := ?_) rfl (by kernel_rfl) (by kernel_rfl) (by kernel_rfl) (by kernel_rfl) (by rfl) (fun _ _ _ h => h) (by assumption) ?_ ?_; rotate_left; (intro w hSw; (try dsimp only at hSw); go_simp; try (with_reducible rfl))
    try simp only [Act.put, List.getElem_toArray, List.getElem_cons_zero, List.getElem_cons_succ, List.setIfInBounds_toArray, List.set_cons_zero, List.set_cons_succ]
    refine sink_take 6 (v := ?_) rfl (by kernel_rfl) (by kernel_rfl) (by kernel_rfl) (by kernel_rfl) (by rfl) (fun _ _ _ h => h) (by assumption) ?_ ?_; rotate_left; (intro w hSw; (try dsimp only at hSw); go_simp; try (with_reducible rfl))
    try simp only [Act.put, List.getElem_toArray, List.getElem_cons_zero, List.getElem_cons_succ, List.setIfInBounds_toArray, List.set_cons_zero, List.set_cons_succ]
    refine sink_take 7 (v := ?_) rfl (by kernel_rfl) (by kernel_rfl) (by kernel_rfl) (by kernel_rfl) (by rfl) (fun _ _ _ h => h) (by assumption) ?_ ?_; rotate_left; (intro w hSw; (try dsimp only at hSw); go_simp; try (with_reducible rfl))
    try simp only [Act.put, List.getElem_toArray, List.getElem_cons_zero, List.getElem_cons_succ, List.setIfInBounds_toArray, List.set_cons_zero, List.set_cons_succ]
    refine sink_one (i := 8) (by kernel_rfl) rfl (fun K hK => ?_)
    go_simp
    go_at_call 103; refine (CX.out _ hB0).mono ?_; rintro e w5 ⟨va5, vp5, rfl, ho5, hb⟩; obtain ⟨z, hz⟩ : ∃ z, z = x.nnf (!false) := ⟨_, rfl⟩; rw [← hz] at ho5 ⊢; have HZ := Lib.hid hz; clear hz; have hB5 := carry_below hB0 (Nat.le_refl _) hb; obtain ⟨ga, gc, gp, gd, rfl, rfl⟩ := ho5.read.open; have HO5 := Lib.hid ho5; have hz5 := hb.size; obtain ⟨r0, r1, r2, r3, r4, r5⟩ := HRA.out.kept hB5; have hrl : w.heap.size + 1 < w5.heap.size := World.block_lt_of_cell? w5 ⟨w.heap.size + 1, 0, none⟩ r0; clear ho5 hb
    refine hK.out _ _ (fun _ => HSS.out _ hB5) (fun hHeld => ?_)
    have hHeld := hHeld (by decide)
    clear hK K
    try simp only [Act.put, List.getElem_toArray, List.getElem_cons_zero, List.getElem_cons_succ, List.setIfInBounds_toArray, List.set_cons_zero, List.set_cons_succ]
    refine sink_one (i := 9) (by kernel_rfl) rfl (fun K hK => ?_)
    go_simp
    refine hK.out _ _ (fun _ => HSS.out _ (hB5.alloc hB5.size _)) (fun hHeld => ?_)
    have hHeld := hHeld (by decide)
    clear hK K
    try simp only [Act.put, List.getElem_toArray, List.getElem_cons_zero, List.getElem_cons_succ, List.setIfInBounds_toArray, List.set_cons_zero, List.set_cons_succ]
    refine sink_take 10 (v := ?_) rfl (by kernel_rfl) (by kernel_rfl) (by kernel_rfl) (by kernel_rfl) (by rfl) (fun _ _ _ h => h) (by assumption) ?_ ?_; rotate_left; (intro w hSw; (try dsimp only at hSw); go_simp; try (with_reducible rfl))
    try simp only [Act.put, List.getElem_toArray, List.getElem_cons_zero, List.getElem_cons_succ, List.setIfInBounds_toArray, List.set_cons_zero, List.set_cons_succ]
    refine sink_one (i := 11) (by kernel_rfl) rfl (fun K hK => ?_)
    go_simp
    refine hK.out _ _ (fun hne => absurd rfl hne) (fun hHeld => ?_)
    clear hK K
    try simp only [Act.put, List.getElem_toArray, List.getElem_cons_zero, List.getElem_cons_succ, List.setIfInBounds_toArray, List.set_cons_zero, List.set_cons_succ]
    refine sink_done (by kernel_rfl) ?_ _
    clear r0 r1 r2 r3 r4 r5
    have HR5 := Lib.hid (HRA.out.kept hB5)
    have HB5 := Lib.hid (carry_below HBA.out (Nat.le_refl _) hB5)
    have hb5 := hB5.size
    have hsa := HSA.out
    have h3d : WA.drew.heap.size = WA.heap.size := rfl
    have HZU : Hid (t.nnf (!false) = .node (17 - t.op) zT t.var [z]) := Lib.hid (by rw [HZ.out]; exact HU0.out)
    obtain ⟨W6, hW6⟩ : ∃ W6, W6 = (((((w5.setCell ⟨w.heap.size + 1, 0, none⟩ (.int .i64 (17 - t.op))).setCell ⟨w.heap.size + 1, 1, none⟩ (.string ⟨#[]⟩)).setCell ⟨w.heap.size + 1, 2, none⟩ (.slice none 0 0)).setCell ⟨w.heap.size + 1, 3, none⟩ (.string t.var)).setCell ⟨w.heap.size + 1, 4, none⟩ (.slice (some ⟨w5.heap.size, 0, none⟩) 1 1)) := ⟨_, rfl⟩
    obtain ⟨W7, hW7⟩ : ∃ W7, W7 = W6.alloc (.cells #[.int .i64 z.op, .string z.atom.name, .slice ga z.atom.args.length gc, .string z.var, .slice gp z.parts.length gd] 68) := ⟨_, rfl⟩
    rw [← hW6, ← hW7]
    have hz6 : W6.heap.size = w5.heap.size := by rw [hW6]; simp only [size_setCell]
    have hB67 : Below W6.heap.size W6 W7 := by rw [hW7]; exact (Below.refl _ _).alloc (Nat.le_refl _) _
    have hz7 : W7.heap.size = w5.heap.size + 1 := by rw [hW7, World.size_alloc, hz6]
    have hn : ¬ Fresh WA.drew w5 (w.heap.size + 1) := fun h => by have := h.1; omega
    have HR7 : Hid (FivB W7 (w.heap.size + 1) (.int .i64 (17 - t.op)) (.string ⟨#[]⟩) (.slice none 0 0) (.string t.var) (.slice (some ⟨w5.heap.size, 0, none⟩) 1 1)) := Lib.hid (FivB.kept (by rw [hW6]; exact ((((HR5.out.set0 _).set1 _).set2 _).set3 _).set4 _) hB67)
    have HG7 : Hid (FivB W7 w5.heap.size (.int .i64 z.op) (.string z.atom.name) (.slice ga z.atom.args.length gc) (.string z.var) (.slice gp z.parts.length gd)) := Lib.hid (by rw [hW7]; exact fivB_new _ _ _ _ _ _ _ _ hz6.symm)
    have HB7 : Hid (Below w.heap.size w W7) := Lib.hid (carry_below (by rw [hW6]; exact ((((HB5.out.setCell (by simp) _).setCell (by simp) _).setCell (by simp) _).setCell (by simp) _).setCell (by simp) _) (Nat.le_refl _) hB67)
    have HO7 : Hid (FOwn W7 (Fresh WA.drew w5) z (.slice ga z.atom.args.length gc) (.slice gp z.parts.length gd)) := Lib.hid (FOwn.frame (w := W6) (by rw [hW6]; exact ((((HO5.out.setCell hn _).setCell hn _).setCell hn _).setCell hn _).setCell hn _) fun k hk => hB67.block k (by have := hk.2; omega))
    clear hW6 hW7 hB67 hB5
    obtain ⟨r0, r1, r2, r3, r4, r5⟩ := HR7.out
    go_wp2
    refine bodyPost_ret (v := .agg #[.int .i64 (17 - t.op), .string ⟨#[]⟩, .slice none 0 0, .string t.var, .slice (some ⟨w5.heap.size, 0, none⟩) 1 1]) (by simp [results, Try.results103, go_sem, r0, r1, r2, r3, r4]) rfl ⟨.slice none 0 0, .slice (some ⟨w5.heap.size, 0, none⟩) 1 1, ?_, ?_, HB7.out⟩
    · first | rw [HZU.out] | rw [show t.nnf false = _ from HZU.out] | rw [show t.nnf true = _ from HZU.out]
      rfl
    · first | rw [HZU.out] | rw [show t.nnf false = _ from HZU.out] | rw [show t.nnf true = _ from HZU.out]
      exact fown_un HO7.out HG7.out.fiv HG7.out.2.2.2.2.2 (fun h => by have := h.2; omega) (fun k hk => ⟨by have := hk.1; omega, by have := hk.2; omega⟩) ⟨by omega, by omega⟩ (Nat.le_refl _)


theorem l9Nnf_of (t : Fm) (h : ∀ s ∈ t.parts, NnT s) : NnT t := by
  intro w va vp p hv hf hw
  rcases form_ops (forms_parts hf).1 with ho | ho | ho | ho | ho | ho | ho | ho | ho
  · exact nn_1 t h ho w va vp p hv hf hw
  · exact nn_2 t h ho w va vp p hv hf hw
  · exact nn_3 t h ho w va vp p hv hf hw
  · exact nn_4 t h ho w va vp p hv hf hw
  · exact nn_5 t h ho w va vp p hv hf hw
  · exact nn_6 t h ho w va vp p hv hf hw
  · exact nn_7 t h ho w va vp p hv hf hw
  · exact nn_8 t h ho w va vp p hv hf hw
  · exact nn_9 t h ho w va vp p hv hf hw

theorem l9Nnf_any (t : Fm) : NnT t := Fm.ind (P := NnT) (fun t ih => l9Nnf_of t ih) t

end Go.Proofs.Ytppmiedhoimgmaa
