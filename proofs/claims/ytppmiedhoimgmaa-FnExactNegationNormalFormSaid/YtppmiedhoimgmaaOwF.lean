/- The model's copy of a formula: a contract, for formulas of at most 1048576 names' bytes, parts and arguments. -/
import Derived.Test.YtppmiedhoimgmaaOwR
import Derived.Test.YtppmiedhoimgmaaSink
import Derived.Deep.AppendLies
import Derived.Deep.RegionLaw
import Derived.Deep.Cut
import Derived.Deep.CutRange
namespace Go.Proofs.Ytppmiedhoimgmaa
open Go.RowKit
set_option linter.unusedVariables false
set_option linter.unusedSimpArgs false

def own8T (t : Fm) : Prop := ∀ (w : World) (va vp : Value), FmV w va vp t → t.wt ≤ 1048576 →
  Calls Try.prog 139 #[.agg #[.int .i64 t.op, .string t.atom.name, va, .string t.var, vp]] w (ToFmEnd t w)

set_option maxRecDepth 100000 in
set_option maxHeartbeats 8000000 in
theorem own8_of (t : Fm) (h : ∀ s ∈ t.parts, own8T s) : own8T t := by
  intro w va vp hv hw
  have H := Lib.hid h
  have HW := Lib.hid hw
  have hlen : t.parts.length ≤ 1048576 := Nat.le_trans t.wt_len hw
  obtain ⟨pa, ca, pp, cp, rfl, rfl⟩ := hv.open
  have HV := Lib.hid hv
  obtain ⟨i0, hi, hz0, hz1, hz2⟩ := info_parts infoFm
  obtain ⟨WA, hWA⟩ : ∃ W, W = (w.alloc (.cells #[.int .i64 t.op, .string t.atom.name, .slice pa t.atom.args.length ca, .string t.var, .slice pp t.parts.length cp] 68)).alloc (.cells #[.int .i64 0, .string ⟨#[]⟩, .slice none 0 0, .string ⟨#[]⟩, .slice none 0 0] 68) := ⟨_, rfl⟩
  have HFA : Hid (FivB WA w.heap.size (.int .i64 t.op) (.string t.atom.name) (.slice pa t.atom.args.length ca) (.string t.var) (.slice pp t.parts.length cp)) := Lib.hid (by rw [hWA]; exact (fivB_new w (.int .i64 t.op) (.string t.atom.name) (.slice pa t.atom.args.length ca) (.string t.var) (.slice pp t.parts.length cp) 68 _ rfl).alloc _)
  have HRA : Hid (FivB WA (w.heap.size + 1) (.int .i64 0) (.string ⟨#[]⟩) (.slice none 0 0) (.string ⟨#[]⟩) (.slice none 0 0)) := Lib.hid (by rw [hWA]; exact fivB_new _ (.int .i64 0) (.string ⟨#[]⟩) (.slice none 0 0) (.string ⟨#[]⟩) (.slice none 0 0) 68 _ (by simp))
  have HBA : Hid (Below w.heap.size w WA) := Lib.hid (by rw [hWA]; exact ((Below.refl _ _).alloc (Nat.le_refl _) _).alloc (by simp) _)
  have HSA : Hid (WA.heap.size = w.heap.size + 1 + 1) := Lib.hid (by rw [hWA]; simp)
  have C0 : Hid (∀ W : World, Below WA.heap.size WA W → Calls Try.prog 127 #[.agg #[.string t.atom.name, .slice pa t.atom.args.length ca]] W (ToEnd t.atom W)) := Lib.hid (fun W hW => l2Own_any t.atom W _ ((HV.out.kept (carry_below HBA.out (Nat.le_refl _) hW)).1) (Nat.le_trans t.wt_atom HW.out))
  clear hv hw h
  go_enter Try.func139, Try.ntmps139
  go_upto_region 1 with fail
  rw [← hWA]
  clear hWA
  go_cut [3] from 5 to 12 (fun z wx => ∃ (ob : Nat) (va : Value) (Sa : Nat → Prop), z = .pointer (some ⟨ob, 0, none⟩) ∧ OutB w WA wx t ob va Sa)
  case first =>
    have hB0 : Below WA.heap.size WA WA.drew := (Below.refl _ _).drew
    obtain ⟨d0, d1, d2, d3, d4, d5⟩ := HFA.out.drew
    refine sink_start 9 (fun w' => w'.cell? ⟨w.heap.size, 0, none⟩ = some (.int .i64 t.op) ∧ w'.cell? ⟨w.heap.size, 1, none⟩ = some (.string t.atom.name) ∧ w'.cell? ⟨w.heap.size, 2, none⟩ = some (.slice pa t.atom.args.length ca) ∧ w'.cell? ⟨w.heap.size, 3, none⟩ = some (.string t.var)) (by kernel_rfl) (by exact ⟨by first | assumption | exact carry_cell' ((Below.refl _ _).alloc (Nat.le_refl _) _) (by assumption), by first | assumption | exact carry_cell' ((Below.refl _ _).alloc (Nat.le_refl _) _) (by assumption), by first | assumption | exact carry_cell' ((Below.refl _ _).alloc (Nat.le_refl _) _) (by assumption), by first | assumption | exact carry_cell' ((Below.refl _ _).alloc (Nat.le_refl _) _) (by assumption)⟩) (fun hHeld => ?_)
    refine sink_take 0 (v := ?_) rfl (by kernel_rfl) (by kernel_rfl) (by kernel_rfl) (by kernel_rfl) (by rfl) (fun _ _ _ h => h) (by assumption) ?_ ?_; rotate_left; (intro w hSw; (try dsimp only at hSw); go_simp; try (with_reducible rfl))
    try simp only [Act.put, List.getElem_toArray, List.getElem_cons_zero, List.getElem_cons_succ, List.setIfInBounds_toArray, List.set_cons_zero, List.set_cons_succ]
    refine sink_take 1 (v := ?_) rfl (by kernel_rfl) (by kernel_rfl) (by kernel_rfl) (by kernel_rfl) (by rfl) (fun _ _ _ h => h) (by assumption) ?_ ?_; rotate_left; (intro w hSw; (try dsimp only at hSw); go_simp; try (with_reducible rfl))
    try simp only [Act.put, List.getElem_toArray, List.getElem_cons_zero, List.getElem_cons_succ, List.setIfInBounds_toArray, List.set_cons_zero, List.set_cons_succ]
    refine sink_take 2 (v := ?_) rfl (by kernel_rfl) (by kernel_rfl) (by kernel_rfl) (by kernel_rfl) (by rfl) (fun _ _ _ h => h) (by assumption) ?_ ?_; rotate_left; (intro w hSw; (try dsimp only at hSw); go_simp; try (with_reducible rfl))
    try simp only [Act.put, List.getElem_toArray, List.getElem_cons_zero, List.getElem_cons_succ, List.setIfInBounds_toArray, List.set_cons_zero, List.set_cons_succ]
    refine sink_take 3 (v := ?_) rfl (by kernel_rfl) (by kernel_rfl) (by kernel_rfl) (by kernel_rfl) (by rfl) (fun _ _ _ h => h) (by assumption) ?_ ?_; rotate_left; (intro w hSw; (try dsimp only at hSw); go_simp; try (with_reducible rfl))
    try simp only [Act.put, List.getElem_toArray, List.getElem_cons_zero, List.getElem_cons_succ, List.setIfInBounds_toArray, List.set_cons_zero, List.set_cons_succ]
    refine sink_take 5 (v := ?_) rfl (by kernel_rfl) (by kernel_rfl) (by kernel_rfl) (by kernel_rfl) (by rfl) (fun _ _ _ h => h) (by assumption) ?_ ?_; rotate_left; (intro w hSw; (try dsimp only at hSw); go_simp; try (with_reducible rfl))
    try simp only [Act.put, List.getElem_toArray, List.getElem_cons_zero, List.getElem_cons_succ, List.setIfInBounds_toArray, List.set_cons_zero, List.set_cons_succ]
    refine sink_take 6 (v := ?_) rfl (by kernel_rfl) (by kernel_rfl) (by kernel_rfl) (by kernel_rfl) (by rfl) (fun _ _ _ h => h) (by assumption) ?_ ?_; rotate_left; (intro w hSw; (try dsimp only at hSw); go_simp; try (with_reducible rfl))
    try simp only [Act.put, List.getElem_toArray, List.getElem_cons_zero, List.getElem_cons_succ, List.setIfInBounds_toArray, List.set_cons_zero, List.set_cons_succ]
    refine sink_two (i := 4) (j := 8) (by kernel_rfl) rfl rfl (fun K hK => ?_) (fun K hK => ?_)
    · go_simp
      go_at_call 127; refine (C0.out _ (hB0)).mono ?_; rintro e w6 ⟨v6, rfl, ho, hb⟩; obtain ⟨q0, q1, q2, q3, q4, q5⟩ := HFA.out.drew.kept hb; obtain ⟨pv, cv, rfl⟩ := ho.read.is_slice; have HO6 := Lib.hid ho; have HB6 := Lib.hid (carry_below (hB0) (Nat.le_refl _) hb); have hl6 : w.heap.size < w6.heap.size := World.block_lt_of_cell? w6 ⟨w.heap.size, 0, none⟩ q0; clear ho hb
      refine hK.out _ _ (fun _ => by exact ⟨by first | assumption | exact carry_cell' ((Below.refl _ _).alloc (Nat.le_refl _) _) (by assumption), by first | assumption | exact carry_cell' ((Below.refl _ _).alloc (Nat.le_refl _) _) (by assumption), by first | assumption | exact carry_cell' ((Below.refl _ _).alloc (Nat.le_refl _) _) (by assumption), by first | assumption | exact carry_cell' ((Below.refl _ _).alloc (Nat.le_refl _) _) (by assumption)⟩) (fun hHeld => ?_)
      have hHeld := hHeld (by decide)
      clear hK K
      try simp only [Act.put, List.getElem_toArray, List.getElem_cons_zero, List.getElem_cons_succ, List.setIfInBounds_toArray, List.set_cons_zero, List.set_cons_succ]
      refine sink_take 7 (v := ?_) rfl (by kernel_rfl) (by kernel_rfl) (by kernel_rfl) (by kernel_rfl) (by rfl) (fun _ _ _ h => h) (by assumption) ?_ ?_; rotate_left; (intro w hSw; (try dsimp only at hSw); go_simp; try (with_reducible rfl))
      try simp only [Act.put, List.getElem_toArray, List.getElem_cons_zero, List.getElem_cons_succ, List.setIfInBounds_toArray, List.set_cons_zero, List.set_cons_succ]
      refine sink_one (i := 8) (by kernel_rfl) rfl (fun K hK => ?_)
      go_simp
      refine hK.out _ _ (fun _ => by exact ⟨by first | assumption | exact carry_cell' ((Below.refl _ _).alloc (Nat.le_refl _) _) (by assumption), by first | assumption | exact carry_cell' ((Below.refl _ _).alloc (Nat.le_refl _) _) (by assumption), by first | assumption | exact carry_cell' ((Below.refl _ _).alloc (Nat.le_refl _) _) (by assumption), by first | assumption | exact carry_cell' ((Below.refl _ _).alloc (Nat.le_refl _) _) (by assumption)⟩) (fun hHeld => ?_)
      have hHeld := hHeld (by decide)
      clear hK K
      try simp only [Act.put, List.getElem_toArray, List.getElem_cons_zero, List.getElem_cons_succ, List.setIfInBounds_toArray, List.set_cons_zero, List.set_cons_succ]
      refine sink_one (i := 9) (by kernel_rfl) rfl (fun K hK => ?_)
      go_simp
      refine hK.out _ _ (fun hne => absurd rfl hne) (fun hHeld => ?_)
      clear hK K
      try simp only [Act.put, List.getElem_toArray, List.getElem_cons_zero, List.getElem_cons_succ, List.setIfInBounds_toArray, List.set_cons_zero, List.set_cons_succ]
      refine sink_done (by kernel_rfl) ?_ _
      go_wp2_with fail
      go_meet
      exact ⟨w6.heap.size, .slice pv t.atom.args.length cv, _, rfl, fivB_new w6 _ _ _ _ _ _ _ rfl, HO6.out.frame fun q hq => Below.heap_alloc _ _ _ hq.2, fun q hq => ⟨hq.1, by simp; have := hq.2; omega, fun e => by have := hq.2; omega⟩, HB6.out.size, by simp, HB6.out.alloc HB6.out.size _⟩
    · go_simp
      refine hK.out _ _ (fun _ => by exact ⟨by first | assumption | exact carry_cell' ((Below.refl _ _).alloc (Nat.le_refl _) _) (by assumption), by first | assumption | exact carry_cell' ((Below.refl _ _).alloc (Nat.le_refl _) _) (by assumption), by first | assumption | exact carry_cell' ((Below.refl _ _).alloc (Nat.le_refl _) _) (by assumption), by first | assumption | exact carry_cell' ((Below.refl _ _).alloc (Nat.le_refl _) _) (by assumption)⟩) (fun hHeld => ?_)
      have hHeld := hHeld (by decide)
      clear hK K
      try simp only [Act.put, List.getElem_toArray, List.getElem_cons_zero, List.getElem_cons_succ, List.setIfInBounds_toArray, List.set_cons_zero, List.set_cons_succ]
      refine sink_one (i := 4) (by kernel_rfl) rfl (fun K hK => ?_)
      go_simp
      go_at_call 127; refine (C0.out _ (hB0.alloc hB0.size _)).mono ?_; rintro e w6 ⟨v6, rfl, ho, hb⟩; obtain ⟨q0, q1, q2, q3, q4, q5⟩ := (HFA.out.drew.alloc _).kept hb; obtain ⟨o0, o1, o2, o3, o4, o5⟩ := (fivB_new WA.drew (.int .i64 0) (.string ⟨#[]⟩) (.slice none 0 0) (.string ⟨#[]⟩) (.slice none 0 0) 68 WA.heap.size rfl).kept hb; have hz6 : WA.heap.size < w6.heap.size := World.block_lt_of_cell? w6 ⟨WA.heap.size, 0, none⟩ o0; obtain ⟨pv, cv, rfl⟩ := ho.read.is_slice; have HO6 := Lib.hid ho; have HB6 := Lib.hid (carry_below (hB0.alloc hB0.size _) (Nat.le_refl _) hb); have hl6 : w.heap.size < w6.heap.size := World.block_lt_of_cell? w6 ⟨w.heap.size, 0, none⟩ q0; clear ho hb
      refine hK.out _ _ (fun _ => by exact ⟨by first | assumption | exact carry_cell' ((Below.refl _ _).alloc (Nat.le_refl _) _) (by assumption), by first | assumption | exact carry_cell' ((Below.refl _ _).alloc (Nat.le_refl _) _) (by assumption), by first | assumption | exact carry_cell' ((Below.refl _ _).alloc (Nat.le_refl _) _) (by assumption), by first | assumption | exact carry_cell' ((Below.refl _ _).alloc (Nat.le_refl _) _) (by assumption)⟩) (fun hHeld => ?_)
      have hHeld := hHeld (by decide)
      clear hK K
      try simp only [Act.put, List.getElem_toArray, List.getElem_cons_zero, List.getElem_cons_succ, List.setIfInBounds_toArray, List.set_cons_zero, List.set_cons_succ]
      refine sink_take 7 (v := ?_) rfl (by kernel_rfl) (by kernel_rfl) (by kernel_rfl) (by kernel_rfl) (by rfl) (fun _ _ _ h => h) (by assumption) ?_ ?_; rotate_left; (intro w hSw; (try dsimp only at hSw); go_simp; try (with_reducible rfl))
      try simp only [Act.put, List.getElem_toArray, List.getElem_cons_zero, List.getElem_cons_succ, List.setIfInBounds_toArray, List.set_cons_zero, List.set_cons_succ]
      refine sink_one (i := 9) (by kernel_rfl) rfl (fun K hK => ?_)
      go_simp
      refine hK.out _ _ (fun hne => absurd rfl hne) (fun hHeld => ?_)
      clear hK K
      try simp only [Act.put, List.getElem_toArray, List.getElem_cons_zero, List.getElem_cons_succ, List.setIfInBounds_toArray, List.set_cons_zero, List.set_cons_succ]
      refine sink_done (by kernel_rfl) ?_ _
      go_wp2_with fail
      go_meet
      have hsz1 : (WA.drew.alloc (.cells #[.int .i64 0, .string ⟨#[]⟩, .slice none 0 0, .string ⟨#[]⟩, .slice none 0 0] 68)).heap.size = WA.heap.size + 1 := by rw [World.size_alloc]; rfl
      have hnf : ∀ k, Fresh (WA.drew.alloc (.cells #[.int .i64 0, .string ⟨#[]⟩, .slice none 0 0, .string ⟨#[]⟩, .slice none 0 0] 68)) w6 k → WA.heap.size + 1 ≤ k ∧ k < w6.heap.size := fun k hk => ⟨by have := hk.1; omega, hk.2⟩
      have hno : ¬ Fresh (WA.drew.alloc (.cells #[.int .i64 0, .string ⟨#[]⟩, .slice none 0 0, .string ⟨#[]⟩, .slice none 0 0] 68)) w6 WA.heap.size := fun h => by have := (hnf _ h).1; omega
      have HN6 : FivB w6 WA.heap.size (.int .i64 0) (.string ⟨#[]⟩) (.slice none 0 0) (.string ⟨#[]⟩) (.slice none 0 0) := ⟨o0, o1, o2, o3, o4, o5⟩
      exact ⟨WA.heap.size, .slice pv t.atom.args.length cv, _, rfl, ((((HN6.set0 _).set1 _).set2 _).set3 _).set4 _, ((((HO6.out.setCell hno _).setCell hno _).setCell hno _).setCell hno _).setCell hno _, fun q hq => ⟨by have := (hnf q hq).1; omega, by simp only [size_setCell]; exact (hnf q hq).2, fun e => by have := (hnf q hq).1; omega⟩, Nat.le_refl _, by simp only [size_setCell]; exact hz6,
        ((((HB6.out.setCell (by simp) _).setCell (by simp) _).setCell (by simp) _).setCell (by simp) _).setCell (by simp) _⟩
  case rest =>
    obtain ⟨ob, va1, Sa, rfl, hob⟩ := hcut
    obtain ⟨W0, hW0⟩ : ∃ x, x = wc := ⟨_, rfl⟩
    rw [← hW0] at hob ⊢
    clear hW0
    obtain ⟨hf0, hta, hsa, hob1, hob2, hbw⟩ := hob
    obtain ⟨pv, cv, rfl⟩ := hta.read.is_slice
    have HTA := Lib.hid hta
    have HSB := Lib.hid hsa
    have HF0 := Lib.hid (HFA.out.kept hbw)
    have HR0 := Lib.hid (HRA.out.kept hbw)
    have HO0 := Lib.hid hf0
    have HBW := Lib.hid (carry_below HBA.out (Nat.le_refl _) hbw)
    have hob3 : w.heap.size + 1 + 1 ≤ ob := by have := HSA.out; omega
    have HR00 : Hid (OwnRelF w W0 W0 (.slice none 0 0) t.parts 0) := Lib.hid ⟨_, _, _, _, World.ownsRow_nil _ _ _ _, MadeF.start _ _ _ _, fun g hg => by simp [Value.ownBlock] at hg, HBW.out, Nat.le_refl _⟩
    obtain ⟨d0, d1, d2, d3, d4, d5⟩ := HF0.out
    obtain ⟨o0, o1, o2, o3, o4, o5⟩ := HO0.out
    clear hf0 hta hsa hbw C0
    go_wp2
    go_loopw [4] (fun i wr => ∃ (k : Nat) (v : Value), k ≤ t.parts.length ∧ i = .int .i64 k ∧ OwnRelF w W0 wr v t.parts k ∧ FivB wr w.heap.size (.int .i64 t.op) (.string t.atom.name) (.slice pa t.atom.args.length ca) (.string t.var) (.slice pp t.parts.length cp) ∧ FivB wr (w.heap.size + 1) (.int .i64 0) (.string ⟨#[]⟩) (.slice none 0 0) (.string ⟨#[]⟩) (.slice none 0 0) ∧ FivB wr ob (.int .i64 t.op) (.string t.atom.name) (.slice pv t.atom.args.length cv) (.string t.var) v ∧ TmO wr Sa (.slice pv t.atom.args.length cv) t.atom.args) (fun i _ => t.parts.length - (intOf i).toNat)
    case atStart => exact ⟨0, _, Nat.zero_le _, rfl, HR00.out, HF0.out, HR0.out, HO0.out, HTA.out⟩
    case round =>
      obtain ⟨k, v, hk, rfl, hrel, htwo, hres, hout, hta⟩ := hrel
      have HR := Lib.hid hrel
      have HTW := Lib.hid htwo
      have HRS := Lib.hid hres
      have HOU := Lib.hid hout
      have HTR := Lib.hid hta
      obtain ⟨xs, f, p, Q, hown, hm, hne, hbe, hz⟩ := hrel
      have HOWN := Lib.hid hown
      have HM := Lib.hid hm
      have HNE := Lib.hid hne
      have HBE := Lib.hid hbe
      have HZ := Lib.hid hz
      clear hown hm hne hbe hz hres hta d0 d1 d2 d3 d4 d5 o0 o1 o2 o3 o4 o5
      obtain ⟨d0, d1, d2, d3, d4, d5⟩ := htwo
      obtain ⟨o0, o1, o2, o3, o4, o5⟩ := hout
      by_cases hlt : k < t.parts.length
      · obtain ⟨s, hs⟩ : ∃ s, t.parts[k]? = some s := ⟨_, List.getElem?_eq_getElem hlt⟩
        obtain ⟨b, off, rfl, va, vp, hc, hva, hvp⟩ := HV.out.2.get hs
        obtain ⟨qa0, qc0, qp0, qd0, rfl, rfl⟩ := FmV.open (t := s) ⟨hva, hvp⟩
        have hlb : b < w.heap.size := World.block_lt_of_cell? w _ hc.1
        have HS := Lib.hid hs
        have HSV := Lib.hid (FmV.kept (t := s) ⟨hva, hvp⟩ HBE.out)
        obtain ⟨c0, c1, c2, c3, c4⟩ := hc.kept HBE.out
        have hWb : b < W0.heap.size := by have := HBW.out.size; omega
        have hWa : w.heap.size < W0.heap.size := by omega
        have hWZ : w.heap.size + 1 < W0.heap.size := by omega
        have HFAR : Hid (∀ g, v.ownBlock = some g → W0.heap.size ≤ g) := Lib.hid (fun g hg => (HOWN.out.lt g hg).1)
        have hzz := HZ.out
        clear hs hva hvp hc
        have C1 : Hid (∀ W : World, Below wr.heap.size wr W → Calls Try.prog 139 #[.agg #[.int .i64 s.op, .string s.atom.name, .slice qa0 s.atom.args.length qc0, .string s.var, .slice qp0 s.parts.length qd0]] W (ToFmEnd s W)) := Lib.hid (fun W hW => H.out s (mem_of_at HS.out) W _ _ (HSV.out.kept (hW)) (Nat.le_trans (Fm.wt_part (mem_of_at HS.out)) HW.out))
        have hB0 : Below wr.heap.size wr wr.drew := (Below.refl _ _).drew
        go_wp2_with fail
        go_region_law (first
            | (refine step_append_lies _ (by rfl) _ _ _ (by rfl) W0.heap.size 68 i0 _ 5 88 Try.underlying66 hi hz0 hz1 hz2 rfl (by omega) v k xs (by rfl) (HW6.out.alloc _) ⟨w6.heap.size, 0, none⟩ 1 1 [.int .i64 s.op, .string s.atom.name, .slice qa s.atom.args.length qc, .string s.var, .slice qp s.parts.length qd] (by rfl) (by rfl) (World.news_of_block (cs := #[.int .i64 s.op, .string s.atom.name, .slice qa s.atom.args.length qc, .string s.var, .slice qp s.parts.length qd]) (t := 68) (fr := (0, 0)) (heap_alloc_new w6 _)) (by simp [Value.oneCell']) (by omega) (by unfold maxLen; omega) (by omega) (by have := hB6.size; simp; omega) (w6.heap.size + 1) (by simp) ?_; intro gg cap w7 hown7 hgrow hat hlt7; have s0 := app_cell hgrow q0 (far_row HFAR.out hWa); have s1 := app_cell hgrow q1 (far_row HFAR.out hob2); have s2 := app_cell hgrow q2 (far_row HFAR.out hWb); have s3 := app_cell hgrow q3 (far_row HFAR.out hWb); have s4 := app_cell hgrow q4 (far_row HFAR.out hWb); have s5 := app_cell hgrow q5 (far_row HFAR.out hWb); have s6 := app_cell hgrow q6 (far_row HFAR.out hWb); have s9 := (app_fiv hgrow O6.out (far_row HFAR.out hob2)).2.2.2.2.2; have HOWN7 := Lib.hid hown7; have HGROW7 := Lib.hid hgrow; have HAT7 := Lib.hid hat; clear hown7 hgrow hat)
            | (go_simp; go_at_call 139; refine (C1.out _ hB0).mono ?_; rintro e w6 ⟨va6, vp6, rfl, ho, hb⟩; have q0 := carry_cell' hb d4; have q1 := carry_cell' hb o4; have q2 := carry_cell' hb c0; have q3 := carry_cell' hb c1; have q4 := carry_cell' hb c2; have q5 := carry_cell' hb c3; have q6 := carry_cell' hb c4; have hB6 := carry_below hB0 (Nat.le_refl _) hb; obtain ⟨qa, qc, qp, qd, rfl, rfl⟩ := ho.read.open; have HO6 := Lib.hid ho; have HW6 := Lib.hid (own_kept HOWN.out (hB6)); have T6 := Lib.hid (HTW.out.kept (hB6)); have R6 := Lib.hid (HRS.out.kept (hB6)); have O6 := Lib.hid (HOU.out.kept (hB6)); have A6 := Lib.hid (HTR.out.frame (w' := w6) fun q hq => (hB6).block q (by have := HSB.out q hq; omega)); have hz6 : W0.heap.size ≤ w6.heap.size := Nat.le_trans HZ.out (hB6).size; have hl1 : ob < w6.heap.size := (by omega); have hl2 : w.heap.size < w6.heap.size := (by omega); have hl3 : b < w6.heap.size := (by omega); clear hb ho))
        all_goals
          have HN : Hid (OwnRelF w W0 (w7.setCell ⟨ob, 4, none⟩ (.slice (some ⟨gg, 0, none⟩) (k + 1) cap)) (.slice (some ⟨gg, 0, none⟩) (k + 1) cap) t.parts (k + 1)) := Lib.hid (OwnRelF.next (by omega) HBE.out HOWN.out HM.out HNE.out HZ.out HS.out (HO6.out.mono fun q hq => ⟨hq.1, hq.2⟩) (hB6) HOWN7.out HGROW7.out HAT7.out (by simp; omega) (by simp; omega))
          have HT7 : Hid (FivB (w7.setCell ⟨ob, 4, none⟩ (.slice (some ⟨gg, 0, none⟩) (k + 1) cap)) w.heap.size (.int .i64 t.op) (.string t.atom.name) (.slice pa t.atom.args.length ca) (.string t.var) (.slice (some ⟨b, off, none⟩) t.parts.length cp)) := Lib.hid ((app_fiv HGROW7.out T6.out (far_row HFAR.out hWa)).setFar (by simp; omega) _)
          have HS7 : Hid (FivB (w7.setCell ⟨ob, 4, none⟩ (.slice (some ⟨gg, 0, none⟩) (k + 1) cap)) (w.heap.size + 1) (.int .i64 0) (.string ⟨#[]⟩) (.slice none 0 0) (.string ⟨#[]⟩) (.slice none 0 0)) := Lib.hid ((app_fiv HGROW7.out R6.out (far_row HFAR.out hWZ)).setFar (by simp; omega) _)
          have HO7 : Hid (FivB (w7.setCell ⟨ob, 4, none⟩ (.slice (some ⟨gg, 0, none⟩) (k + 1) cap)) ob (.int .i64 t.op) (.string t.atom.name) (.slice pv t.atom.args.length cv) (.string t.var) (.slice (some ⟨gg, 0, none⟩) (k + 1) cap)) := Lib.hid ((app_fiv HGROW7.out O6.out (far_row HFAR.out hob2)).set4 _)
          have HA7 : Hid (TmO (w7.setCell ⟨ob, 4, none⟩ (.slice (some ⟨gg, 0, none⟩) (k + 1) cap)) Sa (.slice pv t.atom.args.length cv) t.atom.args) := Lib.hid ((app_tmO HGROW7.out A6.out fun q hq => ⟨by have := HSB.out q hq; omega, fun e => by have := HFAR.out q e; have := HSB.out q hq; omega⟩).setCell (fun h => (HSB.out _ h).2.2 rfl) _)
          clear d0 d1 d2 d3 d4 d5 o0 o1 o2 o3 o4 o5 c0 c1 c2 c3 c4 hB0 hB6 q0 s0 q1 s1 q2 s2 q3 s3 q4 s4 q5 s5 q6 s6 s9
          go_wp2
          go_roundw
          case rel => exact ⟨k + 1, _, by omega, by go_num, HN.out, HT7.out, HS7.out, HO7.out, HA7.out⟩
          case measure => simp [intOf]; omega
      · have hke : k = t.parts.length := by omega
        subst hke
        have HE := Lib.hid HR.out.whole
        obtain ⟨pq, cq, rfl⟩ : ∃ p q, v = .slice p t.parts.length q := by
          obtain ⟨p, q, e⟩ := HR.out.whole.read.is_slice; exact ⟨p, q, e⟩
        obtain ⟨r0, r1, r2, r3, r4, r5⟩ := HRS.out
        go_wp2
        refine bodyPost_ret (v := .agg #[.int .i64 t.op, .string t.atom.name, .slice pv t.atom.args.length cv, .string t.var, .slice pq t.parts.length cq]) (by simp [results, Try.results139, go_sem, r0, r1, r2, r3, r4]) rfl ⟨_, _, rfl, ⟨Sa, Fresh W0 wr, ?_, ?_, ?_, ?_, ?_⟩, ?_⟩
        · have hn : ¬ Sa (w.heap.size + 1) := fun h => by have := (HSB.out _ h).1; have := HSA.out; omega
          exact ((((HTR.out.setCell hn _).setCell hn _).setCell hn _).setCell hn _).setCell hn _
        · have hn : ¬ Fresh W0 wr (w.heap.size + 1) := fun h => by have := h.1; omega
          exact ((((HE.out.setCell hn _).setCell hn _).setCell hn _).setCell hn _).setCell hn _
        · intro q hq
          have h1 := HSB.out q hq
          have h2 := HZ.out
          have h3 := HSA.out
          exact ⟨by omega, by simp only [size_setCell]; omega⟩
        · intro q hq
          have h1 := hq.1
          have h2 := HBW.out.size
          exact ⟨by omega, by simp only [size_setCell]; exact hq.2⟩
        · intro q h1 h2
          have := (HSB.out q h1).2.1
          have := h2.1
          omega
        · exact ((((HBE.out.setCell (by simp) _).setCell (by simp) _).setCell (by simp) _).setCell (by simp) _).setCell (by simp) _

theorem own8_any (t : Fm) : own8T t := Fm.ind (P := own8T) (fun t ih => own8_of t ih) t

end Go.Proofs.Ytppmiedhoimgmaa
