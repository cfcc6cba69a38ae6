/- Several texts in one: each says what it proves. No condition but theirs. -/
import Derived.Test.YtdpeanpmjhpblaaGreatEqG
import Derived.Test.YtdpeanpmjhpblaaGreatOwn
import Derived.Test.YtdpeanpmjhpblaaGreatVnG
import Derived.Deep.AppendLies
import Derived.Deep.RegionLaw
import Derived.Deep.Cut
import Derived.Deep.CutRange
import Derived.Test.YtdpeanpmjhpblaaGreatCopy
import Derived.Test.YtdpeanpmjhpblaaGreatFiG
import Derived.Test.YtdpeanpmjhpblaaGreatYaG
/- A loop that copies a list of formulas one by one into a row of its own: what it has made. No condition. -/
namespace Go.Proofs.YtdpeanpmjhpblaaGreat
open Go.RowKit
set_option linter.unusedVariables false
set_option linter.unusedSimpArgs false

/-- What the copying loop has appended after k rounds: the row and the made formulas lie from the world W0 on. -/
def OwnRelF (w W0 wr : World) (v : Value) (l : List Fm) (k : Nat) : Prop :=
  ∃ xs f p Q, wr.ownsRow W0.heap.size 34 5 v k xs ∧ MadeF W0 wr xs l k f p Q ∧ (∀ g, v.ownBlock = some g → ∀ j, j < 2 * k → ¬ Q j g) ∧ Below w.heap.size w wr ∧ W0.heap.size ≤ wr.heap.size

theorem OwnRelF.next {w W0 wr w' w'' : World} {v va vp : Value} {l : List Fm} {k : Nat} {t : Fm} {xs : List Value} {f p : Nat → Value} {Q : Nat → Nat → Prop} {g cap : Nat} {o : Obj} {a : Addr} {u : Value}
    (hw0 : w.heap.size ≤ W0.heap.size) (hb : Below w.heap.size w wr) (hown : wr.ownsRow W0.heap.size 34 5 v k xs) (hm : MadeF W0 wr xs l k f p Q) (hne : ∀ g, v.ownBlock = some g → ∀ j, j < 2 * k → ¬ Q j g) (hz : W0.heap.size ≤ wr.heap.size)
    (ht : l[k]? = some t) (ho : FOwn w' (Fresh wr w') t va vp) (hb' : Below wr.heap.size wr w')
    (hown2 : w''.ownsRow W0.heap.size 34 5 (.slice (some ⟨g, 0, none⟩) (k + 1) cap) (k + 1) (xs ++ [.int .i64 t.op, .string t.atom.name, va, .string t.var, vp])) (hgr : (w'.alloc o).grownBy w'' v.ownBlock)
    (hat : v.ownBlock = some g ∨ g = w'.heap.size + 1) (ha : a.block < W0.heap.size) (haw : w.heap.size ≤ a.block) :
    OwnRelF w W0 (w''.setCell a u) (.slice (some ⟨g, 0, none⟩) (k + 1) cap) l (k + 1) := by
  have hl := hown.1
  have hold : ∀ b, v.ownBlock = some b → W0.heap.size ≤ b ∧ b < wr.heap.size := fun b hb => hown.lt b hb
  have hz' := hb'.size
  have hz2 := hgr.size
  have hsz : w''.heap.size ≥ w'.heap.size + 1 := by simpa using hz2
  have hget : ∀ j u, ([.int .i64 t.op, .string t.atom.name, va, .string t.var, vp] : List Value)[j]? = some u → (xs ++ [.int .i64 t.op, .string t.atom.name, va, .string t.var, vp])[k * 5 + j]? = some u := fun j u hj => by
    rw [List.getElem?_append_right (by omega), show k * 5 + j - xs.length = j by omega]; exact hj
  obtain ⟨Q', hm', hq⟩ := hm.next (w' := w''.setCell a u) (xs' := xs ++ [.int .i64 t.op, .string t.atom.name, va, .string t.var, vp]) (S := Fresh wr w') ht (fun i j hi hj => by rw [List.getElem?_append_left (by omega)])
    ⟨hget 0 _ rfl, hget 1 _ rfl, hget 2 _ rfl, hget 3 _ rfl, hget 4 _ rfl⟩
    ((ho.frame fun b hb => by
      rw [hgr.block b (by simp; have := hb.2; omega) (fun e => by have := hold b e.symm; have := hb.1; omega)]
      exact Below.heap_alloc _ _ _ hb.2).setCell (fun h => by have := h.1; omega) _)
    (fun b hb => ⟨hb.1, by simp only [size_setCell]; have := hb.2; omega⟩) (by simp only [size_setCell]; omega) hz (fun j b hj hs => by
      have h1 := hm.sub j b hj hs
      have hnb : some b ≠ v.ownBlock := fun e => hne b e.symm j hj hs
      rw [Below.heap_setCell _ _ _ _ (by omega), hgr.block b (by simp; omega) hnb, Below.heap_alloc _ _ _ (by omega)]
      exact hb'.block b h1.2)
  refine ⟨_, _, _, Q', ownsRow_setCell_below hown2 ha u, hm', fun g' hg' j hj h => ?_, ?_, ?_⟩
  · have e : g' = g := by simp [Value.ownBlock] at hg'; exact hg'.symm
    subst e
    rcases hq j g' hj h with ⟨hj2, h2⟩ | h2
    · have h3 := hm.sub j g' hj2 h2
      rcases hat with h1 | h1
      · exact hne g' h1 j hj2 h2
      · omega
    · rcases hat with h1 | h1
      · have := hold g' h1; have := h2.1; omega
      · have := h2.2; omega
  · refine Below.setCell ((carry_below hb (Nat.le_refl _) hb').trans ⟨?_, ?_, ?_, ?_, fun b hb2 => ?_⟩) haw u
    · exact hgr.os
    · exact hgr.tape
    · exact hgr.output
    · omega
    · have := hb.size
      rw [hgr.block b (by simp; omega) (fun e => by have := hold b e.symm; omega), Below.heap_alloc _ _ _ (by omega)]
  · simp only [size_setCell]; omega

theorem OwnRelF.whole {w W0 wr : World} {v : Value} {l : List Fm} (h : OwnRelF w W0 wr v l l.length) : FmO wr (Fresh W0 wr) v l := by
  obtain ⟨xs, f, p, Q, h1, h2, h3, h4, h5⟩ := h
  exact MadeF.whole h1 h2 (Nat.le_refl _) h3

theorem app_fiv {w w' : World} {o : Obj} {row : Option Nat} (hg : (w.alloc o).grownBy w' row) {b : Nat} {x0 x1 x2 x3 x4 : Value} (h : FivB w b x0 x1 x2 x3 x4) (hne : some b ≠ row) : FivB w' b x0 x1 x2 x3 x4 :=
  ⟨app_cell hg h.1 hne, app_cell hg h.2.1 hne, app_cell hg h.2.2.1 hne, app_cell hg h.2.2.2.1 hne, app_cell hg h.2.2.2.2.1 hne, fun j => by
    have h1 := h.alloc o
    have hlt := World.block_lt_of_cell? (w.alloc o) ⟨b, 0, none⟩ h1.1
    exact (World.frozen?_of_block (w := w.alloc o) (a := ⟨b, j, none⟩) (hg.block b hlt hne)).trans (h1.2.2.2.2.2 j)⟩

/-- Arguments of an atom that lie in blocks S behind a round of the loop. -/
theorem app_tmO {w w' : World} {o : Obj} {row : Option Nat} (hg : (w.alloc o).grownBy w' row) {S : Nat → Prop} {v : Value} {l : List Tm} (h : TmO w S v l) (hs : ∀ k, S k → k < w.heap.size ∧ row ≠ some k) : TmO w' S v l :=
  h.frame fun k hk => (hg.block k (by have := (hs k hk).1; simp; omega) (fun e => (hs k hk).2 e.symm)).trans (Below.heap_alloc _ _ _ (hs k hk).1)

/-- The copy's first part: the variable that the copy is built in, wherever it lies, with the atom's own arguments. -/
def OutB (w WA W0 : World) (t : Fm) (ob : Nat) (va : Value) (Sa : Nat → Prop) : Prop :=
  FivB W0 ob (.int .i64 t.op) (.string t.atom.name) va (.string t.var) (.slice none 0 0) ∧ TmO W0 Sa va t.atom.args ∧ (∀ k, Sa k → WA.heap.size ≤ k ∧ k < W0.heap.size ∧ k ≠ ob) ∧ WA.heap.size ≤ ob ∧ ob < W0.heap.size ∧ Below WA.heap.size WA W0

section
variable {P : Program} {ops : Array Oper} {Q : Exit → Act → World → Prop} {md : Region.Mode} {S : World → Prop} {n : Nat}
theorem sink_two {i j : Nat} {oi oj : Oper} {left : Nat} {seen : Array Bool} {act : Act} {wd : World} (hr : Region.ready md ops seen = [i, j]) (hi : ops[i]? = some oi) (hj : ops[j]? = some oj)
    (h1 : ∀ K' : Act → World → Prop, Shut (∀ act wd, (i ≠ n → S wd) → ((i ≠ n → S wd) → wpSink P md ops Q S n left (seen.setIfInBounds i true) act wd) → K' act wd) → if Region.wanted oi (yielded ops act.tmps) = true then Oper.wp P oi act wd K' Q else K' (act.put oi.dst undef) wd)
    (h2 : ∀ K' : Act → World → Prop, Shut (∀ act wd, (j ≠ n → S wd) → ((j ≠ n → S wd) → wpSink P md ops Q S n left (seen.setIfInBounds j true) act wd) → K' act wd) → if Region.wanted oj (yielded ops act.tmps) = true then Oper.wp P oj act wd K' Q else K' (act.put oj.dst undef) wd) :
    wpSink P md ops Q S n (left + 1) seen act wd := by
  refine ⟨fun hnil => (by rw [hr] at hnil; cases hnil), fun k hk => ?_⟩
  rw [hr] at hk
  rcases List.mem_cons.1 hk with rfl | hk
  · exact wpOp_step hi (fun K' hK => h1 K' (fun act wd hS hW => hK act wd ⟨hS, hW hS⟩))
  · obtain rfl : k = j := List.mem_singleton.1 hk
    exact wpOp_step hj (fun K' hK => h2 K' (fun act wd hS hW => hK act wd ⟨hS, hW hS⟩))
end

end Go.Proofs.YtdpeanpmjhpblaaGreat

/- The model's copy of a formula: a contract, for formulas of at most 1048576 names' bytes, parts and arguments. -/
namespace Go.Proofs.YtdpeanpmjhpblaaGreat
open Go.RowKit
set_option linter.unusedVariables false
set_option linter.unusedSimpArgs false

def own8T (t : Fm) : Prop := ∀ (w : World) (va vp : Value), FmV w va vp t → t.wt ≤ 1048576 →
  Calls Tryz.prog 45 #[.agg #[.int .i64 t.op, .string t.atom.name, va, .string t.var, vp]] w (ToFmEnd t w)

set_option maxRecDepth 100000 in
set_option maxHeartbeats 8000000 in
theorem own8_of (t : Fm) (h : ∀ s ∈ t.parts, own8T s) : own8T t := by
  intro w va vp hv hw
  have H := Lib.hid h
  have HW := Lib.hid hw
  have hlen : t.parts.length ≤ 1048576 := Nat.le_trans t.wt_len hw
  obtain ⟨pa, ca, pp, cp, rfl, rfl⟩ := hv.open
  have HV := Lib.hid hv
  obtain ⟨i0, hi, hz0, hz1, hz2⟩ := info_parts infoFm
  obtain ⟨WA, hWA⟩ : ∃ W, W = (w.alloc (.cells #[.int .i64 t.op, .string t.atom.name, .slice pa t.atom.args.length ca, .string t.var, .slice pp t.parts.length cp] 34)).alloc (.cells #[.int .i64 0, .string ⟨#[]⟩, .slice none 0 0, .string ⟨#[]⟩, .slice none 0 0] 34) := ⟨_, rfl⟩
  have HFA : Hid (FivB WA w.heap.size (.int .i64 t.op) (.string t.atom.name) (.slice pa t.atom.args.length ca) (.string t.var) (.slice pp t.parts.length cp)) := Lib.hid (by rw [hWA]; exact (fivB_new w (.int .i64 t.op) (.string t.atom.name) (.slice pa t.atom.args.length ca) (.string t.var) (.slice pp t.parts.length cp) 34 _ rfl).alloc _)
  have HRA : Hid (FivB WA (w.heap.size + 1) (.int .i64 0) (.string ⟨#[]⟩) (.slice none 0 0) (.string ⟨#[]⟩) (.slice none 0 0)) := Lib.hid (by rw [hWA]; exact fivB_new _ (.int .i64 0) (.string ⟨#[]⟩) (.slice none 0 0) (.string ⟨#[]⟩) (.slice none 0 0) 34 _ (by simp))
  have HBA : Hid (Below w.heap.size w WA) := Lib.hid (by rw [hWA]; exact ((Below.refl _ _).alloc (Nat.le_refl _) _).alloc (by simp) _)
  have HSA : Hid (WA.heap.size = w.heap.size + 1 + 1) := Lib.hid (by rw [hWA]; simp)
  have C0 : Hid (∀ W : World, Below WA.heap.size WA W → Calls Tryz.prog 64 #[.agg #[.string t.atom.name, .slice pa t.atom.args.length ca]] W (ToEnd t.atom W)) := Lib.hid (fun W hW => l2Own_any t.atom W _ ((HV.out.kept (carry_below HBA.out (Nat.le_refl _) hW)).1) (Nat.le_trans t.wt_atom HW.out))
  clear hv hw h
  go_enter Tryz.func45, Tryz.ntmps45
  go_upto_region 1 with fail
  rw [← hWA]
  clear hWA
  go_cut [3] from 5 to 12 (fun z wx => ∃ (ob : Nat) (va : Value) (Sa : Nat → Prop), z = .pointer (some ⟨ob, 0, none⟩) ∧ OutB w WA wx t ob va Sa)
  case first =>
    have hB0 : Below WA.heap.size WA WA.drew := (Below.refl _ _).drew
    obtain ⟨d0, d1, d2, d3, d4, d5⟩ := HFA.out.drew
    refine sink_start 9 (fun w' => w'.cell? ⟨w.heap.size, 0, none⟩ = some (.int .i64 t.op) ∧ w'.cell? ⟨w.heap.size, 1, none⟩ = some (.string t.atom.name) ∧ w'.cell? ⟨w.heap.size, 2, none⟩ = some (.slice pa t.atom.args.length ca) ∧ w'.cell? ⟨w.heap.size, 3, none⟩ = some (.string t.var)) (by kernel_rfl) (by exact ⟨by first | assumption | exact carry_cell' ((Below.refl _ _).alloc (Nat.le_refl _) _) (by assumption), by first | assumption | exact carry_cell' ((Below.refl _ _).alloc (Nat.le_refl _) _) (by assumption), by first | assumption | exact carry_cell' ((Below.refl _ _).alloc (Nat.le_refl _) _) (by assumption), by first | assumption | exact carry_cell' ((Below.refl _ _).alloc (Nat.le_refl _) _) (by assumption)⟩) (fun hHeld => ?_)
    refine sink_take 0 (v := ?_) rfl (by kernel_rfl) (by kernel_rfl) (by kernel_rfl) (by kernel_rfl) (by rfl) (fun _ _ _ h => h) (by assumption) ?_ ?_; rotate_left; (intro w hSw; (try dsimp only at hSw); go_simp; try (with_reducible rfl))
    try simp only [Act.put, List.getElem_toArray, List.getElem_cons_zero, List.getElem_cons_succ, List.setIfInBounds_toArray, List.set_cons_zero, List.set_cons_succ]
    refine sink_take 1 (v := ?_) rfl (by kernel_rfl) (by kernel_rfl) (by kernel_rfl) (by kernel_rfl) (by rfl) (fun _ _ _ h => h) (by assumption) ?_ ?_; rotate_left; (intro w hSw; (try dsimp only at hSw); go_simp; try (with_reducible rfl))
    try simp only [Act.put, List.getElem_toArray, List.getElem_cons_zero, List.getElem_cons_succ, List.setIfInBounds_toArray, List.set_cons_zero, List.set_cons_succ]
    refine sink_take 2 (v := ?_) rfl (by kernel_rfl) (by kernel_rfl) (by kernel_rfl) (by kernel_rfl) (by rfl) (fun _ _ _ h => h) (by assumption) ?_ ?_; rotate_left; (intro w hSw; (try dsimp only at hSw); go_simp; try (with_reducible rfl))
    try simp only [Act.put, List.getElem_toArray, List.getElem_cons_zero, List.getElem_cons_succ, List.setIfInBounds_toArray, List.set_cons_zero, List.set_cons_succ]
    refine sink_take 3 (v := ?_) rfl (by kernel_rfl) (by kernel_rfl) (by kernel_rfl) (by kernel_rfl) (by rfl) (fun _ _ _ h => h) (by assumption) ?_ ?_; rotate_left; (intro w hSw; (try dsimp only at hSw); go_simp; try (with_reducible rfl))
    try simp only [Act.put, List.getElem_toArray, List.getElem_cons_zero, List.getElem_cons_succ, List.setIfInBounds_toArray, List.set_cons_zero, List.set_cons_succ]
    refine sink_take 5 (v := ?_) rfl (by kernel_rfl) (by kernel_rfl) (by kernel_rfl) (by kernel_rfl) (by rfl) (fun _ _ _ h => h) (by assumption) ?_ ?_; rotate_left; (intro w hSw; (try dsimp only at hSw); go_simp; try (with_reducible rfl))
    try simp only [Act.put, List.getElem_toArray, List.getElem_cons_zero, List.getElem_cons_succ, List.setIfInBounds_toArray, List.set_cons_zero, List.set_cons_succ]
    refine sink_take 6 (v := ?_) rfl (by kernel_rfl) (by kernel_rfl) (by kernel_rfl) (by kernel_rfl) (by rfl) (fun _ _ _ h => h) (by assumption) ?_ ?_; rotate_left; (intro w hSw; (try dsimp only at hSw); go_simp; try (with_reducible rfl))
    try simp only [Act.put, List.getElem_toArray, List.getElem_cons_zero, List.getElem_cons_succ, List.setIfInBounds_toArray, List.set_cons_zero, List.set_cons_succ]
    refine sink_two (i := 4) (j := 8) (by kernel_rfl) rfl rfl (fun K hK => ?_) (fun K hK => ?_)
    · go_simp
      go_at_call 64; refine (C0.out _ (hB0)).mono ?_; rintro e w6 ⟨v6, rfl, ho, hb⟩; obtain ⟨q0, q1, q2, q3, q4, q5⟩ := HFA.out.drew.kept hb; obtain ⟨pv, cv, rfl⟩ := ho.read.is_slice; have HO6 := Lib.hid ho; have HB6 := Lib.hid (carry_below (hB0) (Nat.le_refl _) hb); have hl6 : w.heap.size < w6.heap.size := World.block_lt_of_cell? w6 ⟨w.heap.size, 0, none⟩ q0; clear ho hb
      refine hK.out _ _ (fun _ => by exact ⟨by first | assumption | exact carry_cell' ((Below.refl _ _).alloc (Nat.le_refl _) _) (by assumption), by first | assumption | exact carry_cell' ((Below.refl _ _).alloc (Nat.le_refl _) _) (by assumption), by first | assumption | exact carry_cell' ((Below.refl _ _).alloc (Nat.le_refl _) _) (by assumption), by first | assumption | exact carry_cell' ((Below.refl _ _).alloc (Nat.le_refl _) _) (by assumption)⟩) (fun hHeld => ?_)
      have hHeld := hHeld (by decide)
      clear hK K
      try simp only [Act.put, List.getElem_toArray, List.getElem_cons_zero, List.getElem_cons_succ, List.setIfInBounds_toArray, List.set_cons_zero, List.set_cons_succ]
      refine sink_take 7 (v := ?_) rfl (by kernel_rfl) (by kernel_rfl) (by kernel_rfl) (by kernel_rfl) (by rfl) (fun _ _ _ h => h) (by assumption) ?_ ?_; rotate_left; (intro w hSw; (try dsimp only at hSw); go_simp; try (with_reducible rfl))
      try simp only [Act.put, List.getElem_toArray, List.getElem_cons_zero, List.getElem_cons_succ, List.setIfInBounds_toArray, List.set_cons_zero, List.set_cons_succ]
      refine sink_one (i := 8) (by kernel_rfl) rfl (fun K hK => ?_)
      go_simp
      refine hK.out _ _ (fun _ => by exact ⟨by first | assumption | exact carry_cell' ((Below.refl _ _).alloc (Nat.le_refl _) _) (by assumption), by first | assumption | exact carry_cell' ((Below.refl _ _).alloc (Nat.le_refl _) _) (by assumption), by first | assumption | exact carry_cell' ((Below.refl _ _).alloc (Nat.le_refl _) _) (by assumption), by first | assumption | exact carry_cell' ((Below.refl _ _).alloc (Nat.le_refl _) _) (by assumption)⟩) (fun hHeld => ?_)
      have hHeld := hHeld (by decide)
      clear hK K
      try simp only [Act.put, List.getElem_toArray, List.getElem_cons_zero, List.getElem_cons_succ, List.setIfInBounds_toArray, List.set_cons_zero, List.set_cons_succ]
      refine sink_one (i := 9) (by kernel_rfl) rfl (fun K hK => ?_)
      go_simp
      refine hK.out _ _ (fun hne => absurd rfl hne) (fun hHeld => ?_)
      clear hK K
      try simp only [Act.put, List.getElem_toArray, List.getElem_cons_zero, List.getElem_cons_succ, List.setIfInBounds_toArray, List.set_cons_zero, List.set_cons_succ]
      refine sink_done (by kernel_rfl) ?_ _
      go_wp2_with fail
      go_meet
      exact ⟨w6.heap.size, .slice pv t.atom.args.length cv, _, rfl, fivB_new w6 _ _ _ _ _ _ _ rfl, HO6.out.frame fun q hq => Below.heap_alloc _ _ _ hq.2, fun q hq => ⟨hq.1, by simp; have := hq.2; omega, fun e => by have := hq.2; omega⟩, HB6.out.size, by simp, HB6.out.alloc HB6.out.size _⟩
    · go_simp
      refine hK.out _ _ (fun _ => by exact ⟨by first | assumption | exact carry_cell' ((Below.refl _ _).alloc (Nat.le_refl _) _) (by assumption), by first | assumption | exact carry_cell' ((Below.refl _ _).alloc (Nat.le_refl _) _) (by assumption), by first | assumption | exact carry_cell' ((Below.refl _ _).alloc (Nat.le_refl _) _) (by assumption), by first | assumption | exact carry_cell' ((Below.refl _ _).alloc (Nat.le_refl _) _) (by assumption)⟩) (fun hHeld => ?_)
      have hHeld := hHeld (by decide)
      clear hK K
      try simp only [Act.put, List.getElem_toArray, List.getElem_cons_zero, List.getElem_cons_succ, List.setIfInBounds_toArray, List.set_cons_zero, List.set_cons_succ]
      refine sink_one (i := 4) (by kernel_rfl) rfl (fun K hK => ?_)
      go_simp
      go_at_call 64; refine (C0.out _ (hB0.alloc hB0.size _)).mono ?_; rintro e w6 ⟨v6, rfl, ho, hb⟩; obtain ⟨q0, q1, q2, q3, q4, q5⟩ := (HFA.out.drew.alloc _).kept hb; obtain ⟨o0, o1, o2, o3, o4, o5⟩ := (fivB_new WA.drew (.int .i64 0) (.string ⟨#[]⟩) (.slice none 0 0) (.string ⟨#[]⟩) (.slice none 0 0) 34 WA.heap.size rfl).kept hb; have hz6 : WA.heap.size < w6.heap.size := World.block_lt_of_cell? w6 ⟨WA.heap.size, 0, none⟩ o0; obtain ⟨pv, cv, rfl⟩ := ho.read.is_slice; have HO6 := Lib.hid ho; have HB6 := Lib.hid (carry_below (hB0.alloc hB0.size _) (Nat.le_refl _) hb); have hl6 : w.heap.size < w6.heap.size := World.block_lt_of_cell? w6 ⟨w.heap.size, 0, none⟩ q0; clear ho hb
      refine hK.out _ _ (fun _ => by exact ⟨by first | assumption | exact carry_cell' ((Below.refl _ _).alloc (Nat.le_refl _) _) (by assumption), by first | assumption | exact carry_cell' ((Below.refl _ _).alloc (Nat.le_refl _) _) (by assumption), by first | assumption | exact carry_cell' ((Below.refl _ _).alloc (Nat.le_refl _) _) (by assumption), by first | assumption | exact carry_cell' ((Below.refl _ _).alloc (Nat.le_refl _) _) (by assumption)⟩) (fun hHeld => ?_)
      have hHeld := hHeld (by decide)
      clear hK K
      try simp only [Act.put, List.getElem_toArray, List.getElem_cons_zero, List.getElem_cons_succ, List.setIfInBounds_toArray, List.set_cons_zero, List.set_cons_succ]
      refine sink_take 7 (v := ?_) rfl (by kernel_rfl) (by kernel_rfl) (by kernel_rfl) (by kernel_rfl) (by rfl) (fun _ _ _ h => h) (by assumption) ?_ ?_; rotate_left; (intro w hSw; (try dsimp only at hSw); go_simp; try (with_reducible rfl))
      try simp only [Act.put, List.getElem_toArray, List.getElem_cons_zero, List.getElem_cons_succ, List.setIfInBounds_toArray, List.set_cons_zero, List.set_cons_succ]
      refine sink_one (i := 9) (by kernel_rfl) rfl (fun K hK => ?_)
      go_simp
      refine hK.out _ _ (fun hne => absurd rfl hne) (fun hHeld => ?_)
      clear hK K
      try simp only [Act.put, List.getElem_toArray, List.getElem_cons_zero, List.getElem_cons_succ, List.setIfInBounds_toArray, List.set_cons_zero, List.set_cons_succ]
      refine sink_done (by kernel_rfl) ?_ _
      go_wp2_with fail
      go_meet
      have hsz1 : (WA.drew.alloc (.cells #[.int .i64 0, .string ⟨#[]⟩, .slice none 0 0, .string ⟨#[]⟩, .slice none 0 0] 34)).heap.size = WA.heap.size + 1 := by rw [World.size_alloc]; rfl
      have hnf : ∀ k, Fresh (WA.drew.alloc (.cells #[.int .i64 0, .string ⟨#[]⟩, .slice none 0 0, .string ⟨#[]⟩, .slice none 0 0] 34)) w6 k → WA.heap.size + 1 ≤ k ∧ k < w6.heap.size := fun k hk => ⟨by have := hk.1; omega, hk.2⟩
      have hno : ¬ Fresh (WA.drew.alloc (.cells #[.int .i64 0, .string ⟨#[]⟩, .slice none 0 0, .string ⟨#[]⟩, .slice none 0 0] 34)) w6 WA.heap.size := fun h => by have := (hnf _ h).1; omega
      have HN6 : FivB w6 WA.heap.size (.int .i64 0) (.string ⟨#[]⟩) (.slice none 0 0) (.string ⟨#[]⟩) (.slice none 0 0) := ⟨o0, o1, o2, o3, o4, o5⟩
      exact ⟨WA.heap.size, .slice pv t.atom.args.length cv, _, rfl, ((((HN6.set0 _).set1 _).set2 _).set3 _).set4 _, ((((HO6.out.setCell hno _).setCell hno _).setCell hno _).setCell hno _).setCell hno _, fun q hq => ⟨by have := (hnf q hq).1; omega, by simp only [size_setCell]; exact (hnf q hq).2, fun e => by have := (hnf q hq).1; omega⟩, Nat.le_refl _, by simp only [size_setCell]; exact hz6,
        ((((HB6.out.setCell (by simp) _).setCell (by simp) _).setCell (by simp) _).setCell (by simp) _).setCell (by simp) _⟩
  case rest =>
    obtain ⟨ob, va1, Sa, rfl, hob⟩ := hcut
    obtain ⟨W0, hW0⟩ : ∃ x, x = wc := ⟨_, rfl⟩
    rw [← hW0] at hob ⊢
    clear hW0
    obtain ⟨hf0, hta, hsa, hob1, hob2, hbw⟩ := hob
    obtain ⟨pv, cv, rfl⟩ := hta.read.is_slice
    have HTA := Lib.hid hta
    have HSB := Lib.hid hsa
    have HF0 := Lib.hid (HFA.out.kept hbw)
    have HR0 := Lib.hid (HRA.out.kept hbw)
    have HO0 := Lib.hid hf0
    have HBW := Lib.hid (carry_below HBA.out (Nat.le_refl _) hbw)
    have hob3 : w.heap.size + 1 + 1 ≤ ob := by have := HSA.out; omega
    have HR00 : Hid (OwnRelF w W0 W0 (.slice none 0 0) t.parts 0) := Lib.hid ⟨_, _, _, _, World.ownsRow_nil _ _ _ _, MadeF.start _ _ _ _, fun g hg => by simp [Value.ownBlock] at hg, HBW.out, Nat.le_refl _⟩
    obtain ⟨d0, d1, d2, d3, d4, d5⟩ := HF0.out
    obtain ⟨o0, o1, o2, o3, o4, o5⟩ := HO0.out
    clear hf0 hta hsa hbw C0
    go_wp2
    go_loopw [4] (fun i wr => ∃ (k : Nat) (v : Value), k ≤ t.parts.length ∧ i = .int .i64 k ∧ OwnRelF w W0 wr v t.parts k ∧ FivB wr w.heap.size (.int .i64 t.op) (.string t.atom.name) (.slice pa t.atom.args.length ca) (.string t.var) (.slice pp t.parts.length cp) ∧ FivB wr (w.heap.size + 1) (.int .i64 0) (.string ⟨#[]⟩) (.slice none 0 0) (.string ⟨#[]⟩) (.slice none 0 0) ∧ FivB wr ob (.int .i64 t.op) (.string t.atom.name) (.slice pv t.atom.args.length cv) (.string t.var) v ∧ TmO wr Sa (.slice pv t.atom.args.length cv) t.atom.args) (fun i _ => t.parts.length - (intOf i).toNat)
    case atStart => exact ⟨0, _, Nat.zero_le _, rfl, HR00.out, HF0.out, HR0.out, HO0.out, HTA.out⟩
    case round =>
      obtain ⟨k, v, hk, rfl, hrel, htwo, hres, hout, hta⟩ := hrel
      have HR := Lib.hid hrel
      have HTW := Lib.hid htwo
      have HRS := Lib.hid hres
      have HOU := Lib.hid hout
      have HTR := Lib.hid hta
      obtain ⟨xs, f, p, Q, hown, hm, hne, hbe, hz⟩ := hrel
      have HOWN := Lib.hid hown
      have HM := Lib.hid hm
      have HNE := Lib.hid hne
      have HBE := Lib.hid hbe
      have HZ := Lib.hid hz
      clear hown hm hne hbe hz hres hta d0 d1 d2 d3 d4 d5 o0 o1 o2 o3 o4 o5
      obtain ⟨d0, d1, d2, d3, d4, d5⟩ := htwo
      obtain ⟨o0, o1, o2, o3, o4, o5⟩ := hout
      by_cases hlt : k < t.parts.length
      · obtain ⟨s, hs⟩ : ∃ s, t.parts[k]? = some s := ⟨_, List.getElem?_eq_getElem hlt⟩
        obtain ⟨b, off, rfl, va, vp, hc, hva, hvp⟩ := HV.out.2.get hs
        obtain ⟨qa0, qc0, qp0, qd0, rfl, rfl⟩ := FmV.open (t := s) ⟨hva, hvp⟩
        have hlb : b < w.heap.size := World.block_lt_of_cell? w _ hc.1
        have HS := Lib.hid hs
        have HSV := Lib.hid (FmV.kept (t := s) ⟨hva, hvp⟩ HBE.out)
        obtain ⟨c0, c1, c2, c3, c4⟩ := hc.kept HBE.out
        have hWb : b < W0.heap.size := by have := HBW.out.size; omega
        have hWa : w.heap.size < W0.heap.size := by omega
        have hWZ : w.heap.size + 1 < W0.heap.size := by omega
        have HFAR : Hid (∀ g, v.ownBlock = some g → W0.heap.size ≤ g) := Lib.hid (fun g hg => (HOWN.out.lt g hg).1)
        have hzz := HZ.out
        clear hs hva hvp hc
        have C1 : Hid (∀ W : World, Below wr.heap.size wr W → Calls Tryz.prog 45 #[.agg #[.int .i64 s.op, .string s.atom.name, .slice qa0 s.atom.args.length qc0, .string s.var, .slice qp0 s.parts.length qd0]] W (ToFmEnd s W)) := Lib.hid (fun W hW => H.out s (mem_of_at HS.out) W _ _ (HSV.out.kept (hW)) (Nat.le_trans (Fm.wt_part (mem_of_at HS.out)) HW.out))
        have hB0 : Below wr.heap.size wr wr.drew := (Below.refl _ _).drew
        go_wp2_with fail
        go_region_law (first
            | (refine step_append_lies _ (by rfl) _ _ _ (by rfl) W0.heap.size 34 i0 _ 5 88 Tryz.underlying32 hi hz0 hz1 hz2 rfl (by omega) v k xs (by rfl) (HW6.out.alloc _) ⟨w6.heap.size, 0, none⟩ 1 1 [.int .i64 s.op, .string s.atom.name, .slice qa s.atom.args.length qc, .string s.var, .slice qp s.parts.length qd] (by rfl) (by rfl) (World.news_of_block (cs := #[.int .i64 s.op, .string s.atom.name, .slice qa s.atom.args.length qc, .string s.var, .slice qp s.parts.length qd]) (t := 34) (fr := (0, 0)) (heap_alloc_new w6 _)) (by simp [Value.oneCell']) (by omega) (by unfold maxLen; omega) (by omega) (by have := hB6.size; simp; omega) (w6.heap.size + 1) (by simp) ?_; intro gg cap w7 hown7 hgrow hat hlt7; have s0 := app_cell hgrow q0 (far_row HFAR.out hWa); have s1 := app_cell hgrow q1 (far_row HFAR.out hob2); have s2 := app_cell hgrow q2 (far_row HFAR.out hWb); have s3 := app_cell hgrow q3 (far_row HFAR.out hWb); have s4 := app_cell hgrow q4 (far_row HFAR.out hWb); have s5 := app_cell hgrow q5 (far_row HFAR.out hWb); have s6 := app_cell hgrow q6 (far_row HFAR.out hWb); have s9 := (app_fiv hgrow O6.out (far_row HFAR.out hob2)).2.2.2.2.2; have HOWN7 := Lib.hid hown7; have HGROW7 := Lib.hid hgrow; have HAT7 := Lib.hid hat; clear hown7 hgrow hat)
            | (go_simp; go_at_call 45; refine (C1.out _ hB0).mono ?_; rintro e w6 ⟨va6, vp6, rfl, ho, hb⟩; have q0 := carry_cell' hb d4; have q1 := carry_cell' hb o4; have q2 := carry_cell' hb c0; have q3 := carry_cell' hb c1; have q4 := carry_cell' hb c2; have q5 := carry_cell' hb c3; have q6 := carry_cell' hb c4; have hB6 := carry_below hB0 (Nat.le_refl _) hb; obtain ⟨qa, qc, qp, qd, rfl, rfl⟩ := ho.read.open; have HO6 := Lib.hid ho; have HW6 := Lib.hid (own_kept HOWN.out (hB6)); have T6 := Lib.hid (HTW.out.kept (hB6)); have R6 := Lib.hid (HRS.out.kept (hB6)); have O6 := Lib.hid (HOU.out.kept (hB6)); have A6 := Lib.hid (HTR.out.frame (w' := w6) fun q hq => (hB6).block q (by have := HSB.out q hq; omega)); have hz6 : W0.heap.size ≤ w6.heap.size := Nat.le_trans HZ.out (hB6).size; have hl1 : ob < w6.heap.size := (by omega); have hl2 : w.heap.size < w6.heap.size := (by omega); have hl3 : b < w6.heap.size := (by omega); clear hb ho))
        all_goals
          have HN : Hid (OwnRelF w W0 (w7.setCell ⟨ob, 4, none⟩ (.slice (some ⟨gg, 0, none⟩) (k + 1) cap)) (.slice (some ⟨gg, 0, none⟩) (k + 1) cap) t.parts (k + 1)) := Lib.hid (OwnRelF.next (by omega) HBE.out HOWN.out HM.out HNE.out HZ.out HS.out (HO6.out.mono fun q hq => ⟨hq.1, hq.2⟩) (hB6) HOWN7.out HGROW7.out HAT7.out (by simp; omega) (by simp; omega))
          have HT7 : Hid (FivB (w7.setCell ⟨ob, 4, none⟩ (.slice (some ⟨gg, 0, none⟩) (k + 1) cap)) w.heap.size (.int .i64 t.op) (.string t.atom.name) (.slice pa t.atom.args.length ca) (.string t.var) (.slice (some ⟨b, off, none⟩) t.parts.length cp)) := Lib.hid ((app_fiv HGROW7.out T6.out (far_row HFAR.out hWa)).setFar (by simp; omega) _)
          have HS7 : Hid (FivB (w7.setCell ⟨ob, 4, none⟩ (.slice (some ⟨gg, 0, none⟩) (k + 1) cap)) (w.heap.size + 1) (.int .i64 0) (.string ⟨#[]⟩) (.slice none 0 0) (.string ⟨#[]⟩) (.slice none 0 0)) := Lib.hid ((app_fiv HGROW7.out R6.out (far_row HFAR.out hWZ)).setFar (by simp; omega) _)
          have HO7 : Hid (FivB (w7.setCell ⟨ob, 4, none⟩ (.slice (some ⟨gg, 0, none⟩) (k + 1) cap)) ob (.int .i64 t.op) (.string t.atom.name) (.slice pv t.atom.args.length cv) (.string t.var) (.slice (some ⟨gg, 0, none⟩) (k + 1) cap)) := Lib.hid ((app_fiv HGROW7.out O6.out (far_row HFAR.out hob2)).set4 _)
          have HA7 : Hid (TmO (w7.setCell ⟨ob, 4, none⟩ (.slice (some ⟨gg, 0, none⟩) (k + 1) cap)) Sa (.slice pv t.atom.args.length cv) t.atom.args) := Lib.hid ((app_tmO HGROW7.out A6.out fun q hq => ⟨by have := HSB.out q hq; omega, fun e => by have := HFAR.out q e; have := HSB.out q hq; omega⟩).setCell (fun h => (HSB.out _ h).2.2 rfl) _)
          clear d0 d1 d2 d3 d4 d5 o0 o1 o2 o3 o4 o5 c0 c1 c2 c3 c4 hB0 hB6 q0 s0 q1 s1 q2 s2 q3 s3 q4 s4 q5 s5 q6 s6 s9
          go_wp2
          go_roundw
          case rel => exact ⟨k + 1, _, by omega, by go_num, HN.out, HT7.out, HS7.out, HO7.out, HA7.out⟩
          case measure => simp [intOf]; omega
      · have hke : k = t.parts.length := by omega
        subst hke
        have HE := Lib.hid HR.out.whole
        obtain ⟨pq, cq, rfl⟩ : ∃ p q, v = .slice p t.parts.length q := by
          obtain ⟨p, q, e⟩ := HR.out.whole.read.is_slice; exact ⟨p, q, e⟩
        obtain ⟨r0, r1, r2, r3, r4, r5⟩ := HRS.out
        go_wp2
        refine bodyPost_ret (v := .agg #[.int .i64 t.op, .string t.atom.name, .slice pv t.atom.args.length cv, .string t.var, .slice pq t.parts.length cq]) (by simp [results, Tryz.results45, go_sem, r0, r1, r2, r3, r4]) rfl ⟨_, _, rfl, ⟨Sa, Fresh W0 wr, ?_, ?_, ?_, ?_, ?_⟩, ?_⟩
        · have hn : ¬ Sa (w.heap.size + 1) := fun h => by have := (HSB.out _ h).1; have := HSA.out; omega
          exact ((((HTR.out.setCell hn _).setCell hn _).setCell hn _).setCell hn _).setCell hn _
        · have hn : ¬ Fresh W0 wr (w.heap.size + 1) := fun h => by have := h.1; omega
          exact ((((HE.out.setCell hn _).setCell hn _).setCell hn _).setCell hn _).setCell hn _
        · intro q hq
          have h1 := HSB.out q hq
          have h2 := HZ.out
          have h3 := HSA.out
          exact ⟨by omega, by simp only [size_setCell]; omega⟩
        · intro q hq
          have h1 := hq.1
          have h2 := HBW.out.size
          exact ⟨by omega, by simp only [size_setCell]; exact hq.2⟩
        · intro q h1 h2
          have := (HSB.out q h1).2.1
          have := h2.1
          omega
        · exact ((((HBE.out.setCell (by simp) _).setCell (by simp) _).setCell (by simp) _).setCell (by simp) _).setCell (by simp) _

theorem own8_any (t : Fm) : own8T t := Fm.ind (P := own8T) (fun t ih => own8_of t ih) t

end Go.Proofs.YtdpeanpmjhpblaaGreat

/- The program's copy of a formula: a contract, for formulas of at most 1048576 names' bytes, parts and arguments. -/
namespace Go.Proofs.YtdpeanpmjhpblaaGreat
open Go.RowKit
set_option linter.unusedVariables false
set_option linter.unusedSimpArgs false

def cpFT (t : Fm) : Prop := ∀ (w : World) (va vp : Value), FmV w va vp t → t.wt ≤ 1048576 →
  Calls Tryz.prog 25 #[.agg #[.int .i64 t.op, .string t.atom.name, va, .string t.var, vp]] w (ToFmEnd t w)

set_option maxRecDepth 100000 in
set_option maxHeartbeats 8000000 in
theorem cpF_of (t : Fm) (h : ∀ s ∈ t.parts, cpFT s) : cpFT t := by
  intro w va vp hv hw
  have H := Lib.hid h
  have HW := Lib.hid hw
  have hlen : t.parts.length ≤ 1048576 := Nat.le_trans t.wt_len hw
  obtain ⟨pa, ca, pp, cp, rfl, rfl⟩ := hv.open
  have HV := Lib.hid hv
  obtain ⟨i0, hi, hz0, hz1, hz2⟩ := info_parts infoFm
  obtain ⟨WA, hWA⟩ : ∃ W, W = (w.alloc (.cells #[.int .i64 t.op, .string t.atom.name, .slice pa t.atom.args.length ca, .string t.var, .slice pp t.parts.length cp] 34)).alloc (.cells #[.int .i64 0, .string ⟨#[]⟩, .slice none 0 0, .string ⟨#[]⟩, .slice none 0 0] 34) := ⟨_, rfl⟩
  have HFA : Hid (FivB WA w.heap.size (.int .i64 t.op) (.string t.atom.name) (.slice pa t.atom.args.length ca) (.string t.var) (.slice pp t.parts.length cp)) := Lib.hid (by rw [hWA]; exact (fivB_new w (.int .i64 t.op) (.string t.atom.name) (.slice pa t.atom.args.length ca) (.string t.var) (.slice pp t.parts.length cp) 34 _ rfl).alloc _)
  have HRA : Hid (FivB WA (w.heap.size + 1) (.int .i64 0) (.string ⟨#[]⟩) (.slice none 0 0) (.string ⟨#[]⟩) (.slice none 0 0)) := Lib.hid (by rw [hWA]; exact fivB_new _ (.int .i64 0) (.string ⟨#[]⟩) (.slice none 0 0) (.string ⟨#[]⟩) (.slice none 0 0) 34 _ (by simp))
  have HBA : Hid (Below w.heap.size w WA) := Lib.hid (by rw [hWA]; exact ((Below.refl _ _).alloc (Nat.le_refl _) _).alloc (by simp) _)
  have HSA : Hid (WA.heap.size = w.heap.size + 1 + 1) := Lib.hid (by rw [hWA]; simp)
  have C0 : Hid (∀ W : World, Below WA.heap.size WA W → Calls Tryz.prog 53 #[.agg #[.string t.atom.name, .slice pa t.atom.args.length ca]] W (ToEnd t.atom W)) := Lib.hid (fun W hW => copyTerm_any t.atom W _ ((HV.out.kept (carry_below HBA.out (Nat.le_refl _) hW)).1) (Nat.le_trans t.wt_atom HW.out))
  clear hv hw h
  go_enter Tryz.func25, Tryz.ntmps25
  go_upto_region 1 with fail
  rw [← hWA]
  clear hWA
  go_cut [3] from 6 to 13 (fun z wx => ∃ (ob : Nat) (va : Value) (Sa : Nat → Prop), z = .pointer (some ⟨ob, 0, none⟩) ∧ OutB w WA wx t ob va Sa)
  case first =>
    have hB0 : Below WA.heap.size WA WA.drew := (Below.refl _ _).drew
    obtain ⟨d0, d1, d2, d3, d4, d5⟩ := HFA.out.drew
    refine sink_start 9 (fun w' => w'.cell? ⟨w.heap.size, 0, none⟩ = some (.int .i64 t.op) ∧ w'.cell? ⟨w.heap.size, 1, none⟩ = some (.string t.atom.name) ∧ w'.cell? ⟨w.heap.size, 2, none⟩ = some (.slice pa t.atom.args.length ca) ∧ w'.cell? ⟨w.heap.size, 3, none⟩ = some (.string t.var)) (by kernel_rfl) (by exact ⟨by first | assumption | exact carry_cell' ((Below.refl _ _).alloc (Nat.le_refl _) _) (by assumption), by first | assumption | exact carry_cell' ((Below.refl _ _).alloc (Nat.le_refl _) _) (by assumption), by first | assumption | exact carry_cell' ((Below.refl _ _).alloc (Nat.le_refl _) _) (by assumption), by first | assumption | exact carry_cell' ((Below.refl _ _).alloc (Nat.le_refl _) _) (by assumption)⟩) (fun hHeld => ?_)
    refine sink_take 0 (v := ?_) rfl (by kernel_rfl) (by kernel_rfl) (by kernel_rfl) (by kernel_rfl) (by rfl) (fun _ _ _ h => h) (by assumption) ?_ ?_; rotate_left; (intro w hSw; (try dsimp only at hSw); go_simp; try (with_reducible rfl))
    try simp only [Act.put, List.getElem_toArray, List.getElem_cons_zero, List.getElem_cons_succ, List.setIfInBounds_toArray, List.set_cons_zero, List.set_cons_succ]
    refine sink_take 1 (v := ?_) rfl (by kernel_rfl) (by kernel_rfl) (by kernel_rfl) (by kernel_rfl) (by rfl) (fun _ _ _ h => h) (by assumption) ?_ ?_; rotate_left; (intro w hSw; (try dsimp only at hSw); go_simp; try (with_reducible rfl))
    try simp only [Act.put, List.getElem_toArray, List.getElem_cons_zero, List.getElem_cons_succ, List.setIfInBounds_toArray, List.set_cons_zero, List.set_cons_succ]
    refine sink_take 2 (v := ?_) rfl (by kernel_rfl) (by kernel_rfl) (by kernel_rfl) (by kernel_rfl) (by rfl) (fun _ _ _ h => h) (by assumption) ?_ ?_; rotate_left; (intro w hSw; (try dsimp only at hSw); go_simp; try (with_reducible rfl))
    try simp only [Act.put, List.getElem_toArray, List.getElem_cons_zero, List.getElem_cons_succ, List.setIfInBounds_toArray, List.set_cons_zero, List.set_cons_succ]
    refine sink_take 3 (v := ?_) rfl (by kernel_rfl) (by kernel_rfl) (by kernel_rfl) (by kernel_rfl) (by rfl) (fun _ _ _ h => h) (by assumption) ?_ ?_; rotate_left; (intro w hSw; (try dsimp only at hSw); go_simp; try (with_reducible rfl))
    try simp only [Act.put, List.getElem_toArray, List.getElem_cons_zero, List.getElem_cons_succ, List.setIfInBounds_toArray, List.set_cons_zero, List.set_cons_succ]
    refine sink_take 5 (v := ?_) rfl (by kernel_rfl) (by kernel_rfl) (by kernel_rfl) (by kernel_rfl) (by rfl) (fun _ _ _ h => h) (by assumption) ?_ ?_; rotate_left; (intro w hSw; (try dsimp only at hSw); go_simp; try (with_reducible rfl))
    try simp only [Act.put, List.getElem_toArray, List.getElem_cons_zero, List.getElem_cons_succ, List.setIfInBounds_toArray, List.set_cons_zero, List.set_cons_succ]
    refine sink_take 6 (v := ?_) rfl (by kernel_rfl) (by kernel_rfl) (by kernel_rfl) (by kernel_rfl) (by rfl) (fun _ _ _ h => h) (by assumption) ?_ ?_; rotate_left; (intro w hSw; (try dsimp only at hSw); go_simp; try (with_reducible rfl))
    try simp only [Act.put, List.getElem_toArray, List.getElem_cons_zero, List.getElem_cons_succ, List.setIfInBounds_toArray, List.set_cons_zero, List.set_cons_succ]
    refine sink_two (i := 4) (j := 8) (by kernel_rfl) rfl rfl (fun K hK => ?_) (fun K hK => ?_)
    · go_simp
      go_at_call 53; refine (C0.out _ (hB0)).mono ?_; rintro e w6 ⟨v6, rfl, ho, hb⟩; obtain ⟨q0, q1, q2, q3, q4, q5⟩ := HFA.out.drew.kept hb; obtain ⟨pv, cv, rfl⟩ := ho.read.is_slice; have HO6 := Lib.hid ho; have HB6 := Lib.hid (carry_below (hB0) (Nat.le_refl _) hb); have hl6 : w.heap.size < w6.heap.size := World.block_lt_of_cell? w6 ⟨w.heap.size, 0, none⟩ q0; clear ho hb
      refine hK.out _ _ (fun _ => by exact ⟨by first | assumption | exact carry_cell' ((Below.refl _ _).alloc (Nat.le_refl _) _) (by assumption), by first | assumption | exact carry_cell' ((Below.refl _ _).alloc (Nat.le_refl _) _) (by assumption), by first | assumption | exact carry_cell' ((Below.refl _ _).alloc (Nat.le_refl _) _) (by assumption), by first | assumption | exact carry_cell' ((Below.refl _ _).alloc (Nat.le_refl _) _) (by assumption)⟩) (fun hHeld => ?_)
      have hHeld := hHeld (by decide)
      clear hK K
      try simp only [Act.put, List.getElem_toArray, List.getElem_cons_zero, List.getElem_cons_succ, List.setIfInBounds_toArray, List.set_cons_zero, List.set_cons_succ]
      refine sink_take 7 (v := ?_) rfl (by kernel_rfl) (by kernel_rfl) (by kernel_rfl) (by kernel_rfl) (by rfl) (fun _ _ _ h => h) (by assumption) ?_ ?_; rotate_left; (intro w hSw; (try dsimp only at hSw); go_simp; try (with_reducible rfl))
      try simp only [Act.put, List.getElem_toArray, List.getElem_cons_zero, List.getElem_cons_succ, List.setIfInBounds_toArray, List.set_cons_zero, List.set_cons_succ]
      refine sink_one (i := 8) (by kernel_rfl) rfl (fun K hK => ?_)
      go_simp
      refine hK.out _ _ (fun _ => by exact ⟨by first | assumption | exact carry_cell' ((Below.refl _ _).alloc (Nat.le_refl _) _) (by assumption), by first | assumption | exact carry_cell' ((Below.refl _ _).alloc (Nat.le_refl _) _) (by assumption), by first | assumption | exact carry_cell' ((Below.refl _ _).alloc (Nat.le_refl _) _) (by assumption), by first | assumption | exact carry_cell' ((Below.refl _ _).alloc (Nat.le_refl _) _) (by assumption)⟩) (fun hHeld => ?_)
      have hHeld := hHeld (by decide)
      clear hK K
      try simp only [Act.put, List.getElem_toArray, List.getElem_cons_zero, List.getElem_cons_succ, List.setIfInBounds_toArray, List.set_cons_zero, List.set_cons_succ]
      refine sink_one (i := 9) (by kernel_rfl) rfl (fun K hK => ?_)
      go_simp
      refine hK.out _ _ (fun hne => absurd rfl hne) (fun hHeld => ?_)
      clear hK K
      try simp only [Act.put, List.getElem_toArray, List.getElem_cons_zero, List.getElem_cons_succ, List.setIfInBounds_toArray, List.set_cons_zero, List.set_cons_succ]
      refine sink_done (by kernel_rfl) ?_ _
      go_wp2_with fail
      go_meet
      exact ⟨w6.heap.size, .slice pv t.atom.args.length cv, _, rfl, fivB_new w6 _ _ _ _ _ _ _ rfl, HO6.out.frame fun q hq => Below.heap_alloc _ _ _ hq.2, fun q hq => ⟨hq.1, by simp; have := hq.2; omega, fun e => by have := hq.2; omega⟩, HB6.out.size, by simp, HB6.out.alloc HB6.out.size _⟩
    · go_simp
      refine hK.out _ _ (fun _ => by exact ⟨by first | assumption | exact carry_cell' ((Below.refl _ _).alloc (Nat.le_refl _) _) (by assumption), by first | assumption | exact carry_cell' ((Below.refl _ _).alloc (Nat.le_refl _) _) (by assumption), by first | assumption | exact carry_cell' ((Below.refl _ _).alloc (Nat.le_refl _) _) (by assumption), by first | assumption | exact carry_cell' ((Below.refl _ _).alloc (Nat.le_refl _) _) (by assumption)⟩) (fun hHeld => ?_)
      have hHeld := hHeld (by decide)
      clear hK K
      try simp only [Act.put, List.getElem_toArray, List.getElem_cons_zero, List.getElem_cons_succ, List.setIfInBounds_toArray, List.set_cons_zero, List.set_cons_succ]
      refine sink_one (i := 4) (by kernel_rfl) rfl (fun K hK => ?_)
      go_simp
      go_at_call 53; refine (C0.out _ (hB0.alloc hB0.size _)).mono ?_; rintro e w6 ⟨v6, rfl, ho, hb⟩; obtain ⟨q0, q1, q2, q3, q4, q5⟩ := (HFA.out.drew.alloc _).kept hb; obtain ⟨o0, o1, o2, o3, o4, o5⟩ := (fivB_new WA.drew (.int .i64 0) (.string ⟨#[]⟩) (.slice none 0 0) (.string ⟨#[]⟩) (.slice none 0 0) 34 WA.heap.size rfl).kept hb; have hz6 : WA.heap.size < w6.heap.size := World.block_lt_of_cell? w6 ⟨WA.heap.size, 0, none⟩ o0; obtain ⟨pv, cv, rfl⟩ := ho.read.is_slice; have HO6 := Lib.hid ho; have HB6 := Lib.hid (carry_below (hB0.alloc hB0.size _) (Nat.le_refl _) hb); have hl6 : w.heap.size < w6.heap.size := World.block_lt_of_cell? w6 ⟨w.heap.size, 0, none⟩ q0; clear ho hb
      refine hK.out _ _ (fun _ => by exact ⟨by first | assumption | exact carry_cell' ((Below.refl _ _).alloc (Nat.le_refl _) _) (by assumption), by first | assumption | exact carry_cell' ((Below.refl _ _).alloc (Nat.le_refl _) _) (by assumption), by first | assumption | exact carry_cell' ((Below.refl _ _).alloc (Nat.le_refl _) _) (by assumption), by first | assumption | exact carry_cell' ((Below.refl _ _).alloc (Nat.le_refl _) _) (by assumption)⟩) (fun hHeld => ?_)
      have hHeld := hHeld (by decide)
      clear hK K
      try simp only [Act.put, List.getElem_toArray, List.getElem_cons_zero, List.getElem_cons_succ, List.setIfInBounds_toArray, List.set_cons_zero, List.set_cons_succ]
      refine sink_take 7 (v := ?_) rfl (by kernel_rfl) (by kernel_rfl) (by kernel_rfl) (by kernel_rfl) (by rfl) (fun _ _ _ h => h) (by assumption) ?_ ?_; rotate_left; (intro w hSw; (try dsimp only at hSw); go_simp; try (with_reducible rfl))
      try simp only [Act.put, List.getElem_toArray, List.getElem_cons_zero, List.getElem_cons_succ, List.setIfInBounds_toArray, List.set_cons_zero, List.set_cons_succ]
      refine sink_one (i := 9) (by kernel_rfl) rfl (fun K hK => ?_)
      go_simp
      refine hK.out _ _ (fun hne => absurd rfl hne) (fun hHeld => ?_)
      clear hK K
      try simp only [Act.put, List.getElem_toArray, List.getElem_cons_zero, List.getElem_cons_succ, List.setIfInBounds_toArray, List.set_cons_zero, List.set_cons_succ]
      refine sink_done (by kernel_rfl) ?_ _
      go_wp2_with fail
      go_meet
      have hsz1 : (WA.drew.alloc (.cells #[.int .i64 0, .string ⟨#[]⟩, .slice none 0 0, .string ⟨#[]⟩, .slice none 0 0] 34)).heap.size = WA.heap.size + 1 := by rw [World.size_alloc]; rfl
      have hnf : ∀ k, Fresh (WA.drew.alloc (.cells #[.int .i64 0, .string ⟨#[]⟩, .slice none 0 0, .string ⟨#[]⟩, .slice none 0 0] 34)) w6 k → WA.heap.size + 1 ≤ k ∧ k < w6.heap.size := fun k hk => ⟨by have := hk.1; omega, hk.2⟩
      have hno : ¬ Fresh (WA.drew.alloc (.cells #[.int .i64 0, .string ⟨#[]⟩, .slice none 0 0, .string ⟨#[]⟩, .slice none 0 0] 34)) w6 WA.heap.size := fun h => by have := (hnf _ h).1; omega
      have HN6 : FivB w6 WA.heap.size (.int .i64 0) (.string ⟨#[]⟩) (.slice none 0 0) (.string ⟨#[]⟩) (.slice none 0 0) := ⟨o0, o1, o2, o3, o4, o5⟩
      exact ⟨WA.heap.size, .slice pv t.atom.args.length cv, _, rfl, ((((HN6.set0 _).set1 _).set2 _).set3 _).set4 _, ((((HO6.out.setCell hno _).setCell hno _).setCell hno _).setCell hno _).setCell hno _, fun q hq => ⟨by have := (hnf q hq).1; omega, by simp only [size_setCell]; exact (hnf q hq).2, fun e => by have := (hnf q hq).1; omega⟩, Nat.le_refl _, by simp only [size_setCell]; exact hz6,
        ((((HB6.out.setCell (by simp) _).setCell (by simp) _).setCell (by simp) _).setCell (by simp) _).setCell (by simp) _⟩
  case rest =>
    obtain ⟨ob, va1, Sa, rfl, hob⟩ := hcut
    obtain ⟨W0, hW0⟩ : ∃ x, x = wc := ⟨_, rfl⟩
    rw [← hW0] at hob ⊢
    clear hW0
    obtain ⟨hf0, hta, hsa, hob1, hob2, hbw⟩ := hob
    obtain ⟨pv, cv, rfl⟩ := hta.read.is_slice
    have HTA := Lib.hid hta
    have HSB := Lib.hid hsa
    have HF0 := Lib.hid (HFA.out.kept hbw)
    have HR0 := Lib.hid (HRA.out.kept hbw)
    have HO0 := Lib.hid hf0
    have HBW := Lib.hid (carry_below HBA.out (Nat.le_refl _) hbw)
    have hob3 : w.heap.size + 1 + 1 ≤ ob := by have := HSA.out; omega
    have HR00 : Hid (OwnRelF w W0 W0 (.slice none 0 0) t.parts 0) := Lib.hid ⟨_, _, _, _, World.ownsRow_nil _ _ _ _, MadeF.start _ _ _ _, fun g hg => by simp [Value.ownBlock] at hg, HBW.out, Nat.le_refl _⟩
    obtain ⟨d0, d1, d2, d3, d4, d5⟩ := HF0.out
    obtain ⟨o0, o1, o2, o3, o4, o5⟩ := HO0.out
    clear hf0 hta hsa hbw C0
    go_wp2
    go_loopw [17] (fun i wr => ∃ (k : Nat) (v : Value), k ≤ t.parts.length ∧ i = .int .i64 k ∧ OwnRelF w W0 wr v t.parts k ∧ FivB wr w.heap.size (.int .i64 t.op) (.string t.atom.name) (.slice pa t.atom.args.length ca) (.string t.var) (.slice pp t.parts.length cp) ∧ FivB wr (w.heap.size + 1) (.int .i64 0) (.string ⟨#[]⟩) (.slice none 0 0) (.string ⟨#[]⟩) (.slice none 0 0) ∧ FivB wr ob (.int .i64 t.op) (.string t.atom.name) (.slice pv t.atom.args.length cv) (.string t.var) v ∧ TmO wr Sa (.slice pv t.atom.args.length cv) t.atom.args) (fun i _ => t.parts.length - (intOf i).toNat)
    case atStart => exact ⟨0, _, Nat.zero_le _, rfl, HR00.out, HF0.out, HR0.out, HO0.out, HTA.out⟩
    case round =>
      obtain ⟨k, v, hk, rfl, hrel, htwo, hres, hout, hta⟩ := hrel
      have HR := Lib.hid hrel
      have HTW := Lib.hid htwo
      have HRS := Lib.hid hres
      have HOU := Lib.hid hout
      have HTR := Lib.hid hta
      obtain ⟨xs, f, p, Q, hown, hm, hne, hbe, hz⟩ := hrel
      have HOWN := Lib.hid hown
      have HM := Lib.hid hm
      have HNE := Lib.hid hne
      have HBE := Lib.hid hbe
      have HZ := Lib.hid hz
      clear hown hm hne hbe hz hres hta d0 d1 d2 d3 d4 d5 o0 o1 o2 o3 o4 o5
      obtain ⟨d0, d1, d2, d3, d4, d5⟩ := htwo
      obtain ⟨o0, o1, o2, o3, o4, o5⟩ := hout
      by_cases hlt : k < t.parts.length
      · obtain ⟨s, hs⟩ : ∃ s, t.parts[k]? = some s := ⟨_, List.getElem?_eq_getElem hlt⟩
        obtain ⟨b, off, rfl, va, vp, hc, hva, hvp⟩ := HV.out.2.get hs
        obtain ⟨qa0, qc0, qp0, qd0, rfl, rfl⟩ := FmV.open (t := s) ⟨hva, hvp⟩
        have hlb : b < w.heap.size := World.block_lt_of_cell? w _ hc.1
        have HS := Lib.hid hs
        have HSV := Lib.hid (FmV.kept (t := s) ⟨hva, hvp⟩ HBE.out)
        obtain ⟨c0, c1, c2, c3, c4⟩ := hc.kept HBE.out
        have hWb : b < W0.heap.size := by have := HBW.out.size; omega
        have hWa : w.heap.size < W0.heap.size := by omega
        have hWZ : w.heap.size + 1 < W0.heap.size := by omega
        have HFAR : Hid (∀ g, v.ownBlock = some g → W0.heap.size ≤ g) := Lib.hid (fun g hg => (HOWN.out.lt g hg).1)
        have hzz := HZ.out
        clear hs hva hvp hc
        obtain ⟨wq, hwq⟩ : ∃ wq, wr.alloc (.cells #[.int .i64 s.op, .string s.atom.name, .slice qa0 s.atom.args.length qc0, .string s.var, .slice qp0 s.parts.length qd0] 34) = wq := ⟨_, rfl⟩
        have HAQ : Hid (Below wr.heap.size wr wq) := Lib.hid (by rw [← hwq]; exact (Below.refl _ _).alloc (Nat.le_refl _) _)
        have HBX : Hid (FivB wq wr.heap.size (.int .i64 s.op) (.string s.atom.name) (.slice qa0 s.atom.args.length qc0) (.string s.var) (.slice qp0 s.parts.length qd0)) := Lib.hid (by rw [← hwq]; exact fivB_new _ _ _ _ _ _ _ _ rfl)
        have HOQ := Lib.hid (HOU.out.kept HAQ.out)
        have hqz : wr.heap.size ≤ wq.heap.size := HAQ.out.size
        have hlr : ob < wr.heap.size := by omega
        clear o0 o1 o2 o3 o4 o5
        obtain ⟨o0, o1, o2, o3, o4, o5⟩ := HOQ.out
        obtain ⟨x0, x1, x2, x3, x4, x5⟩ := HBX.out
        have C1 : Hid (∀ W : World, Below wq.heap.size wq W → Calls Tryz.prog 25 #[.agg #[.int .i64 s.op, .string s.atom.name, .slice qa0 s.atom.args.length qc0, .string s.var, .slice qp0 s.parts.length qd0]] W (ToFmEnd s W)) := Lib.hid (fun W hW => H.out s (mem_of_at HS.out) W _ _ (HSV.out.kept (carry_below HAQ.out (Nat.le_refl _) hW)) (Nat.le_trans (Fm.wt_part (mem_of_at HS.out)) HW.out))
        have hB0 : Below wq.heap.size wq wq.drew := (Below.refl _ _).drew
        go_wp2_with fail
        try rw [hwq]
        go_region_law (first
            | (refine step_append_lies _ (by rfl) _ _ _ (by rfl) W0.heap.size 34 i0 _ 5 88 Tryz.underlying32 hi hz0 hz1 hz2 rfl (by omega) v k xs (by rfl) (HW6.out.alloc _) ⟨w6.heap.size, 0, none⟩ 1 1 [.int .i64 s.op, .string s.atom.name, .slice qa s.atom.args.length qc, .string s.var, .slice qp s.parts.length qd] (by rfl) (by rfl) (World.news_of_block (cs := #[.int .i64 s.op, .string s.atom.name, .slice qa s.atom.args.length qc, .string s.var, .slice qp s.parts.length qd]) (t := 34) (fr := (0, 0)) (heap_alloc_new w6 _)) (by simp [Value.oneCell']) (by omega) (by unfold maxLen; omega) (by omega) (by have := hB6.size; simp; omega) (w6.heap.size + 1) (by simp) ?_; intro gg cap w7 hown7 hgrow hat hlt7; have s1 := app_cell hgrow q1 (far_row HFAR.out hob2); have s9 := (app_fiv hgrow O6.out (far_row HFAR.out hob2)).2.2.2.2.2; have HOWN7 := Lib.hid hown7; have HGROW7 := Lib.hid hgrow; have HAT7 := Lib.hid hat; clear hown7 hgrow hat)
            | (go_simp; go_at_call 25; refine (C1.out _ hB0).mono ?_; rintro e w6 ⟨va6, vp6, rfl, ho, hb⟩; have q1 := carry_cell' hb o4; have hB6 := carry_below hB0 (Nat.le_refl _) hb; obtain ⟨qa, qc, qp, qd, rfl, rfl⟩ := ho.read.open; have HO6 := Lib.hid ho; have HW6 := Lib.hid (own_kept HOWN.out (carry_below HAQ.out (Nat.le_refl _) hB6)); have T6 := Lib.hid (HTW.out.kept (carry_below HAQ.out (Nat.le_refl _) hB6)); have R6 := Lib.hid (HRS.out.kept (carry_below HAQ.out (Nat.le_refl _) hB6)); have O6 := Lib.hid (HOU.out.kept (carry_below HAQ.out (Nat.le_refl _) hB6)); have A6 := Lib.hid (HTR.out.frame (w' := w6) fun q hq => (carry_below HAQ.out (Nat.le_refl _) hB6).block q (by have := HSB.out q hq; omega)); have hz6 : W0.heap.size ≤ w6.heap.size := Nat.le_trans HZ.out (carry_below HAQ.out (Nat.le_refl _) hB6).size; have hl1 : ob < w6.heap.size := (by omega); have hl2 : w.heap.size < w6.heap.size := (by omega); have hl3 : b < w6.heap.size := (by omega); clear hb ho))
        all_goals
          have HN : Hid (OwnRelF w W0 (w7.setCell ⟨ob, 4, none⟩ (.slice (some ⟨gg, 0, none⟩) (k + 1) cap)) (.slice (some ⟨gg, 0, none⟩) (k + 1) cap) t.parts (k + 1)) := Lib.hid (OwnRelF.next (by omega) HBE.out HOWN.out HM.out HNE.out HZ.out HS.out (HO6.out.mono fun q hq => ⟨Nat.le_trans HAQ.out.size hq.1, hq.2⟩) (carry_below HAQ.out (Nat.le_refl _) hB6) HOWN7.out HGROW7.out HAT7.out (by simp; omega) (by simp; omega))
          have HT7 : Hid (FivB (w7.setCell ⟨ob, 4, none⟩ (.slice (some ⟨gg, 0, none⟩) (k + 1) cap)) w.heap.size (.int .i64 t.op) (.string t.atom.name) (.slice pa t.atom.args.length ca) (.string t.var) (.slice (some ⟨b, off, none⟩) t.parts.length cp)) := Lib.hid ((app_fiv HGROW7.out T6.out (far_row HFAR.out hWa)).setFar (by simp; omega) _)
          have HS7 : Hid (FivB (w7.setCell ⟨ob, 4, none⟩ (.slice (some ⟨gg, 0, none⟩) (k + 1) cap)) (w.heap.size + 1) (.int .i64 0) (.string ⟨#[]⟩) (.slice none 0 0) (.string ⟨#[]⟩) (.slice none 0 0)) := Lib.hid ((app_fiv HGROW7.out R6.out (far_row HFAR.out hWZ)).setFar (by simp; omega) _)
          have HO7 : Hid (FivB (w7.setCell ⟨ob, 4, none⟩ (.slice (some ⟨gg, 0, none⟩) (k + 1) cap)) ob (.int .i64 t.op) (.string t.atom.name) (.slice pv t.atom.args.length cv) (.string t.var) (.slice (some ⟨gg, 0, none⟩) (k + 1) cap)) := Lib.hid ((app_fiv HGROW7.out O6.out (far_row HFAR.out hob2)).set4 _)
          have HA7 : Hid (TmO (w7.setCell ⟨ob, 4, none⟩ (.slice (some ⟨gg, 0, none⟩) (k + 1) cap)) Sa (.slice pv t.atom.args.length cv) t.atom.args) := Lib.hid ((app_tmO HGROW7.out A6.out fun q hq => ⟨by have := HSB.out q hq; omega, fun e => by have := HFAR.out q e; have := HSB.out q hq; omega⟩).setCell (fun h => (HSB.out _ h).2.2 rfl) _)
          clear d0 d1 d2 d3 d4 d5 o0 o1 o2 o3 o4 o5 c0 c1 c2 c3 c4 hB0 hB6 q1 s1 s9 x0 x1 x2 x3 x4 x5
          go_wp2
          go_roundw
          case rel => exact ⟨k + 1, _, by omega, by go_num, HN.out, HT7.out, HS7.out, HO7.out, HA7.out⟩
          case measure => simp [intOf]; omega
      · have hke : k = t.parts.length := by omega
        subst hke
        have HE := Lib.hid HR.out.whole
        obtain ⟨pq, cq, rfl⟩ : ∃ p q, v = .slice p t.parts.length q := by
          obtain ⟨p, q, e⟩ := HR.out.whole.read.is_slice; exact ⟨p, q, e⟩
        obtain ⟨r0, r1, r2, r3, r4, r5⟩ := HRS.out
        go_wp2
        refine bodyPost_ret (v := .agg #[.int .i64 t.op, .string t.atom.name, .slice pv t.atom.args.length cv, .string t.var, .slice pq t.parts.length cq]) (by simp [results, Tryz.results25, go_sem, r0, r1, r2, r3, r4]) rfl ⟨_, _, rfl, ⟨Sa, Fresh W0 wr, ?_, ?_, ?_, ?_, ?_⟩, ?_⟩
        · have hn : ¬ Sa (w.heap.size + 1) := fun h => by have := (HSB.out _ h).1; have := HSA.out; omega
          exact ((((HTR.out.setCell hn _).setCell hn _).setCell hn _).setCell hn _).setCell hn _
        · have hn : ¬ Fresh W0 wr (w.heap.size + 1) := fun h => by have := h.1; omega
          exact ((((HE.out.setCell hn _).setCell hn _).setCell hn _).setCell hn _).setCell hn _
        · intro q hq
          have h1 := HSB.out q hq
          have h2 := HZ.out
          have h3 := HSA.out
          exact ⟨by omega, by simp only [size_setCell]; omega⟩
        · intro q hq
          have h1 := hq.1
          have h2 := HBW.out.size
          exact ⟨by omega, by simp only [size_setCell]; exact hq.2⟩
        · intro q h1 h2
          have := (HSB.out q h1).2.1
          have := h2.1
          omega
        · exact ((((HBE.out.setCell (by simp) _).setCell (by simp) _).setCell (by simp) _).setCell (by simp) _).setCell (by simp) _

theorem cpF_any (t : Fm) : cpFT t := Fm.ind (P := cpFT) (fun t ih => cpF_of t ih) t

end Go.Proofs.YtdpeanpmjhpblaaGreat

/- The universal closure of a formula: the tree, its size, and how it lies in memory. No condition. -/
namespace Go.Proofs.YtdpeanpmjhpblaaGreat
open Go.RowKit
set_option linter.unusedVariables false
set_option linter.unusedSimpArgs false

theorem varB_size {s : ByteArray} (h : varB s = true) : s.size ≤ 4 := by
  apply Decidable.byContradiction
  intro hn
  rw [varB_short (by omega)] at h; cases h
theorem symB_size {s : ByteArray} (h : symB s = true) : s.size ≤ 6 := by
  apply Decidable.byContradiction
  intro hn
  rw [symB_short (by omega)] at h; cases h
theorem sumL_le_mul {f g : Tm → Nat} {c : Nat} : ∀ {l : List Tm}, (∀ t ∈ l, f t + 1 ≤ c * g t) → sumL f l + l.length ≤ c * sumL g l
  | [], _ => by simp [sumL]
  | t :: r, h => by
    have h1 := h t List.mem_cons_self
    have h2 := sumL_le_mul (l := r) (fun s hs => h s (List.mem_cons_of_mem _ hs))
    simp only [sumL, List.length_cons, Nat.mul_add]; omega
theorem nodes_wt : ∀ t : Tm, t.nodesB = true → t.wt + 1 ≤ 7 * t.sz := Tm.ind fun t ih => by
  intro h
  rw [t.wt_eq, t.sz_eq]
  cases hv : varB t.name with
  | true =>
    rw [Tm.nodesB_var hv, List.isEmpty_iff] at h
    rw [h]
    have := varB_size hv
    simp [sumL]; omega
  | false =>
    rw [Tm.nodesB_sym hv] at h
    simp only [Bool.and_eq_true, List.all_eq_true, decide_eq_true_iff] at h
    have h1 := symB_size h.1
    have h2 := sumL_le_mul (f := Tm.wt) (g := Tm.sz) (c := 7) (l := t.args) (fun s hs => ih s hs (h.2.2 s hs))
    omega
theorem isEq_size {s : ByteArray} (h : isEqB s = true) : s.size ≤ 1 := by
  unfold isEqB at h
  have e := eq_of_beq h
  rw [ByteArray.toList_eq] at e
  have h2 : s.data.toList.length = 1 := by rw [e]; rfl
  have h3 : s.data.toList.length = s.size := Array.length_toList
  omega
theorem goodB_wt {t : Tm} (h : goodB t = true) : t.wt ≤ 210 := by
  unfold goodB at h
  simp only [Bool.and_eq_true] at h
  have h1 := nodes_wt t h.2
  have h2 : t.sz ≤ 30 := by have := h.1; simp [fitsB] at this; exact this.1
  omega
theorem anyB_wt {t : Tm} (h : anyB t = true) : t.wt ≤ 210 := by
  have hf := anyB_fits h
  have hz : t.sz ≤ 30 := by simp [fitsB] at hf; exact hf.1
  unfold anyB at h
  rcases (Bool.or_eq_true _ _).mp h with h | h
  · exact goodB_wt h
  · unfold atomB at h
    split at h
    · rename_i he
      simp only [Bool.and_eq_true, List.all_eq_true] at h
      have h1 := isEq_size he
      have h2 := sumL_le_mul (f := Tm.wt) (g := Tm.sz) (c := 7) (l := t.args) (fun s hs => nodes_wt s (h.2.2 s hs))
      rw [t.wt_eq]
      rw [t.sz_eq] at hz
      omega
    · simp only [Bool.and_eq_true] at h
      exact goodB_wt h.2

def zeroF : Fm := .node 0 (.node ⟨#[]⟩ []) ⟨#[]⟩ []
/-- One quantifier in front. -/
def allF (v : ByteArray) (t : Fm) : Fm := .node 8 (.node ⟨#[]⟩ []) v [t]
def closeF (vs : List ByteArray) (t : Fm) : Fm := vs.foldr allF t
theorem closeF_nil (t : Fm) : closeF [] t = t := rfl
theorem closeF_drop {vs : List ByteArray} {k : Nat} {s : ByteArray} (h : vs[k]? = some s) (t : Fm) : closeF (vs.drop k) t = allF s (closeF (vs.drop (k + 1)) t) := by
  obtain ⟨hk, e⟩ := List.getElem?_eq_some_iff.1 h
  rw [List.drop_eq_getElem_cons hk, e]
  rfl
theorem allF_wt (v : ByteArray) (t : Fm) : (allF v t).wt = v.size + 1 + t.wt := by
  have h : (Tm.node ⟨#[]⟩ []).wt = 0 := by rw [Tm.wt_eq]; rfl
  rw [Fm.wt_eq]
  show (Tm.node ⟨#[]⟩ []).wt + v.size + 1 + sumG Fm.wt [t] = _
  rw [h]
  simp only [sumG]
  omega
theorem closeF_wt (vs : List ByteArray) (t : Fm) (h : ∀ v ∈ vs, v.size ≤ 4) : (closeF vs t).wt ≤ t.wt + 5 * vs.length := by
  induction vs with
  | nil => simp [closeF]
  | cons v r ih =>
    have h1 := ih fun x hx => h x (List.mem_cons_of_mem _ hx)
    have h2 := h v List.mem_cons_self
    show (allF v (closeF r t)).wt ≤ _
    rw [allF_wt, List.length_cons]
    omega
theorem zeroF_wt : zeroF.wt = 0 := by
  have h : (Tm.node ⟨#[]⟩ []).wt = 0 := by rw [Tm.wt_eq]; rfl
  rw [Fm.wt_eq]
  show (Tm.node ⟨#[]⟩ []).wt + 0 + 0 + sumG Fm.wt [] = _
  rw [h]; rfl

theorem nmK_var {K : List (Tm × List ByteArray)} {s : ByteArray} (h : s ∈ nmK K) : varB s = true := by
  unfold nmK at h
  rw [List.mem_flatten] at h
  obtain ⟨l, hl, hs⟩ := h
  obtain ⟨x, hx, rfl⟩ := List.mem_map.1 hl
  unfold frA at hs
  have h1 := (List.mem_filter.1 hs).1
  unfold vn at h1
  obtain ⟨y, hy, rfl⟩ := List.mem_map.1 h1
  exact (List.mem_filter.1 hy).2
/-- The free variables of a valid formula, as names. -/
theorem fv_var {t : Fm} (h : fgoodB t = true) (hw : t.wt ≤ 1048576) : (∀ s ∈ t.fv [] [], s.size ≤ 4) ∧ (t.fv [] []).length ≤ 1200 := by
  refine ⟨fun s hs => ?_, ?_⟩
  · rw [fv_ats t (fgood_open h).2] at hs
    obtain ⟨h1, h2⟩ := addK_put (t.ats []) (fun x hx => ((ats_good h hw).2 x hx).2.1) []
    rcases (h1 s).1 hs with h3 | h3
    · exact varB_size (nmK_var h3)
    · cases h3
  · have h1 := t.fv_len [] []
    have h2 := az_le t (fgood_open h).2
    have h3 := (fgood_open h).1
    simp at h1
    omega
theorem form_wt {t : Fm} (h : formB t = true) : t.atom.wt + t.var.size + t.parts.length ≤ 300 := by
  have hn : noneB t.atom = true → t.atom.wt = 0 := fun h => by
    unfold noneB at h
    simp only [Bool.and_eq_true, decide_eq_true_eq] at h
    have e : t.atom.args = [] := List.length_eq_zero_iff.1 h.2
    rw [Tm.wt_eq, e, h.1]; rfl
  by_cases h3 : t.op = 3
  · have h1 := form3 h h3
    have h2 := anyB_wt (t := t.atom) (by simp [anyB, h1.1])
    unfold formB at h
    rw [if_neg (by omega), if_pos h3] at h
    simp only [Bool.and_eq_true, decide_eq_true_eq] at h
    have := h.2.1
    have := h.2.2
    omega
  · unfold formB at h
    split at h
    · simp only [Bool.and_eq_true, decide_eq_true_eq] at h; have := hn h.1; have := h.2.1; have := h.2.2; omega
    split at h
    · simp only [Bool.and_eq_true, decide_eq_true_eq] at h; have := hn h.1; have := h.2.1; have := h.2.2; omega
    split at h
    · simp only [Bool.and_eq_true, decide_eq_true_eq] at h; have := hn h.1; have := h.2.1; have := h.2.2; omega
    split at h
    · simp only [Bool.and_eq_true, decide_eq_true_eq] at h; have := hn h.1; have := varB_size h.2.1; have := h.2.2; omega
    · cases h
theorem forms_wt : ∀ t : Fm, t.formsB = true → t.wt ≤ 300 * t.sz := Fm.ind fun t ih => by
  intro h
  obtain ⟨hf, hp⟩ := forms_parts h
  rw [t.wt_eq, t.sz_eq]
  have h1 := form_wt hf
  have key : ∀ ps : List Fm, (∀ s ∈ ps, s.formsB = true → Fm.wt s ≤ 300 * s.sz) → (∀ s ∈ ps, s.formsB = true) → sumG Fm.wt ps ≤ 300 * sumG Fm.sz ps := by
    intro ps
    induction ps with
    | nil => intro _ _; simp [sumG]
    | cons s r ihr =>
      intro h1 h2
      have a := h1 s List.mem_cons_self (h2 s List.mem_cons_self)
      have b := ihr (fun x hx => h1 x (List.mem_cons_of_mem _ hx)) (fun x hx => h2 x (List.mem_cons_of_mem _ hx))
      simp only [sumG]; omega
  have h2 := key t.parts ih hp
  omega
/-- The closure of a valid formula is not much larger. -/
theorem close_wt {t : Fm} (h : fgoodB t = true) (hw : t.wt ≤ 1048576) : (closeF (t.fv [] []) t).wt ≤ 20000 := by
  obtain ⟨h1, h2⟩ := fgood_open h
  have h3 := forms_wt t h2
  obtain ⟨h4, h5⟩ := fv_var h hw
  have h6 := closeF_wt _ t h4
  omega

/-- What both answer: the closure, if it is valid, and whether. -/
def clB (t : Fm) : Bool := fgoodB t && fgoodB (closeF (t.fv [] []) t)
def clA (t : Fm) : Fm := if clB t then closeF (t.fv [] []) t else zeroF
def ClEnd (t : Fm) (w : World) (e : Ending) (w' : World) : Prop :=
  ∃ va vp, e = .returned (.tuple #[.agg #[.int .i64 (clA t).op, .string (clA t).atom.name, va, .string (clA t).var, vp], .bool (clB t)]) ∧ FOwn w' (Fresh w w') (clA t) va vp ∧ Below w.heap.size w w'
theorem clA_wt (t : Fm) (hw : t.wt ≤ 1048576) : (clA t).wt ≤ 20000 := by
  unfold clA
  split
  · rename_i h
    unfold clB at h
    rw [Bool.and_eq_true] at h
    exact close_wt h.1 hw
  · rw [zeroF_wt]; omega

theorem fown_all {w : World} {S S' : Nat → Prop} {t : Fm} {va vp : Value} {g c : Nat} {v : ByteArray} (h : FOwn w S t va vp) (hg : FivB w g (.int .i64 t.op) (.string t.atom.name) va (.string t.var) vp) (hn : ¬ S g) (hs : ∀ k, S k → S' k) (hg' : S' g) (hc : 1 ≤ c) :
    FOwn w S' (allF v t) (.slice none 0 0) (.slice (some ⟨g, 0, none⟩) 1 c) := by
  obtain ⟨Sa, Sp, h1, h2, h3, h4, h5⟩ := h
  have h0 : ∀ {i : Nat} {s : Fm}, [t][i]? = some s → i = 0 ∧ t = s := fun {i s} hi => by
    have e : i = 0 := by have := (List.getElem?_eq_some_iff.1 hi).1; simp at this; omega
    subst e
    exact ⟨rfl, by simpa using hi⟩
  refine ⟨fun _ => False, S', .emp _ _ _, ?_, fun _ h => h.elim, fun _ h => h, fun _ h => h.elim⟩
  refine FmO.row (w := w) S' g c [t] (fun _ => va) (fun _ => vp) (fun j => if j = 0 then Sa else Sp) (by simp) hg' hc hg.2.2.2.2.2 (fun i s hi => ?_) (fun i s hi => ?_) (fun i s hi => ?_) (fun i k hi hk => ?_) (fun i j k hi hj hij hk hk' => ?_)
  · obtain ⟨rfl, rfl⟩ := h0 hi; exact hg.fiv
  · obtain ⟨rfl, rfl⟩ := h0 hi; exact h1
  · obtain ⟨rfl, rfl⟩ := h0 hi; exact h2
  · by_cases e : i = 0
    · rw [if_pos e] at hk; exact ⟨hs k (h3 k hk), fun e' => hn (e' ▸ h3 k hk)⟩
    · rw [if_neg e] at hk; exact ⟨hs k (h4 k hk), fun e' => hn (e' ▸ h4 k hk)⟩
  · by_cases e : i = 0
    · by_cases e' : j = 0
      · omega
      · rw [if_pos e] at hk; rw [if_neg e'] at hk'; exact h5 k hk hk'
    · by_cases e' : j = 0
      · rw [if_neg e] at hk; rw [if_pos e'] at hk'; exact h5 k hk' hk
      · simp at hi hj; omega

end Go.Proofs.YtdpeanpmjhpblaaGreat

/- The model's universal closure: contracts, for formulas of at most 1048576 names' bytes, parts and arguments. -/
namespace Go.Proofs.YtdpeanpmjhpblaaGreat
open Go.RowKit
set_option linter.unusedVariables false
set_option linter.unusedSimpArgs false

set_option maxRecDepth 100000 in
set_option maxHeartbeats 8000000 in
theorem l8Close_any (t : Fm) (w : World) (va vp : Value) (hv : FmV w va vp t) (hw : t.wt ≤ 1048576) (haz : t.az ≤ 1048576) (hsz : t.sz ≤ 1048576) (hnl : (t.fv [] []).length ≤ 1048576) :
    Calls Tryz.prog 21 #[.agg #[.int .i64 t.op, .string t.atom.name, va, .string t.var, vp]] w (ToFmEnd (closeF (t.fv [] []) t) w) := by
  obtain ⟨pa, ca, pp, cp, rfl, rfl⟩ := hv.open
  have HV := Lib.hid hv
  obtain ⟨WA, hWA⟩ : ∃ W, W = (w.alloc (.cells #[.int .i64 t.op, .string t.atom.name, .slice pa t.atom.args.length ca, .string t.var, .slice pp t.parts.length cp] 34)).alloc (.cells #[.int .i64 0, .string ⟨#[]⟩, .slice none 0 0, .string ⟨#[]⟩, .slice none 0 0] 34) := ⟨_, rfl⟩
  have HFA : Hid (FivB WA w.heap.size (.int .i64 t.op) (.string t.atom.name) (.slice pa t.atom.args.length ca) (.string t.var) (.slice pp t.parts.length cp)) := Lib.hid (by rw [hWA]; exact (fivB_new w (.int .i64 t.op) (.string t.atom.name) (.slice pa t.atom.args.length ca) (.string t.var) (.slice pp t.parts.length cp) 34 _ rfl).alloc _)
  have HRA : Hid (FivB WA (w.heap.size + 1) (.int .i64 0) (.string ⟨#[]⟩) (.slice none 0 0) (.string ⟨#[]⟩) (.slice none 0 0)) := Lib.hid (by rw [hWA]; exact fivB_new _ (.int .i64 0) (.string ⟨#[]⟩) (.slice none 0 0) (.string ⟨#[]⟩) (.slice none 0 0) 34 _ (by simp))
  have HBA : Hid (Below w.heap.size w WA) := Lib.hid (by rw [hWA]; exact ((Below.refl _ _).alloc (Nat.le_refl _) _).alloc (by simp) _)
  have HSA : Hid (WA.heap.size = w.heap.size + 1 + 1) := Lib.hid (by rw [hWA]; simp)
  have C0 := Lib.hid (own8_any t WA _ _ (HV.out.kept HBA.out) hw)
  obtain ⟨d0, d1, d2, d3, d4, d5⟩ := HFA.out
  have HW := Lib.hid hw
  have HAZ := Lib.hid haz
  have HSZ := Lib.hid hsz
  rw [hWA] at d0 d1 d2 d3 d4 d5
  clear hv hw haz hsz
  go_enter Tryz.func21, Tryz.ntmps21
  go_wp2_with fail
  rw [← hWA]
  clear hWA d0 d1 d2 d3 d4 d5
  refine C0.out.mono ?_
  rintro e w1 ⟨va1, vp1, rfl, ho, hb⟩
  obtain ⟨p1, c1, pp1, cp1, rfl, rfl⟩ := ho.read.open
  obtain ⟨ob, hob⟩ : ∃ ob, ob = w1.heap.size := ⟨_, rfl⟩
  obtain ⟨W2, hW2⟩ : ∃ W, w1.alloc (.cells #[.int .i64 t.op, .string t.atom.name, .slice p1 t.atom.args.length c1, .string t.var, .slice pp1 t.parts.length cp1] 34) = W := ⟨_, rfl⟩
  have hA2 : Below w1.heap.size w1 W2 := by rw [← hW2]; exact (Below.refl _ _).alloc (Nat.le_refl _) _
  have HOB : Hid (FivB W2 ob (.int .i64 t.op) (.string t.atom.name) (.slice p1 t.atom.args.length c1) (.string t.var) (.slice pp1 t.parts.length cp1)) := Lib.hid (by rw [← hW2]; exact fivB_new w1 _ _ _ _ _ _ _ hob)
  have HOW : Hid (FOwn W2 (Fresh WA w1) t (.slice p1 t.atom.args.length c1) (.slice pp1 t.parts.length cp1)) := Lib.hid (ho.frame fun q hq => hA2.block q hq.2)
  have HB2 := Lib.hid (carry_below (carry_below HBA.out (Nat.le_refl _) hb) (Nat.le_refl _) hA2)
  have HF2 := Lib.hid ((HFA.out.kept hb).kept hA2)
  have HR2 := Lib.hid ((HRA.out.kept hb).kept hA2)
  have hob1 : w.heap.size + 1 + 1 ≤ ob := by have := hb.size; have := HSA.out; omega
  have hob2 : ob + 1 = W2.heap.size := by rw [← hW2, hob]; simp
  have HOBE := Lib.hid hob
  obtain ⟨d0, d1, d2, d3, d4, d5⟩ := HF2.out
  have hlt2 : w.heap.size < w1.heap.size := by omega
  obtain ⟨e0, e1, e2, e3, e4, e5⟩ := HFA.out.kept hb
  clear ho hb hA2 C0
  have C1 := Lib.hid (l8Free_any t W2 _ _ (HV.out.kept HB2.out) HW.out HAZ.out HSZ.out)
  go_wp2_with fail
  try rw [← hob]
  try rw [hW2]
  clear hob hW2 e0 e1 e2 e3 e4 e5
  refine C1.out.mono ?_
  rintro e w3 ⟨v3, rfl, ⟨b3, c3, rfl, hcap3, hlt3, hx3⟩, hb3⟩
  obtain ⟨vs, hvs⟩ : ∃ vs, vs = t.fv [] [] := ⟨_, rfl⟩
  rw [← hvs] at hx3 hcap3 hnl ⊢
  have HVS := Lib.hid hvs
  have HNX := Lib.hid hx3
  have HB3 := Lib.hid (carry_below HB2.out (Nat.le_refl _) hb3)
  have HR3 := Lib.hid (HR2.out.kept hb3)
  have HOB3 := Lib.hid (HOB.out.kept hb3)
  have HOW3 : Hid (FOwn w3 (Fresh WA w1) t (.slice p1 t.atom.args.length c1) (.slice pp1 t.parts.length cp1)) := Lib.hid (HOW.out.frame fun q hq => hb3.block q (by have := hq.2; have := HOBE.out; omega))
  have hbo : b3 ≠ ob ∨ vs.length = 0 := by
    by_cases h0 : vs.length = 0
    · exact .inr h0
    · refine .inl fun e => ?_
      have h1 := hx3 0 (by omega)
      rw [e, HOB3.out.1] at h1
      cases h1
  have HS0 : Hid (∀ q, Fresh WA w1 q → w.heap.size + 1 < q ∧ q < w3.heap.size ∧ q ≠ ob) := Lib.hid (fun q hq => by have h1 := hq.1; have h2 := hq.2; have := HSA.out; have := HOBE.out; have := hb3.size; omega)
  have hz3 : W2.heap.size ≤ w3.heap.size := hb3.size
  have hob3 : ob < w3.heap.size := by omega
  obtain ⟨O0, O1, O2, O3, O4, O5⟩ := HOB3.out
  clear hb3 hx3 hvs C1 d0 d1 d2 d3 d4 d5
  go_wp2
  go_loopw [5] (fun i wr => ∃ (k : Nat) (va vp : Value) (SS : Nat → Prop), k ≤ vs.length ∧ i = .int .i64 ((k : Int) - 1) ∧ FivB wr ob (.int .i64 (closeF (vs.drop k) t).op) (.string (closeF (vs.drop k) t).atom.name) va (.string (closeF (vs.drop k) t).var) vp ∧ FOwn wr SS (closeF (vs.drop k) t) va vp ∧ (∀ q, SS q → w.heap.size + 1 < q ∧ q < wr.heap.size ∧ q ≠ ob) ∧ (∀ j, j < vs.length → wr.cell? ⟨b3, j, none⟩ = some (.string (vs.getD j ByteArray.empty))) ∧ FivB wr (w.heap.size + 1) (.int .i64 0) (.string ⟨#[]⟩) (.slice none 0 0) (.string ⟨#[]⟩) (.slice none 0 0) ∧ Below w.heap.size w wr) (fun i _ => (intOf i + 1).toNat)
  case atStart => exact ⟨vs.length, _, _, _, Nat.le_refl _, rfl, by rw [List.drop_length]; exact HOB3.out, by rw [List.drop_length]; exact HOW3.out, HS0.out, HNX.out, HR3.out, HB3.out⟩
  case round =>
    obtain ⟨k, va, vp, SS, hk, rfl, hofv, how, hss, hnx, hres, hbe⟩ := hrel
    have HOFV := Lib.hid hofv
    have HOWR := Lib.hid how
    have HSS := Lib.hid hss
    have HNR := Lib.hid hnx
    have HRR := Lib.hid hres
    have HBE := Lib.hid hbe
    have hobr : ob < wr.heap.size := World.block_lt_of_cell? wr _ hofv.1
    have hwsz := hbe.size
    clear hofv how hss hnx hres hbe O0 O1 O2 O3 O4 O5
    by_cases hk0 : k = 0
    · subst hk0
      rw [show ((0 : Nat) : Int) - 1 = -1 from rfl]
      have HEQ : Hid (closeF (vs.drop 0) t = closeF vs t) := Lib.hid (by rw [List.drop_zero])
      obtain ⟨u, hu⟩ : ∃ u, u = closeF (vs.drop 0) t := ⟨_, rfl⟩
      rw [← hu] at HOFV HOWR HEQ
      obtain ⟨qa, qc, qp, qd, rfl, rfl⟩ := HOWR.out.read.open
      obtain ⟨o0, o1, o2, o3, o4, o5⟩ := HOFV.out
      obtain ⟨r0, r1, r2, r3, r4, r5⟩ := HRR.out
      have HE : Hid (ToFmEnd (closeF (t.fv [] []) t) w (.returned (.agg #[.int .i64 u.op, .string u.atom.name, .slice qa u.atom.args.length qc, .string u.var, .slice qp u.parts.length qd])) (((((wr.setCell ⟨w.heap.size + 1, 0, none⟩ (.int .i64 u.op)).setCell ⟨w.heap.size + 1, 1, none⟩ (.string u.atom.name)).setCell ⟨w.heap.size + 1, 2, none⟩ (.slice qa u.atom.args.length qc)).setCell ⟨w.heap.size + 1, 3, none⟩ (.string u.var)).setCell ⟨w.heap.size + 1, 4, none⟩ (.slice qp u.parts.length qd))) := Lib.hid (by
        have hn : ¬ SS (w.heap.size + 1) := fun h => by have := (HSS.out _ h).1; omega
        rw [← HVS.out, ← HEQ.out]
        exact ⟨_, _, rfl, (((((HOWR.out.setCell hn _).setCell hn _).setCell hn _).setCell hn _).setCell hn _).mono fun q hq => ⟨by have := (HSS.out q hq).1; omega, by simp only [size_setCell]; exact (HSS.out q hq).2.1⟩,
          ((((HBE.out.setCell (by simp) _).setCell (by simp) _).setCell (by simp) _).setCell (by simp) _).setCell (by simp) _⟩)
      clear hu
      go_wp2
      refine bodyPost_ret (v := .agg #[.int .i64 u.op, .string u.atom.name, .slice qa u.atom.args.length qc, .string u.var, .slice qp u.parts.length qd]) (by simp [results, Tryz.results21, go_sem, r0, r1, r2, r3, r4]) rfl HE.out
    · obtain ⟨m, rfl⟩ : ∃ m, k = m + 1 := ⟨k - 1, by omega⟩
      rw [show ((m + 1 : Nat) : Int) - 1 = (m : Int) by omega]
      have hml : m < vs.length := by omega
      obtain ⟨s, hs⟩ : ∃ s, vs[m]? = some s := ⟨_, List.getElem?_eq_getElem hml⟩
      have HNXT := Lib.hid (closeF_drop hs t)
      have n0 : wr.cell? ⟨b3, m, none⟩ = some (.string s) := by rw [HNR.out m hml, List.getD_eq_getElem?_getD, hs]; rfl
      have hbo2 : b3 ≠ ob := by rcases hbo with h | h <;> omega
      obtain ⟨u, hu⟩ : ∃ u, u = closeF (vs.drop (m + 1)) t := ⟨_, rfl⟩
      rw [← hu] at HOFV HOWR HNXT
      obtain ⟨qa, qc, qp, qd, rfl, rfl⟩ := HOWR.out.read.open
      obtain ⟨o0, o1, o2, o3, o4, o5⟩ := HOFV.out
      clear hs hu
      go_wp2_with fail
      have n1 : wr.drew.cell? ⟨b3, m, none⟩ = some (.string s) := carry_cell n0 (Below.refl _ _).drew
      have hbw : b3 < wr.heap.size := World.block_lt_of_cell? wr _ n0
      obtain ⟨W4, hW4⟩ : ∃ W4, W4 = (((((wr.setCell ⟨ob, 0, none⟩ (.int .i64 8)).setCell ⟨ob, 1, none⟩ (.string ⟨#[]⟩)).setCell ⟨ob, 2, none⟩ (.slice none 0 0)).setCell ⟨ob, 3, none⟩ (.string s)).setCell ⟨ob, 4, none⟩ (.slice (some ⟨wr.heap.size, 0, none⟩) 1 1)) := ⟨_, rfl⟩
      obtain ⟨W5, hW5⟩ : ∃ W5, W5 = (W4.alloc (.cells #[.int .i64 u.op, .string u.atom.name, .slice qa u.atom.args.length qc, .string u.var, .slice qp u.parts.length qd] 34)).drew := ⟨_, rfl⟩
      have hset : ∀ q, q ≠ ob → W4.heap[q]? = wr.heap[q]? := fun q hq => by
        rw [hW4, Below.heap_setCell _ _ _ _ (by simpa using hq), Below.heap_setCell _ _ _ _ (by simpa using hq), Below.heap_setCell _ _ _ _ (by simpa using hq), Below.heap_setCell _ _ _ _ (by simpa using hq), Below.heap_setCell _ _ _ _ (by simpa using hq)]
      have hsz4 : W4.heap.size = wr.heap.size := by rw [hW4]; simp only [size_setCell]
      have hsz5 : W5.heap.size = wr.heap.size + 1 := by rw [hW5]; show (W4.alloc _).heap.size = _; rw [World.size_alloc, hsz4]
      have h45 : Below W4.heap.size W4 W5 := by rw [hW5]; exact ((Below.refl _ _).alloc (Nat.le_refl _) _).drew
      have HO5 : Hid (FivB W5 ob (.int .i64 8) (.string ⟨#[]⟩) (.slice none 0 0) (.string s) (.slice (some ⟨wr.heap.size, 0, none⟩) 1 1)) := Lib.hid (FivB.kept (by rw [hW4]; exact ((((HOFV.out.set0 _).set1 _).set2 _).set3 _).set4 _) h45)
      have HG5 : Hid (FivB W5 wr.heap.size (.int .i64 u.op) (.string u.atom.name) (.slice qa u.atom.args.length qc) (.string u.var) (.slice qp u.parts.length qd)) := Lib.hid (by rw [hW5]; exact (fivB_new W4 _ _ _ _ _ _ _ hsz4.symm).drew)
      have hh5 : ∀ q, q < wr.heap.size → q ≠ ob → W5.heap[q]? = wr.heap[q]? := fun q hq hne => (h45.block q (by omega)).trans (hset q hne)
      have HU5 : Hid (FOwn W5 SS u (.slice qa u.atom.args.length qc) (.slice qp u.parts.length qd)) := Lib.hid (HOWR.out.frame fun q hq => hh5 q (HSS.out q hq).2.1 (HSS.out q hq).2.2)
      have HA5 : Hid (FOwn W5 (fun q => SS q ∨ q = wr.heap.size) (allF s u) (.slice none 0 0) (.slice (some ⟨wr.heap.size, 0, none⟩) 1 1)) := Lib.hid (fown_all HU5.out HG5.out (fun h => by have := (HSS.out _ h).2.1; omega) (fun q h => .inl h) (.inr rfl) (Nat.le_refl _))
      have HR5 : Hid (FivB W5 (w.heap.size + 1) (.int .i64 0) (.string ⟨#[]⟩) (.slice none 0 0) (.string ⟨#[]⟩) (.slice none 0 0)) := Lib.hid (FivB.kept (by rw [hW4]; exact ((((HRR.out.setFar (by simp; omega) _).setFar (by simp; omega) _).setFar (by simp; omega) _).setFar (by simp; omega) _).setFar (by simp; omega) _) h45)
      have HB5 : Hid (Below w.heap.size w W5) := Lib.hid (carry_below (by rw [hW4]; exact ((((HBE.out.setCell (by simp; omega) _).setCell (by simp; omega) _).setCell (by simp; omega) _).setCell (by simp; omega) _).setCell (by simp; omega) _) (Nat.le_refl _) h45)
      have HN5 : Hid (∀ j, j < vs.length → W5.cell? ⟨b3, j, none⟩ = some (.string (vs.getD j ByteArray.empty))) := Lib.hid (fun j hj => (World.cell?_of_block (w := wr) (a := ⟨b3, j, none⟩) (hh5 b3 hbw hbo2)).trans (HNR.out j hj))
      have HS5 : Hid (∀ q, (SS q ∨ q = wr.heap.size) → w.heap.size + 1 < q ∧ q < W5.heap.size ∧ q ≠ ob) := Lib.hid (fun q hq => by
        rcases hq with hq | hq
        · have := HSS.out q hq; omega
        · omega)
      clear h45 hset hh5 hsz4 hsz5
      obtain ⟨y0, y1, y2, y3, y4, y5⟩ := HOFV.out.drew
      refine sink_start 7 (fun w' => w'.cell? ⟨ob, 0, none⟩ = some (.int .i64 u.op) ∧ w'.cell? ⟨ob, 1, none⟩ = some (.string u.atom.name) ∧ w'.cell? ⟨ob, 2, none⟩ = some (.slice qa u.atom.args.length qc) ∧ w'.cell? ⟨ob, 3, none⟩ = some (.string u.var) ∧ w'.cell? ⟨ob, 4, none⟩ = some (.slice qp u.parts.length qd) ∧ w'.cell? ⟨b3, m, none⟩ = some (.string s)) (by kernel_rfl) (by exact ⟨by first | assumption | exact carry_cell' ((Below.refl _ _).alloc (Nat.le_refl _) _) (by assumption), by first | assumption | exact carry_cell' ((Below.refl _ _).alloc (Nat.le_refl _) _) (by assumption), by first | assumption | exact carry_cell' ((Below.refl _ _).alloc (Nat.le_refl _) _) (by assumption), by first | assumption | exact carry_cell' ((Below.refl _ _).alloc (Nat.le_refl _) _) (by assumption), by first | assumption | exact carry_cell' ((Below.refl _ _).alloc (Nat.le_refl _) _) (by assumption), by first | assumption | exact carry_cell' ((Below.refl _ _).alloc (Nat.le_refl _) _) (by assumption)⟩) (fun hHeld => ?_)
      refine sink_take 0 (v := ?_) rfl (by kernel_rfl) (by kernel_rfl) (by kernel_rfl) (by kernel_rfl) (by rfl) (fun _ _ _ h => h) (by assumption) ?_ ?_; rotate_left; (intro w hSw; (try dsimp only at hSw); go_simp; try (with_reducible rfl))
      try simp only [Act.put, List.getElem_toArray, List.getElem_cons_zero, List.getElem_cons_succ, List.setIfInBounds_toArray, List.set_cons_zero, List.set_cons_succ]
      refine sink_take 1 (v := ?_) rfl (by kernel_rfl) (by kernel_rfl) (by kernel_rfl) (by kernel_rfl) (by rfl) (fun _ _ _ h => h) (by assumption) ?_ ?_; rotate_left; (intro w hSw; (try dsimp only at hSw); go_simp; try (with_reducible rfl))
      try simp only [Act.put, List.getElem_toArray, List.getElem_cons_zero, List.getElem_cons_succ, List.setIfInBounds_toArray, List.set_cons_zero, List.set_cons_succ]
      refine sink_take 2 (v := ?_) rfl (by kernel_rfl) (by kernel_rfl) (by kernel_rfl) (by kernel_rfl) (by rfl) (fun _ _ _ h => h) (by assumption) ?_ ?_; rotate_left; (intro w hSw; (try dsimp only at hSw); go_simp; try (with_reducible rfl))
      try simp only [Act.put, List.getElem_toArray, List.getElem_cons_zero, List.getElem_cons_succ, List.setIfInBounds_toArray, List.set_cons_zero, List.set_cons_succ]
      refine sink_take 3 (v := ?_) rfl (by kernel_rfl) (by kernel_rfl) (by kernel_rfl) (by kernel_rfl) (by rfl) (fun _ _ _ h => h) (by assumption) ?_ ?_; rotate_left; (intro w hSw; (try dsimp only at hSw); go_simp; try (with_reducible rfl))
      try simp only [Act.put, List.getElem_toArray, List.getElem_cons_zero, List.getElem_cons_succ, List.setIfInBounds_toArray, List.set_cons_zero, List.set_cons_succ]
      refine sink_take 4 (v := ?_) rfl (by kernel_rfl) (by kernel_rfl) (by kernel_rfl) (by kernel_rfl) (by rfl) (fun _ _ _ h => h) (by assumption) ?_ ?_; rotate_left; (intro w hSw; (try dsimp only at hSw); go_simp; try (with_reducible rfl))
      try simp only [Act.put, List.getElem_toArray, List.getElem_cons_zero, List.getElem_cons_succ, List.setIfInBounds_toArray, List.set_cons_zero, List.set_cons_succ]
      refine sink_one (i := 5) (by kernel_rfl) rfl (fun K hK => ?_)
      go_simp
      refine hK.out _ _ (fun _ => by exact ⟨by first | assumption | exact carry_cell' ((Below.refl _ _).alloc (Nat.le_refl _) _) (by assumption), by first | assumption | exact carry_cell' ((Below.refl _ _).alloc (Nat.le_refl _) _) (by assumption), by first | assumption | exact carry_cell' ((Below.refl _ _).alloc (Nat.le_refl _) _) (by assumption), by first | assumption | exact carry_cell' ((Below.refl _ _).alloc (Nat.le_refl _) _) (by assumption), by first | assumption | exact carry_cell' ((Below.refl _ _).alloc (Nat.le_refl _) _) (by assumption), by first | assumption | exact carry_cell' ((Below.refl _ _).alloc (Nat.le_refl _) _) (by assumption)⟩) (fun hHeld => ?_)
      have hHeld := hHeld (by decide)
      clear hK K
      try simp only [Act.put, List.getElem_toArray, List.getElem_cons_zero, List.getElem_cons_succ, List.setIfInBounds_toArray, List.set_cons_zero, List.set_cons_succ]
      refine sink_take 6 (v := ?_) rfl (by kernel_rfl) (by kernel_rfl) (by kernel_rfl) (by kernel_rfl) (by rfl) (fun _ _ _ h => h) (by assumption) ?_ ?_; rotate_left; (intro w hSw; (try dsimp only at hSw); go_simp; try (with_reducible rfl))
      try simp only [Act.put, List.getElem_toArray, List.getElem_cons_zero, List.getElem_cons_succ, List.setIfInBounds_toArray, List.set_cons_zero, List.set_cons_succ]
      refine sink_one (i := 7) (by kernel_rfl) rfl (fun K hK => ?_)
      go_simp
      refine hK.out _ _ (fun hne => absurd rfl hne) (fun hHeld => ?_)
      clear hK K
      try simp only [Act.put, List.getElem_toArray, List.getElem_cons_zero, List.getElem_cons_succ, List.setIfInBounds_toArray, List.set_cons_zero, List.set_cons_succ]
      refine sink_done (by kernel_rfl) ?_ _
      rw [← hW4, ← hW5]
      clear hW4 hW5 o0 o1 o2 o3 o4 o5 y0 y1 y2 y3 y4 y5 n0 n1 hHeld
      go_wp2
      go_roundw
      case rel => exact ⟨m, .slice none 0 0, .slice (some ⟨wr.heap.size, 0, none⟩) 1 1, _, by omega, rfl, by rw [HNXT.out]; exact HO5.out, by rw [HNXT.out]; exact HA5.out, HS5.out, HN5.out, HR5.out, HB5.out⟩
      case measure => first | (simp [intOf]; done) | (simp [intOf]; omega)


theorem fown_zero (w : World) (S : Nat → Prop) : FOwn w S zeroF (.slice none 0 0) (.slice none 0 0) := ⟨fun _ => False, fun _ => False, .emp _ _ _, .emp _ _ _, fun _ h => h.elim, fun _ h => h.elim, fun _ h => h.elim⟩

set_option maxRecDepth 100000 in
set_option maxHeartbeats 8000000 in
theorem specClose_any (t : Fm) (w : World) (va vp : Value) (hv : FmV w va vp t) (hw : t.wt ≤ 1048576) :
    Calls Tryz.prog 6 #[.agg #[.int .i64 t.op, .string t.atom.name, va, .string t.var, vp]] w (ClEnd t w) := by
  obtain ⟨pa, ca, pp, cp, rfl, rfl⟩ := hv.open
  have HV := Lib.hid hv
  have HW := Lib.hid hw
  obtain ⟨WA, hWA⟩ : ∃ W, W = (w.alloc (.cells #[.int .i64 t.op, .string t.atom.name, .slice pa t.atom.args.length ca, .string t.var, .slice pp t.parts.length cp] 34)).alloc (.cells #[.int .i64 0, .string ⟨#[]⟩, .slice none 0 0, .string ⟨#[]⟩, .slice none 0 0] 34) := ⟨_, rfl⟩
  have HFA : Hid (FivB WA w.heap.size (.int .i64 t.op) (.string t.atom.name) (.slice pa t.atom.args.length ca) (.string t.var) (.slice pp t.parts.length cp)) := Lib.hid (by rw [hWA]; exact (fivB_new w (.int .i64 t.op) (.string t.atom.name) (.slice pa t.atom.args.length ca) (.string t.var) (.slice pp t.parts.length cp) 34 _ rfl).alloc _)
  have HRA : Hid (FivB WA (w.heap.size + 1) (.int .i64 0) (.string ⟨#[]⟩) (.slice none 0 0) (.string ⟨#[]⟩) (.slice none 0 0)) := Lib.hid (by rw [hWA]; exact fivB_new _ (.int .i64 0) (.string ⟨#[]⟩) (.slice none 0 0) (.string ⟨#[]⟩) (.slice none 0 0) 34 _ (by simp))
  have HBA : Hid (Below w.heap.size w WA) := Lib.hid (by rw [hWA]; exact ((Below.refl _ _).alloc (Nat.le_refl _) _).alloc (by simp) _)
  have HSA : Hid (WA.heap.size = w.heap.size + 1 + 1) := Lib.hid (by rw [hWA]; simp)
  have C0 := Lib.hid (l8Good_any t WA _ _ (HV.out.kept HBA.out) hw)
  obtain ⟨gb, hgb⟩ : ∃ gb, gb = fgoodB t := ⟨_, rfl⟩
  rw [← hgb] at C0
  have HG := Lib.hid hgb
  obtain ⟨d0, d1, d2, d3, d4, d5⟩ := HFA.out
  rw [hWA] at d0 d1 d2 d3 d4 d5
  clear hv hw hgb
  cases gb with
  | false =>
    go_enter Tryz.func6, Tryz.ntmps6
    go_wp2_with fail
    rw [← hWA]
    clear hWA d0 d1 d2 d3 d4 d5
    refine C0.out.mono ?_
    rintro e w1 ⟨rfl, hb⟩
    have HB1 := Lib.hid (carry_below HBA.out (Nat.le_refl _) hb)
    have HR1 := Lib.hid (HRA.out.kept hb)
    obtain ⟨r0, r1, r2, r3, r4, r5⟩ := HR1.out
    clear hb C0
    have HE : ∀ W, Below w.heap.size w W → ClEnd t w (.returned (.tuple #[.agg #[.int .i64 0, .string ⟨#[]⟩, .slice none 0 0, .string ⟨#[]⟩, .slice none 0 0], .bool false])) W := fun W hW => by
      have e : clB t = false := by simp [clB, ← HG.out]
      have e2 : clA t = zeroF := by simp [clA, e]
      refine ⟨.slice none 0 0, .slice none 0 0, by rw [e, e2]; rfl, by rw [e2]; exact fown_zero _ _, hW⟩
    have HE := Lib.hid HE
    go_wp2
    refine bodyPost_ret (v := .tuple #[.agg #[.int .i64 0, .string ⟨#[]⟩, .slice none 0 0, .string ⟨#[]⟩, .slice none 0 0], .bool false]) (by simp [results, Tryz.results6, go_sem, r0, r1, r2, r3, r4]) rfl (HE.out _ ?_)
    exact ((((HB1.out.setCell (by simp) _).setCell (by simp) _).setCell (by simp) _).setCell (by simp) _).setCell (by simp) _
  | true =>
    have hgt : fgoodB t = true := HG.out.symm
    have hcw := close_wt hgt HW.out
    have hfv := (fv_var hgt HW.out).2
    have haz := fgood_az hgt
    have hsz := (fgood_open hgt).1
    obtain ⟨u, hu⟩ : ∃ u, u = closeF (t.fv [] []) t := ⟨_, rfl⟩
    rw [← hu] at hcw
    have HU := Lib.hid hu
    have HUW := Lib.hid hcw
    have C1 : Hid (∀ W : World, Below w.heap.size w W → Calls Tryz.prog 21 #[.agg #[.int .i64 t.op, .string t.atom.name, .slice pa t.atom.args.length ca, .string t.var, .slice pp t.parts.length cp]] W (ToFmEnd u W)) := Lib.hid (fun W hW => by rw [hu]; exact l8Close_any t W _ _ (HV.out.kept hW) HW.out haz (by omega) (by omega))
    clear hcw hfv haz hsz hu hgt
    go_enter Tryz.func6, Tryz.ntmps6
    go_wp2_with fail
    rw [← hWA]
    clear hWA d0 d1 d2 d3 d4 d5
    refine C0.out.mono ?_
    rintro e w1 ⟨rfl, hb⟩
    have HB1 := Lib.hid (carry_below HBA.out (Nat.le_refl _) hb)
    have HF1 := Lib.hid (HFA.out.kept hb)
    have HR1 := Lib.hid (HRA.out.kept hb)
    have hz1 : w.heap.size + 1 + 1 ≤ w1.heap.size := by have := hb.size; have := HSA.out; omega
    obtain ⟨d0, d1, d2, d3, d4, d5⟩ := HF1.out
    clear hb C0
    go_wp2_with fail
    refine (C1.out _ HB1.out).mono ?_
    rintro e w2 ⟨va2, vp2, rfl, ho, hb⟩
    obtain ⟨p2, c2, pp2, cp2, rfl, rfl⟩ := ho.read.open
    have hz2 := hb.size
    obtain ⟨W3, hW3⟩ : ∃ W3, W3 = w2.alloc (.cells #[.int .i64 u.op, .string u.atom.name, .slice p2 u.atom.args.length c2, .string u.var, .slice pp2 u.parts.length cp2] 34) := ⟨_, rfl⟩
    have hA3 : Below w2.heap.size w2 W3 := by rw [hW3]; exact (Below.refl _ _).alloc (Nat.le_refl _) _
    have HB3 := Lib.hid (carry_below (carry_below HB1.out (Nat.le_refl _) hb) (Nat.le_refl _) hA3)
    have HR3 := Lib.hid ((HR1.out.kept hb).kept hA3)
    have HO3 : Hid (FOwn W3 (Fresh w1 w2) u (.slice p2 u.atom.args.length c2) (.slice pp2 u.parts.length cp2)) := Lib.hid (ho.frame fun q hq => hA3.block q hq.2)
    have HX3 : Hid (FivB W3 w2.heap.size (.int .i64 u.op) (.string u.atom.name) (.slice p2 u.atom.args.length c2) (.string u.var) (.slice pp2 u.parts.length cp2)) := Lib.hid (by rw [hW3]; exact fivB_new w2 _ _ _ _ _ _ _ rfl)
    have hz3 : w2.heap.size + 1 = W3.heap.size := by rw [hW3]; simp
    have C2 := Lib.hid (l8Good_any u W3 _ _ HO3.out.read (by have := HUW.out; omega))
    obtain ⟨g2, hg2⟩ : ∃ g2, g2 = fgoodB u := ⟨_, rfl⟩
    rw [← hg2] at C2
    have HG2 := Lib.hid hg2
    clear hb ho hA3 hg2 d0 d1 d2 d3 d4 d5 C1
    cases g2 with
    | false =>
      go_wp2_with fail
      rw [← hW3]
      clear hW3
      refine C2.out.mono ?_
      rintro e w4 ⟨rfl, hb⟩
      have HB4 := Lib.hid (carry_below HB3.out (Nat.le_refl _) hb)
      obtain ⟨r0, r1, r2, r3, r4, r5⟩ := HR3.out.kept hb
      clear hb C2
      have HE : Hid (∀ W, Below w.heap.size w W → ClEnd t w (.returned (.tuple #[.agg #[.int .i64 0, .string ⟨#[]⟩, .slice none 0 0, .string ⟨#[]⟩, .slice none 0 0], .bool false])) W) := Lib.hid (fun W hW => by
        have e : clB t = false := by simp [clB, ← HU.out, ← HG2.out]
        have e2 : clA t = zeroF := by simp [clA, e]
        refine ⟨.slice none 0 0, .slice none 0 0, by rw [e, e2]; rfl, by rw [e2]; exact fown_zero _ _, hW⟩)
      go_wp2
      refine bodyPost_ret (v := .tuple #[.agg #[.int .i64 0, .string ⟨#[]⟩, .slice none 0 0, .string ⟨#[]⟩, .slice none 0 0], .bool false]) (by simp [results, Tryz.results6, go_sem, r0, r1, r2, r3, r4]) rfl (HE.out _ ?_)
      exact ((((HB4.out.setCell (by simp) _).setCell (by simp) _).setCell (by simp) _).setCell (by simp) _).setCell (by simp) _
    | true =>
      go_wp2_with fail
      rw [← hW3]
      clear hW3
      refine C2.out.mono ?_
      rintro e w4 ⟨rfl, hb⟩
      have HB4 := Lib.hid (carry_below HB3.out (Nat.le_refl _) hb)
      have hz4 := hb.size
      have HO4 : Hid (FOwn w4 (Fresh w1 w2) u (.slice p2 u.atom.args.length c2) (.slice pp2 u.parts.length cp2)) := Lib.hid (HO3.out.frame fun q hq => hb.block q (by have := hq.2; omega))
      obtain ⟨r0, r1, r2, r3, r4, r5⟩ := HR3.out.kept hb
      obtain ⟨x0, x1, x2, x3, x4, x5⟩ := HX3.out.kept hb
      have HE : Hid (∀ W, Below w.heap.size w W → w4.heap.size ≤ W.heap.size → FOwn W (Fresh w1 w2) u (.slice p2 u.atom.args.length c2) (.slice pp2 u.parts.length cp2) → ClEnd t w (.returned (.tuple #[.agg #[.int .i64 u.op, .string u.atom.name, .slice p2 u.atom.args.length c2, .string u.var, .slice pp2 u.parts.length cp2], .bool true])) W) := Lib.hid (fun W hW hsz ho => by
        have e : clB t = true := by simp [clB, ← HU.out, ← HG2.out, ← HG.out]
        have e2 : clA t = u := by simp [clA, e, ← HU.out]
        refine ⟨_, _, by rw [e, e2], by rw [e2]; exact ho.mono fun q hq => ⟨by have := hq.1; omega, by have := hq.2; omega⟩, hW⟩)
      clear hb C2
      go_wp2
      have hn : ¬ Fresh w1 w2 (w.heap.size + 1) := fun h => by have := h.1; omega
      refine bodyPost_ret (v := .tuple #[.agg #[.int .i64 u.op, .string u.atom.name, .slice p2 u.atom.args.length c2, .string u.var, .slice pp2 u.parts.length cp2], .bool true]) (by simp [results, Tryz.results6, go_sem, r0, r1, r2, r3, r4]) rfl (HE.out _ ?_ ?_ ?_)
      · exact ((((HB4.out.setCell (by simp) _).setCell (by simp) _).setCell (by simp) _).setCell (by simp) _).setCell (by simp) _
      · simp only [size_setCell]; exact Nat.le_refl _
      · exact ((((HO4.out.setCell hn _).setCell hn _).setCell hn _).setCell hn _).setCell hn _

end Go.Proofs.YtdpeanpmjhpblaaGreat

/- The program's universal closure: a contract, for formulas of at most 1048576 names' bytes, parts and arguments. -/
namespace Go.Proofs.YtdpeanpmjhpblaaGreat
open Go.RowKit Go.Shelf
set_option linter.unusedVariables false
set_option linter.unusedSimpArgs false

attribute [local go_sem] Oper.semAt_some

/-- The formula behind the quantifiers that have come. -/
def curF (t : Fm) (pre : List (Nat × ByteArray)) : Fm := pre.foldl (fun f x => allF x.2 f) t
theorem curF_snoc (t : Fm) (pre : List (Nat × ByteArray)) (x : Nat × ByteArray) : curF t (pre ++ [x]) = allF x.2 (curF t pre) := by simp [curF]
theorem curF_bk (t : Fm) (vs : List ByteArray) : ∀ j, j ≤ vs.length → curF t (bkN vs j) = closeF (vs.drop (vs.length - j)) t
  | 0, _ => by rw [bkN_zero, Nat.sub_zero, List.drop_length]; rfl
  | j + 1, h => by
    rw [bkN_succ, curF_snoc, curF_bk t vs j (by omega)]
    have hl : vs.length - (j + 1) < vs.length := by omega
    have h1 := closeF_drop (vs := vs) (k := vs.length - (j + 1)) (List.getElem?_eq_getElem hl) t
    rw [h1, show vs.length - (j + 1) + 1 = vs.length - j by omega]
    rw [show vs.length - 1 - j = vs.length - (j + 1) by omega, List.getD_eq_getElem?_getD, List.getElem?_eq_getElem hl]
    rfl
theorem curF_all (t : Fm) (vs : List ByteArray) : curF t (bkN vs vs.length) = closeF vs t := by
  rw [curF_bk t vs _ (Nat.le_refl _), Nat.sub_self, List.drop_zero]

theorem cell_isCells {W : World} {a : Addr} {v : Value} {o : Obj} (h : W.cell? a = some v) (ho : W.heap[a.block]? = some o) : o.isCells = true := by
  unfold World.cell? at h
  simp only [ho] at h
  cases o <;> first | rfl | (cases h; done)
theorem FivB.turn {W W' : World} {b : Nat} {x0 x1 x2 x3 x4 : Value} {row : Option Nat} (h : FivB W b x0 x1 x2 x3 x4) (hg : W.grownBy W' row) (hr : ∀ r, row = some r → ∃ o, W.heap[r]? = some o ∧ o.isCells = false) : FivB W' b x0 x1 x2 x3 x4 := by
  have e : W'.heap[b]? = W.heap[b]? := hg.block b (World.block_lt_of_cell? W ⟨b, 0, none⟩ h.1) (fun e => by
    obtain ⟨o, ho, hc⟩ := hr b e.symm
    have := cell_isCells h.1 ho
    rw [hc] at this; cases this)
  exact ⟨(World.cell?_of_block (w := W) (a := ⟨b, 0, none⟩) e).trans h.1, (World.cell?_of_block (w := W) (a := ⟨b, 1, none⟩) e).trans h.2.1, (World.cell?_of_block (w := W) (a := ⟨b, 2, none⟩) e).trans h.2.2.1,
    (World.cell?_of_block (w := W) (a := ⟨b, 3, none⟩) e).trans h.2.2.2.1, (World.cell?_of_block (w := W) (a := ⟨b, 4, none⟩) e).trans h.2.2.2.2.1, fun j => (World.frozen?_of_block (w := W) (a := ⟨b, j, none⟩) e).trans (h.2.2.2.2.2 j)⟩

/-- What the loop holds: the variable at ob with the formula so far, its blocks, the result's box. -/
def CurI (w : World) (ob B : Nat) (t : Fm) (pre : List (Nat × ByteArray)) (W : World) : Prop :=
  ∃ (va vp : Value) (SS : Nat → Prop), FivB W ob (.int .i64 (curF t pre).op) (.string (curF t pre).atom.name) va (.string (curF t pre).var) vp ∧ FOwn W SS (curF t pre) va vp ∧
    (∀ q, SS q → w.heap.size + 1 < q ∧ q < W.heap.size ∧ q ≠ ob ∧ (q < B ∨ ∃ a ty fz, W.heap[q]? = some (.cells a ty fz))) ∧ FivB W (w.heap.size + 1) (.int .i64 0) (.string ⟨#[]⟩) (.slice none 0 0) (.string ⟨#[]⟩) (.slice none 0 0) ∧ Below w.heap.size w W ∧ B ≤ W.heap.size

theorem curI_own (w : World) (ob B : Nat) (t : Fm) (hB : w.heap.size ≤ B) : OwnFrom B (CurI w ob B t) := by
  rintro pre W W' row ⟨va, vp, SS, h1, h2, h3, h4, h5, h6⟩ hg hr
  have hne : ∀ q, SS q → some q ≠ row := fun q hq e => by
    obtain ⟨hBq, o, ho, hc⟩ := hr q e.symm
    rcases (h3 q hq).2.2.2 with h | ⟨a, ty, fz, h⟩
    · omega
    · rw [h] at ho; cases ho; cases hc
  have hrr : ∀ r, row = some r → ∃ o, W.heap[r]? = some o ∧ o.isCells = false := fun r e => (hr r e).2
  have hb : ∀ q, SS q → W'.heap[q]? = W.heap[q]? := fun q hq => hg.block q (h3 q hq).2.1 (hne q hq)
  exact ⟨va, vp, SS, h1.turn hg hrr, h2.frame hb, fun q hq => ⟨(h3 q hq).1, Nat.lt_of_lt_of_le (h3 q hq).2.1 hg.size, (h3 q hq).2.2.1, (h3 q hq).2.2.2.imp id fun ⟨a, ty, fz, h⟩ => ⟨a, ty, fz, (hb q hq).trans h⟩⟩, h4.turn hg hrr,
    ownFrom_below (β := Unit) (Nat.le_refl _) hB () W W' row h5 hg hr, Nat.le_trans h6 hg.size⟩

/-- One quantifier more. -/
theorem curI_step {w W : World} {ob B : Nat} {t u : Fm} {pre : List (Nat × ByteArray)} {x : Nat × ByteArray} {qa qp : Option Addr} {qc qd : Nat} {SS : Nat → Prop} (hu : u = curF t pre) (hob : w.heap.size + 1 < ob)
    (h1 : FivB W ob (.int .i64 u.op) (.string u.atom.name) (.slice qa u.atom.args.length qc) (.string u.var) (.slice qp u.parts.length qd)) (h2 : FOwn W SS u (.slice qa u.atom.args.length qc) (.slice qp u.parts.length qd))
    (h3 : ∀ q, SS q → w.heap.size + 1 < q ∧ q < W.heap.size ∧ q ≠ ob ∧ (q < B ∨ ∃ a ty fz, W.heap[q]? = some (.cells a ty fz))) (h4 : FivB W (w.heap.size + 1) (.int .i64 0) (.string ⟨#[]⟩) (.slice none 0 0) (.string ⟨#[]⟩) (.slice none 0 0)) (h5 : Below w.heap.size w W) (h6 : B ≤ W.heap.size) :
    CurI w ob B t (pre ++ [x]) ((((((W.setCell ⟨ob, 0, none⟩ (.int .i64 8)).setCell ⟨ob, 1, none⟩ (.string ⟨#[]⟩)).setCell ⟨ob, 2, none⟩ (.slice none 0 0)).setCell ⟨ob, 3, none⟩ (.string x.2)).setCell ⟨ob, 4, none⟩ (.slice (some ⟨W.heap.size, 0, none⟩) 1 1)).alloc (.cells #[.int .i64 u.op, .string u.atom.name, .slice qa u.atom.args.length qc, .string u.var, .slice qp u.parts.length qd] 34)) ∧ (∀ k, k < W.heap.size → k ≠ ob → ((((((W.setCell ⟨ob, 0, none⟩ (.int .i64 8)).setCell ⟨ob, 1, none⟩ (.string ⟨#[]⟩)).setCell ⟨ob, 2, none⟩ (.slice none 0 0)).setCell ⟨ob, 3, none⟩ (.string x.2)).setCell ⟨ob, 4, none⟩ (.slice (some ⟨W.heap.size, 0, none⟩) 1 1)).alloc (.cells #[.int .i64 u.op, .string u.atom.name, .slice qa u.atom.args.length qc, .string u.var, .slice qp u.parts.length qd] 34)).heap[k]? = W.heap[k]?) ∧ W.heap.size ≤ ((((((W.setCell ⟨ob, 0, none⟩ (.int .i64 8)).setCell ⟨ob, 1, none⟩ (.string ⟨#[]⟩)).setCell ⟨ob, 2, none⟩ (.slice none 0 0)).setCell ⟨ob, 3, none⟩ (.string x.2)).setCell ⟨ob, 4, none⟩ (.slice (some ⟨W.heap.size, 0, none⟩) 1 1)).alloc (.cells #[.int .i64 u.op, .string u.atom.name, .slice qa u.atom.args.length qc, .string u.var, .slice qp u.parts.length qd] 34)).heap.size := by
  obtain ⟨W4, hW4⟩ : ∃ W4, W4 = (((((W.setCell ⟨ob, 0, none⟩ (.int .i64 8)).setCell ⟨ob, 1, none⟩ (.string ⟨#[]⟩)).setCell ⟨ob, 2, none⟩ (.slice none 0 0)).setCell ⟨ob, 3, none⟩ (.string x.2)).setCell ⟨ob, 4, none⟩ (.slice (some ⟨W.heap.size, 0, none⟩) 1 1)) := ⟨_, rfl⟩
  rw [← hW4]
  have hobw : ob < W.heap.size := World.block_lt_of_cell? W ⟨ob, 0, none⟩ h1.1
  have hset : ∀ q, q ≠ ob → W4.heap[q]? = W.heap[q]? := fun q hq => by
    rw [hW4, Below.heap_setCell _ _ _ _ (by simpa using hq), Below.heap_setCell _ _ _ _ (by simpa using hq), Below.heap_setCell _ _ _ _ (by simpa using hq), Below.heap_setCell _ _ _ _ (by simpa using hq), Below.heap_setCell _ _ _ _ (by simpa using hq)]
  have hsz4 : W4.heap.size = W.heap.size := by rw [hW4]; simp only [size_setCell]
  have g1 : FivB W4 ob (.int .i64 8) (.string ⟨#[]⟩) (.slice none 0 0) (.string x.2) (.slice (some ⟨W.heap.size, 0, none⟩) 1 1) := by rw [hW4]; exact ((((h1.set0 _).set1 _).set2 _).set3 _).set4 _
  have g4 : FivB W4 (w.heap.size + 1) (.int .i64 0) (.string ⟨#[]⟩) (.slice none 0 0) (.string ⟨#[]⟩) (.slice none 0 0) := by rw [hW4]; exact ((((h4.setFar (by simp; omega) _).setFar (by simp; omega) _).setFar (by simp; omega) _).setFar (by simp; omega) _).setFar (by simp; omega) _
  have g5 : Below w.heap.size w W4 := by rw [hW4]; exact ((((h5.setCell (by simp; omega) _).setCell (by simp; omega) _).setCell (by simp; omega) _).setCell (by simp; omega) _).setCell (by simp; omega) _
  clear hW4
  obtain ⟨W5, hW5⟩ : ∃ W5, W5 = W4.alloc (.cells #[.int .i64 u.op, .string u.atom.name, .slice qa u.atom.args.length qc, .string u.var, .slice qp u.parts.length qd] 34) := ⟨_, rfl⟩
  rw [← hW5]
  have h45 : Below W4.heap.size W4 W5 := by rw [hW5]; exact (Below.refl _ _).alloc (Nat.le_refl _) _
  have hsz5 : W5.heap.size = W.heap.size + 1 := by rw [hW5, World.size_alloc, hsz4]
  have hG : FivB W5 W.heap.size (.int .i64 u.op) (.string u.atom.name) (.slice qa u.atom.args.length qc) (.string u.var) (.slice qp u.parts.length qd) := by rw [hW5]; exact fivB_new W4 _ _ _ _ _ _ _ hsz4.symm
  have hblk : W5.heap[W.heap.size]? = some (.cells #[.int .i64 u.op, .string u.atom.name, .slice qa u.atom.args.length qc, .string u.var, .slice qp u.parts.length qd] 34 (0, 0)) := by rw [hW5, ← hsz4]; exact World.alloc_heap_new _ _
  have hh : ∀ q, q < W.heap.size → q ≠ ob → W5.heap[q]? = W.heap[q]? := fun q hq hne => (h45.block q (by omega)).trans (hset q hne)
  clear hW5
  have hU : FOwn W5 SS u (.slice qa u.atom.args.length qc) (.slice qp u.parts.length qd) := h2.frame fun q hq => hh q (h3 q hq).2.1 (h3 q hq).2.2.1
  have hA := fown_all (S' := fun q => SS q ∨ q = W.heap.size) (v := x.2) hU hG (fun h => by have := (h3 _ h).2.1; omega) (fun q h => .inl h) (.inr rfl) (Nat.le_refl 1)
  refine ⟨⟨.slice none 0 0, .slice (some ⟨W.heap.size, 0, none⟩) 1 1, _, ?_, by rw [curF_snoc, ← hu]; exact hA, fun q hq => ?_, g4.kept h45, carry_below g5 (Nat.le_refl _) h45, by omega⟩, hh, by omega⟩
  · rw [curF_snoc, ← hu]; exact g1.kept h45
  · rcases hq with hq | hq
    · have := h3 q hq
      refine ⟨by omega, by omega, this.2.2.1, this.2.2.2.imp id fun ⟨a, ty, fz, h⟩ => ⟨a, ty, fz, (hh q this.2.1 this.2.2.1).trans h⟩⟩
    · subst hq
      exact ⟨by have := h5.size; omega, by omega, by omega, .inr ⟨_, _, _, hblk⟩⟩

set_option maxRecDepth 100000 in
set_option maxHeartbeats 16000000 in
theorem implClose_in (t : Fm) (w : World) (va vp : Value) (hv : FmV w va vp t) (hw : t.wt ≤ 1048576) :
    CallsIn Fence.wide 9 Tryz.prog 8 #[.agg #[.int .i64 t.op, .string t.atom.name, va, .string t.var, vp]] w (ClEnd t w) := by
  obtain ⟨pa, ca, pp, cp, rfl, rfl⟩ := hv.open
  have HV := Lib.hid hv
  have HW := Lib.hid hw
  obtain ⟨WA, hWA⟩ : ∃ W, W = (w.alloc (.cells #[.int .i64 t.op, .string t.atom.name, .slice pa t.atom.args.length ca, .string t.var, .slice pp t.parts.length cp] 34)).alloc (.cells #[.int .i64 0, .string ⟨#[]⟩, .slice none 0 0, .string ⟨#[]⟩, .slice none 0 0] 34) := ⟨_, rfl⟩
  have HFA : Hid (FivB WA w.heap.size (.int .i64 t.op) (.string t.atom.name) (.slice pa t.atom.args.length ca) (.string t.var) (.slice pp t.parts.length cp)) := Lib.hid (by rw [hWA]; exact (fivB_new w (.int .i64 t.op) (.string t.atom.name) (.slice pa t.atom.args.length ca) (.string t.var) (.slice pp t.parts.length cp) 34 _ rfl).alloc _)
  have HRA : Hid (FivB WA (w.heap.size + 1) (.int .i64 0) (.string ⟨#[]⟩) (.slice none 0 0) (.string ⟨#[]⟩) (.slice none 0 0)) := Lib.hid (by rw [hWA]; exact fivB_new _ (.int .i64 0) (.string ⟨#[]⟩) (.slice none 0 0) (.string ⟨#[]⟩) (.slice none 0 0) 34 _ (by simp))
  have HBA : Hid (Below w.heap.size w WA) := Lib.hid (by rw [hWA]; exact ((Below.refl _ _).alloc (Nat.le_refl _) _).alloc (by simp) _)
  have HSA : Hid (WA.heap.size = w.heap.size + 1 + 1) := Lib.hid (by rw [hWA]; simp)
  have C0 := Lib.hid (implFv_any t WA _ _ (HV.out.kept HBA.out) hw)
  obtain ⟨gb, hgb⟩ : ∃ gb, gb = fgoodB t := ⟨_, rfl⟩
  have HG := Lib.hid hgb
  obtain ⟨d0, d1, d2, d3, d4, d5⟩ := HFA.out
  rw [hWA] at d0 d1 d2 d3 d4 d5
  clear hv hw hgb
  refine callsIn_of_wp_marks Tryz.func8 rfl trivial ?_ rfl
  simp only [Tryz.ntmps8, List.size_toArray, List.length_cons, List.length_nil, Nat.reduceAdd, Nat.reduceSub, Array.replicate_succ, Array.replicate_zero, List.push_toArray, List.append_toArray, List.nil_append, List.cons_append]
  gi_wp2
  rw [← hWA]
  clear hWA d0 d1 d2 d3 d4 d5
  refine ⟨trivial, ?_⟩
  refine (callsIn_wide.2 C0.out).mono ?_
  rintro e w1 ⟨g, cap, he, hown, hb⟩
  rw [← HG.out] at he
  subst he
  have HB1 := Lib.hid (carry_below HBA.out (Nat.le_refl _) hb)
  have HF1 := Lib.hid (HFA.out.kept hb)
  have HR1 := Lib.hid (HRA.out.kept hb)
  have HOWN := Lib.hid hown
  have hz1 : w.heap.size + 1 + 1 ≤ w1.heap.size := by have := hb.size; have := HSA.out; omega
  clear hb hown C0
  cases gb with
  | false =>
    obtain ⟨r0, r1, r2, r3, r4, r5⟩ := HR1.out
    have HE : Hid (∀ W, Below w.heap.size w W → ClEnd t w (.returned (.tuple #[.agg #[.int .i64 0, .string ⟨#[]⟩, .slice none 0 0, .string ⟨#[]⟩, .slice none 0 0], .bool false])) W) := Lib.hid (fun W hW => by
      have e : clB t = false := by simp [clB, ← HG.out]
      have e2 : clA t = zeroF := by simp [clA, e]
      refine ⟨.slice none 0 0, .slice none 0 0, by rw [e, e2]; rfl, by rw [e2]; exact ⟨fun _ => False, fun _ => False, .emp _ _ _, .emp _ _ _, fun _ h => h.elim, fun _ h => h.elim, fun _ h => h.elim⟩, hW⟩)
    gi_wp2
    refine ⟨.tuple #[.agg #[.int .i64 0, .string ⟨#[]⟩, .slice none 0 0, .string ⟨#[]⟩, .slice none 0 0], .bool false], by simp [results, Tryz.results8, go_sem, r0, r1, r2, r3, r4], HE.out _ ?_⟩
    exact ((((HB1.out.setCell (by simp) _).setCell (by simp) _).setCell (by simp) _).setCell (by simp) _).setCell (by simp) _
  | true =>
    have hgt : fgoodB t = true := HG.out.symm
    obtain ⟨vs, hvs⟩ : ∃ vs, vs = t.fv [] [] := ⟨_, rfl⟩
    have hiv : ifA t = vs := by rw [← fv_one t HW.out, hvs]; simp [fvA, hgt]
    obtain ⟨u9, hu9⟩ : ∃ u, u = closeF vs t := ⟨_, rfl⟩
    have HU := Lib.hid hu9
    have HUW : Hid (u9.wt ≤ 20000) := Lib.hid (by rw [hu9, hvs]; exact close_wt hgt HW.out)
    have hnl : vs.length ≤ 1200 := by rw [hvs]; exact (fv_var hgt HW.out).2
    have HVS := Lib.hid hvs
    rw [hiv] at HOWN ⊢
    obtain ⟨d0, d1, d2, d3, d4, d5⟩ := HF1.out
    have C1 := Lib.hid (cpF_any t w1 _ _ (HV.out.kept HB1.out) HW.out)
    clear hvs hiv hu9 hgt
    gi_wp2
    refine ⟨trivial, ?_⟩
    refine (callsIn_wide.2 C1.out).mono ?_
    rintro e w2 ⟨va2, vp2, rfl, ho, hb⟩
    obtain ⟨p2, c2, pp2, cp2, rfl, rfl⟩ := ho.read.open
    have hz2 := hb.size
    obtain ⟨ob, hob⟩ : ∃ ob, ob = w2.heap.size := ⟨_, rfl⟩
    obtain ⟨W3, hW3⟩ : ∃ W3, W3 = w2.alloc (.cells #[.int .i64 t.op, .string t.atom.name, .slice p2 t.atom.args.length c2, .string t.var, .slice pp2 t.parts.length cp2] 34) := ⟨_, rfl⟩
    have hA3 : Below w2.heap.size w2 W3 := by rw [hW3]; exact (Below.refl _ _).alloc (Nat.le_refl _) _
    obtain ⟨W4, hW4⟩ : ∃ W4, W4 = W3.alloc (.cells #[.slice (some ⟨g, 0, none⟩) vs.length cap] 59) := ⟨_, rfl⟩
    have hA4 : Below W3.heap.size W3 W4 := by rw [hW4]; exact (Below.refl _ _).alloc (Nat.le_refl _) _
    have h24 : Below w2.heap.size w2 W4 := carry_below hA3 (Nat.le_refl _) hA4
    have hz3 : W3.heap.size = ob + 1 := by rw [hW3, hob]; simp
    have hz4 : W4.heap.size = ob + 1 + 1 := by rw [hW4]; simp [hz3]
    have HB4 := Lib.hid (carry_below (carry_below HB1.out (Nat.le_refl _) hb) (Nat.le_refl _) h24)
    have HR4 := Lib.hid ((HR1.out.kept hb).kept h24)
    have HO4 : Hid (FOwn W4 (Fresh w1 w2) t (.slice p2 t.atom.args.length c2) (.slice pp2 t.parts.length cp2)) := Lib.hid (ho.frame fun q hq => h24.block q hq.2)
    have HX4 : Hid (FivB W4 ob (.int .i64 t.op) (.string t.atom.name) (.slice p2 t.atom.args.length c2) (.string t.var) (.slice pp2 t.parts.length cp2)) := Lib.hid (FivB.kept (by rw [hW3]; exact fivB_new w2 _ _ _ _ _ _ _ hob) hA4)
    have HBX : Hid (W4.cell? ⟨ob + 1, 0, none⟩ = some (.slice (some ⟨g, 0, none⟩) vs.length cap)) := Lib.hid (by
      rw [hW4, ← hz3]; exact (Boxed.new W3 59 (.slice (some ⟨g, 0, none⟩) vs.length cap)).cell)
    have HNX : Hid (∀ i, i < vs.length → W4.cell? ⟨g, i, none⟩ = some (.string (vs.getD i ByteArray.empty))) := Lib.hid (fun i hi => by
      refine carry_cell (carry_cell ?_ hb) h24
      have h := HOWN.out.cellAt i (by omega)
      rw [h, List.getElem?_map, List.getD_eq_getElem?_getD, List.getElem?_eq_getElem hi]; rfl)
    have hgw : g < w1.heap.size := (HOWN.out.lt g rfl).2
    have HS4 : Hid (∀ q, Fresh w1 w2 q → w.heap.size + 1 < q ∧ q < W4.heap.size ∧ q ≠ ob ∧ (q < W4.heap.size ∨ ∃ a ty fz, W4.heap[q]? = some (.cells a ty fz))) := Lib.hid (fun q hq => by have h1 := hq.1; have h2 := hq.2; exact ⟨by omega, by omega, by omega, .inl (by omega)⟩)
    clear hb ho hA3 hA4 h24 C1 d0 d1 d2 d3 d4 d5
    gi_wp2
    rw [← hW3, ← hob]
    have HOBE := Lib.hid hob
    have hob1 : w.heap.size + 1 < ob := by omega
    have hgo : g < ob := by omega
    clear hob
    refine ⟨trivial, ?_⟩
    refine (callsIn_wide.2 (backward_any _ _ _ _)).mono ?_
    rintro e w4 ⟨rfl, rfl⟩
    rw [← hW4, hz3]
    clear hW3 hW4
    gi_wp2
    refine wpIn_rangeY rfl (by omega) (gf := 54) (lb := #[.pointer (some ⟨ob + 1, 0, none⟩)]) rfl trivial (enters_of Tryz.func54 (by kernel_rfl) rfl)
      (back_stops (9 - 1) (ob + 1) g cap vs W4 (by omega) HBX.out HNX.out) (fun A B k o e h _ => e ▸ h) (fun h k => h.trans k) (fun W l o o' hl h _ _ => KpB.book (by omega) (by omega) W l o o' hl h) (Below.refl _ _) (fun _ => rfl)
      (CurI w ob W4.heap.size t)
      (fun _ _ _ => False)
      (curI_own w ob W4.heap.size t (by omega))
      (fun _ _ _ _ _ hs _ _ => hs)
      (fun pre A B h e => e ▸ h)
      (fun _ _ _ _ h _ => h)
      (fun x W l o o' _ _ _ _ _ => trivial)
      ⟨_, _, _, HX4.out, HO4.out, HS4.out, HR4.out, HB4.out, Nat.le_refl _⟩
      (fun x => { tmps := #[.agg #[.int .i64 t.op, .string t.atom.name, .slice pa t.atom.args.length ca, .string t.var, .slice pp t.parts.length cp], .pointer (some ⟨w.heap.size, 0, none⟩), .pointer (some ⟨w.heap.size + 1, 0, none⟩), .bool false, .slice (some ⟨g, 0, none⟩) vs.length cap, .bool true, .pointer (some ⟨ob, 0, none⟩), undef, .string x.2, .tuple #[.slice (some ⟨g, 0, none⟩) vs.length cap, .bool true], .agg #[.int .i64 t.op, .string t.atom.name, .slice pa t.atom.args.length ca, .string t.var, .slice pp t.parts.length cp], .tuple #[.slice (some ⟨g, 0, none⟩) vs.length cap, .bool true], .slice (some ⟨g, 0, none⟩) vs.length cap, .bool true, .bool true, .bool false, undef, .agg #[.int .i64 t.op, .string t.atom.name, .slice pa t.atom.args.length ca, .string t.var, .slice pp t.parts.length cp], .agg #[.int .i64 t.op, .string t.atom.name, .slice p2 t.atom.args.length c2, .string t.var, .slice pp2 t.parts.length cp2], .slice (some ⟨g, 0, none⟩) vs.length cap, .func (.func 54) #[] #[.pointer (some ⟨ob + 1, 0, none⟩)], .int .i64 x.1, .string x.2, undef, undef, undef, undef, undef, undef, undef, undef, undef], defers := [] })
      ?assign ?body ?done ?stop
    case assign =>
      intro l x W K hK
      simp only [encB]
      gi_wp2
      exact hK
    case body => 
      rintro l pre x W ⟨va3, vp3, SS, h1, h2, h3, h4, h5, h6⟩ - hlen
      obtain ⟨qa, qc, qp, qd, rfl, rfl⟩ := h2.read.open
      have ST := Lib.hid (curI_step (x := x) (pre := pre) rfl (by omega) h1 h2 h3 h4 h5 h6)
      obtain ⟨u, hu⟩ : ∃ u, u = curF t pre := ⟨_, rfl⟩
      rw [← hu] at h1 ST
      have hobw : ob < W.heap.size := World.block_lt_of_cell? W ⟨ob, 0, none⟩ h1.1
      have hz5 := h5.size
      obtain ⟨o0, o1, o2, o3, o4, o5⟩ := h1
      clear h2 h3 h4 h5 hu
      gi_wp2
      have hst := ST.out.2.1
      exact ⟨⟨ST.out.2.2, fun k o _ hk ho => (hst k (Array.getElem?_eq_some_iff.1 hk).1 (fun e => by subst e; have hc := cell_isCells o0 hk; rw [ho] at hc; cases hc)).trans hk⟩, ⟨ST.out.2.2, hst (ob + 1) (by omega) (by omega), hst g (by omega) (by omega)⟩, ST.out.1⟩
    case done => 
      rintro D xs W hD hS ⟨va3, vp3, SS, h1, h2, h3, h4, h5, h6⟩ hK
      rw [hS, curF_all, ← HU.out] at h1 h2
      obtain ⟨u, hu⟩ : ∃ u, u = u9 := ⟨_, rfl⟩
      rw [← hu] at h1 h2
      have HUU := Lib.hid hu
      obtain ⟨qa, qc, qp, qd, rfl, rfl⟩ := h2.read.open
      have HO := Lib.hid h2
      have HS := Lib.hid h3
      have HR := Lib.hid h4
      have HB := Lib.hid h5
      have HX := Lib.hid h1
      have hDl : D < W.heap.size := (Array.getElem?_eq_some_iff.1 hK).1
      have HK := Lib.hid hK
      have HDS : Hid (∀ q, SS q → q ≠ D) := Lib.hid (fun q hq e => by
        rcases (h3 q hq).2.2.2 with h | ⟨a, ty, fz, h⟩
        · omega
        · rw [e, hK] at h; cases h)
      have C3 := Lib.hid (implVF_any u W _ _ h2.read (by rw [hu]; have := HUW.out; omega))
      obtain ⟨g2, hg2⟩ : ∃ g2, g2 = fgoodB u := ⟨_, rfl⟩
      rw [← hg2] at C3
      have HG2 := Lib.hid hg2
      clear h2 h3 h4 h5 hK hg2 hu hS
      obtain ⟨o0, o1, o2, o3, o4, o5⟩ := h1
      cases g2 with
      | false =>
        gi_wp2
        refine ⟨trivial, ?_⟩
        refine (callsIn_wide.2 C3.out).mono ?_
        rintro e w5 ⟨rfl, hb⟩
        have HB5 := Lib.hid (carry_below HB.out (Nat.le_refl _) hb)
        have HR5 := Lib.hid (HR.out.kept hb)
        have HK5 : Hid (w5.heap[D]? = some (.deferred (some []))) := Lib.hid ((hb.block D hDl).trans HK.out)
        have HO5 : Hid (FOwn w5 SS u (.slice qa u.atom.args.length qc) (.slice qp u.parts.length qd)) := Lib.hid (HO.out.frame fun q hq => hb.block q (HS.out q hq).2.1)
        have hz5 : W.heap.size ≤ w5.heap.size := hb.size
        obtain ⟨r0, r1, r2, r3, r4, r5⟩ := HR5.out
        clear hb C3 o0 o1 o2 o3 o4 o5
        gi_wp2
        obtain ⟨W6, hW6⟩ : ∃ W6, W6 = (((((w5.setCell ⟨w.heap.size + 1, 0, none⟩ (.int .i64 0)).setCell ⟨w.heap.size + 1, 1, none⟩ (.string ⟨#[]⟩)).setCell ⟨w.heap.size + 1, 2, none⟩ (.slice none 0 0)).setCell ⟨w.heap.size + 1, 3, none⟩ (.string ⟨#[]⟩)).setCell ⟨w.heap.size + 1, 4, none⟩ (.slice none 0 0)) := ⟨_, rfl⟩
        rw [← hW6]
        have hDr : D ≠ w.heap.size + 1 := by omega
        have HB6 : Hid (Below w.heap.size w W6) := Lib.hid (by rw [hW6]; exact ((((HB5.out.setCell (by simp) _).setCell (by simp) _).setCell (by simp) _).setCell (by simp) _).setCell (by simp) _)
        have HR6 : Hid (FivB W6 (w.heap.size + 1) (.int .i64 0) (.string ⟨#[]⟩) (.slice none 0 0) (.string ⟨#[]⟩) (.slice none 0 0)) := Lib.hid (by rw [hW6]; exact ((((HR5.out.set0 _).set1 _).set2 _).set3 _).set4 _)
        have HK6 : Hid (W6.heap[D]? = some (.deferred (some []))) := Lib.hid (by rw [hW6, Below.heap_setCell _ _ _ _ (by simpa using hDr), Below.heap_setCell _ _ _ _ (by simpa using hDr), Below.heap_setCell _ _ _ _ (by simpa using hDr), Below.heap_setCell _ _ _ _ (by simpa using hDr), Below.heap_setCell _ _ _ _ (by simpa using hDr)]; exact HK5.out)
        have hn : ¬ SS (w.heap.size + 1) := fun h => by have := (HS.out _ h).1; omega
        have HO6 : Hid (FOwn W6 SS u (.slice qa u.atom.args.length qc) (.slice qp u.parts.length qd)) := Lib.hid (by rw [hW6]; exact ((((HO5.out.setCell hn _).setCell hn _).setCell hn _).setCell hn _).setCell hn _)
        have hz6 : W6.heap.size = w5.heap.size := by rw [hW6]; simp only [size_setCell]
        clear hW6 r0 r1 r2 r3 r4 r5
        refine ⟨by simp, .inl ⟨_, _, rfl, run_takeDeferred HK6.out, ?_⟩⟩
        obtain ⟨r0, r1, r2, r3, r4, r5⟩ := HR6.out.turn (grownBy_putObj' W6 D (.deferred none)) (fun r e => by cases e; exact ⟨_, HK6.out, rfl⟩)
        have HB7 := HB6.out.trans (belowK_b (w := w) (Nat.le_refl _) W6 D _ (.deferred none) (by omega) HK6.out rfl rfl)
        have e : clB t = false := by simp [clB, ← HG.out, ← HVS.out, ← HU.out, ← HUU.out, ← HG2.out]
        have e2 : clA t = zeroF := by simp [clA, e]
        refine ⟨.tuple #[.agg #[.int .i64 0, .string ⟨#[]⟩, .slice none 0 0, .string ⟨#[]⟩, .slice none 0 0], .bool false], by simp [results, Tryz.results8, go_sem, r0, r1, r2, r3, r4], .slice none 0 0, .slice none 0 0, by rw [e, e2]; rfl, ?_, HB7⟩
        rw [e2]
        exact ⟨fun _ => False, fun _ => False, .emp _ _ _, .emp _ _ _, fun _ h => h.elim, fun _ h => h.elim, fun _ h => h.elim⟩
      | true =>
        gi_wp2
        refine ⟨trivial, ?_⟩
        refine (callsIn_wide.2 C3.out).mono ?_
        rintro e w5 ⟨rfl, hb⟩
        have HB5 := Lib.hid (carry_below HB.out (Nat.le_refl _) hb)
        have HR5 := Lib.hid (HR.out.kept hb)
        have HK5 : Hid (w5.heap[D]? = some (.deferred (some []))) := Lib.hid ((hb.block D hDl).trans HK.out)
        have HO5 : Hid (FOwn w5 SS u (.slice qa u.atom.args.length qc) (.slice qp u.parts.length qd)) := Lib.hid (HO.out.frame fun q hq => hb.block q (HS.out q hq).2.1)
        have hz5 : W.heap.size ≤ w5.heap.size := hb.size
        have HX5 := Lib.hid (HX.out.kept hb)
        obtain ⟨x0, x1, x2, x3, x4, x5⟩ := HX5.out
        obtain ⟨r0, r1, r2, r3, r4, r5⟩ := HR5.out
        clear hb C3 o0 o1 o2 o3 o4 o5
        gi_wp2
        obtain ⟨W6, hW6⟩ : ∃ W6, W6 = (((((w5.setCell ⟨w.heap.size + 1, 0, none⟩ (.int .i64 u.op)).setCell ⟨w.heap.size + 1, 1, none⟩ (.string u.atom.name)).setCell ⟨w.heap.size + 1, 2, none⟩ (.slice qa u.atom.args.length qc)).setCell ⟨w.heap.size + 1, 3, none⟩ (.string u.var)).setCell ⟨w.heap.size + 1, 4, none⟩ (.slice qp u.parts.length qd)) := ⟨_, rfl⟩
        rw [← hW6]
        have hDr : D ≠ w.heap.size + 1 := by omega
        have HB6 : Hid (Below w.heap.size w W6) := Lib.hid (by rw [hW6]; exact ((((HB5.out.setCell (by simp) _).setCell (by simp) _).setCell (by simp) _).setCell (by simp) _).setCell (by simp) _)
        have HR6 : Hid (FivB W6 (w.heap.size + 1) (.int .i64 u.op) (.string u.atom.name) (.slice qa u.atom.args.length qc) (.string u.var) (.slice qp u.parts.length qd)) := Lib.hid (by rw [hW6]; exact ((((HR5.out.set0 _).set1 _).set2 _).set3 _).set4 _)
        have HK6 : Hid (W6.heap[D]? = some (.deferred (some []))) := Lib.hid (by rw [hW6, Below.heap_setCell _ _ _ _ (by simpa using hDr), Below.heap_setCell _ _ _ _ (by simpa using hDr), Below.heap_setCell _ _ _ _ (by simpa using hDr), Below.heap_setCell _ _ _ _ (by simpa using hDr), Below.heap_setCell _ _ _ _ (by simpa using hDr)]; exact HK5.out)
        have hn : ¬ SS (w.heap.size + 1) := fun h => by have := (HS.out _ h).1; omega
        have HO6 : Hid (FOwn W6 SS u (.slice qa u.atom.args.length qc) (.slice qp u.parts.length qd)) := Lib.hid (by rw [hW6]; exact ((((HO5.out.setCell hn _).setCell hn _).setCell hn _).setCell hn _).setCell hn _)
        have hz6 : W6.heap.size = w5.heap.size := by rw [hW6]; simp only [size_setCell]
        clear hW6 r0 r1 r2 r3 r4 r5
        refine ⟨by simp, .inl ⟨_, _, rfl, run_takeDeferred HK6.out, ?_⟩⟩
        obtain ⟨r0, r1, r2, r3, r4, r5⟩ := HR6.out.turn (grownBy_putObj' W6 D (.deferred none)) (fun r e => by cases e; exact ⟨_, HK6.out, rfl⟩)
        have HB7 := HB6.out.trans (belowK_b (w := w) (Nat.le_refl _) W6 D _ (.deferred none) (by omega) HK6.out rfl rfl)
        have e : clB t = true := by simp [clB, ← HG.out, ← HVS.out, ← HU.out, ← HUU.out, ← HG2.out]
        have e2 : clA t = u := by simp [clA, e, ← HVS.out, ← HU.out, ← HUU.out]
        refine ⟨.tuple #[.agg #[.int .i64 u.op, .string u.atom.name, .slice qa u.atom.args.length qc, .string u.var, .slice qp u.parts.length qd], .bool true], by simp [results, Tryz.results8, go_sem, r0, r1, r2, r3, r4], _, _, by rw [e, e2], ?_, HB7⟩
        rw [e2]
        refine (HO6.out.frame fun q hq => World.putObj_heap_other (fun e => HDS.out q hq (by first | exact e | exact e.symm))).mono fun q hq => ⟨by have := (HS.out q hq).1; omega, ?_⟩
        have := (HS.out q hq).2.1
        have h7 := (grownBy_putObj' W6 D (.deferred none)).size
        omega
    case stop =>
      rintro D c pre W _ _ h _
      exact h.elim

theorem implClose_any (t : Fm) (w : World) (va vp : Value) (hv : FmV w va vp t) (hw : t.wt ≤ 1048576) :
    Calls Tryz.prog 8 #[.agg #[.int .i64 t.op, .string t.atom.name, va, .string t.var, vp]] w (ClEnd t w) := callsIn_wide.1 (implClose_in t w va vp hv hw)

end Go.Proofs.YtdpeanpmjhpblaaGreat
