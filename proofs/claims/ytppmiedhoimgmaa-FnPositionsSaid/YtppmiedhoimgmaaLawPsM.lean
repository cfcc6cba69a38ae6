/- A term has as many positions as nodes, each of them denotes a subterm, and replacing a subterm by itself changes nothing, at every input that the code draws: no condition. -/
import Derived.Test.YtppmiedhoimgmaaPsM
import Derived.Test.YtppmiedhoimgmaaDrwG
import Derived.Test.YtppmiedhoimgmaaVtm
import Derived.Test.YtppmiedhoimgmaaSink
import Derived.Test.YtppmiedhoimgmaaImplV2
import Derived.Test.YtppmiedhoimgmaaSpecV
import Derived.Deep.Cut
import Derived.Deep.CutRange
import Derived.Deep.RegionWith
import Derived.OpenShut
import Derived.ShutString
import Derived.WalkKit
import Derived.ProofKit
import Derived.ChangeOld
import Derived.Below
namespace Go.Proofs.Ytppmiedhoimgmaa.fnPositions
open Go.ChangeShapes Go.WideShapes Go.ChangeAt Go.RowKit
open Go.ChangeMaps (open_string shut_string)
set_option linter.unusedVariables false
set_option linter.unusedSimpArgs false

theorem own : ownKnob Try.prog.godebug = none := by kernel_rfl
theorem laidOut : laidOutB Try.prog = true := by kernel_rfl

/-- WHAT THE WALK IS TOLD OF A SLICE OF INTEGERS THAT CAME IN: it is nil; or it leads to a row of 'cap' cells, the numbers 'zs' (the first 'len' are its elements, the rest its spare room), each fitting its kind. -/
def IsRow (k : IntKind) (w : World) (a : Option Addr) (len cap : Nat) (zs : List Int) : Prop :=
  (a = none ∧ len = 0 ∧ cap = 0 ∧ zs = []) ∨
  ∃ x, a = some x ∧ len ≤ cap ∧ cap ≤ maxLen ∧ zs.length = cap ∧ (∀ i, i < zs.length → w.cell? (x.add i) = some (.int k (zs.getD i 0))) ∧ ∀ n ∈ zs, (Lit.int k n).wf = true

theorem codeV_of_row {w : World} {a : Option Addr} {len cap : Nat} {zs : List Int} (h : IsRow .u8 w a len cap zs) : CodeV w (.slice a len cap) len w.heap.size ∧ len ≤ 9223372036854775807 := by
  rcases h with ⟨rfl, rfl, rfl, rfl⟩ | ⟨x, rfl, hl, hm, hz, hcell, hwz⟩
  · exact ⟨.inl ⟨_, _, rfl, rfl⟩, by omega⟩
  · refine ⟨?_, by unfold maxLen at hm; omega⟩
    by_cases h0 : len = 0
    · exact .inl ⟨some x, cap, by rw [h0], h0⟩
    · obtain ⟨b, off, spot⟩ := x
      have hc := hcell 0 (by omega)
      have hspot : spot = none := by simpa [Addr.add] using World.cell?_spot hc
      subst hspot
      have hc0 : w.cell? ⟨b, off, none⟩ = some (.int .u8 (zs.getD 0 0)) := by simpa [Addr.add] using hc
      refine .inr ⟨b, off, cap, rfl, by omega, World.block_lt_of_cell? w _ hc0, fun i hi => ?_⟩
      have h1 := hcell i (by omega)
      have e : Addr.add ⟨b, off, none⟩ i = ⟨b, off + i, none⟩ := by
        simp only [Addr.add]; split <;> simp_all
      rw [e] at h1
      have hm2 : zs.getD i 0 ∈ zs := by rw [List.getD_eq_getElem?_getD, List.getElem?_eq_getElem (by omega)]; exact List.getElem_mem _
      have hw := hwz _ hm2
      obtain ⟨z, hz'⟩ : ∃ z, z = zs.getD i 0 := ⟨_, rfl⟩
      rw [← hz'] at hw h1
      simp [Lit.wf, IntKind.min, IntKind.max, IntKind.signed, IntKind.bits] at hw
      exact ⟨z, by omega, by omega, h1⟩

theorem codeV_up {w w' : World} {v : Value} {n B : Nat} (h : CodeV w v n B) (hb : Below B w w') (hB : B ≤ w'.heap.size) : CodeV w' v n w'.heap.size := by
  rcases h with h | ⟨g, off, c, hv, hp, hg, hc⟩
  · exact .inl h
  · exact .inr ⟨g, off, c, hv, hp, by omega, fun i hi => by
      obtain ⟨z, h0, h1, h2⟩ := hc i hi
      exact ⟨z, h0, h1, (hb.cell (p := ⟨g, off + i, none⟩) hg).trans h2⟩⟩


def Boxd (t : Tm) (p : Option Addr) (c : Nat) : Obj := .cells #[.string t.name, .slice p t.args.length c] 26

theorem IntsV.is_slice {w : World} {v : Value} {is : List Int} (h : IntsV w v is) : ∃ a c, v = .slice a is.length c := by
  obtain ⟨a, c, e, _⟩ := h
  exact ⟨a, c, e⟩

/-- A box with a term, behind a world. -/
def Got (s : Tm) (w : World) (z y : Value) (wx : World) : Prop := ∃ (sb : Nat) (ps : Option Addr) (cs : Nat), z = .pointer (some ⟨sb, 0, none⟩) ∧ y = .bool true ∧ Below w.heap.size w wx ∧ Two wx sb (.string s.name) (.slice ps s.args.length cs) ∧ TmS wx (.slice ps s.args.length cs) s.args
def GotE (s : Tm) (w : World) (e : Ending) (w' : World) : Prop := ∃ va, e = .returned (.tuple #[.agg #[.string s.name, va], .bool true]) ∧ TmO w' (Fresh w w') va s.args ∧ Below w.heap.size w w'
section
variable {P : Program} {ops : Array Oper} {Q : Exit → Act → World → Prop} {md : Region.Mode} {S : World → Prop} {n : Nat}
/-- Two operations may come up. -/
theorem pair_two {i j : Nat} {oi oj : Oper} {left : Nat} {seen : Array Bool} {act : Act} {wd : World} (hr : Region.ready md ops seen = [i, j]) (hi : ops[i]? = some oi) (hj : ops[j]? = some oj)
    (h1 : ∀ K' : Act → World → Prop, Shut (∀ act wd, (i ≠ n → S wd) → ((i ≠ n → S wd) → wpSink P md ops Q S n left (seen.setIfInBounds i true) act wd) → K' act wd) → if Region.wanted oi (yielded ops act.tmps) = true then Oper.wp P oi act wd K' Q else K' (act.put oi.dst undef) wd)
    (h2 : ∀ K' : Act → World → Prop, Shut (∀ act wd, (j ≠ n → S wd) → ((j ≠ n → S wd) → wpSink P md ops Q S n left (seen.setIfInBounds j true) act wd) → K' act wd) → if Region.wanted oj (yielded ops act.tmps) = true then Oper.wp P oj act wd K' Q else K' (act.put oj.dst undef) wd) :
    wpSink P md ops Q S n (left + 1) seen act wd := by
  refine ⟨fun hnil => (by rw [hr] at hnil; cases hnil), fun k hk => ?_⟩
  rw [hr] at hk
  rcases List.mem_cons.1 hk with e | hk
  · subst e; exact wpOp_step hi (fun K' hK => h1 K' (fun act wd hS hW => hK act wd ⟨hS, hW hS⟩))
  · obtain rfl : k = j := List.mem_singleton.1 hk
    exact wpOp_step hj (fun K' hK => h2 K' (fun act wd hS hW => hK act wd ⟨hS, hW hS⟩))
end

set_option maxRecDepth 100000 in
set_option maxHeartbeats 2000000 in
theorem walkC (v : Value) (n : Nat) (w : World) (h : CodeV w v n w.heap.size) (hn : n ≤ 9223372036854775807) :
    Calls Try.prog 3 #[v] w fun e w' => e = .returned (.bool true) ∧ Below w.heap.size w w' := by
  obtain ⟨a, cp, rfl⟩ := h.shape
  by_cases hbig : (65536 : Int) < (n : Int)
  · go_enter Try.func3, Try.ntmps3
    go_wp2_with (go_at_call 9; go_in)
    go_ret
    exact ⟨rfl, Below.refl _ _⟩
  · have HV := Lib.hid h
    clear h
    go_enter Try.func3, Try.ntmps3
    go_wp2_with (go_at_call 9; go_in)
    refine (drawPos_any _ _ n HV.out hn).mono ?_
    rintro e w1 ⟨t, va, rfl, ht, hwt, hb1⟩
    obtain ⟨p, c, rfl⟩ := ht.slice
    obtain ⟨tb, htb⟩ : ∃ tb, tb = w1.heap.size := ⟨_, rfl⟩
    obtain ⟨W2, hW2⟩ : ∃ W, W = w1.alloc (.cells #[.string t.name, .slice p t.args.length c] 26) := ⟨_, rfl⟩
    have HT2 : Hid (TmS W2 (.slice p t.args.length c) t.args) := Lib.hid (by rw [hW2]; exact ht.whole.read.alloc _)
    have TB2 : Hid (Two W2 tb (.string t.name) (.slice p t.args.length c)) := Lib.hid (by rw [hW2]; exact two_new _ _ _ _ _ htb)
    have HB2 : Hid (Below w.heap.size w W2) := Lib.hid (by rw [hW2]; exact hb1.alloc hb1.size _)
    have HZ2 : Hid (W2.heap.size = tb + 1) := Lib.hid (by rw [hW2, World.size_alloc, htb])
    have HTE := Lib.hid htb
    have hzw : w.heap.size ≤ tb := by have := hb1.size; omega
    have C3 := Lib.hid (implPos_any t W2 _ HT2.out (by omega))
    have t02 := TB2.out.1
    have t12 := TB2.out.2.1
    rw [hW2] at t02 t12
    have htl : tb < (w1.alloc (.cells #[.string t.name, .slice p t.args.length c] 26)).heap.size := World.block_lt_of_cell? _ ⟨tb, 0, none⟩ t02
    rw [HTE.out] at t02 t12
    clear ht hb1 htb htl
    go_wp2_with fail
    rw [← hW2]
    try rw [← HTE.out]
    clear hW2 HTE t02 t12
    refine C3.out.mono ?_
    rintro e w3 ⟨v3, rfl, hacc, hb⟩
    obtain ⟨a3, c3, rfl⟩ := hacc.val
    have HA3 := Lib.hid hacc
    have HB3 := Lib.hid (carry_below HB2.out (Nat.le_refl _) hb)
    have TB3 := Lib.hid (TB2.out.kept hb)
    have HT3 := Lib.hid (HT2.out.kept hb)
    clear hacc hb C3
    obtain ⟨t0, t1, t2⟩ := TB3.out
    have C4 := Lib.hid (implTermSize_any t w3 _ HT3.out (by omega))
    go_wp2_with fail
    refine C4.out.mono ?_
    rintro e w4 ⟨rfl, hb⟩
    have HA4 := Lib.hid (HA3.out.kept hb)
    have HB4 := Lib.hid (carry_below HB3.out (Nat.le_refl _) hb)
    have TB4 := Lib.hid (TB3.out.kept hb)
    have HT4 := Lib.hid (HT3.out.kept hb)
    have hz4 : w4.heap.size ≤ w4.heap.size := Nat.le_refl _
    clear hb C4 t0 t1 t2
    obtain ⟨t0, t1, t2⟩ := TB4.out
    obtain ⟨L, hL⟩ : ∃ L, L = posA t := ⟨_, rfl⟩
    have HLA : Hid (∀ k p, L[k]? = some p → anyB t = true ∧ p.length ≤ 30 ∧ ∃ s, subAt p t = some s ∧ withAt p t s = t) := Lib.hid (fun k p hk => posA_at (by rw [← hL]; exact hk))
    have HLS : Hid ((L.length : Int) = sizeA t) := Lib.hid (by rw [hL]; exact posA_len t)
    have hl30 : L.length ≤ 1048576 := by
      have h1 := HLS.out
      unfold sizeA at h1
      have h2 := t.sz_wt
      split at h1 <;> omega
    have HAC : Hid (Acc w4 W2.heap.size (.slice a3 L.length c3) L) := Lib.hid (by rw [hL]; exact HA4.out)
    rw [show (posA t).length = L.length by rw [hL]]
    have hany : anyB t = (goodB t || atomB t) := by rfl
    rw [← HLS.out, hany]
    clear hL hany HA3 HA4
    have C5 := Lib.hid (specTerm_any t w4 _ HT4.out (by omega))
    obtain ⟨g, hg⟩ : ∃ g, g = goodB t := ⟨_, rfl⟩
    obtain ⟨m, hm⟩ : ∃ m, m = atomB t := ⟨_, rfl⟩
    have HGM : Hid (anyB t = (g || m)) := Lib.hid (by rw [hg, hm]; rfl)
    rw [← hg, ← hm]
    rw [← hg] at C5
    have HM := Lib.hid hm
    clear hg hm
    have HL2 := Lib.hid hl30
    go_upto_region 6 with fail
    go_cut [45] from 27 to 46 (fun z wx => z = .bool false ∧ Below w4.heap.size w4 wx)
    case first =>
      cases g with
      | true =>
        go_wp2_with fail
        refine C5.out.mono ?_
        rintro e w5 ⟨rfl, hb⟩
        have HB5 := Lib.hid hb
        clear hb
        go_wp2
        go_meet
        exact ⟨rfl, HB5.out⟩
      | false =>
        go_wp2_with fail
        refine C5.out.mono ?_
        rintro e w5 ⟨rfl, hb⟩
        have HB5 := Lib.hid hb
        have HT5 := Lib.hid (HT4.out.kept hb)
        have TB5 := Lib.hid (TB4.out.kept hb)
        clear hb t0 t1 t2
        obtain ⟨t0, t1, t2⟩ := TB5.out
        have C6 := Lib.hid (specAtom_any t w5 _ HT5.out (by omega))
        rw [← HM.out] at C6
        go_wp2_with fail
        refine C6.out.mono ?_
        rintro e w6 ⟨rfl, hb⟩
        have HB6 := Lib.hid (carry_below HB5.out (Nat.le_refl _) hb)
        clear hb
        cases m with
        | true =>
          go_wp2
          go_meet
          exact ⟨rfl, HB6.out⟩
        | false =>
          go_wp2
          go_meet
          exact ⟨rfl, HB6.out⟩
    case rest =>
      obtain ⟨rfl, hbc⟩ := hcut
      have HBC := Lib.hid hbc
      have HTC := Lib.hid (HT4.out.kept hbc)
      have TBC := Lib.hid (TB4.out.kept hbc)
      have HAC2 := Lib.hid (HAC.out.kept hbc)
      have HB0 := Lib.hid (carry_below HB4.out (Nat.le_refl _) hbc)
      clear hbc t0 t1 t2 C5 HT4 TB4 HAC HB4
      go_wp2
      go_loopw [8] (fun i wr => ∃ k : Nat, k ≤ L.length ∧ i = .int .i64 k ∧ Below wc.heap.size wc wr) (fun i _ => L.length - (intOf i).toNat)
      case atStart => exact ⟨0, Nat.zero_le _, rfl, Below.refl _ _⟩
      case round =>
        obtain ⟨k, hk, rfl, hbel⟩ := hrel
        have HBE := Lib.hid hbel
        have HBW := Lib.hid (carry_below HB0.out (Nat.le_refl _) hbel)
        have HTR := Lib.hid (HTC.out.kept hbel)
        have TBR := Lib.hid (TBC.out.kept hbel)
        have HAR := Lib.hid (HAC2.out.kept hbel)
        clear hbel
        by_cases hlt : k < L.length
        · obtain ⟨q, hq⟩ : ∃ q, L[k]? = some q := ⟨_, List.getElem?_eq_getElem hlt⟩
          obtain ⟨hav, hq30, s, hs1, hs2⟩ := HLA.out k q hq
          obtain ⟨g5, cap5, u, e5, hcu, hcu2⟩ := HAR.out.get hq
          obtain ⟨rfl, rfl⟩ : a3 = some ⟨g5, 0, none⟩ ∧ c3 = cap5 := by simpa using e5
          clear e5
          obtain ⟨pu, cu, rfl, hpu⟩ := hcu2.1; clear hpu
          have HU := Lib.hid hcu2
          have hsA : subA t q = some s := by unfold subA; rw [if_pos hav]; exact hs1
          have hsw : s.wt ≤ t.wt := by have h := subR_wt t q; unfold subR at h; rw [hsA] at h; exact h
          have hql : q.length ≤ 1048576 := by omega
          have CG : Hid (∀ W : World, Below wr.heap.size wr W → Calls Try.prog 15 #[.agg #[.string t.name, .slice p t.args.length c], .slice pu q.length cu] W (GotE s W)) := Lib.hid (fun W hW => by
            have h := implSub_any t q W _ _ (HTR.out.kept hW) (HU.out.1.kept hW) (by omega) hql
            rw [hsA] at h
            exact h)
          obtain ⟨t0, t1, t2⟩ := TBR.out
          go_upto_region 11 with fail
          go_cut [9, 10] from 46 to 93 (fun z y wx => Got s wr z y wx)
          case first =>
            have HSX : Hid (∀ W, Below wr.heap.size wr W → (fun w' => w'.cell? ⟨tb, 0, none⟩ = some (.string t.name) ∧ w'.cell? ⟨tb, 1, none⟩ = some (.slice p t.args.length c) ∧ w'.cell? ⟨g5, k, none⟩ = some (.slice pu q.length cu)) W) := Lib.hid (fun W hW => ⟨carry_cell' hW t0, carry_cell' hW t1, carry_cell' hW hcu⟩)
            refine sink_start 11 (fun w' => w'.cell? ⟨tb, 0, none⟩ = some (.string t.name) ∧ w'.cell? ⟨tb, 1, none⟩ = some (.slice p t.args.length c) ∧ w'.cell? ⟨g5, k, none⟩ = some (.slice pu q.length cu)) (by kernel_rfl) (HSX.out _ (by repeat (first | with_reducible exact Below.refl _ _ | with_reducible refine Below.alloc ?_ (by first | omega | (simp; done) | (simp; omega)) _ | with_reducible refine Below.setCell ?_ (by first | omega | (simp; done) | (simp; omega)) _ | with_reducible refine Below.drew ?_))) (fun hHeld => ?_)
            refine sink_take 0 (v := ?_) rfl (by kernel_rfl) (by kernel_rfl) (by kernel_rfl) (by kernel_rfl) (by rfl) (fun _ _ _ h => h) (by assumption) ?_ ?_; rotate_left; (intro w hSw; (try dsimp only at hSw); go_simp; try (with_reducible rfl))
            try simp only [Act.put, List.getElem_toArray, List.getElem_cons_zero, List.getElem_cons_succ, List.setIfInBounds_toArray, List.set_cons_zero, List.set_cons_succ]
            refine sink_take 1 (v := ?_) rfl (by kernel_rfl) (by kernel_rfl) (by kernel_rfl) (by kernel_rfl) (by rfl) (fun _ _ _ h => h) (by assumption) ?_ ?_; rotate_left; (intro w hSw; (try dsimp only at hSw); go_simp; try (with_reducible rfl))
            try simp only [Act.put, List.getElem_toArray, List.getElem_cons_zero, List.getElem_cons_succ, List.setIfInBounds_toArray, List.set_cons_zero, List.set_cons_succ]
            refine sink_take 2 (v := ?_) rfl (by kernel_rfl) (by kernel_rfl) (by kernel_rfl) (by kernel_rfl) (by rfl) (fun _ _ _ h => h) (by assumption) ?_ ?_; rotate_left; (intro w hSw; (try dsimp only at hSw); go_simp; try (with_reducible rfl))
            try simp only [Act.put, List.getElem_toArray, List.getElem_cons_zero, List.getElem_cons_succ, List.setIfInBounds_toArray, List.set_cons_zero, List.set_cons_succ]
            refine sink_take 3 (v := ?_) rfl (by kernel_rfl) (by kernel_rfl) (by kernel_rfl) (by kernel_rfl) (by rfl) (fun _ _ _ h => h) (by assumption) ?_ ?_; rotate_left; (intro w hSw; (try dsimp only at hSw); go_simp; try (with_reducible rfl))
            try simp only [Act.put, List.getElem_toArray, List.getElem_cons_zero, List.getElem_cons_succ, List.setIfInBounds_toArray, List.set_cons_zero, List.set_cons_succ]
            refine sink_take 4 (v := ?_) rfl (by kernel_rfl) (by kernel_rfl) (by kernel_rfl) (by kernel_rfl) (by rfl) (fun _ _ _ h => h) (by assumption) ?_ ?_; rotate_left; (intro w hSw; (try dsimp only at hSw); go_simp; try (with_reducible rfl))
            try simp only [Act.put, List.getElem_toArray, List.getElem_cons_zero, List.getElem_cons_succ, List.setIfInBounds_toArray, List.set_cons_zero, List.set_cons_succ]
            refine pair_two (i := 5) (j := 9) (by kernel_rfl) rfl rfl (fun K hK => ?_) (fun K hK => ?_)
            · go_simp
              go_at_call 15; refine (CG.out _ (by repeat (first | with_reducible exact Below.refl _ _ | with_reducible refine Below.alloc ?_ (by first | omega | (simp; done) | (simp; omega)) _ | with_reducible refine Below.setCell ?_ (by first | omega | (simp; done) | (simp; omega)) _ | with_reducible refine Below.drew ?_))).mono ?_; rintro e w6 ⟨v6, rfl, ho, hb⟩; obtain ⟨ps, cs, rfl⟩ := ho.read.is_slice; have HO6 := Lib.hid ho; have hz6 := hb.size; have HB6 : Hid (Below wr.heap.size wr w6) := Lib.hid (carry_below (by repeat (first | with_reducible exact Below.refl _ _ | with_reducible refine Below.alloc ?_ (by first | omega | (simp; done) | (simp; omega)) _ | with_reducible refine Below.setCell ?_ (by first | omega | (simp; done) | (simp; omega)) _ | with_reducible refine Below.drew ?_)) (Nat.le_refl _) hb); have hz7 := HB6.out.size; clear ho hb
              refine hK.out _ _ (fun _ => HSX.out _ (by repeat (first | with_reducible exact HB6.out | with_reducible exact Below.refl _ _ | with_reducible refine Below.alloc ?_ (by first | omega | (simp; done) | (simp; omega)) _ | with_reducible refine Below.setCell ?_ (by first | omega | (simp; done) | (simp; omega)) _ | with_reducible refine Below.drew ?_))) (fun hHeld => ?_)
              have hHeld := hHeld (by decide)
              clear hK K
              try simp only [Act.put, List.getElem_toArray, List.getElem_cons_zero, List.getElem_cons_succ, List.setIfInBounds_toArray, List.set_cons_zero, List.set_cons_succ]
              refine sink_take 6 (v := ?_) rfl (by kernel_rfl) (by kernel_rfl) (by kernel_rfl) (by kernel_rfl) (by rfl) (fun _ _ _ h => h) (by assumption) ?_ ?_; rotate_left; (intro w hSw; (try dsimp only at hSw); go_simp; try (with_reducible rfl))
              try simp only [Act.put, List.getElem_toArray, List.getElem_cons_zero, List.getElem_cons_succ, List.setIfInBounds_toArray, List.set_cons_zero, List.set_cons_succ]
              refine sink_take 7 (v := ?_) rfl (by kernel_rfl) (by kernel_rfl) (by kernel_rfl) (by kernel_rfl) (by rfl) (fun _ _ _ h => h) (by assumption) ?_ ?_; rotate_left; (intro w hSw; (try dsimp only at hSw); go_simp; try (with_reducible rfl))
              try simp only [Act.put, List.getElem_toArray, List.getElem_cons_zero, List.getElem_cons_succ, List.setIfInBounds_toArray, List.set_cons_zero, List.set_cons_succ]
              refine sink_take 8 (v := ?_) rfl (by kernel_rfl) (by kernel_rfl) (by kernel_rfl) (by kernel_rfl) (by rfl) (fun _ _ _ h => h) (by assumption) ?_ ?_; rotate_left; (intro w hSw; (try dsimp only at hSw); go_simp; try (with_reducible rfl))
              try simp only [Act.put, List.getElem_toArray, List.getElem_cons_zero, List.getElem_cons_succ, List.setIfInBounds_toArray, List.set_cons_zero, List.set_cons_succ]
              refine sink_one (i := 9) (by kernel_rfl) rfl (fun K hK => ?_)
              go_simp
              refine hK.out _ _ (fun _ => HSX.out _ (by repeat (first | with_reducible exact HB6.out | with_reducible exact Below.refl _ _ | with_reducible refine Below.alloc ?_ (by first | omega | (simp; done) | (simp; omega)) _ | with_reducible refine Below.setCell ?_ (by first | omega | (simp; done) | (simp; omega)) _ | with_reducible refine Below.drew ?_))) (fun hHeld => ?_)
              have hHeld := hHeld (by decide)
              clear hK K
              try simp only [Act.put, List.getElem_toArray, List.getElem_cons_zero, List.getElem_cons_succ, List.setIfInBounds_toArray, List.set_cons_zero, List.set_cons_succ]
              refine sink_one (i := 10) (by kernel_rfl) rfl (fun K hK => ?_)
              go_simp
              refine hK.out _ _ (fun _ => HSX.out _ (by repeat (first | with_reducible exact HB6.out | with_reducible exact Below.refl _ _ | with_reducible refine Below.alloc ?_ (by first | omega | (simp; done) | (simp; omega)) _ | with_reducible refine Below.setCell ?_ (by first | omega | (simp; done) | (simp; omega)) _ | with_reducible refine Below.drew ?_))) (fun hHeld => ?_)
              have hHeld := hHeld (by decide)
              clear hK K
              try simp only [Act.put, List.getElem_toArray, List.getElem_cons_zero, List.getElem_cons_succ, List.setIfInBounds_toArray, List.set_cons_zero, List.set_cons_succ]
              refine sink_one (i := 11) (by kernel_rfl) rfl (fun K hK => ?_)
              go_simp
              refine hK.out _ _ (fun hne => absurd rfl hne) (fun hHeld => ?_)
              clear hK K
              try simp only [Act.put, List.getElem_toArray, List.getElem_cons_zero, List.getElem_cons_succ, List.setIfInBounds_toArray, List.set_cons_zero, List.set_cons_succ]
              refine sink_done (by kernel_rfl) ?_ _
              go_wp2_with fail
              go_meet
              exact ⟨w6.heap.size, ps, cs, rfl, rfl, by repeat (first | with_reducible exact HB6.out | with_reducible exact Below.refl _ _ | with_reducible refine Below.alloc ?_ (by first | omega | (simp; done) | (simp; omega)) _ | with_reducible refine Below.setCell ?_ (by first | omega | (simp; done) | (simp; omega)) _ | with_reducible refine Below.drew ?_), two_new w6 _ _ 26 _ rfl, HO6.out.read.alloc _⟩
            · go_simp
              refine hK.out _ _ (fun _ => HSX.out _ (by repeat (first | with_reducible exact HB6.out | with_reducible exact Below.refl _ _ | with_reducible refine Below.alloc ?_ (by first | omega | (simp; done) | (simp; omega)) _ | with_reducible refine Below.setCell ?_ (by first | omega | (simp; done) | (simp; omega)) _ | with_reducible refine Below.drew ?_))) (fun hHeld => ?_)
              have hHeld := hHeld (by decide)
              clear hK K
              try simp only [Act.put, List.getElem_toArray, List.getElem_cons_zero, List.getElem_cons_succ, List.setIfInBounds_toArray, List.set_cons_zero, List.set_cons_succ]
              refine sink_one (i := 5) (by kernel_rfl) rfl (fun K hK => ?_)
              go_simp
              go_at_call 15; refine (CG.out _ (by repeat (first | with_reducible exact Below.refl _ _ | with_reducible refine Below.alloc ?_ (by first | omega | (simp; done) | (simp; omega)) _ | with_reducible refine Below.setCell ?_ (by first | omega | (simp; done) | (simp; omega)) _ | with_reducible refine Below.drew ?_))).mono ?_; rintro e w6 ⟨v6, rfl, ho, hb⟩; have HN6 := Lib.hid ((two_new wr.drew (.string ⟨#[]⟩) (.slice none 0 0) 26 wr.heap.size rfl).kept hb); obtain ⟨o0, o1, o2⟩ := HN6.out; obtain ⟨ps, cs, rfl⟩ := ho.read.is_slice; have HO6 := Lib.hid ho; have hz6 := hb.size; have HB6 : Hid (Below wr.heap.size wr w6) := Lib.hid (carry_below (by repeat (first | with_reducible exact Below.refl _ _ | with_reducible refine Below.alloc ?_ (by first | omega | (simp; done) | (simp; omega)) _ | with_reducible refine Below.setCell ?_ (by first | omega | (simp; done) | (simp; omega)) _ | with_reducible refine Below.drew ?_)) (Nat.le_refl _) hb); have hz7 := HB6.out.size; clear ho hb
              refine hK.out _ _ (fun _ => HSX.out _ (by repeat (first | with_reducible exact HB6.out | with_reducible exact Below.refl _ _ | with_reducible refine Below.alloc ?_ (by first | omega | (simp; done) | (simp; omega)) _ | with_reducible refine Below.setCell ?_ (by first | omega | (simp; done) | (simp; omega)) _ | with_reducible refine Below.drew ?_))) (fun hHeld => ?_)
              have hHeld := hHeld (by decide)
              clear hK K
              try simp only [Act.put, List.getElem_toArray, List.getElem_cons_zero, List.getElem_cons_succ, List.setIfInBounds_toArray, List.set_cons_zero, List.set_cons_succ]
              refine sink_take 6 (v := ?_) rfl (by kernel_rfl) (by kernel_rfl) (by kernel_rfl) (by kernel_rfl) (by rfl) (fun _ _ _ h => h) (by assumption) ?_ ?_; rotate_left; (intro w hSw; (try dsimp only at hSw); go_simp; try (with_reducible rfl))
              try simp only [Act.put, List.getElem_toArray, List.getElem_cons_zero, List.getElem_cons_succ, List.setIfInBounds_toArray, List.set_cons_zero, List.set_cons_succ]
              refine sink_take 7 (v := ?_) rfl (by kernel_rfl) (by kernel_rfl) (by kernel_rfl) (by kernel_rfl) (by rfl) (fun _ _ _ h => h) (by assumption) ?_ ?_; rotate_left; (intro w hSw; (try dsimp only at hSw); go_simp; try (with_reducible rfl))
              try simp only [Act.put, List.getElem_toArray, List.getElem_cons_zero, List.getElem_cons_succ, List.setIfInBounds_toArray, List.set_cons_zero, List.set_cons_succ]
              refine sink_take 8 (v := ?_) rfl (by kernel_rfl) (by kernel_rfl) (by kernel_rfl) (by kernel_rfl) (by rfl) (fun _ _ _ h => h) (by assumption) ?_ ?_; rotate_left; (intro w hSw; (try dsimp only at hSw); go_simp; try (with_reducible rfl))
              try simp only [Act.put, List.getElem_toArray, List.getElem_cons_zero, List.getElem_cons_succ, List.setIfInBounds_toArray, List.set_cons_zero, List.set_cons_succ]
              refine sink_one (i := 10) (by kernel_rfl) rfl (fun K hK => ?_)
              go_simp
              refine hK.out _ _ (fun _ => HSX.out _ (by repeat (first | with_reducible exact HB6.out | with_reducible exact Below.refl _ _ | with_reducible refine Below.alloc ?_ (by first | omega | (simp; done) | (simp; omega)) _ | with_reducible refine Below.setCell ?_ (by first | omega | (simp; done) | (simp; omega)) _ | with_reducible refine Below.drew ?_))) (fun hHeld => ?_)
              have hHeld := hHeld (by decide)
              clear hK K
              try simp only [Act.put, List.getElem_toArray, List.getElem_cons_zero, List.getElem_cons_succ, List.setIfInBounds_toArray, List.set_cons_zero, List.set_cons_succ]
              refine sink_one (i := 11) (by kernel_rfl) rfl (fun K hK => ?_)
              go_simp
              refine hK.out _ _ (fun hne => absurd rfl hne) (fun hHeld => ?_)
              clear hK K
              try simp only [Act.put, List.getElem_toArray, List.getElem_cons_zero, List.getElem_cons_succ, List.setIfInBounds_toArray, List.set_cons_zero, List.set_cons_succ]
              refine sink_done (by kernel_rfl) ?_ _
              go_wp2_with fail
              go_meet
              have hno : ¬ Fresh (wr.drew.alloc (.cells #[.string ⟨#[]⟩, .slice none 0 0] 26)) w6 wr.heap.size := fun h => by have := h.1; simp at this; omega
              exact ⟨wr.heap.size, ps, cs, rfl, rfl, by repeat (first | with_reducible exact HB6.out | with_reducible exact Below.refl _ _ | with_reducible refine Below.alloc ?_ (by first | omega | (simp; done) | (simp; omega)) _ | with_reducible refine Below.setCell ?_ (by first | omega | (simp; done) | (simp; omega)) _ | with_reducible refine Below.drew ?_), (HN6.out.setNil _).setOne _, ((HO6.out.setCell (a := ⟨wr.heap.size, 0, none⟩) hno _).setCell (a := ⟨wr.heap.size, 1, none⟩) hno _).read⟩
          case rest =>
            obtain ⟨sb, ps, cs, rfl, rfl, hbG, h2G, htG⟩ := hcut
            obtain ⟨W0, hW0⟩ : ∃ x, x = wc := ⟨_, rfl⟩
            rw [← hW0] at hbG h2G htG ⊢
            clear hW0 t0 t1 t2 CG
            have HBG := Lib.hid hbG
            have SB0 := Lib.hid h2G
            have HS0 := Lib.hid htG
            have TB0 := Lib.hid (TBR.out.kept hbG)
            have HT0 := Lib.hid (HTR.out.kept hbG)
            have HU0 := Lib.hid (HU.out.kept hbG)
            have HBW0 := Lib.hid (carry_below HBW.out (Nat.le_refl _) hbG)
            have HBE0 := Lib.hid (carry_below HBE.out (Nat.le_refl _) hbG)
            have hcu0 := carry_cell hcu hbG
            clear hbG h2G htG hcu hcu2
            obtain ⟨s0, s1, s2⟩ := SB0.out
            have CV := Lib.hid (validTerm_any s W0 _ HS0.out (by omega))
            obtain ⟨gd, hgd⟩ : ∃ gd, gd = goodB s := ⟨_, rfl⟩
            rw [← hgd] at CV
            go_wp2_with fail
            refine CV.out.mono ?_
            rintro e w5 ⟨rfl, hb⟩
            have HB5 := Lib.hid hb
            clear CV
            cases gd with
            | false =>
              have HE := Lib.hid (carry_below HBE0.out (Nat.le_refl _) hb)
              clear hb s0 s1 s2 hgd
              go_wp2
              go_roundw
              case rel => exact ⟨k + 1, by omega, by first | rfl | (congr 1; omega) | simp, HE.out⟩
              case measure => first | (simp [intOf]; done) | (simp [intOf]; omega)
            | true =>
              have HGS : Hid (goodB s = true) := Lib.hid hgd.symm
              clear hgd
              have SB5 := Lib.hid (SB0.out.kept hb)
              have HS5 := Lib.hid (HS0.out.kept hb)
              have TB5 := Lib.hid (TB0.out.kept hb)
              have HT5 := Lib.hid (HT0.out.kept hb)
              have HU5 := Lib.hid (HU0.out.kept hb)
              have HBW5 := Lib.hid (carry_below HBW0.out (Nat.le_refl _) hb)
              have HBE5 := Lib.hid (carry_below HBE0.out (Nat.le_refl _) hb)
              have hcu5 := carry_cell hcu0 hb
              clear hb s0 s1 s2 HS0 SB0 TB0 HT0 HU0 HBW0 HBE0 hcu0
              have hrA : repA t q s = some t := by
                have h := repA_yes (t := t) (s := s) (p := q) hav HGS.out (by rw [hs1]; rfl) (by rw [hs2]; exact hav)
                rw [hs2] at h; exact h
              have CG : Hid (∀ W : World, Below w5.heap.size w5 W → Calls Try.prog 17 #[.agg #[.string t.name, .slice p t.args.length c], .slice pu q.length cu, .agg #[.string s.name, .slice ps s.args.length cs]] W (GotE t W)) := Lib.hid (fun W hW => by
                have h := implRep_any t s q W _ _ _ (HT5.out.kept hW) (HU5.out.kept hW) (HS5.out.kept hW) (by omega) (by omega) (by omega) hql
                rw [hrA] at h
                exact h)
              obtain ⟨t0, t1, t2⟩ := TB5.out
              obtain ⟨s0, s1, s2⟩ := SB5.out
              go_upto_region 15 with fail
              go_cut [11, 12] from 46 to 93 (fun z y wx => Got t w5 z y wx)
              case first =>
                have HSX : Hid (∀ W, Below w5.heap.size w5 W → (fun w' => w'.cell? ⟨tb, 0, none⟩ = some (.string t.name) ∧ w'.cell? ⟨tb, 1, none⟩ = some (.slice p t.args.length c) ∧ w'.cell? ⟨sb, 0, none⟩ = some (.string s.name) ∧ w'.cell? ⟨sb, 1, none⟩ = some (.slice ps s.args.length cs) ∧ w'.cell? ⟨g5, k, none⟩ = some (.slice pu q.length cu)) W) := Lib.hid (fun W hW => ⟨carry_cell' hW t0, carry_cell' hW t1, carry_cell' hW s0, carry_cell' hW s1, carry_cell' hW hcu5⟩)
                refine sink_start 12 (fun w' => w'.cell? ⟨tb, 0, none⟩ = some (.string t.name) ∧ w'.cell? ⟨tb, 1, none⟩ = some (.slice p t.args.length c) ∧ w'.cell? ⟨sb, 0, none⟩ = some (.string s.name) ∧ w'.cell? ⟨sb, 1, none⟩ = some (.slice ps s.args.length cs) ∧ w'.cell? ⟨g5, k, none⟩ = some (.slice pu q.length cu)) (by kernel_rfl) (HSX.out _ (by repeat (first | with_reducible exact Below.refl _ _ | with_reducible refine Below.alloc ?_ (by first | omega | (simp; done) | (simp; omega)) _ | with_reducible refine Below.setCell ?_ (by first | omega | (simp; done) | (simp; omega)) _ | with_reducible refine Below.drew ?_))) (fun hHeld => ?_)
                refine sink_take 0 (v := ?_) rfl (by kernel_rfl) (by kernel_rfl) (by kernel_rfl) (by kernel_rfl) (by rfl) (fun _ _ _ h => h) (by assumption) ?_ ?_; rotate_left; (intro w hSw; (try dsimp only at hSw); go_simp; try (with_reducible rfl))
                try simp only [Act.put, List.getElem_toArray, List.getElem_cons_zero, List.getElem_cons_succ, List.setIfInBounds_toArray, List.set_cons_zero, List.set_cons_succ]
                refine sink_take 1 (v := ?_) rfl (by kernel_rfl) (by kernel_rfl) (by kernel_rfl) (by kernel_rfl) (by rfl) (fun _ _ _ h => h) (by assumption) ?_ ?_; rotate_left; (intro w hSw; (try dsimp only at hSw); go_simp; try (with_reducible rfl))
                try simp only [Act.put, List.getElem_toArray, List.getElem_cons_zero, List.getElem_cons_succ, List.setIfInBounds_toArray, List.set_cons_zero, List.set_cons_succ]
                refine sink_take 2 (v := ?_) rfl (by kernel_rfl) (by kernel_rfl) (by kernel_rfl) (by kernel_rfl) (by rfl) (fun _ _ _ h => h) (by assumption) ?_ ?_; rotate_left; (intro w hSw; (try dsimp only at hSw); go_simp; try (with_reducible rfl))
                try simp only [Act.put, List.getElem_toArray, List.getElem_cons_zero, List.getElem_cons_succ, List.setIfInBounds_toArray, List.set_cons_zero, List.set_cons_succ]
                refine sink_take 3 (v := ?_) rfl (by kernel_rfl) (by kernel_rfl) (by kernel_rfl) (by kernel_rfl) (by rfl) (fun _ _ _ h => h) (by assumption) ?_ ?_; rotate_left; (intro w hSw; (try dsimp only at hSw); go_simp; try (with_reducible rfl))
                try simp only [Act.put, List.getElem_toArray, List.getElem_cons_zero, List.getElem_cons_succ, List.setIfInBounds_toArray, List.set_cons_zero, List.set_cons_succ]
                refine sink_take 4 (v := ?_) rfl (by kernel_rfl) (by kernel_rfl) (by kernel_rfl) (by kernel_rfl) (by rfl) (fun _ _ _ h => h) (by assumption) ?_ ?_; rotate_left; (intro w hSw; (try dsimp only at hSw); go_simp; try (with_reducible rfl))
                try simp only [Act.put, List.getElem_toArray, List.getElem_cons_zero, List.getElem_cons_succ, List.setIfInBounds_toArray, List.set_cons_zero, List.set_cons_succ]
                refine sink_take 5 (v := ?_) rfl (by kernel_rfl) (by kernel_rfl) (by kernel_rfl) (by kernel_rfl) (by rfl) (fun _ _ _ h => h) (by assumption) ?_ ?_; rotate_left; (intro w hSw; (try dsimp only at hSw); go_simp; try (with_reducible rfl))
                try simp only [Act.put, List.getElem_toArray, List.getElem_cons_zero, List.getElem_cons_succ, List.setIfInBounds_toArray, List.set_cons_zero, List.set_cons_succ]
                refine pair_two (i := 6) (j := 10) (by kernel_rfl) rfl rfl (fun K hK => ?_) (fun K hK => ?_)
                · go_simp
                  go_at_call 17; refine (CG.out _ (by repeat (first | with_reducible exact Below.refl _ _ | with_reducible refine Below.alloc ?_ (by first | omega | (simp; done) | (simp; omega)) _ | with_reducible refine Below.setCell ?_ (by first | omega | (simp; done) | (simp; omega)) _ | with_reducible refine Below.drew ?_))).mono ?_; rintro e w6 ⟨v6, rfl, ho, hb⟩; obtain ⟨ps, cs, rfl⟩ := ho.read.is_slice; have HO6 := Lib.hid ho; have hz6 := hb.size; have HB6 : Hid (Below w5.heap.size w5 w6) := Lib.hid (carry_below (by repeat (first | with_reducible exact Below.refl _ _ | with_reducible refine Below.alloc ?_ (by first | omega | (simp; done) | (simp; omega)) _ | with_reducible refine Below.setCell ?_ (by first | omega | (simp; done) | (simp; omega)) _ | with_reducible refine Below.drew ?_)) (Nat.le_refl _) hb); have hz7 := HB6.out.size; clear ho hb
                  refine hK.out _ _ (fun _ => HSX.out _ (by repeat (first | with_reducible exact HB6.out | with_reducible exact Below.refl _ _ | with_reducible refine Below.alloc ?_ (by first | omega | (simp; done) | (simp; omega)) _ | with_reducible refine Below.setCell ?_ (by first | omega | (simp; done) | (simp; omega)) _ | with_reducible refine Below.drew ?_))) (fun hHeld => ?_)
                  have hHeld := hHeld (by decide)
                  clear hK K
                  try simp only [Act.put, List.getElem_toArray, List.getElem_cons_zero, List.getElem_cons_succ, List.setIfInBounds_toArray, List.set_cons_zero, List.set_cons_succ]
                  refine sink_take 7 (v := ?_) rfl (by kernel_rfl) (by kernel_rfl) (by kernel_rfl) (by kernel_rfl) (by rfl) (fun _ _ _ h => h) (by assumption) ?_ ?_; rotate_left; (intro w hSw; (try dsimp only at hSw); go_simp; try (with_reducible rfl))
                  try simp only [Act.put, List.getElem_toArray, List.getElem_cons_zero, List.getElem_cons_succ, List.setIfInBounds_toArray, List.set_cons_zero, List.set_cons_succ]
                  refine sink_take 8 (v := ?_) rfl (by kernel_rfl) (by kernel_rfl) (by kernel_rfl) (by kernel_rfl) (by rfl) (fun _ _ _ h => h) (by assumption) ?_ ?_; rotate_left; (intro w hSw; (try dsimp only at hSw); go_simp; try (with_reducible rfl))
                  try simp only [Act.put, List.getElem_toArray, List.getElem_cons_zero, List.getElem_cons_succ, List.setIfInBounds_toArray, List.set_cons_zero, List.set_cons_succ]
                  refine sink_take 9 (v := ?_) rfl (by kernel_rfl) (by kernel_rfl) (by kernel_rfl) (by kernel_rfl) (by rfl) (fun _ _ _ h => h) (by assumption) ?_ ?_; rotate_left; (intro w hSw; (try dsimp only at hSw); go_simp; try (with_reducible rfl))
                  try simp only [Act.put, List.getElem_toArray, List.getElem_cons_zero, List.getElem_cons_succ, List.setIfInBounds_toArray, List.set_cons_zero, List.set_cons_succ]
                  refine sink_one (i := 10) (by kernel_rfl) rfl (fun K hK => ?_)
                  go_simp
                  refine hK.out _ _ (fun _ => HSX.out _ (by repeat (first | with_reducible exact HB6.out | with_reducible exact Below.refl _ _ | with_reducible refine Below.alloc ?_ (by first | omega | (simp; done) | (simp; omega)) _ | with_reducible refine Below.setCell ?_ (by first | omega | (simp; done) | (simp; omega)) _ | with_reducible refine Below.drew ?_))) (fun hHeld => ?_)
                  have hHeld := hHeld (by decide)
                  clear hK K
                  try simp only [Act.put, List.getElem_toArray, List.getElem_cons_zero, List.getElem_cons_succ, List.setIfInBounds_toArray, List.set_cons_zero, List.set_cons_succ]
                  refine sink_one (i := 11) (by kernel_rfl) rfl (fun K hK => ?_)
                  go_simp
                  refine hK.out _ _ (fun _ => HSX.out _ (by repeat (first | with_reducible exact HB6.out | with_reducible exact Below.refl _ _ | with_reducible refine Below.alloc ?_ (by first | omega | (simp; done) | (simp; omega)) _ | with_reducible refine Below.setCell ?_ (by first | omega | (simp; done) | (simp; omega)) _ | with_reducible refine Below.drew ?_))) (fun hHeld => ?_)
                  have hHeld := hHeld (by decide)
                  clear hK K
                  try simp only [Act.put, List.getElem_toArray, List.getElem_cons_zero, List.getElem_cons_succ, List.setIfInBounds_toArray, List.set_cons_zero, List.set_cons_succ]
                  refine sink_one (i := 12) (by kernel_rfl) rfl (fun K hK => ?_)
                  go_simp
                  refine hK.out _ _ (fun hne => absurd rfl hne) (fun hHeld => ?_)
                  clear hK K
                  try simp only [Act.put, List.getElem_toArray, List.getElem_cons_zero, List.getElem_cons_succ, List.setIfInBounds_toArray, List.set_cons_zero, List.set_cons_succ]
                  refine sink_done (by kernel_rfl) ?_ _
                  go_wp2_with fail
                  go_meet
                  exact ⟨w6.heap.size, ps, cs, rfl, rfl, by repeat (first | with_reducible exact HB6.out | with_reducible exact Below.refl _ _ | with_reducible refine Below.alloc ?_ (by first | omega | (simp; done) | (simp; omega)) _ | with_reducible refine Below.setCell ?_ (by first | omega | (simp; done) | (simp; omega)) _ | with_reducible refine Below.drew ?_), two_new w6 _ _ 26 _ rfl, HO6.out.read.alloc _⟩
                · go_simp
                  refine hK.out _ _ (fun _ => HSX.out _ (by repeat (first | with_reducible exact HB6.out | with_reducible exact Below.refl _ _ | with_reducible refine Below.alloc ?_ (by first | omega | (simp; done) | (simp; omega)) _ | with_reducible refine Below.setCell ?_ (by first | omega | (simp; done) | (simp; omega)) _ | with_reducible refine Below.drew ?_))) (fun hHeld => ?_)
                  have hHeld := hHeld (by decide)
                  clear hK K
                  try simp only [Act.put, List.getElem_toArray, List.getElem_cons_zero, List.getElem_cons_succ, List.setIfInBounds_toArray, List.set_cons_zero, List.set_cons_succ]
                  refine sink_one (i := 6) (by kernel_rfl) rfl (fun K hK => ?_)
                  go_simp
                  go_at_call 17; refine (CG.out _ (by repeat (first | with_reducible exact Below.refl _ _ | with_reducible refine Below.alloc ?_ (by first | omega | (simp; done) | (simp; omega)) _ | with_reducible refine Below.setCell ?_ (by first | omega | (simp; done) | (simp; omega)) _ | with_reducible refine Below.drew ?_))).mono ?_; rintro e w6 ⟨v6, rfl, ho, hb⟩; have HN6 := Lib.hid ((two_new w5.drew (.string ⟨#[]⟩) (.slice none 0 0) 26 w5.heap.size rfl).kept hb); obtain ⟨o0, o1, o2⟩ := HN6.out; obtain ⟨ps, cs, rfl⟩ := ho.read.is_slice; have HO6 := Lib.hid ho; have hz6 := hb.size; have HB6 : Hid (Below w5.heap.size w5 w6) := Lib.hid (carry_below (by repeat (first | with_reducible exact Below.refl _ _ | with_reducible refine Below.alloc ?_ (by first | omega | (simp; done) | (simp; omega)) _ | with_reducible refine Below.setCell ?_ (by first | omega | (simp; done) | (simp; omega)) _ | with_reducible refine Below.drew ?_)) (Nat.le_refl _) hb); have hz7 := HB6.out.size; clear ho hb
                  refine hK.out _ _ (fun _ => HSX.out _ (by repeat (first | with_reducible exact HB6.out | with_reducible exact Below.refl _ _ | with_reducible refine Below.alloc ?_ (by first | omega | (simp; done) | (simp; omega)) _ | with_reducible refine Below.setCell ?_ (by first | omega | (simp; done) | (simp; omega)) _ | with_reducible refine Below.drew ?_))) (fun hHeld => ?_)
                  have hHeld := hHeld (by decide)
                  clear hK K
                  try simp only [Act.put, List.getElem_toArray, List.getElem_cons_zero, List.getElem_cons_succ, List.setIfInBounds_toArray, List.set_cons_zero, List.set_cons_succ]
                  refine sink_take 7 (v := ?_) rfl (by kernel_rfl) (by kernel_rfl) (by kernel_rfl) (by kernel_rfl) (by rfl) (fun _ _ _ h => h) (by assumption) ?_ ?_; rotate_left; (intro w hSw; (try dsimp only at hSw); go_simp; try (with_reducible rfl))
                  try simp only [Act.put, List.getElem_toArray, List.getElem_cons_zero, List.getElem_cons_succ, List.setIfInBounds_toArray, List.set_cons_zero, List.set_cons_succ]
                  refine sink_take 8 (v := ?_) rfl (by kernel_rfl) (by kernel_rfl) (by kernel_rfl) (by kernel_rfl) (by rfl) (fun _ _ _ h => h) (by assumption) ?_ ?_; rotate_left; (intro w hSw; (try dsimp only at hSw); go_simp; try (with_reducible rfl))
                  try simp only [Act.put, List.getElem_toArray, List.getElem_cons_zero, List.getElem_cons_succ, List.setIfInBounds_toArray, List.set_cons_zero, List.set_cons_succ]
                  refine sink_take 9 (v := ?_) rfl (by kernel_rfl) (by kernel_rfl) (by kernel_rfl) (by kernel_rfl) (by rfl) (fun _ _ _ h => h) (by assumption) ?_ ?_; rotate_left; (intro w hSw; (try dsimp only at hSw); go_simp; try (with_reducible rfl))
                  try simp only [Act.put, List.getElem_toArray, List.getElem_cons_zero, List.getElem_cons_succ, List.setIfInBounds_toArray, List.set_cons_zero, List.set_cons_succ]
                  refine sink_one (i := 11) (by kernel_rfl) rfl (fun K hK => ?_)
                  go_simp
                  refine hK.out _ _ (fun _ => HSX.out _ (by repeat (first | with_reducible exact HB6.out | with_reducible exact Below.refl _ _ | with_reducible refine Below.alloc ?_ (by first | omega | (simp; done) | (simp; omega)) _ | with_reducible refine Below.setCell ?_ (by first | omega | (simp; done) | (simp; omega)) _ | with_reducible refine Below.drew ?_))) (fun hHeld => ?_)
                  have hHeld := hHeld (by decide)
                  clear hK K
                  try simp only [Act.put, List.getElem_toArray, List.getElem_cons_zero, List.getElem_cons_succ, List.setIfInBounds_toArray, List.set_cons_zero, List.set_cons_succ]
                  refine sink_one (i := 12) (by kernel_rfl) rfl (fun K hK => ?_)
                  go_simp
                  refine hK.out _ _ (fun hne => absurd rfl hne) (fun hHeld => ?_)
                  clear hK K
                  try simp only [Act.put, List.getElem_toArray, List.getElem_cons_zero, List.getElem_cons_succ, List.setIfInBounds_toArray, List.set_cons_zero, List.set_cons_succ]
                  refine sink_done (by kernel_rfl) ?_ _
                  go_wp2_with fail
                  go_meet
                  have hno : ¬ Fresh (w5.drew.alloc (.cells #[.string ⟨#[]⟩, .slice none 0 0] 26)) w6 w5.heap.size := fun h => by have := h.1; simp at this; omega
                  exact ⟨w5.heap.size, ps, cs, rfl, rfl, by repeat (first | with_reducible exact HB6.out | with_reducible exact Below.refl _ _ | with_reducible refine Below.alloc ?_ (by first | omega | (simp; done) | (simp; omega)) _ | with_reducible refine Below.setCell ?_ (by first | omega | (simp; done) | (simp; omega)) _ | with_reducible refine Below.drew ?_), (HN6.out.setNil _).setOne _, ((HO6.out.setCell (a := ⟨w5.heap.size, 0, none⟩) hno _).setCell (a := ⟨w5.heap.size, 1, none⟩) hno _).read⟩
              case rest =>
                obtain ⟨rb, pr, cr, rfl, rfl, hbG, h2G, htG⟩ := hcut
                obtain ⟨W1, hW1⟩ : ∃ x, x = wc := ⟨_, rfl⟩
                rw [← hW1] at hbG h2G htG ⊢
                clear hW1 t0 t1 t2 s0 s1 s2 CG
                have RB1 := Lib.hid h2G
                have HR1 := Lib.hid htG
                have TB1 := Lib.hid (TB5.out.kept hbG)
                have HT1 := Lib.hid (HT5.out.kept hbG)
                have HBW1 := Lib.hid (carry_below HBW5.out (Nat.le_refl _) hbG)
                have HBE1 := Lib.hid (carry_below HBE5.out (Nat.le_refl _) hbG)
                have hcu1 := carry_cell hcu5 hbG
                clear hbG h2G htG hcu5
                obtain ⟨t0, t1, t2⟩ := TB1.out
                obtain ⟨r0, r1, r2⟩ := RB1.out
                have hlm := Tm.lim_of_wt t 1048576 (by omega)
                have CX := Lib.hid (vTerms_any t t W1 _ _ HR1.out HT1.out hlm hlm)
                rw [eqT_self] at CX
                by_cases hq0 : q.length = 0
                · go_wp2_with fail
                  refine CX.out.mono ?_
                  rintro e w8 ⟨rfl, hb⟩
                  have HE := Lib.hid (carry_below HBE1.out (Nat.le_refl _) hb)
                  clear hb t0 t1 t2 r0 r1 r2
                  go_wp2
                  go_roundw
                  case rel => exact ⟨k + 1, by omega, by first | rfl | (congr 1; omega) | simp, HE.out⟩
                  case measure => first | (simp [intOf]; done) | (simp [intOf]; omega)
                · go_wp2_with fail
                  refine CX.out.mono ?_
                  rintro e w8 ⟨rfl, hb⟩
                  have HE := Lib.hid (carry_below HBE1.out (Nat.le_refl _) hb)
                  clear hb t0 t1 t2 r0 r1 r2
                  go_wp2
                  go_roundw
                  case rel => exact ⟨k + 1, by omega, by first | rfl | (congr 1; omega) | simp, HE.out⟩
                  case measure => first | (simp [intOf]; done) | (simp [intOf]; omega)
        · go_wp2
          go_ret
          exact ⟨rfl, HBW.out⟩
theorem walk (a0 : Option Addr) (len0 cap0 : Nat) (z0 : List Int) (w : World) (w0 : IsRow .u8 w a0 len0 cap0 z0) :
    Calls Try.prog 3 #[.slice a0 len0 cap0] w fun e w' => e = .returned (.bool true) ∧ Below w.heap.size w w' := by
  obtain ⟨h, hn⟩ := codeV_of_row w0
  exact walkC _ len0 w h hn

/-! ### THE ROW's STEP: WRITTEN OUT: LEAVE IT -/
set_option maxRecDepth 100000 in
theorem lifted (os : Os) (started : os.Started) (H : Type) (enc : TypeId × Value → H) :
    ReturnsInHanded {} Try.checked os 3 .any (Rows.fnPositionsSpec.pre6 enc Try.prog Try.f3 Rows.fnPositionsRow.domain false) (Rows.fnPositionsSpec.post enc Try.prog Try.f3 false true false false) := by
  refine returnsInHanded_of_change (C := Try.checked) own started (by kernel_rfl) Try.func3
    (ChangeSpec.witness6 (enc := enc) (C := Try.checked) false ⟨#[], #[.slice none 0 0], []⟩ 8 (by kernel_rfl) (by kernel_rfl) (by kernel_rfl) (by kernel_rfl)) ?_
  intro W base args ds gs before hval0 hW hcnd _
  have hval : ∀ (j : Nat) t v, Try.f3.params[j]? = some t → args[j]? = some v → Value.okWide Try.prog W .any base t v := hval0
  have hW' := hW
  obtain ⟨p, q, hA0, hV, rfl, hfz, hnd⟩ := hW
  have hA : DataW.TrodAll enc Try.prog W 0 (fun _ => true) true Try.f3.params.toList args.toList ds p := hA0
  rw [Try.params3] at hA hval
  obtain ⟨v0, vs0, d0, ds0, p0, q0, hargs, rfl, rfl, h0, r0⟩ := trodAll_cons hA
  obtain ⟨rfl, rfl, rfl⟩ := trodAll_nil r0
  obtain rfl : args = #[v0] := by cases args; simp_all
  obtain ⟨rfl, rfl⟩ := trodVars_none hV
  obtain ⟨a0, len0, cap0, rfl⟩ := okWide_slice Try.underlying22 (hval 0 22 v0 rfl rfl)
  have k0 := h0
  have lt0 : ∀ x ∈ p0, x.block < W.heap.size := by obtain ⟨m, hm⟩ := k0; exact DataW.trod_lt m _ _ _ hm
  obtain ⟨z0, w0⟩ : ∃ zs, IsRow .u8 W a0 len0 cap0 zs := by
    obtain ⟨fuel, hf⟩ := h0
    rcases open_ints Try.underlying22 Try.underlying5 (by kernel_rfl) hf with ⟨hcs, _⟩ | ⟨x, l, c, zs, hcs, _, hl, hm, hz, _, hcell, hwz⟩
    · simp [Value.cells] at hcs
      obtain ⟨rfl, rfl, rfl⟩ := hcs
      exact ⟨[], .inl ⟨rfl, rfl, rfl, rfl⟩⟩
    · simp [Value.cells] at hcs
      obtain ⟨rfl, rfl, rfl⟩ := hcs
      exact ⟨zs, .inr ⟨_, rfl, hl, hm, by simpa using hz, hcell, hwz⟩⟩
  clear hA0 hval0
  refine (walk a0 len0 cap0 z0 W w0).mono fun e W' ⟨he, bel⟩ => ?_
  subst he
  exact ⟨_, rfl, _, _, _, [], _, [], hW', trodAll_mk1 (shut_bool Try.underlying4 _), (trodAll_cons_mk (Below.trod laidOut (by kernel_rfl) (of_decide_eq_true (by kernel_rfl)) k0 bel lt0) trodAll_mk0), rfl, bel.frame _, fun h => by cases h⟩

theorem over : Rows.fnPositionsRow.holds Try.pinned (OpenSpec.ofChange Rows.fnPositionsSpec) :=
  OpenClaim.holds_of_wide 3 Try.f3 rfl rfl rfl rfl rfl rfl rfl ⟨rfl, rfl, rfl, rfl, rfl⟩ rfl rfl rfl rfl rfl (by kernel_rfl) Try.func3 (by kernel_rfl)
    (of_decide_eq_true (by kernel_rfl)) (by unfold Func.isWrapper; first | (rw [if_pos (by decide +kernel)]; kernel_rfl) | (rw [if_neg (by decide +kernel)]; exact ⟨rfl, rfl⟩))
    (fun os started H enc _ => lifted os started H enc)

/-- ████ THE STATEMENT ████ -/
theorem proved : Rows.FnPositionsSaid := over
end Go.Proofs.Ytppmiedhoimgmaa.fnPositions
