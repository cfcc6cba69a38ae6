/- Several texts in one: each says what it proves. No condition but theirs. -/
import Derived.Test.YtohalpafmcobpaaGreatInts
import Derived.Test.YtohalpafmcobpaaGreatOlG
/- MaximalLiterals, the model's: a contract, for orderings and clauses of at most 1048576 names' bytes, literals and elements. -/
namespace Go.Proofs.YtohalpafmcobpaaGreat
open Go.RowKit
set_option linter.unusedVariables false
set_option linter.unusedSimpArgs false

/-- No literal is greater. -/
def Od.topB (o : Od) (l : List Lt) (d : Lt) : Bool := l.all fun x => decide (o.mulC x.msS d.msS ≠ 2)
def Od.mxK (o : Od) (l : List Lt) : Nat → List Int
  | 0 => []
  | k + 1 => Od.mxK o l k ++ (match l[k]? with | some d => if o.topB l d then [(k : Int)] else [] | none => [])
theorem mxK_next {o : Od} {l : List Lt} {k : Nat} {d : Lt} (h : l[k]? = some d) : o.mxK l (k + 1) = o.mxK l k ++ (if o.topB l d then [(k : Int)] else []) := by rw [Od.mxK, h]
theorem mxK_len (o : Od) (l : List Lt) : ∀ k, (o.mxK l k).length ≤ k
  | 0 => Nat.le_refl _
  | k + 1 => by
    have := mxK_len o l k
    rw [Od.mxK, List.length_append]
    cases l[k]? with
    | none => simp; omega
    | some d => simp only; split <;> simp <;> omega
def Od.mxOk (o : Od) (l : List Lt) : Bool := decide (l.length ≤ 8) && (o.good && l.all o.litOk)
def Od.mxR (o : Od) (l : List Lt) : List Int := if o.mxOk l then o.mxK l l.length else []
theorem mxR_no {o : Od} {l : List Lt} (h : o.mxOk l = false) : o.mxR l = [] := by unfold Od.mxR; rw [h]; rfl
theorem mxR_yes {o : Od} {l : List Lt} (h : o.mxOk l = true) : o.mxR l = o.mxK l l.length := by unfold Od.mxR; rw [h]; rfl
theorem mxR_len (o : Od) (l : List Lt) : (o.mxR l).length ≤ 8 := by
  cases h : o.mxOk l with
  | false => rw [mxR_no h]; exact Nat.zero_le _
  | true =>
    rw [mxR_yes h]
    unfold Od.mxOk at h
    simp only [Bool.and_eq_true, decide_eq_true_eq] at h
    exact Nat.le_trans (mxK_len o l _) h.1
theorem mxOk_g {o : Od} {l : List Lt} (h : o.good = false) : o.mxOk l = false := by unfold Od.mxOk; rw [h]; simp
theorem mxOk_l {o : Od} {l : List Lt} (h : ¬ l.length ≤ 8) : o.mxOk l = false := by unfold Od.mxOk; rw [decide_eq_false h]; rfl
theorem mxOk_d {o : Od} {l : List Lt} {d : Lt} (hd : d ∈ l) (h : o.litOk d = false) : o.mxOk l = false := by
  unfold Od.mxOk; rw [List.all_eq_false.2 ⟨d, hd, by rw [h]; decide⟩]; simp
theorem mxOk_y {o : Od} {l : List Lt} (h : l.length ≤ 8) (hg : o.good = true) (hd : ∀ (j : Nat) d, l[j]? = some d → o.litOk d = true) : o.mxOk l = true := by
  unfold Od.mxOk
  rw [decide_eq_true h, hg, List.all_eq_true.2 (fun x hx => by obtain ⟨j, hj⟩ := List.getElem?_of_mem hx; exact hd j x hj)]; rfl
theorem ret_sl2 {v : Value} {a b : Bool} (h : a = b) : Ending.returned (.tuple #[v, .bool a]) = .returned (.tuple #[v, .bool b]) := by rw [h]

def intV (r : List Int) : List Value := r.map (Value.int .i64)
theorem intsO_of {w w' : World} {v : Value} {r : List Int} (h : w'.ownsRow w.heap.size 3 1 v r.length (intV r)) : IntsO w' (Fresh w w') v r := by
  rcases h.2 with ⟨rfl, h0⟩ | ⟨g, cap, cur, rfl, hbg, hg, hnc, _⟩
  · exact .inl ⟨none, 0, rfl, List.length_eq_zero_iff.1 h0⟩
  · by_cases h0 : r.length = 0
    · rw [List.length_eq_zero_iff.1 h0]; exact .inl ⟨_, cap, rfl, rfl⟩
    · refine .inr ⟨g, cap, rfl, by omega, hnc, ⟨hbg, (h.lt g rfl).2⟩, fun j => h.frozenAt j, fun k x hk => ?_⟩
      have hkl := (List.getElem?_eq_some_iff.1 hk).1
      rw [h.cellAt k (by omega)]
      unfold intV; rw [List.getElem?_map, hk]; rfl
theorem RowT.is_sl {w0 w : World} {b : Nat} {v : Value} {L : List (Tm × Value)} (h : RowT w0 b w v L) : ∃ p c, v = .slice p L.length c := by
  rcases h.row.2 with ⟨rfl, h0⟩ | ⟨g, cap, cur, rfl, _⟩
  · exact ⟨none, 0, by rw [h0]⟩
  · exact ⟨_, _, rfl⟩
theorem infoLst : (Tryz.prog.info? 37).map (fun i => (i.zero, i.size, i.bytes)) = some (some (.slice none 0 0), 1, 24) := by kernel_rfl
def MaxEnd (r : List Int) (ok : Bool) (w : World) (e : Ending) (w' : World) : Prop := ∃ v, e = .returned (.tuple #[v, .bool ok]) ∧ IntsO w' (Fresh w w') v r ∧ Below w.heap.size w w'

/-- The multisets in a row of the call's own. -/
def SetsR (l : List Lt) (w0 : World) (B : Nat) (k : Nat) (nm : Value) (wr : World) : Prop :=
  ∃ vs : List Value, wr.ownsRow B 37 1 nm k vs ∧ (∀ (j : Nat) d, j < k → l[j]? = some d → ∃ x L, vs[j]? = some x ∧ RowT w0 B wr x L ∧ tmsE L = d.msS)

set_option maxRecDepth 100000 in
set_option maxHeartbeats 8000000 in
theorem specMax_any (o : Od) (ho : o.wt ≤ 1048576) (l : List Lt) (w : World) (sv wv va : Value) (hv : OdV w sv wv o) (ht : LtS w va l) (hw : wtC l ≤ 1048576) :
    Calls Tryz.prog 16 #[.agg #[sv, wv, .int .i64 o.va], .agg #[va]] w (MaxEnd (o.mxR l) (o.mxOk l) w) := by
  obtain ⟨sa, sc, wa, wc, rfl, rfl⟩ := hv.open
  obtain ⟨pa, ca, rfl⟩ := ht.is_slice
  obtain ⟨i1, gi, gz0, gz1, gz2⟩ := info_parts infoInt
  obtain ⟨i2, ki, kz0, kz1, kz2⟩ := info_parts infoLst
  have hl6 : l.length ≤ 1048576 := Nat.le_trans (wtC_len l) hw
  obtain ⟨w1, hw1⟩ : ∃ w1, (w.alloc (.cells #[.slice sa o.sy.length sc, .slice wa o.ws.length wc, .int .i64 o.va] 35)).alloc (.cells #[.slice pa l.length ca] 54) = w1 := ⟨_, rfl⟩
  have HB : Hid (Below w.heap.size w w1) := Lib.hid (by rw [← hw1]; exact ((Below.refl w.heap.size w).alloc (Nat.le_refl _) _).alloc (by simp) _)
  have H3 : Hid (OdB w1 w.heap.size (.slice sa o.sy.length sc) (.slice wa o.ws.length wc) o) := Lib.hid (by rw [← hw1]; exact (thr_new w _ _ _ _ _ rfl).alloc _)
  have H1 : Hid (Oner w1 (w.heap.size + 1) (.slice pa l.length ca)) := Lib.hid (by rw [← hw1]; exact oner_new _ _ _ (w.heap.size + 1) (by simp))
  have HV := Lib.hid hv
  have HT := Lib.hid ht
  have HW := Lib.hid hw
  have CG := Lib.hid (fun W (hW : Below w.heap.size w W) => l6Good_any o W _ _ (hv.kept hW) ho)
  clear hv ht hw
  obtain ⟨b0, b1, b2, b3⟩ := H3.out
  obtain ⟨l0, l1⟩ := H1.out
  go_enter Tryz.func16, Tryz.ntmps16

  go_wp2_with fail
  refine (CG.out _ HB.out).mono ?_
  rintro e w2 ⟨rfl, hb⟩
  replace HB := Lib.hid (carry_below HB.out (Nat.le_refl _) hb)
  replace H3 := Lib.hid (H3.out.kept hb)
  replace H1 := Lib.hid (H1.out.kept hb)
  clear hb b0 b1 b2 b3 l0 l1 hw1 CG
  obtain ⟨b0, b1, b2, b3⟩ := H3.out
  obtain ⟨l0, l1⟩ := H1.out
  cases hg : o.good with
  | false =>
    have HO := mxOk_g (l := l) hg
    have HE : Hid (MaxEnd (o.mxR l) (o.mxOk l) w (.returned (.tuple #[.slice (some ⟨w2.heap.size, 0, none⟩) 0 0, .bool false])) (w2.alloc (.cells #[] 3))) := Lib.hid ⟨_, ret_sl2 HO.symm, by rw [mxR_no HO]; exact .inl ⟨_, _, rfl, rfl⟩, HB.out.alloc HB.out.size _⟩
    clear hg HO
    go_wp2
    go_ret2
    exact HE.out
  | true =>
    have HG := Lib.hid hg
    clear hg
    by_cases hl8 : l.length ≤ 8
    · have hl9 : ¬ (8 : Int) < (l.length : Int) := by omega
      have hl9t : decide ((8 : Int) < (l.length : Int)) = false := by simp; omega
      obtain ⟨w3, hw3⟩ : ∃ w3, w2.alloc (.cells #[] 37) = w3 := ⟨_, rfl⟩
      have HR : Hid (SetsR l w2 w2.heap.size 0 (.slice (some ⟨w2.heap.size, 0, none⟩) 0 0) w3 ∧ Below w2.heap.size w2 w3) := Lib.hid (by rw [← hw3]; exact ⟨⟨[], World.ownsRow_made w2 #[] 0 (Nat.le_refl _) (by decide) (by simp), fun j d hj => absurd hj (Nat.not_lt_zero _)⟩, (Below.refl _ _).alloc (Nat.le_refl _) _⟩)
      go_wp2
      try rw [hw3]
      clear hw3 b0 b1 b2 b3 l0 l1
      go_loopw [6, 7] (fun sv i wr => ∃ (k : Nat) (nm : Value), k ≤ l.length ∧ i = .int .i64 k ∧ nm = sv ∧ SetsR l w2 w2.heap.size k nm wr ∧ (∀ (j : Nat) d, j < k → l[j]? = some d → o.litOk d = true) ∧ Below w2.heap.size w2 wr) (fun _ i _ => l.length - (intOf i).toNat)
      case atStart => exact ⟨0, _, Nat.zero_le _, rfl, rfl, HR.out.1, fun j d hj => absurd hj (Nat.not_lt_zero _), HR.out.2⟩
      case round =>
        obtain ⟨k, nm, hk, rfl, rfl, ⟨vs, hrow, hvs⟩, hq, hb2⟩ := hrel
        have HROW := Lib.hid hrow
        have HVS := Lib.hid hvs
        have HQ := Lib.hid hq
        have HB2 := Lib.hid hb2
        obtain ⟨vp, vc, rfl⟩ : ∃ p c, nm = .slice p k c := by
          rcases hrow.2 with ⟨rfl, h0⟩ | ⟨g, cap, cur, rfl, _⟩
          · exact ⟨none, 0, by rw [h0]⟩
          · exact ⟨_, _, rfl⟩
        clear hrow hvs hq hb2
        obtain ⟨b0, b1, b2, b3⟩ := H3.out.kept HB2.out
        obtain ⟨l0, l1⟩ := H1.out.kept HB2.out
        by_cases hlt : k < l.length
        · obtain ⟨d, hd⟩ : ∃ d, l[k]? = some d := ⟨_, List.getElem?_eq_getElem hlt⟩
          obtain ⟨b, off, rfl, vt, c0, c1, c2, hvt⟩ := HT.out.get hd
          obtain ⟨pt, ct, rfl⟩ := hvt.is_slice
          have HBR := Lib.hid (HB.out.trans (HB2.out.mono HB.out.size))
          replace c0 := carry_cell c0 HBR.out
          replace c1 := carry_cell c1 HBR.out
          replace c2 := carry_cell c2 HBR.out
          have HD := Lib.hid hd
          have hwd : d.tm.wt ≤ 1048576 := Nat.le_trans (wtC_tm (mem_of_at hd)) HW.out
          have CL : Hid (∀ W, Below wr.heap.size wr W → Calls Tryz.prog 38 #[.agg #[.slice sa o.sy.length sc, .slice wa o.ws.length wc, .int .i64 o.va], .agg #[.bool d.var, .string d.tm.name, .slice pt d.tm.args.length ct]] W (LitEnd o d w2 W)) := Lib.hid (fun W hW => l6Lit_any o ho d w2 W (HB2.out.trans (hW.mono HB2.out.size)) _ _ _ ((HV.out.kept HBR.out).kept hW) (hvt.kept HB.out) hwd)
          clear hd hvt
          go_wp2_with fail
          have hB0 : Below wr.heap.size wr wr.drew := (Below.refl _ _).drew
          refine wp_region_held_drew (S := (fun w' => w'.cell? ⟨w.heap.size, 0, none⟩ = some (.slice sa o.sy.length sc) ∧ w'.cell? ⟨w.heap.size, 1, none⟩ = some (.slice wa o.ws.length wc) ∧ w'.cell? ⟨w.heap.size, 2, none⟩ = some (.int .i64 o.va) ∧ w'.cell? ⟨w.heap.size + 1, 0, none⟩ = some (.slice (some ⟨b, off, none⟩) l.length ca) ∧ w'.cell? ⟨b, off + k * 3, none⟩ = some (.bool d.var) ∧ w'.cell? ⟨b, off + k * 3 + 1, none⟩ = some (.string d.tm.name) ∧ w'.cell? ⟨b, off + k * 3 + 2, none⟩ = some (.slice pt d.tm.args.length ct) ∧ Below wr.heap.size wr w')) (by kernel_rfl) (by first | exact ⟨by assumption, by assumption, by assumption, by assumption, by assumption, by assumption, by assumption, by assumption⟩ | go_keep) (fun hHeld => ?_)
          refine takeYesE 0 (v := ?_) rfl (by kernel_rfl) (by kernel_rfl) (by kernel_rfl) (by rfl) (fun _ _ _ h => h) (by assumption) ?_ ?_; rotate_left; (intro w hSw; (try dsimp only at hSw); go_simp; try (with_reducible rfl))
          try simp only [Act.put, List.getElem_toArray, List.getElem_cons_zero, List.setIfInBounds_toArray, List.set_cons_zero, List.set_cons_succ]
          refine takeYesE 1 (v := ?_) rfl (by kernel_rfl) (by kernel_rfl) (by kernel_rfl) (by rfl) (fun _ _ _ h => h) (by assumption) ?_ ?_; rotate_left; (intro w hSw; (try dsimp only at hSw); go_simp; try (with_reducible rfl))
          try simp only [Act.put, List.getElem_toArray, List.getElem_cons_zero, List.getElem_cons_succ, List.setIfInBounds_toArray, List.set_cons_zero, List.set_cons_succ]
          refine takeYesE 2 (v := ?_) rfl (by kernel_rfl) (by kernel_rfl) (by kernel_rfl) (by rfl) (fun _ _ _ h => h) (by assumption) ?_ ?_; rotate_left; (intro w hSw; (try dsimp only at hSw); go_simp; try (with_reducible rfl))
          try simp only [Act.put, List.getElem_toArray, List.getElem_cons_zero, List.getElem_cons_succ, List.setIfInBounds_toArray, List.set_cons_zero, List.set_cons_succ]
          refine takeYesE 3 (v := ?_) rfl (by kernel_rfl) (by kernel_rfl) (by kernel_rfl) (by rfl) (fun _ _ _ h => h) (by assumption) ?_ ?_; rotate_left; (intro w hSw; (try dsimp only at hSw); go_simp; try (with_reducible rfl))
          try simp only [Act.put, List.getElem_toArray, List.getElem_cons_zero, List.getElem_cons_succ, List.setIfInBounds_toArray, List.set_cons_zero, List.set_cons_succ]
          refine takeYesE 4 (v := ?_) rfl (by kernel_rfl) (by kernel_rfl) (by kernel_rfl) (by rfl) (fun _ _ _ h => h) (by assumption) ?_ ?_; rotate_left; (intro w hSw; (try dsimp only at hSw); go_simp; try (with_reducible rfl))
          try simp only [Act.put, List.getElem_toArray, List.getElem_cons_zero, List.getElem_cons_succ, List.setIfInBounds_toArray, List.set_cons_zero, List.set_cons_succ]
          refine takeYesE 5 (v := ?_) rfl (by kernel_rfl) (by kernel_rfl) (by kernel_rfl) (by rfl) (fun _ _ _ h => h) (by assumption) ?_ ?_; rotate_left; (intro w hSw; (try dsimp only at hSw); go_simp; try (with_reducible rfl))
          try simp only [Act.put, List.getElem_toArray, List.getElem_cons_zero, List.getElem_cons_succ, List.setIfInBounds_toArray, List.set_cons_zero, List.set_cons_succ]
          refine wpAnyH_ready (rs := [6]) (by kernel_rfl) (by simp) ?_
          refine AllReadyH.cons rfl (fun K hK => ?_) AllReadyH.nil
          go_simp
          (go_at_call 38; refine (CL.out _ (by assumption)).mono ?_; rintro e uA ⟨v1, L1, rfl, hr1, he1, hb⟩; have qz6_0 : uA.cell? ⟨w.heap.size, 0, none⟩ = some (.slice sa o.sy.length sc) := carry_cell' hb (by assumption); have qz6_1 : uA.cell? ⟨w.heap.size, 1, none⟩ = some (.slice wa o.ws.length wc) := carry_cell' hb (by assumption); have qz6_2 : uA.cell? ⟨w.heap.size, 2, none⟩ = some (.int .i64 o.va) := carry_cell' hb (by assumption); have qz6_3 : uA.cell? ⟨w.heap.size + 1, 0, none⟩ = some (.slice (some ⟨b, off, none⟩) l.length ca) := carry_cell' hb (by assumption); have qz6_4 : uA.cell? ⟨b, off + k * 3, none⟩ = some (.bool d.var) := carry_cell' hb (by assumption); have qz6_5 : uA.cell? ⟨b, off + k * 3 + 1, none⟩ = some (.string d.tm.name) := carry_cell' hb (by assumption); have qz6_6 : uA.cell? ⟨b, off + k * 3 + 2, none⟩ = some (.slice pt d.tm.args.length ct) := carry_cell' hb (by assumption); have huA : Below wr.heap.size wr uA := carry_below (by assumption) (Nat.le_refl _) hb; have HX1 := Lib.hid (hr1.low (b := w2.heap.size) HB2.out.size); have HE1 := Lib.hid he1; obtain ⟨px, cx, rfl⟩ := hr1.is_sl; clear hb hr1 he1; go_wp2_with fail)
          refine hK.out _ _ (by first | exact ⟨by assumption, by assumption, by assumption, by assumption, by assumption, by assumption, by assumption, by assumption⟩ | go_keep) (fun hHeld => ?_)
          clear hK K
          try simp only [Act.put, List.getElem_toArray, List.getElem_cons_zero, List.getElem_cons_succ, List.setIfInBounds_toArray, List.set_cons_zero, List.set_cons_succ]
          refine takeYesE 7 (v := ?_) rfl (by kernel_rfl) (by kernel_rfl) (by kernel_rfl) (by rfl) (fun _ _ _ h => h) (by assumption) ?_ ?_; rotate_left; (intro w hSw; (try dsimp only at hSw); go_simp; try (with_reducible rfl))
          try simp only [Act.put, List.getElem_toArray, List.getElem_cons_zero, List.getElem_cons_succ, List.setIfInBounds_toArray, List.set_cons_zero, List.set_cons_succ]
          refine takeYesE 8 (v := ?_) rfl (by kernel_rfl) (by kernel_rfl) (by kernel_rfl) (by rfl) (fun _ _ _ h => h) (by assumption) ?_ ?_; rotate_left; (intro w hSw; (try dsimp only at hSw); go_simp; try (with_reducible rfl))
          try simp only [Act.put, List.getElem_toArray, List.getElem_cons_zero, List.getElem_cons_succ, List.setIfInBounds_toArray, List.set_cons_zero, List.set_cons_succ]
          refine takeYesE 9 (v := ?_) rfl (by kernel_rfl) (by kernel_rfl) (by kernel_rfl) (by rfl) (fun _ _ _ h => h) (by assumption) ?_ ?_; rotate_left; (intro w hSw; (try dsimp only at hSw); go_simp; try (with_reducible rfl))
          try simp only [Act.put, List.getElem_toArray, List.getElem_cons_zero, List.getElem_cons_succ, List.setIfInBounds_toArray, List.set_cons_zero, List.set_cons_succ]
          refine takeYesE 10 (v := ?_) rfl (by kernel_rfl) (by kernel_rfl) (by kernel_rfl) (by rfl) (fun _ _ _ h => h) (by assumption) ?_ ?_; rotate_left; (intro w hSw; (try dsimp only at hSw); go_simp; try (with_reducible rfl))
          try simp only [Act.put, List.getElem_toArray, List.getElem_cons_zero, List.getElem_cons_succ, List.setIfInBounds_toArray, List.set_cons_zero, List.set_cons_succ]
          refine takeYesE 11 (v := ?_) rfl (by kernel_rfl) (by kernel_rfl) (by kernel_rfl) (by rfl) (fun _ _ _ h => h) (by assumption) ?_ ?_; rotate_left; (intro w hSw; (try dsimp only at hSw); go_simp; try (with_reducible rfl))
          try simp only [Act.put, List.getElem_toArray, List.getElem_cons_zero, List.getElem_cons_succ, List.setIfInBounds_toArray, List.set_cons_zero, List.set_cons_succ]
          refine wpAnyH_done (by kernel_rfl) ?_ _
          have HBA := Lib.hid (carry_below HB2.out (Nat.le_refl _) huA)
          have HRA := Lib.hid (own_kept HROW.out huA)
          have HVA : Hid (∀ (j : Nat) x, j < k → l[j]? = some x → ∃ y L, vs[j]? = some y ∧ RowT w2 w2.heap.size uA y L ∧ tmsE L = x.msS) := Lib.hid (fun j x hj hx => by obtain ⟨y, L, h1, h2, h3⟩ := HVS.out j x hj hx; exact ⟨y, L, h1, h2.kept huA, h3⟩)
          obtain ⟨ga, hga⟩ : ∃ ga, ga = o.litOk d := ⟨_, rfl⟩
          have HGA := Lib.hid hga
          rw [← hga] at HE1
          try rw [← hga]
          clear hga hB0 b0 b1 b2 b3 l0 l1 c0 c1 c2 huA HROW HVS CL
          cases ga with
          | false =>
            have HE : Hid (MaxEnd (o.mxR l) (o.mxOk l) w (.returned (.tuple #[.slice (some ⟨uA.heap.size, 0, none⟩) 0 0, .bool false])) (uA.alloc (.cells #[] 3))) := Lib.hid (by
              have HO := mxOk_d (mem_of_at HD.out) HGA.out.symm
              exact ⟨_, ret_sl2 HO.symm, by rw [mxR_no HO]; exact .inl ⟨_, _, rfl, rfl⟩, (HB.out.trans (HBA.out.mono HB.out.size)).alloc (Nat.le_trans HB.out.size HBA.out.size) _⟩)
            go_wp2
            go_ret2
            exact HE.out
          | true =>
            have HME := Lib.hid (HE1.out rfl)
            have hsz := HBA.out.size
            go_wp2_with (at_builtin; go_loud (refine wpList_append_lies _ rfl _ _ 91 rfl w2.heap.size 37 i2 (.slice none 0 0) 1 24 Tryz.underlying91 ki kz0 kz1 kz2 rfl (by omega) (.slice vp k vc) k vs rfl (HRA.out.alloc _) ⟨uA.heap.size, 0, none⟩ 1 1 [.slice px L1.length cx] rfl rfl (World.news_of_block (cs := #[.slice px L1.length cx]) (t := 37) (fr := (0, 0)) (heap_alloc_new uA _)) (by simp [Value.oneCell']) (by omega) (by unfold maxLen; omega) (by omega) (by simp; omega) (uA.heap.size + 1) (by simp) ?_; intro g2 cap2 w6 hown3 hg3 hat3 hlt3; have HO3 := Lib.hid hown3; have HG3 := Lib.hid hg3; clear hown3 hg3 hat3 hlt3))
            have HB6 := Lib.hid ((HBA.out.alloc HBA.out.size (.cells #[.slice px L1.length cx] 37)).grown HG3.out (by simp; omega) (fun r e => (HRA.out.lt r e).1))
            have HKR : Hid (∀ (y : Value) (L : List (Tm × Value)), RowT w2 w2.heap.size uA y L → RowT w2 w2.heap.size w6 y L) := Lib.hid (fun y L h => ⟨(h.row.alloc (.cells #[.slice px L1.length cx] 37)).kept HG3.out (rows_far (by decide) (h.row.alloc (.cells #[.slice px L1.length cx] 37)) (HRA.out.alloc (.cells #[.slice px L1.length cx] 37))), h.args⟩)
            have HSN : Hid (SetsR l w2 w2.heap.size (k + 1) (.slice (some ⟨g2, 0, none⟩) (k + 1) cap2) w6) := Lib.hid ⟨vs ++ [.slice px L1.length cx], HO3.out, fun j x hj hx => by
              have hvl : vs.length = k := by have := HRA.out.1; omega
              by_cases e : j = k
              · subst e
                rw [HD.out] at hx; injection hx with hx
                exact ⟨_, L1, by rw [List.getElem?_append_right (by omega), hvl, Nat.sub_self]; rfl, HKR.out _ _ HX1.out, by rw [HME.out, hx]⟩
              · obtain ⟨y, L, h1, h2, h3⟩ := HVA.out j x (by omega) hx
                exact ⟨y, L, by rw [List.getElem?_append_left (by omega)]; exact h1, HKR.out _ _ h2, h3⟩⟩
            have HN : Hid (∀ (j : Nat) x, j < k + 1 → l[j]? = some x → o.litOk x = true) := Lib.hid (fun j x hj hx => by
              by_cases e : j = k
              · subst e; rw [HD.out] at hx; injection hx with hx; rw [← hx]; exact HGA.out.symm
              · exact HQ.out j x (by omega) hx)
            go_roundw
            case rel => exact ⟨k + 1, _, by omega, by go_num, rfl, HSN.out, HN.out, HB6.out⟩
            case measure => simp [intOf]; omega
        · have hke : k = l.length := by omega
          subst hke
          have HOK : Hid (o.mxOk l = true) := Lib.hid (mxOk_y hl8 HG.out (fun j d hd => HQ.out j d (List.getElem?_eq_some_iff.1 hd).1 hd))
          have HZ : Hid (∀ d ∈ l, o.litOk d = true) := Lib.hid (fun d hd => by obtain ⟨j, hj⟩ := List.getElem?_of_mem hd; exact HQ.out j d (List.getElem?_eq_some_iff.1 hj).1 hj)
          have HFI := Lib.hid (Od.good_fine HG.out)
          obtain ⟨n, hn⟩ : ∃ n, n = l.length := ⟨_, rfl⟩
          have HNL := Lib.hid hn
          rw [← hn] at HROW HVS hl8 hlt hk l0 ⊢
          clear hn HQ
          obtain ⟨w7, hw7⟩ : ∃ w7, wr.alloc (.cells #[] 3) = w7 := ⟨_, rfl⟩
          have hb7 : Below wr.heap.size wr w7 := by rw [← hw7]; exact (Below.refl _ _).alloc (Nat.le_refl _) _
          have HB7 := Lib.hid (carry_below HB2.out (Nat.le_refl _) hb7)
          have HROW7 := Lib.hid (own_kept HROW.out hb7)
          have HVS7 : Hid (∀ (j : Nat) x, j < n → l[j]? = some x → ∃ y L, vs[j]? = some y ∧ RowT w2 w2.heap.size w7 y L ∧ tmsE L = x.msS) := Lib.hid (fun j x hj hx => by obtain ⟨y, L, h1, h2, h3⟩ := HVS.out j x hj hx; exact ⟨y, L, h1, h2.kept hb7, h3⟩)
          have HOUT : Hid (w7.ownsRow w2.heap.size 3 1 (.slice (some ⟨wr.heap.size, 0, none⟩) 0 0) 0 []) := Lib.hid (by rw [← hw7]; exact World.ownsRow_made wr #[] 0 HB2.out.size (by decide) (by simp))
          clear hb7 HROW HVS
          go_wp2
          try rw [hw7]
          clear hw7 b0 b1 b2 b3 l0 l1
          go_loopw [10, 11] (fun ov i wr => ∃ (k : Nat) (nm : Value), k ≤ n ∧ i = .int .i64 k ∧ nm = ov ∧ wr.ownsRow w2.heap.size 3 1 nm (o.mxK l k).length (intV (o.mxK l k)) ∧ wr.ownsRow w2.heap.size 37 1 (.slice vp n vc) n vs ∧ (∀ (j : Nat) x, j < n → l[j]? = some x → ∃ y L, vs[j]? = some y ∧ RowT w2 w2.heap.size wr y L ∧ tmsE L = x.msS) ∧ Below w2.heap.size w2 wr) (fun _ i _ => n - (intOf i).toNat)
          case atStart => exact ⟨0, _, Nat.zero_le _, rfl, rfl, HOUT.out, HROW7.out, HVS7.out, HB7.out⟩
          case round =>
            obtain ⟨k, nm, hk2, rfl, rfl, hout, hrow, hvs, hb2⟩ := hrel
            obtain ⟨wo, hwo⟩ : ∃ wo : World, wo = wr := ⟨_, rfl⟩
            rw [← hwo] at hout hrow hvs hb2 ⊢
            clear hwo
            obtain ⟨m, hm⟩ : ∃ m, m = (o.mxK l k).length := ⟨_, rfl⟩
            have hmk : m ≤ k := by rw [hm]; exact mxK_len o l k
            have HM := Lib.hid hm
            obtain ⟨vo, co, rfl⟩ : ∃ p c, nm = .slice p m c := by
              rcases hout.2 with ⟨rfl, h0⟩ | ⟨g, cap, cur, rfl, _⟩
              · exact ⟨none, 0, by rw [hm, h0]⟩
              · exact ⟨_, _, by rw [hm]⟩
            obtain ⟨xs, hxs⟩ : ∃ xs, xs = intV (o.mxK l k) := ⟨_, rfl⟩
            have HXS := Lib.hid hxs
            rw [← hm, ← hxs] at hout
            have HOUT := Lib.hid hout
            have HROW := Lib.hid hrow
            have HVS := Lib.hid hvs
            replace HB2 := Lib.hid hb2
            clear hout hrow hvs hb2 hm hxs HROW7 HVS7
            by_cases hkn : k < n
            · obtain ⟨d, hd⟩ : ∃ d, l[k]? = some d := ⟨_, List.getElem?_eq_getElem (by have := HNL.out; omega)⟩
              obtain ⟨yd, Ld, hyd, hrd, hmd⟩ := HVS.out k d hkn hd
              have HD := Lib.hid hd
              have HRD := Lib.hid hrd
              have HMD := Lib.hid hmd
              have HYD := Lib.hid hyd
              have HNXT := Lib.hid (mxK_next (o := o) hd)
              have HZD := Lib.hid (HZ.out d (mem_of_at hd))
              have hwd : d.tm.wt ≤ 1048576 := Nat.le_trans (wtC_tm (mem_of_at hd)) HW.out
              obtain ⟨pd, cd, rfl⟩ : ∃ p c, yd = .slice p Ld.length c := by
                rcases hrd.row.2 with ⟨rfl, h0⟩ | ⟨g, cap, cur, rfl, _⟩
                · exact ⟨none, 0, by rw [h0]⟩
                · exact ⟨_, _, rfl⟩
              clear hd hrd hmd hyd
              obtain ⟨gs, rfl⟩ : ∃ gs, vp = some ⟨gs, 0, none⟩ := by
                rcases HROW.out.2 with ⟨h, h0⟩ | ⟨g, cap, cur, h, _⟩
                · omega
                · injection h with h; exact ⟨g, h⟩
              go_wp2
              go_loopw [12, 13] (fun mv i wq => ∃ (j : Nat), j ≤ n ∧ i = .int .i64 j ∧ mv = .bool ((l.take j).all fun x => decide (o.mulC x.msS d.msS ≠ 2)) ∧ Below wo.heap.size wo wq) (fun _ i _ => n - (intOf i).toNat)
              case atStart => exact ⟨0, Nat.zero_le _, rfl, by simp, Below.refl _ _⟩
              case round =>
                obtain ⟨j, hj, rfl, rfl, hbq⟩ := hrel
                have HQ := Lib.hid hbq
                have HBR := Lib.hid (carry_below HB2.out (Nat.le_refl _) hbq)
                obtain ⟨acc, hacc⟩ : ∃ acc, acc = (l.take j).all fun x => decide (o.mulC x.msS d.msS ≠ 2) := ⟨_, rfl⟩
                have HACC := Lib.hid hacc
                rw [← hacc]
                clear hbq hacc
                by_cases hjn : j < n
                · obtain ⟨x, hx⟩ : ∃ x, l[j]? = some x := ⟨_, List.getElem?_eq_getElem (by have := HNL.out; omega)⟩
                  obtain ⟨yx, Lx, hyx, hrx, hmx⟩ := HVS.out j x hjn hx
                  obtain ⟨px, cx, rfl⟩ : ∃ p c, yx = .slice p Lx.length c := by
                    rcases hrx.row.2 with ⟨rfl, h0⟩ | ⟨g, cap, cur, rfl, _⟩
                    · exact ⟨none, 0, by rw [h0]⟩
                    · exact ⟨_, _, rfl⟩
                  have hwx : x.tm.wt ≤ 1048576 := Nat.le_trans (wtC_tm (mem_of_at hx)) HW.out
                  have HZX := HZ.out x (mem_of_at hx)
                  have HROWR := own_kept HROW.out HQ.out
                  have s0 : wr.cell? ⟨gs, j, none⟩ = some (.slice px Lx.length cx) := by rw [HROWR.cellAt j (by omega)]; exact hyx
                  have t0 : wr.cell? ⟨gs, k, none⟩ = some (.slice pd Ld.length cd) := by rw [HROWR.cellAt k (by omega)]; exact HYD.out
                  have HNX : Hid ((l.take (j + 1)).all (fun x => decide (o.mulC x.msS d.msS ≠ 2)) = (acc && decide (o.mulC x.msS d.msS ≠ 2))) := Lib.hid (by rw [HACC.out, List.take_add_one, hx]; simp [List.all_append])
                  have CK : Hid (∀ W, Below wr.heap.size wr W → Calls Tryz.prog 39 #[.agg #[.slice sa o.sy.length sc, .slice wa o.ws.length wc, .int .i64 o.va], .slice px Lx.length cx, .slice pd Ld.length cd] W (Ans (.int .i64 (o.mulC x.msS d.msS)) W)) := Lib.hid (fun W hW => by
                    have h1 := (hrx.kept (HQ.out.trans (hW.mono HQ.out.size))).read (HBR.out.trans (hW.mono HBR.out.size))
                    have h2 := (HRD.out.kept (HQ.out.trans (hW.mono HQ.out.size))).read (HBR.out.trans (hW.mono HBR.out.size))
                    rw [hmx] at h1
                    rw [HMD.out] at h2
                    exact l6Mul_any o ho HFI.out x.msS d.msS W _ _ _ _ (HV.out.kept (HB.out.trans ((HBR.out.trans (hW.mono HBR.out.size)).mono HB.out.size))) h1 h2 (Nat.le_trans (ms_len (litOk_atom HZX)).1 (by omega)) (Nat.le_trans (ms_len (litOk_atom HZD.out)).1 (by omega)) (msS_z hwx HZX) (msS_z hwd HZD.out))
                  clear hx hyx hrx hmx HROWR HZX
                  obtain ⟨b0, b1, b2, b3⟩ := H3.out.kept HBR.out
                  cases acc with
                  | false =>
                    go_wp2_with fail
                    have hB0 : Below wr.heap.size wr wr.drew := (Below.refl _ _).drew
                    refine wp_region_held_drew (S := (fun w' => w'.cell? ⟨w.heap.size, 0, none⟩ = some (.slice sa o.sy.length sc) ∧ Below wr.heap.size wr w')) (by kernel_rfl) (by first | exact ⟨by assumption, by assumption⟩ | go_keep) (fun hHeld => ?_)
                    refine takeYesE 0 (v := ?_) rfl (by kernel_rfl) (by kernel_rfl) (by kernel_rfl) (by rfl) (fun _ _ _ h => h) (by assumption) ?_ ?_; rotate_left; (intro w hSw; (try dsimp only at hSw); go_simp; try (with_reducible rfl))
                    try simp only [Act.put, List.getElem_toArray, List.getElem_cons_zero, List.setIfInBounds_toArray, List.set_cons_zero, List.set_cons_succ]
                    refine takeYesE 1 (v := ?_) rfl (by kernel_rfl) (by kernel_rfl) (by kernel_rfl) (by rfl) (fun _ _ _ h => h) (by assumption) ?_ ?_; rotate_left; (intro w hSw; (try dsimp only at hSw); go_simp; try (with_reducible rfl))
                    try simp only [Act.put, List.getElem_toArray, List.getElem_cons_zero, List.getElem_cons_succ, List.setIfInBounds_toArray, List.set_cons_zero, List.set_cons_succ]
                    refine takeNoE 2 rfl (by kernel_rfl) (by kernel_rfl) (by kernel_rfl) (by rfl) (fun _ _ _ h => h) (by assumption) ?_
                    try simp only [Act.put, List.getElem_toArray, List.getElem_cons_zero, List.getElem_cons_succ, List.setIfInBounds_toArray, List.set_cons_zero, List.set_cons_succ]
                    refine takeNoE 3 rfl (by kernel_rfl) (by kernel_rfl) (by kernel_rfl) (by rfl) (fun _ _ _ h => h) (by assumption) ?_
                    try simp only [Act.put, List.getElem_toArray, List.getElem_cons_zero, List.getElem_cons_succ, List.setIfInBounds_toArray, List.set_cons_zero, List.set_cons_succ]
                    refine takeNoE 4 rfl (by kernel_rfl) (by kernel_rfl) (by kernel_rfl) (by rfl) (fun _ _ _ h => h) (by assumption) ?_
                    try simp only [Act.put, List.getElem_toArray, List.getElem_cons_zero, List.getElem_cons_succ, List.setIfInBounds_toArray, List.set_cons_zero, List.set_cons_succ]
                    refine takeNoE 5 rfl (by kernel_rfl) (by kernel_rfl) (by kernel_rfl) (by rfl) (fun _ _ _ h => h) (by assumption) ?_
                    try simp only [Act.put, List.getElem_toArray, List.getElem_cons_zero, List.getElem_cons_succ, List.setIfInBounds_toArray, List.set_cons_zero, List.set_cons_succ]
                    refine takeNoE 6 rfl (by kernel_rfl) (by kernel_rfl) (by kernel_rfl) (by rfl) (fun _ _ _ h => h) (by assumption) ?_
                    try simp only [Act.put, List.getElem_toArray, List.getElem_cons_zero, List.getElem_cons_succ, List.setIfInBounds_toArray, List.set_cons_zero, List.set_cons_succ]
                    refine takeNoE 7 rfl (by kernel_rfl) (by kernel_rfl) (by kernel_rfl) (by rfl) (fun _ _ _ h => h) (by assumption) ?_
                    try simp only [Act.put, List.getElem_toArray, List.getElem_cons_zero, List.getElem_cons_succ, List.setIfInBounds_toArray, List.set_cons_zero, List.set_cons_succ]
                    refine takeNoE 8 rfl (by kernel_rfl) (by kernel_rfl) (by kernel_rfl) (by rfl) (fun _ _ _ h => h) (by assumption) ?_
                    try simp only [Act.put, List.getElem_toArray, List.getElem_cons_zero, List.getElem_cons_succ, List.setIfInBounds_toArray, List.set_cons_zero, List.set_cons_succ]
                    refine takeNoE 9 rfl (by kernel_rfl) (by kernel_rfl) (by kernel_rfl) (by rfl) (fun _ _ _ h => h) (by assumption) ?_
                    try simp only [Act.put, List.getElem_toArray, List.getElem_cons_zero, List.getElem_cons_succ, List.setIfInBounds_toArray, List.set_cons_zero, List.set_cons_succ]
                    refine takeNoE 10 rfl (by kernel_rfl) (by kernel_rfl) (by kernel_rfl) (by rfl) (fun _ _ _ h => h) (by assumption) ?_
                    try simp only [Act.put, List.getElem_toArray, List.getElem_cons_zero, List.getElem_cons_succ, List.setIfInBounds_toArray, List.set_cons_zero, List.set_cons_succ]
                    refine takeNoE 11 rfl (by kernel_rfl) (by kernel_rfl) (by kernel_rfl) (by rfl) (fun _ _ _ h => h) (by assumption) ?_
                    try simp only [Act.put, List.getElem_toArray, List.getElem_cons_zero, List.getElem_cons_succ, List.setIfInBounds_toArray, List.set_cons_zero, List.set_cons_succ]
                    refine takeNoE 12 rfl (by kernel_rfl) (by kernel_rfl) (by kernel_rfl) (by rfl) (fun _ _ _ h => h) (by assumption) ?_
                    try simp only [Act.put, List.getElem_toArray, List.getElem_cons_zero, List.getElem_cons_succ, List.setIfInBounds_toArray, List.set_cons_zero, List.set_cons_succ]
                    refine takeYesE 13 (v := ?_) rfl (by kernel_rfl) (by kernel_rfl) (by kernel_rfl) (by rfl) (fun _ _ _ h => h) (by assumption) ?_ ?_; rotate_left; (intro w hSw; (try dsimp only at hSw); go_simp; try (with_reducible rfl))
                    try simp only [Act.put, List.getElem_toArray, List.getElem_cons_zero, List.getElem_cons_succ, List.setIfInBounds_toArray, List.set_cons_zero, List.set_cons_succ]
                    refine takeYesE 14 (v := ?_) rfl (by kernel_rfl) (by kernel_rfl) (by kernel_rfl) (by rfl) (fun _ _ _ h => h) (by assumption) ?_ ?_; rotate_left; (intro w hSw; (try dsimp only at hSw); go_simp; try (with_reducible rfl))
                    try simp only [Act.put, List.getElem_toArray, List.getElem_cons_zero, List.getElem_cons_succ, List.setIfInBounds_toArray, List.set_cons_zero, List.set_cons_succ]
                    refine wpAnyH_done (by kernel_rfl) ?_ _
                    have HQD := Lib.hid HQ.out.drew
                    have HN : Hid ((l.take (j + 1)).all (fun x => decide (o.mulC x.msS d.msS ≠ 2)) = false) := Lib.hid (by rw [HNX.out]; rfl)
                    clear hB0 b0 b1 b2 b3 s0 t0
                    go_wp2
                    go_roundw
                    case rel => exact ⟨j + 1, by omega, by go_num, by rw [HN.out], HQD.out⟩
                    case measure => simp [intOf]; omega
                  | true =>
                    obtain ⟨mc, hmc⟩ : ∃ mc, mc = o.mulC x.msS d.msS := ⟨_, rfl⟩
                    rw [← hmc] at CK
                    have HMC := Lib.hid hmc
                    clear hmc
                    go_wp2_with fail
                    have hB0 : Below wr.heap.size wr wr.drew := (Below.refl _ _).drew
                    refine wp_region_held_drew (S := (fun w' => w'.cell? ⟨w.heap.size, 0, none⟩ = some (.slice sa o.sy.length sc) ∧ w'.cell? ⟨w.heap.size, 1, none⟩ = some (.slice wa o.ws.length wc) ∧ w'.cell? ⟨w.heap.size, 2, none⟩ = some (.int .i64 o.va) ∧ w'.cell? ⟨gs, j, none⟩ = some (.slice px Lx.length cx) ∧ w'.cell? ⟨gs, k, none⟩ = some (.slice pd Ld.length cd) ∧ Below wr.heap.size wr w')) (by kernel_rfl) (by first | exact ⟨by assumption, by assumption, by assumption, by assumption, by assumption, by assumption⟩ | go_keep) (fun hHeld => ?_)
                    refine takeYesE 0 (v := ?_) rfl (by kernel_rfl) (by kernel_rfl) (by kernel_rfl) (by rfl) (fun _ _ _ h => h) (by assumption) ?_ ?_; rotate_left; (intro w hSw; (try dsimp only at hSw); go_simp; try (with_reducible rfl))
                    try simp only [Act.put, List.getElem_toArray, List.getElem_cons_zero, List.setIfInBounds_toArray, List.set_cons_zero, List.set_cons_succ]
                    refine takeYesE 1 (v := ?_) rfl (by kernel_rfl) (by kernel_rfl) (by kernel_rfl) (by rfl) (fun _ _ _ h => h) (by assumption) ?_ ?_; rotate_left; (intro w hSw; (try dsimp only at hSw); go_simp; try (with_reducible rfl))
                    try simp only [Act.put, List.getElem_toArray, List.getElem_cons_zero, List.getElem_cons_succ, List.setIfInBounds_toArray, List.set_cons_zero, List.set_cons_succ]
                    refine takeYesE 2 (v := ?_) rfl (by kernel_rfl) (by kernel_rfl) (by kernel_rfl) (by rfl) (fun _ _ _ h => h) (by assumption) ?_ ?_; rotate_left; (intro w hSw; (try dsimp only at hSw); go_simp; try (with_reducible rfl))
                    try simp only [Act.put, List.getElem_toArray, List.getElem_cons_zero, List.getElem_cons_succ, List.setIfInBounds_toArray, List.set_cons_zero, List.set_cons_succ]
                    refine takeYesE 3 (v := ?_) rfl (by kernel_rfl) (by kernel_rfl) (by kernel_rfl) (by rfl) (fun _ _ _ h => h) (by assumption) ?_ ?_; rotate_left; (intro w hSw; (try dsimp only at hSw); go_simp; try (with_reducible rfl))
                    try simp only [Act.put, List.getElem_toArray, List.getElem_cons_zero, List.getElem_cons_succ, List.setIfInBounds_toArray, List.set_cons_zero, List.set_cons_succ]
                    refine takeYesE 4 (v := ?_) rfl (by kernel_rfl) (by kernel_rfl) (by kernel_rfl) (by rfl) (fun _ _ _ h => h) (by assumption) ?_ ?_; rotate_left; (intro w hSw; (try dsimp only at hSw); go_simp; try (with_reducible rfl))
                    try simp only [Act.put, List.getElem_toArray, List.getElem_cons_zero, List.getElem_cons_succ, List.setIfInBounds_toArray, List.set_cons_zero, List.set_cons_succ]
                    refine takeYesE 5 (v := ?_) rfl (by kernel_rfl) (by kernel_rfl) (by kernel_rfl) (by rfl) (fun _ _ _ h => h) (by assumption) ?_ ?_; rotate_left; (intro w hSw; (try dsimp only at hSw); go_simp; try (with_reducible rfl))
                    try simp only [Act.put, List.getElem_toArray, List.getElem_cons_zero, List.getElem_cons_succ, List.setIfInBounds_toArray, List.set_cons_zero, List.set_cons_succ]
                    refine takeYesE 6 (v := ?_) rfl (by kernel_rfl) (by kernel_rfl) (by kernel_rfl) (by rfl) (fun _ _ _ h => h) (by assumption) ?_ ?_; rotate_left; (intro w hSw; (try dsimp only at hSw); go_simp; try (with_reducible rfl))
                    try simp only [Act.put, List.getElem_toArray, List.getElem_cons_zero, List.getElem_cons_succ, List.setIfInBounds_toArray, List.set_cons_zero, List.set_cons_succ]
                    refine takeYesE 7 (v := ?_) rfl (by kernel_rfl) (by kernel_rfl) (by kernel_rfl) (by rfl) (fun _ _ _ h => h) (by assumption) ?_ ?_; rotate_left; (intro w hSw; (try dsimp only at hSw); go_simp; try (with_reducible rfl))
                    try simp only [Act.put, List.getElem_toArray, List.getElem_cons_zero, List.getElem_cons_succ, List.setIfInBounds_toArray, List.set_cons_zero, List.set_cons_succ]
                    refine takeYesE 8 (v := ?_) rfl (by kernel_rfl) (by kernel_rfl) (by kernel_rfl) (by rfl) (fun _ _ _ h => h) (by assumption) ?_ ?_; rotate_left; (intro w hSw; (try dsimp only at hSw); go_simp; try (with_reducible rfl))
                    try simp only [Act.put, List.getElem_toArray, List.getElem_cons_zero, List.getElem_cons_succ, List.setIfInBounds_toArray, List.set_cons_zero, List.set_cons_succ]
                    refine takeYesE 9 (v := ?_) rfl (by kernel_rfl) (by kernel_rfl) (by kernel_rfl) (by rfl) (fun _ _ _ h => h) (by assumption) ?_ ?_; rotate_left; (intro w hSw; (try dsimp only at hSw); go_simp; try (with_reducible rfl))
                    try simp only [Act.put, List.getElem_toArray, List.getElem_cons_zero, List.getElem_cons_succ, List.setIfInBounds_toArray, List.set_cons_zero, List.set_cons_succ]
                    refine takeYesE 10 (v := ?_) rfl (by kernel_rfl) (by kernel_rfl) (by kernel_rfl) (by rfl) (fun _ _ _ h => h) (by assumption) ?_ ?_; rotate_left; (intro w hSw; (try dsimp only at hSw); go_simp; try (with_reducible rfl))
                    try simp only [Act.put, List.getElem_toArray, List.getElem_cons_zero, List.getElem_cons_succ, List.setIfInBounds_toArray, List.set_cons_zero, List.set_cons_succ]
                    refine wpAnyH_ready (rs := [11]) (by kernel_rfl) (by simp) ?_
                    refine AllReadyH.cons rfl (fun K hK => ?_) AllReadyH.nil
                    go_simp
                    (go_at_call 39; refine (CK.out _ (by assumption)).mono ?_; rintro e uC ⟨rfl, hb⟩; have qz11_0 : uC.cell? ⟨w.heap.size, 0, none⟩ = some (.slice sa o.sy.length sc) := carry_cell' hb (by assumption); have qz11_1 : uC.cell? ⟨w.heap.size, 1, none⟩ = some (.slice wa o.ws.length wc) := carry_cell' hb (by assumption); have qz11_2 : uC.cell? ⟨w.heap.size, 2, none⟩ = some (.int .i64 o.va) := carry_cell' hb (by assumption); have qz11_3 : uC.cell? ⟨gs, j, none⟩ = some (.slice px Lx.length cx) := carry_cell' hb (by assumption); have qz11_4 : uC.cell? ⟨gs, k, none⟩ = some (.slice pd Ld.length cd) := carry_cell' hb (by assumption); have huC : Below wr.heap.size wr uC := carry_below (by assumption) (Nat.le_refl _) hb; clear hb; go_wp2_with fail)
                    refine hK.out _ _ (by first | exact ⟨by assumption, by assumption, by assumption, by assumption, by assumption, by assumption⟩ | go_keep) (fun hHeld => ?_)
                    clear hK K
                    try simp only [Act.put, List.getElem_toArray, List.getElem_cons_zero, List.getElem_cons_succ, List.setIfInBounds_toArray, List.set_cons_zero, List.set_cons_succ]
                    refine takeYesE 12 (v := ?_) rfl (by kernel_rfl) (by kernel_rfl) (by kernel_rfl) (by rfl) (fun _ _ _ h => h) (by assumption) ?_ ?_; rotate_left; (intro w hSw; (try dsimp only at hSw); go_simp; try (with_reducible rfl))
                    try simp only [Act.put, List.getElem_toArray, List.getElem_cons_zero, List.getElem_cons_succ, List.setIfInBounds_toArray, List.set_cons_zero, List.set_cons_succ]
                    refine takeYesE 13 (v := ?_) rfl (by kernel_rfl) (by kernel_rfl) (by kernel_rfl) (by rfl) (fun _ _ _ h => h) (by assumption) ?_ ?_; rotate_left; (intro w hSw; (try dsimp only at hSw); go_simp; try (with_reducible rfl))
                    try simp only [Act.put, List.getElem_toArray, List.getElem_cons_zero, List.getElem_cons_succ, List.setIfInBounds_toArray, List.set_cons_zero, List.set_cons_succ]
                    refine takeYesE 14 (v := ?_) rfl (by kernel_rfl) (by kernel_rfl) (by kernel_rfl) (by rfl) (fun _ _ _ h => h) (by assumption) ?_ ?_; rotate_left; (intro w hSw; (try dsimp only at hSw); go_simp; try (with_reducible rfl))
                    try simp only [Act.put, List.getElem_toArray, List.getElem_cons_zero, List.getElem_cons_succ, List.setIfInBounds_toArray, List.set_cons_zero, List.set_cons_succ]
                    refine wpAnyH_done (by kernel_rfl) ?_ _
                    have hb : Below wr.heap.size wr uC := by assumption
                    have HQD := Lib.hid (carry_below HQ.out (Nat.le_refl _) hb)
                    have HN : Hid ((l.take (j + 1)).all (fun x => decide (o.mulC x.msS d.msS ≠ 2)) = (mc != 2)) := Lib.hid (by rw [HNX.out, ← HMC.out, Bool.true_and, Bool.eq_iff_iff]; simp)
                    clear hb hB0 b0 b1 b2 b3 s0 t0
                    go_wp2
                    go_roundw
                    case rel => exact ⟨j + 1, by omega, by go_num, by rw [HN.out], HQD.out⟩
                    case measure => simp [intOf]; omega
                · have hTOP : Hid (o.topB l d = acc) := Lib.hid (by rw [HACC.out, List.take_of_length_le (by have := HNL.out; omega)]; rfl)
                  have HOUTR := Lib.hid (own_kept HOUT.out HQ.out)
                  have HROWR := Lib.hid (own_kept HROW.out HQ.out)
                  have HVSR : Hid (∀ (j : Nat) x, j < n → l[j]? = some x → ∃ y L, vs[j]? = some y ∧ RowT w2 w2.heap.size wr y L ∧ tmsE L = x.msS) := Lib.hid (fun j x hj hx => by obtain ⟨y, L, h1, h2, h3⟩ := HVS.out j x hj hx; exact ⟨y, L, h1, h2.kept HQ.out, h3⟩)
                  clear HACC
                  cases acc with
                  | false =>
                    have HNE : Hid (o.mxK l (k + 1) = o.mxK l k) := Lib.hid (by rw [HNXT.out, hTOP.out]; simp)
                    go_wp2
                    go_roundw
                    case rel => exact ⟨k + 1, _, by omega, by go_num, rfl, by rw [HNE.out, ← HM.out, ← HXS.out]; exact HOUTR.out, HROWR.out, HVSR.out, HBR.out⟩
                    case measure => simp [intOf]; omega
                  | true =>
                    have HNE : Hid (o.mxK l (k + 1) = o.mxK l k ++ [(k : Int)]) := Lib.hid (by rw [HNXT.out, hTOP.out]; simp)
                    have hsz := HBR.out.size
                    go_wp2_with (at_builtin; go_loud (refine wpList_append_own _ rfl _ _ 23 rfl w2.heap.size 3 i1 (.int .i64 0) 1 8 Tryz.underlying23 gi gz0 gz1 gz2 rfl (by decide) (.slice vo m co) m xs rfl (HOUTR.out.alloc _) ⟨wr.heap.size, 0, none⟩ 1 1 [.int .i64 k] rfl rfl (cell_one_new _ _ _) (by simp [Value.oneCell']) (by unfold maxLen; omega) (by omega) (by simp; omega) ?_; intro v6 w6 hown2 hg2 _; obtain ⟨g2, cap2, rfl⟩ := ownsRow_succ hown2; have HO2 := Lib.hid hown2; have HG2 := Lib.hid hg2; clear hown2 hg2))
                    have HB6 := Lib.hid ((HBR.out.alloc HBR.out.size (.cells #[.int .i64 k] 3)).grown HG2.out (by simp; omega) (fun r e => (HOUTR.out.lt r e).1))
                    have HROW6 := Lib.hid ((HROWR.out.alloc (.cells #[.int .i64 k] 3)).kept HG2.out (rows_far (by decide) (HROWR.out.alloc (.cells #[.int .i64 k] 3)) (HOUTR.out.alloc (.cells #[.int .i64 k] 3))))
                    have HVS6 : Hid (∀ (j : Nat) x, j < n → l[j]? = some x → ∃ y L, vs[j]? = some y ∧ RowT w2 w2.heap.size w6 y L ∧ tmsE L = x.msS) := Lib.hid (fun j x hj hx => by obtain ⟨y, L, h1, h2, h3⟩ := HVSR.out j x hj hx; exact ⟨y, L, h1, ⟨(h2.row.alloc (.cells #[.int .i64 k] 3)).kept HG2.out (rows_far (by decide) (h2.row.alloc (.cells #[.int .i64 k] 3)) (HOUTR.out.alloc (.cells #[.int .i64 k] 3))), h2.args⟩, h3⟩)
                    have HFIN : Hid (w6.ownsRow w2.heap.size 3 1 (.slice (some ⟨g2, 0, none⟩) (m + 1) cap2) (o.mxK l (k + 1)).length (intV (o.mxK l (k + 1)))) := Lib.hid (by
                      have h := HO2.out
                      rw [HXS.out] at h
                      rw [HNE.out, List.length_append, ← HM.out]
                      simpa [intV] using h)
                    go_roundw
                    case rel => exact ⟨k + 1, _, by omega, by go_num, rfl, HFIN.out, HROW6.out, HVS6.out, HB6.out⟩
                    case measure => simp [intOf]; omega
            · have hke : k = n := by omega
              have HE : Hid (MaxEnd (o.mxR l) (o.mxOk l) w (.returned (.tuple #[.slice vo m co, .bool true])) wo) := Lib.hid ⟨_, ret_sl2 HOK.out.symm, by
                rw [mxR_yes HOK.out]
                have h := HOUT.out
                rw [HXS.out, HM.out, hke, HNL.out] at h
                rw [HM.out, hke, HNL.out]
                exact intsO_of (own_base h HB.out.size), HB.out.trans (HB2.out.mono HB.out.size)⟩
              go_wp2
              go_ret2
              exact HE.out
    · have hl9 : (8 : Int) < (l.length : Int) := by omega
      have hl9t : decide ((8 : Int) < (l.length : Int)) = true := by simp; omega
      have HO := mxOk_l (o := o) hl8
      have HE : Hid (MaxEnd (o.mxR l) (o.mxOk l) w (.returned (.tuple #[.slice (some ⟨w2.heap.size, 0, none⟩) 0 0, .bool false])) (w2.alloc (.cells #[] 3))) := Lib.hid ⟨_, ret_sl2 HO.symm, by rw [mxR_no HO]; exact .inl ⟨_, _, rfl, rfl⟩, HB.out.alloc HB.out.size _⟩
      clear HO
      go_wp2
      go_ret2
      exact HE.out

end Go.Proofs.YtohalpafmcobpaaGreat

/- MaximalLiterals, the program's: contracts, for orderings and clauses of at most 1048576 names' bytes, literals and elements. -/
namespace Go.Proofs.YtohalpafmcobpaaGreat
open Go.RowKit
set_option linter.unusedVariables false
set_option linter.unusedSimpArgs false

def IdxL (p : Lt → Bool) (l : List Lt) (w : World) (e : Ending) (w' : World) : Prop :=
  ∃ i : Int, e = .returned (.int .i64 i) ∧ ((i = -1 ∧ ∀ d ∈ l, p d = false) ∨ ∃ k : Nat, i = k ∧ k < l.length ∧ (∀ (j : Nat) d, j < k → l[j]? = some d → p d = false) ∧ ∀ d, l[k]? = some d → p d = true) ∧ Below w.heap.size w w'
theorem idxL_any {p : Lt → Bool} {l : List Lt} {w w' : World} {e : Ending} (h : IdxL p l w e w') : ∃ i : Int, e = .returned (.int .i64 i) ∧ decide (0 ≤ i) = l.any p ∧ Below w.heap.size w w' := by
  obtain ⟨i, rfl, ⟨rfl, h⟩ | ⟨k, rfl, hk, h1, h2⟩, hb⟩ := h
  · refine ⟨_, rfl, ?_, hb⟩
    have : l.any p = false := by rw [List.any_eq_false]; intro x hx; rw [h x hx]; simp
    rw [this]; decide
  · refine ⟨_, rfl, ?_, hb⟩
    have : l.any p = true := by rw [List.any_eq_true]; exact ⟨l[k], List.getElem_mem hk, h2 _ (List.getElem?_eq_getElem hk)⟩
    rw [this]; simp

set_option maxRecDepth 100000 in
set_option maxHeartbeats 4000000 in
theorem mx1_any (o : Od) (ho : o.wt ≤ 1048576) (hf : o.Fine) (x d : Lt) (w : World) (sv wv va vd : Value) (p q : Nat) (hv : OdV w sv wv o) (h3 : OdB w p sv wv o) (hx : TmS w va x.tm.args) (hq : Thr w q (.bool d.var) (.string d.tm.name) vd) (hd : TmS w vd d.tm.args) (hwx : x.tm.wt ≤ 1048576) (hwd : d.tm.wt ≤ 1048576) (hx1 : o.litOk x = true) (hd1 : o.litOk d = true) :
    Calls Tryz.prog 49 #[.agg #[.bool x.var, .string x.tm.name, va], .pointer (some ⟨p, 0, none⟩), .pointer (some ⟨q, 0, none⟩)] w (Ans (.bool (o.mulC x.msS d.msS == 2)) w) := by
  obtain ⟨sa, sc, wa, wc, rfl, rfl⟩ := hv.open
  obtain ⟨pa, ca, rfl⟩ := hx.is_slice
  obtain ⟨pb, cb, rfl⟩ := hd.is_slice
  obtain ⟨w0, hw0⟩ : ∃ w0, w.alloc (.cells #[.bool x.var, .string x.tm.name, .slice pa x.tm.args.length ca] 41) = w0 := ⟨_, rfl⟩
  have HB0 : Hid (Below w.heap.size w w0) := Lib.hid (by rw [← hw0]; exact (Below.refl w.heap.size w).alloc (Nat.le_refl _) _)
  have X0 : Thr w0 w.heap.size (.bool x.var) (.string x.tm.name) (.slice pa x.tm.args.length ca) := by rw [← hw0]; exact thr_new _ _ _ _ _ _ rfl
  obtain ⟨x0, x1, x2, x3⟩ := X0
  obtain ⟨t0, t1, t2, t3⟩ := hq.kept HB0.out
  obtain ⟨b0, b1, b2, b3⟩ := h3.kept HB0.out
  have CE := Lib.hid (compLit_any o ho hf x d w0 _ _ _ _ (hv.kept HB0.out) (hx.kept HB0.out) (hd.kept HB0.out) (litOk_atom hx1) (litOk_atom hd1) (msI_z hwx hx1) (msI_z hwd hd1))
  clear hv h3 hx hq hd hf
  go_enter Tryz.func49, Tryz.ntmps49
  go_wp2_with fail
  refine CE.out.mono ?_
  rintro e w2 ⟨rfl, hb⟩
  have HB2 := Lib.hid (carry_below HB0.out (Nat.le_refl _) hb)
  clear hb hw0
  go_wp2
  go_ret
  exact ⟨rfl, HB2.out⟩

set_option maxHeartbeats 2000000 in
theorem idxL1 (p : Lt → Bool) (l : List Lt) (w : World) (v : Value) (p1 p2 : Nat) (hv : LtS w v l) (hl : l.length ≤ 1048576)
    (hc : ∀ (t : Lt) (W : World) (va : Value), t ∈ l → Below w.heap.size w W → TmS W va t.tm.args → Calls Tryz.prog 49 #[.agg #[.bool t.var, .string t.tm.name, va], .pointer (some ⟨p1, 0, none⟩), .pointer (some ⟨p2, 0, none⟩)] W (Ans (.bool (p t)) W)) :
    Calls Tryz.prog 87 #[v, .func (.func 49) #[] #[.pointer (some ⟨p1, 0, none⟩), .pointer (some ⟨p2, 0, none⟩)]] w (IdxL p l w) := by
  obtain ⟨a, c, rfl⟩ := hv.is_slice
  have HV := Lib.hid hv
  have HC := Lib.hid hc
  clear hv hc
  go_enter Tryz.func87, Tryz.ntmps87
  go_wp2
  go_loopw [8] (fun i wr => ∃ k : Nat, k ≤ l.length ∧ i = .int .i64 k ∧ (∀ (j : Nat) d, j < k → l[j]? = some d → p d = false) ∧ Below w.heap.size w wr) (fun i _ => l.length - (intOf i).toNat)
  case atStart => exact ⟨0, Nat.zero_le _, rfl, fun j d hj => absurd hj (Nat.not_lt_zero _), Below.refl _ _⟩
  case round =>
    obtain ⟨k, hk, rfl, hq, hbel⟩ := hrel
    have HQ := Lib.hid hq
    have HB := Lib.hid hbel
    clear hq hbel
    by_cases hlt : k < l.length
    · obtain ⟨d, hd⟩ : ∃ d, l[k]? = some d := ⟨_, List.getElem?_eq_getElem hlt⟩
      obtain ⟨b, off, rfl, va, c0, c1, c2, hva⟩ := HV.out.get hd
      obtain ⟨pa, ca, rfl⟩ := hva.is_slice
      have c0' := carry_cell c0 HB.out
      have c1' := carry_cell c1 HB.out
      have c2' := carry_cell c2 HB.out
      have HD := Lib.hid hd
      have CT := HC.out d wr _ (mem_of_at hd) HB.out (hva.kept HB.out)
      obtain ⟨q, hq⟩ : ∃ q, q = p d := ⟨_, rfl⟩
      rw [← hq] at CT
      have CT := Lib.hid CT
      have HQD := Lib.hid hq
      clear hd hva c0 c1 c2 hq
      go_wp2_with fail
      refine CT.out.mono ?_
      rintro e w2 ⟨rfl, hb⟩
      have HB2 := Lib.hid (carry_below HB.out (Nat.le_refl _) hb)
      clear hb
      cases q with
      | true =>
        have HE : Hid (IdxL p l w (.returned (.int .i64 k)) w2) := Lib.hid ⟨k, rfl, .inr ⟨k, rfl, hlt, HQ.out, fun x hx => by rw [HD.out] at hx; injection hx with hx; rw [← hx]; exact HQD.out.symm⟩, HB2.out⟩
        go_wp2
        go_ret
        exact HE.out
      | false =>
        have HN : Hid (∀ (j : Nat) x, j < k + 1 → l[j]? = some x → p x = false) := Lib.hid (fun j x hj hx => by
          by_cases e : j = k
          · subst e; rw [HD.out] at hx; injection hx with hx; rw [← hx]; exact HQD.out.symm
          · exact HQ.out j x (by omega) hx)
        go_wp2
        go_roundw
        case rel => exact ⟨k + 1, by omega, by go_num, HN.out, HB2.out⟩
        case measure => simp [intOf]; omega
    · have hke : k = l.length := by omega
      have HE : Hid (IdxL p l w (.returned (.int .i64 (-1))) wr) := Lib.hid ⟨-1, rfl, .inl ⟨rfl, fun d hd => by
        obtain ⟨j, hj⟩ := List.getElem?_of_mem hd
        exact HQ.out j d (by rw [hke]; exact (List.getElem?_eq_some_iff.1 hj).1) hj⟩, HB.out⟩
      go_wp2
      go_ret
      exact HE.out

theorem conL_any (p : Lt → Bool) (l : List Lt) (w : World) (v : Value) (p1 p2 : Nat) (hv : LtS w v l) (hl : l.length ≤ 1048576)
    (hc : ∀ (t : Lt) (W : World) (va : Value), t ∈ l → Below w.heap.size w W → TmS W va t.tm.args → Calls Tryz.prog 49 #[.agg #[.bool t.var, .string t.tm.name, va], .pointer (some ⟨p1, 0, none⟩), .pointer (some ⟨p2, 0, none⟩)] W (Ans (.bool (p t)) W)) :
    Calls Tryz.prog 50 #[v, .func (.func 49) #[] #[.pointer (some ⟨p1, 0, none⟩), .pointer (some ⟨p2, 0, none⟩)]] w (Ans (.bool (l.any p)) w) := by
  have CI := Lib.hid (idxL1 p l w _ p1 p2 hv hl hc)
  obtain ⟨a, c, rfl⟩ := hv.is_slice
  clear hv hc
  go_enter Tryz.func50, Tryz.ntmps50
  go_wp2_with fail
  refine CI.out.mono ?_
  intro e w1 h
  obtain ⟨i, rfl, hi, hb⟩ := idxL_any h
  have HI := Lib.hid hi
  have HB := Lib.hid hb
  clear h hi hb
  go_wp2
  go_ret
  exact ⟨ret_bool HI.out, HB.out⟩

theorem topB_any {o : Od} {l : List Lt} {d : Lt} : o.topB l d = !(l.any fun x => o.mulC x.msS d.msS == 2) := by
  unfold Od.topB
  rw [Bool.eq_iff_iff]
  simp

set_option maxRecDepth 100000 in
set_option maxHeartbeats 8000000 in
theorem implMax_any (o : Od) (ho : o.wt ≤ 1048576) (l : List Lt) (w : World) (sv wv va : Value) (hv : OdV w sv wv o) (ht : LtS w va l) (hw : wtC l ≤ 1048576) :
    Calls Tryz.prog 18 #[.agg #[sv, wv, .int .i64 o.va], .agg #[va]] w (MaxEnd (o.mxR l) (o.mxOk l) w) := by
  obtain ⟨sa, sc, wa, wc, rfl, rfl⟩ := hv.open
  obtain ⟨pa, ca, rfl⟩ := ht.is_slice
  obtain ⟨i1, gi, gz0, gz1, gz2⟩ := info_parts infoInt
  have hl6 : l.length ≤ 1048576 := Nat.le_trans (wtC_len l) hw
  obtain ⟨w1, hw1⟩ : ∃ w1, (w.alloc (.cells #[.slice sa o.sy.length sc, .slice wa o.ws.length wc, .int .i64 o.va] 35)).alloc (.cells #[.slice pa l.length ca] 54) = w1 := ⟨_, rfl⟩
  have HB : Hid (Below w.heap.size w w1) := Lib.hid (by rw [← hw1]; exact ((Below.refl w.heap.size w).alloc (Nat.le_refl _) _).alloc (by simp) _)
  have H3 : Hid (OdB w1 w.heap.size (.slice sa o.sy.length sc) (.slice wa o.ws.length wc) o) := Lib.hid (by rw [← hw1]; exact (thr_new w _ _ _ _ _ rfl).alloc _)
  have H1 : Hid (Oner w1 (w.heap.size + 1) (.slice pa l.length ca)) := Lib.hid (by rw [← hw1]; exact oner_new _ _ _ (w.heap.size + 1) (by simp))
  have HV := Lib.hid hv
  have HT := Lib.hid ht
  have HW := Lib.hid hw
  have CG := Lib.hid (fun W (hW : Below w.heap.size w W) => covLit_any o ho l W _ _ _ (hv.kept hW) (ht.kept hW) hl6 (fun d hd => Nat.le_trans (wtC_tm hd) hw))
  clear hv ht hw
  obtain ⟨b0, b1, b2, b3⟩ := H3.out
  obtain ⟨l0, l1⟩ := H1.out
  by_cases hl8 : l.length ≤ 8
  · have hl9 : ¬ (8 : Int) < (l.length : Int) := by omega
    have hl9t : decide ((8 : Int) < (l.length : Int)) = false := by simp; omega
    obtain ⟨gc, hgc⟩ : ∃ gc, gc = (o.good && l.all o.litOk) := ⟨_, rfl⟩
    rw [← hgc] at CG
    have HGC : Hid (o.mxOk l = gc) := Lib.hid (by unfold Od.mxOk; rw [hgc, decide_eq_true hl8]; rfl)
    have HGD := Lib.hid hgc
    clear hgc
    go_enter Tryz.func18, Tryz.ntmps18
    go_wp2_with fail
    refine (CG.out _ HB.out).mono ?_
    rintro e w2 ⟨rfl, hb⟩
    replace HB := Lib.hid (carry_below HB.out (Nat.le_refl _) hb)
    replace H3 := Lib.hid (H3.out.kept hb)
    replace H1 := Lib.hid (H1.out.kept hb)
    clear hb b0 b1 b2 b3 l0 l1 hw1 CG
    cases gc with
    | false =>
      have HE : Hid (MaxEnd (o.mxR l) (o.mxOk l) w (.returned (.tuple #[.slice (some ⟨w2.heap.size, 0, none⟩) 0 0, .bool false])) (w2.alloc (.cells #[] 3))) := Lib.hid ⟨_, ret_sl2 HGC.out.symm, by rw [mxR_no HGC.out]; exact .inl ⟨_, _, rfl, rfl⟩, HB.out.alloc HB.out.size _⟩
      go_wp2
      go_ret2
      exact HE.out
    | true =>
      have hgd := HGD.out.symm
      rw [Bool.and_eq_true] at hgd
      have HFI := Lib.hid (Od.good_fine hgd.1)
      have HZ : Hid (∀ d ∈ l, o.litOk d = true) := Lib.hid (List.all_eq_true.1 hgd.2)
      clear hgd
      obtain ⟨w3, hw3⟩ : ∃ w3, w2.alloc (.cells #[] 3) = w3 := ⟨_, rfl⟩
      have hb : Below w2.heap.size w2 w3 := by rw [← hw3]; exact (Below.refl _ _).alloc (Nat.le_refl _) _
      have HB3 := Lib.hid hb
      have HOUT0 : Hid (w3.ownsRow w2.heap.size 3 1 (.slice (some ⟨w2.heap.size, 0, none⟩) 0 0) 0 []) := Lib.hid (by rw [← hw3]; exact World.ownsRow_made w2 #[] 0 (Nat.le_refl _) (by decide) (by simp))
      obtain ⟨l0, l1⟩ := H1.out.kept hb
      clear hb
      go_wp2
      try rw [hw3]
      clear hw3 l0 l1
      go_loopw [6, 26] (fun ov i wr => ∃ (k : Nat) (nm : Value), k ≤ l.length ∧ i = .int .i64 k ∧ nm = ov ∧ wr.ownsRow w2.heap.size 3 1 nm (o.mxK l k).length (intV (o.mxK l k)) ∧ Below w2.heap.size w2 wr) (fun _ i _ => l.length - (intOf i).toNat)
      case atStart => exact ⟨0, _, Nat.zero_le _, rfl, rfl, HOUT0.out, HB3.out⟩
      case round =>
        obtain ⟨k, nm, hk, rfl, rfl, hout, hb2⟩ := hrel
        obtain ⟨m, hm⟩ : ∃ m, m = (o.mxK l k).length := ⟨_, rfl⟩
        have hmk : m ≤ k := by rw [hm]; exact mxK_len o l k
        have HM := Lib.hid hm
        obtain ⟨vo, co, rfl⟩ : ∃ p c, nm = .slice p m c := by
          rcases hout.2 with ⟨rfl, h0⟩ | ⟨g, cap, cur, rfl, _⟩
          · exact ⟨none, 0, by rw [hm, h0]⟩
          · exact ⟨_, _, by rw [hm]⟩
        obtain ⟨xs, hxs⟩ : ∃ xs, xs = intV (o.mxK l k) := ⟨_, rfl⟩
        have HXS := Lib.hid hxs
        rw [← hm, ← hxs] at hout
        have HOUT := Lib.hid hout
        have HB2 := Lib.hid hb2
        clear hout hb2 hm hxs
        by_cases hlt : k < l.length
        · obtain ⟨d, hd⟩ : ∃ d, l[k]? = some d := ⟨_, List.getElem?_eq_getElem hlt⟩
          obtain ⟨b, off, rfl, vt, c0, c1, c2, hvt⟩ := HT.out.get hd
          obtain ⟨pt, ct, rfl⟩ := hvt.is_slice
          have HBR := Lib.hid (HB.out.trans (HB2.out.mono HB.out.size))
          replace c0 := carry_cell c0 HBR.out
          replace c1 := carry_cell c1 HBR.out
          replace c2 := carry_cell c2 HBR.out
          have HD := Lib.hid hd
          have HNXT := Lib.hid (mxK_next (o := o) hd)
          obtain ⟨wq, hwq⟩ : ∃ wq, wr.alloc (.cells #[.bool d.var, .string d.tm.name, .slice pt d.tm.args.length ct] 41) = wq := ⟨_, rfl⟩
          have BQ : Hid (Below wr.heap.size wr wq) := Lib.hid (by rw [← hwq]; exact (Below.refl _ _).alloc (Nat.le_refl _) _)
          have TQ : Hid (Thr wq wr.heap.size (.bool d.var) (.string d.tm.name) (.slice pt d.tm.args.length ct)) := Lib.hid (by rw [← hwq]; exact thr_new _ _ _ _ _ _ rfl)
          have HBQ2 := Lib.hid (carry_below HB2.out (Nat.le_refl _) BQ.out)
          have HBQ := Lib.hid (HB.out.trans (HBQ2.out.mono HB.out.size))
          have H3Q := Lib.hid (H3.out.kept HBQ2.out)
          have CI := conL_any (fun x => o.mulC x.msS d.msS == 2) l wq _ w.heap.size wr.heap.size (HT.out.kept HBQ.out) hl6 (fun t W va htm hW hva => mx1_any o ho HFI.out t d W _ _ va _ _ _ ((HV.out.kept HBQ.out).kept hW) (H3Q.out.kept hW) hva (TQ.out.kept hW) ((hvt.kept HBQ.out).kept hW) (Nat.le_trans (wtC_tm htm) HW.out) (Nat.le_trans (wtC_tm (mem_of_at hd)) HW.out) (HZ.out t htm) (HZ.out d (mem_of_at hd)))
          obtain ⟨qa, hqa⟩ : ∃ qa, qa = l.any fun x => o.mulC x.msS d.msS == 2 := ⟨_, rfl⟩
          rw [← hqa] at CI
          have HTOP : Hid (o.topB l d = !qa) := Lib.hid (by rw [topB_any, hqa])
          have HCI := Lib.hid CI
          obtain ⟨m0, m1⟩ := H1.out.kept HBQ2.out
          clear hd hvt hqa CI
          go_wp2_with fail
          refine HCI.out.mono ?_
          rintro e w5 ⟨rfl, hb⟩
          have HB5 := Lib.hid (carry_below HBQ2.out (Nat.le_refl _) hb)
          have HOUT5 := Lib.hid (own_kept (own_kept HOUT.out BQ.out) hb)
          clear hb c0 c1 c2 m0 m1 hwq HCI
          cases qa with
          | true =>
            have HNE : Hid (o.mxK l (k + 1) = o.mxK l k) := Lib.hid (by rw [HNXT.out, HTOP.out]; simp)
            go_wp2
            go_roundw
            case rel => exact ⟨k + 1, _, by omega, by go_num, rfl, by rw [HNE.out, ← HM.out, ← HXS.out]; exact HOUT5.out, HB5.out⟩
            case measure => simp [intOf]; omega
          | false =>
            have HNE : Hid (o.mxK l (k + 1) = o.mxK l k ++ [(k : Int)]) := Lib.hid (by rw [HNXT.out, HTOP.out]; simp)
            have hsz := HB5.out.size
            go_wp2_with (at_builtin; go_loud (refine wpList_append_own _ rfl _ _ 23 rfl w2.heap.size 3 i1 (.int .i64 0) 1 8 Tryz.underlying23 gi gz0 gz1 gz2 rfl (by decide) (.slice vo m co) m xs rfl (HOUT5.out.alloc _) ⟨w5.heap.size, 0, none⟩ 1 1 [.int .i64 k] rfl rfl (cell_one_new _ _ _) (by simp [Value.oneCell']) (by unfold maxLen; omega) (by omega) (by simp; omega) ?_; intro v6 w6 hown2 hg2 _; obtain ⟨g2, cap2, rfl⟩ := ownsRow_succ hown2; have HO2 := Lib.hid hown2; have HG2 := Lib.hid hg2; clear hown2 hg2))
            have HB6 := Lib.hid ((HB5.out.alloc HB5.out.size (.cells #[.int .i64 k] 3)).grown HG2.out (by simp; omega) (fun r e => (HOUT5.out.lt r e).1))
            have HFIN : Hid (w6.ownsRow w2.heap.size 3 1 (.slice (some ⟨g2, 0, none⟩) (m + 1) cap2) (o.mxK l (k + 1)).length (intV (o.mxK l (k + 1)))) := Lib.hid (by
              have h := HO2.out
              rw [HXS.out] at h
              rw [HNE.out, List.length_append, ← HM.out]
              simpa [intV] using h)
            go_roundw
            case rel => exact ⟨k + 1, _, by omega, by go_num, rfl, HFIN.out, HB6.out⟩
            case measure => simp [intOf]; omega
        · have hke : k = l.length := by omega
          have HE : Hid (MaxEnd (o.mxR l) (o.mxOk l) w (.returned (.tuple #[.slice vo m co, .bool true])) wr) := Lib.hid ⟨_, ret_sl2 HGC.out.symm, by
            rw [mxR_yes HGC.out]
            have h := HOUT.out
            rw [HXS.out, HM.out, hke] at h
            rw [HM.out, hke]
            exact intsO_of (own_base h HB.out.size), HB.out.trans (HB2.out.mono HB.out.size)⟩
          go_wp2
          go_ret2
          exact HE.out
  · have hl9 : (8 : Int) < (l.length : Int) := by omega
    have hl9t : decide ((8 : Int) < (l.length : Int)) = true := by simp; omega
    have HO := mxOk_l (o := o) hl8
    have HE : Hid (MaxEnd (o.mxR l) (o.mxOk l) w (.returned (.tuple #[.slice (some ⟨w1.heap.size, 0, none⟩) 0 0, .bool false])) (w1.alloc (.cells #[] 3))) := Lib.hid ⟨_, ret_sl2 HO.symm, by rw [mxR_no HO]; exact .inl ⟨_, _, rfl, rfl⟩, HB.out.alloc HB.out.size _⟩
    clear HO
    go_enter Tryz.func18, Tryz.ntmps18
    go_wp2
    go_ret2
    exact HE.out

end Go.Proofs.YtohalpafmcobpaaGreat
