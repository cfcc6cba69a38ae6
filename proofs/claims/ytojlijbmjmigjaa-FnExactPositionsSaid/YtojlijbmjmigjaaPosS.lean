/- The model's positions of a term: contracts, for terms of at most 1048576 names' bytes and arguments. -/
import Derived.Test.YtojlijbmjmigjaaPosX
namespace Go.Proofs.Ytojlijbmjmigjaa
open Go.RowKit
set_option linter.unusedVariables false

def WalkEnd (t : Tm) (p : List Int) (w : World) (e : Ending) (w' : World) : Prop := ∃ v, e = .returned v ∧ Acc w' w.heap.size v (posT p t) ∧ Below w.heap.size w w'

def WalkS (t : Tm) : Prop := ∀ (p : List Int) (w : World) (va vp : Value), TmS w va t.args → PosV w vp p → t.wt ≤ 1048576 → p.length + t.dp ≤ 1048576 →
  Calls Try.prog 84 #[.agg #[.string t.name, va], vp] w (WalkEnd t p w)

theorem app_pos {w7 : World} {base g7 c7 : Nat} {p : List Int} {x : Int} (h : w7.ownsRow base 3 1 (.slice (some ⟨g7, 0, none⟩) (p.length + 1) c7) (p.length + 1) (ints p ++ [.int .i64 x])) : PosV w7 (.slice (some ⟨g7, 0, none⟩) (p.length + 1) c7) (p ++ [x]) := by
  have hl : (p ++ [x]).length = p.length + 1 := by simp
  refine OwnP.read (base := base) ⟨?_, g7, c7, by rw [hl]⟩
  rw [hl, ints_append]; exact h

theorem app_below {wr w6 w7 : World} {o : Obj} {g6 n c6 : Nat} (hb : Below wr.heap.size wr w6) (hg : wr.heap.size ≤ g6) (hgr : (w6.alloc o).grownBy w7 (Value.ownBlock (.slice (some ⟨g6, 0, none⟩) n c6))) : Below wr.heap.size wr w7 :=
  below_grown (hb.alloc hb.size o) (Nat.le_refl _) hgr (fun g h => (Option.some.inj h) ▸ hg)

theorem app_below' {wr w6 w7 : World} {g6 n c6 : Nat} (hb : Below wr.heap.size wr w6) (hg : wr.heap.size ≤ g6) (hgr : w6.grownBy w7 (Value.ownBlock (.slice (some ⟨g6, 0, none⟩) n c6))) : Below wr.heap.size wr w7 :=
  below_grown hb (Nat.le_refl _) hgr (fun g h => (Option.some.inj h) ▸ hg)

theorem Acc.form {w : World} {base : Nat} {v : Value} {L : List (List Int)} (h : Acc w base v L) (hp : 0 < L.length) : ∃ g n c, v = .slice (some ⟨g, 0, none⟩) n c ∧ n = L.length ∧ base ≤ g ∧ g < w.heap.size := by
  obtain ⟨us, Ss, h1, h2, h3⟩ := h
  obtain ⟨g, cap, hv, hb, hl⟩ := h1.form hp
  exact ⟨g, _, cap, hv, rfl, hb, hl⟩

theorem Acc.mono {w : World} {base base' : Nat} {v : Value} {L : List (List Int)} (h : Acc w base v L) (hb : base' ≤ base) : Acc w base' v L := by
  obtain ⟨us, Ss, h1, h2, h3⟩ := h
  exact ⟨us, Ss, ⟨h1.1, h1.2.imp id fun ⟨g, cap, cur, a, b, c⟩ => ⟨g, cap, cur, a, Nat.le_trans hb b, c⟩⟩, h2.mono hb, h3⟩

/-- A row of one row. -/
theorem Acc.one {w : World} {base : Nat} {v : Value} {p : List Int} (h : OwnP w base v p) (hb : base ≤ w.heap.size) : Acc (w.alloc (.cells #[v] 43)) base (.slice (some ⟨w.heap.size, 0, none⟩) 1 1) [p] := by
  obtain ⟨g, hg, hbg, hgl, ho⟩ := h.own
  refine ⟨[v], _, World.ownsRow_lit w #[v] 1 hb (by decide) (by simp), (Rws.one (base := base) ho (fun b hb => by subst hb; exact ⟨hbg, hgl⟩)).kept ((Below.refl _ _).alloc (Nat.le_refl _) _), fun g' hg' k hk hs => ?_⟩
  have e : w.heap.size = g' := Option.some.inj hg'
  have e2 : g' = g := hs
  omega

theorem posT_pos (p : List Int) (t : Tm) : 0 < (posT p t).length := by rw [posT_len]; exact t.sz_pos

theorem dp_arg {t s : Tm} (h : s ∈ t.args) : s.dp + 1 ≤ t.dp := by
  rw [t.dp_eq]; have := maxL_mem (f := Tm.dp) h; omega

/-- Two rows of rows, the second made since the first: what an append of the second to the first asks. -/
theorem acc_two {wr w2 : World} {base B g5 n5 c5 : Nat} {v : Value} {L L5 : List (List Int)} (h : Acc wr base v L) (hb : Below wr.heap.size wr w2) (hB : wr.heap.size ≤ B) (hbase : base ≤ wr.heap.size) (h5 : Acc w2 B (.slice (some ⟨g5, 0, none⟩) n5 c5) L5) (hn5 : n5 = L5.length) :
    ∃ us us5 S', w2.ownsRow base 43 1 v L.length us ∧ Rws w2 base (us ++ us5) (L ++ L5) S' ∧ (∀ g, v.ownBlock = some g → ∀ k, k < (L ++ L5).length → ¬ S' k g) ∧ us5.length = n5 ∧
      (∀ j u, us5[j]? = some u → w2.cell? ((⟨g5, 0, none⟩ : Addr).add j) = some u) ∧ (∀ u ∈ us5, u.oneCell' = true) := by
  obtain ⟨us, Ss, h1, h2, h3⟩ := h
  obtain ⟨us5, S5, k1, k2, k3⟩ := h5
  have hz := hb.size
  have r1 := h2.kept hb
  have hk2 : Rws w2 wr.heap.size us5 L5 S5 := k2.mono hB
  have hlt : ∀ k b, k < L.length → Ss k b → b < wr.heap.size := fun k b hk hs => (h2.sub k b hk hs).2
  have hge : ∀ k b, k < L5.length → S5 k b → wr.heap.size ≤ b := fun k b hk hs => (hk2.sub k b hk hs).1
  refine ⟨us, us5, fun k => if k < L.length then Ss k else S5 (k - L.length), own_kept h1 hb, ?_, ?_, ?_, ?_, ?_⟩
  · exact r1.app (hk2.mono hbase) fun i j b hi hj hs hs' => by have := hlt i b hi hs; have := hge j b hj hs'; omega
  · intro g hg k hk hs
    have hl := h1.lt g hg
    rw [List.length_append] at hk
    by_cases e : k < L.length
    · simp only [if_pos e] at hs; exact h3 g hg k e hs
    · simp only [if_neg e] at hs; have := hge _ g (by omega) hs; omega
  · rw [hn5]; exact k2.len
  · exact k1.cells (g := g5) rfl
  · intro u hu
    obtain ⟨j, hj⟩ := List.mem_iff_getElem?.1 hu
    have hjl : j < L5.length := by have := (List.getElem?_eq_some_iff.1 hj).1; rw [k2.len] at this; exact this
    obtain ⟨u', hu', ho⟩ := k2.row j _ (List.getElem?_eq_getElem hjl)
    have e : u = u' := by rw [hj] at hu'; exact Option.some.inj hu'
    subst e
    rcases ho with ⟨a, c, rfl, _⟩ | ⟨g, c, rfl, _⟩ <;> rfl

set_option maxRecDepth 100000 in
set_option maxHeartbeats 4000000 in
theorem walk_of (t : Tm) (h : ∀ s ∈ t.args, WalkS s) : WalkS t := by
  intro p w va vp hv hp hw hd
  have H := Lib.hid h
  have HL := Lib.hid (fun (s : Tm) (hs : s ∈ t.args) => Nat.le_trans (Tm.wt_arg hs) hw)
  have hlen := Tm.wt_len t
  obtain ⟨a, c, rfl⟩ := hv.is_slice
  obtain ⟨g0, c0, rfl, hg0, hc0⟩ := hp
  have HP : Hid (PosV w (.slice (some ⟨g0, 0, none⟩) p.length c0) p) := Lib.hid ⟨g0, c0, rfl, hg0, hc0⟩
  have HV := Lib.hid hv
  obtain ⟨i0, hi, hz0, hz1, hz2⟩ := info_parts infoInt
  obtain ⟨j0, hj, hy0, hy1, hy2⟩ := info_parts infoInts
  have HB1 := Lib.hid ((Below.refl w.heap.size w).alloc (Nat.le_refl _) (.cells #[.string t.name, .slice a t.args.length c] 29))
  have H2 := Lib.hid (two_new w (.string t.name) (.slice a t.args.length c) 29 _ rfl)
  have hpl : p.length ≤ 1048576 := by omega
  have C0 : Hid (∀ W : World, Below w.heap.size w W → Calls Try.prog 112 #[.slice (some ⟨g0, 0, none⟩) p.length c0] W (OwnPEnd p W)) := Lib.hid (fun W hW => ownP_any p _ W (HP.out.kept hW) hpl)
  clear h hv hc0
  go_enter Try.func84, Try.ntmps84
  go_wp2_with (go_at_call 112; refine (C0.out _ HB1.out).mono ?_; rintro e w1 ⟨v1, rfl, ho1, hb1⟩; obtain ⟨g1, c1, rfl⟩ := ho1.2; have HO1 := Lib.hid ho1; have HW1 := Lib.hid hb1; have T1 := Lib.hid (H2.out.kept hb1); clear ho1 hb1)
  have HS0 : Hid (Acc (w1.alloc (.cells #[.slice (some ⟨g1, 0, none⟩) p.length c1] 43)) (w.heap.size + 1) (.slice (some ⟨w1.heap.size, 0, none⟩) 1 1) (p :: posL p 0 (t.args.take 0))) := Lib.hid (by
    have h := HO1.out
    rw [show (w.alloc (.cells #[.string t.name, .slice a t.args.length c] 29)).heap.size = w.heap.size + 1 by simp] at h
    have hz := HW1.out.size
    exact Acc.one h (by simp at hz; omega))
  have HSB := Lib.hid ((carry_below HB1.out (Nat.le_refl _) HW1.out).alloc (by have hz := HW1.out.size; simp at hz; omega) (.cells #[.slice (some ⟨g1, 0, none⟩) p.length c1] 43))
  have HST := Lib.hid (T1.out.alloc (.cells #[.slice (some ⟨g1, 0, none⟩) p.length c1] 43))
  go_loopw [5, 6] (fun ov i wr => ∃ k : Nat, k ≤ t.args.length ∧ i = .int .i64 k ∧ Acc wr (w.heap.size + 1) ov (p :: posL p 0 (t.args.take k)) ∧ Below w.heap.size w wr ∧ Two wr w.heap.size (.string t.name) (.slice a t.args.length c)) (fun _ i _ => t.args.length - (intOf i).toNat)
  case atStart => exact ⟨0, Nat.zero_le _, rfl, HS0.out, HSB.out, HST.out⟩
  case round =>
    obtain ⟨k, hk, rfl, hacc, hbe, htwo⟩ := hrel
    have HA := Lib.hid hacc
    have HBE := Lib.hid hbe
    have HTW := Lib.hid htwo
    obtain ⟨d0, d1, d2⟩ := htwo
    clear hacc hbe
    by_cases hlt : k < t.args.length
    · obtain ⟨s, hs⟩ : ∃ s, t.args[k]? = some s := ⟨_, List.getElem?_eq_getElem hlt⟩
      obtain ⟨b, off, rfl, va, c0', c1', hva⟩ := HV.out.get hs
      have e0 := carry_cell c0' HBE.out
      have e1 := carry_cell c1' HBE.out
      have HVA := Lib.hid (hva.kept HBE.out)
      have HS := Lib.hid hs
      clear hs c0' c1' hva
      have hB0 : Below wr.heap.size wr wr.drew := (Below.refl _ _).drew
      have hB1 : Below w.heap.size w wr.drew := HBE.out.drew
      obtain ⟨gu, nu, cu, rfl, hnu, hgu, hlu⟩ := HA.out.form (by simp)
      have hns : nu + s.sz ≤ 1048578 := by
        have h1 := sumL_next (f := Tm.sz) HS.out
        have h2 := sumL_take Tm.sz t.args (k + 1)
        have h3 := t.sz_eq
        have h4 := t.sz_wt
        rw [List.length_cons, posL_len] at hnu
        omega
      have HNU := Lib.hid hnu
      clear hnu
      have hwr : w.heap.size < wr.heap.size := World.block_lt_of_cell? wr _ d0
      have hpk : (p ++ [(k : Int)]).length + s.dp ≤ 1048576 := by have h1 := dp_arg (mem_of_at HS.out); simp; omega
      have C2 : Hid (∀ (W : World) (gg cc : Nat), Below wr.heap.size wr W → PosV W (.slice (some ⟨gg, 0, none⟩) (p.length + 1) cc) (p ++ [(k : Int)]) → Calls Try.prog 84 #[.agg #[.string s.name, va], .slice (some ⟨gg, 0, none⟩) (p.length + 1) cc] W (WalkEnd s (p ++ [(k : Int)]) W)) := Lib.hid (fun W gg cc hW hP => H.out s (mem_of_at HS.out) _ W va _ (HVA.out.kept hW) hP (HL.out s (mem_of_at HS.out)) hpk)
      have hBb0 : Below wr.heap.size wr (wr.alloc (.cells #[Value.int .i64 k] 3)).drew := ((Below.refl _ _).alloc (Nat.le_refl _) _).drew
      have hBb1 : Below w.heap.size w (wr.alloc (.cells #[Value.int .i64 k] 3)).drew := carry_below HBE.out (Nat.le_refl _) hBb0
      have hcB : (wr.alloc (.cells #[Value.int .i64 k] 3)).drew.cell? ⟨wr.heap.size, 0, none⟩ = some (.int .i64 k) := World.news_of_block (cs := #[Value.int .i64 k]) (t := 3) (fr := (0, 0)) (heap_alloc_new wr _) 0 _ rfl
      have HCB := Lib.hid hcB
      have y0 := carry_cell d0 hBb0
      have y1 := carry_cell d1 hBb0
      have y2 := carry_cell e0 hBb0
      have y3 := carry_cell e1 hBb0
      clear hcB
      go_wp2_with fail
      go_region_law (first
          | (refine step_append_lies _ (by rfl) (.tmp 24) (.tmp 26) _ (by rfl) w6base 3 i0 _ 1 8 Try.underlying43 hi hz0 hz1 hz2 rfl (Nat.one_pos) (.slice (some ⟨g6, 0, none⟩) p.length c6) p.length (ints p) (by rfl) (HO6.out.1.alloc _) ⟨w6.heap.size, 0, none⟩ 1 1 [.int .i64 k] (by rfl) (by rfl) (HNW6.out) HON6.out (Nat.one_pos) (by unfold maxLen; omega) (by omega) HBS6.out (w6.heap.size + 1) HSZ6.out ?_; intro g7 c7 w7 hown7 hgrow7 hat7 hlt7; have HP7 := Lib.hid (app_pos hown7); have HB7 := Lib.hid (app_below HB6.out HG6.out hgrow7); have r0 := carry_cell d0 HB7.out; have r1 := carry_cell d1 HB7.out; have r2 := carry_cell e0 HB7.out; have r3 := carry_cell e1 HB7.out; clear hown7 hgrow7 hat7 hlt7)
          | (refine step_append_lies _ (by rfl) (.tmp 24) (.tmp 26) _ (by rfl) w6base 3 i0 _ 1 8 Try.underlying43 hi hz0 hz1 hz2 rfl (Nat.one_pos) (.slice (some ⟨g6, 0, none⟩) p.length c6) p.length (ints p) (by rfl) HO6.out.1 ⟨wr.heap.size, 0, none⟩ 1 1 [.int .i64 k] (by rfl) (by rfl) (HNW6.out) HON6.out (Nat.one_pos) (by unfold maxLen; omega) (by omega) HBS6.out w6.heap.size rfl ?_; intro g7 c7 w7 hown7 hgrow7 hat7 hlt7; have HP7 := Lib.hid (app_pos hown7); have HB7 := Lib.hid (app_below' HB6.out HG6.out hgrow7); have r0 := carry_cell d0 HB7.out; have r1 := carry_cell d1 HB7.out; have r2 := carry_cell e0 HB7.out; have r3 := carry_cell e1 HB7.out; clear hown7 hgrow7 hat7 hlt7)
          | ((refine step_append_lies _ (by rfl) (.tmp 17) (.tmp 28) _ (by rfl) (w.heap.size + 1) 43 j0 (.slice none 0 0) 1 24 Try.underlying52 hj hy0 hy1 hy2 rfl (Nat.one_pos) (.slice (some ⟨gu, 0, none⟩) nu cu) nu us (by rfl) HUO.out ⟨g8, 0, none⟩ n8 c8 us5 (by rfl) HUL.out HUC.out HU1.out (by omega) (by unfold maxLen; omega) (by omega) (by omega) w8.heap.size rfl ?_); intro g9 c9 w9 hown9 hgrow9 hat9 hlt9; (have HA9 := Lib.hid (Acc.appended HUR.out HUN.out HNN.out hown9 hgrow9 (hat9.imp id (fun e => Nat.le_of_eq e.symm)))); have HG9 := Lib.hid hgrow9; clear hown9 hgrow9 hat9 hlt9)
          | (go_simp; go_at_call 84; (refine (C2.out w7 g7 c7 HB7.out HP7.out).mono ?_); (rintro e w8 ⟨v8, rfl, hacc8, hb8⟩); (obtain ⟨g8, n8, c8, rfl, hn8, hg8, hl8⟩ := hacc8.form (posT_pos _ _)); (have HB8 := Lib.hid (carry_below HB7.out (Nat.le_refl _) hb8)); (obtain ⟨us, us5, S', huo, hur, hun, hul, huc, hu1⟩ := acc_two HA.out HB8.out (HB7.out.size) (by omega) hacc8 hn8); (have HUO : Hid (w8.ownsRow (w.heap.size + 1) 43 1 (.slice (some ⟨gu, 0, none⟩) nu cu) nu us) := Lib.hid (HNU.out.symm ▸ huo)); (have HUR := Lib.hid hur); (have HUN := Lib.hid hun); (have HUL : Hid (us5.length = n8 * 1) := Lib.hid (by omega)); (have HUC := Lib.hid huc); (have HU1 := Lib.hid hu1); (have hs8 := HB8.out.size); (rw [posT_len] at hn8); (have HNN : Hid (nu + n8 = ((p :: posL p 0 (t.args.take k)) ++ posT (p ++ [(k : Int)]) s).length) := Lib.hid (by rw [List.length_append, ← HNU.out, hn8, posT_len])); (have hn8b : n8 ≤ s.sz := Nat.le_of_eq hn8; have hn8p : 0 < n8 := (hn8 ▸ s.sz_pos)); clear hn8 huo hur hun hul huc hu1 hacc8 hb8)
          | (go_simp; go_at_call 112; refine (C0.out _ hB1).mono ?_; rintro e w6 ⟨v6, rfl, ho, hb⟩; obtain ⟨g6, c6, rfl⟩ := ho.2; obtain ⟨gx, hgx, hgl, hgs, _⟩ := ho.own; have HG6 : Hid (wr.heap.size ≤ g6) := Lib.hid (by have e := Option.some.inj hgx; simp at e hgl; omega); have HO6 := Lib.hid ho; have HB6 := Lib.hid (carry_below hB0 (Nat.le_refl _) hb); have q0 := carry_cell d0 HB6.out; have q1 := carry_cell d1 HB6.out; have q2 := carry_cell e0 HB6.out; have q3 := carry_cell e1 HB6.out; have x0 := carry_cell d0 (HB6.out.alloc HB6.out.size (.cells #[Value.int .i64 k] 3)); have x1 := carry_cell d1 (HB6.out.alloc HB6.out.size (.cells #[Value.int .i64 k] 3)); have x2 := carry_cell e0 (HB6.out.alloc HB6.out.size (.cells #[Value.int .i64 k] 3)); have x3 := carry_cell e1 (HB6.out.alloc HB6.out.size (.cells #[Value.int .i64 k] 3)); have hw6 := hb.size; obtain ⟨w6base, hw6b⟩ : ∃ n, n = wr.drew.heap.size := ⟨_, rfl⟩; rw [← hw6b] at HO6; have HNW6 := Lib.hid (World.news_of_block (cs := #[Value.int .i64 k]) (t := 3) (fr := (0, 0)) (heap_alloc_new w6 _)); have HON6 : Hid (∀ u ∈ [Value.int .i64 k], u.oneCell' = true) := Lib.hid (by simp [Value.oneCell']); have HSZ6 : Hid ((w6.alloc (.cells #[Value.int .i64 k] 3)).heap.size = w6.heap.size + 1) := Lib.hid (by simp); have HBS6 : Hid (w6base ≤ (w6.alloc (.cells #[Value.int .i64 k] 3)).heap.size) := Lib.hid (by rw [HSZ6.out]; omega); clear hgx hgl hgs ho hb)
          | (go_simp; go_at_call 112; refine (C0.out _ hBb1).mono ?_; rintro e w6 ⟨v6, rfl, ho, hb⟩; obtain ⟨g6, c6, rfl⟩ := ho.2; obtain ⟨gx, hgx, hgl, hgs, _⟩ := ho.own; have HG6 : Hid (wr.heap.size ≤ g6) := Lib.hid (by have e := Option.some.inj hgx; simp at e hgl; omega); have HO6 := Lib.hid ho; have HB6 := Lib.hid (carry_below hBb0 (Nat.le_refl _) hb); have q0 := carry_cell d0 HB6.out; have q1 := carry_cell d1 HB6.out; have q2 := carry_cell e0 HB6.out; have q3 := carry_cell e1 HB6.out; have hw6 := hb.size; obtain ⟨w6base, hw6b⟩ : ∃ n, n = (wr.alloc (.cells #[Value.int .i64 k] 3)).drew.heap.size := ⟨_, rfl⟩; rw [← hw6b] at HO6; have HNW6 := Lib.hid (one_cell (carry_cell HCB.out hb)); have HON6 : Hid (∀ u ∈ [Value.int .i64 k], u.oneCell' = true) := Lib.hid (by simp [Value.oneCell']); have HBS6 : Hid (w6base ≤ w6.heap.size) := Lib.hid (by omega); clear hgx hgl hgs ho hb)
          | (go_simp; go_at_call 84; (refine (C2.out w7 g7 c7 HB7.out HP7.out).mono ?_); (rintro e w8 ⟨v8, rfl, hacc8, hb8⟩); (obtain ⟨g8, n8, c8, rfl, hn8, hg8, hl8⟩ := hacc8.form (posT_pos _ _)); (have HB8 := Lib.hid (carry_below HB7.out (Nat.le_refl _) hb8)); (obtain ⟨us, us5, S', huo, hur, hun, hul, huc, hu1⟩ := acc_two HA.out HB8.out (HB7.out.size) (by omega) hacc8 hn8); (have HUO : Hid (w8.ownsRow (w.heap.size + 1) 43 1 (.slice (some ⟨gu, 0, none⟩) nu cu) nu us) := Lib.hid (HNU.out.symm ▸ huo)); (have HUR := Lib.hid hur); (have HUN := Lib.hid hun); (have HUL : Hid (us5.length = n8 * 1) := Lib.hid (by omega)); (have HUC := Lib.hid huc); (have HU1 := Lib.hid hu1); (have hs8 := HB8.out.size); (rw [posT_len] at hn8); (have HNN : Hid (nu + n8 = ((p :: posL p 0 (t.args.take k)) ++ posT (p ++ [(k : Int)]) s).length) := Lib.hid (by rw [List.length_append, ← HNU.out, hn8, posT_len])); (have hn8b : n8 ≤ s.sz := Nat.le_of_eq hn8; have hn8p : 0 < n8 := (hn8 ▸ s.sz_pos)); clear hn8 huo hur hun hul huc hu1 hacc8 hb8))
      all_goals
        have HN : Hid (Acc w9 (w.heap.size + 1) (.slice (some ⟨g9, 0, none⟩) (nu + n8) c9) (p :: posL p 0 (t.args.take (k + 1)))) := Lib.hid (by rw [posL_take t.args p 0 k s HS.out, Nat.zero_add]; exact HA9.out)
        have HB9 : Hid (Below w.heap.size w w9) := Lib.hid (below_grown (carry_below HBE.out (Nat.le_refl _) HB8.out) (Nat.le_refl _) HG9.out (fun g h => by have e : gu = g := Option.some.inj h; omega))
        have HT9 : Hid (Two w9 w.heap.size (.string t.name) (.slice (some ⟨b, off, none⟩) t.args.length c)) := Lib.hid ((HTW.out.kept HB8.out).grown HG9.out (fun h => by have e : w.heap.size = gu := Option.some.inj h; omega))
        clear d0 d1 d2 e0 e1 q0 q1 q2 q3 r0 r1 r2 r3 y0 y1 y2 y3 hB0 hB1 hBb0 hBb1
        try clear x0 x1 x2 x3
        go_wp2
        go_roundw
        case rel => exact ⟨k + 1, by omega, by go_num, HN.out, HB9.out, HT9.out⟩
        case measure => simp [intOf]; omega
    · have hke : k = t.args.length := by omega
      have HE : Hid (WalkEnd t p w (.returned u5) wr) := Lib.hid ⟨_, rfl, by have h := HA.out.mono (Nat.le_succ w.heap.size); rw [hke, List.take_length] at h; rw [posT_eq]; exact h, HBE.out⟩
      clear hke
      go_wp2
      go_ret
      exact HE.out

theorem walk_any (t : Tm) : WalkS t := Tm.ind (P := WalkS) (fun t ih => walk_of t ih) t

end Go.Proofs.Ytojlijbmjmigjaa
