/- The model's Disagreement: contracts, for terms of at most 1048576 names' bytes and arguments. -/
import Derived.Test.YtnabjnlphelccaaDisM
import Derived.Test.YtnabjnlphelccaaPosP
namespace Go.Proofs.Ytnabjnlphelccaa
open Go.RowKit
set_option linter.unusedVariables false

def difP (a b : Tm) (p : List Int) : List Int := match disT a b with | some q => p ++ q | none => []
theorem difP_some {a b : Tm} {q : List Int} (h : disT a b = some q) (p : List Int) : difP a b p = p ++ q := by unfold difP; rw [h]
theorem difP_none {a b : Tm} (h : disT a b = none) (p : List Int) : difP a b p = [] := by unfold difP; rw [h]

theorem PosV.form {w : World} {v : Value} {p : List Int} (h : PosV w v p) : ∃ g n c, v = .slice (some ⟨g, 0, none⟩) n c ∧ n = p.length := by
  obtain ⟨g, c, e, _⟩ := h; exact ⟨g, _, c, e, rfl⟩

def DifEnd (a b : Tm) (p : List Int) (w : World) (e : Ending) (w' : World) : Prop :=
  ∃ v o, e = .returned (.tuple #[v, .bool o]) ∧ o = (disT a b).isSome ∧ PosV w' v (difP a b p) ∧ Below w.heap.size w w'

def DifS (a : Tm) : Prop := ∀ (b : Tm) (p : List Int) (w : World) (va vb vp : Value), TmS w va a.args → TmS w vb b.args → PosV w vp p → a.wt ≤ 1048576 → b.wt ≤ 1048576 → p.length + a.dp ≤ 1048576 →
  Calls Try.prog 63 #[.agg #[.string a.name, va], .agg #[.string b.name, vb], vp] w (DifEnd a b p w)

theorem dif_dp {t s : Tm} (h : s ∈ t.args) : s.dp + 1 ≤ t.dp := by
  rw [t.dp_eq]; have := maxL_mem (f := Tm.dp) h; omega

set_option maxRecDepth 100000 in
set_option maxHeartbeats 4000000 in
theorem dif_of (a : Tm) (h : ∀ s ∈ a.args, DifS s) : DifS a := by
  intro b p w va vb vp hva hvb hp hwa hwb hd
  have H := Lib.hid h
  have HWA := Lib.hid (fun (s : Tm) (hs : s ∈ a.args) => Nat.le_trans (Tm.wt_arg hs) hwa)
  have HWB := Lib.hid (fun (s : Tm) (hs : s ∈ b.args) => Nat.le_trans (Tm.wt_arg hs) hwb)
  have hla := Tm.wt_len a
  have hlb := Tm.wt_len b
  obtain ⟨pa, ca, rfl⟩ := hva.is_slice
  obtain ⟨pb, cb, rfl⟩ := hvb.is_slice
  obtain ⟨g0, c0, rfl, hg0, hc0⟩ := hp
  have HP : Hid (PosV w (.slice (some ⟨g0, 0, none⟩) p.length c0) p) := Lib.hid ⟨g0, c0, rfl, hg0, hc0⟩
  have HVA := Lib.hid hva
  have HVB := Lib.hid hvb
  obtain ⟨i0, hi, hz0, hz1, hz2⟩ := info_parts infoInt
  obtain ⟨w0, hw0⟩ : ∃ w0, (w.alloc (.cells #[.string a.name, .slice pa a.args.length ca] 30)).alloc (.cells #[.string b.name, .slice pb b.args.length cb] 30) = w0 := ⟨_, rfl⟩
  have H2A : Hid (Two w0 w.heap.size (.string a.name) (.slice pa a.args.length ca)) := Lib.hid (by rw [← hw0]; exact (two_new w (.string a.name) (.slice pa a.args.length ca) 30 _ rfl).alloc _)
  have H2B : Hid (Two w0 (w.heap.size + 1) (.string b.name) (.slice pb b.args.length cb)) := Lib.hid (by rw [← hw0]; exact two_new _ (.string b.name) (.slice pb b.args.length cb) 30 (w.heap.size + 1) (by simp))
  have HB : Hid (Below w.heap.size w w0) := Lib.hid (by rw [← hw0]; exact ((Below.refl w.heap.size w).alloc (Nat.le_refl _) _).alloc (by simp) _)
  have hpl : p.length ≤ 1048576 := by omega
  have C0 : Hid (∀ W : World, Below w.heap.size w W → Calls Try.prog 113 #[.slice (some ⟨g0, 0, none⟩) p.length c0] W (OwnPEnd p W)) := Lib.hid (fun W hW => ownP_any p _ W (HP.out.kept hW) hpl)
  have HZ : Hid (w.heap.size ≤ w0.heap.size) := Lib.hid HB.out.size
  clear h hva hvb hc0
  obtain ⟨a0, a1, a2⟩ := H2A.out
  obtain ⟨b0, b1, b2⟩ := H2B.out
  by_cases hn : a.name = b.name
  · have hq := str_eq hn
    have hq2 : (a.name.toList != b.name.toList) = false := by rw [bne, hq]; rfl
    by_cases hl : a.args.length = b.args.length
    · have HQ := Lib.hid (disT_eq (sameB_eq hn hl))
      have HL := Lib.hid hl
      have hl2 : ((a.args.length : Int) != (b.args.length : Int)) = false := by rw [hl]; simp
      clear hn hl
      go_enter Try.func63, Try.ntmps63
      go_wp2
      go_loopw [8] (fun i wr => ∃ k : Nat, k ≤ a.args.length ∧ i = .int .i64 k ∧ disL k (a.args.drop k) (b.args.drop k) = disT a b ∧ Two wr w.heap.size (.string a.name) (.slice pa a.args.length ca) ∧ Two wr (w.heap.size + 1) (.string b.name) (.slice pb b.args.length cb) ∧ Below w.heap.size w wr) (fun i _ => a.args.length - (intOf i).toNat)
      case atStart => exact ⟨0, Nat.zero_le _, rfl, HQ.out.symm, H2A.out, H2B.out, HB.out⟩
      case round =>
        obtain ⟨k, hk, rfl, hag, h2a, h2b, hbel⟩ := hrel
        have HG := Lib.hid hag
        have HBE := Lib.hid hbel
        have HA2 := Lib.hid h2a
        have HB2 := Lib.hid h2b
        clear hag hbel a0 a1 a2 b0 b1 b2 h2a h2b hw0
        by_cases hlt : k < a.args.length
        · have hltb : k < b.args.length := by have := HL.out; omega
          obtain ⟨x, hx⟩ : ∃ s, a.args[k]? = some s := ⟨_, List.getElem?_eq_getElem hlt⟩
          obtain ⟨y, hy⟩ : ∃ s, b.args[k]? = some s := ⟨_, List.getElem?_eq_getElem hltb⟩
          obtain ⟨g1, o1, rfl, v1, x0, x1, x2⟩ := HVA.out.get hx
          obtain ⟨g2, o2, rfl, v2, y0, y1, y2⟩ := HVB.out.get hy
          obtain ⟨A0, d0, A2⟩ := HA2.out
          obtain ⟨B0, d1, B2⟩ := HB2.out
          have d2 := carry_cell x0 HBE.out
          have d3 := carry_cell x1 HBE.out
          have d4 := carry_cell y0 HBE.out
          have d5 := carry_cell y1 HBE.out
          have X2 := Lib.hid (x2.kept HBE.out)
          have Y2 := Lib.hid (y2.kept HBE.out)
          have HST := Lib.hid (disL_step hx hy _ HG.out)
          have HXX := Lib.hid (mem_of_at hx)
          have HYY := Lib.hid (mem_of_at hy)
          have hwr : w.heap.size + 1 < wr.heap.size := World.block_lt_of_cell? wr _ B0
          clear hx hy x0 x1 y0 y1 x2 y2 A0 A2 B0 B2
          have hB0 : Below wr.heap.size wr wr.drew := (Below.refl _ _).drew
          have hB1 : Below w.heap.size w wr.drew := HBE.out.drew
          have hpk : (p ++ [(k : Int)]).length + x.dp ≤ 1048576 := by have h1 := dif_dp HXX.out; simp; omega
          have C2 : Hid (∀ (W : World) (gg cc : Nat), Below wr.heap.size wr W → PosV W (.slice (some ⟨gg, 0, none⟩) (p.length + 1) cc) (p ++ [(k : Int)]) → Calls Try.prog 63 #[.agg #[.string x.name, v1], .agg #[.string y.name, v2], .slice (some ⟨gg, 0, none⟩) (p.length + 1) cc] W (DifEnd x y (p ++ [(k : Int)]) W)) := Lib.hid (fun W gg cc hW hP => H.out x HXX.out y _ W v1 v2 _ (X2.out.kept hW) (Y2.out.kept hW) hP (HWA.out x HXX.out) (HWB.out y HYY.out) hpk)
          have hBb0 : Below wr.heap.size wr (wr.alloc (.cells #[Value.int .i64 k] 3)).drew := ((Below.refl _ _).alloc (Nat.le_refl _) _).drew
          have hBb1 : Below w.heap.size w (wr.alloc (.cells #[Value.int .i64 k] 3)).drew := carry_below HBE.out (Nat.le_refl _) hBb0
          have hcB : (wr.alloc (.cells #[Value.int .i64 k] 3)).drew.cell? ⟨wr.heap.size, 0, none⟩ = some (.int .i64 k) := World.news_of_block (cs := #[Value.int .i64 k]) (t := 3) (fr := (0, 0)) (heap_alloc_new wr _) 0 _ rfl
          have HCB := Lib.hid hcB
          have y0 := carry_cell d0 hBb0
          have y1 := carry_cell d1 hBb0
          have y2 := carry_cell d2 hBb0
          have y3 := carry_cell d3 hBb0
          have y4 := carry_cell d4 hBb0
          have y5 := carry_cell d5 hBb0
          clear hcB
          go_wp2_with fail
          go_region_held3 (fun w' => w'.cell? ⟨w.heap.size, 1, none⟩ = some (.slice (some ⟨g1, o1, none⟩) a.args.length ca) ∧ w'.cell? ⟨w.heap.size + 1, 1, none⟩ = some (.slice (some ⟨g2, o2, none⟩) b.args.length cb) ∧ w'.cell? ⟨g1, o1 + k * 2, none⟩ = some (.string x.name) ∧ w'.cell? ⟨g1, o1 + k * 2 + 1, none⟩ = some v1 ∧ w'.cell? ⟨g2, o2 + k * 2, none⟩ = some (.string y.name) ∧ w'.cell? ⟨g2, o2 + k * 2 + 1, none⟩ = some v2) (first | exact ⟨by assumption, by assumption, by assumption, by assumption, by assumption, by assumption⟩ | exact ⟨carry_cell' ((Below.refl _ _).alloc (Nat.le_refl _) _) (by assumption), carry_cell' ((Below.refl _ _).alloc (Nat.le_refl _) _) (by assumption), carry_cell' ((Below.refl _ _).alloc (Nat.le_refl _) _) (by assumption), carry_cell' ((Below.refl _ _).alloc (Nat.le_refl _) _) (by assumption), carry_cell' ((Below.refl _ _).alloc (Nat.le_refl _) _) (by assumption), carry_cell' ((Below.refl _ _).alloc (Nat.le_refl _) _) (by assumption)⟩ | go_keep) (first
              | (refine step_append_lies _ (by rfl) (.tmp 45) (.tmp 47) _ (by rfl) w6base 3 i0 _ 1 8 Try.underlying25 hi hz0 hz1 hz2 rfl (Nat.one_pos) (.slice (some ⟨g6, 0, none⟩) p.length c6) p.length (ints p) (by rfl) (HO6.out.1.alloc _) ⟨w6.heap.size, 0, none⟩ 1 1 [.int .i64 k] (by rfl) (by rfl) (HNW6.out) HON6.out (Nat.one_pos) (by unfold maxLen; omega) (by omega) HBS6.out (w6.heap.size + 1) HSZ6.out ?_; intro g7 c7 w7 hown7 hgrow7 hat7 hlt7; have HP7 := Lib.hid (app_pos hown7); have HB7 := Lib.hid (app_below HB6.out HG6.out hgrow7); have r0 := carry_cell d0 HB7.out; have r1 := carry_cell d1 HB7.out; have r2 := carry_cell d2 HB7.out; have r3 := carry_cell d3 HB7.out; have r4 := carry_cell d4 HB7.out; have r5 := carry_cell d5 HB7.out; clear hown7 hgrow7 hat7 hlt7)
              | (refine step_append_lies _ (by rfl) (.tmp 45) (.tmp 47) _ (by rfl) w6base 3 i0 _ 1 8 Try.underlying25 hi hz0 hz1 hz2 rfl (Nat.one_pos) (.slice (some ⟨g6, 0, none⟩) p.length c6) p.length (ints p) (by rfl) HO6.out.1 ⟨wr.heap.size, 0, none⟩ 1 1 [.int .i64 k] (by rfl) (by rfl) (HNW6.out) HON6.out (Nat.one_pos) (by unfold maxLen; omega) (by omega) HBS6.out w6.heap.size rfl ?_; intro g7 c7 w7 hown7 hgrow7 hat7 hlt7; have HP7 := Lib.hid (app_pos hown7); have HB7 := Lib.hid (app_below' HB6.out HG6.out hgrow7); have r0 := carry_cell d0 HB7.out; have r1 := carry_cell d1 HB7.out; have r2 := carry_cell d2 HB7.out; have r3 := carry_cell d3 HB7.out; have r4 := carry_cell d4 HB7.out; have r5 := carry_cell d5 HB7.out; clear hown7 hgrow7 hat7 hlt7)
              | (go_simp; go_at_call 113; refine (C0.out _ (by first | exact hB1 | exact HBE.out)).mono ?_; rintro e w6 ⟨v6, rfl, ho, hb⟩; obtain ⟨g6, c6, rfl⟩ := ho.2; obtain ⟨gx, hgx, hgl, hgs, _⟩ := ho.own; have HG6 : Hid (wr.heap.size ≤ g6) := Lib.hid (by have e := Option.some.inj hgx; simp at e hgl; omega); have HO6 := Lib.hid ho; have HB6 := Lib.hid (carry_below hB0 (Nat.le_refl _) hb); have q0 := carry_cell d0 HB6.out; have q1 := carry_cell d1 HB6.out; have q2 := carry_cell d2 HB6.out; have q3 := carry_cell d3 HB6.out; have q4 := carry_cell d4 HB6.out; have q5 := carry_cell d5 HB6.out; have x0 := carry_cell d0 (HB6.out.alloc HB6.out.size (.cells #[Value.int .i64 k] 3)); have x1 := carry_cell d1 (HB6.out.alloc HB6.out.size (.cells #[Value.int .i64 k] 3)); have x2 := carry_cell d2 (HB6.out.alloc HB6.out.size (.cells #[Value.int .i64 k] 3)); have x3 := carry_cell d3 (HB6.out.alloc HB6.out.size (.cells #[Value.int .i64 k] 3)); have x4 := carry_cell d4 (HB6.out.alloc HB6.out.size (.cells #[Value.int .i64 k] 3)); have x5 := carry_cell d5 (HB6.out.alloc HB6.out.size (.cells #[Value.int .i64 k] 3)); have hw6 := hb.size; obtain ⟨w6base, hw6b⟩ : ∃ n, n = wr.drew.heap.size := ⟨_, rfl⟩; rw [← hw6b] at HO6; have HNW6 := Lib.hid (World.news_of_block (cs := #[Value.int .i64 k]) (t := 3) (fr := (0, 0)) (heap_alloc_new w6 _)); have HON6 : Hid (∀ u ∈ [Value.int .i64 k], u.oneCell' = true) := Lib.hid (by simp [Value.oneCell']); have HSZ6 : Hid ((w6.alloc (.cells #[Value.int .i64 k] 3)).heap.size = w6.heap.size + 1) := Lib.hid (by simp); have HBS6 : Hid (w6base ≤ (w6.alloc (.cells #[Value.int .i64 k] 3)).heap.size) := Lib.hid (by rw [HSZ6.out]; omega); clear hgx hgl hgs ho hb)
              | (go_simp; go_at_call 113; refine (C0.out _ hBb1).mono ?_; rintro e w6 ⟨v6, rfl, ho, hb⟩; obtain ⟨g6, c6, rfl⟩ := ho.2; obtain ⟨gx, hgx, hgl, hgs, _⟩ := ho.own; have HG6 : Hid (wr.heap.size ≤ g6) := Lib.hid (by have e := Option.some.inj hgx; simp at e hgl; omega); have HO6 := Lib.hid ho; have HB6 := Lib.hid (carry_below hBb0 (Nat.le_refl _) hb); have q0 := carry_cell d0 HB6.out; have q1 := carry_cell d1 HB6.out; have q2 := carry_cell d2 HB6.out; have q3 := carry_cell d3 HB6.out; have q4 := carry_cell d4 HB6.out; have q5 := carry_cell d5 HB6.out; have hw6 := hb.size; obtain ⟨w6base, hw6b⟩ : ∃ n, n = (wr.alloc (.cells #[Value.int .i64 k] 3)).drew.heap.size := ⟨_, rfl⟩; rw [← hw6b] at HO6; have HNW6 := Lib.hid (one_cell (carry_cell HCB.out hb)); have HON6 : Hid (∀ u ∈ [Value.int .i64 k], u.oneCell' = true) := Lib.hid (by simp [Value.oneCell']); have HBS6 : Hid (w6base ≤ w6.heap.size) := Lib.hid (by omega); clear hgx hgl hgs ho hb)
              | (go_simp; go_at_call 63; (refine (C2.out w7 g7 c7 HB7.out HP7.out).mono ?_); (rintro e w8 ⟨v8, o8, rfl, ho8, hp8, hb8⟩); (obtain ⟨g8, n8, c8, rfl, hn8⟩ := hp8.form); (have HB8 := Lib.hid (carry_below HB7.out (Nat.le_refl _) hb8)); (have HP8 := Lib.hid hp8); (have HO8 := Lib.hid ho8); have s0 := carry_cell d0 HB8.out; have s1 := carry_cell d1 HB8.out; have s2 := carry_cell d2 HB8.out; have s3 := carry_cell d3 HB8.out; have s4 := carry_cell d4 HB8.out; have s5 := carry_cell d5 HB8.out; clear hp8 hb8 hn8 ho8))
          all_goals
            have HBX := Lib.hid (carry_below HBE.out (Nat.le_refl _) HB8.out)
            have HA3 := Lib.hid (HA2.out.kept HB8.out)
            have HB3 := Lib.hid (HB2.out.kept HB8.out)
            clear d0 d1 d2 d3 d4 d5 q0 q1 q2 q3 q4 q5 r0 r1 r2 r3 r4 r5 y0 y1 y2 y3 y4 y5 s0 s1 s2 s3 s4 s5 hB0 hB1 hBb0 hBb1
            try clear x0 x1 x2 x3 x4 x5
            cases o8 with
            | true =>
              have HE : Hid (DifEnd a b p w (.returned (.tuple #[.slice (some ⟨g8, 0, none⟩) n8 c8, .bool true])) w8) := Lib.hid (by
                obtain ⟨q, hq⟩ := Option.isSome_iff_exists.1 HO8.out.symm
                have e := HST.out.1 q hq
                refine ⟨_, _, rfl, by rw [e]; rfl, ?_, HBX.out⟩
                have hp := HP8.out
                rw [difP_some hq] at hp
                rw [difP_some e]
                simpa using hp)
              go_wp2
              refine bodyPost_ret (v := .tuple #[.slice (some ⟨g8, 0, none⟩) n8 c8, .bool true]) (by simp [results, Try.results63, go_sem]) rfl ?_
              exact HE.out
            | false =>
              have HF := Lib.hid (HST.out.2 (by have := HO8.out; cases hq : disT x y with | none => rfl | some q => rw [hq] at this; cases this))
              go_wp2
              go_roundw
              case rel => exact ⟨k + 1, by omega, by go_num, HF.out, HA3.out, HB3.out, HBX.out⟩
              case measure => simp [intOf]; omega
        · have hke : k = a.args.length := by omega
          subst hke
          obtain ⟨a0, a1, a2⟩ := HA2.out
          obtain ⟨b0, b1, b2⟩ := HB2.out
          have HE : Hid (DifEnd a b p w (.returned (.tuple #[.slice (some ⟨wr.heap.size, 0, none⟩) 0 0, .bool false])) (wr.alloc (.cells #[] 3))) := Lib.hid (by
            have e := disL_end HG.out
            exact ⟨_, _, rfl, by rw [e]; rfl, by rw [difP_none e]; exact pos_nil wr _, HBE.out.alloc HBE.out.size _⟩)
          go_wp2
          go_ret2
          exact HE.out
    · have HE : Hid (DifEnd a b p w (.returned (.tuple #[.slice (some ⟨g0, 0, none⟩) p.length c0, .bool true])) w0) := Lib.hid (by
        have e := disT_ne (sameB_ne2 hl)
        exact ⟨_, _, rfl, by rw [e]; rfl, by rw [difP_some e, List.append_nil]; exact HP.out.kept HB.out, HB.out⟩)
      have hl2 : ((a.args.length : Int) != (b.args.length : Int)) = true := by simp; omega
      have hl3 : ((a.args.length : Int) == (b.args.length : Int)) = false := by simp; omega
      clear hn hl
      go_enter Try.func63, Try.ntmps63
      go_wp2
      go_ret2
      exact HE.out
  · have HE : Hid (DifEnd a b p w (.returned (.tuple #[.slice (some ⟨g0, 0, none⟩) p.length c0, .bool true])) w0) := Lib.hid (by
      have e := disT_ne (sameB_ne1 hn)
      exact ⟨_, _, rfl, by rw [e]; rfl, by rw [difP_some e, List.append_nil]; exact HP.out.kept HB.out, HB.out⟩)
    have hq := str_ne hn
    have hq2 : (a.name.toList != b.name.toList) = true := by rw [bne, hq]; rfl
    clear hn
    go_enter Try.func63, Try.ntmps63
    go_wp2
    go_ret2
    exact HE.out

theorem dif_any (a : Tm) : DifS a := Tm.ind (P := DifS) dif_of a

/-- What the model's Disagreement answers. -/
def SDisEnd (a b : Tm) (w : World) (e : Ending) (w' : World) : Prop := ∃ v, e = .returned (.tuple #[v, .bool (disOk a b)]) ∧ PosV w' v (disP a b) ∧ Below w.heap.size w w'

set_option maxRecDepth 100000 in
set_option maxHeartbeats 4000000 in
theorem specDis_any (a b : Tm) (w : World) (va vb : Value) (hva : TmS w va a.args) (hvb : TmS w vb b.args) (hwa : a.wt ≤ 1048576) (hwb : b.wt ≤ 1048576) :
    Calls Try.prog 20 #[.agg #[.string a.name, va], .agg #[.string b.name, vb]] w (SDisEnd a b w) := by
  obtain ⟨pa, ca, rfl⟩ := hva.is_slice
  obtain ⟨pb, cb, rfl⟩ := hvb.is_slice
  have HVA := Lib.hid hva
  have HVB := Lib.hid hvb
  obtain ⟨w0, hw0⟩ : ∃ w0, (w.alloc (.cells #[.string a.name, .slice pa a.args.length ca] 30)).alloc (.cells #[.string b.name, .slice pb b.args.length cb] 30) = w0 := ⟨_, rfl⟩
  have H2A : Hid (Two w0 w.heap.size (.string a.name) (.slice pa a.args.length ca)) := Lib.hid (by rw [← hw0]; exact (two_new w (.string a.name) (.slice pa a.args.length ca) 30 _ rfl).alloc _)
  have H2B : Hid (Two w0 (w.heap.size + 1) (.string b.name) (.slice pb b.args.length cb)) := Lib.hid (by rw [← hw0]; exact two_new _ (.string b.name) (.slice pb b.args.length cb) 30 (w.heap.size + 1) (by simp))
  have HB : Hid (Below w.heap.size w w0) := Lib.hid (by rw [← hw0]; exact ((Below.refl w.heap.size w).alloc (Nat.le_refl _) _).alloc (by simp) _)
  obtain ⟨a0, a1, a2⟩ := H2A.out
  obtain ⟨b0, b1, b2⟩ := H2B.out
  clear hva hvb
  go_enter Try.func20, Try.ntmps20
  go_wp2_with fail
  refine (l2Any_any a w0 _ (HVA.out.kept HB.out) hwa).mono ?_
  rintro e w1 ⟨rfl, hb⟩
  have HB1 := Lib.hid (carry_below HB.out (Nat.le_refl _) hb)
  have A1 := Lib.hid (H2A.out.kept hb)
  have B1 := Lib.hid (H2B.out.kept hb)
  clear hb hw0 a0 a1 a2 b0 b1 b2
  obtain ⟨a0, a1, a2⟩ := A1.out
  obtain ⟨b0, b1, b2⟩ := B1.out
  cases hfa : anyB a with
  | false =>
    have HE : Hid (SDisEnd a b w (.returned (.tuple #[.slice (some ⟨w1.heap.size, 0, none⟩) 0 0, .bool false])) (w1.alloc (.cells #[] 3))) := Lib.hid ⟨_, by rw [(dis_a hfa).1], by rw [(dis_a hfa).2]; exact pos_nil w1 _, HB1.out.alloc HB1.out.size _⟩
    clear hfa
    go_wp2
    go_ret2
    exact HE.out
  | true =>
    have HFA := Lib.hid hfa
    clear hfa
    go_wp2_with fail
    refine (l2Any_any b w1 _ (HVB.out.kept HB1.out) hwb).mono ?_
    rintro e w2 ⟨rfl, hb⟩
    have HB2 := Lib.hid (carry_below HB1.out (Nat.le_refl _) hb)
    have A2 := Lib.hid (A1.out.kept hb)
    have B2 := Lib.hid (B1.out.kept hb)
    clear hb a0 a1 a2 b0 b1 b2
    obtain ⟨a0, a1, a2⟩ := A2.out
    obtain ⟨b0, b1, b2⟩ := B2.out
    cases hfb : anyB b with
    | false =>
      have HE : Hid (SDisEnd a b w (.returned (.tuple #[.slice (some ⟨w2.heap.size, 0, none⟩) 0 0, .bool false])) (w2.alloc (.cells #[] 3))) := Lib.hid ⟨_, by rw [(dis_b hfb).1], by rw [(dis_b hfb).2]; exact pos_nil w2 _, HB2.out.alloc HB2.out.size _⟩
      clear hfb
      go_wp2
      go_ret2
      exact HE.out
    | true =>
      have HFB := Lib.hid hfb
      have hz2 : w.heap.size ≤ w2.heap.size := HB2.out.size
      have hB3 : Below w.heap.size w (w2.alloc (.cells #[] 3)) := HB2.out.alloc hz2 _
      have hd : ([] : List Int).length + a.dp ≤ 1048576 := by
        have h2 := (fits_iff.1 (anyB_fits HFA.out)).2
        simp; omega
      have C1 := Lib.hid (dif_any a b [] (w2.alloc (.cells #[] 3)) _ _ _ (HVA.out.kept hB3) (HVB.out.kept hB3) (pos_nil w2 (.cells #[] 3)) hwa hwb hd)
      have HB3 := Lib.hid hB3
      clear hfb hd hB3
      go_wp2_with (go_at_call 63; refine C1.out.mono ?_; rintro e w3 ⟨v3, o3, rfl, ho3, hp3, hb3⟩; (obtain ⟨g3, n3, c3, rfl, hn3⟩ := hp3.form); have HE : Hid (SDisEnd a b w (.returned (.tuple #[.slice (some ⟨g3, 0, none⟩) n3 c3, .bool o3])) w3) := Lib.hid (by
        have hB := carry_below HB3.out (Nat.le_refl _) hb3
        cases hq : disT a b with
        | none => rw [difP_none hq] at hp3; exact ⟨_, by rw [ho3, (dis_n hq).1, hq]; rfl, by rw [(dis_n hq).2]; exact hp3, hB⟩
        | some q => rw [difP_some hq] at hp3; exact ⟨_, by rw [ho3, (dis_y HFA.out HFB.out hq).1, hq]; rfl, by rw [(dis_y HFA.out HFB.out hq).2]; simpa using hp3, hB⟩); clear hp3 hb3 hn3 ho3)
      go_ret2
      exact HE.out

end Go.Proofs.Ytnabjnlphelccaa
