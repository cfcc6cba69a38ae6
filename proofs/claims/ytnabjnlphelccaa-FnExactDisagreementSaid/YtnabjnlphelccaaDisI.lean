/- The program's Disagreement: contracts, for terms of at most 1048576 names' bytes and arguments. -/
import Derived.Test.YtnabjnlphelccaaDisM
import Derived.Test.YtnabjnlphelccaaPosJ
namespace Go.Proofs.Ytnabjnlphelccaa
open Go.RowKit
set_option linter.unusedVariables false

set_option maxRecDepth 100000 in
set_option maxHeartbeats 2000000 in
theorem sameRoot_any (a b : Tm) (w : World) (pa pb : Option Addr) (ca cb : Nat) (hla : a.args.length ≤ 1048576) (hlb : b.args.length ≤ 1048576) :
    Calls Try.prog 66 #[.agg #[.string a.name, .slice pa a.args.length ca], .agg #[.string b.name, .slice pb b.args.length cb]] w (Ans (.bool (sameB a b)) w) := by
  obtain ⟨w0, hw0⟩ : ∃ w0, (w.alloc (.cells #[.string a.name, .slice pa a.args.length ca] 30)).alloc (.cells #[.string b.name, .slice pb b.args.length cb] 30) = w0 := ⟨_, rfl⟩
  have H2A : Hid (Two w0 w.heap.size (.string a.name) (.slice pa a.args.length ca)) := Lib.hid (by rw [← hw0]; exact (two_new w (.string a.name) (.slice pa a.args.length ca) 30 _ rfl).alloc _)
  have H2B : Hid (Two w0 (w.heap.size + 1) (.string b.name) (.slice pb b.args.length cb)) := Lib.hid (by rw [← hw0]; exact two_new _ (.string b.name) (.slice pb b.args.length cb) 30 (w.heap.size + 1) (by simp))
  have HB : Hid (Below w.heap.size w w0) := Lib.hid (by rw [← hw0]; exact ((Below.refl w.heap.size w).alloc (Nat.le_refl _) _).alloc (by simp) _)
  obtain ⟨a0, a1, a2⟩ := H2A.out
  obtain ⟨b0, b1, b2⟩ := H2B.out
  by_cases hn : a.name = b.name
  · have hq := str_eq hn
    by_cases hl : a.args.length = b.args.length
    · have HF := Lib.hid (sameB_eq hn hl)
      have hl2 : ((a.args.length : Int) == (b.args.length : Int)) = true := by rw [hl]; simp
      clear hn hl
      go_enter Try.func66, Try.ntmps66
      go_wp2
      go_ret
      exact ⟨ret_bool HF.out.symm, HB.out⟩
    · have HF := Lib.hid (sameB_ne2 hl)
      have hl2 : ((a.args.length : Int) == (b.args.length : Int)) = false := by simp; omega
      clear hn hl
      go_enter Try.func66, Try.ntmps66
      go_wp2
      go_ret
      exact ⟨ret_bool HF.out.symm, HB.out⟩
  · have HF := Lib.hid (sameB_ne1 hn)
    have hq := str_ne hn
    clear hn
    go_enter Try.func66, Try.ntmps66
    go_wp2
    go_ret
    exact ⟨ret_bool HF.out.symm, HB.out⟩

theorem tmS_twoD {w : World} {s t : Tm} {va vb : Value} (ha : TmS w va s.args) (hb : TmS w vb t.args) (g c : Nat) (h0 : w.cell? ⟨g, 0, none⟩ = some (.string s.name)) (h1 : w.cell? ⟨g, 1, none⟩ = some va) (h2 : w.cell? ⟨g, 2, none⟩ = some (.string t.name)) (h3 : w.cell? ⟨g, 3, none⟩ = some vb) : TmS w (.slice (some ⟨g, 0, none⟩) 2 c) [s, t] := by
  refine .row g 0 c [s, t] (fun i => if i = 0 then va else vb) (by simp) (fun i x hi => ?_) (fun i x hi => ?_) (fun i x hi => ?_)
  all_goals
    have hi0 : i = 0 ∨ i = 1 := by have := (List.getElem?_eq_some_iff.1 hi).1; simp at this; omega
    rcases hi0 with e | e
    · subst e
      have e : s = x := by simpa using hi
      subst e
      first | exact h0 | exact h1 | exact ha
    · subst e
      have e : t = x := by simpa using hi
      subst e
      first | exact h2 | exact h3 | exact hb

theorem all_twoD (p t : Tm) : [p, t].all anyB = (anyB p && anyB t) := by simp

theorem dis_ab {a b : Tm} (h : (anyB a && anyB b) = false) : disOk a b = false ∧ disP a b = [] := by
  cases ha : anyB a with
  | false => exact dis_a ha
  | true => rw [ha, Bool.true_and] at h; exact dis_b h

theorem fnd_mem {a b : Tm} {p : List Int} : ∀ {L : List (List Int)}, fnd a b L = some (some p) → p ∈ L
  | [], h => by rw [fnd] at h; cases h
  | q :: L, h => by
    rw [fnd] at h
    cases hs : subAt q a with
    | none => rw [hs] at h; cases h
    | some s =>
      cases hu : subAt q b with
      | none => rw [hs, hu] at h; cases h
      | some u =>
        rw [hs, hu] at h
        cases hq : sameB s u with
        | true => simp [hq] at h; exact List.mem_cons_of_mem _ (fnd_mem h)
        | false => simp [hq] at h; subst h; exact List.mem_cons_self

theorem disP_len (a b : Tm) : (disP a b).length ≤ 1048576 := by
  cases hg : (anyB a && anyB b) with
  | false => rw [(dis_ab hg).2]; simp
  | true =>
    have ha := (Bool.and_eq_true_iff.1 hg).1
    have hb := (Bool.and_eq_true_iff.1 hg).2
    cases h : disT a b with
    | none => rw [(dis_n h).2]; simp
    | some p =>
      rw [(dis_y ha hb h).2]
      have hm : p ∈ posT [] a := fnd_mem (by rw [fnd_all a b, h])
      have h1 := posT_length a [] p hm
      have h2 := (fits_iff.1 (anyB_fits ha)).2
      simp at h1; omega

/-- What the program's Disagreement answers: its position lies in a block of its own. -/
def IDisEnd (a b : Tm) (w : World) (e : Ending) (w' : World) : Prop :=
  ∃ v, e = .returned (.tuple #[v, .bool (disOk a b)]) ∧ IntsO w' (fun k => w.heap.size ≤ k ∧ k < w'.heap.size) v (disP a b) ∧ Below w.heap.size w w'

theorem PathTo.uniq {w : World} {b o b1 o1 b2 o2 : Nat} {p : List Int} (h : PathTo w b o p b1 o1) (h' : PathTo w b o p b2 o2) : b1 = b2 ∧ o1 = o2 := by
  induction h with
  | here b o => cases h'; exact ⟨rfl, rfl⟩
  | step b o g off n c i r b' o' hc hi hh ih =>
    generalize hx : ((i : Int) :: r) = q at h'
    cases h' with
    | here => cases hx
    | step _ _ g2 off2 n2 c2 i2 r2 _ _ hc2 hi2 hh2 =>
      injection hx with e1 e2
      have e1 : i = i2 := by omega
      subst e1; subst e2
      rw [hc] at hc2
      simp only [Option.some.injEq, Value.slice.injEq, Addr.mk.injEq] at hc2
      obtain ⟨⟨e3, e4, _⟩, _⟩ := hc2
      subst e3; subst e4
      exact ih hh2

theorem path_ex {w : World} : ∀ (p : List Int) (t s : Tm) (b o : Nat), NodeAt w b o t → subAt p t = some s → ∃ b' o', PathTo w b o p b' o' ∧ NodeAt w b' o' s
  | [], t, s, b, o, hn, hs => by
    have e : t = s := Option.some.inj hs
    subst e
    exact ⟨b, o, .here b o, hn⟩
  | i :: r, t, s, b, o, hn, hs => by
    rw [subAt] at hs
    by_cases h0 : i < 0
    · rw [if_pos h0] at hs; cases hs
    · rw [if_neg h0] at hs
      obtain ⟨n, rfl⟩ := Int.eq_ofNat_of_zero_le (show 0 ≤ i by omega)
      cases hu : t.args[((n : Nat) : Int).toNat]? with
      | none => rw [hu] at hs; cases hs
      | some u =>
        rw [hu] at hs
        have hu' : t.args[n]? = some u := hu
        obtain ⟨va, n0, n1, n2⟩ := hn
        obtain ⟨a, c, rfl⟩ := n2.is_slice
        obtain ⟨sb, so, rfl, vu, u0, u1, u2⟩ := n2.get hu'
        obtain ⟨b', o', hp, hq⟩ := path_ex r u s sb (so + n * 2) ⟨vu, u0, u1, u2⟩ hs
        exact ⟨b', o', .step b o sb so _ _ n r b' o' n1 (List.getElem?_eq_some_iff.1 hu').1 hp, hq⟩

theorem PathTo.kept {w w' : World} {b o b' o' : Nat} {p : List Int} (h : PathTo w b o p b' o') (hb : Below w.heap.size w w') : PathTo w' b o p b' o' := by
  induction h with
  | here b o => exact .here b o
  | step b o g off n c i r b' o' hc hi hh ih => exact .step b o g off n c i r b' o' (carry_cell hc hb) hi ih

/-- The node at a position that leads somewhere: what nodeAt answers. -/
theorem nodeAt_yes (t s : Tm) (p : List Int) (w : World) (b ba oa : Nat) (vp va : Value) (h0 : w.cell? ⟨b, 0, none⟩ = some (.string t.name)) (h1 : w.cell? ⟨b, 1, none⟩ = some va) (hv : TmS w va t.args) (hp : IntsV w vp p) (hw : t.wt ≤ 1048576) (hl : p.length ≤ 1048576) (hs : subAt p t = some s) (hpa : PathTo w b 0 p ba oa) :
    Calls Try.prog 67 #[.pointer (some ⟨b, 0, none⟩), vp] w (fun e w' => w = w' ∧ e = .returned (.pointer (some ⟨ba, oa, none⟩))) := by
  refine (nodeAt_any t p w b 0 vp ⟨va, h0, h1, hv⟩ hp hw hl).mono ?_
  rintro e w' ⟨rfl, ⟨hno, _⟩ | ⟨s', b', o', hs', rfl, hpath, _⟩⟩
  · rw [hs] at hno; cases hno
  · obtain ⟨rfl, rfl⟩ := hpath.uniq hpa
    exact ⟨rfl, rfl⟩

set_option maxRecDepth 100000 in
set_option maxHeartbeats 4000000 in
theorem implDis_any (a b : Tm) (w : World) (va vb : Value) (hva : TmS w va a.args) (hvb : TmS w vb b.args) (hwa : a.wt ≤ 1048576) (hwb : b.wt ≤ 1048576) :
    Calls Try.prog 22 #[.agg #[.string a.name, va], .agg #[.string b.name, vb]] w (IDisEnd a b w) := by
  obtain ⟨pa, ca, rfl⟩ := hva.is_slice
  obtain ⟨pb, cb, rfl⟩ := hvb.is_slice
  have HVA := Lib.hid hva
  have HVB := Lib.hid hvb
  obtain ⟨w0, hw0⟩ : ∃ w0, (w.alloc (.cells #[.string a.name, .slice pa a.args.length ca] 30)).alloc (.cells #[.string b.name, .slice pb b.args.length cb] 30) = w0 := ⟨_, rfl⟩
  have HB0 : Hid (Below w.heap.size w w0) := Lib.hid (by rw [← hw0]; exact ((Below.refl w.heap.size w).alloc (Nat.le_refl _) _).alloc (by simp) _)
  have P0 : Hid (Two w0 w.heap.size (.string a.name) (.slice pa a.args.length ca)) := Lib.hid (by rw [← hw0]; exact (two_new _ _ _ 30 _ rfl).alloc _)
  have T0 : Hid (Two w0 (w.heap.size + 1) (.string b.name) (.slice pb b.args.length cb)) := Lib.hid (by rw [← hw0]; exact two_new _ _ _ 30 (w.heap.size + 1) (by simp))
  obtain ⟨p0, p1, p2⟩ := P0.out
  obtain ⟨t0, t1, t2⟩ := T0.out
  obtain ⟨wa, hwq⟩ : ∃ wa, w0.alloc (.cells #[.string a.name, .slice pa a.args.length ca, .string b.name, .slice pb b.args.length cb] 30) = wa := ⟨_, rfl⟩
  have B0A : Hid (Below w0.heap.size w0 wa) := Lib.hid (by rw [← hwq]; exact (Below.refl _ _).alloc (Nat.le_refl _) _)
  have HBA := Lib.hid (carry_below HB0.out (Nat.le_refl _) B0A.out)
  have FA : ∀ j v, #[(.string a.name : Value), .slice pa a.args.length ca, .string b.name, .slice pb b.args.length cb][j]? = some v → wa.cell? ⟨w0.heap.size, j, none⟩ = some v := by
    intro j v h; rw [← hwq, World.cell?_alloc_at _ _ _ _ rfl]; exact h
  have CE := areExpr_any [a, b] wa (.slice (some ⟨w0.heap.size, 0, none⟩) 2 2) (tmS_twoD (HVA.out.kept HBA.out) (HVB.out.kept HBA.out) w0.heap.size 2 (FA 0 _ rfl) (FA 1 _ rfl) (FA 2 _ rfl) (FA 3 _ rfl)) (by simp) (fun s hs => by
    rcases List.mem_cons.1 hs with e | hs
    · rw [e]; exact hwa
    · rw [List.mem_singleton.1 hs]; exact hwb)
  rw [all_twoD] at CE
  have CE := Lib.hid CE
  clear FA
  clear hva hvb
  go_enter Try.func22, Try.ntmps22
  go_wp2_with fail
  refine CE.out.mono ?_
  rintro e w1 ⟨rfl, hb⟩
  have HBB := Lib.hid (carry_below B0A.out (Nat.le_refl _) hb)
  have HB1 := Lib.hid (carry_below HBA.out (Nat.le_refl _) hb)
  have P1 := Lib.hid (P0.out.kept HBB.out)
  have T1 := Lib.hid (T0.out.kept HBB.out)
  clear hb hw0 hwq p0 p1 p2 t0 t1 t2 CE
  obtain ⟨p0, p1, p2⟩ := P1.out
  obtain ⟨t0, t1, t2⟩ := T1.out
  cases hg : (anyB a && anyB b) with
  | false =>
    have HE : Hid (IDisEnd a b w (.returned (.tuple #[.slice (some ⟨w1.heap.size, 0, none⟩) 0 0, .bool false])) (w1.alloc (.cells #[] 3))) := Lib.hid ⟨_, by rw [(dis_ab hg).1], by rw [(dis_ab hg).2]; exact .inl ⟨_, _, rfl, rfl⟩, HB1.out.alloc HB1.out.size _⟩
    clear hg
    go_wp2
    go_ret2
    exact HE.out
  | true =>
    have HGA : Hid (anyB a = true) := Lib.hid (Bool.and_eq_true_iff.1 hg).1
    have HGB : Hid (anyB b = true) := Lib.hid (Bool.and_eq_true_iff.1 hg).2
    clear hg
    go_wp2_with fail
    refine (implPos_any a w1 _ (HVA.out.kept HB1.out) hwa).mono ?_
    rintro e w2 ⟨v2, rfl, hacc, hb⟩
    have hpos : posA a = posT [] a := by simp [posA, HGA.out]
    rw [hpos] at hacc
    obtain ⟨g, n, c, rfl, hn, hg1, hg2⟩ := hacc.form (posT_pos _ _)
    obtain ⟨us, Ss, how, hrws, _⟩ := hacc
    have HB2 := Lib.hid (carry_below HB1.out (Nat.le_refl _) hb)
    have P2 := Lib.hid (P1.out.kept hb)
    have T2 := Lib.hid (T1.out.kept hb)
    have HZ : Hid (w.heap.size ≤ w1.heap.size) := Lib.hid HB1.out.size
    have hsz : n ≤ 1048577 := by rw [hn, posT_len]; have := a.sz_wt; omega
    have HN := Lib.hid hn
    have HROW : Hid (∀ k p, (posT [] a)[k]? = some p → ∃ qa qc, w2.cell? ⟨g, k, none⟩ = some (.slice qa p.length qc) ∧ IntsO w2 (Ss k) (.slice qa p.length qc) p ∧ ∀ x, Ss k x → w.heap.size ≤ x ∧ x < w2.heap.size) := Lib.hid (fun k p hk => by
      obtain ⟨u, hu, ho⟩ := hrws.row k p hk
      obtain ⟨qa, qc, rfl, _⟩ := ho.read
      have hkl := (List.getElem?_eq_some_iff.1 hk).1
      refine ⟨qa, qc, ?_, ho, fun x hx => ⟨Nat.le_trans HZ.out (hrws.sub k x hkl hx).1, (hrws.sub k x hkl hx).2⟩⟩
      have h := how.cells (g := g) rfl k _ hu
      have hadd : (⟨g, 0, none⟩ : Addr).add k = ⟨g, k, none⟩ := by unfold Addr.add; split <;> simp_all
      rw [hadd] at h; exact h)
    have HPL : Hid (∀ (k : Nat) p, (posT [] a)[k]? = some p → p.length ≤ 1048576) := Lib.hid (fun k p hk => by
      have h1 := posT_length a [] p (List.mem_of_getElem? hk)
      have h2 := (fits_iff.1 (anyB_fits HGA.out)).2
      simp at h1; omega)
    clear hb p0 p1 p2 t0 t1 t2 hn how hrws hpos
    rw [HGA.out]
    go_wp2
    go_loopw [23] (fun i wr => ∃ k : Nat, k ≤ n ∧ i = .int .i64 k ∧ fnd a b ((posT [] a).drop k) = some (disT a b) ∧ Two wr w.heap.size (.string a.name) (.slice pa a.args.length ca) ∧ Two wr (w.heap.size + 1) (.string b.name) (.slice pb b.args.length cb) ∧ Below w2.heap.size w2 wr) (fun i _ => n - (intOf i).toNat)
    case atStart => exact ⟨0, Nat.zero_le _, rfl, fnd_all a b, P2.out, T2.out, Below.refl _ _⟩
    case round =>
      obtain ⟨k, hk, rfl, hf, h2a, h2b, hbel⟩ := hrel
      have HF := Lib.hid hf
      have HBE := Lib.hid hbel
      have HBW := Lib.hid (carry_below HB2.out (Nat.le_refl _) hbel)
      have HA2 := Lib.hid h2a
      have HT2 := Lib.hid h2b
      clear hf hbel h2a h2b
      by_cases hlt : k < n
      · have hkl : k < (posT [] a).length := by have := HN.out; omega
        obtain ⟨p, hp⟩ : ∃ p, (posT [] a)[k]? = some p := ⟨_, List.getElem?_eq_getElem hkl⟩
        obtain ⟨qa, qc, hcell, hio, hin⟩ := HROW.out k p hp
        have hc := carry_cell hcell HBE.out
        have hpl := HPL.out k p hp
        obtain ⟨s, u, hs, hu, hyes, hno⟩ := fnd_step HF.out hp
        have HYES := Lib.hid hyes
        have HNO := Lib.hid hno
        have HIN := Lib.hid hin
        have HIO := Lib.hid (hio.frame (w' := wr) fun x hx => HBE.out.block x (hin x hx).2)
        have hls : s.args.length ≤ 1048576 := by have := subAt_wt _ _ _ hs; have := Tm.wt_len s; omega
        have hlu : u.args.length ≤ 1048576 := by have := subAt_wt _ _ _ hu; have := Tm.wt_len u; omega
        obtain ⟨ba, oa, hpa, vsa, na0, na1, na2⟩ := path_ex p a s w.heap.size 0 ⟨_, HA2.out.1, HA2.out.2.1, HVA.out.kept HBW.out⟩ hs
        obtain ⟨bb, ob, hpb, vsb, nb0, nb1, nb2⟩ := path_ex p b u (w.heap.size + 1) 0 ⟨_, HT2.out.1, HT2.out.2.1, HVB.out.kept HBW.out⟩ hu
        obtain ⟨xa, xc, rfl⟩ := na2.is_slice
        obtain ⟨ya, yc, rfl⟩ := nb2.is_slice
        clear na2 nb2
        have hB0 : Below wr.heap.size wr wr.drew := (Below.refl _ _).drew
        have CA : Hid (Calls Try.prog 67 #[.pointer (some ⟨w.heap.size, 0, none⟩), .slice qa p.length qc] wr.drew (fun e w' => wr.drew = w' ∧ e = .returned (.pointer (some ⟨ba, oa, none⟩)))) := Lib.hid (nodeAt_yes a s p wr.drew w.heap.size ba oa _ _ (HA2.out.kept hB0).1 (HA2.out.kept hB0).2.1 (HVA.out.kept (carry_below HBW.out (Nat.le_refl _) hB0)) (HIO.out.read.kept hB0) hwa hpl hs (hpa.kept hB0))
        have CB : Hid (Calls Try.prog 67 #[.pointer (some ⟨w.heap.size + 1, 0, none⟩), .slice qa p.length qc] wr.drew (fun e w' => wr.drew = w' ∧ e = .returned (.pointer (some ⟨bb, ob, none⟩)))) := Lib.hid (nodeAt_yes b u p wr.drew (w.heap.size + 1) bb ob _ _ (HT2.out.kept hB0).1 (HT2.out.kept hB0).2.1 (HVB.out.kept (carry_below HBW.out (Nat.le_refl _) hB0)) (HIO.out.read.kept hB0) hwb hpl hu (hpb.kept hB0))
        clear hcell hio hin hp hs hu hyes hno hpa hpb
        go_wp2_with fail
        go_region_held3 (fun w' => w'.cell? ⟨ba, oa, none⟩ = some (.string s.name) ∧ w'.cell? ⟨ba, oa + 1, none⟩ = some (.slice xa s.args.length xc) ∧ w'.cell? ⟨bb, ob, none⟩ = some (.string u.name) ∧ w'.cell? ⟨bb, ob + 1, none⟩ = some (.slice ya u.args.length yc)) (first | exact ⟨by assumption, by assumption, by assumption, by assumption⟩ | go_keep) (first
          | (go_at_call 67; (first | (with_reducible refine CA.out.mono ?_) | (with_reducible refine CB.out.mono ?_)); rintro e wx ⟨rfl, rfl⟩)
          | (go_at_call 66; refine (sameRoot_any s u _ xa ya xc yc hls hlu).mono ?_; rintro e w8 ⟨rfl, hb8⟩; have ma0 := carry_cell na0 (carry_below hB0 (Nat.le_refl _) hb8); have ma1 := carry_cell na1 (carry_below hB0 (Nat.le_refl _) hb8); have mb0 := carry_cell nb0 (carry_below hB0 (Nat.le_refl _) hb8); have mb1 := carry_cell nb1 (carry_below hB0 (Nat.le_refl _) hb8); have HB8 := Lib.hid (carry_below hB0 (Nat.le_refl _) hb8); clear hb8))
        all_goals
          have HA3 := Lib.hid (HA2.out.kept HB8.out)
          have HT3 := Lib.hid (HT2.out.kept HB8.out)
          have HB3 := Lib.hid (carry_below HBE.out (Nat.le_refl _) HB8.out)
          have HZ8 : Hid (w2.heap.size ≤ w8.heap.size) := Lib.hid HB3.out.size
          clear na0 na1 nb0 nb1 ma0 ma1 mb0 mb1 hB0 hc
          cases hq : sameB s u with
          | false =>
            have HE : Hid (IDisEnd a b w (.returned (.tuple #[.slice qa p.length qc, .bool true])) w8) := Lib.hid (by
              have e := HNO.out hq
              have hy := dis_y HGA.out HGB.out e
              refine ⟨_, by rw [hy.1], ?_, carry_below HBW.out (Nat.le_refl _) HB8.out⟩
              rw [hy.2]
              refine (HIO.out.frame fun x hx => HB8.out.block x (Nat.lt_of_lt_of_le (HIN.out x hx).2 HBE.out.size)).mono fun x hx => ⟨(HIN.out x hx).1, ?_⟩
              exact Nat.lt_of_lt_of_le (HIN.out x hx).2 HZ8.out)
            clear hq
            go_wp2
            go_ret2
            exact HE.out
          | true =>
            have HF2 := Lib.hid (HYES.out hq)
            clear hq
            go_wp2
            go_roundw
            case rel => exact ⟨k + 1, by omega, by go_num, HF2.out, HA3.out, HT3.out, HB3.out⟩
            case measure => simp [intOf]; omega
      · have hke : k = n := by omega
        have HE : Hid (IDisEnd a b w (.returned (.tuple #[.slice (some ⟨wr.heap.size, 0, none⟩) 0 0, .bool false])) (wr.alloc (.cells #[] 3))) := Lib.hid (by
          have h := HF.out
          rw [hke, HN.out] at h
          have e := fnd_end h
          exact ⟨_, by rw [(dis_n e).1], by rw [(dis_n e).2]; exact .inl ⟨_, _, rfl, rfl⟩, HBW.out.alloc HBW.out.size _⟩)
        clear hke
        go_wp2
        go_ret2
        exact HE.out

end Go.Proofs.Ytnabjnlphelccaa
