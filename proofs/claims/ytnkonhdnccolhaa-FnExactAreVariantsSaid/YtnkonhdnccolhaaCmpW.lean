/- Several texts in one: each says what it proves. No condition but theirs. -/
import Derived.Test.YtnkonhdnccolhaaRestT
import Derived.Test.YtnkonhdnccolhaaCopy
import Derived.Test.YtnkonhdnccolhaaCmpG
import Derived.Test.YtnkonhdnccolhaaAppS
import Derived.Test.YtnkonhdnccolhaaIdeS
import Derived.Test.YtnkonhdnccolhaaAppI
/- The program's copy of a binding, and RestrictSubstitution, the program's: contracts, for bindings of at most 1048576 names' bytes, bindings and arguments, and at most 1048576 names. -/
namespace Go.Proofs.Ytnkonhdnccolhaa
open Go.RowKit
set_option linter.unusedVariables false

set_option maxRecDepth 100000 in
set_option maxHeartbeats 4000000 in
theorem copyBd_any (d : Bd) (w : World) (va : Value) (hv : TmS w va d.tm.args) (hw : d.tm.wt ≤ 1048576) :
    Calls Try.prog 100 #[.agg #[.string d.var, .string d.tm.name, va]] w (ToBdEnd d w) := by
  obtain ⟨pa, ca, rfl⟩ := hv.is_slice
  have HV := Lib.hid hv
  clear hv
  have HB := Lib.hid (((Below.refl w.heap.size w).alloc (Nat.le_refl _) (.cells #[.string d.var, .string d.tm.name, .slice pa d.tm.args.length ca] 110)).alloc (by simp) (.cells #[.string ⟨#[]⟩, .string ⟨#[]⟩, .slice none 0 0] 110))
  have D2 := Lib.hid ((thr_new w (.string d.var) (.string d.tm.name) (.slice pa d.tm.args.length ca) 110 _ rfl).alloc (.cells #[.string ⟨#[]⟩, .string ⟨#[]⟩, .slice none 0 0] 110))
  have R2 := Lib.hid (thr_new (w.alloc (.cells #[.string d.var, .string d.tm.name, .slice pa d.tm.args.length ca] 110)) (.string ⟨#[]⟩) (.string ⟨#[]⟩) (.slice none 0 0) 110 (w.heap.size + 1) (by simp))
  obtain ⟨w0, hw0⟩ : ∃ w0, (w.alloc (.cells #[.string d.var, .string d.tm.name, .slice pa d.tm.args.length ca] 110)).alloc (.cells #[.string ⟨#[]⟩, .string ⟨#[]⟩, .slice none 0 0] 110) = w0 := ⟨_, rfl⟩
  rw [hw0] at HB D2 R2
  have hz0 : w0.heap.size = w.heap.size + 2 := by rw [← hw0]; simp
  have HZ0 := Lib.hid hz0
  clear hz0
  go_enter Try.func100, Try.ntmps100
  obtain ⟨d0, d1, d2, d3⟩ := D2.out
  obtain ⟨r0, r1, r2, r3⟩ := R2.out
  have C0 : Hid (∀ W : World, Below w0.heap.size w0 W → Calls Try.prog 127 #[.agg #[.string d.tm.name, .slice pa d.tm.args.length ca]] W (ToEnd d.tm W)) := Lib.hid (fun W hW => copyTerm_any d.tm W _ ((HV.out.kept HB.out).kept hW) hw)
  have hB0 : Below w0.heap.size w0 w0.drew := (Below.refl _ _).drew
  go_wp2_with fail
  clear hw0
  go_region_law (first
    | (go_simp; go_at_call 127; refine (C0.out _ hB0).mono ?_; rintro e w6 ⟨v6, rfl, ho, hb⟩; have q0 := carry_cell' hb d0; have q1 := carry_cell' hb d1; have q2 := carry_cell' hb d2; have R6 := Lib.hid (R2.out.kept (carry_below hB0 (Nat.le_refl _) hb)); obtain ⟨t0, t1, t2, t3⟩ := R6.out; have hB6 := carry_below hB0 (Nat.le_refl _) hb; obtain ⟨pv, cv, rfl⟩ := ho.read.is_slice; have HO6 := Lib.hid ho; clear hb ho))
  all_goals
    have HB6 := Lib.hid (carry_below HB.out (Nat.le_refl _) hB6)
    have hz6 : w.heap.size + 2 ≤ w0.drew.heap.size := by have := HZ0.out; show w.heap.size + 2 ≤ w0.heap.size; omega
    obtain ⟨W2, hW2⟩ : ∃ W2, ((w6.setCell ⟨w.heap.size + 1, 0, none⟩ (.string d.var)).setCell ⟨w.heap.size + 1, 1, none⟩ (.string d.tm.name)).setCell ⟨w.heap.size + 1, 2, none⟩ (.slice pv d.tm.args.length cv) = W2 := ⟨_, rfl⟩
    have p0 : W2.cell? ⟨w.heap.size + 1, 0, none⟩ = some (.string d.var) := by rw [← hW2, World.cell?_setCell_other _ _ _ _ (by simp), World.cell?_setCell_other _ _ _ _ (by simp)]; exact World.cell?_setCell_same _ _ _ t0
    have p1 : W2.cell? ⟨w.heap.size + 1, 1, none⟩ = some (.string d.tm.name) := by rw [← hW2, World.cell?_setCell_other _ _ _ _ (by simp)]; exact World.cell?_setCell_same _ _ _ ((World.cell?_setCell_other _ _ _ _ (by simp)).trans t1)
    have p2 : W2.cell? ⟨w.heap.size + 1, 2, none⟩ = some (.slice pv d.tm.args.length cv) := by rw [← hW2]; exact World.cell?_setCell_same _ _ _ ((World.cell?_setCell_other _ _ _ _ (by simp)).trans ((World.cell?_setCell_other _ _ _ _ (by simp)).trans t2))
    have HE : Hid (ToBdEnd d w (.returned (.agg #[.string d.var, .string d.tm.name, .slice pv d.tm.args.length cv])) W2) := Lib.hid (by
      rw [← hW2]
      refine ⟨_, rfl, ?_, ((HB6.out.setCell (by simp) _).setCell (by simp) _).setCell (by simp) _⟩
      refine (((HO6.out.setCell (fun h => by have h1 : w0.drew.heap.size ≤ w.heap.size + 1 := h.1; omega) _).setCell (fun h => by have h1 : w0.drew.heap.size ≤ w.heap.size + 1 := h.1; omega) _).setCell (fun h => by have h1 : w0.drew.heap.size ≤ w.heap.size + 1 := h.1; omega) _).mono fun x hx => ⟨?_, ?_⟩
      · have h1 := hx.1; omega
      · simp only [size_setCell]; exact hx.2)
    clear q0 q1 q2 hB6
    go_wp2
    refine bodyPost_ret (v := .agg #[.string d.var, .string d.tm.name, .slice pv d.tm.args.length cv]) (by simp [results, Try.results100, go_sem, p0, p1, p2, hW2]) rfl ?_
    first | exact HE.out | (rw [hW2]; exact HE.out)

end Go.Proofs.Ytnkonhdnccolhaa

/- The model's composition of two substitutions: a contract, for valid substitutions. -/
namespace Go.Proofs.Ytnkonhdnccolhaa
open Go.RowKit
set_option linter.unusedVariables false

theorem RowE.setBelow {base lo : Nat} {w : World} {v : Value} {L : List En} (h : RowE base lo w v L) {a : Addr} (h1 : a.block < base) (h2 : a.block < lo) (u : Value) : RowE base lo (w.setCell a u) v L :=
  ⟨ownsRow_setCell_below h.row h1 u, h.ens.setCell (fun e he hs => by have := (h.ens.sub e he _ hs).1; omega) u, h.apart⟩

theorem farC {W : World} {g x o1 j : Nat} {u z : Value} (h : x ≠ g) (hc : W.cell? ⟨x, j, none⟩ = some z) : (W.setCell ⟨g, o1, none⟩ u).cell? ⟨x, j, none⟩ = some z :=
  (World.cell?_setCell_other _ _ _ _ (fun e => h (by cases e; rfl))).trans hc

/-- What the first loop has put after k rounds. -/
def cT (s u : List Bd) (k : Nat) : List Bd := ((appB u s).take k).filter nontr
theorem cT_next {s u : List Bd} (hs : Asc s) {k : Nat} {d : Bd} (hd : s[k]? = some d) : cT s u (k + 1) = putF ⟨d.var, d.tm.app u⟩ (cT s u k) := by
  have h := appB_asc (u := u) hs
  have hl : k < (appB u s).length := by rw [appB_len]; exact (List.getElem?_eq_some_iff.1 hd).1
  have e1 := put_asc h (k + 1) hl
  have e0 := put_asc h k (by omega)
  rw [take_next (appB_at hd), List.foldl_append, e0] at e1
  unfold cT
  rw [take_next (appB_at hd)]
  exact e1.symm
theorem cT_asc {s u : List Bd} (hs : Asc s) (k : Nat) : Asc (cT s u k) := ((appB_asc hs).sub (List.take_sublist k _)).sub List.filter_sublist
theorem cT_len (s u : List Bd) (k : Nat) : (cT s u k).length ≤ s.length := by
  have h1 := List.length_filter_le nontr ((appB u s).take k)
  have h2 := List.length_take_le k (appB u s)
  have h3 := List.length_take_le' k (appB u s)
  rw [appB_len] at h3
  unfold cT; omega
theorem cT_all (s u : List Bd) : cT s u s.length = cS s u 0 := by
  unfold cT; rw [List.take_of_length_le (by rw [appB_len]; exact Nat.le_refl _)]; rfl
theorem cS_asc {s u : List Bd} (hs : Asc s) (hu : Asc u) (k : Nat) (hk : k ≤ u.length) : Asc (cS s u k) := by rw [cS_eq hs hu k hk]; exact (cP_asc hs k hk).sub List.filter_sublist
theorem cS_len {s u : List Bd} (hs : Asc s) (hu : Asc u) (k : Nat) (hk : k ≤ u.length) : (cS s u k).length ≤ s.length + k := by
  rw [cS_eq hs hu k hk]; exact Nat.le_trans (List.length_filter_le _ _) (cP_len s u k)

theorem RowE.mono {base lo base' lo' : Nat} {w : World} {v : Value} {L : List En} (h : RowE base lo w v L) (h1 : base' ≤ base) (h2 : lo' ≤ lo) : RowE base' lo' w v L := by
  refine ⟨⟨h.row.1, ?_⟩, h.ens.mono h2, h.apart⟩
  rcases h.row.2 with hn | ⟨g, cap, cur, e1, hb, hrest⟩
  · exact .inl hn
  · exact .inr ⟨g, cap, cur, e1, Nat.le_trans h1 hb, hrest⟩

def CmpRel (base : Nat) (bo : Nat) (T : List Bd) (wr : World) : Prop :=
  ∃ (ov : Value) (L : List En), Oner wr bo ov ∧ RowE base base wr ov L ∧ bdsE L = T ∧ base ≤ wr.heap.size
theorem CmpRel.next {base bo : Nat} {T : List Bd} {wr w7 : World} {p : Option Addr} {q n : Nat} {x : Value} {L7 : List En} (ho : Oner w7 bo x) (hr : RowE base base w7 (.slice p n q) L7) (hb : bdsE L7 = T) (hbo : bo < base) (hz : base ≤ w7.heap.size) :
    CmpRel base bo T (w7.setCell ⟨bo, 0, none⟩ (.slice p n q)) :=
  ⟨_, L7, ho.setIt _, hr.setBelow hbo hbo _, hb, by rw [size_setCell]; exact hz⟩

def CmpEnd (T : List Bd) (w : World) (e : Ending) (w' : World) : Prop := ∃ v L, e = .returned (.agg #[v]) ∧ RowE w.heap.size w.heap.size w' v L ∧ bdsE L = T ∧ Below w.heap.size w w'

set_option maxRecDepth 100000 in
set_option maxHeartbeats 8000000 in
theorem l4Compose_any (s u : List Bd) (hs : goodS s = true) (hu : goodS u = true) (w : World) (vs vu : Value) (hvs : BdS w vs s) (hvu : BdS w vu u) (hws : wtB s ≤ 1048576) (hwu : wtB u ≤ 1048576) :
    Calls Try.prog 94 #[.agg #[vs], .agg #[vu]] w (CmpEnd (cS s u u.length) w) := by
  obtain ⟨sa, sc, rfl⟩ := hvs.is_slice
  obtain ⟨ua, uc, rfl⟩ := hvu.is_slice
  have hsl := goodS_le hs
  have hul := goodS_le hu
  have HGS := Lib.hid hs
  have HGU := Lib.hid hu
  obtain ⟨w0, hw0⟩ : ∃ w0, (((w.alloc (.cells #[.slice sa s.length sc] 34)).alloc (.cells #[.slice ua u.length uc] 34)).alloc (.cells #[.slice none 0 0] 34)).alloc (.cells #[.slice none 0 0] 34) = w0 := ⟨_, rfl⟩
  have HB0 : Hid (Below w.heap.size w w0) := Lib.hid (by rw [← hw0]; exact ((((Below.refl w.heap.size w).alloc (Nat.le_refl _) _).alloc (by simp) _).alloc (by simp; omega) _).alloc (by simp; omega) _)
  have S0 : Hid (Oner w0 w.heap.size (.slice sa s.length sc)) := Lib.hid (by rw [← hw0]; exact (((oner_new w (.slice sa s.length sc) 34 _ rfl).alloc _).alloc _).alloc _)
  have U0 : Hid (Oner w0 (w.heap.size + 1) (.slice ua u.length uc)) := Lib.hid (by rw [← hw0]; exact ((oner_new _ (.slice ua u.length uc) 34 (w.heap.size + 1) (by simp)).alloc _).alloc _)
  have R0 : Hid (Oner w0 (w.heap.size + 1 + 1) (.slice none 0 0)) := Lib.hid (by rw [← hw0]; exact (oner_new _ (.slice none 0 0) 34 (w.heap.size + 1 + 1) (by simp)).alloc _)
  have O0 : Hid (Oner w0 (w.heap.size + 1 + 1 + 1) (.slice none 0 0)) := Lib.hid (by rw [← hw0]; exact oner_new _ (.slice none 0 0) 34 (w.heap.size + 1 + 1 + 1) (by simp))
  have hz0 : w0.heap.size = w.heap.size + 4 := by rw [← hw0]; simp
  have HZ0 := Lib.hid hz0
  have HVS := Lib.hid hvs
  have HVU := Lib.hid hvu
  have C1 : Hid (CmpRel w0.heap.size (w.heap.size + 1 + 1 + 1) (cT s u 0) (w0.setCell ⟨w.heap.size + 1 + 1 + 1, 0, none⟩ (.slice none 0 0)) ∧ Oner (w0.setCell ⟨w.heap.size + 1 + 1 + 1, 0, none⟩ (.slice none 0 0)) w.heap.size (.slice sa s.length sc) ∧ Oner (w0.setCell ⟨w.heap.size + 1 + 1 + 1, 0, none⟩ (.slice none 0 0)) (w.heap.size + 1) (.slice ua u.length uc) ∧ Oner (w0.setCell ⟨w.heap.size + 1 + 1 + 1, 0, none⟩ (.slice none 0 0)) (w.heap.size + 1 + 1) (.slice none 0 0) ∧ Below w.heap.size w (w0.setCell ⟨w.heap.size + 1 + 1 + 1, 0, none⟩ (.slice none 0 0))) := Lib.hid ⟨⟨_, [], O0.out.setIt _, RowE.nil _ _ _, rfl, Nat.le_of_eq (size_setCell _ _ _).symm⟩, S0.out.setFar (by simp; omega) _, U0.out.setFar (by simp; omega) _, R0.out.setFar (by simp; try omega) _, HB0.out.setCell (by simp; omega) _⟩
  have HSW := Lib.hid (fun (d : Bd) (hd : d ∈ s) => Nat.le_trans (wtB_tm hd) hws)
  have HUW := Lib.hid (fun (d : Bd) (hd : d ∈ u) => Nat.le_trans (wtB_tm hd) hwu)
  have HXW := Lib.hid (fun (d : Bd) (hd : d ∈ s) => show (d.tm.app u).wt ≤ 1048576 from by have h1 := app_wt_good (l := u) hu (goodB_anyB (good_mem hs hd).1); omega)
  have CA := Lib.hid (fun (t : Tm) => l4Apply_any u hwu (good_asc hu) t)
  have CF := Lib.hid (fun (W : World) (v : Value) (hv : BdS W v s) (nm : ByteArray) => l4Find_any s W v hv (by omega) nm)
  have HAS := Lib.hid (good_asc hs)
  have HAU := Lib.hid (good_asc hu)
  obtain ⟨s0, s1⟩ := S0.out
  obtain ⟨u0, u1⟩ := U0.out
  obtain ⟨r0, r1⟩ := R0.out
  obtain ⟨o0, o1⟩ := O0.out
  clear hvs hvu hs hu hz0 hws hwu
  go_enter Try.func94, Try.ntmps94
  go_wp2
  go_loopw [6] (fun i wr => ∃ k : Nat, k ≤ s.length ∧ i = .int .i64 k ∧ CmpRel w0.heap.size (w.heap.size + 1 + 1 + 1) (cT s u k) wr ∧ Oner wr w.heap.size (.slice sa s.length sc) ∧ Oner wr (w.heap.size + 1) (.slice ua u.length uc) ∧ Oner wr (w.heap.size + 1 + 1) (.slice none 0 0) ∧ Below w.heap.size w wr) (fun i _ => s.length - (intOf i).toNat)
  case atStart => exact ⟨0, Nat.zero_le _, rfl, C1.out⟩
  case round =>
    obtain ⟨k, hk, rfl, ⟨ov, L, ho, hrow, hbds, hbase⟩, hS, hU, hR, hbel⟩ := hrel
    have HO := Lib.hid ho
    have HROW := Lib.hid hrow
    have HBD := Lib.hid hbds
    have HS := Lib.hid hS
    have HU := Lib.hid hU
    have HR := Lib.hid hR
    have HB := Lib.hid hbel
    obtain ⟨oa, oc, rfl⟩ := hrow.is_slice
    have hzr : w.heap.size + 1 + 1 + 1 < wr.heap.size := World.block_lt_of_cell? wr ⟨_, 0, none⟩ ho.1
    have HBS := Lib.hid hbase
    clear ho hrow hbds hS hU hR hbel hbase s0 s1 u0 u1 r0 r1 o0 o1
    obtain ⟨s0, s1⟩ := HS.out
    obtain ⟨u0, u1⟩ := HU.out
    obtain ⟨o0, o1⟩ := HO.out
    by_cases hlt : k < s.length
    · obtain ⟨d, hd⟩ : ∃ d, s[k]? = some d := ⟨_, List.getElem?_eq_getElem hlt⟩
      have HVSW := HVS.out.kept HB.out
      obtain ⟨b, off, rfl, vb, c0, c1, c2, hvb⟩ := HVSW.get hd
      obtain ⟨pb, qb, rfl⟩ := hvb.is_slice
      have hbw : b < w.heap.size := by
        obtain ⟨b', off', e1, _, c0', _⟩ := HVS.out.get hd
        have e2 := Option.some.inj e1
        cases e2
        exact World.block_lt_of_cell? w ⟨b, _, none⟩ c0'
      have HD := Lib.hid hd
      have HVB := Lib.hid hvb
      have HNX := Lib.hid (cT_next (u := u) HAS.out hd)
      obtain ⟨x, hx⟩ : ∃ x, x = d.tm.app u := ⟨_, rfl⟩
      have hxw : x.wt ≤ 1048576 := by rw [hx]; exact HXW.out d (List.mem_of_getElem? hd)
      have C0 : Hid (∀ W : World, Below wr.heap.size wr W → Calls Try.prog 136 #[.agg #[.slice ua u.length uc], .agg #[.string d.tm.name, .slice pb d.tm.args.length qb]] W (ToEnd x W)) := Lib.hid (fun W hW => by
        rw [hx]
        exact CA.out d.tm W _ _ ((HVU.out.kept HB.out).kept hW) (HVB.out.kept hW) (HSW.out d (List.mem_of_getElem? HD.out)))
      have P0 : Hid (∀ (W : World) (v6 : Value), Below wr.heap.size wr W → TmS W v6 x.args → Calls Try.prog 147 #[.agg #[.slice oa L.length oc], .string d.var, .agg #[.string x.name, v6]] W (PutEnd w0.heap.size w0.heap.size L ⟨d.var, x⟩ W)) := Lib.hid (fun W v6 hW h6 =>
        l4Put_any _ _ _ L d.var x v6 W (HROW.out.kept hW) (by rw [HBD.out]; exact cT_asc HAS.out k) h6 hxw (by rw [← bdsE_len, HBD.out]; have := cT_len s u k; omega) (Nat.le_trans HBS.out hW.size) (Nat.le_trans HBS.out hW.size))
      have HX := Lib.hid hx
      have hB0 : Below wr.heap.size wr wr.drew := (Below.refl _ _).drew
      have hw0z : w0.heap.size = w.heap.size + 4 := HZ0.out
      clear hd hvb hx HVSW
      go_wp2_with fail
      refine sink_start 16 (fun w' => w'.cell? ⟨w.heap.size, 0, none⟩ = some (.slice (some ⟨b, off, none⟩) s.length sc) ∧ w'.cell? ⟨w.heap.size + 1, 0, none⟩ = some (.slice ua u.length uc) ∧ w'.cell? ⟨w.heap.size + 1 + 1 + 1, 0, none⟩ = some (.slice oa L.length oc) ∧ w'.cell? ⟨b, off + k * 3, none⟩ = some (.string d.var) ∧ w'.cell? ⟨b, off + k * 3 + 1, none⟩ = some (.string d.tm.name) ∧ w'.cell? ⟨b, off + k * 3 + 2, none⟩ = some (.slice pb d.tm.args.length qb)) (by kernel_rfl) (by exact ⟨by assumption, by assumption, by assumption, by assumption, by assumption, by assumption⟩) (fun hHeld => ?_)
      refine sink_take 0 (v := ?_) rfl (by kernel_rfl) (by kernel_rfl) (by kernel_rfl) (by kernel_rfl) (by rfl) (fun _ _ _ h => h) (by assumption) ?_ ?_; rotate_left; (intro w hSw; (try dsimp only at hSw); go_simp; try (with_reducible rfl))
      try simp only [Act.put, List.getElem_toArray, List.getElem_cons_zero, List.setIfInBounds_toArray, List.set_cons_zero, List.set_cons_succ]
      refine sink_take 1 (v := ?_) rfl (by kernel_rfl) (by kernel_rfl) (by kernel_rfl) (by kernel_rfl) (by rfl) (fun _ _ _ h => h) (by assumption) ?_ ?_; rotate_left; (intro w hSw; (try dsimp only at hSw); go_simp; try (with_reducible rfl))
      try simp only [Act.put, List.getElem_toArray, List.getElem_cons_zero, List.getElem_cons_succ, List.setIfInBounds_toArray, List.set_cons_zero, List.set_cons_succ]
      refine sink_take 2 (v := ?_) rfl (by kernel_rfl) (by kernel_rfl) (by kernel_rfl) (by kernel_rfl) (by rfl) (fun _ _ _ h => h) (by assumption) ?_ ?_; rotate_left; (intro w hSw; (try dsimp only at hSw); go_simp; try (with_reducible rfl))
      try simp only [Act.put, List.getElem_toArray, List.getElem_cons_zero, List.getElem_cons_succ, List.setIfInBounds_toArray, List.set_cons_zero, List.set_cons_succ]
      refine sink_take 3 (v := ?_) rfl (by kernel_rfl) (by kernel_rfl) (by kernel_rfl) (by kernel_rfl) (by rfl) (fun _ _ _ h => h) (by assumption) ?_ ?_; rotate_left; (intro w hSw; (try dsimp only at hSw); go_simp; try (with_reducible rfl))
      try simp only [Act.put, List.getElem_toArray, List.getElem_cons_zero, List.getElem_cons_succ, List.setIfInBounds_toArray, List.set_cons_zero, List.set_cons_succ]
      refine sink_take 4 (v := ?_) rfl (by kernel_rfl) (by kernel_rfl) (by kernel_rfl) (by kernel_rfl) (by rfl) (fun _ _ _ h => h) (by assumption) ?_ ?_; rotate_left; (intro w hSw; (try dsimp only at hSw); go_simp; try (with_reducible rfl))
      try simp only [Act.put, List.getElem_toArray, List.getElem_cons_zero, List.getElem_cons_succ, List.setIfInBounds_toArray, List.set_cons_zero, List.set_cons_succ]
      refine sink_take 5 (v := ?_) rfl (by kernel_rfl) (by kernel_rfl) (by kernel_rfl) (by kernel_rfl) (by rfl) (fun _ _ _ h => h) (by assumption) ?_ ?_; rotate_left; (intro w hSw; (try dsimp only at hSw); go_simp; try (with_reducible rfl))
      try simp only [Act.put, List.getElem_toArray, List.getElem_cons_zero, List.getElem_cons_succ, List.setIfInBounds_toArray, List.set_cons_zero, List.set_cons_succ]
      refine sink_take 6 (v := ?_) rfl (by kernel_rfl) (by kernel_rfl) (by kernel_rfl) (by kernel_rfl) (by rfl) (fun _ _ _ h => h) (by assumption) ?_ ?_; rotate_left; (intro w hSw; (try dsimp only at hSw); go_simp; try (with_reducible rfl))
      try simp only [Act.put, List.getElem_toArray, List.getElem_cons_zero, List.getElem_cons_succ, List.setIfInBounds_toArray, List.set_cons_zero, List.set_cons_succ]
      refine sink_take 7 (v := ?_) rfl (by kernel_rfl) (by kernel_rfl) (by kernel_rfl) (by kernel_rfl) (by rfl) (fun _ _ _ h => h) (by assumption) ?_ ?_; rotate_left; (intro w hSw; (try dsimp only at hSw); go_simp; try (with_reducible rfl))
      try simp only [Act.put, List.getElem_toArray, List.getElem_cons_zero, List.getElem_cons_succ, List.setIfInBounds_toArray, List.set_cons_zero, List.set_cons_succ]
      refine sink_take 8 (v := ?_) rfl (by kernel_rfl) (by kernel_rfl) (by kernel_rfl) (by kernel_rfl) (by rfl) (fun _ _ _ h => h) (by assumption) ?_ ?_; rotate_left; (intro w hSw; (try dsimp only at hSw); go_simp; try (with_reducible rfl))
      try simp only [Act.put, List.getElem_toArray, List.getElem_cons_zero, List.getElem_cons_succ, List.setIfInBounds_toArray, List.set_cons_zero, List.set_cons_succ]
      refine sink_take 9 (v := ?_) rfl (by kernel_rfl) (by kernel_rfl) (by kernel_rfl) (by kernel_rfl) (by rfl) (fun _ _ _ h => h) (by assumption) ?_ ?_; rotate_left; (intro w hSw; (try dsimp only at hSw); go_simp; try (with_reducible rfl))
      try simp only [Act.put, List.getElem_toArray, List.getElem_cons_zero, List.getElem_cons_succ, List.setIfInBounds_toArray, List.set_cons_zero, List.set_cons_succ]
      refine sink_take 10 (v := ?_) rfl (by kernel_rfl) (by kernel_rfl) (by kernel_rfl) (by kernel_rfl) (by rfl) (fun _ _ _ h => h) (by assumption) ?_ ?_; rotate_left; (intro w hSw; (try dsimp only at hSw); go_simp; try (with_reducible rfl))
      try simp only [Act.put, List.getElem_toArray, List.getElem_cons_zero, List.getElem_cons_succ, List.setIfInBounds_toArray, List.set_cons_zero, List.set_cons_succ]
      refine sink_take 11 (v := ?_) rfl (by kernel_rfl) (by kernel_rfl) (by kernel_rfl) (by kernel_rfl) (by rfl) (fun _ _ _ h => h) (by assumption) ?_ ?_; rotate_left; (intro w hSw; (try dsimp only at hSw); go_simp; try (with_reducible rfl))
      try simp only [Act.put, List.getElem_toArray, List.getElem_cons_zero, List.getElem_cons_succ, List.setIfInBounds_toArray, List.set_cons_zero, List.set_cons_succ]
      refine sink_take 12 (v := ?_) rfl (by kernel_rfl) (by kernel_rfl) (by kernel_rfl) (by kernel_rfl) (by rfl) (fun _ _ _ h => h) (by assumption) ?_ ?_; rotate_left; (intro w hSw; (try dsimp only at hSw); go_simp; try (with_reducible rfl))
      try simp only [Act.put, List.getElem_toArray, List.getElem_cons_zero, List.getElem_cons_succ, List.setIfInBounds_toArray, List.set_cons_zero, List.set_cons_succ]
      refine sink_take 13 (v := ?_) rfl (by kernel_rfl) (by kernel_rfl) (by kernel_rfl) (by kernel_rfl) (by rfl) (fun _ _ _ h => h) (by assumption) ?_ ?_; rotate_left; (intro w hSw; (try dsimp only at hSw); go_simp; try (with_reducible rfl))
      try simp only [Act.put, List.getElem_toArray, List.getElem_cons_zero, List.getElem_cons_succ, List.setIfInBounds_toArray, List.set_cons_zero, List.set_cons_succ]
      refine sink_one (i := 14) (by kernel_rfl) rfl (fun K hK => ?_)
      go_simp
      go_at_call 136; refine (C0.out _ hB0).mono ?_; rintro e w6 ⟨v6, rfl, ho, hb⟩; have q0 := carry_cell' hb s0; have q1 := carry_cell' hb u0; have q2 := carry_cell' hb c0; have q3 := carry_cell' hb c1; have q4 := carry_cell' hb c2; have q5 := carry_cell' hb o0; have hB6 := carry_below hB0 (Nat.le_refl _) hb; have HT6 := Lib.hid ho.read; obtain ⟨p6, c6, rfl⟩ := ho.read.is_slice; clear hb ho; go_wp2_with fail
      refine hK.out _ _ (fun _ => by exact ⟨by assumption, by assumption, by assumption, by assumption, by assumption, by assumption⟩) (fun hHeld => ?_)
      have hHeld := hHeld (by decide)
      clear hK K
      try simp only [Act.put, List.getElem_toArray, List.getElem_cons_zero, List.getElem_cons_succ, List.setIfInBounds_toArray, List.set_cons_zero, List.set_cons_succ]
      refine sink_one (i := 15) (by kernel_rfl) rfl (fun K hK => ?_)
      go_simp
      go_at_call 147; refine (P0.out _ _ hB6 HT6.out).mono ?_; rintro e w7 ⟨v7, L7, rfl, hr7, hd7, hb⟩; have t0 := carry_cell' hb q0; have t1 := carry_cell' hb q1; have t2 := carry_cell' hb q2; have t3 := carry_cell' hb q3; have t4 := carry_cell' hb q4; have t5 := carry_cell' hb q5; have hB7 := carry_below hB6 (Nat.le_refl _) hb; have HO7 := Lib.hid (HO.out.kept hB7); have t6 := HO7.out.2; obtain ⟨p7, c7, rfl⟩ := hr7.is_slice; have HR7 := Lib.hid hr7; have HD7 := Lib.hid hd7; clear hb hr7 hd7; go_wp2_with fail
      refine hK.out _ _ (fun _ => by exact ⟨by assumption, by assumption, by assumption, by assumption, by assumption, by assumption⟩) (fun hHeld => ?_)
      have hHeld := hHeld (by decide)
      clear hK K
      try simp only [Act.put, List.getElem_toArray, List.getElem_cons_zero, List.getElem_cons_succ, List.setIfInBounds_toArray, List.set_cons_zero, List.set_cons_succ]
      refine sink_one (i := 16) (by kernel_rfl) rfl (fun K hK => ?_)
      go_simp
      refine hK.out _ _ (fun hne => absurd rfl hne) (fun hHeld => ?_)
      clear hK K
      try simp only [Act.put, List.getElem_toArray, List.getElem_cons_zero, List.getElem_cons_succ, List.setIfInBounds_toArray, List.set_cons_zero, List.set_cons_succ]
      refine sink_done (by kernel_rfl) ?_ _
      all_goals
        have HRN : Hid (CmpRel w0.heap.size (w.heap.size + 1 + 1 + 1) (cT s u (k + 1)) (w7.setCell ⟨w.heap.size + 1 + 1 + 1, 0, none⟩ (.slice p7 L7.length c7))) := Lib.hid (CmpRel.next (wr := wr) HO7.out HR7.out (by rw [HD7.out, HBD.out, HNX.out, HX.out]) (by omega) (Nat.le_trans HBS.out hB7.size))
        have HSN : Hid (Oner (w7.setCell ⟨w.heap.size + 1 + 1 + 1, 0, none⟩ (.slice p7 L7.length c7)) w.heap.size (.slice (some ⟨b, off, none⟩) s.length sc)) := Lib.hid ((HS.out.kept hB7).setFar (by simp; omega) _)
        have HUN : Hid (Oner (w7.setCell ⟨w.heap.size + 1 + 1 + 1, 0, none⟩ (.slice p7 L7.length c7)) (w.heap.size + 1) (.slice ua u.length uc)) := Lib.hid ((HU.out.kept hB7).setFar (by simp; omega) _)
        have HRR : Hid (Oner (w7.setCell ⟨w.heap.size + 1 + 1 + 1, 0, none⟩ (.slice p7 L7.length c7)) (w.heap.size + 1 + 1) (.slice none 0 0)) := Lib.hid ((HR.out.kept hB7).setFar (by simp; try omega) _)
        have HBN : Hid (Below w.heap.size w (w7.setCell ⟨w.heap.size + 1 + 1 + 1, 0, none⟩ (.slice p7 L7.length c7))) := Lib.hid ((carry_below HB.out (Nat.le_refl _) hB7).setCell (by simp; omega) _)
        clear hB6 hB7 hB0 q0 q1 q2 q3 q4 q5 t0 t1 t2 t3 t4 t5 t6
        go_wp2
        go_roundw
        case rel => exact ⟨k + 1, by omega, by go_num, HRN.out, HSN.out, HUN.out, HRR.out, HBN.out⟩
        case measure => simp [intOf]; omega
    · have hke : k = s.length := by omega
      have C2 : Hid (CmpRel w0.heap.size (w.heap.size + 1 + 1 + 1) (cS s u 0) wr) := Lib.hid ⟨_, L, HO.out, HROW.out, by rw [HBD.out, hke, cT_all], HBS.out⟩
      go_wp2
      clear hlt hke hk
      go_loopw [7] (fun i wr => ∃ k : Nat, k ≤ u.length ∧ i = .int .i64 k ∧ CmpRel w0.heap.size (w.heap.size + 1 + 1 + 1) (cS s u k) wr ∧ Oner wr w.heap.size (.slice sa s.length sc) ∧ Oner wr (w.heap.size + 1) (.slice ua u.length uc) ∧ Oner wr (w.heap.size + 1 + 1) (.slice none 0 0) ∧ Below w.heap.size w wr) (fun i _ => u.length - (intOf i).toNat)
      case atStart => exact ⟨0, Nat.zero_le _, rfl, C2.out, HS.out, HU.out, HR.out, HB.out⟩
      case round =>
        clear s0 s1 u0 u1 o0 o1 hzr C2 HO HROW HBD HBS HS HU HR HB C1
        obtain ⟨k, hk, rfl, ⟨ov, L, ho, hrow, hbds, hbase⟩, hS, hU, hR, hbel⟩ := hrel
        have HO := Lib.hid ho
        have HROW := Lib.hid hrow
        have HBD := Lib.hid hbds
        have HS := Lib.hid hS
        have HU := Lib.hid hU
        have HR := Lib.hid hR
        have HB := Lib.hid hbel
        obtain ⟨oa, oc, rfl⟩ := hrow.is_slice
        have hzr : w.heap.size + 1 + 1 + 1 < wr.heap.size := World.block_lt_of_cell? wr ⟨_, 0, none⟩ ho.1
        have HBS := Lib.hid hbase
        clear ho hrow hbds hS hU hR hbel hbase
        obtain ⟨s0, s1⟩ := HS.out
        obtain ⟨u0, u1⟩ := HU.out
        obtain ⟨r0, r1⟩ := HR.out
        obtain ⟨o0, o1⟩ := HO.out
        have hw0z : w0.heap.size = w.heap.size + 4 := HZ0.out
        by_cases hlt : k < u.length
        · obtain ⟨d, hd⟩ : ∃ d, u[k]? = some d := ⟨_, List.getElem?_eq_getElem hlt⟩
          have HVUW := HVU.out.kept HB.out
          obtain ⟨b, off, rfl, vb, c0, c1, c2, hvb⟩ := HVUW.get hd
          obtain ⟨pb, qb, rfl⟩ := hvb.is_slice
          have HD := Lib.hid hd
          have HVB := Lib.hid hvb
          have HNX := Lib.hid (cS_next (s := s) hd)
          have hB0 : Below wr.heap.size wr wr.drew := (Below.refl _ _).drew
          have hdw := HUW.out d (List.mem_of_getElem? hd)
          clear hd hvb HVUW r0 r1
          cases hbd : boundB s d.var with
          | true =>
            have HRN : Hid (cS s u (k + 1) = cS s u k) := Lib.hid (by rw [HNX.out, if_pos hbd])
            have F0 : Hid (∀ W : World, Below wr.heap.size wr W → Calls Try.prog 148 #[.agg #[.slice sa s.length sc], .string d.var] W (fun e w' => ∃ i : Nat, e = .returned (.int .i64 i) ∧ Below W.heap.size W w')) := Lib.hid (fun W hW => (CF.out W _ ((HVS.out.kept HB.out).kept hW) d.var).mono fun e w' ⟨h, hb⟩ => by
              rcases h with ⟨h, _⟩ | ⟨i, x, _, _, h⟩
              · rw [hbd] at h; cases h
              · exact ⟨i, h, hb⟩)
            clear hbd
            go_wp2_with fail
            go_region_held3 (fun w' => w'.cell? ⟨w.heap.size, 0, none⟩ = some (.slice sa s.length sc) ∧ w'.cell? ⟨w.heap.size + 1, 0, none⟩ = some (.slice (some ⟨b, off, none⟩) u.length uc) ∧ w'.cell? ⟨b, off + k * 3, none⟩ = some (.string d.var)) (first | exact ⟨by assumption, by assumption, by assumption⟩ | go_keep) (first | (go_at_call 148; refine (F0.out _ hB0).mono ?_; rintro e w6 ⟨ii, rfl, hb⟩; have q0 := carry_cell' hb s0; have q1 := carry_cell' hb u0; have q2 := carry_cell' hb c0; have hB6 := carry_below hB0 (Nat.le_refl _) hb; clear hb))
            have C3 : Hid (CmpRel w0.heap.size (w.heap.size + 1 + 1 + 1) (cS s u (k + 1)) w6) := Lib.hid ⟨_, L, HO.out.kept hB6, HROW.out.kept hB6, by rw [HBD.out, HRN.out], Nat.le_trans HBS.out hB6.size⟩
            have HS6 := Lib.hid (HS.out.kept hB6)
            have HU6 := Lib.hid (HU.out.kept hB6)
            have HR6 := Lib.hid (HR.out.kept hB6)
            have HB6 := Lib.hid (carry_below HB.out (Nat.le_refl _) hB6)
            have hii : ¬ ((ii : Int) < 0) := by omega
            clear hB6 hB0 q0 q1 q2
            go_wp2
            go_roundw
            case rel => exact ⟨k + 1, by omega, by go_num, C3.out, HS6.out, HU6.out, HR6.out, HB6.out⟩
            case measure => simp [intOf]; omega
          | false =>
            have HRN : Hid (cS s u (k + 1) = putF d (cS s u k)) := Lib.hid (by rw [HNX.out, if_neg (by rw [hbd]; simp)])
            have F0 : Hid (∀ W : World, Below wr.heap.size wr W → Calls Try.prog 148 #[.agg #[.slice sa s.length sc], .string d.var] W (Ans (.int .i64 (-1)) W)) := Lib.hid (fun W hW => (CF.out W _ ((HVS.out.kept HB.out).kept hW) d.var).mono fun e w' ⟨h, hb⟩ => by
              rcases h with ⟨_, h⟩ | ⟨i, x, hx, hxn, h⟩
              · exact ⟨h, hb⟩
              · exact absurd hxn (bound_no.1 hbd x (List.mem_of_getElem? hx)))
            clear hbd
            go_wp2_with fail
            go_region_held3 (fun w' => w'.cell? ⟨w.heap.size, 0, none⟩ = some (.slice sa s.length sc) ∧ w'.cell? ⟨w.heap.size + 1, 0, none⟩ = some (.slice (some ⟨b, off, none⟩) u.length uc) ∧ w'.cell? ⟨b, off + k * 3, none⟩ = some (.string d.var)) (first | exact ⟨by assumption, by assumption, by assumption⟩ | go_keep) (first | (go_at_call 148; refine (F0.out _ hB0).mono ?_; rintro e w6 ⟨rfl, hb⟩; have q0 := carry_cell' hb s0; have q1 := carry_cell' hb u0; have q2 := carry_cell' hb c0; have hB6 := carry_below hB0 (Nat.le_refl _) hb; clear hb))
            have C3 := Lib.hid (HROW.out.kept hB6)
            have HS6 := Lib.hid (HS.out.kept hB6)
            have HU6 := Lib.hid (HU.out.kept hB6)
            have HR6 := Lib.hid (HR.out.kept hB6)
            have HO6 := Lib.hid (HO.out.kept hB6)
            have HB6 := Lib.hid (carry_below HB.out (Nat.le_refl _) hB6)
            have HV6 := Lib.hid (HVB.out.kept hB6)
            have hz6 : wr.heap.size ≤ w6.heap.size := hB6.size
            have g0 := carry_cell' hB6 c0
            have g1 := carry_cell' hB6 c1
            have g2 := carry_cell' hB6 c2
            clear q0 q1 q2 s0 s1 u0 u1 o0 o1 c0 c1 c2 hB0 hB6
            obtain ⟨u0, u1⟩ := HU6.out
            obtain ⟨o0, o1⟩ := HO6.out
            have P0 : Hid (∀ W : World, Below w6.heap.size w6 W → Calls Try.prog 147 #[.agg #[.slice oa L.length oc], .string d.var, .agg #[.string d.tm.name, .slice pb d.tm.args.length qb]] W (PutEnd w0.heap.size w0.heap.size L d W)) := Lib.hid (fun W hW =>
              l4Put_any _ _ _ L d.var d.tm _ W (C3.out.kept hW) (by rw [HBD.out]; exact cS_asc HAS.out HAU.out k hk) (HV6.out.kept hW) hdw (by rw [← bdsE_len, HBD.out]; have := cS_len HAS.out HAU.out k hk; omega) (by have := HBS.out; have := hW.size; omega) (by have := HBS.out; have := hW.size; omega))
            have hB0 : Below w6.heap.size w6 w6.drew := (Below.refl _ _).drew
            go_wp2_with fail
            refine sink_start 14 (fun w' => w'.cell? ⟨w.heap.size + 1, 0, none⟩ = some (.slice (some ⟨b, off, none⟩) u.length uc) ∧ w'.cell? ⟨w.heap.size + 1 + 1 + 1, 0, none⟩ = some (.slice oa L.length oc) ∧ w'.cell? ⟨b, off + k * 3, none⟩ = some (.string d.var) ∧ w'.cell? ⟨b, off + k * 3 + 1, none⟩ = some (.string d.tm.name) ∧ w'.cell? ⟨b, off + k * 3 + 2, none⟩ = some (.slice pb d.tm.args.length qb)) (by kernel_rfl) (by exact ⟨by assumption, by assumption, by assumption, by assumption, by assumption⟩) (fun hHeld => ?_)
            refine sink_take 0 (v := ?_) rfl (by kernel_rfl) (by kernel_rfl) (by kernel_rfl) (by kernel_rfl) (by rfl) (fun _ _ _ h => h) (by assumption) ?_ ?_; rotate_left; (intro w hSw; (try dsimp only at hSw); go_simp; try (with_reducible rfl))
            try simp only [Act.put, List.getElem_toArray, List.getElem_cons_zero, List.setIfInBounds_toArray, List.set_cons_zero, List.set_cons_succ]
            refine sink_take 1 (v := ?_) rfl (by kernel_rfl) (by kernel_rfl) (by kernel_rfl) (by kernel_rfl) (by rfl) (fun _ _ _ h => h) (by assumption) ?_ ?_; rotate_left; (intro w hSw; (try dsimp only at hSw); go_simp; try (with_reducible rfl))
            try simp only [Act.put, List.getElem_toArray, List.getElem_cons_zero, List.getElem_cons_succ, List.setIfInBounds_toArray, List.set_cons_zero, List.set_cons_succ]
            refine sink_take 2 (v := ?_) rfl (by kernel_rfl) (by kernel_rfl) (by kernel_rfl) (by kernel_rfl) (by rfl) (fun _ _ _ h => h) (by assumption) ?_ ?_; rotate_left; (intro w hSw; (try dsimp only at hSw); go_simp; try (with_reducible rfl))
            try simp only [Act.put, List.getElem_toArray, List.getElem_cons_zero, List.getElem_cons_succ, List.setIfInBounds_toArray, List.set_cons_zero, List.set_cons_succ]
            refine sink_take 3 (v := ?_) rfl (by kernel_rfl) (by kernel_rfl) (by kernel_rfl) (by kernel_rfl) (by rfl) (fun _ _ _ h => h) (by assumption) ?_ ?_; rotate_left; (intro w hSw; (try dsimp only at hSw); go_simp; try (with_reducible rfl))
            try simp only [Act.put, List.getElem_toArray, List.getElem_cons_zero, List.getElem_cons_succ, List.setIfInBounds_toArray, List.set_cons_zero, List.set_cons_succ]
            refine sink_take 4 (v := ?_) rfl (by kernel_rfl) (by kernel_rfl) (by kernel_rfl) (by kernel_rfl) (by rfl) (fun _ _ _ h => h) (by assumption) ?_ ?_; rotate_left; (intro w hSw; (try dsimp only at hSw); go_simp; try (with_reducible rfl))
            try simp only [Act.put, List.getElem_toArray, List.getElem_cons_zero, List.getElem_cons_succ, List.setIfInBounds_toArray, List.set_cons_zero, List.set_cons_succ]
            refine sink_take 5 (v := ?_) rfl (by kernel_rfl) (by kernel_rfl) (by kernel_rfl) (by kernel_rfl) (by rfl) (fun _ _ _ h => h) (by assumption) ?_ ?_; rotate_left; (intro w hSw; (try dsimp only at hSw); go_simp; try (with_reducible rfl))
            try simp only [Act.put, List.getElem_toArray, List.getElem_cons_zero, List.getElem_cons_succ, List.setIfInBounds_toArray, List.set_cons_zero, List.set_cons_succ]
            refine sink_take 6 (v := ?_) rfl (by kernel_rfl) (by kernel_rfl) (by kernel_rfl) (by kernel_rfl) (by rfl) (fun _ _ _ h => h) (by assumption) ?_ ?_; rotate_left; (intro w hSw; (try dsimp only at hSw); go_simp; try (with_reducible rfl))
            try simp only [Act.put, List.getElem_toArray, List.getElem_cons_zero, List.getElem_cons_succ, List.setIfInBounds_toArray, List.set_cons_zero, List.set_cons_succ]
            refine sink_take 7 (v := ?_) rfl (by kernel_rfl) (by kernel_rfl) (by kernel_rfl) (by kernel_rfl) (by rfl) (fun _ _ _ h => h) (by assumption) ?_ ?_; rotate_left; (intro w hSw; (try dsimp only at hSw); go_simp; try (with_reducible rfl))
            try simp only [Act.put, List.getElem_toArray, List.getElem_cons_zero, List.getElem_cons_succ, List.setIfInBounds_toArray, List.set_cons_zero, List.set_cons_succ]
            refine sink_take 8 (v := ?_) rfl (by kernel_rfl) (by kernel_rfl) (by kernel_rfl) (by kernel_rfl) (by rfl) (fun _ _ _ h => h) (by assumption) ?_ ?_; rotate_left; (intro w hSw; (try dsimp only at hSw); go_simp; try (with_reducible rfl))
            try simp only [Act.put, List.getElem_toArray, List.getElem_cons_zero, List.getElem_cons_succ, List.setIfInBounds_toArray, List.set_cons_zero, List.set_cons_succ]
            refine sink_take 9 (v := ?_) rfl (by kernel_rfl) (by kernel_rfl) (by kernel_rfl) (by kernel_rfl) (by rfl) (fun _ _ _ h => h) (by assumption) ?_ ?_; rotate_left; (intro w hSw; (try dsimp only at hSw); go_simp; try (with_reducible rfl))
            try simp only [Act.put, List.getElem_toArray, List.getElem_cons_zero, List.getElem_cons_succ, List.setIfInBounds_toArray, List.set_cons_zero, List.set_cons_succ]
            refine sink_take 10 (v := ?_) rfl (by kernel_rfl) (by kernel_rfl) (by kernel_rfl) (by kernel_rfl) (by rfl) (fun _ _ _ h => h) (by assumption) ?_ ?_; rotate_left; (intro w hSw; (try dsimp only at hSw); go_simp; try (with_reducible rfl))
            try simp only [Act.put, List.getElem_toArray, List.getElem_cons_zero, List.getElem_cons_succ, List.setIfInBounds_toArray, List.set_cons_zero, List.set_cons_succ]
            refine sink_take 11 (v := ?_) rfl (by kernel_rfl) (by kernel_rfl) (by kernel_rfl) (by kernel_rfl) (by rfl) (fun _ _ _ h => h) (by assumption) ?_ ?_; rotate_left; (intro w hSw; (try dsimp only at hSw); go_simp; try (with_reducible rfl))
            try simp only [Act.put, List.getElem_toArray, List.getElem_cons_zero, List.getElem_cons_succ, List.setIfInBounds_toArray, List.set_cons_zero, List.set_cons_succ]
            refine sink_take 12 (v := ?_) rfl (by kernel_rfl) (by kernel_rfl) (by kernel_rfl) (by kernel_rfl) (by rfl) (fun _ _ _ h => h) (by assumption) ?_ ?_; rotate_left; (intro w hSw; (try dsimp only at hSw); go_simp; try (with_reducible rfl))
            try simp only [Act.put, List.getElem_toArray, List.getElem_cons_zero, List.getElem_cons_succ, List.setIfInBounds_toArray, List.set_cons_zero, List.set_cons_succ]
            refine sink_one (i := 13) (by kernel_rfl) rfl (fun K hK => ?_)
            go_simp
            go_at_call 147; refine (P0.out _ hB0).mono ?_; rintro e w7 ⟨v7, L7, rfl, hr7, hd7, hb⟩; have t0 := carry_cell' hb u0; have t1 := carry_cell' hb o0; have t2 := carry_cell' hb g0; have t3 := carry_cell' hb g1; have t4 := carry_cell' hb g2; have hB7 := carry_below hB0 (Nat.le_refl _) hb; have HO7 := Lib.hid (HO6.out.kept hB7); have t6 := HO7.out.2; obtain ⟨p7, c7, rfl⟩ := hr7.is_slice; have HR7 := Lib.hid hr7; have HD7 := Lib.hid hd7; clear hb hr7 hd7; go_wp2_with fail
            refine hK.out _ _ (fun _ => by exact ⟨by assumption, by assumption, by assumption, by assumption, by assumption⟩) (fun hHeld => ?_)
            have hHeld := hHeld (by decide)
            clear hK K
            try simp only [Act.put, List.getElem_toArray, List.getElem_cons_zero, List.getElem_cons_succ, List.setIfInBounds_toArray, List.set_cons_zero, List.set_cons_succ]
            refine sink_one (i := 14) (by kernel_rfl) rfl (fun K hK => ?_)
            go_simp
            refine hK.out _ _ (fun hne => absurd rfl hne) (fun hHeld => ?_)
            clear hK K
            try simp only [Act.put, List.getElem_toArray, List.getElem_cons_zero, List.getElem_cons_succ, List.setIfInBounds_toArray, List.set_cons_zero, List.set_cons_succ]
            refine sink_done (by kernel_rfl) ?_ _
            have HRN2 : Hid (CmpRel w0.heap.size (w.heap.size + 1 + 1 + 1) (cS s u (k + 1)) (w7.setCell ⟨w.heap.size + 1 + 1 + 1, 0, none⟩ (.slice p7 L7.length c7))) := Lib.hid (CmpRel.next (wr := w6) HO7.out HR7.out (by rw [HD7.out, HBD.out, HRN.out]) (by omega) (by have := HBS.out; have := hB7.size; omega))
            have HSN : Hid (Oner (w7.setCell ⟨w.heap.size + 1 + 1 + 1, 0, none⟩ (.slice p7 L7.length c7)) w.heap.size (.slice sa s.length sc)) := Lib.hid ((HS6.out.kept hB7).setFar (by simp; omega) _)
            have HUN : Hid (Oner (w7.setCell ⟨w.heap.size + 1 + 1 + 1, 0, none⟩ (.slice p7 L7.length c7)) (w.heap.size + 1) (.slice (some ⟨b, off, none⟩) u.length uc)) := Lib.hid ((HU6.out.kept hB7).setFar (by simp; omega) _)
            have HRR : Hid (Oner (w7.setCell ⟨w.heap.size + 1 + 1 + 1, 0, none⟩ (.slice p7 L7.length c7)) (w.heap.size + 1 + 1) (.slice none 0 0)) := Lib.hid ((HR6.out.kept hB7).setFar (by simp; try omega) _)
            have HBN : Hid (Below w.heap.size w (w7.setCell ⟨w.heap.size + 1 + 1 + 1, 0, none⟩ (.slice p7 L7.length c7))) := Lib.hid ((carry_below HB6.out (Nat.le_refl _) hB7).setCell (by simp; omega) _)
            clear hB7 hB0 t0 t1 t2 t3 t4 t6
            go_wp2
            go_roundw
            case rel => exact ⟨k + 1, by omega, by go_num, HRN2.out, HSN.out, HUN.out, HRR.out, HBN.out⟩
            case measure => simp [intOf]; omega
        · have hke : k = u.length := by omega
          have HF : Hid (CmpEnd (cS s u u.length) w (.returned (.agg #[.slice oa L.length oc])) (wr.setCell ⟨w.heap.size + 1 + 1, 0, none⟩ (.slice oa L.length oc))) := Lib.hid ⟨_, L, rfl, (HROW.out.setBelow (by simp; omega) (by simp; omega) _).mono (by omega) (by omega), by rw [HBD.out, hke], HB.out.setCell (by simp; omega) _⟩
          clear hke
          go_wp2
          refine bodyPost_ret (v := .agg #[.slice oa L.length oc]) (by simp [results, Try.results94, go_sem, r0]) rfl ?_
          exact HF.out

end Go.Proofs.Ytnkonhdnccolhaa

/- ComposeSubstitutions, the model's: a contract, for bindings of at most 1048576 names' bytes, bindings and arguments. -/
namespace Go.Proofs.Ytnkonhdnccolhaa
open Go.RowKit
set_option linter.unusedVariables false

set_option maxRecDepth 100000 in
set_option maxHeartbeats 4000000 in
theorem specCompose_any (s u : List Bd) (w : World) (vs vu : Value) (hvs : BdS w vs s) (hvu : BdS w vu u) (hws : wtB s ≤ 1048576) (hwu : wtB u ≤ 1048576) :
    Calls Try.prog 32 #[.agg #[vs], .agg #[vu]] w (BdOkEnd (cR s u) (cOk s u) w) := by
  obtain ⟨sa, sc, rfl⟩ := hvs.is_slice
  obtain ⟨ua, uc, rfl⟩ := hvu.is_slice
  have HVS := Lib.hid hvs
  have HVU := Lib.hid hvu
  obtain ⟨w0, hw0⟩ : ∃ w0, ((w.alloc (.cells #[.slice sa s.length sc] 34)).alloc (.cells #[.slice ua u.length uc] 34)).alloc (.cells #[.slice none 0 0] 34) = w0 := ⟨_, rfl⟩
  have HB0 : Hid (Below w.heap.size w w0) := Lib.hid (by rw [← hw0]; exact (((Below.refl w.heap.size w).alloc (Nat.le_refl _) _).alloc (by simp) _).alloc (by simp; omega) _)
  have S0 : Hid (Oner w0 w.heap.size (.slice sa s.length sc)) := Lib.hid (by rw [← hw0]; exact ((oner_new w (.slice sa s.length sc) 34 _ rfl).alloc _).alloc _)
  have U0 : Hid (Oner w0 (w.heap.size + 1) (.slice ua u.length uc)) := Lib.hid (by rw [← hw0]; exact (oner_new _ (.slice ua u.length uc) 34 (w.heap.size + 1) (by simp)).alloc _)
  have R0 : Hid (Oner w0 (w.heap.size + 1 + 1) (.slice none 0 0)) := Lib.hid (by rw [← hw0]; exact oner_new _ (.slice none 0 0) 34 (w.heap.size + 1 + 1) (by simp))
  obtain ⟨s0, s1⟩ := S0.out
  clear hvs hvu
  go_enter Try.func32, Try.ntmps32
  go_wp2_with fail
  refine (l4Good_any s _ _ (HVS.out.kept HB0.out) hws).mono ?_
  rintro e w1 ⟨rfl, hb⟩
  have HB1 := Lib.hid (carry_below HB0.out (Nat.le_refl _) hb)
  have S1 := Lib.hid (S0.out.kept hb)
  have U1 := Lib.hid (U0.out.kept hb)
  have R1 := Lib.hid (R0.out.kept hb)
  clear hb hw0 s0 s1 S0 U0 R0
  obtain ⟨u0, u1⟩ := U1.out
  obtain ⟨r0, r1⟩ := R1.out
  cases hg : goodS s with
  | false =>
    have HF := Lib.hid (cOk_s (u := u) hg)
    clear hg
    go_wp2
    refine bodyPost_ret (v := .tuple #[.agg #[.slice none 0 0], .bool false]) (by simp [results, Try.results32, go_sem, r0]) rfl ?_
    exact BdOkEnd.no (cR_no HF.out) HF.out (HB1.out.setCell (by simp; omega) _)
  | true =>
    have HGS := Lib.hid hg
    clear hg
    go_wp2_with fail
    refine (l4Good_any u _ _ (HVU.out.kept HB1.out) hwu).mono ?_
    rintro e w2 ⟨rfl, hb⟩
    have HB2 := Lib.hid (carry_below HB1.out (Nat.le_refl _) hb)
    have S2 := Lib.hid (S1.out.kept hb)
    have U2 := Lib.hid (U1.out.kept hb)
    have R2 := Lib.hid (R1.out.kept hb)
    clear hb u0 u1 r0 r1 S1 U1 R1
    obtain ⟨s0, s1⟩ := S2.out
    obtain ⟨u0, u1⟩ := U2.out
    obtain ⟨r0, r1⟩ := R2.out
    have hz2 : w.heap.size + 1 + 1 < w2.heap.size := World.block_lt_of_cell? w2 ⟨_, 0, none⟩ r0
    cases hg : goodS u with
    | false =>
      have HF := Lib.hid (cOk_u (s := s) hg)
      clear hg
      go_wp2
      refine bodyPost_ret (v := .tuple #[.agg #[.slice none 0 0], .bool false]) (by simp [results, Try.results32, go_sem, r0]) rfl ?_
      exact BdOkEnd.no (cR_no HF.out) HF.out (HB2.out.setCell (by simp; omega) _)
    | true =>
      have HGU := Lib.hid hg
      have HT : Hid (cS s u u.length = cOut s u) := Lib.hid (cS_eq (good_asc HGS.out) (good_asc hg) u.length (Nat.le_refl _))
      have CC := l4Compose_any s u HGS.out hg w2 _ _ (HVS.out.kept HB2.out) (HVU.out.kept HB2.out) hws hwu
      rw [HT.out] at CC
      have CC := Lib.hid CC
      have hwt : wtB (cOut s u) ≤ 1048576 := by have := cOut_wt HGS.out hg; omega
      clear hg
      go_wp2_with fail
      refine CC.out.mono ?_
      rintro e w3 ⟨v3, L3, rfl, hr3, hd3, hb⟩
      obtain ⟨p3, c3, rfl⟩ := hr3.is_slice
      have hl3 : L3.length = (cOut s u).length := by rw [← hd3, bdsE_len]
      have HL3 := Lib.hid hl3
      have HRD : Hid (BdS w3 (.slice p3 L3.length c3) (cOut s u)) := Lib.hid (by have h := hr3.read; rwa [hd3] at h)
      have HR3 : Hid (BdO w3 (Fresh w2 w3) (.slice p3 L3.length c3) (cOut s u)) := Lib.hid (by have h := hr3.whole (w0 := w2) (Nat.le_refl _) (Nat.le_refl _); rwa [hd3] at h)
      have B34 : Hid (Below w3.heap.size w3 (w3.alloc (.cells #[.slice p3 L3.length c3] 34))) := Lib.hid ((Below.refl _ _).alloc (Nat.le_refl _) _)
      have HB3 := Lib.hid (carry_below HB2.out (Nat.le_refl _) (hb.alloc hb.size (.cells #[.slice p3 L3.length c3] 34)))
      have R3 := Lib.hid (R2.out.kept (hb.alloc hb.size (.cells #[.slice p3 L3.length c3] 34)))
      have O3 := Lib.hid (oner_new w3 (.slice p3 L3.length c3) 34 _ rfl)
      have hz3 : w2.heap.size ≤ w3.heap.size := hb.size
      clear hb hr3 hd3 hl3 s0 s1 u0 u1 r0 r1
      obtain ⟨o0, o1⟩ := O3.out
      have CG := l4Good_any (cOut s u) _ (.slice p3 L3.length c3) (HRD.out.kept B34.out) hwt
      have CG := Lib.hid CG
      go_wp2_with fail
      refine CG.out.mono ?_
      rintro e w4 ⟨rfl, hb⟩
      have HB4 := Lib.hid (carry_below HB3.out (Nat.le_refl _) hb)
      have B36 := Lib.hid (carry_below B34.out (Nat.le_refl _) hb)
      have R4 := Lib.hid (R3.out.kept hb)
      have O4 := Lib.hid (O3.out.kept hb)
      have hz4 : w3.heap.size ≤ w4.heap.size := B36.out.size
      clear hb o0 o1
      obtain ⟨o0, o1⟩ := O4.out
      obtain ⟨r0, r1⟩ := R4.out
      cases hgo : goodS (cOut s u) with
      | false =>
        have HF := Lib.hid (cOk_o hgo)
        clear hgo
        go_wp2
        refine bodyPost_ret (v := .tuple #[.agg #[.slice none 0 0], .bool false]) (by simp [results, Try.results32, go_sem, r0]) rfl ?_
        exact BdOkEnd.no (cR_no HF.out) HF.out (HB4.out.setCell (by simp; omega) _)
      | true =>
        have HF := Lib.hid (cOk_y HGS.out HGU.out hgo)
        have HRR := Lib.hid (cR_yes HF.out)
        clear hgo
        go_wp2
        refine bodyPost_ret (v := .tuple #[.agg #[.slice p3 L3.length c3], .bool true]) (by simp [results, Try.results32, go_sem, r0]) rfl ?_
        rw [HF.out, HRR.out]
        refine ⟨_, rfl, ?_, HB4.out.setCell (by simp; omega) _⟩
        refine ((HR3.out.kept B36.out).setCell (fun h => by have := h.1; simp at this; omega) _).mono fun y hy => ⟨?_, ?_⟩
        · have := hy.1; omega
        · simp only [size_setCell]; have := hy.2; omega

end Go.Proofs.Ytnkonhdnccolhaa

/- The program's substitution out of a list without its trivial bindings: a contract. -/
namespace Go.Proofs.Ytnkonhdnccolhaa
open Go.RowKit
set_option linter.unusedVariables false

/-- What is left where it is valid, else nothing. -/
def okL (T : List Bd) : List Bd := if goodS T then T else []
theorem okL_y {T : List Bd} (h : goodS T = true) : okL T = T := if_pos h
theorem okL_n {T : List Bd} (h : goodS T = false) : okL T = [] := if_neg (by rw [h]; simp)

def WoEnd (base : Nat) (v : Value) (T : List Bd) (w : World) (e : Ending) (w' : World) : Prop :=
  ∃ v' L', e = .returned (.tuple #[.agg #[v'], .bool (goodS T)]) ∧ RowE base base w' v' L' ∧ bdsE L' = okL T ∧ w.grownBy w' v.ownBlock

theorem RowE.grown {base lo : Nat} {w w' : World} {v : Value} {L : List En} (h : RowE base lo w v L) (hb : Below w.heap.size w w') : RowE base lo w' v L := h.kept hb
theorem grown_setCell {w w' : World} {row : Option Nat} (h : w.grownBy w' row) {a : Addr} (ha : w.heap.size ≤ a.block) (u : Value) : w.grownBy (w'.setCell a u) row :=
  ⟨h.os, h.tape, h.output, by rw [size_setCell]; exact h.size, fun k hk hne => (Below.heap_setCell _ _ _ _ (by omega)).trans (h.block k hk hne)⟩

set_option maxRecDepth 100000 in
set_option maxHeartbeats 4000000 in
theorem woTriv_any (base : Nat) (v : Value) (L : List En) (w : World) (hr : RowE base base w v L) (hl : L.length ≤ 1048576) (hw : wtB ((bdsE L).filter nontr) ≤ 1048576) (hbase : base ≤ w.heap.size) :
    Calls Try.prog 101 #[v] w (WoEnd base v ((bdsE L).filter nontr) w) := by
  obtain ⟨a, c, rfl⟩ := hr.is_slice
  have hrow : ∀ g, (Value.slice a L.length c).ownBlock = some g → g < w.heap.size := fun g e => (hr.row.lt g e).2
  have HROW := Lib.hid hrow
  have HW0 := Lib.hid (fun e he b hs => (hr.ens.sub e he b hs).2)
  obtain ⟨w0, hw0⟩ : ∃ w0, w.alloc (.cells #[.slice none 0 0] 34) = w0 := ⟨_, rfl⟩
  have HB0 : Hid (Below w.heap.size w w0) := Lib.hid (by rw [← hw0]; exact (Below.refl w.heap.size w).alloc (Nat.le_refl _) _)
  have R0 : Hid (Oner w0 w.heap.size (.slice none 0 0)) := Lib.hid (by rw [← hw0]; exact oner_new w (.slice none 0 0) 34 _ rfl)
  have hz0 : w0.heap.size = w.heap.size + 1 := by rw [← hw0]; simp
  have CD := Lib.hid (del_any base base _ L w0 (hr.kept HB0.out) hl)
  clear hr hrow
  go_enter Try.func101, Try.ntmps101
  go_wp2_with fail
  refine CD.out.mono ?_
  rintro e w1 ⟨v1, rfl, hr1, hob, hg1⟩
  obtain ⟨p1, c1, rfl⟩ := hr1.is_slice
  have R1 := Lib.hid (one_grown hg1 R0.out (fun e => by have := HROW.out _ e.symm; omega))
  have HR1 := Lib.hid hr1
  have HOB := Lib.hid hob
  have hz1 : w0.heap.size ≤ w1.heap.size := hg1.size
  have HG1 : Hid (w.grownBy w1 (Value.slice a L.length c).ownBlock) := Lib.hid (grown_trans (grown_of_below HB0.out _) hg1)
  obtain ⟨w2, hw2⟩ : ∃ w2, w1.alloc (.cells #[.slice p1 (keepE L).length c1] 34) = w2 := ⟨_, rfl⟩
  have B2 : Hid (Below w1.heap.size w1 w2) := Lib.hid (by rw [← hw2]; exact (Below.refl _ _).alloc (Nat.le_refl _) _)
  have O2 : Hid (Oner w2 w1.heap.size (.slice p1 (keepE L).length c1)) := Lib.hid (by rw [← hw2]; exact oner_new w1 _ 34 _ rfl)
  have R2 := Lib.hid (R1.out.kept B2.out)
  have CV := implIsValidSub_any (bdsE (keepE L)) w2 (.slice p1 (keepE L).length c1) (HR1.out.read.kept B2.out) (by rw [keepE_bds]; exact hw)
  rw [keepE_bds] at CV
  have CV := Lib.hid CV
  obtain ⟨o0, o1⟩ := O2.out
  clear hr1 hg1 hob hw0
  go_wp2_with fail
  refine CV.out.mono ?_
  rintro e w3 ⟨rfl, hb⟩
  have B3 := Lib.hid (carry_below B2.out (Nat.le_refl _) hb)
  have hz3 : w1.heap.size ≤ w3.heap.size := B3.out.size
  have HG3 : Hid (w.grownBy w3 (Value.slice a L.length c).ownBlock) := Lib.hid (grown_trans HG1.out (grown_of_below B3.out _))
  have HR3 := Lib.hid (HR1.out.kept B3.out)
  clear o0 o1
  obtain ⟨o0, o1⟩ := O2.out.kept hb
  obtain ⟨r0, r1⟩ := R2.out.kept hb
  clear hb hw2
  have hbs : base ≤ w.heap.size := hbase
  cases hg : goodS ((bdsE L).filter nontr) with
  | false =>
    have HG := Lib.hid hg
    have HN := Lib.hid (okL_n hg)
    clear hg
    go_wp2
    refine bodyPost_ret (v := .tuple #[.agg #[.slice none 0 0], .bool false]) (by simp [results, Try.results101, go_sem, r0]) rfl ?_
    exact ⟨_, [], by rw [HG.out], RowE.nil _ _ _, by rw [HN.out]; rfl, grown_setCell HG3.out (Nat.le_refl _) _⟩
  | true =>
    have HG := Lib.hid hg
    have HN := Lib.hid (okL_y hg)
    clear hg
    go_wp2
    refine bodyPost_ret (v := .tuple #[.agg #[.slice p1 (keepE L).length c1], .bool true]) (by simp [results, Try.results101, go_sem, r0]) rfl ?_
    refine ⟨_, keepE L, by rw [HG.out], ⟨ownsRow_setCell_other HR3.out.row (fun e => ?_) _, HR3.out.ens.setCell (fun e he hs => ?_) _, HR3.out.apart⟩, by rw [keepE_bds, HN.out], grown_setCell HG3.out (Nat.le_refl _) _⟩
    · have h1 := HROW.out _ (HOB.out ▸ e)
      simp at h1
    · have h1 := HW0.out e (List.mem_filter.1 he).1 _ hs
      simp at h1

end Go.Proofs.Ytnkonhdnccolhaa

/- ComposeSubstitutions, the program's: a contract, for bindings of at most 1048576 names' bytes, bindings and arguments. -/
namespace Go.Proofs.Ytnkonhdnccolhaa
open Go.RowKit
set_option linter.unusedVariables false

theorem RowE.ins {base : Nat} {w w' : World} {v : Value} {L : List En} {i : Nat} {d : Bd} {va : Value} {S : Nat → Prop} {g cap : Nat} (hr : RowE base base w v L) (hi : i ≤ L.length) (ho : TmO w S va d.tm.args) (hS : ∀ b, S b → base ≤ b ∧ b < w.heap.size)
    (hd : ∀ x ∈ L, ∀ b, x.S b → S b → False) (hv : ∀ g, v.ownBlock = some g → ¬ S g)
    (hown : w'.ownsRow base 110 3 (.slice (some ⟨g, 0, none⟩) (L.length + 1) cap) (L.length + 1) ((enF L).take (i * 3) ++ [.string d.var, .string d.tm.name, va] ++ (enF L).drop (i * 3))) (hat : v.ownBlock = some g ∨ g = w.heap.size) (hg : w.grownBy w' v.ownBlock) :
    RowE base base w' (.slice (some ⟨g, 0, none⟩) (L.length + 1) cap) (L.take i ++ ⟨d, va, S⟩ :: L.drop i) := by
  have hlen : (L.take i ++ ⟨d, va, S⟩ :: L.drop i).length = L.length + 1 := by simp; omega
  have hins : Ens base w (L.take i ++ ⟨d, va, S⟩ :: L.drop i) := Ens.insert (by rw [List.take_append_drop]; exact hr.ens) ho hS (fun x hx => by rw [List.take_append_drop] at hx; exact hd x hx)
  have hmem : ∀ x ∈ (L.take i ++ ⟨d, va, S⟩ :: L.drop i), x ∈ L ∨ x.S = S := fun x hx => by
    rcases List.mem_append.1 hx with hx | hx
    · exact .inl (List.mem_of_mem_take hx)
    · rcases List.mem_cons.1 hx with rfl | hx
      · exact .inr rfl
      · exact .inl (List.mem_of_mem_drop hx)
  refine ⟨?_, hins.grown hg (fun g' e x hx hs => ?_), fun g' e x hx hs => ?_⟩
  · rw [hlen, enF_append, enF, En.cells, ← enF_take _ _ hi, ← enF_drop _ _ hi, ← List.append_assoc]
    exact hown
  · rcases hmem x hx with h | h
    · exact hr.apart g' e x h hs
    · rw [h] at hs; exact hv g' e hs
  · have e : g = g' := by simpa [Value.ownBlock] using e
    subst e
    rcases hat with h1 | h1
    · rcases hmem x hx with h | h
      · exact hr.apart g h1 x h hs
      · rw [h] at hs; exact hv g h1 hs
    · rcases hmem x hx with h | h
      · have := (hr.ens.sub x h _ hs).2; omega
      · rw [h] at hs; have := (hS _ hs).2; omega
theorem RowE.app {base : Nat} {w w' : World} {v : Value} {L : List En} {d : Bd} {va : Value} {S : Nat → Prop} {g cap : Nat} (hr : RowE base base w v L) (ho : TmO w S va d.tm.args) (hS : ∀ b, S b → base ≤ b ∧ b < w.heap.size)
    (hd : ∀ x ∈ L, ∀ b, x.S b → S b → False) (hv : ∀ g, v.ownBlock = some g → ¬ S g)
    (hown : w'.ownsRow base 110 3 (.slice (some ⟨g, 0, none⟩) (L.length + 1) cap) (L.length + 1) (enF L ++ [.string d.var, .string d.tm.name, va])) (hat : v.ownBlock = some g ∨ g = w.heap.size) (hg : w.grownBy w' v.ownBlock) :
    RowE base base w' (.slice (some ⟨g, 0, none⟩) (L.length + 1) cap) (L ++ [⟨d, va, S⟩]) := by
  have h := RowE.ins (i := L.length) hr (Nat.le_refl _) ho hS hd hv (by
    rw [List.take_of_length_le (by rw [enF_len]; exact Nat.le_refl _), List.drop_of_length_le (by rw [enF_len]; exact Nat.le_refl _), List.append_nil]; exact hown) hat hg
  rwa [List.take_length, List.drop_length] at h

def CI (base : Nat) (w : World) (T : List Bd) (v : Value) (wr : World) : Prop := ∃ L, RowE base base wr v L ∧ bdsE L = T ∧ base ≤ wr.heap.size
theorem grown_kept_one {w w' : World} {row : Option Nat} {base b : Nat} {x : Value} (h : Oner w b x) (hg : w.grownBy w' row) (hr : ∀ g, row = some g → base ≤ g) (hb : b < base) : Oner w' b x := one_grown hg h (far_row hr hb)

set_option maxRecDepth 100000 in
set_option maxHeartbeats 8000000 in
theorem implCompose_any (s u : List Bd) (w : World) (vs vu : Value) (hvs : BdS w vs s) (hvu : BdS w vu u) (hws : wtB s ≤ 1048576) (hwu : wtB u ≤ 1048576) :
    Calls Try.prog 33 #[.agg #[vs], .agg #[vu]] w (BdOkEnd (cR s u) (cOk s u) w) := by
  obtain ⟨sa, sc, rfl⟩ := hvs.is_slice
  obtain ⟨ua, uc, rfl⟩ := hvu.is_slice
  have HVS := Lib.hid hvs
  have HVU := Lib.hid hvu
  obtain ⟨i0, hi, hz0, hz1, hz2⟩ := info_parts infoBd
  obtain ⟨w0, hw0⟩ : ∃ w0, ((w.alloc (.cells #[.slice sa s.length sc] 34)).alloc (.cells #[.slice ua u.length uc] 34)).alloc (.cells #[.slice none 0 0] 34) = w0 := ⟨_, rfl⟩
  have HB0 : Hid (Below w.heap.size w w0) := Lib.hid (by rw [← hw0]; exact (((Below.refl w.heap.size w).alloc (Nat.le_refl _) _).alloc (by simp) _).alloc (by simp; omega) _)
  have S0 : Hid (Oner w0 w.heap.size (.slice sa s.length sc)) := Lib.hid (by rw [← hw0]; exact ((oner_new w (.slice sa s.length sc) 34 _ rfl).alloc _).alloc _)
  have U0 : Hid (Oner w0 (w.heap.size + 1) (.slice ua u.length uc)) := Lib.hid (by rw [← hw0]; exact (oner_new _ (.slice ua u.length uc) 34 (w.heap.size + 1) (by simp)).alloc _)
  have R0 : Hid (Oner w0 (w.heap.size + 1 + 1) (.slice none 0 0)) := Lib.hid (by rw [← hw0]; exact oner_new _ (.slice none 0 0) 34 (w.heap.size + 1 + 1) (by simp))
  obtain ⟨s0, s1⟩ := S0.out
  clear hvs hvu
  go_enter Try.func33, Try.ntmps33
  go_wp2_with fail
  refine (implIsValidSub_any s _ _ (HVS.out.kept HB0.out) hws).mono ?_
  rintro e w1 ⟨rfl, hb⟩
  have HB1 := Lib.hid (carry_below HB0.out (Nat.le_refl _) hb)
  have S1 := Lib.hid (S0.out.kept hb)
  have U1 := Lib.hid (U0.out.kept hb)
  have R1 := Lib.hid (R0.out.kept hb)
  clear hb hw0 s0 s1 S0 U0 R0
  obtain ⟨u0, u1⟩ := U1.out
  obtain ⟨r0, r1⟩ := R1.out
  cases hg : goodS s with
  | false =>
    have HF := Lib.hid (cOk_s (u := u) hg)
    clear hg
    go_wp2
    refine bodyPost_ret (v := .tuple #[.agg #[.slice none 0 0], .bool false]) (by simp [results, Try.results33, go_sem, r0]) rfl ?_
    exact BdOkEnd.no (cR_no HF.out) HF.out (HB1.out.setCell (by simp; omega) _)
  | true =>
    have HGS := Lib.hid hg
    clear hg
    go_wp2_with fail
    refine (implIsValidSub_any u _ _ (HVU.out.kept HB1.out) hwu).mono ?_
    rintro e w2 ⟨rfl, hb⟩
    have HB2 := Lib.hid (carry_below HB1.out (Nat.le_refl _) hb)
    have S2 := Lib.hid (S1.out.kept hb)
    have U2 := Lib.hid (U1.out.kept hb)
    have R2 := Lib.hid (R1.out.kept hb)
    clear hb u0 u1 r0 r1 S1 U1 R1
    obtain ⟨s0, s1⟩ := S2.out
    obtain ⟨u0, u1⟩ := U2.out
    obtain ⟨r0, r1⟩ := R2.out
    have hz2w : w.heap.size + 1 + 1 < w2.heap.size := World.block_lt_of_cell? w2 ⟨_, 0, none⟩ r0
    cases hg : goodS u with
    | false =>
      have HF := Lib.hid (cOk_u (s := s) hg)
      clear hg
      go_wp2
      refine bodyPost_ret (v := .tuple #[.agg #[.slice none 0 0], .bool false]) (by simp [results, Try.results33, go_sem, r0]) rfl ?_
      exact BdOkEnd.no (cR_no HF.out) HF.out (HB2.out.setCell (by simp; omega) _)
    | true =>
      have HGU := Lib.hid hg
      have hsl := goodS_le HGS.out
      have hul := goodS_le hg
      have HAS := Lib.hid (good_asc HGS.out)
      have HAU := Lib.hid (good_asc hg)
      have HSW := Lib.hid (fun (d : Bd) (hd : d ∈ s) => Nat.le_trans (wtB_tm hd) hws)
      have HUW := Lib.hid (fun (d : Bd) (hd : d ∈ u) => Nat.le_trans (wtB_tm hd) hwu)
      have CA := Lib.hid (fun (t : Tm) => repl_any u hwu HAU.out t)
      clear hg
      obtain ⟨w3, hw3⟩ : ∃ w3, w2.alloc (.cells #[] 110) = w3 := ⟨_, rfl⟩
      have B3 : Hid (Below w2.heap.size w2 w3) := Lib.hid (by rw [← hw3]; exact (Below.refl _ _).alloc (Nat.le_refl _) _)
      have hz3 : w3.heap.size = w2.heap.size + 1 := by rw [← hw3]; simp
      have HZ3 := Lib.hid hz3
      have C0 : Hid (CI w2.heap.size w (appB u (s.take 0)) (.slice (some ⟨w2.heap.size, 0, none⟩) 0 0) w3) := Lib.hid ⟨[], ⟨by rw [← hw3]; exact World.ownsRow_made w2 #[] 0 (Nat.le_refl _) (by decide) (by simp), Ens.nil _ _, fun g _ e he => (by cases he)⟩, rfl, by omega⟩
      have S3 := Lib.hid (S2.out.kept B3.out)
      have U3 := Lib.hid (U2.out.kept B3.out)
      have R3 := Lib.hid (R2.out.kept B3.out)
      have HB3 := Lib.hid (carry_below HB2.out (Nat.le_refl _) B3.out)
      clear hz3 s0 s1 u0 u1 r0 r1
      obtain ⟨s0, s1⟩ := S3.out
      obtain ⟨u0, u1⟩ := U3.out
      go_wp2
      go_loopw [6, 26] (fun v6 i wr => ∃ k : Nat, k ≤ s.length ∧ i = .int .i64 k ∧ CI w2.heap.size w (appB u (s.take k)) v6 wr ∧ Oner wr w.heap.size (.slice sa s.length sc) ∧ Oner wr (w.heap.size + 1) (.slice ua u.length uc) ∧ Oner wr (w.heap.size + 1 + 1) (.slice none 0 0) ∧ Below w.heap.size w wr) (fun _ i _ => s.length - (intOf i).toNat)
      case atStart => exact ⟨0, Nat.zero_le _, rfl, C0.out, S3.out, U3.out, R3.out, HB3.out⟩
      case round =>
        clear s0 s1 u0 u1
        obtain ⟨k, hk, rfl, ⟨L, hrow, hbds, hbase⟩, hS, hU, hR, hbel⟩ := hrel
        obtain ⟨oa, oc, rfl⟩ := hrow.is_slice
        have HROW := Lib.hid hrow
        have HBD := Lib.hid hbds
        have HS := Lib.hid hS
        have HU := Lib.hid hU
        have HR := Lib.hid hR
        have HB := Lib.hid hbel
        have HBS := Lib.hid hbase
        clear hrow hbds hS hU hR hbel hbase
        obtain ⟨u0, u1⟩ := HU.out
        by_cases hlt : k < s.length
        · obtain ⟨d, hd⟩ : ∃ d, s[k]? = some d := ⟨_, List.getElem?_eq_getElem hlt⟩
          have HVSW := HVS.out.kept HB.out
          obtain ⟨b, off, rfl, vb, c0, c1, c2, hvb⟩ := HVSW.get hd
          obtain ⟨pb, qb, rfl⟩ := hvb.is_slice
          obtain ⟨wq, hwq⟩ : ∃ wq, wr.alloc (.cells #[.string d.var, .string d.tm.name, .slice pb d.tm.args.length qb] 110) = wq := ⟨_, rfl⟩
          have BQ : Hid (Below wr.heap.size wr wq) := Lib.hid (by rw [← hwq]; exact (Below.refl _ _).alloc (Nat.le_refl _) _)
          have TQ : Hid (Thr wq wr.heap.size (.string d.var) (.string d.tm.name) (.slice pb d.tm.args.length qb)) := Lib.hid (by rw [← hwq]; exact thr_new _ _ _ _ _ _ rfl)
          have HVB := Lib.hid (hvb.kept BQ.out)
          have HRQ := Lib.hid (HROW.out.kept BQ.out)
          have HSQ := Lib.hid (HS.out.kept BQ.out)
          have HUQ := Lib.hid (HU.out.kept BQ.out)
          have HRRQ := Lib.hid (HR.out.kept BQ.out)
          have HBQ := Lib.hid (carry_below HB.out (Nat.le_refl _) BQ.out)
          have hlw : w2.heap.size ≤ wq.heap.size := Nat.le_trans HBS.out BQ.out.size
          have hll : L.length ≤ 12 := by rw [← bdsE_len, HBD.out, appB_len]; have := List.length_take_le k s; rw [List.length_take]; omega
          obtain ⟨x, hx⟩ : ∃ x, x = d.tm.app u := ⟨_, rfl⟩
          have HNX : Hid (appB u (s.take (k + 1)) = appB u (s.take k) ++ [⟨d.var, x⟩]) := Lib.hid (by rw [take_next hd, hx]; simp [appB])
          have C1 : Hid (∀ W : World, Below wq.heap.size wq W → Calls Try.prog 96 #[.agg #[.string d.tm.name, .slice pb d.tm.args.length qb], .func (.func 97) #[.agg #[.slice ua u.length uc]] #[]] W (ToEnd x W)) := Lib.hid (fun W hW => by
            rw [hx]
            exact CA.out d.tm W (.slice ua u.length uc) _ ((HVU.out.kept HBQ.out).kept hW) (HVB.out.kept hW) (HSW.out d (List.mem_of_getElem? hd)))
          have hrowlt : ∀ g, (Value.slice oa L.length oc).ownBlock = some g → w2.heap.size ≤ g ∧ g < wq.heap.size := fun g e => ⟨(HROW.out.row.lt g e).1, (HRQ.out.row.lt g e).2⟩
          have HRL := Lib.hid hrowlt
          have HFB : Hid (some wr.heap.size ≠ (Value.slice oa L.length oc).ownBlock) := Lib.hid (fun e => by have := (HROW.out.row.lt _ e.symm).2; omega)
          obtain ⟨t0, t1, t2, t3⟩ := TQ.out
          have uq0 := HUQ.out.1
          clear hd hvb HVSW hx hrowlt
          have hB0 : Below wq.heap.size wq wq.drew := (Below.refl _ _).drew
          go_wp2_with fail
          clear hwq c0 c1 c2
          refine sink_start 11 (fun w' => w'.cell? ⟨wr.heap.size, 0, none⟩ = some (.string d.var) ∧ w'.cell? ⟨wr.heap.size, 1, none⟩ = some (.string d.tm.name) ∧ w'.cell? ⟨wr.heap.size, 2, none⟩ = some (.slice pb d.tm.args.length qb) ∧ w'.cell? ⟨w.heap.size + 1, 0, none⟩ = some (.slice ua u.length uc)) (by kernel_rfl) (by exact ⟨by first | assumption | exact carry_cell' ((Below.refl _ _).alloc (Nat.le_refl _) _) (by assumption), by first | assumption | exact carry_cell' ((Below.refl _ _).alloc (Nat.le_refl _) _) (by assumption), by first | assumption | exact carry_cell' ((Below.refl _ _).alloc (Nat.le_refl _) _) (by assumption), by first | assumption | exact carry_cell' ((Below.refl _ _).alloc (Nat.le_refl _) _) (by assumption)⟩) (fun hHeld => ?_)
          refine sink_take 0 (v := ?_) rfl (by kernel_rfl) (by kernel_rfl) (by kernel_rfl) (by kernel_rfl) (by rfl) (fun _ _ _ h => h) (by assumption) ?_ ?_; rotate_left; (intro w hSw; (try dsimp only at hSw); go_simp; try (with_reducible rfl))
          try simp only [Act.put, List.getElem_toArray, List.getElem_cons_zero, List.setIfInBounds_toArray, List.set_cons_zero, List.set_cons_succ]
          refine sink_take 1 (v := ?_) rfl (by kernel_rfl) (by kernel_rfl) (by kernel_rfl) (by kernel_rfl) (by rfl) (fun _ _ _ h => h) (by assumption) ?_ ?_; rotate_left; (intro w hSw; (try dsimp only at hSw); go_simp; try (with_reducible rfl))
          try simp only [Act.put, List.getElem_toArray, List.getElem_cons_zero, List.getElem_cons_succ, List.setIfInBounds_toArray, List.set_cons_zero, List.set_cons_succ]
          refine sink_take 2 (v := ?_) rfl (by kernel_rfl) (by kernel_rfl) (by kernel_rfl) (by kernel_rfl) (by rfl) (fun _ _ _ h => h) (by assumption) ?_ ?_; rotate_left; (intro w hSw; (try dsimp only at hSw); go_simp; try (with_reducible rfl))
          try simp only [Act.put, List.getElem_toArray, List.getElem_cons_zero, List.getElem_cons_succ, List.setIfInBounds_toArray, List.set_cons_zero, List.set_cons_succ]
          refine sink_take 3 (v := ?_) rfl (by kernel_rfl) (by kernel_rfl) (by kernel_rfl) (by kernel_rfl) (by rfl) (fun _ _ _ h => h) (by assumption) ?_ ?_; rotate_left; (intro w hSw; (try dsimp only at hSw); go_simp; try (with_reducible rfl))
          try simp only [Act.put, List.getElem_toArray, List.getElem_cons_zero, List.getElem_cons_succ, List.setIfInBounds_toArray, List.set_cons_zero, List.set_cons_succ]
          refine sink_take 4 (v := ?_) rfl (by kernel_rfl) (by kernel_rfl) (by kernel_rfl) (by kernel_rfl) (by rfl) (fun _ _ _ h => h) (by assumption) ?_ ?_; rotate_left; (intro w hSw; (try dsimp only at hSw); go_simp; try (with_reducible rfl))
          try simp only [Act.put, List.getElem_toArray, List.getElem_cons_zero, List.getElem_cons_succ, List.setIfInBounds_toArray, List.set_cons_zero, List.set_cons_succ]
          refine sink_take 5 (v := ?_) rfl (by kernel_rfl) (by kernel_rfl) (by kernel_rfl) (by kernel_rfl) (by rfl) (fun _ _ _ h => h) (by assumption) ?_ ?_; rotate_left; (intro w hSw; (try dsimp only at hSw); go_simp; try (with_reducible rfl))
          try simp only [Act.put, List.getElem_toArray, List.getElem_cons_zero, List.getElem_cons_succ, List.setIfInBounds_toArray, List.set_cons_zero, List.set_cons_succ]
          refine sink_take 6 (v := ?_) rfl (by kernel_rfl) (by kernel_rfl) (by kernel_rfl) (by kernel_rfl) (by rfl) (fun _ _ _ h => h) (by assumption) ?_ ?_; rotate_left; (intro w hSw; (try dsimp only at hSw); go_simp; try (with_reducible rfl))
          try simp only [Act.put, List.getElem_toArray, List.getElem_cons_zero, List.getElem_cons_succ, List.setIfInBounds_toArray, List.set_cons_zero, List.set_cons_succ]
          refine sink_one (i := 7) (by kernel_rfl) rfl (fun K hK => ?_)
          go_simp
          go_at_call 96; refine (C1.out _ hB0).mono ?_; rintro e w6 ⟨v6, rfl, ho, hb⟩; have q0 := carry_cell' hb t0; have q1 := carry_cell' hb t1; have q2 := carry_cell' hb t2; have q3 := carry_cell' hb uq0; have hB6 := carry_below hB0 (Nat.le_refl _) hb; obtain ⟨p6, c6, rfl⟩ := ho.read.is_slice; have HO6 : Hid (TmO w6 (Fresh wq w6) (.slice p6 x.args.length c6) x.args) := Lib.hid ho; have HW6 := Lib.hid (own_kept HRQ.out.row hB6); clear hb ho; go_wp2_with fail
          refine hK.out _ _ (fun _ => by exact ⟨by first | assumption | exact carry_cell' ((Below.refl _ _).alloc (Nat.le_refl _) _) (by assumption), by first | assumption | exact carry_cell' ((Below.refl _ _).alloc (Nat.le_refl _) _) (by assumption), by first | assumption | exact carry_cell' ((Below.refl _ _).alloc (Nat.le_refl _) _) (by assumption), by first | assumption | exact carry_cell' ((Below.refl _ _).alloc (Nat.le_refl _) _) (by assumption)⟩) (fun hHeld => ?_)
          have hHeld := hHeld (by decide)
          clear hK K
          try simp only [Act.put, List.getElem_toArray, List.getElem_cons_zero, List.getElem_cons_succ, List.setIfInBounds_toArray, List.set_cons_zero, List.set_cons_succ]
          refine sink_take 8 (v := ?_) rfl (by kernel_rfl) (by kernel_rfl) (by kernel_rfl) (by kernel_rfl) (by rfl) (fun _ _ _ h => h) (by assumption) ?_ ?_; rotate_left; (intro w hSw; (try dsimp only at hSw); go_simp; try (with_reducible rfl))
          try simp only [Act.put, List.getElem_toArray, List.getElem_cons_zero, List.getElem_cons_succ, List.setIfInBounds_toArray, List.set_cons_zero, List.set_cons_succ]
          refine sink_one (i := 9) (by kernel_rfl) rfl (fun K hK => ?_)
          go_simp
          refine hK.out _ _ (fun _ => by exact ⟨by first | assumption | exact carry_cell' ((Below.refl _ _).alloc (Nat.le_refl _) _) (by assumption), by first | assumption | exact carry_cell' ((Below.refl _ _).alloc (Nat.le_refl _) _) (by assumption), by first | assumption | exact carry_cell' ((Below.refl _ _).alloc (Nat.le_refl _) _) (by assumption), by first | assumption | exact carry_cell' ((Below.refl _ _).alloc (Nat.le_refl _) _) (by assumption)⟩) (fun hHeld => ?_)
          have hHeld := hHeld (by decide)
          clear hK K
          try simp only [Act.put, List.getElem_toArray, List.getElem_cons_zero, List.getElem_cons_succ, List.setIfInBounds_toArray, List.set_cons_zero, List.set_cons_succ]
          refine sink_one (i := 10) (by kernel_rfl) rfl (fun K hK => ?_)
          (refine step_append_lies _ (by rfl) _ _ _ (by rfl) w2.heap.size 110 i0 _ 3 56 Try.underlying32 hi hz0 hz1 hz2 rfl (by omega) (.slice oa L.length oc) L.length (enF L) (by rfl) (HW6.out.alloc _) ⟨w6.heap.size, 0, none⟩ 1 1 [.string d.var, .string x.name, .slice p6 x.args.length c6] (by rfl) (by rfl) (World.news_of_block (cs := #[.string d.var, .string x.name, .slice p6 x.args.length c6]) (t := 110) (fr := (0, 0)) (heap_alloc_new w6 _)) (by simp [Value.oneCell']) (by omega) (by unfold maxLen; omega) (by omega) (by have := hB6.size; simp; omega) (w6.heap.size + 1) (by simp) ?_; intro gg cap w8 hown8 hgrow hat hlt8; have z0 := app_cell hgrow q0 HFB.out; have z1 := app_cell hgrow q1 HFB.out; have z2 := app_cell hgrow q2 HFB.out; have z3 := app_cell hgrow q3 (far_row (fun g e => (HRL.out g e).1) (by show w.heap.size + 1 < w2.heap.size; omega)); have HOWN8 := Lib.hid hown8; have HGROW8 := Lib.hid hgrow; have HAT8 := Lib.hid hat; clear hown8 hgrow hat)
          try go_simp
          refine hK.out _ _ (fun _ => by exact ⟨by first | assumption | exact carry_cell' ((Below.refl _ _).alloc (Nat.le_refl _) _) (by assumption), by first | assumption | exact carry_cell' ((Below.refl _ _).alloc (Nat.le_refl _) _) (by assumption), by first | assumption | exact carry_cell' ((Below.refl _ _).alloc (Nat.le_refl _) _) (by assumption), by first | assumption | exact carry_cell' ((Below.refl _ _).alloc (Nat.le_refl _) _) (by assumption)⟩) (fun hHeld => ?_)
          have hHeld := hHeld (by decide)
          clear hK K
          try simp only [Act.put, List.getElem_toArray, List.getElem_cons_zero, List.getElem_cons_succ, List.setIfInBounds_toArray, List.set_cons_zero, List.set_cons_succ]
          refine sink_one (i := 11) (by kernel_rfl) rfl (fun K hK => ?_)
          go_simp
          refine hK.out _ _ (fun hne => absurd rfl hne) (fun hHeld => ?_)
          clear hK K
          try simp only [Act.put, List.getElem_toArray, List.getElem_cons_zero, List.getElem_cons_succ, List.setIfInBounds_toArray, List.set_cons_zero, List.set_cons_succ]
          refine sink_done (by kernel_rfl) ?_ _
          have HRN : Hid (CI w2.heap.size w (appB u (s.take (k + 1))) (.slice (some ⟨gg, 0, none⟩) (L.length + 1) cap) w8) := Lib.hid ⟨_, RowE.app (w := w6.alloc (.cells #[.string d.var, .string x.name, .slice p6 x.args.length c6] 110)) (d := ⟨d.var, x⟩) (S := Fresh wq w6) ((HRQ.out.kept hB6).kept ((Below.refl _ _).alloc (Nat.le_refl _) _)) (HO6.out.frame fun b hb => Below.heap_alloc _ _ _ hb.2) (fun b hb => ⟨Nat.le_trans hlw hb.1, by simp; have := hb.2; omega⟩) (fun y hy b h1 h2 => by have h3 := (HRQ.out.ens.sub y hy b h1).2; have h4 := h2.1; omega) (fun g e h => by have h3 := (HRL.out g e).2; have h4 := h.1; omega) HOWN8.out (by simpa using HAT8.out) HGROW8.out, by rw [bdsE_append, HBD.out, HNX.out]; rfl, by have := HGROW8.out.size; simp at this; have := hB6.size; omega⟩
          have HG8 : Hid (wq.grownBy w8 (Value.slice oa L.length oc).ownBlock) := Lib.hid (grown_trans (grown_trans (grown_of_below hB6 _) (World.grownBy_alloc _ _ _)) HGROW8.out)
          have HS8 := Lib.hid (grown_kept_one HSQ.out HG8.out (fun g e => (HRL.out g e).1) (by omega))
          have HU8 := Lib.hid (grown_kept_one HUQ.out HG8.out (fun g e => (HRL.out g e).1) (by omega))
          have HR8 := Lib.hid (grown_kept_one HRRQ.out HG8.out (fun g e => (HRL.out g e).1) (by omega))
          have HB8 : Hid (Below w.heap.size w w8) := Lib.hid (HBQ.out.trans ⟨HG8.out.os, HG8.out.tape, HG8.out.output, HG8.out.size, fun b hb => HG8.out.block b (by omega) (fun e => by have := (HRL.out b e.symm).1; omega)⟩)
          clear hB0 hB6 q0 q1 q2 q3 z0 z1 z2 z3 t0 t1 t2 t3 uq0
          go_wp2
          go_roundw
          case rel => exact ⟨k + 1, by omega, by go_num, HRN.out, HS8.out, HU8.out, HR8.out, HB8.out⟩
          case measure => simp [intOf]; omega
        · have hke : k = s.length := by omega
          have D0 : Hid (CI w2.heap.size w (cP s u 0) (.slice oa L.length oc) wr) := Lib.hid ⟨L, HROW.out, by rw [HBD.out, hke, List.take_length]; rfl, HBS.out⟩
          go_wp2
          clear hlt hke hk
          go_loopw [6, 45] (fun v6 i wr => ∃ k : Nat, k ≤ u.length ∧ i = .int .i64 k ∧ CI w2.heap.size w (cP s u k) v6 wr ∧ Oner wr (w.heap.size + 1 + 1) (.slice none 0 0) ∧ Below w.heap.size w wr) (fun _ i _ => u.length - (intOf i).toNat)
          case atStart => exact ⟨0, Nat.zero_le _, rfl, D0.out, HR.out, HB.out⟩
          case round =>
            clear u0 u1 D0 HROW HBD HBS HS HU HR HB C0
            obtain ⟨k, hk, rfl, ⟨L, hrow, hbds, hbase⟩, hR, hbel⟩ := hrel
            obtain ⟨oa, oc, rfl⟩ := hrow.is_slice
            have HROW := Lib.hid hrow
            have HBD := Lib.hid hbds
            have HR := Lib.hid hR
            have HB := Lib.hid hbel
            have HBS := Lib.hid hbase
            have hll : L.length ≤ 24 := by rw [← bdsE_len, hbds]; have := cP_len s u k; omega
            clear hrow hbds hR hbel hbase
            by_cases hlt : k < u.length
            · obtain ⟨d, hd⟩ : ∃ d, u[k]? = some d := ⟨_, List.getElem?_eq_getElem hlt⟩
              have HVUW := HVU.out.kept HB.out
              obtain ⟨b, off, rfl, vb, c0, c1, c2, hvb⟩ := HVUW.get hd
              obtain ⟨pb, qb, rfl⟩ := hvb.is_slice
              obtain ⟨wq, hwq⟩ : ∃ wq, wr.alloc (.cells #[.string d.var, .string d.tm.name, .slice pb d.tm.args.length qb] 110) = wq := ⟨_, rfl⟩
              have BQ : Hid (Below wr.heap.size wr wq) := Lib.hid (by rw [← hwq]; exact (Below.refl _ _).alloc (Nat.le_refl _) _)
              have TQ : Hid (Thr wq wr.heap.size (.string d.var) (.string d.tm.name) (.slice pb d.tm.args.length qb)) := Lib.hid (by rw [← hwq]; exact thr_new _ _ _ _ _ _ rfl)
              have HVB := Lib.hid (hvb.kept BQ.out)
              have HRQ := Lib.hid (HROW.out.kept BQ.out)
              have HRRQ := Lib.hid (HR.out.kept BQ.out)
              have HBQ := Lib.hid (carry_below HB.out (Nat.le_refl _) BQ.out)
              have hlw : w2.heap.size ≤ wq.heap.size := Nat.le_trans HBS.out BQ.out.size
              have HNX := Lib.hid (cP_next (s := s) hd)
              have hdw := HUW.out d (List.mem_of_getElem? hd)
              have HASC : Hid (Asc (bdsE L)) := Lib.hid (by rw [HBD.out]; exact cP_asc HAS.out k hk)
              have hsz := bdsE_len L
              have CF := find_any (bdsE L) wq (.slice oa L.length oc) HRQ.out.read (by omega) HASC.out d.var
              have CF := Lib.hid CF
              have HSZ := Lib.hid hsz
              obtain ⟨t0, t1, t2, t3⟩ := TQ.out
              clear hd hvb HVUW hsz
              go_wp2_with fail
              refine CF.out.mono ?_
              rintro e w5 ⟨i, rfl, hp, hb⟩
              have HB5 := Lib.hid hb
              have HP := Lib.hid hp
              clear hwq c0 c1 c2 t0 t1 t2 t3
              obtain ⟨t0, t1, t2, t3⟩ := TQ.out.kept hb
              have hz5 : wq.heap.size ≤ w5.heap.size := hb.size
              clear hb hp
              cases hh : hitB (bdsE L) d.var i with
              | true =>
                have HN : Hid (cP s u (k + 1) = bdsE L) := Lib.hid (by
                  obtain ⟨dd, hdd, hdn⟩ := hit_yes hh
                  rw [HNX.out, ← HBD.out]
                  unfold addF
                  rw [if_pos (bound_iff.2 ⟨dd, List.mem_of_getElem? hdd, hdn⟩)])
                have D1 : Hid (CI w2.heap.size w (cP s u (k + 1)) (.slice oa L.length oc) w5) := Lib.hid ⟨L, HRQ.out.kept HB5.out, HN.out.symm, by omega⟩
                have HR5 := Lib.hid (HRRQ.out.kept HB5.out)
                have HB6 := Lib.hid (carry_below HBQ.out (Nat.le_refl _) HB5.out)
                clear hh
                go_wp2
                go_roundw
                case rel => exact ⟨k + 1, by omega, by go_num, D1.out, HR5.out, HB6.out⟩
                case measure => simp [intOf]; omega
              | false =>
                have HN : Hid (cP s u (k + 1) = (bdsE L).take i ++ d :: (bdsE L).drop i) := Lib.hid (by
                  rw [HNX.out, ← HBD.out, ins_place HP.out]
                  unfold addF
                  rw [if_neg (by rw [bound_no.2 (hit_no HP.out HASC.out hh)]; simp)])
                have hil : i ≤ L.length := by rw [← bdsE_len]; exact HP.out.1
                have CC := Lib.hid (copyBd_any d w5 (.slice pb d.tm.args.length qb) (HVB.out.kept HB5.out) hdw)
                clear hh
                go_wp2_with fail
                refine CC.out.mono ?_
                rintro e w6 ⟨v6, rfl, ho, hb⟩
                obtain ⟨p6, c6, rfl⟩ := ho.read.is_slice
                have HO6 := Lib.hid ho
                have HB6 := Lib.hid hb
                have hz6 : w5.heap.size ≤ w6.heap.size := hb.size
                obtain ⟨w7, hw7⟩ : ∃ w7, w6.alloc (.cells #[.string d.var, .string d.tm.name, .slice p6 d.tm.args.length c6] 110) = w7 := ⟨_, rfl⟩
                have H7 : Hid (w7.heap[w6.heap.size]? = some (.cells #[.string d.var, .string d.tm.name, .slice p6 d.tm.args.length c6] 110 (0, 0))) := Lib.hid (by rw [← hw7]; exact heap_alloc_new w6 _)
                have B7 : Hid (Below w6.heap.size w6 w7) := Lib.hid (by rw [← hw7]; exact (Below.refl _ _).alloc (Nat.le_refl _) _)
                have hz7 : w7.heap.size = w6.heap.size + 1 := by rw [← hw7]; simp
                have HZ7 := Lib.hid hz7
                have BB7 : Hid (Below wq.heap.size wq w7) := Lib.hid (carry_below (carry_below HB5.out (Nat.le_refl _) HB6.out) (Nat.le_refl _) B7.out)
                have HR7 := Lib.hid (HRQ.out.kept BB7.out)
                have CX := ins_any w2.heap.size L.length i (.slice oa L.length oc) (enF L) (.string d.var) (.string d.tm.name) (.slice p6 d.tm.args.length c6) w6.heap.size 1 w7 HR7.out.row H7.out (fun e => by have h1 := (HRQ.out.row.lt _ e).2; omega) (by simp [Value.oneCell']) (enF_one HR7.out.ens) (by omega) hil (by omega)
                have CX := Lib.hid CX
                clear ho hb hz7 t0 t1 t2 t3
                go_wp2_with fail
                refine CX.out.mono ?_
                rintro e w8 ⟨gg, cap, rfl, hown, hat, hgr⟩
                have HG8 := Lib.hid hgr
                have D1 : Hid (CI w2.heap.size w (cP s u (k + 1)) (.slice (some ⟨gg, 0, none⟩) (L.length + 1) cap) w8) := Lib.hid ⟨_, RowE.ins (d := d) (S := Fresh w5 w6) HR7.out hil (HO6.out.frame fun b hb => B7.out.block b hb.2) (fun b hb => ⟨by have := hb.1; omega, by have := hb.2; have := HZ7.out; omega⟩) (fun y hy b h1 h2 => by have h3 := (HRQ.out.ens.sub y hy b h1).2; have h4 := h2.1; omega) (fun g e h => by have h3 := (HRQ.out.row.lt _ e).2; have h4 := h.1; omega) hown hat hgr, by rw [bdsE_append, show bdsE (⟨d, .slice p6 d.tm.args.length c6, Fresh w5 w6⟩ :: L.drop i) = d :: bdsE (L.drop i) from rfl, HN.out]; simp [bdsE], by have := hgr.size; have := HZ7.out; omega⟩
                have hrl : ∀ g, (Value.slice oa L.length oc).ownBlock = some g → w2.heap.size ≤ g := fun g e => (HRQ.out.row.lt g e).1
                have HR8 := Lib.hid (grown_kept_one (HRRQ.out.kept BB7.out) hgr hrl (by omega))
                have HB8 : Hid (Below w.heap.size w w8) := Lib.hid ((carry_below HBQ.out (Nat.le_refl _) BB7.out).trans ⟨hgr.os, hgr.tape, hgr.output, hgr.size, fun b hb => hgr.block b (by have := BB7.out.size; have := HBQ.out.size; omega) (fun e => by have := hrl b e.symm; omega)⟩)
                clear hown hat hgr hrl hw7
                go_wp2
                go_roundw
                case rel => exact ⟨k + 1, by omega, by go_num, D1.out, HR8.out, HB8.out⟩
                case measure => simp [intOf]; omega
            · have hke : k = u.length := by omega
              have HT : Hid (bdsE L = cP s u u.length) := Lib.hid (by rw [HBD.out, hke])
              have CW := woTriv_any w2.heap.size (.slice oa L.length oc) L wr HROW.out (by omega) (by rw [HT.out]; have := cOut_wt HGS.out HGU.out; unfold cOut at this; omega) HBS.out
              rw [HT.out] at CW
              have CW := Lib.hid CW
              obtain ⟨r0, r1⟩ := HR.out
              have hrl : ∀ g, (Value.slice oa L.length oc).ownBlock = some g → w2.heap.size ≤ g := fun g e => (HROW.out.row.lt g e).1
              have HRL := Lib.hid hrl
              have HBS2 := HBS.out
              clear hke hrl
              go_wp2_with fail
              refine CW.out.mono ?_
              rintro e w9 ⟨v9, L9, rfl, hr9, hd9, hgr⟩
              obtain ⟨p9, c9, rfl⟩ := hr9.is_slice
              have HR9 := Lib.hid (grown_kept_one HR.out hgr HRL.out (by omega))
              have HRW := Lib.hid hr9
              have HD9 := Lib.hid hd9
              have hz9 : wr.heap.size ≤ w9.heap.size := hgr.size
              have HB9 : Hid (Below w.heap.size w w9) := Lib.hid (HB.out.trans ⟨hgr.os, hgr.tape, hgr.output, hgr.size, fun b hb => hgr.block b (by have := HB.out.size; omega) (fun e => by have := HRL.out b e.symm; omega)⟩)
              clear r0 r1 hr9 hd9 hgr
              obtain ⟨r0, r1⟩ := HR9.out
              obtain ⟨gd, hgd⟩ : ∃ gd, gd = goodS ((cP s u u.length).filter nontr) := ⟨_, rfl⟩
              have HF : Hid (cOk s u = gd ∧ cR s u = okL ((cP s u u.length).filter nontr)) := Lib.hid (by
                have e1 : cOk s u = gd := by rw [hgd]; unfold cOk; rw [HGS.out, HGU.out]; rfl
                refine ⟨e1, ?_⟩
                unfold cR okL
                rw [e1, ← hgd]; rfl)
              rw [← hgd]
              clear hgd
              go_wp2
              refine bodyPost_ret (v := .tuple #[.agg #[.slice p9 L9.length c9], .bool gd]) (by simp [results, Try.results33, go_sem, r0]) rfl ?_
              rw [HF.out.1, HF.out.2, ← HD9.out]
              refine ⟨_, rfl, ?_, HB9.out.setCell (by simp; omega) _⟩
              have hwh := HRW.out.whole (w0 := w2) (Nat.le_refl _) (Nat.le_refl _)
              refine (hwh.setCell (fun h => by have := h.1; simp at this; omega) _).mono fun y hy => ⟨?_, ?_⟩
              · have := hy.1; omega
              · simp only [size_setCell]; exact hy.2

end Go.Proofs.Ytnkonhdnccolhaa
