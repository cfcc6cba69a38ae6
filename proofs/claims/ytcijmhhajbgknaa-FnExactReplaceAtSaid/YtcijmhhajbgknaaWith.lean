/- The model's replaced term: a contract, for terms of at most 1048576 names' bytes and arguments. -/
import Derived.Test.YtcijmhhajbgknaaRep
namespace Go.Proofs.Ytcijmhhajbgknaa
open Go.RowKit
set_option linter.unusedVariables false

/-- A slice of integers within its capacity. -/
def IntsC (w : World) (v : Value) (is : List Int) : Prop := IntsV w v is ∧ ∃ a c, v = .slice a is.length c ∧ is.length ≤ c

theorem IntsC.kept {w w' : World} {v : Value} {is : List Int} (h : IntsC w v is) (hb : Below w.heap.size w w') : IntsC w' v is := ⟨h.1.kept hb, h.2⟩

theorem IntsO.readC {w : World} {S : Nat → Prop} {v : Value} {is : List Int} (h : IntsO w S v is) : IntsC w v is := by
  refine ⟨h.read, ?_⟩
  rcases h with ⟨a, c, rfl, rfl⟩ | ⟨g, c, rfl, _, hl, _⟩
  · exact ⟨a, c, rfl, Nat.zero_le _⟩
  · exact ⟨_, c, rfl, hl⟩

/-- What a list of terms of a call's own looks like that is not empty. -/
theorem TmO.inv {w : World} {S : Nat → Prop} {a : Option Addr} {c : Nat} {l : List Tm} (h : TmO w S (.slice a l.length c) l) (hp : 0 < l.length) :
    ∃ (g : Nat) (f : Nat → Value) (Ss : Nat → Nat → Prop), a = some ⟨g, 0, none⟩ ∧ l.length ≤ c ∧ S g ∧ (∀ j, w.frozen? ⟨g, j, none⟩ = false) ∧ (∀ (i : Nat) (t : Tm), l[i]? = some t → w.cell? ⟨g, i * 2, none⟩ = some (.string t.name)) ∧
      (∀ (i : Nat) (t : Tm), l[i]? = some t → w.cell? ⟨g, i * 2 + 1, none⟩ = some (f i)) ∧ (∀ (i : Nat) (t : Tm), l[i]? = some t → TmO w (Ss i) (f i) t.args) ∧
      (∀ i k, i < l.length → Ss i k → S k ∧ k ≠ g) ∧ (∀ i j k, i < l.length → j < l.length → i ≠ j → Ss i k → Ss j k → False) := by
  generalize hv : Value.slice a l.length c = v at h
  cases h with
  | emp => simp at hp
  | row _ g c' _ f Ss hp' hS hc hz hn ha hr hsub hdis =>
    injection hv with e1 e2 e3
    subst e1; subst e3
    exact ⟨g, f, Ss, rfl, hc, hS, hz, hn, ha, hr, hsub, hdis⟩

/-- A term of a call's own whose argument is stored anew. -/
theorem stored_one {w : World} {S S' : Nat → Prop} {g c i : Nat} {l : List Tm} {u x : Tm} {v' : Value} (h : TmO w S (.slice (some ⟨g, 0, none⟩) l.length c) l) (hi : l[i]? = some u) (ho : TmO w S' v' x.args) (hS' : ∀ b, S' b → ¬ S b) :
    TmO (stored w g (i * 2) x.name v') (fun b => S b ∨ S' b) (.slice (some ⟨g, 0, none⟩) l.length c) (l.set i x) := by
  have hil : i < l.length := (List.getElem?_eq_some_iff.1 hi).1
  obtain ⟨g', f, Ss, hg, hc, hS, hz, hn, ha, hr, hsub, hdis⟩ := h.inv (by omega)
  have e : g = g' := by injection hg with hg; injection hg
  subst e
  exact TmO.setAt (T := S') (by omega) hS hc hn ha hr hsub hdis hi (fun j => by rw [stored_frozen]; exact hz j) (fun j h1 h2 => stored_other (.inr ⟨h1, h2⟩)) (stored_name (hn i u hi)) (stored_args (ha i u hi))
    (ho.frame fun b hb => stored_heap (fun e => hS' b hb (e ▸ hS))) (fun j b hj _ hb => stored_heap (hsub j b hj hb).2) (fun b hb => .inr hb) hS'

theorem far {W : World} {g x o1 o2 j : Nat} {u v z : Value} (h : x ≠ g) (hc : W.cell? ⟨x, j, none⟩ = some z) : ((W.setCell ⟨g, o1, none⟩ u).setCell ⟨g, o2, none⟩ v).cell? ⟨x, j, none⟩ = some z := by
  rw [World.cell?_setCell_other _ _ _ _ (fun e => h (by injection e with e; exact e.symm)), World.cell?_setCell_other _ _ _ _ (fun e => h (by injection e with e; exact e.symm))]
  exact hc

def WithP (p : List Int) : Prop := ∀ (t s : Tm) (w : World) (va vp vs : Value), TmS w va t.args → IntsC w vp p → TmS w vs s.args → (∃ u, subAt p t = some u) → t.wt ≤ 1048576 → s.wt ≤ 1048576 → p.length ≤ 1048576 →
  Calls Try.prog 63 #[.agg #[.string t.name, va], vp, .agg #[.string s.name, vs]] w (ToEnd (withAt p t s) w)

def BT (t : Tm) (a : Option Addr) (c : Nat) : Obj := .cells #[.string t.name, .slice a t.args.length c] 24

set_option maxRecDepth 100000 in
set_option maxHeartbeats 4000000 in
theorem with_any (p : List Int) : WithP p := by
  induction p with
  | nil =>
    intro t s w va vp vs hv hp hs hsub hw hws hl
    obtain ⟨a, c, rfl⟩ := hv.is_slice
    obtain ⟨sa, sc, rfl⟩ := hs.is_slice
    obtain ⟨⟨pa, pc, rfl, hpc⟩, _⟩ := hp
    have HS := Lib.hid hs
    have B1 := Lib.hid ((((Below.refl w.heap.size w).alloc (Nat.le_refl _) (.cells #[.string t.name, .slice a t.args.length c] 24)).alloc (by simp) (.cells #[.string s.name, .slice sa s.args.length sc] 24)).alloc (by simp; omega) (.cells #[.string ⟨#[]⟩, .slice none 0 0] 24))
    have R2 := Lib.hid (two_new ((w.alloc (.cells #[.string t.name, .slice a t.args.length c] 24)).alloc (.cells #[.string s.name, .slice sa s.args.length sc] 24)) (.string ⟨#[]⟩) (.slice none 0 0) 24 (w.heap.size + 1 + 1) (by simp))
    clear hv hs hpc hsub
    go_enter Try.func63, Try.ntmps63
    go_wp2_with fail
    refine (l2Own_any s _ _ (HS.out.kept B1.out) hws).mono ?_
    rintro e w6 ⟨v6, rfl, ho, hb⟩
    obtain ⟨pv, cv, rfl⟩ := ho.read.is_slice
    have HO := Lib.hid ho
    have HB6 := Lib.hid (carry_below B1.out (Nat.le_refl _) hb)
    obtain ⟨q0, q1, q2⟩ := R2.out.kept hb
    have hz := hb.size
    simp at hz
    clear ho hb
    go_wp2
    refine bodyPost_ret (v := .agg #[.string s.name, .slice pv s.args.length cv]) (by simp [results, Try.results63, go_sem, q0, q1]) rfl ?_
    rw [withAt]
    refine ⟨_, rfl, ?_, (HB6.out.setCell (by simp; omega) _).setCell (by simp; omega) _⟩
    refine ((HO.out.setCell (fun h => by have := h.1; simp at this; omega) _).setCell (fun h => by have := h.1; simp at this; omega) _).mono fun x hx => ⟨?_, ?_⟩
    · have := hx.1; simp at this; omega
    · simp only [size_setCell]; exact hx.2
  | cons i r ih =>
    intro t s w va vp vs hv hp hs hsub hw hws hl
    have IH := Lib.hid ih
    obtain ⟨a, c, rfl⟩ := hv.is_slice
    obtain ⟨sa, sc, rfl⟩ := hs.is_slice
    obtain ⟨u0, hu0⟩ := hsub
    have hi0 : 0 ≤ i := by
      by_cases h : i < 0
      · rw [subAt, if_pos h] at hu0; cases hu0
      · omega
    obtain ⟨k, rfl⟩ := Int.eq_ofNat_of_zero_le hi0
    obtain ⟨u, hu, hur⟩ : ∃ u, t.args[k]? = some u ∧ ∃ x, subAt r u = some x := by
      rw [subAt, if_neg (by omega)] at hu0
      cases h : t.args[(k : Int).toNat]? with
      | none => rw [h] at hu0; cases hu0
      | some u => rw [h] at hu0; exact ⟨u, by simpa using h, u0, hu0⟩
    have HPP := Lib.hid hp
    obtain ⟨⟨pa, pc, rfl, hpc⟩, pa', pc', hpe, hpl⟩ := hp
    injection hpe with e1 _ e3
    subst e1
    subst e3
    obtain ⟨pb, po, rfl, hp0⟩ := hpc 0 (k : Int) rfl
    rw [Nat.add_zero] at hp0
    have HS := Lib.hid hs
    have HV := Lib.hid hv
    have HU := Lib.hid hu
    have HUR := Lib.hid hur
    have HPC := Lib.hid hpc
    have hlt : k < t.args.length := (List.getElem?_eq_some_iff.1 hu).1
    have B1 := Lib.hid ((((Below.refl w.heap.size w).alloc (Nat.le_refl _) (.cells #[.string t.name, .slice a t.args.length c] 24)).alloc (by simp) (.cells #[.string s.name, .slice sa s.args.length sc] 24)).alloc (by simp; omega) (.cells #[.string ⟨#[]⟩, .slice none 0 0] 24))
    have A2 := Lib.hid (((two_new w (.string t.name) (.slice a t.args.length c) 24 _ rfl).alloc (.cells #[.string s.name, .slice sa s.args.length sc] 24)).alloc (.cells #[.string ⟨#[]⟩, .slice none 0 0] 24))
    have S2 := Lib.hid ((two_new (w.alloc (.cells #[.string t.name, .slice a t.args.length c] 24)) (.string s.name) (.slice sa s.args.length sc) 24 (w.heap.size + 1) (by simp)).alloc (.cells #[.string ⟨#[]⟩, .slice none 0 0] 24))
    have R2 := Lib.hid (two_new ((w.alloc (.cells #[.string t.name, .slice a t.args.length c] 24)).alloc (.cells #[.string s.name, .slice sa s.args.length sc] 24)) (.string ⟨#[]⟩) (.slice none 0 0) 24 (w.heap.size + 1 + 1) (by simp))
    obtain ⟨b, off, rfl, vu, c0, c1, hvu⟩ := hv.get hu
    have HVU := Lib.hid hvu
    obtain ⟨ua, uc, rfl⟩ := hvu.is_slice
    clear hv hs hpc hu hur ih hu0 hvu
    simp only [List.length_cons] at *
    go_enter Try.func63, Try.ntmps63
    go_wp2_with fail
    refine (l2Own_any t _ _ (HV.out.kept B1.out) hw).mono ?_
    rintro e w6 ⟨v6, rfl, ho, hb⟩
    obtain ⟨pv, cv, rfl⟩ := ho.read.is_slice
    have HO := Lib.hid ho
    have HB6 := Lib.hid (carry_below B1.out (Nat.le_refl _) hb)
    have hz := hb.size
    simp at hz
    have A6 := Lib.hid (A2.out.kept hb)
    have S6 := Lib.hid (S2.out.kept hb)
    have R6 := Lib.hid (R2.out.kept hb)
    clear ho hb
    obtain ⟨g, f, Ss, rfl, hcc, hSg, hz7, hn7, ha7, hr7, hsub7, hdis7⟩ := HO.out.inv (by omega)
    have HZ7 := Lib.hid hz7
    have HG0 : Hid (g < w6.heap.size) := Lib.hid hSg.2
    have B7 : Hid (Below w6.heap.size w6 (w6.alloc (.cells #[.string t.name, .slice (some ⟨g, 0, none⟩) t.args.length cv] 24)).drew) := Lib.hid ((Below.refl _ _).alloc (Nat.le_refl _) _).drew
    have HBW := Lib.hid (carry_below HB6.out (Nat.le_refl _) B7.out)
    obtain ⟨a0, a1, a2⟩ := A6.out.kept B7.out
    obtain ⟨s0, s1, s2⟩ := S6.out.kept B7.out
    have R7 := Lib.hid (R6.out.kept B7.out)
    have T7 : Hid (Two (w6.alloc (.cells #[.string t.name, .slice (some ⟨g, 0, none⟩) t.args.length cv] 24)).drew w6.heap.size (.string t.name) (.slice (some ⟨g, 0, none⟩) t.args.length cv)) := Lib.hid (two_new w6 _ _ _ _ rfl)
    obtain ⟨t0, t1, t2⟩ := T7.out
    have x0 := carry_cell c0 HBW.out
    have x1 := carry_cell c1 HBW.out
    have p0 := carry_cell hp0 HBW.out
    have g0 := carry_cell (hn7 k u HU.out) B7.out
    have g1 := carry_cell (ha7 k u HU.out) B7.out
    have C2 : Hid (∀ (W : World) (vq : Value), Below w6.heap.size w6 W → IntsC W vq r → Calls Try.prog 63 #[.agg #[.string u.name, .slice ua u.args.length uc], vq, .agg #[.string s.name, .slice sa s.args.length sc]] W (ToEnd (withAt r u s) W)) := Lib.hid (fun W vq hW hq =>
      IH.out u s W _ vq _ ((HVU.out.kept HB6.out).kept hW) hq ((HS.out.kept HB6.out).kept hW) HUR.out (Nat.le_trans (Tm.wt_arg (mem_of_at HU.out)) hw) hws (by omega))
    have HP0 := Lib.hid hp0
    have HC0 := Lib.hid c0
    clear c0 c1 hp0 hz7 hn7 ha7 hr7 hsub7 hdis7
    have HFZ : Hid (∀ W : World, Below w6.heap.size w6 W → W.frozen? ⟨g, k * 2, none⟩ = false ∧ W.frozen? ⟨g, k * 2 + 1, none⟩ = false) := Lib.hid (fun W hW => by
      have hb := hW.block g (HG0.out)
      exact ⟨(World.frozen?_of_block (a := ⟨g, k * 2, none⟩) (w := w6) hb).trans (HZ7.out _), (World.frozen?_of_block (a := ⟨g, k * 2 + 1, none⟩) (w := w6) hb).trans (HZ7.out _)⟩)
    have hlt6 : g < w6.heap.size := HG0.out
    have hge6 : w.heap.size + 3 ≤ g := by have := hSg.1; simp at this; omega
    have hpbl : pb < w.heap.size := World.block_lt_of_cell? w _ HP0.out
    have hbl : b < w.heap.size := World.block_lt_of_cell? w _ HC0.out
    have hne1 : w6.heap.size ≠ g := by omega
    have hne2 : pb ≠ g := by omega
    have hne3 : w.heap.size ≠ g := by omega
    have hne4 : b ≠ g := by omega
    have hne5 : w.heap.size + 1 ≠ g := by omega
    have hne6 : w.heap.size + 1 + 1 ≠ g := by omega
    have hk0 : (0 : Int) ≤ (k : Int) := by omega
    have hk1 : (k : Int) < (t.args.length : Int) := by omega
    have hpc1 : r.length + 1 ≤ pc := hpl
    have hrl : (1 : Int) ≤ (r.length : Int) + 1 := by omega
    by_cases hc1 : pc = 1
    · have hr0 : r = [] := List.length_eq_zero_iff.1 (by omega)
      subst hr0
      subst hc1
      have HQ : Hid (IntsC (w6.alloc (.cells #[.string t.name, .slice (some ⟨g, 0, none⟩) t.args.length cv] 24)).drew (.slice (some ⟨pb, po, none⟩) 0 0) []) := Lib.hid ⟨⟨_, 0, rfl, fun k x h => by simp at h⟩, _, 0, rfl, Nat.le_refl _⟩
      clear hpl hpc1
      go_wp2_with fail
      go_region_held3 (fun w' => w'.cell? ⟨w6.heap.size, 1, none⟩ = some (.slice (some ⟨g, 0, none⟩) t.args.length cv) ∧ w'.cell? ⟨pb, po, none⟩ = some (.int .i64 (k : Int)) ∧ w'.cell? ⟨w.heap.size, 1, none⟩ = some (.slice (some ⟨b, off, none⟩) t.args.length c) ∧ w'.cell? ⟨b, off + k * 2, none⟩ = some (.string u.name) ∧ w'.cell? ⟨b, off + k * 2 + 1, none⟩ = some (.slice ua u.args.length uc) ∧ w'.cell? ⟨w.heap.size + 1, 0, none⟩ = some (.string s.name) ∧ w'.cell? ⟨w.heap.size + 1, 1, none⟩ = some (.slice sa s.args.length sc)) (first | exact ⟨by assumption, by assumption, by assumption, by assumption, by assumption, by assumption, by assumption⟩ | exact ⟨far hne1 (by assumption), far hne2 (by assumption), far hne3 (by assumption), far hne4 (by assumption), far hne4 (by assumption), far hne5 (by assumption), far hne5 (by assumption)⟩ | go_keep) (first | (go_at_call 63; refine (C2.out _ _ B7.out HQ.out).mono ?_; rintro e w8 ⟨v8, rfl, ho8, hb8⟩; obtain ⟨v8p, v8c, rfl⟩ := ho8.read.is_slice; have HO8 := Lib.hid ho8; have HB8 := Lib.hid hb8; have y0 := carry_cell' hb8 t0; have y1 := carry_cell' hb8 t1; have y2 := carry_cell' hb8 p0; have y3 := carry_cell' hb8 a1; have y4 := carry_cell' hb8 x0; have y5 := carry_cell' hb8 x1; have y6 := carry_cell' hb8 s0; have y7 := carry_cell' hb8 s1; have y8 := carry_cell' hb8 g0; have y9 := carry_cell' hb8 g1; have HB68 := Lib.hid (carry_below B7.out (Nat.le_refl _) hb8); have HRV := Lib.hid (R7.out.kept hb8); obtain ⟨hf0, hf1⟩ := HFZ.out w8 HB68.out; clear ho8 hb8))
      have HT9 : Hid (TmO ((w8.setCell ⟨g, k * 2, none⟩ (.string (withAt [] u s).name)).setCell ⟨g, k * 2 + 1, none⟩ (.slice v8p (withAt [] u s).args.length v8c)) (fun x => Fresh (((w.alloc (.cells #[.string t.name, .slice (some ⟨b, off, none⟩) t.args.length c] 24)).alloc (.cells #[.string s.name, .slice sa s.args.length sc] 24)).alloc (.cells #[.string ⟨#[]⟩, .slice none 0 0] 24)) w6 x ∨ Fresh (w6.alloc (.cells #[.string t.name, .slice (some ⟨g, 0, none⟩) t.args.length cv] 24)).drew w8 x) (.slice (some ⟨g, 0, none⟩) t.args.length cv) (t.args.set k (withAt [] u s))) := Lib.hid
        (stored_one (HO.out.kept HB68.out) HU.out HO8.out (fun x h h2 => by have := h.1; have := h2.2; simp at *; omega))
      have HB9 : Hid (Below w.heap.size w ((w8.setCell ⟨g, k * 2, none⟩ (.string (withAt [] u s).name)).setCell ⟨g, k * 2 + 1, none⟩ (.slice v8p (withAt [] u s).args.length v8c))) := Lib.hid (((carry_below HB6.out (Nat.le_refl _) HB68.out).setCell (by simp; omega) _).setCell (by simp; omega) _)
      have hz9 : w6.heap.size + 1 ≤ w8.heap.size := by have := HB8.out.size; simpa using this
      obtain ⟨q0, q1, q2⟩ := (HRV.out.setFar (a := ⟨g, k * 2, none⟩) (by simp; omega) (.string (withAt [] u s).name)).setFar (a := ⟨g, k * 2 + 1, none⟩) (by simp; omega) (.slice v8p (withAt [] u s).args.length v8c)
      have z0 : ((w8.setCell ⟨g, k * 2, none⟩ (.string (withAt [] u s).name)).setCell ⟨g, k * 2 + 1, none⟩ (.slice v8p (withAt [] u s).args.length v8c)).cell? ⟨w6.heap.size, 0, none⟩ = _ := far hne1 y0
      have z1 : ((w8.setCell ⟨g, k * 2, none⟩ (.string (withAt [] u s).name)).setCell ⟨g, k * 2 + 1, none⟩ (.slice v8p (withAt [] u s).args.length v8c)).cell? ⟨w6.heap.size, 1, none⟩ = _ := far hne1 y1
      have hs9 : ((w8.setCell ⟨g, k * 2, none⟩ (.string (withAt [] u s).name)).setCell ⟨g, k * 2 + 1, none⟩ (.slice v8p (withAt [] u s).args.length v8c)).heap.size = w8.heap.size := by simp only [size_setCell]
      obtain ⟨W9, hW9⟩ : ∃ W9, (w8.setCell ⟨g, k * 2, none⟩ (.string (withAt [] u s).name)).setCell ⟨g, k * 2 + 1, none⟩ (.slice v8p (withAt [] u s).args.length v8c) = W9 := ⟨_, rfl⟩
      rw [hW9] at HT9 HB9 q0 q1 q2 z0 z1 hs9 ⊢
      clear y0 y1 y2 y3 y4 y5 y6 y7 y8 y9 hf0 hf1 hW9
      go_wp2
      refine bodyPost_ret (v := .agg #[.string t.name, .slice (some ⟨g, 0, none⟩) t.args.length cv]) (by simp [results, Try.results63, go_sem, q0, q1]) rfl ?_
      have hwc : withAt ((k : Int) :: []) t s = .node t.name (t.args.set k (withAt [] u s)) := withAt_cons (by simpa using HU.out)
      rw [hwc]
      refine ⟨_, rfl, ?_, (HB9.out.setCell (by simp; omega) _).setCell (by simp; omega) _⟩
      show TmO _ _ _ (t.args.set k (withAt [] u s))
      have hs6 : w.heap.size + 3 ≤ w6.heap.size := by omega
      refine ((HT9.out.setCell (fun h => by rcases h with h | h <;> (have := h.1; simp at this; omega)) _).setCell (fun h => by rcases h with h | h <;> (have := h.1; simp at this; omega)) _).mono fun x hx => ⟨?_, ?_⟩
      · rcases hx with hx | hx <;> (have := hx.1; simp at this; omega)
      · simp only [size_setCell]
        rcases hx with hx | hx <;> (have := hx.2; omega)
    · have hc1' : 1 < pc := by omega
      have HQ : Hid (IntsC (w6.alloc (.cells #[.string t.name, .slice (some ⟨g, 0, none⟩) t.args.length cv] 24)).drew (.slice (some ⟨pb, po + 1, none⟩) r.length (pc - 1)) r) := Lib.hid ⟨⟨_, _, rfl, fun j x h => by
        obtain ⟨b', o', e, hx⟩ := HPC.out (j + 1) x (by simpa using h)
        injection e with e
        injection e with e1 e2
        subst e1; subst e2
        refine ⟨pb, po + 1, rfl, ?_⟩
        rw [show po + 1 + j = po + (j + 1) by omega]
        exact carry_cell hx HBW.out⟩, _, _, rfl, by omega⟩
      clear hpl hpc1
      go_wp2_with fail
      go_region_held3 (fun w' => w'.cell? ⟨w6.heap.size, 1, none⟩ = some (.slice (some ⟨g, 0, none⟩) t.args.length cv) ∧ w'.cell? ⟨pb, po, none⟩ = some (.int .i64 (k : Int)) ∧ w'.cell? ⟨w.heap.size, 1, none⟩ = some (.slice (some ⟨b, off, none⟩) t.args.length c) ∧ w'.cell? ⟨b, off + k * 2, none⟩ = some (.string u.name) ∧ w'.cell? ⟨b, off + k * 2 + 1, none⟩ = some (.slice ua u.args.length uc) ∧ w'.cell? ⟨w.heap.size + 1, 0, none⟩ = some (.string s.name) ∧ w'.cell? ⟨w.heap.size + 1, 1, none⟩ = some (.slice sa s.args.length sc)) (first | exact ⟨by assumption, by assumption, by assumption, by assumption, by assumption, by assumption, by assumption⟩ | exact ⟨far hne1 (by assumption), far hne2 (by assumption), far hne3 (by assumption), far hne4 (by assumption), far hne4 (by assumption), far hne5 (by assumption), far hne5 (by assumption)⟩ | go_keep) (first | (go_at_call 63; refine (C2.out _ _ B7.out HQ.out).mono ?_; rintro e w8 ⟨v8, rfl, ho8, hb8⟩; obtain ⟨v8p, v8c, rfl⟩ := ho8.read.is_slice; have HO8 := Lib.hid ho8; have HB8 := Lib.hid hb8; have y0 := carry_cell' hb8 t0; have y1 := carry_cell' hb8 t1; have y2 := carry_cell' hb8 p0; have y3 := carry_cell' hb8 a1; have y4 := carry_cell' hb8 x0; have y5 := carry_cell' hb8 x1; have y6 := carry_cell' hb8 s0; have y7 := carry_cell' hb8 s1; have y8 := carry_cell' hb8 g0; have y9 := carry_cell' hb8 g1; have HB68 := Lib.hid (carry_below B7.out (Nat.le_refl _) hb8); have HRV := Lib.hid (R7.out.kept hb8); obtain ⟨hf0, hf1⟩ := HFZ.out w8 HB68.out; clear ho8 hb8))
      have HT9 : Hid (TmO ((w8.setCell ⟨g, k * 2, none⟩ (.string (withAt r u s).name)).setCell ⟨g, k * 2 + 1, none⟩ (.slice v8p (withAt r u s).args.length v8c)) (fun x => Fresh (((w.alloc (.cells #[.string t.name, .slice (some ⟨b, off, none⟩) t.args.length c] 24)).alloc (.cells #[.string s.name, .slice sa s.args.length sc] 24)).alloc (.cells #[.string ⟨#[]⟩, .slice none 0 0] 24)) w6 x ∨ Fresh (w6.alloc (.cells #[.string t.name, .slice (some ⟨g, 0, none⟩) t.args.length cv] 24)).drew w8 x) (.slice (some ⟨g, 0, none⟩) t.args.length cv) (t.args.set k (withAt r u s))) := Lib.hid
        (stored_one (HO.out.kept HB68.out) HU.out HO8.out (fun x h h2 => by have := h.1; have := h2.2; simp at *; omega))
      have HB9 : Hid (Below w.heap.size w ((w8.setCell ⟨g, k * 2, none⟩ (.string (withAt r u s).name)).setCell ⟨g, k * 2 + 1, none⟩ (.slice v8p (withAt r u s).args.length v8c))) := Lib.hid (((carry_below HB6.out (Nat.le_refl _) HB68.out).setCell (by simp; omega) _).setCell (by simp; omega) _)
      have hz9 : w6.heap.size + 1 ≤ w8.heap.size := by have := HB8.out.size; simpa using this
      obtain ⟨q0, q1, q2⟩ := (HRV.out.setFar (a := ⟨g, k * 2, none⟩) (by simp; omega) (.string (withAt r u s).name)).setFar (a := ⟨g, k * 2 + 1, none⟩) (by simp; omega) (.slice v8p (withAt r u s).args.length v8c)
      have z0 : ((w8.setCell ⟨g, k * 2, none⟩ (.string (withAt r u s).name)).setCell ⟨g, k * 2 + 1, none⟩ (.slice v8p (withAt r u s).args.length v8c)).cell? ⟨w6.heap.size, 0, none⟩ = _ := far hne1 y0
      have z1 : ((w8.setCell ⟨g, k * 2, none⟩ (.string (withAt r u s).name)).setCell ⟨g, k * 2 + 1, none⟩ (.slice v8p (withAt r u s).args.length v8c)).cell? ⟨w6.heap.size, 1, none⟩ = _ := far hne1 y1
      have hs9 : ((w8.setCell ⟨g, k * 2, none⟩ (.string (withAt r u s).name)).setCell ⟨g, k * 2 + 1, none⟩ (.slice v8p (withAt r u s).args.length v8c)).heap.size = w8.heap.size := by simp only [size_setCell]
      obtain ⟨W9, hW9⟩ : ∃ W9, (w8.setCell ⟨g, k * 2, none⟩ (.string (withAt r u s).name)).setCell ⟨g, k * 2 + 1, none⟩ (.slice v8p (withAt r u s).args.length v8c) = W9 := ⟨_, rfl⟩
      rw [hW9] at HT9 HB9 q0 q1 q2 z0 z1 hs9 ⊢
      clear y0 y1 y2 y3 y4 y5 y6 y7 y8 y9 hf0 hf1 hW9
      go_wp2
      refine bodyPost_ret (v := .agg #[.string t.name, .slice (some ⟨g, 0, none⟩) t.args.length cv]) (by simp [results, Try.results63, go_sem, q0, q1]) rfl ?_
      have hwc : withAt ((k : Int) :: r) t s = .node t.name (t.args.set k (withAt r u s)) := withAt_cons (by simpa using HU.out)
      rw [hwc]
      refine ⟨_, rfl, ?_, (HB9.out.setCell (by simp; omega) _).setCell (by simp; omega) _⟩
      show TmO _ _ _ (t.args.set k (withAt r u s))
      have hs6 : w.heap.size + 3 ≤ w6.heap.size := by omega
      refine ((HT9.out.setCell (fun h => by rcases h with h | h <;> (have := h.1; simp at this; omega)) _).setCell (fun h => by rcases h with h | h <;> (have := h.1; simp at this; omega)) _).mono fun x hx => ⟨?_, ?_⟩
      · rcases hx with hx | hx <;> (have := hx.1; simp at this; omega)
      · simp only [size_setCell]
        rcases hx with hx | hx <;> (have := hx.2; omega)

end Go.Proofs.Ytcijmhhajbgknaa
