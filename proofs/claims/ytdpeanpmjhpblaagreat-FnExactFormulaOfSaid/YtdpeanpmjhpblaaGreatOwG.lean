/- Several texts in one: each says what it proves. No condition but theirs. -/
import Derived.Test.YtdpeanpmjhpblaaGreatMarkT
import Derived.Test.YtdpeanpmjhpblaaGreatLtG
import Derived.Test.YtdpeanpmjhpblaaGreatInts
import Derived.Test.YtdpeanpmjhpblaaGreatThr
import Derived.Test.YtdpeanpmjhpblaaGreatOwn
import Derived.Test.YtdpeanpmjhpblaaGreatOwnI
/- The laws' helpers that write marks into a list of literals of the call's own and look for them again: contracts. -/
namespace Go.Proofs.YtdpeanpmjhpblaaGreat
open Go.RowKit
set_option linter.unusedVariables false

/-- The mark of a sign. -/
def mk3 (q : Nat) : Bool := Int.tmod (q : Int) 3 == 0
theorem mk3_emod (q : Nat) : ((q : Int) % 3 == 0) = mk3 q := by unfold mk3; rw [Int.tmod_eq_emod_of_nonneg (by omega)]
def Lt.n (d : Lt) : Nat := 1 + d.tm.sz
theorem Lt.n_pos (d : Lt) : 2 ≤ d.n := by have := d.tm.sz_pos; unfold Lt.n; omega
def mkLt (k : Nat) (d : Lt) : Lt := ⟨mk3 k, mkT (k + 1) d.tm⟩
def mkLs (k : Nat) : List Lt → List Lt
  | [] => []
  | d :: r => mkLt k d :: mkLs (k + d.n) r
theorem mkLs_len : ∀ (k : Nat) (l : List Lt), (mkLs k l).length = l.length
  | _, [] => rfl
  | k, d :: r => by rw [mkLs, List.length_cons, mkLs_len, List.length_cons]
theorem mkLs_at : ∀ (l : List Lt) (k j : Nat) (d : Lt), l[j]? = some d → (mkLs k l)[j]? = some (mkLt (k + sumC Lt.n (l.take j)) d)
  | [], _, _, _, h => by cases h
  | a :: l, k, 0, t, h => by
    simp at h
    subst h
    rw [mkLs]; simp [sumC]
  | a :: l, k, j + 1, t, h => by
    rw [mkLs]
    have := mkLs_at l (k + a.n) j t (by simpa using h)
    simp [sumC]
    rw [this, Nat.add_assoc]
theorem mkLs_from {l : List Lt} {k j : Nat} {x : Lt} (h : (mkLs k l)[j]? = some x) : ∃ t, l[j]? = some t ∧ x = mkLt (k + sumC Lt.n (l.take j)) t := by
  have hj : j < l.length := by have := (List.getElem?_eq_some_iff.1 h).1; rwa [mkLs_len] at this
  have ht : l[j]? = some l[j] := List.getElem?_eq_getElem hj
  have := mkLs_at l k j _ ht
  rw [h] at this
  injection this with e
  exact ⟨_, ht, e⟩
theorem sumCn_len (l : List Lt) : l.length ≤ sumC Lt.n l := by
  induction l with
  | nil => simp [sumC]
  | cons t r ih => have := Lt.n_pos t; simp [sumC]; omega

def updL {α : Type} (h : Nat → α) (i : Nat) (x : α) : Nat → α := fun j => if j = i then x else h j

/-- A row of literals of the call's own, element by element. -/
structure RowGL (w : World) (g : Nat) (f : Nat → Value) (Ss : Nat → Nat → Prop) (n : Nat) (vv : Nat → Bool) (nn : Nat → ByteArray) (aa : Nat → List Tm) : Prop where
  free : ∀ j, w.frozen? ⟨g, j, none⟩ = false
  var : ∀ j, j < n → w.cell? ⟨g, j * 3, none⟩ = some (.bool (vv j))
  name : ∀ j, j < n → w.cell? ⟨g, j * 3 + 1, none⟩ = some (.string (nn j))
  arg : ∀ j, j < n → w.cell? ⟨g, j * 3 + 2, none⟩ = some (f j)
  own : ∀ j, j < n → TmO w (Ss j) (f j) (aa j)

theorem RowGL.below {w w' : World} {g : Nat} {f : Nat → Value} {Ss : Nat → Nat → Prop} {n : Nat} {vv : Nat → Bool} {nn : Nat → ByteArray} {aa : Nat → List Tm} (h : RowGL w g f Ss n vv nn aa) (hb : Below w.heap.size w w') (hp : 0 < n) (hs : ∀ j b, j < n → Ss j b → b < w.heap.size) : RowGL w' g f Ss n vv nn aa := by
  have hg : g < w.heap.size := World.block_lt_of_cell? w _ (h.var 0 hp)
  exact ⟨fun j => (hb.frozen (p := ⟨g, j, none⟩) hg).trans (h.free j), fun j hj => carry_cell (h.var j hj) hb, fun j hj => carry_cell (h.name j hj) hb, fun j hj => carry_cell (h.arg j hj) hb,
    fun j hj => (h.own j hj).frame fun b hb' => hb.block b (hs j b hj hb')⟩
theorem RowGL.setVar {w : World} {g : Nat} {f : Nat → Value} {Ss : Nat → Nat → Prop} {n : Nat} {vv : Nat → Bool} {nn : Nat → ByteArray} {aa : Nat → List Tm} (h : RowGL w g f Ss n vv nn aa) {i : Nat} (hi : i < n) (hs : ∀ j, j < n → ¬ Ss j g) (x : Bool) :
    RowGL (w.setCell ⟨g, i * 3, none⟩ (.bool x)) g f Ss n (updL vv i x) nn aa := by
  refine ⟨fun j => by rw [World.frozen?_setCell]; exact h.free j, fun j hj => ?_, fun j hj => ?_, fun j hj => ?_, fun j hj => (h.own j hj).setCell (hs j hj) _⟩
  · unfold updL
    split
    · rename_i e; subst e; exact World.cell?_setCell_same _ _ _ (h.var j hj)
    · exact (World.cell?_setCell_other _ _ _ _ (by simp; try omega)).trans (h.var j hj)
  · exact (World.cell?_setCell_other _ _ _ _ (by simp; try omega)).trans (h.name j hj)
  · exact (World.cell?_setCell_other _ _ _ _ (by simp; try omega)).trans (h.arg j hj)
theorem RowGL.setName {w : World} {g : Nat} {f : Nat → Value} {Ss : Nat → Nat → Prop} {n : Nat} {vv : Nat → Bool} {nn : Nat → ByteArray} {aa : Nat → List Tm} (h : RowGL w g f Ss n vv nn aa) {i : Nat} (hi : i < n) (hs : ∀ j, j < n → ¬ Ss j g) (x : ByteArray) :
    RowGL (w.setCell ⟨g, i * 3 + 1, none⟩ (.string x)) g f Ss n vv (updL nn i x) aa := by
  refine ⟨fun j => by rw [World.frozen?_setCell]; exact h.free j, fun j hj => ?_, fun j hj => ?_, fun j hj => ?_, fun j hj => (h.own j hj).setCell (hs j hj) _⟩
  · exact (World.cell?_setCell_other _ _ _ _ (by simp; try omega)).trans (h.var j hj)
  · unfold updL
    split
    · rename_i e; subst e; exact World.cell?_setCell_same _ _ _ (h.name j hj)
    · exact (World.cell?_setCell_other _ _ _ _ (by simp; try omega)).trans (h.name j hj)
  · exact (World.cell?_setCell_other _ _ _ _ (by simp; try omega)).trans (h.arg j hj)
theorem RowGL.args {w w' : World} {g : Nat} {f : Nat → Value} {Ss : Nat → Nat → Prop} {n : Nat} {vv : Nat → Bool} {nn : Nat → ByteArray} {aa : Nat → List Tm} (h : RowGL w g f Ss n vv nn aa) {i : Nat} (hi : i < n) (hs : ∀ j b, j < n → Ss j b → b < w.heap.size ∧ b ≠ g)
    (hdis : ∀ i j b, i < n → j < n → i ≠ j → Ss i b → Ss j b → False) {a' : List Tm} (ho : TmO w' (Ss i) (f i) a') (hout : Outside (Ss i) w w') : RowGL w' g f Ss n vv nn (updL aa i a') := by
  have hgs : ¬ Ss i g := fun e => (hs i g hi e).2 rfl
  have hglt : g < w.heap.size := World.block_lt_of_cell? w _ (h.var i hi)
  refine ⟨fun j => ?_, fun j hj => hout.cell (h.var j hj) hgs, fun j hj => hout.cell (h.name j hj) hgs, fun j hj => hout.cell (h.arg j hj) hgs, fun j hj => ?_⟩
  · rw [World.frozen?_of_block (w := w) (a := ⟨g, j, none⟩) (hout.block g hglt hgs)]
    exact h.free j
  · unfold updL
    split
    · rename_i e; subst e; exact ho
    · rename_i e; exact hout.own (h.own j hj) (fun b hb => ⟨(hs j b hj hb).1, fun hb' => hdis j i b hj hi e hb hb'⟩)

/-- The names and arguments of a list's elements, the first i of them marked. -/
def mvvL (l : List Lt) (k i : Nat) : Nat → Bool := fun j => if j < i then mk3 (k + sumC Lt.n (l.take j)) else (l.getD j default).var
def mnnL (l : List Lt) (k i : Nat) : Nat → ByteArray := fun j => if j < i then markB (k + sumC Lt.n (l.take j) + 1) else (l.getD j default).tm.name
def maaL (l : List Lt) (k i : Nat) : Nat → List Tm := fun j => if j < i then mkL (k + sumC Lt.n (l.take j) + 1 + 1) (l.getD j default).tm.args else (l.getD j default).tm.args
theorem updL_mvv (l : List Lt) (k i : Nat) : updL (mvvL l k i) i (mk3 (k + sumC Lt.n (l.take i))) = mvvL l k (i + 1) := by
  funext j
  unfold updL mvvL
  by_cases h : j = i
  · subst h; rw [if_pos rfl, if_pos (by omega)]
  · rw [if_neg h]
    by_cases h2 : j < i
    · rw [if_pos h2, if_pos (by omega)]
    · rw [if_neg h2, if_neg (by omega)]
theorem updL_mnn (l : List Lt) (k i : Nat) : updL (mnnL l k i) i (markB (k + sumC Lt.n (l.take i) + 1)) = mnnL l k (i + 1) := by
  funext j
  unfold updL mnnL
  by_cases h : j = i
  · subst h; rw [if_pos rfl, if_pos (by omega)]
  · rw [if_neg h]
    by_cases h2 : j < i
    · rw [if_pos h2, if_pos (by omega)]
    · rw [if_neg h2, if_neg (by omega)]
theorem updL_maa (l : List Lt) (k i : Nat) {d : Lt} (hd : l[i]? = some d) : updL (maaL l k i) i (mkL (k + sumC Lt.n (l.take i) + 1 + 1) d.tm.args) = maaL l k (i + 1) := by
  funext j
  unfold updL maaL
  by_cases h : j = i
  · subst h; rw [if_pos rfl, if_pos (by omega), List.getD_eq_getElem?_getD, hd]; rfl
  · rw [if_neg h]
    by_cases h2 : j < i
    · rw [if_pos h2, if_pos (by omega)]
    · rw [if_neg h2, if_neg (by omega)]
theorem getDL_of {l : List Lt} {i : Nat} {d : Lt} (hd : l[i]? = some d) : l.getD i default = d := by rw [List.getD_eq_getElem?_getD, hd]; rfl

def MRelC (w wr : World) (g : Nat) (f : Nat → Value) (Ss : Nat → Nat → Prop) (S : Nat → Prop) (l : List Lt) (k i : Nat) : Prop := RowGL wr g f Ss l.length (mvvL l k i) (mnnL l k i) (maaL l k i) ∧ Outside S w wr

def MarkCEnd (l : List Lt) (k : Nat) (v : Value) (S : Nat → Prop) (w : World) (e : Ending) (w' : World) : Prop :=
  e = .returned (.int .i64 (k + sumC Lt.n l : Nat)) ∧ LtO w' S v (mkLs k l) ∧ Outside S w w'

set_option maxHeartbeats 2000000 in
theorem markLs_any (l : List Lt) (k : Nat) (v : Value) (S : Nat → Prop) (w : World) (hv : LtO w S v l) (hS : ∀ b, S b → b < w.heap.size) (hk : 1 ≤ k) (hsz : k + sumC Lt.n l ≤ 100000000) (hlen : l.length ≤ 100000000) :
    Calls Tryz.prog 41 #[v, .int .i64 k] w (MarkCEnd l k v S w) := by
  have HSZ := Lib.hid (fun i => sumC_take Lt.n l i)
  rcases hv with ⟨a, c, rfl, rfl⟩ | ⟨g, c, f, Ss, rfl, hp, hSg, hc, hz, hat, hsub, hdis⟩
  · have HM : Hid (MarkCEnd [] k (.slice a 0 c) S w (.returned (.int .i64 k)) w) := Lib.hid ⟨by simp [sumC], .inl ⟨a, c, rfl, by rw [mkLs]⟩, Outside.refl _ _⟩
    go_enter Tryz.func41, Tryz.ntmps41
    go_wp2
    refine wp_loop_rounds 1 ?_
    rw [rounds_succ]
    go_wp2
    go_ret
    exact HM.out
  · have HS := Lib.hid hS
    have HSG := Lib.hid hSg
    have HSUB := Lib.hid hsub
    have HDIS := Lib.hid hdis
    have HNG : Hid (∀ j, j < l.length → ¬ Ss j g) := Lib.hid (fun j hj h => (hsub j g hj h).2 rfl)
    have HM0 : Hid (RowGL w g f Ss l.length (mvvL l k 0) (mnnL l k 0) (maaL l k 0)) := Lib.hid (by
      have h0 : ∀ j, j < l.length → l[j]? = some (l.getD j default) := fun j hj => by rw [List.getD_eq_getElem?_getD, List.getElem?_eq_getElem hj]; rfl
      exact ⟨hz, fun j hj => (hat j _ (h0 j hj)).1, fun j hj => (hat j _ (h0 j hj)).2.1, fun j hj => (hat j _ (h0 j hj)).2.2.1, fun j hj => (hat j _ (h0 j hj)).2.2.2⟩)
    clear hS hSg hz hat hsub hdis
    go_enter Tryz.func41, Tryz.ntmps41
    go_wp2
    go_loopw [1, 5] (fun kk i wr => ∃ j q : Nat, j ≤ l.length ∧ i = .int .i64 j ∧ kk = .int .i64 q ∧ q = k + sumC Lt.n (l.take j) ∧ MRelC w wr g f Ss S l k j) (fun _ i _ => l.length - (intOf i).toNat)
    case atStart => exact ⟨0, k, Nat.zero_le _, rfl, rfl, by simp [sumC], HM0.out, Outside.refl _ _⟩
    case round =>
      obtain ⟨j, q, hj, rfl, rfl, hq, hrel⟩ := hrel
      have HM := Lib.hid hrel.1
      have HO := Lib.hid hrel.2
      have HQ := Lib.hid hq
      clear hrel hq
      by_cases hlt : j < l.length
      · obtain ⟨t, ht⟩ : ∃ t, l[j]? = some t := ⟨_, List.getElem?_eq_getElem hlt⟩
        have HT := Lib.hid ht
        have HN := Lib.hid (sumC_next (f := Lt.n) ht)
        have HE : Hid (t.n = 2 + sumL Tm.sz t.tm.args) := Lib.hid (by unfold Lt.n; rw [t.tm.sz_eq]; omega)
        have hqb : q + t.n ≤ 100000000 := by have := HSZ.out (j + 1); have := HN.out; have := HQ.out; omega
        have hq1 : 1 ≤ q := by have := HQ.out; omega
        have hts : 2 ≤ t.n := Lt.n_pos t
        clear ht
        have HLT1 : Hid (∀ j b, j < l.length → Ss j b → b < wr.heap.size) := Lib.hid (fun j b hj hb' => Nat.lt_of_lt_of_le (HS.out b (HSUB.out j b hj hb').1) HO.out.size)
        have c0 := HM.out.var j hlt
        have c1 := HM.out.name j hlt
        have c2 := HM.out.arg j hlt
        have f0 := HM.out.free (j * 3)
        obtain ⟨m, hm⟩ : ∃ m, m = mk3 q := ⟨_, rfl⟩
        have hm1 : (Int.tmod (q : Int) 3 == 0) = m := by rw [hm]; rfl
        have hm3 : ((q : Int) % 3 == 0) = m := by rw [hm]; exact mk3_emod q
        have HMM := Lib.hid hm
        have HM2 := Lib.hid (HM.out.setVar hlt HNG.out m)
        have HO2 : Hid (Outside S w (wr.setCell ⟨g, j * 3, none⟩ (.bool m))) := Lib.hid (HO.out.trans (Outside.setCell _ _ _ HSG.out))
        clear hm
        go_wp2_with fail
        rw [show (q : Int) + 1 = ((q + 1 : Nat) : Int) by omega]
        refine (markText_any (q + 1) _ (by omega) (by omega)).mono ?_
        rintro e w2 ⟨rfl, hb⟩
        have HLT2 : Hid (∀ j b, j < l.length → Ss j b → b < w2.heap.size) := Lib.hid (fun j b hj hb' => Nat.lt_of_lt_of_le (HLT1.out j b hj hb') (by have := hb.size; rwa [size_setCell] at this))
        have HM3 := Lib.hid (HM2.out.below hb (by omega) (fun j b hj hb' => by rw [size_setCell]; exact HLT1.out j b hj hb'))
        have HO3 : Hid (Outside S w w2) := Lib.hid (HO2.out.trans (Outside.of_below hb))
        clear c0 c1 c2 f0 hm1 hm3
        have c1 := HM3.out.name j hlt
        have c2 := HM3.out.arg j hlt
        have f1 := HM3.out.free (j * 3 + 1)
        obtain ⟨m2, hm2⟩ : ∃ m, m = markB (q + 1) := ⟨_, rfl⟩
        rw [← hm2]
        have HMM2 := Lib.hid hm2
        have HM4 := Lib.hid (HM3.out.setName hlt HNG.out m2)
        have HO4 : Hid (Outside S w (w2.setCell ⟨g, j * 3 + 1, none⟩ (.string m2))) := Lib.hid (HO3.out.trans (Outside.setCell _ _ _ HSG.out))
        have c3 : (w2.setCell ⟨g, j * 3 + 1, none⟩ (.string m2)).cell? ⟨g, j * 3 + 2, none⟩ = some (f j) := HM4.out.arg j hlt
        have HOW : Hid (TmO (w2.setCell ⟨g, j * 3 + 1, none⟩ (.string m2)) (Ss j) (f j) t.tm.args) := Lib.hid (by
          have h1 := HM4.out.own j hlt
          unfold maaL at h1
          rw [if_neg (by omega), getDL_of HT.out] at h1
          exact h1)
        clear hb hm2
        have C1 := Lib.hid (markL_any t.tm.args (q + 1 + 1) (f j) (Ss j) _ HOW.out (fun b hb' => by rw [size_setCell]; exact HLT2.out j b hlt hb') (by omega) (by have := HE.out; omega) (by have := HE.out; have := sumL_len t.tm.args; omega))
        go_wp2_with fail
        rw [show (q : Int) + 1 + 1 = ((q + 1 + 1 : Nat) : Int) by omega]
        refine C1.out.mono ?_
        rintro e w3 ⟨rfl, ho2, hout⟩
        have HNX : Hid (MRelC w w3 g f Ss S l k (j + 1)) := Lib.hid ⟨by
            have h := HM4.out.args hlt (fun j b hj hb' => ⟨by rw [size_setCell]; exact HLT2.out j b hj hb', (HSUB.out j b hj hb').2⟩) HDIS.out ho2 hout
            rw [HMM.out, HMM2.out, HQ.out, updL_mvv, updL_mnn, updL_maa l k j HT.out] at h
            exact h, HO4.out.trans (hout.mono fun b hb' => (HSUB.out j b hlt hb').1)⟩
        have HQ2 : Hid (q + 1 + 1 + sumL Tm.sz t.tm.args = k + sumC Lt.n (l.take (j + 1))) := Lib.hid (by rw [HN.out]; have := HQ.out; have := HE.out; omega)
        generalize q + 1 + 1 + sumL Tm.sz t.tm.args = q2 at *
        clear ho2 hout c1 c2 c3 f1
        go_wp2
        go_roundw
        case rel => exact ⟨j + 1, q2, by omega, by go_num, rfl, HQ2.out, HNX.out⟩
        case measure => simp [intOf]; omega
      · have hje : j = l.length := by omega
        have HE : Hid (MarkCEnd l k (.slice (some ⟨g, 0, none⟩) l.length c) S w (.returned (.int .i64 q)) wr) := Lib.hid (by
          have hM := HM.out
          have hQ := HQ.out
          subst hje
          rw [sumC_all (Nat.le_refl _)] at hQ
          refine ⟨by rw [hQ], .inr ⟨g, c, f, Ss, by rw [mkLs_len], by rw [mkLs_len]; exact hp, HSG.out, by rw [mkLs_len]; exact hc, hM.free, fun i d hd => ?_, fun i b hi => HSUB.out i b (by rwa [mkLs_len] at hi), fun i j b hi hj => HDIS.out i j b (by rwa [mkLs_len] at hi) (by rwa [mkLs_len] at hj)⟩, HO.out⟩
          obtain ⟨s, hs, rfl⟩ := mkLs_from hd
          have hil := (List.getElem?_eq_some_iff.1 hs).1
          have h1 := hM.var i hil
          have h2 := hM.name i hil
          have h3 := hM.arg i hil
          have h4 := hM.own i hil
          unfold mvvL at h1
          unfold mnnL at h2
          unfold maaL at h4
          rw [if_pos hil] at h1 h2 h4
          rw [getDL_of hs] at h4
          exact ⟨h1, by rw [h2]; show _ = some (Value.string (mkT _ s.tm).name); rw [mkT_name], h3, by show TmO _ _ _ (mkT _ s.tm).args; rw [mkT_args]; exact h4⟩)
        clear hje
        go_wp2
        go_ret
        exact HE.out

set_option maxHeartbeats 400000 in
theorem markCl_any (l : List Lt) (k : Nat) (v : Value) (S : Nat → Prop) (w : World) (ho : LtO w S v l) (hS : ∀ b, S b → b < w.heap.size) (hk : 1 ≤ k) (hsz : k + sumC Lt.n l ≤ 100000000) :
    Calls Tryz.prog 17 #[.agg #[v], .int .i64 k] w (MarkCEnd l k v S w) := by
  obtain ⟨a, c, rfl⟩ := ho.read.is_slice
  have HO := Lib.hid ho
  have HS := Lib.hid hS
  have hl := sumCn_len l
  clear ho hS
  go_enter Tryz.func17, Tryz.ntmps17
  go_wp2_with fail
  refine (markLs_any l k _ S _ (HO.out.frame fun b hb => ((Below.refl _ _).alloc (Nat.le_refl _) _).block b (HS.out b hb)) (fun b hb => by have := HS.out b hb; simp; omega) hk hsz (by omega)).mono ?_
  rintro e w' ⟨rfl, ho, hout⟩
  have HO2 := Lib.hid ho
  have HX : Hid (Outside S w w') := Lib.hid ((Outside.of_below ((Below.refl _ _).alloc (Nat.le_refl _) _)).trans hout)
  clear ho hout
  generalize hq : k + sumC Lt.n l = q
  have HQ := Lib.hid hq
  clear hq
  go_wp2
  go_ret
  exact ⟨ret_int (by rw [HQ.out]), HO2.out, HX.out⟩

end Go.Proofs.YtdpeanpmjhpblaaGreat

/- A box of one cell, as a loop's walk carries it. No condition. -/
namespace Go.Proofs.YtdpeanpmjhpblaaGreat
open Go.RowKit
set_option linter.unusedVariables false

theorem Oner.setIt {w : World} {b : Nat} {x : Value} (h : Oner w b x) (u : Value) : Oner (w.setCell ⟨b, 0, none⟩ u) b u :=
  ⟨World.cell?_setCell_same _ _ _ h.1, fun j => by rw [World.frozen?_setCell]; exact h.2 j⟩
theorem Oner.setFar {w : World} {b : Nat} {x : Value} (h : Oner w b x) {a : Addr} (ha : a.block ≠ b) (u : Value) : Oner (w.setCell a u) b x :=
  ⟨(World.cell?_setCell_other _ _ _ _ (fun e => ha (by cases e; rfl))).trans h.1, fun j => by rw [World.frozen?_setCell]; exact h.2 j⟩
theorem app_one {w w' : World} {o : Obj} {row : Option Nat} (hg : (w.alloc o).grownBy w' row) {b : Nat} {x : Value} (h : Oner w b x) (hne : some b ≠ row) : Oner w' b x :=
  ⟨app_cell hg h.1 hne, fun j => by
    have h1 := h.alloc o
    have hlt := World.block_lt_of_cell? (w.alloc o) ⟨b, 0, none⟩ h1.1
    exact (World.frozen?_of_block (w := w.alloc o) (a := ⟨b, j, none⟩) (hg.block b hlt hne)).trans (h1.2 j)⟩

end Go.Proofs.YtdpeanpmjhpblaaGreat

/- A box of one cell, outside of numbered blocks. No condition. -/
namespace Go.Proofs.YtdpeanpmjhpblaaGreat
open Go.RowKit
set_option linter.unusedVariables false

theorem Oner.outside {a b : World} {g lo hi : Nat} {x : Value} (h : Oner a g x) (ho : Outside (Ivl lo hi) a b) (hd : g < lo ∨ hi ≤ g) : Oner b g x := by
  have hn : ¬ Ivl lo hi g := fun hk => by have := hk.1; have := hk.2; omega
  exact ⟨ho.cell h.1 hn, fun j => (World.frozen?_of_block (w := a) (a := ⟨g, j, none⟩) (ho.block g (World.block_lt_of_cell? a ⟨g, 0, none⟩ h.1) hn)).trans (h.2 j)⟩

end Go.Proofs.YtdpeanpmjhpblaaGreat

/- What a law's walk carries from call to call: bindings of the law's own, in numbered blocks. No condition. -/
namespace Go.Proofs.YtdpeanpmjhpblaaGreat
open Go.RowKit
set_option linter.unusedVariables false

def OwnLt (w : World) (lo hi : Nat) (v : Value) (l : List Lt) : Prop := LtO w (Ivl lo hi) v l ∧ hi ≤ w.heap.size

theorem OwnLt.fresh {w w' : World} {v : Value} {l : List Lt} (h : LtO w' (Fresh w w') v l) : OwnLt w' w.heap.size w'.heap.size v l := ⟨h, Nat.le_refl _⟩
theorem OwnLt.freshAt {w w' : World} {v : Value} {l : List Lt} (h : LtO w' (Fresh w w') v l) {n : Nat} (e : w.heap.size = n) : OwnLt w' n w'.heap.size v l := e ▸ OwnLt.fresh h
theorem OwnLt.kept {w w' : World} {lo hi : Nat} {v : Value} {l : List Lt} (h : OwnLt w lo hi v l) (hb : Below w.heap.size w w') : OwnLt w' lo hi v l :=
  ⟨h.1.frame fun k hk => hb.block k (Nat.lt_of_lt_of_le hk.2 h.2), Nat.le_trans h.2 hb.size⟩
theorem OwnLt.read {w : World} {lo hi : Nat} {v : Value} {l : List Lt} (h : OwnLt w lo hi v l) : LtS w v l := h.1.read
theorem OwnLt.bound {w : World} {lo hi : Nat} {v : Value} {l : List Lt} (h : OwnLt w lo hi v l) : ∀ b, Ivl lo hi b → b < w.heap.size := fun _ hb => Nat.lt_of_lt_of_le hb.2 h.2
theorem OwnLt.outside {a b : World} {lo hi lo' hi' : Nat} {v : Value} {l : List Lt} (h : OwnLt a lo hi v l) (ho : Outside (Ivl lo' hi') a b) (hd : hi ≤ lo' ∨ hi' ≤ lo) : OwnLt b lo hi v l :=
  ⟨h.1.frame fun k hk => ho.block k (Nat.lt_of_lt_of_le hk.2 h.2) (fun hk' => by have := hk.1; have := hk.2; have := hk'.1; have := hk'.2; omega), Nat.le_trans h.2 ho.size⟩
theorem sumC_le_of {f g : Lt → Nat} : ∀ {l : List Lt}, (∀ d ∈ l, f d ≤ g d) → sumC f l ≤ sumC g l
  | [], _ => Nat.le_refl _
  | d :: r, h => by
    have h1 := h d List.mem_cons_self
    have h2 := sumC_le_of (l := r) (fun s hs => h s (List.mem_cons_of_mem _ hs))
    simp only [sumC]; omega
theorem sumC_plus2 (f : Lt → Nat) (l : List Lt) : sumC (fun d => f d + 2) l = sumC f l + 2 * l.length := by
  induction l with
  | nil => simp [sumC]
  | cons t r ih => simp only [sumC, List.length_cons, ih]; omega
theorem sumCn_wt (l : List Lt) : sumC Lt.n l ≤ 2 * wtC l := by
  have h := sumC_le_of (f := Lt.n) (g := fun d => Lt.wt d + 2) (l := l) (fun d _ => by have := Tm.sz_wt d.tm; unfold Lt.n Lt.wt; omega)
  rw [sumC_plus2] at h
  unfold wtC; omega

end Go.Proofs.YtdpeanpmjhpblaaGreat
