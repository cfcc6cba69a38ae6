/- Several texts in one: each says what it proves. No condition but theirs. -/
import Derived.Test.YtgpmdfhepanahaaGreatInts
import Derived.Test.YtgpmdfhepanahaaGreatMarkT
import Derived.Test.YtgpmdfhepanahaaGreatBd
import Derived.Test.YtgpmdfhepanahaaGreatOneX
import Derived.Test.YtgpmdfhepanahaaGreatLt
/- What a law's walk carries from call to call: terms and integers of the law's own, in numbered blocks. No condition. -/
namespace Go.Proofs.YtgpmdfhepanahaaGreat
open Go.RowKit
set_option linter.unusedVariables false

/-- The blocks from one number to another. -/
def Ivl (lo hi k : Nat) : Prop := lo ≤ k ∧ k < hi

def OwnI (w : World) (lo hi : Nat) (v : Value) (l : List Tm) : Prop := TmO w (Ivl lo hi) v l ∧ hi ≤ w.heap.size
def IntsI (w : World) (lo hi : Nat) (v : Value) (is : List Int) : Prop := IntsO w (Ivl lo hi) v is ∧ hi ≤ w.heap.size

theorem OwnI.fresh {w w' : World} {v : Value} {l : List Tm} (h : TmO w' (Fresh w w') v l) : OwnI w' w.heap.size w'.heap.size v l := ⟨h, Nat.le_refl _⟩
theorem IntsI.fresh {w w' : World} {v : Value} {is : List Int} (h : IntsO w' (Fresh w w') v is) : IntsI w' w.heap.size w'.heap.size v is := ⟨h, Nat.le_refl _⟩
theorem OwnI.freshAt {w w' : World} {v : Value} {l : List Tm} (h : TmO w' (Fresh w w') v l) {n : Nat} (e : w.heap.size = n) : OwnI w' n w'.heap.size v l := e ▸ OwnI.fresh h
theorem IntsI.freshAt {w w' : World} {v : Value} {is : List Int} (h : IntsO w' (Fresh w w') v is) {n : Nat} (e : w.heap.size = n) : IntsI w' n w'.heap.size v is := e ▸ IntsI.fresh h
theorem OwnI.kept {w w' : World} {lo hi : Nat} {v : Value} {l : List Tm} (h : OwnI w lo hi v l) (hb : Below w.heap.size w w') : OwnI w' lo hi v l :=
  ⟨h.1.frame fun k hk => hb.block k (Nat.lt_of_lt_of_le hk.2 h.2), Nat.le_trans h.2 hb.size⟩
theorem IntsI.kept {w w' : World} {lo hi : Nat} {v : Value} {is : List Int} (h : IntsI w lo hi v is) (hb : Below w.heap.size w w') : IntsI w' lo hi v is :=
  ⟨h.1.frame fun k hk => hb.block k (Nat.lt_of_lt_of_le hk.2 h.2), Nat.le_trans h.2 hb.size⟩
theorem OwnI.read {w : World} {lo hi : Nat} {v : Value} {l : List Tm} (h : OwnI w lo hi v l) : TmS w v l := h.1.read
theorem IntsI.read {w : World} {lo hi : Nat} {v : Value} {is : List Int} (h : IntsI w lo hi v is) : IntsV w v is := h.1.read
theorem OwnI.bound {w : World} {lo hi : Nat} {v : Value} {l : List Tm} (h : OwnI w lo hi v l) : ∀ b, Ivl lo hi b → b < w.heap.size := fun _ hb => Nat.lt_of_lt_of_le hb.2 h.2

theorem OwnI.outside {a b : World} {lo hi lo' hi' : Nat} {v : Value} {l : List Tm} (h : OwnI a lo hi v l) (ho : Outside (Ivl lo' hi') a b) (hd : hi ≤ lo' ∨ hi' ≤ lo) : OwnI b lo hi v l :=
  ⟨ho.own h.1 fun k hk => ⟨Nat.lt_of_lt_of_le hk.2 h.2, fun hk' => by have := hk.1; have := hk.2; have := hk'.1; have := hk'.2; omega⟩, Nat.le_trans h.2 ho.size⟩
theorem IntsI.outside {a b : World} {lo hi lo' hi' : Nat} {v : Value} {is : List Int} (h : IntsI a lo hi v is) (ho : Outside (Ivl lo' hi') a b) (hd : hi ≤ lo' ∨ hi' ≤ lo) : IntsI b lo hi v is :=
  ⟨h.1.frame fun k hk => ho.block k (Nat.lt_of_lt_of_le hk.2 h.2) (fun hk' => by have := hk.1; have := hk.2; have := hk'.1; have := hk'.2; omega), Nat.le_trans h.2 ho.size⟩
theorem Two.outside {a b : World} {g lo hi : Nat} {x y : Value} (h : Two a g x y) (ho : Outside (Ivl lo hi) a b) (hd : g < lo ∨ hi ≤ g) : Two b g x y :=
  ho.two h fun hk => by have := hk.1; have := hk.2; omega
theorem below_outside {w a b : World} {lo hi : Nat} (h : Below w.heap.size w a) (ho : Outside (Ivl lo hi) a b) (hd : w.heap.size ≤ lo) : Below w.heap.size w b :=
  ho.below h (Nat.le_refl _) fun k hk => Nat.le_trans hd hk.1

end Go.Proofs.YtgpmdfhepanahaaGreat

/- The laws' helpers that write marks into a list of bindings of the call's own and look for them again: contracts. -/
namespace Go.Proofs.YtgpmdfhepanahaaGreat
open Go.RowKit
set_option linter.unusedVariables false

def Bd.n (d : Bd) : Nat := 1 + d.tm.sz
theorem Bd.n_pos (d : Bd) : 2 ≤ d.n := by have := d.tm.sz_pos; unfold Bd.n; omega
def mkBd (k : Nat) (d : Bd) : Bd := ⟨markB k, mkT (k + 1) d.tm⟩
def mkBs (k : Nat) : List Bd → List Bd
  | [] => []
  | d :: r => mkBd k d :: mkBs (k + d.n) r
theorem mkBs_len : ∀ (k : Nat) (l : List Bd), (mkBs k l).length = l.length
  | _, [] => rfl
  | k, d :: r => by rw [mkBs, List.length_cons, mkBs_len, List.length_cons]
theorem mkBs_at : ∀ (l : List Bd) (k j : Nat) (d : Bd), l[j]? = some d → (mkBs k l)[j]? = some (mkBd (k + sumB Bd.n (l.take j)) d)
  | [], _, _, _, h => by cases h
  | a :: l, k, 0, t, h => by
    simp at h
    subst h
    rw [mkBs]; simp [sumB]
  | a :: l, k, j + 1, t, h => by
    rw [mkBs]
    have := mkBs_at l (k + a.n) j t (by simpa using h)
    simp [sumB]
    rw [this, Nat.add_assoc]
theorem mkBs_from {l : List Bd} {k j : Nat} {x : Bd} (h : (mkBs k l)[j]? = some x) : ∃ t, l[j]? = some t ∧ x = mkBd (k + sumB Bd.n (l.take j)) t := by
  have hj : j < l.length := by have := (List.getElem?_eq_some_iff.1 h).1; rwa [mkBs_len] at this
  have ht : l[j]? = some l[j] := List.getElem?_eq_getElem hj
  have := mkBs_at l k j _ ht
  rw [h] at this
  injection this with e
  exact ⟨_, ht, e⟩
theorem sumB_len (l : List Bd) : l.length ≤ sumB Bd.n l := by
  induction l with
  | nil => simp [sumB]
  | cons t r ih => have := Bd.n_pos t; simp [sumB]; omega

def upd {α : Type} (h : Nat → α) (i : Nat) (x : α) : Nat → α := fun j => if j = i then x else h j

/-- A row of bindings of the call's own, element by element. -/
structure RowG (w : World) (g : Nat) (f : Nat → Value) (Ss : Nat → Nat → Prop) (n : Nat) (vv nn : Nat → ByteArray) (aa : Nat → List Tm) : Prop where
  free : ∀ j, w.frozen? ⟨g, j, none⟩ = false
  var : ∀ j, j < n → w.cell? ⟨g, j * 3, none⟩ = some (.string (vv j))
  name : ∀ j, j < n → w.cell? ⟨g, j * 3 + 1, none⟩ = some (.string (nn j))
  arg : ∀ j, j < n → w.cell? ⟨g, j * 3 + 2, none⟩ = some (f j)
  own : ∀ j, j < n → TmO w (Ss j) (f j) (aa j)

theorem RowG.below {w w' : World} {g : Nat} {f : Nat → Value} {Ss : Nat → Nat → Prop} {n : Nat} {vv nn : Nat → ByteArray} {aa : Nat → List Tm} (h : RowG w g f Ss n vv nn aa) (hb : Below w.heap.size w w') (hp : 0 < n) (hs : ∀ j b, j < n → Ss j b → b < w.heap.size) : RowG w' g f Ss n vv nn aa := by
  have hg : g < w.heap.size := World.block_lt_of_cell? w _ (h.var 0 hp)
  exact ⟨fun j => (hb.frozen (p := ⟨g, j, none⟩) hg).trans (h.free j), fun j hj => carry_cell (h.var j hj) hb, fun j hj => carry_cell (h.name j hj) hb, fun j hj => carry_cell (h.arg j hj) hb,
    fun j hj => (h.own j hj).frame fun b hb' => hb.block b (hs j b hj hb')⟩
theorem RowG.setVar {w : World} {g : Nat} {f : Nat → Value} {Ss : Nat → Nat → Prop} {n : Nat} {vv nn : Nat → ByteArray} {aa : Nat → List Tm} (h : RowG w g f Ss n vv nn aa) {i : Nat} (hi : i < n) (hs : ∀ j, j < n → ¬ Ss j g) (x : ByteArray) :
    RowG (w.setCell ⟨g, i * 3, none⟩ (.string x)) g f Ss n (upd vv i x) nn aa := by
  refine ⟨fun j => by rw [World.frozen?_setCell]; exact h.free j, fun j hj => ?_, fun j hj => ?_, fun j hj => ?_, fun j hj => (h.own j hj).setCell (hs j hj) _⟩
  · unfold upd
    split
    · rename_i e; subst e; exact World.cell?_setCell_same _ _ _ (h.var j hj)
    · exact (World.cell?_setCell_other _ _ _ _ (by simp; try omega)).trans (h.var j hj)
  · exact (World.cell?_setCell_other _ _ _ _ (by simp; try omega)).trans (h.name j hj)
  · exact (World.cell?_setCell_other _ _ _ _ (by simp; try omega)).trans (h.arg j hj)
theorem RowG.setName {w : World} {g : Nat} {f : Nat → Value} {Ss : Nat → Nat → Prop} {n : Nat} {vv nn : Nat → ByteArray} {aa : Nat → List Tm} (h : RowG w g f Ss n vv nn aa) {i : Nat} (hi : i < n) (hs : ∀ j, j < n → ¬ Ss j g) (x : ByteArray) :
    RowG (w.setCell ⟨g, i * 3 + 1, none⟩ (.string x)) g f Ss n vv (upd nn i x) aa := by
  refine ⟨fun j => by rw [World.frozen?_setCell]; exact h.free j, fun j hj => ?_, fun j hj => ?_, fun j hj => ?_, fun j hj => (h.own j hj).setCell (hs j hj) _⟩
  · exact (World.cell?_setCell_other _ _ _ _ (by simp; try omega)).trans (h.var j hj)
  · unfold upd
    split
    · rename_i e; subst e; exact World.cell?_setCell_same _ _ _ (h.name j hj)
    · exact (World.cell?_setCell_other _ _ _ _ (by simp; try omega)).trans (h.name j hj)
  · exact (World.cell?_setCell_other _ _ _ _ (by simp; try omega)).trans (h.arg j hj)
theorem RowG.args {w w' : World} {g : Nat} {f : Nat → Value} {Ss : Nat → Nat → Prop} {n : Nat} {vv nn : Nat → ByteArray} {aa : Nat → List Tm} (h : RowG w g f Ss n vv nn aa) {i : Nat} (hi : i < n) (hs : ∀ j b, j < n → Ss j b → b < w.heap.size ∧ b ≠ g)
    (hdis : ∀ i j b, i < n → j < n → i ≠ j → Ss i b → Ss j b → False) {a' : List Tm} (ho : TmO w' (Ss i) (f i) a') (hout : Outside (Ss i) w w') : RowG w' g f Ss n vv nn (upd aa i a') := by
  have hgs : ¬ Ss i g := fun e => (hs i g hi e).2 rfl
  have hglt : g < w.heap.size := World.block_lt_of_cell? w _ (h.var i hi)
  refine ⟨fun j => ?_, fun j hj => hout.cell (h.var j hj) hgs, fun j hj => hout.cell (h.name j hj) hgs, fun j hj => hout.cell (h.arg j hj) hgs, fun j hj => ?_⟩
  · rw [World.frozen?_of_block (w := w) (a := ⟨g, j, none⟩) (hout.block g hglt hgs)]
    exact h.free j
  · unfold upd
    split
    · rename_i e; subst e; exact ho
    · rename_i e; exact hout.own (h.own j hj) (fun b hb => ⟨(hs j b hj hb).1, fun hb' => hdis j i b hj hi e hb hb'⟩)

/-- The names and arguments of a list's elements, the first i of them marked. -/
def mvv (l : List Bd) (k i : Nat) : Nat → ByteArray := fun j => if j < i then markB (k + sumB Bd.n (l.take j)) else (l.getD j default).var
def mnn (l : List Bd) (k i : Nat) : Nat → ByteArray := fun j => if j < i then markB (k + sumB Bd.n (l.take j) + 1) else (l.getD j default).tm.name
def maa (l : List Bd) (k i : Nat) : Nat → List Tm := fun j => if j < i then mkL (k + sumB Bd.n (l.take j) + 1 + 1) (l.getD j default).tm.args else (l.getD j default).tm.args
theorem upd_mvv (l : List Bd) (k i : Nat) : upd (mvv l k i) i (markB (k + sumB Bd.n (l.take i))) = mvv l k (i + 1) := by
  funext j
  unfold upd mvv
  by_cases h : j = i
  · subst h; rw [if_pos rfl, if_pos (by omega)]
  · rw [if_neg h]
    by_cases h2 : j < i
    · rw [if_pos h2, if_pos (by omega)]
    · rw [if_neg h2, if_neg (by omega)]
theorem upd_mnn (l : List Bd) (k i : Nat) : upd (mnn l k i) i (markB (k + sumB Bd.n (l.take i) + 1)) = mnn l k (i + 1) := by
  funext j
  unfold upd mnn
  by_cases h : j = i
  · subst h; rw [if_pos rfl, if_pos (by omega)]
  · rw [if_neg h]
    by_cases h2 : j < i
    · rw [if_pos h2, if_pos (by omega)]
    · rw [if_neg h2, if_neg (by omega)]
theorem upd_maa (l : List Bd) (k i : Nat) {d : Bd} (hd : l[i]? = some d) : upd (maa l k i) i (mkL (k + sumB Bd.n (l.take i) + 1 + 1) d.tm.args) = maa l k (i + 1) := by
  funext j
  unfold upd maa
  by_cases h : j = i
  · subst h; rw [if_pos rfl, if_pos (by omega), List.getD_eq_getElem?_getD, hd]; rfl
  · rw [if_neg h]
    by_cases h2 : j < i
    · rw [if_pos h2, if_pos (by omega)]
    · rw [if_neg h2, if_neg (by omega)]
theorem getD_of {l : List Bd} {i : Nat} {d : Bd} (hd : l[i]? = some d) : l.getD i default = d := by rw [List.getD_eq_getElem?_getD, hd]; rfl

def MRelB (w wr : World) (g : Nat) (f : Nat → Value) (Ss : Nat → Nat → Prop) (S : Nat → Prop) (l : List Bd) (k i : Nat) : Prop := RowG wr g f Ss l.length (mvv l k i) (mnn l k i) (maa l k i) ∧ Outside S w wr

def MarkBEnd (l : List Bd) (k : Nat) (v : Value) (S : Nat → Prop) (w : World) (e : Ending) (w' : World) : Prop :=
  e = .returned (.int .i64 (k + sumB Bd.n l : Nat)) ∧ BdO w' S v (mkBs k l) ∧ Outside S w w'

set_option maxHeartbeats 2000000 in
theorem markBs_any (l : List Bd) (k : Nat) (v : Value) (S : Nat → Prop) (w : World) (hv : BdO w S v l) (hS : ∀ b, S b → b < w.heap.size) (hk : 1 ≤ k) (hsz : k + sumB Bd.n l ≤ 100000000) (hlen : l.length ≤ 100000000) :
    Calls Tryz.prog 58 #[v, .int .i64 k] w (MarkBEnd l k v S w) := by
  have HSZ := Lib.hid (fun i => sumB_take Bd.n l i)
  rcases hv with ⟨a, c, rfl, rfl⟩ | ⟨g, c, f, Ss, rfl, hp, hSg, hc, hz, hat, hsub, hdis⟩
  · have HM : Hid (MarkBEnd [] k (.slice a 0 c) S w (.returned (.int .i64 k)) w) := Lib.hid ⟨by simp [sumB], .inl ⟨a, c, rfl, by rw [mkBs]⟩, Outside.refl _ _⟩
    go_enter Tryz.func58, Tryz.ntmps58
    go_wp2
    refine wp_loop_rounds 1 ?_
    rw [rounds_succ]
    go_wp2
    go_ret
    exact HM.out
  · have HS := Lib.hid hS
    have HSG := Lib.hid hSg
    have HSUB := Lib.hid hsub
    have HDIS := Lib.hid hdis
    have HNG : Hid (∀ j, j < l.length → ¬ Ss j g) := Lib.hid (fun j hj h => (hsub j g hj h).2 rfl)
    have HM0 : Hid (RowG w g f Ss l.length (mvv l k 0) (mnn l k 0) (maa l k 0)) := Lib.hid (by
      have h0 : ∀ j, j < l.length → l[j]? = some (l.getD j default) := fun j hj => by rw [List.getD_eq_getElem?_getD, List.getElem?_eq_getElem hj]; rfl
      exact ⟨hz, fun j hj => (hat j _ (h0 j hj)).1, fun j hj => (hat j _ (h0 j hj)).2.1, fun j hj => (hat j _ (h0 j hj)).2.2.1, fun j hj => (hat j _ (h0 j hj)).2.2.2⟩)
    clear hS hSg hz hat hsub hdis
    go_enter Tryz.func58, Tryz.ntmps58
    go_wp2
    go_loopw [1, 5] (fun kk i wr => ∃ j q : Nat, j ≤ l.length ∧ i = .int .i64 j ∧ kk = .int .i64 q ∧ q = k + sumB Bd.n (l.take j) ∧ MRelB w wr g f Ss S l k j) (fun _ i _ => l.length - (intOf i).toNat)
    case atStart => exact ⟨0, k, Nat.zero_le _, rfl, rfl, by simp [sumB], HM0.out, Outside.refl _ _⟩
    case round =>
      obtain ⟨j, q, hj, rfl, rfl, hq, hrel⟩ := hrel
      have HM := Lib.hid hrel.1
      have HO := Lib.hid hrel.2
      have HQ := Lib.hid hq
      clear hrel hq
      by_cases hlt : j < l.length
      · obtain ⟨t, ht⟩ : ∃ t, l[j]? = some t := ⟨_, List.getElem?_eq_getElem hlt⟩
        have HT := Lib.hid ht
        have HN := Lib.hid (sumB_next (f := Bd.n) ht)
        have HE : Hid (t.n = 2 + sumL Tm.sz t.tm.args) := Lib.hid (by unfold Bd.n; rw [t.tm.sz_eq]; omega)
        have hqb : q + t.n ≤ 100000000 := by have := HSZ.out (j + 1); have := HN.out; have := HQ.out; omega
        have hq1 : 1 ≤ q := by have := HQ.out; omega
        have hts : 2 ≤ t.n := Bd.n_pos t
        have C0 := Lib.hid (markText_any q wr hq1 (by omega))
        clear ht
        go_wp2_with fail
        refine C0.out.mono ?_
        rintro e w1 ⟨rfl, hb⟩
        have HLT1 : Hid (∀ j b, j < l.length → Ss j b → b < w1.heap.size) := Lib.hid (fun j b hj hb' => Nat.lt_of_lt_of_le (HS.out b (HSUB.out j b hj hb').1) (Nat.le_trans HO.out.size hb.size))
        have HM1 := Lib.hid (HM.out.below hb (by omega) (fun j b hj hb' => Nat.lt_of_lt_of_le (HS.out b (HSUB.out j b hj hb').1) HO.out.size))
        have HO1 : Hid (Outside S w w1) := Lib.hid (HO.out.trans (Outside.of_below hb))
        have c0 := HM1.out.var j hlt
        have c1 := HM1.out.name j hlt
        have c2 := HM1.out.arg j hlt
        have f0 := HM1.out.free (j * 3)
        obtain ⟨m, hm⟩ : ∃ m, m = markB q := ⟨_, rfl⟩
        rw [← hm]
        have HMM := Lib.hid hm
        have HM2 := Lib.hid (HM1.out.setVar hlt HNG.out m)
        have HO2 : Hid (Outside S w (w1.setCell ⟨g, j * 3, none⟩ (.string m))) := Lib.hid (HO1.out.trans (Outside.setCell _ _ _ HSG.out))
        clear hb hm
        go_wp2_with fail
        rw [show (q : Int) + 1 = ((q + 1 : Nat) : Int) by omega]
        refine (markText_any (q + 1) _ (by omega) (by omega)).mono ?_
        rintro e w2 ⟨rfl, hb⟩
        have HLT2 : Hid (∀ j b, j < l.length → Ss j b → b < w2.heap.size) := Lib.hid (fun j b hj hb' => Nat.lt_of_lt_of_le (HLT1.out j b hj hb') (by have := hb.size; rwa [size_setCell] at this))
        have HM3 := Lib.hid (HM2.out.below hb (by omega) (fun j b hj hb' => by rw [size_setCell]; exact HLT1.out j b hj hb'))
        have HO3 : Hid (Outside S w w2) := Lib.hid (HO2.out.trans (Outside.of_below hb))
        clear c0 c1 c2 f0
        have c1 := HM3.out.name j hlt
        have c2 := HM3.out.arg j hlt
        have f1 := HM3.out.free (j * 3 + 1)
        obtain ⟨m2, hm2⟩ : ∃ m, m = markB (q + 1) := ⟨_, rfl⟩
        rw [← hm2]
        have HMM2 := Lib.hid hm2
        have HM4 := Lib.hid (HM3.out.setName hlt HNG.out m2)
        have HO4 : Hid (Outside S w (w2.setCell ⟨g, j * 3 + 1, none⟩ (.string m2))) := Lib.hid (HO3.out.trans (Outside.setCell _ _ _ HSG.out))
        have c3 : (w2.setCell ⟨g, j * 3 + 1, none⟩ (.string m2)).cell? ⟨g, j * 3 + 2, none⟩ = some (f j) := HM4.out.arg j hlt
        have HOW : Hid (TmO (w2.setCell ⟨g, j * 3 + 1, none⟩ (.string m2)) (Ss j) (f j) t.tm.args) := Lib.hid (by
          have h1 := HM4.out.own j hlt
          unfold maa at h1
          rw [if_neg (by omega), getD_of HT.out] at h1
          exact h1)
        clear hb hm2
        have C1 := Lib.hid (markL_any t.tm.args (q + 1 + 1) (f j) (Ss j) _ HOW.out (fun b hb' => by rw [size_setCell]; exact HLT2.out j b hlt hb') (by omega) (by have := HE.out; omega) (by have := HE.out; have := sumL_len t.tm.args; omega))
        go_wp2_with fail
        rw [show (q : Int) + 1 + 1 = ((q + 1 + 1 : Nat) : Int) by omega]
        refine C1.out.mono ?_
        rintro e w3 ⟨rfl, ho2, hout⟩
        have HNX : Hid (MRelB w w3 g f Ss S l k (j + 1)) := Lib.hid ⟨by
            have h := HM4.out.args hlt (fun j b hj hb' => ⟨by rw [size_setCell]; exact HLT2.out j b hj hb', (HSUB.out j b hj hb').2⟩) HDIS.out ho2 hout
            rw [HMM.out, HMM2.out, HQ.out, upd_mvv, upd_mnn, upd_maa l k j HT.out] at h
            exact h, HO4.out.trans (hout.mono fun b hb' => (HSUB.out j b hlt hb').1)⟩
        have HQ2 : Hid (q + 1 + 1 + sumL Tm.sz t.tm.args = k + sumB Bd.n (l.take (j + 1))) := Lib.hid (by rw [HN.out]; have := HQ.out; have := HE.out; omega)
        generalize q + 1 + 1 + sumL Tm.sz t.tm.args = q2 at *
        clear ho2 hout c1 c2 c3 f1
        go_wp2
        go_roundw
        case rel => exact ⟨j + 1, q2, by omega, by go_num, rfl, HQ2.out, HNX.out⟩
        case measure => simp [intOf]; omega
      · have hje : j = l.length := by omega
        have HE : Hid (MarkBEnd l k (.slice (some ⟨g, 0, none⟩) l.length c) S w (.returned (.int .i64 q)) wr) := Lib.hid (by
          have hM := HM.out
          have hQ := HQ.out
          subst hje
          rw [sumB_all (Nat.le_refl _)] at hQ
          refine ⟨by rw [hQ], .inr ⟨g, c, f, Ss, by rw [mkBs_len], by rw [mkBs_len]; exact hp, HSG.out, by rw [mkBs_len]; exact hc, hM.free, fun i d hd => ?_, fun i b hi => HSUB.out i b (by rwa [mkBs_len] at hi), fun i j b hi hj => HDIS.out i j b (by rwa [mkBs_len] at hi) (by rwa [mkBs_len] at hj)⟩, HO.out⟩
          obtain ⟨s, hs, rfl⟩ := mkBs_from hd
          have hil := (List.getElem?_eq_some_iff.1 hs).1
          have h1 := hM.var i hil
          have h2 := hM.name i hil
          have h3 := hM.arg i hil
          have h4 := hM.own i hil
          unfold mvv at h1
          unfold mnn at h2
          unfold maa at h4
          rw [if_pos hil] at h1 h2 h4
          rw [getD_of hs] at h4
          exact ⟨h1, by rw [h2]; show _ = some (Value.string (mkT _ s.tm).name); rw [mkT_name], h3, by show TmO _ _ _ (mkT _ s.tm).args; rw [mkT_args]; exact h4⟩)
        clear hje
        go_wp2
        go_ret
        exact HE.out

set_option maxHeartbeats 400000 in
theorem markSub_any (l : List Bd) (k : Nat) (v : Value) (S : Nat → Prop) (w : World) (ho : BdO w S v l) (hS : ∀ b, S b → b < w.heap.size) (hk : 1 ≤ k) (hsz : k + sumB Bd.n l ≤ 100000000) :
    Calls Tryz.prog 24 #[.agg #[v], .int .i64 k] w (MarkBEnd l k v S w) := by
  obtain ⟨a, c, rfl⟩ := ho.read.is_slice
  have HO := Lib.hid ho
  have HS := Lib.hid hS
  have hl := sumB_len l
  clear ho hS
  go_enter Tryz.func24, Tryz.ntmps24
  go_wp2_with fail
  refine (markBs_any l k _ S _ (HO.out.frame fun b hb => ((Below.refl _ _).alloc (Nat.le_refl _) _).block b (HS.out b hb)) (fun b hb => by have := HS.out b hb; simp; omega) hk hsz (by omega)).mono ?_
  rintro e w' ⟨rfl, ho, hout⟩
  have HO2 := Lib.hid ho
  have HX : Hid (Outside S w w') := Lib.hid ((Outside.of_below ((Below.refl _ _).alloc (Nat.le_refl _) _)).trans hout)
  clear ho hout
  generalize hq : k + sumB Bd.n l = q
  have HQ := Lib.hid hq
  clear hq
  go_wp2
  go_ret
  exact ⟨ret_int (by rw [HQ.out]), HO2.out, HX.out⟩

end Go.Proofs.YtgpmdfhepanahaaGreat

/- A box of one cell, outside of numbered blocks. No condition. -/
namespace Go.Proofs.YtgpmdfhepanahaaGreat
open Go.RowKit
set_option linter.unusedVariables false

theorem Oner.outside {a b : World} {g lo hi : Nat} {x : Value} (h : Oner a g x) (ho : Outside (Ivl lo hi) a b) (hd : g < lo ∨ hi ≤ g) : Oner b g x := by
  have hn : ¬ Ivl lo hi g := fun hk => by have := hk.1; have := hk.2; omega
  exact ⟨ho.cell h.1 hn, fun j => (World.frozen?_of_block (w := a) (a := ⟨g, j, none⟩) (ho.block g (World.block_lt_of_cell? a ⟨g, 0, none⟩ h.1) hn)).trans (h.2 j)⟩

end Go.Proofs.YtgpmdfhepanahaaGreat

/- What a law's walk carries from call to call: bindings of the law's own, in numbered blocks. No condition. -/
namespace Go.Proofs.YtgpmdfhepanahaaGreat
open Go.RowKit
set_option linter.unusedVariables false

def OwnBd (w : World) (lo hi : Nat) (v : Value) (l : List Bd) : Prop := BdO w (Ivl lo hi) v l ∧ hi ≤ w.heap.size

theorem OwnBd.fresh {w w' : World} {v : Value} {l : List Bd} (h : BdO w' (Fresh w w') v l) : OwnBd w' w.heap.size w'.heap.size v l := ⟨h, Nat.le_refl _⟩
theorem OwnBd.freshAt {w w' : World} {v : Value} {l : List Bd} (h : BdO w' (Fresh w w') v l) {n : Nat} (e : w.heap.size = n) : OwnBd w' n w'.heap.size v l := e ▸ OwnBd.fresh h
theorem OwnBd.kept {w w' : World} {lo hi : Nat} {v : Value} {l : List Bd} (h : OwnBd w lo hi v l) (hb : Below w.heap.size w w') : OwnBd w' lo hi v l :=
  ⟨h.1.frame fun k hk => hb.block k (Nat.lt_of_lt_of_le hk.2 h.2), Nat.le_trans h.2 hb.size⟩
theorem OwnBd.read {w : World} {lo hi : Nat} {v : Value} {l : List Bd} (h : OwnBd w lo hi v l) : BdS w v l := h.1.read
theorem OwnBd.bound {w : World} {lo hi : Nat} {v : Value} {l : List Bd} (h : OwnBd w lo hi v l) : ∀ b, Ivl lo hi b → b < w.heap.size := fun _ hb => Nat.lt_of_lt_of_le hb.2 h.2
theorem OwnBd.outside {a b : World} {lo hi lo' hi' : Nat} {v : Value} {l : List Bd} (h : OwnBd a lo hi v l) (ho : Outside (Ivl lo' hi') a b) (hd : hi ≤ lo' ∨ hi' ≤ lo) : OwnBd b lo hi v l :=
  ⟨h.1.frame fun k hk => ho.block k (Nat.lt_of_lt_of_le hk.2 h.2) (fun hk' => by have := hk.1; have := hk.2; have := hk'.1; have := hk'.2; omega), Nat.le_trans h.2 ho.size⟩
theorem sumB_le_of {f g : Bd → Nat} : ∀ {l : List Bd}, (∀ d ∈ l, f d ≤ g d) → sumB f l ≤ sumB g l
  | [], _ => Nat.le_refl _
  | d :: r, h => by
    have h1 := h d List.mem_cons_self
    have h2 := sumB_le_of (l := r) (fun s hs => h s (List.mem_cons_of_mem _ hs))
    simp only [sumB]; omega
theorem sumB_plus2 (f : Bd → Nat) (l : List Bd) : sumB (fun d => f d + 2) l = sumB f l + 2 * l.length := by
  induction l with
  | nil => simp [sumB]
  | cons t r ih => simp only [sumB, List.length_cons, ih]; omega
theorem sumB_wt (l : List Bd) : sumB Bd.n l ≤ 2 * wtB l := by
  have h := sumB_le_of (f := Bd.n) (g := fun d => Bd.wt d + 2) (l := l) (fun d _ => by have := Tm.sz_wt d.tm; unfold Bd.n Bd.wt; omega)
  rw [sumB_plus2] at h
  unfold wtB; omega

end Go.Proofs.YtgpmdfhepanahaaGreat

/- The laws' helpers that write marks into a list of literals of the call's own and look for them again: contracts. -/
namespace Go.Proofs.YtgpmdfhepanahaaGreat
open Go.RowKit
set_option linter.unusedVariables false

/-- The mark of a sign. -/
def mk3 (q : Nat) : Bool := Int.tmod (q : Int) 3 == 0
theorem mk3_emod (q : Nat) : ((q : Int) % 3 == 0) = mk3 q := by unfold mk3; rw [Int.tmod_eq_emod_of_nonneg (by omega)]
def Lt.n (d : Lt) : Nat := 1 + d.tm.sz
theorem Lt.n_pos (d : Lt) : 2 ≤ d.n := by have := d.tm.sz_pos; unfold Lt.n; omega
def mkLt (k : Nat) (d : Lt) : Lt := ⟨mk3 k, mkT (k + 1) d.tm⟩
def mkLs (k : Nat) : List Lt → List Lt
  | [] => []
  | d :: r => mkLt k d :: mkLs (k + d.n) r
theorem mkLs_len : ∀ (k : Nat) (l : List Lt), (mkLs k l).length = l.length
  | _, [] => rfl
  | k, d :: r => by rw [mkLs, List.length_cons, mkLs_len, List.length_cons]
theorem mkLs_at : ∀ (l : List Lt) (k j : Nat) (d : Lt), l[j]? = some d → (mkLs k l)[j]? = some (mkLt (k + sumC Lt.n (l.take j)) d)
  | [], _, _, _, h => by cases h
  | a :: l, k, 0, t, h => by
    simp at h
    subst h
    rw [mkLs]; simp [sumC]
  | a :: l, k, j + 1, t, h => by
    rw [mkLs]
    have := mkLs_at l (k + a.n) j t (by simpa using h)
    simp [sumC]
    rw [this, Nat.add_assoc]
theorem mkLs_from {l : List Lt} {k j : Nat} {x : Lt} (h : (mkLs k l)[j]? = some x) : ∃ t, l[j]? = some t ∧ x = mkLt (k + sumC Lt.n (l.take j)) t := by
  have hj : j < l.length := by have := (List.getElem?_eq_some_iff.1 h).1; rwa [mkLs_len] at this
  have ht : l[j]? = some l[j] := List.getElem?_eq_getElem hj
  have := mkLs_at l k j _ ht
  rw [h] at this
  injection this with e
  exact ⟨_, ht, e⟩
theorem sumCn_len (l : List Lt) : l.length ≤ sumC Lt.n l := by
  induction l with
  | nil => simp [sumC]
  | cons t r ih => have := Lt.n_pos t; simp [sumC]; omega

def updL {α : Type} (h : Nat → α) (i : Nat) (x : α) : Nat → α := fun j => if j = i then x else h j

/-- A row of literals of the call's own, element by element. -/
structure RowGL (w : World) (g : Nat) (f : Nat → Value) (Ss : Nat → Nat → Prop) (n : Nat) (vv : Nat → Bool) (nn : Nat → ByteArray) (aa : Nat → List Tm) : Prop where
  free : ∀ j, w.frozen? ⟨g, j, none⟩ = false
  var : ∀ j, j < n → w.cell? ⟨g, j * 3, none⟩ = some (.bool (vv j))
  name : ∀ j, j < n → w.cell? ⟨g, j * 3 + 1, none⟩ = some (.string (nn j))
  arg : ∀ j, j < n → w.cell? ⟨g, j * 3 + 2, none⟩ = some (f j)
  own : ∀ j, j < n → TmO w (Ss j) (f j) (aa j)

theorem RowGL.below {w w' : World} {g : Nat} {f : Nat → Value} {Ss : Nat → Nat → Prop} {n : Nat} {vv : Nat → Bool} {nn : Nat → ByteArray} {aa : Nat → List Tm} (h : RowGL w g f Ss n vv nn aa) (hb : Below w.heap.size w w') (hp : 0 < n) (hs : ∀ j b, j < n → Ss j b → b < w.heap.size) : RowGL w' g f Ss n vv nn aa := by
  have hg : g < w.heap.size := World.block_lt_of_cell? w _ (h.var 0 hp)
  exact ⟨fun j => (hb.frozen (p := ⟨g, j, none⟩) hg).trans (h.free j), fun j hj => carry_cell (h.var j hj) hb, fun j hj => carry_cell (h.name j hj) hb, fun j hj => carry_cell (h.arg j hj) hb,
    fun j hj => (h.own j hj).frame fun b hb' => hb.block b (hs j b hj hb')⟩
theorem RowGL.setVar {w : World} {g : Nat} {f : Nat → Value} {Ss : Nat → Nat → Prop} {n : Nat} {vv : Nat → Bool} {nn : Nat → ByteArray} {aa : Nat → List Tm} (h : RowGL w g f Ss n vv nn aa) {i : Nat} (hi : i < n) (hs : ∀ j, j < n → ¬ Ss j g) (x : Bool) :
    RowGL (w.setCell ⟨g, i * 3, none⟩ (.bool x)) g f Ss n (updL vv i x) nn aa := by
  refine ⟨fun j => by rw [World.frozen?_setCell]; exact h.free j, fun j hj => ?_, fun j hj => ?_, fun j hj => ?_, fun j hj => (h.own j hj).setCell (hs j hj) _⟩
  · unfold updL
    split
    · rename_i e; subst e; exact World.cell?_setCell_same _ _ _ (h.var j hj)
    · exact (World.cell?_setCell_other _ _ _ _ (by simp; try omega)).trans (h.var j hj)
  · exact (World.cell?_setCell_other _ _ _ _ (by simp; try omega)).trans (h.name j hj)
  · exact (World.cell?_setCell_other _ _ _ _ (by simp; try omega)).trans (h.arg j hj)
theorem RowGL.setName {w : World} {g : Nat} {f : Nat → Value} {Ss : Nat → Nat → Prop} {n : Nat} {vv : Nat → Bool} {nn : Nat → ByteArray} {aa : Nat → List Tm} (h : RowGL w g f Ss n vv nn aa) {i : Nat} (hi : i < n) (hs : ∀ j, j < n → ¬ Ss j g) (x : ByteArray) :
    RowGL (w.setCell ⟨g, i * 3 + 1, none⟩ (.string x)) g f Ss n vv (updL nn i x) aa := by
  refine ⟨fun j => by rw [World.frozen?_setCell]; exact h.free j, fun j hj => ?_, fun j hj => ?_, fun j hj => ?_, fun j hj => (h.own j hj).setCell (hs j hj) _⟩
  · exact (World.cell?_setCell_other _ _ _ _ (by simp; try omega)).trans (h.var j hj)
  · unfold updL
    split
    · rename_i e; subst e; exact World.cell?_setCell_same _ _ _ (h.name j hj)
    · exact (World.cell?_setCell_other _ _ _ _ (by simp; try omega)).trans (h.name j hj)
  · exact (World.cell?_setCell_other _ _ _ _ (by simp; try omega)).trans (h.arg j hj)
theorem RowGL.args {w w' : World} {g : Nat} {f : Nat → Value} {Ss : Nat → Nat → Prop} {n : Nat} {vv : Nat → Bool} {nn : Nat → ByteArray} {aa : Nat → List Tm} (h : RowGL w g f Ss n vv nn aa) {i : Nat} (hi : i < n) (hs : ∀ j b, j < n → Ss j b → b < w.heap.size ∧ b ≠ g)
    (hdis : ∀ i j b, i < n → j < n → i ≠ j → Ss i b → Ss j b → False) {a' : List Tm} (ho : TmO w' (Ss i) (f i) a') (hout : Outside (Ss i) w w') : RowGL w' g f Ss n vv nn (updL aa i a') := by
  have hgs : ¬ Ss i g := fun e => (hs i g hi e).2 rfl
  have hglt : g < w.heap.size := World.block_lt_of_cell? w _ (h.var i hi)
  refine ⟨fun j => ?_, fun j hj => hout.cell (h.var j hj) hgs, fun j hj => hout.cell (h.name j hj) hgs, fun j hj => hout.cell (h.arg j hj) hgs, fun j hj => ?_⟩
  · rw [World.frozen?_of_block (w := w) (a := ⟨g, j, none⟩) (hout.block g hglt hgs)]
    exact h.free j
  · unfold updL
    split
    · rename_i e; subst e; exact ho
    · rename_i e; exact hout.own (h.own j hj) (fun b hb => ⟨(hs j b hj hb).1, fun hb' => hdis j i b hj hi e hb hb'⟩)

/-- The names and arguments of a list's elements, the first i of them marked. -/
def mvvL (l : List Lt) (k i : Nat) : Nat → Bool := fun j => if j < i then mk3 (k + sumC Lt.n (l.take j)) else (l.getD j default).var
def mnnL (l : List Lt) (k i : Nat) : Nat → ByteArray := fun j => if j < i then markB (k + sumC Lt.n (l.take j) + 1) else (l.getD j default).tm.name
def maaL (l : List Lt) (k i : Nat) : Nat → List Tm := fun j => if j < i then mkL (k + sumC Lt.n (l.take j) + 1 + 1) (l.getD j default).tm.args else (l.getD j default).tm.args
theorem updL_mvv (l : List Lt) (k i : Nat) : updL (mvvL l k i) i (mk3 (k + sumC Lt.n (l.take i))) = mvvL l k (i + 1) := by
  funext j
  unfold updL mvvL
  by_cases h : j = i
  · subst h; rw [if_pos rfl, if_pos (by omega)]
  · rw [if_neg h]
    by_cases h2 : j < i
    · rw [if_pos h2, if_pos (by omega)]
    · rw [if_neg h2, if_neg (by omega)]
theorem updL_mnn (l : List Lt) (k i : Nat) : updL (mnnL l k i) i (markB (k + sumC Lt.n (l.take i) + 1)) = mnnL l k (i + 1) := by
  funext j
  unfold updL mnnL
  by_cases h : j = i
  · subst h; rw [if_pos rfl, if_pos (by omega)]
  · rw [if_neg h]
    by_cases h2 : j < i
    · rw [if_pos h2, if_pos (by omega)]
    · rw [if_neg h2, if_neg (by omega)]
theorem updL_maa (l : List Lt) (k i : Nat) {d : Lt} (hd : l[i]? = some d) : updL (maaL l k i) i (mkL (k + sumC Lt.n (l.take i) + 1 + 1) d.tm.args) = maaL l k (i + 1) := by
  funext j
  unfold updL maaL
  by_cases h : j = i
  · subst h; rw [if_pos rfl, if_pos (by omega), List.getD_eq_getElem?_getD, hd]; rfl
  · rw [if_neg h]
    by_cases h2 : j < i
    · rw [if_pos h2, if_pos (by omega)]
    · rw [if_neg h2, if_neg (by omega)]
theorem getDL_of {l : List Lt} {i : Nat} {d : Lt} (hd : l[i]? = some d) : l.getD i default = d := by rw [List.getD_eq_getElem?_getD, hd]; rfl

def MRelC (w wr : World) (g : Nat) (f : Nat → Value) (Ss : Nat → Nat → Prop) (S : Nat → Prop) (l : List Lt) (k i : Nat) : Prop := RowGL wr g f Ss l.length (mvvL l k i) (mnnL l k i) (maaL l k i) ∧ Outside S w wr

def MarkCEnd (l : List Lt) (k : Nat) (v : Value) (S : Nat → Prop) (w : World) (e : Ending) (w' : World) : Prop :=
  e = .returned (.int .i64 (k + sumC Lt.n l : Nat)) ∧ LtO w' S v (mkLs k l) ∧ Outside S w w'

set_option maxHeartbeats 2000000 in
theorem markLs_any (l : List Lt) (k : Nat) (v : Value) (S : Nat → Prop) (w : World) (hv : LtO w S v l) (hS : ∀ b, S b → b < w.heap.size) (hk : 1 ≤ k) (hsz : k + sumC Lt.n l ≤ 100000000) (hlen : l.length ≤ 100000000) :
    Calls Tryz.prog 49 #[v, .int .i64 k] w (MarkCEnd l k v S w) := by
  have HSZ := Lib.hid (fun i => sumC_take Lt.n l i)
  rcases hv with ⟨a, c, rfl, rfl⟩ | ⟨g, c, f, Ss, rfl, hp, hSg, hc, hz, hat, hsub, hdis⟩
  · have HM : Hid (MarkCEnd [] k (.slice a 0 c) S w (.returned (.int .i64 k)) w) := Lib.hid ⟨by simp [sumC], .inl ⟨a, c, rfl, by rw [mkLs]⟩, Outside.refl _ _⟩
    go_enter Tryz.func49, Tryz.ntmps49
    go_wp2
    refine wp_loop_rounds 1 ?_
    rw [rounds_succ]
    go_wp2
    go_ret
    exact HM.out
  · have HS := Lib.hid hS
    have HSG := Lib.hid hSg
    have HSUB := Lib.hid hsub
    have HDIS := Lib.hid hdis
    have HNG : Hid (∀ j, j < l.length → ¬ Ss j g) := Lib.hid (fun j hj h => (hsub j g hj h).2 rfl)
    have HM0 : Hid (RowGL w g f Ss l.length (mvvL l k 0) (mnnL l k 0) (maaL l k 0)) := Lib.hid (by
      have h0 : ∀ j, j < l.length → l[j]? = some (l.getD j default) := fun j hj => by rw [List.getD_eq_getElem?_getD, List.getElem?_eq_getElem hj]; rfl
      exact ⟨hz, fun j hj => (hat j _ (h0 j hj)).1, fun j hj => (hat j _ (h0 j hj)).2.1, fun j hj => (hat j _ (h0 j hj)).2.2.1, fun j hj => (hat j _ (h0 j hj)).2.2.2⟩)
    clear hS hSg hz hat hsub hdis
    go_enter Tryz.func49, Tryz.ntmps49
    go_wp2
    go_loopw [1, 5] (fun kk i wr => ∃ j q : Nat, j ≤ l.length ∧ i = .int .i64 j ∧ kk = .int .i64 q ∧ q = k + sumC Lt.n (l.take j) ∧ MRelC w wr g f Ss S l k j) (fun _ i _ => l.length - (intOf i).toNat)
    case atStart => exact ⟨0, k, Nat.zero_le _, rfl, rfl, by simp [sumC], HM0.out, Outside.refl _ _⟩
    case round =>
      obtain ⟨j, q, hj, rfl, rfl, hq, hrel⟩ := hrel
      have HM := Lib.hid hrel.1
      have HO := Lib.hid hrel.2
      have HQ := Lib.hid hq
      clear hrel hq
      by_cases hlt : j < l.length
      · obtain ⟨t, ht⟩ : ∃ t, l[j]? = some t := ⟨_, List.getElem?_eq_getElem hlt⟩
        have HT := Lib.hid ht
        have HN := Lib.hid (sumC_next (f := Lt.n) ht)
        have HE : Hid (t.n = 2 + sumL Tm.sz t.tm.args) := Lib.hid (by unfold Lt.n; rw [t.tm.sz_eq]; omega)
        have hqb : q + t.n ≤ 100000000 := by have := HSZ.out (j + 1); have := HN.out; have := HQ.out; omega
        have hq1 : 1 ≤ q := by have := HQ.out; omega
        have hts : 2 ≤ t.n := Lt.n_pos t
        clear ht
        have HLT1 : Hid (∀ j b, j < l.length → Ss j b → b < wr.heap.size) := Lib.hid (fun j b hj hb' => Nat.lt_of_lt_of_le (HS.out b (HSUB.out j b hj hb').1) HO.out.size)
        have c0 := HM.out.var j hlt
        have c1 := HM.out.name j hlt
        have c2 := HM.out.arg j hlt
        have f0 := HM.out.free (j * 3)
        obtain ⟨m, hm⟩ : ∃ m, m = mk3 q := ⟨_, rfl⟩
        have hm1 : (Int.tmod (q : Int) 3 == 0) = m := by rw [hm]; rfl
        have hm3 : ((q : Int) % 3 == 0) = m := by rw [hm]; exact mk3_emod q
        have HMM := Lib.hid hm
        have HM2 := Lib.hid (HM.out.setVar hlt HNG.out m)
        have HO2 : Hid (Outside S w (wr.setCell ⟨g, j * 3, none⟩ (.bool m))) := Lib.hid (HO.out.trans (Outside.setCell _ _ _ HSG.out))
        clear hm
        go_wp2_with fail
        rw [show (q : Int) + 1 = ((q + 1 : Nat) : Int) by omega]
        refine (markText_any (q + 1) _ (by omega) (by omega)).mono ?_
        rintro e w2 ⟨rfl, hb⟩
        have HLT2 : Hid (∀ j b, j < l.length → Ss j b → b < w2.heap.size) := Lib.hid (fun j b hj hb' => Nat.lt_of_lt_of_le (HLT1.out j b hj hb') (by have := hb.size; rwa [size_setCell] at this))
        have HM3 := Lib.hid (HM2.out.below hb (by omega) (fun j b hj hb' => by rw [size_setCell]; exact HLT1.out j b hj hb'))
        have HO3 : Hid (Outside S w w2) := Lib.hid (HO2.out.trans (Outside.of_below hb))
        clear c0 c1 c2 f0 hm1 hm3
        have c1 := HM3.out.name j hlt
        have c2 := HM3.out.arg j hlt
        have f1 := HM3.out.free (j * 3 + 1)
        obtain ⟨m2, hm2⟩ : ∃ m, m = markB (q + 1) := ⟨_, rfl⟩
        rw [← hm2]
        have HMM2 := Lib.hid hm2
        have HM4 := Lib.hid (HM3.out.setName hlt HNG.out m2)
        have HO4 : Hid (Outside S w (w2.setCell ⟨g, j * 3 + 1, none⟩ (.string m2))) := Lib.hid (HO3.out.trans (Outside.setCell _ _ _ HSG.out))
        have c3 : (w2.setCell ⟨g, j * 3 + 1, none⟩ (.string m2)).cell? ⟨g, j * 3 + 2, none⟩ = some (f j) := HM4.out.arg j hlt
        have HOW : Hid (TmO (w2.setCell ⟨g, j * 3 + 1, none⟩ (.string m2)) (Ss j) (f j) t.tm.args) := Lib.hid (by
          have h1 := HM4.out.own j hlt
          unfold maaL at h1
          rw [if_neg (by omega), getDL_of HT.out] at h1
          exact h1)
        clear hb hm2
        have C1 := Lib.hid (markL_any t.tm.args (q + 1 + 1) (f j) (Ss j) _ HOW.out (fun b hb' => by rw [size_setCell]; exact HLT2.out j b hlt hb') (by omega) (by have := HE.out; omega) (by have := HE.out; have := sumL_len t.tm.args; omega))
        go_wp2_with fail
        rw [show (q : Int) + 1 + 1 = ((q + 1 + 1 : Nat) : Int) by omega]
        refine C1.out.mono ?_
        rintro e w3 ⟨rfl, ho2, hout⟩
        have HNX : Hid (MRelC w w3 g f Ss S l k (j + 1)) := Lib.hid ⟨by
            have h := HM4.out.args hlt (fun j b hj hb' => ⟨by rw [size_setCell]; exact HLT2.out j b hj hb', (HSUB.out j b hj hb').2⟩) HDIS.out ho2 hout
            rw [HMM.out, HMM2.out, HQ.out, updL_mvv, updL_mnn, updL_maa l k j HT.out] at h
            exact h, HO4.out.trans (hout.mono fun b hb' => (HSUB.out j b hlt hb').1)⟩
        have HQ2 : Hid (q + 1 + 1 + sumL Tm.sz t.tm.args = k + sumC Lt.n (l.take (j + 1))) := Lib.hid (by rw [HN.out]; have := HQ.out; have := HE.out; omega)
        generalize q + 1 + 1 + sumL Tm.sz t.tm.args = q2 at *
        clear ho2 hout c1 c2 c3 f1
        go_wp2
        go_roundw
        case rel => exact ⟨j + 1, q2, by omega, by go_num, rfl, HQ2.out, HNX.out⟩
        case measure => simp [intOf]; omega
      · have hje : j = l.length := by omega
        have HE : Hid (MarkCEnd l k (.slice (some ⟨g, 0, none⟩) l.length c) S w (.returned (.int .i64 q)) wr) := Lib.hid (by
          have hM := HM.out
          have hQ := HQ.out
          subst hje
          rw [sumC_all (Nat.le_refl _)] at hQ
          refine ⟨by rw [hQ], .inr ⟨g, c, f, Ss, by rw [mkLs_len], by rw [mkLs_len]; exact hp, HSG.out, by rw [mkLs_len]; exact hc, hM.free, fun i d hd => ?_, fun i b hi => HSUB.out i b (by rwa [mkLs_len] at hi), fun i j b hi hj => HDIS.out i j b (by rwa [mkLs_len] at hi) (by rwa [mkLs_len] at hj)⟩, HO.out⟩
          obtain ⟨s, hs, rfl⟩ := mkLs_from hd
          have hil := (List.getElem?_eq_some_iff.1 hs).1
          have h1 := hM.var i hil
          have h2 := hM.name i hil
          have h3 := hM.arg i hil
          have h4 := hM.own i hil
          unfold mvvL at h1
          unfold mnnL at h2
          unfold maaL at h4
          rw [if_pos hil] at h1 h2 h4
          rw [getDL_of hs] at h4
          exact ⟨h1, by rw [h2]; show _ = some (Value.string (mkT _ s.tm).name); rw [mkT_name], h3, by show TmO _ _ _ (mkT _ s.tm).args; rw [mkT_args]; exact h4⟩)
        clear hje
        go_wp2
        go_ret
        exact HE.out

set_option maxHeartbeats 400000 in
theorem markCl_any (l : List Lt) (k : Nat) (v : Value) (S : Nat → Prop) (w : World) (ho : LtO w S v l) (hS : ∀ b, S b → b < w.heap.size) (hk : 1 ≤ k) (hsz : k + sumC Lt.n l ≤ 100000000) :
    Calls Tryz.prog 18 #[.agg #[v], .int .i64 k] w (MarkCEnd l k v S w) := by
  obtain ⟨a, c, rfl⟩ := ho.read.is_slice
  have HO := Lib.hid ho
  have HS := Lib.hid hS
  have hl := sumCn_len l
  clear ho hS
  go_enter Tryz.func18, Tryz.ntmps18
  go_wp2_with fail
  refine (markLs_any l k _ S _ (HO.out.frame fun b hb => ((Below.refl _ _).alloc (Nat.le_refl _) _).block b (HS.out b hb)) (fun b hb => by have := HS.out b hb; simp; omega) hk hsz (by omega)).mono ?_
  rintro e w' ⟨rfl, ho, hout⟩
  have HO2 := Lib.hid ho
  have HX : Hid (Outside S w w') := Lib.hid ((Outside.of_below ((Below.refl _ _).alloc (Nat.le_refl _) _)).trans hout)
  clear ho hout
  generalize hq : k + sumC Lt.n l = q
  have HQ := Lib.hid hq
  clear hq
  go_wp2
  go_ret
  exact ⟨ret_int (by rw [HQ.out]), HO2.out, HX.out⟩

set_option maxHeartbeats 2000000 in
theorem heldLs_any (l : List Lt) (k : Nat) (v : Value) (w : World) (hv : LtS w v (mkLs k l)) (hk : 1 ≤ k) (hsz : k + sumC Lt.n l ≤ 100000000) (hlen : l.length ≤ 100000000) :
    Calls Tryz.prog 59 #[v, .int .i64 k] w fun e w' => e = .returned (.int .i64 (k + sumC Lt.n l : Nat)) ∧ Below w.heap.size w w' := by
  have HSZ := Lib.hid (fun i => sumC_take Lt.n l i)
  obtain ⟨a, c, rfl⟩ := hv.is_slice
  rw [mkLs_len] at hv ⊢
  have HV := Lib.hid hv
  clear hv
  go_enter Tryz.func59, Tryz.ntmps59
  go_wp2
  go_loopw [1, 5] (fun kk i wr => ∃ j q : Nat, j ≤ l.length ∧ i = .int .i64 j ∧ kk = .int .i64 q ∧ q = k + sumC Lt.n (l.take j) ∧ Below w.heap.size w wr) (fun _ i _ => l.length - (intOf i).toNat)
  case atStart => exact ⟨0, k, Nat.zero_le _, rfl, rfl, by simp [sumC], Below.refl _ _⟩
  case round =>
    obtain ⟨j, q, hj, rfl, rfl, hq, hbel⟩ := hrel
    have HB := Lib.hid hbel
    have HQ := Lib.hid hq
    clear hq hbel
    by_cases hlt : j < l.length
    · obtain ⟨t, ht⟩ : ∃ t, l[j]? = some t := ⟨_, List.getElem?_eq_getElem hlt⟩
      have HT := Lib.hid ht
      have HN := Lib.hid (sumC_next (f := Lt.n) ht)
      have HE : Hid (t.n = 2 + sumL Tm.sz t.tm.args) := Lib.hid (by unfold Lt.n; rw [t.tm.sz_eq]; omega)
      have hqb : q + t.n ≤ 100000000 := by have := HSZ.out (j + 1); have := HN.out; have := HQ.out; omega
      have hq1 : 1 ≤ q := by have := HQ.out; omega
      have hts : 2 ≤ t.n := Lt.n_pos t
      obtain ⟨b, off, rfl, va, c0, c1, c2, hva⟩ := HV.out.get (mkLs_at l k j t ht)
      have c0 : w.cell? ⟨b, off + j * 3, none⟩ = some (.bool (mk3 q)) := by rw [HQ.out]; exact c0
      have c1 : w.cell? ⟨b, off + j * 3 + 1, none⟩ = some (.string (markB (q + 1))) := by rw [HQ.out]; rw [c1]; show some (Value.string (mkT _ t.tm).name) = _; rw [mkT_name]
      have hva : TmS w va (mkL (q + 1 + 1) t.tm.args) := by rw [HQ.out]; have := hva; unfold mkLt at this; simp only [mkT_args] at this; exact this
      obtain ⟨m, hm⟩ : ∃ m, m = mk3 q := ⟨_, rfl⟩
      rw [← hm] at c0
      have hm1 : (Int.tmod (q : Int) 3 == 0) = m := by rw [hm]; rfl
      have hm3 : ((q : Int) % 3 == 0) = m := by rw [hm]; exact mk3_emod q
      have hmm : (m != m) = false := by simp
      obtain ⟨m2, hm2⟩ : ∃ m, m = markB (q + 1) := ⟨_, rfl⟩
      rw [← hm2] at c1
      have C1 : Hid (∀ W : World, Calls Tryz.prog 77 #[.int .i64 ((q : Int) + 1)] W fun e w' => e = .returned (.string m2) ∧ Below W.heap.size W w') := Lib.hid (fun W => by
        rw [hm2, show (q : Int) + 1 = ((q + 1 : Nat) : Int) by omega]; exact markText_any (q + 1) W (by omega) (by omega))
      have c0' := carry_cell c0 HB.out
      have c1' := carry_cell c1 HB.out
      have c2' := carry_cell c2 HB.out
      have HVA := Lib.hid hva
      have hB0 : Below wr.heap.size wr wr.drew := (Below.refl _ _).drew
      clear hm hm2 ht c0 c1 c2 hva
      go_wp2_with fail
      go_region_held3 (fun w' => w'.cell? ⟨b, off + j * 3 + 1, none⟩ = some (.string m2) ∧ w'.cell? ⟨b, off + j * 3 + 2, none⟩ = some va ∧ Below wr.heap.size wr w') (first | exact ⟨by assumption, by assumption, by assumption⟩ | go_keep) (first | (go_at_call 77; refine (C1.out _).mono ?_; rintro e w8 ⟨rfl, hb⟩; have e1 : w8.cell? ⟨b, off + j * 3 + 1, none⟩ = some (.string m2) := carry_cell' hb (by assumption); have e2 : w8.cell? ⟨b, off + j * 3 + 2, none⟩ = some va := carry_cell' hb (by assumption); have hB8 := carry_below hB0 (Nat.le_refl _) hb; clear hb))
      have HB8 := Lib.hid (carry_below HB.out (Nat.le_refl _) hB8)
      clear hB8 hB0
      go_wp2_with fail
      rw [show (q : Int) + 1 + 1 = ((q + 1 + 1 : Nat) : Int) by omega]
      refine (heldL_any t.tm.args (q + 1 + 1) va _ (HVA.out.kept HB8.out) (by omega) (by have := HE.out; omega) (by have := HE.out; have := sumL_len t.tm.args; omega)).mono ?_
      rintro e w7 ⟨rfl, hb⟩
      have HB7 := Lib.hid (carry_below HB8.out (Nat.le_refl _) hb)
      have HQ2 : Hid (q + 1 + 1 + sumL Tm.sz t.tm.args = k + sumC Lt.n (l.take (j + 1))) := Lib.hid (by rw [HN.out]; have := HQ.out; have := HE.out; omega)
      clear hb
      generalize q + 1 + 1 + sumL Tm.sz t.tm.args = q2 at *
      go_wp2
      go_roundw
      case rel => exact ⟨j + 1, q2, by omega, by go_num, rfl, HQ2.out, HB7.out⟩
      case measure => simp [intOf]; omega
    · have hje : j = l.length := by omega
      have HE : Hid ((q : Int) = (k + sumC Lt.n l : Nat)) := Lib.hid (by
        have hQ := HQ.out
        subst hje
        rw [sumC_all (Nat.le_refl _)] at hQ
        rw [hQ])
      clear hje
      go_wp2
      go_ret
      exact ⟨ret_int HE.out, HB.out⟩

set_option maxHeartbeats 400000 in
theorem heldCl_any (l : List Lt) (k : Nat) (v : Value) (w : World) (hv : LtS w v (mkLs k l)) (hk : 1 ≤ k) (hsz : k + sumC Lt.n l ≤ 100000000) :
    Calls Tryz.prog 25 #[.agg #[v], .int .i64 k] w fun e w' => e = .returned (.int .i64 (k + sumC Lt.n l : Nat)) ∧ Below w.heap.size w w' := by
  obtain ⟨a, c, rfl⟩ := hv.is_slice
  have HV := Lib.hid hv
  have hl := sumCn_len l
  clear hv
  go_enter Tryz.func25, Tryz.ntmps25
  go_wp2_with fail
  refine (heldLs_any l k _ _ (HV.out.alloc _) hk hsz (by omega)).mono ?_
  rintro e w' ⟨rfl, hb⟩
  have HB := Lib.hid (carry_below ((Below.refl w.heap.size w).alloc (Nat.le_refl _) _) (Nat.le_refl _) hb)
  clear hb
  generalize hq : k + sumC Lt.n l = q
  have HQ := Lib.hid hq
  clear hq
  go_wp2
  go_ret
  exact ⟨ret_int (by rw [HQ.out]), HB.out⟩

end Go.Proofs.YtgpmdfhepanahaaGreat

/- What a law's walk carries from call to call: bindings of the law's own, in numbered blocks. No condition. -/
namespace Go.Proofs.YtgpmdfhepanahaaGreat
open Go.RowKit
set_option linter.unusedVariables false

def OwnLt (w : World) (lo hi : Nat) (v : Value) (l : List Lt) : Prop := LtO w (Ivl lo hi) v l ∧ hi ≤ w.heap.size

theorem OwnLt.fresh {w w' : World} {v : Value} {l : List Lt} (h : LtO w' (Fresh w w') v l) : OwnLt w' w.heap.size w'.heap.size v l := ⟨h, Nat.le_refl _⟩
theorem OwnLt.freshAt {w w' : World} {v : Value} {l : List Lt} (h : LtO w' (Fresh w w') v l) {n : Nat} (e : w.heap.size = n) : OwnLt w' n w'.heap.size v l := e ▸ OwnLt.fresh h
theorem OwnLt.kept {w w' : World} {lo hi : Nat} {v : Value} {l : List Lt} (h : OwnLt w lo hi v l) (hb : Below w.heap.size w w') : OwnLt w' lo hi v l :=
  ⟨h.1.frame fun k hk => hb.block k (Nat.lt_of_lt_of_le hk.2 h.2), Nat.le_trans h.2 hb.size⟩
theorem OwnLt.read {w : World} {lo hi : Nat} {v : Value} {l : List Lt} (h : OwnLt w lo hi v l) : LtS w v l := h.1.read
theorem OwnLt.bound {w : World} {lo hi : Nat} {v : Value} {l : List Lt} (h : OwnLt w lo hi v l) : ∀ b, Ivl lo hi b → b < w.heap.size := fun _ hb => Nat.lt_of_lt_of_le hb.2 h.2
theorem OwnLt.outside {a b : World} {lo hi lo' hi' : Nat} {v : Value} {l : List Lt} (h : OwnLt a lo hi v l) (ho : Outside (Ivl lo' hi') a b) (hd : hi ≤ lo' ∨ hi' ≤ lo) : OwnLt b lo hi v l :=
  ⟨h.1.frame fun k hk => ho.block k (Nat.lt_of_lt_of_le hk.2 h.2) (fun hk' => by have := hk.1; have := hk.2; have := hk'.1; have := hk'.2; omega), Nat.le_trans h.2 ho.size⟩
theorem sumC_le_of {f g : Lt → Nat} : ∀ {l : List Lt}, (∀ d ∈ l, f d ≤ g d) → sumC f l ≤ sumC g l
  | [], _ => Nat.le_refl _
  | d :: r, h => by
    have h1 := h d List.mem_cons_self
    have h2 := sumC_le_of (l := r) (fun s hs => h s (List.mem_cons_of_mem _ hs))
    simp only [sumC]; omega
theorem sumC_plus2 (f : Lt → Nat) (l : List Lt) : sumC (fun d => f d + 2) l = sumC f l + 2 * l.length := by
  induction l with
  | nil => simp [sumC]
  | cons t r ih => simp only [sumC, List.length_cons, ih]; omega
theorem sumCn_wt (l : List Lt) : sumC Lt.n l ≤ 2 * wtC l := by
  have h := sumC_le_of (f := Lt.n) (g := fun d => Lt.wt d + 2) (l := l) (fun d _ => by have := Tm.sz_wt d.tm; unfold Lt.n Lt.wt; omega)
  rw [sumC_plus2] at h
  unfold wtC; omega

end Go.Proofs.YtgpmdfhepanahaaGreat
