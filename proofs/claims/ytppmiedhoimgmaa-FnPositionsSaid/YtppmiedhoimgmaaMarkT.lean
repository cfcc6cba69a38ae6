/- The laws' helpers that write marks into a term of the call's own and look for them again: contracts. -/
import Derived.Test.YtppmiedhoimgmaaTmO
import Derived.Test.YtppmiedhoimgmaaTmV
import Derived.Test.YtppmiedhoimgmaaEq
namespace Go.Proofs.Ytppmiedhoimgmaa
open Go.RowKit
set_option linter.unusedVariables false

/-- The decimal digits of a positive number; none of 0. -/
def mkDig (n : Nat) : List UInt8 :=
  if _h : n = 0 then [] else mkDig (n / 10) ++ [UInt8.ofNat (48 + n % 10)]
termination_by n
decreasing_by omega

def markB (n : Nat) : ByteArray := ⟨(109 :: mkDig n).toArray⟩

set_option maxRecDepth 100000 in
set_option maxHeartbeats 1000000 in
theorem markText_any (n : Nat) (w : World) (h1 : 1 ≤ n) (h2 : n ≤ 1000000000) :
    Calls Try.prog 147 #[.int .i64 (n : Int)] w fun e w' => e = .returned (.string (markB n)) ∧ Below w.heap.size w w' := by
  have hn : ¬ ((n : Int) ≤ 0) := by omega
  go_enter Try.func147, Try.ntmps147
  go_wp2
  go_loopw [0, 3] (fun k o wr => ∃ (m : Nat) (t : ByteArray), k = .int .i64 (m : Int) ∧ o = .string t ∧ t.size + m ≤ n ∧ mkDig m ++ t.data.toList = mkDig n ∧ Below w.heap.size w wr) (fun k _ _ => (intOf k).toNat)
  case atStart => exact ⟨n, ⟨#[]⟩, rfl, rfl, by show 0 + n ≤ n; omega, by simp, Below.refl _ _⟩
  case round =>
    obtain ⟨m, t, rfl, rfl, htz, heq, hbel⟩ := hrel
    have HE : Hid (mkDig m ++ t.data.toList = mkDig n) := Lib.hid heq
    have HB : Hid (Below w.heap.size w wr) := Lib.hid hbel
    clear heq hbel
    by_cases h0 : m = 0
    · have h0' : ¬ ((0 : Int) < (m : Int)) := by omega
      have HD : Hid (Ending.returned (.string ((ByteArray.mk #[109]) ++ t)) = .returned (.string (markB n))) := Lib.hid (by
        have h := HE.out
        rw [h0] at h
        rw [mkDig.eq_def 0] at h
        simp at h
        congr 2
        apply ByteArray.ext
        simp [markB, ← h])
      clear h0
      go_wp2
      go_ret
      exact ⟨HD.out, HB.out⟩
    · have h0' : (0 : Int) < (m : Int) := by omega
      obtain ⟨x, hx⟩ : ∃ x : UInt8, x = UInt8.ofNat (48 + m % 10) := ⟨_, rfl⟩
      have hxn : (x.toNat : Int) = 48 + (m : Int) % 10 := by
        have e : x.toNat = 48 + m % 10 := by rw [hx, UInt8.toNat_ofNat']; omega
        omega
      have HG : Hid (mkDig (m / 10) ++ (ByteArray.mk #[x] ++ t).data.toList = mkDig n) := Lib.hid (by
        have h := HE.out
        rw [mkDig.eq_def m, dif_neg h0, ← hx] at h
        rw [← h]; simp)
      have hcv : (convert 22 9 (.slice (some ⟨wr.heap.size, 0, none⟩) 1 1)).run Try.prog (wr.alloc (.cells #[.int .u8 (48 + (m : Int) % 10)] 5)) = .ok (.string ⟨#[x]⟩) (wr.alloc (.cells #[.int .u8 (48 + (m : Int) % 10)] 5)) := by
        have h := run_convert_bytes_back (P := Try.prog) (wr.alloc (.cells #[.int .u8 (48 + (m : Int) % 10)] 5)) 22 9 5 ⟨wr.heap.size, 0, none⟩ 1 [x] Try.underlying22 Try.underlying5 Try.underlying9 (fun j hj => by
          have e : j = 0 := by simpa using hj
          subst e
          rw [show [x][0] = x from rfl, hxn]
          simp [Addr.add])
        exact h
      clear h0 hx hxn
      go_wp2
      go_roundw
      case rel => exact ⟨m / 10, _, by go_num, rfl, by rw [ByteArray.size_append]; show 1 + t.size + m / 10 ≤ n; omega, HG.out, HB.out.alloc HB.out.size _⟩
      case measure => simp [intOf]; omega


/-- Outside S nothing that was there has changed. -/
structure Outside (S : Nat → Prop) (w w' : World) : Prop where
  os : w'.os = w.os
  tape : w'.tape = w.tape
  output : w'.output = w.output
  size : w.heap.size ≤ w'.heap.size
  block : ∀ k, k < w.heap.size → ¬ S k → w'.heap[k]? = w.heap[k]?

theorem Outside.refl (S : Nat → Prop) (w : World) : Outside S w w := ⟨rfl, rfl, rfl, Nat.le_refl _, fun _ _ _ => rfl⟩
theorem Outside.trans {S : Nat → Prop} {a b c : World} (h : Outside S a b) (k : Outside S b c) : Outside S a c :=
  ⟨k.os.trans h.os, k.tape.trans h.tape, k.output.trans h.output, Nat.le_trans h.size k.size, fun i hi hs => (k.block i (Nat.lt_of_lt_of_le hi h.size) hs).trans (h.block i hi hs)⟩
theorem Outside.mono {S S' : Nat → Prop} {a b : World} (h : Outside S a b) (hs : ∀ k, S k → S' k) : Outside S' a b :=
  ⟨h.os, h.tape, h.output, h.size, fun i hi hn => h.block i hi (fun e => hn (hs i e))⟩
theorem Outside.of_below {S : Nat → Prop} {a b : World} (h : Below a.heap.size a b) : Outside S a b := ⟨h.os, h.tape, h.output, h.size, fun i hi _ => h.block i hi⟩
theorem Outside.setCell {S : Nat → Prop} (w : World) (a : Addr) (u : Value) (ha : S a.block) : Outside S w (w.setCell a u) :=
  ⟨rfl, rfl, rfl, by simp [World.setCell], fun k _ hn => Below.heap_setCell _ _ _ _ (fun e => hn (e ▸ ha))⟩
theorem Outside.below {S : Nat → Prop} {B : Nat} {w0 a b : World} (h : Outside S a b) (hb : Below B w0 a) (hB : B ≤ w0.heap.size) (hs : ∀ k, S k → B ≤ k) : Below B w0 b :=
  hb.trans ⟨h.os, h.tape, h.output, h.size, fun k hk => h.block k (by have := hb.size; omega) (fun e => by have := hs k e; omega)⟩
theorem Outside.cell {S : Nat → Prop} {a b : World} (h : Outside S a b) {p : Addr} {v : Value} (hc : a.cell? p = some v) (hn : ¬ S p.block) : b.cell? p = some v :=
  (World.cell?_of_block (w := a) (h.block p.block (World.block_lt_of_cell? a p hc) hn)).trans hc
theorem Outside.two {S : Nat → Prop} {a b : World} (h : Outside S a b) {g : Nat} {x y : Value} (ht : Two a g x y) (hn : ¬ S g) : Two b g x y :=
  ⟨h.cell ht.1 hn, h.cell ht.2.1 hn, fun j => (World.frozen?_of_block (w := a) (a := ⟨g, j, none⟩) (h.block g (World.block_lt_of_cell? a ⟨g, 0, none⟩ ht.1) hn)).trans (ht.2.2 j)⟩
theorem Outside.own {S S' : Nat → Prop} {a b : World} (h : Outside S a b) {v : Value} {l : List Tm} (ho : TmO a S' v l) (hs : ∀ k, S' k → k < a.heap.size ∧ ¬ S k) : TmO b S' v l :=
  ho.frame fun k hk => h.block k (hs k hk).1 (hs k hk).2

/-- A slice of terms lies in the blocks of a set: what is not in the set may change. -/
theorem Outside.read {S : Nat → Prop} {a b : World} (h : Outside S a b) {w0 : World} {v : Value} {l : List Tm} (ht : TmS w0 v l) (hb : Below w0.heap.size w0 a) (hs : ∀ k, S k → w0.heap.size ≤ k) : TmS b v l :=
  ht.kept (h.below hb (Nat.le_refl _) hs)

mutual
/-- The term with its names replaced by marks from a number on. -/
def mkT (k : Nat) : Tm → Tm
  | .node _ l => .node (markB k) (mkL (k + 1) l)
def mkL (k : Nat) : List Tm → List Tm
  | [] => []
  | t :: r => mkT k t :: mkL (k + t.sz) r
end

theorem mkT_name (k : Nat) (t : Tm) : (mkT k t).name = markB k := by cases t; rw [mkT]; rfl
theorem mkT_args (k : Nat) (t : Tm) : (mkT k t).args = mkL (k + 1) t.args := by cases t; rw [mkT]; rfl
theorem mkL_len : ∀ (k : Nat) (l : List Tm), (mkL k l).length = l.length
  | _, [] => by rw [mkL]
  | k, t :: r => by rw [mkL, List.length_cons, mkL_len, List.length_cons]
theorem mkL_at : ∀ (l : List Tm) (k j : Nat) (t : Tm), l[j]? = some t → (mkL k l)[j]? = some (mkT (k + sumL Tm.sz (l.take j)) t)
  | [], _, _, _, h => by cases h
  | a :: l, k, 0, t, h => by
    simp at h
    subst h
    rw [mkL]; simp [sumL]
  | a :: l, k, j + 1, t, h => by
    rw [mkL]
    have := mkL_at l (k + a.sz) j t h
    simp [sumL]
    rw [this, Nat.add_assoc]
theorem mkL_from {l : List Tm} {k j : Nat} {x : Tm} (h : (mkL k l)[j]? = some x) : ∃ t, l[j]? = some t ∧ x = mkT (k + sumL Tm.sz (l.take j)) t := by
  have hj : j < l.length := by have := (List.getElem?_eq_some_iff.1 h).1; rwa [mkL_len] at this
  have ht : l[j]? = some l[j] := List.getElem?_eq_getElem hj
  have := mkL_at l k j _ ht
  rw [h] at this
  injection this with e
  exact ⟨_, ht, e⟩

theorem sumL_len (l : List Tm) : l.length ≤ sumL Tm.sz l := by
  induction l with
  | nil => simp [sumL]
  | cons t r ih => have := Tm.sz_pos t; simp [sumL]; omega

/-- What the marking loop knows after i elements of a row of its own. -/
structure RowM (w : World) (g : Nat) (f : Nat → Value) (Ss : Nat → Nat → Prop) (l : List Tm) (k i : Nat) : Prop where
  free : ∀ j, w.frozen? ⟨g, j, none⟩ = false
  name : ∀ j t, l[j]? = some t → w.cell? ⟨g, j * 2, none⟩ = some (.string (if j < i then markB (k + sumL Tm.sz (l.take j)) else t.name))
  arg : ∀ j t, l[j]? = some t → w.cell? ⟨g, j * 2 + 1, none⟩ = some (f j)
  own : ∀ j t, l[j]? = some t → TmO w (Ss j) (f j) (if j < i then mkL (k + sumL Tm.sz (l.take j) + 1) t.args else t.args)

theorem RowM.below {w w' : World} {g : Nat} {f : Nat → Value} {Ss : Nat → Nat → Prop} {l : List Tm} {k i : Nat} (h : RowM w g f Ss l k i) (hb : Below w.heap.size w w') (hp : 0 < l.length) (hs : ∀ j b, j < l.length → Ss j b → b < w.heap.size) : RowM w' g f Ss l k i := by
  have hg : g < w.heap.size := World.block_lt_of_cell? w _ (h.arg 0 _ (List.getElem?_eq_getElem hp))
  exact ⟨fun j => (hb.frozen (p := ⟨g, j, none⟩) hg).trans (h.free j), fun j t hj => carry_cell (h.name j t hj) hb, fun j t hj => carry_cell (h.arg j t hj) hb,
    fun j t hj => (h.own j t hj).frame fun b hb' => hb.block b (hs j b (List.getElem?_eq_some_iff.1 hj).1 hb')⟩

/-- The name's cell of element i is written, and its arguments are marked. -/
theorem RowM.next {w w' : World} {g : Nat} {f : Nat → Value} {Ss : Nat → Nat → Prop} {l : List Tm} {k i : Nat} {t : Tm} (h : RowM w g f Ss l k i) (hi : l[i]? = some t) (hs : ∀ j b, j < l.length → Ss j b → b < w.heap.size ∧ b ≠ g)
    (hdis : ∀ i j b, i < l.length → j < l.length → i ≠ j → Ss i b → Ss j b → False) (ho : TmO w' (Ss i) (f i) (mkL (k + sumL Tm.sz (l.take i) + 1) t.args))
    (hout : Outside (Ss i) (w.setCell ⟨g, i * 2, none⟩ (.string (markB (k + sumL Tm.sz (l.take i))))) w') : RowM w' g f Ss l k (i + 1) := by
  have hil : i < l.length := (List.getElem?_eq_some_iff.1 hi).1
  have hgs : ¬ Ss i g := fun e => (hs i g hil e).2 rfl
  have hc := h.name i t hi
  have hglt : g < w.heap.size := World.block_lt_of_cell? w _ hc
  refine ⟨fun j => ?_, fun j s hj => ?_, fun j s hj => ?_, fun j s hj => ?_⟩
  · have e := hout.block g (by rw [size_setCell]; exact hglt) hgs
    rw [World.frozen?_of_block (w := w.setCell ⟨g, i * 2, none⟩ (.string (markB (k + sumL Tm.sz (l.take i))))) (a := ⟨g, j, none⟩) e, World.frozen?_setCell]
    exact h.free j
  · by_cases e : j = i
    · subst e
      rw [if_pos (by omega)]
      exact hout.cell (World.cell?_setCell_same _ _ _ hc) hgs
    · have h1 := h.name j s hj
      have h2 : (w.setCell ⟨g, i * 2, none⟩ (.string (markB (k + sumL Tm.sz (l.take i))))).cell? ⟨g, j * 2, none⟩ = some (.string (if j < i then markB (k + sumL Tm.sz (l.take j)) else s.name)) :=
        (World.cell?_setCell_other _ _ _ _ (by simp; try omega)).trans h1
      have h3 := hout.cell h2 hgs
      by_cases e2 : j < i
      · rw [if_pos e2] at h3; rw [if_pos (by omega)]; exact h3
      · rw [if_neg e2] at h3; rw [if_neg (by omega)]; exact h3
  · have h1 := h.arg j s hj
    have h2 : (w.setCell ⟨g, i * 2, none⟩ (.string (markB (k + sumL Tm.sz (l.take i))))).cell? ⟨g, j * 2 + 1, none⟩ = some (f j) := (World.cell?_setCell_other _ _ _ _ (by simp; try omega)).trans h1
    exact hout.cell h2 hgs
  · have hjl : j < l.length := (List.getElem?_eq_some_iff.1 hj).1
    by_cases e : j = i
    · subst e
      rw [hi] at hj
      injection hj with hj
      subst hj
      rw [if_pos (by omega)]
      exact ho
    · have h1 := h.own j s hj
      have h2 : TmO (w.setCell ⟨g, i * 2, none⟩ (.string (markB (k + sumL Tm.sz (l.take i))))) (Ss j) (f j) (if j < i then mkL (k + sumL Tm.sz (l.take j) + 1) s.args else s.args) :=
        h1.setCell (fun e' => (hs j g hjl e').2 rfl) _
      have h3 := hout.own h2 (fun b hb => ⟨by rw [size_setCell]; exact (hs j b hjl hb).1, fun hb' => hdis j i b hjl hil e hb hb'⟩)
      by_cases e2 : j < i
      · rw [if_pos e2] at h3; rw [if_pos (by omega)]; exact h3
      · rw [if_neg e2] at h3; rw [if_neg (by omega)]; exact h3

def MarkLEnd (l : List Tm) (k : Nat) (v : Value) (S : Nat → Prop) (w : World) (e : Ending) (w' : World) : Prop :=
  e = .returned (.int .i64 (k + sumL Tm.sz l : Nat)) ∧ TmO w' S v (mkL k l) ∧ Outside S w w'
def MarkL (l : List Tm) : Prop := ∀ (k : Nat) (v : Value) (S : Nat → Prop) (w : World), TmO w S v l → (∀ b, S b → b < w.heap.size) → 1 ≤ k → k + sumL Tm.sz l ≤ 100000000 → l.length ≤ 100000000 →
  Calls Try.prog 100 #[v, .int .i64 k] w (MarkLEnd l k v S w)

def MRelT (w wr : World) (g : Nat) (f : Nat → Value) (Ss : Nat → Nat → Prop) (S : Nat → Prop) (l : List Tm) (k i : Nat) : Prop := RowM wr g f Ss l k i ∧ Outside S w wr

set_option maxHeartbeats 1000000 in
theorem markL_of (l : List Tm) (h : ∀ t ∈ l, MarkL t.args) : MarkL l := by
  intro k v S w hv hS hk hsz hlen
  have H := Lib.hid h
  have HSZ := Lib.hid (fun i => sumL_take Tm.sz l i)
  clear h
  cases hv with
  | emp S a c =>
    have HM : Hid (MarkLEnd [] k (.slice a 0 c) S w (.returned (.int .i64 k)) w) := Lib.hid ⟨by simp [sumL], by rw [mkL]; exact .emp _ _ _, Outside.refl _ _⟩
    go_enter Try.func100, Try.ntmps100
    go_wp2
    refine wp_loop_rounds 1 ?_
    rw [rounds_succ]
    go_wp2
    go_ret
    exact HM.out
  | row S g c l f Ss hp hSg hc hz hn ha hr hsub hdis =>
    have HS := Lib.hid hS
    have HSG := Lib.hid hSg
    have HSUB := Lib.hid hsub
    have HDIS := Lib.hid hdis
    have HM0 : Hid (RowM w g f Ss l k 0) := Lib.hid ⟨hz, fun j t hj => by rw [if_neg (by omega)]; exact hn j t hj, ha, fun j t hj => by rw [if_neg (by omega)]; exact hr j t hj⟩
    clear hS hSg hz hn ha hr hsub hdis
    go_enter Try.func100, Try.ntmps100
    go_wp2
    go_loopw [1, 5] (fun kk i wr => ∃ j q : Nat, j ≤ l.length ∧ i = .int .i64 j ∧ kk = .int .i64 q ∧ q = k + sumL Tm.sz (l.take j) ∧ MRelT w wr g f Ss S l k j) (fun _ i _ => l.length - (intOf i).toNat)
    case atStart => exact ⟨0, k, Nat.zero_le _, rfl, rfl, by simp [sumL], HM0.out, Outside.refl _ _⟩
    case round =>
      obtain ⟨j, q, hj, rfl, rfl, hq, hrel⟩ := hrel
      have HM := Lib.hid hrel.1
      have HO := Lib.hid hrel.2
      have HQ := Lib.hid hq
      clear hrel hq
      by_cases hlt : j < l.length
      · obtain ⟨t, ht⟩ : ∃ t, l[j]? = some t := ⟨_, List.getElem?_eq_getElem hlt⟩
        have HT := Lib.hid ht
        have HN := Lib.hid (sumL_next (f := Tm.sz) ht)
        have HE := Lib.hid t.sz_eq
        have hqb : q + t.sz ≤ 100000000 := by have := HSZ.out (j + 1); have := HN.out; have := HQ.out; omega
        have hq1 : 1 ≤ q := by have := HQ.out; omega
        have hts : 1 ≤ t.sz := Tm.sz_pos t
        have C0 := Lib.hid (markText_any q wr hq1 (by omega))
        clear ht
        go_wp2_with fail
        refine C0.out.mono ?_
        rintro e w1 ⟨rfl, hb⟩
        have HM1 := Lib.hid (HM.out.below hb hp (fun j b hj hb' => Nat.lt_of_lt_of_le (HS.out b (HSUB.out j b hj hb').1) HO.out.size))
        have HO1 : Hid (Outside S w w1) := Lib.hid (HO.out.trans (Outside.of_below hb))
        have c0 := HM1.out.name j t HT.out
        have c1 := HM1.out.arg j t HT.out
        rw [if_neg (by omega)] at c0
        have f0 := HM1.out.free (j * 2)
        obtain ⟨m, hm⟩ : ∃ m, m = markB q := ⟨_, rfl⟩
        rw [← hm]
        have HMM := Lib.hid hm
        have c2 : (w1.setCell ⟨g, j * 2, none⟩ (.string m)).cell? ⟨g, j * 2 + 1, none⟩ = some (f j) := (World.cell?_setCell_other _ _ _ _ (by simp)).trans c1
        have HO2 : Hid (Outside S w (w1.setCell ⟨g, j * 2, none⟩ (.string m))) := Lib.hid (HO1.out.trans (Outside.setCell _ _ _ HSG.out))
        have HS2 : Hid (∀ b, Ss j b → b < (w1.setCell ⟨g, j * 2, none⟩ (.string m)).heap.size) := Lib.hid (fun b hb' => by rw [size_setCell]; exact Nat.lt_of_lt_of_le (HS.out b (HSUB.out j b hlt hb').1) HO1.out.size)
        have HOW : Hid (TmO (w1.setCell ⟨g, j * 2, none⟩ (.string m)) (Ss j) (f j) t.args) := Lib.hid (by
          have h1 := HM1.out.own j t HT.out
          rw [if_neg (by omega)] at h1
          exact h1.setCell (fun e' => (HSUB.out j g hlt e').2 rfl) _)
        clear hb hm
        go_wp2_with fail
        have C1 := Lib.hid (H.out t (mem_of_at HT.out) (q + 1) (f j) (Ss j) _ HOW.out HS2.out (by omega) (by have := HE.out; omega) (by have := HE.out; have := sumL_len t.args; omega))
        rw [show (q : Int) + 1 = ((q + 1 : Nat) : Int) by omega]
        refine C1.out.mono ?_
        rintro e w2 ⟨rfl, ho2, hout⟩
        have HNX : Hid (MRelT w w2 g f Ss S l k (j + 1)) := Lib.hid ⟨HM1.out.next HT.out (fun j b hj hb' => ⟨Nat.lt_of_lt_of_le (HS.out b (HSUB.out j b hj hb').1) HO1.out.size, (HSUB.out j b hj hb').2⟩) HDIS.out
          (by rw [← HQ.out]; exact ho2) (by rw [← HQ.out, ← HMM.out]; exact hout), HO2.out.trans (hout.mono fun b hb' => (HSUB.out j b hlt hb').1)⟩
        have HQ2 : Hid (q + 1 + sumL Tm.sz t.args = k + sumL Tm.sz (l.take (j + 1))) := Lib.hid (by rw [HN.out]; have := HQ.out; have := HE.out; omega)
        generalize q + 1 + sumL Tm.sz t.args = q2 at *
        clear ho2 hout c0 c1 c2 f0
        go_wp2
        go_roundw
        case rel => exact ⟨j + 1, q2, by omega, by go_num, rfl, HQ2.out, HNX.out⟩
        case measure => simp [intOf]; omega
      · have hje : j = l.length := by omega
        have HE : Hid (MarkLEnd l k (.slice (some ⟨g, 0, none⟩) l.length c) S w (.returned (.int .i64 q)) wr) := Lib.hid (by
          have hM := HM.out
          have hQ := HQ.out
          subst hje
          rw [sumL_all (Nat.le_refl _)] at hQ
          refine ⟨by rw [hQ], ?_, HO.out⟩
          have r := TmO.row (w := wr) S g c (mkL k l) f Ss (by rw [mkL_len]; exact hp) HSG.out (by rw [mkL_len]; exact hc) hM.free
            (fun i x hx => by obtain ⟨s, hs, rfl⟩ := mkL_from hx; rw [mkT_name]; have := hM.name i s hs; rwa [if_pos (List.getElem?_eq_some_iff.1 hs).1] at this)
            (fun i x hx => by obtain ⟨s, hs, rfl⟩ := mkL_from hx; exact hM.arg i s hs)
            (fun i x hx => by obtain ⟨s, hs, rfl⟩ := mkL_from hx; rw [mkT_args]; have := hM.own i s hs; rwa [if_pos (List.getElem?_eq_some_iff.1 hs).1] at this)
            (fun i b hi => HSUB.out i b (by rwa [mkL_len] at hi)) (fun i j b hi hj => HDIS.out i j b (by rwa [mkL_len] at hi) (by rwa [mkL_len] at hj))
          rwa [mkL_len] at r)
        clear hje
        go_wp2
        go_ret
        exact HE.out

theorem markL_args (t : Tm) : MarkL t.args := Tm.ind (P := fun t => MarkL t.args) (fun t ih => markL_of t.args ih) t
theorem markL_any (l : List Tm) : MarkL l := markL_of l fun t _ => markL_args t

def MarkTEnd (t : Tm) (k : Nat) (v : Value) (S : Nat → Prop) (w : World) (e : Ending) (w' : World) : Prop :=
  e = .returned (.int .i64 (k + sumL Tm.sz t.args : Nat)) ∧ TmO w' S v (mkL k t.args) ∧ Outside S w w'

set_option maxHeartbeats 400000 in
theorem markTerm_any (t : Tm) (k : Nat) (v : Value) (S : Nat → Prop) (w : World) (ho : TmO w S v t.args) (hS : ∀ b, S b → b < w.heap.size) (hk : 1 ≤ k) (hsz : k + sumL Tm.sz t.args ≤ 100000000) :
    Calls Try.prog 42 #[.agg #[.string t.name, v], .int .i64 k] w (MarkTEnd t k v S w) := by
  obtain ⟨a, c, rfl⟩ := ho.read.is_slice
  have HO := Lib.hid ho
  have HS := Lib.hid hS
  have hl := sumL_len t.args
  clear ho hS
  go_enter Try.func42, Try.ntmps42
  go_wp2_with fail
  refine (markL_any t.args k _ S _ (HO.out.frame fun b hb => ((Below.refl _ _).alloc (Nat.le_refl _) _).block b (HS.out b hb)) (fun b hb => by have := HS.out b hb; simp; omega) hk hsz (by omega)).mono ?_
  rintro e w' ⟨rfl, ho, hout⟩
  have HO2 := Lib.hid ho
  have HX : Hid (Outside S w w') := Lib.hid ((Outside.of_below ((Below.refl _ _).alloc (Nat.le_refl _) _)).trans hout)
  clear ho hout
  generalize hq : k + sumL Tm.sz t.args = q
  have HQ := Lib.hid hq
  clear hq
  go_wp2
  go_ret
  exact ⟨ret_int (by rw [HQ.out]), HO2.out, HX.out⟩

def HeldL (l : List Tm) : Prop := ∀ (k : Nat) (v : Value) (w : World), TmS w v (mkL k l) → 1 ≤ k → k + sumL Tm.sz l ≤ 100000000 → l.length ≤ 100000000 →
  Calls Try.prog 148 #[v, .int .i64 k] w fun e w' => e = .returned (.int .i64 (k + sumL Tm.sz l : Nat)) ∧ Below w.heap.size w w'

set_option maxHeartbeats 1000000 in
theorem heldL_of (l : List Tm) (h : ∀ t ∈ l, HeldL t.args) : HeldL l := by
  intro k v w hv hk hsz hlen
  have H := Lib.hid h
  have HSZ := Lib.hid (fun i => sumL_take Tm.sz l i)
  obtain ⟨a, c, rfl⟩ := hv.is_slice
  rw [mkL_len] at hv ⊢
  have HV := Lib.hid hv
  clear h hv
  go_enter Try.func148, Try.ntmps148
  go_wp2
  go_loopw [1, 5] (fun kk i wr => ∃ j q : Nat, j ≤ l.length ∧ i = .int .i64 j ∧ kk = .int .i64 q ∧ q = k + sumL Tm.sz (l.take j) ∧ Below w.heap.size w wr) (fun _ i _ => l.length - (intOf i).toNat)
  case atStart => exact ⟨0, k, Nat.zero_le _, rfl, rfl, by simp [sumL], Below.refl _ _⟩
  case round =>
    obtain ⟨j, q, hj, rfl, rfl, hq, hbel⟩ := hrel
    have HB := Lib.hid hbel
    have HQ := Lib.hid hq
    clear hq hbel
    by_cases hlt : j < l.length
    · obtain ⟨t, ht⟩ : ∃ t, l[j]? = some t := ⟨_, List.getElem?_eq_getElem hlt⟩
      have HT := Lib.hid ht
      have HN := Lib.hid (sumL_next (f := Tm.sz) ht)
      have HE := Lib.hid t.sz_eq
      have hqb : q + t.sz ≤ 100000000 := by have := HSZ.out (j + 1); have := HN.out; have := HQ.out; omega
      have hq1 : 1 ≤ q := by have := HQ.out; omega
      have hts : 1 ≤ t.sz := Tm.sz_pos t
      obtain ⟨b, off, rfl, va, c0, c1, hva⟩ := HV.out.get (mkL_at l k j t ht)
      rw [mkT_name, ← HQ.out] at c0
      rw [mkT_args, ← HQ.out] at hva
      obtain ⟨m, hm⟩ : ∃ m, m = markB q := ⟨_, rfl⟩
      rw [← hm] at c0
      have C0 : Hid (∀ W : World, Calls Try.prog 147 #[.int .i64 q] W fun e w' => e = .returned (.string m) ∧ Below W.heap.size W w') := Lib.hid (fun W => by
        rw [hm]; exact markText_any q W hq1 (by omega))
      have c0' := carry_cell c0 HB.out
      have c1' := carry_cell c1 HB.out
      have HVA := Lib.hid hva
      have hB0 : Below wr.heap.size wr wr.drew := (Below.refl _ _).drew
      clear hm ht c0 c1 hva
      go_wp2_with fail
      go_region_held3 (fun w' => w'.cell? ⟨b, off + j * 2, none⟩ = some (.string m) ∧ w'.cell? ⟨b, off + j * 2 + 1, none⟩ = some va ∧ Below wr.heap.size wr w') (first | exact ⟨by assumption, by assumption, by assumption⟩ | go_keep) (first | (go_at_call 147; refine (C0.out _).mono ?_; rintro e w6 ⟨rfl, hb⟩; have d0 : w6.cell? ⟨b, off + j * 2, none⟩ = some (.string m) := carry_cell' hb (by assumption); have d1 : w6.cell? ⟨b, off + j * 2 + 1, none⟩ = some va := carry_cell' hb (by assumption); have hB6 := carry_below hB0 (Nat.le_refl _) hb; clear hb))
      have HB6 := Lib.hid (carry_below HB.out (Nat.le_refl _) hB6)
      clear hB6 hB0 c0' c1'
      go_wp2_with fail
      rw [show (q : Int) + 1 = ((q + 1 : Nat) : Int) by omega]
      refine (H.out t (mem_of_at HT.out) (q + 1) va _ (HVA.out.kept HB6.out) (by omega) (by have := HE.out; omega) (by have := HE.out; have := sumL_len t.args; omega)).mono ?_
      rintro e w7 ⟨rfl, hb⟩
      have HB7 := Lib.hid (carry_below HB6.out (Nat.le_refl _) hb)
      have HQ2 : Hid (q + 1 + sumL Tm.sz t.args = k + sumL Tm.sz (l.take (j + 1))) := Lib.hid (by rw [HN.out]; have := HQ.out; have := HE.out; omega)
      clear hb
      generalize q + 1 + sumL Tm.sz t.args = q2 at *
      go_wp2
      go_roundw
      case rel => exact ⟨j + 1, q2, by omega, by go_num, rfl, HQ2.out, HB7.out⟩
      case measure => simp [intOf]; omega
    · have hje : j = l.length := by omega
      have HE : Hid ((q : Int) = (k + sumL Tm.sz l : Nat)) := Lib.hid (by
        have hQ := HQ.out
        subst hje
        rw [sumL_all (Nat.le_refl _)] at hQ
        rw [hQ])
      clear hje
      go_wp2
      go_ret
      exact ⟨ret_int HE.out, HB.out⟩

theorem heldL_args (t : Tm) : HeldL t.args := Tm.ind (P := fun t => HeldL t.args) (fun t ih => heldL_of t.args ih) t
theorem heldL_any (l : List Tm) : HeldL l := heldL_of l fun t _ => heldL_args t

set_option maxHeartbeats 400000 in
theorem heldTerm_any (t : Tm) (n : ByteArray) (k : Nat) (v : Value) (w : World) (hv : TmS w v (mkL k t.args)) (hk : 1 ≤ k) (hsz : k + sumL Tm.sz t.args ≤ 100000000) :
    Calls Try.prog 101 #[.agg #[.string n, v], .int .i64 k] w fun e w' => e = .returned (.int .i64 (k + sumL Tm.sz t.args : Nat)) ∧ Below w.heap.size w w' := by
  obtain ⟨a, c, rfl⟩ := hv.is_slice
  have HV := Lib.hid hv
  have hl := sumL_len t.args
  clear hv
  go_enter Try.func101, Try.ntmps101
  go_wp2_with fail
  refine (heldL_any t.args k _ _ (HV.out.alloc _) hk hsz (by omega)).mono ?_
  rintro e w' ⟨rfl, hb⟩
  have HB := Lib.hid (carry_below ((Below.refl w.heap.size w).alloc (Nat.le_refl _) _) (Nat.le_refl _) hb)
  clear hb
  generalize hq : k + sumL Tm.sz t.args = q
  have HQ := Lib.hid hq
  clear hq
  go_wp2
  go_ret
  exact ⟨ret_int (by rw [HQ.out]), HB.out⟩

end Go.Proofs.Ytppmiedhoimgmaa
