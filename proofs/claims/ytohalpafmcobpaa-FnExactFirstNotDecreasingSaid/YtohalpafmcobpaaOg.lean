/- Orderings: symbols, weights and the weight of variables; how one lies in memory; the laws' helpers on one: contracts. Lists are no longer than any slice is. -/
import Derived.Test.YtohalpafmcobpaaStr5
import Derived.Test.YtohalpafmcobpaaThr
import Derived.Test.YtohalpafmcobpaaSz
import Derived.Test.YtohalpafmcobpaaInts
import Derived.Test.YtohalpafmcobpaaOpenI
namespace Go.Proofs.Ytohalpafmcobpaa
open Go.RowKit
set_option linter.unusedVariables false

/-- An ordering. -/
structure Od where
  sy : List ByteArray
  ws : List Int
  va : Int

/-- How its two lists lie. -/
structure OdV (w : World) (sv wv : Value) (o : Od) : Prop where
  st : StrsV w sv o.sy
  is : IntsV w wv o.ws
  cp : ∀ a m c, sv = .slice a m c → m ≤ c
theorem OdV.kept {w w' : World} {sv wv : Value} {o : Od} (h : OdV w sv wv o) (hb : Below w.heap.size w w') : OdV w' sv wv o := ⟨h.st.below hb, h.is.kept hb, h.cp⟩

/-- The elements of a slice of strings. -/
def StrG (w : World) (a : Option Addr) (ss : List ByteArray) : Prop := ∀ k x, ss[k]? = some x → ∃ b off, a = some ⟨b, off, none⟩ ∧ w.cell? ⟨b, off + k, none⟩ = some (.string x)
theorem StrsV.parts {w : World} {v : Value} {ss : List ByteArray} (h : StrsV w v ss) : ∃ a c, v = .slice a ss.length c ∧ StrG w a ss := by
  rcases h with ⟨a, c, rfl, rfl⟩ | ⟨b, off, c, rfl, hp, hc⟩
  · exact ⟨a, c, rfl, fun k x hk => by cases hk⟩
  · refine ⟨_, c, rfl, fun k x hk => ⟨b, off, rfl, ?_⟩⟩
    have hlt : k < ss.length := (List.getElem?_eq_some_iff.1 hk).1
    rw [hc k hlt, getD_eq hlt]
    rw [List.getElem?_eq_getElem hlt] at hk
    injection hk with hk
    rw [hk]
theorem StrG.of {w : World} {a : Option Addr} {n c : Nat} {ss : List ByteArray} (h : StrsV w (.slice a n c) ss) : StrG w a ss := by
  obtain ⟨a', c', e, hg⟩ := h.parts
  injection e with e1 e2 e3
  rw [e1]; exact hg
theorem StrG.below {w w' : World} {a : Option Addr} {ss : List ByteArray} (h : StrG w a ss) (hb : Below w.heap.size w w') : StrG w' a ss := fun k x hk => by
  obtain ⟨b, off, ha, hc⟩ := h k x hk
  exact ⟨b, off, ha, carry_cell hc hb⟩
/-- A first part of such a slice. -/
theorem StrG.first {w : World} {a : Option Addr} {ss : List ByteArray} (h : StrG w a ss) (k c : Nat) (hk : k ≤ ss.length) : StrsV w (.slice a k c) (ss.take k) := by
  by_cases h0 : k = 0
  · subst h0; exact .inl ⟨a, c, rfl, by simp⟩
  · obtain ⟨b, off, rfl, _⟩ := h 0 _ (List.getElem?_eq_getElem (by omega))
    have hl : (ss.take k).length = k := by rw [List.length_take]; omega
    refine .inr ⟨b, off, c, by rw [hl], by omega, fun i hi => ?_⟩
    obtain ⟨b', off', e, hc⟩ := h i _ (List.getElem?_eq_getElem (show i < ss.length by omega))
    injection e with e
    injection e with e1 e2
    subst e1 e2
    rw [hc, getD_eq hi, List.getElem_take]

def IntG (w : World) (a : Option Addr) (is : List Int) : Prop := ∀ k x, is[k]? = some x → ∃ b off, a = some ⟨b, off, none⟩ ∧ w.cell? ⟨b, off + k, none⟩ = some (.int .i64 x)
theorem IntG.of {w : World} {a : Option Addr} {n c : Nat} {is : List Int} (h : IntsV w (.slice a n c) is) : IntG w a is := by
  obtain ⟨a', c', e, hg⟩ := h
  injection e with e1 e2 e3
  rw [e1]; exact hg
theorem IntG.below {w w' : World} {a : Option Addr} {is : List Int} (h : IntG w a is) (hb : Below w.heap.size w w') : IntG w' a is := fun k x hk => by
  obtain ⟨b, off, ha, hc⟩ := h k x hk
  exact ⟨b, off, ha, carry_cell hc hb⟩

/-- Both lists' values, opened. -/
theorem OdV.open {w : World} {sv wv : Value} {o : Od} (h : OdV w sv wv o) : ∃ sa sc wa wc, sv = .slice sa o.sy.length sc ∧ wv = .slice wa o.ws.length wc := by
  obtain ⟨sa, sc, e1, _⟩ := h.st.parts
  obtain ⟨wa, wc, e2, _⟩ := h.is
  exact ⟨sa, sc, wa, wc, e1, e2⟩

/-- The bytes of all strings. -/
def sumS : List ByteArray → Nat
  | [] => 0
  | s :: r => s.size + sumS r
theorem sumS_append (a b : List ByteArray) : sumS (a ++ b) = sumS a + sumS b := by
  induction a with
  | nil => simp [sumS]
  | cons t r ih => simp [sumS, ih]; omega
theorem sumS_next {l : List ByteArray} {k : Nat} {t : ByteArray} (h : l[k]? = some t) : sumS (l.take (k + 1)) = sumS (l.take k) + t.size := by
  rw [take_next h, sumS_append]; simp [sumS]
theorem sumS_take (l : List ByteArray) (k : Nat) : sumS (l.take k) ≤ sumS l := by
  have h := sumS_append (l.take k) (l.drop k)
  rw [List.take_append_drop] at h
  omega
theorem sumS_mem {l : List ByteArray} {t : ByteArray} (h : t ∈ l) : t.size ≤ sumS l := by
  induction l with
  | nil => cases h
  | cons s r ih =>
    rcases List.mem_cons.1 h with e | h
    · subst e; simp [sumS]
    · have := ih h; simp [sumS]; omega
/-- What the laws' size helper counts. -/
def Od.wt (o : Od) : Nat := o.sy.length + sumS o.sy + o.ws.length
def Od.lim (m : Nat) (o : Od) : Prop := o.sy.length ≤ m ∧ (∀ s ∈ o.sy, s.size ≤ m) ∧ o.ws.length ≤ m
theorem Od.lim_of_wt (o : Od) (m : Nat) (h : o.wt ≤ m) : o.lim m := by
  unfold Od.wt at h
  exact ⟨by omega, fun s hs => by have := sumS_mem hs; omega, by omega⟩

set_option maxHeartbeats 1000000 in
theorem szStrR_any (v : Value) (ss : List ByteArray) (left : Int) (w : World) (hl0 : 0 ≤ left) (hl1 : left ≤ 1048576) (hv : StrsV w v ss) (hn : ss.length ≤ 9223372036854775807) (hs : ∀ s ∈ ss, s.size ≤ 9223372036854775807) :
    Calls Try.prog 33 #[v, .int .i64 left] w fun e w' => e = .returned (.int .i64 (szR left (ss.length + sumS ss))) ∧ Below w.heap.size w w' := by
  obtain ⟨a, c, rfl, hg⟩ := hv.parts
  have HG := Lib.hid hg
  have HS := Lib.hid hs
  clear hv hg hs
  by_cases hneg : left - ss.length < 0
  · have HE : Hid (szR left (ss.length + sumS ss) = -1) := Lib.hid (szR_low (by omega))
    go_enter Try.func33, Try.ntmps33
    go_wp2
    go_ret
    exact ⟨ret_int HE.out.symm, Below.refl _ _⟩
  · go_enter Try.func33, Try.ntmps33
    go_wp2
    go_loop [1, 5] (fun l i => ∃ k : Nat, ∃ r : Int, k ≤ ss.length ∧ i = .int .i64 k ∧ 0 ≤ r ∧ r ≤ 1048576 ∧ r + sumS (ss.take k) = left - ss.length ∧ l = .int .i64 r) (fun _ i => ss.length - (intOf i).toNat)
    case atStart => exact ⟨0, _, Nat.zero_le _, rfl, by omega, by omega, by simp [sumS], rfl⟩
    case round =>
      obtain ⟨k, r, hk, rfl, hr0, hr1, hsum, rfl⟩ := hrel
      have HM := Lib.hid hsum
      clear hsum
      by_cases hlt : k < ss.length
      · obtain ⟨s, hs⟩ : ∃ s, ss[k]? = some s := ⟨_, List.getElem?_eq_getElem hlt⟩
        obtain ⟨b, off, rfl, hc⟩ := HG.out k s hs
        have hsz := HS.out s (mem_of_at hs)
        have HX := Lib.hid (sumS_next hs)
        have HX2 := Lib.hid (sumS_take ss (k + 1))
        clear hs
        by_cases hneg2 : r - s.size < 0
        · have HE : Hid (szR left (ss.length + sumS ss) = -1) := Lib.hid (szR_low (by have := HX.out; have := HX2.out; have := HM.out; omega))
          go_wp2
          go_ret
          exact ⟨ret_int HE.out.symm, Below.refl _ _⟩
        · go_wp2
          go_round
          case rel => exact ⟨k + 1, _, by omega, by go_num, by omega, by omega, by have := HX.out; have := HM.out; omega, rfl⟩
          case measure => simp [intOf]; omega
      · have HE : Hid (szR left (ss.length + sumS ss) = r) := Lib.hid (by
          have e := HM.out
          rw [List.take_of_length_le (by omega)] at e
          rw [szR_ok (by omega)]; omega)
        go_wp2
        go_ret
        exact ⟨ret_int HE.out.symm, Below.refl _ _⟩

set_option maxHeartbeats 400000 in
theorem szInt_any (a : Option Addr) (c n : Nat) (left : Int) (w : World) (hl0 : 0 ≤ left) (hl1 : left ≤ 1048576) (hn : n ≤ 9223372036854775807) :
    Calls Try.prog 34 #[.slice a n c, .int .i64 left] w fun e w' => e = .returned (.int .i64 (szR left n)) ∧ w = w' := by
  by_cases hneg : left - n < 0
  · have HE : Hid (szR left n = -1) := Lib.hid (szR_low (by omega))
    go_enter Try.func34, Try.ntmps34
    go_wp2
    go_ret
    exact ⟨ret_int HE.out.symm, rfl⟩
  · have HE : Hid (szR left n = left - n) := Lib.hid (szR_ok (by omega))
    go_enter Try.func34, Try.ntmps34
    go_wp2
    go_ret
    exact ⟨ret_int HE.out.symm, rfl⟩

set_option maxHeartbeats 1000000 in
theorem szOd_any (o : Od) (w : World) (sv wv : Value) (left : Int) (hv : OdV w sv wv o) (hlim : o.lim 9223372036854775807) (h0 : 0 ≤ left) (h1 : left ≤ 1048576) :
    Calls Try.prog 7 #[.agg #[sv, wv, .int .i64 o.va], .int .i64 left] w fun e w' => e = .returned (.int .i64 (szR left o.wt)) ∧ Below w.heap.size w w' := by
  obtain ⟨sa, sc, wa, wc, rfl, rfl⟩ := hv.open
  have HV := Lib.hid hv
  have HL := Lib.hid hlim
  have hwl : o.ws.length ≤ 9223372036854775807 := hlim.2.2
  have HW : Hid (o.wt = o.sy.length + sumS o.sy + o.ws.length) := Lib.hid rfl
  have HB := Lib.hid ((Below.refl w.heap.size w).alloc (Nat.le_refl _) (.cells #[.slice sa o.sy.length sc, .slice wa o.ws.length wc, .int .i64 o.va] 25))
  have H3 := Lib.hid (thr_new w (.slice sa o.sy.length sc) (.slice wa o.ws.length wc) (.int .i64 o.va) 25 _ rfl)
  clear hv hlim
  go_enter Try.func7, Try.ntmps7
  go_wp2_with fail
  refine (szStrR_any _ o.sy left _ h0 h1 ((HV.out.kept HB.out).st) HL.out.1 HL.out.2.1).mono ?_
  rintro e w1 ⟨rfl, hb⟩
  have HB1 := Lib.hid (carry_below HB.out (Nat.le_refl _) hb)
  obtain ⟨b0, b1, b2, b3⟩ := H3.out.kept hb
  clear hb
  rcases szR_cases left (o.sy.length + sumS o.sy) with ⟨c1, c2⟩ | ⟨c1, c2⟩
  · rw [c2]
    have HE : Hid (szR left o.wt = -1) := Lib.hid (szR_low (by have := HW.out; omega))
    clear c2
    go_wp2
    go_ret
    exact ⟨ret_int HE.out.symm, HB1.out⟩
  · rw [c2]
    clear c2
    have hn : ¬ left - ((o.sy.length + sumS o.sy : Nat) : Int) < 0 := by omega
    obtain ⟨r, hr⟩ : ∃ r : Int, left - ((o.sy.length + sumS o.sy : Nat) : Int) = r := ⟨_, rfl⟩
    rw [hr] at hn ⊢
    have CI := Lib.hid (szInt_any wa wc o.ws.length r w1 (by omega) (by omega) hwl)
    have HR := Lib.hid hr
    clear hr
    go_wp2_with fail
    refine CI.out.mono ?_
    rintro e w2 ⟨rfl, rfl⟩
    rcases szR_cases r o.ws.length with ⟨d1, d2⟩ | ⟨d1, d2⟩
    · rw [d2]
      have HE : Hid (szR left o.wt = -1) := Lib.hid (szR_low (by have := HW.out; have := HR.out; omega))
      clear d2
      go_wp2
      go_ret
      exact ⟨ret_int HE.out.symm, HB1.out⟩
    · rw [d2]
      have HE : Hid (szR left o.wt = r - o.ws.length) := Lib.hid (by rw [szR_ok (by have := HW.out; have := HR.out; omega)]; have := HW.out; have := HR.out; omega)
      clear d2
      go_wp2
      go_ret
      exact ⟨ret_int HE.out.symm, HB1.out⟩

/-- A copy of an ordering that the law made. -/
def OdO (w : World) (lo mid hi : Nat) (sv wv : Value) (o : Od) : Prop := OwnS w lo mid sv o.sy ∧ IntsO w (Ivl mid hi) wv o.ws ∧ hi ≤ w.heap.size ∧ lo ≤ mid ∧ mid ≤ hi
theorem OdO.read {w : World} {lo mid hi : Nat} {sv wv : Value} {o : Od} (h : OdO w lo mid hi sv wv o) : OdV w sv wv o := ⟨h.1.read, h.2.1.read, owns_cap h.1.1⟩
theorem OdO.kept {w w' : World} {lo mid hi : Nat} {sv wv : Value} {o : Od} (h : OdO w lo mid hi sv wv o) (hb : Below w.heap.size w w') : OdO w' lo mid hi sv wv o :=
  ⟨h.1.kept hb, h.2.1.frame fun k hk => hb.block k (Nat.lt_of_lt_of_le hk.2 h.2.2.1), Nat.le_trans h.2.2.1 hb.size, h.2.2.2⟩

def ToOEnd (o : Od) (w : World) (e : Ending) (w' : World) : Prop :=
  ∃ sv wv mid, e = .returned (.agg #[sv, wv, .int .i64 o.va]) ∧ OdO w' w.heap.size mid w'.heap.size sv wv o ∧ Below w.heap.size w w'

end Go.Proofs.Ytohalpafmcobpaa
