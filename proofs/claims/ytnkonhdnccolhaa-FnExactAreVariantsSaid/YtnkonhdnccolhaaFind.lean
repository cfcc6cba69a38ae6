/- The program's search for a variable in an ascending list of bindings: a contract, for lists of at most 1048576 bindings. -/
import Derived.Test.YtnkonhdnccolhaaSubP
import Derived.Test.YtnkonhdnccolhaaShelf
import Derived.Sort.Walk0
namespace Go.Proofs.Ytnkonhdnccolhaa
open Go.RowKit
set_option linter.unusedVariables false

theorem cmp_neg : ∀ a b : List UInt8, Lib.compareBytes a b < 0 ↔ a < b
  | [], [] => by simp [Lib.compareBytes]
  | [], _ :: _ => by simp [Lib.compareBytes]
  | _ :: _, [] => by simp [Lib.compareBytes]
  | x :: a, y :: b => by
    unfold Lib.compareBytes
    rw [List.cons_lt_cons_iff]
    by_cases h1 : x < y
    · simp [h1]
    · by_cases h2 : y < x
      · have hne : x ≠ y := fun e => by subst e; exact UInt8.lt_irrefl _ h2
        simp [h1, h2, hne]
      · have e : x = y := UInt8.le_antisymm (UInt8.not_lt.1 h2) (UInt8.not_lt.1 h1)
        simp [cmp_neg a b, e]
theorem cmp_zero : ∀ a b : List UInt8, Lib.compareBytes a b = 0 ↔ a = b
  | [], [] => by simp [Lib.compareBytes]
  | [], _ :: _ => by simp [Lib.compareBytes]
  | _ :: _, [] => by simp [Lib.compareBytes]
  | x :: a, y :: b => by
    unfold Lib.compareBytes
    by_cases h1 : x < y
    · have hne : x ≠ y := fun e => by subst e; exact UInt8.lt_irrefl _ h1
      simp [h1, hne]
    · by_cases h2 : y < x
      · have hne : x ≠ y := fun e => by subst e; exact UInt8.lt_irrefl _ h2
        simp [h1, h2, hne]
      · have e : x = y := UInt8.le_antisymm (UInt8.not_lt.1 h2) (UInt8.not_lt.1 h1)
        simp [cmp_zero a b, e]

theorem lessN_iff {a b : ByteArray} : lessN a b = true ↔ a.data.toList < b.data.toList := by
  unfold lessN
  rw [ByteArray.toList_eq, ByteArray.toList_eq, bytesLess_eq, decide_eq_true_iff]
theorem raw_eq {a b : ByteArray} (h : a.data.toList = b.data.toList) : a = b := by
  apply ByteArray.ext; exact Array.toList_inj.1 h

/-- The variables ascend. -/
def Asc (l : List Bd) : Prop := ∀ (i j : Nat) (x y : Bd), i < j → l[i]? = some x → l[j]? = some y → x.var.data.toList < y.var.data.toList
theorem good_asc {l : List Bd} (h : goodS l = true) : Asc l := by
  intro i j
  induction j with
  | zero => intro x y hij; omega
  | succ j ih =>
    intro x y hij hx hy
    have hlt : j < l.length := by have := (List.getElem?_eq_some_iff.1 hy).1; omega
    obtain ⟨p, hp⟩ : ∃ p, l[j]? = some p := ⟨_, List.getElem?_eq_getElem hlt⟩
    have h1 := lessN_iff.1 (okAt_less (goodS_at h hy) hp)
    by_cases e : i = j
    · subst e
      rw [hx] at hp
      injection hp with hp
      rw [hp]; exact h1
    · exact List.lt_trans (ih x p (by omega) hx hp) h1

/-- The index of the first binding whose variable is not less than the name. -/
def Place (l : List Bd) (nm : ByteArray) (i : Nat) : Prop :=
  i ≤ l.length ∧ (∀ t d, t < i → l[t]? = some d → d.var.data.toList < nm.data.toList) ∧ (∀ t d, i ≤ t → l[t]? = some d → ¬ d.var.data.toList < nm.data.toList)
def hitB (l : List Bd) (nm : ByteArray) (i : Nat) : Bool := match l[i]? with
  | some d => decide (d.var = nm)
  | none => false
theorem hit_no {l : List Bd} {nm : ByteArray} {i : Nat} (hp : Place l nm i) (ha : Asc l) (h : hitB l nm i = false) : ∀ d ∈ l, d.var ≠ nm := by
  intro d hd e
  obtain ⟨t, ht⟩ := List.getElem?_of_mem hd
  have h3 : ¬ t < i := fun hlt => by have := hp.2.1 t d hlt ht; rw [e] at this; exact List.lt_irrefl _ this
  obtain ⟨p, hpi⟩ : ∃ p, l[i]? = some p := ⟨_, List.getElem?_eq_getElem (by have := (List.getElem?_eq_some_iff.1 ht).1; omega)⟩
  by_cases hti : t = i
  · subst hti
    rw [hitB, ht] at h
    simp [e] at h
  · have h4 := ha i t p d (by omega) hpi ht
    rw [e] at h4
    exact hp.2.2 i p (Nat.le_refl _) hpi h4
theorem hit_yes {l : List Bd} {nm : ByteArray} {i : Nat} (h : hitB l nm i = true) : ∃ d, l[i]? = some d ∧ d.var = nm := by
  unfold hitB at h
  cases e : l[i]? with
  | none => rw [e] at h; cases h
  | some d => rw [e] at h; exact ⟨d, rfl, of_decide_eq_true h⟩

theorem cmpVar_any (d : Bd) (pa : Option Addr) (n ca : Nat) (nm : ByteArray) (w : World) :
    Calls Try.prog 152 #[.agg #[.string d.var, .string d.tm.name, .slice pa n ca], .string nm] w (Ans (.int .i64 (Lib.compareBytes d.var.data.toList nm.data.toList)) w) := by
  have h1 := thr_new w (.string d.var) (.string d.tm.name) (.slice pa n ca) 110 _ rfl
  have HB := Lib.hid ((Below.refl w.heap.size w).alloc (Nat.le_refl _) (.cells #[.string d.var, .string d.tm.name, .slice pa n ca] 110))
  have CS := Lib.hid (fun W => Try.strings_Compare d.var nm W)
  obtain ⟨b0, b1, b2, b3⟩ := h1
  go_enter Try.func152, Try.ntmps152
  go_wp2_with fail
  refine (CS.out _).mono ?_
  rintro e w2 ⟨rfl, rfl⟩
  go_wp2
  go_ret
  exact ⟨rfl, HB.out⟩

def LoHi (l : List Bd) (nm : ByteArray) (lo hi : Nat) : Prop :=
  (∀ t d, t < lo → l[t]? = some d → d.var.data.toList < nm.data.toList) ∧ (∀ t d, hi ≤ t → l[t]? = some d → ¬ d.var.data.toList < nm.data.toList)

def FindEnd (l : List Bd) (nm : ByteArray) (w : World) (e : Ending) (w' : World) : Prop :=
  ∃ i : Nat, e = .returned (.tuple #[.int .i64 i, .bool (hitB l nm i)]) ∧ Place l nm i ∧ Below w.heap.size w w'

theorem ret_ib {i : Nat} {a b : Bool} (h : a = b) : Ending.returned (.tuple #[.int .i64 (i : Int), .bool a]) = .returned (.tuple #[.int .i64 (i : Int), .bool b]) := by rw [h]

set_option maxRecDepth 100000 in
set_option maxHeartbeats 4000000 in
theorem bsf_any (l : List Bd) (w : World) (v : Value) (hv : BdS w v l) (hl : l.length ≤ 1048576) (ha : Asc l) (nm : ByteArray) :
    Calls Try.prog 151 #[v, .string nm, .func (.func 152) #[] #[]] w (FindEnd l nm w) := by
  obtain ⟨a, c, rfl⟩ := hv.is_slice
  have HV := Lib.hid hv
  have HA := Lib.hid ha
  clear hv ha
  go_enter Try.func151, Try.ntmps151
  go_wp2
  go_loopw [9, 10] (fun s9 s10 wr => ∃ lo hi : Nat, s9 = .int .i64 lo ∧ s10 = .int .i64 hi ∧ lo ≤ hi ∧ hi ≤ l.length ∧ LoHi l nm lo hi ∧ Below w.heap.size w wr) (fun s9 s10 _ => (intOf s10).toNat - (intOf s9).toNat)
  case atStart => exact ⟨0, l.length, rfl, rfl, Nat.zero_le _, Nat.le_refl _, ⟨fun t d h => absurd h (Nat.not_lt_zero _), fun t d h hd => by have := (List.getElem?_eq_some_iff.1 hd).1; omega⟩, Below.refl _ _⟩
  case round =>
    obtain ⟨lo, hi, rfl, rfl, hlh, hin, hq, hbel⟩ := hrel
    have HQ := Lib.hid hq
    have HB := Lib.hid hbel
    clear hq hbel
    by_cases hlt : lo < hi
    · obtain ⟨d, hd⟩ : ∃ d, l[(lo + hi) / 2]? = some d := ⟨_, List.getElem?_eq_getElem (by omega)⟩
      obtain ⟨b, off, rfl, va, c0, c1, c2, hva⟩ := HV.out.get hd
      obtain ⟨pa, ca, rfl⟩ := hva.is_slice
      have c0' := carry_cell c0 HB.out
      have c1' := carry_cell c1 HB.out
      have c2' := carry_cell c2 HB.out
      have HD := Lib.hid hd
      obtain ⟨z, hz⟩ : ∃ z, z = Lib.compareBytes d.var.data.toList nm.data.toList := ⟨_, rfl⟩
      have HZ : Hid (z < 0 ↔ d.var.data.toList < nm.data.toList) := Lib.hid (by rw [hz]; exact cmp_neg _ _)
      have CC := cmpVar_any d pa d.tm.args.length ca nm wr
      rw [← hz] at CC
      have CC := Lib.hid CC
      clear hd hva c0 c1 c2 hz
      by_cases hyx : z < 0
      · go_wp2_with fail
        refine CC.out.mono ?_
        rintro e w2 ⟨rfl, hb⟩
        have HB2 := Lib.hid (carry_below HB.out (Nat.le_refl _) hb)
        clear hb
        have HQ2 : Hid (LoHi l nm ((lo + hi) / 2 + 1) hi) := Lib.hid ⟨fun t x ht hx => by
          by_cases e : t = (lo + hi) / 2
          · subst e; rw [HD.out] at hx; injection hx with hx; rw [← hx]; exact HZ.out.1 hyx
          · exact List.lt_trans (HA.out t _ x d (by omega) hx HD.out) (HZ.out.1 hyx), HQ.out.2⟩
        go_wp2
        go_roundw
        case rel => exact ⟨(lo + hi) / 2 + 1, hi, by rw [show ((lo : Int) + (hi : Int)) / 2 + 1 = (((lo + hi) / 2 + 1 : Nat) : Int) by omega], rfl, by omega, hin, HQ2.out, HB2.out⟩
        case measure => simp [intOf]; omega
      · go_wp2_with fail
        refine CC.out.mono ?_
        rintro e w2 ⟨rfl, hb⟩
        have HB2 := Lib.hid (carry_below HB.out (Nat.le_refl _) hb)
        clear hb
        have HQ2 : Hid (LoHi l nm lo ((lo + hi) / 2)) := Lib.hid ⟨HQ.out.1, fun t x ht hx => by
          by_cases e : t = (lo + hi) / 2
          · subst e; rw [HD.out] at hx; injection hx with hx; rw [← hx]; exact fun h => absurd (HZ.out.2 h) (by omega)
          · exact fun h => absurd (HZ.out.2 (List.lt_trans (HA.out _ t d x (by omega) HD.out hx) h)) (by omega)⟩
        go_wp2
        go_roundw
        case rel => exact ⟨lo, (lo + hi) / 2, rfl, by rw [show ((lo : Int) + (hi : Int)) / 2 = (((lo + hi) / 2 : Nat) : Int) by omega], by omega, by omega, HQ2.out, HB2.out⟩
        case measure => simp [intOf]; omega
    · obtain rfl : hi = lo := by omega
      have HP : Hid (Place l nm hi) := Lib.hid ⟨hin, HQ.out⟩
      by_cases hn : hi < l.length
      · obtain ⟨d, hd⟩ : ∃ d, l[hi]? = some d := ⟨_, List.getElem?_eq_getElem hn⟩
        obtain ⟨b, off, rfl, va, c0, c1, c2, hva⟩ := HV.out.get hd
        obtain ⟨pa, ca, rfl⟩ := hva.is_slice
        have c0' := carry_cell c0 HB.out
        have c1' := carry_cell c1 HB.out
        have c2' := carry_cell c2 HB.out
        obtain ⟨z, hz⟩ : ∃ z, z = Lib.compareBytes d.var.data.toList nm.data.toList := ⟨_, rfl⟩
        have HZ : Hid (decide (z = 0) = hitB l nm hi) := Lib.hid (by
          rw [hitB, hd, hz]
          show _ = decide _
          rw [decide_eq_decide, cmp_zero]
          exact ⟨fun h => raw_eq h, fun h => by rw [h]⟩)
        have CC := cmpVar_any d pa d.tm.args.length ca nm wr
        rw [← hz] at CC
        have CC := Lib.hid CC
        clear hd hva c0 c1 c2 hz
        by_cases hy : z = 0
        · have HF : Hid (hitB l nm hi = true) := Lib.hid (by rw [← HZ.out, hy]; rfl)
          have hy' : (z == 0) = true := by rw [hy]; rfl
          clear hy
          go_wp2_with fail
          refine CC.out.mono ?_
          rintro e w2 ⟨rfl, hb⟩
          have HB2 := Lib.hid (carry_below HB.out (Nat.le_refl _) hb)
          clear hb
          go_wp2
          go_ret2
          exact ⟨hi, ret_ib HF.out.symm, HP.out, HB2.out⟩
        · have HF : Hid (hitB l nm hi = false) := Lib.hid (by rw [← HZ.out, decide_eq_false hy])
          have hy' : (z == 0) = false := by rw [beq_eq_false_iff_ne]; exact hy
          clear hy
          go_wp2_with fail
          refine CC.out.mono ?_
          rintro e w2 ⟨rfl, hb⟩
          have HB2 := Lib.hid (carry_below HB.out (Nat.le_refl _) hb)
          clear hb
          go_wp2
          go_ret2
          exact ⟨hi, ret_ib HF.out.symm, HP.out, HB2.out⟩
      · have HF : Hid (hitB l nm hi = false) := Lib.hid (by rw [hitB, List.getElem?_eq_none (by omega)])
        go_wp2
        go_ret2
        exact ⟨hi, ret_ib HF.out.symm, HP.out, HB.out⟩

theorem find_any (l : List Bd) (w : World) (v : Value) (hv : BdS w v l) (hl : l.length ≤ 1048576) (ha : Asc l) (nm : ByteArray) :
    Calls Try.prog 98 #[v, .string nm] w (FindEnd l nm w) := by
  have CB := Lib.hid (bsf_any l w v hv hl ha nm)
  obtain ⟨a, c, rfl⟩ := hv.is_slice
  clear hv ha
  go_enter Try.func98, Try.ntmps98
  go_wp2_with fail
  refine CB.out.mono ?_
  rintro e w2 ⟨i, rfl, hp, hb⟩
  have HP := Lib.hid hp
  have HB := Lib.hid hb
  clear hp hb
  go_wp2
  go_ret2
  exact ⟨i, rfl, HP.out, HB.out⟩

end Go.Proofs.Ytnkonhdnccolhaa
