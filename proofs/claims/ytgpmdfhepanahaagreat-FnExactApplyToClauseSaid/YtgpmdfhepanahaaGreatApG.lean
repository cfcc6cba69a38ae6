/- Several texts in one: each says what it proves. No condition but theirs. -/
import Derived.Test.YtgpmdfhepanahaaGreatSubS
import Derived.Test.YtgpmdfhepanahaaGreatStG
import Derived.Test.YtgpmdfhepanahaaGreatSubP
import Derived.Test.YtgpmdfhepanahaaGreatShelf
import Derived.Sort.Walk0
import Derived.Test.YtgpmdfhepanahaaGreatOneX
import Derived.Test.YtgpmdfhepanahaaGreatCopy
import Derived.Test.YtgpmdfhepanahaaGreatMkG
import Derived.Test.YtgpmdfhepanahaaGreatClG
import Derived.Test.YtgpmdfhepanahaaGreatVG
/- IsIdempotent, the model's, and the model's search for a variable: contracts, for bindings of at most 1048576 names' bytes, bindings and arguments. -/
namespace Go.Proofs.YtgpmdfhepanahaaGreat
open Go.RowKit
set_option linter.unusedVariables false

def LFEnd (l : List Bd) (nm : ByteArray) (w : World) (e : Ending) (w' : World) : Prop :=
  ((boundB l nm = false ∧ e = .returned (.int .i64 (-1))) ∨ (∃ (i : Nat) (d : Bd), l[i]? = some d ∧ d.var = nm ∧ e = .returned (.int .i64 i))) ∧ Below w.heap.size w w'

set_option maxRecDepth 100000 in
set_option maxHeartbeats 2000000 in
theorem l4Find_any (l : List Bd) (w : World) (v : Value) (hv : BdS w v l) (hl : l.length ≤ 1048576) (nm : ByteArray) :
    Calls Tryz.prog 120 #[.agg #[v], .string nm] w (LFEnd l nm w) := by
  obtain ⟨a, c, rfl⟩ := hv.is_slice
  have HV := Lib.hid hv
  have H1 := Lib.hid (oner_new w (.slice a l.length c) 61 _ rfl)
  have HB0 := Lib.hid ((Below.refl w.heap.size w).alloc (Nat.le_refl _) (.cells #[.slice a l.length c] 61))
  clear hv
  obtain ⟨b0, b1⟩ := H1.out
  go_enter Tryz.func120, Tryz.ntmps120
  go_wp2
  go_loopw [5] (fun i wr => ∃ k : Nat, k ≤ l.length ∧ i = .int .i64 k ∧ (∀ j d, j < k → l[j]? = some d → d.var ≠ nm) ∧ Oner wr w.heap.size (.slice a l.length c) ∧ Below w.heap.size w wr) (fun i _ => l.length - (intOf i).toNat)
  case atStart => exact ⟨0, Nat.zero_le _, rfl, fun j d h => absurd h (Nat.not_lt_zero _), H1.out, HB0.out⟩
  case round =>
    obtain ⟨k, hk, rfl, hq, hone, hbel⟩ := hrel
    have HQ := Lib.hid hq
    have HB := Lib.hid hbel
    have H1W := Lib.hid hone
    clear hq hbel b0 b1
    obtain ⟨d0, d1⟩ := hone
    by_cases hlt : k < l.length
    · obtain ⟨d, hd⟩ : ∃ d, l[k]? = some d := ⟨_, List.getElem?_eq_getElem hlt⟩
      obtain ⟨b, off, rfl, va, c0, c1, c2, hva⟩ := HV.out.get hd
      have c0' := carry_cell c0 HB.out
      have HD := Lib.hid hd
      clear hd hva c0 c1 c2
      by_cases he : d.var = nm
      · have hq : (d.var.toList == nm.toList) = true := str_eq he
        have HE := Lib.hid he
        clear he
        go_wp2
        go_ret
        exact ⟨.inr ⟨k, d, HD.out, HE.out, rfl⟩, HB.out⟩
      · have hq : (d.var.toList == nm.toList) = false := str_ne he
        have HF : Hid (∀ j x, j < k + 1 → l[j]? = some x → x.var ≠ nm) := Lib.hid (fun j x hj hx => by
          by_cases e : j = k
          · subst e; rw [HD.out] at hx; injection hx with hx; rw [← hx]; exact he
          · exact HQ.out j x (by omega) hx)
        clear he
        go_wp2
        go_roundw
        case rel => exact ⟨k + 1, by omega, by go_num, HF.out, H1W.out, HB.out⟩
        case measure => simp [intOf]; omega
    · have HF : Hid (boundB l nm = false) := Lib.hid (bound_no.2 fun d hd => by
        obtain ⟨j, hj⟩ := List.getElem?_of_mem hd
        exact HQ.out j d (by have := (List.getElem?_eq_some_iff.1 hj).1; omega) hj)
      go_wp2
      go_ret
      exact ⟨.inl ⟨HF.out, rfl⟩, HB.out⟩

theorem ret_bb' {a b c d : Bool} (h : a = b) (k : c = d) : Ending.returned (.tuple #[.bool a, .bool c]) = .returned (.tuple #[.bool b, .bool d]) := by rw [h, k]

end Go.Proofs.YtgpmdfhepanahaaGreat

/- The program's search for a variable in an ascending list of bindings: a contract, for lists of at most 1048576 bindings. -/
namespace Go.Proofs.YtgpmdfhepanahaaGreat
open Go.RowKit
set_option linter.unusedVariables false

theorem cmp_neg : ∀ a b : List UInt8, Lib.compareBytes a b < 0 ↔ a < b
  | [], [] => by simp [Lib.compareBytes]
  | [], _ :: _ => by simp [Lib.compareBytes]
  | _ :: _, [] => by simp [Lib.compareBytes]
  | x :: a, y :: b => by
    unfold Lib.compareBytes
    rw [List.cons_lt_cons_iff]
    by_cases h1 : x < y
    · simp [h1]
    · by_cases h2 : y < x
      · have hne : x ≠ y := fun e => by subst e; exact UInt8.lt_irrefl _ h2
        simp [h1, h2, hne]
      · have e : x = y := UInt8.le_antisymm (UInt8.not_lt.1 h2) (UInt8.not_lt.1 h1)
        simp [cmp_neg a b, e]
theorem cmp_zero : ∀ a b : List UInt8, Lib.compareBytes a b = 0 ↔ a = b
  | [], [] => by simp [Lib.compareBytes]
  | [], _ :: _ => by simp [Lib.compareBytes]
  | _ :: _, [] => by simp [Lib.compareBytes]
  | x :: a, y :: b => by
    unfold Lib.compareBytes
    by_cases h1 : x < y
    · have hne : x ≠ y := fun e => by subst e; exact UInt8.lt_irrefl _ h1
      simp [h1, hne]
    · by_cases h2 : y < x
      · have hne : x ≠ y := fun e => by subst e; exact UInt8.lt_irrefl _ h2
        simp [h1, h2, hne]
      · have e : x = y := UInt8.le_antisymm (UInt8.not_lt.1 h2) (UInt8.not_lt.1 h1)
        simp [cmp_zero a b, e]

theorem lessN_iff {a b : ByteArray} : lessN a b = true ↔ a.data.toList < b.data.toList := by
  unfold lessN
  rw [ByteArray.toList_eq, ByteArray.toList_eq, bytesLess_eq, decide_eq_true_iff]
theorem raw_eq {a b : ByteArray} (h : a.data.toList = b.data.toList) : a = b := by
  apply ByteArray.ext; exact Array.toList_inj.1 h

/-- The variables ascend. -/
def Asc (l : List Bd) : Prop := ∀ (i j : Nat) (x y : Bd), i < j → l[i]? = some x → l[j]? = some y → x.var.data.toList < y.var.data.toList
theorem good_asc {l : List Bd} (h : goodS l = true) : Asc l := by
  intro i j
  induction j with
  | zero => intro x y hij; omega
  | succ j ih =>
    intro x y hij hx hy
    have hlt : j < l.length := by have := (List.getElem?_eq_some_iff.1 hy).1; omega
    obtain ⟨p, hp⟩ : ∃ p, l[j]? = some p := ⟨_, List.getElem?_eq_getElem hlt⟩
    have h1 := lessN_iff.1 (okAt_less (goodS_at h hy) hp)
    by_cases e : i = j
    · subst e
      rw [hx] at hp
      injection hp with hp
      rw [hp]; exact h1
    · exact List.lt_trans (ih x p (by omega) hx hp) h1

/-- The index of the first binding whose variable is not less than the name. -/
def Place (l : List Bd) (nm : ByteArray) (i : Nat) : Prop :=
  i ≤ l.length ∧ (∀ t d, t < i → l[t]? = some d → d.var.data.toList < nm.data.toList) ∧ (∀ t d, i ≤ t → l[t]? = some d → ¬ d.var.data.toList < nm.data.toList)
def hitB (l : List Bd) (nm : ByteArray) (i : Nat) : Bool := match l[i]? with
  | some d => decide (d.var = nm)
  | none => false
theorem hit_no {l : List Bd} {nm : ByteArray} {i : Nat} (hp : Place l nm i) (ha : Asc l) (h : hitB l nm i = false) : ∀ d ∈ l, d.var ≠ nm := by
  intro d hd e
  obtain ⟨t, ht⟩ := List.getElem?_of_mem hd
  have h3 : ¬ t < i := fun hlt => by have := hp.2.1 t d hlt ht; rw [e] at this; exact List.lt_irrefl _ this
  obtain ⟨p, hpi⟩ : ∃ p, l[i]? = some p := ⟨_, List.getElem?_eq_getElem (by have := (List.getElem?_eq_some_iff.1 ht).1; omega)⟩
  by_cases hti : t = i
  · subst hti
    rw [hitB, ht] at h
    simp [e] at h
  · have h4 := ha i t p d (by omega) hpi ht
    rw [e] at h4
    exact hp.2.2 i p (Nat.le_refl _) hpi h4
theorem hit_yes {l : List Bd} {nm : ByteArray} {i : Nat} (h : hitB l nm i = true) : ∃ d, l[i]? = some d ∧ d.var = nm := by
  unfold hitB at h
  cases e : l[i]? with
  | none => rw [e] at h; cases h
  | some d => rw [e] at h; exact ⟨d, rfl, of_decide_eq_true h⟩

theorem cmpVar_any (d : Bd) (pa : Option Addr) (n ca : Nat) (nm : ByteArray) (w : World) :
    Calls Tryz.prog 130 #[.agg #[.string d.var, .string d.tm.name, .slice pa n ca], .string nm] w (Ans (.int .i64 (Lib.compareBytes d.var.data.toList nm.data.toList)) w) := by
  have h1 := thr_new w (.string d.var) (.string d.tm.name) (.slice pa n ca) 133 _ rfl
  have HB := Lib.hid ((Below.refl w.heap.size w).alloc (Nat.le_refl _) (.cells #[.string d.var, .string d.tm.name, .slice pa n ca] 133))
  have CS := Lib.hid (fun W => Tryz.strings_Compare d.var nm W)
  obtain ⟨b0, b1, b2, b3⟩ := h1
  go_enter Tryz.func130, Tryz.ntmps130
  go_wp2_with fail
  refine (CS.out _).mono ?_
  rintro e w2 ⟨rfl, rfl⟩
  go_wp2
  go_ret
  exact ⟨rfl, HB.out⟩

def LoHi (l : List Bd) (nm : ByteArray) (lo hi : Nat) : Prop :=
  (∀ t d, t < lo → l[t]? = some d → d.var.data.toList < nm.data.toList) ∧ (∀ t d, hi ≤ t → l[t]? = some d → ¬ d.var.data.toList < nm.data.toList)

def FindEnd (l : List Bd) (nm : ByteArray) (w : World) (e : Ending) (w' : World) : Prop :=
  ∃ i : Nat, e = .returned (.tuple #[.int .i64 i, .bool (hitB l nm i)]) ∧ Place l nm i ∧ Below w.heap.size w w'

theorem ret_ib {i : Nat} {a b : Bool} (h : a = b) : Ending.returned (.tuple #[.int .i64 (i : Int), .bool a]) = .returned (.tuple #[.int .i64 (i : Int), .bool b]) := by rw [h]

set_option maxRecDepth 100000 in
set_option maxHeartbeats 4000000 in
theorem bsf_any (l : List Bd) (w : World) (v : Value) (hv : BdS w v l) (hl : l.length ≤ 1048576) (ha : Asc l) (nm : ByteArray) :
    Calls Tryz.prog 129 #[v, .string nm, .func (.func 130) #[] #[]] w (FindEnd l nm w) := by
  obtain ⟨a, c, rfl⟩ := hv.is_slice
  have HV := Lib.hid hv
  have HA := Lib.hid ha
  clear hv ha
  go_enter Tryz.func129, Tryz.ntmps129
  go_wp2
  go_loopw [9, 10] (fun s9 s10 wr => ∃ lo hi : Nat, s9 = .int .i64 lo ∧ s10 = .int .i64 hi ∧ lo ≤ hi ∧ hi ≤ l.length ∧ LoHi l nm lo hi ∧ Below w.heap.size w wr) (fun s9 s10 _ => (intOf s10).toNat - (intOf s9).toNat)
  case atStart => exact ⟨0, l.length, rfl, rfl, Nat.zero_le _, Nat.le_refl _, ⟨fun t d h => absurd h (Nat.not_lt_zero _), fun t d h hd => by have := (List.getElem?_eq_some_iff.1 hd).1; omega⟩, Below.refl _ _⟩
  case round =>
    obtain ⟨lo, hi, rfl, rfl, hlh, hin, hq, hbel⟩ := hrel
    have HQ := Lib.hid hq
    have HB := Lib.hid hbel
    clear hq hbel
    by_cases hlt : lo < hi
    · obtain ⟨d, hd⟩ : ∃ d, l[(lo + hi) / 2]? = some d := ⟨_, List.getElem?_eq_getElem (by omega)⟩
      obtain ⟨b, off, rfl, va, c0, c1, c2, hva⟩ := HV.out.get hd
      obtain ⟨pa, ca, rfl⟩ := hva.is_slice
      have c0' := carry_cell c0 HB.out
      have c1' := carry_cell c1 HB.out
      have c2' := carry_cell c2 HB.out
      have HD := Lib.hid hd
      obtain ⟨z, hz⟩ : ∃ z, z = Lib.compareBytes d.var.data.toList nm.data.toList := ⟨_, rfl⟩
      have HZ : Hid (z < 0 ↔ d.var.data.toList < nm.data.toList) := Lib.hid (by rw [hz]; exact cmp_neg _ _)
      have CC := cmpVar_any d pa d.tm.args.length ca nm wr
      rw [← hz] at CC
      have CC := Lib.hid CC
      clear hd hva c0 c1 c2 hz
      by_cases hyx : z < 0
      · go_wp2_with fail
        refine CC.out.mono ?_
        rintro e w2 ⟨rfl, hb⟩
        have HB2 := Lib.hid (carry_below HB.out (Nat.le_refl _) hb)
        clear hb
        have HQ2 : Hid (LoHi l nm ((lo + hi) / 2 + 1) hi) := Lib.hid ⟨fun t x ht hx => by
          by_cases e : t = (lo + hi) / 2
          · subst e; rw [HD.out] at hx; injection hx with hx; rw [← hx]; exact HZ.out.1 hyx
          · exact List.lt_trans (HA.out t _ x d (by omega) hx HD.out) (HZ.out.1 hyx), HQ.out.2⟩
        go_wp2
        go_roundw
        case rel => exact ⟨(lo + hi) / 2 + 1, hi, by rw [show ((lo : Int) + (hi : Int)) / 2 + 1 = (((lo + hi) / 2 + 1 : Nat) : Int) by omega], rfl, by omega, hin, HQ2.out, HB2.out⟩
        case measure => simp [intOf]; omega
      · go_wp2_with fail
        refine CC.out.mono ?_
        rintro e w2 ⟨rfl, hb⟩
        have HB2 := Lib.hid (carry_below HB.out (Nat.le_refl _) hb)
        clear hb
        have HQ2 : Hid (LoHi l nm lo ((lo + hi) / 2)) := Lib.hid ⟨HQ.out.1, fun t x ht hx => by
          by_cases e : t = (lo + hi) / 2
          · subst e; rw [HD.out] at hx; injection hx with hx; rw [← hx]; exact fun h => absurd (HZ.out.2 h) (by omega)
          · exact fun h => absurd (HZ.out.2 (List.lt_trans (HA.out _ t d x (by omega) HD.out hx) h)) (by omega)⟩
        go_wp2
        go_roundw
        case rel => exact ⟨lo, (lo + hi) / 2, rfl, by rw [show ((lo : Int) + (hi : Int)) / 2 = (((lo + hi) / 2 : Nat) : Int) by omega], by omega, by omega, HQ2.out, HB2.out⟩
        case measure => simp [intOf]; omega
    · obtain rfl : hi = lo := by omega
      have HP : Hid (Place l nm hi) := Lib.hid ⟨hin, HQ.out⟩
      by_cases hn : hi < l.length
      · obtain ⟨d, hd⟩ : ∃ d, l[hi]? = some d := ⟨_, List.getElem?_eq_getElem hn⟩
        obtain ⟨b, off, rfl, va, c0, c1, c2, hva⟩ := HV.out.get hd
        obtain ⟨pa, ca, rfl⟩ := hva.is_slice
        have c0' := carry_cell c0 HB.out
        have c1' := carry_cell c1 HB.out
        have c2' := carry_cell c2 HB.out
        obtain ⟨z, hz⟩ : ∃ z, z = Lib.compareBytes d.var.data.toList nm.data.toList := ⟨_, rfl⟩
        have HZ : Hid (decide (z = 0) = hitB l nm hi) := Lib.hid (by
          rw [hitB, hd, hz]
          show _ = decide _
          rw [decide_eq_decide, cmp_zero]
          exact ⟨fun h => raw_eq h, fun h => by rw [h]⟩)
        have CC := cmpVar_any d pa d.tm.args.length ca nm wr
        rw [← hz] at CC
        have CC := Lib.hid CC
        clear hd hva c0 c1 c2 hz
        by_cases hy : z = 0
        · have HF : Hid (hitB l nm hi = true) := Lib.hid (by rw [← HZ.out, hy]; rfl)
          have hy' : (z == 0) = true := by rw [hy]; rfl
          clear hy
          go_wp2_with fail
          refine CC.out.mono ?_
          rintro e w2 ⟨rfl, hb⟩
          have HB2 := Lib.hid (carry_below HB.out (Nat.le_refl _) hb)
          clear hb
          go_wp2
          go_ret2
          exact ⟨hi, ret_ib HF.out.symm, HP.out, HB2.out⟩
        · have HF : Hid (hitB l nm hi = false) := Lib.hid (by rw [← HZ.out, decide_eq_false hy])
          have hy' : (z == 0) = false := by rw [beq_eq_false_iff_ne]; exact hy
          clear hy
          go_wp2_with fail
          refine CC.out.mono ?_
          rintro e w2 ⟨rfl, hb⟩
          have HB2 := Lib.hid (carry_below HB.out (Nat.le_refl _) hb)
          clear hb
          go_wp2
          go_ret2
          exact ⟨hi, ret_ib HF.out.symm, HP.out, HB2.out⟩
      · have HF : Hid (hitB l nm hi = false) := Lib.hid (by rw [hitB, List.getElem?_eq_none (by omega)])
        go_wp2
        go_ret2
        exact ⟨hi, ret_ib HF.out.symm, HP.out, HB.out⟩

theorem find_any (l : List Bd) (w : World) (v : Value) (hv : BdS w v l) (hl : l.length ≤ 1048576) (ha : Asc l) (nm : ByteArray) :
    Calls Tryz.prog 100 #[v, .string nm] w (FindEnd l nm w) := by
  have CB := Lib.hid (bsf_any l w v hv hl ha nm)
  obtain ⟨a, c, rfl⟩ := hv.is_slice
  clear hv ha
  go_enter Tryz.func100, Tryz.ntmps100
  go_wp2_with fail
  refine CB.out.mono ?_
  rintro e w2 ⟨i, rfl, hp, hb⟩
  have HP := Lib.hid hp
  have HB := Lib.hid hb
  clear hp hb
  go_wp2
  go_ret2
  exact ⟨i, rfl, HP.out, HB.out⟩

end Go.Proofs.YtgpmdfhepanahaaGreat

/- A substitution applied to a term, the model's: contracts, for bindings and terms of at most 1048576 names' bytes, bindings and arguments, the bindings in ascending order. -/
namespace Go.Proofs.YtgpmdfhepanahaaGreat
open Go.RowKit
set_option linter.unusedVariables false

theorem look_asc {l : List Bd} {k : Nat} {d : Bd} (ha : Asc l) (hk : l[k]? = some d) : look l d.var = d.tm :=
  look_some hk rfl (fun j x hj hx e => by
    have h := ha j k x d hj hx hk
    rw [e] at h
    exact List.lt_irrefl _ h)

theorem toEnd_leaf {r : Tm} {n : ByteArray} {w w' : World} (hr : r = .node n []) (hb : Below w.heap.size w w') : ToEnd r w (.returned (.agg #[.string n, .slice none 0 0])) w' := by
  subst hr
  exact ⟨.slice none 0 0, rfl, .emp _ _ _, hb⟩

def AppT (l : List Bd) (t : Tm) : Prop := ∀ (w : World) (v va : Value), BdS w v l → TmS w va t.args → t.wt ≤ 1048576 →
  Calls Tryz.prog 91 #[.agg #[v], .agg #[.string t.name, va]] w (ToEnd (t.app l) w)

set_option maxRecDepth 100000 in
set_option maxHeartbeats 8000000 in
theorem app_of (l : List Bd) (hl : wtB l ≤ 1048576) (hasc : Asc l) (t : Tm) (h : ∀ s ∈ t.args, AppT l s) : AppT l t := by
  intro w v va hv hva hw
  have hl6 : l.length ≤ 1048576 := Nat.le_trans (wtB_len l) hl
  have H := Lib.hid h
  have HASC := Lib.hid hasc
  have HL := Lib.hid (fun (s : Tm) (hs : s ∈ t.args) => Nat.le_trans (Tm.wt_arg hs) hw)
  have HLB := Lib.hid (fun (d : Bd) (hd : d ∈ l) => Nat.le_trans (wtB_tm hd) hl)
  have hlen := Tm.wt_len t
  have hnm : t.name.size ≤ maxLen := by have := t.wt_name; unfold maxLen; omega
  have CV := Lib.hid (fun W => l2Var_any t.name W hnm)
  obtain ⟨a, c, rfl⟩ := hv.is_slice
  obtain ⟨p, q, rfl⟩ := hva.is_slice
  have HBS := Lib.hid hv
  have HV := Lib.hid hva
  obtain ⟨i0, hi, hz0, hz1, hz2⟩ := info_parts infoTm
  have S3 := Lib.hid (((oner_new w (.slice a l.length c) 61 _ rfl).alloc (.cells #[.string t.name, .slice p t.args.length q] 31)).alloc (.cells #[.string ⟨#[]⟩, .slice none 0 0] 31))
  have T3 := Lib.hid ((two_new (w.alloc (.cells #[.slice a l.length c] 61)) (.string t.name) (.slice p t.args.length q) 31 (w.heap.size + 1) (by simp)).alloc (.cells #[.string ⟨#[]⟩, .slice none 0 0] 31))
  have R3 := Lib.hid (two_new ((w.alloc (.cells #[.slice a l.length c] 61)).alloc (.cells #[.string t.name, .slice p t.args.length q] 31)) (.string ⟨#[]⟩) (.slice none 0 0) 31 (w.heap.size + 1 + 1) (by simp))
  have HB := Lib.hid ((((Below.refl w.heap.size w).alloc (Nat.le_refl _) (.cells #[.slice a l.length c] 61)).alloc (by simp) (.cells #[.string t.name, .slice p t.args.length q] 31)).alloc (by simp; omega) (.cells #[.string ⟨#[]⟩, .slice none 0 0] 31))
  clear h hv hva hasc
  cases hvar : varB t.name with
  | true =>
    have HAPP : Hid (t.app l = look l t.name) := Lib.hid (Tm.app_var hvar)
    rw [hvar] at CV
    obtain ⟨x, hx⟩ : ∃ x, x = t.app l := ⟨_, rfl⟩
    rw [← hx] at HAPP ⊢
    clear hx hvar
    go_enter Tryz.func91, Tryz.ntmps91
    obtain ⟨s0, s1⟩ := S3.out
    obtain ⟨b0, b1, b2⟩ := T3.out
    go_wp2_with fail
    refine (CV.out _).mono ?_
    rintro e w3 ⟨rfl, rfl⟩
    go_wp2_with fail
    refine (l4Find_any l _ _ (HBS.out.kept HB.out) hl6 t.name).mono ?_
    rintro e w4 ⟨hcase, hb⟩
    have HB4 := Lib.hid (carry_below HB.out (Nat.le_refl _) hb)
    have S4 := Lib.hid (S3.out.kept hb)
    have T4 := Lib.hid (T3.out.kept hb)
    have R4 := Lib.hid (R3.out.kept hb)
    clear s0 s1 b0 b1 b2 hb
    obtain ⟨s0, s1⟩ := S4.out
    obtain ⟨b0, b1, b2⟩ := T4.out
    obtain ⟨r0, r1, r2⟩ := R4.out
    rcases hcase with ⟨hno, rfl⟩ | ⟨i, d, hd, hdv, rfl⟩
    · have HE : Hid (x = .node t.name []) := Lib.hid (by rw [HAPP.out]; exact look_none hno)
      clear hno
      go_wp2
      refine bodyPost_ret (v := .agg #[.string t.name, .slice none 0 0]) (by simp [results, Tryz.results91, go_sem, r0, r1]) rfl ?_
      exact toEnd_leaf HE.out ((HB4.out.setCell (by simp; omega) _).setCell (by simp; omega) _)
    · have HE : Hid (x = d.tm) := Lib.hid (by rw [HAPP.out, ← hdv]; exact look_asc HASC.out hd)
      obtain ⟨b, off, rfl, vb, c0, c1, c2, hvb⟩ := HBS.out.get hd
      obtain ⟨pb, qb, rfl⟩ := hvb.is_slice
      have c1' := carry_cell c1 HB4.out
      have c2' := carry_cell c2 HB4.out
      have HVB := Lib.hid (hvb.kept HB4.out)
      have hil : (i : Int) < l.length := by have := (List.getElem?_eq_some_iff.1 hd).1; omega
      have hi0 : (0 : Int) ≤ i := by omega
      have HDW := Lib.hid (HLB.out d (List.mem_of_getElem? hd))
      clear hd hdv c0 c1 c2 hvb
      go_wp2_with fail
      refine (l2Own_any d.tm _ _ HVB.out HDW.out).mono ?_
      rintro e w5 ⟨v5, rfl, ho, hb⟩
      obtain ⟨p5, q5, rfl⟩ := ho.read.is_slice
      have HB5 := Lib.hid (carry_below HB4.out (Nat.le_refl _) hb)
      have HO := Lib.hid ho
      have hz4 : w.heap.size + 1 + 1 < w4.heap.size := World.block_lt_of_cell? w4 _ r0
      clear s0 s1 b0 b1 b2 r0 r1 r2 c1' c2' ho
      obtain ⟨r0, r1, r2⟩ := R4.out.kept hb
      clear hb
      rw [← HE.out] at HO ⊢
      go_wp2
      refine bodyPost_ret (v := .agg #[.string x.name, .slice p5 x.args.length q5]) (by simp [results, Tryz.results91, go_sem, r0, r1]) rfl ⟨_, rfl, ?_, ?_⟩
      · refine ((HO.out.setCell (fun h => by have := h.1; simp at this; omega) _).setCell (fun h => by have := h.1; simp at this; omega) _).mono fun y hy => ⟨?_, ?_⟩
        · have := hy.1; omega
        · simp only [size_setCell]; exact hy.2
      · exact (HB5.out.setCell (by simp; omega) _).setCell (by simp; omega) _
  | false =>
    have HAPP : Hid (t.app l = .node t.name (Tm.appL l t.args)) := Lib.hid (Tm.app_sym hvar)
    have HAL := Lib.hid (Tm.appL_len l t.args)
    rw [hvar] at CV
    obtain ⟨w3, hw3⟩ : ∃ w3, ((w.alloc (.cells #[.slice a l.length c] 61)).alloc (.cells #[.string t.name, .slice p t.args.length q] 31)).alloc (.cells #[.string ⟨#[]⟩, .slice none 0 0] 31) = w3 := ⟨_, rfl⟩
    have hz3 : w3.heap.size = w.heap.size + 3 := by rw [← hw3]; simp
    have HZ3 := Lib.hid hz3
    obtain ⟨W0, hW0⟩ : ∃ W0, W0 = w3.alloc (.cells #[.string t.name, .slice none 0 0] 31) := ⟨_, rfl⟩
    have HWZ : Hid (W0.heap.size = w.heap.size + 4) := Lib.hid (by rw [hW0]; simp [hz3])
    rw [hw3] at S3 T3 R3 HB
    have HB' := Lib.hid (HB.out.alloc HB.out.size (.cells #[.string t.name, .slice none 0 0] 31))
    have HR0 : Hid (OwnRel w W0 (w3.alloc (.cells #[.string t.name, .slice none 0 0] 31)) (.slice none 0 0) (Tm.appL l t.args) 0) := Lib.hid ⟨_, _, _, World.ownsRow_nil _ _ _ _, Made.start _ _ _ _, fun g hg => by simp [Value.ownBlock] at hg, HB'.out, by rw [hW0]; exact Nat.le_refl _⟩
    have S4 := Lib.hid (S3.out.alloc (.cells #[.string t.name, .slice none 0 0] 31))
    have T4 := Lib.hid (T3.out.alloc (.cells #[.string t.name, .slice none 0 0] 31))
    have R4 := Lib.hid (R3.out.alloc (.cells #[.string t.name, .slice none 0 0] 31))
    have O4 := Lib.hid (two_new w3 (.string t.name) (.slice none 0 0) 31 (w.heap.size + 3) HZ3.out.symm)
    clear hW0
    obtain ⟨x, hx⟩ : ∃ x, x = t.app l := ⟨_, rfl⟩
    rw [← hx] at HAPP ⊢
    clear hx hvar
    go_enter Tryz.func91, Tryz.ntmps91
    obtain ⟨b0, b1, b2⟩ := T3.out
    go_wp2_with fail
    refine (CV.out _).mono ?_
    rintro e w3' ⟨rfl, rfl⟩
    clear hw3
    go_wp2
    clear b0 b1 b2
    go_loopw [7] (fun i wr => ∃ (k : Nat) (vo : Value), k ≤ t.args.length ∧ i = .int .i64 k ∧ OwnRel w W0 wr vo (Tm.appL l t.args) k ∧ Oner wr w.heap.size (.slice a l.length c) ∧ Two wr (w.heap.size + 1) (.string t.name) (.slice p t.args.length q) ∧ Two wr (w.heap.size + 1 + 1) (.string ⟨#[]⟩) (.slice none 0 0) ∧ Two wr (w.heap.size + 3) (.string t.name) vo) (fun i _ => t.args.length - (intOf i).toNat)
    case atStart => exact ⟨0, _, Nat.zero_le _, rfl, HR0.out, S4.out, T4.out, R4.out, O4.out⟩
    case round =>
      obtain ⟨k, vo, hk, rfl, hrel, hsub, htwo, hres, hout⟩ := hrel
      have HR := Lib.hid hrel
      have HSB := Lib.hid hsub
      have HTW := Lib.hid htwo
      have HRS := Lib.hid hres
      have HOU := Lib.hid hout
      obtain ⟨xs, f, Ss, hown, hm, hne, hbe, hz⟩ := hrel
      have HOWN := Lib.hid hown
      have HM := Lib.hid hm
      have HNE := Lib.hid hne
      have HBE := Lib.hid hbe
      have HZ := Lib.hid hz
      obtain ⟨s0, s1⟩ := hsub
      obtain ⟨d0, d1, d2⟩ := htwo
      obtain ⟨o0, o1, o2⟩ := hout
      clear hown hm hne hbe hz hres
      by_cases hlt : k < t.args.length
      · obtain ⟨s, hs⟩ : ∃ s, t.args[k]? = some s := ⟨_, List.getElem?_eq_getElem hlt⟩
        obtain ⟨b, off, rfl, vs, c0, c1, hvs⟩ := HV.out.get hs
        have c0' := carry_cell c0 HBE.out
        have c1' := carry_cell c1 HBE.out
        have HVA := Lib.hid (hvs.kept HBE.out)
        have HS := Lib.hid hs
        have HLT : Hid (b < w.heap.size) := Lib.hid (World.block_lt_of_cell? w _ c0)
        obtain ⟨y, hy⟩ : ∃ y, y = s.app l := ⟨_, rfl⟩
        have HSY : Hid ((Tm.appL l t.args)[k]? = some y) := Lib.hid (by rw [hy]; exact Tm.appL_at hs)
        have C0 : Hid (∀ W : World, Below wr.heap.size wr W → Calls Tryz.prog 91 #[.agg #[.slice a l.length c], .agg #[.string s.name, vs]] W (ToEnd y W)) := Lib.hid (fun W hW => by rw [hy]; exact H.out s (mem_of_at HS.out) W _ _ ((HBS.out.kept HBE.out).kept hW) (HVA.out.kept hW) (HL.out s (mem_of_at HS.out)))
        clear hs c0 c1 hvs hy
        have hB0 : Below wr.heap.size wr wr.drew := (Below.refl _ _).drew
        have hWZ : w.heap.size + 3 < W0.heap.size := by have := HWZ.out; omega
        have hWa : w.heap.size < W0.heap.size := by have := HWZ.out; omega
        have hWc : w.heap.size + 1 < W0.heap.size := by have := HWZ.out; omega
        have hWd : w.heap.size + 1 + 1 < W0.heap.size := by have := HWZ.out; omega
        have hW3a : w.heap.size ≠ w.heap.size + 3 := by omega
        have hW3b : w.heap.size + 1 ≠ w.heap.size + 3 := by omega
        have hW3c : w.heap.size + 1 + 1 ≠ w.heap.size + 3 := by omega
        have hWb : b < W0.heap.size := by have := HLT.out; omega
        have HFAR : Hid (∀ g, vo.ownBlock = some g → W0.heap.size ≤ g) := Lib.hid (fun g hg => (HOWN.out.lt g hg).1)
        go_wp2_with fail
        go_region_law (first
            | (refine step_append_lies _ (by rfl) _ _ _ (by rfl) W0.heap.size 31 i0 _ 2 40 Tryz.underlying29 hi hz0 hz1 hz2 rfl (by omega) vo k xs (by rfl) (HW6.out.alloc _) ⟨w6.heap.size, 0, none⟩ 1 1 [.string y.name, .slice pv y.args.length cv] (by rfl) (by rfl) (World.news_of_block (cs := #[.string y.name, .slice pv y.args.length cv]) (t := 31) (fr := (0, 0)) (heap_alloc_new w6 _)) (by simp [Value.oneCell']) (by omega) (by unfold maxLen; omega) (by omega) (by have := hB6.size; have := HZ.out; simp; omega) (w6.heap.size + 1) (by simp) ?_; intro gg cap w7 hown7 hgrow hat hlt7; have s5 := app_cell hgrow q4 (far_row HFAR.out hWa); have s0 := app_cell hgrow q0 (far_row HFAR.out hWc); have s1 := app_cell hgrow q1 (far_row HFAR.out hWZ); have s2 := app_cell hgrow q2 (far_row HFAR.out hWb); have s3 := app_cell hgrow q3 (far_row HFAR.out hWb); have s4 := (app_two hgrow O6.out (far_row HFAR.out hWZ)).2.2; have HOWN7 := Lib.hid hown7; have HGROW7 := Lib.hid hgrow; have HAT7 := Lib.hid hat; clear hown7 hgrow hat)
            | (go_simp; go_at_call 91; refine (C0.out _ hB0).mono ?_; rintro e w6 ⟨v6, rfl, ho, hb⟩; have q0 := carry_cell' hb d1; have q1 := carry_cell' hb o1; have q2 := carry_cell' hb c0'; have q3 := carry_cell' hb c1'; have q4 := carry_cell' hb s0; have hB6 := carry_below hB0 (Nat.le_refl _) hb; obtain ⟨pv, cv, rfl⟩ := ho.read.is_slice; have HO6 := Lib.hid ho; have HW6 := Lib.hid (own_kept HOWN.out hB6); have U6 := Lib.hid (HSB.out.kept hB6); have T6 := Lib.hid (HTW.out.kept hB6); have R6 := Lib.hid (HRS.out.kept hB6); have O6 := Lib.hid (HOU.out.kept hB6); have hz6 : w.heap.size + 3 < w6.heap.size := World.block_lt_of_cell? w6 _ q1; clear hb ho))
        all_goals
          have HN : Hid (OwnRel w W0 (w7.setCell ⟨w.heap.size + 3, 1, none⟩ (.slice (some ⟨gg, 0, none⟩) (k + 1) cap)) (.slice (some ⟨gg, 0, none⟩) (k + 1) cap) (Tm.appL l t.args) (k + 1)) := Lib.hid (OwnRel.next (by omega) HBE.out HOWN.out HM.out HNE.out HZ.out HSY.out HO6.out hB6 HOWN7.out HGROW7.out HAT7.out hWZ (by simp))
          have HU7 : Hid (Oner (w7.setCell ⟨w.heap.size + 3, 1, none⟩ (.slice (some ⟨gg, 0, none⟩) (k + 1) cap)) w.heap.size (.slice a l.length c)) := Lib.hid ((app_one HGROW7.out U6.out (far_row HFAR.out hWa)).setFar (fun e => hW3a e.symm) _)
          have HT7 : Hid (Two (w7.setCell ⟨w.heap.size + 3, 1, none⟩ (.slice (some ⟨gg, 0, none⟩) (k + 1) cap)) (w.heap.size + 1) (.string t.name) (.slice (some ⟨b, off, none⟩) t.args.length q)) := Lib.hid ((app_two HGROW7.out T6.out (far_row HFAR.out hWc)).setFar (fun e => hW3b e.symm) _)
          have HS7 : Hid (Two (w7.setCell ⟨w.heap.size + 3, 1, none⟩ (.slice (some ⟨gg, 0, none⟩) (k + 1) cap)) (w.heap.size + 1 + 1) (.string ⟨#[]⟩) (.slice none 0 0)) := Lib.hid ((app_two HGROW7.out R6.out (far_row HFAR.out hWd)).setFar (fun e => hW3c e.symm) _)
          have HO7 : Hid (Two (w7.setCell ⟨w.heap.size + 3, 1, none⟩ (.slice (some ⟨gg, 0, none⟩) (k + 1) cap)) (w.heap.size + 3) (.string t.name) (.slice (some ⟨gg, 0, none⟩) (k + 1) cap)) := Lib.hid ((app_two HGROW7.out O6.out (far_row HFAR.out hWZ)).setOne _)
          clear s0 s1 s2 s3 s4 s5 q0 q1 q2 q3 q4 d0 d1 d2 o0 o1 o2 c0' c1' hB0 hB6
          go_wp2
          go_roundw
          case rel => exact ⟨k + 1, _, by omega, by go_num, HN.out, HU7.out, HT7.out, HS7.out, HO7.out⟩
          case measure => simp [intOf]; omega
      · have hke : k = (Tm.appL l t.args).length := by have := HAL.out; omega
        have hkt : k = t.args.length := by omega
        have HE0 : OwnRel w W0 wr vo (Tm.appL l t.args) (Tm.appL l t.args).length := by rw [← hke]; exact HR.out
        have HE := Lib.hid HE0.whole
        have HVS : ∃ p q, vo = .slice p t.args.length q := by
          obtain ⟨p, q, e⟩ := HE0.whole.read.is_slice; exact ⟨p, q, by rw [e, HAL.out]⟩
        obtain ⟨p2, q2, rfl⟩ := HVS
        clear hke HE0
        obtain ⟨r0, r1, r2⟩ := HRS.out
        go_wp2
        refine bodyPost_ret (v := .agg #[.string t.name, .slice p2 t.args.length q2]) (by simp [results, Tryz.results91, go_sem, r0, r1]) rfl ?_
        rw [HAPP.out]
        refine ⟨_, rfl, ?_, ?_⟩
        · refine ((HE.out.setCell (by have := HWZ.out; simp [Fresh]; omega) _).setCell (by have := HWZ.out; simp [Fresh]; omega) _).mono fun x hx => ?_
          have h1 := hx.1
          have h2 := hx.2
          have := HWZ.out
          exact ⟨by omega, by simp only [size_setCell]; omega⟩
        · exact (HBE.out.setCell (by simp; omega) _).setCell (by simp; omega) _

theorem l4Apply_any (l : List Bd) (hl : wtB l ≤ 1048576) (hasc : Asc l) (t : Tm) : AppT l t := Tm.ind (P := AppT l) (app_of l hl hasc) t

end Go.Proofs.YtgpmdfhepanahaaGreat

/- A substitution applied to a term, the program's: contracts, for bindings and terms of at most 1048576 names' bytes, bindings and arguments, the bindings in ascending order. -/
namespace Go.Proofs.YtgpmdfhepanahaaGreat
open Go.RowKit
set_option linter.unusedVariables false

set_option maxRecDepth 100000 in
set_option maxHeartbeats 4000000 in
theorem termFor_any (l : List Bd) (hl : wtB l ≤ 1048576) (hasc : Asc l) (nm : ByteArray) (w : World) (v : Value) (hv : BdS w v l) :
    Calls Tryz.prog 56 #[.agg #[v], .string nm] w (ToEnd (look l nm) w) := by
  have hl6 : l.length ≤ 1048576 := Nat.le_trans (wtB_len l) hl
  have HASC := Lib.hid hasc
  have HLB := Lib.hid (fun (d : Bd) (hd : d ∈ l) => Nat.le_trans (wtB_tm hd) hl)
  obtain ⟨a, c, rfl⟩ := hv.is_slice
  have HBS := Lib.hid hv
  have S3 := Lib.hid ((oner_new w (.slice a l.length c) 61 _ rfl).alloc (.cells #[.string ⟨#[]⟩, .slice none 0 0] 31))
  have R3 := Lib.hid (two_new (w.alloc (.cells #[.slice a l.length c] 61)) (.string ⟨#[]⟩) (.slice none 0 0) 31 (w.heap.size + 1) (by simp))
  have HB := Lib.hid (((Below.refl w.heap.size w).alloc (Nat.le_refl _) (.cells #[.slice a l.length c] 61)).alloc (by simp) (.cells #[.string ⟨#[]⟩, .slice none 0 0] 31))
  obtain ⟨x, hx⟩ : ∃ x, x = look l nm := ⟨_, rfl⟩
  rw [← hx]
  have HX := Lib.hid hx
  clear hv hasc hx
  obtain ⟨s0, s1⟩ := S3.out
  go_enter Tryz.func56, Tryz.ntmps56
  go_wp2_with fail
  refine (find_any l _ _ (HBS.out.kept HB.out) hl6 HASC.out nm).mono ?_
  rintro e w4 ⟨i, rfl, hp, hb⟩
  have HB4 := Lib.hid (carry_below HB.out (Nat.le_refl _) hb)
  have S4 := Lib.hid (S3.out.kept hb)
  have R4 := Lib.hid (R3.out.kept hb)
  have HP := Lib.hid hp
  clear s0 s1 hb hp
  obtain ⟨s0, s1⟩ := S4.out
  obtain ⟨r0, r1, r2⟩ := R4.out
  cases hh : hitB l nm i with
  | false =>
    have HE : Hid (x = .node nm []) := Lib.hid (by rw [HX.out]; exact look_none (bound_no.2 (hit_no HP.out HASC.out hh)))
    clear hh
    go_wp2
    refine bodyPost_ret (v := .agg #[.string nm, .slice none 0 0]) (by simp [results, Tryz.results56, go_sem, r0, r1]) rfl ?_
    exact toEnd_leaf HE.out ((HB4.out.setCell (by simp) _).setCell (by simp) _)
  | true =>
    obtain ⟨d, hd, hdv⟩ := hit_yes hh
    have HE : Hid (x = d.tm) := Lib.hid (by rw [HX.out, ← hdv]; exact look_asc HASC.out hd)
    obtain ⟨b, off, rfl, vb, c0, c1, c2, hvb⟩ := HBS.out.get hd
    obtain ⟨pb, qb, rfl⟩ := hvb.is_slice
    have c1' := carry_cell c1 HB4.out
    have c2' := carry_cell c2 HB4.out
    have HVB := Lib.hid (hvb.kept HB4.out)
    have hil : (i : Int) < l.length := by have := (List.getElem?_eq_some_iff.1 hd).1; omega
    have hi0 : (0 : Int) ≤ i := by omega
    have HDW := Lib.hid (HLB.out d (List.mem_of_getElem? hd))
    clear hd hdv c0 c1 c2 hvb hh
    go_wp2_with fail
    refine (copyTerm_any d.tm _ _ HVB.out HDW.out).mono ?_
    rintro e w5 ⟨v5, rfl, ho, hb⟩
    obtain ⟨p5, q5, rfl⟩ := ho.read.is_slice
    have HB5 := Lib.hid (carry_below HB4.out (Nat.le_refl _) hb)
    have HO := Lib.hid ho
    have hz4 : w.heap.size + 1 < w4.heap.size := World.block_lt_of_cell? w4 _ r0
    clear s0 s1 r0 r1 r2 c1' c2' ho
    obtain ⟨r0, r1, r2⟩ := R4.out.kept hb
    clear hb
    rw [← HE.out] at HO ⊢
    go_wp2
    refine bodyPost_ret (v := .agg #[.string x.name, .slice p5 x.args.length q5]) (by simp [results, Tryz.results56, go_sem, r0, r1]) rfl ⟨_, rfl, ?_, ?_⟩
    · refine ((HO.out.setCell (fun h => by have := h.1; simp at this; omega) _).setCell (fun h => by have := h.1; simp at this; omega) _).mono fun y hy => ⟨?_, ?_⟩
      · have := hy.1; omega
      · simp only [size_setCell]; exact hy.2
    · exact (HB5.out.setCell (by simp) _).setCell (by simp) _

/-- The function value that replaces a variable by what the bindings give. -/
def tf (v : Value) : Value := .func (.func 56) #[.agg #[v]] #[]

def RepT (l : List Bd) (t : Tm) : Prop := ∀ (w : World) (v va : Value), BdS w v l → TmS w va t.args → t.wt ≤ 1048576 →
  Calls Tryz.prog 98 #[.agg #[.string t.name, va], tf v] w (ToEnd (t.app l) w)

set_option maxRecDepth 100000 in
set_option maxHeartbeats 8000000 in
theorem repl_of (l : List Bd) (hl : wtB l ≤ 1048576) (hasc : Asc l) (t : Tm) (h : ∀ s ∈ t.args, RepT l s) : RepT l t := by
  intro w v va hv hva hw
  have H := Lib.hid h
  have HASC := Lib.hid hasc
  have HL := Lib.hid (fun (s : Tm) (hs : s ∈ t.args) => Nat.le_trans (Tm.wt_arg hs) hw)
  have hlen := Tm.wt_len t
  have hnm : t.name.size ≤ maxLen := by have := t.wt_name; unfold maxLen; omega
  have CV := Lib.hid (fun W => isVar_any t.name W hnm)
  obtain ⟨a, c, rfl⟩ := hv.is_slice
  obtain ⟨p, q, rfl⟩ := hva.is_slice
  have HBS := Lib.hid hv
  have HV := Lib.hid hva
  obtain ⟨i0, hi, hz0, hz1, hz2⟩ := info_parts infoTm
  have T3 := Lib.hid ((two_new w (.string t.name) (.slice p t.args.length q) 31 _ rfl).alloc (.cells #[.string ⟨#[]⟩, .slice none 0 0] 31))
  have R3 := Lib.hid (two_new (w.alloc (.cells #[.string t.name, .slice p t.args.length q] 31)) (.string ⟨#[]⟩) (.slice none 0 0) 31 (w.heap.size + 1) (by simp))
  have HB := Lib.hid (((Below.refl w.heap.size w).alloc (Nat.le_refl _) (.cells #[.string t.name, .slice p t.args.length q] 31)).alloc (by simp) (.cells #[.string ⟨#[]⟩, .slice none 0 0] 31))
  unfold tf
  clear h hv hva hasc
  cases hvar : varB t.name with
  | true =>
    have HAPP : Hid (t.app l = look l t.name) := Lib.hid (Tm.app_var hvar)
    rw [hvar] at CV
    rw [HAPP.out]
    obtain ⟨x, hx⟩ : ∃ x, x = look l t.name := ⟨_, rfl⟩
    have CT := Lib.hid (fun (W : World) (hW : BdS W (.slice a l.length c) l) => termFor_any l hl HASC.out t.name W _ hW)
    rw [← hx] at CT ⊢
    clear hx hvar
    go_enter Tryz.func98, Tryz.ntmps98
    obtain ⟨b0, b1, b2⟩ := T3.out
    go_wp2_with fail
    refine (CV.out _).mono ?_
    rintro e w3 ⟨rfl, rfl⟩
    go_wp2_with fail
    refine (CT.out _ (HBS.out.kept HB.out)).mono ?_
    rintro e w5 ⟨v5, rfl, ho, hb⟩
    obtain ⟨p5, q5, rfl⟩ := ho.read.is_slice
    have HB5 := Lib.hid (carry_below HB.out (Nat.le_refl _) hb)
    have HO := Lib.hid ho
    obtain ⟨r0, r1, r2⟩ := R3.out.kept hb
    clear hb b0 b1 b2 ho
    go_wp2
    refine bodyPost_ret (v := .agg #[.string x.name, .slice p5 x.args.length q5]) (by simp [results, Tryz.results98, go_sem, r0, r1]) rfl ⟨_, rfl, ?_, ?_⟩
    · refine ((HO.out.setCell (fun h => by have := h.1; simp at this; omega) _).setCell (fun h => by have := h.1; simp at this; omega) _).mono fun y hy => ⟨?_, ?_⟩
      · have := hy.1; simp at this; omega
      · simp only [size_setCell]; exact hy.2
    · exact (HB5.out.setCell (by simp) _).setCell (by simp) _
  | false =>
    have HAPP : Hid (t.app l = .node t.name (Tm.appL l t.args)) := Lib.hid (Tm.app_sym hvar)
    have HAL := Lib.hid (Tm.appL_len l t.args)
    rw [hvar] at CV
    obtain ⟨w3, hw3⟩ : ∃ w3, (w.alloc (.cells #[.string t.name, .slice p t.args.length q] 31)).alloc (.cells #[.string ⟨#[]⟩, .slice none 0 0] 31) = w3 := ⟨_, rfl⟩
    have hz3 : w3.heap.size = w.heap.size + 2 := by rw [← hw3]; simp
    have HZ3 := Lib.hid hz3
    obtain ⟨W0, hW0⟩ : ∃ W0, W0 = w3.alloc (.cells #[.string t.name, .slice none 0 0] 31) := ⟨_, rfl⟩
    have HWZ : Hid (W0.heap.size = w.heap.size + 3) := Lib.hid (by rw [hW0]; simp [hz3])
    rw [hw3] at T3 R3 HB
    have HB' := Lib.hid (HB.out.alloc HB.out.size (.cells #[.string t.name, .slice none 0 0] 31))
    have HR0 : Hid (OwnRel w W0 (w3.alloc (.cells #[.string t.name, .slice none 0 0] 31)) (.slice none 0 0) (Tm.appL l t.args) 0) := Lib.hid ⟨_, _, _, World.ownsRow_nil _ _ _ _, Made.start _ _ _ _, fun g hg => by simp [Value.ownBlock] at hg, HB'.out, by rw [hW0]; exact Nat.le_refl _⟩
    have T4 := Lib.hid (T3.out.alloc (.cells #[.string t.name, .slice none 0 0] 31))
    have R4 := Lib.hid (R3.out.alloc (.cells #[.string t.name, .slice none 0 0] 31))
    have O4 := Lib.hid (two_new w3 (.string t.name) (.slice none 0 0) 31 (w.heap.size + 1 + 1) HZ3.out.symm)
    clear hW0
    obtain ⟨x, hx⟩ : ∃ x, x = t.app l := ⟨_, rfl⟩
    rw [← hx] at HAPP ⊢
    clear hx hvar
    go_enter Tryz.func98, Tryz.ntmps98
    obtain ⟨b0, b1, b2⟩ := T3.out
    go_wp2_with fail
    refine (CV.out _).mono ?_
    rintro e w3' ⟨rfl, rfl⟩
    clear hw3
    have a0 := T4.out.1
    have a1 := T4.out.2.1
    go_wp2
    clear b0 b1 b2 a0 a1
    go_loopw [21] (fun i wr => ∃ (k : Nat) (vo : Value), k ≤ t.args.length ∧ i = .int .i64 k ∧ OwnRel w W0 wr vo (Tm.appL l t.args) k ∧ Two wr w.heap.size (.string t.name) (.slice p t.args.length q) ∧ Two wr (w.heap.size + 1) (.string ⟨#[]⟩) (.slice none 0 0) ∧ Two wr (w.heap.size + 1 + 1) (.string t.name) vo) (fun i _ => t.args.length - (intOf i).toNat)
    case atStart => exact ⟨0, _, Nat.zero_le _, rfl, HR0.out, T4.out, R4.out, O4.out⟩
    case round =>
      obtain ⟨k, vo, hk, rfl, hrel, htwo, hres, hout⟩ := hrel
      have HR := Lib.hid hrel
      have HTW := Lib.hid htwo
      have HRS := Lib.hid hres
      have HOU := Lib.hid hout
      by_cases hlt : k < t.args.length
      · obtain ⟨s, hs⟩ : ∃ s, t.args[k]? = some s := ⟨_, List.getElem?_eq_getElem hlt⟩
        obtain ⟨b, off, rfl, vs, c0, c1, hvs⟩ := HV.out.get hs
        obtain ⟨ps, qs, rfl⟩ := hvs.is_slice
        -- the round's own copy of the argument
        obtain ⟨wq, hwq⟩ : ∃ wq, wr.alloc (.cells #[.string s.name, .slice ps s.args.length qs] 31) = wq := ⟨_, rfl⟩
        have hbq : Below wr.heap.size wr wq := by rw [← hwq]; exact (Below.refl _ _).alloc (Nat.le_refl _) _
        obtain ⟨xs, f, Ss, hown, hm, hne, hbe, hz⟩ := hrel
        have e0 := carry_cell c0 hbe
        have e1 := carry_cell c1 hbe
        have hown : wq.ownsRow W0.heap.size 31 2 vo k xs := own_kept hown hbq
        have hm : Made W0 wq xs (Tm.appL l t.args) k f Ss := hm.keep hbq.size (fun i b hi hb => hbq.block b (hm.sub i b hi hb).2)
        have hbe : Below w.heap.size w wq := carry_below hbe (Nat.le_refl _) hbq
        have hz : W0.heap.size ≤ wq.heap.size := Nat.le_trans hz hbq.size
        have HOWN := Lib.hid hown
        have HM := Lib.hid hm
        have HNE := Lib.hid hne
        have HBE := Lib.hid hbe
        have HZ := Lib.hid hz
        have HTW := Lib.hid (HTW.out.kept hbq)
        have HRS := Lib.hid (HRS.out.kept hbq)
        have HOU := Lib.hid (HOU.out.kept hbq)
        have HQQ : Hid (Two wq wr.heap.size (.string s.name) (.slice ps s.args.length qs)) := Lib.hid (by rw [← hwq]; exact two_new _ _ _ _ _ rfl)
        have hzq : W0.heap.size ≤ wr.heap.size := by
          obtain ⟨_, _, _, _, _, _, _, h⟩ := HR.out; exact h
        have HVA := Lib.hid (hvs.kept HBE.out)
        have HS := Lib.hid hs
        obtain ⟨y, hy⟩ : ∃ y, y = s.app l := ⟨_, rfl⟩
        have HSY : Hid ((Tm.appL l t.args)[k]? = some y) := Lib.hid (by rw [hy]; exact Tm.appL_at hs)
        have C0 : Hid (∀ W : World, Below wq.heap.size wq W → Calls Tryz.prog 98 #[.agg #[.string s.name, .slice ps s.args.length qs], .func (.func 56) #[.agg #[.slice a l.length c]] #[]] W (ToEnd y W)) := Lib.hid (fun W hW => by rw [hy]; exact H.out s (mem_of_at HS.out) W _ _ ((HBS.out.kept HBE.out).kept hW) (HVA.out.kept hW) (HL.out s (mem_of_at HS.out)))
        clear hs c0 c1 hvs hy hown hm hne hbe hz htwo hres hout
        obtain ⟨o0, o1, o2⟩ := HOU.out
        obtain ⟨d0, d1, d2⟩ := HQQ.out
        have hWZ : w.heap.size + 1 + 1 < W0.heap.size := by have := HWZ.out; omega
        have hWa : w.heap.size < W0.heap.size := by have := HWZ.out; omega
        have hWc : w.heap.size + 1 < W0.heap.size := by have := HWZ.out; omega
        have HFAR : Hid (∀ g, vo.ownBlock = some g → W0.heap.size ≤ g) := Lib.hid (fun g hg => (HOWN.out.lt g hg).1)
        have HFB : Hid (some wr.heap.size ≠ vo.ownBlock) := Lib.hid (fun e => by
          obtain ⟨xs, f, Ss, h1, _⟩ := HR.out
          have := h1.lt _ e.symm; omega)
        go_wp2_with fail
        have hB0 : Below wq.heap.size wq wq.drew := (Below.refl _ _).drew
        clear hbq e0 e1
        clear hwq
        go_region_law (first
            | (refine step_append_lies _ (by rfl) _ _ _ (by rfl) W0.heap.size 31 i0 _ 2 40 Tryz.underlying29 hi hz0 hz1 hz2 rfl (by omega) vo k xs (by rfl) (HW6.out.alloc _) ⟨w6.heap.size, 0, none⟩ 1 1 [.string y.name, .slice pv y.args.length cv] (by rfl) (by rfl) (World.news_of_block (cs := #[.string y.name, .slice pv y.args.length cv]) (t := 31) (fr := (0, 0)) (heap_alloc_new w6 _)) (by simp [Value.oneCell']) (by omega) (by unfold maxLen; omega) (by omega) (by have := hB6.size; have := HZ.out; simp; omega) (w6.heap.size + 1) (by simp) ?_; intro gg cap w7 hown7 hgrow hat hlt7; have s1 := app_cell hgrow q1 (far_row HFAR.out hWZ); have s2 := app_cell hgrow q2 HFB.out; have s3 := app_cell hgrow q3 HFB.out; have s4 := (app_two hgrow O6.out (far_row HFAR.out hWZ)).2.2; have HOWN7 := Lib.hid hown7; have HGROW7 := Lib.hid hgrow; have HAT7 := Lib.hid hat; clear hown7 hgrow hat)
            | (go_simp; go_at_call 98; refine (C0.out _ hB0).mono ?_; rintro e w6 ⟨v6, rfl, ho, hb⟩; have q1 := carry_cell' hb o1; have q2 := carry_cell' hb d0; have q3 := carry_cell' hb d1; have hB6 := carry_below hB0 (Nat.le_refl _) hb; obtain ⟨pv, cv, rfl⟩ := ho.read.is_slice; have HO6 := Lib.hid ho; have HW6 := Lib.hid (own_kept HOWN.out hB6); have T6 := Lib.hid (HTW.out.kept hB6); have R6 := Lib.hid (HRS.out.kept hB6); have O6 := Lib.hid (HOU.out.kept hB6); have hz6 : w.heap.size + 1 + 1 < w6.heap.size := World.block_lt_of_cell? w6 _ q1; clear hb ho))
        all_goals
          have HN : Hid (OwnRel w W0 (w7.setCell ⟨w.heap.size + 1 + 1, 1, none⟩ (.slice (some ⟨gg, 0, none⟩) (k + 1) cap)) (.slice (some ⟨gg, 0, none⟩) (k + 1) cap) (Tm.appL l t.args) (k + 1)) := Lib.hid (OwnRel.next (by have := HWZ.out; omega) HBE.out HOWN.out HM.out HNE.out HZ.out HSY.out HO6.out hB6 HOWN7.out HGROW7.out HAT7.out hWZ (by simp; omega))
          have HT7 : Hid (Two (w7.setCell ⟨w.heap.size + 1 + 1, 1, none⟩ (.slice (some ⟨gg, 0, none⟩) (k + 1) cap)) w.heap.size (.string t.name) (.slice (some ⟨b, off, none⟩) t.args.length q)) := Lib.hid ((app_two HGROW7.out T6.out (far_row HFAR.out hWa)).setFar (by simp; omega) _)
          have HS7 : Hid (Two (w7.setCell ⟨w.heap.size + 1 + 1, 1, none⟩ (.slice (some ⟨gg, 0, none⟩) (k + 1) cap)) (w.heap.size + 1) (.string ⟨#[]⟩) (.slice none 0 0)) := Lib.hid ((app_two HGROW7.out R6.out (far_row HFAR.out hWc)).setFar (by simp) _)
          have HO7 : Hid (Two (w7.setCell ⟨w.heap.size + 1 + 1, 1, none⟩ (.slice (some ⟨gg, 0, none⟩) (k + 1) cap)) (w.heap.size + 1 + 1) (.string t.name) (.slice (some ⟨gg, 0, none⟩) (k + 1) cap)) := Lib.hid ((app_two HGROW7.out O6.out (far_row HFAR.out hWZ)).setOne _)
          clear s1 s2 s3 s4 q1 q2 q3 d0 d1 d2 o0 o1 o2 hB0 hB6
          go_wp2
          go_roundw
          case rel => exact ⟨k + 1, _, by omega, by go_num, HN.out, HT7.out, HS7.out, HO7.out⟩
          case measure => simp [intOf]; omega
      · clear hrel htwo hres hout
        have hke : k = (Tm.appL l t.args).length := by have := HAL.out; omega
        have hkt : k = t.args.length := by omega
        have HE0 : OwnRel w W0 wr vo (Tm.appL l t.args) (Tm.appL l t.args).length := by rw [← hke]; exact HR.out
        have HBE : Hid (Below w.heap.size w wr) := Lib.hid (by obtain ⟨_, _, _, _, _, _, h, _⟩ := HR.out; exact h)
        have HE := Lib.hid HE0.whole
        have HVS : ∃ p q, vo = .slice p t.args.length q := by
          obtain ⟨p, q, e⟩ := HE0.whole.read.is_slice; exact ⟨p, q, by rw [e, HAL.out]⟩
        obtain ⟨p2, q2, rfl⟩ := HVS
        clear hke HE0
        obtain ⟨r0, r1, r2⟩ := HRS.out
        obtain ⟨o0, o1, o2⟩ := HOU.out
        go_wp2
        refine bodyPost_ret (v := .agg #[.string t.name, .slice p2 t.args.length q2]) (by simp [results, Tryz.results98, go_sem, r0, r1]) rfl ?_
        rw [HAPP.out]
        refine ⟨_, rfl, ?_, ?_⟩
        · refine ((HE.out.setCell (by have := HWZ.out; simp [Fresh]; omega) _).setCell (by have := HWZ.out; simp [Fresh]; omega) _).mono fun x hx => ?_
          have h1 := hx.1
          have h2 := hx.2
          have := HWZ.out
          exact ⟨by omega, by simp only [size_setCell]; omega⟩
        · exact (HBE.out.setCell (by simp) _).setCell (by simp) _

theorem repl_any (l : List Bd) (hl : wtB l ≤ 1048576) (hasc : Asc l) (t : Tm) : RepT l t := Tm.ind (P := RepT l) (repl_of l hl hasc) t

end Go.Proofs.YtgpmdfhepanahaaGreat

/- ApplyToClause: lists of literals under a substitution; the program's replaceInClause: a contract. -/
namespace Go.Proofs.YtgpmdfhepanahaaGreat.lit
open Go.RowKit
set_option linter.unusedVariables false
set_option linter.unusedSimpArgs false

/-- The literals with the substitution applied to their atoms. -/
def apC (s : List Bd) (l : List Lt) : List Lt := l.map fun d => ⟨d.var, d.tm.app s⟩
theorem apC_len (s : List Bd) (l : List Lt) : (apC s l).length = l.length := by simp [apC]
theorem apC_next {s : List Bd} {l : List Lt} {k : Nat} {d : Lt} (h : l[k]? = some d) : apC s (l.take (k + 1)) = apC s (l.take k) ++ [⟨d.var, d.tm.app s⟩] := by
  unfold apC
  rw [List.take_add_one, h]
  simp
theorem apC_at {s : List Bd} {l : List Lt} {k : Nat} {d : Lt} (h : l[k]? = some d) : (apC s l)[k]? = some ⟨d.var, d.tm.app s⟩ := by
  unfold apC; rw [List.getElem?_map, h]; rfl

/-- What the loop keeps. -/
def AI (s : List Bd) (l : List Lt) (B k : Nat) (v : Value) (wr : World) : Prop := ∃ L, RowE B B wr v L ∧ bdsE L = apC s (l.take k) ∧ B ≤ wr.heap.size

set_option maxRecDepth 100000 in
set_option maxHeartbeats 8000000 in
theorem replC_any (s : List Bd) (hs : wtB s ≤ 1048576) (hasc : Go.Proofs.YtgpmdfhepanahaaGreat.Asc s) (l : List Lt) (w : World) (vs v : Value) (hvs : BdS w vs s) (hv : LtS w v l) (hw : wtC l ≤ 1048576) (hwr : wtC (apC s l) ≤ 1048576) :
    Calls Tryz.prog 55 #[.agg #[v], .func (.func 56) #[.agg #[vs]] #[]] w (OkEnd (mkR (apC s l)) (mkOk (apC s l)) w) := by
  have hl6 : l.length ≤ 1048576 := Nat.le_trans (wtC_len l) hw
  have HWD := Lib.hid (fun (d : Lt) (hd : d ∈ l) => Nat.le_trans (wtC_tm hd) hw)
  have CA := Lib.hid (fun (t : Tm) => repl_any s hs hasc t)
  obtain ⟨i0, hi, hz0, hz1, hz2⟩ := info_parts infoLt
  obtain ⟨a, c, rfl⟩ := hv.is_slice
  obtain ⟨ua, uc, rfl⟩ := hvs.is_slice
  have HV := Lib.hid hv
  have HVU := Lib.hid hvs
  have HWR := Lib.hid hwr
  obtain ⟨w0, hw0⟩ : ∃ w0, (w.alloc (.cells #[.slice a l.length c] 48)).alloc (.cells #[.slice none 0 0] 48) = w0 := ⟨_, rfl⟩
  have HB0 : Hid (Below w.heap.size w w0) := Lib.hid (by rw [← hw0]; exact ((Below.refl w.heap.size w).alloc (Nat.le_refl _) _).alloc (by simp) _)
  have C0 : Hid (Oner w0 w.heap.size (.slice a l.length c)) := Lib.hid (by rw [← hw0]; exact (oner_new w (.slice a l.length c) 48 _ rfl).alloc _)
  have R0 : Hid (Oner w0 (w.heap.size + 1) (.slice none 0 0)) := Lib.hid (by rw [← hw0]; exact oner_new _ (.slice none 0 0) 48 (w.heap.size + 1) (by simp))
  have hz0' : w0.heap.size = w.heap.size + 2 := by rw [← hw0]; simp
  have HZ0 := Lib.hid hz0'
  have M0 : Hid (AI s l w0.heap.size 0 (.slice none 0 0) w0) := Lib.hid ⟨[], RowE.nil _ _ _, rfl, Nat.le_refl _⟩
  clear hv hvs hw hwr hs hasc hz0'
  obtain ⟨b0, b1⟩ := C0.out
  go_enter Tryz.func55, Tryz.ntmps55
  go_wp2
  go_loopw [6, 12] (fun tv i wr => ∃ (k : Nat) (nm : Value), k ≤ l.length ∧ i = .int .i64 k ∧ nm = tv ∧ AI s l w0.heap.size k nm wr ∧ Oner wr (w.heap.size + 1) (.slice none 0 0) ∧ Below w.heap.size w wr) (fun _ i _ => l.length - (intOf i).toNat)
  case atStart => exact ⟨0, _, Nat.zero_le _, rfl, rfl, M0.out, R0.out, HB0.out⟩
  case round =>
    clear b0 b1 hw0
    obtain ⟨k, nm, hk, rfl, rfl, ⟨L, hrow, hbds, hbase⟩, hR, hbel⟩ := hrel
    obtain ⟨oa, oc, rfl⟩ := hrow.is_slice
    have HROW := Lib.hid hrow
    have HBD := Lib.hid hbds
    have HR := Lib.hid hR
    have HB := Lib.hid hbel
    have HBS := Lib.hid hbase
    clear hrow hbds hR hbel hbase
    by_cases hlt : k < l.length
    · obtain ⟨d, hd⟩ : ∃ d, l[k]? = some d := ⟨_, List.getElem?_eq_getElem hlt⟩
      obtain ⟨b, off, rfl, vb, c0, c1, c2, hvb⟩ := (HV.out.kept HB.out).get hd
      obtain ⟨pb, qb, rfl⟩ := hvb.is_slice
      obtain ⟨wq, hwq⟩ : ∃ wq, wr.alloc (.cells #[.bool d.var, .string d.tm.name, .slice pb d.tm.args.length qb] 86) = wq := ⟨_, rfl⟩
      have BQ : Hid (Below wr.heap.size wr wq) := Lib.hid (by rw [← hwq]; exact (Below.refl _ _).alloc (Nat.le_refl _) _)
      have TQ : Hid (Thr wq wr.heap.size (.bool d.var) (.string d.tm.name) (.slice pb d.tm.args.length qb)) := Lib.hid (by rw [← hwq]; exact thr_new _ _ _ _ _ _ rfl)
      have HVB := Lib.hid (hvb.kept BQ.out)
      have HRQ := Lib.hid (HROW.out.kept BQ.out)
      have HRRQ := Lib.hid (HR.out.kept BQ.out)
      have HBQ := Lib.hid (carry_below HB.out (Nat.le_refl _) BQ.out)
      have hlw : w0.heap.size ≤ wq.heap.size := Nat.le_trans HBS.out BQ.out.size
      have hll : L.length ≤ 1048576 := by rw [← bdsE_len, HBD.out, apC_len, List.length_take]; omega
      obtain ⟨x, hx⟩ : ∃ x, x = d.tm.app s := ⟨_, rfl⟩
      have HNX : Hid (apC s (l.take (k + 1)) = apC s (l.take k) ++ [⟨d.var, x⟩]) := Lib.hid (by rw [apC_next hd, hx])
      have C1 : Hid (∀ W : World, Below wq.heap.size wq W → Calls Tryz.prog 98 #[.agg #[.string d.tm.name, .slice pb d.tm.args.length qb], .func (.func 56) #[.agg #[.slice ua s.length uc]] #[]] W (ToEnd x W)) := Lib.hid (fun W hW => by
        rw [hx]
        exact CA.out d.tm W (.slice ua s.length uc) _ ((HVU.out.kept HBQ.out).kept hW) (HVB.out.kept hW) (HWD.out d (List.mem_of_getElem? hd)))
      have hrowlt : ∀ g, (Value.slice oa L.length oc).ownBlock = some g → w0.heap.size ≤ g ∧ g < wq.heap.size := fun g e => ⟨(HROW.out.row.lt g e).1, (HRQ.out.row.lt g e).2⟩
      have HRL := Lib.hid hrowlt
      have HFB : Hid (some wr.heap.size ≠ (Value.slice oa L.length oc).ownBlock) := Lib.hid (fun e => by have := (HROW.out.row.lt _ e.symm).2; omega)
      obtain ⟨t0, t1, t2, t3⟩ := TQ.out
      clear hd hvb hx hrowlt
      have hB0 : Below wq.heap.size wq wq.drew := (Below.refl _ _).drew
      go_wp2_with fail
      clear hwq c0 c1 c2
      refine sink_start 10 (fun w' => w'.cell? ⟨wr.heap.size, 0, none⟩ = some (.bool d.var) ∧ w'.cell? ⟨wr.heap.size, 1, none⟩ = some (.string d.tm.name) ∧ w'.cell? ⟨wr.heap.size, 2, none⟩ = some (.slice pb d.tm.args.length qb)) (by kernel_rfl) (by exact ⟨by first | assumption | exact carry_cell' ((Below.refl _ _).alloc (Nat.le_refl _) _) (by assumption), by first | assumption | exact carry_cell' ((Below.refl _ _).alloc (Nat.le_refl _) _) (by assumption), by first | assumption | exact carry_cell' ((Below.refl _ _).alloc (Nat.le_refl _) _) (by assumption)⟩) (fun hHeld => ?_)
      refine sink_take 0 (v := ?_) rfl (by kernel_rfl) (by kernel_rfl) (by kernel_rfl) (by kernel_rfl) (by rfl) (fun _ _ _ h => h) (by assumption) ?_ ?_; rotate_left; (intro w hSw; (try dsimp only at hSw); go_simp; try (with_reducible rfl))
      try simp only [Act.put, List.getElem_toArray, List.getElem_cons_zero, List.getElem_cons_succ, List.setIfInBounds_toArray, List.set_cons_zero, List.set_cons_succ]
      refine sink_take 1 (v := ?_) rfl (by kernel_rfl) (by kernel_rfl) (by kernel_rfl) (by kernel_rfl) (by rfl) (fun _ _ _ h => h) (by assumption) ?_ ?_; rotate_left; (intro w hSw; (try dsimp only at hSw); go_simp; try (with_reducible rfl))
      try simp only [Act.put, List.getElem_toArray, List.getElem_cons_zero, List.getElem_cons_succ, List.setIfInBounds_toArray, List.set_cons_zero, List.set_cons_succ]
      refine sink_take 2 (v := ?_) rfl (by kernel_rfl) (by kernel_rfl) (by kernel_rfl) (by kernel_rfl) (by rfl) (fun _ _ _ h => h) (by assumption) ?_ ?_; rotate_left; (intro w hSw; (try dsimp only at hSw); go_simp; try (with_reducible rfl))
      try simp only [Act.put, List.getElem_toArray, List.getElem_cons_zero, List.getElem_cons_succ, List.setIfInBounds_toArray, List.set_cons_zero, List.set_cons_succ]
      refine sink_take 3 (v := ?_) rfl (by kernel_rfl) (by kernel_rfl) (by kernel_rfl) (by kernel_rfl) (by rfl) (fun _ _ _ h => h) (by assumption) ?_ ?_; rotate_left; (intro w hSw; (try dsimp only at hSw); go_simp; try (with_reducible rfl))
      try simp only [Act.put, List.getElem_toArray, List.getElem_cons_zero, List.getElem_cons_succ, List.setIfInBounds_toArray, List.set_cons_zero, List.set_cons_succ]
      refine sink_take 4 (v := ?_) rfl (by kernel_rfl) (by kernel_rfl) (by kernel_rfl) (by kernel_rfl) (by rfl) (fun _ _ _ h => h) (by assumption) ?_ ?_; rotate_left; (intro w hSw; (try dsimp only at hSw); go_simp; try (with_reducible rfl))
      try simp only [Act.put, List.getElem_toArray, List.getElem_cons_zero, List.getElem_cons_succ, List.setIfInBounds_toArray, List.set_cons_zero, List.set_cons_succ]
      refine sink_take 5 (v := ?_) rfl (by kernel_rfl) (by kernel_rfl) (by kernel_rfl) (by kernel_rfl) (by rfl) (fun _ _ _ h => h) (by assumption) ?_ ?_; rotate_left; (intro w hSw; (try dsimp only at hSw); go_simp; try (with_reducible rfl))
      try simp only [Act.put, List.getElem_toArray, List.getElem_cons_zero, List.getElem_cons_succ, List.setIfInBounds_toArray, List.set_cons_zero, List.set_cons_succ]
      refine sink_one (i := 6) (by kernel_rfl) rfl (fun K hK => ?_)
      go_simp
      go_at_call 98; refine (C1.out _ hB0).mono ?_; rintro e w6 ⟨v6, rfl, ho, hb⟩; have q0 := carry_cell' hb t0; have q1 := carry_cell' hb t1; have q2 := carry_cell' hb t2; have hB6 := carry_below hB0 (Nat.le_refl _) hb; obtain ⟨p6, c6, rfl⟩ := ho.read.is_slice; have HO6 : Hid (TmO w6 (Fresh wq w6) (.slice p6 x.args.length c6) x.args) := Lib.hid ho; have HW6 := Lib.hid (own_kept HRQ.out.row hB6); clear hb ho; go_wp2_with fail
      refine hK.out _ _ (fun _ => by exact ⟨by first | assumption | exact carry_cell' ((Below.refl _ _).alloc (Nat.le_refl _) _) (by assumption), by first | assumption | exact carry_cell' ((Below.refl _ _).alloc (Nat.le_refl _) _) (by assumption), by first | assumption | exact carry_cell' ((Below.refl _ _).alloc (Nat.le_refl _) _) (by assumption)⟩) (fun hHeld => ?_)
      have hHeld := hHeld (by decide)
      clear hK K
      try simp only [Act.put, List.getElem_toArray, List.getElem_cons_zero, List.getElem_cons_succ, List.setIfInBounds_toArray, List.set_cons_zero, List.set_cons_succ]
      refine sink_take 7 (v := ?_) rfl (by kernel_rfl) (by kernel_rfl) (by kernel_rfl) (by kernel_rfl) (by rfl) (fun _ _ _ h => h) (by assumption) ?_ ?_; rotate_left; (intro w hSw; (try dsimp only at hSw); go_simp; try (with_reducible rfl))
      try simp only [Act.put, List.getElem_toArray, List.getElem_cons_zero, List.getElem_cons_succ, List.setIfInBounds_toArray, List.set_cons_zero, List.set_cons_succ]
      refine sink_one (i := 8) (by kernel_rfl) rfl (fun K hK => ?_)
      go_simp
      refine hK.out _ _ (fun _ => by exact ⟨by first | assumption | exact carry_cell' ((Below.refl _ _).alloc (Nat.le_refl _) _) (by assumption), by first | assumption | exact carry_cell' ((Below.refl _ _).alloc (Nat.le_refl _) _) (by assumption), by first | assumption | exact carry_cell' ((Below.refl _ _).alloc (Nat.le_refl _) _) (by assumption)⟩) (fun hHeld => ?_)
      have hHeld := hHeld (by decide)
      clear hK K
      try simp only [Act.put, List.getElem_toArray, List.getElem_cons_zero, List.getElem_cons_succ, List.setIfInBounds_toArray, List.set_cons_zero, List.set_cons_succ]
      refine sink_one (i := 9) (by kernel_rfl) rfl (fun K hK => ?_)
      (refine step_append_lies _ (by rfl) _ _ _ (by rfl) w0.heap.size 86 i0 _ 3 48 Tryz.underlying46 hi hz0 hz1 hz2 rfl (by omega) (.slice oa L.length oc) L.length (enF L) (by rfl) (HW6.out.alloc _) ⟨w6.heap.size, 0, none⟩ 1 1 [.bool d.var, .string x.name, .slice p6 x.args.length c6] (by rfl) (by rfl) (World.news_of_block (cs := #[.bool d.var, .string x.name, .slice p6 x.args.length c6]) (t := 86) (fr := (0, 0)) (heap_alloc_new w6 _)) (by simp [Value.oneCell']) (by omega) (by unfold maxLen; omega) (by omega) (by have := hB6.size; simp; omega) (w6.heap.size + 1) (by simp) ?_; intro gg cap w8 hown8 hgrow hat hlt8; have z0 := app_cell hgrow q0 HFB.out; have z1 := app_cell hgrow q1 HFB.out; have z2 := app_cell hgrow q2 HFB.out; have HOWN8 := Lib.hid hown8; have HGROW8 := Lib.hid hgrow; have HAT8 := Lib.hid hat; clear hown8 hgrow hat)
      try go_simp
      refine hK.out _ _ (fun _ => by exact ⟨by first | assumption | exact carry_cell' ((Below.refl _ _).alloc (Nat.le_refl _) _) (by assumption), by first | assumption | exact carry_cell' ((Below.refl _ _).alloc (Nat.le_refl _) _) (by assumption), by first | assumption | exact carry_cell' ((Below.refl _ _).alloc (Nat.le_refl _) _) (by assumption)⟩) (fun hHeld => ?_)
      have hHeld := hHeld (by decide)
      clear hK K
      try simp only [Act.put, List.getElem_toArray, List.getElem_cons_zero, List.getElem_cons_succ, List.setIfInBounds_toArray, List.set_cons_zero, List.set_cons_succ]
      refine sink_one (i := 10) (by kernel_rfl) rfl (fun K hK => ?_)
      go_simp
      refine hK.out _ _ (fun hne => absurd rfl hne) (fun hHeld => ?_)
      clear hK K
      try simp only [Act.put, List.getElem_toArray, List.getElem_cons_zero, List.getElem_cons_succ, List.setIfInBounds_toArray, List.set_cons_zero, List.set_cons_succ]
      refine sink_done (by kernel_rfl) ?_ _
      have HRN : Hid (AI s l w0.heap.size (k + 1) (.slice (some ⟨gg, 0, none⟩) (L.length + 1) cap) w8) := Lib.hid ⟨_, RowE.app (w := w6.alloc (.cells #[.bool d.var, .string x.name, .slice p6 x.args.length c6] 86)) (d := ⟨d.var, x⟩) (S := Fresh wq w6) ((HRQ.out.kept hB6).kept ((Below.refl _ _).alloc (Nat.le_refl _) _)) (HO6.out.frame fun b hb => Below.heap_alloc _ _ _ hb.2) (fun b hb => ⟨Nat.le_trans hlw hb.1, by simp; have := hb.2; omega⟩) (fun y hy b h1 h2 => by have h3 := (HRQ.out.ens.sub y hy b h1).2; have h4 := h2.1; omega) (fun g e h => by have h3 := (HRL.out g e).2; have h4 := h.1; omega) HOWN8.out (by simpa using HAT8.out) HGROW8.out, by rw [bdsE_append, HBD.out, HNX.out]; rfl, by have := HGROW8.out.size; simp at this; have := hB6.size; omega⟩
      have HG8 : Hid (wq.grownBy w8 (Value.slice oa L.length oc).ownBlock) := Lib.hid (grown_trans (grown_trans (grown_of_below hB6 _) (World.grownBy_alloc _ _ _)) HGROW8.out)
      have HR8 := Lib.hid (grown_one HRRQ.out HG8.out (fun g e => (HRL.out g e).1) (by have := HZ0.out; omega))
      have HB8 : Hid (Below w.heap.size w w8) := Lib.hid (HBQ.out.trans ⟨HG8.out.os, HG8.out.tape, HG8.out.output, HG8.out.size, fun b hb => HG8.out.block b (by have := HBQ.out.size; omega) (fun e => by have := (HRL.out b e.symm).1; have := HZ0.out; omega)⟩)
      clear hB0 hB6 q0 q1 q2 z0 z1 z2 t0 t1 t2 t3
      go_wp2
      go_roundw
      case rel => exact ⟨k + 1, _, by omega, by go_num, rfl, HRN.out, HR8.out, HB8.out⟩
      case measure => simp [intOf]; omega

    · have hke : k = l.length := by omega
      have HL : Hid (bdsE L = apC s l) := Lib.hid (by rw [HBD.out, hke, List.take_length])
      have HRD := Lib.hid HROW.out.read
      have HCM : Hid (Calls Tryz.prog 99 #[.slice oa L.length oc] wr (OkEnd (mkR (apC s l)) (mkOk (apC s l)) wr)) := Lib.hid (implMake_any (apC s l) wr _ (by rw [← HL.out]; exact HRD.out) HWR.out)
      have hzr := HBS.out
      clear hke
      go_wp2_with fail
      refine HCM.out.mono ?_
      rintro e w5 ⟨v5, rfl, ho, hb⟩
      have HO5 := Lib.hid ho
      have HB5 := Lib.hid (carry_below HB.out (Nat.le_refl _) hb)
      obtain ⟨p5, c5, rfl⟩ := ho.read.is_slice
      obtain ⟨r0, r1⟩ := HR.out.kept hb
      clear ho hb
      go_wp2
      refine bodyPost_ret (v := .tuple #[.agg #[.slice p5 (mkR (apC s l)).length c5], .bool (mkOk (apC s l))]) (by simp [results, Tryz.results55, go_sem, r0]) rfl ?_
      refine ⟨_, rfl, ?_, HB5.out.setCell (by simp) _⟩
      refine (HO5.out.setCell (fun h => by have h1 : wr.heap.size ≤ w.heap.size + 1 := h.1; have := HZ0.out; omega) _).mono fun y hy => ⟨?_, ?_⟩
      · have := hy.1; have := HZ0.out; omega
      · simp only [size_setCell]; exact hy.2

end Go.Proofs.YtgpmdfhepanahaaGreat.lit

/- ApplyToClause, the model's l7Apply: a contract. -/
namespace Go.Proofs.YtgpmdfhepanahaaGreat.lit
open Go.RowKit
set_option linter.unusedVariables false
set_option linter.unusedSimpArgs false

/-- An atom in a box of its own, its arguments in blocks of their own. -/
def ApH (x : Tm) (wr W : World) (B : Nat) (va : Value) : Prop :=
  wr.heap.size ≤ B ∧ B < W.heap.size ∧ Two W B (.string x.name) va ∧ (∃ S, TmO W S va x.args ∧ ∀ b, S b → wr.heap.size ≤ b ∧ b < W.heap.size) ∧ Below wr.heap.size wr W
theorem undrew8 {W w8 : World} {row : Option Nat} (h : W.drew.grownBy w8 row) : W.grownBy w8 row := ⟨h.os, h.tape, h.output, h.size, h.block⟩
theorem apH_of {x : Tm} {wr wy w6 : World} {B : Nat} {va p q : Value} (ho : TmO w6 (Fresh wy w6) va x.args) (hy : wr.heap.size ≤ wy.heap.size) (hB : wr.heap.size ≤ B) (hBo : B < wy.heap.size ∨ w6.heap.size ≤ B) {W : World} (hW : Two W B p q) (hbl : ∀ k, k < w6.heap.size → W.heap[k]? = w6.heap[k]?) (hs : w6.heap.size ≤ W.heap.size) (hb : Below wr.heap.size wr W) :
    ApH x wr ((W.setCell ⟨B, 0, none⟩ (.string x.name)).setCell ⟨B, 1, none⟩ va) B va := by
  have h2 := (hW.setNil (.string x.name)).setOne va
  have hlt : B < ((W.setCell ⟨B, 0, none⟩ (.string x.name)).setCell ⟨B, 1, none⟩ va).heap.size := World.block_lt_of_cell? _ _ h2.1
  refine ⟨hB, hlt, h2, ⟨Fresh wy w6, ?_, fun b h => ⟨Nat.le_trans hy h.1, ?_⟩⟩, (hb.setCell hB _).setCell hB _⟩
  · have h1 : TmO W (Fresh wy w6) va x.args := ho.frame fun k hk => hbl k hk.2
    have hn : ¬ Fresh wy w6 B := fun h => by have := h.1; have := h.2; rcases hBo with h | h <;> omega
    exact (h1.setCell hn _).setCell hn _
  · have h2 := h.2; simp only [size_setCell]; omega
theorem apH_a {x : Tm} {wr wy w6 : World} {va : Value} (ho : TmO w6 (Fresh wy w6) va x.args) (hy : Below wr.heap.size wr wy) (h6 : Below wr.heap.size wr w6) :
    ApH x wr (w6.alloc (.cells #[.string x.name, va] 31)) w6.heap.size va :=
  ⟨h6.size, by simp, two_new _ _ _ _ _ rfl, ⟨Fresh wy w6, ho.frame fun k hk => Below.heap_alloc _ _ _ hk.2, fun b h => ⟨Nat.le_trans hy.size h.1, by have := h.2; simp; omega⟩⟩, h6.alloc h6.size _⟩
theorem apH_b {x : Tm} {wr wy w6 : World} {va p q : Value} (ho : TmO w6 (Fresh wy w6) va x.args) (hz : wy.heap.size = wr.heap.size + 1) (hy : Below wr.heap.size wr wy) (h6 : Below wr.heap.size wr w6) (hT : Two w6 wr.heap.size p q) :
    ApH x wr ((w6.setCell ⟨wr.heap.size, 0, none⟩ (.string x.name)).setCell ⟨wr.heap.size, 1, none⟩ va) wr.heap.size va :=
  apH_of ho hy.size (Nat.le_refl _) (.inl (by omega)) hT (fun k hk => rfl) (Nat.le_refl _) h6

set_option maxRecDepth 100000 in
set_option maxHeartbeats 16000000 in
theorem l7Apply_any (s : List Bd) (hs : wtB s ≤ 1048576) (hasc : Go.Proofs.YtgpmdfhepanahaaGreat.Asc s) (l : List Lt) (w : World) (vs v : Value) (hvs : BdS w vs s) (hv : LtS w v l) (hw : wtC l ≤ 1048576) (hwr : wtC (apC s l) ≤ 1048576) :
    Calls Tryz.prog 52 #[.agg #[vs], v] w (OkEnd (mkR (apC s l)) (mkOk (apC s l)) w) := by
  have hl6 : l.length ≤ 1048576 := Nat.le_trans (wtC_len l) hw
  have HWD := Lib.hid (fun (d : Lt) (hd : d ∈ l) => Nat.le_trans (wtC_tm hd) hw)
  have HWX := Lib.hid (fun (d : Lt) (hd : d ∈ apC s l) => Nat.le_trans (wtC_tm hd) hwr)
  have CA := Lib.hid (fun (t : Tm) => l4Apply_any s hs hasc t)
  obtain ⟨i0, hi, hz0, hz1, hz2⟩ := info_parts infoLt
  obtain ⟨a, c, rfl⟩ := hv.is_slice
  obtain ⟨ua, uc, rfl⟩ := hvs.is_slice
  have HV := Lib.hid hv
  have HVU := Lib.hid hvs
  have HWR := Lib.hid hwr
  obtain ⟨w0, hw0⟩ : ∃ w0, (w.alloc (.cells #[.slice ua s.length uc] 61)).alloc (.cells #[.slice none 0 0] 48) = w0 := ⟨_, rfl⟩
  have HB0 : Hid (Below w.heap.size w w0) := Lib.hid (by rw [← hw0]; exact ((Below.refl w.heap.size w).alloc (Nat.le_refl _) _).alloc (by simp) _)
  have C0 : Hid (Oner w0 w.heap.size (.slice ua s.length uc)) := Lib.hid (by rw [← hw0]; exact (oner_new w (.slice ua s.length uc) 61 _ rfl).alloc _)
  have R0 : Hid (Oner w0 (w.heap.size + 1) (.slice none 0 0)) := Lib.hid (by rw [← hw0]; exact oner_new _ (.slice none 0 0) 48 (w.heap.size + 1) (by simp))
  have hz0' : w0.heap.size = w.heap.size + 2 := by rw [← hw0]; simp
  have HZ0 := Lib.hid hz0'
  have M0 : Hid (AI s l w0.heap.size 0 (.slice (some ⟨w0.heap.size, 0, none⟩) 0 0) (w0.alloc (.cells #[] 86))) := Lib.hid ⟨[], ⟨World.ownsRow_made w0 #[] 0 (Nat.le_refl _) (by decide) (by simp), Ens.nil _ _, fun g _ e he => (by cases he)⟩, rfl, by simp⟩
  have C1' := Lib.hid (C0.out.kept ((Below.refl _ _).alloc (Nat.le_refl _) (.cells #[] 86)))
  have R1' := Lib.hid (R0.out.kept ((Below.refl _ _).alloc (Nat.le_refl _) (.cells #[] 86)))
  have HB1' := Lib.hid (HB0.out.alloc HB0.out.size (.cells #[] 86))
  clear hv hvs hw hwr hs hasc hz0' C0 R0
  go_enter Tryz.func52, Tryz.ntmps52
  go_wp2
  go_loopw [6, 7] (fun tv i wr => ∃ (k : Nat) (nm : Value), k ≤ l.length ∧ i = .int .i64 k ∧ nm = tv ∧ AI s l w0.heap.size k nm wr ∧ (∀ (j : Nat) (e : Lt), j < k → (apC s l)[j]? = some e → atomB e.tm = true) ∧ Oner wr w.heap.size (.slice ua s.length uc) ∧ Oner wr (w.heap.size + 1) (.slice none 0 0) ∧ Below w.heap.size w wr) (fun _ i _ => l.length - (intOf i).toNat)
  case atStart => exact ⟨0, _, Nat.zero_le _, rfl, rfl, M0.out, fun j e h => absurd h (Nat.not_lt_zero _), C1'.out, R1'.out, HB1'.out⟩
  case round =>
    clear hw0
    obtain ⟨k, nm, hk, rfl, rfl, ⟨L, hrow, hbds, hbase⟩, hat, hS, hR, hbel⟩ := hrel
    obtain ⟨oa, oc, rfl⟩ := hrow.is_slice
    have HROW := Lib.hid hrow
    have HBD := Lib.hid hbds
    have HR := Lib.hid hR
    have HSB := Lib.hid hS
    have HB := Lib.hid hbel
    have HBS := Lib.hid hbase
    have HAT := Lib.hid hat
    obtain ⟨u0, u1⟩ := hS
    clear hrow hbds hR hbel hbase hat
    by_cases hlt : k < l.length
    · obtain ⟨d, hd⟩ : ∃ d, l[k]? = some d := ⟨_, List.getElem?_eq_getElem hlt⟩
      obtain ⟨b, off, rfl, vb, c0, c1, c2, hvb⟩ := (HV.out.kept HB.out).get hd
      obtain ⟨pb, qb, rfl⟩ := hvb.is_slice
      have hbw : b < w.heap.size := by
        obtain ⟨b', off', e1, _, c0', _⟩ := HV.out.get hd
        have e2 := Option.some.inj e1
        cases e2
        exact World.block_lt_of_cell? w ⟨b, _, none⟩ c0'
      have HD := Lib.hid hd
      have HVB := Lib.hid hvb
      have hlw : w0.heap.size ≤ wr.heap.size := HBS.out
      have hll : L.length ≤ 1048576 := by rw [← bdsE_len, HBD.out, apC_len, List.length_take]; omega
      obtain ⟨x, hx⟩ : ∃ x, x = d.tm.app s := ⟨_, rfl⟩
      have HX := Lib.hid hx
      have HNX : Hid (apC s (l.take (k + 1)) = apC s (l.take k) ++ [⟨d.var, x⟩]) := Lib.hid (by rw [apC_next hd, hx])
      have hxw : x.wt ≤ 1048576 := by rw [hx]; exact HWX.out _ (List.mem_of_getElem? (apC_at hd))
      have C1 : Hid (∀ W : World, Below wr.heap.size wr W → Calls Tryz.prog 91 #[.agg #[.slice ua s.length uc], .agg #[.string d.tm.name, .slice pb d.tm.args.length qb]] W (ToEnd x W)) := Lib.hid (fun W hW => by
        rw [hx]
        exact CA.out d.tm W _ _ ((HVU.out.kept HB.out).kept hW) (HVB.out.kept hW) (HWD.out d (List.mem_of_getElem? hd)))
      have hB0 : Below wr.heap.size wr wr.drew := (Below.refl _ _).drew
      have hi1 : (k : Int) < (l.length : Int) := by omega
      have hi0 : (0 : Int) ≤ (k : Int) := by omega
      clear hd hvb hx
      go_wp2_with fail
      refine sink_start 8 (fun w' => w'.cell? ⟨w.heap.size, 0, none⟩ = some (.slice ua s.length uc) ∧ w'.cell? ⟨b, off + k * 3 + 1, none⟩ = some (.string d.tm.name) ∧ w'.cell? ⟨b, off + k * 3 + 2, none⟩ = some (.slice pb d.tm.args.length qb)) (by kernel_rfl) (by exact ⟨by first | assumption | exact carry_cell' ((Below.refl _ _).alloc (Nat.le_refl _) _) (by assumption) | exact carry_cell' ((Below.refl _ _).alloc (Nat.le_refl _) _).drew (by assumption), by first | assumption | exact carry_cell' ((Below.refl _ _).alloc (Nat.le_refl _) _) (by assumption) | exact carry_cell' ((Below.refl _ _).alloc (Nat.le_refl _) _).drew (by assumption), by first | assumption | exact carry_cell' ((Below.refl _ _).alloc (Nat.le_refl _) _) (by assumption) | exact carry_cell' ((Below.refl _ _).alloc (Nat.le_refl _) _).drew (by assumption)⟩) (fun hHeld => ?_)
      refine sink_take 0 (v := ?_) rfl (by kernel_rfl) (by kernel_rfl) (by kernel_rfl) (by kernel_rfl) (by rfl) (fun _ _ _ h => h) (by assumption) ?_ ?_; rotate_left; (intro w hSw; (try dsimp only at hSw); go_simp; try (with_reducible rfl))
      try simp only [Act.put, List.getElem_toArray, List.getElem_cons_zero, List.getElem_cons_succ, List.setIfInBounds_toArray, List.set_cons_zero, List.set_cons_succ]
      refine sink_take 1 (v := ?_) rfl (by kernel_rfl) (by kernel_rfl) (by kernel_rfl) (by kernel_rfl) (by rfl) (fun _ _ _ h => h) (by assumption) ?_ ?_; rotate_left; (intro w hSw; (try dsimp only at hSw); go_simp; try (with_reducible rfl))
      try simp only [Act.put, List.getElem_toArray, List.getElem_cons_zero, List.getElem_cons_succ, List.setIfInBounds_toArray, List.set_cons_zero, List.set_cons_succ]
      refine sink_take 2 (v := ?_) rfl (by kernel_rfl) (by kernel_rfl) (by kernel_rfl) (by kernel_rfl) (by rfl) (fun _ _ _ h => h) (by assumption) ?_ ?_; rotate_left; (intro w hSw; (try dsimp only at hSw); go_simp; try (with_reducible rfl))
      try simp only [Act.put, List.getElem_toArray, List.getElem_cons_zero, List.getElem_cons_succ, List.setIfInBounds_toArray, List.set_cons_zero, List.set_cons_succ]
      refine sink_take 3 (v := ?_) rfl (by kernel_rfl) (by kernel_rfl) (by kernel_rfl) (by kernel_rfl) (by rfl) (fun _ _ _ h => h) (by assumption) ?_ ?_; rotate_left; (intro w hSw; (try dsimp only at hSw); go_simp; try (with_reducible rfl))
      try simp only [Act.put, List.getElem_toArray, List.getElem_cons_zero, List.getElem_cons_succ, List.setIfInBounds_toArray, List.set_cons_zero, List.set_cons_succ]
      refine sink_take 4 (v := ?_) rfl (by kernel_rfl) (by kernel_rfl) (by kernel_rfl) (by kernel_rfl) (by rfl) (fun _ _ _ h => h) (by assumption) ?_ ?_; rotate_left; (intro w hSw; (try dsimp only at hSw); go_simp; try (with_reducible rfl))
      try simp only [Act.put, List.getElem_toArray, List.getElem_cons_zero, List.getElem_cons_succ, List.setIfInBounds_toArray, List.set_cons_zero, List.set_cons_succ]
      refine sink_take 5 (v := ?_) rfl (by kernel_rfl) (by kernel_rfl) (by kernel_rfl) (by kernel_rfl) (by rfl) (fun _ _ _ h => h) (by assumption) ?_ ?_; rotate_left; (intro w hSw; (try dsimp only at hSw); go_simp; try (with_reducible rfl))
      try simp only [Act.put, List.getElem_toArray, List.getElem_cons_zero, List.getElem_cons_succ, List.setIfInBounds_toArray, List.set_cons_zero, List.set_cons_succ]
      refine sink_two (i := 6) (j := 7) (by kernel_rfl) rfl rfl (fun K hK => ?_) (fun K hK => ?_)
      · go_simp
        go_at_call 91; obtain ⟨wy, hwy⟩ : ∃ wy, wr.drew = wy := ⟨_, rfl⟩; have BY : Below wr.heap.size wr wy := (by rw [← hwy]; exact hB0); have y0 := carry_cell u0 BY; have y1 := carry_cell c1 BY; have y2 := carry_cell c2 BY; rw [hwy]; refine (C1.out _ BY).mono ?_; rintro e w6 ⟨v6, rfl, ho, hb⟩; have q0 := carry_cell' hb y0; have q1 := carry_cell' hb y1; have q2 := carry_cell' hb y2; have hB6 := carry_below BY (Nat.le_refl _) hb; clear hwy; obtain ⟨p6, c6, rfl⟩ := ho.read.is_slice; have HO6 : Hid (TmO w6 (Fresh wy w6) (.slice p6 x.args.length c6) x.args) := Lib.hid ho; have hz6 := hb.size; have HW6 := Lib.hid hB6; clear hb ho; go_wp2_with fail
        refine hK.out _ _ (fun _ => by exact ⟨by first | assumption | exact carry_cell' ((Below.refl _ _).alloc (Nat.le_refl _) _) (by assumption) | exact carry_cell' ((Below.refl _ _).alloc (Nat.le_refl _) _).drew (by assumption), by first | assumption | exact carry_cell' ((Below.refl _ _).alloc (Nat.le_refl _) _) (by assumption) | exact carry_cell' ((Below.refl _ _).alloc (Nat.le_refl _) _).drew (by assumption), by first | assumption | exact carry_cell' ((Below.refl _ _).alloc (Nat.le_refl _) _) (by assumption) | exact carry_cell' ((Below.refl _ _).alloc (Nat.le_refl _) _).drew (by assumption)⟩) (fun hHeld => ?_)
        have hHeld := hHeld (by decide)
        clear hK K
        try simp only [Act.put, List.getElem_toArray, List.getElem_cons_zero, List.getElem_cons_succ, List.setIfInBounds_toArray, List.set_cons_zero, List.set_cons_succ]
        refine sink_one (i := 7) (by kernel_rfl) rfl (fun K hK => ?_)
        go_simp
        obtain ⟨z0, z1, z2⟩ := two_new w6 (.string ⟨#[]⟩) (.slice none 0 0) 31 _ rfl
        refine hK.out _ _ (fun _ => by exact ⟨by first | assumption | exact carry_cell' ((Below.refl _ _).alloc (Nat.le_refl _) _) (by assumption) | exact carry_cell' ((Below.refl _ _).alloc (Nat.le_refl _) _).drew (by assumption), by first | assumption | exact carry_cell' ((Below.refl _ _).alloc (Nat.le_refl _) _) (by assumption) | exact carry_cell' ((Below.refl _ _).alloc (Nat.le_refl _) _).drew (by assumption), by first | assumption | exact carry_cell' ((Below.refl _ _).alloc (Nat.le_refl _) _) (by assumption) | exact carry_cell' ((Below.refl _ _).alloc (Nat.le_refl _) _).drew (by assumption)⟩) (fun hHeld => ?_)
        have hHeld := hHeld (by decide)
        clear hK K
        try simp only [Act.put, List.getElem_toArray, List.getElem_cons_zero, List.getElem_cons_succ, List.setIfInBounds_toArray, List.set_cons_zero, List.set_cons_succ]
        refine sink_one (i := 8) (by kernel_rfl) rfl (fun K hK => ?_)
        go_simp
        refine hK.out _ _ (fun hne => absurd rfl hne) (fun hHeld => ?_)
        clear hK K
        try simp only [Act.put, List.getElem_toArray, List.getElem_cons_zero, List.getElem_cons_succ, List.setIfInBounds_toArray, List.set_cons_zero, List.set_cons_succ]
        refine sink_done (by kernel_rfl) ?_ _
        have HAP : Hid (ApH x wr (w6.alloc (.cells #[.string x.name, .slice p6 x.args.length c6] 31)) w6.heap.size (.slice p6 x.args.length c6)) := Lib.hid (apH_a HO6.out BY HW6.out)
        generalize (w6.alloc (.cells #[.string x.name, .slice p6 x.args.length c6] 31)) = w5 at HAP ⊢
        obtain ⟨B, hBe⟩ : ∃ B, B = w6.heap.size := ⟨_, rfl⟩
        rw [← hBe] at HAP ⊢
        obtain ⟨ha1, ha2, ha3, ⟨SS, ha4, ha5⟩, ha6⟩ := HAP.out
        have HT5 := Lib.hid ha3
        have HO5 := Lib.hid ha4
        have HSS5 := Lib.hid ha5
        have HW5 := Lib.hid ha6
        clear hBe ha3 ha4 ha5 ha6 HAP
        clear hHeld q0 q1 q2 y0 y1 y2 BY hz6 HO6 HW6 z0 z1 z2
        obtain ⟨z0, z1, z2⟩ := HT5.out
        have CAT := Lib.hid (l2Atom_any x w5 (.slice p6 x.args.length c6) HO5.out.read hxw)
        go_wp2_with fail
        refine CAT.out.mono ?_
        rintro e w7 ⟨rfl, hb⟩
        have HW7 : Hid (Below wr.heap.size wr w7) := Lib.hid (carry_below HW5.out (Nat.le_refl _) hb)
        have hz7 := HW7.out.size
        have HT7 := Lib.hid (HT5.out.kept hb)
        have HO7 : Hid (TmO w7 SS (.slice p6 x.args.length c6) x.args) := Lib.hid (HO5.out.frame fun b h => hb.block b (HSS5.out b h).2)
        have HSS : Hid (∀ b, SS b → wr.heap.size ≤ b ∧ b < w7.heap.size) := Lib.hid (fun b h => ⟨(HSS5.out b h).1, Nat.lt_of_lt_of_le (HSS5.out b h).2 hb.size⟩)
        clear hb z0 z1 z2 CAT
        obtain ⟨z0, z1, z2⟩ := HT7.out
        cases hav : atomB x with
        | false =>
          have HF : Hid (mkOk (apC s l) = false) := Lib.hid (mk_atom (apC_at HD.out) (by rw [← HX.out]; exact hav))
          obtain ⟨r0, r1⟩ := HR.out.kept HW7.out
          have HBF := Lib.hid (carry_below HB.out (Nat.le_refl _) HW7.out)
          clear hav
          go_wp2
          refine bodyPost_ret (v := .tuple #[.agg #[.slice none 0 0], .bool false]) (by simp [results, Tryz.results52, go_sem, r0]) rfl ?_
          exact OkEnd.no (mkR_no HF.out) HF.out (HBF.out.setCell (by simp; try omega) _)
        | true =>
          have HATN : Hid (∀ (j : Nat) (e : Lt), j < k + 1 → (apC s l)[j]? = some e → atomB e.tm = true) := Lib.hid (fun j e hj he => by
            by_cases ej : j = k
            · subst ej; rw [apC_at HD.out, ← HX.out] at he; injection he with he; rw [← he]; exact hav
            · exact HAT.out j e (by omega) he)
          have HR7D : Hid (RowE w0.heap.size w0.heap.size w7.drew (.slice oa L.length oc) L) := Lib.hid ((HROW.out.kept HW7.out).kept (Below.refl _ _).drew)
          have hrowlt : ∀ g, (Value.slice oa L.length oc).ownBlock = some g → w0.heap.size ≤ g ∧ g < wr.heap.size := fun g e => ⟨(HROW.out.row.lt g e).1, (HROW.out.row.lt g e).2⟩
          have HRL := Lib.hid hrowlt
          have d0 := carry_cell c0 HW7.out
          clear hav hrowlt
          go_wp2_with fail
          clear c0 c1 c2 u0 u1
          refine sink_start 10 (fun w' => w'.cell? ⟨b, off + k * 3, none⟩ = some (.bool d.var) ∧ w'.cell? ⟨B, 0, none⟩ = some (.string x.name) ∧ w'.cell? ⟨B, 1, none⟩ = some (.slice p6 x.args.length c6)) (by kernel_rfl) (by exact ⟨by first | assumption | exact carry_cell' ((Below.refl _ _).alloc (Nat.le_refl _) _) (by assumption) | exact carry_cell' ((Below.refl _ _).alloc (Nat.le_refl _) _).drew (by assumption), by first | assumption | exact carry_cell' ((Below.refl _ _).alloc (Nat.le_refl _) _) (by assumption) | exact carry_cell' ((Below.refl _ _).alloc (Nat.le_refl _) _).drew (by assumption), by first | assumption | exact carry_cell' ((Below.refl _ _).alloc (Nat.le_refl _) _) (by assumption) | exact carry_cell' ((Below.refl _ _).alloc (Nat.le_refl _) _).drew (by assumption)⟩) (fun hHeld => ?_)
          refine sink_take 0 (v := ?_) rfl (by kernel_rfl) (by kernel_rfl) (by kernel_rfl) (by kernel_rfl) (by rfl) (fun _ _ _ h => h) (by assumption) ?_ ?_; rotate_left; (intro w hSw; (try dsimp only at hSw); go_simp; try (with_reducible rfl))
          try simp only [Act.put, List.getElem_toArray, List.getElem_cons_zero, List.getElem_cons_succ, List.setIfInBounds_toArray, List.set_cons_zero, List.set_cons_succ]
          refine sink_take 1 (v := ?_) rfl (by kernel_rfl) (by kernel_rfl) (by kernel_rfl) (by kernel_rfl) (by rfl) (fun _ _ _ h => h) (by assumption) ?_ ?_; rotate_left; (intro w hSw; (try dsimp only at hSw); go_simp; try (with_reducible rfl))
          try simp only [Act.put, List.getElem_toArray, List.getElem_cons_zero, List.getElem_cons_succ, List.setIfInBounds_toArray, List.set_cons_zero, List.set_cons_succ]
          refine sink_take 2 (v := ?_) rfl (by kernel_rfl) (by kernel_rfl) (by kernel_rfl) (by kernel_rfl) (by rfl) (fun _ _ _ h => h) (by assumption) ?_ ?_; rotate_left; (intro w hSw; (try dsimp only at hSw); go_simp; try (with_reducible rfl))
          try simp only [Act.put, List.getElem_toArray, List.getElem_cons_zero, List.getElem_cons_succ, List.setIfInBounds_toArray, List.set_cons_zero, List.set_cons_succ]
          refine sink_take 3 (v := ?_) rfl (by kernel_rfl) (by kernel_rfl) (by kernel_rfl) (by kernel_rfl) (by rfl) (fun _ _ _ h => h) (by assumption) ?_ ?_; rotate_left; (intro w hSw; (try dsimp only at hSw); go_simp; try (with_reducible rfl))
          try simp only [Act.put, List.getElem_toArray, List.getElem_cons_zero, List.getElem_cons_succ, List.setIfInBounds_toArray, List.set_cons_zero, List.set_cons_succ]
          refine sink_take 4 (v := ?_) rfl (by kernel_rfl) (by kernel_rfl) (by kernel_rfl) (by kernel_rfl) (by rfl) (fun _ _ _ h => h) (by assumption) ?_ ?_; rotate_left; (intro w hSw; (try dsimp only at hSw); go_simp; try (with_reducible rfl))
          try simp only [Act.put, List.getElem_toArray, List.getElem_cons_zero, List.getElem_cons_succ, List.setIfInBounds_toArray, List.set_cons_zero, List.set_cons_succ]
          refine sink_take 5 (v := ?_) rfl (by kernel_rfl) (by kernel_rfl) (by kernel_rfl) (by kernel_rfl) (by rfl) (fun _ _ _ h => h) (by assumption) ?_ ?_; rotate_left; (intro w hSw; (try dsimp only at hSw); go_simp; try (with_reducible rfl))
          try simp only [Act.put, List.getElem_toArray, List.getElem_cons_zero, List.getElem_cons_succ, List.setIfInBounds_toArray, List.set_cons_zero, List.set_cons_succ]
          refine sink_take 6 (v := ?_) rfl (by kernel_rfl) (by kernel_rfl) (by kernel_rfl) (by kernel_rfl) (by rfl) (fun _ _ _ h => h) (by assumption) ?_ ?_; rotate_left; (intro w hSw; (try dsimp only at hSw); go_simp; try (with_reducible rfl))
          try simp only [Act.put, List.getElem_toArray, List.getElem_cons_zero, List.getElem_cons_succ, List.setIfInBounds_toArray, List.set_cons_zero, List.set_cons_succ]
          refine sink_take 7 (v := ?_) rfl (by kernel_rfl) (by kernel_rfl) (by kernel_rfl) (by kernel_rfl) (by rfl) (fun _ _ _ h => h) (by assumption) ?_ ?_; rotate_left; (intro w hSw; (try dsimp only at hSw); go_simp; try (with_reducible rfl))
          try simp only [Act.put, List.getElem_toArray, List.getElem_cons_zero, List.getElem_cons_succ, List.setIfInBounds_toArray, List.set_cons_zero, List.set_cons_succ]
          refine sink_one (i := 8) (by kernel_rfl) rfl (fun K hK => ?_)
          go_simp
          refine hK.out _ _ (fun _ => by exact ⟨by first | assumption | exact carry_cell' ((Below.refl _ _).alloc (Nat.le_refl _) _) (by assumption) | exact carry_cell' ((Below.refl _ _).alloc (Nat.le_refl _) _).drew (by assumption), by first | assumption | exact carry_cell' ((Below.refl _ _).alloc (Nat.le_refl _) _) (by assumption) | exact carry_cell' ((Below.refl _ _).alloc (Nat.le_refl _) _).drew (by assumption), by first | assumption | exact carry_cell' ((Below.refl _ _).alloc (Nat.le_refl _) _) (by assumption) | exact carry_cell' ((Below.refl _ _).alloc (Nat.le_refl _) _).drew (by assumption)⟩) (fun hHeld => ?_)
          have hHeld := hHeld (by decide)
          clear hK K
          try simp only [Act.put, List.getElem_toArray, List.getElem_cons_zero, List.getElem_cons_succ, List.setIfInBounds_toArray, List.set_cons_zero, List.set_cons_succ]
          refine sink_one (i := 9) (by kernel_rfl) rfl (fun K hK => ?_)
          (refine step_append_lies _ (by rfl) _ _ _ (by rfl) w0.heap.size 86 i0 _ 3 48 Tryz.underlying46 hi hz0 hz1 hz2 rfl (by omega) (.slice oa L.length oc) L.length (enF L) (by rfl) (HR7D.out.row.alloc _) ⟨w7.heap.size, 0, none⟩ 1 1 [.bool d.var, .string x.name, .slice p6 x.args.length c6] (by rfl) (by rfl) (World.news_of_block (cs := #[.bool d.var, .string x.name, .slice p6 x.args.length c6]) (t := 86) (fr := (0, 0)) (heap_alloc_new w7.drew _)) (by simp [Value.oneCell']) (by omega) (by unfold maxLen; omega) (by omega) (by have := hz7; simp; omega) (w7.heap.size + 1) (by simp) ?_; intro gg cap w8 hown8 hgrow hat hlt8; replace hgrow := undrew8 hgrow; have y8a := app_cell hgrow d0 (fun e => by have := (HRL.out b e.symm).1; have := HZ0.out; omega); have y8b := app_cell hgrow z0 (fun e => by have := (HRL.out B e.symm).2; omega); have y8c := app_cell hgrow z1 (fun e => by have := (HRL.out B e.symm).2; omega); have HOWN8 := Lib.hid hown8; have HGROW8 := Lib.hid hgrow; have HAT8 := Lib.hid hat; clear hown8 hgrow hat)
          try go_simp
          refine hK.out _ _ (fun _ => by exact ⟨by first | assumption | exact carry_cell' ((Below.refl _ _).alloc (Nat.le_refl _) _) (by assumption) | exact carry_cell' ((Below.refl _ _).alloc (Nat.le_refl _) _).drew (by assumption), by first | assumption | exact carry_cell' ((Below.refl _ _).alloc (Nat.le_refl _) _) (by assumption) | exact carry_cell' ((Below.refl _ _).alloc (Nat.le_refl _) _).drew (by assumption), by first | assumption | exact carry_cell' ((Below.refl _ _).alloc (Nat.le_refl _) _) (by assumption) | exact carry_cell' ((Below.refl _ _).alloc (Nat.le_refl _) _).drew (by assumption)⟩) (fun hHeld => ?_)
          have hHeld := hHeld (by decide)
          clear hK K
          try simp only [Act.put, List.getElem_toArray, List.getElem_cons_zero, List.getElem_cons_succ, List.setIfInBounds_toArray, List.set_cons_zero, List.set_cons_succ]
          refine sink_one (i := 10) (by kernel_rfl) rfl (fun K hK => ?_)
          go_simp
          refine hK.out _ _ (fun hne => absurd rfl hne) (fun hHeld => ?_)
          clear hK K
          try simp only [Act.put, List.getElem_toArray, List.getElem_cons_zero, List.getElem_cons_succ, List.setIfInBounds_toArray, List.set_cons_zero, List.set_cons_succ]
          refine sink_done (by kernel_rfl) ?_ _
          have HRN : Hid (AI s l w0.heap.size (k + 1) (.slice (some ⟨gg, 0, none⟩) (L.length + 1) cap) w8) := Lib.hid ⟨_, RowE.app (w := w7.alloc (.cells #[.bool d.var, .string x.name, .slice p6 x.args.length c6] 86)) (d := ⟨d.var, x⟩) (S := SS) ((HROW.out.kept HW7.out).kept ((Below.refl _ _).alloc (Nat.le_refl _) _)) (HO7.out.frame fun b hb => Below.heap_alloc _ _ _ (HSS.out b hb).2) (fun b hb => ⟨Nat.le_trans hlw (HSS.out b hb).1, by simp; have := (HSS.out b hb).2; omega⟩) (fun y hy b h1 h2 => by have h3 := (HROW.out.ens.sub y hy b h1).2; have h4 := (HSS.out b h2).1; omega) (fun g e h => by have h3 := (HRL.out g e).2; have h4 := (HSS.out g h).1; omega) HOWN8.out (by simpa using HAT8.out) HGROW8.out, by rw [bdsE_append, HBD.out, HNX.out]; rfl, by have := HGROW8.out.size; simp at this; omega⟩
          have HG8 : Hid (wr.grownBy w8 (Value.slice oa L.length oc).ownBlock) := Lib.hid (grown_trans (grown_trans (grown_of_below HW7.out _) (World.grownBy_alloc _ _ _)) HGROW8.out)
          have HR8 := Lib.hid (grown_one HR.out HG8.out (fun g e => (HRL.out g e).1) (by have := HZ0.out; omega))
          have HS8 := Lib.hid (grown_one HSB.out HG8.out (fun g e => (HRL.out g e).1) (by have := HZ0.out; omega))
          have HB8 : Hid (Below w.heap.size w w8) := Lib.hid (HB.out.trans ⟨HG8.out.os, HG8.out.tape, HG8.out.output, HG8.out.size, fun b hb => HG8.out.block b (by have := HB.out.size; omega) (fun e => by have := (HRL.out b e.symm).1; have := HZ0.out; omega)⟩)
          clear hHeld
          go_wp2
          go_roundw
          case rel => exact ⟨k + 1, _, by omega, by go_num, rfl, HRN.out, HATN.out, HS8.out, HR8.out, HB8.out⟩
          case measure => simp [intOf]; omega
      · go_simp
        refine hK.out _ _ (fun _ => by exact ⟨by first | assumption | exact carry_cell' ((Below.refl _ _).alloc (Nat.le_refl _) _) (by assumption) | exact carry_cell' ((Below.refl _ _).alloc (Nat.le_refl _) _).drew (by assumption), by first | assumption | exact carry_cell' ((Below.refl _ _).alloc (Nat.le_refl _) _) (by assumption) | exact carry_cell' ((Below.refl _ _).alloc (Nat.le_refl _) _).drew (by assumption), by first | assumption | exact carry_cell' ((Below.refl _ _).alloc (Nat.le_refl _) _) (by assumption) | exact carry_cell' ((Below.refl _ _).alloc (Nat.le_refl _) _).drew (by assumption)⟩) (fun hHeld => ?_)
        have hHeld := hHeld (by decide)
        clear hK K
        try simp only [Act.put, List.getElem_toArray, List.getElem_cons_zero, List.getElem_cons_succ, List.setIfInBounds_toArray, List.set_cons_zero, List.set_cons_succ]
        refine sink_one (i := 6) (by kernel_rfl) rfl (fun K hK => ?_)
        go_simp
        go_at_call 91; obtain ⟨wy, hwy⟩ : ∃ wy, (wr.alloc (.cells #[.string ⟨#[]⟩, .slice none 0 0] 31)).drew = wy := ⟨_, rfl⟩; have BY : Below wr.heap.size wr wy := (by rw [← hwy]; exact ((Below.refl _ _).alloc (Nat.le_refl _) _).drew); have TZ : Two wy wr.heap.size (.string ⟨#[]⟩) (.slice none 0 0) := (by rw [← hwy]; exact (two_new _ _ _ _ _ rfl).drew); have hzy : wy.heap.size = wr.heap.size + 1 := (by rw [← hwy]; simp); have y0 := carry_cell u0 BY; have y1 := carry_cell c1 BY; have y2 := carry_cell c2 BY; rw [hwy]; refine (C1.out _ BY).mono ?_; rintro e w6 ⟨v6, rfl, ho, hb⟩; have q0 := carry_cell' hb y0; have q1 := carry_cell' hb y1; have q2 := carry_cell' hb y2; have hB6 := carry_below BY (Nat.le_refl _) hb; have TZ6 := TZ.kept hb; obtain ⟨z0, z1, z2⟩ := TZ6; clear hwy; obtain ⟨p6, c6, rfl⟩ := ho.read.is_slice; have HO6 : Hid (TmO w6 (Fresh wy w6) (.slice p6 x.args.length c6) x.args) := Lib.hid ho; have hz6 := hb.size; have HW6 := Lib.hid hB6; clear hb ho; go_wp2_with fail
        refine hK.out _ _ (fun _ => by exact ⟨by first | assumption | exact carry_cell' ((Below.refl _ _).alloc (Nat.le_refl _) _) (by assumption) | exact carry_cell' ((Below.refl _ _).alloc (Nat.le_refl _) _).drew (by assumption), by first | assumption | exact carry_cell' ((Below.refl _ _).alloc (Nat.le_refl _) _) (by assumption) | exact carry_cell' ((Below.refl _ _).alloc (Nat.le_refl _) _).drew (by assumption), by first | assumption | exact carry_cell' ((Below.refl _ _).alloc (Nat.le_refl _) _) (by assumption) | exact carry_cell' ((Below.refl _ _).alloc (Nat.le_refl _) _).drew (by assumption)⟩) (fun hHeld => ?_)
        have hHeld := hHeld (by decide)
        clear hK K
        try simp only [Act.put, List.getElem_toArray, List.getElem_cons_zero, List.getElem_cons_succ, List.setIfInBounds_toArray, List.set_cons_zero, List.set_cons_succ]
        refine sink_one (i := 8) (by kernel_rfl) rfl (fun K hK => ?_)
        go_simp
        refine hK.out _ _ (fun hne => absurd rfl hne) (fun hHeld => ?_)
        clear hK K
        try simp only [Act.put, List.getElem_toArray, List.getElem_cons_zero, List.getElem_cons_succ, List.setIfInBounds_toArray, List.set_cons_zero, List.set_cons_succ]
        refine sink_done (by kernel_rfl) ?_ _
        have HAP : Hid (ApH x wr ((w6.setCell ⟨wr.heap.size, 0, none⟩ (.string x.name)).setCell ⟨wr.heap.size, 1, none⟩ (.slice p6 x.args.length c6)) wr.heap.size (.slice p6 x.args.length c6)) := Lib.hid (apH_b HO6.out hzy BY HW6.out ⟨z0, z1, z2⟩)
        generalize ((w6.setCell ⟨wr.heap.size, 0, none⟩ (.string x.name)).setCell ⟨wr.heap.size, 1, none⟩ (.slice p6 x.args.length c6)) = w5 at HAP ⊢
        obtain ⟨B, hBe⟩ : ∃ B, B = wr.heap.size := ⟨_, rfl⟩
        rw [← hBe] at HAP ⊢
        obtain ⟨ha1, ha2, ha3, ⟨SS, ha4, ha5⟩, ha6⟩ := HAP.out
        have HT5 := Lib.hid ha3
        have HO5 := Lib.hid ha4
        have HSS5 := Lib.hid ha5
        have HW5 := Lib.hid ha6
        clear hBe ha3 ha4 ha5 ha6 HAP
        clear hHeld q0 q1 q2 y0 y1 y2 BY hz6 HO6 HW6 z0 z1 z2 TZ hzy
        obtain ⟨z0, z1, z2⟩ := HT5.out
        have CAT := Lib.hid (l2Atom_any x w5 (.slice p6 x.args.length c6) HO5.out.read hxw)
        go_wp2_with fail
        refine CAT.out.mono ?_
        rintro e w7 ⟨rfl, hb⟩
        have HW7 : Hid (Below wr.heap.size wr w7) := Lib.hid (carry_below HW5.out (Nat.le_refl _) hb)
        have hz7 := HW7.out.size
        have HT7 := Lib.hid (HT5.out.kept hb)
        have HO7 : Hid (TmO w7 SS (.slice p6 x.args.length c6) x.args) := Lib.hid (HO5.out.frame fun b h => hb.block b (HSS5.out b h).2)
        have HSS : Hid (∀ b, SS b → wr.heap.size ≤ b ∧ b < w7.heap.size) := Lib.hid (fun b h => ⟨(HSS5.out b h).1, Nat.lt_of_lt_of_le (HSS5.out b h).2 hb.size⟩)
        clear hb z0 z1 z2 CAT
        obtain ⟨z0, z1, z2⟩ := HT7.out
        cases hav : atomB x with
        | false =>
          have HF : Hid (mkOk (apC s l) = false) := Lib.hid (mk_atom (apC_at HD.out) (by rw [← HX.out]; exact hav))
          obtain ⟨r0, r1⟩ := HR.out.kept HW7.out
          have HBF := Lib.hid (carry_below HB.out (Nat.le_refl _) HW7.out)
          clear hav
          go_wp2
          refine bodyPost_ret (v := .tuple #[.agg #[.slice none 0 0], .bool false]) (by simp [results, Tryz.results52, go_sem, r0]) rfl ?_
          exact OkEnd.no (mkR_no HF.out) HF.out (HBF.out.setCell (by simp; try omega) _)
        | true =>
          have HATN : Hid (∀ (j : Nat) (e : Lt), j < k + 1 → (apC s l)[j]? = some e → atomB e.tm = true) := Lib.hid (fun j e hj he => by
            by_cases ej : j = k
            · subst ej; rw [apC_at HD.out, ← HX.out] at he; injection he with he; rw [← he]; exact hav
            · exact HAT.out j e (by omega) he)
          have HR7D : Hid (RowE w0.heap.size w0.heap.size w7.drew (.slice oa L.length oc) L) := Lib.hid ((HROW.out.kept HW7.out).kept (Below.refl _ _).drew)
          have hrowlt : ∀ g, (Value.slice oa L.length oc).ownBlock = some g → w0.heap.size ≤ g ∧ g < wr.heap.size := fun g e => ⟨(HROW.out.row.lt g e).1, (HROW.out.row.lt g e).2⟩
          have HRL := Lib.hid hrowlt
          have d0 := carry_cell c0 HW7.out
          clear hav hrowlt
          go_wp2_with fail
          clear c0 c1 c2 u0 u1
          refine sink_start 10 (fun w' => w'.cell? ⟨b, off + k * 3, none⟩ = some (.bool d.var) ∧ w'.cell? ⟨B, 0, none⟩ = some (.string x.name) ∧ w'.cell? ⟨B, 1, none⟩ = some (.slice p6 x.args.length c6)) (by kernel_rfl) (by exact ⟨by first | assumption | exact carry_cell' ((Below.refl _ _).alloc (Nat.le_refl _) _) (by assumption) | exact carry_cell' ((Below.refl _ _).alloc (Nat.le_refl _) _).drew (by assumption), by first | assumption | exact carry_cell' ((Below.refl _ _).alloc (Nat.le_refl _) _) (by assumption) | exact carry_cell' ((Below.refl _ _).alloc (Nat.le_refl _) _).drew (by assumption), by first | assumption | exact carry_cell' ((Below.refl _ _).alloc (Nat.le_refl _) _) (by assumption) | exact carry_cell' ((Below.refl _ _).alloc (Nat.le_refl _) _).drew (by assumption)⟩) (fun hHeld => ?_)
          refine sink_take 0 (v := ?_) rfl (by kernel_rfl) (by kernel_rfl) (by kernel_rfl) (by kernel_rfl) (by rfl) (fun _ _ _ h => h) (by assumption) ?_ ?_; rotate_left; (intro w hSw; (try dsimp only at hSw); go_simp; try (with_reducible rfl))
          try simp only [Act.put, List.getElem_toArray, List.getElem_cons_zero, List.getElem_cons_succ, List.setIfInBounds_toArray, List.set_cons_zero, List.set_cons_succ]
          refine sink_take 1 (v := ?_) rfl (by kernel_rfl) (by kernel_rfl) (by kernel_rfl) (by kernel_rfl) (by rfl) (fun _ _ _ h => h) (by assumption) ?_ ?_; rotate_left; (intro w hSw; (try dsimp only at hSw); go_simp; try (with_reducible rfl))
          try simp only [Act.put, List.getElem_toArray, List.getElem_cons_zero, List.getElem_cons_succ, List.setIfInBounds_toArray, List.set_cons_zero, List.set_cons_succ]
          refine sink_take 2 (v := ?_) rfl (by kernel_rfl) (by kernel_rfl) (by kernel_rfl) (by kernel_rfl) (by rfl) (fun _ _ _ h => h) (by assumption) ?_ ?_; rotate_left; (intro w hSw; (try dsimp only at hSw); go_simp; try (with_reducible rfl))
          try simp only [Act.put, List.getElem_toArray, List.getElem_cons_zero, List.getElem_cons_succ, List.setIfInBounds_toArray, List.set_cons_zero, List.set_cons_succ]
          refine sink_take 3 (v := ?_) rfl (by kernel_rfl) (by kernel_rfl) (by kernel_rfl) (by kernel_rfl) (by rfl) (fun _ _ _ h => h) (by assumption) ?_ ?_; rotate_left; (intro w hSw; (try dsimp only at hSw); go_simp; try (with_reducible rfl))
          try simp only [Act.put, List.getElem_toArray, List.getElem_cons_zero, List.getElem_cons_succ, List.setIfInBounds_toArray, List.set_cons_zero, List.set_cons_succ]
          refine sink_take 4 (v := ?_) rfl (by kernel_rfl) (by kernel_rfl) (by kernel_rfl) (by kernel_rfl) (by rfl) (fun _ _ _ h => h) (by assumption) ?_ ?_; rotate_left; (intro w hSw; (try dsimp only at hSw); go_simp; try (with_reducible rfl))
          try simp only [Act.put, List.getElem_toArray, List.getElem_cons_zero, List.getElem_cons_succ, List.setIfInBounds_toArray, List.set_cons_zero, List.set_cons_succ]
          refine sink_take 5 (v := ?_) rfl (by kernel_rfl) (by kernel_rfl) (by kernel_rfl) (by kernel_rfl) (by rfl) (fun _ _ _ h => h) (by assumption) ?_ ?_; rotate_left; (intro w hSw; (try dsimp only at hSw); go_simp; try (with_reducible rfl))
          try simp only [Act.put, List.getElem_toArray, List.getElem_cons_zero, List.getElem_cons_succ, List.setIfInBounds_toArray, List.set_cons_zero, List.set_cons_succ]
          refine sink_take 6 (v := ?_) rfl (by kernel_rfl) (by kernel_rfl) (by kernel_rfl) (by kernel_rfl) (by rfl) (fun _ _ _ h => h) (by assumption) ?_ ?_; rotate_left; (intro w hSw; (try dsimp only at hSw); go_simp; try (with_reducible rfl))
          try simp only [Act.put, List.getElem_toArray, List.getElem_cons_zero, List.getElem_cons_succ, List.setIfInBounds_toArray, List.set_cons_zero, List.set_cons_succ]
          refine sink_take 7 (v := ?_) rfl (by kernel_rfl) (by kernel_rfl) (by kernel_rfl) (by kernel_rfl) (by rfl) (fun _ _ _ h => h) (by assumption) ?_ ?_; rotate_left; (intro w hSw; (try dsimp only at hSw); go_simp; try (with_reducible rfl))
          try simp only [Act.put, List.getElem_toArray, List.getElem_cons_zero, List.getElem_cons_succ, List.setIfInBounds_toArray, List.set_cons_zero, List.set_cons_succ]
          refine sink_one (i := 8) (by kernel_rfl) rfl (fun K hK => ?_)
          go_simp
          refine hK.out _ _ (fun _ => by exact ⟨by first | assumption | exact carry_cell' ((Below.refl _ _).alloc (Nat.le_refl _) _) (by assumption) | exact carry_cell' ((Below.refl _ _).alloc (Nat.le_refl _) _).drew (by assumption), by first | assumption | exact carry_cell' ((Below.refl _ _).alloc (Nat.le_refl _) _) (by assumption) | exact carry_cell' ((Below.refl _ _).alloc (Nat.le_refl _) _).drew (by assumption), by first | assumption | exact carry_cell' ((Below.refl _ _).alloc (Nat.le_refl _) _) (by assumption) | exact carry_cell' ((Below.refl _ _).alloc (Nat.le_refl _) _).drew (by assumption)⟩) (fun hHeld => ?_)
          have hHeld := hHeld (by decide)
          clear hK K
          try simp only [Act.put, List.getElem_toArray, List.getElem_cons_zero, List.getElem_cons_succ, List.setIfInBounds_toArray, List.set_cons_zero, List.set_cons_succ]
          refine sink_one (i := 9) (by kernel_rfl) rfl (fun K hK => ?_)
          (refine step_append_lies _ (by rfl) _ _ _ (by rfl) w0.heap.size 86 i0 _ 3 48 Tryz.underlying46 hi hz0 hz1 hz2 rfl (by omega) (.slice oa L.length oc) L.length (enF L) (by rfl) (HR7D.out.row.alloc _) ⟨w7.heap.size, 0, none⟩ 1 1 [.bool d.var, .string x.name, .slice p6 x.args.length c6] (by rfl) (by rfl) (World.news_of_block (cs := #[.bool d.var, .string x.name, .slice p6 x.args.length c6]) (t := 86) (fr := (0, 0)) (heap_alloc_new w7.drew _)) (by simp [Value.oneCell']) (by omega) (by unfold maxLen; omega) (by omega) (by have := hz7; simp; omega) (w7.heap.size + 1) (by simp) ?_; intro gg cap w8 hown8 hgrow hat hlt8; replace hgrow := undrew8 hgrow; have y8a := app_cell hgrow d0 (fun e => by have := (HRL.out b e.symm).1; have := HZ0.out; omega); have y8b := app_cell hgrow z0 (fun e => by have := (HRL.out B e.symm).2; omega); have y8c := app_cell hgrow z1 (fun e => by have := (HRL.out B e.symm).2; omega); have HOWN8 := Lib.hid hown8; have HGROW8 := Lib.hid hgrow; have HAT8 := Lib.hid hat; clear hown8 hgrow hat)
          try go_simp
          refine hK.out _ _ (fun _ => by exact ⟨by first | assumption | exact carry_cell' ((Below.refl _ _).alloc (Nat.le_refl _) _) (by assumption) | exact carry_cell' ((Below.refl _ _).alloc (Nat.le_refl _) _).drew (by assumption), by first | assumption | exact carry_cell' ((Below.refl _ _).alloc (Nat.le_refl _) _) (by assumption) | exact carry_cell' ((Below.refl _ _).alloc (Nat.le_refl _) _).drew (by assumption), by first | assumption | exact carry_cell' ((Below.refl _ _).alloc (Nat.le_refl _) _) (by assumption) | exact carry_cell' ((Below.refl _ _).alloc (Nat.le_refl _) _).drew (by assumption)⟩) (fun hHeld => ?_)
          have hHeld := hHeld (by decide)
          clear hK K
          try simp only [Act.put, List.getElem_toArray, List.getElem_cons_zero, List.getElem_cons_succ, List.setIfInBounds_toArray, List.set_cons_zero, List.set_cons_succ]
          refine sink_one (i := 10) (by kernel_rfl) rfl (fun K hK => ?_)
          go_simp
          refine hK.out _ _ (fun hne => absurd rfl hne) (fun hHeld => ?_)
          clear hK K
          try simp only [Act.put, List.getElem_toArray, List.getElem_cons_zero, List.getElem_cons_succ, List.setIfInBounds_toArray, List.set_cons_zero, List.set_cons_succ]
          refine sink_done (by kernel_rfl) ?_ _
          have HRN : Hid (AI s l w0.heap.size (k + 1) (.slice (some ⟨gg, 0, none⟩) (L.length + 1) cap) w8) := Lib.hid ⟨_, RowE.app (w := w7.alloc (.cells #[.bool d.var, .string x.name, .slice p6 x.args.length c6] 86)) (d := ⟨d.var, x⟩) (S := SS) ((HROW.out.kept HW7.out).kept ((Below.refl _ _).alloc (Nat.le_refl _) _)) (HO7.out.frame fun b hb => Below.heap_alloc _ _ _ (HSS.out b hb).2) (fun b hb => ⟨Nat.le_trans hlw (HSS.out b hb).1, by simp; have := (HSS.out b hb).2; omega⟩) (fun y hy b h1 h2 => by have h3 := (HROW.out.ens.sub y hy b h1).2; have h4 := (HSS.out b h2).1; omega) (fun g e h => by have h3 := (HRL.out g e).2; have h4 := (HSS.out g h).1; omega) HOWN8.out (by simpa using HAT8.out) HGROW8.out, by rw [bdsE_append, HBD.out, HNX.out]; rfl, by have := HGROW8.out.size; simp at this; omega⟩
          have HG8 : Hid (wr.grownBy w8 (Value.slice oa L.length oc).ownBlock) := Lib.hid (grown_trans (grown_trans (grown_of_below HW7.out _) (World.grownBy_alloc _ _ _)) HGROW8.out)
          have HR8 := Lib.hid (grown_one HR.out HG8.out (fun g e => (HRL.out g e).1) (by have := HZ0.out; omega))
          have HS8 := Lib.hid (grown_one HSB.out HG8.out (fun g e => (HRL.out g e).1) (by have := HZ0.out; omega))
          have HB8 : Hid (Below w.heap.size w w8) := Lib.hid (HB.out.trans ⟨HG8.out.os, HG8.out.tape, HG8.out.output, HG8.out.size, fun b hb => HG8.out.block b (by have := HB.out.size; omega) (fun e => by have := (HRL.out b e.symm).1; have := HZ0.out; omega)⟩)
          clear hHeld
          go_wp2
          go_roundw
          case rel => exact ⟨k + 1, _, by omega, by go_num, rfl, HRN.out, HATN.out, HS8.out, HR8.out, HB8.out⟩
          case measure => simp [intOf]; omega

    · have hke : k = l.length := by omega
      have HL : Hid (bdsE L = apC s l) := Lib.hid (by rw [HBD.out, hke, List.take_length])
      have HRD := Lib.hid HROW.out.read
      have HALL : Hid (∀ d ∈ apC s l, atomB d.tm = true) := Lib.hid (fun d hd => by
        obtain ⟨j, hj⟩ := List.getElem?_of_mem hd
        exact HAT.out j d (by have := (List.getElem?_eq_some_iff.1 hj).1; rw [apC_len] at this; omega) hj)
      have HCM : Hid (Calls Tryz.prog 92 #[.slice oa L.length oc] wr (MkEnd (makeL (apC s l)) wr)) := Lib.hid (l7Make_any (apC s l) wr _ (by rw [← HL.out]; exact HRD.out) HWR.out)
      have hzr := HBS.out
      clear hke u0 u1
      go_wp2_with fail
      refine HCM.out.mono ?_
      rintro e w5 ⟨v5, L5, rfl, hr5, hb5, hb⟩
      obtain ⟨p5, c5, rfl⟩ := hr5.is_slice
      have HR5 := Lib.hid hr5
      have HL5 := Lib.hid hb5
      have HB5 := Lib.hid (carry_below HB.out (Nat.le_refl _) hb)
      have HRC := Lib.hid (HR.out.kept hb)
      have hzb := hb.size
      have HWM : Hid (wtC (bdsE L5) ≤ 1048576) := Lib.hid (by rw [hb5]; exact Nat.le_trans (make_wt _) HWR.out)
      have HGM : Hid (goodC (bdsE L5) = decide ((bdsE L5).length ≤ 8)) := Lib.hid (by rw [hb5]; exact good_make HALL.out)
      have hlb : (bdsE L5).length = L5.length := bdsE_len L5
      clear hr5 hb5 hb
      have CG := Lib.hid (l7Good_any (bdsE L5) (w5.alloc (.cells #[.slice p5 L5.length c5] 48)) (.slice p5 L5.length c5) (by have h := HR5.out.read.kept ((Below.refl w5.heap.size w5).alloc (Nat.le_refl _) (.cells #[.slice p5 L5.length c5] 48)); exact h) HWM.out)
      have TB := oner_new w5 (.slice p5 L5.length c5) 48 _ rfl
      have HTB := Lib.hid TB
      obtain ⟨m0, m1⟩ := TB
      have HB5A := Lib.hid (HB5.out.alloc HB5.out.size (.cells #[.slice p5 L5.length c5] 48))
      have HRCA := Lib.hid (HRC.out.kept ((Below.refl _ _).alloc (Nat.le_refl _) (.cells #[.slice p5 L5.length c5] 48)))
      go_wp2_with fail
      refine CG.out.mono ?_
      rintro e w9 ⟨rfl, hb⟩
      have HB9 := Lib.hid (carry_below HB5A.out (Nat.le_refl _) hb)
      have HTB9 := Lib.hid (HTB.out.kept hb)
      obtain ⟨r0, r1⟩ := HRCA.out.kept hb
      have HB59 : Hid (Below w5.heap.size w5 w9) := Lib.hid (carry_below ((Below.refl w5.heap.size w5).alloc (Nat.le_refl _) (.cells #[.slice p5 L5.length c5] 48)) (Nat.le_refl _) hb)
      clear hb m0 m1 CG
      obtain ⟨m0, m1⟩ := HTB9.out
      cases hg : goodC (bdsE L5) with
      | false =>
        have HF : Hid (mkOk (apC s l) = false) := Lib.hid (by
          have h := HGM.out
          rw [hg, HL5.out] at h
          unfold mkOk
          rw [← h, Bool.and_false])
        clear hg
        go_wp2
        refine bodyPost_ret (v := .tuple #[.agg #[.slice none 0 0], .bool false]) (by simp [results, Tryz.results52, go_sem, r0]) rfl ?_
        exact OkEnd.no (mkR_no HF.out) HF.out (HB9.out.setCell (by simp; try omega) _)
      | true =>
        have HOKS : Hid (mkOk (apC s l) = true) := Lib.hid (by
          have h := HGM.out
          rw [hg, HL5.out] at h
          exact mk_yes HALL.out (of_decide_eq_true h.symm))
        clear hg
        go_wp2
        refine bodyPost_ret (v := .tuple #[.agg #[.slice p5 L5.length c5], .bool true]) (by simp [results, Tryz.results52, go_sem, r0]) rfl ?_
        rw [mkR_yes HOKS.out, HOKS.out, ← HL5.out]
        refine ⟨_, rfl, ?_, HB9.out.setCell (by simp) _⟩
        have hwh : LtO w9 (Fresh wr w5) (.slice p5 L5.length c5) (bdsE L5) := (HR5.out.whole (w0 := wr) (Nat.le_refl _) (Nat.le_refl _)).frame fun k hk => HB59.out.block k hk.2
        refine (hwh.setCell (fun h => by have h1 : wr.heap.size ≤ w.heap.size + 1 := h.1; have := HZ0.out; omega) _).mono fun y hy => ⟨?_, ?_⟩
        · have := hy.1; have := HZ0.out; omega
        · have := hy.2; have := HB59.out.size; simp only [size_setCell]; omega

end Go.Proofs.YtgpmdfhepanahaaGreat.lit

/- ApplyToClause, both sides: contracts. -/
namespace Go.Proofs.YtgpmdfhepanahaaGreat.lit
open Go.RowKit
set_option linter.unusedVariables false

def apOk (s : List Bd) (l : List Lt) : Bool := goodS s && (goodC l && mkOk (apC s l))
def apR (s : List Bd) (l : List Lt) : List Lt := if apOk s l then mkR (apC s l) else []
theorem apR_no {s : List Bd} {l : List Lt} (h : apOk s l = false) : apR s l = [] := by unfold apR; rw [if_neg (by rw [h]; simp)]
theorem apOk_in {s : List Bd} {l : List Lt} (h1 : goodS s = true) (h2 : goodC l = true) : apOk s l = mkOk (apC s l) ∧ apR s l = mkR (apC s l) := by
  have e : apOk s l = mkOk (apC s l) := by unfold apOk; rw [h1, h2]; rfl
  refine ⟨e, ?_⟩
  unfold apR
  cases h : apOk s l with
  | true => rfl
  | false => rw [mkR_no (by rw [← e, h])]; rfl
theorem sumC_le_mul {M : Nat} : ∀ {l : List Lt}, (∀ d ∈ l, Lt.wt d ≤ M) → sumC Lt.wt l ≤ M * l.length
  | [], _ => by simp [sumC]
  | d :: r, h => by
    have h1 := h d List.mem_cons_self
    have h2 := sumC_le_mul (l := r) (fun x hx => h x (List.mem_cons_of_mem _ hx))
    simp only [sumC, List.length_cons, Nat.mul_add, Nat.mul_one]; omega
theorem goodC_le {l : List Lt} (h : goodC l = true) : l.length ≤ 8 := by
  unfold goodC at h
  rw [Bool.and_eq_true] at h
  exact of_decide_eq_true h.1
theorem apC_wt {s : List Bd} {l : List Lt} (h1 : goodS s = true) (h2 : goodC l = true) : wtC (apC s l) ≤ 1048576 := by
  have hl := goodC_le h2
  have h := sumC_le_mul (M := 6520) (l := apC s l) (fun d hd => by
    obtain ⟨e, he, rfl⟩ := List.mem_map.1 hd
    obtain ⟨j, hj⟩ := List.getElem?_of_mem he
    have h3 := app_wt_good (l := s) (t := e.tm) h1 (atom_any (goodC_atom h2 hj))
    unfold Lt.wt
    show (e.tm.app s).wt ≤ 6520
    omega)
  rw [apC_len] at h
  unfold wtC
  rw [apC_len]
  have h4 : 6520 * l.length ≤ 6520 * 8 := Nat.mul_le_mul_left _ hl
  omega
theorem apR_wt (s : List Bd) (l : List Lt) : wtC (apR s l) ≤ 1048576 := by
  unfold apR
  split
  · rename_i h
    unfold apOk at h
    rw [Bool.and_eq_true, Bool.and_eq_true] at h
    exact Nat.le_trans (mkR_wt _) (apC_wt h.1 h.2.1)
  · simp [wtC, sumC]

set_option maxRecDepth 100000 in
set_option maxHeartbeats 4000000 in
theorem specApC_any (s : List Bd) (l : List Lt) (w : World) (vs v : Value) (hvs : BdS w vs s) (hv : LtS w v l) (hs : wtB s ≤ 1048576) (hw : wtC l ≤ 1048576) :
    Calls Tryz.prog 20 #[.agg #[vs], .agg #[v]] w (OkEnd (apR s l) (apOk s l) w) := by
  obtain ⟨a, c, rfl⟩ := hvs.is_slice
  obtain ⟨p, q, rfl⟩ := hv.is_slice
  have HBS := Lib.hid hvs
  have HV := Lib.hid hv
  have S3 := Lib.hid (((oner_new w (.slice a s.length c) 61 _ rfl).alloc (.cells #[.slice p l.length q] 48)).alloc (.cells #[.slice none 0 0] 48))
  have T3 := Lib.hid ((oner_new (w.alloc (.cells #[.slice a s.length c] 61)) (.slice p l.length q) 48 (w.heap.size + 1) (by simp)).alloc (.cells #[.slice none 0 0] 48))
  have R3 := Lib.hid (oner_new ((w.alloc (.cells #[.slice a s.length c] 61)).alloc (.cells #[.slice p l.length q] 48)) (.slice none 0 0) 48 (w.heap.size + 1 + 1) (by simp))
  have HB := Lib.hid ((((Below.refl w.heap.size w).alloc (Nat.le_refl _) (.cells #[.slice a s.length c] 61)).alloc (by simp) (.cells #[.slice p l.length q] 48)).alloc (by simp; omega) (.cells #[.slice none 0 0] 48))
  clear hvs hv
  obtain ⟨s0, s1⟩ := S3.out
  obtain ⟨b0, b1⟩ := T3.out
  obtain ⟨r0, r1⟩ := R3.out
  go_enter Tryz.func20, Tryz.ntmps20
  go_wp2_with fail
  refine (l4Good_any s _ _ (HBS.out.kept HB.out) hs).mono ?_
  rintro e w1 ⟨rfl, hb⟩
  have HB1 := Lib.hid (carry_below HB.out (Nat.le_refl _) hb)
  have S4 := Lib.hid (S3.out.kept hb)
  have T4 := Lib.hid (T3.out.kept hb)
  have R4 := Lib.hid (R3.out.kept hb)
  clear hb HB S3 T3 R3 s0 s1 b0 b1 r0 r1
  obtain ⟨s0, s1⟩ := S4.out
  obtain ⟨b0, b1⟩ := T4.out
  obtain ⟨r0, r1⟩ := R4.out
  cases hg : goodS s with
  | false =>
    have HF : Hid (apOk s l = false) := Lib.hid (by unfold apOk; rw [hg]; rfl)
    clear hg
    go_wp2
    refine bodyPost_ret (v := .tuple #[.agg #[.slice none 0 0], .bool false]) (by simp [results, Tryz.results20, go_sem, r0]) rfl ?_
    exact OkEnd.no (apR_no HF.out) HF.out (HB1.out.setCell (by simp; try omega) _)
  | true =>
    have HG := Lib.hid hg
    clear hg
    go_wp2_with fail
    refine (l7Good_any l _ _ (HV.out.kept HB1.out) hw).mono ?_
    rintro e w2 ⟨rfl, hb⟩
    have HB2 := Lib.hid (carry_below HB1.out (Nat.le_refl _) hb)
    have S5 := Lib.hid (S4.out.kept hb)
    have T5 := Lib.hid (T4.out.kept hb)
    have R5 := Lib.hid (R4.out.kept hb)
    clear hb HB1 S4 T4 R4 s0 s1 b0 b1 r0 r1
    obtain ⟨s0, s1⟩ := S5.out
    obtain ⟨b0, b1⟩ := T5.out
    obtain ⟨r0, r1⟩ := R5.out
    cases hf : goodC l with
    | false =>
      have HF : Hid (apOk s l = false) := Lib.hid (by unfold apOk; rw [hf]; simp)
      clear hf
      go_wp2
      refine bodyPost_ret (v := .tuple #[.agg #[.slice none 0 0], .bool false]) (by simp [results, Tryz.results20, go_sem, r0]) rfl ?_
      exact OkEnd.no (apR_no HF.out) HF.out (HB2.out.setCell (by simp; try omega) _)
    | true =>
      have HE : Hid (apOk s l = mkOk (apC s l) ∧ apR s l = mkR (apC s l)) := Lib.hid (apOk_in HG.out hf)
      have CA := Lib.hid (l7Apply_any s hs (good_asc HG.out) l w2 _ _ (HBS.out.kept HB2.out) (HV.out.kept HB2.out) hw (apC_wt HG.out hf))
      have hz2 : w.heap.size + 3 ≤ w2.heap.size := by have := World.block_lt_of_cell? _ _ r0; simp at this; omega
      clear hf
      obtain ⟨R, hR⟩ : ∃ R, R = mkR (apC s l) := ⟨_, rfl⟩
      obtain ⟨O, hO⟩ : ∃ O, O = mkOk (apC s l) := ⟨_, rfl⟩
      rw [← hR, ← hO] at CA
      have HRE : Hid (apR s l = R ∧ apOk s l = O) := Lib.hid ⟨by rw [HE.out.2, hR], by rw [HE.out.1, hO]⟩
      clear hR hO HE
      go_wp2_with fail
      refine CA.out.mono ?_
      rintro e w3 ⟨v3, rfl, ho, hb⟩
      have HO := Lib.hid ho
      have HB3 := Lib.hid (carry_below HB2.out (Nat.le_refl _) hb)
      obtain ⟨p3, q3, rfl⟩ := ho.read.is_slice
      clear s0 s1 b0 b1 r0 r1
      obtain ⟨r0, r1⟩ := R5.out.kept hb
      clear ho hb
      go_wp2
      refine bodyPost_ret (v := .tuple #[.agg #[.slice p3 R.length q3], .bool O]) (by simp [results, Tryz.results20, go_sem, r0]) rfl ?_
      rw [HRE.out.1, HRE.out.2]
      refine ⟨_, rfl, ?_, HB3.out.setCell (by simp; try omega) _⟩
      refine (HO.out.setCell (fun h => by have h1 : w2.heap.size ≤ w.heap.size + 1 + 1 := h.1; omega) _).mono fun y hy => ⟨?_, ?_⟩
      · have := hy.1; omega
      · simp only [size_setCell]; exact hy.2

set_option maxRecDepth 100000 in
set_option maxHeartbeats 4000000 in
theorem implApC_any (s : List Bd) (l : List Lt) (w : World) (vs v : Value) (hvs : BdS w vs s) (hv : LtS w v l) (hs : wtB s ≤ 1048576) (hw : wtC l ≤ 1048576) :
    Calls Tryz.prog 22 #[.agg #[vs], .agg #[v]] w (OkEnd (apR s l) (apOk s l) w) := by
  obtain ⟨a, c, rfl⟩ := hvs.is_slice
  obtain ⟨p, q, rfl⟩ := hv.is_slice
  have HBS := Lib.hid hvs
  have HV := Lib.hid hv
  have S3 := Lib.hid (((oner_new w (.slice a s.length c) 61 _ rfl).alloc (.cells #[.slice p l.length q] 48)).alloc (.cells #[.slice none 0 0] 48))
  have T3 := Lib.hid ((oner_new (w.alloc (.cells #[.slice a s.length c] 61)) (.slice p l.length q) 48 (w.heap.size + 1) (by simp)).alloc (.cells #[.slice none 0 0] 48))
  have R3 := Lib.hid (oner_new ((w.alloc (.cells #[.slice a s.length c] 61)).alloc (.cells #[.slice p l.length q] 48)) (.slice none 0 0) 48 (w.heap.size + 1 + 1) (by simp))
  have HB := Lib.hid ((((Below.refl w.heap.size w).alloc (Nat.le_refl _) (.cells #[.slice a s.length c] 61)).alloc (by simp) (.cells #[.slice p l.length q] 48)).alloc (by simp; omega) (.cells #[.slice none 0 0] 48))
  clear hvs hv
  obtain ⟨s0, s1⟩ := S3.out
  obtain ⟨b0, b1⟩ := T3.out
  obtain ⟨r0, r1⟩ := R3.out
  go_enter Tryz.func22, Tryz.ntmps22
  go_wp2_with fail
  refine (implIsValidSub_any s _ _ (HBS.out.kept HB.out) hs).mono ?_
  rintro e w1 ⟨rfl, hb⟩
  have HB1 := Lib.hid (carry_below HB.out (Nat.le_refl _) hb)
  have S4 := Lib.hid (S3.out.kept hb)
  have T4 := Lib.hid (T3.out.kept hb)
  have R4 := Lib.hid (R3.out.kept hb)
  clear hb HB S3 T3 R3 s0 s1 b0 b1 r0 r1
  obtain ⟨s0, s1⟩ := S4.out
  obtain ⟨b0, b1⟩ := T4.out
  obtain ⟨r0, r1⟩ := R4.out
  cases hg : goodS s with
  | false =>
    have HF : Hid (apOk s l = false) := Lib.hid (by unfold apOk; rw [hg]; rfl)
    clear hg
    go_wp2
    refine bodyPost_ret (v := .tuple #[.agg #[.slice none 0 0], .bool false]) (by simp [results, Tryz.results22, go_sem, r0]) rfl ?_
    exact OkEnd.no (apR_no HF.out) HF.out (HB1.out.setCell (by simp; try omega) _)
  | true =>
    have HG := Lib.hid hg
    clear hg
    go_wp2_with fail
    refine (implVCl_any l _ _ (HV.out.kept HB1.out) hw).mono ?_
    rintro e w2 ⟨rfl, hb⟩
    have HB2 := Lib.hid (carry_below HB1.out (Nat.le_refl _) hb)
    have S5 := Lib.hid (S4.out.kept hb)
    have T5 := Lib.hid (T4.out.kept hb)
    have R5 := Lib.hid (R4.out.kept hb)
    clear hb HB1 S4 T4 R4 s0 s1 b0 b1 r0 r1
    obtain ⟨s0, s1⟩ := S5.out
    obtain ⟨b0, b1⟩ := T5.out
    obtain ⟨r0, r1⟩ := R5.out
    cases hf : goodC l with
    | false =>
      have HF : Hid (apOk s l = false) := Lib.hid (by unfold apOk; rw [hf]; simp)
      clear hf
      go_wp2
      refine bodyPost_ret (v := .tuple #[.agg #[.slice none 0 0], .bool false]) (by simp [results, Tryz.results22, go_sem, r0]) rfl ?_
      exact OkEnd.no (apR_no HF.out) HF.out (HB2.out.setCell (by simp; try omega) _)
    | true =>
      have HE : Hid (apOk s l = mkOk (apC s l) ∧ apR s l = mkR (apC s l)) := Lib.hid (apOk_in HG.out hf)
      have CA := Lib.hid (replC_any s hs (good_asc HG.out) l w2 _ _ (HBS.out.kept HB2.out) (HV.out.kept HB2.out) hw (apC_wt HG.out hf))
      have hz2 : w.heap.size + 3 ≤ w2.heap.size := by have := World.block_lt_of_cell? _ _ r0; simp at this; omega
      clear hf
      obtain ⟨R, hR⟩ : ∃ R, R = mkR (apC s l) := ⟨_, rfl⟩
      obtain ⟨O, hO⟩ : ∃ O, O = mkOk (apC s l) := ⟨_, rfl⟩
      rw [← hR, ← hO] at CA
      have HRE : Hid (apR s l = R ∧ apOk s l = O) := Lib.hid ⟨by rw [HE.out.2, hR], by rw [HE.out.1, hO]⟩
      clear hR hO HE
      go_wp2_with fail
      refine CA.out.mono ?_
      rintro e w3 ⟨v3, rfl, ho, hb⟩
      have HO := Lib.hid ho
      have HB3 := Lib.hid (carry_below HB2.out (Nat.le_refl _) hb)
      obtain ⟨p3, q3, rfl⟩ := ho.read.is_slice
      clear s0 s1 b0 b1 r0 r1
      obtain ⟨r0, r1⟩ := R5.out.kept hb
      clear ho hb
      go_wp2
      refine bodyPost_ret (v := .tuple #[.agg #[.slice p3 R.length q3], .bool O]) (by simp [results, Tryz.results22, go_sem, r0]) rfl ?_
      rw [HRE.out.1, HRE.out.2]
      refine ⟨_, rfl, ?_, HB3.out.setCell (by simp; try omega) _⟩
      refine (HO.out.setCell (fun h => by have h1 : w2.heap.size ≤ w.heap.size + 1 + 1 := h.1; omega) _).mono fun y hy => ⟨?_, ?_⟩
      · have := hy.1; omega
      · simp only [size_setCell]; exact hy.2

end Go.Proofs.YtgpmdfhepanahaaGreat.lit
