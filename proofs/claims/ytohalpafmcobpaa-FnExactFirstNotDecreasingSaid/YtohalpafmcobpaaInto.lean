/- The model's list of a term's variables: a contract. -/
import Derived.Test.YtohalpafmcobpaaPut
import Derived.Test.YtohalpafmcobpaaNameS
import Derived.Test.YtohalpafmcobpaaSizes
namespace Go.Proofs.Ytohalpafmcobpaa
open Go.RowKit
set_option linter.unusedVariables false

mutual
def Tm.into : Tm → List ByteArray → List ByteArray
  | .node n a, l => if varB n then putS n l else Tm.intoL a l
def Tm.intoL : List Tm → List ByteArray → List ByteArray
  | [], l => l
  | t :: r, l => Tm.intoL r (Tm.into t l)
end

theorem Tm.into_eq (t : Tm) (l : List ByteArray) : t.into l = if varB t.name then putS t.name l else Tm.intoL t.args l := by
  cases t with
  | node n a => rw [Tm.into]; rfl
theorem Tm.intoL_append : ∀ (a b : List Tm) (l : List ByteArray), Tm.intoL (a ++ b) l = Tm.intoL b (Tm.intoL a l)
  | [], b, l => by simp [Tm.intoL]
  | t :: r, b, l => by simp [Tm.intoL, Tm.intoL_append r b]
theorem Tm.intoL_next {a : List Tm} {k : Nat} {t : Tm} (h : a[k]? = some t) (l : List ByteArray) : Tm.intoL (a.take (k + 1)) l = t.into (Tm.intoL (a.take k) l) := by
  rw [take_next h, Tm.intoL_append]; simp [Tm.intoL]
theorem putS_len (s : ByteArray) : ∀ l : List ByteArray, (putS s l).length ≤ l.length + 1
  | [] => by simp [putS]
  | q :: r => by
    unfold putS
    split
    · have := putS_len s r; simp; omega
    · split <;> simp
theorem Tm.into_len : ∀ t : Tm, ∀ l, (t.into l).length ≤ l.length + t.sz := Tm.ind fun t ih => by
  have h : ∀ (a : List Tm), (∀ s ∈ a, ∀ l, (s.into l).length ≤ l.length + s.sz) → ∀ l, (Tm.intoL a l).length ≤ l.length + sumL Tm.sz a := by
    intro a
    induction a with
    | nil => intro _ l; simp [Tm.intoL, sumL]
    | cons t r ih2 =>
      intro hh l
      have h1 := hh t List.mem_cons_self l
      have h2 := ih2 (fun s hs => hh s (List.mem_cons_of_mem _ hs)) (t.into l)
      have e : sumL Tm.sz (t :: r) = t.sz + sumL Tm.sz r := by simp [sumL]
      rw [Tm.intoL, e]; omega
  intro l
  rw [Tm.into_eq]
  have e := t.sz_eq
  split
  · have := putS_len t.name l; omega
  · have := h t.args ih l; omega
theorem Tm.intoL_len (a : List Tm) (k : Nat) (l : List ByteArray) : (Tm.intoL (a.take k) l).length ≤ l.length + sumL Tm.sz (a.take k) := by
  generalize a.take k = b
  induction b generalizing l with
  | nil => simp [Tm.intoL, sumL]
  | cons t r ih =>
    have h1 := t.into_len l
    have h2 := ih (t.into l)
    have e : sumL Tm.sz (t :: r) = t.sz + sumL Tm.sz r := by simp [sumL]
    rw [Tm.intoL, e]; omega

def IntoEnd (t : Tm) (l : List ByteArray) (w : World) (e : Ending) (w' : World) : Prop := ∃ v', e = .returned v' ∧ LV w' v' (t.into l) ∧ Below w.heap.size w w'

def IntoT (t : Tm) : Prop := ∀ (w : World) (va vl : Value) (l : List ByteArray), TmS w va t.args → LV w vl l → t.wt ≤ 1048576 → l.length + t.sz ≤ 1048576 →
  Calls Try.prog 160 #[vl, .agg #[.string t.name, va]] w (IntoEnd t l w)

set_option maxRecDepth 100000 in
set_option maxHeartbeats 2000000 in
theorem into_of (t : Tm) (h : ∀ s ∈ t.args, IntoT s) : IntoT t := by
  intro w va vl l hv hl hw hn
  have H := Lib.hid h
  have HL := Lib.hid (fun (s : Tm) (hs : s ∈ t.args) => Nat.le_trans (Tm.wt_arg hs) hw)
  have hlen := Tm.wt_len t
  obtain ⟨a, c, rfl⟩ := hv.is_slice
  have HV := Lib.hid hv
  have H2 := Lib.hid (two_new w (.string t.name) (.slice a t.args.length c) 49 _ rfl)
  have HLV := Lib.hid (hl.kept ((Below.refl w.heap.size w).alloc (Nat.le_refl _) (.cells #[.string t.name, .slice a t.args.length c] 49)))
  have CV := Lib.hid (fun W => l2Var_any t.name W (by have := t.wt_name; unfold maxLen; omega))
  obtain ⟨vb, cb, rfl, _⟩ := id hl
  have hsz := t.sz_eq
  have HSZ := Lib.hid hsz
  clear h hv hl hsz
  cases hb : varB t.name with
  | true =>
    have HE : Hid (t.into l = putS t.name l) := Lib.hid (by rw [Tm.into_eq, if_pos hb])
    rw [hb] at CV
    clear hb
    go_enter Try.func160, Try.ntmps160
    obtain ⟨b0, b1, b2⟩ := H2.out
    go_wp2_with (go_at_call 61; refine (CV.out _).mono ?_; rintro e w' ⟨rfl, rfl⟩)
    refine (put_any l _ t.name _ HLV.out (by omega)).mono ?_
    rintro e w2 ⟨v2, rfl, hv2, hb2⟩
    have HR : Hid (IntoEnd t l w (.returned v2) w2) := Lib.hid ⟨_, rfl, by rw [HE.out]; exact hv2, carry_below ((Below.refl _ _).alloc (Nat.le_refl _) _) (by simp) hb2⟩
    obtain ⟨b3, c3, rfl, _⟩ := hv2
    go_wp2
    go_ret
    exact HR.out
  | false =>
    have HE : Hid (t.into l = Tm.intoL t.args l) := Lib.hid (by rw [Tm.into_eq, hb]; rfl)
    rw [hb] at CV
    clear hb
    go_enter Try.func160, Try.ntmps160
    obtain ⟨b0, b1, b2⟩ := H2.out
    go_wp2_with (go_at_call 61; refine (CV.out _).mono ?_; rintro e w' ⟨rfl, rfl⟩)
    go_loopw [0, 5] (fun z i wr => ∃ k : Nat, k ≤ t.args.length ∧ i = .int .i64 k ∧ LV wr z (Tm.intoL (t.args.take k) l) ∧ Two wr w.heap.size (.string t.name) (.slice a t.args.length c) ∧ Below w.heap.size w wr) (fun _ i _ => t.args.length - (intOf i).toNat)
    case atStart => exact ⟨0, Nat.zero_le _, rfl, by simpa [Tm.intoL] using HLV.out, H2.out, (Below.refl _ _).alloc (Nat.le_refl _) _⟩
    case round =>
      obtain ⟨k, hk, rfl, hlv, htwo, hbel⟩ := hrel
      have HLW := Lib.hid hlv
      have HB := Lib.hid hbel
      have H2W := Lib.hid htwo
      obtain ⟨d0, d1, d2⟩ := htwo
      obtain ⟨vb2, cb2, rfl, _⟩ := hlv
      clear hbel b0 b1 b2
      by_cases hlt : k < t.args.length
      · obtain ⟨s, hs⟩ : ∃ s, t.args[k]? = some s := ⟨_, List.getElem?_eq_getElem hlt⟩
        obtain ⟨b, off, rfl, va, c0, c1, hva⟩ := HV.out.get hs
        have c0' := carry_cell c0 HB.out
        have c1' := carry_cell c1 HB.out
        have HVA := Lib.hid (hva.kept HB.out)
        have HS := Lib.hid hs
        clear hs c0 c1 hva
        have hroom : (Tm.intoL (t.args.take k) l).length + s.sz ≤ 1048576 := by
          have h1 := Tm.intoL_len t.args k l
          have h2 := sumL_next (f := Tm.sz) HS.out
          have h3 := sumL_take Tm.sz t.args (k + 1)
          have := HSZ.out
          omega
        go_wp2_with fail
        refine (H.out s (mem_of_at HS.out) _ va _ _ HVA.out HLW.out (HL.out s (mem_of_at HS.out)) hroom).mono ?_
        rintro e w' ⟨v', rfl, hv', hb⟩
        have HB2 := Lib.hid (carry_below HB.out (Nat.le_refl _) hb)
        have H2W2 := Lib.hid (H2W.out.kept hb)
        obtain ⟨e0, e1, e2⟩ := H2W.out.kept hb
        have HLV2 : Hid (LV w' v' (Tm.intoL (t.args.take (k + 1)) l)) := Lib.hid (by rw [Tm.intoL_next HS.out]; exact hv')
        obtain ⟨vb3, cb3, rfl, _⟩ := hv'
        clear hb hroom
        go_wp2
        go_roundw
        case rel => exact ⟨k + 1, by omega, by go_num, HLV2.out, H2W2.out, HB2.out⟩
        case measure => simp [intOf]; omega
      · have hke : k = t.args.length := by omega
        have HR : Hid (IntoEnd t l w (.returned (.slice (some ⟨vb2, 0, none⟩) (Tm.intoL (t.args.take k) l).length cb2)) wr) := Lib.hid ⟨_, rfl, by rw [HE.out]; have h := HLW.out; rw [hke, List.take_length] at h ⊢; exact h, HB.out⟩
        go_wp2
        go_ret
        exact HR.out

end Go.Proofs.Ytohalpafmcobpaa
