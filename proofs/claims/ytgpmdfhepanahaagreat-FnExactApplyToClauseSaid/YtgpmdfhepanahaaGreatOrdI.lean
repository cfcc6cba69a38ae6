/- The program's comparison of terms: a contract, for terms of at most 1048576 names' bytes and arguments. -/
import Derived.Test.YtgpmdfhepanahaaGreatOrd
import Derived.Test.YtgpmdfhepanahaaGreatOrdS
namespace Go.Proofs.YtgpmdfhepanahaaGreat
open Go.RowKit
set_option linter.unusedVariables false

def OrdI (a : Tm) : Prop := ∀ (b : Tm) (w : World) (va vb : Value), TmS w va a.args → TmS w vb b.args → a.wt ≤ 1048576 → b.wt ≤ 1048576 →
  Calls Tryz.prog 153 #[.agg #[.string a.name, va], .agg #[.string b.name, vb]] w (Ans (.int .i64 (ordT a b)) w)

def CmpF (l : List Tm) : Prop := ∀ (r : List Tm) (w : World) (va vb : Value), TmS w va l → TmS w vb r → l.length = r.length → l.length ≤ 1048576 → (∀ s ∈ l, s.wt ≤ 1048576) → (∀ s ∈ r, s.wt ≤ 1048576) →
  Calls Tryz.prog 170 #[va, vb, .func (.func 153) #[] #[]] w (Ans (.int .i64 (ordL l r)) w)

set_option maxHeartbeats 2000000 in
theorem cmpF_of (l : List Tm) (h : ∀ s ∈ l, OrdI s) : CmpF l := by
  intro r w va vb hva hvb hl hll hwa hwb
  have H := Lib.hid h
  have HWA := Lib.hid hwa
  have HWB := Lib.hid hwb
  have HLE := Lib.hid hl
  have hlr : r.length ≤ 1048576 := by omega
  obtain ⟨pa, ca, rfl⟩ := hva.is_slice
  obtain ⟨pb, cb, rfl⟩ := hvb.is_slice
  have HVA := Lib.hid hva
  have HVB := Lib.hid hvb
  clear h hva hvb hwa hwb hl
  go_enter Tryz.func170, Tryz.ntmps170
  go_wp2
  go_loopw [13] (fun i wr => ∃ k : Nat, k ≤ l.length ∧ i = .int .i64 k ∧ Level l r k ∧ Below w.heap.size w wr) (fun i _ => l.length - (intOf i).toNat)
  case atStart => exact ⟨0, Nat.zero_le _, rfl, fun j _ _ hj => absurd hj (Nat.not_lt_zero _), Below.refl _ _⟩
  case round =>
    obtain ⟨k, hk, rfl, hlev, hbel⟩ := hrel
    have HLV := Lib.hid hlev
    have HBE := Lib.hid hbel
    clear hlev hbel
    by_cases hlt : k < l.length
    · have hltb : k < r.length := by have := HLE.out; omega
      obtain ⟨x, hx⟩ : ∃ s, l[k]? = some s := ⟨_, List.getElem?_eq_getElem hlt⟩
      obtain ⟨y, hy⟩ : ∃ s, r[k]? = some s := ⟨_, List.getElem?_eq_getElem hltb⟩
      obtain ⟨b1, o1, rfl, v1, x0, x1, x2⟩ := HVA.out.get hx
      obtain ⟨b2, o2, rfl, v2, y0, y1, y2⟩ := HVB.out.get hy
      have x0' := carry_cell x0 HBE.out
      have x1' := carry_cell x1 HBE.out
      have y0' := carry_cell y0 HBE.out
      have y1' := carry_cell y1 HBE.out
      have X2 := Lib.hid (x2.kept HBE.out)
      have Y2 := Lib.hid (y2.kept HBE.out)
      obtain ⟨p1, c1, rfl⟩ := x2.is_slice
      obtain ⟨p2, c2, rfl⟩ := y2.is_slice
      have y0'' : (wr.alloc (.cells #[.string x.name, .slice p1 x.args.length c1] 31)).cell? ⟨b2, o2 + k * 2, none⟩ = some (.string y.name) := carry_cell' ((Below.refl _ _).alloc (Nat.le_refl _) _) y0'
      have y1'' : (wr.alloc (.cells #[.string x.name, .slice p1 x.args.length c1] 31)).cell? ⟨b2, o2 + k * 2 + 1, none⟩ = some (.slice p2 y.args.length c2) := carry_cell' ((Below.refl _ _).alloc (Nat.le_refl _) _) y1'
      have HXX := Lib.hid hx
      have HYY := Lib.hid hy
      clear hx hy x0 x1 y0 y1 x2 y2
      have HR := Lib.hid (ordT_range x y)
      obtain ⟨q, hq⟩ : ∃ q, q = ordT x y := ⟨_, rfl⟩
      have C0 : Hid (∀ W : World, Below wr.heap.size wr W → Calls Tryz.prog 153 #[.agg #[.string x.name, .slice p1 x.args.length c1], .agg #[.string y.name, .slice p2 y.args.length c2]] W (Ans (.int .i64 q) W)) := Lib.hid (fun W hW => by
        have h := H.out x (mem_of_at HXX.out) y W _ _ (X2.out.kept hW) (Y2.out.kept hW) (HWA.out x (mem_of_at HXX.out)) (HWB.out y (mem_of_at HYY.out))
        rwa [← hq] at h)
      have HQ := Lib.hid hq
      have hdk : decide (r.length ≤ k) = false := by simp; omega
      clear hq
      go_wp2_with fail
      refine (C0.out _ (((Below.refl _ _).alloc (Nat.le_refl _) _).alloc (by simp) _)).mono ?_
      rintro e w6 ⟨rfl, hb⟩
      have HB6 := Lib.hid (carry_below ((HBE.out.alloc HBE.out.size _).alloc (by have := HBE.out.size; simp; omega) _) (Nat.le_refl _) hb)
      clear hb
      by_cases hq0 : q = 0
      · have hqb : (q != 0) = false := by simp [hq0]
        have HN := Lib.hid (HLV.out.next HXX.out HYY.out (HQ.out.symm.trans hq0))
        clear hq0
        go_wp2
        go_roundw
        case rel => exact ⟨k + 1, by omega, by go_num, HN.out, HB6.out⟩
        case measure => simp [intOf]; omega
      · have hqb : (q != 0) = true := by simp [hq0]
        have HN : Hid (q = ordL l r) := Lib.hid (by rw [ordL_first HLV.out HXX.out HYY.out (fun e => hq0 (HQ.out.trans e))]; exact HQ.out)
        clear hq0
        go_wp2
        go_ret
        exact ⟨ret_int HN.out, HB6.out⟩
    · have hke : k = l.length := by omega
      subst hke
      have HN : Hid ((0 : Int) = ordL l r) := Lib.hid (by rw [ordL_all HLV.out])
      have hl2 : decide (l.length < r.length) = false := by have := HLE.out; simp; omega
      go_wp2
      go_ret
      exact ⟨ret_int HN.out, HBE.out⟩

theorem or2_zero {x y : Int} (h : or2 x y = 0) : x = 0 ∧ y = 0 := by
  unfold or2 at h
  split at h
  · omega
  · omega

theorem num3_zero {a b : Nat} (h : num3 a b = 0) : a = b := by
  unfold num3 at h
  split at h
  · omega
  · split at h <;> omega

theorem or2_range {x y : Int} (hx : -1 ≤ x ∧ x ≤ 1) (hy : -1 ≤ y ∧ y ≤ 1) : -1 ≤ or2 x y ∧ or2 x y ≤ 1 := by
  unfold or2; split <;> assumption

theorem num3_range (a b : Nat) : -1 ≤ num3 a b ∧ num3 a b ≤ 1 := by
  unfold num3; split
  · omega
  · split <;> omega

theorem ord_or {a b : Tm} (h : varB a.name = varB b.name) (h0 : or2 (txt a.name b.name) (num3 a.args.length b.args.length) ≠ 0) : ordT a b = or2 (txt a.name b.name) (num3 a.args.length b.args.length) := by
  rw [ord_rest h]
  rcases txt_ways a.name b.name with ⟨_, _, h3, h4⟩ | ⟨_, _, h3, h4⟩ | ⟨_, _, h3, h4⟩
  · rw [if_pos h4, h3]; rfl
  · rw [if_neg (by simp [h4])]
    have e : or2 (txt a.name b.name) (num3 a.args.length b.args.length) = num3 a.args.length b.args.length := by rw [h3]; rfl
    rw [e] at h0 ⊢
    unfold num3 at h0 ⊢
    by_cases h5 : a.args.length < b.args.length
    · rw [if_pos h5, if_pos h5]
    · rw [if_neg h5, if_neg h5]
      by_cases h6 : b.args.length < a.args.length
      · rw [if_pos h6, if_pos h6]
      · rw [if_neg h5, if_neg h6] at h0; exact absurd rfl h0
  · rw [if_pos h4, h3]; rfl

theorem ord_and {a b : Tm} (h : varB a.name = varB b.name) (h0 : or2 (txt a.name b.name) (num3 a.args.length b.args.length) = 0) : a.args.length = b.args.length ∧ ordT a b = ordL a.args b.args := by
  obtain ⟨h1, h2⟩ := or2_zero h0
  have h3 := num3_zero h2
  refine ⟨h3, ?_⟩
  rw [ord_rest h]
  rcases txt_ways a.name b.name with ⟨_, _, h3, h4⟩ | ⟨_, _, h3, h4⟩ | ⟨_, _, h3, h4⟩
  · omega
  · rw [if_neg (by simp [h4]), if_neg (by omega), if_neg (by omega)]
  · omega

set_option maxHeartbeats 4000000 in
theorem ordI_of (a : Tm) (h : ∀ s ∈ a.args, OrdI s) : OrdI a := by
  intro b w va vb hva hvb hwa hwb
  have H := Lib.hid (cmpF_of a.args h)
  have HWA := Lib.hid (fun (s : Tm) (hs : s ∈ a.args) => Nat.le_trans (Tm.wt_arg hs) hwa)
  have HWB := Lib.hid (fun (s : Tm) (hs : s ∈ b.args) => Nat.le_trans (Tm.wt_arg hs) hwb)
  have CA0 := fun W => isVar_any a.name W (by have := Tm.wt_name a; unfold maxLen; omega)
  have CB0 := fun W => isVar_any b.name W (by have := Tm.wt_name b; unfold maxLen; omega)
  have hla := Tm.wt_len a
  have hlb := Tm.wt_len b
  obtain ⟨pa, ca, rfl⟩ := hva.is_slice
  obtain ⟨pb, cb, rfl⟩ := hvb.is_slice
  have HVA := Lib.hid hva
  have HVB := Lib.hid hvb
  have H2A := Lib.hid ((two_new w (.string a.name) (.slice pa a.args.length ca) 31 _ rfl).alloc (.cells #[.string b.name, .slice pb b.args.length cb] 31))
  have H2B := Lib.hid (two_new (w.alloc (.cells #[.string a.name, .slice pa a.args.length ca] 31)) (.string b.name) (.slice pb b.args.length cb) 31 (w.heap.size + 1) (by simp))
  have HB := Lib.hid (((Below.refl w.heap.size w).alloc (Nat.le_refl _) (.cells #[.string a.name, .slice pa a.args.length ca] 31)).alloc (by simp) (.cells #[.string b.name, .slice pb b.args.length cb] 31))
  clear h hva hvb
  obtain ⟨xa, hxa⟩ : ∃ x, x = varB a.name := ⟨_, rfl⟩
  obtain ⟨xb, hxb⟩ : ∃ x, x = varB b.name := ⟨_, rfl⟩
  rw [← hxa] at CA0
  rw [← hxb] at CB0
  have CA := Lib.hid CA0
  have CB := Lib.hid CB0
  clear CA0 CB0
  have hgo : (xa = true ∧ xb = false) ∨ (xa = false ∧ xb = true) ∨ xa = xb := by cases xa <;> cases xb <;> simp
  rcases hgo with ⟨h1, h2⟩ | ⟨h1, h2⟩ | h1
  · subst h1; subst h2
    have HF := Lib.hid (ord_vars hxa.symm hxb.symm)
    clear hxa hxb
    go_enter Tryz.func153, Tryz.ntmps153
    go_wp2_with fail
    go_quiet ((first | (go_at_call_of 94 (Value.string a.name); exact quiet_left (CA.out _)) | (go_at_call_of 94 (Value.string b.name); exact quiet_left (CB.out _))))
    go_wp2
    go_ret
    exact ⟨ret_int HF.out.symm, below_drews HB.out _⟩
  · subst h1; subst h2
    have HF := Lib.hid (ord_vars' hxa.symm hxb.symm)
    clear hxa hxb
    go_enter Tryz.func153, Tryz.ntmps153
    go_wp2_with fail
    go_quiet ((first | (go_at_call_of 94 (Value.string a.name); exact quiet_left (CA.out _)) | (go_at_call_of 94 (Value.string b.name); exact quiet_left (CB.out _))))
    go_wp2
    go_ret
    exact ⟨ret_int HF.out.symm, below_drews HB.out _⟩
  · subst h1
    have HVE := Lib.hid (hxa.symm.trans hxb)
    clear hxa hxb
    have CT := Lib.hid (fun W => cmpText_any a.name b.name W)
    have CI := Lib.hid (fun W => cmpInt_any a.args.length b.args.length W)
    have hr1 := txt_range a.name b.name
    have hr2 := num3_range a.args.length b.args.length
    have hr3 := or2_range hr1 hr2
    have HOR := Lib.hid (ord_or HVE.out)
    have HAND := Lib.hid (ord_and HVE.out)
    generalize txt a.name b.name = tx at *
    generalize num3 a.args.length b.args.length = nu at *
    have CO := Lib.hid (fun g W h0 h1 => or_any tx nu g W h0 h1)
    generalize or2 tx nu = q at *
    go_enter Tryz.func153, Tryz.ntmps153
    go_wp2_with fail
    go_quiet ((first | (go_at_call_of 94 (Value.string a.name); exact quiet_left (CA.out _)) | (go_at_call_of 94 (Value.string b.name); exact quiet_left (CB.out _))))
    have K2A := Lib.hid (H2A.out.drews nq)
    have K2B := Lib.hid (H2B.out.drews nq)
    have KB := Lib.hid (below_drews HB.out nq)
    generalize ((w.alloc (.cells #[.string a.name, .slice pa a.args.length ca] 31)).alloc (.cells #[.string b.name, .slice pb b.args.length cb] 31)).drewN nq = W at *
    obtain ⟨a0, a1, a2⟩ := K2A.out
    obtain ⟨b0, b1, b2⟩ := K2B.out
    have hB0 : Below W.heap.size W W.drew := (Below.refl _ _).drew
    cases xa
    all_goals
      go_wp2
      go_region_held3 (fun w' => w'.cell? ⟨w.heap.size, 0, none⟩ = some (.string a.name) ∧ w'.cell? ⟨w.heap.size, 1, none⟩ = some (.slice pa a.args.length ca) ∧ w'.cell? ⟨w.heap.size + 1, 0, none⟩ = some (.string b.name) ∧ w'.cell? ⟨w.heap.size + 1, 1, none⟩ = some (.slice pb b.args.length cb)) (first | exact ⟨by assumption, by assumption, by assumption, by assumption⟩ | go_keep) (first | (go_at_call 159; refine (CT.out _).mono ?_; rintro e w6 ⟨rfl, rfl⟩) | (go_at_call 169; refine (CI.out _).mono ?_; rintro e w6 ⟨rfl, rfl⟩) | (go_at_call 168; refine (CO.out _ _ (by simp) (by simp)).mono ?_; rintro e w6 ⟨rfl, rfl⟩))
      have HK := Lib.hid (((KB.out.alloc KB.out.size (.cells #[.int .i64 tx, .int .i64 nu] 3))).drew)
      have hz : w.heap.size + 1 < W.heap.size := World.block_lt_of_cell? W _ b0
      by_cases hq0 : q = 0
      · have hqb : (q != 0) = false := by simp [hq0]
        obtain ⟨hle, ho⟩ := HAND.out hq0
        have HF := Lib.hid ho
        have HLE := Lib.hid hle
        clear hq0 hle ho hB0
        go_wp2_with fail
        refine (H.out b.args _ _ _ (HVA.out.kept HK.out) (HVB.out.kept HK.out) HLE.out (by omega) HWA.out HWB.out).mono ?_
        rintro e w8 ⟨rfl, hb⟩
        have HB8 := Lib.hid (carry_below HK.out (Nat.le_refl _) hb)
        clear hb
        go_wp2
        go_ret
        exact ⟨ret_int HF.out.symm, HB8.out⟩
      · have hqb : (q != 0) = true := by simp [hq0]
        have HF := Lib.hid (HOR.out hq0)
        clear hq0 hB0
        go_wp2
        go_ret
        exact ⟨ret_int HF.out.symm, HK.out⟩

theorem compareExpr_any (a : Tm) : OrdI a := Tm.ind (P := OrdI) ordI_of a

def ordA (a b : Tm) : Int := if anyB a = true ∧ anyB b = true then ordT a b else 0
def anyB2 (a b : Tm) : Bool := anyB a && anyB b

/-- A slice of two terms, just built. -/
theorem tmS_two {w : World} {s t : Tm} {va vb : Value} (ha : TmS w va s.args) (hb : TmS w vb t.args) (g c : Nat) (h0 : w.cell? ⟨g, 0, none⟩ = some (.string s.name)) (h1 : w.cell? ⟨g, 1, none⟩ = some va) (h2 : w.cell? ⟨g, 2, none⟩ = some (.string t.name)) (h3 : w.cell? ⟨g, 3, none⟩ = some vb) : TmS w (.slice (some ⟨g, 0, none⟩) 2 c) [s, t] := by
  refine .row g 0 c [s, t] (fun i => if i = 0 then va else vb) (by simp) (fun i x hi => ?_) (fun i x hi => ?_) (fun i x hi => ?_)
  all_goals
    have hi0 : i = 0 ∨ i = 1 := by have := (List.getElem?_eq_some_iff.1 hi).1; simp at this; omega
    rcases hi0 with e | e
    · subst e
      have e : s = x := by simpa using hi
      subst e
      first | exact h0 | exact h1 | exact ha
    · subst e
      have e : t = x := by simpa using hi
      subst e
      first | exact h2 | exact h3 | exact hb

end Go.Proofs.YtgpmdfhepanahaaGreat
