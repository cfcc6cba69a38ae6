/- Several texts in one: each says what it proves. No condition but theirs. -/
import Derived.Test.YtmlenhjhkpgcnaaEq
import Derived.Test.YtmlenhjhkpgcnaaOrd
import Derived.Test.YtmlenhjhkpgcnaaOgG
import Derived.Test.YtmlenhjhkpgcnaaVarG
/- Equality of terms, the model's and the program's: contracts, for terms of at most 1048576 names' bytes and arguments. -/
namespace Go.Proofs.Ytmlenhjhkpgcnaa
open Go.RowKit
set_option linter.unusedVariables false

theorem eqT_lenNe {a b : Tm} (h : a.args.length ≠ b.args.length) : eqT a b = false := by
  rw [eqT_node, eqTs_len h]; simp
theorem eqT_argsNo {a b : Tm} {k : Nat} {x y : Tm} (hx : a.args[k]? = some x) (hy : b.args[k]? = some y) (e : eqT x y = false) : eqT a b = false := by
  rw [eqT_node, eqTs_no hx hy e]; simp
theorem eqT_all {a b : Tm} (hn : a.name = b.name) (h : Agree a.args b.args a.args.length) (hl : a.args.length = b.args.length) : eqT a b = true := by
  rw [eqT_args hn]; exact h.all hl

def SameT (a : Tm) : Prop := ∀ (b : Tm) (w : World) (va vb : Value), TmS w va a.args → TmS w vb b.args → a.wt ≤ 1048576 → b.wt ≤ 1048576 →
  Calls Try.prog 89 #[.agg #[.string a.name, va], .agg #[.string b.name, vb]] w (Ans (.bool (eqT a b)) w)

set_option maxHeartbeats 2000000 in
theorem same_of (a : Tm) (h : ∀ s ∈ a.args, SameT s) : SameT a := by
  intro b w va vb hva hvb hwa hwb
  have H := Lib.hid h
  have HWA := Lib.hid (fun (s : Tm) (hs : s ∈ a.args) => Nat.le_trans (Tm.wt_arg hs) hwa)
  have HWB := Lib.hid (fun (s : Tm) (hs : s ∈ b.args) => Nat.le_trans (Tm.wt_arg hs) hwb)
  have hla := Tm.wt_len a
  have hlb := Tm.wt_len b
  obtain ⟨pa, ca, rfl⟩ := hva.is_slice
  obtain ⟨pb, cb, rfl⟩ := hvb.is_slice
  have HVA := Lib.hid hva
  have HVB := Lib.hid hvb
  have H2A := Lib.hid ((two_new w (.string a.name) (.slice pa a.args.length ca) 31 _ rfl).alloc (.cells #[.string b.name, .slice pb b.args.length cb] 31))
  have H2B := Lib.hid (two_new (w.alloc (.cells #[.string a.name, .slice pa a.args.length ca] 31)) (.string b.name) (.slice pb b.args.length cb) 31 (w.heap.size + 1) (by simp))
  have HB := Lib.hid (((Below.refl w.heap.size w).alloc (Nat.le_refl _) (.cells #[.string a.name, .slice pa a.args.length ca] 31)).alloc (by simp) (.cells #[.string b.name, .slice pb b.args.length cb] 31))
  clear h hva hvb
  by_cases hn : a.name = b.name
  · have hq := str_eq hn
    have hq2 : (a.name.toList != b.name.toList) = false := by rw [bne, hq]; rfl
    by_cases hl : a.args.length = b.args.length
    · have HN := Lib.hid hn
      have HL := Lib.hid hl
      have hl2 : ((a.args.length : Int) != (b.args.length : Int)) = false := by rw [hl]; simp
      clear hn hl
      obtain ⟨a0, a1, a2⟩ := H2A.out
      obtain ⟨b0, b1, b2⟩ := H2B.out
      go_enter Try.func89, Try.ntmps89
      go_wp2
      go_loopw [5] (fun i wr => ∃ k : Nat, k ≤ a.args.length ∧ i = .int .i64 k ∧ Agree a.args b.args k ∧ Two wr w.heap.size (.string a.name) (.slice pa a.args.length ca) ∧ Two wr (w.heap.size + 1) (.string b.name) (.slice pb b.args.length cb) ∧ Below w.heap.size w wr) (fun i _ => a.args.length - (intOf i).toNat)
      case atStart => exact ⟨0, Nat.zero_le _, rfl, fun j hj => absurd hj (Nat.not_lt_zero _), H2A.out, H2B.out, HB.out⟩
      case round =>
        obtain ⟨k, hk, rfl, hag, h2a, h2b, hbel⟩ := hrel
        have HG := Lib.hid hag
        have HBE := Lib.hid hbel
        have HA2 := Lib.hid h2a
        have HB2 := Lib.hid h2b
        clear hag hbel a0 a1 a2 b0 b1 b2 h2a h2b
        obtain ⟨a0, a1, a2⟩ := HA2.out
        obtain ⟨b0, b1, b2⟩ := HB2.out
        by_cases hlt : k < a.args.length
        · have hltb : k < b.args.length := by have := HL.out; omega
          obtain ⟨x, hx⟩ : ∃ s, a.args[k]? = some s := ⟨_, List.getElem?_eq_getElem hlt⟩
          obtain ⟨y, hy⟩ : ∃ s, b.args[k]? = some s := ⟨_, List.getElem?_eq_getElem hltb⟩
          obtain ⟨g1, o1, rfl, v1, x0, x1, x2⟩ := HVA.out.get hx
          obtain ⟨g2, o2, rfl, v2, y0, y1, y2⟩ := HVB.out.get hy
          have x0' := carry_cell x0 HBE.out
          have x1' := carry_cell x1 HBE.out
          have y0' := carry_cell y0 HBE.out
          have y1' := carry_cell y1 HBE.out
          have X2 := Lib.hid (x2.kept HBE.out)
          have Y2 := Lib.hid (y2.kept HBE.out)
          have HXX := Lib.hid hx
          have HYY := Lib.hid hy
          clear hx hy x0 x1 y0 y1 x2 y2
          have C0 : Hid (∀ W : World, Below wr.heap.size wr W → Calls Try.prog 89 #[.agg #[.string x.name, v1], .agg #[.string y.name, v2]] W (Ans (.bool (eqT x y)) W)) := Lib.hid (fun W hW => H.out x (mem_of_at HXX.out) y W _ _ (X2.out.kept hW) (Y2.out.kept hW) (HWA.out x (mem_of_at HXX.out)) (HWB.out y (mem_of_at HYY.out)))
          have hB0 : Below wr.heap.size wr wr.drew := (Below.refl _ _).drew
          go_wp2_with fail
          go_region_held3 (fun w' => w'.cell? ⟨w.heap.size, 1, none⟩ = some (.slice (some ⟨g1, o1, none⟩) a.args.length ca) ∧ w'.cell? ⟨w.heap.size + 1, 1, none⟩ = some (.slice (some ⟨g2, o2, none⟩) b.args.length cb) ∧ w'.cell? ⟨g1, o1 + k * 2, none⟩ = some (.string x.name) ∧ w'.cell? ⟨g1, o1 + k * 2 + 1, none⟩ = some v1 ∧ w'.cell? ⟨g2, o2 + k * 2, none⟩ = some (.string y.name) ∧ w'.cell? ⟨g2, o2 + k * 2 + 1, none⟩ = some v2 ∧ Below wr.heap.size wr w') (first | exact ⟨by assumption, by assumption, by assumption, by assumption, by assumption, by assumption, by assumption⟩ | go_keep) (first | (go_at_call 89; refine (C0.out _ (by assumption)).mono ?_; rintro e w' ⟨rfl, hb⟩; have hc1' := carry_cell' hb a1; have hc2' := carry_cell' hb b1; have hc3' := carry_cell' hb x0'; have hc4' := carry_cell' hb x1'; have hc5' := carry_cell' hb y0'; have hc6' := carry_cell' hb y1'; have hB' := carry_below (by assumption) (Nat.le_refl _) hb))
          have hB2 : Below wr.heap.size wr w' := by assumption
          have HBX := Lib.hid (carry_below HBE.out (Nat.le_refl _) hB2)
          have HA3 := Lib.hid (HA2.out.kept hB2)
          have HB3 := Lib.hid (HB2.out.kept hB2)
          clear hB2
          cases hE : eqT x y
          · have HF := Lib.hid (eqT_argsNo HXX.out HYY.out hE)
            clear hE
            go_wp2
            go_ret
            exact ⟨ret_bool HF.out.symm, HBX.out⟩
          · have HF := Lib.hid (HG.out.next HXX.out HYY.out hE)
            clear hE
            go_wp2
            go_roundw
            case rel => exact ⟨k + 1, by omega, by go_num, HF.out, HA3.out, HB3.out, HBX.out⟩
            case measure => simp [intOf]; omega
        · have hke : k = a.args.length := by omega
          subst hke
          have HF := Lib.hid (eqT_all HN.out HG.out HL.out)
          go_wp2
          go_ret
          exact ⟨ret_bool HF.out.symm, HBE.out⟩
    · have HF := Lib.hid (eqT_lenNe hl)
      have hl2 : ((a.args.length : Int) != (b.args.length : Int)) = true := by simp; omega
      have hl3 : ((a.args.length : Int) == (b.args.length : Int)) = false := by simp; omega
      clear hn hl
      obtain ⟨a0, a1, a2⟩ := H2A.out
      obtain ⟨b0, b1, b2⟩ := H2B.out
      go_enter Try.func89, Try.ntmps89
      go_wp2
      go_ret
      exact ⟨ret_bool HF.out.symm, HB.out⟩
  · have HF := Lib.hid (eqT_ne hn)
    have hq := str_ne hn
    have hq2 : (a.name.toList != b.name.toList) = true := by rw [bne, hq]; rfl
    clear hn
    obtain ⟨a0, a1, a2⟩ := H2A.out
    obtain ⟨b0, b1, b2⟩ := H2B.out
    go_enter Try.func89, Try.ntmps89
    go_wp2
    go_ret
    exact ⟨ret_bool HF.out.symm, HB.out⟩

theorem l2Same_any (a : Tm) : SameT a := Tm.ind (P := SameT) same_of a

end Go.Proofs.Ytmlenhjhkpgcnaa

/- Equality of terms, the program's: a contract, for terms of at most 1048576 names' bytes and arguments. -/
namespace Go.Proofs.Ytmlenhjhkpgcnaa
open Go.RowKit
set_option linter.unusedVariables false

def TreeT (a : Tm) : Prop := ∀ (b : Tm) (w : World) (va vb : Value), TmS w va a.args → TmS w vb b.args → a.wt ≤ 1048576 → b.wt ≤ 1048576 →
  Calls Try.prog 76 #[.agg #[.string a.name, va], .agg #[.string b.name, vb]] w (Ans (.bool (eqT a b)) w)

def TreeF (l : List Tm) : Prop := ∀ (r : List Tm) (w : World) (va vb : Value), TmS w va l → TmS w vb r → l.length ≤ 1048576 → r.length ≤ 1048576 → (∀ s ∈ l, s.wt ≤ 1048576) → (∀ s ∈ r, s.wt ≤ 1048576) →
  Calls Try.prog 120 #[va, vb, .func (.func 76) #[] #[]] w (Ans (.bool (eqTs l r)) w)

set_option maxHeartbeats 2000000 in
theorem treeF_of (l : List Tm) (h : ∀ s ∈ l, TreeT s) : TreeF l := by
  intro r w va vb hva hvb hll hlr hwa hwb
  have H := Lib.hid h
  have HWA := Lib.hid hwa
  have HWB := Lib.hid hwb
  obtain ⟨pa, ca, rfl⟩ := hva.is_slice
  obtain ⟨pb, cb, rfl⟩ := hvb.is_slice
  have HVA := Lib.hid hva
  have HVB := Lib.hid hvb
  clear h hva hvb hwa hwb
  by_cases hl : l.length = r.length
  · have HLE := Lib.hid hl
    have hl2 : ((l.length : Int) != (r.length : Int)) = false := by rw [hl]; simp
    clear hl
    go_enter Try.func120, Try.ntmps120
    go_wp2
    go_loopw [17] (fun i wr => ∃ k : Nat, k ≤ l.length ∧ i = .int .i64 k ∧ Agree l r k ∧ Below w.heap.size w wr) (fun i _ => l.length - (intOf i).toNat)
    case atStart => exact ⟨0, Nat.zero_le _, rfl, fun j hj => absurd hj (Nat.not_lt_zero _), Below.refl _ _⟩
    case round =>
      obtain ⟨k, hk, rfl, hlev, hbel⟩ := hrel
      have HLV := Lib.hid hlev
      have HBE := Lib.hid hbel
      clear hlev hbel
      by_cases hlt : k < l.length
      · have hltb : k < r.length := by have := HLE.out; omega
        obtain ⟨x, hx⟩ : ∃ s, l[k]? = some s := ⟨_, List.getElem?_eq_getElem hlt⟩
        obtain ⟨y, hy⟩ : ∃ s, r[k]? = some s := ⟨_, List.getElem?_eq_getElem hltb⟩
        obtain ⟨b1, o1, rfl, v1, x0, x1, x2⟩ := HVA.out.get hx
        obtain ⟨b2, o2, rfl, v2, y0, y1, y2⟩ := HVB.out.get hy
        have x0' := carry_cell x0 HBE.out
        have x1' := carry_cell x1 HBE.out
        have y0' := carry_cell y0 HBE.out
        have y1' := carry_cell y1 HBE.out
        have X2 := Lib.hid (x2.kept HBE.out)
        have Y2 := Lib.hid (y2.kept HBE.out)
        obtain ⟨p1, c1, rfl⟩ := x2.is_slice
        obtain ⟨p2, c2, rfl⟩ := y2.is_slice
        have y0'' : (wr.alloc (.cells #[.string x.name, .slice p1 x.args.length c1] 31)).cell? ⟨b2, o2 + k * 2, none⟩ = some (.string y.name) := carry_cell' ((Below.refl _ _).alloc (Nat.le_refl _) _) y0'
        have y1'' : (wr.alloc (.cells #[.string x.name, .slice p1 x.args.length c1] 31)).cell? ⟨b2, o2 + k * 2 + 1, none⟩ = some (.slice p2 y.args.length c2) := carry_cell' ((Below.refl _ _).alloc (Nat.le_refl _) _) y1'
        have HXX := Lib.hid hx
        have HYY := Lib.hid hy
        clear hx hy x0 x1 y0 y1 x2 y2
        obtain ⟨q, hq⟩ : ∃ q, q = eqT x y := ⟨_, rfl⟩
        have C0 : Hid (∀ W : World, Below wr.heap.size wr W → Calls Try.prog 76 #[.agg #[.string x.name, .slice p1 x.args.length c1], .agg #[.string y.name, .slice p2 y.args.length c2]] W (Ans (.bool q) W)) := Lib.hid (fun W hW => by
          have h := H.out x (mem_of_at HXX.out) y W _ _ (X2.out.kept hW) (Y2.out.kept hW) (HWA.out x (mem_of_at HXX.out)) (HWB.out y (mem_of_at HYY.out))
          rwa [← hq] at h)
        have HQ := Lib.hid hq
        have hdk : decide (r.length ≤ k) = false := by simp; omega
        clear hq
        go_wp2_with fail
        refine (C0.out _ (((Below.refl _ _).alloc (Nat.le_refl _) _).alloc (by simp) _)).mono ?_
        rintro e w6 ⟨rfl, hb⟩
        have HB6 := Lib.hid (carry_below ((HBE.out.alloc HBE.out.size _).alloc (by have := HBE.out.size; simp; omega) _) (Nat.le_refl _) hb)
        clear hb
        cases q with
        | true =>
          have HN := Lib.hid (HLV.out.next HXX.out HYY.out HQ.out.symm)
          go_wp2
          go_roundw
          case rel => exact ⟨k + 1, by omega, by go_num, HN.out, HB6.out⟩
          case measure => simp [intOf]; omega
        | false =>
          have HN := Lib.hid (eqTs_no HXX.out HYY.out HQ.out.symm)
          go_wp2
          go_ret
          exact ⟨ret_bool HN.out.symm, HB6.out⟩
      · have hke : k = l.length := by omega
        subst hke
        have HN := Lib.hid (HLV.out.all HLE.out)
        go_wp2
        go_ret
        exact ⟨ret_bool HN.out.symm, HBE.out⟩
  · have HF := Lib.hid (eqTs_len hl)
    have hl2 : ((l.length : Int) != (r.length : Int)) = true := by simp; omega
    have hl3 : ((l.length : Int) == (r.length : Int)) = false := by simp; omega
    clear hl
    go_enter Try.func120, Try.ntmps120
    go_wp2
    go_ret
    exact ⟨ret_bool HF.out.symm, Below.refl _ _⟩

set_option maxHeartbeats 2000000 in
theorem tree_of (a : Tm) (h : ∀ s ∈ a.args, TreeT s) : TreeT a := by
  intro b w va vb hva hvb hwa hwb
  have H := Lib.hid (treeF_of a.args h)
  have HWA := Lib.hid (fun (s : Tm) (hs : s ∈ a.args) => Nat.le_trans (Tm.wt_arg hs) hwa)
  have HWB := Lib.hid (fun (s : Tm) (hs : s ∈ b.args) => Nat.le_trans (Tm.wt_arg hs) hwb)
  have hla := Tm.wt_len a
  have hlb := Tm.wt_len b
  obtain ⟨pa, ca, rfl⟩ := hva.is_slice
  obtain ⟨pb, cb, rfl⟩ := hvb.is_slice
  have HVA := Lib.hid hva
  have HVB := Lib.hid hvb
  have H2A := Lib.hid ((two_new w (.string a.name) (.slice pa a.args.length ca) 31 _ rfl).alloc (.cells #[.string b.name, .slice pb b.args.length cb] 31))
  have H2B := Lib.hid (two_new (w.alloc (.cells #[.string a.name, .slice pa a.args.length ca] 31)) (.string b.name) (.slice pb b.args.length cb) 31 (w.heap.size + 1) (by simp))
  have HB := Lib.hid (((Below.refl w.heap.size w).alloc (Nat.le_refl _) (.cells #[.string a.name, .slice pa a.args.length ca] 31)).alloc (by simp) (.cells #[.string b.name, .slice pb b.args.length cb] 31))
  clear h hva hvb
  obtain ⟨a0, a1, a2⟩ := H2A.out
  obtain ⟨b0, b1, b2⟩ := H2B.out
  by_cases hn : a.name = b.name
  · have hq := str_eq hn
    have HN := Lib.hid (eqT_args hn)
    obtain ⟨q, hqq⟩ : ∃ q, q = eqTs a.args b.args := ⟨_, rfl⟩
    have C0 : Hid (∀ W : World, Below w.heap.size w W → Calls Try.prog 120 #[.slice pa a.args.length ca, .slice pb b.args.length cb, .func (.func 76) #[] #[]] W (Ans (.bool q) W)) := Lib.hid (fun W hW => by
      have h := H.out b.args W _ _ (HVA.out.kept hW) (HVB.out.kept hW) (by omega) (by omega) HWA.out HWB.out
      rwa [← hqq] at h)
    have HQ := Lib.hid (HN.out.trans hqq.symm)
    clear hn hqq
    go_enter Try.func76, Try.ntmps76
    go_wp2_with fail
    refine (C0.out _ HB.out).mono ?_
    rintro e w6 ⟨rfl, hb⟩
    have HB6 := Lib.hid (carry_below HB.out (Nat.le_refl _) hb)
    clear hb
    go_wp2
    go_ret
    exact ⟨ret_bool HQ.out.symm, HB6.out⟩
  · have HF := Lib.hid (eqT_ne hn)
    have hq := str_ne hn
    clear hn
    go_enter Try.func76, Try.ntmps76
    go_wp2
    go_ret
    exact ⟨ret_bool HF.out.symm, HB.out⟩

theorem equalTrees_any (a : Tm) : TreeT a := Tm.ind (P := TreeT) tree_of a

end Go.Proofs.Ytmlenhjhkpgcnaa

/- The Knuth-Bendix ordering, plain facts: roots, first differences, occurrences of variables, the ordering. No condition. -/
namespace Go.Proofs.Ytmlenhjhkpgcnaa
open Go.RowKit
set_option linter.unusedVariables false

def cmpR (a b : Int) : Int := if a < b then -1 else if a > b then 1 else 0
theorem cmpR_lt {a b : Int} (h : a < b) : cmpR a b = -1 := by unfold cmpR; rw [if_pos h]
theorem cmpR_gt {a b : Int} (h : b < a) : cmpR a b = 1 := by unfold cmpR; rw [if_neg (by omega), if_pos h]
theorem cmpR_eq {a b : Int} (h : a = b) : cmpR a b = 0 := by unfold cmpR; rw [if_neg (by omega), if_neg (by omega)]
theorem cmpR_zero {a b : Int} : cmpR a b = 0 ↔ a = b := by
  unfold cmpR; split
  · exact ⟨fun h => by omega, fun h => by omega⟩
  · split
    · exact ⟨fun h => by omega, fun h => by omega⟩
    · exact ⟨fun h => by omega, fun h => rfl⟩
/-- How two roots compare: by their rank, then by their numbers of arguments. -/
def Od.root (o : Od) (s t : Tm) : Int := if rk o.sy s.name = rk o.sy t.name then cmpR s.args.length t.args.length else cmpR (rk o.sy s.name) (rk o.sy t.name)
theorem Od.root_len {o : Od} {s t : Tm} (h : o.root s t = 0) : s.args.length = t.args.length := by
  unfold Od.root at h
  split at h
  · have := cmpR_zero.1 h; omega
  · rename_i hne; exact absurd (cmpR_zero.1 h) hne

/-- The first place at which two lists differ, or -1. -/
def fd (a b : List Tm) : Int := match (List.range a.length).find? (fun i => !decide (a[i]? = b[i]?)) with
  | some k => (k : Int)
  | none => -1
theorem fd_at {a b : List Tm} {k : Nat} (hk : k < a.length) (h : a[k]? ≠ b[k]?) (hb : ∀ j, j < k → a[j]? = b[j]?) : fd a b = k := by
  have e : (List.range a.length).find? (fun i => !decide (a[i]? = b[i]?)) = some k := by
    rw [List.find?_range_eq_some]
    refine ⟨by simp [h], List.mem_range.2 hk, fun j hj => by simp [hb j hj]⟩
  unfold fd; rw [e]
theorem fd_no {a b : List Tm} (h : ∀ j, j < a.length → a[j]? = b[j]?) : fd a b = -1 := by
  have e : (List.range a.length).find? (fun i => !decide (a[i]? = b[i]?)) = none := by
    rw [List.find?_range_eq_none]
    intro j hj
    simp [h j hj]
  unfold fd; rw [e]
theorem fd_ways (a b : List Tm) : (fd a b = -1 ∧ ∀ j, j < a.length → a[j]? = b[j]?) ∨ ∃ k : Nat, fd a b = k ∧ k < a.length ∧ a[k]? ≠ b[k]? ∧ ∀ j, j < k → a[j]? = b[j]? := by
  by_cases h : ∀ j, j < a.length → a[j]? = b[j]?
  · exact .inl ⟨fd_no h, h⟩
  · right
    unfold fd
    cases e : (List.range a.length).find? (fun i => !decide (a[i]? = b[i]?)) with
    | none =>
      rw [List.find?_range_eq_none] at e
      exact absurd (fun j hj => by simpa using e j hj) h
    | some k =>
      rw [List.find?_range_eq_some] at e
      obtain ⟨e1, e2, e3⟩ := e
      exact ⟨k, rfl, List.mem_range.1 e2, by simpa using e1, fun j hj => by simpa using e3 j hj⟩

/-- Every variable occurs in s at least as often as in t. -/
def bal (s t : Tm) : Bool := (t.into []).all fun n => decide (cnt n t.nds ≤ cnt n s.nds)
theorem bal_no {s t : Tm} {k : Nat} {n : ByteArray} (h : (t.into [])[k]? = some n) (h' : cnt n s.nds < cnt n t.nds) : bal s t = false := by
  unfold bal; rw [List.all_eq_false]; exact ⟨n, List.mem_of_getElem? h, by simp; omega⟩
theorem bal_yes {s t : Tm} (h : ∀ (k : Nat) (n : ByteArray), (t.into [])[k]? = some n → cnt n t.nds ≤ cnt n s.nds) : bal s t = true := by
  unfold bal; rw [List.all_eq_true]
  intro n hn
  obtain ⟨k, hk⟩ := List.getElem?_of_mem hn
  exact decide_eq_true (h k n hk)

mutual
/-- s is greater than t. -/
def kbo (o : Od) : Tm → Tm → Bool
  | .node n l, t =>
    bal (.node n l) t && (if o.wT (.node n l) = o.wT t then !(varB n || varB t.name) && (if o.root (.node n l) t = 0 then kboL o l t.args else decide (0 < o.root (.node n l) t)) else decide (o.wT t < o.wT (.node n l)))
def kboL (o : Od) : List Tm → List Tm → Bool
  | [], _ => false
  | _ :: _, [] => false
  | s :: r, t :: q => if s = t then kboL o r q else kbo o s t
end
theorem kbo_eq (o : Od) (s t : Tm) : kbo o s t = (bal s t && (if o.wT s = o.wT t then !(varB s.name || varB t.name) && (if o.root s t = 0 then kboL o s.args t.args else decide (0 < o.root s t)) else decide (o.wT t < o.wT s))) := by
  cases s with
  | node n l => rw [kbo]; rfl
theorem kboL_at (o : Od) : ∀ (a b : List Tm) (k : Nat) (s t : Tm), a[k]? = some s → b[k]? = some t → s ≠ t → (∀ j, j < k → a[j]? = b[j]?) → kboL o a b = kbo o s t
  | [], b, k, s, t, h, _, _, _ => by cases h
  | x :: r, [], k, s, t, _, h, _, _ => by cases h
  | x :: r, y :: q, 0, s, t, h1, h2, hne, hj => by
    simp at h1 h2
    subst h1 h2
    rw [kboL, if_neg hne]
  | x :: r, y :: q, k + 1, s, t, h1, h2, hne, hj => by
    have e : x = y := by have := hj 0 (by omega); simpa using this
    rw [kboL, if_pos e]
    exact kboL_at o r q k s t (by simpa using h1) (by simpa using h2) hne (fun j hj2 => by have := hj (j + 1) (by omega); simpa using this)
theorem kboL_no (o : Od) : ∀ (a b : List Tm), (∀ j, j < a.length → a[j]? = b[j]?) → kboL o a b = false
  | [], b, _ => by rw [kboL]
  | x :: r, [], h => by have := h 0 (by simp); simp at this
  | x :: r, y :: q, h => by
    have e : x = y := by have := h 0 (by simp); simpa using this
    rw [kboL, if_pos e]
    exact kboL_no o r q (fun j hj => by have := h (j + 1) (by simp; omega); simpa using this)
theorem kbo_bal {o : Od} {s t : Tm} (h : bal s t = false) : kbo o s t = false := by rw [kbo_eq, h]; rfl
theorem kbo_wt {o : Od} {s t : Tm} (h : bal s t = true) (h' : o.wT s ≠ o.wT t) : kbo o s t = decide (o.wT t < o.wT s) := by rw [kbo_eq, h, if_neg h', Bool.true_and]
theorem kbo_var {o : Od} {s t : Tm} (h : bal s t = true) (h' : o.wT s = o.wT t) (hv : varB s.name = true ∨ varB t.name = true) : kbo o s t = false := by
  rw [kbo_eq, h, if_pos h']
  rcases hv with hv | hv <;> rw [hv] <;> simp
theorem kbo_root {o : Od} {s t : Tm} (h : bal s t = true) (h' : o.wT s = o.wT t) (hs : varB s.name = false) (ht : varB t.name = false) (hr : o.root s t ≠ 0) : kbo o s t = decide (0 < o.root s t) := by
  rw [kbo_eq, h, if_pos h', hs, ht, if_neg hr]; rfl
theorem kbo_args {o : Od} {s t : Tm} (h : bal s t = true) (h' : o.wT s = o.wT t) (hs : varB s.name = false) (ht : varB t.name = false) (hr : o.root s t = 0) : kbo o s t = kboL o s.args t.args := by
  rw [kbo_eq, h, if_pos h', hs, ht, if_pos hr]; rfl

/-- The code of a comparison. -/
def codeR (e g l : Bool) : Int := if e then 1 else if g then 2 else if l then 3 else 0
def Od.kboC (o : Od) (s t : Tm) : Int := codeR (eqT s t) (kbo o s t) (kbo o t s)
def Od.ok2 (o : Od) (s t : Tm) : Bool := o.good && ((goodB s && o.cov s) && (goodB t && o.cov t))
def Od.kboR (o : Od) (s t : Tm) : Int := if o.ok2 s t then o.kboC s t else 0

end Go.Proofs.Ytmlenhjhkpgcnaa

/- The Knuth-Bendix ordering, the model's side: contracts, for orderings and terms of at most 1048576 names' bytes and elements. -/
namespace Go.Proofs.Ytmlenhjhkpgcnaa
open Go.RowKit
set_option linter.unusedVariables false

theorem strs_of_lvK {w : World} {v : Value} {ss : List ByteArray} (h : LV w v ss) : StrsV w v ss := by
  obtain ⟨b, cp, rfl, hc, hl, hx⟩ := h
  by_cases h0 : ss.length = 0
  · have e := List.length_eq_zero_iff.1 h0
    subst e; exact .inl ⟨_, _, rfl, rfl⟩
  · exact .inr ⟨b, 0, cp, rfl, by omega, fun i hi => by rw [Nat.zero_add]; exact hx i hi⟩

set_option maxHeartbeats 2000000 in
theorem l6Root_any (o : Od) (ho : o.wt ≤ 1048576) (s t : Tm) (w : World) (sv wv va vb : Value) (hv : OdV w sv wv o) (hs : TmS w va s.args) (ht : TmS w vb t.args) (hws : s.wt ≤ 1048576) (hwt : t.wt ≤ 1048576) :
    Calls Try.prog 134 #[.agg #[sv, wv, .int .i64 o.va], .agg #[.string s.name, va], .agg #[.string t.name, vb]] w (Ans (.int .i64 (o.root s t)) w) := by
  obtain ⟨sa, sc, wa, wc, rfl, rfl⟩ := hv.open
  obtain ⟨pa, ca, rfl⟩ := hs.is_slice
  obtain ⟨pb, cb, rfl⟩ := ht.is_slice
  obtain ⟨w1, hw1⟩ : ∃ w1, ((w.alloc (.cells #[.slice sa o.sy.length sc, .slice wa o.ws.length wc, .int .i64 o.va] 73)).alloc (.cells #[.string s.name, .slice pa s.args.length ca] 31)).alloc (.cells #[.string t.name, .slice pb t.args.length cb] 31) = w1 := ⟨_, rfl⟩
  have HB : Hid (Below w.heap.size w w1) := Lib.hid (by rw [← hw1]; exact (((Below.refl w.heap.size w).alloc (Nat.le_refl _) _).alloc (by simp) _).alloc (by simp; omega) _)
  have H3 : Hid (OdB w1 w.heap.size (.slice sa o.sy.length sc) (.slice wa o.ws.length wc) o) := Lib.hid (by rw [← hw1]; exact ((thr_new w _ _ _ _ _ rfl).alloc _).alloc _)
  have HS : Hid (Two w1 (w.heap.size + 1) (.string s.name) (.slice pa s.args.length ca)) := Lib.hid (by rw [← hw1]; exact (two_new _ _ _ 31 (w.heap.size + 1) (by simp)).alloc _)
  have HT : Hid (Two w1 (w.heap.size + 1 + 1) (.string t.name) (.slice pb t.args.length cb)) := Lib.hid (by rw [← hw1]; exact two_new _ _ _ 31 (w.heap.size + 1 + 1) (by simp))
  have CA := Lib.hid (fun W (hW : Below w1.heap.size w1 W) => l6Rank_any o s.name W _ _ (hv.kept (carry_below HB.out (Nat.le_refl _) hW)) ho)
  have CB := Lib.hid (fun W (hW : Below w1.heap.size w1 W) => l6Rank_any o t.name W _ _ (hv.kept (carry_below HB.out (Nat.le_refl _) hW)) ho)
  have HR : Hid (o.root s t = if rk o.sy s.name = rk o.sy t.name then cmpR s.args.length t.args.length else cmpR (rk o.sy s.name) (rk o.sy t.name)) := Lib.hid rfl
  have hls : s.args.length ≤ 1048576 := Nat.le_trans (Tm.wt_len s) hws
  have hlt : t.args.length ≤ 1048576 := Nat.le_trans (Tm.wt_len t) hwt
  obtain ⟨x, hx⟩ : ∃ x, rk o.sy s.name = x := ⟨_, rfl⟩
  obtain ⟨y, hy⟩ : ∃ y, rk o.sy t.name = y := ⟨_, rfl⟩
  rw [hx] at CA HR
  rw [hy] at CB HR
  clear hv hs ht hx hy
  obtain ⟨b0, b1, b2, b3⟩ := H3.out
  obtain ⟨s0, s1, s2⟩ := HS.out
  obtain ⟨t0, t1, t2⟩ := HT.out
  go_enter Try.func134, Try.ntmps134
  go_wp2_with fail
  have hB0 : Below w1.heap.size w1 w1.drew := (Below.refl _ _).drew
  go_region_held3 (fun w' => w'.cell? ⟨w.heap.size, 0, none⟩ = some (.slice sa o.sy.length sc) ∧ w'.cell? ⟨w.heap.size, 1, none⟩ = some (.slice wa o.ws.length wc) ∧ w'.cell? ⟨w.heap.size, 2, none⟩ = some (.int .i64 o.va) ∧ w'.cell? ⟨w.heap.size + 1, 0, none⟩ = some (.string s.name) ∧ w'.cell? ⟨w.heap.size + 1, 1, none⟩ = some (.slice pa s.args.length ca) ∧ w'.cell? ⟨w.heap.size + 1 + 1, 0, none⟩ = some (.string t.name) ∧ w'.cell? ⟨w.heap.size + 1 + 1, 1, none⟩ = some (.slice pb t.args.length cb) ∧ Below w1.heap.size w1 w') (first | exact ⟨by assumption, by assumption, by assumption, by assumption, by assumption, by assumption, by assumption, by assumption⟩ | go_keep) (first | (go_at_call_of 171 (Value.string s.name); refine (CA.out _ (by assumption)).mono ?_; rintro e w2 ⟨rfl, hb⟩; have qa0 : w2.cell? ⟨w.heap.size, 0, none⟩ = some (.slice sa o.sy.length sc) := carry_cell' hb (by assumption); have qa1 : w2.cell? ⟨w.heap.size, 1, none⟩ = some (.slice wa o.ws.length wc) := carry_cell' hb (by assumption); have qa2 : w2.cell? ⟨w.heap.size, 2, none⟩ = some (.int .i64 o.va) := carry_cell' hb (by assumption); have qa3 : w2.cell? ⟨w.heap.size + 1, 0, none⟩ = some (.string s.name) := carry_cell' hb (by assumption); have qa4 : w2.cell? ⟨w.heap.size + 1, 1, none⟩ = some (.slice pa s.args.length ca) := carry_cell' hb (by assumption); have qa5 : w2.cell? ⟨w.heap.size + 1 + 1, 0, none⟩ = some (.string t.name) := carry_cell' hb (by assumption); have qa6 : w2.cell? ⟨w.heap.size + 1 + 1, 1, none⟩ = some (.slice pb t.args.length cb) := carry_cell' hb (by assumption); have hw2 : Below w1.heap.size w1 w2 := carry_below (by assumption) (Nat.le_refl _) hb; clear hb) | (go_at_call_of 171 (Value.string t.name); refine (CB.out _ (by assumption)).mono ?_; rintro e w3 ⟨rfl, hb⟩; have qb0 : w3.cell? ⟨w.heap.size, 0, none⟩ = some (.slice sa o.sy.length sc) := carry_cell' hb (by assumption); have qb1 : w3.cell? ⟨w.heap.size, 1, none⟩ = some (.slice wa o.ws.length wc) := carry_cell' hb (by assumption); have qb2 : w3.cell? ⟨w.heap.size, 2, none⟩ = some (.int .i64 o.va) := carry_cell' hb (by assumption); have qb3 : w3.cell? ⟨w.heap.size + 1, 0, none⟩ = some (.string s.name) := carry_cell' hb (by assumption); have qb4 : w3.cell? ⟨w.heap.size + 1, 1, none⟩ = some (.slice pa s.args.length ca) := carry_cell' hb (by assumption); have qb5 : w3.cell? ⟨w.heap.size + 1 + 1, 0, none⟩ = some (.string t.name) := carry_cell' hb (by assumption); have qb6 : w3.cell? ⟨w.heap.size + 1 + 1, 1, none⟩ = some (.slice pb t.args.length cb) := carry_cell' hb (by assumption); have hw3 : Below w1.heap.size w1 w3 := carry_below (by assumption) (Nat.le_refl _) hb; clear hb))
  clear hB0 qa0 qa1 qa2 qa3 qa4 qa5 qa6 hw2 qb0 qb1 qb2 qb3 qb4 qb5 qb6
  have hb := hw3
  clear hw3
  replace HB := Lib.hid (carry_below HB.out (Nat.le_refl _) hb)
  replace H3 := Lib.hid (H3.out.kept hb)
  replace HS := Lib.hid (HS.out.kept hb)
  replace HT := Lib.hid (HT.out.kept hb)
  clear hb b0 b1 b2 b3 s0 s1 s2 t0 t1 t2 hw1 CA CB
  obtain ⟨b0, b1, b2, b3⟩ := H3.out
  obtain ⟨s0, s1, s2⟩ := HS.out
  obtain ⟨t0, t1, t2⟩ := HT.out
  by_cases hxy : x = y
  · have e1 : (x == y) = true := by rw [beq_iff_eq]; exact hxy
    have HR2 : Hid (o.root s t = cmpR s.args.length t.args.length) := Lib.hid (by rw [HR.out, if_pos hxy])
    clear hxy
    by_cases hl : s.args.length < t.args.length
    · have HE : Hid (o.root s t = -1) := Lib.hid (by rw [HR2.out, cmpR_lt (by omega)])
      go_wp2
      go_ret
      exact ⟨ret_int HE.out.symm, HB.out⟩
    · by_cases hg : t.args.length < s.args.length
      · have HE : Hid (o.root s t = 1) := Lib.hid (by rw [HR2.out, cmpR_gt (by omega)])
        go_wp2
        go_ret
        exact ⟨ret_int HE.out.symm, HB.out⟩
      · have HE : Hid (o.root s t = 0) := Lib.hid (by rw [HR2.out, cmpR_eq (by omega)])
        go_wp2
        go_ret
        exact ⟨ret_int HE.out.symm, HB.out⟩
  · have e1 : (x == y) = false := by rw [beq_eq_false_iff_ne]; exact hxy
    have HR2 : Hid (o.root s t = cmpR x y) := Lib.hid (by rw [HR.out, if_neg hxy])
    by_cases hl : x < y
    · have HE : Hid (o.root s t = -1) := Lib.hid (by rw [HR2.out, cmpR_lt (by omega)])
      clear hxy
      go_wp2
      go_ret
      exact ⟨ret_int HE.out.symm, HB.out⟩
    · have hg : y < x := by omega
      have HE : Hid (o.root s t = 1) := Lib.hid (by rw [HR2.out, cmpR_gt (by omega)])
      clear hxy
      go_wp2
      go_ret
      exact ⟨ret_int HE.out.symm, HB.out⟩

theorem l6Code_any (e g l : Bool) (w : World) :
    Calls Try.prog 88 #[.bool e, .bool g, .bool l] w fun r w' => r = .returned (.int .i64 (codeR e g l)) ∧ w = w' := by
  cases e <;> cases g <;> cases l
  all_goals
    go_enter Try.func88, Try.ntmps88
    go_wp2
    go_ret
    exact ⟨rfl, rfl⟩

set_option maxHeartbeats 2000000 in
theorem l6First_any (s t : Tm) (w : World) (va vb : Value) (hs : TmS w va s.args) (ht : TmS w vb t.args) (hws : s.wt ≤ 1048576) (hwt : t.wt ≤ 1048576) (hll : s.args.length ≤ t.args.length) :
    Calls Try.prog 135 #[.agg #[.string s.name, va], .agg #[.string t.name, vb]] w (Ans (.int .i64 (fd s.args t.args)) w) := by
  obtain ⟨pa, ca, rfl⟩ := hs.is_slice
  obtain ⟨pb, cb, rfl⟩ := ht.is_slice
  have HVS := Lib.hid hs
  have HVT := Lib.hid ht
  have hls : s.args.length ≤ 1048576 := Nat.le_trans (Tm.wt_len s) hws
  have HWS := Lib.hid (fun (x : Tm) (hx : x ∈ s.args) => Nat.le_trans (Tm.wt_arg hx) hws)
  have HWT := Lib.hid (fun (x : Tm) (hx : x ∈ t.args) => Nat.le_trans (Tm.wt_arg hx) hwt)
  obtain ⟨w1, hw1⟩ : ∃ w1, (w.alloc (.cells #[.string s.name, .slice pa s.args.length ca] 31)).alloc (.cells #[.string t.name, .slice pb t.args.length cb] 31) = w1 := ⟨_, rfl⟩
  have HB : Hid (Below w.heap.size w w1) := Lib.hid (by rw [← hw1]; exact ((Below.refl w.heap.size w).alloc (Nat.le_refl _) _).alloc (by simp) _)
  have HS : Hid (Two w1 w.heap.size (.string s.name) (.slice pa s.args.length ca)) := Lib.hid (by rw [← hw1]; exact (two_new w _ _ _ _ rfl).alloc _)
  have HT : Hid (Two w1 (w.heap.size + 1) (.string t.name) (.slice pb t.args.length cb)) := Lib.hid (by rw [← hw1]; exact two_new _ _ _ 31 (w.heap.size + 1) (by simp))
  clear hs ht
  go_enter Try.func135, Try.ntmps135
  go_wp2
  clear hw1
  go_loopw [5] (fun i wr => ∃ k : Nat, k ≤ s.args.length ∧ i = .int .i64 k ∧ (∀ j, j < k → s.args[j]? = t.args[j]?) ∧ Two wr w.heap.size (.string s.name) (.slice pa s.args.length ca) ∧ Two wr (w.heap.size + 1) (.string t.name) (.slice pb t.args.length cb) ∧ Below w.heap.size w wr) (fun i _ => s.args.length - (intOf i).toNat)
  case atStart => exact ⟨0, Nat.zero_le _, rfl, fun j hj => absurd hj (Nat.not_lt_zero _), HS.out, HT.out, HB.out⟩
  case round =>
    obtain ⟨k, hk, rfl, hq, h2, h3, hb⟩ := hrel
    have HQ := Lib.hid hq
    have HR2 := Lib.hid h2
    have HR3 := Lib.hid h3
    have HBR := Lib.hid hb
    clear hq
    obtain ⟨b0, b1, b2⟩ := h2
    obtain ⟨d0, d1, d2⟩ := h3
    by_cases hlt : k < s.args.length
    · obtain ⟨x, hx⟩ : ∃ x, s.args[k]? = some x := ⟨_, List.getElem?_eq_getElem hlt⟩
      have hlt2 : k < t.args.length := by omega
      obtain ⟨y, hy⟩ : ∃ y, t.args[k]? = some y := ⟨_, List.getElem?_eq_getElem hlt2⟩
      obtain ⟨b, off, rfl, vx, c0, c1, hvx⟩ := HVS.out.get hx
      obtain ⟨b', off', rfl, vy, e0, e1, hvy⟩ := HVT.out.get hy
      obtain ⟨p, c, rfl⟩ := hvx.is_slice
      obtain ⟨p', c', rfl⟩ := hvy.is_slice
      have c0' := carry_cell c0 hb
      have c1' := carry_cell c1 hb
      have e0' := carry_cell e0 hb
      have e1' := carry_cell e1 hb
      have HX := Lib.hid hx
      have HY := Lib.hid hy
      have CS := fun W (hW : Below wr.heap.size wr W) => l2Same_any x y W _ _ (hvx.kept (carry_below hb (Nat.le_refl _) hW)) (hvy.kept (carry_below hb (Nat.le_refl _) hW)) (HWS.out x (mem_of_at hx)) (HWT.out y (mem_of_at hy))
      obtain ⟨q, hq⟩ : ∃ q, q = eqT x y := ⟨_, rfl⟩
      rw [← hq] at CS
      have CS := Lib.hid CS
      have HQE := Lib.hid hq
      clear hb hx hy hvx hvy c0 c1 e0 e1 hq
      go_wp2_with fail
      have hB0 : Below wr.heap.size wr wr.drew := (Below.refl _ _).drew
      go_region_held3 (fun w' => w'.cell? ⟨w.heap.size, 1, none⟩ = some (.slice (some ⟨b, off, none⟩) s.args.length ca) ∧ w'.cell? ⟨w.heap.size + 1, 1, none⟩ = some (.slice (some ⟨b', off', none⟩) t.args.length cb) ∧ w'.cell? ⟨b, off + k * 2, none⟩ = some (.string x.name) ∧ w'.cell? ⟨b, off + k * 2 + 1, none⟩ = some (.slice p x.args.length c) ∧ w'.cell? ⟨b', off' + k * 2, none⟩ = some (.string y.name) ∧ w'.cell? ⟨b', off' + k * 2 + 1, none⟩ = some (.slice p' y.args.length c') ∧ Below wr.heap.size wr w') (first | exact ⟨by assumption, by assumption, by assumption, by assumption, by assumption, by assumption, by assumption⟩ | go_keep) (first | (go_at_call 89; refine (CS.out _ (by assumption)).mono ?_; rintro e w3 ⟨rfl, hb⟩; have qa0 : w3.cell? ⟨w.heap.size, 1, none⟩ = some (.slice (some ⟨b, off, none⟩) s.args.length ca) := carry_cell' hb (by assumption); have qa1 : w3.cell? ⟨w.heap.size + 1, 1, none⟩ = some (.slice (some ⟨b', off', none⟩) t.args.length cb) := carry_cell' hb (by assumption); have qa2 : w3.cell? ⟨b, off + k * 2, none⟩ = some (.string x.name) := carry_cell' hb (by assumption); have qa3 : w3.cell? ⟨b, off + k * 2 + 1, none⟩ = some (.slice p x.args.length c) := carry_cell' hb (by assumption); have qa4 : w3.cell? ⟨b', off' + k * 2, none⟩ = some (.string y.name) := carry_cell' hb (by assumption); have qa5 : w3.cell? ⟨b', off' + k * 2 + 1, none⟩ = some (.slice p' y.args.length c') := carry_cell' hb (by assumption); have hw3 : Below wr.heap.size wr w3 := carry_below (by assumption) (Nat.le_refl _) hb; clear hb))
      clear hB0 qa0 qa1 qa2 qa3 qa4 qa5
      have HB3 := Lib.hid (carry_below HBR.out (Nat.le_refl _) hw3)
      have HR4 := Lib.hid (HR2.out.kept hw3)
      have HR5 := Lib.hid (HR3.out.kept hw3)
      clear hw3
      cases q with
      | true =>
        have HN : Hid (∀ j, j < k + 1 → s.args[j]? = t.args[j]?) := Lib.hid (fun j hj => by
          by_cases e : j = k
          · have h := HQE.out.symm
            unfold eqT at h
            rw [e, HX.out, HY.out, of_decide_eq_true h]
          · exact HQ.out j (by omega))
        go_wp2
        go_roundw
        case rel => exact ⟨k + 1, by omega, by go_num, HN.out, HR4.out, HR5.out, HB3.out⟩
        case measure => simp [intOf]; omega
      | false =>
        have HE : Hid (fd s.args t.args = (k : Int)) := Lib.hid (fd_at hlt (by
          rw [HX.out, HY.out]
          intro h
          injection h with h
          have h2 := HQE.out.symm
          unfold eqT at h2
          exact of_decide_eq_false h2 h) HQ.out)
        go_wp2
        go_ret
        exact ⟨ret_int HE.out.symm, HB3.out⟩
    · have HE : Hid (fd s.args t.args = -1) := Lib.hid (fd_no (fun j hj => HQ.out j (by omega)))
      go_wp2
      go_ret
      exact ⟨ret_int HE.out.symm, HBR.out⟩

set_option maxHeartbeats 2000000 in
theorem l6Bal_any (s t : Tm) (w : World) (va vb : Value) (hs : TmS w va s.args) (ht : TmS w vb t.args) (hws : s.wt ≤ 1048576) (hwt : t.wt ≤ 1048576) (hzs : s.sz ≤ 30) (hzt : t.sz ≤ 30) :
    Calls Try.prog 132 #[.agg #[.string s.name, va], .agg #[.string t.name, vb]] w (Ans (.bool (bal s t)) w) := by
  obtain ⟨pa, ca, rfl⟩ := hs.is_slice
  obtain ⟨pb, cb, rfl⟩ := ht.is_slice
  have HVS := Lib.hid hs
  have HVT := Lib.hid ht
  obtain ⟨w1, hw1⟩ : ∃ w1, (w.alloc (.cells #[.string s.name, .slice pa s.args.length ca] 31)).alloc (.cells #[.string t.name, .slice pb t.args.length cb] 31) = w1 := ⟨_, rfl⟩
  have HB : Hid (Below w.heap.size w w1) := Lib.hid (by rw [← hw1]; exact ((Below.refl w.heap.size w).alloc (Nat.le_refl _) _).alloc (by simp) _)
  have HS : Hid (Two w1 w.heap.size (.string s.name) (.slice pa s.args.length ca)) := Lib.hid (by rw [← hw1]; exact (two_new w _ _ _ _ rfl).alloc _)
  have HT : Hid (Two w1 (w.heap.size + 1) (.string t.name) (.slice pb t.args.length cb)) := Lib.hid (by rw [← hw1]; exact two_new _ _ _ 31 (w.heap.size + 1) (by simp))
  have hin : (t.into []).length ≤ 30 := by have := t.into_len []; simp at this; omega
  clear hs ht
  obtain ⟨t0, t1, t2⟩ := HT.out
  go_enter Try.func132, Try.ntmps132
  go_wp2_with fail
  refine (vars_any t _ _ (HVT.out.kept HB.out) hwt (by omega)).mono ?_
  rintro e w2 ⟨v2, rfl, hl2, hb⟩
  have HB2 := Lib.hid (carry_below HB.out (Nat.le_refl _) hb)
  have HS2 := Lib.hid (HS.out.kept hb)
  have HT2 := Lib.hid (HT.out.kept hb)
  obtain ⟨na, nc, rfl, hng⟩ := (strs_of_lvK hl2).parts
  have HNG := Lib.hid hng
  clear hb hl2 hng hw1 t0 t1 t2 HB HS HT
  go_wp2
  go_loopw [6] (fun i wr => ∃ k : Nat, k ≤ (t.into []).length ∧ i = .int .i64 k ∧ (∀ j n, j < k → (t.into [])[j]? = some n → cnt n t.nds ≤ cnt n s.nds) ∧ Two wr w.heap.size (.string s.name) (.slice pa s.args.length ca) ∧ Two wr (w.heap.size + 1) (.string t.name) (.slice pb t.args.length cb) ∧ Below w2.heap.size w2 wr) (fun i _ => (t.into []).length - (intOf i).toNat)
  case atStart => exact ⟨0, Nat.zero_le _, rfl, fun j n hj => absurd hj (Nat.not_lt_zero _), HS2.out, HT2.out, Below.refl _ _⟩
  case round =>
    obtain ⟨k, hk, rfl, hq, h2, h3, hb⟩ := hrel
    have HQ := Lib.hid hq
    have HR2 := Lib.hid h2
    have HR3 := Lib.hid h3
    have HBR := Lib.hid hb
    have HBW := Lib.hid (carry_below HB2.out (Nat.le_refl _) hb)
    clear hq
    obtain ⟨b0, b1, b2⟩ := h2
    obtain ⟨d0, d1, d2⟩ := h3
    by_cases hlt : k < (t.into []).length
    · obtain ⟨n, hn⟩ : ∃ n, (t.into [])[k]? = some n := ⟨_, List.getElem?_eq_getElem hlt⟩
      obtain ⟨nb, no, rfl, hc⟩ := (HNG.out.below hb) k n hn
      have HN := Lib.hid hn
      have CS := fun W (hW : Below wr.heap.size wr W) => l2Count_any n s W _ (HVS.out.kept (carry_below HBW.out (Nat.le_refl _) hW)) hws
      have CT := fun W (hW : Below wr.heap.size wr W) => l2Count_any n t W _ (HVT.out.kept (carry_below HBW.out (Nat.le_refl _) hW)) hwt
      have HX : Hid (bal s t = false ∨ cnt n t.nds ≤ cnt n s.nds) := Lib.hid (by
        by_cases h : cnt n t.nds ≤ cnt n s.nds
        · exact .inr h
        · exact .inl (bal_no hn (by omega)))
      have HY : Hid (cnt n s.nds < cnt n t.nds → bal s t = false) := Lib.hid (bal_no hn)
      obtain ⟨x, hx⟩ : ∃ x, cnt n s.nds = x := ⟨_, rfl⟩
      obtain ⟨y, hy⟩ : ∃ y, cnt n t.nds = y := ⟨_, rfl⟩
      rw [hx] at CS HY
      rw [hy] at CT HY
      have HXE := Lib.hid hx
      have HYE := Lib.hid hy
      have CS := Lib.hid CS
      have CT := Lib.hid CT
      clear hb hn HX hx hy
      go_wp2_with fail
      have hB0 : Below wr.heap.size wr wr.drew := (Below.refl _ _).drew
      go_region_held3 (fun w' => w'.cell? ⟨w.heap.size, 0, none⟩ = some (.string s.name) ∧ w'.cell? ⟨w.heap.size, 1, none⟩ = some (.slice pa s.args.length ca) ∧ w'.cell? ⟨w.heap.size + 1, 0, none⟩ = some (.string t.name) ∧ w'.cell? ⟨w.heap.size + 1, 1, none⟩ = some (.slice pb t.args.length cb) ∧ w'.cell? ⟨nb, no + k, none⟩ = some (.string n) ∧ Below wr.heap.size wr w') (first | exact ⟨by assumption, by assumption, by assumption, by assumption, by assumption, by assumption⟩ | go_keep) (first | (go_at_call_of 173 (Value.agg #[Value.string s.name, Value.slice pa s.args.length ca]); refine (CS.out _ (by assumption)).mono ?_; rintro e w3 ⟨rfl, hb⟩; have qa0 : w3.cell? ⟨w.heap.size, 0, none⟩ = some (.string s.name) := carry_cell' hb (by assumption); have qa1 : w3.cell? ⟨w.heap.size, 1, none⟩ = some (.slice pa s.args.length ca) := carry_cell' hb (by assumption); have qa2 : w3.cell? ⟨w.heap.size + 1, 0, none⟩ = some (.string t.name) := carry_cell' hb (by assumption); have qa3 : w3.cell? ⟨w.heap.size + 1, 1, none⟩ = some (.slice pb t.args.length cb) := carry_cell' hb (by assumption); have qa4 : w3.cell? ⟨nb, no + k, none⟩ = some (.string n) := carry_cell' hb (by assumption); have hw3 : Below wr.heap.size wr w3 := carry_below (by assumption) (Nat.le_refl _) hb; clear hb) | (go_at_call_of 173 (Value.agg #[Value.string t.name, Value.slice pb t.args.length cb]); refine (CT.out _ (by assumption)).mono ?_; rintro e w4 ⟨rfl, hb⟩; have qb0 : w4.cell? ⟨w.heap.size, 0, none⟩ = some (.string s.name) := carry_cell' hb (by assumption); have qb1 : w4.cell? ⟨w.heap.size, 1, none⟩ = some (.slice pa s.args.length ca) := carry_cell' hb (by assumption); have qb2 : w4.cell? ⟨w.heap.size + 1, 0, none⟩ = some (.string t.name) := carry_cell' hb (by assumption); have qb3 : w4.cell? ⟨w.heap.size + 1, 1, none⟩ = some (.slice pb t.args.length cb) := carry_cell' hb (by assumption); have qb4 : w4.cell? ⟨nb, no + k, none⟩ = some (.string n) := carry_cell' hb (by assumption); have hw4 : Below wr.heap.size wr w4 := carry_below (by assumption) (Nat.le_refl _) hb; clear hb))
      clear hB0 qa0 qa1 qa2 qa3 qa4 hw3 qb0 qb1 qb2 qb3 qb4
      have HB3 := Lib.hid (carry_below HBR.out (Nat.le_refl _) hw4)
      have HBW3 := Lib.hid (carry_below HBW.out (Nat.le_refl _) hw4)
      have HR4 := Lib.hid (HR2.out.kept hw4)
      have HR5 := Lib.hid (HR3.out.kept hw4)
      clear hw4
      by_cases hxy : x < y
      · have HE : Hid (bal s t = false) := Lib.hid (HY.out hxy)
        go_wp2
        go_ret
        exact ⟨ret_bool HE.out.symm, HBW3.out⟩
      · have HN2 : Hid (∀ j m, j < k + 1 → (t.into [])[j]? = some m → cnt m t.nds ≤ cnt m s.nds) := Lib.hid (fun j m hj hm => by
          by_cases e : j = k
          · rw [e, HN.out] at hm; injection hm with hm; rw [← hm, HXE.out, HYE.out]; omega
          · exact HQ.out j m (by omega) hm)
        go_wp2
        go_roundw
        case rel => exact ⟨k + 1, by omega, by go_num, HN2.out, HR4.out, HR5.out, HB3.out⟩
        case measure => simp [intOf]; omega
    · have HE : Hid (bal s t = true) := Lib.hid (bal_yes (fun j n hj => HQ.out j n (by have := (List.getElem?_eq_some_iff.1 hj).1; omega) hj))
      go_wp2
      go_ret
      exact ⟨ret_bool HE.out.symm, HBW.out⟩

end Go.Proofs.Ytmlenhjhkpgcnaa

/- The Knuth-Bendix ordering, the model's: contracts, for orderings and terms of at most 1048576 names' bytes and elements. -/
namespace Go.Proofs.Ytmlenhjhkpgcnaa
open Go.RowKit
set_option linter.unusedVariables false

/-- What is asked of a term here. -/
structure Od.Ok (o : Od) (t : Tm) : Prop where
  wt : t.wt ≤ 1048576
  sz : t.sz ≤ 30
  cov : o.cov t = true
theorem Od.Ok.arg {o : Od} {t x : Tm} (h : o.Ok t) (hx : x ∈ t.args) : o.Ok x :=
  ⟨Nat.le_trans (Tm.wt_arg hx) h.wt, by have := sumL_mem (f := Tm.sz) hx; have := t.sz_eq; have := h.sz; omega, Od.cov_arg h.cov hx⟩

def KboS (o : Od) (s : Tm) : Prop := ∀ (t : Tm) (w : World) (sv wv va vb : Value) (hv : OdV w sv wv o) (hs : TmS w va s.args) (ht : TmS w vb t.args), o.Ok s → o.Ok t →
  Calls Try.prog 90 #[.agg #[sv, wv, .int .i64 o.va], .agg #[.string s.name, va], .agg #[.string t.name, vb]] w (Ans (.bool (kbo o s t)) w)

set_option maxHeartbeats 4000000 in
theorem kboS_of (o : Od) (ho : o.wt ≤ 1048576) (hf : o.Fine) (s : Tm) (h : ∀ x ∈ s.args, KboS o x) : KboS o s := by
  intro t w sv wv va vb hv hs ht hos hot
  have H := Lib.hid h
  have HOS := Lib.hid hos
  have HOT := Lib.hid hot
  obtain ⟨sa, sc, wa, wc, rfl, rfl⟩ := hv.open
  obtain ⟨pa, ca, rfl⟩ := hs.is_slice
  obtain ⟨pb, cb, rfl⟩ := ht.is_slice
  obtain ⟨w1, hw1⟩ : ∃ w1, ((w.alloc (.cells #[.slice sa o.sy.length sc, .slice wa o.ws.length wc, .int .i64 o.va] 73)).alloc (.cells #[.string s.name, .slice pa s.args.length ca] 31)).alloc (.cells #[.string t.name, .slice pb t.args.length cb] 31) = w1 := ⟨_, rfl⟩
  have HB : Hid (Below w.heap.size w w1) := Lib.hid (by rw [← hw1]; exact (((Below.refl w.heap.size w).alloc (Nat.le_refl _) _).alloc (by simp) _).alloc (by simp; omega) _)
  have H3 : Hid (OdB w1 w.heap.size (.slice sa o.sy.length sc) (.slice wa o.ws.length wc) o) := Lib.hid (by rw [← hw1]; exact ((thr_new w _ _ _ _ _ rfl).alloc _).alloc _)
  have HS : Hid (Two w1 (w.heap.size + 1) (.string s.name) (.slice pa s.args.length ca)) := Lib.hid (by rw [← hw1]; exact (two_new _ _ _ 31 (w.heap.size + 1) (by simp)).alloc _)
  have HT : Hid (Two w1 (w.heap.size + 1 + 1) (.string t.name) (.slice pb t.args.length cb)) := Lib.hid (by rw [← hw1]; exact two_new _ _ _ 31 (w.heap.size + 1 + 1) (by simp))
  have HV := Lib.hid hv
  have HVS := Lib.hid hs
  have HVT := Lib.hid ht
  have hls : s.args.length ≤ 1048576 := Nat.le_trans (Tm.wt_len s) hos.wt
  have CBAL := Lib.hid (fun W (hW : Below w.heap.size w W) => l6Bal_any s t W _ _ (hs.kept hW) (ht.kept hW) hos.wt hot.wt hos.sz hot.sz)
  have CWS := Lib.hid (fun W (hW : Below w.heap.size w W) => l6Weight_any o ho hf s W _ _ _ (hv.kept hW) (hs.kept hW) hos.wt hos.sz hos.cov)
  have CWT := Lib.hid (fun W (hW : Below w.heap.size w W) => l6Weight_any o ho hf t W _ _ _ (hv.kept hW) (ht.kept hW) hot.wt hot.sz hot.cov)
  have CVS := Lib.hid (fun W => l2Var_any s.name W (by have := Tm.wt_name s; have := hos.wt; unfold maxLen; omega))
  have CVT := Lib.hid (fun W => l2Var_any t.name W (by have := Tm.wt_name t; have := hot.wt; unfold maxLen; omega))
  have CRT := Lib.hid (fun W (hW : Below w.heap.size w W) => l6Root_any o ho s t W _ _ _ _ (hv.kept hW) (hs.kept hW) (ht.kept hW) hos.wt hot.wt)
  have CFD := Lib.hid (fun (hll : s.args.length ≤ t.args.length) W (hW : Below w.heap.size w W) => l6First_any s t W _ _ (hs.kept hW) (ht.kept hW) hos.wt hot.wt hll)
  clear h hv hs ht hos hot
  obtain ⟨b0, b1, b2, b3⟩ := H3.out
  obtain ⟨s0, s1, s2⟩ := HS.out
  obtain ⟨t0, t1, t2⟩ := HT.out
  go_enter Try.func90, Try.ntmps90
  go_wp2_with fail
  refine (CBAL.out _ HB.out).mono ?_
  rintro e w2 ⟨rfl, hb⟩
  replace HB := Lib.hid (carry_below HB.out (Nat.le_refl _) hb)
  replace H3 := Lib.hid (H3.out.kept hb)
  replace HS := Lib.hid (HS.out.kept hb)
  replace HT := Lib.hid (HT.out.kept hb)
  clear hb b0 b1 b2 b3 s0 s1 s2 t0 t1 t2 hw1 CBAL
  obtain ⟨b0, b1, b2, b3⟩ := H3.out
  obtain ⟨s0, s1, s2⟩ := HS.out
  obtain ⟨t0, t1, t2⟩ := HT.out
  cases hbal : bal s t with
  | false =>
    have HE : Hid (kbo o s t = false) := Lib.hid (kbo_bal hbal)
    clear hbal
    go_wp2
    go_ret
    exact ⟨ret_bool HE.out.symm, HB.out⟩
  | true =>
    have HBAL := Lib.hid hbal
    clear hbal
    obtain ⟨x, hx⟩ : ∃ x, o.wT s = x := ⟨_, rfl⟩
    obtain ⟨y, hy⟩ : ∃ y, o.wT t = y := ⟨_, rfl⟩
    have HXE := Lib.hid hx
    have HYE := Lib.hid hy
    rw [hx] at CWS
    rw [hy] at CWT
    have CW1 := Lib.hid (fun W (hW : Below w2.heap.size w2 W) => CWS.out W (carry_below HB.out (Nat.le_refl _) hW))
    have CW2 := Lib.hid (fun W (hW : Below w2.heap.size w2 W) => CWT.out W (carry_below HB.out (Nat.le_refl _) hW))
    clear hx hy CWS CWT
    go_wp2_with fail
    have hB0 : Below w2.heap.size w2 w2.drew := (Below.refl _ _).drew
    go_region_held3 (fun w' => w'.cell? ⟨w.heap.size, 0, none⟩ = some (.slice sa o.sy.length sc) ∧ w'.cell? ⟨w.heap.size, 1, none⟩ = some (.slice wa o.ws.length wc) ∧ w'.cell? ⟨w.heap.size, 2, none⟩ = some (.int .i64 o.va) ∧ w'.cell? ⟨w.heap.size + 1, 0, none⟩ = some (.string s.name) ∧ w'.cell? ⟨w.heap.size + 1, 1, none⟩ = some (.slice pa s.args.length ca) ∧ w'.cell? ⟨w.heap.size + 1 + 1, 0, none⟩ = some (.string t.name) ∧ w'.cell? ⟨w.heap.size + 1 + 1, 1, none⟩ = some (.slice pb t.args.length cb) ∧ Below w2.heap.size w2 w') (first | exact ⟨by assumption, by assumption, by assumption, by assumption, by assumption, by assumption, by assumption, by assumption⟩ | go_keep) (first | (go_at_call_of 133 (Value.agg #[Value.string s.name, Value.slice pa s.args.length ca]); refine (CW1.out _ (by assumption)).mono ?_; rintro e w3 ⟨rfl, hb⟩; have qa0 : w3.cell? ⟨w.heap.size, 0, none⟩ = some (.slice sa o.sy.length sc) := carry_cell' hb (by assumption); have qa1 : w3.cell? ⟨w.heap.size, 1, none⟩ = some (.slice wa o.ws.length wc) := carry_cell' hb (by assumption); have qa2 : w3.cell? ⟨w.heap.size, 2, none⟩ = some (.int .i64 o.va) := carry_cell' hb (by assumption); have qa3 : w3.cell? ⟨w.heap.size + 1, 0, none⟩ = some (.string s.name) := carry_cell' hb (by assumption); have qa4 : w3.cell? ⟨w.heap.size + 1, 1, none⟩ = some (.slice pa s.args.length ca) := carry_cell' hb (by assumption); have qa5 : w3.cell? ⟨w.heap.size + 1 + 1, 0, none⟩ = some (.string t.name) := carry_cell' hb (by assumption); have qa6 : w3.cell? ⟨w.heap.size + 1 + 1, 1, none⟩ = some (.slice pb t.args.length cb) := carry_cell' hb (by assumption); have hw3 : Below w2.heap.size w2 w3 := carry_below (by assumption) (Nat.le_refl _) hb; clear hb) | (go_at_call_of 133 (Value.agg #[Value.string t.name, Value.slice pb t.args.length cb]); refine (CW2.out _ (by assumption)).mono ?_; rintro e w4 ⟨rfl, hb⟩; have qb0 : w4.cell? ⟨w.heap.size, 0, none⟩ = some (.slice sa o.sy.length sc) := carry_cell' hb (by assumption); have qb1 : w4.cell? ⟨w.heap.size, 1, none⟩ = some (.slice wa o.ws.length wc) := carry_cell' hb (by assumption); have qb2 : w4.cell? ⟨w.heap.size, 2, none⟩ = some (.int .i64 o.va) := carry_cell' hb (by assumption); have qb3 : w4.cell? ⟨w.heap.size + 1, 0, none⟩ = some (.string s.name) := carry_cell' hb (by assumption); have qb4 : w4.cell? ⟨w.heap.size + 1, 1, none⟩ = some (.slice pa s.args.length ca) := carry_cell' hb (by assumption); have qb5 : w4.cell? ⟨w.heap.size + 1 + 1, 0, none⟩ = some (.string t.name) := carry_cell' hb (by assumption); have qb6 : w4.cell? ⟨w.heap.size + 1 + 1, 1, none⟩ = some (.slice pb t.args.length cb) := carry_cell' hb (by assumption); have hw4 : Below w2.heap.size w2 w4 := carry_below (by assumption) (Nat.le_refl _) hb; clear hb))
    clear hB0 qa0 qa1 qa2 qa3 qa4 qa5 qa6 hw3 qb0 qb1 qb2 qb3 qb4 qb5 qb6
    have hb := hw4
    clear hw4 CW1 CW2
    replace HB := Lib.hid (carry_below HB.out (Nat.le_refl _) hb)
    replace H3 := Lib.hid (H3.out.kept hb)
    replace HS := Lib.hid (HS.out.kept hb)
    replace HT := Lib.hid (HT.out.kept hb)
    clear hb b0 b1 b2 b3 s0 s1 s2 t0 t1 t2
    obtain ⟨b0, b1, b2, b3⟩ := H3.out
    obtain ⟨s0, s1, s2⟩ := HS.out
    obtain ⟨t0, t1, t2⟩ := HT.out
    by_cases hxy : x = y
    · have e1 : (x != y) = false := int_eq hxy
      have HWE : Hid (o.wT s = o.wT t) := Lib.hid (by rw [HXE.out, HYE.out, hxy])
      clear hxy
      cases hvs : varB s.name with
      | true =>
        rw [hvs] at CVS
        have HE : Hid (kbo o s t = false) := Lib.hid (kbo_var HBAL.out HWE.out (.inl hvs))
        clear hvs
        go_wp2_with fail
        refine (CVS.out _).mono ?_
        rintro e w5 ⟨rfl, rfl⟩
        go_wp2
        go_ret
        exact ⟨ret_bool HE.out.symm, HB.out⟩
      | false =>
        rw [hvs] at CVS
        have HVSN := Lib.hid hvs
        clear hvs
        go_wp2_with fail
        refine (CVS.out _).mono ?_
        rintro e w5 ⟨rfl, rfl⟩
        cases hvt : varB t.name with
        | true =>
          rw [hvt] at CVT
          have HE : Hid (kbo o s t = false) := Lib.hid (kbo_var HBAL.out HWE.out (.inr hvt))
          clear hvt
          go_wp2_with fail
          refine (CVT.out _).mono ?_
          rintro e w6 ⟨rfl, rfl⟩
          go_wp2
          go_ret
          exact ⟨ret_bool HE.out.symm, HB.out⟩
        | false =>
          rw [hvt] at CVT
          have HVTN := Lib.hid hvt
          clear hvt
          go_wp2_with fail
          refine (CVT.out _).mono ?_
          rintro e w6 ⟨rfl, rfl⟩
          obtain ⟨r, hr⟩ : ∃ r, o.root s t = r := ⟨_, rfl⟩
          have HRE := Lib.hid hr
          rw [hr] at CRT
          clear hr CVS CVT e1
          go_wp2_with fail
          refine (CRT.out _ HB.out).mono ?_
          rintro e w7 ⟨rfl, hb⟩
          replace HB := Lib.hid (carry_below HB.out (Nat.le_refl _) hb)
          replace H3 := Lib.hid (H3.out.kept hb)
          replace HS := Lib.hid (HS.out.kept hb)
          replace HT := Lib.hid (HT.out.kept hb)
          clear hb b0 b1 b2 b3 s0 s1 s2 t0 t1 t2 CRT
          obtain ⟨b0, b1, b2, b3⟩ := H3.out
          obtain ⟨s0, s1, s2⟩ := HS.out
          obtain ⟨t0, t1, t2⟩ := HT.out
          by_cases hr0 : r = 0
          · have e2 : (r != 0) = false := int_eq hr0
            have HR0 : Hid (o.root s t = 0) := Lib.hid (by rw [HRE.out, hr0])
            have hll : s.args.length = t.args.length := Od.root_len HR0.out
            have HLL := Lib.hid hll
            have HKE := Lib.hid (kbo_args HBAL.out HWE.out HVSN.out HVTN.out HR0.out)
            have CF2 := Lib.hid (CFD.out (by omega))
            clear hr0 CFD hll
            rcases fd_ways s.args t.args with ⟨f1, f2⟩ | ⟨k, f1, f2, f3, f4⟩
            · rw [f1] at CF2
              have HE : Hid (kbo o s t = false) := Lib.hid (by rw [HKE.out]; exact kboL_no o _ _ f2)
              clear f1 f2
              go_wp2_with fail
              refine (CF2.out _ HB.out).mono ?_
              rintro e w8 ⟨rfl, hb⟩
              have HB8 := Lib.hid (carry_below HB.out (Nat.le_refl _) hb)
              clear hb b0 b1 b2 b3 s0 s1 s2 t0 t1 t2 HB H3 HS HT
              go_wp2
              go_quiet (fail)
              have HB9 : Hid (Below w.heap.size w (w8.drewN nq)) := Lib.hid (⟨HB8.out.os, HB8.out.tape, HB8.out.output, HB8.out.size, HB8.out.block⟩)
              go_wp2
              go_ret
              exact ⟨ret_bool HE.out.symm, HB9.out⟩
            · rw [f1] at CF2
              obtain ⟨x, hx⟩ : ∃ x, s.args[k]? = some x := ⟨_, List.getElem?_eq_getElem f2⟩
              have hkt : k < t.args.length := by have := HLL.out; omega
              obtain ⟨y, hy⟩ : ∃ y, t.args[k]? = some y := ⟨_, List.getElem?_eq_getElem hkt⟩
              have HE : Hid (kbo o s t = kbo o x y) := Lib.hid (by
                rw [HKE.out]
                exact kboL_at o _ _ k x y hx hy (fun e => f3 (by rw [hx, hy, e])) f4)
              have HX := Lib.hid hx
              have HY := Lib.hid hy
              clear f1 f3 f4 hx hy HKE
              go_wp2_with fail
              refine (CF2.out _ HB.out).mono ?_
              rintro e w8 ⟨rfl, hb⟩
              replace HB := Lib.hid (carry_below HB.out (Nat.le_refl _) hb)
              replace H3 := Lib.hid (H3.out.kept hb)
              replace HS := Lib.hid (HS.out.kept hb)
              replace HT := Lib.hid (HT.out.kept hb)
              clear hb b0 b1 b2 b3 s0 s1 s2 t0 t1 t2 CF2 e2
              obtain ⟨b0, b1, b2, b3⟩ := H3.out
              obtain ⟨s0, s1, s2⟩ := HS.out
              obtain ⟨t0, t1, t2⟩ := HT.out
              obtain ⟨b, off, rfl, vx, c0, c1, hvx⟩ := HVS.out.get HX.out
              obtain ⟨b', off', rfl, vy, d0, d1, hvy⟩ := HVT.out.get HY.out
              obtain ⟨p, c, rfl⟩ := hvx.is_slice
              obtain ⟨p', c', rfl⟩ := hvy.is_slice
              have c0' := carry_cell c0 HB.out
              have c1' := carry_cell c1 HB.out
              have d0' := carry_cell d0 HB.out
              have d1' := carry_cell d1 HB.out
              have CK := Lib.hid (fun W (hW : Below w8.heap.size w8 W) => H.out x (mem_of_at HX.out) y W _ _ _ _ (HV.out.kept (carry_below HB.out (Nat.le_refl _) hW)) (hvx.kept (carry_below HB.out (Nat.le_refl _) hW)) (hvy.kept (carry_below HB.out (Nat.le_refl _) hW)) (HOS.out.arg (mem_of_at HX.out)) (HOT.out.arg (mem_of_at HY.out)))
              have hk0 : decide ((0 : Int) ≤ (k : Int)) = true := by simp
              clear c0 c1 d0 d1 hvx hvy
              go_wp2_with fail
              have hB0 : Below w8.heap.size w8 w8.drew := (Below.refl _ _).drew
              go_region_held3 (fun w' => w'.cell? ⟨w.heap.size, 0, none⟩ = some (.slice sa o.sy.length sc) ∧ w'.cell? ⟨w.heap.size, 1, none⟩ = some (.slice wa o.ws.length wc) ∧ w'.cell? ⟨w.heap.size, 2, none⟩ = some (.int .i64 o.va) ∧ w'.cell? ⟨w.heap.size + 1, 1, none⟩ = some (.slice (some ⟨b, off, none⟩) s.args.length ca) ∧ w'.cell? ⟨w.heap.size + 1 + 1, 1, none⟩ = some (.slice (some ⟨b', off', none⟩) t.args.length cb) ∧ w'.cell? ⟨b, off + k * 2, none⟩ = some (.string x.name) ∧ w'.cell? ⟨b, off + k * 2 + 1, none⟩ = some (.slice p x.args.length c) ∧ w'.cell? ⟨b', off' + k * 2, none⟩ = some (.string y.name) ∧ w'.cell? ⟨b', off' + k * 2 + 1, none⟩ = some (.slice p' y.args.length c') ∧ Below w8.heap.size w8 w') (first | exact ⟨by assumption, by assumption, by assumption, by assumption, by assumption, by assumption, by assumption, by assumption, by assumption, by assumption⟩ | go_keep) (first | (go_at_call 90; refine (CK.out _ (by assumption)).mono ?_; rintro e w9 ⟨rfl, hb⟩; have qa0 : w9.cell? ⟨w.heap.size, 0, none⟩ = some (.slice sa o.sy.length sc) := carry_cell' hb (by assumption); have qa1 : w9.cell? ⟨w.heap.size, 1, none⟩ = some (.slice wa o.ws.length wc) := carry_cell' hb (by assumption); have qa2 : w9.cell? ⟨w.heap.size, 2, none⟩ = some (.int .i64 o.va) := carry_cell' hb (by assumption); have qa3 : w9.cell? ⟨w.heap.size + 1, 1, none⟩ = some (.slice (some ⟨b, off, none⟩) s.args.length ca) := carry_cell' hb (by assumption); have qa4 : w9.cell? ⟨w.heap.size + 1 + 1, 1, none⟩ = some (.slice (some ⟨b', off', none⟩) t.args.length cb) := carry_cell' hb (by assumption); have qa5 : w9.cell? ⟨b, off + k * 2, none⟩ = some (.string x.name) := carry_cell' hb (by assumption); have qa6 : w9.cell? ⟨b, off + k * 2 + 1, none⟩ = some (.slice p x.args.length c) := carry_cell' hb (by assumption); have qa7 : w9.cell? ⟨b', off' + k * 2, none⟩ = some (.string y.name) := carry_cell' hb (by assumption); have qa8 : w9.cell? ⟨b', off' + k * 2 + 1, none⟩ = some (.slice p' y.args.length c') := carry_cell' hb (by assumption); have hw9 : Below w8.heap.size w8 w9 := carry_below (by assumption) (Nat.le_refl _) hb; clear hb))
              clear hB0 qa0 qa1 qa2 qa3 qa4 qa5 qa6 qa7 qa8
              have HB9 := Lib.hid (carry_below HB.out (Nat.le_refl _) hw9)
              clear hw9
              go_wp2
              go_ret
              exact ⟨ret_bool HE.out.symm, HB9.out⟩
          · have e2 : (r != 0) = true := int_ne hr0
            have HE : Hid (kbo o s t = decide (0 < r)) := Lib.hid (by rw [kbo_root HBAL.out HWE.out HVSN.out HVTN.out (by rw [HRE.out]; exact hr0), HRE.out])
            clear hr0
            go_wp2
            go_ret
            exact ⟨ret_bool HE.out.symm, HB.out⟩
    · have e1 : (x != y) = true := int_ne hxy
      have HE : Hid (kbo o s t = decide (y < x)) := Lib.hid (by rw [kbo_wt HBAL.out (by rw [HXE.out, HYE.out]; exact hxy), HXE.out, HYE.out])
      clear hxy
      go_wp2
      go_ret
      exact ⟨ret_bool HE.out.symm, HB.out⟩

theorem l6KBO_any (o : Od) (ho : o.wt ≤ 1048576) (hf : o.Fine) (s : Tm) : KboS o s := Tm.ind (P := KboS o) (kboS_of o ho hf) s

end Go.Proofs.Ytmlenhjhkpgcnaa

/- The lexicographic path ordering, plain facts: it is transitive, irreflexive, contains the subterm relation; how the model and the program decide it. No condition. -/
namespace Go.Proofs.Ytmlenhjhkpgcnaa
open Go.RowKit
set_option linter.unusedVariables false

theorem root_pos {o : Od} {s t : Tm} : 0 < o.root s t ↔ (rk o.sy t.name < rk o.sy s.name ∨ (rk o.sy s.name = rk o.sy t.name ∧ t.args.length < s.args.length)) := by
  unfold Od.root cmpR
  split
  · split
    · omega
    · split <;> omega
  · split
    · omega
    · split <;> omega
theorem root_zero {o : Od} {s t : Tm} : o.root s t = 0 ↔ (rk o.sy s.name = rk o.sy t.name ∧ s.args.length = t.args.length) := by
  unfold Od.root cmpR
  split
  · split
    · omega
    · split <;> omega
  · split
    · omega
    · split <;> omega
theorem root_self (o : Od) (s : Tm) : o.root s s = 0 := root_zero.2 ⟨rfl, rfl⟩
theorem sz_lt {s x : Tm} (h : x ∈ s.args) : x.sz < s.sz := by
  have := sumL_mem (f := Tm.sz) h
  rw [s.sz_eq]; omega

/-- s is greater than t. -/
inductive Gt (o : Od) : Tm → Tm → Prop where
  | eq {s t : Tm} (hs : varB s.name = false) (h : t ∈ s.args) : Gt o s t
  | sub {s t x : Tm} (hs : varB s.name = false) (h : x ∈ s.args) (h' : Gt o x t) : Gt o s t
  | prec {s t : Tm} (hs : varB s.name = false) (ht : varB t.name = false) (hr : 0 < o.root s t) (h : ∀ y ∈ t.args, Gt o s y) : Gt o s t
  | lex {s t x y : Tm} (k : Nat) (hs : varB s.name = false) (ht : varB t.name = false) (hr : o.root s t = 0) (hj : ∀ j, j < k → s.args[j]? = t.args[j]?) (hx : s.args[k]? = some x) (hy : t.args[k]? = some y) (h : ∀ z ∈ t.args, Gt o s z) (hxy : Gt o x y) : Gt o s t

theorem Gt.nonvar {o : Od} {s t : Tm} (h : Gt o s t) : varB s.name = false := by
  cases h <;> assumption

theorem gt_trans (o : Od) : ∀ (n : Nat) (s t u : Tm), s.sz + t.sz + u.sz ≤ n → Gt o s t → Gt o t u → Gt o s u := by
  intro n
  induction n with
  | zero => intro s t u h; have := s.sz_pos; omega
  | succ n ih =>
    intro s t u hn h1 h2
    have big : 0 ≤ o.root s t → varB s.name = false → (∀ y ∈ t.args, Gt o s y) → (o.root s t = 0 → ∃ (k : Nat) (x y : Tm), (∀ j, j < k → s.args[j]? = t.args[j]?) ∧ s.args[k]? = some x ∧ t.args[k]? = some y ∧ Gt o x y) → Gt o s u := by
      intro hr hs hall hlex
      cases h2 with
      | eq _ h => exact hall u h
      | sub _ h h' => exact ih s _ u (by have := sz_lt h; omega) (hall _ h) h'
      | prec _ hu hr2 h =>
        refine .prec hs hu ?_ fun z hz => ih s t z (by have := sz_lt hz; omega) h1 (h z hz)
        by_cases h0 : o.root s t = 0
        · rw [root_pos] at *
          rw [root_zero] at h0
          omega
        · have h3 : 0 < o.root s t := by omega
          rw [root_pos] at *
          omega
      | lex k hu' hu hr2 hj hx hy h hxy =>
        have hz : ∀ z ∈ u.args, Gt o s z := fun z hz => ih s t z (by have := sz_lt hz; omega) h1 (h z hz)
        by_cases h0 : o.root s t = 0
        · obtain ⟨k1, x1, y1, a1, a2, a3, a4⟩ := hlex h0
          have h00 : o.root s u = 0 := by
            rw [root_zero] at *; omega
          rcases Nat.lt_trichotomy k1 k with hlt | heq | hgt
          · exact .lex k1 hs hu h00 (fun j hj' => (a1 j hj').trans (hj j (by omega))) a2 ((hj k1 hlt).symm.trans a3) hz a4
          · subst heq
            have e := a3.symm.trans hx
            injection e with e
            subst e
            have m1 := sz_lt (mem_of_at a2)
            have m2 := sz_lt (mem_of_at a3)
            have m3 := sz_lt (mem_of_at hy)
            exact .lex k1 hs hu h00 (fun j hj' => (a1 j hj').trans (hj j hj')) a2 hy hz (ih _ _ _ (by omega) a4 hxy)
          · exact .lex k hs hu h00 (fun j hj' => (a1 j (by omega)).trans (hj j hj')) ((a1 k hgt).trans hx) hy hz hxy
        · refine .prec hs hu ?_ hz
          have h3 : 0 < o.root s t := by omega
          rw [root_pos] at *
          rw [root_zero] at hr2
          omega
    have h1' := h1
    cases h1' with
    | eq hs h => exact .sub hs h h2
    | sub hs h h' => exact .sub hs h (ih _ t u (by have := sz_lt h; omega) h' h2)
    | prec hs ht hr h => exact big (by omega) hs h (fun e => by omega)
    | lex k hs ht hr hj hx hy h hxy => exact big (by omega) hs h (fun _ => ⟨k, _, _, hj, hx, hy, hxy⟩)

theorem Gt.trans {o : Od} {s t u : Tm} (h1 : Gt o s t) (h2 : Gt o t u) : Gt o s u := gt_trans o _ s t u (Nat.le_refl _) h1 h2

theorem gt_irr (o : Od) : ∀ (n : Nat) (s : Tm), s.sz ≤ n → ¬ Gt o s s := by
  intro n
  induction n with
  | zero => intro s h; have := s.sz_pos; omega
  | succ n ih =>
    intro s hn h
    have h' := h
    cases h' with
    | eq hs hm => have := sz_lt hm; omega
    | sub hs hm hx => exact ih _ (by have := sz_lt hm; omega) (hx.trans (.eq hs hm))
    | prec hs ht hr h => rw [root_self] at hr; omega
    | lex k hs ht hr hj hx hy h hxy =>
      have e := hx.symm.trans hy
      injection e with e
      subst e
      exact ih _ (by have := sz_lt (mem_of_at hx); omega) hxy
theorem Gt.irr {o : Od} {s : Tm} : ¬ Gt o s s := gt_irr o _ s (Nat.le_refl _)

/-- What is greater than a term is greater than its arguments. -/
theorem Gt.args {o : Od} {s t : Tm} (h : Gt o s t) : varB t.name = false → ∀ y ∈ t.args, Gt o s y := by
  intro ht y hy
  exact h.trans (.eq ht hy)

/-- The first difference decides, where the roots are the same. -/
theorem gt_lex_at {o : Od} {s t x y : Tm} {k : Nat} (hx : s.args[k]? = some x) (hy : t.args[k]? = some y) (hne : x ≠ y) (hj : ∀ j, j < k → s.args[j]? = t.args[j]?)
    {x' y' : Tm} {k' : Nat} (hx' : s.args[k']? = some x') (hy' : t.args[k']? = some y') (hj' : ∀ j, j < k' → s.args[j]? = t.args[j]?) (hg : Gt o x' y') : Gt o x y := by
  rcases Nat.lt_trichotomy k k' with hlt | heq | hgt
  · have e := hj' k hlt
    rw [hx, hy] at e
    injection e with e
    exact absurd e hne
  · subst heq
    have e1 := hx.symm.trans hx'
    have e2 := hy.symm.trans hy'
    injection e1 with e1
    injection e2 with e2
    rw [e1, e2]; exact hg
  · have e := hj k' hgt
    rw [hx', hy'] at e
    injection e with e
    rw [e] at hg
    exact absurd hg Gt.irr

/-! ### The model's decision -/
theorem gt_var {o : Od} {s t : Tm} (h : varB s.name = true) : ¬ Gt o s t := fun hg => by rw [hg.nonvar] at h; cases h
/-- None of the arguments decides. -/
def NoArg (o : Od) (s t : Tm) : Prop := ∀ x ∈ s.args, x ≠ t ∧ ¬ Gt o x t
theorem gt_tvar {o : Od} {s t : Tm} (hn : NoArg o s t) (ht : varB t.name = true) : ¬ Gt o s t := fun hg => by
  cases hg with
  | eq hs h => exact (hn t h).1 rfl
  | sub hs h h' => exact (hn _ h).2 h'
  | prec hs ht' => rw [ht'] at ht; cases ht
  | lex k hs ht' => rw [ht'] at ht; cases ht
theorem gt_less {o : Od} {s t : Tm} (hn : NoArg o s t) (hr : o.root s t < 0) : ¬ Gt o s t := fun hg => by
  cases hg with
  | eq hs h => exact (hn t h).1 rfl
  | sub hs h h' => exact (hn _ h).2 h'
  | prec hs ht' hr' => omega
  | lex k hs ht' hr' => omega
theorem gt_some {o : Od} {s t y : Tm} (hn : NoArg o s t) (hy : y ∈ t.args) (h : ¬ Gt o s y) : ¬ Gt o s t := fun hg => by
  cases hg with
  | eq hs h => exact (hn t h).1 rfl
  | sub hs h h' => exact (hn _ h).2 h'
  | prec hs ht' hr' ha => exact h (ha y hy)
  | lex k hs ht' hr' hj hx hy' ha hxy => exact h (ha y hy)
theorem gt_same {o : Od} {s t : Tm} (hn : NoArg o s t) (hr : o.root s t = 0) (h : ∀ j, j < s.args.length → s.args[j]? = t.args[j]?) : ¬ Gt o s t := fun hg => by
  cases hg with
  | eq hs h => exact (hn t h).1 rfl
  | sub hs h h' => exact (hn _ h).2 h'
  | prec hs ht' hr' => omega
  | lex k hs ht' hr' hj hx hy ha hxy =>
    have e := h k (List.getElem?_eq_some_iff.1 hx).1
    rw [hx, hy] at e
    injection e with e
    rw [e] at hxy
    exact Gt.irr hxy
theorem gt_diff {o : Od} {s t x y : Tm} {k : Nat} (hn : NoArg o s t) (hr : o.root s t = 0) (hx : s.args[k]? = some x) (hy : t.args[k]? = some y) (hne : x ≠ y) (hj : ∀ j, j < k → s.args[j]? = t.args[j]?) (hg' : ¬ Gt o x y) : ¬ Gt o s t := fun hg => by
  cases hg with
  | eq hs h => exact (hn t h).1 rfl
  | sub hs h h' => exact (hn _ h).2 h'
  | prec hs ht' hr' => omega
  | lex k' hs ht' hr' hj' hx' hy' ha hxy => exact hg' (gt_lex_at hx hy hne hj hx' hy' hj' hxy)

/-! ### The program's decision -/
theorem gt_prec_iff {o : Od} {s t : Tm} (hs : varB s.name = false) (ht : varB t.name = false) (hr : 0 < o.root s t) : Gt o s t ↔ ∀ y ∈ t.args, Gt o s y :=
  ⟨fun h => h.args ht, fun h => .prec hs ht hr h⟩
theorem gt_less_iff {o : Od} {s t : Tm} (hs : varB s.name = false) (hr : o.root s t < 0) : Gt o s t ↔ ∃ x ∈ s.args, x = t ∨ Gt o x t := by
  constructor
  · intro h
    cases h with
    | eq _ h => exact ⟨t, h, .inl rfl⟩
    | sub _ h h' => exact ⟨_, h, .inr h'⟩
    | prec _ _ hr' => omega
    | lex _ _ _ hr' => omega
  · rintro ⟨x, hx, rfl | h⟩
    · exact .eq hs hx
    · exact .sub hs hx h
theorem mem_take_or_drop {l : List Tm} {k : Nat} {x : Tm} (hx : l[k]? = some x) {z : Tm} (hz : z ∈ l) : z ∈ l.take k ∨ z = x ∨ z ∈ l.drop (k + 1) := by
  have e : l = l.take k ++ x :: l.drop (k + 1) := by
    have hlt := (List.getElem?_eq_some_iff.1 hx).1
    have h1 : l.drop k = x :: l.drop (k + 1) := by
      rw [List.drop_eq_getElem_cons hlt]
      rw [List.getElem?_eq_getElem hlt] at hx
      injection hx with hx
      rw [hx]
    rw [← h1, List.take_append_drop]
  rw [e] at hz
  rcases List.mem_append.1 hz with h | h
  · exact .inl h
  · rcases List.mem_cons.1 h with h | h
    · exact .inr (.inl h)
    · exact .inr (.inr h)
theorem take_agree {a b : List Tm} {k : Nat} (hj : ∀ j, j < k → a[j]? = b[j]?) {z : Tm} (hz : z ∈ b.take k) : z ∈ a := by
  obtain ⟨j, hj2⟩ := List.getElem?_of_mem hz
  rw [List.getElem?_take] at hj2
  split at hj2
  · rename_i hlt
    exact List.mem_of_getElem? ((hj j hlt).trans hj2)
  · cases hj2
theorem gt_above_iff {o : Od} {s t x y : Tm} {k : Nat} (hs : varB s.name = false) (ht : varB t.name = false) (hr : o.root s t = 0) (hx : s.args[k]? = some x) (hy : t.args[k]? = some y) (hj : ∀ j, j < k → s.args[j]? = t.args[j]?) (hg : Gt o x y) :
    Gt o s t ↔ ∀ z ∈ t.args.drop (k + 1), Gt o s z := by
  constructor
  · intro h z hz
    exact h.args ht z (List.mem_of_mem_drop hz)
  · intro h
    refine .lex k hs ht hr hj hx hy (fun z hz => ?_) hg
    rcases mem_take_or_drop hy hz with h1 | h1 | h1
    · exact .eq hs (take_agree hj h1)
    · subst h1; exact .sub hs (mem_of_at hx) hg
    · exact h z h1
theorem gt_below_iff {o : Od} {s t x y : Tm} {k : Nat} (hs : varB s.name = false) (ht : varB t.name = false) (hr : o.root s t = 0) (hx : s.args[k]? = some x) (hy : t.args[k]? = some y) (hne : x ≠ y) (hj : ∀ j, j < k → s.args[j]? = t.args[j]?) (hg : ¬ Gt o x y) :
    Gt o s t ↔ ∃ z ∈ s.args.drop (k + 1), z = t ∨ Gt o z t := by
  have noge : ∀ z ∈ s.args, (z = t ∨ Gt o z t) → z ∈ s.args.drop (k + 1) := by
    intro z hz hzt
    rcases mem_take_or_drop hx hz with h1 | h1 | h1
    · have hzt2 : z ∈ t.args := take_agree (fun j hj2 => (hj j hj2).symm) h1
      have h2 : Gt o t z := .eq ht hzt2
      rcases hzt with e | h3
      · rw [e] at h2; exact absurd h2 Gt.irr
      · exact absurd (h3.trans h2) Gt.irr
    · subst h1
      have h2 : Gt o t y := .eq ht (mem_of_at hy)
      rcases hzt with e | h3
      · rw [← e] at h2; exact absurd h2 hg
      · exact absurd (h3.trans h2) hg
    · exact h1
  constructor
  · intro h
    cases h with
    | eq _ h => exact ⟨t, noge t h (.inl rfl), .inl rfl⟩
    | sub _ h h' => exact ⟨_, noge _ h (.inr h'), .inr h'⟩
    | prec _ _ hr' => omega
    | lex k' _ _ hr' hj' hx' hy' ha hxy => exact absurd (gt_lex_at hx hy hne hj hx' hy' hj' hxy) hg
  · rintro ⟨z, hz, rfl | h⟩
    · exact .eq hs (List.mem_of_mem_drop hz)
    · exact .sub hs (List.mem_of_mem_drop hz) h
theorem mem_ndsL {s x : Tm} : ∀ {a : List Tm}, x ∈ a → s ∈ x.nds → s ∈ Tm.ndsL a
  | y :: r, h, hs => by
    rw [Tm.ndsL, List.mem_append]
    rcases List.mem_cons.1 h with rfl | h
    · exact .inl hs
    · exact .inr (mem_ndsL h hs)
theorem gt_leaf_mp {o : Od} {s t : Tm} (h : Gt o s t) : varB t.name = true → ∃ r ∈ s.nds, r.name = t.name := by
  induction h with
  | @eq s t hs h =>
    intro _
    refine ⟨t, ?_, rfl⟩
    rw [s.nds_eq]
    exact List.mem_cons_of_mem _ (mem_ndsL h (by rw [t.nds_eq]; exact List.mem_cons_self))
  | @sub s t x hs h h' ih2 =>
    intro ht
    obtain ⟨r, hr, e⟩ := ih2 ht
    refine ⟨r, ?_, e⟩
    rw [s.nds_eq]
    exact List.mem_cons_of_mem _ (mem_ndsL h hr)
  | prec _ ht' => intro ht; rw [ht'] at ht; cases ht
  | lex _ _ ht' => intro ht; rw [ht'] at ht; cases ht
/-- A variable: greater is what contains it. -/
theorem gt_leaf : ∀ (s : Tm), (∀ r ∈ s.nds, varB r.name = true → r.args = []) → ∀ (o : Od) (t : Tm), varB s.name = false → varB t.name = true → t.args = [] → (Gt o s t ↔ ∃ r ∈ s.nds, r.name = t.name) := Tm.ind fun s ih hl o t hs ht hta => by
  constructor
  · intro h
    exact gt_leaf_mp h ht
  · rintro ⟨r, hr, e⟩
    have hr' := hr
    rw [s.nds_eq] at hr
    rcases List.mem_cons.1 hr with rfl | hr
    · rw [← e, hs] at ht; cases ht
    · obtain ⟨x, hx, hrx⟩ := ndsL_mem hr
      have hlx : ∀ r ∈ x.nds, varB r.name = true → r.args = [] := fun q hq => hl q (by rw [s.nds_eq]; exact List.mem_cons_of_mem _ (mem_ndsL hx hq))
      cases hvx : varB x.name with
      | true =>
        have hxa := hlx x (by rw [x.nds_eq]; exact List.mem_cons_self) hvx
        rw [x.nds_eq, hxa] at hrx
        have e2 : r = x := by simpa [Tm.ndsL] using hrx
        subst e2
        have e3 : r = t := by
          cases r with
          | node n l => cases t with
            | node m q =>
              simp only [Tm.args, Tm.name] at *
              rw [hxa, hta, e]
        rw [e3] at hx
        exact .eq hs hx
      | false => exact .sub hs hx ((ih x hx hlx o t hvx ht hta).2 ⟨r, hrx, e⟩)

open Classical in
/-- Whether s is greater than t. -/
noncomputable def lpo (o : Od) (s t : Tm) : Bool := decide (Gt o s t)
open Classical in
theorem lpo_yes {o : Od} {s t : Tm} (h : Gt o s t) : lpo o s t = true := by unfold lpo; exact decide_eq_true h
open Classical in
theorem lpo_no {o : Od} {s t : Tm} (h : ¬ Gt o s t) : lpo o s t = false := by unfold lpo; exact decide_eq_false h
open Classical in
theorem lpo_iff {o : Od} {s t : Tm} : lpo o s t = true ↔ Gt o s t := by unfold lpo; exact decide_eq_true_iff
theorem lpo_not {o : Od} {s t : Tm} (h : lpo o s t = false) : ¬ Gt o s t := fun hg => by rw [lpo_yes hg] at h; cases h
noncomputable def Od.lpoC (o : Od) (s t : Tm) : Int := codeR (eqT s t) (lpo o s t) (lpo o t s)
noncomputable def Od.lpoR (o : Od) (s t : Tm) : Int := if o.ok2 s t then o.lpoC s t else 0

end Go.Proofs.Ytmlenhjhkpgcnaa

/- The lexicographic path ordering, the model's: contracts, for orderings and terms of at most 1048576 names' bytes and elements. -/
namespace Go.Proofs.Ytmlenhjhkpgcnaa
open Go.RowKit
set_option linter.unusedVariables false

theorem eqT_true {a b : Tm} (h : eqT a b = true) : a = b := by unfold eqT at h; exact of_decide_eq_true h
theorem eqT_false {a b : Tm} (h : eqT a b = false) : a ≠ b := by unfold eqT at h; exact of_decide_eq_false h


theorem takeNo {P : Program} {md : Region.Mode} {ops : Array Oper} {Q : Exit → Act → World → Prop} {S : World → Prop} (i : Nat) {oi : Oper} {fuel : Nat} {listed : Array Bool} {a : Act} {w : World} (hi : ops[i]? = some oi)
    (hs : Region.noSelect ops = true) (hf : Region.free md ops listed i = true) (hr : (Region.ready md ops listed).contains i = true) (hw : Region.wanted oi (yielded ops a.tmps) = false)
    (hQ : ∀ c a w, Q (.panic c) (a.put oi.dst undef) w → Q (.panic c) a w) (hS : S w)
    (h : wpAnyH P md ops Q S fuel (listed.setIfInBounds i true) (a.put oi.dst undef) w) : wpAnyH P md ops Q S (fuel + 1) listed a w :=
  wpAnyH_take (i := i) hi hs hf hr hQ (Or.inr ⟨hw, rfl⟩) hS h
theorem takeYes {P : Program} {md : Region.Mode} {ops : Array Oper} {Q : Exit → Act → World → Prop} {S : World → Prop} (i : Nat) {oi : Oper} {v : Value} {fuel : Nat} {listed : Array Bool} {a : Act} {w : World} (hi : ops[i]? = some oi)
    (hs : Region.noSelect ops = true) (hf : Region.free md ops listed i = true) (hr : (Region.ready md ops listed).contains i = true) (hw : Region.wanted oi (yielded ops a.tmps) = true)
    (hQ : ∀ c a w, Q (.panic c) (a.put oi.dst v) w → Q (.panic c) a w) (hS : S w) (hy : ∀ w, S w → (execOp a.eval oi).run P w = .ok (.value v) w)
    (h : wpAnyH P md ops Q S fuel (listed.setIfInBounds i true) (a.put oi.dst v) w) : wpAnyH P md ops Q S (fuel + 1) listed a w :=
  wpAnyH_take (i := i) hi hs hf hr hQ (Or.inl ⟨hw, hy⟩) hS h

end Go.Proofs.Ytmlenhjhkpgcnaa

/- CompareKBO and CompareLPO, the model's: contracts, for orderings and terms of at most 1048576 names' bytes and elements. -/
namespace Go.Proofs.Ytmlenhjhkpgcnaa
open Go.RowKit
set_option linter.unusedVariables false

theorem ok_of {o : Od} {t : Tm} (hw : t.wt ≤ 1048576) (h : (goodB t && o.cov t) = true) : o.Ok t := by
  rw [Bool.and_eq_true] at h
  refine ⟨hw, ?_, h.2⟩
  have e := h.1
  unfold goodB fitsB at e
  simp only [Bool.and_eq_true, decide_eq_true_eq] at e
  exact e.1.1

set_option maxHeartbeats 4000000 in
theorem specKBO_any (o : Od) (ho : o.wt ≤ 1048576) (s t : Tm) (w : World) (sv wv va vb : Value) (hv : OdV w sv wv o) (hs : TmS w va s.args) (ht : TmS w vb t.args) (hws : s.wt ≤ 1048576) (hwt : t.wt ≤ 1048576) :
    Calls Try.prog 45 #[.agg #[sv, wv, .int .i64 o.va], .agg #[.string s.name, va], .agg #[.string t.name, vb]] w (Ans (.tuple #[.int .i64 (o.kboR s t), .bool (o.ok2 s t)]) w) := by
  obtain ⟨sa, sc, wa, wc, rfl, rfl⟩ := hv.open
  obtain ⟨pa, ca, rfl⟩ := hs.is_slice
  obtain ⟨pb, cb, rfl⟩ := ht.is_slice
  obtain ⟨w1, hw1⟩ : ∃ w1, ((w.alloc (.cells #[.slice sa o.sy.length sc, .slice wa o.ws.length wc, .int .i64 o.va] 73)).alloc (.cells #[.string s.name, .slice pa s.args.length ca] 31)).alloc (.cells #[.string t.name, .slice pb t.args.length cb] 31) = w1 := ⟨_, rfl⟩
  have HB : Hid (Below w.heap.size w w1) := Lib.hid (by rw [← hw1]; exact (((Below.refl w.heap.size w).alloc (Nat.le_refl _) _).alloc (by simp) _).alloc (by simp; omega) _)
  have H3 : Hid (OdB w1 w.heap.size (.slice sa o.sy.length sc) (.slice wa o.ws.length wc) o) := Lib.hid (by rw [← hw1]; exact ((thr_new w _ _ _ _ _ rfl).alloc _).alloc _)
  have HS : Hid (Two w1 (w.heap.size + 1) (.string s.name) (.slice pa s.args.length ca)) := Lib.hid (by rw [← hw1]; exact (two_new _ _ _ 31 (w.heap.size + 1) (by simp)).alloc _)
  have HT : Hid (Two w1 (w.heap.size + 1 + 1) (.string t.name) (.slice pb t.args.length cb)) := Lib.hid (by rw [← hw1]; exact two_new _ _ _ 31 (w.heap.size + 1 + 1) (by simp))
  have HV := Lib.hid hv
  have HVS := Lib.hid hs
  have HVT := Lib.hid ht
  have CG := Lib.hid (fun W (hW : Below w.heap.size w W) => l6Good_any o W _ _ (hv.kept hW) ho)
  have CT1 := Lib.hid (fun W (hW : Below w.heap.size w W) => l6Term_any o ho s W _ _ _ (hv.kept hW) (hs.kept hW) hws)
  have CT2 := Lib.hid (fun W (hW : Below w.heap.size w W) => l6Term_any o ho t W _ _ _ (hv.kept hW) (ht.kept hW) hwt)
  have HO : Hid (o.ok2 s t = (o.good && ((goodB s && o.cov s) && (goodB t && o.cov t)))) := Lib.hid rfl
  have HR : Hid (o.kboR s t = if o.ok2 s t then o.kboC s t else 0) := Lib.hid rfl
  clear hv hs ht
  obtain ⟨b0, b1, b2, b3⟩ := H3.out
  obtain ⟨s0, s1, s2⟩ := HS.out
  obtain ⟨t0, t1, t2⟩ := HT.out
  go_enter Try.func45, Try.ntmps45
  go_wp2_with fail
  refine (CG.out _ HB.out).mono ?_
  rintro e w2 ⟨rfl, hb⟩
  replace HB := Lib.hid (carry_below HB.out (Nat.le_refl _) hb)
  replace H3 := Lib.hid (H3.out.kept hb)
  replace HS := Lib.hid (HS.out.kept hb)
  replace HT := Lib.hid (HT.out.kept hb)
  clear hb b0 b1 b2 b3 s0 s1 s2 t0 t1 t2 hw1 CG
  obtain ⟨b0, b1, b2, b3⟩ := H3.out
  obtain ⟨s0, s1, s2⟩ := HS.out
  obtain ⟨t0, t1, t2⟩ := HT.out
  cases hg : o.good with
  | false =>
    have HO2 : Hid (o.ok2 s t = false) := Lib.hid (by rw [HO.out, hg]; rfl)
    have HR2 : Hid (o.kboR s t = 0) := Lib.hid (by rw [HR.out, HO2.out]; rfl)
    clear hg
    go_wp2
    go_ret2
    exact ⟨ret_pair HR2.out.symm HO2.out.symm, HB.out⟩
  | true =>
    have HGD := Lib.hid hg
    clear hg
    go_wp2_with fail
    refine (CT1.out _ HB.out).mono ?_
    rintro e w3 ⟨rfl, hb⟩
    replace HB := Lib.hid (carry_below HB.out (Nat.le_refl _) hb)
    replace H3 := Lib.hid (H3.out.kept hb)
    replace HS := Lib.hid (HS.out.kept hb)
    replace HT := Lib.hid (HT.out.kept hb)
    clear hb b0 b1 b2 b3 s0 s1 s2 t0 t1 t2 CT1
    obtain ⟨b0, b1, b2, b3⟩ := H3.out
    obtain ⟨s0, s1, s2⟩ := HS.out
    obtain ⟨t0, t1, t2⟩ := HT.out
    cases h1 : (goodB s && o.cov s) with
    | false =>
      have HO2 : Hid (o.ok2 s t = false) := Lib.hid (by rw [HO.out, h1]; simp)
      have HR2 : Hid (o.kboR s t = 0) := Lib.hid (by rw [HR.out, HO2.out]; rfl)
      clear h1
      go_wp2
      go_ret2
      exact ⟨ret_pair HR2.out.symm HO2.out.symm, HB.out⟩
    | true =>
      have HS1 := Lib.hid h1
      clear h1
      go_wp2_with fail
      refine (CT2.out _ HB.out).mono ?_
      rintro e w4 ⟨rfl, hb⟩
      replace HB := Lib.hid (carry_below HB.out (Nat.le_refl _) hb)
      replace H3 := Lib.hid (H3.out.kept hb)
      replace HS := Lib.hid (HS.out.kept hb)
      replace HT := Lib.hid (HT.out.kept hb)
      clear hb b0 b1 b2 b3 s0 s1 s2 t0 t1 t2 CT2
      obtain ⟨b0, b1, b2, b3⟩ := H3.out
      obtain ⟨s0, s1, s2⟩ := HS.out
      obtain ⟨t0, t1, t2⟩ := HT.out
      cases h2 : (goodB t && o.cov t) with
      | false =>
        have HO2 : Hid (o.ok2 s t = false) := Lib.hid (by rw [HO.out, h2]; simp)
        have HR2 : Hid (o.kboR s t = 0) := Lib.hid (by rw [HR.out, HO2.out]; rfl)
        clear h2
        go_wp2
        go_ret2
        exact ⟨ret_pair HR2.out.symm HO2.out.symm, HB.out⟩
      | true =>
        have HO2 : Hid (o.ok2 s t = true) := Lib.hid (by rw [HO.out, HGD.out, HS1.out, h2]; rfl)
        have HR2 : Hid (o.kboR s t = codeR (eqT s t) (kbo o s t) (kbo o t s)) := Lib.hid (by rw [HR.out, HO2.out]; rfl)
        have HOS := Lib.hid (ok_of hws HS1.out)
        have HOT := Lib.hid (ok_of hwt h2)
        have CS := Lib.hid (fun W (hW : Below w4.heap.size w4 W) => l2Same_any s t W _ _ (HVS.out.kept (carry_below HB.out (Nat.le_refl _) hW)) (HVT.out.kept (carry_below HB.out (Nat.le_refl _) hW)) hws hwt)
        have CK : Hid (∀ (x y : Tm) (vx vy : Value) (W : World), Below w4.heap.size w4 W → ((x = s ∧ vx = .slice pa s.args.length ca ∧ y = t ∧ vy = .slice pb t.args.length cb) ∨ (x = t ∧ vx = .slice pb t.args.length cb ∧ y = s ∧ vy = .slice pa s.args.length ca)) →
            Calls Try.prog 90 #[.agg #[.slice sa o.sy.length sc, .slice wa o.ws.length wc, .int .i64 o.va], .agg #[.string x.name, vx], .agg #[.string y.name, vy]] W (Ans (.bool (kbo o x y)) W)) := Lib.hid (fun x y vx vy W hW h => by
          rcases h with ⟨rfl, rfl, rfl, rfl⟩ | ⟨rfl, rfl, rfl, rfl⟩
          · exact l6KBO_any o ho (Od.good_fine HGD.out) x y W _ _ _ _ (HV.out.kept (carry_below HB.out (Nat.le_refl _) hW)) (HVS.out.kept (carry_below HB.out (Nat.le_refl _) hW)) (HVT.out.kept (carry_below HB.out (Nat.le_refl _) hW)) HOS.out HOT.out
          · exact l6KBO_any o ho (Od.good_fine HGD.out) x y W _ _ _ _ (HV.out.kept (carry_below HB.out (Nat.le_refl _) hW)) (HVT.out.kept (carry_below HB.out (Nat.le_refl _) hW)) (HVS.out.kept (carry_below HB.out (Nat.le_refl _) hW)) HOT.out HOS.out)
        clear h2
        go_wp2_with fail
        have hB0 : Below w4.heap.size w4 w4.drew := (Below.refl _ _).drew
        go_region_held3 (fun w' => w'.cell? ⟨w.heap.size, 0, none⟩ = some (.slice sa o.sy.length sc) ∧ w'.cell? ⟨w.heap.size, 1, none⟩ = some (.slice wa o.ws.length wc) ∧ w'.cell? ⟨w.heap.size, 2, none⟩ = some (.int .i64 o.va) ∧ w'.cell? ⟨w.heap.size + 1, 0, none⟩ = some (.string s.name) ∧ w'.cell? ⟨w.heap.size + 1, 1, none⟩ = some (.slice pa s.args.length ca) ∧ w'.cell? ⟨w.heap.size + 1 + 1, 0, none⟩ = some (.string t.name) ∧ w'.cell? ⟨w.heap.size + 1 + 1, 1, none⟩ = some (.slice pb t.args.length cb) ∧ Below w4.heap.size w4 w') (first | exact ⟨by assumption, by assumption, by assumption, by assumption, by assumption, by assumption, by assumption, by assumption⟩ | go_keep) (first | (go_at_call 89; refine (CS.out _ (by assumption)).mono ?_; rintro e wn ⟨rfl, hb⟩; have q0 : wn.cell? ⟨w.heap.size, 0, none⟩ = some (.slice sa o.sy.length sc) := carry_cell' hb (by assumption); have q1 : wn.cell? ⟨w.heap.size, 1, none⟩ = some (.slice wa o.ws.length wc) := carry_cell' hb (by assumption); have q2 : wn.cell? ⟨w.heap.size, 2, none⟩ = some (.int .i64 o.va) := carry_cell' hb (by assumption); have q3 : wn.cell? ⟨w.heap.size + 1, 0, none⟩ = some (.string s.name) := carry_cell' hb (by assumption); have q4 : wn.cell? ⟨w.heap.size + 1, 1, none⟩ = some (.slice pa s.args.length ca) := carry_cell' hb (by assumption); have q5 : wn.cell? ⟨w.heap.size + 1 + 1, 0, none⟩ = some (.string t.name) := carry_cell' hb (by assumption); have q6 : wn.cell? ⟨w.heap.size + 1 + 1, 1, none⟩ = some (.slice pb t.args.length cb) := carry_cell' hb (by assumption); have hwn : Below w4.heap.size w4 wn := carry_below (by assumption) (Nat.le_refl _) hb; clear hb) | (go_at_call 90; refine (CK.out _ _ _ _ _ (by assumption) (by first | exact .inl ⟨rfl, rfl, rfl, rfl⟩ | exact .inr ⟨rfl, rfl, rfl, rfl⟩)).mono ?_; rintro e wm ⟨rfl, hb⟩; have q0 : wm.cell? ⟨w.heap.size, 0, none⟩ = some (.slice sa o.sy.length sc) := carry_cell' hb (by assumption); have q1 : wm.cell? ⟨w.heap.size, 1, none⟩ = some (.slice wa o.ws.length wc) := carry_cell' hb (by assumption); have q2 : wm.cell? ⟨w.heap.size, 2, none⟩ = some (.int .i64 o.va) := carry_cell' hb (by assumption); have q3 : wm.cell? ⟨w.heap.size + 1, 0, none⟩ = some (.string s.name) := carry_cell' hb (by assumption); have q4 : wm.cell? ⟨w.heap.size + 1, 1, none⟩ = some (.slice pa s.args.length ca) := carry_cell' hb (by assumption); have q5 : wm.cell? ⟨w.heap.size + 1 + 1, 0, none⟩ = some (.string t.name) := carry_cell' hb (by assumption); have q6 : wm.cell? ⟨w.heap.size + 1 + 1, 1, none⟩ = some (.slice pb t.args.length cb) := carry_cell' hb (by assumption); have hwm : Below w4.heap.size w4 wm := carry_below (by assumption) (Nat.le_refl _) hb; clear hb) | (go_at_call 88; refine (l6Code_any _ _ _ _).mono ?_; rintro e wk ⟨rfl, rfl⟩))
        have HBF := Lib.hid (carry_below HB.out (Nat.le_refl _) hwm)
        clear hwm
        go_wp2
        go_ret2
        exact ⟨ret_pair HR2.out.symm HO2.out.symm, HBF.out⟩

end Go.Proofs.Ytmlenhjhkpgcnaa
