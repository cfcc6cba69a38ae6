/- Several texts in one: each says what it proves. No condition but theirs. -/
import Derived.Test.YtohalpafmcobpaaGreatEq
import Derived.Test.YtohalpafmcobpaaGreatOrd
import Derived.Test.YtohalpafmcobpaaGreatOgG
import Derived.Test.YtohalpafmcobpaaGreatVarG
/- Equality of terms, the model's and the program's: contracts, for terms of at most 1048576 names' bytes and arguments. -/
namespace Go.Proofs.YtohalpafmcobpaaGreat
open Go.RowKit
set_option linter.unusedVariables false

theorem eqT_lenNe {a b : Tm} (h : a.args.length ≠ b.args.length) : eqT a b = false := by
  rw [eqT_node, eqTs_len h]; simp
theorem eqT_argsNo {a b : Tm} {k : Nat} {x y : Tm} (hx : a.args[k]? = some x) (hy : b.args[k]? = some y) (e : eqT x y = false) : eqT a b = false := by
  rw [eqT_node, eqTs_no hx hy e]; simp
theorem eqT_all {a b : Tm} (hn : a.name = b.name) (h : Agree a.args b.args a.args.length) (hl : a.args.length = b.args.length) : eqT a b = true := by
  rw [eqT_args hn]; exact h.all hl

def SameT (a : Tm) : Prop := ∀ (b : Tm) (w : World) (va vb : Value), TmS w va a.args → TmS w vb b.args → a.wt ≤ 1048576 → b.wt ≤ 1048576 →
  Calls Tryz.prog 115 #[.agg #[.string a.name, va], .agg #[.string b.name, vb]] w (Ans (.bool (eqT a b)) w)

set_option maxHeartbeats 2000000 in
theorem same_of (a : Tm) (h : ∀ s ∈ a.args, SameT s) : SameT a := by
  intro b w va vb hva hvb hwa hwb
  have H := Lib.hid h
  have HWA := Lib.hid (fun (s : Tm) (hs : s ∈ a.args) => Nat.le_trans (Tm.wt_arg hs) hwa)
  have HWB := Lib.hid (fun (s : Tm) (hs : s ∈ b.args) => Nat.le_trans (Tm.wt_arg hs) hwb)
  have hla := Tm.wt_len a
  have hlb := Tm.wt_len b
  obtain ⟨pa, ca, rfl⟩ := hva.is_slice
  obtain ⟨pb, cb, rfl⟩ := hvb.is_slice
  have HVA := Lib.hid hva
  have HVB := Lib.hid hvb
  have H2A := Lib.hid ((two_new w (.string a.name) (.slice pa a.args.length ca) 39 _ rfl).alloc (.cells #[.string b.name, .slice pb b.args.length cb] 39))
  have H2B := Lib.hid (two_new (w.alloc (.cells #[.string a.name, .slice pa a.args.length ca] 39)) (.string b.name) (.slice pb b.args.length cb) 39 (w.heap.size + 1) (by simp))
  have HB := Lib.hid (((Below.refl w.heap.size w).alloc (Nat.le_refl _) (.cells #[.string a.name, .slice pa a.args.length ca] 39)).alloc (by simp) (.cells #[.string b.name, .slice pb b.args.length cb] 39))
  clear h hva hvb
  by_cases hn : a.name = b.name
  · have hq := str_eq hn
    have hq2 : (a.name.toList != b.name.toList) = false := by rw [bne, hq]; rfl
    by_cases hl : a.args.length = b.args.length
    · have HN := Lib.hid hn
      have HL := Lib.hid hl
      have hl2 : ((a.args.length : Int) != (b.args.length : Int)) = false := by rw [hl]; simp
      clear hn hl
      obtain ⟨a0, a1, a2⟩ := H2A.out
      obtain ⟨b0, b1, b2⟩ := H2B.out
      go_enter Tryz.func115, Tryz.ntmps115
      go_wp2
      go_loopw [5] (fun i wr => ∃ k : Nat, k ≤ a.args.length ∧ i = .int .i64 k ∧ Agree a.args b.args k ∧ Two wr w.heap.size (.string a.name) (.slice pa a.args.length ca) ∧ Two wr (w.heap.size + 1) (.string b.name) (.slice pb b.args.length cb) ∧ Below w.heap.size w wr) (fun i _ => a.args.length - (intOf i).toNat)
      case atStart => exact ⟨0, Nat.zero_le _, rfl, fun j hj => absurd hj (Nat.not_lt_zero _), H2A.out, H2B.out, HB.out⟩
      case round =>
        obtain ⟨k, hk, rfl, hag, h2a, h2b, hbel⟩ := hrel
        have HG := Lib.hid hag
        have HBE := Lib.hid hbel
        have HA2 := Lib.hid h2a
        have HB2 := Lib.hid h2b
        clear hag hbel a0 a1 a2 b0 b1 b2 h2a h2b
        obtain ⟨a0, a1, a2⟩ := HA2.out
        obtain ⟨b0, b1, b2⟩ := HB2.out
        by_cases hlt : k < a.args.length
        · have hltb : k < b.args.length := by have := HL.out; omega
          obtain ⟨x, hx⟩ : ∃ s, a.args[k]? = some s := ⟨_, List.getElem?_eq_getElem hlt⟩
          obtain ⟨y, hy⟩ : ∃ s, b.args[k]? = some s := ⟨_, List.getElem?_eq_getElem hltb⟩
          obtain ⟨g1, o1, rfl, v1, x0, x1, x2⟩ := HVA.out.get hx
          obtain ⟨g2, o2, rfl, v2, y0, y1, y2⟩ := HVB.out.get hy
          have x0' := carry_cell x0 HBE.out
          have x1' := carry_cell x1 HBE.out
          have y0' := carry_cell y0 HBE.out
          have y1' := carry_cell y1 HBE.out
          have X2 := Lib.hid (x2.kept HBE.out)
          have Y2 := Lib.hid (y2.kept HBE.out)
          have HXX := Lib.hid hx
          have HYY := Lib.hid hy
          clear hx hy x0 x1 y0 y1 x2 y2
          have C0 : Hid (∀ W : World, Below wr.heap.size wr W → Calls Tryz.prog 115 #[.agg #[.string x.name, v1], .agg #[.string y.name, v2]] W (Ans (.bool (eqT x y)) W)) := Lib.hid (fun W hW => H.out x (mem_of_at HXX.out) y W _ _ (X2.out.kept hW) (Y2.out.kept hW) (HWA.out x (mem_of_at HXX.out)) (HWB.out y (mem_of_at HYY.out)))
          have hB0 : Below wr.heap.size wr wr.drew := (Below.refl _ _).drew
          go_wp2_with fail
          go_region_held3 (fun w' => w'.cell? ⟨w.heap.size, 1, none⟩ = some (.slice (some ⟨g1, o1, none⟩) a.args.length ca) ∧ w'.cell? ⟨w.heap.size + 1, 1, none⟩ = some (.slice (some ⟨g2, o2, none⟩) b.args.length cb) ∧ w'.cell? ⟨g1, o1 + k * 2, none⟩ = some (.string x.name) ∧ w'.cell? ⟨g1, o1 + k * 2 + 1, none⟩ = some v1 ∧ w'.cell? ⟨g2, o2 + k * 2, none⟩ = some (.string y.name) ∧ w'.cell? ⟨g2, o2 + k * 2 + 1, none⟩ = some v2 ∧ Below wr.heap.size wr w') (first | exact ⟨by assumption, by assumption, by assumption, by assumption, by assumption, by assumption, by assumption⟩ | go_keep) (first | (go_at_call 115; refine (C0.out _ (by assumption)).mono ?_; rintro e w' ⟨rfl, hb⟩; have hc1' := carry_cell' hb a1; have hc2' := carry_cell' hb b1; have hc3' := carry_cell' hb x0'; have hc4' := carry_cell' hb x1'; have hc5' := carry_cell' hb y0'; have hc6' := carry_cell' hb y1'; have hB' := carry_below (by assumption) (Nat.le_refl _) hb))
          have hB2 : Below wr.heap.size wr w' := by assumption
          have HBX := Lib.hid (carry_below HBE.out (Nat.le_refl _) hB2)
          have HA3 := Lib.hid (HA2.out.kept hB2)
          have HB3 := Lib.hid (HB2.out.kept hB2)
          clear hB2
          cases hE : eqT x y
          · have HF := Lib.hid (eqT_argsNo HXX.out HYY.out hE)
            clear hE
            go_wp2
            go_ret
            exact ⟨ret_bool HF.out.symm, HBX.out⟩
          · have HF := Lib.hid (HG.out.next HXX.out HYY.out hE)
            clear hE
            go_wp2
            go_roundw
            case rel => exact ⟨k + 1, by omega, by go_num, HF.out, HA3.out, HB3.out, HBX.out⟩
            case measure => simp [intOf]; omega
        · have hke : k = a.args.length := by omega
          subst hke
          have HF := Lib.hid (eqT_all HN.out HG.out HL.out)
          go_wp2
          go_ret
          exact ⟨ret_bool HF.out.symm, HBE.out⟩
    · have HF := Lib.hid (eqT_lenNe hl)
      have hl2 : ((a.args.length : Int) != (b.args.length : Int)) = true := by simp; omega
      have hl3 : ((a.args.length : Int) == (b.args.length : Int)) = false := by simp; omega
      clear hn hl
      obtain ⟨a0, a1, a2⟩ := H2A.out
      obtain ⟨b0, b1, b2⟩ := H2B.out
      go_enter Tryz.func115, Tryz.ntmps115
      go_wp2
      go_ret
      exact ⟨ret_bool HF.out.symm, HB.out⟩
  · have HF := Lib.hid (eqT_ne hn)
    have hq := str_ne hn
    have hq2 : (a.name.toList != b.name.toList) = true := by rw [bne, hq]; rfl
    clear hn
    obtain ⟨a0, a1, a2⟩ := H2A.out
    obtain ⟨b0, b1, b2⟩ := H2B.out
    go_enter Tryz.func115, Tryz.ntmps115
    go_wp2
    go_ret
    exact ⟨ret_bool HF.out.symm, HB.out⟩

theorem l2Same_any (a : Tm) : SameT a := Tm.ind (P := SameT) same_of a

end Go.Proofs.YtohalpafmcobpaaGreat

/- Equality of terms, the program's: a contract, for terms of at most 1048576 names' bytes and arguments. -/
namespace Go.Proofs.YtohalpafmcobpaaGreat
open Go.RowKit
set_option linter.unusedVariables false

def TreeT (a : Tm) : Prop := ∀ (b : Tm) (w : World) (va vb : Value), TmS w va a.args → TmS w vb b.args → a.wt ≤ 1048576 → b.wt ≤ 1048576 →
  Calls Tryz.prog 155 #[.agg #[.string a.name, va], .agg #[.string b.name, vb]] w (Ans (.bool (eqT a b)) w)

def TreeF (l : List Tm) : Prop := ∀ (r : List Tm) (w : World) (va vb : Value), TmS w va l → TmS w vb r → l.length ≤ 1048576 → r.length ≤ 1048576 → (∀ s ∈ l, s.wt ≤ 1048576) → (∀ s ∈ r, s.wt ≤ 1048576) →
  Calls Tryz.prog 182 #[va, vb, .func (.func 155) #[] #[]] w (Ans (.bool (eqTs l r)) w)

set_option maxHeartbeats 2000000 in
theorem treeF_of (l : List Tm) (h : ∀ s ∈ l, TreeT s) : TreeF l := by
  intro r w va vb hva hvb hll hlr hwa hwb
  have H := Lib.hid h
  have HWA := Lib.hid hwa
  have HWB := Lib.hid hwb
  obtain ⟨pa, ca, rfl⟩ := hva.is_slice
  obtain ⟨pb, cb, rfl⟩ := hvb.is_slice
  have HVA := Lib.hid hva
  have HVB := Lib.hid hvb
  clear h hva hvb hwa hwb
  by_cases hl : l.length = r.length
  · have HLE := Lib.hid hl
    have hl2 : ((l.length : Int) != (r.length : Int)) = false := by rw [hl]; simp
    clear hl
    go_enter Tryz.func182, Tryz.ntmps182
    go_wp2
    go_loopw [17] (fun i wr => ∃ k : Nat, k ≤ l.length ∧ i = .int .i64 k ∧ Agree l r k ∧ Below w.heap.size w wr) (fun i _ => l.length - (intOf i).toNat)
    case atStart => exact ⟨0, Nat.zero_le _, rfl, fun j hj => absurd hj (Nat.not_lt_zero _), Below.refl _ _⟩
    case round =>
      obtain ⟨k, hk, rfl, hlev, hbel⟩ := hrel
      have HLV := Lib.hid hlev
      have HBE := Lib.hid hbel
      clear hlev hbel
      by_cases hlt : k < l.length
      · have hltb : k < r.length := by have := HLE.out; omega
        obtain ⟨x, hx⟩ : ∃ s, l[k]? = some s := ⟨_, List.getElem?_eq_getElem hlt⟩
        obtain ⟨y, hy⟩ : ∃ s, r[k]? = some s := ⟨_, List.getElem?_eq_getElem hltb⟩
        obtain ⟨b1, o1, rfl, v1, x0, x1, x2⟩ := HVA.out.get hx
        obtain ⟨b2, o2, rfl, v2, y0, y1, y2⟩ := HVB.out.get hy
        have x0' := carry_cell x0 HBE.out
        have x1' := carry_cell x1 HBE.out
        have y0' := carry_cell y0 HBE.out
        have y1' := carry_cell y1 HBE.out
        have X2 := Lib.hid (x2.kept HBE.out)
        have Y2 := Lib.hid (y2.kept HBE.out)
        obtain ⟨p1, c1, rfl⟩ := x2.is_slice
        obtain ⟨p2, c2, rfl⟩ := y2.is_slice
        have y0'' : (wr.alloc (.cells #[.string x.name, .slice p1 x.args.length c1] 39)).cell? ⟨b2, o2 + k * 2, none⟩ = some (.string y.name) := carry_cell' ((Below.refl _ _).alloc (Nat.le_refl _) _) y0'
        have y1'' : (wr.alloc (.cells #[.string x.name, .slice p1 x.args.length c1] 39)).cell? ⟨b2, o2 + k * 2 + 1, none⟩ = some (.slice p2 y.args.length c2) := carry_cell' ((Below.refl _ _).alloc (Nat.le_refl _) _) y1'
        have HXX := Lib.hid hx
        have HYY := Lib.hid hy
        clear hx hy x0 x1 y0 y1 x2 y2
        obtain ⟨q, hq⟩ : ∃ q, q = eqT x y := ⟨_, rfl⟩
        have C0 : Hid (∀ W : World, Below wr.heap.size wr W → Calls Tryz.prog 155 #[.agg #[.string x.name, .slice p1 x.args.length c1], .agg #[.string y.name, .slice p2 y.args.length c2]] W (Ans (.bool q) W)) := Lib.hid (fun W hW => by
          have h := H.out x (mem_of_at HXX.out) y W _ _ (X2.out.kept hW) (Y2.out.kept hW) (HWA.out x (mem_of_at HXX.out)) (HWB.out y (mem_of_at HYY.out))
          rwa [← hq] at h)
        have HQ := Lib.hid hq
        have hdk : decide (r.length ≤ k) = false := by simp; omega
        clear hq
        go_wp2_with fail
        refine (C0.out _ (((Below.refl _ _).alloc (Nat.le_refl _) _).alloc (by simp) _)).mono ?_
        rintro e w6 ⟨rfl, hb⟩
        have HB6 := Lib.hid (carry_below ((HBE.out.alloc HBE.out.size _).alloc (by have := HBE.out.size; simp; omega) _) (Nat.le_refl _) hb)
        clear hb
        cases q with
        | true =>
          have HN := Lib.hid (HLV.out.next HXX.out HYY.out HQ.out.symm)
          go_wp2
          go_roundw
          case rel => exact ⟨k + 1, by omega, by go_num, HN.out, HB6.out⟩
          case measure => simp [intOf]; omega
        | false =>
          have HN := Lib.hid (eqTs_no HXX.out HYY.out HQ.out.symm)
          go_wp2
          go_ret
          exact ⟨ret_bool HN.out.symm, HB6.out⟩
      · have hke : k = l.length := by omega
        subst hke
        have HN := Lib.hid (HLV.out.all HLE.out)
        go_wp2
        go_ret
        exact ⟨ret_bool HN.out.symm, HBE.out⟩
  · have HF := Lib.hid (eqTs_len hl)
    have hl2 : ((l.length : Int) != (r.length : Int)) = true := by simp; omega
    have hl3 : ((l.length : Int) == (r.length : Int)) = false := by simp; omega
    clear hl
    go_enter Tryz.func182, Tryz.ntmps182
    go_wp2
    go_ret
    exact ⟨ret_bool HF.out.symm, Below.refl _ _⟩

set_option maxHeartbeats 2000000 in
theorem tree_of (a : Tm) (h : ∀ s ∈ a.args, TreeT s) : TreeT a := by
  intro b w va vb hva hvb hwa hwb
  have H := Lib.hid (treeF_of a.args h)
  have HWA := Lib.hid (fun (s : Tm) (hs : s ∈ a.args) => Nat.le_trans (Tm.wt_arg hs) hwa)
  have HWB := Lib.hid (fun (s : Tm) (hs : s ∈ b.args) => Nat.le_trans (Tm.wt_arg hs) hwb)
  have hla := Tm.wt_len a
  have hlb := Tm.wt_len b
  obtain ⟨pa, ca, rfl⟩ := hva.is_slice
  obtain ⟨pb, cb, rfl⟩ := hvb.is_slice
  have HVA := Lib.hid hva
  have HVB := Lib.hid hvb
  have H2A := Lib.hid ((two_new w (.string a.name) (.slice pa a.args.length ca) 39 _ rfl).alloc (.cells #[.string b.name, .slice pb b.args.length cb] 39))
  have H2B := Lib.hid (two_new (w.alloc (.cells #[.string a.name, .slice pa a.args.length ca] 39)) (.string b.name) (.slice pb b.args.length cb) 39 (w.heap.size + 1) (by simp))
  have HB := Lib.hid (((Below.refl w.heap.size w).alloc (Nat.le_refl _) (.cells #[.string a.name, .slice pa a.args.length ca] 39)).alloc (by simp) (.cells #[.string b.name, .slice pb b.args.length cb] 39))
  clear h hva hvb
  obtain ⟨a0, a1, a2⟩ := H2A.out
  obtain ⟨b0, b1, b2⟩ := H2B.out
  by_cases hn : a.name = b.name
  · have hq := str_eq hn
    have HN := Lib.hid (eqT_args hn)
    obtain ⟨q, hqq⟩ : ∃ q, q = eqTs a.args b.args := ⟨_, rfl⟩
    have C0 : Hid (∀ W : World, Below w.heap.size w W → Calls Tryz.prog 182 #[.slice pa a.args.length ca, .slice pb b.args.length cb, .func (.func 155) #[] #[]] W (Ans (.bool q) W)) := Lib.hid (fun W hW => by
      have h := H.out b.args W _ _ (HVA.out.kept hW) (HVB.out.kept hW) (by omega) (by omega) HWA.out HWB.out
      rwa [← hqq] at h)
    have HQ := Lib.hid (HN.out.trans hqq.symm)
    clear hn hqq
    go_enter Tryz.func155, Tryz.ntmps155
    go_wp2_with fail
    refine (C0.out _ HB.out).mono ?_
    rintro e w6 ⟨rfl, hb⟩
    have HB6 := Lib.hid (carry_below HB.out (Nat.le_refl _) hb)
    clear hb
    go_wp2
    go_ret
    exact ⟨ret_bool HQ.out.symm, HB6.out⟩
  · have HF := Lib.hid (eqT_ne hn)
    have hq := str_ne hn
    clear hn
    go_enter Tryz.func155, Tryz.ntmps155
    go_wp2
    go_ret
    exact ⟨ret_bool HF.out.symm, HB.out⟩

theorem equalTrees_any (a : Tm) : TreeT a := Tm.ind (P := TreeT) tree_of a

end Go.Proofs.YtohalpafmcobpaaGreat

/- The Knuth-Bendix ordering, plain facts: roots, first differences, occurrences of variables, the ordering. No condition. -/
namespace Go.Proofs.YtohalpafmcobpaaGreat
open Go.RowKit
set_option linter.unusedVariables false

def cmpR (a b : Int) : Int := if a < b then -1 else if a > b then 1 else 0
theorem cmpR_lt {a b : Int} (h : a < b) : cmpR a b = -1 := by unfold cmpR; rw [if_pos h]
theorem cmpR_gt {a b : Int} (h : b < a) : cmpR a b = 1 := by unfold cmpR; rw [if_neg (by omega), if_pos h]
theorem cmpR_eq {a b : Int} (h : a = b) : cmpR a b = 0 := by unfold cmpR; rw [if_neg (by omega), if_neg (by omega)]
theorem cmpR_zero {a b : Int} : cmpR a b = 0 ↔ a = b := by
  unfold cmpR; split
  · exact ⟨fun h => by omega, fun h => by omega⟩
  · split
    · exact ⟨fun h => by omega, fun h => by omega⟩
    · exact ⟨fun h => by omega, fun h => rfl⟩
/-- How two roots compare: by their rank, then by their numbers of arguments. -/
def Od.root (o : Od) (s t : Tm) : Int := if rk o.sy s.name = rk o.sy t.name then cmpR s.args.length t.args.length else cmpR (rk o.sy s.name) (rk o.sy t.name)
theorem Od.root_len {o : Od} {s t : Tm} (h : o.root s t = 0) : s.args.length = t.args.length := by
  unfold Od.root at h
  split at h
  · have := cmpR_zero.1 h; omega
  · rename_i hne; exact absurd (cmpR_zero.1 h) hne

/-- The first place at which two lists differ, or -1. -/
def fd (a b : List Tm) : Int := match (List.range a.length).find? (fun i => !decide (a[i]? = b[i]?)) with
  | some k => (k : Int)
  | none => -1
theorem fd_at {a b : List Tm} {k : Nat} (hk : k < a.length) (h : a[k]? ≠ b[k]?) (hb : ∀ j, j < k → a[j]? = b[j]?) : fd a b = k := by
  have e : (List.range a.length).find? (fun i => !decide (a[i]? = b[i]?)) = some k := by
    rw [List.find?_range_eq_some]
    refine ⟨by simp [h], List.mem_range.2 hk, fun j hj => by simp [hb j hj]⟩
  unfold fd; rw [e]
theorem fd_no {a b : List Tm} (h : ∀ j, j < a.length → a[j]? = b[j]?) : fd a b = -1 := by
  have e : (List.range a.length).find? (fun i => !decide (a[i]? = b[i]?)) = none := by
    rw [List.find?_range_eq_none]
    intro j hj
    simp [h j hj]
  unfold fd; rw [e]
theorem fd_ways (a b : List Tm) : (fd a b = -1 ∧ ∀ j, j < a.length → a[j]? = b[j]?) ∨ ∃ k : Nat, fd a b = k ∧ k < a.length ∧ a[k]? ≠ b[k]? ∧ ∀ j, j < k → a[j]? = b[j]? := by
  by_cases h : ∀ j, j < a.length → a[j]? = b[j]?
  · exact .inl ⟨fd_no h, h⟩
  · right
    unfold fd
    cases e : (List.range a.length).find? (fun i => !decide (a[i]? = b[i]?)) with
    | none =>
      rw [List.find?_range_eq_none] at e
      exact absurd (fun j hj => by simpa using e j hj) h
    | some k =>
      rw [List.find?_range_eq_some] at e
      obtain ⟨e1, e2, e3⟩ := e
      exact ⟨k, rfl, List.mem_range.1 e2, by simpa using e1, fun j hj => by simpa using e3 j hj⟩

/-- Every variable occurs in s at least as often as in t. -/
def bal (s t : Tm) : Bool := (t.into []).all fun n => decide (cnt n t.nds ≤ cnt n s.nds)
theorem bal_no {s t : Tm} {k : Nat} {n : ByteArray} (h : (t.into [])[k]? = some n) (h' : cnt n s.nds < cnt n t.nds) : bal s t = false := by
  unfold bal; rw [List.all_eq_false]; exact ⟨n, List.mem_of_getElem? h, by simp; omega⟩
theorem bal_yes {s t : Tm} (h : ∀ (k : Nat) (n : ByteArray), (t.into [])[k]? = some n → cnt n t.nds ≤ cnt n s.nds) : bal s t = true := by
  unfold bal; rw [List.all_eq_true]
  intro n hn
  obtain ⟨k, hk⟩ := List.getElem?_of_mem hn
  exact decide_eq_true (h k n hk)

mutual
/-- s is greater than t. -/
def kbo (o : Od) : Tm → Tm → Bool
  | .node n l, t =>
    bal (.node n l) t && (if o.wT (.node n l) = o.wT t then !(varB n || varB t.name) && (if o.root (.node n l) t = 0 then kboL o l t.args else decide (0 < o.root (.node n l) t)) else decide (o.wT t < o.wT (.node n l)))
def kboL (o : Od) : List Tm → List Tm → Bool
  | [], _ => false
  | _ :: _, [] => false
  | s :: r, t :: q => if s = t then kboL o r q else kbo o s t
end
theorem kbo_eq (o : Od) (s t : Tm) : kbo o s t = (bal s t && (if o.wT s = o.wT t then !(varB s.name || varB t.name) && (if o.root s t = 0 then kboL o s.args t.args else decide (0 < o.root s t)) else decide (o.wT t < o.wT s))) := by
  cases s with
  | node n l => rw [kbo]; rfl
theorem kboL_at (o : Od) : ∀ (a b : List Tm) (k : Nat) (s t : Tm), a[k]? = some s → b[k]? = some t → s ≠ t → (∀ j, j < k → a[j]? = b[j]?) → kboL o a b = kbo o s t
  | [], b, k, s, t, h, _, _, _ => by cases h
  | x :: r, [], k, s, t, _, h, _, _ => by cases h
  | x :: r, y :: q, 0, s, t, h1, h2, hne, hj => by
    simp at h1 h2
    subst h1 h2
    rw [kboL, if_neg hne]
  | x :: r, y :: q, k + 1, s, t, h1, h2, hne, hj => by
    have e : x = y := by have := hj 0 (by omega); simpa using this
    rw [kboL, if_pos e]
    exact kboL_at o r q k s t (by simpa using h1) (by simpa using h2) hne (fun j hj2 => by have := hj (j + 1) (by omega); simpa using this)
theorem kboL_no (o : Od) : ∀ (a b : List Tm), (∀ j, j < a.length → a[j]? = b[j]?) → kboL o a b = false
  | [], b, _ => by rw [kboL]
  | x :: r, [], h => by have := h 0 (by simp); simp at this
  | x :: r, y :: q, h => by
    have e : x = y := by have := h 0 (by simp); simpa using this
    rw [kboL, if_pos e]
    exact kboL_no o r q (fun j hj => by have := h (j + 1) (by simp; omega); simpa using this)
theorem kbo_bal {o : Od} {s t : Tm} (h : bal s t = false) : kbo o s t = false := by rw [kbo_eq, h]; rfl
theorem kbo_wt {o : Od} {s t : Tm} (h : bal s t = true) (h' : o.wT s ≠ o.wT t) : kbo o s t = decide (o.wT t < o.wT s) := by rw [kbo_eq, h, if_neg h', Bool.true_and]
theorem kbo_var {o : Od} {s t : Tm} (h : bal s t = true) (h' : o.wT s = o.wT t) (hv : varB s.name = true ∨ varB t.name = true) : kbo o s t = false := by
  rw [kbo_eq, h, if_pos h']
  rcases hv with hv | hv <;> rw [hv] <;> simp
theorem kbo_root {o : Od} {s t : Tm} (h : bal s t = true) (h' : o.wT s = o.wT t) (hs : varB s.name = false) (ht : varB t.name = false) (hr : o.root s t ≠ 0) : kbo o s t = decide (0 < o.root s t) := by
  rw [kbo_eq, h, if_pos h', hs, ht, if_neg hr]; rfl
theorem kbo_args {o : Od} {s t : Tm} (h : bal s t = true) (h' : o.wT s = o.wT t) (hs : varB s.name = false) (ht : varB t.name = false) (hr : o.root s t = 0) : kbo o s t = kboL o s.args t.args := by
  rw [kbo_eq, h, if_pos h', hs, ht, if_pos hr]; rfl

/-- The code of a comparison. -/
def codeR (e g l : Bool) : Int := if e then 1 else if g then 2 else if l then 3 else 0
def Od.kboC (o : Od) (s t : Tm) : Int := codeR (eqT s t) (kbo o s t) (kbo o t s)
def Od.ok2 (o : Od) (s t : Tm) : Bool := o.good && ((goodB s && o.cov s) && (goodB t && o.cov t))
def Od.kboR (o : Od) (s t : Tm) : Int := if o.ok2 s t then o.kboC s t else 0

end Go.Proofs.YtohalpafmcobpaaGreat
