/- Equality of terms, the model's and the program's: contracts, for terms of at most 1048576 names' bytes and arguments. -/
import Derived.Test.YtmlenhjhkpgcnaaEq
import Derived.Test.YtmlenhjhkpgcnaaOrd
namespace Go.Proofs.Ytmlenhjhkpgcnaa
open Go.RowKit
set_option linter.unusedVariables false

theorem eqT_lenNe {a b : Tm} (h : a.args.length ≠ b.args.length) : eqT a b = false := by
  rw [eqT_node, eqTs_len h]; simp
theorem eqT_argsNo {a b : Tm} {k : Nat} {x y : Tm} (hx : a.args[k]? = some x) (hy : b.args[k]? = some y) (e : eqT x y = false) : eqT a b = false := by
  rw [eqT_node, eqTs_no hx hy e]; simp
theorem eqT_all {a b : Tm} (hn : a.name = b.name) (h : Agree a.args b.args a.args.length) (hl : a.args.length = b.args.length) : eqT a b = true := by
  rw [eqT_args hn]; exact h.all hl

def SameT (a : Tm) : Prop := ∀ (b : Tm) (w : World) (va vb : Value), TmS w va a.args → TmS w vb b.args → a.wt ≤ 1048576 → b.wt ≤ 1048576 →
  Calls Try.prog 89 #[.agg #[.string a.name, va], .agg #[.string b.name, vb]] w (Ans (.bool (eqT a b)) w)

set_option maxHeartbeats 2000000 in
theorem same_of (a : Tm) (h : ∀ s ∈ a.args, SameT s) : SameT a := by
  intro b w va vb hva hvb hwa hwb
  have H := Lib.hid h
  have HWA := Lib.hid (fun (s : Tm) (hs : s ∈ a.args) => Nat.le_trans (Tm.wt_arg hs) hwa)
  have HWB := Lib.hid (fun (s : Tm) (hs : s ∈ b.args) => Nat.le_trans (Tm.wt_arg hs) hwb)
  have hla := Tm.wt_len a
  have hlb := Tm.wt_len b
  obtain ⟨pa, ca, rfl⟩ := hva.is_slice
  obtain ⟨pb, cb, rfl⟩ := hvb.is_slice
  have HVA := Lib.hid hva
  have HVB := Lib.hid hvb
  have H2A := Lib.hid ((two_new w (.string a.name) (.slice pa a.args.length ca) 31 _ rfl).alloc (.cells #[.string b.name, .slice pb b.args.length cb] 31))
  have H2B := Lib.hid (two_new (w.alloc (.cells #[.string a.name, .slice pa a.args.length ca] 31)) (.string b.name) (.slice pb b.args.length cb) 31 (w.heap.size + 1) (by simp))
  have HB := Lib.hid (((Below.refl w.heap.size w).alloc (Nat.le_refl _) (.cells #[.string a.name, .slice pa a.args.length ca] 31)).alloc (by simp) (.cells #[.string b.name, .slice pb b.args.length cb] 31))
  clear h hva hvb
  by_cases hn : a.name = b.name
  · have hq := str_eq hn
    have hq2 : (a.name.toList != b.name.toList) = false := by rw [bne, hq]; rfl
    by_cases hl : a.args.length = b.args.length
    · have HN := Lib.hid hn
      have HL := Lib.hid hl
      have hl2 : ((a.args.length : Int) != (b.args.length : Int)) = false := by rw [hl]; simp
      clear hn hl
      obtain ⟨a0, a1, a2⟩ := H2A.out
      obtain ⟨b0, b1, b2⟩ := H2B.out
      go_enter Try.func89, Try.ntmps89
      go_wp2
      go_loopw [5] (fun i wr => ∃ k : Nat, k ≤ a.args.length ∧ i = .int .i64 k ∧ Agree a.args b.args k ∧ Two wr w.heap.size (.string a.name) (.slice pa a.args.length ca) ∧ Two wr (w.heap.size + 1) (.string b.name) (.slice pb b.args.length cb) ∧ Below w.heap.size w wr) (fun i _ => a.args.length - (intOf i).toNat)
      case atStart => exact ⟨0, Nat.zero_le _, rfl, fun j hj => absurd hj (Nat.not_lt_zero _), H2A.out, H2B.out, HB.out⟩
      case round =>
        obtain ⟨k, hk, rfl, hag, h2a, h2b, hbel⟩ := hrel
        have HG := Lib.hid hag
        have HBE := Lib.hid hbel
        have HA2 := Lib.hid h2a
        have HB2 := Lib.hid h2b
        clear hag hbel a0 a1 a2 b0 b1 b2 h2a h2b
        obtain ⟨a0, a1, a2⟩ := HA2.out
        obtain ⟨b0, b1, b2⟩ := HB2.out
        by_cases hlt : k < a.args.length
        · have hltb : k < b.args.length := by have := HL.out; omega
          obtain ⟨x, hx⟩ : ∃ s, a.args[k]? = some s := ⟨_, List.getElem?_eq_getElem hlt⟩
          obtain ⟨y, hy⟩ : ∃ s, b.args[k]? = some s := ⟨_, List.getElem?_eq_getElem hltb⟩
          obtain ⟨g1, o1, rfl, v1, x0, x1, x2⟩ := HVA.out.get hx
          obtain ⟨g2, o2, rfl, v2, y0, y1, y2⟩ := HVB.out.get hy
          have x0' := carry_cell x0 HBE.out
          have x1' := carry_cell x1 HBE.out
          have y0' := carry_cell y0 HBE.out
          have y1' := carry_cell y1 HBE.out
          have X2 := Lib.hid (x2.kept HBE.out)
          have Y2 := Lib.hid (y2.kept HBE.out)
          have HXX := Lib.hid hx
          have HYY := Lib.hid hy
          clear hx hy x0 x1 y0 y1 x2 y2
          have C0 : Hid (∀ W : World, Below wr.heap.size wr W → Calls Try.prog 89 #[.agg #[.string x.name, v1], .agg #[.string y.name, v2]] W (Ans (.bool (eqT x y)) W)) := Lib.hid (fun W hW => H.out x (mem_of_at HXX.out) y W _ _ (X2.out.kept hW) (Y2.out.kept hW) (HWA.out x (mem_of_at HXX.out)) (HWB.out y (mem_of_at HYY.out)))
          have hB0 : Below wr.heap.size wr wr.drew := (Below.refl _ _).drew
          go_wp2_with fail
          go_region_held3 (fun w' => w'.cell? ⟨w.heap.size, 1, none⟩ = some (.slice (some ⟨g1, o1, none⟩) a.args.length ca) ∧ w'.cell? ⟨w.heap.size + 1, 1, none⟩ = some (.slice (some ⟨g2, o2, none⟩) b.args.length cb) ∧ w'.cell? ⟨g1, o1 + k * 2, none⟩ = some (.string x.name) ∧ w'.cell? ⟨g1, o1 + k * 2 + 1, none⟩ = some v1 ∧ w'.cell? ⟨g2, o2 + k * 2, none⟩ = some (.string y.name) ∧ w'.cell? ⟨g2, o2 + k * 2 + 1, none⟩ = some v2 ∧ Below wr.heap.size wr w') (first | exact ⟨by assumption, by assumption, by assumption, by assumption, by assumption, by assumption, by assumption⟩ | go_keep) (first | (go_at_call 89; refine (C0.out _ (by assumption)).mono ?_; rintro e w' ⟨rfl, hb⟩; have hc1' := carry_cell' hb a1; have hc2' := carry_cell' hb b1; have hc3' := carry_cell' hb x0'; have hc4' := carry_cell' hb x1'; have hc5' := carry_cell' hb y0'; have hc6' := carry_cell' hb y1'; have hB' := carry_below (by assumption) (Nat.le_refl _) hb))
          have hB2 : Below wr.heap.size wr w' := by assumption
          have HBX := Lib.hid (carry_below HBE.out (Nat.le_refl _) hB2)
          have HA3 := Lib.hid (HA2.out.kept hB2)
          have HB3 := Lib.hid (HB2.out.kept hB2)
          clear hB2
          cases hE : eqT x y
          · have HF := Lib.hid (eqT_argsNo HXX.out HYY.out hE)
            clear hE
            go_wp2
            go_ret
            exact ⟨ret_bool HF.out.symm, HBX.out⟩
          · have HF := Lib.hid (HG.out.next HXX.out HYY.out hE)
            clear hE
            go_wp2
            go_roundw
            case rel => exact ⟨k + 1, by omega, by go_num, HF.out, HA3.out, HB3.out, HBX.out⟩
            case measure => simp [intOf]; omega
        · have hke : k = a.args.length := by omega
          subst hke
          have HF := Lib.hid (eqT_all HN.out HG.out HL.out)
          go_wp2
          go_ret
          exact ⟨ret_bool HF.out.symm, HBE.out⟩
    · have HF := Lib.hid (eqT_lenNe hl)
      have hl2 : ((a.args.length : Int) != (b.args.length : Int)) = true := by simp; omega
      have hl3 : ((a.args.length : Int) == (b.args.length : Int)) = false := by simp; omega
      clear hn hl
      obtain ⟨a0, a1, a2⟩ := H2A.out
      obtain ⟨b0, b1, b2⟩ := H2B.out
      go_enter Try.func89, Try.ntmps89
      go_wp2
      go_ret
      exact ⟨ret_bool HF.out.symm, HB.out⟩
  · have HF := Lib.hid (eqT_ne hn)
    have hq := str_ne hn
    have hq2 : (a.name.toList != b.name.toList) = true := by rw [bne, hq]; rfl
    clear hn
    obtain ⟨a0, a1, a2⟩ := H2A.out
    obtain ⟨b0, b1, b2⟩ := H2B.out
    go_enter Try.func89, Try.ntmps89
    go_wp2
    go_ret
    exact ⟨ret_bool HF.out.symm, HB.out⟩

theorem l2Same_any (a : Tm) : SameT a := Tm.ind (P := SameT) same_of a

end Go.Proofs.Ytmlenhjhkpgcnaa
