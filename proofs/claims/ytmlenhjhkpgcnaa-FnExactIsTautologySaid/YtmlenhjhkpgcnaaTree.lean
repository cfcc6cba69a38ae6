/- Equality of terms, the program's: a contract, for terms of at most 1048576 names' bytes and arguments. -/
import Derived.Test.YtmlenhjhkpgcnaaSame
namespace Go.Proofs.Ytmlenhjhkpgcnaa
open Go.RowKit
set_option linter.unusedVariables false

def TreeT (a : Tm) : Prop := ∀ (b : Tm) (w : World) (va vb : Value), TmS w va a.args → TmS w vb b.args → a.wt ≤ 1048576 → b.wt ≤ 1048576 →
  Calls Try.prog 76 #[.agg #[.string a.name, va], .agg #[.string b.name, vb]] w (Ans (.bool (eqT a b)) w)

def TreeF (l : List Tm) : Prop := ∀ (r : List Tm) (w : World) (va vb : Value), TmS w va l → TmS w vb r → l.length ≤ 1048576 → r.length ≤ 1048576 → (∀ s ∈ l, s.wt ≤ 1048576) → (∀ s ∈ r, s.wt ≤ 1048576) →
  Calls Try.prog 120 #[va, vb, .func (.func 76) #[] #[]] w (Ans (.bool (eqTs l r)) w)

set_option maxHeartbeats 2000000 in
theorem treeF_of (l : List Tm) (h : ∀ s ∈ l, TreeT s) : TreeF l := by
  intro r w va vb hva hvb hll hlr hwa hwb
  have H := Lib.hid h
  have HWA := Lib.hid hwa
  have HWB := Lib.hid hwb
  obtain ⟨pa, ca, rfl⟩ := hva.is_slice
  obtain ⟨pb, cb, rfl⟩ := hvb.is_slice
  have HVA := Lib.hid hva
  have HVB := Lib.hid hvb
  clear h hva hvb hwa hwb
  by_cases hl : l.length = r.length
  · have HLE := Lib.hid hl
    have hl2 : ((l.length : Int) != (r.length : Int)) = false := by rw [hl]; simp
    clear hl
    go_enter Try.func120, Try.ntmps120
    go_wp2
    go_loopw [17] (fun i wr => ∃ k : Nat, k ≤ l.length ∧ i = .int .i64 k ∧ Agree l r k ∧ Below w.heap.size w wr) (fun i _ => l.length - (intOf i).toNat)
    case atStart => exact ⟨0, Nat.zero_le _, rfl, fun j hj => absurd hj (Nat.not_lt_zero _), Below.refl _ _⟩
    case round =>
      obtain ⟨k, hk, rfl, hlev, hbel⟩ := hrel
      have HLV := Lib.hid hlev
      have HBE := Lib.hid hbel
      clear hlev hbel
      by_cases hlt : k < l.length
      · have hltb : k < r.length := by have := HLE.out; omega
        obtain ⟨x, hx⟩ : ∃ s, l[k]? = some s := ⟨_, List.getElem?_eq_getElem hlt⟩
        obtain ⟨y, hy⟩ : ∃ s, r[k]? = some s := ⟨_, List.getElem?_eq_getElem hltb⟩
        obtain ⟨b1, o1, rfl, v1, x0, x1, x2⟩ := HVA.out.get hx
        obtain ⟨b2, o2, rfl, v2, y0, y1, y2⟩ := HVB.out.get hy
        have x0' := carry_cell x0 HBE.out
        have x1' := carry_cell x1 HBE.out
        have y0' := carry_cell y0 HBE.out
        have y1' := carry_cell y1 HBE.out
        have X2 := Lib.hid (x2.kept HBE.out)
        have Y2 := Lib.hid (y2.kept HBE.out)
        obtain ⟨p1, c1, rfl⟩ := x2.is_slice
        obtain ⟨p2, c2, rfl⟩ := y2.is_slice
        have y0'' : (wr.alloc (.cells #[.string x.name, .slice p1 x.args.length c1] 31)).cell? ⟨b2, o2 + k * 2, none⟩ = some (.string y.name) := carry_cell' ((Below.refl _ _).alloc (Nat.le_refl _) _) y0'
        have y1'' : (wr.alloc (.cells #[.string x.name, .slice p1 x.args.length c1] 31)).cell? ⟨b2, o2 + k * 2 + 1, none⟩ = some (.slice p2 y.args.length c2) := carry_cell' ((Below.refl _ _).alloc (Nat.le_refl _) _) y1'
        have HXX := Lib.hid hx
        have HYY := Lib.hid hy
        clear hx hy x0 x1 y0 y1 x2 y2
        obtain ⟨q, hq⟩ : ∃ q, q = eqT x y := ⟨_, rfl⟩
        have C0 : Hid (∀ W : World, Below wr.heap.size wr W → Calls Try.prog 76 #[.agg #[.string x.name, .slice p1 x.args.length c1], .agg #[.string y.name, .slice p2 y.args.length c2]] W (Ans (.bool q) W)) := Lib.hid (fun W hW => by
          have h := H.out x (mem_of_at HXX.out) y W _ _ (X2.out.kept hW) (Y2.out.kept hW) (HWA.out x (mem_of_at HXX.out)) (HWB.out y (mem_of_at HYY.out))
          rwa [← hq] at h)
        have HQ := Lib.hid hq
        have hdk : decide (r.length ≤ k) = false := by simp; omega
        clear hq
        go_wp2_with fail
        refine (C0.out _ (((Below.refl _ _).alloc (Nat.le_refl _) _).alloc (by simp) _)).mono ?_
        rintro e w6 ⟨rfl, hb⟩
        have HB6 := Lib.hid (carry_below ((HBE.out.alloc HBE.out.size _).alloc (by have := HBE.out.size; simp; omega) _) (Nat.le_refl _) hb)
        clear hb
        cases q with
        | true =>
          have HN := Lib.hid (HLV.out.next HXX.out HYY.out HQ.out.symm)
          go_wp2
          go_roundw
          case rel => exact ⟨k + 1, by omega, by go_num, HN.out, HB6.out⟩
          case measure => simp [intOf]; omega
        | false =>
          have HN := Lib.hid (eqTs_no HXX.out HYY.out HQ.out.symm)
          go_wp2
          go_ret
          exact ⟨ret_bool HN.out.symm, HB6.out⟩
      · have hke : k = l.length := by omega
        subst hke
        have HN := Lib.hid (HLV.out.all HLE.out)
        go_wp2
        go_ret
        exact ⟨ret_bool HN.out.symm, HBE.out⟩
  · have HF := Lib.hid (eqTs_len hl)
    have hl2 : ((l.length : Int) != (r.length : Int)) = true := by simp; omega
    have hl3 : ((l.length : Int) == (r.length : Int)) = false := by simp; omega
    clear hl
    go_enter Try.func120, Try.ntmps120
    go_wp2
    go_ret
    exact ⟨ret_bool HF.out.symm, Below.refl _ _⟩

set_option maxHeartbeats 2000000 in
theorem tree_of (a : Tm) (h : ∀ s ∈ a.args, TreeT s) : TreeT a := by
  intro b w va vb hva hvb hwa hwb
  have H := Lib.hid (treeF_of a.args h)
  have HWA := Lib.hid (fun (s : Tm) (hs : s ∈ a.args) => Nat.le_trans (Tm.wt_arg hs) hwa)
  have HWB := Lib.hid (fun (s : Tm) (hs : s ∈ b.args) => Nat.le_trans (Tm.wt_arg hs) hwb)
  have hla := Tm.wt_len a
  have hlb := Tm.wt_len b
  obtain ⟨pa, ca, rfl⟩ := hva.is_slice
  obtain ⟨pb, cb, rfl⟩ := hvb.is_slice
  have HVA := Lib.hid hva
  have HVB := Lib.hid hvb
  have H2A := Lib.hid ((two_new w (.string a.name) (.slice pa a.args.length ca) 31 _ rfl).alloc (.cells #[.string b.name, .slice pb b.args.length cb] 31))
  have H2B := Lib.hid (two_new (w.alloc (.cells #[.string a.name, .slice pa a.args.length ca] 31)) (.string b.name) (.slice pb b.args.length cb) 31 (w.heap.size + 1) (by simp))
  have HB := Lib.hid (((Below.refl w.heap.size w).alloc (Nat.le_refl _) (.cells #[.string a.name, .slice pa a.args.length ca] 31)).alloc (by simp) (.cells #[.string b.name, .slice pb b.args.length cb] 31))
  clear h hva hvb
  obtain ⟨a0, a1, a2⟩ := H2A.out
  obtain ⟨b0, b1, b2⟩ := H2B.out
  by_cases hn : a.name = b.name
  · have hq := str_eq hn
    have HN := Lib.hid (eqT_args hn)
    obtain ⟨q, hqq⟩ : ∃ q, q = eqTs a.args b.args := ⟨_, rfl⟩
    have C0 : Hid (∀ W : World, Below w.heap.size w W → Calls Try.prog 120 #[.slice pa a.args.length ca, .slice pb b.args.length cb, .func (.func 76) #[] #[]] W (Ans (.bool q) W)) := Lib.hid (fun W hW => by
      have h := H.out b.args W _ _ (HVA.out.kept hW) (HVB.out.kept hW) (by omega) (by omega) HWA.out HWB.out
      rwa [← hqq] at h)
    have HQ := Lib.hid (HN.out.trans hqq.symm)
    clear hn hqq
    go_enter Try.func76, Try.ntmps76
    go_wp2_with fail
    refine (C0.out _ HB.out).mono ?_
    rintro e w6 ⟨rfl, hb⟩
    have HB6 := Lib.hid (carry_below HB.out (Nat.le_refl _) hb)
    clear hb
    go_wp2
    go_ret
    exact ⟨ret_bool HQ.out.symm, HB6.out⟩
  · have HF := Lib.hid (eqT_ne hn)
    have hq := str_ne hn
    clear hn
    go_enter Try.func76, Try.ntmps76
    go_wp2
    go_ret
    exact ⟨ret_bool HF.out.symm, HB.out⟩

theorem equalTrees_any (a : Tm) : TreeT a := Tm.ind (P := TreeT) tree_of a

end Go.Proofs.Ytmlenhjhkpgcnaa
