/- The model's comparison of terms: a contract, for terms of at most 1048576 names' bytes and arguments. -/
import Derived.Test.YtdpeanpmjhpblaaGreatOrd
namespace Go.Proofs.YtdpeanpmjhpblaaGreat
open Go.RowKit
set_option linter.unusedVariables false

theorem quiet_left {P : Program} {f : FuncId} {args : Array Value} {w : World} {n : Nat} {v : Value}
    (h : Calls P f args (w.drewN n) fun e w' => e = .returned v ∧ w.drewN n = w') : Calls P f args (w.drewN n) fun e w'' => e = .returned v ∧ ∃ m, w'' = w.drewN m :=
  h.mono fun _ _ ⟨he, hm⟩ => ⟨he, n, hm.symm⟩

theorem below_drews {B : Nat} {a w : World} (h : Below B a w) (n : Nat) : Below B a (w.drewN n) := ⟨h.os, h.tape, h.output, h.size, h.block⟩

theorem Two.drews {w : World} {b : Nat} {x y : Value} (h : Two w b x y) (n : Nat) : Two (w.drewN n) b x y := h.kept (below_drews (Below.refl _ _) n)

def OrdS (a : Tm) : Prop := ∀ (b : Tm) (w : World) (va vb : Value), TmS w va a.args → TmS w vb b.args → a.wt ≤ 1048576 → b.wt ≤ 1048576 →
  Calls Tryz.prog 84 #[.agg #[.string a.name, va], .agg #[.string b.name, vb]] w (Ans (.int .i64 (ordT a b)) w)

theorem ord_vars {a b : Tm} (h1 : varB a.name = true) (h2 : varB b.name = false) : ordT a b = -1 := by rw [ordT_eq, h1, h2]; rfl
theorem ord_vars' {a b : Tm} (h1 : varB a.name = false) (h2 : varB b.name = true) : ordT a b = 1 := by rw [ordT_eq, h1, h2]; rfl
theorem ord_rest {a b : Tm} (h : varB a.name = varB b.name) : ordT a b = if a.name ≠ b.name then txt a.name b.name else if a.args.length < b.args.length then -1 else if b.args.length < a.args.length then 1 else ordL a.args b.args := by
  rw [ordT_eq, h]
  cases varB b.name <;> rfl

set_option maxHeartbeats 4000000 in
theorem ordS_of (a : Tm) (h : ∀ s ∈ a.args, OrdS s) : OrdS a := by
  intro b w va vb hva hvb hwa hwb
  have H := Lib.hid h
  have HWA := Lib.hid (fun (s : Tm) (hs : s ∈ a.args) => Nat.le_trans (Tm.wt_arg hs) hwa)
  have HWB := Lib.hid (fun (s : Tm) (hs : s ∈ b.args) => Nat.le_trans (Tm.wt_arg hs) hwb)
  have CA0 := fun W => l2Var_any a.name W (by have := Tm.wt_name a; unfold maxLen; omega)
  have CB0 := fun W => l2Var_any b.name W (by have := Tm.wt_name b; unfold maxLen; omega)
  have hla := Tm.wt_len a
  have hlb := Tm.wt_len b
  obtain ⟨pa, ca, rfl⟩ := hva.is_slice
  obtain ⟨pb, cb, rfl⟩ := hvb.is_slice
  have HVA := Lib.hid hva
  have HVB := Lib.hid hvb
  have H2A := Lib.hid ((two_new w (.string a.name) (.slice pa a.args.length ca) 31 _ rfl).alloc (.cells #[.string b.name, .slice pb b.args.length cb] 31))
  have H2B := Lib.hid (two_new (w.alloc (.cells #[.string a.name, .slice pa a.args.length ca] 31)) (.string b.name) (.slice pb b.args.length cb) 31 (w.heap.size + 1) (by simp))
  have HB := Lib.hid (((Below.refl w.heap.size w).alloc (Nat.le_refl _) (.cells #[.string a.name, .slice pa a.args.length ca] 31)).alloc (by simp) (.cells #[.string b.name, .slice pb b.args.length cb] 31))
  clear h hva hvb
  have HX : Hid (varB a.name = varB a.name) := Lib.hid rfl
  obtain ⟨xa, hxa⟩ : ∃ x, x = varB a.name := ⟨_, rfl⟩
  obtain ⟨xb, hxb⟩ : ∃ x, x = varB b.name := ⟨_, rfl⟩
  rw [← hxa] at CA0
  rw [← hxb] at CB0
  have CA := Lib.hid CA0
  have CB := Lib.hid CB0
  clear CA0 CB0
  have hgo : (xa = true ∧ xb = false) ∨ (xa = false ∧ xb = true) ∨ xa = xb := by cases xa <;> cases xb <;> simp
  rcases hgo with ⟨h1, h2⟩ | ⟨h1, h2⟩ | h1
  · subst h1; subst h2
    have HF := Lib.hid (ord_vars hxa.symm hxb.symm)
    clear hxa hxb
    go_enter Tryz.func84, Tryz.ntmps84
    go_wp2_with fail
    go_quiet ((first | (go_at_call_of 89 (Value.string a.name); exact quiet_left (CA.out _)) | (go_at_call_of 89 (Value.string b.name); exact quiet_left (CB.out _))))
    go_wp2
    go_ret
    exact ⟨ret_int HF.out.symm, below_drews HB.out _⟩
  · subst h1; subst h2
    have HF := Lib.hid (ord_vars' hxa.symm hxb.symm)
    clear hxa hxb
    go_enter Tryz.func84, Tryz.ntmps84
    go_wp2_with fail
    go_quiet ((first | (go_at_call_of 89 (Value.string a.name); exact quiet_left (CA.out _)) | (go_at_call_of 89 (Value.string b.name); exact quiet_left (CB.out _))))
    go_wp2
    go_ret
    exact ⟨ret_int HF.out.symm, below_drews HB.out _⟩
  · subst h1
    have HF := Lib.hid (ord_rest (hxa.symm.trans hxb))
    clear hxa hxb
    by_cases hn : a.name = b.name
    · have hq := str_eq hn
      have HF1 := Lib.hid (HF.out.trans (if_neg (by simp [hn])))
      clear hn
      rcases Nat.lt_trichotomy a.args.length b.args.length with hl | hl | hl
      · have HF2 := Lib.hid (HF1.out.trans (if_pos hl))
        go_enter Tryz.func84, Tryz.ntmps84
        go_wp2_with fail
        go_quiet ((first | (go_at_call_of 89 (Value.string a.name); exact quiet_left (CA.out _)) | (go_at_call_of 89 (Value.string b.name); exact quiet_left (CB.out _))))
        cases xa
        all_goals
          go_wp2
          go_ret
          exact ⟨ret_int HF2.out.symm, below_drews HB.out _⟩
      · have HF2 := Lib.hid ((HF1.out.trans (if_neg (by omega))).trans (if_neg (by omega)))
        have HLE := Lib.hid hl
        have hl1 : decide (a.args.length < b.args.length) = false := by simp; omega
        have hl2 : decide (b.args.length < a.args.length) = false := by simp; omega
        clear hl
        go_enter Tryz.func84, Tryz.ntmps84
        go_wp2_with fail
        go_quiet ((first | (go_at_call_of 89 (Value.string a.name); exact quiet_left (CA.out _)) | (go_at_call_of 89 (Value.string b.name); exact quiet_left (CB.out _))))
        have K2A := Lib.hid (H2A.out.drews nq)
        have K2B := Lib.hid (H2B.out.drews nq)
        have KB := Lib.hid (below_drews HB.out nq)
        cases xa
        all_goals
          go_wp2
          go_loopw [7] (fun i wr => ∃ k : Nat, k ≤ a.args.length ∧ i = .int .i64 k ∧ Level a.args b.args k ∧ Two wr w.heap.size (.string a.name) (.slice pa a.args.length ca) ∧ Two wr (w.heap.size + 1) (.string b.name) (.slice pb b.args.length cb) ∧ Below w.heap.size w wr) (fun i _ => a.args.length - (intOf i).toNat)
          case atStart => exact ⟨0, Nat.zero_le _, rfl, fun j _ _ hj => absurd hj (Nat.not_lt_zero _), K2A.out, K2B.out, KB.out⟩
          case round =>
            obtain ⟨k, hk, rfl, hlev, hta, htb, hbel⟩ := hrel
            have HLV := Lib.hid hlev
            have HTA := Lib.hid hta
            have HTB := Lib.hid htb
            have HBE := Lib.hid hbel
            obtain ⟨d0, d1, d2⟩ := hta
            obtain ⟨e0, e1, e2⟩ := htb
            clear hlev hbel
            by_cases hlt : k < a.args.length
            · have hltb : k < b.args.length := by have := HLE.out; omega
              obtain ⟨x, hx⟩ : ∃ s, a.args[k]? = some s := ⟨_, List.getElem?_eq_getElem hlt⟩
              obtain ⟨y, hy⟩ : ∃ s, b.args[k]? = some s := ⟨_, List.getElem?_eq_getElem hltb⟩
              obtain ⟨b1, o1, rfl, v1, x0, x1, x2⟩ := HVA.out.get hx
              obtain ⟨b2, o2, rfl, v2, y0, y1, y2⟩ := HVB.out.get hy
              have x0' := carry_cell x0 HBE.out
              have x1' := carry_cell x1 HBE.out
              have y0' := carry_cell y0 HBE.out
              have y1' := carry_cell y1 HBE.out
              have X2 := Lib.hid (x2.kept HBE.out)
              have Y2 := Lib.hid (y2.kept HBE.out)
              have HXX := Lib.hid hx
              have HYY := Lib.hid hy
              have HR := Lib.hid (ordT_range x y)
              obtain ⟨q, hq⟩ : ∃ q, q = ordT x y := ⟨_, rfl⟩
              have C0 : Hid (∀ W : World, Below wr.heap.size wr W → Calls Tryz.prog 84 #[.agg #[.string x.name, v1], .agg #[.string y.name, v2]] W (Ans (.int .i64 q) W)) := Lib.hid (fun W hW => by
                have h := H.out x (mem_of_at hx) y W v1 v2 (X2.out.kept hW) (Y2.out.kept hW) (HWA.out x (mem_of_at hx)) (HWB.out y (mem_of_at hy))
                rwa [← hq] at h)
              have HQ := Lib.hid hq
              have hB0 : Below wr.heap.size wr wr.drew := (Below.refl _ _).drew
              clear hq hx hy x0 x1 y0 y1 x2 y2
              go_wp2_with fail
              go_region_held3 (fun w' => w'.cell? ⟨w.heap.size, 1, none⟩ = some (.slice (some ⟨b1, o1, none⟩) a.args.length ca) ∧ w'.cell? ⟨w.heap.size + 1, 1, none⟩ = some (.slice (some ⟨b2, o2, none⟩) b.args.length cb) ∧ w'.cell? ⟨b1, o1 + k * 2, none⟩ = some (.string x.name) ∧ w'.cell? ⟨b1, o1 + k * 2 + 1, none⟩ = some v1 ∧ w'.cell? ⟨b2, o2 + k * 2, none⟩ = some (.string y.name) ∧ w'.cell? ⟨b2, o2 + k * 2 + 1, none⟩ = some v2 ∧ Below wr.heap.size wr w') (first | exact ⟨by assumption, by assumption, by assumption, by assumption, by assumption, by assumption, by assumption⟩ | go_keep) (first | (go_at_call 84; refine (C0.out _ hB0).mono ?_; rintro e w6 ⟨rfl, hb⟩; have z0 := carry_cell' hb d1; have z1 := carry_cell' hb e1; have z2 := carry_cell' hb x0'; have z3 := carry_cell' hb x1'; have z4 := carry_cell' hb y0'; have z5 := carry_cell' hb y1'; have hB6 := carry_below hB0 (Nat.le_refl _) hb; have K6 := Lib.hid hb; clear hb))
              have HB6 := Lib.hid (carry_below HBE.out (Nat.le_refl _) hB6)
              have HTA6 := Lib.hid (HTA.out.kept hB6)
              have HTB6 := Lib.hid (HTB.out.kept hB6)
              clear hB6 hB0
              by_cases hq0 : q = 0
              · have hqb : (q != 0) = false := by simp [hq0]
                have HN := Lib.hid (HLV.out.next HXX.out HYY.out (HQ.out.symm.trans hq0))
                clear hq0
                go_wp2
                go_roundw
                case rel => exact ⟨k + 1, by omega, by go_num, HN.out, HTA6.out, HTB6.out, HB6.out⟩
                case measure => simp [intOf]; omega
              · have hqb : (q != 0) = true := by simp [hq0]
                have HN : Hid (q = ordT a b) := Lib.hid (by rw [HF2.out, ordL_first HLV.out HXX.out HYY.out (fun e => hq0 (HQ.out.trans e))]; exact HQ.out)
                clear hq0
                go_wp2
                go_ret
                exact ⟨ret_int HN.out, HB6.out⟩
            · have hke : k = a.args.length := by omega
              subst hke
              have HN : Hid ((0 : Int) = ordT a b) := Lib.hid (by rw [HF2.out, ordL_all HLV.out])
              go_wp2
              go_ret
              exact ⟨ret_int HN.out, HBE.out⟩
      · have HF2 := Lib.hid ((HF1.out.trans (if_neg (by omega))).trans (if_pos hl))
        go_enter Tryz.func84, Tryz.ntmps84
        go_wp2_with fail
        go_quiet ((first | (go_at_call_of 89 (Value.string a.name); exact quiet_left (CA.out _)) | (go_at_call_of 89 (Value.string b.name); exact quiet_left (CB.out _))))
        cases xa
        all_goals
          go_wp2
          go_ret
          exact ⟨ret_int HF2.out.symm, below_drews HB.out _⟩
    · have hq := str_ne hn
      have HF1 := Lib.hid (HF.out.trans (if_pos hn))
      have CT := Lib.hid (fun W => text_any a.name b.name W)
      clear hn
      go_enter Tryz.func84, Tryz.ntmps84
      go_wp2_with fail
      go_quiet ((first | (go_at_call_of 89 (Value.string a.name); exact quiet_left (CA.out _)) | (go_at_call_of 89 (Value.string b.name); exact quiet_left (CB.out _))))
      cases xa
      all_goals
        go_wp2_with fail
        refine (CT.out _).mono ?_
        rintro e w' ⟨rfl, rfl⟩
        go_wp2
        go_ret
        exact ⟨ret_int HF1.out.symm, below_drews HB.out _⟩

theorem l2Compare_any (a : Tm) : OrdS a := Tm.ind (P := OrdS) ordS_of a

end Go.Proofs.YtdpeanpmjhpblaaGreat
