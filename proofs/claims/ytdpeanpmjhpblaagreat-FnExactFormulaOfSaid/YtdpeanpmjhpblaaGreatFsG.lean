/- Several texts in one: each says what it proves. No condition but theirs. -/
import Derived.Test.YtdpeanpmjhpblaaGreatFmS
import Derived.Test.YtdpeanpmjhpblaaGreatStG
import Derived.Test.YtdpeanpmjhpblaaGreatOgG
import Derived.Deep.RegionLaw
/- The free variables of a formula, the model's: contracts, for formulas of at most 1048576 names' bytes, parts and arguments. -/
namespace Go.Proofs.YtdpeanpmjhpblaaGreat
open Go.RowKit
set_option linter.unusedVariables false
set_option linter.unusedSimpArgs false

/-- Names put into an ascending list, but those that are bound. -/
def addF (bd : List ByteArray) : List ByteArray → List ByteArray → List ByteArray
  | [], l => l
  | s :: r, l => addF bd r (if Lib.containsS bd s then l else putS s l)
theorem addF_append (bd : List ByteArray) : ∀ (a b l : List ByteArray), addF bd (a ++ b) l = addF bd b (addF bd a l)
  | [], b, l => rfl
  | s :: r, b, l => by rw [List.cons_append, addF, addF, addF_append bd r]
theorem addF_next {bd vs l : List ByteArray} {k : Nat} {s : ByteArray} (h : vs[k]? = some s) : addF bd (vs.take (k + 1)) l = (if Lib.containsS bd s then addF bd (vs.take k) l else putS s (addF bd (vs.take k) l)) := by
  rw [take_next h, addF_append, addF, addF]
theorem addF_len (bd : List ByteArray) : ∀ (vs l : List ByteArray), (addF bd vs l).length ≤ l.length + vs.length
  | [], l => by simp [addF]
  | s :: r, l => by
    rw [addF, List.length_cons]
    have h2 := putS_len s l
    by_cases c : Lib.containsS bd s = true
    · rw [if_pos c]; have h := addF_len bd r l; omega
    · rw [if_neg c]; have h := addF_len bd r (putS s l); omega
mutual
/-- The free variables of a formula, put into an ascending list, under bound names. -/
def Fm.fv : Fm → List ByteArray → List ByteArray → List ByteArray
  | .node o a v ps, bd, l => Fm.fvL ps (if o = 8 ∨ o = 9 then bd ++ [v] else bd) (if o = 3 then addF bd (a.into []) l else l)
def Fm.fvL : List Fm → List ByteArray → List ByteArray → List ByteArray
  | [], _, l => l
  | t :: r, bd, l => Fm.fvL r bd (Fm.fv t bd l)
/-- The sizes of all atoms. -/
def Fm.az : Fm → Nat
  | .node _ a _ ps => a.sz + Fm.azL ps
def Fm.azL : List Fm → Nat
  | [] => 0
  | t :: r => Fm.az t + Fm.azL r
end
def Fm.bd2 (t : Fm) (bd : List ByteArray) : List ByteArray := if t.op = 8 ∨ t.op = 9 then bd ++ [t.var] else bd
theorem Fm.fv_eq (t : Fm) (bd l : List ByteArray) : t.fv bd l = Fm.fvL t.parts (t.bd2 bd) (if t.op = 3 then addF bd (t.atom.into []) l else l) := by cases t; rw [Fm.fv]; rfl
theorem Fm.azL_sum : ∀ l : List Fm, Fm.azL l = sumG Fm.az l
  | [] => by simp [Fm.azL, sumG]
  | t :: r => by simp [Fm.azL, sumG, Fm.azL_sum r]
theorem Fm.az_eq (t : Fm) : t.az = t.atom.sz + sumG Fm.az t.parts := by
  cases t with
  | node o a v l => rw [Fm.az, Fm.azL_sum]; rfl
theorem Fm.fvL_append : ∀ (a b : List Fm) (bd l : List ByteArray), Fm.fvL (a ++ b) bd l = Fm.fvL b bd (Fm.fvL a bd l)
  | [], b, bd, l => by simp [Fm.fvL]
  | t :: r, b, bd, l => by rw [List.cons_append, Fm.fvL, Fm.fvL, Fm.fvL_append r]
theorem Fm.fvL_next {a : List Fm} {k : Nat} {t : Fm} (h : a[k]? = some t) (bd l : List ByteArray) : Fm.fvL (a.take (k + 1)) bd l = t.fv bd (Fm.fvL (a.take k) bd l) := by
  rw [take_next h, Fm.fvL_append, Fm.fvL, Fm.fvL]
theorem Tm.into0_len (t : Tm) : (t.into []).length ≤ t.sz := by have := Tm.into_len t []; simpa using this
theorem Fm.fv_len : ∀ (t : Fm) (bd l : List ByteArray), (t.fv bd l).length ≤ l.length + t.az := Fm.ind fun t ih => by
  have hL : ∀ (ps : List Fm), (∀ s ∈ ps, ∀ bd l, (Fm.fv s bd l).length ≤ l.length + s.az) → ∀ bd l, (Fm.fvL ps bd l).length ≤ l.length + sumG Fm.az ps := by
    intro ps
    induction ps with
    | nil => intro _ bd l; simp [Fm.fvL, sumG]
    | cons s r ihr =>
      intro h bd l
      rw [Fm.fvL]
      have h1 := h s List.mem_cons_self bd l
      have h2 := ihr (fun x hx => h x (List.mem_cons_of_mem _ hx)) bd (s.fv bd l)
      simp only [sumG]; omega
  intro bd l
  rw [t.fv_eq, t.az_eq]
  have h := hL t.parts ih (t.bd2 bd) (if t.op = 3 then addF bd (t.atom.into []) l else l)
  have h2 := addF_len bd (t.atom.into []) l
  have h3 := t.atom.into0_len
  by_cases c : t.op = 3
  · rw [if_pos c] at h ⊢; omega
  · rw [if_neg c] at h ⊢; omega
theorem Fm.fvL_len (a : List Fm) (k : Nat) (bd l : List ByteArray) : (Fm.fvL (a.take k) bd l).length ≤ l.length + sumG Fm.az a := by
  have h1 : ∀ (b : List Fm) (l : List ByteArray), (Fm.fvL b bd l).length ≤ l.length + sumG Fm.az b := by
    intro b
    induction b with
    | nil => intro l; simp [Fm.fvL, sumG]
    | cons s r ihr => intro l; rw [Fm.fvL]; have := s.fv_len bd l; have := ihr (s.fv bd l); simp only [sumG]; omega
  exact Nat.le_trans (h1 _ _) (by have := sumG_take Fm.az a k; omega)
theorem Fm.fvL_len' (a : List Fm) (k : Nat) (bd l : List ByteArray) : (Fm.fvL (a.take k) bd l).length ≤ l.length + sumG Fm.az (a.take k) := by
  have h1 : ∀ (b : List Fm) (l : List ByteArray), (Fm.fvL b bd l).length ≤ l.length + sumG Fm.az b := by
    intro b
    induction b with
    | nil => intro l; simp [Fm.fvL, sumG]
    | cons s r ihr => intro l; rw [Fm.fvL]; have := s.fv_len bd l; have := ihr (s.fv bd l); simp only [sumG]; omega
  exact h1 _ _
theorem Fm.az_part {t s : Fm} (h : s ∈ t.parts) : s.az ≤ t.az := by
  have := sumG_mem (f := Fm.az) h
  rw [t.az_eq]; omega

theorem LV.is_sl {w : World} {v : Value} {ss : List ByteArray} (h : LV w v ss) : ∃ b c, v = .slice (some ⟨b, 0, none⟩) ss.length c := by
  obtain ⟨b, c, rfl, _⟩ := h; exact ⟨b, c, rfl⟩
theorem LV.g {w : World} {b n c : Nat} {ss : List ByteArray} (h : LV w (.slice (some ⟨b, 0, none⟩) n c) ss) : StrG w (some ⟨b, 0, none⟩) ss := by
  obtain ⟨b', c', e, _, _, hc⟩ := h
  injection e with e1 e2 e3
  injection e1 with e1
  injection e1 with e1
  subst e1
  intro k x hk
  have hkl := (List.getElem?_eq_some_iff.1 hk).1
  refine ⟨b, 0, rfl, ?_⟩
  rw [Nat.zero_add, hc k hkl, List.getD_eq_getElem?_getD, hk]; rfl

def FvEnd (t : Fm) (bd l : List ByteArray) (w : World) (e : Ending) (w' : World) : Prop := ∃ v', e = .returned v' ∧ LV w' v' (t.fv bd l) ∧ Below w.heap.size w w'
def FvT (t : Fm) : Prop := ∀ (w : World) (va vp vl vb : Value) (l bd : List ByteArray), FmV w va vp t → LV w vl l → LV w vb bd → t.wt ≤ 1048576 → l.length + t.az ≤ 1048576 → bd.length + t.sz ≤ 1048576 →
  Calls Tryz.prog 71 #[vl, .agg #[.int .i64 t.op, .string t.atom.name, va, .string t.var, vp], vb] w (FvEnd t bd l w)

set_option maxRecDepth 100000 in
set_option maxHeartbeats 8000000 in
theorem fv_of (t : Fm) (h : ∀ s ∈ t.parts, FvT s) : FvT t := by
  intro w va vp vl vb l bd hv hl hbd hw haz hbs
  obtain ⟨i0, hi, hz0, hz1, hz2⟩ := info_parts infoStr
  have H := Lib.hid h
  obtain ⟨pa, ca, pp, cp, rfl, rfl⟩ := hv.open
  obtain ⟨lb, lc, rfl⟩ := hl.is_sl
  obtain ⟨db, dc, rfl⟩ := hbd.is_sl
  have hw' := Nat.le_trans t.wt_atom hw
  have hpl := Nat.le_trans t.wt_len hw
  obtain ⟨op, hop⟩ : ∃ op, op = t.op := ⟨_, rfl⟩
  have HOP := Lib.hid hop
  rw [← hop]
  have HAZ : Hid (t.az = t.atom.sz + sumG Fm.az t.parts) := Lib.hid t.az_eq
  have HWS := Lib.hid (fun (s : Fm) (hs : s ∈ t.parts) => Nat.le_trans (Fm.wt_part hs) hw)
  have HZS := Lib.hid (fun (s : Fm) (hs : s ∈ t.parts) => Fm.sz_part hs)
  have HV := Lib.hid hv
  have HLL := Lib.hid hl
  have HBD := Lib.hid hbd
  have HFV := Lib.hid (t.fv_eq bd l)
  obtain ⟨w1, hw1⟩ : ∃ w1, w.alloc (.cells #[.int .i64 op, .string t.atom.name, .slice pa t.atom.args.length ca, .string t.var, .slice pp t.parts.length cp] 34) = w1 := ⟨_, rfl⟩
  have HB : Hid (Below w.heap.size w w1) := Lib.hid (by rw [← hw1]; exact (Below.refl w.heap.size w).alloc (Nat.le_refl _) _)
  have H5 : Hid (FivB w1 w.heap.size (.int .i64 op) (.string t.atom.name) (.slice pa t.atom.args.length ca) (.string t.var) (.slice pp t.parts.length cp)) := Lib.hid (by rw [← hw1]; exact fivB_new w _ _ _ _ _ _ _ rfl)
  have hazs : t.atom.sz ≤ 1048576 := by have := HAZ.out; omega
  have hazL : l.length + t.atom.sz ≤ 1048576 := by have := HAZ.out; omega
  have HT0 := t.atom.into0_len
  clear hv hl hbd hop
  obtain ⟨b0, b1, b2, b3, b4, b5⟩ := H5.out
  by_cases h3 : op = 3
  · have e3 : (op == 3) = true := by rw [h3]; rfl
    have e8 : (op == 8) = false := by rw [h3]; rfl
    have e9 : (op == 9) = false := by rw [h3]; rfl
    have CV := Lib.hid (vars_any t.atom w1 _ (HV.out.1.kept HB.out) hw' hazs)
    have HE3 := Lib.hid h3
    clear h3
    go_enter Tryz.func71, Tryz.ntmps71

    go_wp2_with fail
    refine CV.out.mono ?_
    rintro e w7 ⟨v7, rfl, hv7, hb⟩
    replace HB := Lib.hid (carry_below HB.out (Nat.le_refl _) hb)
    replace H5 := Lib.hid (H5.out.kept hb)
    clear hb b0 b1 b2 b3 b4 b5
    obtain ⟨b0, b1, b2, b3, b4, b5⟩ := H5.out
    clear hw1 CV
    have HL7 := Lib.hid hv7
    obtain ⟨vb7, c7, rfl⟩ := hv7.is_sl
    clear hv7
    obtain ⟨vs, hvs⟩ : ∃ vs, vs = t.atom.into [] := ⟨_, rfl⟩
    have HVS := Lib.hid hvs
    rw [← hvs] at HL7 HT0 ⊢
    clear hvs
    go_wp2
    go_loopw [0, 8] (fun ov i wr => ∃ (k : Nat) (nm : Value), k ≤ vs.length ∧ i = .int .i64 k ∧ nm = ov ∧ LV wr nm (addF bd (vs.take k) l) ∧ FivB wr w.heap.size (.int .i64 op) (.string t.atom.name) (.slice pa t.atom.args.length ca) (.string t.var) (.slice pp t.parts.length cp) ∧ Below w.heap.size w wr ∧ Below w7.heap.size w7 wr) (fun _ i _ => vs.length - (intOf i).toNat)
    case atStart => exact ⟨0, _, Nat.zero_le _, rfl, rfl, by simpa [addF] using HLL.out.kept HB.out, H5.out, HB.out, Below.refl _ _⟩
    case round =>
      obtain ⟨k, nm, hk, rfl, rfl, hlo, h5, hbel, hbw⟩ := hrel
      have HLK := Lib.hid hlo
      replace H5 := Lib.hid h5
      replace HB := Lib.hid hbel
      have HBW := Lib.hid hbw
      have HL7R := Lib.hid (HL7.out.kept hbw)
      obtain ⟨kb, kc, rfl⟩ := hlo.is_sl
      have hla := addF_len bd (vs.take k) l
      rw [List.length_take] at hla
      clear hlo h5 hbel hbw b0 b1 b2 b3 b4 b5
      obtain ⟨b0, b1, b2, b3, b4, b5⟩ := H5.out
      by_cases hlt : k < vs.length
      · obtain ⟨s, hs⟩ : ∃ s, vs[k]? = some s := ⟨_, List.getElem?_eq_getElem hlt⟩
        have x0 : wr.cell? ⟨vb7, k, none⟩ = some (.string s) := by
          obtain ⟨bb, oo, e, hx⟩ := HL7R.out.g k s hs
          injection e with e
          injection e with e1 e2
          subst e1 e2
          rwa [Nat.zero_add] at hx
        have HN := Lib.hid (addF_next (bd := bd) (l := l) hs)
        have CI := l2In_same (some ⟨db, 0, none⟩) dc bd s wr (HBD.out.kept HB.out).g (by omega)
        obtain ⟨qc, hqc⟩ : ∃ qc, qc = Lib.containsS bd s := ⟨_, rfl⟩
        rw [← hqc] at CI HN
        have HCI := Lib.hid CI
        clear hs CI hqc
        go_wp2_with fail
        refine HCI.out.mono ?_
        rintro e w8 ⟨rfl, rfl⟩
        cases qc with
        | true =>
          have HNX : Hid (LV wr (.slice (some ⟨kb, 0, none⟩) (addF bd (vs.take k) l).length kc) (addF bd (vs.take (k + 1)) l)) := Lib.hid (by rw [HN.out]; exact HLK.out)
          go_wp2
          go_roundw
          case rel => exact ⟨k + 1, _, by omega, by go_num, rfl, HNX.out, H5.out, HB.out, HBW.out⟩
          case measure => simp [intOf]; omega
        | false =>
          have CP := Lib.hid (put_any (addF bd (vs.take k) l) _ s wr HLK.out (by omega))
          go_wp2_with fail
          refine CP.out.mono ?_
          rintro e w9 ⟨v9, rfl, hlv, hb⟩
          have HBN := Lib.hid (carry_below HB.out (Nat.le_refl _) hb)
          have HBWN := Lib.hid (carry_below HBW.out (Nat.le_refl _) hb)
          have H5N := Lib.hid (H5.out.kept hb)
          have HNX : Hid (LV w9 v9 (addF bd (vs.take (k + 1)) l)) := Lib.hid (by rw [HN.out]; exact hlv)
          clear hb hlv b0 b1 b2 b3 b4 b5 x0 CP
          obtain ⟨nb, nc, rfl⟩ := HNX.out.is_sl
          go_wp2
          go_roundw
          case rel => exact ⟨k + 1, _, by omega, by go_num, rfl, HNX.out, H5N.out, HBN.out, HBWN.out⟩
          case measure => simp [intOf]; omega
      · obtain ⟨o0, ho0⟩ : ∃ o0, o0 = addF bd (vs.take k) l := ⟨_, rfl⟩
        obtain ⟨d2, hd2⟩ : ∃ d2, d2 = bd := ⟨_, rfl⟩
        have hvk : vs.take k = vs := List.take_of_length_le (by omega)
        have HDL : Hid (d2.length ≤ bd.length + 1) := Lib.hid (by rw [hd2]; simp)
        have HOL : Hid (o0.length + sumG Fm.az t.parts ≤ 1048576) := Lib.hid (by rw [ho0]; have := HAZ.out; omega)
        have HFE : Hid (t.fv bd l = Fm.fvL t.parts d2 o0) := Lib.hid (by rw [HFV.out, hd2, ho0]; unfold Fm.bd2; rw [← HOP.out]; rw [HE3.out, hvk, HVS.out]; simp)
        rw [← ho0] at HLK ⊢
        have HLO := Lib.hid HLK.out
        have HLB : Hid (LV wr (.slice (some ⟨db, 0, none⟩) bd.length dc) d2) := Lib.hid (by rw [hd2]; exact HBD.out.kept HB.out)
        clear ho0 hd2 hvk HLK hla HBW
        obtain ⟨wx, hwx⟩ : ∃ wx : World, wx = wr := ⟨_, rfl⟩
        rw [← hwx] at HLO HLB HB H5 HL7R b0 b1 b2 b3 b4 b5 ⊢
        clear hwx HL7R
        go_wp2
        go_loopw [0, 9] (fun ov i wr => ∃ (k : Nat) (nm : Value), k ≤ t.parts.length ∧ i = .int .i64 k ∧ nm = ov ∧ LV wr nm (Fm.fvL (t.parts.take k) d2 o0) ∧ FivB wr w.heap.size (.int .i64 op) (.string t.atom.name) (.slice pa t.atom.args.length ca) (.string t.var) (.slice pp t.parts.length cp) ∧ Below w.heap.size w wr ∧ Below wx.heap.size wx wr) (fun _ i _ => t.parts.length - (intOf i).toNat)
        case atStart => exact ⟨0, _, Nat.zero_le _, rfl, rfl, by simpa [Fm.fvL] using HLO.out, H5.out, HB.out, Below.refl _ _⟩
        case round =>
          obtain ⟨k, nm, hk, rfl, rfl, hlo, h5, hbel, hbw⟩ := hrel
          have HLK := Lib.hid hlo
          replace H5 := Lib.hid h5
          replace HB := Lib.hid hbel
          have HBW := Lib.hid hbw
          have HLBR := Lib.hid (HLB.out.kept hbw)
          obtain ⟨kb, kc, rfl⟩ := hlo.is_sl
          clear hlo h5 hbel hbw b0 b1 b2 b3 b4 b5
          obtain ⟨b0, b1, b2, b3, b4, b5⟩ := H5.out
          by_cases hlt : k < t.parts.length
          · obtain ⟨s, hs⟩ : ∃ s, t.parts[k]? = some s := ⟨_, List.getElem?_eq_getElem hlt⟩
            obtain ⟨b, off, rfl, va, vp, hc, hva, hvp⟩ := HV.out.2.get hs
            obtain ⟨g0, g1, g2, g3, g4⟩ := hc.kept HB.out
            have HVA : Hid (FmV wr va vp s) := Lib.hid ⟨hva.kept HB.out, hvp.kept HB.out⟩
            obtain ⟨xa, xc, yp, yc, rfl, rfl⟩ := HVA.out.open
            have HS := Lib.hid hs
            have HN := Lib.hid (Fm.fvL_next hs d2 o0)
            have hlen1 := Fm.fvL_len' t.parts k d2 o0
            have hsn := sumG_next (f := Fm.az) hs
            have hst := sumG_take Fm.az t.parts (k + 1)
            have hss := HZS.out s (mem_of_at hs)
            have CR := Lib.hid (H.out s (mem_of_at hs) wr _ _ _ _ (Fm.fvL (t.parts.take k) d2 o0) d2 HVA.out HLK.out HLBR.out (HWS.out s (mem_of_at hs)) (by have := HOL.out; omega) (by have := HDL.out; omega))
            clear hs hc hva hvp hlen1 hsn hst hss
            go_wp2_with fail
            refine CR.out.mono ?_
            rintro e w' ⟨v', rfl, hlv, hb⟩
            have HBN := Lib.hid (carry_below HB.out (Nat.le_refl _) hb)
            have HBWN := Lib.hid (carry_below HBW.out (Nat.le_refl _) hb)
            have H5N := Lib.hid (H5.out.kept hb)
            have HLN : Hid (LV w' v' (Fm.fvL (t.parts.take (k + 1)) d2 o0)) := Lib.hid (by rw [HN.out]; exact hlv)
            clear hb hlv b0 b1 b2 b3 b4 b5 g0 g1 g2 g3 g4 CR
            obtain ⟨nb, nc, rfl⟩ := HLN.out.is_sl
            go_wp2
            go_roundw
            case rel => exact ⟨k + 1, _, by omega, by go_num, rfl, HLN.out, H5N.out, HBN.out, HBWN.out⟩
            case measure => simp [intOf]; omega
          · have HE : Hid (FvEnd t bd l w (.returned (.slice (some ⟨kb, 0, none⟩) (Fm.fvL (t.parts.take k) d2 o0).length kc)) wr) := Lib.hid ⟨_, rfl, by
              have h := HLK.out
              rw [HFE.out]
              rw [List.take_of_length_le (by omega)] at h ⊢
              exact h, HB.out⟩
            go_wp2
            go_ret
            exact HE.out
  · have e3 : (op == 3) = false := by rw [beq_eq_false_iff_ne]; exact h3
    by_cases h89 : op = 8 ∨ op = 9
    · obtain ⟨ss, hss⟩ : ∃ ss, ss = bd := ⟨_, rfl⟩
      have hbl : bd.length ≤ 1048575 := by have := t.sz_pos; omega
      have hc : ∀ i, i < bd.length → w1.cell? ⟨db, i, none⟩ = some (.string (bd.getD i ByteArray.empty)) := by
        obtain ⟨b', c', e, _, _, hc⟩ := HBD.out.kept HB.out
        injection e with e1 e2 e3
        injection e1 with e1
        injection e1 with e1
        subst e1
        exact hc
      have HC := Lib.hid hc
      have HL1 : Hid ((bd.map Value.string).length = bd.length * 1) := Lib.hid (by simp)
      have T1 : Hid (∀ j x, bd[j]? = some x → bd[0 + j]? = some x) := Lib.hid (fun j x h => by rwa [Nat.zero_add])
      have hbx : w.heap.size < w1.heap.size := World.block_lt_of_cell? w1 ⟨w.heap.size, 0, none⟩ b0
      have HE89 := Lib.hid h89
      clear hc hss
      have e89 : (op == 8) = true ∨ ((op == 8) = false ∧ (op == 9) = true) := by
        rcases h89 with h | h
        · left; rw [h]; rfl
        · right; rw [h]; exact ⟨rfl, rfl⟩
      clear h89 h3
      rcases e89 with e8 | ⟨e8, e9⟩
      all_goals
        go_enter Tryz.func71, Tryz.ntmps71

        go_wp2_with fail
        try rw [hw1]
        clear hw1
        go_region_law (first
          | (refine step_app _ (by rfl) (.tmp 43) (.tmp 44) _ (by rfl) w1.heap.size 9 i0 _ 1 16 Tryz.underlying59 hi hz0 hz1 hz2 rfl (Nat.one_pos) _ 0 0 [] (by rfl) (by repeat (first | exact own_b _ _ | exact World.ownsRow_lit _ #[] 0 (by simp) (Nat.zero_le _) rfl | with_reducible refine World.ownsRow.alloc ?_ _ | with_reducible refine World.ownsRow.drew ?_)) ⟨db, 0, none⟩ bd.length dc (bd.map Value.string) (by rfl) HL1.out (str_news HC.out (by repeat (first | with_reducible exact Below.refl _ _ | with_reducible refine Below.alloc ?_ (by first | omega | (simp; done) | (simp; omega)) _ | with_reducible refine Below.drew ?_)) _ T1.out) (one_strs _) (by unfold maxLen; omega) (by omega) (by first | omega | (simp; done) | (simp; omega)) ?_; intro g7 c7 w7 hown7 hgrow7; have HO7 : Hid (w7.ownsRow w1.heap.size 9 1 (.slice (some ⟨g7, 0, none⟩) bd.length c7) bd.length (bd.map Value.string)) := Lib.hid (by simpa using hown7); have HB7 : Hid (Below w1.heap.size w1 w7) := Lib.hid (Below.grown (by repeat (first | with_reducible exact Below.refl _ _ | with_reducible refine Below.alloc ?_ (by first | omega | (simp; done) | (simp; omega)) _ | with_reducible refine Below.drew ?_)) hgrow7 (by first | omega | (simp; done) | (simp; omega)) (by simp)); have hz7 := HB7.out.size; (try have HC7 := Lib.hid (c_after hgrow7)); (try have HC7 := Lib.hid (c_before hgrow7)); have hb7 := carry_cell' HB7.out b3; clear hown7 hgrow7)
          | (refine step_app _ (by rfl) (.tmp 45) (.tmp 48) _ (by rfl) w1.heap.size 9 i0 _ 1 16 Tryz.underlying59 hi hz0 hz1 hz2 rfl (Nat.one_pos) g7 c7 bd.length (bd.map Value.string) (by rfl) (by repeat (first | with_reducible exact HO7.out | with_reducible refine World.ownsRow.alloc ?_ _ | with_reducible refine World.ownsRow.drew ?_)) _ 1 1 [.string t.var] (by rfl) rfl (by first | exact HC7.out | exact cell_one_new _ _ _) (one_strs [t.var]) (by unfold maxLen; omega) (by omega) (by first | omega | (simp; done) | (simp; omega)) ?_; intro g8 c8 w8 hown8 hgrow8; have HO8 := Lib.hid hown8; have HB8 : Hid (Below w1.heap.size w1 w8) := Lib.hid (Below.grown (by repeat (first | with_reducible exact HB7.out | with_reducible exact Below.refl _ _ | with_reducible refine Below.alloc ?_ (by first | omega | (simp; done) | (simp; omega)) _ | with_reducible refine Below.drew ?_)) hgrow8 (by first | omega | (simp; done) | (simp; omega)) (fun g hg => by cases hg; exact (HO7.out.lt g7 (by simp [Value.ownBlock])).1)); clear hown8 hgrow8)
          | fail)
        all_goals
          replace HB := Lib.hid (carry_below HB.out (Nat.le_refl _) HB8.out)
          replace H5 := Lib.hid (H5.out.kept HB8.out)
          obtain ⟨o0, ho0⟩ : ∃ o0, o0 = l := ⟨_, rfl⟩
          obtain ⟨d2, hd2⟩ : ∃ d2, d2 = bd ++ [t.var] := ⟨_, rfl⟩
          have HDL : Hid (d2.length ≤ bd.length + 1) := Lib.hid (by rw [hd2]; simp)
          have HOL : Hid (o0.length + sumG Fm.az t.parts ≤ 1048576) := Lib.hid (by rw [ho0]; have := HAZ.out; omega)
          have HFE : Hid (t.fv bd l = Fm.fvL t.parts d2 o0) := Lib.hid (by rw [HFV.out, hd2, ho0]; unfold Fm.bd2; rw [← HOP.out]; rw [if_pos HE89.out, if_neg (fun e => by rw [e] at e3; cases e3)])
          have HLO : Hid (LV w8 (.slice (some ⟨lb, 0, none⟩) l.length lc) o0) := Lib.hid (by rw [ho0]; exact HLL.out.kept HB.out)
          have HLB : Hid (LV w8 (.slice (some ⟨g8, 0, none⟩) (bd.length + 1) c8) d2) := Lib.hid (by
            rw [hd2]
            refine LV.of_own' (base := w1.heap.size) (by simp) ?_
            have h := HO8.out
            rw [List.map_append]
            exact h)
          clear ho0 hd2
          (try clear HC7)
          clear b0 b1 b2 b3 b4 b5 hb7 HO7 HB7 HO8 HB8 hz7
          obtain ⟨b0, b1, b2, b3, b4, b5⟩ := H5.out
          go_wp2
          go_loopw [0, 9] (fun ov i wr => ∃ (k : Nat) (nm : Value), k ≤ t.parts.length ∧ i = .int .i64 k ∧ nm = ov ∧ LV wr nm (Fm.fvL (t.parts.take k) d2 o0) ∧ FivB wr w.heap.size (.int .i64 op) (.string t.atom.name) (.slice pa t.atom.args.length ca) (.string t.var) (.slice pp t.parts.length cp) ∧ Below w.heap.size w wr ∧ Below w8.heap.size w8 wr) (fun _ i _ => t.parts.length - (intOf i).toNat)
          case atStart => exact ⟨0, _, Nat.zero_le _, rfl, rfl, by simpa [Fm.fvL] using HLO.out, H5.out, HB.out, Below.refl _ _⟩
          case round =>
            obtain ⟨k, nm, hk, rfl, rfl, hlo, h5, hbel, hbw⟩ := hrel
            have HLK := Lib.hid hlo
            replace H5 := Lib.hid h5
            replace HB := Lib.hid hbel
            have HBW := Lib.hid hbw
            have HLBR := Lib.hid (HLB.out.kept hbw)
            obtain ⟨kb, kc, rfl⟩ := hlo.is_sl
            clear hlo h5 hbel hbw b0 b1 b2 b3 b4 b5
            obtain ⟨b0, b1, b2, b3, b4, b5⟩ := H5.out
            by_cases hlt : k < t.parts.length
            · obtain ⟨s, hs⟩ : ∃ s, t.parts[k]? = some s := ⟨_, List.getElem?_eq_getElem hlt⟩
              obtain ⟨b, off, rfl, va, vp, hc, hva, hvp⟩ := HV.out.2.get hs
              obtain ⟨g0, g1, g2, g3, g4⟩ := hc.kept HB.out
              have HVA : Hid (FmV wr va vp s) := Lib.hid ⟨hva.kept HB.out, hvp.kept HB.out⟩
              obtain ⟨xa, xc, yp, yc, rfl, rfl⟩ := HVA.out.open
              have HS := Lib.hid hs
              have HN := Lib.hid (Fm.fvL_next hs d2 o0)
              have hlen1 := Fm.fvL_len' t.parts k d2 o0
              have hsn := sumG_next (f := Fm.az) hs
              have hst := sumG_take Fm.az t.parts (k + 1)
              have hss := HZS.out s (mem_of_at hs)
              have CR := Lib.hid (H.out s (mem_of_at hs) wr _ _ _ _ (Fm.fvL (t.parts.take k) d2 o0) d2 HVA.out HLK.out HLBR.out (HWS.out s (mem_of_at hs)) (by have := HOL.out; omega) (by have := HDL.out; omega))
              clear hs hc hva hvp hlen1 hsn hst hss
              go_wp2_with fail
              refine CR.out.mono ?_
              rintro e w' ⟨v', rfl, hlv, hb⟩
              have HBN := Lib.hid (carry_below HB.out (Nat.le_refl _) hb)
              have HBWN := Lib.hid (carry_below HBW.out (Nat.le_refl _) hb)
              have H5N := Lib.hid (H5.out.kept hb)
              have HLN : Hid (LV w' v' (Fm.fvL (t.parts.take (k + 1)) d2 o0)) := Lib.hid (by rw [HN.out]; exact hlv)
              clear hb hlv b0 b1 b2 b3 b4 b5 g0 g1 g2 g3 g4 CR
              obtain ⟨nb, nc, rfl⟩ := HLN.out.is_sl
              go_wp2
              go_roundw
              case rel => exact ⟨k + 1, _, by omega, by go_num, rfl, HLN.out, H5N.out, HBN.out, HBWN.out⟩
              case measure => simp [intOf]; omega
            · have HE : Hid (FvEnd t bd l w (.returned (.slice (some ⟨kb, 0, none⟩) (Fm.fvL (t.parts.take k) d2 o0).length kc)) wr) := Lib.hid ⟨_, rfl, by
                have h := HLK.out
                rw [HFE.out]
                rw [List.take_of_length_le (by omega)] at h ⊢
                exact h, HB.out⟩
              go_wp2
              go_ret
              exact HE.out
    · have e8 : (op == 8) = false := by rw [beq_eq_false_iff_ne]; exact fun e => h89 (.inl e)
      have e9 : (op == 9) = false := by rw [beq_eq_false_iff_ne]; exact fun e => h89 (.inr e)
      obtain ⟨o0, ho0⟩ : ∃ o0, o0 = l := ⟨_, rfl⟩
      obtain ⟨d2, hd2⟩ : ∃ d2, d2 = bd := ⟨_, rfl⟩
      have HDL : Hid (d2.length ≤ bd.length + 1) := Lib.hid (by rw [hd2]; simp)
      have HOL : Hid (o0.length + sumG Fm.az t.parts ≤ 1048576) := Lib.hid (by rw [ho0]; have := HAZ.out; omega)
      have HFE : Hid (t.fv bd l = Fm.fvL t.parts d2 o0) := Lib.hid (by rw [HFV.out, hd2, ho0]; unfold Fm.bd2; rw [← HOP.out]; rw [if_neg h89, if_neg h3])
      have HLO : Hid (LV w1 (.slice (some ⟨lb, 0, none⟩) l.length lc) o0) := Lib.hid (by rw [ho0]; exact HLL.out.kept HB.out)
      have HLB : Hid (LV w1 (.slice (some ⟨db, 0, none⟩) bd.length dc) d2) := Lib.hid (by rw [hd2]; exact HBD.out.kept HB.out)
      clear ho0 hd2 h3 h89
      go_enter Tryz.func71, Tryz.ntmps71

      go_wp2
      try rw [hw1]
      clear hw1
      go_loopw [0, 9] (fun ov i wr => ∃ (k : Nat) (nm : Value), k ≤ t.parts.length ∧ i = .int .i64 k ∧ nm = ov ∧ LV wr nm (Fm.fvL (t.parts.take k) d2 o0) ∧ FivB wr w.heap.size (.int .i64 op) (.string t.atom.name) (.slice pa t.atom.args.length ca) (.string t.var) (.slice pp t.parts.length cp) ∧ Below w.heap.size w wr ∧ Below w1.heap.size w1 wr) (fun _ i _ => t.parts.length - (intOf i).toNat)
      case atStart => exact ⟨0, _, Nat.zero_le _, rfl, rfl, by simpa [Fm.fvL] using HLO.out, H5.out, HB.out, Below.refl _ _⟩
      case round =>
        obtain ⟨k, nm, hk, rfl, rfl, hlo, h5, hbel, hbw⟩ := hrel
        have HLK := Lib.hid hlo
        replace H5 := Lib.hid h5
        replace HB := Lib.hid hbel
        have HBW := Lib.hid hbw
        have HLBR := Lib.hid (HLB.out.kept hbw)
        obtain ⟨kb, kc, rfl⟩ := hlo.is_sl
        clear hlo h5 hbel hbw b0 b1 b2 b3 b4 b5
        obtain ⟨b0, b1, b2, b3, b4, b5⟩ := H5.out
        by_cases hlt : k < t.parts.length
        · obtain ⟨s, hs⟩ : ∃ s, t.parts[k]? = some s := ⟨_, List.getElem?_eq_getElem hlt⟩
          obtain ⟨b, off, rfl, va, vp, hc, hva, hvp⟩ := HV.out.2.get hs
          obtain ⟨g0, g1, g2, g3, g4⟩ := hc.kept HB.out
          have HVA : Hid (FmV wr va vp s) := Lib.hid ⟨hva.kept HB.out, hvp.kept HB.out⟩
          obtain ⟨xa, xc, yp, yc, rfl, rfl⟩ := HVA.out.open
          have HS := Lib.hid hs
          have HN := Lib.hid (Fm.fvL_next hs d2 o0)
          have hlen1 := Fm.fvL_len' t.parts k d2 o0
          have hsn := sumG_next (f := Fm.az) hs
          have hst := sumG_take Fm.az t.parts (k + 1)
          have hss := HZS.out s (mem_of_at hs)
          have CR := Lib.hid (H.out s (mem_of_at hs) wr _ _ _ _ (Fm.fvL (t.parts.take k) d2 o0) d2 HVA.out HLK.out HLBR.out (HWS.out s (mem_of_at hs)) (by have := HOL.out; omega) (by have := HDL.out; omega))
          clear hs hc hva hvp hlen1 hsn hst hss
          go_wp2_with fail
          refine CR.out.mono ?_
          rintro e w' ⟨v', rfl, hlv, hb⟩
          have HBN := Lib.hid (carry_below HB.out (Nat.le_refl _) hb)
          have HBWN := Lib.hid (carry_below HBW.out (Nat.le_refl _) hb)
          have H5N := Lib.hid (H5.out.kept hb)
          have HLN : Hid (LV w' v' (Fm.fvL (t.parts.take (k + 1)) d2 o0)) := Lib.hid (by rw [HN.out]; exact hlv)
          clear hb hlv b0 b1 b2 b3 b4 b5 g0 g1 g2 g3 g4 CR
          obtain ⟨nb, nc, rfl⟩ := HLN.out.is_sl
          go_wp2
          go_roundw
          case rel => exact ⟨k + 1, _, by omega, by go_num, rfl, HLN.out, H5N.out, HBN.out, HBWN.out⟩
          case measure => simp [intOf]; omega
        · have HE : Hid (FvEnd t bd l w (.returned (.slice (some ⟨kb, 0, none⟩) (Fm.fvL (t.parts.take k) d2 o0).length kc)) wr) := Lib.hid ⟨_, rfl, by
            have h := HLK.out
            rw [HFE.out]
            rw [List.take_of_length_le (by omega)] at h ⊢
            exact h, HB.out⟩
          go_wp2
          go_ret
          exact HE.out

end Go.Proofs.YtdpeanpmjhpblaaGreat

/- The free variables of a formula, the model's: l8Free, FreeVariables. -/
namespace Go.Proofs.YtdpeanpmjhpblaaGreat
open Go.RowKit
set_option linter.unusedVariables false
set_option linter.unusedSimpArgs false

theorem l8Into_any (t : Fm) : FvT t := Fm.ind (P := FvT) fv_of t

theorem l8Free_any (t : Fm) (w : World) (va vp : Value) (hv : FmV w va vp t) (hw : t.wt ≤ 1048576) (haz : t.az ≤ 1048576) (hz : t.sz ≤ 1048576) :
    Calls Tryz.prog 46 #[.agg #[.int .i64 t.op, .string t.atom.name, va, .string t.var, vp]] w (FvEnd t [] [] w) := by
  obtain ⟨pa, ca, pp, cp, rfl, rfl⟩ := hv.open
  have HB1 := Lib.hid ((Below.refl w.heap.size w).alloc (Nat.le_refl _) (.cells #[.int .i64 t.op, .string t.atom.name, .slice pa t.atom.args.length ca, .string t.var, .slice pp t.parts.length cp] 34))
  have HB2 := Lib.hid (HB1.out.alloc HB1.out.size (.cells #[] 9))
  have HB3 := Lib.hid (HB2.out.alloc HB2.out.size (.cells #[] 9))
  have H2 := Lib.hid (fivB_new w (.int .i64 t.op) (.string t.atom.name) (.slice pa t.atom.args.length ca) (.string t.var) (.slice pp t.parts.length cp) 34 _ rfl)
  have HL1 := Lib.hid ((lv_nil (w.alloc (.cells #[.int .i64 t.op, .string t.atom.name, .slice pa t.atom.args.length ca, .string t.var, .slice pp t.parts.length cp] 34))).kept ((Below.refl _ _).alloc (Nat.le_refl _) (.cells #[] 9)))
  have HL2 := Lib.hid (lv_nil ((w.alloc (.cells #[.int .i64 t.op, .string t.atom.name, .slice pa t.atom.args.length ca, .string t.var, .slice pp t.parts.length cp] 34)).alloc (.cells #[] 9)))
  have HC := Lib.hid (l8Into_any t (((w.alloc (.cells #[.int .i64 t.op, .string t.atom.name, .slice pa t.atom.args.length ca, .string t.var, .slice pp t.parts.length cp] 34)).alloc (.cells #[] 9)).alloc (.cells #[] 9)) _ _ _ _ [] [] (hv.kept HB3.out) HL1.out HL2.out hw (by simpa using haz) (by simpa using hz))
  have e1 : (w.alloc (.cells #[.int .i64 t.op, .string t.atom.name, .slice pa t.atom.args.length ca, .string t.var, .slice pp t.parts.length cp] 34)).heap.size = w.heap.size + 1 := by simp
  have e2 : ((w.alloc (.cells #[.int .i64 t.op, .string t.atom.name, .slice pa t.atom.args.length ca, .string t.var, .slice pp t.parts.length cp] 34)).alloc (.cells #[] 9)).heap.size = w.heap.size + 1 + 1 := by simp
  rw [e1, e2] at HC
  obtain ⟨b0, b1, b2, b3, b4, b5⟩ := H2.out.kept ((((Below.refl _ _).alloc (Nat.le_refl _) (.cells #[] 9))).alloc (by simp) (.cells #[] 9))
  obtain ⟨c0, c1, c2, c3, c4, c5⟩ := H2.out
  obtain ⟨d0, d1, d2, d3, d4, d5⟩ := H2.out.kept ((Below.refl _ _).alloc (Nat.le_refl _) (.cells #[] 9))
  clear hv e1 e2 HL1 HL2
  go_enter Tryz.func46, Tryz.ntmps46

  go_wp2_with fail
  refine HC.out.mono ?_
  rintro e w2 ⟨v2, rfl, hv2, hb2⟩
  have HR : Hid (FvEnd t [] [] w (.returned v2) w2) := Lib.hid ⟨_, rfl, hv2, carry_below HB3.out (Nat.le_refl _) hb2⟩
  obtain ⟨b3, c3, rfl, _⟩ := hv2
  go_wp2
  go_ret
  exact HR.out

/-- What the model answers. -/
def fvA (t : Fm) : List ByteArray := if fgoodB t then t.fv [] [] else []
def SFvEnd (t : Fm) (w : World) (e : Ending) (w' : World) : Prop := ∃ v, e = .returned (.tuple #[v, .bool (fgoodB t)]) ∧ LV w' v (fvA t) ∧ Below w.heap.size w w'

end Go.Proofs.YtdpeanpmjhpblaaGreat
