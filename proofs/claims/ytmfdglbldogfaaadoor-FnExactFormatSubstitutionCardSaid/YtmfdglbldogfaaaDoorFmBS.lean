/- FormatSubstitution, the model's: a contract, for bindings of at most 1048576 names' bytes, bindings and arguments. -/
import Derived.Test.YtmfdglbldogfaaaDoorSubS
import Derived.Test.YtmfdglbldogfaaaDoorFmBM
import Derived.Test.YtmfdglbldogfaaaDoorFmtE
namespace Go.Proofs.YtmfdglbldogfaaaDoor
open Go.RowKit
set_option linter.unusedVariables false

theorem good_nodes {t : Tm} (h : goodB t = true) : t.nodesB = true := by
  unfold goodB at h; simp only [Bool.and_eq_true] at h; exact h.2
theorem wt_all {l : List Bd} {k : Nat} {d : Bd} (h : l[k]? = some d) (hw : wtB l ≤ 1048576) : d.tm.txt.length ≤ 4000000 ∧ d.var.size ≤ 1048576 := by
  have h1 := wtB_tm (mem_of_at h); have h2 := d.tm.txt_wt; have h3 := wtB_var (mem_of_at h)
  exact ⟨by omega, by omega⟩

set_option maxRecDepth 100000 in
set_option maxHeartbeats 4000000 in
theorem specFmtSub_any (l : List Bd) (w : World) (v : Value) (hv : BdS w v l) (hw : wtB l ≤ 1048576) :
    Calls Tryd.prog 5 #[.agg #[v]] w (Ans (.tuple #[.string (fmtB l), .bool (goodS l)]) w) := by
  have hl6 : l.length ≤ 1048576 := Nat.le_trans (wtB_len l) hw
  have HW := Lib.hid hw
  obtain ⟨a, c, rfl⟩ := hv.is_slice
  have HV := Lib.hid hv
  have H1 := Lib.hid (oner_new w (.slice a l.length c) 30 _ rfl)
  have HB0 := Lib.hid ((Below.refl w.heap.size w).alloc (Nat.le_refl _) (.cells #[.slice a l.length c] 30))
  clear hv hw
  obtain ⟨b0, b1⟩ := H1.out
  go_enter Tryd.func5, Tryd.ntmps5
  go_wp2_with fail
  refine (l4Good_any l _ _ (HV.out.alloc _) HW.out).mono ?_
  rintro e w1 ⟨rfl, hb⟩
  have HB1 := Lib.hid (carry_below HB0.out (Nat.le_refl _) hb)
  have H11 := Lib.hid (H1.out.kept hb)
  clear hb b0 b1
  obtain ⟨b0, b1⟩ := H11.out
  cases hg : goodS l with
  | false =>
    have HF := Lib.hid (fmtB_no hg)
    have HG := Lib.hid hg
    clear hg
    go_wp2
    go_ret2
    exact ⟨ret_strb HF.out.symm HG.out.symm, HB1.out⟩
  | true =>
    have HF := Lib.hid (fmtB_yes hg)
    have HG := Lib.hid hg
    have HP0 : Hid ((⟨#[]⟩ : ByteArray) = bs (sbT (l.take 0))) := Lib.hid (by simp [sbT, bs])
    clear hg
    go_wp2
    go_loopw [4, 5] (fun n i wr => ∃ (k : Nat) (p : ByteArray), k ≤ l.length ∧ i = .int .i64 k ∧ n = .string p ∧ p = bs (sbT (l.take k)) ∧ Oner wr w.heap.size (.slice a l.length c) ∧ Below w.heap.size w wr) (fun _ i _ => l.length - (intOf i).toNat)
    case atStart => exact ⟨0, _, Nat.zero_le _, rfl, rfl, HP0.out, H11.out, HB1.out⟩
    case round =>
      obtain ⟨k, p, hk, rfl, rfl, hq, hone, hbel⟩ := hrel
      have HQ := Lib.hid hq
      have hps : p.size ≤ 4000000 := by have h1 := sbT_len_take l k; have h2 := sbT_len l; have h3 := HW.out; rw [hq, bs_size]; omega
      clear hq
      have HB := Lib.hid hbel
      have H1W := Lib.hid hone
      clear hone hbel b0 b1
      by_cases hlt : k < l.length
      · obtain ⟨d, hd⟩ : ∃ d, l[k]? = some d := ⟨_, List.getElem?_eq_getElem hlt⟩
        obtain ⟨b, off, rfl, va, c0, c1, c2, hva⟩ := HV.out.get hd
        obtain ⟨pa, ca, rfl⟩ := hva.is_slice
        have HVA := Lib.hid (hva.kept HB.out)
        have HD := Lib.hid hd
        obtain ⟨q, hq⟩ : ∃ q, q = bs d.tm.txt := ⟨_, rfl⟩
        have hqs : q.size ≤ 4000000 := by rw [hq, bs_size]; exact (wt_all hd HW.out).1
        have hvs : d.var.size ≤ 1048576 := (wt_all hd HW.out).2
        have HC : Hid (∀ W, Below wr.heap.size wr W → Calls Tryd.prog 11 #[.agg #[.string d.tm.name, .slice pa d.tm.args.length ca]] W (Ans (.string q) W)) := Lib.hid (fun W hW => by
          rw [hq]; exact l3Term_any d.tm W _ (HVA.out.kept hW) (Nat.le_trans (wtB_tm (mem_of_at HD.out)) HW.out) (good_nodes (okAt_good (goodS_at HG.out HD.out))))
        have HQS := Lib.hid hq
        have hB0 : Below wr.heap.size wr wr.drew := (Below.refl _ _).drew
        obtain ⟨d0, d1⟩ := H1W.out.drew
        have c0' := carry_cell c0 HB.out.drew
        have c1' := carry_cell c1 HB.out.drew
        have c2' := carry_cell c2 HB.out.drew
        have e0 := H1W.out.1
        have hi1 : (k : Int) < (l.length : Int) := by omega
        have hi0 : (0 : Int) ≤ (k : Int) := by omega
        clear hd hva c0 c1 c2 hq
        by_cases hk0 : k = 0
        · have hk0' : ¬ (0 : Int) < (k : Int) := by omega
          have HN : Hid (p ++ d.var ++ ⟨#[58, 61]⟩ ++ q = bs (sbT (l.take (k + 1)))) := Lib.hid (by
            have h1 := HD.out
            subst hk0
            rw [HQS.out, sb_put HQ.out d, sbT_first h1]; simp [sbT])
          clear hk0
          have hn1 : ¬ 9223372036854775807 < p.size + d.var.size := by omega
          have hn2 : ¬ 9223372036854775807 < p.size + d.var.size + 2 := by omega
          have hn3 : ¬ 9223372036854775807 < p.size + d.var.size + 2 + q.size := by omega
          go_wp2_with fail
          go_region_held3 (fun w' => w'.cell? ⟨w.heap.size, 0, none⟩ = some (.slice (some ⟨b, off, none⟩) l.length c) ∧ w'.cell? ⟨b, off + k * 3, none⟩ = some (.string d.var) ∧ w'.cell? ⟨b, off + k * 3 + 1, none⟩ = some (.string d.tm.name) ∧ w'.cell? ⟨b, off + k * 3 + 2, none⟩ = some (.slice pa d.tm.args.length ca) ∧ Below wr.heap.size wr w') (first | exact ⟨by assumption, by assumption, by assumption, by assumption, by assumption⟩ | go_keep) (first | (go_at_call 11; refine (HC.out _ (by assumption)).mono ?_; rintro e w6 ⟨rfl, hb⟩; have d0 := carry_cell' hb d0; have c0' := carry_cell' hb c0'; have c1' := carry_cell' hb c1'; have c2' := carry_cell' hb c2'; have hB := carry_below hB0 (Nat.le_refl _) hb; clear hb))
          have HB2 : Hid (Below w.heap.size w w6) := Lib.hid (HB.out.trans (hB.mono HB.out.size))
          have HO2 : Hid (Oner w6 w.heap.size (.slice (some ⟨b, off, none⟩) l.length c)) := Lib.hid (H1W.out.kept hB)
          go_wp2
          go_roundw
          case rel => exact ⟨k + 1, _, by omega, by go_num, rfl, HN.out, HO2.out, HB2.out⟩
          case measure => simp [intOf]; omega
        · have hk0' : (0 : Int) < (k : Int) := by omega
          have HN : Hid (p ++ ⟨#[59]⟩ ++ d.var ++ ⟨#[58, 61]⟩ ++ q = bs (sbT (l.take (k + 1)))) := Lib.hid (by
            have h2 : p ++ ⟨#[59]⟩ = bs (sbT (l.take k) ++ [59]) := by rw [HQ.out, ← bs_append]; rfl
            rw [HQS.out, sb_put h2 d, sbT_next HD.out (by omega)]; simp)
          clear hk0
          have hn1 : ¬ 9223372036854775807 < p.size + 1 + d.var.size := by omega
          have hn2 : ¬ 9223372036854775807 < p.size + 1 + d.var.size + 2 := by omega
          have hn3 : ¬ 9223372036854775807 < p.size + 1 + d.var.size + 2 + q.size := by omega
          go_wp2_with fail
          go_region_held3 (fun w' => w'.cell? ⟨w.heap.size, 0, none⟩ = some (.slice (some ⟨b, off, none⟩) l.length c) ∧ w'.cell? ⟨b, off + k * 3, none⟩ = some (.string d.var) ∧ w'.cell? ⟨b, off + k * 3 + 1, none⟩ = some (.string d.tm.name) ∧ w'.cell? ⟨b, off + k * 3 + 2, none⟩ = some (.slice pa d.tm.args.length ca) ∧ Below wr.heap.size wr w') (first | exact ⟨by assumption, by assumption, by assumption, by assumption, by assumption⟩ | go_keep) (first | (go_at_call 11; refine (HC.out _ (by assumption)).mono ?_; rintro e w6 ⟨rfl, hb⟩; have d0 := carry_cell' hb d0; have c0' := carry_cell' hb c0'; have c1' := carry_cell' hb c1'; have c2' := carry_cell' hb c2'; have hB := carry_below hB0 (Nat.le_refl _) hb; clear hb))
          have HB2 : Hid (Below w.heap.size w w6) := Lib.hid (HB.out.trans (hB.mono HB.out.size))
          have HO2 : Hid (Oner w6 w.heap.size (.slice (some ⟨b, off, none⟩) l.length c)) := Lib.hid (H1W.out.kept hB)
          go_wp2
          go_roundw
          case rel => exact ⟨k + 1, _, by omega, by go_num, rfl, HN.out, HO2.out, HB2.out⟩
          case measure => simp [intOf]; omega
      · have hke : k = l.length := by omega
        have HF2 : Hid (p = fmtB l) := Lib.hid (by rw [HF.out, HQ.out, sbT_all (by omega)])
        obtain ⟨b0, b1⟩ := H1W.out
        go_wp2
        go_ret2
        exact ⟨ret_strb HF2.out HG.out.symm, HB.out⟩

end Go.Proofs.YtmfdglbldogfaaaDoor
