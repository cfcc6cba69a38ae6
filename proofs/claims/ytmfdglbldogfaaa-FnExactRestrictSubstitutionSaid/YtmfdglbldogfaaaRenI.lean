/- IsRenaming, the program's: a contract, for bindings of at most 1048576 names' bytes, bindings and arguments. -/
import Derived.Test.YtmfdglbldogfaaaSubP
import Derived.Test.YtmfdglbldogfaaaRenM
import Derived.Test.YtmfdglbldogfaaaShelf
import Derived.OwnWalk
import Derived.RangeFuncBox
namespace Go.Proofs.Ytmfdglbldogfaaa
open Go.RowKit
set_option linter.unusedVariables false

theorem ret_bbI {a b c d : Bool} (h : a = b) (k : c = d) : Ending.returned (.tuple #[.bool a, .bool c]) = .returned (.tuple #[.bool b, .bool d]) := by rw [h, k]
theorem infoStrR : (Try.prog.info? 9).map (fun i => (i.zero, i.size, i.bytes)) = some (some (.string ByteArray.empty), 1, 16) := by kernel_rfl

theorem contains_new (l : List Bd) (d : Bd) (k : Nat) (hk : k ≤ l.length) : Lib.containsS ((l.take k).map fun x => x.tm.name) d.tm.name = !newS l d k := by
  cases h : newS l d k with
  | false =>
    show _ = true
    rw [Lib.containsS_iff]
    unfold newS at h
    rw [List.all_eq_false] at h
    obtain ⟨j, hj, hn⟩ := h
    have hjk := List.mem_range.1 hj
    obtain ⟨p, hp⟩ : ∃ p, l[j]? = some p := ⟨_, List.getElem?_eq_getElem (by omega)⟩
    simp only [hp, Bool.not_eq_true', Bool.not_eq_false] at hn
    have e : p.tm.name = d.tm.name := toList_inj (eq_of_beq hn)
    rw [← e]
    exact List.mem_map.2 ⟨p, List.mem_of_getElem? (by rw [List.getElem?_take, if_pos hjk]; exact hp), rfl⟩
  | true =>
    show _ = false
    rw [← Bool.not_eq_true, Lib.containsS_iff]
    intro hm
    obtain ⟨p, hp, e⟩ := List.mem_map.1 hm
    obtain ⟨j, hj⟩ := List.getElem?_of_mem hp
    rw [List.getElem?_take] at hj
    split at hj
    · rename_i hjk
      rw [newS_no hj hjk (by unfold sameB; rw [e]; simp)] at h
      cases h
    · cases hj

theorem contains_any (base : Nat) (v : Value) (xs : List ByteArray) (x : ByteArray) (w : World) (h : w.ownsRow base 9 1 v xs.length (xs.map Value.string)) (hn : xs.length ≤ 1048576) :
    Calls Try.prog 91 #[v, .string x] w fun e w' => e = .returned (.bool (Lib.containsS xs x)) ∧ w' = w := by
  rcases h.2 with ⟨rfl, h0⟩ | ⟨g, cap, cur, rfl, _⟩
  · have : xs = [] := List.length_eq_zero_iff.1 h0
    subst this
    exact Try.slices_Contains_string_empty none 0 x w
  · have hc := Try.slices_Contains_string g 0 xs.length cap xs x w (Nat.le_refl _) (by omega) (fun j hj => by
      have h1 := h.cellAt j (by omega)
      rw [Nat.zero_add, h1]
      simp [hj])
    rw [List.take_length] at hc
    exact hc

def NRow (B : Nat) (wr : World) (l : List Bd) (k : Nat) (v : Value) : Prop := wr.ownsRow B 9 1 v k ((l.take k).map fun d => Value.string d.tm.name)

theorem NRow.shape {B : Nat} {wr : World} {l : List Bd} {k : Nat} {v : Value} (h : NRow B wr l k v) : ∃ a c, v = .slice a k c := by
  rcases h.2 with ⟨rfl, h0⟩ | ⟨g, cap, cur, rfl, _⟩
  · exact ⟨none, 0, by rw [h0]⟩
  · exact ⟨_, cap, rfl⟩

set_option maxRecDepth 100000 in
set_option maxHeartbeats 4000000 in
theorem implIsRenaming_any (l : List Bd) (w : World) (v : Value) (hv : BdS w v l) (hw : wtB l ≤ 1048576) :
    Calls Try.prog 41 #[.agg #[v]] w (Ans (.tuple #[.bool (ren l), .bool (goodS l)]) w) := by
  have hl6 : l.length ≤ 1048576 := Nat.le_trans (wtB_len l) hw
  obtain ⟨i0, hi, hz0, hz1, hz2⟩ := info_parts infoStrR
  have HW := Lib.hid hw
  obtain ⟨a, c, rfl⟩ := hv.is_slice
  have HV := Lib.hid hv
  have H1 := Lib.hid (oner_new w (.slice a l.length c) 29 _ rfl)
  have HB0 := Lib.hid ((Below.refl w.heap.size w).alloc (Nat.le_refl _) (.cells #[.slice a l.length c] 29))
  clear hv hw
  obtain ⟨b0, b1⟩ := H1.out
  go_enter Try.func41, Try.ntmps41
  go_wp2_with fail
  refine (implIsValidSub_any l _ _ (HV.out.alloc _) HW.out).mono ?_
  rintro e w1 ⟨rfl, hb⟩
  have HB1 := Lib.hid (carry_below HB0.out (Nat.le_refl _) hb)
  have H11 := Lib.hid (H1.out.kept hb)
  clear hb b0 b1
  obtain ⟨b0, b1⟩ := H11.out
  have hwz : w.heap.size < w1.heap.size := World.block_lt_of_cell? w1 _ b0
  cases hg : goodS l with
  | false =>
    have HF := Lib.hid (ren_bad hg)
    have HG := Lib.hid hg
    clear hg
    go_wp2
    go_ret2
    exact ⟨ret_bbI HF.out.symm HG.out.symm, HB1.out⟩
  | true =>
    have HF := Lib.hid (ren_good hg)
    have HG := Lib.hid hg
    clear hg
    have HN0 : Hid (NRow w1.heap.size (w1.alloc (.cells #[] 9)) l 0 (.slice (some ⟨w1.heap.size, 0, none⟩) 0 0)) := Lib.hid (World.ownsRow_lit w1 #[] 0 (Nat.le_refl _) (Nat.zero_le _) rfl)
    have HB2 := Lib.hid (HB1.out.alloc HB1.out.size (.cells #[] 9))
    have H12 := Lib.hid (H11.out.alloc (.cells #[] 9))
    go_wp2
    clear b0 b1
    go_loopw [4, 14] (fun z i wr => ∃ k : Nat, k ≤ l.length ∧ i = .int .i64 k ∧ renS l k = true ∧ NRow w1.heap.size wr l k z ∧ Oner wr w.heap.size (.slice a l.length c) ∧ Below w.heap.size w wr ∧ w1.heap.size ≤ wr.heap.size) (fun _ i _ => l.length - (intOf i).toNat)
    case atStart => exact ⟨0, Nat.zero_le _, rfl, by simp [renS], HN0.out, H12.out, HB2.out, by simp⟩
    case round =>
      obtain ⟨k, hk, rfl, hq, hrow, hone, hbel, hsz⟩ := hrel
      have HQ := Lib.hid hq
      have HB := Lib.hid hbel
      have H1W := Lib.hid hone
      have HROW := Lib.hid hrow
      obtain ⟨a2, c2, rfl⟩ := hrow.shape
      clear hq hbel hone hrow
      by_cases hlt : k < l.length
      · obtain ⟨d, hd⟩ : ∃ d, l[k]? = some d := ⟨_, List.getElem?_eq_getElem hlt⟩
        obtain ⟨b, off, rfl, va, c0, c1, c3, hva⟩ := HV.out.get hd
        obtain ⟨pa, ca, rfl⟩ := hva.is_slice
        have c0' := carry_cell c0 HB.out
        have c1' := carry_cell c1 HB.out
        have c3' := carry_cell c3 HB.out
        have HD := Lib.hid hd
        have HN := Lib.hid (renS_next hd)
        have hnm : d.tm.name.size ≤ maxLen := by have := wtB_tm (mem_of_at hd); have := Tm.wt_name d.tm; have := HW.out; unfold maxLen; omega
        have CV := Lib.hid (fun W => isVar_any d.tm.name W hnm)
        have HBA := Lib.hid (HB.out.alloc HB.out.size (.cells #[.string d.var, .string d.tm.name, .slice pa d.tm.args.length ca] 83))
        have X1 := thr_new wr (.string d.var) (.string d.tm.name) (.slice pa d.tm.args.length ca) 83 _ rfl
        have O1 := Lib.hid (H1W.out.alloc (.cells #[.string d.var, .string d.tm.name, .slice pa d.tm.args.length ca] 83))
        have HRA : Hid (NRow w1.heap.size (wr.alloc (.cells #[.string d.var, .string d.tm.name, .slice pa d.tm.args.length ca] 83)) l k (.slice a2 k c2)) := Lib.hid (World.ownsRow.alloc HROW.out _)
        obtain ⟨W1, hW1⟩ : ∃ W1, wr.alloc (.cells #[.string d.var, .string d.tm.name, .slice pa d.tm.args.length ca] 83) = W1 := ⟨_, rfl⟩
        have hWs : wr.heap.size + 1 = W1.heap.size := by rw [← hW1]; simp
        rw [hW1] at X1 HBA O1 HRA
        obtain ⟨x0, x1, x2, x3⟩ := X1
        clear hd hva c0 c1 c3
        go_wp2_with fail
        refine (CV.out _).mono ?_
        rintro e w2 ⟨rfl, rfl⟩
        cases hvv : varB d.tm.name with
        | false =>
          have HF2 : Hid (ren l = false) := Lib.hid (HF.out.trans (renS_no HD.out (renAt_v hvv)))
          clear hvv
          go_wp2
          go_ret2
          exact ⟨ret_bbI HF2.out.symm HG.out.symm, HBA.out⟩
        | true =>
          have HV1 := Lib.hid hvv
          clear hvv
          have CN : Hid (Calls Try.prog 91 #[.slice a2 k c2, .string d.tm.name] W1 fun e w' => e = .returned (.bool (!newS l d k)) ∧ w' = W1) := Lib.hid (by
            have hl : ((l.take k).map fun x => x.tm.name).length = k := by simp; omega
            have h := contains_any w1.heap.size (.slice a2 k c2) ((l.take k).map fun x => x.tm.name) d.tm.name W1 (by
              rw [hl, List.map_map]; exact HRA.out) (by omega)
            rw [contains_new l d k (by omega)] at h
            exact h)
          cases hnn : newS l d k with
          | false =>
            have HF2 : Hid (ren l = false) := Lib.hid (HF.out.trans (renS_no HD.out (renAt_n hnn)))
            rw [hnn] at CN
            clear hnn
            go_wp2_with fail
            refine CN.out.mono ?_
            rintro e w3 ⟨rfl, rfl⟩
            go_wp2
            go_ret2
            exact ⟨ret_bbI HF2.out.symm HG.out.symm, HBA.out⟩
          | true =>
            have HF2 : Hid (renS l (k + 1) = true) := Lib.hid (by rw [HN.out, HQ.out, renAt_y HV1.out hnn]; rfl)
            have HNX : Hid ((l.take k).map (fun x => Value.string x.tm.name) ++ [.string d.tm.name] = (l.take (k + 1)).map (fun x => Value.string x.tm.name)) := Lib.hid (by rw [List.take_add_one, HD.out]; simp)
            rw [hnn] at CN
            clear hnn
            go_wp2_with fail
            refine CN.out.mono ?_
            rintro e w3 ⟨rfl, rfl⟩
            have hz3 : w1.heap.size ≤ w3.heap.size := by omega
            go_wp2_with (at_builtin; go_loud (refine wpList_append_own _ rfl _ _ 50 rfl w1.heap.size 9 i0 (.string ByteArray.empty) 1 16 Try.underlying50 hi hz0 hz1 hz2 rfl (by decide) _ _ _ rfl (HRA.out.alloc _) ⟨w3.heap.size, 0, none⟩ 1 1 [.string d.tm.name] rfl rfl (cell_one_new _ _ _) (by simp [Value.oneCell']) (by unfold maxLen; omega) (by omega) (by simp; omega) ?_; intro v2 w4 hown2 hg2 _; obtain ⟨g2, cap2, rfl⟩ := ownsRow_succ hown2; have HO2 := Lib.hid hown2; have HG2 := Lib.hid hg2; clear hown2 hg2))
            go_roundw
            case rel =>
              refine ⟨k + 1, by omega, by go_num, HF2.out, ?_, ?_, ?_, ?_⟩
              · have h := HO2.out
                unfold NRow
                rw [← HNX.out]
                exact h
              · exact ⟨(HG2.out.cell ((O1.out.alloc _).1) (fun e => by have h : w1.heap.size ≤ w.heap.size := (HRA.out.lt _ e.symm).1; omega)), fun j => by
                  have h := O1.out.alloc (.cells #[.string d.tm.name] 9)
                  exact (World.frozen?_of_block (w := w3.alloc (.cells #[.string d.tm.name] 9)) (a := ⟨w.heap.size, j, none⟩) (HG2.out.block w.heap.size (by simp; omega) (fun e => by have := (HRA.out.lt _ e.symm).1; omega))).trans (h.2 j)⟩
              · exact (HBA.out.alloc HBA.out.size _).grown HG2.out (by have := HBA.out.size; simp; omega) (fun g hg => by have := (HRA.out.lt g hg).1; omega)
              · have := HG2.out.size; simp at this; omega
            case measure => simp [intOf]; omega
      · have hke : k = l.length := by omega
        subst hke
        have HF2 : Hid (ren l = true) := Lib.hid (HF.out.trans HQ.out)
        go_wp2
        go_ret2
        exact ⟨ret_bbI HF2.out.symm HG.out.symm, HB.out⟩

end Go.Proofs.Ytmfdglbldogfaaa
