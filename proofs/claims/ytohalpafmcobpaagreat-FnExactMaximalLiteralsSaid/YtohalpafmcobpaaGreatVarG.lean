/- Several texts in one: each says what it proves. No condition but theirs. -/
import Derived.Test.YtohalpafmcobpaaGreatStrsF
import Derived.Deep.AppendLies
import Derived.Deep.RegionLaw
import Derived.Maps.AppendAt
import Derived.RangeFuncBox
import Derived.Test.YtohalpafmcobpaaGreatNameS
import Derived.Test.YtohalpafmcobpaaGreatSizes
import Derived.Test.YtohalpafmcobpaaGreatSpecV
import Derived.Test.YtohalpafmcobpaaGreatIter
import Derived.Test.YtohalpafmcobpaaGreatFmtS
/- The model's insertion of a string into an ascending list: a contract. -/
namespace Go.Proofs.YtohalpafmcobpaaGreat
open Go.RowKit
set_option linter.unusedVariables false

/-- A slice, not nil, that starts at its block's first cell and reads as these strings. -/
def LV (w : World) (v : Value) (ss : List ByteArray) : Prop :=
  ∃ b cp, v = .slice (some ⟨b, 0, none⟩) ss.length cp ∧ ss.length ≤ cp ∧ b < w.heap.size ∧ ∀ i, i < ss.length → w.cell? ⟨b, i, none⟩ = some (.string (ss.getD i ByteArray.empty))
theorem LV.kept {w w' : World} {v : Value} {ss : List ByteArray} (h : LV w v ss) (hb : Below w.heap.size w w') : LV w' v ss := by
  obtain ⟨b, cp, hv, hc, hl, hx⟩ := h
  exact ⟨b, cp, hv, hc, Nat.lt_of_lt_of_le hl hb.size, fun i hi => carry_cell (hx i hi) hb⟩
theorem LV.of_own {w : World} {base g cap : Nat} {ss : List ByteArray} (h : w.ownsRow base 9 1 (.slice (some ⟨g, 0, none⟩) ss.length cap) ss.length (ss.map Value.string)) : LV w (.slice (some ⟨g, 0, none⟩) ss.length cap) ss := by
  refine ⟨g, cap, rfl, owns_cap h _ _ _ rfl, ?_, fun i hi => ?_⟩
  · exact (h.lt g (by simp [Value.ownBlock])).2
  · rw [h.cellAt i (by omega), List.getElem?_map, List.getElem?_eq_getElem hi, List.getD_eq_getElem?_getD, List.getElem?_eq_getElem hi]
    rfl

theorem str_news {w W : World} {b k : Nat} {ss : List ByteArray} (hc : ∀ i, i < ss.length → w.cell? ⟨b, i, none⟩ = some (.string (ss.getD i ByteArray.empty))) (hB : Below w.heap.size w W) (n2 : List ByteArray) (hn : ∀ j x, n2[j]? = some x → ss[k + j]? = some x) :
    ∀ j u, (n2.map Value.string)[j]? = some u → W.cell? ((⟨b, k, none⟩ : Addr).add j) = some u := by
  intro j u hj
  rw [List.getElem?_map] at hj
  cases hx : n2[j]? with
  | none => rw [hx] at hj; cases hj
  | some x =>
    rw [hx] at hj
    cases hj
    have h := hn j x hx
    have hl := (List.getElem?_eq_some_iff.1 h).1
    have h2 := carry_cell (hc (k + j) hl) hB
    rw [List.getD_eq_getElem?_getD, h, Option.getD_some] at h2
    unfold Addr.add
    split
    · rename_i e
      subst e
      exact h2
    · exact h2

theorem one_strs (l : List ByteArray) : ∀ u ∈ l.map Value.string, u.oneCell' = true := fun u hu => by
  obtain ⟨x, _, rfl⟩ := List.mem_map.1 hu; rfl

theorem cc1 (w : World) (s : ByteArray) : ∀ (j : Nat) (u : Value), [Value.string s][j]? = some u → ((w.alloc (.cells #[] 9)).alloc (.cells #[.string s] 9)).cell? ((⟨w.heap.size + 1, 0, none⟩ : Addr).add j) = some u := fun j u hj => by
  have h := cell_one_new (w.alloc (.cells #[] 9)) (.string s) 9 j u hj
  have e : (w.alloc (.cells #[] 9)).heap.size = w.heap.size + 1 := by simp
  rw [e] at h
  exact h
theorem own_b (w : World) (s : ByteArray) : ((w.alloc (.cells #[.string s] 9)).alloc (.cells #[] 9)).ownsRow w.heap.size 9 1 (.slice (some ⟨w.heap.size + 1, 0, none⟩) 0 0) 0 [] := by
  have h := World.ownsRow_lit (base := w.heap.size) (size := 1) (e := 9) (w.alloc (.cells #[.string s] 9)) #[] 0 (by simp) (Nat.zero_le _) rfl
  have e : (w.alloc (.cells #[.string s] 9)).heap.size = w.heap.size + 1 := by simp
  rw [e] at h
  exact h
theorem add_block (p : Addr) (j : Nat) : (p.add j).block = p.block := by
  unfold Addr.add
  split <;> rfl
theorem c_after {w w7 : World} {s : ByteArray} (hg : ((w.alloc (.cells #[] 9)).alloc (.cells #[.string s] 9)).drew.grownBy w7 (some w.heap.size)) : ∀ (j : Nat) (u : Value), [Value.string s][j]? = some u → w7.cell? ((⟨w.heap.size + 1, 0, none⟩ : Addr).add j) = some u := fun j u hj =>
  hg.cell (carry_cell (cc1 w s j u hj) (Below.refl _ _).drew) (by rw [add_block]; simp)
theorem c_before {w w7 : World} {s : ByteArray} (hg : ((w.alloc (.cells #[.string s] 9)).alloc (.cells #[] 9)).drew.grownBy w7 (some (w.heap.size + 1))) : ∀ (j : Nat) (u : Value), [Value.string s][j]? = some u → w7.cell? ((⟨w.heap.size, 0, none⟩ : Addr).add j) = some u := fun j u hj =>
  hg.cell (carry_cell (cell_one_new w (.string s) 9 j u hj) ((Below.refl _ _).alloc (Nat.le_refl _) _).drew) (by rw [add_block]; simp)

theorem step_app {P : Program} (w : World) {ops : Array Oper} {o : Oper} {a : Act} {K : Act → World → Prop} {Q : Exit → Act → World → Prop} {E : Prop} (hgd : o.guard = none) (s x : Operand) (t : TypeId)
    (ho : o.op = .call { callee := .builtin .append, args := #[s, x], argTypes := #[t, t] })
    (base : Nat) (e : TypeId) (i : TypeInfo) (z : Value) (size bytes : Nat) (ht : P.underlying t = some (.slice e)) (hi : P.info? e = some i) (hz : i.zero = some z)
    (hsize : i.size = size) (hby : i.bytes = bytes) (hzs : z.cells.size = size) (hsz : 0 < size)
    (g0 cap0 : Nat) (n : Nat) (xs : List Value) (hs : a.eval s = .slice (some ⟨g0, 0, none⟩) n cap0) (hown : w.ownsRow base e size (.slice (some ⟨g0, 0, none⟩) n cap0) n xs)
    (ad : Addr) (m c : Nat) (news : List Value) (hx : a.eval x = .slice (some ad) m c) (hl : news.length = m * size) (hnews : ∀ j u, news[j]? = some u → w.cell? (ad.add j) = some u) (h1 : ∀ u ∈ news, u.oneCell' = true)
    (h63 : n + m ≤ maxLen) (hbytes : (n + m) * bytes ≤ 140737488355328) (hbase : base ≤ w.heap.size)
    (h : ∀ g cap w', w'.ownsRow base e size (.slice (some ⟨g, 0, none⟩) (n + m) cap) (n + m) (xs ++ news) → w.grownBy w' (some g0) → K (a.put o.dst (.slice (some ⟨g, 0, none⟩) (n + m) cap)) w') :
    if Region.wanted o (yielded ops a.tmps) = true then Oper.wp P o a w K Q else E := by
  have hw : Region.wanted o (yielded ops a.tmps) = true := by simp [Region.wanted, hgd]
  rw [if_pos hw]
  refine wp_append_own w s x t ho base e i z size bytes ht hi hz hsize hby hzs hsz _ n xs hs hown ad m c news hx hl hnews h1 h63 hbytes hbase fun v' w' h2 h3 h4 => ?_
  rcases id h2.2 with ⟨rfl, h0⟩ | ⟨g, cap, cur, rfl, _⟩
  · have := h4.1 rfl
    simp at this
  · exact h _ _ _ h2 h3

theorem take_at {ss : List ByteArray} (k : Nat) : ∀ j x, (ss.take k)[j]? = some x → ss[0 + j]? = some x := fun j x h => by
  rw [List.getElem?_take] at h
  rw [Nat.zero_add]
  split at h
  · exact h
  · cases h
theorem drop_at {ss : List ByteArray} (k : Nat) : ∀ j x, (ss.drop k)[j]? = some x → ss[k + j]? = some x := fun j x h => by
  rwa [List.getElem?_drop] at h

theorem cut_lo {b n cp k : Nat} (h : k ≤ n) (hc : n ≤ cp) (W : World) : (Instr.slice 22 (.slice (some ⟨b, 0, none⟩) n cp) none (some (.int .i64 (k : Int))) none).run Tryz.prog W = .ok (.slice (some ⟨b, 0, none⟩) k cp) W := by
  have h := run_slice_h (P := Tryz.prog) W 22 (some ⟨b, 0, none⟩) n cp (by kernel_rfl) .i64 (k : Int) (by omega) (by omega)
  rw [h]
  have e : (sizeOf (Tryz.prog.elem 22)).run Tryz.prog W = .ok 1 W := by kernel_rfl
  rw [e]
  simp [Result.andThen, sliced]
  intro _; rfl
theorem cut_hi {b n cp k : Nat} (h : k ≤ n) (hc : n ≤ cp) (W : World) : (Instr.slice 22 (.slice (some ⟨b, 0, none⟩) n cp) (some (.int .i64 (k : Int))) none none).run Tryz.prog W = .ok (.slice (some ⟨b, if cp = k then 0 else k, none⟩) (n - k) (cp - k)) W := by
  have h := run_slice_l (P := Tryz.prog) W 22 (some ⟨b, 0, none⟩) n cp (by kernel_rfl) .i64 (k : Int) (by omega) (by omega)
  rw [h]
  have e : (sizeOf (Tryz.prog.elem 22)).run Tryz.prog W = .ok 1 W := by kernel_rfl
  rw [e]
  simp only [Result.andThen, sliced, Int.toNat_natCast]
  split <;> simp [Addr.add]
  omega

theorem LV.of_own' {w : World} {base g cap n : Nat} {ss : List ByteArray} (hn : ss.length = n) (h : w.ownsRow base 9 1 (.slice (some ⟨g, 0, none⟩) n cap) n (ss.map Value.string)) : LV w (.slice (some ⟨g, 0, none⟩) n cap) ss := by
  subst hn; exact LV.of_own h

/-- The model's insertion. -/
def lessB (a b : ByteArray) : Bool := Op.bytesLess a.toList b.toList
def putS (s : ByteArray) : List ByteArray → List ByteArray
  | [] => [s]
  | q :: r => if lessB q s then q :: putS s r else if q.toList == s.toList then q :: r else s :: q :: r
theorem putS_skip (s : ByteArray) : ∀ (ss : List ByteArray) (k : Nat), k ≤ ss.length → (∀ j, j < k → lessB (ss.getD j ByteArray.empty) s = true) → putS s ss = ss.take k ++ putS s (ss.drop k)
  | ss, 0, _, _ => by simp
  | [], k + 1, h, _ => by simp at h
  | q :: r, k + 1, h, hj => by
    have h0 := hj 0 (by omega)
    simp at h0
    rw [putS, if_pos h0, putS_skip s r k (by simpa using h) (fun j hjk => by have := hj (j + 1) (by omega); simpa using this)]
    rfl
theorem putS_end {s : ByteArray} {ss : List ByteArray} {k : Nat} (hk : k ≤ ss.length) (hj : ∀ j, j < k → lessB (ss.getD j ByteArray.empty) s = true) (he : k = ss.length) : putS s ss = ss.take k ++ [s] ++ ss.drop k := by
  rw [putS_skip s ss k hk hj, List.drop_of_length_le (by omega)]
  simp [putS]
theorem putS_here {s : ByteArray} {ss : List ByteArray} {k : Nat} (hk : k < ss.length) (hj : ∀ j, j < k → lessB (ss.getD j ByteArray.empty) s = true) (h1 : lessB (ss.getD k ByteArray.empty) s = false) (h2 : ((ss.getD k ByteArray.empty).toList == s.toList) = false) : putS s ss = ss.take k ++ [s] ++ ss.drop k := by
  rw [putS_skip s ss k (by omega) hj]
  have e : ss.drop k = ss.getD k ByteArray.empty :: ss.drop (k + 1) := by rw [List.drop_eq_getElem_cons hk]; simp [hk]
  rw [e, putS, if_neg (by rw [h1]; simp), if_neg (by rw [h2]; simp)]
  simp
theorem putS_same {s : ByteArray} {ss : List ByteArray} {k : Nat} (hk : k < ss.length) (hj : ∀ j, j < k → lessB (ss.getD j ByteArray.empty) s = true) (h1 : lessB (ss.getD k ByteArray.empty) s = false) (h2 : ((ss.getD k ByteArray.empty).toList == s.toList) = true) : putS s ss = ss := by
  rw [putS_skip s ss k (by omega) hj]
  have e : ss.drop k = ss.getD k ByteArray.empty :: ss.drop (k + 1) := by rw [List.drop_eq_getElem_cons hk]; simp [hk]
  rw [e, putS, if_neg (by rw [h1]; simp), if_pos h2, ← e, List.take_append_drop]

set_option maxRecDepth 100000 in
set_option maxHeartbeats 4000000 in
theorem put_any (ss : List ByteArray) (v : Value) (s : ByteArray) (w : World) (hv : LV w v ss) (hn : ss.length ≤ 1048576) :
    Calls Tryz.prog 163 #[v, .string s] w fun e w' => ∃ v', e = .returned v' ∧ LV w' v' (putS s ss) ∧ Below w.heap.size w w' := by
  obtain ⟨i0, hi, hz0, hz1, hz2⟩ := info_parts infoStr
  have HV := Lib.hid hv
  obtain ⟨b, cp, rfl, hcp, hbw, hc⟩ := hv
  have HC := Lib.hid hc
  clear hc
  go_enter Tryz.func163, Tryz.ntmps163
  go_wp2
  go_loop [5] (fun i => ∃ k : Nat, k ≤ ss.length ∧ i = .int .i64 k ∧ ∀ j, j < k → lessB (ss.getD j ByteArray.empty) s = true) (fun i => ss.length - (intOf i).toNat)
  case atStart => exact ⟨0, Nat.zero_le _, rfl, fun j hj => absurd hj (Nat.not_lt_zero _)⟩
  case round =>
    obtain ⟨k, hk, rfl, hj⟩ := hrel
    have HJ := Lib.hid hj
    clear hj
    have T1 : Hid (∀ j x, (ss.take k)[j]? = some x → ss[0 + j]? = some x) := Lib.hid (take_at k)
    have T2 : Hid (∀ j x, (ss.drop k)[j]? = some x → ss[k + j]? = some x) := Lib.hid (drop_at k)
    have L1 : ((ss.take k).map Value.string).length = k * 1 := by simp; omega
    have L2 : ((ss.drop k).map Value.string).length = (ss.length - k) * 1 := by simp
    have HL1 := Lib.hid L1
    have HL2 := Lib.hid L2
    have hs1 := cut_lo (b := b) hk hcp
    have hs2 := cut_hi (b := b) hk hcp
    obtain ⟨o2, ho2⟩ : ∃ o2, o2 = if cp = k then 0 else k := ⟨_, rfl⟩
    rw [← ho2] at hs2
    have N2 : Hid (∀ W, Below w.heap.size w W → ∀ j u, ((ss.drop k).map Value.string)[j]? = some u → W.cell? ((⟨b, o2, none⟩ : Addr).add j) = some u) := Lib.hid (fun W hW => by
      by_cases e : cp = k
      · have : ss.drop k = [] := List.drop_of_length_le (by omega)
        intro j u hj
        rw [this] at hj; cases hj
      · rw [ho2, if_neg e]; exact str_news HC.out hW _ T2.out)
    obtain ⟨m2, hm2⟩ : ∃ m2, m2 = ss.length - k := ⟨_, rfl⟩
    rw [← hm2] at hs2 HL2
    have HM := Lib.hid hm2
    have hm2b : m2 ≤ 1048576 := by omega
    clear L1 L2 ho2 hm2
    by_cases hlt : k < ss.length
    · have hcr := HC.out k hlt
      obtain ⟨q, hq⟩ : ∃ q, q = ss.getD k ByteArray.empty := ⟨_, rfl⟩
      rw [← hq] at hcr
      have HQ := Lib.hid hq
      clear hq
      cases h1 : Op.bytesLess q.toList s.toList with
      | true =>
        have HN : Hid (∀ j, j < k + 1 → lessB (ss.getD j ByteArray.empty) s = true) := Lib.hid (fun j hj => by
          by_cases e : j = k
          · rw [e, ← HQ.out]; exact h1
          · exact HJ.out j (by omega))
        clear hs1 hs2
        go_wp2
        go_round
        case rel => exact ⟨k + 1, by omega, by go_num, HN.out⟩
        case measure => simp [intOf]; omega
      | false =>
        cases h2 : (q.toList == s.toList) with
        | true =>
          have HE : Hid (putS s ss = ss) := Lib.hid (putS_same hlt HJ.out (by rw [← HQ.out]; exact h1) (by rw [← HQ.out]; exact h2))
          clear hs1 hs2
          go_wp2
          go_ret
          exact ⟨_, rfl, by rw [HE.out]; exact HV.out, Below.refl _ _⟩
        | false =>
          have HPUT : Hid (putS s ss = ss.take k ++ [s] ++ ss.drop k) := Lib.hid (putS_here hlt HJ.out (by rw [← HQ.out]; exact h1) (by rw [← HQ.out]; exact h2))
          go_wp2_with fail
          go_region_law (first
            | (refine step_app _ (by rfl) (.tmp 33) (.tmp 36) _ (by rfl) w.heap.size 9 i0 _ 1 16 Tryz.underlying22 hi hz0 hz1 hz2 rfl (Nat.one_pos) _ 0 0 [] (by rfl) (by repeat (first | exact own_b _ _ | exact World.ownsRow_lit _ #[] 0 (by simp) (Nat.zero_le _) rfl | with_reducible refine World.ownsRow.alloc ?_ _ | with_reducible refine World.ownsRow.drew ?_)) ⟨b, 0, none⟩ k cp ((ss.take k).map Value.string) (by rfl) HL1.out (str_news HC.out (by repeat (first | with_reducible exact Below.refl _ _ | with_reducible refine Below.alloc ?_ (by first | omega | (simp; done) | (simp; omega)) _ | with_reducible refine Below.drew ?_)) _ T1.out) (one_strs _) (by unfold maxLen; omega) (by omega) (by first | omega | (simp; done) | (simp; omega)) ?_; intro g7 c7 w7 hown7 hgrow7; have HO7 : Hid (w7.ownsRow w.heap.size 9 1 (.slice (some ⟨g7, 0, none⟩) k c7) k ((ss.take k).map Value.string)) := Lib.hid (by simpa using hown7); have HB7 : Hid (Below w.heap.size w w7) := Lib.hid (Below.grown (by repeat (first | with_reducible exact Below.refl _ _ | with_reducible refine Below.alloc ?_ (by first | omega | (simp; done) | (simp; omega)) _ | with_reducible refine Below.drew ?_)) hgrow7 (by first | omega | (simp; done) | (simp; omega)) (by simp)); have hz7 := HB7.out.size; (first | (have HC7 := Lib.hid (c_after hgrow7); clear hown7 hgrow7) | (have HC7 := Lib.hid (c_before hgrow7); clear hown7 hgrow7) | (clear hown7 hgrow7)))
            | (refine step_app _ (by rfl) (.tmp 37) (.tmp 39) _ (by rfl) w.heap.size 9 i0 _ 1 16 Tryz.underlying22 hi hz0 hz1 hz2 rfl (Nat.one_pos) g7 c7 k ((ss.take k).map Value.string) (by rfl) (by repeat (first | with_reducible exact HO7.out | with_reducible refine World.ownsRow.alloc ?_ _ | with_reducible refine World.ownsRow.drew ?_)) _ 1 1 [.string s] (by rfl) rfl (by first | exact HC7.out | exact cell_one_new _ _ _) (one_strs [s]) (by unfold maxLen; omega) (by omega) (by first | omega | (simp; done) | (simp; omega)) ?_; intro g8 c8 w8 hown8 hgrow8; have HO8 := Lib.hid hown8; have HG8 := Lib.hid hgrow8; have HB8 : Hid (Below w.heap.size w w8) := Lib.hid (Below.grown (by repeat (first | with_reducible exact HB7.out | with_reducible exact Below.refl _ _ | with_reducible refine Below.alloc ?_ (by first | omega | (simp; done) | (simp; omega)) _ | with_reducible refine Below.drew ?_)) hgrow8 (by first | omega | (simp; done) | (simp; omega)) (fun g hg => by cases hg; exact (HO7.out.lt g7 (by simp [Value.ownBlock])).1)); have hz8 := HB8.out.size; clear hown8 hgrow8)
            | (refine step_app _ (by rfl) (.tmp 40) (.tmp 43) _ (by rfl) w.heap.size 9 i0 _ 1 16 Tryz.underlying22 hi hz0 hz1 hz2 rfl (Nat.one_pos) g8 c8 (k + 1) ((ss.take k).map Value.string ++ [.string s]) (by rfl) (by repeat (first | with_reducible exact HO8.out | with_reducible refine World.ownsRow.alloc ?_ _ | with_reducible refine World.ownsRow.drew ?_)) ⟨b, o2, none⟩ m2 (cp - k) ((ss.drop k).map Value.string) (by rfl) HL2.out (N2.out _ (by repeat (first | with_reducible exact HB8.out | with_reducible exact Below.refl _ _ | with_reducible refine Below.alloc ?_ (by first | omega | (simp; done) | (simp; omega)) _ | with_reducible refine Below.drew ?_))) (one_strs _) (by unfold maxLen; omega) (by omega) (by first | omega | (simp; done) | (simp; omega)) ?_; intro g9 c9 w9 hown9 hgrow9; have HO9 := Lib.hid hown9; have HB9 : Hid (Below w.heap.size w w9) := Lib.hid (Below.grown (by repeat (first | with_reducible exact HB8.out | with_reducible exact Below.refl _ _ | with_reducible refine Below.alloc ?_ (by first | omega | (simp; done) | (simp; omega)) _ | with_reducible refine Below.drew ?_)) hgrow9 (by first | omega | (simp; done) | (simp; omega)) (fun g hg => by cases hg; exact (HO8.out.lt g8 (by simp [Value.ownBlock])).1)); clear hown9 hgrow9)
            | fail)
          all_goals
            have HE : Hid (LV w9 (.slice (some ⟨g9, 0, none⟩) (k + 1 + m2) c9) (putS s ss)) := Lib.hid (by
              refine LV.of_own' (base := w.heap.size) (by rw [HPUT.out]; simp; have := HM.out; omega) ?_
              have h := HO9.out
              rw [HPUT.out, List.map_append, List.map_append]
              exact h)
            have HZ := Lib.hid HB9.out
            clear hs1 hs2
            go_wp2
            go_ret
            exact ⟨_, rfl, HE.out, HZ.out⟩
    · have HPUT : Hid (putS s ss = ss.take k ++ [s] ++ ss.drop k) := Lib.hid (putS_end hk HJ.out (by omega))
      go_wp2_with fail
      go_region_law (first
        | (refine step_app _ (by rfl) (.tmp 33) (.tmp 36) _ (by rfl) w.heap.size 9 i0 _ 1 16 Tryz.underlying22 hi hz0 hz1 hz2 rfl (Nat.one_pos) _ 0 0 [] (by rfl) (by repeat (first | exact own_b _ _ | exact World.ownsRow_lit _ #[] 0 (by simp) (Nat.zero_le _) rfl | with_reducible refine World.ownsRow.alloc ?_ _ | with_reducible refine World.ownsRow.drew ?_)) ⟨b, 0, none⟩ k cp ((ss.take k).map Value.string) (by rfl) HL1.out (str_news HC.out (by repeat (first | with_reducible exact Below.refl _ _ | with_reducible refine Below.alloc ?_ (by first | omega | (simp; done) | (simp; omega)) _ | with_reducible refine Below.drew ?_)) _ T1.out) (one_strs _) (by unfold maxLen; omega) (by omega) (by first | omega | (simp; done) | (simp; omega)) ?_; intro g7 c7 w7 hown7 hgrow7; have HO7 : Hid (w7.ownsRow w.heap.size 9 1 (.slice (some ⟨g7, 0, none⟩) k c7) k ((ss.take k).map Value.string)) := Lib.hid (by simpa using hown7); have HB7 : Hid (Below w.heap.size w w7) := Lib.hid (Below.grown (by repeat (first | with_reducible exact Below.refl _ _ | with_reducible refine Below.alloc ?_ (by first | omega | (simp; done) | (simp; omega)) _ | with_reducible refine Below.drew ?_)) hgrow7 (by first | omega | (simp; done) | (simp; omega)) (by simp)); have hz7 := HB7.out.size; (first | (have HC7 := Lib.hid (c_after hgrow7); clear hown7 hgrow7) | (have HC7 := Lib.hid (c_before hgrow7); clear hown7 hgrow7) | (clear hown7 hgrow7)))
        | (refine step_app _ (by rfl) (.tmp 37) (.tmp 39) _ (by rfl) w.heap.size 9 i0 _ 1 16 Tryz.underlying22 hi hz0 hz1 hz2 rfl (Nat.one_pos) g7 c7 k ((ss.take k).map Value.string) (by rfl) (by repeat (first | with_reducible exact HO7.out | with_reducible refine World.ownsRow.alloc ?_ _ | with_reducible refine World.ownsRow.drew ?_)) _ 1 1 [.string s] (by rfl) rfl (by first | exact HC7.out | exact cell_one_new _ _ _) (one_strs [s]) (by unfold maxLen; omega) (by omega) (by first | omega | (simp; done) | (simp; omega)) ?_; intro g8 c8 w8 hown8 hgrow8; have HO8 := Lib.hid hown8; have HG8 := Lib.hid hgrow8; have HB8 : Hid (Below w.heap.size w w8) := Lib.hid (Below.grown (by repeat (first | with_reducible exact HB7.out | with_reducible exact Below.refl _ _ | with_reducible refine Below.alloc ?_ (by first | omega | (simp; done) | (simp; omega)) _ | with_reducible refine Below.drew ?_)) hgrow8 (by first | omega | (simp; done) | (simp; omega)) (fun g hg => by cases hg; exact (HO7.out.lt g7 (by simp [Value.ownBlock])).1)); have hz8 := HB8.out.size; clear hown8 hgrow8)
        | (refine step_app _ (by rfl) (.tmp 40) (.tmp 43) _ (by rfl) w.heap.size 9 i0 _ 1 16 Tryz.underlying22 hi hz0 hz1 hz2 rfl (Nat.one_pos) g8 c8 (k + 1) ((ss.take k).map Value.string ++ [.string s]) (by rfl) (by repeat (first | with_reducible exact HO8.out | with_reducible refine World.ownsRow.alloc ?_ _ | with_reducible refine World.ownsRow.drew ?_)) ⟨b, o2, none⟩ m2 (cp - k) ((ss.drop k).map Value.string) (by rfl) HL2.out (N2.out _ (by repeat (first | with_reducible exact HB8.out | with_reducible exact Below.refl _ _ | with_reducible refine Below.alloc ?_ (by first | omega | (simp; done) | (simp; omega)) _ | with_reducible refine Below.drew ?_))) (one_strs _) (by unfold maxLen; omega) (by omega) (by first | omega | (simp; done) | (simp; omega)) ?_; intro g9 c9 w9 hown9 hgrow9; have HO9 := Lib.hid hown9; have HB9 : Hid (Below w.heap.size w w9) := Lib.hid (Below.grown (by repeat (first | with_reducible exact HB8.out | with_reducible exact Below.refl _ _ | with_reducible refine Below.alloc ?_ (by first | omega | (simp; done) | (simp; omega)) _ | with_reducible refine Below.drew ?_)) hgrow9 (by first | omega | (simp; done) | (simp; omega)) (fun g hg => by cases hg; exact (HO8.out.lt g8 (by simp [Value.ownBlock])).1)); clear hown9 hgrow9)
        | fail)
      all_goals
        have HE : Hid (LV w9 (.slice (some ⟨g9, 0, none⟩) (k + 1 + m2) c9) (putS s ss)) := Lib.hid (by
          refine LV.of_own' (base := w.heap.size) (by rw [HPUT.out]; simp; have := HM.out; omega) ?_
          have h := HO9.out
          rw [HPUT.out, List.map_append, List.map_append]
          exact h)
        have HZ := Lib.hid HB9.out
        clear hs1 hs2
        go_wp2
        go_ret
        exact ⟨_, rfl, HE.out, HZ.out⟩

end Go.Proofs.YtohalpafmcobpaaGreat

/- The model's list of a term's variables: a contract. -/
namespace Go.Proofs.YtohalpafmcobpaaGreat
open Go.RowKit
set_option linter.unusedVariables false

mutual
def Tm.into : Tm → List ByteArray → List ByteArray
  | .node n a, l => if varB n then putS n l else Tm.intoL a l
def Tm.intoL : List Tm → List ByteArray → List ByteArray
  | [], l => l
  | t :: r, l => Tm.intoL r (Tm.into t l)
end

theorem Tm.into_eq (t : Tm) (l : List ByteArray) : t.into l = if varB t.name then putS t.name l else Tm.intoL t.args l := by
  cases t with
  | node n a => rw [Tm.into]; rfl
theorem Tm.intoL_append : ∀ (a b : List Tm) (l : List ByteArray), Tm.intoL (a ++ b) l = Tm.intoL b (Tm.intoL a l)
  | [], b, l => by simp [Tm.intoL]
  | t :: r, b, l => by simp [Tm.intoL, Tm.intoL_append r b]
theorem Tm.intoL_next {a : List Tm} {k : Nat} {t : Tm} (h : a[k]? = some t) (l : List ByteArray) : Tm.intoL (a.take (k + 1)) l = t.into (Tm.intoL (a.take k) l) := by
  rw [take_next h, Tm.intoL_append]; simp [Tm.intoL]
theorem putS_len (s : ByteArray) : ∀ l : List ByteArray, (putS s l).length ≤ l.length + 1
  | [] => by simp [putS]
  | q :: r => by
    unfold putS
    split
    · have := putS_len s r; simp; omega
    · split <;> simp
theorem Tm.into_len : ∀ t : Tm, ∀ l, (t.into l).length ≤ l.length + t.sz := Tm.ind fun t ih => by
  have h : ∀ (a : List Tm), (∀ s ∈ a, ∀ l, (s.into l).length ≤ l.length + s.sz) → ∀ l, (Tm.intoL a l).length ≤ l.length + sumL Tm.sz a := by
    intro a
    induction a with
    | nil => intro _ l; simp [Tm.intoL, sumL]
    | cons t r ih2 =>
      intro hh l
      have h1 := hh t List.mem_cons_self l
      have h2 := ih2 (fun s hs => hh s (List.mem_cons_of_mem _ hs)) (t.into l)
      have e : sumL Tm.sz (t :: r) = t.sz + sumL Tm.sz r := by simp [sumL]
      rw [Tm.intoL, e]; omega
  intro l
  rw [Tm.into_eq]
  have e := t.sz_eq
  split
  · have := putS_len t.name l; omega
  · have := h t.args ih l; omega
theorem Tm.intoL_len (a : List Tm) (k : Nat) (l : List ByteArray) : (Tm.intoL (a.take k) l).length ≤ l.length + sumL Tm.sz (a.take k) := by
  generalize a.take k = b
  induction b generalizing l with
  | nil => simp [Tm.intoL, sumL]
  | cons t r ih =>
    have h1 := t.into_len l
    have h2 := ih (t.into l)
    have e : sumL Tm.sz (t :: r) = t.sz + sumL Tm.sz r := by simp [sumL]
    rw [Tm.intoL, e]; omega

def IntoEnd (t : Tm) (l : List ByteArray) (w : World) (e : Ending) (w' : World) : Prop := ∃ v', e = .returned v' ∧ LV w' v' (t.into l) ∧ Below w.heap.size w w'

def IntoT (t : Tm) : Prop := ∀ (w : World) (va vl : Value) (l : List ByteArray), TmS w va t.args → LV w vl l → t.wt ≤ 1048576 → l.length + t.sz ≤ 1048576 →
  Calls Tryz.prog 189 #[vl, .agg #[.string t.name, va]] w (IntoEnd t l w)

set_option maxRecDepth 100000 in
set_option maxHeartbeats 2000000 in
theorem into_of (t : Tm) (h : ∀ s ∈ t.args, IntoT s) : IntoT t := by
  intro w va vl l hv hl hw hn
  have H := Lib.hid h
  have HL := Lib.hid (fun (s : Tm) (hs : s ∈ t.args) => Nat.le_trans (Tm.wt_arg hs) hw)
  have hlen := Tm.wt_len t
  obtain ⟨a, c, rfl⟩ := hv.is_slice
  have HV := Lib.hid hv
  have H2 := Lib.hid (two_new w (.string t.name) (.slice a t.args.length c) 39 _ rfl)
  have HLV := Lib.hid (hl.kept ((Below.refl w.heap.size w).alloc (Nat.le_refl _) (.cells #[.string t.name, .slice a t.args.length c] 39)))
  have CV := Lib.hid (fun W => l2Var_any t.name W (by have := t.wt_name; unfold maxLen; omega))
  obtain ⟨vb, cb, rfl, _⟩ := id hl
  have hsz := t.sz_eq
  have HSZ := Lib.hid hsz
  clear h hv hl hsz
  cases hb : varB t.name with
  | true =>
    have HE : Hid (t.into l = putS t.name l) := Lib.hid (by rw [Tm.into_eq, if_pos hb])
    rw [hb] at CV
    clear hb
    go_enter Tryz.func189, Tryz.ntmps189
    obtain ⟨b0, b1, b2⟩ := H2.out
    go_wp2_with (go_at_call 113; refine (CV.out _).mono ?_; rintro e w' ⟨rfl, rfl⟩)
    refine (put_any l _ t.name _ HLV.out (by omega)).mono ?_
    rintro e w2 ⟨v2, rfl, hv2, hb2⟩
    have HR : Hid (IntoEnd t l w (.returned v2) w2) := Lib.hid ⟨_, rfl, by rw [HE.out]; exact hv2, carry_below ((Below.refl _ _).alloc (Nat.le_refl _) _) (by simp) hb2⟩
    obtain ⟨b3, c3, rfl, _⟩ := hv2
    go_wp2
    go_ret
    exact HR.out
  | false =>
    have HE : Hid (t.into l = Tm.intoL t.args l) := Lib.hid (by rw [Tm.into_eq, hb]; rfl)
    rw [hb] at CV
    clear hb
    go_enter Tryz.func189, Tryz.ntmps189
    obtain ⟨b0, b1, b2⟩ := H2.out
    go_wp2_with (go_at_call 113; refine (CV.out _).mono ?_; rintro e w' ⟨rfl, rfl⟩)
    go_loopw [0, 5] (fun z i wr => ∃ k : Nat, k ≤ t.args.length ∧ i = .int .i64 k ∧ LV wr z (Tm.intoL (t.args.take k) l) ∧ Two wr w.heap.size (.string t.name) (.slice a t.args.length c) ∧ Below w.heap.size w wr) (fun _ i _ => t.args.length - (intOf i).toNat)
    case atStart => exact ⟨0, Nat.zero_le _, rfl, by simpa [Tm.intoL] using HLV.out, H2.out, (Below.refl _ _).alloc (Nat.le_refl _) _⟩
    case round =>
      obtain ⟨k, hk, rfl, hlv, htwo, hbel⟩ := hrel
      have HLW := Lib.hid hlv
      have HB := Lib.hid hbel
      have H2W := Lib.hid htwo
      obtain ⟨d0, d1, d2⟩ := htwo
      obtain ⟨vb2, cb2, rfl, _⟩ := hlv
      clear hbel b0 b1 b2
      by_cases hlt : k < t.args.length
      · obtain ⟨s, hs⟩ : ∃ s, t.args[k]? = some s := ⟨_, List.getElem?_eq_getElem hlt⟩
        obtain ⟨b, off, rfl, va, c0, c1, hva⟩ := HV.out.get hs
        have c0' := carry_cell c0 HB.out
        have c1' := carry_cell c1 HB.out
        have HVA := Lib.hid (hva.kept HB.out)
        have HS := Lib.hid hs
        clear hs c0 c1 hva
        have hroom : (Tm.intoL (t.args.take k) l).length + s.sz ≤ 1048576 := by
          have h1 := Tm.intoL_len t.args k l
          have h2 := sumL_next (f := Tm.sz) HS.out
          have h3 := sumL_take Tm.sz t.args (k + 1)
          have := HSZ.out
          omega
        go_wp2_with fail
        refine (H.out s (mem_of_at HS.out) _ va _ _ HVA.out HLW.out (HL.out s (mem_of_at HS.out)) hroom).mono ?_
        rintro e w' ⟨v', rfl, hv', hb⟩
        have HB2 := Lib.hid (carry_below HB.out (Nat.le_refl _) hb)
        have H2W2 := Lib.hid (H2W.out.kept hb)
        obtain ⟨e0, e1, e2⟩ := H2W.out.kept hb
        have HLV2 : Hid (LV w' v' (Tm.intoL (t.args.take (k + 1)) l)) := Lib.hid (by rw [Tm.intoL_next HS.out]; exact hv')
        obtain ⟨vb3, cb3, rfl, _⟩ := hv'
        clear hb hroom
        go_wp2
        go_roundw
        case rel => exact ⟨k + 1, by omega, by go_num, HLV2.out, H2W2.out, HB2.out⟩
        case measure => simp [intOf]; omega
      · have hke : k = t.args.length := by omega
        have HR : Hid (IntoEnd t l w (.returned (.slice (some ⟨vb2, 0, none⟩) (Tm.intoL (t.args.take k) l).length cb2)) wr) := Lib.hid ⟨_, rfl, by rw [HE.out]; have h := HLW.out; rw [hke, List.take_length] at h ⊢; exact h, HB.out⟩
        go_wp2
        go_ret
        exact HR.out

end Go.Proofs.YtohalpafmcobpaaGreat

/- The model's TermVariables: a contract. -/
namespace Go.Proofs.YtohalpafmcobpaaGreat
open Go.RowKit
set_option linter.unusedVariables false

theorem into_any (t : Tm) : IntoT t := Tm.ind (P := IntoT) (fun t ih => into_of t ih) t

theorem lv_nil (w : World) : LV (w.alloc (.cells #[] 9)) (.slice (some ⟨w.heap.size, 0, none⟩) 0 0) [] :=
  ⟨w.heap.size, 0, rfl, Nat.le_refl _, by simp, fun i hi => by simp at hi⟩

theorem vars_any (t : Tm) (w : World) (va : Value) (hv : TmS w va t.args) (hw : t.wt ≤ 1048576) (hz : t.sz ≤ 1048576) :
    Calls Tryz.prog 162 #[.agg #[.string t.name, va]] w (IntoEnd t [] w) := by
  obtain ⟨a, c, rfl⟩ := hv.is_slice
  have hB1 := (Below.refl w.heap.size w).alloc (Nat.le_refl _) (.cells #[.string t.name, .slice a t.args.length c] 39)
  have hB2 := hB1.alloc hB1.size (.cells #[] 9)
  have HB2 := Lib.hid hB2
  have HV := Lib.hid (hv.kept hB2)
  have HL := Lib.hid (lv_nil (w.alloc (.cells #[.string t.name, .slice a t.args.length c] 39)))
  have h2 := two_new w (.string t.name) (.slice a t.args.length c) 39 _ rfl
  have HC := Lib.hid (into_any t _ _ _ _ HV.out HL.out hw (by simpa using hz))
  have e : (w.alloc (.cells #[.string t.name, .slice a t.args.length c] 39)).heap.size = w.heap.size + 1 := by simp
  rw [e] at HC
  obtain ⟨b0, b1, b2⟩ := h2.alloc (.cells #[] 9)
  clear hB1 hB2 hv h2 e
  go_enter Tryz.func162, Tryz.ntmps162
  go_wp2_with fail
  refine HC.out.mono ?_
  rintro e w2 ⟨v2, rfl, hv2, hb2⟩
  have HR : Hid (IntoEnd t [] w (.returned v2) w2) := Lib.hid ⟨_, rfl, hv2, carry_below HB2.out (Nat.le_refl _) hb2⟩
  obtain ⟨b3, c3, rfl, _⟩ := hv2
  go_wp2
  go_ret
  exact HR.out

def varsL (t : Tm) : List ByteArray := if anyB t then t.into [] else []
def SVEnd (t : Tm) (w : World) (e : Ending) (w' : World) : Prop := ∃ v, e = .returned (.tuple #[v, .bool (anyB t)]) ∧ LV w' v (varsL t) ∧ Below w.heap.size w w'

end Go.Proofs.YtohalpafmcobpaaGreat

/- The list of a term's variables, and its nodes: plain facts. No condition. -/
namespace Go.Proofs.YtohalpafmcobpaaGreat
open Go.RowKit
set_option linter.unusedVariables false

/-- The variables' names among these nodes. -/
def vn (l : List Tm) : List ByteArray := (l.filter fun s => varB s.name).map Tm.name

theorem vn_cons (t : Tm) (l : List Tm) : vn (t :: l) = if varB t.name then t.name :: vn l else vn l := by
  unfold vn
  rw [List.filter_cons]
  split <;> simp
theorem vn_append (a b : List Tm) : vn (a ++ b) = vn a ++ vn b := by simp [vn]

def putAll (n : List ByteArray) (l : List ByteArray) : List ByteArray := n.foldl (fun l s => putS s l) l
theorem putAll_append (a b l : List ByteArray) : putAll (a ++ b) l = putAll b (putAll a l) := by simp [putAll]

theorem into_fold : ∀ t : Tm, (∀ s ∈ t.nds, varB s.name = true → s.args = []) → ∀ l, t.into l = putAll (vn t.nds) l := Tm.ind fun t ih => by
  intro h l
  rw [Tm.into_eq, t.nds_eq, vn_cons]
  cases hv : varB t.name with
  | true =>
    have he := h t (by rw [t.nds_eq]; exact List.mem_cons_self) hv
    rw [he]
    simp [Tm.ndsL, vn, putAll]
  | false =>
    have hh : ∀ s ∈ Tm.ndsL t.args, varB s.name = true → s.args = [] := fun s hs => h s (by rw [t.nds_eq]; exact List.mem_cons_of_mem _ hs)
    clear h
    have key : ∀ (a : List Tm), (∀ x ∈ a, (∀ s ∈ x.nds, varB s.name = true → s.args = []) → ∀ l, x.into l = putAll (vn x.nds) l) → (∀ s ∈ Tm.ndsL a, varB s.name = true → s.args = []) → ∀ l, Tm.intoL a l = putAll (vn (Tm.ndsL a)) l := by
      intro a
      induction a with
      | nil => intro _ _ l; simp [Tm.intoL, Tm.ndsL, vn, putAll]
      | cons x r ih2 =>
        intro h1 h2 l
        rw [Tm.intoL, Tm.ndsL, vn_append, putAll_append]
        rw [h1 x List.mem_cons_self (fun s hs => h2 s (by rw [Tm.ndsL]; exact List.mem_append_left _ hs)) l]
        exact ih2 (fun y hy => h1 y (List.mem_cons_of_mem _ hy)) (fun s hs => h2 s (by rw [Tm.ndsL]; exact List.mem_append_right _ hs)) _
    exact key t.args ih hh l

theorem ndsL_mem {s : Tm} : ∀ {a : List Tm}, s ∈ Tm.ndsL a → ∃ x ∈ a, s ∈ x.nds
  | x :: r, h => by
    rw [Tm.ndsL] at h
    rcases List.mem_append.1 h with h | h
    · exact ⟨x, List.mem_cons_self, h⟩
    · obtain ⟨y, hy, hs⟩ := ndsL_mem h
      exact ⟨y, List.mem_cons_of_mem _ hy, hs⟩
theorem nodes_leaf : ∀ t : Tm, t.nodesB = true → ∀ s ∈ t.nds, varB s.name = true → s.args = [] := Tm.ind fun t ih => by
  intro h s hs hv
  rw [t.nds_eq] at hs
  rcases List.mem_cons.1 hs with rfl | hs
  · rw [Tm.nodesB_var hv] at h
    exact List.isEmpty_iff.1 h
  · obtain ⟨x, hx, hsx⟩ := ndsL_mem hs
    exact ih x hx (nodes_args h x hx) s hsx hv
theorem any_leaf {t : Tm} (h : anyB t = true) : ∀ s ∈ t.nds, varB s.name = true → s.args = [] := by
  unfold anyB at h
  rcases Bool.or_eq_true _ _ ▸ h with h | h
  · unfold goodB at h
    simp only [Bool.and_eq_true] at h
    exact nodes_leaf t h.2
  · unfold atomB at h
    split at h
    · rename_i he
      simp only [Bool.and_eq_true, List.all_eq_true] at h
      intro s hs hv
      rw [t.nds_eq] at hs
      rcases List.mem_cons.1 hs with rfl | hs
      · rw [eq_name he, var_eq] at hv; cases hv
      · obtain ⟨x, hx, hsx⟩ := ndsL_mem hs
        exact nodes_leaf x (h.2.2 x hx) s hsx hv
    · unfold goodB at h
      simp only [Bool.and_eq_true] at h
      exact nodes_leaf t h.2.2

theorem put_mem (s : ByteArray) : ∀ (l : List ByteArray) (x : ByteArray), x ∈ putS s l ↔ x = s ∨ x ∈ l
  | [], x => by simp [putS]
  | q :: r, x => by
    unfold putS
    split
    · simp only [List.mem_cons, put_mem s r x]
      constructor
      · rintro (h | h | h) <;> simp [h]
      · rintro (h | h | h) <;> simp [h]
    · split
      · rename_i h
        have e : q = s := by rw [beq_iff_eq] at h; exact toList_inj h
        subst e
        simp
      · simp
theorem putAll_mem : ∀ (n l : List ByteArray) (x : ByteArray), x ∈ putAll n l ↔ x ∈ n ∨ x ∈ l
  | [], l, x => by simp [putAll]
  | s :: r, l, x => by
    show x ∈ putAll r (putS s l) ↔ _
    rw [putAll_mem r _ x, put_mem, List.mem_cons]
    constructor
    · rintro (h | h | h) <;> simp [h]
    · rintro ((h | h) | h) <;> simp [h]


theorem vn_mem {l : List Tm} {x : ByteArray} : x ∈ vn l ↔ ∃ s ∈ l, varB s.name = true ∧ s.name = x := by
  unfold vn
  rw [List.mem_map]
  constructor
  · rintro ⟨s, hs, e⟩
    rw [List.mem_filter] at hs
    exact ⟨s, hs.1, hs.2, e⟩
  · rintro ⟨s, hs, hv, e⟩
    exact ⟨s, List.mem_filter.2 ⟨hs, hv⟩, e⟩

/-- A valid term's variables, as the model lists them: the names of its nodes that are variables. -/
theorem into_mem {t : Tm} (h : goodB t = true) (x : ByteArray) : x ∈ t.into [] ↔ ∃ s ∈ t.nds, varB s.name = true ∧ s.name = x := by
  have hn : t.nodesB = true := by unfold goodB at h; simp only [Bool.and_eq_true] at h; exact h.2
  rw [into_fold t (nodes_leaf t hn) [], putAll_mem, vn_mem]
  simp

end Go.Proofs.YtohalpafmcobpaaGreat
