/- Several texts in one: each says what it proves. No condition but theirs. -/
import Derived.Test.YtgpmdfhepanahaaGreatLt
import Derived.Test.YtgpmdfhepanahaaGreatOwn
import Derived.Laws.CopyOwn
import Derived.Laws.Externs
import Derived.Deep.AppendLies
import Derived.Deep.RegionLaw
import Derived.Deep.QuietTactic
import Derived.Lib.Overlaps
import Derived.Lib.AppendZerosOnto
import Derived.Lib.JoinLaws
import Derived.Outline
/- The library's insertion of one literal into a row of the call's own: a contract, for rows of at most 1048576 literals. -/
namespace Go.Proofs.YtgpmdfhepanahaaGreat.lit
open Go.RowKit
set_option linter.unusedVariables false

/-- The library's copy at elements of several cells. -/
theorem run_copy_rowS {P : Program} (w : World) (dT sT ty elem : TypeId) (g o dLen dCap : Nat) (a : Addr) (sLen sCap : Nat) (cur : Array Value) (t : TypeId) (cs : List Value) (size n : Nat)
    (hu : P.underlying dT = some (.slice elem)) (hs : (P.info? elem).map (·.size) = some size)
    (hg : w.heap[g]? = some (.cells cur t (0, 0))) (hn : Nat.min sLen dLen = n) (hcl : cs.length = n * size)
    (hsrc : ∀ j v, cs[j]? = some v → w.cell? (a.add j) = some v) (hfit : o + cs.length ≤ cur.size) (h1 : ∀ v ∈ cs, v.oneCell' = true) :
    (Builtin.copy_ #[dT, sT] ty #[.slice (some ⟨g, o, none⟩) dLen dCap, .slice (some a) sLen sCap]).run P w =
      .ok (goInt n) (w.setRow g (cur.toList.take o ++ cs ++ cur.toList.drop (o + cs.length)).toArray) := by
  have hl := run_loadCells_list (P := P) w a cs hsrc
  have hst := run_storeCells_at P g o t cs 0 cur w hg (by simpa using hfit) h1
  cases hq : P.info? elem with
  | none => simp [hq] at hs
  | some i =>
    have hi : i.size = size := by simpa [hq] using hs
    rw [hcl] at hl
    simp [Builtin.copy_, run_underlying hu, Builtin.lenOf, Builtin.firstCells, sizeOf, typeInfo, hq, hi, hn, hl, hst]

def InsEnd (base : Nat) (v : Value) (n : Nat) (xs : List Value) (w : World) (e : Ending) (w' : World) : Prop :=
  ∃ g cap, e = .returned (.slice (some ⟨g, 0, none⟩) (n + 1) cap) ∧ w'.ownsRow base 86 3 (.slice (some ⟨g, 0, none⟩) (n + 1) cap) (n + 1) xs ∧ (v.ownBlock = some g ∨ g = w.heap.size) ∧ w.grownBy w' v.ownBlock

set_option maxHeartbeats 2000000 in
theorem ins_end (base n : Nat) (v : Value) (xs : List Value) (x y z : Value) (vb vc : Nat) (w : World) (hown : w.ownsRow base 86 3 v n xs)
    (hblk : w.heap[vb]? = some (.cells #[x, y, z] 86 (0, 0))) (h1 : ∀ u ∈ [x, y, z], u.oneCell' = true) (hn : n ≤ 1048576) (hbase : base ≤ w.heap.size) :
    Calls Tryz.prog 128 #[v, .int .i64 n, .slice (some ⟨vb, 0, none⟩) 1 vc] w (InsEnd base v n (xs ++ [x, y, z]) w) := by
  obtain ⟨i0, hi, hz0, hz1, hz2⟩ := info_parts infoLt
  have HOWN := Lib.hid hown
  have HBLK := Lib.hid hblk
  have H1 := Lib.hid h1
  have hz : ((1 : Int) == 0) = false := rfl
  rcases hown.2 with ⟨rfl, rfl⟩ | ⟨g, cap, cur, rfl, hbg, hg, hnc, hcm, hcs, htake⟩
  · clear hown hblk h1
    go_enter Tryz.func128, Tryz.ntmps128
    go_wp2_with (at_builtin; refine wpList_append_lies _ rfl _ _ _ (by rfl) base 86 i0 _ 3 48 Tryz.underlying46 hi hz0 hz1 hz2 rfl (by omega) (.slice none 0 0) 0 xs (by rfl) HOWN.out ⟨vb, 0, none⟩ 1 vc [x, y, z] (by rfl) (by rfl) (World.news_of_block (cs := #[x, y, z]) (t := 86) (fr := (0, 0)) HBLK.out) H1.out (by omega) (by unfold maxLen; omega) (by omega) hbase w.heap.size rfl ?_; intro gg cap w7 hown7 hgrow hat hlt7; have HE : Hid (InsEnd base (.slice none 0 0) 0 (xs ++ [x, y, z]) w (.returned (.slice (some ⟨gg, 0, none⟩) (0 + 1) cap)) w7) := Lib.hid ⟨gg, cap, rfl, hown7, hat, hgrow⟩; clear hown7 hgrow hat hlt7)
    go_ret
    exact HE.out
  · have hcm' : cap ≤ 9223372036854775807 := by unfold maxLen at hcm; omega
    clear hown hblk h1 hg hcs htake hcm
    by_cases hcn : cap = n
    · subst hcn
      go_enter Tryz.func128, Tryz.ntmps128
      go_wp2_with (at_builtin; refine wpList_append_lies _ rfl _ _ _ (by rfl) base 86 i0 _ 3 48 Tryz.underlying46 hi hz0 hz1 hz2 rfl (by omega) (.slice (some ⟨g, 0, none⟩) cap cap) cap xs (by rfl) HOWN.out ⟨vb, 0, none⟩ 1 vc [x, y, z] (by rfl) (by rfl) (World.news_of_block (cs := #[x, y, z]) (t := 86) (fr := (0, 0)) HBLK.out) H1.out (by omega) (by unfold maxLen; omega) (by omega) hbase w.heap.size rfl ?_; intro gg cap2 w7 hown7 hgrow hat hlt7; have HE : Hid (InsEnd base (.slice (some ⟨g, 0, none⟩) cap cap) cap (xs ++ [x, y, z]) w (.returned (.slice (some ⟨gg, 0, none⟩) (cap + 1) cap2)) w7) := Lib.hid ⟨gg, cap2, rfl, hown7, hat, hgrow⟩; clear hown7 hgrow hat hlt7)
      go_ret
      exact HE.out
    · go_enter Tryz.func128, Tryz.ntmps128
      go_wp2_with (at_builtin; refine wpList_append_lies _ rfl _ _ _ (by rfl) base 86 i0 _ 3 48 Tryz.underlying46 hi hz0 hz1 hz2 rfl (by omega) (.slice (some ⟨g, 0, none⟩) n cap) n xs (by rfl) HOWN.out ⟨vb, 0, none⟩ 1 vc [x, y, z] (by rfl) (by rfl) (World.news_of_block (cs := #[x, y, z]) (t := 86) (fr := (0, 0)) HBLK.out) H1.out (by omega) (by unfold maxLen; omega) (by omega) hbase w.heap.size rfl ?_; intro gg cap2 w7 hown7 hgrow hat hlt7; have HE : Hid (InsEnd base (.slice (some ⟨g, 0, none⟩) n cap) n (xs ++ [x, y, z]) w (.returned (.slice (some ⟨gg, 0, none⟩) (n + 1) cap2)) w7) := Lib.hid ⟨gg, cap2, rfl, hown7, hat, hgrow⟩; clear hown7 hgrow hat hlt7)
      go_ret
      exact HE.out

end Go.Proofs.YtgpmdfhepanahaaGreat.lit

/- The library's insertion of one literal into a row that has room: a contract, for rows of at most 1048576 literals. -/
namespace Go.Proofs.YtgpmdfhepanahaaGreat.lit
open Go.RowKit
set_option linter.unusedVariables false

theorem sliceAddr (g j : Nat) : (⟨g, 0, none⟩ : Addr).add j = ⟨g, j, none⟩ := by unfold Addr.add; split <;> simp_all

theorem step_copy_runB {P : Program} {ops : Array Oper} {o : Oper} {a : Act} {w : World} {K : Act → World → Prop} {Q : Exit → Act → World → Prop} {E : Prop}
    (hg : o.guard = none) (d x : Operand) (dT sT : TypeId) (hop : o.op = Op.call { callee := Callee.builtin Builtin.copy, args := #[d, x], argTypes := #[dT, sT] })
    (v u : Value) (hd : a.eval d = v) (hx : a.eval x = u) {v' : Value} {w' : World} (hr : (Builtin.copy_ #[dT, sT] o.type #[v, u]).run P w = .ok v' w') (hK : K (a.put o.dst v') w') :
    if Region.wanted o (yielded ops a.tmps) = true then Oper.wp P o a w K Q else E := by
  have hw : Region.wanted o (yielded ops a.tmps) = true := by simp [Region.wanted, hg]
  rw [if_pos hw]
  unfold Oper.wp
  simp [execOp, hop, resolve, invoke, builtin, hd, hx, hr, Result.andThen]
  exact hK
theorem wpList_copy_runB {P : Program} (w : World) {ops : Array Oper} {rest : List Oper} {o : Oper} {a : Act} {Q : Exit → Act → World → Prop} (hgd : o.guard = none) (d s : Operand) (t t' : TypeId)
    (ho : o.op = .call { callee := .builtin .copy, args := #[d, s], argTypes := #[t, t'] }) (v u : Value) (hd : a.eval d = v) (hs : a.eval s = u) {v' : Value} {w' : World}
    (hr : (Builtin.copy_ #[t, t'] o.type #[v, u]).run P w = .ok v' w') (h : wpList P ops Q rest (a.put o.dst v') w') : wpList P ops Q (o :: rest) a w := by
  refine wpList_plain hgd fun K hK => ?_
  unfold Oper.wp
  simp [execOp, ho, resolve, invoke, builtin, hd, hs, hr, Result.andThen]
  exact hK _ _ h

theorem setRow_grown {w : World} {g : Nat} (cs : Array Value) : w.grownBy (w.setRow g cs) (some g) :=
  ⟨rfl, rfl, rfl, by simp, fun k hk hne => setRow_other w g k cs (fun e => hne (by rw [e]))⟩
theorem grown_drew (w : World) (row : Option Nat) : w.grownBy w.drew row := ⟨rfl, rfl, rfl, Nat.le_refl _, fun _ _ _ => rfl⟩
theorem grown_trans {a b c : World} {row : Option Nat} (h : a.grownBy b row) (k : b.grownBy c row) : a.grownBy c row :=
  ⟨k.os.trans h.os, k.tape.trans h.tape, k.output.trans h.output, Nat.le_trans h.size k.size, fun j hj hne => (k.block j (Nat.lt_of_lt_of_le hj h.size) hne).trans (h.block j hj hne)⟩

theorem shift_row {cur xs ys : List Value} {n i : Nat} (hcs : n * 3 + 3 ≤ cur.length) (ht : cur.take (n * 3) = xs) (hi : i ≤ n) (hy : ys.length = 3) :
    ((((cur.take ((i + 1) * 3) ++ xs.drop (i * 3) ++ cur.drop ((i + 1) * 3 + (xs.drop (i * 3)).length)).take (i * 3)) ++ ys ++ ((cur.take ((i + 1) * 3) ++ xs.drop (i * 3) ++ cur.drop ((i + 1) * 3 + (xs.drop (i * 3)).length)).drop (i * 3 + ys.length))).take ((n + 1) * 3)) = xs.take (i * 3) ++ ys ++ xs.drop (i * 3) := by
  have hxl : xs.length = n * 3 := by rw [← ht, List.length_take]; omega
  have hdl : (xs.drop (i * 3)).length = n * 3 - i * 3 := by rw [List.length_drop, hxl]
  have e1 : (cur.take ((i + 1) * 3) ++ xs.drop (i * 3) ++ cur.drop ((i + 1) * 3 + (xs.drop (i * 3)).length)).take (i * 3) = xs.take (i * 3) := by
    rw [List.append_assoc, List.take_append_of_le_length (by rw [List.length_take]; omega), List.take_take, ← ht, List.take_take]
    congr 1; omega
  have e2 : (cur.take ((i + 1) * 3) ++ xs.drop (i * 3) ++ cur.drop ((i + 1) * 3 + (xs.drop (i * 3)).length)).drop (i * 3 + ys.length) = xs.drop (i * 3) ++ cur.drop ((i + 1) * 3 + (xs.drop (i * 3)).length) := by
    have hl : (cur.take ((i + 1) * 3)).length = i * 3 + ys.length := by rw [List.length_take]; omega
    rw [List.append_assoc, ← hl, List.drop_left]
  rw [e1, e2, ← List.append_assoc, List.take_append_of_le_length (by simp only [List.length_append, List.length_take]; omega), List.take_of_length_le (by simp only [List.length_append, List.length_take]; omega)]

set_option maxRecDepth 100000 in
set_option maxHeartbeats 4000000 in
theorem ins_shift (base n i g cap : Nat) (xs : List Value) (x y z : Value) (vb vc : Nat) (w : World) (hown : w.ownsRow base 86 3 (.slice (some ⟨g, 0, none⟩) n cap) n xs)
    (hblk : w.heap[vb]? = some (.cells #[x, y, z] 86 (0, 0))) (hne : vb ≠ g) (h1 : ∀ u ∈ [x, y, z], u.oneCell' = true) (h1x : ∀ u ∈ xs, u.oneCell' = true) (hn : n ≤ 1048576) (hi : i < n) (hroom : n + 1 ≤ cap) :
    Calls Tryz.prog 128 #[.slice (some ⟨g, 0, none⟩) n cap, .int .i64 i, .slice (some ⟨vb, 0, none⟩) 1 vc] w (InsEnd base (.slice (some ⟨g, 0, none⟩) n cap) n (xs.take (i * 3) ++ [x, y, z] ++ xs.drop (i * 3)) w) := by
  obtain ⟨i0, hi0, hz0, hz1, hz2⟩ := info_parts infoLt
  rcases hown.2 with ⟨e1, _⟩ | ⟨g', cap', cur, e1, hbg, hg, hnc, hcm, hcs, htake⟩
  · cases e1
  injection e1 with e2 e3 e4
  injection e2 with e2
  injection e2 with e2
  subst e2; subst e4
  have hsz : (Tryz.prog.info? 86).map (·.size) = some 3 := by rw [hi0]; simp [hz1]
  have hcm' : cap ≤ 9223372036854775807 := by unfold maxLen at hcm; omega
  obtain ⟨ys, hys⟩ : ∃ ys, ys = [x, y, z] := ⟨_, rfl⟩
  have hyl : ys.length = 3 := by rw [hys]; rfl
  rw [← hys] at h1 ⊢
  have hcl3 : n * 3 + 3 ≤ cur.toList.length := by rw [Array.length_toList, hcs]; omega
  have hxl : xs.length = n * 3 := hown.1
  have hdl : (xs.drop (i * 3)).length = (n - i) * 3 := by rw [List.length_drop, hxl]; omega
  have HSH := Lib.hid (shift_row hcl3 htake (by omega : i ≤ n) hyl)
  have hov : ∀ lb cb, (callFunc 157 #[.slice (some ⟨vb, 0, none⟩) 1 vc, .slice (some ⟨g, (i + 1) * 3, none⟩) lb cb]).run Tryz.prog w = .ok (.value (.bool false)) w := fun lb cb => by
    rw [run_callFunc_extern (P := Tryz.prog) Tryz.func157 (by kernel_rfl) (by kernel_rfl) (by kernel_rfl) (e := Extern.SlicesOverlaps.overlaps #[46, 46] #[4]) (by kernel_rfl),
      Lib.run_overlaps_apart w 46 4 86 Tryz.underlying46 3 (fun w => by simp [sizeOf, typeInfo, hi0, hz1]) ⟨vb, 0, none⟩ ⟨g, (i + 1) * 3, none⟩ 1 vc lb cb hne 86 86 3 cur.size (by simp [World.shape?, hblk]) (by simp [World.shape?, hg]) (by omega) (by simp [World.frozen?, hblk]) (by simp [World.frozen?, hblk])]
    rfl
  have hcp1 : ∀ ty dc sc, (Builtin.copy_ #[46, 46] ty #[.slice (some ⟨g, (i + 1) * 3, none⟩) (n - i) dc, .slice (some ⟨g, i * 3, none⟩) (n + 1 - i) sc]).run Tryz.prog w.drew = .ok (goInt ((n - i : Nat) : Int)) (w.drew.setRow g (cur.toList.take ((i + 1) * 3) ++ xs.drop (i * 3) ++ cur.toList.drop ((i + 1) * 3 + (xs.drop (i * 3)).length)).toArray) := fun ty dc sc =>
    run_copy_rowS w.drew _ _ ty 86 g ((i + 1) * 3) (n - i) dc ⟨g, i * 3, none⟩ (n + 1 - i) sc cur 86 (xs.drop (i * 3)) 3 (n - i) Tryz.underlying46 hsz hg (by simp only [Nat.min_def]; split <;> omega) hdl
      (fun j v hj => by
        rw [List.getElem?_drop] at hj
        have e : (⟨g, i * 3, none⟩ : Addr).add j = ⟨g, i * 3 + j, none⟩ := by unfold Addr.add; split <;> simp_all
        rw [e]
        have hjl := (List.getElem?_eq_some_iff.1 hj).1
        show w.cell? _ = _
        rw [hown.cellAt _ (by omega)]; exact hj)
      (by rw [hdl, hcs]; omega) (fun v hv => h1x v (List.mem_of_mem_drop hv))
  obtain ⟨C1, hC1⟩ : ∃ C1, C1 = cur.toList.take ((i + 1) * 3) ++ xs.drop (i * 3) ++ cur.toList.drop ((i + 1) * 3 + (xs.drop (i * 3)).length) := ⟨_, rfl⟩
  rw [← hC1] at hcp1 HSH
  have hC1l : n * 3 + 3 ≤ C1.length := by rw [hC1]; simp only [List.length_append, List.length_take, List.length_drop]; omega
  have hC1e : C1.length = cap * 3 := by rw [hC1]; simp only [List.length_append, List.length_take, List.length_drop, Array.length_toList, hcs]; omega
  obtain ⟨W1, hW1⟩ : ∃ W1, W1 = w.drew.setRow g C1.toArray := ⟨_, rfl⟩
  have hg1 : W1.heap[g]? = some (.cells C1.toArray 86 (0, 0)) := by rw [hW1]; exact setRow_heap w.drew g _ _ _ _ hg
  have hb1 : W1.heap[vb]? = some (.cells #[x, y, z] 86 (0, 0)) := by rw [hW1, setRow_other _ _ _ _ hne]; exact hblk
  have HG1 : Hid (w.grownBy W1 (some g)) := Lib.hid (by rw [hW1]; exact grown_trans (grown_drew w _) (setRow_grown _))
  rw [← hW1] at hcp1
  have hcp2 : ∀ ty dc, (Builtin.copy_ #[46, 46] ty #[.slice (some ⟨g, i * 3, none⟩) (n + 1 - i) dc, .slice (some ⟨vb, 0, none⟩) 1 vc]).run Tryz.prog W1 = .ok (goInt 1) (W1.setRow g (C1.toArray.toList.take (i * 3) ++ ys ++ C1.toArray.toList.drop (i * 3 + ys.length)).toArray) := fun ty dc =>
    run_copy_rowS W1 _ _ ty 86 g (i * 3) (n + 1 - i) dc ⟨vb, 0, none⟩ 1 vc C1.toArray 86 ys 3 1 Tryz.underlying46 hsz hg1 (by simp only [Nat.min_def]; split <;> omega) hyl
      (fun j v hj => by
        rw [sliceAddr]
        simp only [World.cell?, hb1]
        rw [hys] at hj
        have : j < 3 := (List.getElem?_eq_some_iff.1 hj).1
        match j, this with
        | 0, _ => simpa using hj
        | 1, _ => simpa using hj
        | 2, _ => simpa using hj)
      (by simp only [List.size_toArray]; omega) h1
  obtain ⟨W2, hW2⟩ : ∃ W2, W2 = W1.setRow g (C1.toArray.toList.take (i * 3) ++ ys ++ C1.toArray.toList.drop (i * 3 + ys.length)).toArray := ⟨_, rfl⟩
  rw [← hW2] at hcp2
  have HE : Hid (InsEnd base (.slice (some ⟨g, 0, none⟩) n cap) n (xs.take (i * 3) ++ ys ++ xs.drop (i * 3)) w (.returned (.slice (some ⟨g, 0, none⟩) (n + 1) cap)) W2) := Lib.hid (by
    refine ⟨g, cap, rfl, ⟨by simp only [List.length_append, List.length_take, hdl]; omega, .inr ⟨g, cap, _, rfl, hbg, by rw [hW2]; exact setRow_heap W1 g _ _ _ _ hg1, hroom, hcm, ?_, ?_⟩⟩, .inl rfl, ?_⟩
    · simp only [List.size_toArray, List.length_append, List.length_take, List.length_drop]; omega
    · exact HSH.out
    · rw [hW2]; exact grown_trans HG1.out (setRow_grown _))
  obtain ⟨xr, hxr⟩ : ∃ xr, xr = xs.take (i * 3) ++ ys ++ xs.drop (i * 3) := ⟨_, rfl⟩
  rw [← hxr] at HE ⊢
  have hz2 : ¬ ((i : Int) = (n : Int)) := by omega
  have HC1 := Lib.hid hcp1
  have HC2 := Lib.hid hcp2
  have HOV := Lib.hid hov
  clear hown hblk h1 h1x hcp1 hcp2 hov hxr hW2 hW1 hC1 hg1 hb1 hg hcs htake hcm hdl hxl hcl3 hyl hC1l hC1e hys HSH hsz hz0 hz1 hz2 hi0
  have hz2 : ¬ ((i : Int) = (n : Int)) := by omega
  have hov := HOV.out
  have hw1 : IntKind.i64.wrap ((i : Int) + 1) = (i : Int) + 1 := by rw [IntKind.wrap_i64]; omega
  have hb1 : (0 : Int) ≤ (i : Int) + 1 := by omega
  have htn : ((i : Int) + 1).toNat = i + 1 := by omega
  have hb2 : ¬ (cap = i + 1) := by omega
  have hb3 : (i : Int) ≤ (n : Int) + 1 := by omega
  have hb5 : (i : Int) + 1 ≤ (n : Int) + 1 := by omega
  have hb4 : ¬ (cap = i) := by omega
  go_enter Tryz.func128, Tryz.ntmps128
  have hcp1 := HC1.out
  go_wp2_with (simp only [hov])
  go_region_law (fail)
  clear hcp1
  have hcp2 := HC2.out
  go_wp2
  go_ret
  exact HE.out

end Go.Proofs.YtgpmdfhepanahaaGreat.lit

/- The library's insertion of one literal into a row that has no room: a contract; and the three roads as one. -/
namespace Go.Proofs.YtgpmdfhepanahaaGreat.lit
open Go.RowKit
set_option linter.unusedVariables false

theorem grow_row {C0 xs ys : List Value} {n i : Nat} (hl : n * 3 + 3 ≤ C0.length) (ht : C0.take (i * 3) = xs.take (i * 3)) (hx : xs.length = n * 3) (hi : i ≤ n) (hy : ys.length = 3) :
    (((C0.take (i * 3) ++ ys ++ C0.drop (i * 3 + ys.length)).take ((i + 1) * 3)) ++ xs.drop (i * 3) ++ ((C0.take (i * 3) ++ ys ++ C0.drop (i * 3 + ys.length)).drop ((i + 1) * 3 + (xs.drop (i * 3)).length))).take ((n + 1) * 3) = xs.take (i * 3) ++ ys ++ xs.drop (i * 3) := by
  have e1 : (C0.take (i * 3) ++ ys ++ C0.drop (i * 3 + ys.length)).take ((i + 1) * 3) = xs.take (i * 3) ++ ys := by
    have hl2 : (C0.take (i * 3) ++ ys).length = (i + 1) * 3 := by rw [List.length_append, List.length_take]; omega
    rw [List.take_append_of_le_length (by omega), List.take_of_length_le (by omega), ht]
  have hxd : (xs.drop (i * 3)).length = n * 3 - i * 3 := by rw [List.length_drop, hx]
  have hxt : (xs.take (i * 3)).length = i * 3 := by rw [List.length_take]; omega
  rw [e1, List.take_append_of_le_length (by simp only [List.length_append]; omega), List.take_of_length_le (by simp only [List.length_append]; omega)]

set_option maxRecDepth 100000 in
set_option maxHeartbeats 4000000 in
theorem ins_grow (base n i g : Nat) (xs : List Value) (x y z : Value) (vb vc : Nat) (w : World) (hown : w.ownsRow base 86 3 (.slice (some ⟨g, 0, none⟩) n n) n xs)
    (hblk : w.heap[vb]? = some (.cells #[x, y, z] 86 (0, 0))) (h1 : ∀ u ∈ [x, y, z], u.oneCell' = true) (h1x : ∀ u ∈ xs, u.oneCell' = true) (hn : n ≤ 1048576) (hi : i < n) (hbase : base ≤ w.heap.size) :
    Calls Tryz.prog 128 #[.slice (some ⟨g, 0, none⟩) n n, .int .i64 i, .slice (some ⟨vb, 0, none⟩) 1 vc] w (InsEnd base (.slice (some ⟨g, 0, none⟩) n n) n (xs.take (i * 3) ++ [x, y, z] ++ xs.drop (i * 3)) w) := by
  obtain ⟨i0, hi0, hz0, hz1, hz2⟩ := info_parts infoLt
  have hsz : (Tryz.prog.info? 86).map (·.size) = some 3 := by rw [hi0]; simp [hz1]
  obtain ⟨ys, hys⟩ : ∃ ys, ys = [x, y, z] := ⟨_, rfl⟩
  have hyl : ys.length = 3 := by rw [hys]; rfl
  rw [← hys] at h1 ⊢
  have hxl : xs.length = n * 3 := hown.1
  have hdl : (xs.drop (i * 3)).length = (n - i) * 3 := by rw [List.length_drop, hxl]; omega
  have hgw : g < w.heap.size := (hown.lt g rfl).2
  have hvw : vb < w.heap.size := (Array.getElem?_eq_some_iff.1 hblk).1
  have hold : (Builtin.firstCells i0.size i (.slice (some ⟨g, 0, none⟩) i n)).run Tryz.prog w.drew = .ok (xs.take (i * 3)).toArray w.drew := by
    rw [hz1]
    exact run_firstCells_some w.drew 3 i ⟨g, 0, none⟩ i n (xs.take (i * 3)) (by rw [List.length_take]; omega) (fun j v hj => by
      rw [sliceAddr]
      rw [List.getElem?_take] at hj
      split at hj
      · show w.cell? _ = _
        rw [hown.cellAt _ (by omega)]; exact hj
      · cases hj)
  have hkk : (n : Int) + 1 - (i : Int) = ((n + 1 - i : Nat) : Int) := by omega
  have hik : i + (n + 1 - i) = n + 1 := by omega
  obtain ⟨G, hG⟩ : ∃ G, G = grownCap w (n + 1) n 86 := ⟨_, rfl⟩
  have hGn : n + 1 ≤ G := by rw [hG]; exact grownCap_ge _ _ _ _
  have hGm : G ≤ maxLen := by rw [hG]; exact grownCap_le_maxLen _ _ _ _ (by unfold maxLen; omega)
  obtain ⟨zc, hzc⟩ : ∃ zc : Array Value, zc = (Value.agg #[.bool false, .string ByteArray.empty, .slice none 0 0]).cells := ⟨_, rfl⟩
  have hzcl : zc.size = 3 := by rw [hzc]; simp [Value.cells]
  obtain ⟨C0, hC0⟩ : ∃ C0 : List Value, C0 = ((xs.take (i * 3)).toArray ++ Builtin.zeroCells zc (n + 1 - i) ++ Builtin.zeroCells zc (G - (n + 1))).toList := ⟨_, rfl⟩
  have hC0l : C0.length = G * 3 := by
    rw [hC0, Array.length_toList]
    simp only [Array.size_append, size_zeroCells, hzcl, List.size_toArray, List.length_take, hxl]; omega
  have hC0t : C0.take (i * 3) = xs.take (i * 3) := by
    rw [hC0]
    simp only [Array.toList_append, List.append_assoc]
    rw [List.take_append_of_le_length (by simp only [List.length_take]; omega)]
    show List.take (i * 3) (xs.take (i * 3)) = _
    rw [List.take_take, Nat.min_self]
  have hrz : ∀ ty, (Builtin.append_ #[46, 3] ty #[.slice (some ⟨g, 0, none⟩) i n, .int .i64 ((n : Int) + 1 - (i : Int))]).run Tryz.prog w =
      .ok (.slice (some ⟨w.heap.size, 0, none⟩) (n + 1) G) (w.drew.alloc (.cells C0.toArray 86)) := fun ty => by
    have h := Lib.run_append_grow_zeros w 46 3 ty 86 i0 _ .i64 .i64 Tryz.underlying46 Tryz.underlying3 hi0 hz0 (some ⟨g, 0, none⟩) i n (xs.take (i * 3)) hold (n + 1 - i) (by omega) (by omega) (by omega) (by omega) (by rw [hz2]; omega) (by rw [hz2, hik]; exact growslice_fits (by omega) (by omega))
    rw [hik] at h
    rw [hkk, h, hC0, hG, hzc]
  obtain ⟨N, hN⟩ : ∃ N, N = w.heap.size := ⟨_, rfl⟩
  obtain ⟨W0, hW0⟩ : ∃ W0, W0 = w.drew.alloc (.cells C0.toArray 86) := ⟨_, rfl⟩
  rw [← hW0, ← hN] at hrz
  have hg0 : W0.heap[N]? = some (.cells C0.toArray 86 (0, 0)) := by rw [hW0, hN]; exact heap_alloc_new w.drew _
  have hb0 : W0.heap[vb]? = some (.cells #[x, y, z] 86 (0, 0)) := by rw [hW0, Below.heap_alloc w.drew _ _ hvw]; exact hblk
  have HG0 : Hid (w.grownBy W0 (some g)) := Lib.hid (by rw [hW0]; exact grown_trans (grown_drew w _) (World.grownBy_alloc _ _ _))
  have hcp1 : ∀ ty dc, (Builtin.copy_ #[46, 46] ty #[.slice (some ⟨N, i * 3, none⟩) (n + 1 - i) dc, .slice (some ⟨vb, 0, none⟩) 1 vc]).run Tryz.prog W0 = .ok (goInt 1) (W0.setRow N (C0.toArray.toList.take (i * 3) ++ ys ++ C0.toArray.toList.drop (i * 3 + ys.length)).toArray) := fun ty dc =>
    run_copy_rowS W0 _ _ ty 86 N (i * 3) (n + 1 - i) dc ⟨vb, 0, none⟩ 1 vc C0.toArray 86 ys 3 1 Tryz.underlying46 hsz hg0 (by simp only [Nat.min_def]; split <;> omega) hyl
      (fun j v hj => by
        rw [sliceAddr]
        simp only [World.cell?, hb0]
        rw [hys] at hj
        have : j < 3 := (List.getElem?_eq_some_iff.1 hj).1
        match j, this with
        | 0, _ => simpa using hj
        | 1, _ => simpa using hj
        | 2, _ => simpa using hj)
      (by simp only [List.size_toArray]; omega) h1
  obtain ⟨C1, hC1⟩ : ∃ C1, C1 = C0.take (i * 3) ++ ys ++ C0.drop (i * 3 + ys.length) := ⟨_, rfl⟩
  have HSH := Lib.hid (grow_row (by omega : n * 3 + 3 ≤ C0.length) hC0t hxl (by omega : i ≤ n) hyl)
  rw [← hC1] at HSH
  have hC1l : C1.length = G * 3 := by rw [hC1]; simp only [List.length_append, List.length_take, List.length_drop]; omega
  rw [show C0.toArray.toList = C0 by simp, ← hC1] at hcp1
  obtain ⟨W1, hW1⟩ : ∃ W1, W1 = W0.setRow N C1.toArray := ⟨_, rfl⟩
  rw [← hW1] at hcp1
  have hg1 : W1.heap[N]? = some (.cells C1.toArray 86 (0, 0)) := by rw [hW1]; exact setRow_heap W0 N _ _ _ _ hg0
  have hold1 : W1.heap[g]? = w.heap[g]? := by rw [hW1, setRow_other _ _ _ _ (by omega), hW0, Below.heap_alloc w.drew _ _ hgw]; rfl
  have HG1 : Hid (w.grownBy W1 (some g)) := Lib.hid (by
    refine ⟨by rw [hW1]; exact HG0.out.os, by rw [hW1]; exact HG0.out.tape, by rw [hW1]; exact HG0.out.output, by rw [hW1]; simpa using HG0.out.size, fun k hk hne => ?_⟩
    rw [hW1, setRow_other _ _ _ _ (by omega)]; exact HG0.out.block k hk hne)
  have hcp2 : ∀ ty dc sc, (Builtin.copy_ #[46, 46] ty #[.slice (some ⟨N, (i + 1) * 3, none⟩) (n - i) dc, .slice (some ⟨g, i * 3, none⟩) (n - i) sc]).run Tryz.prog W1.drew = .ok (goInt ((n - i : Nat) : Int)) (W1.drew.setRow N (C1.toArray.toList.take ((i + 1) * 3) ++ xs.drop (i * 3) ++ C1.toArray.toList.drop ((i + 1) * 3 + (xs.drop (i * 3)).length)).toArray) := fun ty dc sc =>
    run_copy_rowS W1.drew _ _ ty 86 N ((i + 1) * 3) (n - i) dc ⟨g, i * 3, none⟩ (n - i) sc C1.toArray 86 (xs.drop (i * 3)) 3 (n - i) Tryz.underlying46 hsz hg1 (by simp only [Nat.min_def]; split <;> omega) hdl
      (fun j v hj => by
        rw [List.getElem?_drop] at hj
        have e : (⟨g, i * 3, none⟩ : Addr).add j = ⟨g, i * 3 + j, none⟩ := by unfold Addr.add; split <;> simp_all
        rw [e]
        have hjl := (List.getElem?_eq_some_iff.1 hj).1
        have e2 : W1.drew.cell? ⟨g, i * 3 + j, none⟩ = w.cell? ⟨g, i * 3 + j, none⟩ := World.cell?_of_block (w := w) (a := ⟨g, i * 3 + j, none⟩) hold1
        rw [e2, hown.cellAt _ (by omega)]; exact hj)
      (by simp only [List.size_toArray]; omega) (fun v hv => h1x v (List.mem_of_mem_drop hv))
  rw [show C1.toArray.toList = C1 by simp] at hcp2
  obtain ⟨W2, hW2⟩ : ∃ W2, W2 = W1.drew.setRow N (C1.take ((i + 1) * 3) ++ xs.drop (i * 3) ++ C1.drop ((i + 1) * 3 + (xs.drop (i * 3)).length)).toArray := ⟨_, rfl⟩
  rw [← hW2] at hcp2
  have HE : Hid (InsEnd base (.slice (some ⟨g, 0, none⟩) n n) n (xs.take (i * 3) ++ ys ++ xs.drop (i * 3)) w (.returned (.slice (some ⟨N, 0, none⟩) (n + 1) G)) W2) := Lib.hid (by
    refine ⟨N, G, rfl, ⟨by simp only [List.length_append, List.length_take, hdl]; omega, .inr ⟨N, G, _, rfl, by omega, by rw [hW2]; exact setRow_heap W1.drew N _ _ _ _ hg1, hGn, hGm, ?_, ?_⟩⟩, .inr hN, ?_⟩
    · simp only [List.size_toArray, List.length_append, List.length_take, List.length_drop]; omega
    · exact HSH.out
    · refine ⟨by rw [hW2]; exact HG1.out.os, by rw [hW2]; exact HG1.out.tape, by rw [hW2]; exact HG1.out.output, by rw [hW2]; simpa using HG1.out.size, fun k hk hne => ?_⟩
      rw [hW2, setRow_other _ _ _ _ (by omega)]; exact HG1.out.block k hk hne)
  obtain ⟨xr, hxr⟩ : ∃ xr, xr = xs.take (i * 3) ++ ys ++ xs.drop (i * 3) := ⟨_, rfl⟩
  rw [← hxr] at HE ⊢
  have HC1 := Lib.hid hcp1
  have HC2 := Lib.hid hcp2
  have HRZ := Lib.hid hrz
  clear hown hblk h1 h1x hcp1 hcp2 hrz hxr hW2 hW1 hW0 hC1 hC0 hg1 hg0 hb0 hdl hxl hyl hC1l hC0l hC0t hys HSH hsz hz0 hz1 hz2 hi0 hold hik hkk hzc hzcl hold1 hN hG hgw hvw hGm
  have hz2 : ¬ ((i : Int) = (n : Int)) := by omega
  have hw1 : IntKind.i64.wrap ((i : Int) + 1) = (i : Int) + 1 := by rw [IntKind.wrap_i64]; omega
  have hb1 : (0 : Int) ≤ (i : Int) + 1 := by omega
  have htn : ((i : Int) + 1).toNat = i + 1 := by omega
  have hb2 : ¬ (G = i + 1) := by omega
  have hb6 : ¬ (G = i) := by omega
  have hb3 : (i : Int) ≤ (n : Int) + 1 := by omega
  have hb5 : (i : Int) + 1 ≤ (n : Int) + 1 := by omega
  have hb4 : ¬ (n = i) := by omega
  have hb7 : (i : Int) ≤ (n : Int) := by omega
  have hb8 : (0 : Int) ≤ (i : Int) := by omega
  have hcp1 := HC1.out
  go_enter Tryz.func128, Tryz.ntmps128
  go_wp2_with (at_builtin; refine Lib.wpList_append_run _ rfl _ _ _ _ rfl _ _ rfl rfl _ _ (HRZ.out _) ?_)
  clear hcp1
  have hcp2 := HC2.out
  go_region_law (fail)
  clear hcp2
  go_wp2
  go_ret
  exact HE.out

/-- Insertion at any place. -/
theorem ins_any (base n i : Nat) (v : Value) (xs : List Value) (x y z : Value) (vb vc : Nat) (w : World) (hown : w.ownsRow base 86 3 v n xs)
    (hblk : w.heap[vb]? = some (.cells #[x, y, z] 86 (0, 0))) (hne : v.ownBlock ≠ some vb) (h1 : ∀ u ∈ [x, y, z], u.oneCell' = true) (h1x : ∀ u ∈ xs, u.oneCell' = true) (hn : n ≤ 1048576) (hi : i ≤ n) (hbase : base ≤ w.heap.size) :
    Calls Tryz.prog 128 #[v, .int .i64 i, .slice (some ⟨vb, 0, none⟩) 1 vc] w (InsEnd base v n (xs.take (i * 3) ++ [x, y, z] ++ xs.drop (i * 3)) w) := by
  have hxl : xs.length = n * 3 := hown.1
  by_cases hin : i = n
  · subst hin
    have h := ins_end base i v xs x y z vb vc w hown hblk h1 hn hbase
    rw [List.take_of_length_le (by omega), List.drop_eq_nil_of_le (by omega), List.append_nil]
    exact h
  · rcases hown.2 with ⟨rfl, h0⟩ | ⟨g, cap, cur, rfl, hbg, hg, hnc, hcm, hcs, htake⟩
    · omega
    · by_cases hc : n + 1 ≤ cap
      · exact ins_shift base n i g cap xs x y z vb vc w hown hblk (fun e => hne (by rw [e]; rfl)) h1 h1x hn (by omega) hc
      · obtain rfl : cap = n := by omega
        exact ins_grow base cap i g xs x y z vb vc w hown hblk h1 h1x hn (by omega) hbase

end Go.Proofs.YtgpmdfhepanahaaGreat.lit
