/- The program's iterator over the formulas nested in a formula hands over all of them, each behind its parts: a contract, for formulas of at most 1048576 names' bytes, arguments and parts. -/
import Derived.Test.YtppmiedhoimgmaaRgY
import Derived.Test.YtppmiedhoimgmaaPst
import Derived.Test.YtppmiedhoimgmaaFmW
namespace Go.Proofs.Ytppmiedhoimgmaa
open Go.RowKit Go.Shelf
set_option linter.unusedVariables false

attribute [local go_sem] Oper.semAt_some

/-- A formula as a round of the loop is handed it: where it lies, and what it reads as. -/
structure Fx where
  b : Nat
  o : Nat
  tm : Fm
  va : Value
  vp : Value
def Fx.enc (x : Fx) : Array Value := #[.pointer (some ⟨x.b, x.o, none⟩)]
/-- What a round knows of its element. -/
def PxF (w0 : World) (M : List Fm) (x : Fx) (W : World) : Prop :=
  x.tm ∈ M ∧ Fiv w0 x.b x.o (.int .i64 x.tm.op) (.string x.tm.atom.name) x.va (.string x.tm.var) x.vp ∧ FmV w0 x.va x.vp x.tm ∧ Below w0.heap.size w0 W
/-- What the iterator does between two rounds, and what a round keeps. -/
def KpF (w0 A B : World) : Prop := Below w0.heap.size A B

section
variable (l N : Nat) (w0 : World) (M : List Fm) (J Jx : List Fx → World → Prop)
/-- What the recursive helper answers. -/
def YEndF (t : List Fm) (pre : List Fx) (W : World) (e : Ending) (W' : World) : Prop :=
  (e = .returned (.bool true) ∧ ∃ xs : List Fx, xs.map Fx.tm = t ∧ J (pre ++ xs) W' ∧ KpF w0 W W') ∨ (e = .returned (.bool false) ∧ ∃ q, Jx (pre ++ q) W')
def YieldTF (t : Fm) : Prop := ∀ (n ab off : Nat) (va vp : Value) (pre : List Fx) (W : World), Fiv w0 ab off (.int .i64 t.op) (.string t.atom.name) va (.string t.var) vp → FmV w0 va vp t → Below w0.heap.size w0 W → J pre W → pre.length + t.pst.length ≤ N → (∀ y ∈ t.pst, y ∈ M) → t.wt ≤ 1048576 →
  CallsIn Fence.wide n Try.prog 168 #[.pointer (some ⟨ab, off, none⟩), .func (.yield l) #[] #[]] W (YEndF w0 J Jx t.pst pre W)
end

set_option maxRecDepth 100000 in
set_option maxHeartbeats 4000000 in
theorem yieldF_of (l N : Nat) (w0 : World) (M : List Fm) (J Jx : List Fx → World → Prop)
    (hY : ∀ m pre (x : Fx) W, J pre W → PxF w0 M x W → pre.length < N → YieldAt Fence.wide m Try.prog l x.enc W fun e W' =>
      (e = .returned (.bool true) ∧ J (pre ++ [x]) W' ∧ KpF w0 W W') ∨ (e = .returned (.bool false) ∧ Jx (pre ++ [x]) W'))
    (t : Fm) (h : ∀ s ∈ t.parts, YieldTF l N w0 M J Jx s) : YieldTF l N w0 M J Jx t := by
  intro n ab off va vp pre W hf hv hB hj hN hM hw
  have hlen : t.parts.length ≤ 1048576 := Nat.le_trans t.wt_len hw
  obtain ⟨pa, ca, pp, cp, rfl, rfl⟩ := hv.open
  have hdd : ∀ k : Nat, (Fence.wide.depth.isSome = true → 1 ≤ k) := fun k h => by cases h
  have H := Lib.hid h
  have HV := Lib.hid hv
  have HB := Lib.hid hB
  have HF := Lib.hid hf
  have HM := Lib.hid hM
  have HW := Lib.hid hw
  have HY := Lib.hid hY
  have HJ := Lib.hid hj
  have hN1 : pre.length + (Fm.pstL t.parts).length + 1 ≤ N := by rw [t.pst_eq, List.length_append] at hN; simp at hN; omega
  obtain ⟨b0, b1, b2, b3, b4⟩ := hf.kept hB
  clear hY h hv hN hj hf hM hw hB
  refine callsIn_of_wp Try.func168 rfl trivial ?_ rfl
  simp only [Try.ntmps168, List.size_toArray, List.length_cons, List.length_nil, Nat.reduceAdd, Nat.reduceSub, Array.replicate_succ, Array.replicate_zero, List.push_toArray, List.append_toArray, List.nil_append, List.cons_append]
  gi_wp2
  gi_loopw [11] (fun i wr => ∃ (k : Nat) (xs : List Fx), k ≤ t.parts.length ∧ i = .int .i64 k ∧ xs.map Fx.tm = Fm.pstL (t.parts.take k) ∧ J (pre ++ xs) wr ∧ KpF w0 W wr) (fun i _ => t.parts.length - (intOf i).toNat)
  case atStart => exact ⟨0, [], Nat.zero_le _, rfl, by simp [Fm.pstL], by simpa using HJ.out, Below.refl _ _⟩
  case round =>
    obtain ⟨k, xs, hk, rfl, hxs, hjs, hks⟩ := hrel
    have HX := Lib.hid hxs
    have HJS := Lib.hid hjs
    have HKS := Lib.hid hks
    have HBW : Hid (Below w0.heap.size w0 wr) := Lib.hid (HB.out.trans hks)
    clear hxs hjs hks b0 b1 b2 b3 b4
    obtain ⟨b0, b1, b2, b3, b4⟩ := HF.out.kept HBW.out
    by_cases hlt : k < t.parts.length
    · obtain ⟨s, hs⟩ : ∃ s, t.parts[k]? = some s := ⟨_, List.getElem?_eq_getElem hlt⟩
      obtain ⟨b, o2, rfl, va, vp, hc, hva, hvp⟩ := HV.out.2.get hs
      have HS := Lib.hid hs
      have hroom : (pre ++ xs).length + s.pst.length ≤ N := by
        have h1 := Fm.pstL_len t.parts (k + 1)
        rw [Fm.pstL_next hs, List.length_append] at h1
        have h2 := congrArg List.length HX.out
        rw [List.length_map] at h2
        rw [List.length_append]; omega
      have HC := Lib.hid (fun (n : Nat) => H.out s (mem_of_at HS.out) n b (o2 + k * 5) va vp (pre ++ xs) wr hc ⟨hva, hvp⟩ HBW.out HJS.out hroom (fun y hy => HM.out y (Fm.pst_part (mem_of_at HS.out) hy)) (Nat.le_trans (Fm.wt_part (mem_of_at HS.out)) HW.out))
      clear hs hc hva hvp hroom
      gi_wp2
      refine ⟨trivial, hdd _, ?_⟩
      refine (HC.out _).mono ?_; (rintro e W3 (⟨rfl, ys, hys, hj3, hk3⟩ | ⟨rfl, q, hx3⟩))
      · have HN : Hid ((xs ++ ys).map Fx.tm = Fm.pstL (t.parts.take (k + 1))) := Lib.hid (by rw [List.map_append, HX.out, hys, Fm.pstL_next HS.out])
        have HJ3 : Hid (J (pre ++ (xs ++ ys)) W3) := Lib.hid (by rw [← List.append_assoc]; exact hj3)
        have HK3 : Hid (KpF w0 W W3) := Lib.hid (Below.trans HKS.out hk3)
        clear hys hj3 hk3 b0 b1 b2 b3 b4
        gi_wp2
        go_roundw
        case rel => exact ⟨k + 1, xs ++ ys, by omega, by go_num, HN.out, HJ3.out, HK3.out⟩
        case measure => simp [intOf]; omega
      · have HX3 : Hid (Jx (pre ++ (xs ++ q)) W3) := Lib.hid (by rw [← List.append_assoc]; exact hx3)
        clear hx3 b0 b1 b2 b3 b4
        gi_wp2
        go_ret
        exact .inr ⟨rfl, xs ++ q, HX3.out⟩
    · have hke : k = t.parts.length := by omega
      have HXL : Hid (xs.map Fx.tm = Fm.pstL t.parts) := Lib.hid (by rw [HX.out, hke, List.take_length])
      have hlx : (pre ++ xs).length < N := by
        have h2 := congrArg List.length HXL.out
        rw [List.length_map] at h2
        rw [List.length_append]; omega
      have hy1 := HY.out (n - 1) (pre ++ xs) ⟨ab, off, t, .slice pa t.atom.args.length ca, .slice pp t.parts.length cp⟩ wr HJS.out ⟨HM.out t t.pst_self, HF.out, HV.out, HBW.out⟩ hlx
      simp only [Fx.enc] at hy1
      obtain ⟨fn, tmps, assign, body, hy, hR⟩ := hy1
      gi_wp2
      ((try refine ⟨hdd _, ?_⟩); refine hR.mono ?_; clear hR; rintro e W2 (⟨rfl, hJ2, hk2⟩ | ⟨rfl, hx2⟩))
      · have HE : Hid (YEndF w0 J Jx t.pst pre W (.returned (.bool true)) W2) := Lib.hid (.inl ⟨rfl, xs ++ [⟨ab, off, t, .slice pa t.atom.args.length ca, .slice pp t.parts.length cp⟩], by rw [List.map_append, HXL.out, t.pst_eq]; rfl, by rw [← List.append_assoc]; exact hJ2, Below.trans HKS.out hk2⟩)
        clear hJ2 hk2 hy b0 b1 b2 b3 b4
        gi_wp2
        go_ret
        exact HE.out
      · have HE : Hid (YEndF w0 J Jx t.pst pre W (.returned (.bool false)) W2) := Lib.hid (.inr ⟨rfl, xs ++ [⟨ab, off, t, .slice pa t.atom.args.length ca, .slice pp t.parts.length cp⟩], by rw [← List.append_assoc]; exact hx2⟩)
        clear hx2 hy b0 b1 b2 b3 b4
        gi_wp2
        go_ret
        exact HE.out

theorem yieldF_any (l N : Nat) (w0 : World) (M : List Fm) (J Jx : List Fx → World → Prop)
    (hY : ∀ m pre (x : Fx) W, J pre W → PxF w0 M x W → pre.length < N → YieldAt Fence.wide m Try.prog l x.enc W fun e W' =>
      (e = .returned (.bool true) ∧ J (pre ++ [x]) W' ∧ KpF w0 W W') ∨ (e = .returned (.bool false) ∧ Jx (pre ++ [x]) W')) (t : Fm) : YieldTF l N w0 M J Jx t :=
  Fm.ind (P := YieldTF l N w0 M J Jx) (fun t ih => yieldF_of l N w0 M J Jx hY t ih) t

/-- The iterator's contract: Bp is the box that holds the formula's pointer. -/
theorem formulas_stops (n Bp ab off : Nat) (w0 : World) (t : Fm) (va vp : Value) (hw : t.wt ≤ 1048576) (w : World) (hb : Below w0.heap.size w0 w) (hf : Fiv w0 ab off (.int .i64 t.op) (.string t.atom.name) va (.string t.var) vp) (hv : FmV w0 va vp t)
    (hbox : w.cell? ⟨Bp, 0, none⟩ = some (.pointer (some ⟨ab, off, none⟩))) :
    SeqY Fence.wide n Try.prog 167 #[.pointer (some ⟨Bp, 0, none⟩)] Fx.enc Eq (KpF w0) (PxF w0 t.pst) (fun xs => xs.map Fx.tm = t.pst) (fun _ => True) t.pst.length w := by
  intro l J Jx W hW _ _ hY h0
  have hdd : ∀ k : Nat, (Fence.wide.depth.isSome = true → 1 ≤ k) := fun k h => by cases h
  have hbox2 := carry_cell hbox hW
  have HP := Lib.hid (yieldF_any l t.pst.length w0 t.pst J Jx (fun m pre x W hj hp hl => yieldAny m (hY pre x W hj hp hl)) t (n - 1) ab off va vp [] W hf hv (hb.trans (hW.mono hb.size)) h0 (by simp) (fun _ h => h) hw)
  clear hY hW hbox hf hv hb
  refine callsIn_of_wp Try.func167 rfl trivial ?_ rfl
  simp only [Try.ntmps167, List.size_toArray, List.length_cons, List.length_nil, Nat.reduceAdd, Nat.reduceSub, Array.replicate_succ, Array.replicate_zero, List.push_toArray, List.append_toArray, List.nil_append, List.cons_append]
  gi_wp2
  refine ⟨trivial, hdd _, ?_⟩; refine HP.out.mono ?_; clear HP; (rintro e W1 (⟨rfl, xs, hxs, hJ1, _⟩ | ⟨rfl, q, hx⟩))
  · gi_wp2
    go_end0
    exact ⟨⟨_, rfl⟩, .inl ⟨xs, hxs, by simpa using hJ1⟩⟩
  · gi_wp2
    go_end0
    exact ⟨⟨_, rfl⟩, .inr ⟨_, trivial, hx⟩⟩

/-- What a round may read stands while the loop keeps its books. -/
theorem PxF.put {w0 w W : World} {M : List Fm} {x : Fx} (hn : w0.heap.size ≤ w.heap.size) (l : Nat) (o o' : Obj) (hl : w.heap.size ≤ l) (h : W.heap[l]? = some o) (hc : o.isCells = false) (hw : o.isWalk = false) (hp : PxF w0 M x W) : PxF w0 M x (W.putObj l o') :=
  ⟨hp.1, hp.2.1, hp.2.2.1, hp.2.2.2.trans (belowK_b hn W l o o' hl h hc hw)⟩

/-- The function that makes the iterator. -/
theorem formulasIn_any (w : World) (p : Addr) :
    Calls Try.prog 153 #[.pointer (some p)] w (fun e w' => e = .returned (.func (.func 167) #[] #[.pointer (some ⟨w.heap.size, 0, none⟩)]) ∧ w' = w.alloc (.cells #[.pointer (some p)] 127)) := by
  go_enter Try.func153, Try.ntmps153
  go_wp2
  go_ret
  exact ⟨rfl, rfl⟩

end Go.Proofs.Ytppmiedhoimgmaa
