/- The program's iterator over the nodes of a term hands over all nodes in preorder: a contract, for every term that lies in memory, whatever the loop's body does beside it. No condition. -/
import Derived.Test.YtppmiedhoimgmaaTmV
import Derived.RangeFuncBox
import Derived.RangeFuncLeaves
import Derived.RangeFuncNested
import Derived.RangeFuncBound
import Derived.RangeFuncCalls
import Derived.Shelf.Abstract
import Derived.OwnWalkIn
import Derived.TacticsInMore
import Derived.LoopNIn
import Derived.LoopIn
import Derived.Maps.AppendAt
import Derived.Scope
import Derived.ControlIn
import Derived.WalkMore
namespace Go.Proofs.Ytppmiedhoimgmaa
open Go.RowKit Go.Shelf
set_option linter.unusedVariables false

attribute [local go_sem] Oper.semAt_some

mutual
/-- The nodes of a term, itself first. -/
def Tm.nds : Tm → List Tm
  | .node n l => .node n l :: Tm.ndsL l
def Tm.ndsL : List Tm → List Tm
  | [] => []
  | t :: r => Tm.nds t ++ Tm.ndsL r
end

theorem Tm.nds_eq (t : Tm) : t.nds = t :: Tm.ndsL t.args := by
  cases t with
  | node n l => rw [Tm.nds]; rfl
theorem Tm.ndsL_append : ∀ a b : List Tm, Tm.ndsL (a ++ b) = Tm.ndsL a ++ Tm.ndsL b
  | [], b => by simp [Tm.ndsL]
  | t :: r, b => by simp [Tm.ndsL, Tm.ndsL_append r b]
theorem Tm.ndsL_next {l : List Tm} {k : Nat} {t : Tm} (h : l[k]? = some t) : Tm.ndsL (l.take (k + 1)) = Tm.ndsL (l.take k) ++ t.nds := by
  rw [take_next h, Tm.ndsL_append]; simp [Tm.ndsL]
theorem Tm.ndsL_all {l : List Tm} {k : Nat} (h : l.length ≤ k) : Tm.ndsL (l.take k) = Tm.ndsL l := by rw [List.take_of_length_le h]
theorem Tm.ndsL_len (l : List Tm) (k : Nat) : (Tm.ndsL (l.take k)).length ≤ (Tm.ndsL l).length := by
  have h := Tm.ndsL_append (l.take k) (l.drop k)
  rw [List.take_append_drop] at h
  rw [h, List.length_append]; omega
theorem Tm.nds_len : ∀ t : Tm, t.nds.length = t.sz := Tm.ind fun t ih => by
  rw [t.nds_eq, t.sz_eq, List.length_cons]
  have : ∀ l : List Tm, (∀ s ∈ l, s.nds.length = s.sz) → (Tm.ndsL l).length = sumL Tm.sz l := by
    intro l
    induction l with
    | nil => intro _; simp [Tm.ndsL, sumL]
    | cons a r ih2 =>
      intro h
      rw [Tm.ndsL, List.length_append, h a List.mem_cons_self, ih2 fun s hs => h s (List.mem_cons_of_mem _ hs)]
      simp [sumL]
  rw [this _ ih]; omega

/-- A node as a round of the loop is handed it: the term, and where its arguments lie. -/
structure Nd where
  tm : Tm
  a : Option Addr
  c : Nat
def Nd.enc (x : Nd) : Array Value := #[.agg #[.string x.tm.name, .slice x.a x.tm.args.length x.c]]

/-- Blocks of terms lie as they lay. -/
def KeepTm (W W' : World) : Prop := ∀ (k : Nat) (a : Array Value) (fz : Nat × Nat), W.heap[k]? = some (Obj.cells a 26 fz) → W'.heap[k]? = some (Obj.cells a 26 fz)
/-- What a round keeps: what lay below, and blocks of terms. -/
def KpT (n₀ : Nat) (W W' : World) : Prop := Below n₀ W W' ∧ KeepTm W W'

theorem KeepTm.refl (W : World) : KeepTm W W := fun _ _ _ h => h
theorem KeepTm.trans {A B C : World} (h : KeepTm A B) (k : KeepTm B C) : KeepTm A C := fun i a fz hi => k i a fz (h i a fz hi)
theorem KeepTm.drew {A B : World} (h : KeepTm A B) : KeepTm A B.drew := h
theorem KeepTm.grown {A B : World} {row : Option Nat} (hg : A.grownBy B row) (hr : ∀ r, row = some r → ∀ (a : Array Value) (fz : Nat × Nat), A.heap[r]? ≠ some (Obj.cells a 26 fz)) : KeepTm A B := fun k a fz h => by
  have hlt : k < A.heap.size := (Array.getElem?_eq_some_iff.1 h).1
  exact (hg.block k hlt (fun e => hr k e.symm a fz h)).trans h
theorem KeepTm.alloc {A B : World} (h : KeepTm A B) (o : Obj) : KeepTm A (B.alloc o) := h.trans (.grown (World.grownBy_alloc B o none) (fun r e => by cases e))

theorem KpT.refl (n₀ : Nat) (W : World) : KpT n₀ W W := ⟨Below.refl _ _, KeepTm.refl _⟩
theorem KpT.trans {n₀ : Nat} {A B C : World} (h : KpT n₀ A B) (k : KpT n₀ B C) : KpT n₀ A C := ⟨h.1.trans k.1, h.2.trans k.2⟩
theorem KpT.alloc {n₀ : Nat} {A B : World} (h : KpT n₀ A B) (hn : n₀ ≤ B.heap.size) (o : Obj) : KpT n₀ A (B.alloc o) := ⟨h.1.alloc hn o, h.2.alloc o⟩
theorem KpT.book {n₀ : Nat} {w : World} (hn : n₀ ≤ w.heap.size) (W : World) (l : Nat) (o o' : Obj) (hl : w.heap.size ≤ l) (h : W.heap[l]? = some o) (hc : o.isCells = false) (hw : o.isWalk = false) : KpT n₀ W (W.putObj l o') :=
  ⟨belowK_b hn W l o o' hl h hc hw, .grown (grownBy_putObj' W l o') (fun r e a fz hr => by cases e; rw [h] at hr; cases hr; cases hc)⟩

/-- A term's own box behind a round. -/
theorem KeepTm.two {A B : World} (h : KeepTm A B) {b : Nat} {x y : Value} (hb : A.heap[b]? = some (Obj.cells #[x, y] 26 (0, 0))) : Two B b x y := by
  have e := h b _ _ hb
  exact ⟨by simp [World.cell?, e], by simp [World.cell?, e], fun j => by simp [World.frozen?, e]⟩

theorem abides_alloc {β : Type} {B : Nat} {J : β → World → Prop} (h : AbidesFrom B J) {s : β} {W : World} (hs : J s W) (o : Obj) : J s (W.alloc o) := h s W _ none hs (World.grownBy_alloc W o none) (fun r e => by cases e)
theorem abides_drew {β : Type} {B : Nat} {J : β → World → Prop} (h : AbidesFrom B J) {s : β} {W : World} (hs : J s W) : J s W.drew := h s W _ none hs ⟨rfl, rfl, rfl, Nat.le_refl _, fun _ _ _ => rfl⟩ (fun r e => by cases e)

theorem roundAny {m m' : Nat} {P : Program} {l : Nat} {f : FuncId} {tmps : Array Value} {assign body : Code} {w : World} {R : Ending → World → Prop}
    (h : RoundIn Fence.wide m P l f tmps assign body w R) : RoundIn Fence.wide m' P l f tmps assign body w R := ⟨h.1, fun c cs _ => h.2 c cs (fun d h => by cases h)⟩
theorem yieldAny {m : Nat} (m' : Nat) {P : Program} {l : Nat} {args : Array Value} {W : World} {R : Ending → World → Prop} (h : YieldAt Fence.wide m P l args W R) : YieldAt Fence.wide m' P l args W R := by
  obtain ⟨fn, tmps, assign, body, hy, hR⟩ := h
  exact ⟨fn, tmps, assign, body, hy, roundAny hR⟩

section
variable (l N : Nat) (w0 : World) (J Jx : List Nd → World → Prop)

/-- What the recursive helper answers. -/
def YEnd (t : List Tm) (pre : List Nd) (W : World) (e : Ending) (W' : World) : Prop :=
  (e = .returned (.bool true) ∧ ∃ xs : List Nd, xs.map Nd.tm = t ∧ J (pre ++ xs) W' ∧ KpT w0.heap.size W W') ∨ (e = .returned (.bool false) ∧ ∃ q, Jx (pre ++ q) W')

def YieldT (t : Tm) : Prop := ∀ (n : Nat) (va : Value) (pre : List Nd) (W : World), TmS w0 va t.args → Below w0.heap.size w0 W → J pre W → pre.length + t.nds.length ≤ N → t.args.length ≤ 9223372036854775806 →
  CallsIn Fence.wide n Try.prog 126 #[.agg #[.string t.name, va], .func (.yield l) #[] #[]] W (YEnd w0 J Jx t.nds pre W)
end

set_option maxRecDepth 100000 in
set_option maxHeartbeats 4000000 in
theorem yield_of (l N B : Nat) (w0 : World) (J Jx : List Nd → World → Prop) (hJ : AbidesFrom B J) (hlim : Nat)
    (hY : ∀ m pre (x : Nd) W, J pre W → pre.length < N → YieldAt Fence.wide m Try.prog l x.enc W fun e W' =>
      (e = .returned (.bool true) ∧ J (pre ++ [x]) W' ∧ KpT w0.heap.size W W') ∨ (e = .returned (.bool false) ∧ Jx (pre ++ [x]) W'))
    (t : Tm) (ht : t.lim 9223372036854775806) (h : ∀ s ∈ t.args, s.lim 9223372036854775806 → YieldT l N w0 J Jx s) : YieldT l N w0 J Jx t := by
  intro n va pre W hv hB hj hN hl
  obtain ⟨a, c, rfl⟩ := hv.is_slice
  have hdd : ∀ k : Nat, (Fence.wide.depth.isSome = true → 1 ≤ k) := fun k h => by cases h
  have HJ := Lib.hid hJ
  have H := Lib.hid h
  have HV := Lib.hid hv
  have HB := Lib.hid hB
  have HT := Lib.hid ht
  have hN1 : pre.length + 1 + (Tm.ndsL t.args).length ≤ N := by rw [t.nds_eq, List.length_cons] at hN; omega
  obtain ⟨W1, hW1⟩ : ∃ W1, W.alloc (.cells #[.string t.name, .slice a t.args.length c] 26) = W1 := ⟨_, rfl⟩
  have hbox : W1.heap[W.heap.size]? = some (Obj.cells #[.string t.name, .slice a t.args.length c] 26 (0, 0)) := by rw [← hW1]; exact World.alloc_heap_new W _
  have K1 : Hid (KpT w0.heap.size W W1) := Lib.hid (by rw [← hW1]; exact (KpT.refl _ _).alloc hB.size _)
  have two1 : Two W1 W.heap.size (.string t.name) (.slice a t.args.length c) := by rw [← hW1]; exact two_new W _ _ _ _ rfl
  have HJ1 : J pre W1 := by rw [← hW1]; exact abides_alloc hJ hj _
  obtain ⟨b0, b1, b2⟩ := two1
  have hy1 : YieldAt Fence.wide (n - 1) Try.prog l (Nd.mk t a c).enc W1 fun e W2 =>
      (e = .returned (.bool true) ∧ J (pre ++ [Nd.mk t a c]) W2 ∧ KpT w0.heap.size W W2 ∧ W2.cell? ⟨W.heap.size, 1, none⟩ = some (.slice a t.args.length c)) ∨ (e = .returned (.bool false) ∧ Jx (pre ++ [Nd.mk t a c]) W2) :=
    YieldAt.mono (hY (n - 1) pre (Nd.mk t a c) W1 HJ1 (by omega)) fun e W2 h => h.elim (fun ⟨he, hj2, hk2⟩ => .inl ⟨he, hj2, K1.out.trans hk2, (hk2.2.two hbox).2.1⟩) .inr
  simp only [Nd.enc] at hy1
  obtain ⟨fn, tmps, assign, body, hy, hR⟩ := hy1
  clear hY hJ h hv ht K1 hN hj
  refine callsIn_of_wp Try.func126 rfl trivial ?_ rfl
  simp only [Try.ntmps126, List.size_toArray, List.length_cons, List.length_nil, Nat.reduceAdd, Nat.reduceSub, Array.replicate_succ, Array.replicate_zero, List.push_toArray, List.append_toArray, List.nil_append, List.cons_append]
  gi_wp2
  ((try refine ⟨hdd _, ?_⟩); refine hR.mono ?_; clear hR; rintro e W2 (⟨rfl, hJ2, hk2, c2⟩ | ⟨rfl, hx2⟩))
  · have HK2 := Lib.hid hk2
    have HJ2 := Lib.hid hJ2
    clear hJ2 hk2 HJ1 hW1 hbox b0 b1 b2 hy
    gi_wp2
    gi_loopw [14] (fun i wr => ∃ (k : Nat) (xs : List Nd), k ≤ t.args.length ∧ i = .int .i64 k ∧ xs.map Nd.tm = t :: Tm.ndsL (t.args.take k) ∧ J (pre ++ xs) wr ∧ KpT w0.heap.size W wr) (fun i _ => t.args.length - (intOf i).toNat)
    case atStart => exact ⟨0, [Nd.mk t a c], Nat.zero_le _, rfl, by simp [Tm.ndsL], HJ2.out, HK2.out⟩
    case round =>
      obtain ⟨k, xs, hk, rfl, hxs, hjs, hks⟩ := hrel
      have HX := Lib.hid hxs
      have HJS := Lib.hid hjs
      have HKS := Lib.hid hks
      clear hxs hjs hks
      by_cases hlt : k < t.args.length
      · obtain ⟨s, hs⟩ : ∃ s, t.args[k]? = some s := ⟨_, List.getElem?_eq_getElem hlt⟩
        obtain ⟨b, off, rfl, va, c0, c1, hva⟩ := HV.out.get hs
        have HBW : Hid (Below w0.heap.size w0 wr) := Lib.hid (HB.out.trans HKS.out.1)
        have c0' := carry_cell c0 HBW.out
        have c1' := carry_cell c1 HBW.out
        obtain ⟨a', c', rfl⟩ := hva.is_slice
        have HVA := Lib.hid hva
        have HS := Lib.hid hs
        have hsl : s.lim 9223372036854775806 := (Tm.lim_eq.1 HT.out).2.2 s (mem_of_at hs)
        have hlen : xs.length = 1 + (Tm.ndsL (t.args.take k)).length := by have := congrArg List.length HX.out; simp at this; omega
        have hroom : (pre ++ xs).length + s.nds.length ≤ N := by
          have h1 := Tm.ndsL_len t.args (k + 1)
          rw [Tm.ndsL_next HS.out, List.length_append] at h1
          rw [List.length_append]; omega
        have HC := Lib.hid (fun (n : Nat) (W' : World) (hj : J (pre ++ xs) W') (hb : Below w0.heap.size w0 W') => H.out s (mem_of_at HS.out) hsl n _ (pre ++ xs) W' HVA.out hb hj hroom (Tm.lim_eq.1 hsl).2.1)
        have HJA := Lib.hid (abides_alloc HJ.out HJS.out (.cells #[.string s.name, .slice a' s.args.length c'] 26))
        have HKA := Lib.hid (HKS.out.alloc (Nat.le_trans HB.out.size HKS.out.1.size) (.cells #[.string s.name, .slice a' s.args.length c'] 26))
        clear hs c0 c1 hva hroom
        gi_wp2
        refine ⟨trivial, hdd _, ?_⟩
        refine (HC.out _ _ HJA.out (HB.out.trans HKA.out.1)).mono ?_; (rintro e W3 (⟨rfl, ys, hys, hj3, hk3⟩ | ⟨rfl, q, hx3⟩))
        · have HN : Hid ((xs ++ ys).map Nd.tm = t :: Tm.ndsL (t.args.take (k + 1))) := Lib.hid (by rw [List.map_append, HX.out, hys, Tm.ndsL_next HS.out]; rfl)
          have HJ3 : Hid (J (pre ++ (xs ++ ys)) W3) := Lib.hid (by rw [← List.append_assoc]; exact hj3)
          have HK3 := Lib.hid (HKA.out.trans hk3)
          clear hys hj3 hk3
          gi_wp2
          go_roundw
          case rel => exact ⟨k + 1, xs ++ ys, by omega, by go_num, HN.out, HJ3.out, HK3.out⟩
          case measure => simp [intOf]; omega
        · have HX3 : Hid (Jx (pre ++ (xs ++ q)) W3) := Lib.hid (by rw [← List.append_assoc]; exact hx3)
          clear hx3
          gi_wp2
          go_ret
          exact .inr ⟨rfl, xs ++ q, HX3.out⟩
      · have hke : k = t.args.length := by omega
        have HN : Hid (xs.map Nd.tm = t.nds) := Lib.hid (by rw [HX.out, hke, Tm.ndsL_all (Nat.le_refl _), t.nds_eq])
        gi_wp2
        go_ret
        exact .inl ⟨rfl, xs, HN.out, HJS.out, HKS.out⟩
  · gi_wp2
    go_ret
    exact .inr ⟨rfl, [Nd.mk t a c], hx2⟩

theorem yield_any (l N B : Nat) (w0 : World) (J Jx : List Nd → World → Prop) (hJ : AbidesFrom B J)
    (hY : ∀ m pre (x : Nd) W, J pre W → pre.length < N → YieldAt Fence.wide m Try.prog l x.enc W fun e W' =>
      (e = .returned (.bool true) ∧ J (pre ++ [x]) W' ∧ KpT w0.heap.size W W') ∨ (e = .returned (.bool false) ∧ Jx (pre ++ [x]) W')) :
    ∀ t : Tm, t.lim 9223372036854775806 → YieldT l N w0 J Jx t :=
  Tm.ind fun t ih ht => yield_of l N B w0 J Jx hJ 0 hY t ht ih

/-- The closure that the iterator is. -/
theorem nodes1_in (n l N B Bt : Nat) (w0 : World) (t : Tm) (va : Value) (ht : t.lim 9223372036854775806) (J Jx : List Nd → World → Prop) (hv : TmS w0 va t.args) (hN : t.nds.length ≤ N)
    (hY : ∀ pre (x : Nd) W, J pre W → pre.length < N → YieldAt Fence.wide (n - 1) Try.prog l x.enc W fun e W' =>
      (e = .returned (.bool true) ∧ J (pre ++ [x]) W' ∧ KpT w0.heap.size W W') ∨ (e = .returned (.bool false) ∧ Jx (pre ++ [x]) W'))
    (W : World) (hJ : AbidesFrom B J) (hb : Below w0.heap.size w0 W) (h2 : Two W Bt (.string t.name) va) (h0 : J [] W) :
    CallsIn Fence.wide n Try.prog 125 #[.func (.yield l) #[] #[], .pointer (some ⟨Bt, 0, none⟩)] W fun e W' => (∃ v, e = .returned v) ∧
      ((∃ xs : List Nd, xs.map Nd.tm = t.nds ∧ J xs W') ∨ (∃ pre, True ∧ Jx pre W')) := by
  have hdd : ∀ k : Nat, (Fence.wide.depth.isSome = true → 1 ≤ k) := fun k h => by cases h
  have HP := Lib.hid (yield_any l N B w0 J Jx hJ (fun m pre x W hj hl => yieldAny m (hY pre x W hj hl)) t ht (n - 1) va [] W hv hb h0 (by simpa using hN) (Tm.lim_eq.1 ht).2.1)
  obtain ⟨pa, pc, rfl⟩ := hv.is_slice
  obtain ⟨b0, b1, b2⟩ := h2
  clear hY hJ
  refine callsIn_of_wp Try.func125 rfl trivial ?_ rfl
  simp only [Try.ntmps125, List.size_toArray, List.length_cons, List.length_nil, Nat.reduceAdd, Nat.reduceSub, Array.replicate_succ, Array.replicate_zero, List.push_toArray, List.append_toArray, List.nil_append, List.cons_append]
  gi_wp2
  refine ⟨trivial, hdd _, ?_⟩; refine HP.out.mono ?_; clear HP; (rintro e W1 (⟨rfl, xs, hxs, hJ1, _⟩ | ⟨rfl, q, hx⟩))
  · gi_wp2
    go_end0
    exact ⟨⟨_, rfl⟩, .inl ⟨xs, hxs, by simpa using hJ1⟩⟩
  · gi_wp2
    go_end0
    exact ⟨⟨_, rfl⟩, .inr ⟨_, trivial, hx⟩⟩

/-- The iterator's contract. -/
theorem nodes_stops (n Bt : Nat) (w0 : World) (t : Tm) (va : Value) (ht : t.lim 9223372036854775806) (hv : TmS w0 va t.args) (w : World) (hb : Below w0.heap.size w0 w) (hw : w0.heap.size ≤ w.heap.size) (h2 : Two w Bt (.string t.name) va) :
    SeqStopsK Fence.wide n Try.prog 125 #[.pointer (some ⟨Bt, 0, none⟩)] Nd.enc (KpT w0.heap.size) (fun xs => xs.map Nd.tm = t.nds) (fun _ => True) t.nds.length w := fun l J Jx W hW hJ _ hY h =>
  nodes1_in n l _ _ Bt w0 t va ht J Jx hv (Nat.le_refl _) hY W hJ (hb.trans (hW.mono hw)) (h2.kept hW) h

theorem nodesOf_any (t : Tm) (va : Value) (w : World) (hv : TmS w va t.args) :
    Calls Try.prog 71 #[.agg #[.string t.name, va]] w fun e w' => e = .returned (.func (.func 125) #[] #[.pointer (some ⟨w.heap.size, 0, none⟩)]) ∧ w' = w.alloc (.cells #[.string t.name, va] 26) := by
  obtain ⟨pa, pc, rfl⟩ := hv.is_slice
  clear hv
  go_enter Try.func71, Try.ntmps71
  go_wp2
  go_ret
  exact ⟨rfl, rfl⟩

end Go.Proofs.Ytppmiedhoimgmaa
