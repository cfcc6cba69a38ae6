/- The program's iterator over the nodes of a term, where the loop's body grows a row of terms of its own: a contract. No condition. -/
import Derived.Test.YtppmiedhoimgmaaIter
namespace Go.Proofs.Ytppmiedhoimgmaa
open Go.RowKit Go.Shelf
set_option linter.unusedVariables false

attribute [local go_sem] Oper.semAt_some

/-- The block of the row that a box's first cell holds. -/
def rowAt (W : World) (b : Nat) : Option Nat := match W.heap[b]? with
  | some (Obj.cells a _ _) => a[0]?.bind Value.ownBlock
  | _ => none
theorem rowAt_same {W W' : World} {b : Nat} (h : W'.heap[b]? = W.heap[b]?) : rowAt W' b = rowAt W b := by unfold rowAt; rw [h]
theorem rowAt_alloc {W : World} {b : Nat} {o : Obj} (h : b < W.heap.size) : rowAt (W.alloc o) b = rowAt W b := rowAt_same (Below.heap_alloc W o b h)
/-- The box lies there, and its row. -/
def OKb (b : Nat) (W : World) : Prop := b < W.heap.size ∧ ∀ g, rowAt W b = some g → g < W.heap.size
theorem OKb.below {b : Nat} {W W' : World} (h : OKb b W) (hb : Below W.heap.size W W') : OKb b W' :=
  ⟨Nat.lt_of_lt_of_le h.1 hb.size, fun g hg => Nat.lt_of_lt_of_le (h.2 g (by rw [← rowAt_same (hb.block b h.1)]; exact hg)) hb.size⟩
/-- Blocks of terms lie as they lay, but the row that the box holds; the row stays or is new. -/
def KX (b : Nat) (W W' : World) : Prop := OKb b W → OKb b W' ∧
  (∀ (k : Nat) (a : Array Value) (fz : Nat × Nat), W.heap[k]? = some (Obj.cells a 26 fz) → rowAt W b ≠ some k → W'.heap[k]? = some (Obj.cells a 26 fz)) ∧
  (∀ g, rowAt W' b = some g → rowAt W b = some g ∨ W.heap.size ≤ g)
def KpX (n₀ b : Nat) (W W' : World) : Prop := Below n₀ W W' ∧ KX b W W'
theorem KpX.refl (n₀ b : Nat) (W : World) : KpX n₀ b W W := ⟨Below.refl _ _, fun h => ⟨h, fun _ _ _ h _ => h, fun _ h => .inl h⟩⟩
theorem KpX.trans {n₀ b : Nat} {A B C : World} (h : KpX n₀ b A B) (k : KpX n₀ b B C) : KpX n₀ b A C := by
  refine ⟨h.1.trans k.1, fun ok => ?_⟩
  obtain ⟨ok1, m1, r1⟩ := h.2 ok
  obtain ⟨ok2, m2, r2⟩ := k.2 ok1
  refine ⟨ok2, fun i a fz hi hne => m2 i a fz (m1 i a fz hi hne) (fun e => ?_), fun g hg => ?_⟩
  · rcases r1 i e with h1 | h1
    · exact hne h1
    · have := (Array.getElem?_eq_some_iff.1 hi).1; omega
  · rcases r2 g hg with h1 | h1
    · exact r1 g h1
    · exact .inr (Nat.le_trans h.1.size h1)
theorem KX.of_block {b : Nat} {B C : World} (hz : B.heap.size ≤ C.heap.size) (hf : ∀ k, k < B.heap.size → C.heap[k]? = B.heap[k]?) : KX b B C := fun ok => by
  have e := rowAt_same (hf b ok.1)
  exact ⟨⟨by have := ok.1; omega, fun g hg => by have := ok.2 g (e ▸ hg); omega⟩, fun k a fz hk _ => by rw [hf k (Array.getElem?_eq_some_iff.1 hk).1]; exact hk, fun g hg => .inl (e ▸ hg)⟩
theorem KpX.alloc {n₀ b : Nat} {A B : World} (h : KpX n₀ b A B) (hn : n₀ ≤ B.heap.size) (o : Obj) : KpX n₀ b A (B.alloc o) :=
  h.trans ⟨(Below.refl _ _).alloc hn o, KX.of_block (by simp) fun k hk => Below.heap_alloc B o k hk⟩
theorem KpX.of_below {n₀ b : Nat} {A B : World} (hn : n₀ ≤ A.heap.size) (h : Below A.heap.size A B) : KpX n₀ b A B := ⟨h.mono hn, KX.of_block h.size fun k hk => h.block k hk⟩
theorem KpX.book {n₀ b : Nat} {w : World} (hn : n₀ ≤ w.heap.size) (hb : b < w.heap.size) (W : World) (l : Nat) (o o' : Obj) (hl : w.heap.size ≤ l) (h : W.heap[l]? = some o) (hc : o.isCells = false) (hw : o.isWalk = false) : KpX n₀ b W (W.putObj l o') := by
  refine ⟨belowK_b hn W l o o' hl h hc hw, fun ok => ?_⟩
  have hg := grownBy_putObj' W l o'
  have e : rowAt (W.putObj l o') b = rowAt W b := rowAt_same (hg.block b ok.1 (fun e => by have := Option.some.inj e; omega))
  refine ⟨⟨Nat.lt_of_lt_of_le ok.1 hg.size, fun g hr => Nat.lt_of_lt_of_le (ok.2 g (e ▸ hr)) hg.size⟩, fun k a fz hk _ => ?_, fun g hr => .inl (e ▸ hr)⟩
  rw [hg.block k (Array.getElem?_eq_some_iff.1 hk).1 (fun e => by cases e; rw [h] at hk; cases hk; cases hc)]; exact hk
/-- A term's own box behind a round. -/
theorem KX.two {bb : Nat} {A B : World} (h : KX bb A B) (ok : OKb bb A) {b : Nat} (hne : rowAt A bb ≠ some b) {x y : Value} (hb : A.heap[b]? = some (Obj.cells #[x, y] 26 (0, 0))) : Two B b x y := by
  have e := (h ok).2.1 b _ _ hb hne
  exact ⟨by simp [World.cell?, e], by simp [World.cell?, e], fun j => by simp [World.frozen?, e]⟩

section
variable (bb l N : Nat) (w0 : World) (J Jx : List Nd → World → Prop)

/-- What the recursive helper answers. -/
def YEndX (t : List Tm) (pre : List Nd) (W : World) (e : Ending) (W' : World) : Prop :=
  (e = .returned (.bool true) ∧ ∃ xs : List Nd, xs.map Nd.tm = t ∧ J (pre ++ xs) W' ∧ KpX w0.heap.size bb W W') ∨ (e = .returned (.bool false) ∧ ∃ q, Jx (pre ++ q) W')

def YieldTX (t : Tm) : Prop := ∀ (n : Nat) (va : Value) (pre : List Nd) (W : World), OKb bb W → TmS w0 va t.args → Below w0.heap.size w0 W → J pre W → pre.length + t.nds.length ≤ N → t.args.length ≤ 9223372036854775806 →
  CallsIn Fence.wide n Try.prog 126 #[.agg #[.string t.name, va], .func (.yield l) #[] #[]] W (YEndX bb w0 J Jx t.nds pre W)
end

set_option maxRecDepth 100000 in
set_option maxHeartbeats 4000000 in
theorem yieldX_of (bb l N B : Nat) (w0 : World) (J Jx : List Nd → World → Prop) (hJ : AbidesFrom B J) (hlim : Nat)
    (hY : ∀ m pre (x : Nd) W, J pre W → pre.length < N → YieldAt Fence.wide m Try.prog l x.enc W fun e W' =>
      (e = .returned (.bool true) ∧ J (pre ++ [x]) W' ∧ KpX w0.heap.size bb W W') ∨ (e = .returned (.bool false) ∧ Jx (pre ++ [x]) W'))
    (t : Tm) (ht : t.lim 9223372036854775806) (h : ∀ s ∈ t.args, s.lim 9223372036854775806 → YieldTX bb l N w0 J Jx s) : YieldTX bb l N w0 J Jx t := by
  intro n va pre W hok hv hB hj hN hl
  have HOK := Lib.hid hok
  obtain ⟨a, c, rfl⟩ := hv.is_slice
  have hdd : ∀ k : Nat, (Fence.wide.depth.isSome = true → 1 ≤ k) := fun k h => by cases h
  have HJ := Lib.hid hJ
  have H := Lib.hid h
  have HV := Lib.hid hv
  have HB := Lib.hid hB
  have HT := Lib.hid ht
  have hN1 : pre.length + 1 + (Tm.ndsL t.args).length ≤ N := by rw [t.nds_eq, List.length_cons] at hN; omega
  obtain ⟨W1, hW1⟩ : ∃ W1, W.alloc (.cells #[.string t.name, .slice a t.args.length c] 26) = W1 := ⟨_, rfl⟩
  have hbox : W1.heap[W.heap.size]? = some (Obj.cells #[.string t.name, .slice a t.args.length c] 26 (0, 0)) := by rw [← hW1]; exact World.alloc_heap_new W _
  have K1 : Hid (KpX w0.heap.size bb W W1) := Lib.hid (by rw [← hW1]; exact (KpX.refl _ _ _).alloc hB.size _)
  have HOK1 : Hid (OKb bb W1 ∧ rowAt W1 bb ≠ some W.heap.size) := Lib.hid ⟨(K1.out.2 hok).1, by rw [← hW1, rowAt_alloc hok.1]; exact fun e => by have := hok.2 _ e; omega⟩
  have two1 : Two W1 W.heap.size (.string t.name) (.slice a t.args.length c) := by rw [← hW1]; exact two_new W _ _ _ _ rfl
  have HJ1 : J pre W1 := by rw [← hW1]; exact abides_alloc hJ hj _
  obtain ⟨b0, b1, b2⟩ := two1
  have hy1 : YieldAt Fence.wide (n - 1) Try.prog l (Nd.mk t a c).enc W1 fun e W2 =>
      (e = .returned (.bool true) ∧ J (pre ++ [Nd.mk t a c]) W2 ∧ KpX w0.heap.size bb W W2 ∧ W2.cell? ⟨W.heap.size, 1, none⟩ = some (.slice a t.args.length c)) ∨ (e = .returned (.bool false) ∧ Jx (pre ++ [Nd.mk t a c]) W2) :=
    YieldAt.mono (hY (n - 1) pre (Nd.mk t a c) W1 HJ1 (by omega)) fun e W2 h => h.elim (fun ⟨he, hj2, hk2⟩ => .inl ⟨he, hj2, K1.out.trans hk2, (hk2.2.two HOK1.out.1 HOK1.out.2 hbox).2.1⟩) .inr
  simp only [Nd.enc] at hy1
  obtain ⟨fn, tmps, assign, body, hy, hR⟩ := hy1
  clear hY hJ h hv ht K1 hN hj hok
  refine callsIn_of_wp Try.func126 rfl trivial ?_ rfl
  simp only [Try.ntmps126, List.size_toArray, List.length_cons, List.length_nil, Nat.reduceAdd, Nat.reduceSub, Array.replicate_succ, Array.replicate_zero, List.push_toArray, List.append_toArray, List.nil_append, List.cons_append]
  gi_wp2
  ((try refine ⟨hdd _, ?_⟩); refine hR.mono ?_; clear hR; rintro e W2 (⟨rfl, hJ2, hk2, c2⟩ | ⟨rfl, hx2⟩))
  · have HK2 := Lib.hid hk2
    have HJ2 := Lib.hid hJ2
    clear hJ2 hk2 HJ1 hW1 hbox b0 b1 b2 hy
    gi_wp2
    gi_loopw [14] (fun i wr => ∃ (k : Nat) (xs : List Nd), k ≤ t.args.length ∧ i = .int .i64 k ∧ xs.map Nd.tm = t :: Tm.ndsL (t.args.take k) ∧ J (pre ++ xs) wr ∧ KpX w0.heap.size bb W wr) (fun i _ => t.args.length - (intOf i).toNat)
    case atStart => exact ⟨0, [Nd.mk t a c], Nat.zero_le _, rfl, by simp [Tm.ndsL], HJ2.out, HK2.out⟩
    case round =>
      obtain ⟨k, xs, hk, rfl, hxs, hjs, hks⟩ := hrel
      have HX := Lib.hid hxs
      have HJS := Lib.hid hjs
      have HKS := Lib.hid hks
      clear hxs hjs hks
      by_cases hlt : k < t.args.length
      · obtain ⟨s, hs⟩ : ∃ s, t.args[k]? = some s := ⟨_, List.getElem?_eq_getElem hlt⟩
        obtain ⟨b, off, rfl, va, c0, c1, hva⟩ := HV.out.get hs
        have HBW : Hid (Below w0.heap.size w0 wr) := Lib.hid (HB.out.trans HKS.out.1)
        have c0' := carry_cell c0 HBW.out
        have c1' := carry_cell c1 HBW.out
        obtain ⟨a', c', rfl⟩ := hva.is_slice
        have HVA := Lib.hid hva
        have HS := Lib.hid hs
        have hsl : s.lim 9223372036854775806 := (Tm.lim_eq.1 HT.out).2.2 s (mem_of_at hs)
        have hlen : xs.length = 1 + (Tm.ndsL (t.args.take k)).length := by have := congrArg List.length HX.out; simp at this; omega
        have hroom : (pre ++ xs).length + s.nds.length ≤ N := by
          have h1 := Tm.ndsL_len t.args (k + 1)
          rw [Tm.ndsL_next HS.out, List.length_append] at h1
          rw [List.length_append]; omega
        have HC := Lib.hid (fun (n : Nat) (W' : World) (hj : J (pre ++ xs) W') (hb : Below w0.heap.size w0 W') (hok' : OKb bb W') => H.out s (mem_of_at HS.out) hsl n _ (pre ++ xs) W' hok' HVA.out hb hj hroom (Tm.lim_eq.1 hsl).2.1)
        have HJA := Lib.hid (abides_alloc HJ.out HJS.out (.cells #[.string s.name, .slice a' s.args.length c'] 26))
        have HKA := Lib.hid (HKS.out.alloc (Nat.le_trans HB.out.size HKS.out.1.size) (.cells #[.string s.name, .slice a' s.args.length c'] 26))
        clear hs c0 c1 hva hroom
        gi_wp2
        refine ⟨trivial, hdd _, ?_⟩
        refine (HC.out _ _ HJA.out (HB.out.trans HKA.out.1) (HKA.out.2 HOK.out).1).mono ?_; (rintro e W3 (⟨rfl, ys, hys, hj3, hk3⟩ | ⟨rfl, q, hx3⟩))
        · have HN : Hid ((xs ++ ys).map Nd.tm = t :: Tm.ndsL (t.args.take (k + 1))) := Lib.hid (by rw [List.map_append, HX.out, hys, Tm.ndsL_next HS.out]; rfl)
          have HJ3 : Hid (J (pre ++ (xs ++ ys)) W3) := Lib.hid (by rw [← List.append_assoc]; exact hj3)
          have HK3 := Lib.hid (HKA.out.trans hk3)
          clear hys hj3 hk3
          gi_wp2
          go_roundw
          case rel => exact ⟨k + 1, xs ++ ys, by omega, by go_num, HN.out, HJ3.out, HK3.out⟩
          case measure => simp [intOf]; omega
        · have HX3 : Hid (Jx (pre ++ (xs ++ q)) W3) := Lib.hid (by rw [← List.append_assoc]; exact hx3)
          clear hx3
          gi_wp2
          go_ret
          exact .inr ⟨rfl, xs ++ q, HX3.out⟩
      · have hke : k = t.args.length := by omega
        have HN : Hid (xs.map Nd.tm = t.nds) := Lib.hid (by rw [HX.out, hke, Tm.ndsL_all (Nat.le_refl _), t.nds_eq])
        gi_wp2
        go_ret
        exact .inl ⟨rfl, xs, HN.out, HJS.out, HKS.out⟩
  · gi_wp2
    go_ret
    exact .inr ⟨rfl, [Nd.mk t a c], hx2⟩

theorem yieldX_any (bb l N B : Nat) (w0 : World) (J Jx : List Nd → World → Prop) (hJ : AbidesFrom B J)
    (hY : ∀ m pre (x : Nd) W, J pre W → pre.length < N → YieldAt Fence.wide m Try.prog l x.enc W fun e W' =>
      (e = .returned (.bool true) ∧ J (pre ++ [x]) W' ∧ KpX w0.heap.size bb W W') ∨ (e = .returned (.bool false) ∧ Jx (pre ++ [x]) W')) :
    ∀ t : Tm, t.lim 9223372036854775806 → YieldTX bb l N w0 J Jx t :=
  Tm.ind fun t ih ht => yieldX_of bb l N B w0 J Jx hJ 0 hY t ht ih

/-- The closure that the iterator is. -/
theorem nodesX1_in (bb n l N B Bt : Nat) (w0 : World) (t : Tm) (va : Value) (ht : t.lim 9223372036854775806) (J Jx : List Nd → World → Prop) (hv : TmS w0 va t.args) (hN : t.nds.length ≤ N)
    (hY : ∀ pre (x : Nd) W, J pre W → pre.length < N → YieldAt Fence.wide (n - 1) Try.prog l x.enc W fun e W' =>
      (e = .returned (.bool true) ∧ J (pre ++ [x]) W' ∧ KpX w0.heap.size bb W W') ∨ (e = .returned (.bool false) ∧ Jx (pre ++ [x]) W'))
    (W : World) (hok : OKb bb W) (hJ : AbidesFrom B J) (hb : Below w0.heap.size w0 W) (h2 : Two W Bt (.string t.name) va) (h0 : J [] W) :
    CallsIn Fence.wide n Try.prog 125 #[.func (.yield l) #[] #[], .pointer (some ⟨Bt, 0, none⟩)] W fun e W' => (∃ v, e = .returned v) ∧
      ((∃ xs : List Nd, xs.map Nd.tm = t.nds ∧ J xs W') ∨ (∃ pre, True ∧ Jx pre W')) := by
  have hdd : ∀ k : Nat, (Fence.wide.depth.isSome = true → 1 ≤ k) := fun k h => by cases h
  have HP := Lib.hid (yieldX_any bb l N B w0 J Jx hJ (fun m pre x W hj hl => yieldAny m (hY pre x W hj hl)) t ht (n - 1) va [] W hok hv hb h0 (by simpa using hN) (Tm.lim_eq.1 ht).2.1)
  obtain ⟨pa, pc, rfl⟩ := hv.is_slice
  obtain ⟨b0, b1, b2⟩ := h2
  clear hY hJ
  refine callsIn_of_wp Try.func125 rfl trivial ?_ rfl
  simp only [Try.ntmps125, List.size_toArray, List.length_cons, List.length_nil, Nat.reduceAdd, Nat.reduceSub, Array.replicate_succ, Array.replicate_zero, List.push_toArray, List.append_toArray, List.nil_append, List.cons_append]
  gi_wp2
  refine ⟨trivial, hdd _, ?_⟩; refine HP.out.mono ?_; clear HP; (rintro e W1 (⟨rfl, xs, hxs, hJ1, _⟩ | ⟨rfl, q, hx⟩))
  · gi_wp2
    go_end0
    exact ⟨⟨_, rfl⟩, .inl ⟨xs, hxs, by simpa using hJ1⟩⟩
  · gi_wp2
    go_end0
    exact ⟨⟨_, rfl⟩, .inr ⟨_, trivial, hx⟩⟩

/-- The iterator's contract. -/
theorem nodesX_stops (bb n Bt : Nat) (w0 : World) (t : Tm) (va : Value) (ht : t.lim 9223372036854775806) (hv : TmS w0 va t.args) (w : World) (hb : Below w0.heap.size w0 w) (hw : w0.heap.size ≤ w.heap.size) (h2 : Two w Bt (.string t.name) va) (hok : OKb bb w) :
    SeqStopsK Fence.wide n Try.prog 125 #[.pointer (some ⟨Bt, 0, none⟩)] Nd.enc (KpX w0.heap.size bb) (fun xs => xs.map Nd.tm = t.nds) (fun _ => True) t.nds.length w := fun l J Jx W hW hJ _ hY h =>
  nodesX1_in bb n l _ _ Bt w0 t va ht J Jx hv (Nat.le_refl _) hY W (hok.below hW) hJ (hb.trans (hW.mono hw)) (h2.kept hW) h


end Go.Proofs.Ytppmiedhoimgmaa
