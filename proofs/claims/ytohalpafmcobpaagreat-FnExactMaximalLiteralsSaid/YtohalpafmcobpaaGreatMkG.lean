/- Several texts in one: each says what it proves. No condition but theirs. -/
import Derived.Test.YtohalpafmcobpaaGreatCnt
import Derived.Test.YtohalpafmcobpaaGreatIter
/- CountSymbol, the program's: a contract, for terms of at most 1048576 names' bytes and arguments. -/
namespace Go.Proofs.YtohalpafmcobpaaGreat
open Go.RowKit Go.Shelf
set_option linter.unusedVariables false

attribute [local go_sem] Oper.semAt_some

/-- A node's own box. -/
def NdBox (W : World) (B : Nat) (x : Nd) : Prop := W.heap[B]? = some (Obj.cells #[.string x.tm.name, .slice x.a x.tm.args.length x.c] 39 (0, 0))
theorem NdBox.cells {W : World} {B : Nat} {x : Nd} (h : NdBox W B x) : W.cell? ⟨B, 0, none⟩ = some (.string x.tm.name) ∧ W.cell? ⟨B, 1, none⟩ = some (.slice x.a x.tm.args.length x.c) := by
  have e : W.heap[B]? = _ := h
  constructor <;> simp [World.cell?, e]
theorem ndBox_own (B : Nat) (f : Unit → Nd) : Own (fun s W => NdBox W B (f s)) := fun s X Y row hs hg hrow =>
  (hg.block B (Array.getElem?_eq_some_iff.1 hs).1 (fun e' => by
    obtain ⟨o, ho, hc⟩ := hrow B e'.symm
    rw [show X.heap[B]? = _ from hs] at ho; cases ho; cases hc)).trans hs
theorem NdBox.new (W : World) (x : Nd) : NdBox (W.alloc (.cells #[.string x.tm.name, .slice x.a x.tm.args.length x.c] 39)) W.heap.size x := World.alloc_heap_new W _

end Go.Proofs.YtohalpafmcobpaaGreat

/- The program's iterator over the nodes of a term: whatever it has handed over when a round has left is a node of the term. No condition. -/
namespace Go.Proofs.YtohalpafmcobpaaGreat
open Go.RowKit Go.Shelf
set_option linter.unusedVariables false

attribute [local go_sem] Oper.semAt_some

theorem ndsL_take {s : Tm} {l : List Tm} {k : Nat} (h : s ∈ Tm.ndsL (l.take k)) : s ∈ Tm.ndsL l := by
  have e := Tm.ndsL_append (l.take k) (l.drop k)
  rw [List.take_append_drop] at e
  rw [e]; exact List.mem_append_left _ h
theorem ndsL_of {s y : Tm} : ∀ {l : List Tm}, s ∈ l → y ∈ s.nds → y ∈ Tm.ndsL l
  | a :: r, h, hy => by
    rw [Tm.ndsL]
    rcases List.mem_cons.1 h with rfl | h
    · exact List.mem_append_left _ hy
    · exact List.mem_append_right _ (ndsL_of h hy)

section
variable (l N : Nat) (w0 : World) (J Jx : List Nd → World → Prop)

/-- What the recursive helper answers. -/
def YEndM (t : List Tm) (pre : List Nd) (W : World) (e : Ending) (W' : World) : Prop :=
  (e = .returned (.bool true) ∧ ∃ xs : List Nd, xs.map Nd.tm = t ∧ J (pre ++ xs) W' ∧ KpT w0.heap.size W W') ∨ (e = .returned (.bool false) ∧ ∃ q, (∀ y ∈ q, y.tm ∈ t) ∧ Jx (pre ++ q) W')

def YieldTM (t : Tm) : Prop := ∀ (n : Nat) (va : Value) (pre : List Nd) (W : World), TmS w0 va t.args → Below w0.heap.size w0 W → J pre W → pre.length + t.nds.length ≤ N → t.args.length ≤ 9223372036854775806 →
  CallsIn Fence.wide n Tryz.prog 149 #[.agg #[.string t.name, va], .func (.yield l) #[] #[]] W (YEndM w0 J Jx t.nds pre W)
end

set_option maxRecDepth 100000 in
set_option maxHeartbeats 4000000 in
theorem yieldM_of (l N B : Nat) (w0 : World) (J Jx : List Nd → World → Prop) (hJ : AbidesFrom B J) (hlim : Nat)
    (hY : ∀ m pre (x : Nd) W, J pre W → pre.length < N → YieldAt Fence.wide m Tryz.prog l x.enc W fun e W' =>
      (e = .returned (.bool true) ∧ J (pre ++ [x]) W' ∧ KpT w0.heap.size W W') ∨ (e = .returned (.bool false) ∧ Jx (pre ++ [x]) W'))
    (t : Tm) (ht : t.lim 9223372036854775806) (h : ∀ s ∈ t.args, s.lim 9223372036854775806 → YieldTM l N w0 J Jx s) : YieldTM l N w0 J Jx t := by
  intro n va pre W hv hB hj hN hl
  obtain ⟨a, c, rfl⟩ := hv.is_slice
  have hdd : ∀ k : Nat, (Fence.wide.depth.isSome = true → 1 ≤ k) := fun k h => by cases h
  have HJ := Lib.hid hJ
  have H := Lib.hid h
  have HV := Lib.hid hv
  have HB := Lib.hid hB
  have HT := Lib.hid ht
  have hN1 : pre.length + 1 + (Tm.ndsL t.args).length ≤ N := by rw [t.nds_eq, List.length_cons] at hN; omega
  obtain ⟨W1, hW1⟩ : ∃ W1, W.alloc (.cells #[.string t.name, .slice a t.args.length c] 39) = W1 := ⟨_, rfl⟩
  have hbox : W1.heap[W.heap.size]? = some (Obj.cells #[.string t.name, .slice a t.args.length c] 39 (0, 0)) := by rw [← hW1]; exact World.alloc_heap_new W _
  have K1 : Hid (KpT w0.heap.size W W1) := Lib.hid (by rw [← hW1]; exact (KpT.refl _ _).alloc hB.size _)
  have two1 : Two W1 W.heap.size (.string t.name) (.slice a t.args.length c) := by rw [← hW1]; exact two_new W _ _ _ _ rfl
  have HJ1 : J pre W1 := by rw [← hW1]; exact abides_alloc hJ hj _
  obtain ⟨b0, b1, b2⟩ := two1
  have hy1 : YieldAt Fence.wide (n - 1) Tryz.prog l (Nd.mk t a c).enc W1 fun e W2 =>
      (e = .returned (.bool true) ∧ J (pre ++ [Nd.mk t a c]) W2 ∧ KpT w0.heap.size W W2 ∧ W2.cell? ⟨W.heap.size, 1, none⟩ = some (.slice a t.args.length c)) ∨ (e = .returned (.bool false) ∧ Jx (pre ++ [Nd.mk t a c]) W2) :=
    YieldAt.mono (hY (n - 1) pre (Nd.mk t a c) W1 HJ1 (by omega)) fun e W2 h => h.elim (fun ⟨he, hj2, hk2⟩ => .inl ⟨he, hj2, K1.out.trans hk2, (hk2.2.two hbox).2.1⟩) .inr
  simp only [Nd.enc] at hy1
  obtain ⟨fn, tmps, assign, body, hy, hR⟩ := hy1
  clear hY hJ h hv ht K1 hN hj
  refine callsIn_of_wp Tryz.func149 rfl trivial ?_ rfl
  simp only [Tryz.ntmps149, List.size_toArray, List.length_cons, List.length_nil, Nat.reduceAdd, Nat.reduceSub, Array.replicate_succ, Array.replicate_zero, List.push_toArray, List.append_toArray, List.nil_append, List.cons_append]
  gi_wp2
  ((try refine ⟨hdd _, ?_⟩); refine hR.mono ?_; clear hR; rintro e W2 (⟨rfl, hJ2, hk2, c2⟩ | ⟨rfl, hx2⟩))
  · have HK2 := Lib.hid hk2
    have HJ2 := Lib.hid hJ2
    clear hJ2 hk2 HJ1 hW1 hbox b0 b1 b2 hy
    gi_wp2
    gi_loopw [14] (fun i wr => ∃ (k : Nat) (xs : List Nd), k ≤ t.args.length ∧ i = .int .i64 k ∧ xs.map Nd.tm = t :: Tm.ndsL (t.args.take k) ∧ J (pre ++ xs) wr ∧ KpT w0.heap.size W wr) (fun i _ => t.args.length - (intOf i).toNat)
    case atStart => exact ⟨0, [Nd.mk t a c], Nat.zero_le _, rfl, by simp [Tm.ndsL], HJ2.out, HK2.out⟩
    case round =>
      obtain ⟨k, xs, hk, rfl, hxs, hjs, hks⟩ := hrel
      have HX := Lib.hid hxs
      have HJS := Lib.hid hjs
      have HKS := Lib.hid hks
      clear hxs hjs hks
      by_cases hlt : k < t.args.length
      · obtain ⟨s, hs⟩ : ∃ s, t.args[k]? = some s := ⟨_, List.getElem?_eq_getElem hlt⟩
        obtain ⟨b, off, rfl, va, c0, c1, hva⟩ := HV.out.get hs
        have HBW : Hid (Below w0.heap.size w0 wr) := Lib.hid (HB.out.trans HKS.out.1)
        have c0' := carry_cell c0 HBW.out
        have c1' := carry_cell c1 HBW.out
        obtain ⟨a', c', rfl⟩ := hva.is_slice
        have HVA := Lib.hid hva
        have HS := Lib.hid hs
        have hsl : s.lim 9223372036854775806 := (Tm.lim_eq.1 HT.out).2.2 s (mem_of_at hs)
        have hlen : xs.length = 1 + (Tm.ndsL (t.args.take k)).length := by have := congrArg List.length HX.out; simp at this; omega
        have hroom : (pre ++ xs).length + s.nds.length ≤ N := by
          have h1 := Tm.ndsL_len t.args (k + 1)
          rw [Tm.ndsL_next HS.out, List.length_append] at h1
          rw [List.length_append]; omega
        have HC := Lib.hid (fun (n : Nat) (W' : World) (hj : J (pre ++ xs) W') (hb : Below w0.heap.size w0 W') => H.out s (mem_of_at HS.out) hsl n _ (pre ++ xs) W' HVA.out hb hj hroom (Tm.lim_eq.1 hsl).2.1)
        have HJA := Lib.hid (abides_alloc HJ.out HJS.out (.cells #[.string s.name, .slice a' s.args.length c'] 39))
        have HKA := Lib.hid (HKS.out.alloc (Nat.le_trans HB.out.size HKS.out.1.size) (.cells #[.string s.name, .slice a' s.args.length c'] 39))
        clear hs c0 c1 hva hroom
        gi_wp2
        refine ⟨trivial, hdd _, ?_⟩
        refine (HC.out _ _ HJA.out (HB.out.trans HKA.out.1)).mono ?_; (rintro e W3 (⟨rfl, ys, hys, hj3, hk3⟩ | ⟨rfl, q, hqm, hx3⟩))
        · have HN : Hid ((xs ++ ys).map Nd.tm = t :: Tm.ndsL (t.args.take (k + 1))) := Lib.hid (by rw [List.map_append, HX.out, hys, Tm.ndsL_next HS.out]; rfl)
          have HJ3 : Hid (J (pre ++ (xs ++ ys)) W3) := Lib.hid (by rw [← List.append_assoc]; exact hj3)
          have HK3 := Lib.hid (HKA.out.trans hk3)
          clear hys hj3 hk3
          gi_wp2
          go_roundw
          case rel => exact ⟨k + 1, xs ++ ys, by omega, by go_num, HN.out, HJ3.out, HK3.out⟩
          case measure => simp [intOf]; omega
        · have HX3 : Hid (Jx (pre ++ (xs ++ q)) W3) := Lib.hid (by rw [← List.append_assoc]; exact hx3)
          have HM3 : Hid (∀ y ∈ xs ++ q, y.tm ∈ t.nds) := Lib.hid (fun y hy => by
            rcases List.mem_append.1 hy with hy | hy
            · have h := List.mem_map_of_mem (f := Nd.tm) hy
              rw [HX.out] at h
              rw [t.nds_eq]
              rcases List.mem_cons.1 h with h | h
              · rw [h]; exact List.mem_cons_self
              · exact List.mem_cons_of_mem _ (ndsL_take h)
            · rw [t.nds_eq]; exact List.mem_cons_of_mem _ (ndsL_of (mem_of_at HS.out) (hqm y hy)))
          clear hx3 hqm
          gi_wp2
          go_ret
          exact .inr ⟨rfl, xs ++ q, HM3.out, HX3.out⟩
      · have hke : k = t.args.length := by omega
        have HN : Hid (xs.map Nd.tm = t.nds) := Lib.hid (by rw [HX.out, hke, Tm.ndsL_all (Nat.le_refl _), t.nds_eq])
        gi_wp2
        go_ret
        exact .inl ⟨rfl, xs, HN.out, HJS.out, HKS.out⟩
  · gi_wp2
    go_ret
    exact .inr ⟨rfl, [Nd.mk t a c], fun y hy => by rw [List.mem_singleton.1 hy, t.nds_eq]; exact List.mem_cons_self, hx2⟩

theorem yieldM_any (l N B : Nat) (w0 : World) (J Jx : List Nd → World → Prop) (hJ : AbidesFrom B J)
    (hY : ∀ m pre (x : Nd) W, J pre W → pre.length < N → YieldAt Fence.wide m Tryz.prog l x.enc W fun e W' =>
      (e = .returned (.bool true) ∧ J (pre ++ [x]) W' ∧ KpT w0.heap.size W W') ∨ (e = .returned (.bool false) ∧ Jx (pre ++ [x]) W')) :
    ∀ t : Tm, t.lim 9223372036854775806 → YieldTM l N w0 J Jx t :=
  Tm.ind fun t ih ht => yieldM_of l N B w0 J Jx hJ 0 hY t ht ih

/-- The closure that the iterator is. -/
theorem nodes1M_in (n l N B Bt : Nat) (w0 : World) (t : Tm) (va : Value) (ht : t.lim 9223372036854775806) (J Jx : List Nd → World → Prop) (hv : TmS w0 va t.args) (hN : t.nds.length ≤ N)
    (hY : ∀ pre (x : Nd) W, J pre W → pre.length < N → YieldAt Fence.wide (n - 1) Tryz.prog l x.enc W fun e W' =>
      (e = .returned (.bool true) ∧ J (pre ++ [x]) W' ∧ KpT w0.heap.size W W') ∨ (e = .returned (.bool false) ∧ Jx (pre ++ [x]) W'))
    (W : World) (hJ : AbidesFrom B J) (hb : Below w0.heap.size w0 W) (h2 : Two W Bt (.string t.name) va) (h0 : J [] W) :
    CallsIn Fence.wide n Tryz.prog 148 #[.func (.yield l) #[] #[], .pointer (some ⟨Bt, 0, none⟩)] W fun e W' => (∃ v, e = .returned v) ∧
      ((∃ xs : List Nd, xs.map Nd.tm = t.nds ∧ J xs W') ∨ (∃ pre : List Nd, (∀ y ∈ pre, y.tm ∈ t.nds) ∧ Jx pre W')) := by
  have hdd : ∀ k : Nat, (Fence.wide.depth.isSome = true → 1 ≤ k) := fun k h => by cases h
  have HP := Lib.hid (yieldM_any l N B w0 J Jx hJ (fun m pre x W hj hl => yieldAny m (hY pre x W hj hl)) t ht (n - 1) va [] W hv hb h0 (by simpa using hN) (Tm.lim_eq.1 ht).2.1)
  obtain ⟨pa, pc, rfl⟩ := hv.is_slice
  obtain ⟨b0, b1, b2⟩ := h2
  clear hY hJ
  refine callsIn_of_wp Tryz.func148 rfl trivial ?_ rfl
  simp only [Tryz.ntmps148, List.size_toArray, List.length_cons, List.length_nil, Nat.reduceAdd, Nat.reduceSub, Array.replicate_succ, Array.replicate_zero, List.push_toArray, List.append_toArray, List.nil_append, List.cons_append]
  gi_wp2
  refine ⟨trivial, hdd _, ?_⟩; refine HP.out.mono ?_; clear HP; (rintro e W1 (⟨rfl, xs, hxs, hJ1, _⟩ | ⟨rfl, q, hqm, hx⟩))
  · gi_wp2
    go_end0
    exact ⟨⟨_, rfl⟩, .inl ⟨xs, hxs, by simpa using hJ1⟩⟩
  · gi_wp2
    go_end0
    exact ⟨⟨_, rfl⟩, .inr ⟨_, (by simpa using hqm), hx⟩⟩

/-- The iterator's contract. -/
theorem nodesM_stops (n Bt : Nat) (w0 : World) (t : Tm) (va : Value) (ht : t.lim 9223372036854775806) (hv : TmS w0 va t.args) (w : World) (hb : Below w0.heap.size w0 w) (hw : w0.heap.size ≤ w.heap.size) (h2 : Two w Bt (.string t.name) va) :
    SeqStopsK Fence.wide n Tryz.prog 148 #[.pointer (some ⟨Bt, 0, none⟩)] Nd.enc (KpT w0.heap.size) (fun xs => xs.map Nd.tm = t.nds) (fun pre => ∀ y ∈ pre, y.tm ∈ t.nds) t.nds.length w := fun l J Jx W hW hJ _ hY h =>
  nodes1M_in n l _ _ Bt w0 t va ht J Jx hv (Nat.le_refl _) hY W hJ (hb.trans (hW.mono hw)) (h2.kept hW) h

end Go.Proofs.YtohalpafmcobpaaGreat

/- The marks that a function leaves on its way out of ranges over functions. No condition. -/
namespace Go.Proofs.YtohalpafmcobpaaGreat
open Go.RowKit Go.Shelf
set_option linter.unusedVariables false

attribute [local go_sem] Oper.semAt_some

/-- A function's marks on its way out: a block for each range over a function, all of them open. -/
def mkD (D : Nat) : Deferred := { target := .collected D, args := #[] }
def Open (B : Nat) (W : World) (Ds : List Nat) : Prop := Ds.Nodup ∧ ∀ D ∈ Ds, B ≤ D ∧ W.heap[D]? = some (.deferred (some []))
theorem Open.nil (B : Nat) (W : World) : Open B W [] := ⟨List.nodup_nil, fun _ h => by cases h⟩
theorem Open.kept {B : Nat} {W W' : World} {Ds : List Nat} (h : Open B W Ds) (hb : Below W.heap.size W W') : Open B W' Ds :=
  ⟨h.1, fun D hD => ⟨(h.2 D hD).1, (hb.block D (Array.getElem?_eq_some_iff.1 (h.2 D hD).2).1).trans (h.2 D hD).2⟩⟩
theorem Open.set {B : Nat} {W : World} {Ds : List Nat} (h : Open B W Ds) {a : Addr} (ha : a.block < B) (u : Value) : Open B (W.setCell a u) Ds :=
  ⟨h.1, fun D hD => ⟨(h.2 D hD).1, (Below.heap_setCell _ _ _ _ (fun e => by have := (h.2 D hD).1; omega)).trans (h.2 D hD).2⟩⟩
theorem Open.lt {B : Nat} {W : World} {Ds : List Nat} (h : Open B W Ds) {D : Nat} (hD : D ∈ Ds) : D < W.heap.size := (Array.getElem?_eq_some_iff.1 (h.2 D hD).2).1
theorem Open.cons {B : Nat} {W : World} {Ds : List Nat} {D : Nat} (h : Open B W Ds) (hB : B ≤ D) (hD : W.heap[D]? = some (.deferred (some []))) (hn : D ∉ Ds) : Open B W (D :: Ds) :=
  ⟨List.nodup_cons.2 ⟨hn, h.1⟩, fun x hx => by rcases List.mem_cons.1 hx with rfl | hx; exact ⟨hB, hD⟩; exact h.2 x hx⟩

theorem leaves_open {F : Fence} {n : Nat} {P : Program} {fn : Func} {tmps : Array Value} {R : Ending → World → Prop} (K : World → Prop) (B : Nat)
    (hK : ∀ W D, K W → B ≤ D → W.heap[D]? = some (.deferred (some [])) → K (W.putObj D (.deferred none))) (hR : ∀ W, K W → LeavesInM F n P fn tmps R [] .returning W) :
    ∀ (Ds : List Nat) (W : World), Open B W Ds → K W → LeavesInM F n P fn tmps R (Ds.map mkD) .returning W
  | [], W, _, hw => hR W hw
  | D :: Ds, W, ho, hw => by
    have hD := ho.2 D List.mem_cons_self
    refine ⟨by simp, .inl ⟨D, _, rfl, run_takeDeferred hD.2, ?_⟩⟩
    refine leaves_open K B hK hR Ds _ ⟨(List.nodup_cons.1 ho.1).2, fun x hx => ?_⟩ (hK W D hw hD.1 hD.2)
    have hx2 := ho.2 x (List.mem_cons_of_mem _ hx)
    exact ⟨hx2.1, (World.putObj_heap_other (fun e => (List.nodup_cons.1 ho.1).1 (by rw [← e]; exact hx))).trans hx2.2⟩

theorem kpT_of_below {n : Nat} {A B : World} (h : Below A.heap.size A B) (hn : n ≤ A.heap.size) : KpT n A B := ⟨h.mono hn, KeepTm.grown (grown_of_below h none) (fun r e => by cases e)⟩

end Go.Proofs.YtohalpafmcobpaaGreat
