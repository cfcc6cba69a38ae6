/- Several texts in one: each says what it proves. No condition but theirs. -/
import Derived.Test.YtohalpafmcobpaaGreatLpG
import Derived.Test.YtohalpafmcobpaaGreatOhG
import Derived.Test.YtohalpafmcobpaaGreatVnG
import Derived.Laws.CopyOwn
import Derived.Laws.OwnMore
import Derived.Laws.Tables
import Derived.Laws.AppendOwn
import Derived.Deep.AppendLies
import Derived.Deep.RegionLaw
import Derived.Lib.Overlaps
import Derived.Lib.AppendZeros
/- The program's withoutCommon: its closure, and the library's search with it: contracts, for terms of at most 1048576 names' bytes and arguments. -/
namespace Go.Proofs.YtohalpafmcobpaaGreat
open Go.RowKit
set_option linter.unusedVariables false

set_option maxRecDepth 100000 in
set_option maxHeartbeats 2000000 in
theorem wc1_any (x t : Tm) (w : World) (va vt : Value) (p : Nat) (hx : TmS w va x.args) (h2 : Two w p (.string t.name) vt) (ht : TmS w vt t.args) (hwx : x.wt ≤ 1048576) (hwt : t.wt ≤ 1048576) :
    Calls Tryz.prog 154 #[.agg #[.string x.name, va], .pointer (some ⟨p, 0, none⟩)] w (Ans (.bool (eqT x t)) w) := by
  obtain ⟨pa, ca, rfl⟩ := hx.is_slice
  obtain ⟨pt, ct, rfl⟩ := ht.is_slice
  obtain ⟨w0, hw0⟩ : ∃ w0, w.alloc (.cells #[.string x.name, .slice pa x.args.length ca] 39) = w0 := ⟨_, rfl⟩
  have HB0 : Hid (Below w.heap.size w w0) := Lib.hid (by rw [← hw0]; exact (Below.refl w.heap.size w).alloc (Nat.le_refl _) _)
  have X0 : Two w0 w.heap.size (.string x.name) (.slice pa x.args.length ca) := by rw [← hw0]; exact two_new _ _ _ 39 _ rfl
  obtain ⟨x0, x1, x2⟩ := X0
  obtain ⟨t0, t1, t2⟩ := h2.kept HB0.out
  have HX := Lib.hid (hx.kept HB0.out)
  have HT := Lib.hid (ht.kept HB0.out)
  have ET := equalTrees_any x
  unfold TreeT at ET
  have CE := Lib.hid (ET t w0 _ _ HX.out HT.out hwx hwt)
  clear hx ht h2 ET
  go_enter Tryz.func154, Tryz.ntmps154
  go_wp2_with fail
  refine CE.out.mono ?_
  rintro e w2 ⟨rfl, hb⟩
  have HB2 := Lib.hid (carry_below HB0.out (Nat.le_refl _) hb)
  clear hb hw0
  go_wp2
  go_ret
  exact ⟨rfl, HB2.out⟩

set_option maxHeartbeats 2000000 in
theorem idxW1 (p : Tm → Bool) (l : List Tm) (w : World) (v : Value) (p1 : Nat) (hv : TmS w v l) (hl : l.length ≤ 1048576)
    (hc : ∀ (t : Tm) (W : World) (va : Value), t ∈ l → Below w.heap.size w W → TmS W va t.args → Calls Tryz.prog 154 #[.agg #[.string t.name, va], .pointer (some ⟨p1, 0, none⟩)] W (Ans (.bool (p t)) W)) :
    Calls Tryz.prog 153 #[v, .func (.func 154) #[] #[.pointer (some ⟨p1, 0, none⟩)]] w (IdxT p l w) := by
  obtain ⟨a, c, rfl⟩ := hv.is_slice
  have HV := Lib.hid hv
  have HC := Lib.hid hc
  clear hv hc
  go_enter Tryz.func153, Tryz.ntmps153
  go_wp2
  go_loopw [8] (fun i wr => ∃ k : Nat, k ≤ l.length ∧ i = .int .i64 k ∧ (∀ j d, j < k → l[j]? = some d → p d = false) ∧ Below w.heap.size w wr) (fun i _ => l.length - (intOf i).toNat)
  case atStart => exact ⟨0, Nat.zero_le _, rfl, fun j d hj => absurd hj (Nat.not_lt_zero _), Below.refl _ _⟩
  case round =>
    obtain ⟨k, hk, rfl, hq, hbel⟩ := hrel
    have HQ := Lib.hid hq
    have HB := Lib.hid hbel
    clear hq hbel
    by_cases hlt : k < l.length
    · obtain ⟨d, hd⟩ : ∃ d, l[k]? = some d := ⟨_, List.getElem?_eq_getElem hlt⟩
      obtain ⟨b, off, rfl, va, c0, c1, hva⟩ := HV.out.get hd
      obtain ⟨pa, ca, rfl⟩ := hva.is_slice
      have c0' := carry_cell c0 HB.out
      have c1' := carry_cell c1 HB.out
      have HD := Lib.hid hd
      have CT := HC.out d wr _ (mem_of_at hd) HB.out (hva.kept HB.out)
      obtain ⟨q, hq⟩ : ∃ q, q = p d := ⟨_, rfl⟩
      rw [← hq] at CT
      have CT := Lib.hid CT
      have HQD := Lib.hid hq
      clear hd hva c0 c1 hq
      go_wp2_with fail
      refine CT.out.mono ?_
      rintro e w2 ⟨rfl, hb⟩
      have HB2 := Lib.hid (carry_below HB.out (Nat.le_refl _) hb)
      clear hb
      cases q with
      | true =>
        have HE : Hid (IdxT p l w (.returned (.int .i64 k)) w2) := Lib.hid ⟨k, rfl, .inr ⟨k, rfl, hlt, HQ.out, fun x hx => by rw [HD.out] at hx; injection hx with hx; rw [← hx]; exact HQD.out.symm⟩, HB2.out⟩
        go_wp2
        go_ret
        exact HE.out
      | false =>
        have HN : Hid (∀ j x, j < k + 1 → l[j]? = some x → p x = false) := Lib.hid (fun j x hj hx => by
          by_cases e : j = k
          · subst e; rw [HD.out] at hx; injection hx with hx; rw [← hx]; exact HQD.out.symm
          · exact HQ.out j x (by omega) hx)
        go_wp2
        go_roundw
        case rel => exact ⟨k + 1, by omega, by go_num, HN.out, HB2.out⟩
        case measure => simp [intOf]; omega
    · have hke : k = l.length := by omega
      have HE : Hid (IdxT p l w (.returned (.int .i64 (-1))) wr) := Lib.hid ⟨-1, rfl, .inl ⟨rfl, fun d hd => by
        obtain ⟨j, hj⟩ := List.getElem?_of_mem hd
        exact HQ.out j d (by rw [hke]; exact (List.getElem?_eq_some_iff.1 hj).1) hj⟩, HB.out⟩
      go_wp2
      go_ret
      exact HE.out


/-- The first element equal to a term. -/
theorem idxWc (l : List Tm) (t : Tm) (w : World) (v vt : Value) (p : Nat) (hv : TmS w v l) (hl : l.length ≤ 1048576) (hw : ∀ s ∈ l, s.wt ≤ 1048576) (h2 : Two w p (.string t.name) vt) (ht : TmS w vt t.args) (hwt : t.wt ≤ 1048576) :
    Calls Tryz.prog 153 #[v, .func (.func 154) #[] #[.pointer (some ⟨p, 0, none⟩)]] w (IdxT (fun x => eqT x t) l w) :=
  idxW1 (fun x => eqT x t) l w v p hv hl (fun x W va hx hb hva => wc1_any x t W va vt p hva (h2.kept hb) (ht.kept hb) (hw x hx) hwt)

/-- A term taken out once, and the terms of one list without those of another, each as often as it comes. -/
def rem1 (t : Tm) : List Tm → List Tm
  | [] => []
  | x :: r => if eqT x t = true then r else x :: rem1 t r
def wcL : List Tm → List Tm → List Tm
  | l, [] => l
  | l, t :: r => wcL (rem1 t l) r

theorem rem1_none {t : Tm} : ∀ {l : List Tm}, (∀ x ∈ l, eqT x t = false) → rem1 t l = l
  | [], _ => rfl
  | x :: r, h => by
    rw [rem1, if_neg (by rw [h x List.mem_cons_self]; decide), rem1_none (fun y hy => h y (List.mem_cons_of_mem _ hy))]
theorem rem1_at {t : Tm} : ∀ {l : List Tm} {k : Nat}, k < l.length → (∀ j x, j < k → l[j]? = some x → eqT x t = false) → (∀ x, l[k]? = some x → eqT x t = true) → rem1 t l = l.take k ++ l.drop (k + 1)
  | [], k, hk, _, _ => absurd hk (Nat.not_lt_zero _)
  | x :: r, 0, hk, _, hy => by rw [rem1, if_pos (hy x rfl)]; rfl
  | x :: r, k + 1, hk, hn, hy => by
    rw [rem1, if_neg (by rw [hn 0 x (Nat.succ_pos _) rfl]; decide), rem1_at (l := r) (k := k) (by simpa using hk) (fun j y hj hy' => hn (j + 1) y (by omega) (by simpa using hy')) (fun y hy' => hy y (by simpa using hy'))]
    rfl
theorem rem1_len (t : Tm) : ∀ (l : List Tm), (rem1 t l).length ≤ l.length
  | [] => Nat.le_refl _
  | x :: r => by
    rw [rem1]
    by_cases h : eqT x t = true
    · rw [if_pos h]; simp
    · rw [if_neg h]; simp; exact rem1_len t r
theorem rem1_mem {t : Tm} : ∀ {l : List Tm} {y : Tm}, y ∈ rem1 t l → y ∈ l
  | [], y, h => h
  | x :: r, y, h => by
    rw [rem1] at h
    by_cases e : eqT x t = true
    · rw [if_pos e] at h; exact List.mem_cons_of_mem _ h
    · rw [if_neg e] at h
      rcases List.mem_cons.1 h with h | h
      · rw [h]; exact List.mem_cons_self
      · exact List.mem_cons_of_mem _ (rem1_mem h)
theorem wcL_step {l b : List Tm} {k : Nat} {t : Tm} (h : b[k]? = some t) : wcL l (b.drop k) = wcL (rem1 t l) (b.drop (k + 1)) := by
  obtain ⟨hk, e⟩ := List.getElem?_eq_some_iff.1 h
  rw [List.drop_eq_getElem_cons hk, e, wcL]

end Go.Proofs.YtohalpafmcobpaaGreat

/- The library's Clone of a row of terms: a contract, for rows of at most 1048576 terms. -/
namespace Go.Proofs.YtohalpafmcobpaaGreat
open Go.RowKit
set_option linter.unusedVariables false
set_option linter.unusedSimpArgs false

theorem below_grownT {B : Nat} {w0 a b : World} {row : Option Nat} (h : Below B w0 a) (hB : B ≤ w0.heap.size) (hg : a.grownBy b row) (hr : ∀ g, row = some g → B ≤ g) : Below B w0 b :=
  ⟨hg.os.trans h.os, hg.tape.trans h.tape, hg.output.trans h.output, Nat.le_trans h.size hg.size, fun i hi => (hg.block i (by have := h.size; omega) (fun e => by have := hr i e.symm; omega)).trans (h.block i hi)⟩

theorem eqlIn_some (w : World) (ad : Addr) (n c d : Nat) : (Op.equalIn (d + 1) 37 (.slice (some ad) n c) (.slice none 0 0)).run Tryz.prog w = .ok false w := by
  rw [Op.equalIn]; simp [run_underlying Tryz.underlying37]
theorem eqlIn_none (w : World) (c d : Nat) : (Op.equalIn (d + 1) 37 (.slice none 0 c) (.slice none 0 0)).run Tryz.prog w = .ok true w := by
  rw [Op.equalIn]; simp [run_underlying Tryz.underlying37]
theorem eql_nil_some (w : World) (ad : Addr) (n c : Nat) : (binOp BinOp.eql 37 (.slice (some ad) n c) (.slice none 0 0)).run Tryz.prog w = .ok (.bool false) w := by
  have h : (Op.equal 37 (.slice (some ad) n c) (.slice none 0 0)).run Tryz.prog w = .ok false w := eqlIn_some w ad n c 9999
  simp [binOp, h]
theorem eql_nil_none (w : World) (c : Nat) : (binOp BinOp.eql 37 (.slice none 0 c) (.slice none 0 0)).run Tryz.prog w = .ok (.bool true) w := by
  have h : (Op.equal 37 (.slice none 0 c) (.slice none 0 0)).run Tryz.prog w = .ok true w := eqlIn_none w c 9999
  simp [binOp, h]

set_option maxRecDepth 100000 in
set_option maxHeartbeats 1000000 in
theorem cloneT_any (l : List Tm) (w : World) (v : Value) (hv : TmS w v l) (hl : l.length ≤ 1048576) :
    Calls Tryz.prog 152 #[v] w (CloneEnd l w) := by
  obtain ⟨i0, hi, hz0, hz1, hz2⟩ := info_parts infoTm
  have hsome : ∀ (ad : Addr) (c : Nat) (L : List (Tm × Value)), tmsE L = l → (∀ e ∈ L, TmS w e.2 e.1.args) → (∀ j u, (teF L)[j]? = some u → w.cell? (ad.add j) = some u) →
      Calls Tryz.prog 152 #[.slice (some ad) l.length c] w (CloneEnd l w) := by
    intro ad c L hL ha hc
    have hll : l.length = L.length := by rw [← hL, tmsE_len]
    have HC := Lib.hid hc
    have HA := Lib.hid ha
    have HLL := Lib.hid hL
    have h0 : (w.alloc (.cells #[] 39)).ownsRow w.heap.size 39 2 (.slice (some ⟨w.heap.size, 0, none⟩) 0 0) 0 [] := ⟨by simp, .inr ⟨w.heap.size, 0, #[], rfl, Nat.le_refl _, heap_alloc_new w _, Nat.le_refl _, by unfold maxLen; omega, by simp, by simp⟩⟩
    have HX := Lib.hid h0
    have HB := Lib.hid ((Below.refl w.heap.size w).alloc (Nat.le_refl _) (.cells #[] 39))
    clear h0 hc ha hL
    have E0 := fun W => eql_nil_some W ad l.length c
    rw [hll] at E0
    go_enter Tryz.func152, Tryz.ntmps152
    go_wp2_with (at_builtin; refine wpList_append_own_at _ rfl (.tmp 5) (.tmp 6) 37 rfl w.heap.size 39 i0 _ 2 40 Tryz.underlying37 hi hz0 hz1 hz2 rfl (by decide) _ 0 [] rfl HX.out ad l.length c (teF L) rfl (by rw [teF_len]; omega) (fun j u hj => carry_cell (HC.out j u hj) HB.out) (teF_one L HA.out) (by unfold maxLen; omega) (by omega) (by simp) ?_; intro v' w1 hown' hgrow hnil hat; have HO := Lib.hid hown'; have HG := Lib.hid hgrow; clear hown' hgrow hnil hat)
    have HE : Hid (CloneEnd l w (.returned v') w1) := Lib.hid ⟨v', L, rfl, ⟨by have h := HO.out; simp only [Nat.zero_add, List.nil_append] at h; rw [hll] at h; exact h, HA.out⟩, HLL.out, below_grownT HB.out (Nat.le_refl _) HG.out (fun g h => Nat.le_of_eq (Option.some.inj h))⟩
    go_wp2
    go_ret
    exact HE.out
  rcases hv.parts with ⟨a, c, rfl, rfl⟩ | ⟨b, off, c, rfl, hp, hat⟩
  · cases a with
    | none =>
      have HE : Hid (CloneEnd [] w (.returned (.slice none 0 0)) w) := Lib.hid ⟨_, [], rfl, ⟨World.ownsRow_nil _ _ _ _, fun e he => by cases he⟩, rfl, Below.refl _ _⟩
      clear hsome hv
      have E0 := fun W => eql_nil_none W c
      go_enter Tryz.func152, Tryz.ntmps152
      go_wp2
      go_ret
      exact HE.out
    | some ad =>
      exact hsome ad c [] rfl (fun e he => by cases he) (fun j u hj => by simp [teF] at hj)
  · obtain ⟨L, e1, e2, e3⟩ := teL l off hat
    exact hsome ⟨b, off, none⟩ c L e1 e2 (fun j u hj => by
      have hadd : (⟨b, off, none⟩ : Addr).add j = ⟨b, off + j, none⟩ := by unfold Addr.add; split <;> simp_all
      rw [hadd]; exact e3 j u hj)

end Go.Proofs.YtohalpafmcobpaaGreat

/- The library's Delete of one term out of a row of the call's own: a contract, for rows of at most 1048576 terms. -/
namespace Go.Proofs.YtohalpafmcobpaaGreat
open Go.RowKit
set_option linter.unusedVariables false

theorem setRow_grownT {w : World} {g : Nat} (cs : Array Value) : w.grownBy (w.setRow g cs) (some g) :=
  ⟨rfl, rfl, rfl, by simp, fun k hk hne => setRow_other w g k cs (fun e => hne (by rw [e]))⟩
theorem grown_transT {a b c : World} {row : Option Nat} (h : a.grownBy b row) (k : b.grownBy c row) : a.grownBy c row :=
  ⟨k.os.trans h.os, k.tape.trans h.tape, k.output.trans h.output, Nat.le_trans h.size k.size, fun j hj hne => (k.block j (Nat.lt_of_lt_of_le hj h.size) hne).trans (h.block j hj hne)⟩

theorem run_clear_rowT {P : Program} (w : World) (t ty elem : TypeId) (i : TypeInfo) (z : Value) (g o n c : Nat) (cur : Array Value) (tt : TypeId) (zs : List Value) (hu : P.underlying t = some (.slice elem)) (hi : P.info? elem = some i) (hz : i.zero = some z)
    (hn : 0 < n) (hg : w.heap[g]? = some (.cells cur tt (0, 0))) (hzs : (Builtin.zeroCells z.cells n).toList = zs) (hfit : o + zs.length ≤ cur.size) (h1 : ∀ v ∈ zs, v.oneCell' = true) :
    (Builtin.clear_ #[t] ty #[.slice (some ⟨g, o, none⟩) n c]).run P w = .ok (.tuple #[]) (w.setRow g (cur.toList.take o ++ zs ++ cur.toList.drop (o + zs.length)).toArray) := by
  have hst := run_storeCells_at P g o tt zs 0 cur w hg (by simpa using hfit) h1
  obtain ⟨m, rfl⟩ : ∃ m, n = m + 1 := ⟨n - 1, by omega⟩
  simp [Builtin.clear_, run_underlying hu, zeroValue, typeInfo, hi, hz, hzs, hst]

theorem zc2_one (n : Nat) : ∀ v ∈ (Builtin.zeroCells (Value.agg #[.string ByteArray.empty, .slice none 0 0]).cells n).toList, v.oneCell' = true := fun v hv => by
  have hc : (Value.agg #[.string ByteArray.empty, .slice none 0 0]).cells = #[.string ByteArray.empty, .slice none 0 0] := by simp [Value.cells]
  rw [hc] at hv
  unfold Builtin.zeroCells at hv
  rw [Array.toList_map, List.mem_map] at hv
  obtain ⟨a, _, rfl⟩ := hv
  have h3 : a % (#[Value.string ByteArray.empty, .slice none 0 0] : Array Value).size < 2 := Nat.mod_lt _ (by decide)
  generalize a % (#[Value.string ByteArray.empty, .slice none 0 0] : Array Value).size = b at h3
  match b, h3 with
  | 0, _ => rfl
  | 1, _ => rfl

theorem cutT {L : List (Tm × Value)} {k : Nat} (hk : k < L.length) : (L.take k ++ L.drop (k + 1)).length = L.length - 1 := by simp; omega
theorem cutT_mem {L : List (Tm × Value)} {k : Nat} {e : Tm × Value} (h : e ∈ L.take k ++ L.drop (k + 1)) : e ∈ L := by
  rcases List.mem_append.1 h with h | h
  · exact List.mem_of_mem_take h
  · exact List.mem_of_mem_drop h

/-- A row's last elements behind its end cleared: the row is owned still. -/
theorem own_cleared {w w' : World} {base g n cap m : Nat} {xs zs : List Value} (h : w.ownsRow base 39 2 (.slice (some ⟨g, 0, none⟩) n cap) n xs) (hfit : n * 2 + zs.length ≤ cap * 2)
    (hw : ∀ cur, w.heap[g]? = some (.cells cur 39 (0, 0)) → w' = w.setRow g (cur.toList.take (n * 2) ++ zs ++ cur.toList.drop (n * 2 + zs.length)).toArray) :
    w'.ownsRow base 39 2 (.slice (some ⟨g, 0, none⟩) n cap) n xs ∧ w.grownBy w' (some g) := by
  refine ⟨⟨h.1, .inr ?_⟩, ?_⟩
  all_goals
    rcases h.2 with ⟨q, _⟩ | ⟨g', cap', cur, q, hb, hg, hc, hm, hs, ht⟩
    · cases q
    simp only [Value.slice.injEq, Option.some.injEq, Addr.mk.injEq, and_true, true_and] at q
    obtain ⟨rfl, rfl⟩ := q
    have hw' := hw cur hg
  · have hcl : cur.toList.length = cap * 2 := by rw [Array.length_toList]; exact hs
    refine ⟨g, cap, _, rfl, hb, by rw [hw']; exact setRow_heap w g _ _ _ _ hg, hc, hm, ?_, ?_⟩
    · simp only [List.size_toArray, List.length_append, List.length_take, List.length_drop]; omega
    · show List.take (n * 2) (cur.toList.take (n * 2) ++ zs ++ cur.toList.drop (n * 2 + zs.length)) = _
      rw [List.append_assoc, List.take_append_of_le_length (by rw [List.length_take]; omega), List.take_take, Nat.min_self, ← ht]
  · rw [hw']; exact setRow_grownT _

end Go.Proofs.YtohalpafmcobpaaGreat

/- The library's Delete of one term out of a row of the call's own: the contract. -/
namespace Go.Proofs.YtohalpafmcobpaaGreat
open Go.RowKit
set_option linter.unusedVariables false
set_option linter.unusedSimpArgs false

theorem step_append_runT {P : Program} {ops : Array Oper} {o : Oper} {a : Act} {w : World} {K : Act → World → Prop} {Q : Exit → Act → World → Prop} {E : Prop}
    (hg : o.guard = none) (s x : Operand) (t : TypeId) (hop : o.op = Op.call { callee := Callee.builtin Builtin.append, args := #[s, x], argTypes := #[t, t] })
    (vs vx : Value) (hs : a.eval s = vs) (hx : a.eval x = vx) (v' : Value) (w' : World) (hr : (Builtin.append_ #[t, t] o.type #[vs, vx]).run P w = .ok v' w')
    (hK : K (a.put o.dst v') w') :
    if Region.wanted o (yielded ops a.tmps) = true then Oper.wp P o a w K Q else E := by
  have hw : Region.wanted o (yielded ops a.tmps) = true := by simp [Region.wanted, hg]
  rw [if_pos hw]
  exact Lib.wp_append_run w s x t t hop vs vx hs hx v' w' hr hK

def DelEnd (w0 : World) (base : Nat) (L : List (Tm × Value)) (k : Nat) (w : World) (v : Value) (e : Ending) (w' : World) : Prop :=
  ∃ v', e = .returned v' ∧ RowT w0 base w' v' (L.take k ++ L.drop (k + 1)) ∧ w.grownBy w' v.ownBlock ∧ v'.ownBlock = v.ownBlock

set_option maxRecDepth 100000 in
set_option maxHeartbeats 4000000 in
theorem delT_any (w0 w : World) (base k j : Nat) (v : Value) (L : List (Tm × Value)) (h : RowT w0 base w v L) (hk : k < L.length) (hj : j = k + 1) (hl : L.length ≤ 1048576) :
    Calls Tryz.prog 156 #[v, .int .i64 k, .int .i64 j] w (DelEnd w0 base L k w v) := by
  obtain ⟨i0, hi, hz0, hz1, hz2⟩ := info_parts infoTm
  rcases id h.row.2 with ⟨rfl, h0⟩ | ⟨g, cap, cur, rfl, hbg, hgb, hnc, hcm, hcs, htake⟩
  · omega
  obtain ⟨n, hn⟩ : ∃ n, n = L.length := ⟨_, rfl⟩
  have hll : (teF L).length = n * 2 := by rw [teF_len, hn]
  obtain ⟨news, hnews⟩ : ∃ news, news = teF (L.drop j) := ⟨_, rfl⟩
  have hnl : news.length = (n - j) * 2 := by rw [hnews, teF_len, List.length_drop, hn]
  have hcl : cur.toList.length = cap * 2 := by rw [Array.length_toList]; exact hcs
  have hrow := h.row
  rw [← hn] at hrow hnc htake hk
  have hn1 : ∀ u ∈ news, u.oneCell' = true := by rw [hnews]; exact teF_one _ (fun e he => h.args e (List.mem_of_mem_drop he))
  obtain ⟨A, hA, hsrc⟩ : ∃ A : Addr, (if cap = j then some (⟨g, 0, none⟩ : Addr) else some ⟨g, j * 2, none⟩) = some A ∧ (∀ t u, news[t]? = some u → w.drew.cell? (A.add t) = some u) := by
    by_cases hc : cap = j
    · refine ⟨⟨g, 0, none⟩, by simp [hc], fun t u hu => ?_⟩
      have h0 : news.length = 0 := by rw [hnl]; omega
      rw [List.length_eq_zero_iff.1 h0] at hu
      simp at hu
    · refine ⟨⟨g, j * 2, none⟩, by simp [hc], fun t u hu => ?_⟩
      have ht := (List.getElem?_eq_some_iff.1 hu).1
      rw [hnl] at ht
      have e : (⟨g, j * 2, none⟩ : Addr).add t = ⟨g, j * 2 + t, none⟩ := by unfold Addr.add; split <;> simp_all
      rw [e]
      show w.cell? ⟨g, j * 2 + t, none⟩ = some u
      rw [hrow.cellAt _ (by omega), ← hu, hnews, ← teF_drop L j (by omega), List.getElem?_drop]
  have hgd : w.drew.heap[g]? = some (.cells cur 39 (0, 0)) := hgb
  have hrun := fun ty => run_append_room (P := Tryz.prog) w.drew 37 ty 39 i0 Tryz.underlying37 hi g k cap cur hgd A (n - j) (cap - j) news (by rw [hz1]; exact hnl) hsrc hn1 (by omega) (by rw [hz1]; omega)
  rw [hz1] at hrun
  obtain ⟨W1, hW1⟩ : ∃ W1, W1 = w.drew.setRow g (cur.toList.take (k * 2) ++ news ++ cur.toList.drop (k * 2 + news.length)).toArray := ⟨_, rfl⟩
  rw [← hW1] at hrun
  have hg1 : W1.heap[g]? = some (.cells (cur.toList.take (k * 2) ++ news ++ cur.toList.drop (k * 2 + news.length)).toArray 39 (0, 0)) := by rw [hW1]; exact setRow_heap _ g _ _ _ _ hgd
  have hgr1 : w.grownBy W1 (some g) := by
    have h := setRow_grownT (w := w.drew) (g := g) (cur.toList.take (k * 2) ++ news ++ cur.toList.drop (k * 2 + news.length)).toArray
    rw [← hW1] at h
    exact ⟨h.os, h.tape, h.output, h.size, h.block⟩
  have hc1 : (cur.toList.take (k * 2) ++ news ++ cur.toList.drop (k * 2 + news.length)).length = cap * 2 := by
    simp only [List.length_append, List.length_take, List.length_drop, hcl, hnl]; omega
  have hrow1 : W1.ownsRow base 39 2 (.slice (some ⟨g, 0, none⟩) (k + (n - j)) cap) (k + (n - j)) (teF (L.take k ++ L.drop j)) := by
    refine ⟨by rw [teF_len, List.length_append, List.length_take, List.length_drop]; omega, .inr ⟨g, cap, _, rfl, hbg, hg1, by omega, hcm, by simpa using hc1, ?_⟩⟩
    have e1 : cur.toList.take (k * 2) = teF (L.take k) := by
      rw [← teF_take L k (by omega), ← htake, List.take_take]; congr 1; omega
    rw [e1, hnews, teF_append]
    simp only [List.take_append_of_le_length, List.length_append, teF_len, List.length_take, List.length_drop]
    rw [List.take_append_of_le_length (by simp only [List.length_append, teF_len, List.length_take, List.length_drop]; omega)]
    exact List.take_of_length_le (by simp only [List.length_append, teF_len, List.length_take, List.length_drop]; omega)
  obtain ⟨zs, hzs⟩ : ∃ zs, (Builtin.zeroCells (Value.agg #[.string ByteArray.empty, .slice none 0 0]).cells 1).toList = zs := ⟨_, rfl⟩
  have hzl : zs.length = 2 := by rw [← hzs, Array.length_toList, size_zeroCells]; rfl
  have hclr := fun ty => run_clear_rowT (P := Tryz.prog) W1 37 ty 39 i0 _ g ((k + (n - j)) * 2) 1 (cap - (k + (n - j))) _ 39 zs Tryz.underlying37 hi hz0 (by decide) hg1 hzs (by simp only [List.size_toArray, hc1, hzl]; omega) (by rw [← hzs]; exact zc2_one 1)
  obtain ⟨W2, hW2⟩ : ∃ W2, W2 = W1.setRow g ((cur.toList.take (k * 2) ++ news ++ cur.toList.drop (k * 2 + news.length)).toArray.toList.take ((k + (n - j)) * 2) ++ zs ++ (cur.toList.take (k * 2) ++ news ++ cur.toList.drop (k * 2 + news.length)).toArray.toList.drop ((k + (n - j)) * 2 + zs.length)).toArray := ⟨_, rfl⟩
  rw [← hW2] at hclr
  have hcl2 := own_cleared (m := 0) (w' := W2) (zs := zs) hrow1 (by rw [hzl]; omega) (fun c2 hc2 => by
    rw [hg1] at hc2
    cases hc2
    exact hW2)
  have HE : Hid (DelEnd w0 base L k w (.slice (some ⟨g, 0, none⟩) n cap) (.returned (.slice (some ⟨g, 0, none⟩) (k + (n - j)) cap)) W2) := Lib.hid (by
    refine ⟨_, rfl, ⟨?_, fun e he => h.args e (cutT_mem he)⟩, grown_transT hgr1 hcl2.2, rfl⟩
    have e : k + (n - j) = (L.take k ++ L.drop (k + 1)).length := by rw [List.length_append, List.length_take, List.length_drop]; omega
    rw [← e, ← hj]
    exact hcl2.1)
  have HRUN := Lib.hid hrun
  have hkj : k < j := by omega
  have hne : ¬ (k = j) := by omega
  have hjn : j ≤ n := by omega
  have hkc : k ≤ cap := by omega
  have hjc : j ≤ cap := by omega
  have hn63 : n ≤ 1048576 := by omega
  have h1 : n - (k + (n - j)) = 1 := by omega
  have h2 : ¬ (cap = k + (n - j)) := by omega
  have h3 : k + (n - j) ≤ n := by omega
  rw [← hn]
  clear h hrow hrun hW1 hW2 hg1 hgr1 hc1 hrow1 hcl2 hgd hsrc hn1 hnews hnl hcl hll htake hcs hcm hgb hbg hz0 hz1 hz2 hi hzl hzs hj hn hl
  go_enter Tryz.func156, Tryz.ntmps156
  go_wp2_with fail
  go_region_law (refine step_append_runT rfl (.tmp 22) (.tmp 25) 37 rfl _ _ (by simp [Act.eval, Act.put]) (by simp [Act.eval, Act.put]) _ _ (HRUN.out _) ?_)
  go_wp2
  go_ret
  exact HE.out

end Go.Proofs.YtohalpafmcobpaaGreat

/- The program's withoutCommon: a contract, for lists of at most 1048576 terms of at most 1048576 names' bytes and arguments. -/
namespace Go.Proofs.YtohalpafmcobpaaGreat
open Go.RowKit
set_option linter.unusedVariables false
set_option linter.unusedSimpArgs false

def WcomEnd (la lb : List Tm) (w : World) (e : Ending) (w' : World) : Prop := ∃ v L, e = .returned v ∧ RowT w w.heap.size w' v L ∧ tmsE L = wcL la lb ∧ Below w.heap.size w w'

theorem tmsE_cut (L : List (Tm × Value)) (k : Nat) : tmsE (L.take k ++ L.drop (k + 1)) = (tmsE L).take k ++ (tmsE L).drop (k + 1) := by
  unfold tmsE; rw [List.map_append, List.map_take, List.map_drop]

/-- What the loop keeps. -/
def WcR (la lb : List Tm) (w : World) (k : Nat) (nm : Value) (wr : World) : Prop :=
  ∃ L, RowT w w.heap.size wr nm L ∧ wcL (tmsE L) (lb.drop k) = wcL la lb ∧ (∀ s ∈ tmsE L, s ∈ la) ∧ L.length ≤ la.length

set_option maxRecDepth 100000 in
set_option maxHeartbeats 4000000 in
theorem wcom_any (la lb : List Tm) (w : World) (va vb : Value) (ha : TmS w va la) (hb : TmS w vb lb) (hla : la.length ≤ 1048576) (hlb : lb.length ≤ 1048576) (hwa : ∀ s ∈ la, s.wt ≤ 1048576) (hwb : ∀ s ∈ lb, s.wt ≤ 1048576) :
    Calls Tryz.prog 122 #[va, vb] w (WcomEnd la lb w) := by
  obtain ⟨pa, ca, rfl⟩ := ha.is_slice
  obtain ⟨pb, cb, rfl⟩ := hb.is_slice
  have HA := Lib.hid ha
  have HBV := Lib.hid hb
  have HWA := Lib.hid hwa
  have HWB := Lib.hid hwb
  have HC := Lib.hid (cloneT_any la w _ ha hla)
  clear ha hb hwa hwb
  go_enter Tryz.func122, Tryz.ntmps122
  go_wp2_with fail
  refine HC.out.mono ?_
  rintro e w1 ⟨v1, L1, rfl, hrt, htm, hbe⟩
  have HR1 : Hid (WcR la lb w 0 v1 w1) := Lib.hid ⟨L1, hrt, by rw [htm]; rfl, fun s hs => by rw [← htm]; exact hs, by rw [← tmsE_len, htm]; exact Nat.le_refl _⟩
  have HB1 := Lib.hid hbe
  clear hrt htm hbe
  go_wp2
  go_loopw [5, 13] (fun tv i wr => ∃ (k : Nat) (nm : Value), k ≤ lb.length ∧ i = .int .i64 k ∧ nm = tv ∧ WcR la lb w k nm wr ∧ Below w.heap.size w wr) (fun _ i _ => lb.length - (intOf i).toNat)
  case atStart => exact ⟨0, _, Nat.zero_le _, rfl, rfl, HR1.out, HB1.out⟩
  case round =>
    obtain ⟨k, nm, hk, rfl, rfl, ⟨L, hrt, hwc, hin, hll⟩, hbel⟩ := hrel
    have HRT := Lib.hid hrt
    have HWC := Lib.hid hwc
    have HIN := Lib.hid hin
    have HB := Lib.hid hbel
    clear hrt hwc hin hbel
    by_cases hlt : k < lb.length
    · obtain ⟨t, ht⟩ : ∃ t, lb[k]? = some t := ⟨_, List.getElem?_eq_getElem hlt⟩
      obtain ⟨b, off, rfl, vt, c0, c1, hvt⟩ := HBV.out.get ht
      obtain ⟨pt, ct, rfl⟩ := hvt.is_slice
      have c0' := carry_cell c0 HB.out
      have c1' := carry_cell c1 HB.out
      have HT := Lib.hid ht
      have HST := Lib.hid (wcL_step (l := tmsE L) ht)
      obtain ⟨wq, hwq⟩ : ∃ wq, wr.alloc (.cells #[.string t.name, .slice pt t.args.length ct] 39) = wq := ⟨_, rfl⟩
      have BQ : Hid (Below wr.heap.size wr wq) := Lib.hid (by rw [← hwq]; exact (Below.refl _ _).alloc (Nat.le_refl _) _)
      have TQ : Two wq wr.heap.size (.string t.name) (.slice pt t.args.length ct) := by rw [← hwq]; exact two_new _ _ _ _ _ rfl
      have HBQ := Lib.hid (carry_below HB.out (Nat.le_refl _) BQ.out)
      have HRQ := Lib.hid (HRT.out.kept BQ.out)
      have CI := Lib.hid (idxWc (tmsE L) t wq nm _ wr.heap.size (HRQ.out.read HBQ.out) (by rw [tmsE_len]; omega) (fun s hs => HWA.out s (HIN.out s hs)) TQ ((hvt.kept HB.out).kept BQ.out) (HWB.out t (mem_of_at ht)))
      clear ht hvt c0 c1 TQ
      go_wp2_with fail
      refine CI.out.mono ?_
      rintro e w2 ⟨i, rfl, hidx, hb2⟩
      have HB2 := Lib.hid (carry_below HBQ.out (Nat.le_refl _) hb2)
      have HR2 := Lib.hid (HRQ.out.kept hb2)
      clear hb2 c0' c1' hwq
      rcases hidx with ⟨rfl, hno⟩ | ⟨q, rfl, hq, hbef, hat⟩
      · have HN : Hid (WcR la lb w (k + 1) nm w2) := Lib.hid ⟨L, HR2.out, by rw [← HWC.out, HST.out, rem1_none hno], HIN.out, hll⟩
        clear hno
        go_wp2
        go_roundw
        case rel => exact ⟨k + 1, _, by omega, by go_num, rfl, HN.out, HB2.out⟩
        case measure => simp [intOf]; omega
      · rw [tmsE_len] at hq
        have hrem : rem1 t (tmsE L) = (tmsE L).take q ++ (tmsE L).drop (q + 1) := rem1_at (by rw [tmsE_len]; exact hq) hbef hat
        have HREM := Lib.hid hrem
        have CD := delT_any w w2 w.heap.size q (q + 1) nm L HR2.out hq rfl (by omega)
        rw [show ((q + 1 : Nat) : Int) = (q : Int) + 1 by omega] at CD
        have CD := Lib.hid CD
        have hw1 : IntKind.i64.wrap ((q : Int) + 1) = (q : Int) + 1 := by rw [IntKind.wrap_i64]; omega
        have hq0 : (0 : Int) ≤ (q : Int) := by omega
        clear hbef hat hrem
        go_wp2_with fail
        refine CD.out.mono ?_
        rintro e w3 ⟨v3, rfl, hr3, hg3, -⟩
        have HN : Hid (WcR la lb w (k + 1) v3 w3) := Lib.hid ⟨_, hr3, by rw [← HWC.out, HST.out, HREM.out, tmsE_cut], fun s hs => by
          rw [tmsE_cut, ← HREM.out] at hs
          exact HIN.out s (rem1_mem hs), by
          rw [cutT hq]; omega⟩
        have HB3 := Lib.hid (HB2.out.grown hg3 HB2.out.size (fun r e => (HR2.out.row.lt r e).1))
        clear hr3 hg3
        go_wp2
        go_roundw
        case rel => exact ⟨k + 1, _, by omega, by go_num, rfl, HN.out, HB3.out⟩
        case measure => simp [intOf]; omega
    · have HE : Hid (WcomEnd la lb w (.returned nm) wr) := Lib.hid ⟨nm, L, rfl, HRT.out, by
        rw [← HWC.out, List.drop_eq_nil_of_le (by omega)]; rfl, HB.out⟩
      clear HRT HWC
      go_wp2
      go_ret
      exact HE.out

end Go.Proofs.YtohalpafmcobpaaGreat
