/- Several texts in one: each says what it proves. No condition but theirs. -/
import Derived.Deep.RegionHeld3
import Derived.WalkKit
import Derived.Outline
import Derived.Test.YtgpmdfhepanahaaGreatLtG
import Derived.Test.YtgpmdfhepanahaaGreatVG
import Derived.Test.YtgpmdfhepanahaaGreatCopy
import Derived.Test.YtgpmdfhepanahaaGreatClG
import Derived.Test.YtgpmdfhepanahaaGreatOwn
import Derived.Deep.AppendLies
import Derived.Deep.Cut
import Derived.Deep.CutRange
import Derived.Maps.AppendAt
/- A region that draws its order and whose last operation waits for all others: the loads are taken first, and the last operation may write what they read. No condition. -/
namespace Go.Proofs.YtgpmdfhepanahaaGreat
open Go.RowKit
set_option linter.unusedVariables false

section
variable {P : Program} {ops : Array Oper} {Q : Exit → Act → World → Prop} {md : Region.Mode} {S : World → Prop} {n : Nat}

/-- Behind every operation but number n the world meets S. -/
def wpSink (P : Program) (md : Region.Mode) (ops : Array Oper) (Q : Exit → Act → World → Prop) (S : World → Prop) (n : Nat) : Nat → Array Bool → Act → World → Prop
  | 0, seen, act, wd => Region.ready md ops seen = [] ∧ Q .normal act wd
  | left + 1, seen, act, wd =>
    (Region.ready md ops seen = [] → Q .normal act wd) ∧
    ∀ k ∈ Region.ready md ops seen, wpOp P ops Q k (fun act' wd' => (k ≠ n → S wd') ∧ wpSink P md ops Q S n left (seen.setIfInBounds k true) act' wd') act wd

theorem sink_any : ∀ (left : Nat) (seen : Array Bool) (act : Act) (wd : World), wpSink P md ops Q S n left seen act wd → wpAny P md ops Q left seen act wd := by
  intro left
  induction left with
  | zero => exact fun _ _ _ hh => hh
  | succ left more => exact fun seen act wd hh => ⟨hh.1, fun k hk => wpOp_mono (fun _ _ hb => more _ _ _ hb.2) (hh.2 k hk)⟩

theorem sink_first {i : Nat} {oi : Oper} {v : Value} (hi : ops[i]? = some oi) (hin : i ≠ n) (hlast : ∃ on, ops[n]? = some on ∧ ∃ e ∈ on.after, Region.binds md e = true ∧ e.on = i)
    (hsel : ∀ (j : Nat) (o : Oper) cs b, ops[j]? = some o → o.op ≠ .select cs b) (hQ : ∀ c act wd, Q (.panic c) (act.put oi.dst v) wd → Q (.panic c) act wd) :
    ∀ (left : Nat) (seen : Array Bool) (act : Act) (wd : World),
      (∀ j oj, ops[j]? = some oj → j ≠ i → seen.getD j true = false → (∀ e ∈ oj.after, Region.binds md e = true → e.on ≠ i) → oi.apart ops oj = true) →
      i ∈ Region.ready md ops seen → YieldsIf P ops S oi v act → S wd →
      wpSink P md ops Q S n left (seen.setIfInBounds i true) (act.put oi.dst v) wd → wpSink P md ops Q S n (left + 1) seen act wd := by
  intro left
  induction left with
  | zero =>
    intro seen act wd _ hri hyi hSw hend
    refine ⟨fun hnil => absurd (hnil ▸ hri) List.not_mem_nil, fun j hj => ?_⟩
    by_cases hne : j = i
    · subst hne; exact hyi.wpOp hi hSw ⟨fun _ => hSw, hend⟩
    · exact absurd (hend.1 ▸ ready_mono hj hne) List.not_mem_nil
  | succ left more =>
    intro seen act wd hfr hri hyi hSw hend
    refine ⟨fun hnil => absurd (hnil ▸ hri) List.not_mem_nil, fun j hj => ?_⟩
    by_cases hne : j = i
    · subst hne; exact hyi.wpOp hi hSw ⟨fun _ => hSw, hend⟩
    · have later := hend.2 j (ready_mono hj hne)
      obtain ⟨hopen, oj, hoj, hedges⟩ := mem_ready.1 hj
      have hnoedge : ∀ e ∈ oj.after, Region.binds md e = true → e.on ≠ i := by
        intro e he hbind hon
        have hs := hedges e he hbind
        have ho := (mem_ready.1 hri).1
        rw [hon] at hs
        by_cases hsz : i < seen.size
        · simp [hsz] at ho hs; rw [ho] at hs; cases hs
        · simp [Array.getElem?_eq_none (Nat.le_of_not_lt hsz)] at hs
      have hjn : j ≠ n := by
        intro hjn
        subst hjn
        obtain ⟨on, hon, e, he, hbind, heq⟩ := hlast
        rw [hoj] at hon
        cases hon
        exact hnoedge e he hbind heq
      have swapped := wpOp_putIf hoj (hfr j oj hoj hne hopen hnoedge) (fun cs b => hsel i oi cs b hi) (fun cs b => hsel j oj cs b hoj) hQ hyi later
      refine wpOp_mono (fun act' wd' hb => ?_) swapped
      have hSb := hb.2.1 hjn
      refine ⟨fun _ => hSb, more (seen.setIfInBounds j true) act' wd' (fun k ok hk hki hun hno => hfr k ok hk hki ?_ hno) (ready_mono hri (Ne.symm hne)) hb.1 hSb ?_⟩
      · by_cases hjk : j = k
        · subst hjk; exact hopen
        · rwa [getD_set_ne true hjk] at hun
      · rw [Array.setIfInBounds_comm _ _ hne]
        exact hb.2.2

/-- The last operation waits for the others. -/
def waitsAll (md : Region.Mode) (ops : Array Oper) (n i : Nat) : Bool := decide (i ≠ n) && match ops[n]? with
  | some o => o.after.toList.any fun e => Region.binds md e && decide (e.on = i)
  | none => false
theorem waitsAll_spec {i : Nat} (h : waitsAll md ops n i = true) : i ≠ n ∧ ∃ on, ops[n]? = some on ∧ ∃ e ∈ on.after, Region.binds md e = true ∧ e.on = i := by
  unfold waitsAll at h
  rw [Bool.and_eq_true, decide_eq_true_iff] at h
  refine ⟨h.1, ?_⟩
  have h2 := h.2
  cases ho : ops[n]? with
  | none => rw [ho] at h2; cases h2
  | some o =>
    rw [ho] at h2
    obtain ⟨e, he, hbi⟩ := List.any_eq_true.1 h2
    rw [Bool.and_eq_true, decide_eq_true_iff] at hbi
    exact ⟨o, rfl, e, Array.mem_toList_iff.1 he, hbi.1, hbi.2⟩

theorem sink_take (i : Nat) {oi : Oper} {v : Value} {left : Nat} {seen : Array Bool} {act : Act} {wd : World} (hi : ops[i]? = some oi) (hl : waitsAll md ops n i = true)
    (hs : Region.noSelect ops = true) (hf : Region.free md ops seen i = true) (hr : (Region.ready md ops seen).contains i = true) (hw : Region.wanted oi (yielded ops act.tmps) = true)
    (hQ : ∀ c act wd, Q (.panic c) (act.put oi.dst v) wd → Q (.panic c) act wd) (hS : S wd) (hy : ∀ wd, S wd → (execOp act.eval oi).run P wd = .ok (.value v) wd)
    (h : wpSink P md ops Q S n left (seen.setIfInBounds i true) (act.put oi.dst v) wd) : wpSink P md ops Q S n (left + 1) seen act wd :=
  sink_first hi (waitsAll_spec hl).1 (waitsAll_spec hl).2 (Region.noSelect_spec hs) hQ left seen act wd (Region.free_spec hi hf) (by simpa using hr) (.inl ⟨hw, hy⟩) hS h

/-- One operation alone may come up. -/
theorem sink_one {i : Nat} {o : Oper} {left : Nat} {seen : Array Bool} {act : Act} {wd : World} (hr : Region.ready md ops seen = [i]) (ho : ops[i]? = some o)
    (h : ∀ K' : Act → World → Prop, Shut (∀ act wd, (i ≠ n → S wd) → ((i ≠ n → S wd) → wpSink P md ops Q S n left (seen.setIfInBounds i true) act wd) → K' act wd) → if Region.wanted o (yielded ops act.tmps) = true then Oper.wp P o act wd K' Q else K' (act.put o.dst undef) wd) :
    wpSink P md ops Q S n (left + 1) seen act wd := by
  refine ⟨fun hnil => (by rw [hr] at hnil; cases hnil), fun k hk => ?_⟩
  rw [hr] at hk
  obtain rfl : k = i := List.mem_singleton.1 hk
  exact wpOp_step ho (fun K' hK => h K' (fun act wd hS hW => hK act wd ⟨hS, hW hS⟩))

theorem sink_done {seen : Array Bool} {act : Act} {wd : World} (hr : Region.ready md ops seen = []) (h : Q .normal act wd) : ∀ left, wpSink P md ops Q S n left seen act wd := by
  intro left
  cases left with
  | zero => exact ⟨hr, h⟩
  | succ m => exact ⟨fun _ => h, fun k hk => (by rw [hr] at hk; cases hk)⟩

theorem sink_start {id : Nat} {act : Act} {wd : World} (n : Nat) (S : World → Prop) (hm : P.follows .mixedOrders = true) (hS : S wd.drew)
    (h : S wd.drew → wpSink P .any ops Q S n ops.size (Array.replicate ops.size false) act wd.drew) : (Code.region id ops true).wp P Q act wd :=
  wp_region_any hm (sink_any _ _ _ _ (h hS))
end

end Go.Proofs.YtgpmdfhepanahaaGreat

/- MakeClause, the program's: a contract, for lists of at most 1048576 names' bytes, literals and arguments. -/
namespace Go.Proofs.YtgpmdfhepanahaaGreat.lit
open Go.RowKit
set_option linter.unusedVariables false

/-- What the loop keeps. -/
def MI (l : List Lt) (B c k : Nat) (wr : World) : Prop := ∃ (cv : Value) (L : List En), Oner wr c cv ∧ RowE B B wr cv L ∧ bdsE L = makeL (l.take k) ∧ L.length ≤ 8 ∧ B ≤ wr.heap.size
theorem grown_one {w w' : World} {row : Option Nat} {base b : Nat} {x : Value} (h : Oner w b x) (hg : w.grownBy w' row) (hr : ∀ g, row = some g → base ≤ g) (hb : b < base) : Oner w' b x := one_grown hg h (far_row hr hb)
theorem LtO.setFar {w : World} {S : Nat → Prop} {v : Value} {l : List Lt} (h : LtO w S v l) {a : Addr} (ha : ¬ S a.block) (u : Value) : LtO (w.setCell a u) S v l := h.setCell ha u

set_option maxRecDepth 100000 in
set_option maxHeartbeats 8000000 in
theorem implMake_any (l : List Lt) (w : World) (v : Value) (hv : LtS w v l) (hw : wtC l ≤ 1048576) :
    Calls Tryz.prog 99 #[v] w (OkEnd (mkR l) (mkOk l) w) := by
  have hl6 : l.length ≤ 1048576 := Nat.le_trans (wtC_len l) hw
  have HWD := Lib.hid (fun (d : Lt) (hd : d ∈ l) => Nat.le_trans (wtC_tm hd) hw)
  obtain ⟨a, c, rfl⟩ := hv.is_slice
  have HV := Lib.hid hv
  obtain ⟨w0, hw0⟩ : ∃ w0, (w.alloc (.cells #[.slice none 0 0] 48)).alloc (.cells #[.slice none 0 0] 48) = w0 := ⟨_, rfl⟩
  have HB0 : Hid (Below w.heap.size w w0) := Lib.hid (by rw [← hw0]; exact ((Below.refl w.heap.size w).alloc (Nat.le_refl _) _).alloc (by simp) _)
  have R0 : Hid (Oner w0 w.heap.size (.slice none 0 0)) := Lib.hid (by rw [← hw0]; exact (oner_new w (.slice none 0 0) 48 _ rfl).alloc _)
  have C0 : Hid (Oner w0 (w.heap.size + 1) (.slice none 0 0)) := Lib.hid (by rw [← hw0]; exact oner_new _ (.slice none 0 0) 48 (w.heap.size + 1) (by simp))
  have hz0 : w0.heap.size = w.heap.size + 2 := by rw [← hw0]; simp
  have HZ0 := Lib.hid hz0
  have M0 : Hid (MI l w0.heap.size (w.heap.size + 1) 0 w0) := Lib.hid ⟨_, [], C0.out, RowE.nil _ _ _, by rw [makeL_nil]; rfl, by simp, Nat.le_refl _⟩
  clear hv hw hz0
  go_enter Tryz.func99, Tryz.ntmps99
  go_wp2
  go_loopw [11] (fun i wr => ∃ k : Nat, k ≤ l.length ∧ i = .int .i64 k ∧ MI l w0.heap.size (w.heap.size + 1) k wr ∧ (∀ (j : Nat) (d : Lt), j < k → l[j]? = some d → atomB d.tm = true) ∧ Oner wr w.heap.size (.slice none 0 0) ∧ Below w.heap.size w wr) (fun i _ => l.length - (intOf i).toNat)
  case atStart => exact ⟨0, Nat.zero_le _, rfl, M0.out, fun j d h => absurd h (Nat.not_lt_zero _), R0.out, HB0.out⟩
  case round =>
    clear hw0
    obtain ⟨k, hk, rfl, ⟨cv, L, ho, hrow, hbds, hl8, hbase⟩, hat, hR, hbel⟩ := hrel
    obtain ⟨oa, oc, rfl⟩ := hrow.is_slice
    have HO := Lib.hid ho
    have HROW := Lib.hid hrow
    have HBD := Lib.hid hbds
    have HR := Lib.hid hR
    have HB := Lib.hid hbel
    have HBS := Lib.hid hbase
    have HATS := Lib.hid hat
    have hw0z : w0.heap.size = w.heap.size + 2 := HZ0.out
    clear ho hrow hbds hR hbel hbase hat
    obtain ⟨r0, r1⟩ := HR.out
    obtain ⟨o0, o1⟩ := HO.out
    by_cases hlt : k < l.length
    · obtain ⟨d, hd⟩ : ∃ d, l[k]? = some d := ⟨_, List.getElem?_eq_getElem hlt⟩
      obtain ⟨b, off, rfl, vb, c0, c1, c2, hvb⟩ := (HV.out.kept HB.out).get hd
      obtain ⟨pb, qb, rfl⟩ := hvb.is_slice
      obtain ⟨wq, hwq⟩ : ∃ wq, wr.alloc (.cells #[.bool d.var, .string d.tm.name, .slice pb d.tm.args.length qb] 86) = wq := ⟨_, rfl⟩
      have BQ : Hid (Below wr.heap.size wr wq) := Lib.hid (by rw [← hwq]; exact (Below.refl _ _).alloc (Nat.le_refl _) _)
      have TQ : Hid (Thr wq wr.heap.size (.bool d.var) (.string d.tm.name) (.slice pb d.tm.args.length qb)) := Lib.hid (by rw [← hwq]; exact thr_new _ _ _ _ _ _ rfl)
      have HVB := Lib.hid (hvb.kept BQ.out)
      have HBQ := Lib.hid (carry_below HB.out (Nat.le_refl _) BQ.out)
      have HD := Lib.hid hd
      have hdw := HWD.out d (List.mem_of_getElem? hd)
      have CV := Lib.hid (implVLit_any d.var d.tm wq _ HVB.out hdw)
      have HNX := Lib.hid (makeL_next hd)
      have HRQ0 := Lib.hid (HROW.out.kept BQ.out)
      have hzq : wr.heap.size ≤ wq.heap.size := BQ.out.size
      obtain ⟨t0, t1, t2, t3⟩ := TQ.out
      clear hd hvb r0 r1 o0 o1
      go_wp2_with fail
      refine CV.out.mono ?_
      rintro e w4 ⟨rfl, hb⟩
      have HB4 := Lib.hid hb
      have HO4 := Lib.hid (HO.out.kept (BQ.out.trans (hb.mono BQ.out.size)))
      have HR4 := Lib.hid (HR.out.kept (BQ.out.trans (hb.mono BQ.out.size)))
      have HT4 := Lib.hid (TQ.out.kept hb)
      have HBW4 := Lib.hid (carry_below HBQ.out (Nat.le_refl _) hb)
      have hz4 : wq.heap.size ≤ w4.heap.size := hb.size
      clear hb t0 t1 t2 t3 c0 c1 c2 hwq
      obtain ⟨t0, t1, t2, t3⟩ := HT4.out
      obtain ⟨r0, r1⟩ := HR4.out
      obtain ⟨o0, o1⟩ := HO4.out
      cases hav : atomB d.tm with
      | false =>
        have HF := Lib.hid (mk_atom HD.out hav)
        clear hav
        go_wp2
        refine bodyPost_ret (v := .tuple #[.agg #[.slice none 0 0], .bool false]) (by simp [results, Tryz.results99, go_sem, r0]) rfl ?_
        exact OkEnd.no (mkR_no HF.out) HF.out (HBW4.out.setCell (by simp; try omega) _)
      | true =>
        have HAT : Hid (∀ (j : Nat) (e : Lt), j < k + 1 → l[j]? = some e → atomB e.tm = true) := Lib.hid (fun j e hj he => by
          by_cases ej : j = k
          · subst ej; rw [HD.out] at he; injection he with he; rw [← he]; exact hav
          · exact HATS.out j e (by omega) he)
        have HR44 := Lib.hid (HRQ0.out.kept HB4.out)
        have HASC : Hid (Asc (bdsE L)) := Lib.hid (by rw [HBD.out]; exact asc_make _)
        have hsz := bdsE_len L
        have CF := bsf_any (bdsE L) w4 (.slice oa L.length oc) (.slice pb d.tm.args.length qb) HR44.out.read (by omega) HASC.out d (HVB.out.kept HB4.out) (fun e he => HWD.out e (by rw [HBD.out] at he; exact List.mem_of_mem_take (make_mem he))) hdw
        have CF := Lib.hid CF
        have HSZ := Lib.hid hsz
        clear hav hsz
        go_wp2_with fail
        refine CF.out.mono ?_
        rintro e w5 ⟨i, rfl, hp, hb⟩
        have HB5 := Lib.hid hb
        have HP := Lib.hid hp
        have HO5 := Lib.hid (HO4.out.kept hb)
        have HR5 := Lib.hid (HR4.out.kept hb)
        have HT5 := Lib.hid (HT4.out.kept hb)
        have HBW5 := Lib.hid (carry_below HBW4.out (Nat.le_refl _) hb)
        have HRR5 := Lib.hid (HR44.out.kept hb)
        have hz5 : w4.heap.size ≤ w5.heap.size := hb.size
        clear hb hp t0 t1 t2 t3 r0 r1 o0 o1
        obtain ⟨t0, t1, t2, t3⟩ := HT5.out
        obtain ⟨r0, r1⟩ := HR5.out
        obtain ⟨o0, o1⟩ := HO5.out
        cases hh : hitL (bdsE L) d i with
        | true =>
          have M5 : Hid (MI l w0.heap.size (w.heap.size + 1) (k + 1) w5) := Lib.hid ⟨_, L, HO5.out, HRR5.out, by rw [HNX.out, ← HBD.out, put_hit HP.out hh], hl8, by have := HBS.out; omega⟩
          clear hh
          go_wp2
          go_roundw
          case rel => exact ⟨k + 1, by omega, by go_num, M5.out, HAT.out, HR5.out, HBW5.out⟩
          case measure => simp [intOf]; omega
        | false =>
          have HN : Hid (makeL (l.take (k + 1)) = (bdsE L).take i ++ d :: (bdsE L).drop i) := Lib.hid (by rw [HNX.out, ← HBD.out, put_new HP.out hh])
          have hil : i ≤ L.length := by have h1 := HP.out.1; have h2 := HSZ.out; omega
          clear hh
          by_cases h8 : L.length = 8
          · have HF : Hid (mkOk l = false) := Lib.hid (mk_long (k := k + 1) (by rw [HN.out]; have h2 := HSZ.out; simp; omega))
            have h8' : ((L.length : Int) == 8) = true := by rw [h8]; rfl
            go_wp2
            refine bodyPost_ret (v := .tuple #[.agg #[.slice none 0 0], .bool false]) (by simp [results, Tryz.results99, go_sem, r0]) rfl ?_
            exact OkEnd.no (mkR_no HF.out) HF.out (HBW5.out.setCell (by simp; try omega) _)
          · have h8' : ((L.length : Int) == 8) = false := by rw [beq_eq_false_iff_ne]; omega
            have C1 : Hid (∀ W : World, Below w5.heap.size w5 W → Calls Tryz.prog 71 #[.agg #[.string d.tm.name, .slice pb d.tm.args.length qb]] W (ToEnd d.tm W)) := Lib.hid (fun W hW => by
              have CT := copyTerm_any d.tm
              unfold CopyT at CT
              exact CT W _ (((HVB.out.kept HB4.out).kept HB5.out).kept hW) hdw)
            have hrowlt : ∀ g, (Value.slice oa L.length oc).ownBlock = some g → w0.heap.size ≤ g ∧ g < w5.heap.size ∧ g ≠ wr.heap.size := fun g e => ⟨(HROW.out.row.lt g e).1, (HRR5.out.row.lt g e).2, by have := (HROW.out.row.lt g e).2; omega⟩
            have HRL := Lib.hid hrowlt
            have hbs := HBS.out
            have hB0 : Below w5.heap.size w5 w5.drew := (Below.refl _ _).drew
            clear hrowlt
            go_wp2_with fail
            refine sink_start 12 (fun w' => w'.cell? ⟨wr.heap.size, 0, none⟩ = some (.bool d.var) ∧ w'.cell? ⟨wr.heap.size, 1, none⟩ = some (.string d.tm.name) ∧ w'.cell? ⟨wr.heap.size, 2, none⟩ = some (.slice pb d.tm.args.length qb) ∧ w'.cell? ⟨w.heap.size + 1, 0, none⟩ = some (.slice oa L.length oc)) (by kernel_rfl) (by exact ⟨by first | assumption | exact carry_cell' ((Below.refl _ _).alloc (Nat.le_refl _) _) (by assumption), by first | assumption | exact carry_cell' ((Below.refl _ _).alloc (Nat.le_refl _) _) (by assumption), by first | assumption | exact carry_cell' ((Below.refl _ _).alloc (Nat.le_refl _) _) (by assumption), by first | assumption | exact carry_cell' ((Below.refl _ _).alloc (Nat.le_refl _) _) (by assumption)⟩) (fun hHeld => ?_)
            refine sink_take 0 (v := ?_) rfl (by kernel_rfl) (by kernel_rfl) (by kernel_rfl) (by kernel_rfl) (by rfl) (fun _ _ _ h => h) (by assumption) ?_ ?_; rotate_left; (intro w hSw; (try dsimp only at hSw); go_simp; try (with_reducible rfl))
            try simp only [Act.put, List.getElem_toArray, List.getElem_cons_zero, List.setIfInBounds_toArray, List.set_cons_zero, List.set_cons_succ]
            refine sink_take 1 (v := ?_) rfl (by kernel_rfl) (by kernel_rfl) (by kernel_rfl) (by kernel_rfl) (by rfl) (fun _ _ _ h => h) (by assumption) ?_ ?_; rotate_left; (intro w hSw; (try dsimp only at hSw); go_simp; try (with_reducible rfl))
            try simp only [Act.put, List.getElem_toArray, List.getElem_cons_zero, List.getElem_cons_succ, List.setIfInBounds_toArray, List.set_cons_zero, List.set_cons_succ]
            refine sink_take 2 (v := ?_) rfl (by kernel_rfl) (by kernel_rfl) (by kernel_rfl) (by kernel_rfl) (by rfl) (fun _ _ _ h => h) (by assumption) ?_ ?_; rotate_left; (intro w hSw; (try dsimp only at hSw); go_simp; try (with_reducible rfl))
            try simp only [Act.put, List.getElem_toArray, List.getElem_cons_zero, List.getElem_cons_succ, List.setIfInBounds_toArray, List.set_cons_zero, List.set_cons_succ]
            refine sink_take 3 (v := ?_) rfl (by kernel_rfl) (by kernel_rfl) (by kernel_rfl) (by kernel_rfl) (by rfl) (fun _ _ _ h => h) (by assumption) ?_ ?_; rotate_left; (intro w hSw; (try dsimp only at hSw); go_simp; try (with_reducible rfl))
            try simp only [Act.put, List.getElem_toArray, List.getElem_cons_zero, List.getElem_cons_succ, List.setIfInBounds_toArray, List.set_cons_zero, List.set_cons_succ]
            refine sink_take 4 (v := ?_) rfl (by kernel_rfl) (by kernel_rfl) (by kernel_rfl) (by kernel_rfl) (by rfl) (fun _ _ _ h => h) (by assumption) ?_ ?_; rotate_left; (intro w hSw; (try dsimp only at hSw); go_simp; try (with_reducible rfl))
            try simp only [Act.put, List.getElem_toArray, List.getElem_cons_zero, List.getElem_cons_succ, List.setIfInBounds_toArray, List.set_cons_zero, List.set_cons_succ]
            refine sink_take 5 (v := ?_) rfl (by kernel_rfl) (by kernel_rfl) (by kernel_rfl) (by kernel_rfl) (by rfl) (fun _ _ _ h => h) (by assumption) ?_ ?_; rotate_left; (intro w hSw; (try dsimp only at hSw); go_simp; try (with_reducible rfl))
            try simp only [Act.put, List.getElem_toArray, List.getElem_cons_zero, List.getElem_cons_succ, List.setIfInBounds_toArray, List.set_cons_zero, List.set_cons_succ]
            refine sink_take 6 (v := ?_) rfl (by kernel_rfl) (by kernel_rfl) (by kernel_rfl) (by kernel_rfl) (by rfl) (fun _ _ _ h => h) (by assumption) ?_ ?_; rotate_left; (intro w hSw; (try dsimp only at hSw); go_simp; try (with_reducible rfl))
            try simp only [Act.put, List.getElem_toArray, List.getElem_cons_zero, List.getElem_cons_succ, List.setIfInBounds_toArray, List.set_cons_zero, List.set_cons_succ]
            refine sink_one (i := 7) (by kernel_rfl) rfl (fun K hK => ?_)
            go_simp
            go_at_call 71; refine (C1.out _ hB0).mono ?_; rintro e w6 ⟨v6, rfl, ho, hb⟩; have q0 := carry_cell' hb t0; have q1 := carry_cell' hb t1; have q2 := carry_cell' hb t2; have q3 := carry_cell' hb o0; have HB6 := Lib.hid (carry_below hB0 (Nat.le_refl _) hb); obtain ⟨p6, c6, rfl⟩ := ho.read.is_slice; have HO6 : Hid (TmO w6 (Fresh w5 w6) (.slice p6 d.tm.args.length c6) d.tm.args) := Lib.hid ho; have hz6 := HB6.out.size; clear hb ho; go_wp2_with fail
            refine hK.out _ _ (fun _ => by exact ⟨by first | assumption | exact carry_cell' ((Below.refl _ _).alloc (Nat.le_refl _) _) (by assumption), by first | assumption | exact carry_cell' ((Below.refl _ _).alloc (Nat.le_refl _) _) (by assumption), by first | assumption | exact carry_cell' ((Below.refl _ _).alloc (Nat.le_refl _) _) (by assumption), by first | assumption | exact carry_cell' ((Below.refl _ _).alloc (Nat.le_refl _) _) (by assumption)⟩) (fun hHeld => ?_)
            have hHeld := hHeld (by decide)
            clear hK K
            try simp only [Act.put, List.getElem_toArray, List.getElem_cons_zero, List.getElem_cons_succ, List.setIfInBounds_toArray, List.set_cons_zero, List.set_cons_succ]
            refine sink_take 8 (v := ?_) rfl (by kernel_rfl) (by kernel_rfl) (by kernel_rfl) (by kernel_rfl) (by rfl) (fun _ _ _ h => h) (by assumption) ?_ ?_; rotate_left; (intro w hSw; (try dsimp only at hSw); go_simp; try (with_reducible rfl))
            try simp only [Act.put, List.getElem_toArray, List.getElem_cons_zero, List.getElem_cons_succ, List.setIfInBounds_toArray, List.set_cons_zero, List.set_cons_succ]
            refine sink_one (i := 9) (by kernel_rfl) rfl (fun K hK => ?_)
            go_simp
            refine hK.out _ _ (fun _ => by exact ⟨by first | assumption | exact carry_cell' ((Below.refl _ _).alloc (Nat.le_refl _) _) (by assumption), by first | assumption | exact carry_cell' ((Below.refl _ _).alloc (Nat.le_refl _) _) (by assumption), by first | assumption | exact carry_cell' ((Below.refl _ _).alloc (Nat.le_refl _) _) (by assumption), by first | assumption | exact carry_cell' ((Below.refl _ _).alloc (Nat.le_refl _) _) (by assumption)⟩) (fun hHeld => ?_)
            have hHeld := hHeld (by decide)
            clear hK K
            try simp only [Act.put, List.getElem_toArray, List.getElem_cons_zero, List.getElem_cons_succ, List.setIfInBounds_toArray, List.set_cons_zero, List.set_cons_succ]
            refine sink_one (i := 10) (by kernel_rfl) rfl (fun K hK => ?_)
            go_simp
            go_at_call 128; obtain ⟨w7, hw7⟩ : ∃ w7, w6.alloc (.cells #[.bool d.var, .string d.tm.name, .slice p6 d.tm.args.length c6] 86) = w7 := ⟨_, rfl⟩; have H7 : Hid (w7.heap[w6.heap.size]? = some (.cells #[.bool d.var, .string d.tm.name, .slice p6 d.tm.args.length c6] 86 (0, 0))) := Lib.hid (by rw [← hw7]; exact heap_alloc_new w6 _); have B7 : Hid (Below w6.heap.size w6 w7) := Lib.hid (by rw [← hw7]; exact (Below.refl _ _).alloc (Nat.le_refl _) _); have hz7 : w7.heap.size = w6.heap.size + 1 := (by rw [← hw7]; simp); have HZ7 := Lib.hid hz7; have BB7 := Lib.hid (carry_below HB6.out (Nat.le_refl _) B7.out); have HR7 := Lib.hid (HRR5.out.kept BB7.out); have CX := ins_any w0.heap.size L.length i (.slice oa L.length oc) (enF L) (.bool d.var) (.string d.tm.name) (.slice p6 d.tm.args.length c6) w6.heap.size 1 w7 HR7.out.row H7.out (fun e => by have h1 := (HRL.out _ e).2; omega) (by simp [Value.oneCell']) (enF_one HR7.out.ens) (by omega) hil (by omega); (try rw [hw7]); refine CX.mono ?_; rintro e w8 ⟨gg, cap, rfl, hown, hat, hgr⟩; have HOWN := Lib.hid hown; have HATG := Lib.hid hat; have HGR := Lib.hid hgr; have z0 := hgr.cell (carry_cell q0 B7.out) (fun e => by have h2 := (HRL.out _ e.symm).2; simp at h2; try omega); have z1 := hgr.cell (carry_cell q1 B7.out) (fun e => by have h2 := (HRL.out _ e.symm).2; simp at h2; try omega); have z2 := hgr.cell (carry_cell q2 B7.out) (fun e => by have h2 := (HRL.out _ e.symm).2; simp at h2; try omega); have z3 := hgr.cell (carry_cell q3 B7.out) (fun e => by have h2 := (HRL.out _ e.symm).1; simp at h2; try omega); have HGW : Hid (w5.grownBy w8 (Value.slice oa L.length oc).ownBlock) := Lib.hid (grown_trans (grown_of_below BB7.out _) hgr); have HOC8 := Lib.hid (grown_one HO5.out HGW.out (fun g e => (HRL.out g e).1) (by omega)); obtain ⟨zc0, zc1⟩ := HOC8.out; have HRS8 := Lib.hid (grown_one HR5.out HGW.out (fun g e => (HRL.out g e).1) (by omega)); have HBW8 : Hid (Below w.heap.size w w8) := Lib.hid (HBW5.out.trans ⟨HGW.out.os, HGW.out.tape, HGW.out.output, HGW.out.size, fun b hb => HGW.out.block b (by have := HBW5.out.size; omega) (fun e => by have := (HRL.out b e.symm).1; omega)⟩); clear hown hat hgr hw7 CX hz7; go_wp2_with fail
            refine hK.out _ _ (fun _ => by exact ⟨by first | assumption | exact carry_cell' ((Below.refl _ _).alloc (Nat.le_refl _) _) (by assumption), by first | assumption | exact carry_cell' ((Below.refl _ _).alloc (Nat.le_refl _) _) (by assumption), by first | assumption | exact carry_cell' ((Below.refl _ _).alloc (Nat.le_refl _) _) (by assumption), by first | assumption | exact carry_cell' ((Below.refl _ _).alloc (Nat.le_refl _) _) (by assumption)⟩) (fun hHeld => ?_)
            have hHeld := hHeld (by decide)
            clear hK K
            try simp only [Act.put, List.getElem_toArray, List.getElem_cons_zero, List.getElem_cons_succ, List.setIfInBounds_toArray, List.set_cons_zero, List.set_cons_succ]
            refine sink_take 11 (v := ?_) rfl (by kernel_rfl) (by kernel_rfl) (by kernel_rfl) (by kernel_rfl) (by rfl) (fun _ _ _ h => h) (by assumption) ?_ ?_; rotate_left; (intro w hSw; (try dsimp only at hSw); go_simp; try (with_reducible rfl))
            try simp only [Act.put, List.getElem_toArray, List.getElem_cons_zero, List.getElem_cons_succ, List.setIfInBounds_toArray, List.set_cons_zero, List.set_cons_succ]
            refine sink_one (i := 12) (by kernel_rfl) rfl (fun K hK => ?_)
            go_simp
            refine hK.out _ _ (fun hne => absurd rfl hne) (fun hHeld => ?_)
            clear hK K
            try simp only [Act.put, List.getElem_toArray, List.getElem_cons_zero, List.getElem_cons_succ, List.setIfInBounds_toArray, List.set_cons_zero, List.set_cons_succ]
            refine sink_done (by kernel_rfl) ?_ _
            have HE8 : Hid (MI l w0.heap.size (w.heap.size + 1) (k + 1) (w8.setCell ⟨w.heap.size + 1, 0, none⟩ (.slice (some ⟨gg, 0, none⟩) (L.length + 1) cap))) := Lib.hid (by
              have hX := RowE.ins (d := d) (S := Fresh w5 w6) HR7.out hil (HO6.out.frame fun b hb => B7.out.block b hb.2) (fun b hb => ⟨by have := hb.1; omega, by have := hb.2; have := HZ7.out; omega⟩) (fun y hy b h1 h2 => by have h3 := (HRR5.out.ens.sub y hy b h1).2; have h4 := h2.1; omega) (fun g e h => by have h3 := (HRR5.out.row.lt _ e).2; have h4 := h.1; omega) HOWN.out HATG.out HGR.out
              refine ⟨_, _, HOC8.out.setIt _, hX.setBelow (by simp; omega) (by simp; omega) _, ?_, by simp; omega, by rw [size_setCell]; have := HGR.out.size; have := HZ7.out; have := HB6.out.size; omega⟩
              rw [HN.out, bdsE_ins])
            have HRS : Hid (Oner (w8.setCell ⟨w.heap.size + 1, 0, none⟩ (.slice (some ⟨gg, 0, none⟩) (L.length + 1) cap)) w.heap.size (.slice none 0 0)) := Lib.hid (HRS8.out.setFar (by simp) _)
            have HBS8 : Hid (Below w.heap.size w (w8.setCell ⟨w.heap.size + 1, 0, none⟩ (.slice (some ⟨gg, 0, none⟩) (L.length + 1) cap))) := Lib.hid (HBW8.out.setCell (by simp) _)
            clear hB0 z0 z1 z2 z3 zc0 zc1 t0 t1 t2 t3 r0 r1 o0 o1
            go_wp2
            go_roundw
            case rel => exact ⟨k + 1, by omega, by go_num, HE8.out, HAT.out, HRS.out, HBS8.out⟩
            case measure => simp [intOf]; omega
    · have hke : k = l.length := by omega
      have HL : Hid (bdsE L = makeL l) := Lib.hid (by rw [HBD.out, hke, List.take_length])
      have HOKS : Hid (mkOk l = true) := Lib.hid (mk_yes (fun d hd => by
        obtain ⟨j, hj⟩ := List.getElem?_of_mem hd
        exact HATS.out j d (by have := (List.getElem?_eq_some_iff.1 hj).1; omega) hj) (by rw [← HL.out, bdsE_len]; exact hl8))
      clear hke
      go_wp2
      refine bodyPost_ret (v := .tuple #[.agg #[.slice oa L.length oc], .bool true]) (by simp [results, Tryz.results99, go_sem, r0]) rfl ?_
      rw [mkR_yes HOKS.out, HOKS.out, ← HL.out]
      refine ⟨_, rfl, ?_, HB.out.setCell (by simp) _⟩
      have hwh := HROW.out.whole (w0 := w0) (Nat.le_refl _) (Nat.le_refl _)
      refine (hwh.setCell (fun h => by have := h.1; simp at this; omega) _).mono fun y hy => ⟨?_, ?_⟩
      · have := hy.1; omega
      · simp only [size_setCell]; exact hy.2

end Go.Proofs.YtgpmdfhepanahaaGreat.lit

/- MakeClause, the model's: contracts, for lists of at most 1048576 names' bytes, literals and arguments. -/
namespace Go.Proofs.YtgpmdfhepanahaaGreat.lit
open Go.RowKit
set_option linter.unusedVariables false
set_option linter.unusedSimpArgs false

theorem step_app {P : Program} (w : World) {ops : Array Oper} {o : Oper} {a : Act} {K : Act → World → Prop} {Q : Exit → Act → World → Prop} {E : Prop} (hgd : o.guard = none) (s x : Operand) (t : TypeId)
    (ho : o.op = .call { callee := .builtin .append, args := #[s, x], argTypes := #[t, t] })
    (base : Nat) (e : TypeId) (i : TypeInfo) (z : Value) (size bytes : Nat) (ht : P.underlying t = some (.slice e)) (hi : P.info? e = some i) (hz : i.zero = some z)
    (hsize : i.size = size) (hby : i.bytes = bytes) (hzs : z.cells.size = size) (hsz : 0 < size)
    (g0 cap0 : Nat) (n : Nat) (xs : List Value) (hs : a.eval s = .slice (some ⟨g0, 0, none⟩) n cap0) (hown : w.ownsRow base e size (.slice (some ⟨g0, 0, none⟩) n cap0) n xs)
    (ad : Addr) (m c : Nat) (news : List Value) (hx : a.eval x = .slice (some ad) m c) (hl : news.length = m * size) (hnews : ∀ j u, news[j]? = some u → w.cell? (ad.add j) = some u) (h1 : ∀ u ∈ news, u.oneCell' = true)
    (h63 : n + m ≤ maxLen) (hbytes : (n + m) * bytes ≤ 140737488355328) (hbase : base ≤ w.heap.size)
    (h : ∀ g cap w', w'.ownsRow base e size (.slice (some ⟨g, 0, none⟩) (n + m) cap) (n + m) (xs ++ news) → w.grownBy w' (some g0) → K (a.put o.dst (.slice (some ⟨g, 0, none⟩) (n + m) cap)) w') :
    if Region.wanted o (yielded ops a.tmps) = true then Oper.wp P o a w K Q else E := by
  have hw : Region.wanted o (yielded ops a.tmps) = true := by simp [Region.wanted, hgd]
  rw [if_pos hw]
  refine wp_append_own w s x t ho base e i z size bytes ht hi hz hsize hby hzs hsz _ n xs hs hown ad m c news hx hl hnews h1 h63 hbytes hbase fun v' w' h2 h3 h4 => ?_
  rcases id h2.2 with ⟨rfl, h0⟩ | ⟨g, cap, cur, rfl, _⟩
  · have := h4.1 rfl
    simp at this
  · exact h _ _ _ h2 h3


section
variable {P : Program} {ops : Array Oper} {Q : Exit → Act → World → Prop} {md : Region.Mode} {S : World → Prop} {n : Nat}
theorem sink_two {i j : Nat} {oi oj : Oper} {left : Nat} {seen : Array Bool} {act : Act} {wd : World} (hr : Region.ready md ops seen = [i, j]) (hi : ops[i]? = some oi) (hj : ops[j]? = some oj)
    (h1 : ∀ K' : Act → World → Prop, Shut (∀ act wd, (i ≠ n → S wd) → ((i ≠ n → S wd) → wpSink P md ops Q S n left (seen.setIfInBounds i true) act wd) → K' act wd) → if Region.wanted oi (yielded ops act.tmps) = true then Oper.wp P oi act wd K' Q else K' (act.put oi.dst undef) wd)
    (h2 : ∀ K' : Act → World → Prop, Shut (∀ act wd, (j ≠ n → S wd) → ((j ≠ n → S wd) → wpSink P md ops Q S n left (seen.setIfInBounds j true) act wd) → K' act wd) → if Region.wanted oj (yielded ops act.tmps) = true then Oper.wp P oj act wd K' Q else K' (act.put oj.dst undef) wd) :
    wpSink P md ops Q S n (left + 1) seen act wd := by
  refine ⟨fun hnil => (by rw [hr] at hnil; cases hnil), fun k hk => ?_⟩
  rw [hr] at hk
  rcases List.mem_cons.1 hk with rfl | hk
  · exact wpOp_step hi (fun K' hK => h1 K' (fun act wd hS hW => hK act wd ⟨hS, hW hS⟩))
  · obtain rfl : k = j := List.mem_singleton.1 hk
    exact wpOp_step hj (fun K' hK => h2 K' (fun act wd hS hW => hK act wd ⟨hS, hW hS⟩))
end

theorem cut_lo {b n cp k : Nat} (h : k ≤ n) (hc : n ≤ cp) (W : World) : (Instr.slice 46 (.slice (some ⟨b, 0, none⟩) n cp) none (some (.int .i64 (k : Int))) none).run Tryz.prog W = .ok (.slice (some ⟨b, 0, none⟩) k cp) W := by
  have h := run_slice_h (P := Tryz.prog) W 46 (some ⟨b, 0, none⟩) n cp (by kernel_rfl) .i64 (k : Int) (by omega) (by omega)
  rw [h]
  have e : (sizeOf (Tryz.prog.elem 46)).run Tryz.prog W = .ok 3 W := by kernel_rfl
  rw [e]
  simp [Result.andThen, sliced]
  intro _; rfl
theorem cut_hi {b n cp k : Nat} (h : k ≤ n) (hc : n ≤ cp) (W : World) : (Instr.slice 46 (.slice (some ⟨b, 0, none⟩) n cp) (some (.int .i64 (k : Int))) none none).run Tryz.prog W = .ok (.slice (some ⟨b, if cp = k then 0 else k * 3, none⟩) (n - k) (cp - k)) W := by
  have h := run_slice_l (P := Tryz.prog) W 46 (some ⟨b, 0, none⟩) n cp (by kernel_rfl) .i64 (k : Int) (by omega) (by omega)
  rw [h]
  have e : (sizeOf (Tryz.prog.elem 46)).run Tryz.prog W = .ok 3 W := by kernel_rfl
  rw [e]
  simp only [Result.andThen, sliced, Int.toNat_natCast]
  split <;> simp [Addr.add]
  omega

theorem own_c (w : World) (X : Obj) : ((w.alloc X).alloc (.cells #[] 86)).ownsRow w.heap.size 86 3 (.slice (some ⟨w.heap.size + 1, 0, none⟩) 0 0) 0 [] := by
  have h := World.ownsRow_made (base := w.heap.size) (size := 3) (e := 86) (w.alloc X) #[] 0 (by simp) (by decide) (by simp)
  have e : (w.alloc X).heap.size = w.heap.size + 1 := by simp
  rw [e] at h
  exact h
theorem add_block (p : Addr) (j : Nat) : (p.add j).block = p.block := by
  unfold Addr.add
  split <;> rfl
theorem xA (w : World) (x y z : Value) : ∀ (j : Nat) (u : Value), [x, y, z][j]? = some u → (w.alloc (.cells #[x, y, z] 86)).cell? ((⟨w.heap.size, 0, none⟩ : Addr).add j) = some u :=
  World.news_of_block (cs := #[x, y, z]) (t := 86) (fr := (0, 0)) (heap_alloc_new w _)
theorem xA' (w : World) (o : Obj) (x y z : Value) : ∀ (j : Nat) (u : Value), [x, y, z][j]? = some u → ((w.alloc o).alloc (.cells #[x, y, z] 86)).cell? ((⟨w.heap.size + 1, 0, none⟩ : Addr).add j) = some u := fun j u hj => by
  have h := xA (w.alloc o) x y z j u hj
  have e : (w.alloc o).heap.size = w.heap.size + 1 := by simp
  rw [e] at h
  exact h
theorem xB {w w7 : World} {x y z : Value} (hg : ((w.alloc (.cells #[] 86)).alloc (.cells #[x, y, z] 86)).drew.grownBy w7 (some w.heap.size)) : ∀ (j : Nat) (u : Value), [x, y, z][j]? = some u → w7.cell? ((⟨w.heap.size + 1, 0, none⟩ : Addr).add j) = some u := fun j u hj =>
  hg.cell (carry_cell (xA' w _ x y z j u hj) (Below.refl _ _).drew) (by rw [add_block]; simp)
theorem xC {w w7 : World} {x y z : Value} (hg : ((w.alloc (.cells #[x, y, z] 86)).alloc (.cells #[] 86)).drew.grownBy w7 (some (w.heap.size + 1))) : ∀ (j : Nat) (u : Value), [x, y, z][j]? = some u → w7.cell? ((⟨w.heap.size, 0, none⟩ : Addr).add j) = some u := fun j u hj =>
  hg.cell (carry_cell (xA w x y z j u hj) ((Below.refl _ _).alloc (Nat.le_refl _) _).drew) (by rw [add_block]; simp)

theorem below_grownL {B : Nat} {w0 a b : World} {g : Nat} (h : Below B w0 a) (hB : B ≤ w0.heap.size) (hg : a.grownBy b (some g)) (hr : B ≤ g) : Below B w0 b :=
  h.trans ⟨hg.os, hg.tape, hg.output, hg.size, fun k hk => hg.block k (by have := h.size; omega) (fun e => by have := Option.some.inj e; omega)⟩

def MkEnd (T : List Lt) (w : World) (e : Ending) (w' : World) : Prop := ∃ v L, e = .returned (.agg #[v]) ∧ RowE w.heap.size w.heap.size w' v L ∧ bdsE L = T ∧ Below w.heap.size w w'

set_option maxRecDepth 100000 in
set_option maxHeartbeats 16000000 in
theorem l7Make_any (l : List Lt) (w : World) (v : Value) (hv : LtS w v l) (hw : wtC l ≤ 1048576) :
    Calls Tryz.prog 92 #[v] w (MkEnd (makeL l) w) := by
  have hl6 : l.length ≤ 1048576 := Nat.le_trans (wtC_len l) hw
  have HWD := Lib.hid (fun (d : Lt) (hd : d ∈ l) => Nat.le_trans (wtC_tm hd) hw)
  obtain ⟨i0, hi, hz0, hz1, hz2⟩ := info_parts infoLt
  obtain ⟨a, c, rfl⟩ := hv.is_slice
  have HV := Lib.hid hv
  obtain ⟨w1, hw1⟩ : ∃ w1, w.alloc (.cells #[.slice none 0 0] 48) = w1 := ⟨_, rfl⟩
  have R1 : Hid (Oner w1 w.heap.size (.slice none 0 0)) := Lib.hid (by rw [← hw1]; exact oner_new w (.slice none 0 0) 48 _ rfl)
  have HB1 : Hid (Below w.heap.size w w1) := Lib.hid (by rw [← hw1]; exact (Below.refl _ _).alloc (Nat.le_refl _) _)
  have hz1w : w1.heap.size = w.heap.size + 1 := by rw [← hw1]; simp
  have HZ1 := Lib.hid hz1w
  obtain ⟨w2, hw2⟩ : ∃ w2, w1.alloc (.cells #[] 86) = w2 := ⟨_, rfl⟩
  have B2 : Hid (Below w1.heap.size w1 w2) := Lib.hid (by rw [← hw2]; exact (Below.refl _ _).alloc (Nat.le_refl _) _)
  have RE2 : Hid (RowE w1.heap.size w1.heap.size w2 (.slice (some ⟨w1.heap.size, 0, none⟩) 0 0) []) := Lib.hid ⟨by rw [← hw2]; exact World.ownsRow_made w1 #[] 0 (Nat.le_refl _) (by decide) (by simp), Ens.nil _ _, fun g _ e he => (by cases he)⟩
  have R2 := Lib.hid (R1.out.kept B2.out)
  have HB2 := Lib.hid (carry_below HB1.out (Nat.le_refl _) B2.out)
  clear hv hw hz1w
  go_enter Tryz.func92, Tryz.ntmps92
  go_wp2
  go_loopw [3, 4] (fun v3 i wr => ∃ (k : Nat) (L : List En) (g sc : Nat), k ≤ l.length ∧ i = .int .i64 k ∧ v3 = .slice (some ⟨g, 0, none⟩) L.length sc ∧ RowE w1.heap.size w1.heap.size wr (.slice (some ⟨g, 0, none⟩) L.length sc) L ∧ bdsE L = makeL (l.take k) ∧ w1.heap.size ≤ wr.heap.size ∧ Oner wr w.heap.size (.slice none 0 0) ∧ Below w.heap.size w wr) (fun _ i _ => l.length - (intOf i).toNat)
  case atStart => exact ⟨0, [], _, 0, Nat.zero_le _, rfl, rfl, RE2.out, by rw [makeL_nil]; rfl, B2.out.size, R2.out, HB2.out⟩
  case round =>
    clear hw1 hw2
    obtain ⟨k, L, g, sc, hk, rfl, rfl, hrow, hbds, hbase, hR, hbel⟩ := hrel
    have HROW := Lib.hid hrow
    have HBD := Lib.hid hbds
    have HR := Lib.hid hR
    have HB := Lib.hid hbel
    have HBS := Lib.hid hbase
    have hll : L.length ≤ 1048576 := by rw [← bdsE_len, hbds]; have := make_len (l.take k); have := List.length_take_le k l; omega
    have hcap : L.length ≤ sc := by
      rcases hrow.row.2 with ⟨e1, _⟩ | ⟨g', cap, cur, e1, hbg, hg, hnc, _⟩
      · cases e1
      · injection e1 with _ _ e4; subst e4; exact hnc
    clear hrow hbds hR hbel hbase
    obtain ⟨w3, hw3⟩ : ∃ x, x = wr := ⟨_, rfl⟩
    subst hw3
    by_cases hlt : k < l.length
    · obtain ⟨d, hd⟩ : ∃ d, l[k]? = some d := ⟨_, List.getElem?_eq_getElem hlt⟩
      obtain ⟨b, off, rfl, vb, c0, c1, c2, hvb⟩ := (HV.out.kept HB.out).get hd
      obtain ⟨pb, qb, rfl⟩ := hvb.is_slice
      have HVB := Lib.hid hvb
      have C0 := Lib.hid c0
      have C1 := Lib.hid c1
      have C2 := Lib.hid c2
      have hdw := HWD.out d (List.mem_of_getElem? hd)
      have HNX := Lib.hid (makeL_next hd)
      have HASC : Hid (Asc (bdsE L)) := Lib.hid (by rw [HBD.out]; exact asc_make _)
      have HAT : Hid (∀ j u, (enF L)[j]? = some u → w3.cell? ⟨g, j, none⟩ = some u) := Lib.hid (row_cell HROW.out.row)
      have HWE := Lib.hid (fun (e : En) (he : e ∈ L) => (show e.d.tm.wt ≤ 1048576 from HWD.out e.d (by have h1 : e.d ∈ bdsE L := List.mem_map_of_mem he; rw [HBD.out] at h1; exact List.mem_of_mem_take (make_mem h1))))
      have hi1 : (k : Int) < (l.length : Int) := by omega
      have hi0 : (0 : Int) ≤ (k : Int) := by omega
      clear hd hvb c0 c1 c2
      go_wp2
      go_loopw [5] (fun i wr => ∃ m : Nat, m ≤ L.length ∧ i = .int .i64 m ∧ (∀ t x, t < m → (bdsE L)[t]? = some x → ordLt x d < 0) ∧ Below w3.heap.size w3 wr) (fun i _ => L.length - (intOf i).toNat)
      case atStart => exact ⟨0, Nat.zero_le _, rfl, fun t x h => absurd h (Nat.not_lt_zero _), Below.refl _ _⟩
      case round =>
        obtain ⟨m, hm, rfl, hq, hbw⟩ := hrel
        have HQ := Lib.hid hq
        have HBI := Lib.hid hbw
        clear hq hbw
        by_cases hlm : m < L.length
        · obtain ⟨en, hen⟩ : ∃ e, L[m]? = some e := ⟨_, List.getElem?_eq_getElem hlm⟩
          obtain ⟨y0, y1, y2⟩ := enF_at hen
          obtain ⟨pe, qe, hve⟩ := (HROW.out.ens.own en (List.mem_of_getElem? hen)).read.is_slice
          have HVE := Lib.hid ((HROW.out.ens.own en (List.mem_of_getElem? hen)).read)
          rw [hve] at HVE y2
          have HE := Lib.hid (bdsE_at hen)
          have Y0 := Lib.hid (HAT.out _ _ y0)
          have Y1 := Lib.hid (HAT.out _ _ y1)
          have Y2 := Lib.hid (HAT.out _ _ y2)
          have hew := HWE.out en (List.mem_of_getElem? hen)
          obtain ⟨z, hz⟩ : ∃ z, z = ordLt en.d d := ⟨_, rfl⟩
          have HZ := Lib.hid hz
          have CL : Hid (∀ W : World, Below w3.heap.size w3 W → Calls Tryz.prog 81 #[.agg #[.bool en.d.var, .string en.d.tm.name, .slice pe en.d.tm.args.length qe], .agg #[.bool d.var, .string d.tm.name, .slice pb d.tm.args.length qb]] W (Ans (.int .i64 z) W)) := Lib.hid (fun W hW => by
            rw [hz]; exact l7Lit_any en.d d W _ _ (HVE.out.kept hW) (HVB.out.kept hW) hew hdw)
          have hn1 : decide ((m : Int) < (L.length : Int)) = true := by rw [decide_eq_true_iff]; omega
          have hn2 : (m : Int) < (L.length : Int) := by omega
          have hn3 : (0 : Int) ≤ (m : Int) := by omega
          have hB : Below w3.heap.size w3 wr.drew := HBI.out.drew
          have x0 := carry_cell C0.out hB
          have x1 := carry_cell C1.out hB
          have x2 := carry_cell C2.out hB
          have y0 := carry_cell Y0.out hB
          have y1 := carry_cell Y1.out hB
          have y2 := carry_cell Y2.out hB
          clear hen hve hz
          by_cases hzn : z < 0
          · have hzd : decide (z < 0) = true := by simpa using hzn
            have HN : Hid (∀ t x, t < m + 1 → (bdsE L)[t]? = some x → ordLt x d < 0) := Lib.hid (fun t x ht hx => by
              by_cases e : t = m
              · subst e; rw [HE.out] at hx; injection hx with hx; rw [← hx, ← HZ.out]; exact hzn
              · exact HQ.out t x (by omega) hx)
            go_wp2_with fail
            refine wp_region_held_drew (S := (fun w' => w'.cell? ⟨g, m * 3, none⟩ = some (.bool en.d.var) ∧ w'.cell? ⟨g, m * 3 + 1, none⟩ = some (.string en.d.tm.name) ∧ w'.cell? ⟨g, m * 3 + 2, none⟩ = some (.slice pe en.d.tm.args.length qe) ∧ w'.cell? ⟨b, off + k * 3, none⟩ = some (.bool d.var) ∧ w'.cell? ⟨b, off + k * 3 + 1, none⟩ = some (.string d.tm.name) ∧ w'.cell? ⟨b, off + k * 3 + 2, none⟩ = some (.slice pb d.tm.args.length qb) ∧ Below w3.heap.size w3 w')) (by kernel_rfl) (by first | exact ⟨by assumption, by assumption, by assumption, by assumption, by assumption, by assumption, by assumption⟩ | go_keep) (fun hHeld => ?_)
            refine takeYesI 0 (v := ?_) rfl (by kernel_rfl) (by kernel_rfl) (by kernel_rfl) (by rfl) (fun _ _ _ h => h) (by assumption) ?_ ?_; rotate_left; (intro w hSw; (try dsimp only at hSw); go_simp; try (with_reducible rfl))
            try simp only [Act.put, List.getElem_toArray, List.getElem_cons_zero, List.setIfInBounds_toArray, List.set_cons_zero, List.set_cons_succ]
            refine takeYesI 1 (v := ?_) rfl (by kernel_rfl) (by kernel_rfl) (by kernel_rfl) (by rfl) (fun _ _ _ h => h) (by assumption) ?_ ?_; rotate_left; (intro w hSw; (try dsimp only at hSw); go_simp; try (with_reducible rfl))
            try simp only [Act.put, List.getElem_toArray, List.getElem_cons_zero, List.getElem_cons_succ, List.setIfInBounds_toArray, List.set_cons_zero, List.set_cons_succ]
            refine takeYesI 2 (v := ?_) rfl (by kernel_rfl) (by kernel_rfl) (by kernel_rfl) (by rfl) (fun _ _ _ h => h) (by assumption) ?_ ?_; rotate_left; (intro w hSw; (try dsimp only at hSw); go_simp; try (with_reducible rfl))
            try simp only [Act.put, List.getElem_toArray, List.getElem_cons_zero, List.getElem_cons_succ, List.setIfInBounds_toArray, List.set_cons_zero, List.set_cons_succ]
            refine takeYesI 3 (v := ?_) rfl (by kernel_rfl) (by kernel_rfl) (by kernel_rfl) (by rfl) (fun _ _ _ h => h) (by assumption) ?_ ?_; rotate_left; (intro w hSw; (try dsimp only at hSw); go_simp; try (with_reducible rfl))
            try simp only [Act.put, List.getElem_toArray, List.getElem_cons_zero, List.getElem_cons_succ, List.setIfInBounds_toArray, List.set_cons_zero, List.set_cons_succ]
            refine takeYesI 4 (v := ?_) rfl (by kernel_rfl) (by kernel_rfl) (by kernel_rfl) (by rfl) (fun _ _ _ h => h) (by assumption) ?_ ?_; rotate_left; (intro w hSw; (try dsimp only at hSw); go_simp; try (with_reducible rfl))
            try simp only [Act.put, List.getElem_toArray, List.getElem_cons_zero, List.getElem_cons_succ, List.setIfInBounds_toArray, List.set_cons_zero, List.set_cons_succ]
            refine takeYesI 5 (v := ?_) rfl (by kernel_rfl) (by kernel_rfl) (by kernel_rfl) (by rfl) (fun _ _ _ h => h) (by assumption) ?_ ?_; rotate_left; (intro w hSw; (try dsimp only at hSw); go_simp; try (with_reducible rfl))
            try simp only [Act.put, List.getElem_toArray, List.getElem_cons_zero, List.getElem_cons_succ, List.setIfInBounds_toArray, List.set_cons_zero, List.set_cons_succ]
            refine takeYesI 6 (v := ?_) rfl (by kernel_rfl) (by kernel_rfl) (by kernel_rfl) (by rfl) (fun _ _ _ h => h) (by assumption) ?_ ?_; rotate_left; (intro w hSw; (try dsimp only at hSw); go_simp; try (with_reducible rfl))
            try simp only [Act.put, List.getElem_toArray, List.getElem_cons_zero, List.getElem_cons_succ, List.setIfInBounds_toArray, List.set_cons_zero, List.set_cons_succ]
            refine takeYesI 7 (v := ?_) rfl (by kernel_rfl) (by kernel_rfl) (by kernel_rfl) (by rfl) (fun _ _ _ h => h) (by assumption) ?_ ?_; rotate_left; (intro w hSw; (try dsimp only at hSw); go_simp; try (with_reducible rfl))
            try simp only [Act.put, List.getElem_toArray, List.getElem_cons_zero, List.getElem_cons_succ, List.setIfInBounds_toArray, List.set_cons_zero, List.set_cons_succ]
            refine takeYesI 8 (v := ?_) rfl (by kernel_rfl) (by kernel_rfl) (by kernel_rfl) (by rfl) (fun _ _ _ h => h) (by assumption) ?_ ?_; rotate_left; (intro w hSw; (try dsimp only at hSw); go_simp; try (with_reducible rfl))
            try simp only [Act.put, List.getElem_toArray, List.getElem_cons_zero, List.getElem_cons_succ, List.setIfInBounds_toArray, List.set_cons_zero, List.set_cons_succ]
            refine takeYesI 9 (v := ?_) rfl (by kernel_rfl) (by kernel_rfl) (by kernel_rfl) (by rfl) (fun _ _ _ h => h) (by assumption) ?_ ?_; rotate_left; (intro w hSw; (try dsimp only at hSw); go_simp; try (with_reducible rfl))
            try simp only [Act.put, List.getElem_toArray, List.getElem_cons_zero, List.getElem_cons_succ, List.setIfInBounds_toArray, List.set_cons_zero, List.set_cons_succ]
            refine takeYesI 10 (v := ?_) rfl (by kernel_rfl) (by kernel_rfl) (by kernel_rfl) (by rfl) (fun _ _ _ h => h) (by assumption) ?_ ?_; rotate_left; (intro w hSw; (try dsimp only at hSw); go_simp; try (with_reducible rfl))
            try simp only [Act.put, List.getElem_toArray, List.getElem_cons_zero, List.getElem_cons_succ, List.setIfInBounds_toArray, List.set_cons_zero, List.set_cons_succ]
            refine takeYesI 11 (v := ?_) rfl (by kernel_rfl) (by kernel_rfl) (by kernel_rfl) (by rfl) (fun _ _ _ h => h) (by assumption) ?_ ?_; rotate_left; (intro w hSw; (try dsimp only at hSw); go_simp; try (with_reducible rfl))
            try simp only [Act.put, List.getElem_toArray, List.getElem_cons_zero, List.getElem_cons_succ, List.setIfInBounds_toArray, List.set_cons_zero, List.set_cons_succ]
            refine takeYesI 12 (v := ?_) rfl (by kernel_rfl) (by kernel_rfl) (by kernel_rfl) (by rfl) (fun _ _ _ h => h) (by assumption) ?_ ?_; rotate_left; (intro w hSw; (try dsimp only at hSw); go_simp; try (with_reducible rfl))
            try simp only [Act.put, List.getElem_toArray, List.getElem_cons_zero, List.getElem_cons_succ, List.setIfInBounds_toArray, List.set_cons_zero, List.set_cons_succ]
            refine wpAnyH_ready (rs := [13]) (by kernel_rfl) (by simp) ?_
            refine AllReadyH.cons rfl (fun K hK => ?_) AllReadyH.nil
            go_simp
            (go_at_call 81; refine (CL.out _ (by assumption)).mono ?_; rintro e w6 ⟨rfl, hb⟩; have x0 := carry_cell' hb x0; have x1 := carry_cell' hb x1; have x2 := carry_cell' hb x2; have y0 := carry_cell' hb y0; have y1 := carry_cell' hb y1; have y2 := carry_cell' hb y2; have hB := carry_below hB (Nat.le_refl _) hb; clear hb; go_wp2_with fail)
            refine hK.out _ _ (by first | exact ⟨by assumption, by assumption, by assumption, by assumption, by assumption, by assumption, by assumption⟩ | go_keep) (fun hHeld => ?_)
            clear hK K
            try simp only [Act.put, List.getElem_toArray, List.getElem_cons_zero, List.getElem_cons_succ, List.setIfInBounds_toArray, List.set_cons_zero, List.set_cons_succ]
            refine takeYesI 14 (v := ?_) rfl (by kernel_rfl) (by kernel_rfl) (by kernel_rfl) (by rfl) (fun _ _ _ h => h) (by assumption) ?_ ?_; rotate_left; (intro w hSw; (try dsimp only at hSw); go_simp; try (with_reducible rfl))
            try simp only [Act.put, List.getElem_toArray, List.getElem_cons_zero, List.getElem_cons_succ, List.setIfInBounds_toArray, List.set_cons_zero, List.set_cons_succ]
            refine takeYesI 15 (v := ?_) rfl (by kernel_rfl) (by kernel_rfl) (by kernel_rfl) (by rfl) (fun _ _ _ h => h) (by assumption) ?_ ?_; rotate_left; (intro w hSw; (try dsimp only at hSw); go_simp; try (with_reducible rfl))
            try simp only [Act.put, List.getElem_toArray, List.getElem_cons_zero, List.getElem_cons_succ, List.setIfInBounds_toArray, List.set_cons_zero, List.set_cons_succ]
            refine wpAnyH_done (by kernel_rfl) ?_ _
            have HB6 := Lib.hid hB
            go_wp2
            go_roundw
            case rel => exact ⟨m + 1, by omega, by go_num, HN.out, HB6.out⟩
            case measure => simp [intOf]; omega
          · have hzd : decide (z < 0) = false := by simpa using hzn
            have HPL : Hid (Place (bdsE L) d m) := Lib.hid (place_here HASC.out HE.out (by rw [← HZ.out]; exact hzn) HQ.out)
            go_wp2_with fail
            refine wp_region_held_drew (S := (fun w' => w'.cell? ⟨g, m * 3, none⟩ = some (.bool en.d.var) ∧ w'.cell? ⟨g, m * 3 + 1, none⟩ = some (.string en.d.tm.name) ∧ w'.cell? ⟨g, m * 3 + 2, none⟩ = some (.slice pe en.d.tm.args.length qe) ∧ w'.cell? ⟨b, off + k * 3, none⟩ = some (.bool d.var) ∧ w'.cell? ⟨b, off + k * 3 + 1, none⟩ = some (.string d.tm.name) ∧ w'.cell? ⟨b, off + k * 3 + 2, none⟩ = some (.slice pb d.tm.args.length qb) ∧ Below w3.heap.size w3 w')) (by kernel_rfl) (by first | exact ⟨by assumption, by assumption, by assumption, by assumption, by assumption, by assumption, by assumption⟩ | go_keep) (fun hHeld => ?_)
            refine takeYesI 0 (v := ?_) rfl (by kernel_rfl) (by kernel_rfl) (by kernel_rfl) (by rfl) (fun _ _ _ h => h) (by assumption) ?_ ?_; rotate_left; (intro w hSw; (try dsimp only at hSw); go_simp; try (with_reducible rfl))
            try simp only [Act.put, List.getElem_toArray, List.getElem_cons_zero, List.setIfInBounds_toArray, List.set_cons_zero, List.set_cons_succ]
            refine takeYesI 1 (v := ?_) rfl (by kernel_rfl) (by kernel_rfl) (by kernel_rfl) (by rfl) (fun _ _ _ h => h) (by assumption) ?_ ?_; rotate_left; (intro w hSw; (try dsimp only at hSw); go_simp; try (with_reducible rfl))
            try simp only [Act.put, List.getElem_toArray, List.getElem_cons_zero, List.getElem_cons_succ, List.setIfInBounds_toArray, List.set_cons_zero, List.set_cons_succ]
            refine takeYesI 2 (v := ?_) rfl (by kernel_rfl) (by kernel_rfl) (by kernel_rfl) (by rfl) (fun _ _ _ h => h) (by assumption) ?_ ?_; rotate_left; (intro w hSw; (try dsimp only at hSw); go_simp; try (with_reducible rfl))
            try simp only [Act.put, List.getElem_toArray, List.getElem_cons_zero, List.getElem_cons_succ, List.setIfInBounds_toArray, List.set_cons_zero, List.set_cons_succ]
            refine takeYesI 3 (v := ?_) rfl (by kernel_rfl) (by kernel_rfl) (by kernel_rfl) (by rfl) (fun _ _ _ h => h) (by assumption) ?_ ?_; rotate_left; (intro w hSw; (try dsimp only at hSw); go_simp; try (with_reducible rfl))
            try simp only [Act.put, List.getElem_toArray, List.getElem_cons_zero, List.getElem_cons_succ, List.setIfInBounds_toArray, List.set_cons_zero, List.set_cons_succ]
            refine takeYesI 4 (v := ?_) rfl (by kernel_rfl) (by kernel_rfl) (by kernel_rfl) (by rfl) (fun _ _ _ h => h) (by assumption) ?_ ?_; rotate_left; (intro w hSw; (try dsimp only at hSw); go_simp; try (with_reducible rfl))
            try simp only [Act.put, List.getElem_toArray, List.getElem_cons_zero, List.getElem_cons_succ, List.setIfInBounds_toArray, List.set_cons_zero, List.set_cons_succ]
            refine takeYesI 5 (v := ?_) rfl (by kernel_rfl) (by kernel_rfl) (by kernel_rfl) (by rfl) (fun _ _ _ h => h) (by assumption) ?_ ?_; rotate_left; (intro w hSw; (try dsimp only at hSw); go_simp; try (with_reducible rfl))
            try simp only [Act.put, List.getElem_toArray, List.getElem_cons_zero, List.getElem_cons_succ, List.setIfInBounds_toArray, List.set_cons_zero, List.set_cons_succ]
            refine takeYesI 6 (v := ?_) rfl (by kernel_rfl) (by kernel_rfl) (by kernel_rfl) (by rfl) (fun _ _ _ h => h) (by assumption) ?_ ?_; rotate_left; (intro w hSw; (try dsimp only at hSw); go_simp; try (with_reducible rfl))
            try simp only [Act.put, List.getElem_toArray, List.getElem_cons_zero, List.getElem_cons_succ, List.setIfInBounds_toArray, List.set_cons_zero, List.set_cons_succ]
            refine takeYesI 7 (v := ?_) rfl (by kernel_rfl) (by kernel_rfl) (by kernel_rfl) (by rfl) (fun _ _ _ h => h) (by assumption) ?_ ?_; rotate_left; (intro w hSw; (try dsimp only at hSw); go_simp; try (with_reducible rfl))
            try simp only [Act.put, List.getElem_toArray, List.getElem_cons_zero, List.getElem_cons_succ, List.setIfInBounds_toArray, List.set_cons_zero, List.set_cons_succ]
            refine takeYesI 8 (v := ?_) rfl (by kernel_rfl) (by kernel_rfl) (by kernel_rfl) (by rfl) (fun _ _ _ h => h) (by assumption) ?_ ?_; rotate_left; (intro w hSw; (try dsimp only at hSw); go_simp; try (with_reducible rfl))
            try simp only [Act.put, List.getElem_toArray, List.getElem_cons_zero, List.getElem_cons_succ, List.setIfInBounds_toArray, List.set_cons_zero, List.set_cons_succ]
            refine takeYesI 9 (v := ?_) rfl (by kernel_rfl) (by kernel_rfl) (by kernel_rfl) (by rfl) (fun _ _ _ h => h) (by assumption) ?_ ?_; rotate_left; (intro w hSw; (try dsimp only at hSw); go_simp; try (with_reducible rfl))
            try simp only [Act.put, List.getElem_toArray, List.getElem_cons_zero, List.getElem_cons_succ, List.setIfInBounds_toArray, List.set_cons_zero, List.set_cons_succ]
            refine takeYesI 10 (v := ?_) rfl (by kernel_rfl) (by kernel_rfl) (by kernel_rfl) (by rfl) (fun _ _ _ h => h) (by assumption) ?_ ?_; rotate_left; (intro w hSw; (try dsimp only at hSw); go_simp; try (with_reducible rfl))
            try simp only [Act.put, List.getElem_toArray, List.getElem_cons_zero, List.getElem_cons_succ, List.setIfInBounds_toArray, List.set_cons_zero, List.set_cons_succ]
            refine takeYesI 11 (v := ?_) rfl (by kernel_rfl) (by kernel_rfl) (by kernel_rfl) (by rfl) (fun _ _ _ h => h) (by assumption) ?_ ?_; rotate_left; (intro w hSw; (try dsimp only at hSw); go_simp; try (with_reducible rfl))
            try simp only [Act.put, List.getElem_toArray, List.getElem_cons_zero, List.getElem_cons_succ, List.setIfInBounds_toArray, List.set_cons_zero, List.set_cons_succ]
            refine takeYesI 12 (v := ?_) rfl (by kernel_rfl) (by kernel_rfl) (by kernel_rfl) (by rfl) (fun _ _ _ h => h) (by assumption) ?_ ?_; rotate_left; (intro w hSw; (try dsimp only at hSw); go_simp; try (with_reducible rfl))
            try simp only [Act.put, List.getElem_toArray, List.getElem_cons_zero, List.getElem_cons_succ, List.setIfInBounds_toArray, List.set_cons_zero, List.set_cons_succ]
            refine wpAnyH_ready (rs := [13]) (by kernel_rfl) (by simp) ?_
            refine AllReadyH.cons rfl (fun K hK => ?_) AllReadyH.nil
            go_simp
            (go_at_call 81; refine (CL.out _ (by assumption)).mono ?_; rintro e w6 ⟨rfl, hb⟩; have x0 := carry_cell' hb x0; have x1 := carry_cell' hb x1; have x2 := carry_cell' hb x2; have y0 := carry_cell' hb y0; have y1 := carry_cell' hb y1; have y2 := carry_cell' hb y2; have hB := carry_below hB (Nat.le_refl _) hb; clear hb; go_wp2_with fail)
            refine hK.out _ _ (by first | exact ⟨by assumption, by assumption, by assumption, by assumption, by assumption, by assumption, by assumption⟩ | go_keep) (fun hHeld => ?_)
            clear hK K
            try simp only [Act.put, List.getElem_toArray, List.getElem_cons_zero, List.getElem_cons_succ, List.setIfInBounds_toArray, List.set_cons_zero, List.set_cons_succ]
            refine takeYesI 14 (v := ?_) rfl (by kernel_rfl) (by kernel_rfl) (by kernel_rfl) (by rfl) (fun _ _ _ h => h) (by assumption) ?_ ?_; rotate_left; (intro w hSw; (try dsimp only at hSw); go_simp; try (with_reducible rfl))
            try simp only [Act.put, List.getElem_toArray, List.getElem_cons_zero, List.getElem_cons_succ, List.setIfInBounds_toArray, List.set_cons_zero, List.set_cons_succ]
            refine takeYesI 15 (v := ?_) rfl (by kernel_rfl) (by kernel_rfl) (by kernel_rfl) (by rfl) (fun _ _ _ h => h) (by assumption) ?_ ?_; rotate_left; (intro w hSw; (try dsimp only at hSw); go_simp; try (with_reducible rfl))
            try simp only [Act.put, List.getElem_toArray, List.getElem_cons_zero, List.getElem_cons_succ, List.setIfInBounds_toArray, List.set_cons_zero, List.set_cons_succ]
            refine wpAnyH_done (by kernel_rfl) ?_ _
            go_wp2_with fail
            have hB := hB.drew
            have x0 := carry_cell C0.out hB
            have x1 := carry_cell C1.out hB
            have x2 := carry_cell C2.out hB
            have y0 := carry_cell Y0.out hB
            have y1 := carry_cell Y1.out hB
            have y2 := carry_cell Y2.out hB
            by_cases hze : z = 0
            · have hzq : (z == 0) = true := by rw [hze]; rfl
              have HN : Hid (bdsE L = makeL (l.take (k + 1))) := Lib.hid (by rw [HNX.out, ← HBD.out, put_hit HPL.out (by rw [hitL_at HE.out, ← HZ.out, hze]; rfl)])
              clear hze
              refine wp_region_held_drew (S := (fun w' => w'.cell? ⟨g, m * 3, none⟩ = some (.bool en.d.var) ∧ w'.cell? ⟨g, m * 3 + 1, none⟩ = some (.string en.d.tm.name) ∧ w'.cell? ⟨g, m * 3 + 2, none⟩ = some (.slice pe en.d.tm.args.length qe) ∧ w'.cell? ⟨b, off + k * 3, none⟩ = some (.bool d.var) ∧ w'.cell? ⟨b, off + k * 3 + 1, none⟩ = some (.string d.tm.name) ∧ w'.cell? ⟨b, off + k * 3 + 2, none⟩ = some (.slice pb d.tm.args.length qb) ∧ Below w3.heap.size w3 w')) (by kernel_rfl) (by first | exact ⟨by assumption, by assumption, by assumption, by assumption, by assumption, by assumption, by assumption⟩ | go_keep) (fun hHeld => ?_)
              refine takeYesI 0 (v := ?_) rfl (by kernel_rfl) (by kernel_rfl) (by kernel_rfl) (by rfl) (fun _ _ _ h => h) (by assumption) ?_ ?_; rotate_left; (intro w hSw; (try dsimp only at hSw); go_simp; try (with_reducible rfl))
              try simp only [Act.put, List.getElem_toArray, List.getElem_cons_zero, List.setIfInBounds_toArray, List.set_cons_zero, List.set_cons_succ]
              refine takeYesI 1 (v := ?_) rfl (by kernel_rfl) (by kernel_rfl) (by kernel_rfl) (by rfl) (fun _ _ _ h => h) (by assumption) ?_ ?_; rotate_left; (intro w hSw; (try dsimp only at hSw); go_simp; try (with_reducible rfl))
              try simp only [Act.put, List.getElem_toArray, List.getElem_cons_zero, List.getElem_cons_succ, List.setIfInBounds_toArray, List.set_cons_zero, List.set_cons_succ]
              refine takeYesI 2 (v := ?_) rfl (by kernel_rfl) (by kernel_rfl) (by kernel_rfl) (by rfl) (fun _ _ _ h => h) (by assumption) ?_ ?_; rotate_left; (intro w hSw; (try dsimp only at hSw); go_simp; try (with_reducible rfl))
              try simp only [Act.put, List.getElem_toArray, List.getElem_cons_zero, List.getElem_cons_succ, List.setIfInBounds_toArray, List.set_cons_zero, List.set_cons_succ]
              refine takeYesI 3 (v := ?_) rfl (by kernel_rfl) (by kernel_rfl) (by kernel_rfl) (by rfl) (fun _ _ _ h => h) (by assumption) ?_ ?_; rotate_left; (intro w hSw; (try dsimp only at hSw); go_simp; try (with_reducible rfl))
              try simp only [Act.put, List.getElem_toArray, List.getElem_cons_zero, List.getElem_cons_succ, List.setIfInBounds_toArray, List.set_cons_zero, List.set_cons_succ]
              refine takeYesI 4 (v := ?_) rfl (by kernel_rfl) (by kernel_rfl) (by kernel_rfl) (by rfl) (fun _ _ _ h => h) (by assumption) ?_ ?_; rotate_left; (intro w hSw; (try dsimp only at hSw); go_simp; try (with_reducible rfl))
              try simp only [Act.put, List.getElem_toArray, List.getElem_cons_zero, List.getElem_cons_succ, List.setIfInBounds_toArray, List.set_cons_zero, List.set_cons_succ]
              refine takeYesI 5 (v := ?_) rfl (by kernel_rfl) (by kernel_rfl) (by kernel_rfl) (by rfl) (fun _ _ _ h => h) (by assumption) ?_ ?_; rotate_left; (intro w hSw; (try dsimp only at hSw); go_simp; try (with_reducible rfl))
              try simp only [Act.put, List.getElem_toArray, List.getElem_cons_zero, List.getElem_cons_succ, List.setIfInBounds_toArray, List.set_cons_zero, List.set_cons_succ]
              refine takeYesI 6 (v := ?_) rfl (by kernel_rfl) (by kernel_rfl) (by kernel_rfl) (by rfl) (fun _ _ _ h => h) (by assumption) ?_ ?_; rotate_left; (intro w hSw; (try dsimp only at hSw); go_simp; try (with_reducible rfl))
              try simp only [Act.put, List.getElem_toArray, List.getElem_cons_zero, List.getElem_cons_succ, List.setIfInBounds_toArray, List.set_cons_zero, List.set_cons_succ]
              refine takeYesI 7 (v := ?_) rfl (by kernel_rfl) (by kernel_rfl) (by kernel_rfl) (by rfl) (fun _ _ _ h => h) (by assumption) ?_ ?_; rotate_left; (intro w hSw; (try dsimp only at hSw); go_simp; try (with_reducible rfl))
              try simp only [Act.put, List.getElem_toArray, List.getElem_cons_zero, List.getElem_cons_succ, List.setIfInBounds_toArray, List.set_cons_zero, List.set_cons_succ]
              refine takeYesI 8 (v := ?_) rfl (by kernel_rfl) (by kernel_rfl) (by kernel_rfl) (by rfl) (fun _ _ _ h => h) (by assumption) ?_ ?_; rotate_left; (intro w hSw; (try dsimp only at hSw); go_simp; try (with_reducible rfl))
              try simp only [Act.put, List.getElem_toArray, List.getElem_cons_zero, List.getElem_cons_succ, List.setIfInBounds_toArray, List.set_cons_zero, List.set_cons_succ]
              refine takeYesI 9 (v := ?_) rfl (by kernel_rfl) (by kernel_rfl) (by kernel_rfl) (by rfl) (fun _ _ _ h => h) (by assumption) ?_ ?_; rotate_left; (intro w hSw; (try dsimp only at hSw); go_simp; try (with_reducible rfl))
              try simp only [Act.put, List.getElem_toArray, List.getElem_cons_zero, List.getElem_cons_succ, List.setIfInBounds_toArray, List.set_cons_zero, List.set_cons_succ]
              refine takeYesI 10 (v := ?_) rfl (by kernel_rfl) (by kernel_rfl) (by kernel_rfl) (by rfl) (fun _ _ _ h => h) (by assumption) ?_ ?_; rotate_left; (intro w hSw; (try dsimp only at hSw); go_simp; try (with_reducible rfl))
              try simp only [Act.put, List.getElem_toArray, List.getElem_cons_zero, List.getElem_cons_succ, List.setIfInBounds_toArray, List.set_cons_zero, List.set_cons_succ]
              refine takeYesI 11 (v := ?_) rfl (by kernel_rfl) (by kernel_rfl) (by kernel_rfl) (by rfl) (fun _ _ _ h => h) (by assumption) ?_ ?_; rotate_left; (intro w hSw; (try dsimp only at hSw); go_simp; try (with_reducible rfl))
              try simp only [Act.put, List.getElem_toArray, List.getElem_cons_zero, List.getElem_cons_succ, List.setIfInBounds_toArray, List.set_cons_zero, List.set_cons_succ]
              refine takeYesI 12 (v := ?_) rfl (by kernel_rfl) (by kernel_rfl) (by kernel_rfl) (by rfl) (fun _ _ _ h => h) (by assumption) ?_ ?_; rotate_left; (intro w hSw; (try dsimp only at hSw); go_simp; try (with_reducible rfl))
              try simp only [Act.put, List.getElem_toArray, List.getElem_cons_zero, List.getElem_cons_succ, List.setIfInBounds_toArray, List.set_cons_zero, List.set_cons_succ]
              refine wpAnyH_ready (rs := [13]) (by kernel_rfl) (by simp) ?_
              refine AllReadyH.cons rfl (fun K hK => ?_) AllReadyH.nil
              go_simp
              (go_at_call 81; refine (CL.out _ (by assumption)).mono ?_; rintro e w8 ⟨rfl, hb⟩; have x0 := carry_cell' hb x0; have x1 := carry_cell' hb x1; have x2 := carry_cell' hb x2; have y0 := carry_cell' hb y0; have y1 := carry_cell' hb y1; have y2 := carry_cell' hb y2; have hB := carry_below hB (Nat.le_refl _) hb; clear hb; go_wp2_with fail)
              refine hK.out _ _ (by first | exact ⟨by assumption, by assumption, by assumption, by assumption, by assumption, by assumption, by assumption⟩ | go_keep) (fun hHeld => ?_)
              clear hK K
              try simp only [Act.put, List.getElem_toArray, List.getElem_cons_zero, List.getElem_cons_succ, List.setIfInBounds_toArray, List.set_cons_zero, List.set_cons_succ]
              refine takeYesI 14 (v := ?_) rfl (by kernel_rfl) (by kernel_rfl) (by kernel_rfl) (by rfl) (fun _ _ _ h => h) (by assumption) ?_ ?_; rotate_left; (intro w hSw; (try dsimp only at hSw); go_simp; try (with_reducible rfl))
              try simp only [Act.put, List.getElem_toArray, List.getElem_cons_zero, List.getElem_cons_succ, List.setIfInBounds_toArray, List.set_cons_zero, List.set_cons_succ]
              refine takeYesI 15 (v := ?_) rfl (by kernel_rfl) (by kernel_rfl) (by kernel_rfl) (by rfl) (fun _ _ _ h => h) (by assumption) ?_ ?_; rotate_left; (intro w hSw; (try dsimp only at hSw); go_simp; try (with_reducible rfl))
              try simp only [Act.put, List.getElem_toArray, List.getElem_cons_zero, List.getElem_cons_succ, List.setIfInBounds_toArray, List.set_cons_zero, List.set_cons_succ]
              refine wpAnyH_done (by kernel_rfl) ?_ _
              have HB8 := Lib.hid hB
              go_wp2
              go_roundw
              case rel => exact ⟨k + 1, L, g, sc, by omega, by go_num, rfl, HROW.out.kept HB8.out, HN.out, Nat.le_trans HBS.out HB8.out.size, HR.out.kept HB8.out, carry_below HB.out (Nat.le_refl _) HB8.out⟩
              case measure => simp [intOf]; omega
            · have hzq : (z == 0) = false := by rw [beq_eq_false_iff_ne]; exact hze
              have HN : Hid (makeL (l.take (k + 1)) = (bdsE L).take m ++ d :: (bdsE L).drop m) := Lib.hid (by rw [HNX.out, ← HBD.out, put_new HPL.out (by rw [hitL_at HE.out, ← HZ.out]; exact decide_eq_false hze)])
              clear hze
              refine wp_region_held_drew (S := (fun w' => w'.cell? ⟨g, m * 3, none⟩ = some (.bool en.d.var) ∧ w'.cell? ⟨g, m * 3 + 1, none⟩ = some (.string en.d.tm.name) ∧ w'.cell? ⟨g, m * 3 + 2, none⟩ = some (.slice pe en.d.tm.args.length qe) ∧ w'.cell? ⟨b, off + k * 3, none⟩ = some (.bool d.var) ∧ w'.cell? ⟨b, off + k * 3 + 1, none⟩ = some (.string d.tm.name) ∧ w'.cell? ⟨b, off + k * 3 + 2, none⟩ = some (.slice pb d.tm.args.length qb) ∧ Below w3.heap.size w3 w')) (by kernel_rfl) (by first | exact ⟨by assumption, by assumption, by assumption, by assumption, by assumption, by assumption, by assumption⟩ | go_keep) (fun hHeld => ?_)
              refine takeYesI 0 (v := ?_) rfl (by kernel_rfl) (by kernel_rfl) (by kernel_rfl) (by rfl) (fun _ _ _ h => h) (by assumption) ?_ ?_; rotate_left; (intro w hSw; (try dsimp only at hSw); go_simp; try (with_reducible rfl))
              try simp only [Act.put, List.getElem_toArray, List.getElem_cons_zero, List.setIfInBounds_toArray, List.set_cons_zero, List.set_cons_succ]
              refine takeYesI 1 (v := ?_) rfl (by kernel_rfl) (by kernel_rfl) (by kernel_rfl) (by rfl) (fun _ _ _ h => h) (by assumption) ?_ ?_; rotate_left; (intro w hSw; (try dsimp only at hSw); go_simp; try (with_reducible rfl))
              try simp only [Act.put, List.getElem_toArray, List.getElem_cons_zero, List.getElem_cons_succ, List.setIfInBounds_toArray, List.set_cons_zero, List.set_cons_succ]
              refine takeYesI 2 (v := ?_) rfl (by kernel_rfl) (by kernel_rfl) (by kernel_rfl) (by rfl) (fun _ _ _ h => h) (by assumption) ?_ ?_; rotate_left; (intro w hSw; (try dsimp only at hSw); go_simp; try (with_reducible rfl))
              try simp only [Act.put, List.getElem_toArray, List.getElem_cons_zero, List.getElem_cons_succ, List.setIfInBounds_toArray, List.set_cons_zero, List.set_cons_succ]
              refine takeYesI 3 (v := ?_) rfl (by kernel_rfl) (by kernel_rfl) (by kernel_rfl) (by rfl) (fun _ _ _ h => h) (by assumption) ?_ ?_; rotate_left; (intro w hSw; (try dsimp only at hSw); go_simp; try (with_reducible rfl))
              try simp only [Act.put, List.getElem_toArray, List.getElem_cons_zero, List.getElem_cons_succ, List.setIfInBounds_toArray, List.set_cons_zero, List.set_cons_succ]
              refine takeYesI 4 (v := ?_) rfl (by kernel_rfl) (by kernel_rfl) (by kernel_rfl) (by rfl) (fun _ _ _ h => h) (by assumption) ?_ ?_; rotate_left; (intro w hSw; (try dsimp only at hSw); go_simp; try (with_reducible rfl))
              try simp only [Act.put, List.getElem_toArray, List.getElem_cons_zero, List.getElem_cons_succ, List.setIfInBounds_toArray, List.set_cons_zero, List.set_cons_succ]
              refine takeYesI 5 (v := ?_) rfl (by kernel_rfl) (by kernel_rfl) (by kernel_rfl) (by rfl) (fun _ _ _ h => h) (by assumption) ?_ ?_; rotate_left; (intro w hSw; (try dsimp only at hSw); go_simp; try (with_reducible rfl))
              try simp only [Act.put, List.getElem_toArray, List.getElem_cons_zero, List.getElem_cons_succ, List.setIfInBounds_toArray, List.set_cons_zero, List.set_cons_succ]
              refine takeYesI 6 (v := ?_) rfl (by kernel_rfl) (by kernel_rfl) (by kernel_rfl) (by rfl) (fun _ _ _ h => h) (by assumption) ?_ ?_; rotate_left; (intro w hSw; (try dsimp only at hSw); go_simp; try (with_reducible rfl))
              try simp only [Act.put, List.getElem_toArray, List.getElem_cons_zero, List.getElem_cons_succ, List.setIfInBounds_toArray, List.set_cons_zero, List.set_cons_succ]
              refine takeYesI 7 (v := ?_) rfl (by kernel_rfl) (by kernel_rfl) (by kernel_rfl) (by rfl) (fun _ _ _ h => h) (by assumption) ?_ ?_; rotate_left; (intro w hSw; (try dsimp only at hSw); go_simp; try (with_reducible rfl))
              try simp only [Act.put, List.getElem_toArray, List.getElem_cons_zero, List.getElem_cons_succ, List.setIfInBounds_toArray, List.set_cons_zero, List.set_cons_succ]
              refine takeYesI 8 (v := ?_) rfl (by kernel_rfl) (by kernel_rfl) (by kernel_rfl) (by rfl) (fun _ _ _ h => h) (by assumption) ?_ ?_; rotate_left; (intro w hSw; (try dsimp only at hSw); go_simp; try (with_reducible rfl))
              try simp only [Act.put, List.getElem_toArray, List.getElem_cons_zero, List.getElem_cons_succ, List.setIfInBounds_toArray, List.set_cons_zero, List.set_cons_succ]
              refine takeYesI 9 (v := ?_) rfl (by kernel_rfl) (by kernel_rfl) (by kernel_rfl) (by rfl) (fun _ _ _ h => h) (by assumption) ?_ ?_; rotate_left; (intro w hSw; (try dsimp only at hSw); go_simp; try (with_reducible rfl))
              try simp only [Act.put, List.getElem_toArray, List.getElem_cons_zero, List.getElem_cons_succ, List.setIfInBounds_toArray, List.set_cons_zero, List.set_cons_succ]
              refine takeYesI 10 (v := ?_) rfl (by kernel_rfl) (by kernel_rfl) (by kernel_rfl) (by rfl) (fun _ _ _ h => h) (by assumption) ?_ ?_; rotate_left; (intro w hSw; (try dsimp only at hSw); go_simp; try (with_reducible rfl))
              try simp only [Act.put, List.getElem_toArray, List.getElem_cons_zero, List.getElem_cons_succ, List.setIfInBounds_toArray, List.set_cons_zero, List.set_cons_succ]
              refine takeYesI 11 (v := ?_) rfl (by kernel_rfl) (by kernel_rfl) (by kernel_rfl) (by rfl) (fun _ _ _ h => h) (by assumption) ?_ ?_; rotate_left; (intro w hSw; (try dsimp only at hSw); go_simp; try (with_reducible rfl))
              try simp only [Act.put, List.getElem_toArray, List.getElem_cons_zero, List.getElem_cons_succ, List.setIfInBounds_toArray, List.set_cons_zero, List.set_cons_succ]
              refine takeYesI 12 (v := ?_) rfl (by kernel_rfl) (by kernel_rfl) (by kernel_rfl) (by rfl) (fun _ _ _ h => h) (by assumption) ?_ ?_; rotate_left; (intro w hSw; (try dsimp only at hSw); go_simp; try (with_reducible rfl))
              try simp only [Act.put, List.getElem_toArray, List.getElem_cons_zero, List.getElem_cons_succ, List.setIfInBounds_toArray, List.set_cons_zero, List.set_cons_succ]
              refine wpAnyH_ready (rs := [13]) (by kernel_rfl) (by simp) ?_
              refine AllReadyH.cons rfl (fun K hK => ?_) AllReadyH.nil
              go_simp
              (go_at_call 81; refine (CL.out _ (by assumption)).mono ?_; rintro e w8 ⟨rfl, hb⟩; have x0 := carry_cell' hb x0; have x1 := carry_cell' hb x1; have x2 := carry_cell' hb x2; have y0 := carry_cell' hb y0; have y1 := carry_cell' hb y1; have y2 := carry_cell' hb y2; have hB := carry_below hB (Nat.le_refl _) hb; clear hb; go_wp2_with fail)
              refine hK.out _ _ (by first | exact ⟨by assumption, by assumption, by assumption, by assumption, by assumption, by assumption, by assumption⟩ | go_keep) (fun hHeld => ?_)
              clear hK K
              try simp only [Act.put, List.getElem_toArray, List.getElem_cons_zero, List.getElem_cons_succ, List.setIfInBounds_toArray, List.set_cons_zero, List.set_cons_succ]
              refine takeYesI 14 (v := ?_) rfl (by kernel_rfl) (by kernel_rfl) (by kernel_rfl) (by rfl) (fun _ _ _ h => h) (by assumption) ?_ ?_; rotate_left; (intro w hSw; (try dsimp only at hSw); go_simp; try (with_reducible rfl))
              try simp only [Act.put, List.getElem_toArray, List.getElem_cons_zero, List.getElem_cons_succ, List.setIfInBounds_toArray, List.set_cons_zero, List.set_cons_succ]
              refine takeYesI 15 (v := ?_) rfl (by kernel_rfl) (by kernel_rfl) (by kernel_rfl) (by rfl) (fun _ _ _ h => h) (by assumption) ?_ ?_; rotate_left; (intro w hSw; (try dsimp only at hSw); go_simp; try (with_reducible rfl))
              try simp only [Act.put, List.getElem_toArray, List.getElem_cons_zero, List.getElem_cons_succ, List.setIfInBounds_toArray, List.set_cons_zero, List.set_cons_succ]
              refine wpAnyH_done (by kernel_rfl) ?_ _
              obtain ⟨w9, hw9⟩ : ∃ x, x = w8 := ⟨_, rfl⟩
              rw [← hw9] at hB ⊢
              clear hw9 x0 x1 x2 y0 y1 y2
              have HB9 := Lib.hid hB
              clear hB
              have hbs := HBS.out
              have hz9 : w3.heap.size ≤ w9.heap.size := HB9.out.size
              have D0 := Lib.hid (carry_cell C0.out HB9.out)
              have D1 := Lib.hid (carry_cell C1.out HB9.out)
              have D2 := Lib.hid (carry_cell C2.out HB9.out)
              have CO : Hid (∀ W : World, Below w9.heap.size w9 W → Calls Tryz.prog 82 #[.agg #[.string d.tm.name, .slice pb d.tm.args.length qb]] W (ToEnd d.tm W)) := Lib.hid (fun W hW => l2Own_any d.tm W _ ((HVB.out.kept HB9.out).kept hW) hdw)
              go_upto_region 9 with fail
              go_cut [6] from 48 to 59 (fun p wx => ∃ (xb : Nat) (p8 : Option Addr) (c8 : Nat), p = .pointer (some ⟨xb, 0, none⟩) ∧ wx.cell? ⟨xb, 0, none⟩ = some (.bool d.var) ∧ wx.cell? ⟨xb, 1, none⟩ = some (.string d.tm.name) ∧ wx.cell? ⟨xb, 2, none⟩ = some (.slice p8 d.tm.args.length c8) ∧ TmO wx (fun q => w9.heap.size ≤ q ∧ q < wx.heap.size ∧ q ≠ xb) (.slice p8 d.tm.args.length c8) d.tm.args ∧ w9.heap.size ≤ xb ∧ Below w9.heap.size w9 wx)
              case first =>
                have hB0 : Below w9.heap.size w9 w9.drew := (Below.refl _ _).drew
                have d0 := carry_cell D0.out hB0
                have d1 := carry_cell D1.out hB0
                have d2 := carry_cell D2.out hB0
                refine sink_start 13 (fun w' => w'.cell? ⟨b, off + k * 3, none⟩ = some (.bool d.var) ∧ w'.cell? ⟨b, off + k * 3 + 1, none⟩ = some (.string d.tm.name) ∧ w'.cell? ⟨b, off + k * 3 + 2, none⟩ = some (.slice pb d.tm.args.length qb)) (by kernel_rfl) (by exact ⟨by first | assumption | exact carry_cell' ((Below.refl _ _).alloc (Nat.le_refl _) _) (by assumption), by first | assumption | exact carry_cell' ((Below.refl _ _).alloc (Nat.le_refl _) _) (by assumption), by first | assumption | exact carry_cell' ((Below.refl _ _).alloc (Nat.le_refl _) _) (by assumption)⟩) (fun hHeld => ?_)
                refine sink_take 0 (v := ?_) rfl (by kernel_rfl) (by kernel_rfl) (by kernel_rfl) (by kernel_rfl) (by rfl) (fun _ _ _ h => h) (by assumption) ?_ ?_; rotate_left; (intro w hSw; (try dsimp only at hSw); go_simp; try (with_reducible rfl))
                try simp only [Act.put, List.getElem_toArray, List.getElem_cons_zero, List.getElem_cons_succ, List.setIfInBounds_toArray, List.set_cons_zero, List.set_cons_succ]
                refine sink_take 1 (v := ?_) rfl (by kernel_rfl) (by kernel_rfl) (by kernel_rfl) (by kernel_rfl) (by rfl) (fun _ _ _ h => h) (by assumption) ?_ ?_; rotate_left; (intro w hSw; (try dsimp only at hSw); go_simp; try (with_reducible rfl))
                try simp only [Act.put, List.getElem_toArray, List.getElem_cons_zero, List.getElem_cons_succ, List.setIfInBounds_toArray, List.set_cons_zero, List.set_cons_succ]
                refine sink_take 2 (v := ?_) rfl (by kernel_rfl) (by kernel_rfl) (by kernel_rfl) (by kernel_rfl) (by rfl) (fun _ _ _ h => h) (by assumption) ?_ ?_; rotate_left; (intro w hSw; (try dsimp only at hSw); go_simp; try (with_reducible rfl))
                try simp only [Act.put, List.getElem_toArray, List.getElem_cons_zero, List.getElem_cons_succ, List.setIfInBounds_toArray, List.set_cons_zero, List.set_cons_succ]
                refine sink_take 3 (v := ?_) rfl (by kernel_rfl) (by kernel_rfl) (by kernel_rfl) (by kernel_rfl) (by rfl) (fun _ _ _ h => h) (by assumption) ?_ ?_; rotate_left; (intro w hSw; (try dsimp only at hSw); go_simp; try (with_reducible rfl))
                try simp only [Act.put, List.getElem_toArray, List.getElem_cons_zero, List.getElem_cons_succ, List.setIfInBounds_toArray, List.set_cons_zero, List.set_cons_succ]
                refine sink_take 4 (v := ?_) rfl (by kernel_rfl) (by kernel_rfl) (by kernel_rfl) (by kernel_rfl) (by rfl) (fun _ _ _ h => h) (by assumption) ?_ ?_; rotate_left; (intro w hSw; (try dsimp only at hSw); go_simp; try (with_reducible rfl))
                try simp only [Act.put, List.getElem_toArray, List.getElem_cons_zero, List.getElem_cons_succ, List.setIfInBounds_toArray, List.set_cons_zero, List.set_cons_succ]
                refine sink_take 5 (v := ?_) rfl (by kernel_rfl) (by kernel_rfl) (by kernel_rfl) (by kernel_rfl) (by rfl) (fun _ _ _ h => h) (by assumption) ?_ ?_; rotate_left; (intro w hSw; (try dsimp only at hSw); go_simp; try (with_reducible rfl))
                try simp only [Act.put, List.getElem_toArray, List.getElem_cons_zero, List.getElem_cons_succ, List.setIfInBounds_toArray, List.set_cons_zero, List.set_cons_succ]
                refine sink_take 6 (v := ?_) rfl (by kernel_rfl) (by kernel_rfl) (by kernel_rfl) (by kernel_rfl) (by rfl) (fun _ _ _ h => h) (by assumption) ?_ ?_; rotate_left; (intro w hSw; (try dsimp only at hSw); go_simp; try (with_reducible rfl))
                try simp only [Act.put, List.getElem_toArray, List.getElem_cons_zero, List.getElem_cons_succ, List.setIfInBounds_toArray, List.set_cons_zero, List.set_cons_succ]
                refine sink_take 7 (v := ?_) rfl (by kernel_rfl) (by kernel_rfl) (by kernel_rfl) (by kernel_rfl) (by rfl) (fun _ _ _ h => h) (by assumption) ?_ ?_; rotate_left; (intro w hSw; (try dsimp only at hSw); go_simp; try (with_reducible rfl))
                try simp only [Act.put, List.getElem_toArray, List.getElem_cons_zero, List.getElem_cons_succ, List.setIfInBounds_toArray, List.set_cons_zero, List.set_cons_succ]
                refine sink_take 8 (v := ?_) rfl (by kernel_rfl) (by kernel_rfl) (by kernel_rfl) (by kernel_rfl) (by rfl) (fun _ _ _ h => h) (by assumption) ?_ ?_; rotate_left; (intro w hSw; (try dsimp only at hSw); go_simp; try (with_reducible rfl))
                try simp only [Act.put, List.getElem_toArray, List.getElem_cons_zero, List.getElem_cons_succ, List.setIfInBounds_toArray, List.set_cons_zero, List.set_cons_succ]
                refine sink_take 9 (v := ?_) rfl (by kernel_rfl) (by kernel_rfl) (by kernel_rfl) (by kernel_rfl) (by rfl) (fun _ _ _ h => h) (by assumption) ?_ ?_; rotate_left; (intro w hSw; (try dsimp only at hSw); go_simp; try (with_reducible rfl))
                try simp only [Act.put, List.getElem_toArray, List.getElem_cons_zero, List.getElem_cons_succ, List.setIfInBounds_toArray, List.set_cons_zero, List.set_cons_succ]
                refine sink_two (i := 10) (j := 12) (by kernel_rfl) rfl rfl (fun K hK => ?_) (fun K hK => ?_)
                · go_simp
                  go_at_call 82; refine (CO.out _ hB0).mono ?_; rintro e w6 ⟨v6, rfl, ho, hb⟩; have q0 := carry_cell' hb d0; have q1 := carry_cell' hb d1; have q2 := carry_cell' hb d2; have HB6 := Lib.hid (carry_below hB0 (Nat.le_refl _) hb); obtain ⟨p6, c6, rfl⟩ := ho.read.is_slice; have HO6 : Hid (TmO w6 (fun q => w9.heap.size ≤ q ∧ q < w6.heap.size) (.slice p6 d.tm.args.length c6) d.tm.args) := Lib.hid ho; have hz6 := HB6.out.size; clear hb ho; go_wp2_with fail
                  refine hK.out _ _ (fun _ => by exact ⟨by first | assumption | exact carry_cell' ((Below.refl _ _).alloc (Nat.le_refl _) _) (by assumption), by first | assumption | exact carry_cell' ((Below.refl _ _).alloc (Nat.le_refl _) _) (by assumption), by first | assumption | exact carry_cell' ((Below.refl _ _).alloc (Nat.le_refl _) _) (by assumption)⟩) (fun hHeld => ?_)
                  have hHeld := hHeld (by decide)
                  clear hK K
                  try simp only [Act.put, List.getElem_toArray, List.getElem_cons_zero, List.getElem_cons_succ, List.setIfInBounds_toArray, List.set_cons_zero, List.set_cons_succ]
                  refine sink_take 11 (v := ?_) rfl (by kernel_rfl) (by kernel_rfl) (by kernel_rfl) (by kernel_rfl) (by rfl) (fun _ _ _ h => h) (by assumption) ?_ ?_; rotate_left; (intro w hSw; (try dsimp only at hSw); go_simp; try (with_reducible rfl))
                  try simp only [Act.put, List.getElem_toArray, List.getElem_cons_zero, List.getElem_cons_succ, List.setIfInBounds_toArray, List.set_cons_zero, List.set_cons_succ]
                  refine sink_one (i := 12) (by kernel_rfl) rfl (fun K hK => ?_)
                  go_simp
                  refine hK.out _ _ (fun _ => by exact ⟨by first | assumption | exact carry_cell' ((Below.refl _ _).alloc (Nat.le_refl _) _) (by assumption), by first | assumption | exact carry_cell' ((Below.refl _ _).alloc (Nat.le_refl _) _) (by assumption), by first | assumption | exact carry_cell' ((Below.refl _ _).alloc (Nat.le_refl _) _) (by assumption)⟩) (fun hHeld => ?_)
                  have hHeld := hHeld (by decide)
                  clear hK K
                  try simp only [Act.put, List.getElem_toArray, List.getElem_cons_zero, List.getElem_cons_succ, List.setIfInBounds_toArray, List.set_cons_zero, List.set_cons_succ]
                  refine sink_one (i := 13) (by kernel_rfl) rfl (fun K hK => ?_)
                  go_simp
                  refine hK.out _ _ (fun hne => absurd rfl hne) (fun hHeld => ?_)
                  clear hK K
                  try simp only [Act.put, List.getElem_toArray, List.getElem_cons_zero, List.getElem_cons_succ, List.setIfInBounds_toArray, List.set_cons_zero, List.set_cons_succ]
                  refine sink_done (by kernel_rfl) ?_ _
                  go_wp2_with fail
                  go_meet
                  first
                    | (refine ⟨w6.heap.size, p6, c6, rfl, by simp [go_sem], by simp [go_sem], by simp [go_sem], (HO6.out.frame fun q hq => Below.heap_alloc _ _ _ hq.2).mono fun q hq => ⟨hq.1, by simp; have := hq.2; omega, fun e => by have := hq.2; omega⟩, hz6, HB6.out.alloc hz6 _⟩)
                    | (refine ⟨w9.heap.size, p6, c6, rfl, ?_, ?_, ?_, ?_, Nat.le_refl _, ((HB6.out.setCell (by simp) _).setCell (by simp) _).setCell (by simp) _⟩
                       · rw [World.cell?_setCell_other _ _ _ _ (by simp), World.cell?_setCell_other _ _ _ _ (by simp)]; exact World.cell?_setCell_same _ _ _ f0
                       · rw [World.cell?_setCell_other _ _ _ _ (by simp)]; exact World.cell?_setCell_same _ _ _ ((World.cell?_setCell_other _ _ _ _ (by simp)).trans f1)
                       · exact World.cell?_setCell_same _ _ _ ((World.cell?_setCell_other _ _ _ _ (by simp)).trans ((World.cell?_setCell_other _ _ _ _ (by simp)).trans f2))
                       · refine (((HO6.out.setCell (fun h => by have h1 : w9.heap.size + 1 ≤ w9.heap.size := h.1; omega) _).setCell (fun h => by have h1 : w9.heap.size + 1 ≤ w9.heap.size := h.1; omega) _).setCell (fun h => by have h1 : w9.heap.size + 1 ≤ w9.heap.size := h.1; omega) _).mono fun q hq => ⟨by have := hq.1; omega, by simp only [size_setCell]; exact hq.2, fun e => by have := hq.1; omega⟩)
                · go_simp
                  refine hK.out _ _ (fun _ => by exact ⟨by first | assumption | exact carry_cell' ((Below.refl _ _).alloc (Nat.le_refl _) _) (by assumption), by first | assumption | exact carry_cell' ((Below.refl _ _).alloc (Nat.le_refl _) _) (by assumption), by first | assumption | exact carry_cell' ((Below.refl _ _).alloc (Nat.le_refl _) _) (by assumption)⟩) (fun hHeld => ?_)
                  have hHeld := hHeld (by decide)
                  clear hK K
                  try simp only [Act.put, List.getElem_toArray, List.getElem_cons_zero, List.getElem_cons_succ, List.setIfInBounds_toArray, List.set_cons_zero, List.set_cons_succ]
                  refine sink_one (i := 10) (by kernel_rfl) rfl (fun K hK => ?_)
                  go_simp
                  obtain ⟨wa, hwa⟩ : ∃ wa, (w9.alloc (.cells #[.bool false, .string ⟨#[]⟩, .slice none 0 0] 86)).drew = wa := ⟨_, rfl⟩; have BA : Below w9.heap.size w9 wa := (by rw [← hwa]; exact ((Below.refl _ _).alloc (Nat.le_refl _) _).drew); have TA : Thr wa w9.heap.size (.bool false) (.string ⟨#[]⟩) (.slice none 0 0) := (by rw [← hwa]; exact (thr_new _ _ _ _ _ _ rfl).drew); have hza : wa.heap.size = w9.heap.size + 1 := (by rw [← hwa]; simp); go_at_call 82; rw [hwa]; refine (CO.out _ BA).mono ?_; rintro e w6 ⟨v6, rfl, ho, hb⟩; have q0 := carry_cell' hb (carry_cell D0.out BA); have q1 := carry_cell' hb (carry_cell D1.out BA); have q2 := carry_cell' hb (carry_cell D2.out BA); have HT6 := Lib.hid (TA.kept hb); have HB6 := Lib.hid (carry_below BA (Nat.le_refl _) hb); obtain ⟨p6, c6, rfl⟩ := ho.read.is_slice; have HO6 : Hid (TmO w6 (fun q => w9.heap.size + 1 ≤ q ∧ q < w6.heap.size) (.slice p6 d.tm.args.length c6) d.tm.args) := Lib.hid (ho.mono fun q hq => ⟨by have := hq.1; omega, hq.2⟩); have hz6 := HB6.out.size; obtain ⟨f0, f1, f2, f3⟩ := HT6.out; clear hb ho hza TA BA hwa; go_wp2_with fail
                  refine hK.out _ _ (fun _ => by exact ⟨by first | assumption | exact carry_cell' ((Below.refl _ _).alloc (Nat.le_refl _) _) (by assumption), by first | assumption | exact carry_cell' ((Below.refl _ _).alloc (Nat.le_refl _) _) (by assumption), by first | assumption | exact carry_cell' ((Below.refl _ _).alloc (Nat.le_refl _) _) (by assumption)⟩) (fun hHeld => ?_)
                  have hHeld := hHeld (by decide)
                  clear hK K
                  try simp only [Act.put, List.getElem_toArray, List.getElem_cons_zero, List.getElem_cons_succ, List.setIfInBounds_toArray, List.set_cons_zero, List.set_cons_succ]
                  refine sink_take 11 (v := ?_) rfl (by kernel_rfl) (by kernel_rfl) (by kernel_rfl) (by kernel_rfl) (by rfl) (fun _ _ _ h => h) (by assumption) ?_ ?_; rotate_left; (intro w hSw; (try dsimp only at hSw); go_simp; try (with_reducible rfl))
                  try simp only [Act.put, List.getElem_toArray, List.getElem_cons_zero, List.getElem_cons_succ, List.setIfInBounds_toArray, List.set_cons_zero, List.set_cons_succ]
                  refine sink_one (i := 13) (by kernel_rfl) rfl (fun K hK => ?_)
                  go_simp
                  refine hK.out _ _ (fun hne => absurd rfl hne) (fun hHeld => ?_)
                  clear hK K
                  try simp only [Act.put, List.getElem_toArray, List.getElem_cons_zero, List.getElem_cons_succ, List.setIfInBounds_toArray, List.set_cons_zero, List.set_cons_succ]
                  refine sink_done (by kernel_rfl) ?_ _
                  go_wp2_with fail
                  go_meet
                  first
                    | (refine ⟨w6.heap.size, p6, c6, rfl, by simp [go_sem], by simp [go_sem], by simp [go_sem], (HO6.out.frame fun q hq => Below.heap_alloc _ _ _ hq.2).mono fun q hq => ⟨hq.1, by simp; have := hq.2; omega, fun e => by have := hq.2; omega⟩, hz6, HB6.out.alloc hz6 _⟩)
                    | (refine ⟨w9.heap.size, p6, c6, rfl, ?_, ?_, ?_, ?_, Nat.le_refl _, ((HB6.out.setCell (by simp) _).setCell (by simp) _).setCell (by simp) _⟩
                       · rw [World.cell?_setCell_other _ _ _ _ (by simp), World.cell?_setCell_other _ _ _ _ (by simp)]; exact World.cell?_setCell_same _ _ _ f0
                       · rw [World.cell?_setCell_other _ _ _ _ (by simp)]; exact World.cell?_setCell_same _ _ _ ((World.cell?_setCell_other _ _ _ _ (by simp)).trans f1)
                       · exact World.cell?_setCell_same _ _ _ ((World.cell?_setCell_other _ _ _ _ (by simp)).trans ((World.cell?_setCell_other _ _ _ _ (by simp)).trans f2))
                       · refine (((HO6.out.setCell (fun h => by have h1 : w9.heap.size + 1 ≤ w9.heap.size := h.1; omega) _).setCell (fun h => by have h1 : w9.heap.size + 1 ≤ w9.heap.size := h.1; omega) _).setCell (fun h => by have h1 : w9.heap.size + 1 ≤ w9.heap.size := h.1; omega) _).mono fun q hq => ⟨by have := hq.1; omega, by simp only [size_setCell]; exact hq.2, fun e => by have := hq.1; omega⟩)

              case rest =>
                obtain ⟨xb, p8, c8, rfl, e0, e1, e2, hto, hxb, hb⟩ := hcut
                obtain ⟨w10, hw10⟩ : ∃ x, x = wc := ⟨_, rfl⟩
                rw [← hw10] at e0 e1 e2 hto hb ⊢
                clear hw10
                have HTO := Lib.hid hto
                have HB10 := Lib.hid (carry_below HB9.out (Nat.le_refl _) hb)
                have hz10 : w3.heap.size ≤ w10.heap.size := HB10.out.size
                have HSX : Hid (∀ W : World, Below w10.heap.size w10 W → W.cell? ⟨xb, 0, none⟩ = some (.bool d.var) ∧ W.cell? ⟨xb, 1, none⟩ = some (.string d.tm.name) ∧ W.cell? ⟨xb, 2, none⟩ = some (.slice p8 d.tm.args.length c8)) := Lib.hid (fun W hW => ⟨carry_cell e0 hW, carry_cell e1 hW, carry_cell e2 hW⟩)
                clear hto hb e0 e1 e2 hxb
                have hs1 := cut_lo (b := g) hm hcap
                have hs2 := cut_hi (b := g) hm hcap
                obtain ⟨o2, ho2⟩ : ∃ o2, o2 = if sc = m then 0 else m * 3 := ⟨_, rfl⟩
                rw [← ho2] at hs2
                have N1 : Hid (∀ W : World, Below w10.heap.size w10 W → ∀ j u, (enF (L.take m))[j]? = some u → W.cell? ((⟨g, 0, none⟩ : Addr).add j) = some u) := Lib.hid (fun W hW j u hj => by
                  rw [add_off, Nat.zero_add]
                  refine carry_cell (HAT.out j u ?_) (carry_below HB10.out (Nat.le_refl _) hW)
                  rw [← enF_take _ _ hm, List.getElem?_take] at hj; split at hj; exact hj; cases hj)
                have N3 : Hid (∀ W : World, Below w10.heap.size w10 W → ∀ j u, (enF (L.drop m))[j]? = some u → W.cell? ((⟨g, o2, none⟩ : Addr).add j) = some u) := Lib.hid (fun W hW j u hj => by
                  by_cases e : sc = m
                  · have : L.drop m = [] := List.drop_of_length_le (by omega)
                    rw [this] at hj; cases hj
                  · rw [ho2, if_neg e, add_off]
                    refine carry_cell (HAT.out _ u ?_) (carry_below HB10.out (Nat.le_refl _) hW)
                    rw [← enF_drop _ _ hm, List.getElem?_drop] at hj; exact hj)
                have H1K := Lib.hid (enF_one (HROW.out.ens.sublist (List.take_sublist m L)))
                have H1D := Lib.hid (enF_one (HROW.out.ens.sublist (List.drop_sublist m L)))
                obtain ⟨m2, hm2⟩ : ∃ m2, m2 = L.length - m := ⟨_, rfl⟩
                have HL1 : Hid ((enF (L.take m)).length = m * 3) := Lib.hid (by have h1 := enF_len (L.take m); rw [List.length_take] at h1; omega)
                have HL3 : Hid ((enF (L.drop m)).length = m2 * 3) := Lib.hid (by have h1 := enF_len (L.drop m); rw [List.length_drop] at h1; omega)
                rw [← hm2] at hs2
                have HM2 := Lib.hid hm2
                have hm2b : m2 ≤ 1048576 := by omega
                have hmb : m ≤ 1048576 := by omega
                generalize hy1 : enF (L.take m) = y1 at N1 H1K HL1
                generalize hy3 : enF (L.drop m) = y3 at N3 H1D HL3
                have HY1 := Lib.hid hy1
                have HY3 := Lib.hid hy3
                have hB00 : Below w10.heap.size w10 w10.drew := (Below.refl _ _).drew
                clear ho2 hm2 hy1 hy3
                go_wp2_with fail
                refine sink_start 12 (fun w' => w'.cell? ⟨xb, 0, none⟩ = some (.bool d.var) ∧ w'.cell? ⟨xb, 1, none⟩ = some (.string d.tm.name) ∧ w'.cell? ⟨xb, 2, none⟩ = some (.slice p8 d.tm.args.length c8)) (by kernel_rfl) (by exact HSX.out _ (by repeat (first | with_reducible exact HB14.out | with_reducible exact HB13.out | with_reducible exact HB11.out | with_reducible exact Below.refl _ _ | with_reducible refine Below.alloc ?_ (by first | omega | (simp; done) | (simp; omega)) _ | with_reducible refine Below.drew ?_))) (fun hHeld => ?_)
                refine sink_take 1 (v := ?_) rfl (by kernel_rfl) (by kernel_rfl) (by kernel_rfl) (by kernel_rfl) (by rfl) (fun _ _ _ h => h) (by assumption) ?_ ?_; rotate_left; (intro w hSw; (try dsimp only at hSw); go_simp; try (with_reducible rfl))
                try simp only [Act.put, List.getElem_toArray, List.getElem_cons_zero, List.getElem_cons_succ, List.setIfInBounds_toArray, List.set_cons_zero, List.set_cons_succ]
                refine sink_take 2 (v := ?_) rfl (by kernel_rfl) (by kernel_rfl) (by kernel_rfl) (by kernel_rfl) (by rfl) (fun _ _ _ h => h) (by assumption) ?_ ?_; rotate_left; (intro w hSw; (try dsimp only at hSw); go_simp; try (with_reducible rfl))
                try simp only [Act.put, List.getElem_toArray, List.getElem_cons_zero, List.getElem_cons_succ, List.setIfInBounds_toArray, List.set_cons_zero, List.set_cons_succ]
                refine sink_take 3 (v := ?_) rfl (by kernel_rfl) (by kernel_rfl) (by kernel_rfl) (by kernel_rfl) (by rfl) (fun _ _ _ h => h) (by assumption) ?_ ?_; rotate_left; (intro w hSw; (try dsimp only at hSw); go_simp; try (with_reducible rfl))
                try simp only [Act.put, List.getElem_toArray, List.getElem_cons_zero, List.getElem_cons_succ, List.setIfInBounds_toArray, List.set_cons_zero, List.set_cons_succ]
                refine sink_take 5 (v := ?_) rfl (by kernel_rfl) (by kernel_rfl) (by kernel_rfl) (by kernel_rfl) (by rfl) (fun _ _ _ h => h) (by assumption) ?_ ?_; rotate_left; (intro w hSw; (try dsimp only at hSw); go_simp; try (with_reducible rfl))
                try simp only [Act.put, List.getElem_toArray, List.getElem_cons_zero, List.getElem_cons_succ, List.setIfInBounds_toArray, List.set_cons_zero, List.set_cons_succ]
                refine sink_take 8 (v := ?_) rfl (by kernel_rfl) (by kernel_rfl) (by kernel_rfl) (by kernel_rfl) (by rfl) (fun _ _ _ h => h) (by assumption) ?_ ?_; rotate_left; (intro w hSw; (try dsimp only at hSw); go_simp; try (with_reducible rfl))
                try simp only [Act.put, List.getElem_toArray, List.getElem_cons_zero, List.getElem_cons_succ, List.setIfInBounds_toArray, List.set_cons_zero, List.set_cons_succ]
                refine sink_take 9 (v := ?_) rfl (by kernel_rfl) (by kernel_rfl) (by kernel_rfl) (by kernel_rfl) (by rfl) (fun _ _ _ h => h) (by assumption) ?_ ?_; rotate_left; (intro w hSw; (try dsimp only at hSw); go_simp; try (with_reducible rfl))
                try simp only [Act.put, List.getElem_toArray, List.getElem_cons_zero, List.getElem_cons_succ, List.setIfInBounds_toArray, List.set_cons_zero, List.set_cons_succ]
                refine sink_take 10 (v := ?_) rfl (by kernel_rfl) (by kernel_rfl) (by kernel_rfl) (by kernel_rfl) (by rfl) (fun _ _ _ h => h) (by assumption) ?_ ?_; rotate_left; (intro w hSw; (try dsimp only at hSw); go_simp; try (with_reducible rfl))
                try simp only [Act.put, List.getElem_toArray, List.getElem_cons_zero, List.getElem_cons_succ, List.setIfInBounds_toArray, List.set_cons_zero, List.set_cons_succ]
                refine sink_two (i := 0) (j := 6) (by kernel_rfl) rfl rfl (fun K hK => ?_) (fun K hK => ?_)
                · go_simp
                  refine hK.out _ _ (fun _ => by exact HSX.out _ (by repeat (first | with_reducible exact HB14.out | with_reducible exact HB13.out | with_reducible exact HB11.out | with_reducible exact Below.refl _ _ | with_reducible refine Below.alloc ?_ (by first | omega | (simp; done) | (simp; omega)) _ | with_reducible refine Below.drew ?_))) (fun hHeld => ?_)
                  have hHeld := hHeld (by decide)
                  clear hK K
                  try simp only [Act.put, List.getElem_toArray, List.getElem_cons_zero, List.getElem_cons_succ, List.setIfInBounds_toArray, List.set_cons_zero, List.set_cons_succ]
                  refine sink_two (i := 4) (j := 6) (by kernel_rfl) rfl rfl (fun K hK => ?_) (fun K hK => ?_)
                  · (refine step_app _ (by rfl) (.tmp 60) (.tmp 63) _ (by rfl) w10.heap.size 86 i0 _ 3 48 Tryz.underlying46 hi hz0 hz1 hz2 rfl (by omega) _ 0 0 [] (by rfl) (by repeat (first | exact own_c _ _ | exact World.ownsRow_made _ #[] 0 (Nat.le_refl _) (by decide) (by simp) | with_reducible refine World.ownsRow.alloc ?_ _ | with_reducible refine World.ownsRow.drew ?_)) ⟨g, 0, none⟩ m sc y1 (by rfl) HL1.out (N1.out _ (by repeat (first | with_reducible exact HB14.out | with_reducible exact HB13.out | with_reducible exact HB11.out | with_reducible exact Below.refl _ _ | with_reducible refine Below.alloc ?_ (by first | omega | (simp; done) | (simp; omega)) _ | with_reducible refine Below.drew ?_))) H1K.out (by unfold maxLen; omega) (by omega) (by first | exact Nat.le_refl _ | omega | (simp; done) | (simp; omega)) ?_; intro g7 c7 w11 hown7 hgrow7; have HO7 : Hid (w11.ownsRow w10.heap.size 86 3 (.slice (some ⟨g7, 0, none⟩) m c7) m y1) := Lib.hid (by simpa using hown7); have HB11 : Hid (Below w10.heap.size w10 w11) := Lib.hid (below_grownL (by repeat (first | with_reducible exact HB14.out | with_reducible exact HB13.out | with_reducible exact HB11.out | with_reducible exact Below.refl _ _ | with_reducible refine Below.alloc ?_ (by first | omega | (simp; done) | (simp; omega)) _ | with_reducible refine Below.drew ?_)) (Nat.le_refl _) hgrow7 (by first | exact Nat.le_refl _ | omega | (simp; done) | (simp; omega))); have hz11 := HB11.out.size; (first | (have HX7 := Lib.hid (xB hgrow7)) | (have HX7 := Lib.hid (xC hgrow7)) | skip); clear hown7 hgrow7)
                    try go_simp
                    refine hK.out _ _ (fun _ => by exact HSX.out _ (by repeat (first | with_reducible exact HB14.out | with_reducible exact HB13.out | with_reducible exact HB11.out | with_reducible exact Below.refl _ _ | with_reducible refine Below.alloc ?_ (by first | omega | (simp; done) | (simp; omega)) _ | with_reducible refine Below.drew ?_))) (fun hHeld => ?_)
                    have hHeld := hHeld (by decide)
                    clear hK K
                    try simp only [Act.put, List.getElem_toArray, List.getElem_cons_zero, List.getElem_cons_succ, List.setIfInBounds_toArray, List.set_cons_zero, List.set_cons_succ]
                    refine sink_one (i := 6) (by kernel_rfl) rfl (fun K hK => ?_)
                    go_simp
                    refine hK.out _ _ (fun _ => by exact HSX.out _ (by repeat (first | with_reducible exact HB14.out | with_reducible exact HB13.out | with_reducible exact HB11.out | with_reducible exact Below.refl _ _ | with_reducible refine Below.alloc ?_ (by first | omega | (simp; done) | (simp; omega)) _ | with_reducible refine Below.drew ?_))) (fun hHeld => ?_)
                    have hHeld := hHeld (by decide)
                    clear hK K
                    try simp only [Act.put, List.getElem_toArray, List.getElem_cons_zero, List.getElem_cons_succ, List.setIfInBounds_toArray, List.set_cons_zero, List.set_cons_succ]
                    refine sink_one (i := 7) (by kernel_rfl) rfl (fun K hK => ?_)
                    (refine step_app _ (by rfl) (.tmp 64) (.tmp 66) _ (by rfl) w10.heap.size 86 i0 _ 3 48 Tryz.underlying46 hi hz0 hz1 hz2 rfl (by omega) g7 c7 m y1 (by rfl) (by repeat (first | with_reducible exact HO7.out | with_reducible refine World.ownsRow.alloc ?_ _ | with_reducible refine World.ownsRow.drew ?_)) _ 1 1 [.bool d.var, .string d.tm.name, .slice p8 d.tm.args.length c8] (by rfl) rfl (by first | exact HX7.out | exact xA _ _ _ _) (by simp [Value.oneCell']) (by unfold maxLen; omega) (by omega) (by first | exact Nat.le_refl _ | omega | (simp; done) | (simp; omega)) ?_; intro g8 d8 w13 hown8 hgrow8; have HO8 := Lib.hid hown8; have HB13 : Hid (Below w10.heap.size w10 w13) := Lib.hid (below_grownL (by repeat (first | with_reducible exact HB14.out | with_reducible exact HB13.out | with_reducible exact HB11.out | with_reducible exact Below.refl _ _ | with_reducible refine Below.alloc ?_ (by first | omega | (simp; done) | (simp; omega)) _ | with_reducible refine Below.drew ?_)) (Nat.le_refl _) hgrow8 (HO7.out.lt g7 rfl).1); have hz13 := HB13.out.size; clear hown8 hgrow8)
                    try go_simp
                    refine hK.out _ _ (fun _ => by exact HSX.out _ (by repeat (first | with_reducible exact HB14.out | with_reducible exact HB13.out | with_reducible exact HB11.out | with_reducible exact Below.refl _ _ | with_reducible refine Below.alloc ?_ (by first | omega | (simp; done) | (simp; omega)) _ | with_reducible refine Below.drew ?_))) (fun hHeld => ?_)
                    have hHeld := hHeld (by decide)
                    clear hK K
                    try simp only [Act.put, List.getElem_toArray, List.getElem_cons_zero, List.getElem_cons_succ, List.setIfInBounds_toArray, List.set_cons_zero, List.set_cons_succ]
                    refine sink_one (i := 11) (by kernel_rfl) rfl (fun K hK => ?_)
                    (refine step_app _ (by rfl) (.tmp 67) (.tmp 70) _ (by rfl) w10.heap.size 86 i0 _ 3 48 Tryz.underlying46 hi hz0 hz1 hz2 rfl (by omega) g8 d8 (m + 1) (y1 ++ [.bool d.var, .string d.tm.name, .slice p8 d.tm.args.length c8]) (by rfl) HO8.out ⟨g, o2, none⟩ m2 (sc - m) y3 (by rfl) HL3.out (N3.out _ (by repeat (first | with_reducible exact HB14.out | with_reducible exact HB13.out | with_reducible exact HB11.out | with_reducible exact Below.refl _ _ | with_reducible refine Below.alloc ?_ (by first | omega | (simp; done) | (simp; omega)) _ | with_reducible refine Below.drew ?_))) H1D.out (by unfold maxLen; omega) (by omega) (by first | exact Nat.le_refl _ | omega | (simp; done) | (simp; omega)) ?_; intro g9 c9 w14 hown9 hgrow9; have HO9 := Lib.hid hown9; have HB14 : Hid (Below w10.heap.size w10 w14) := Lib.hid (below_grownL (by repeat (first | with_reducible exact HB14.out | with_reducible exact HB13.out | with_reducible exact HB11.out | with_reducible exact Below.refl _ _ | with_reducible refine Below.alloc ?_ (by first | omega | (simp; done) | (simp; omega)) _ | with_reducible refine Below.drew ?_)) (Nat.le_refl _) hgrow9 (HO8.out.lt g8 rfl).1); clear hown9 hgrow9)
                    try go_simp
                    refine hK.out _ _ (fun _ => by exact HSX.out _ (by repeat (first | with_reducible exact HB14.out | with_reducible exact HB13.out | with_reducible exact HB11.out | with_reducible exact Below.refl _ _ | with_reducible refine Below.alloc ?_ (by first | omega | (simp; done) | (simp; omega)) _ | with_reducible refine Below.drew ?_))) (fun hHeld => ?_)
                    have hHeld := hHeld (by decide)
                    clear hK K
                    try simp only [Act.put, List.getElem_toArray, List.getElem_cons_zero, List.getElem_cons_succ, List.setIfInBounds_toArray, List.set_cons_zero, List.set_cons_succ]
                    refine sink_one (i := 12) (by kernel_rfl) rfl (fun K hK => ?_)
                    go_simp
                    refine hK.out _ _ (fun hne => absurd rfl hne) (fun hHeld => ?_)
                    clear hK K
                    try simp only [Act.put, List.getElem_toArray, List.getElem_cons_zero, List.getElem_cons_succ, List.setIfInBounds_toArray, List.set_cons_zero, List.set_cons_succ]
                    refine sink_done (by kernel_rfl) ?_ _
                    have HE : Hid (∃ L', RowE w1.heap.size w1.heap.size w14 (.slice (some ⟨g9, 0, none⟩) (m + 1 + m2) c9) L' ∧ L'.length = m + 1 + m2 ∧ bdsE L' = makeL (l.take (k + 1))) := Lib.hid (by
                      have h9 := HO9.out
                      rw [← HY1.out, ← HY3.out] at h9
                      refine ⟨_, row_ins (d := d) HROW.out (carry_below HB10.out (Nat.le_refl _) HB14.out) hbs hbs hm HM2.out hz10 h9 (HTO.out.frame fun q hq => HB14.out.block q hq.2.1) (fun q hq => ⟨by have := hq.1; omega, by have := hq.2.1; have := HB14.out.size; omega⟩) (fun hq => by have h1 := hq.2.1; have h2 := (HO9.out.lt g9 rfl).1; omega), by simp; have := HM2.out; omega, by rw [HN.out, bdsE_ins]⟩)
                    have HR14 := Lib.hid (HR.out.kept (carry_below HB10.out (Nat.le_refl _) HB14.out))
                    have HBW14 := Lib.hid (carry_below HB.out (Nat.le_refl _) (carry_below HB10.out (Nat.le_refl _) HB14.out))
                    have hz14 : w1.heap.size ≤ w14.heap.size := by have := HB14.out.size; omega
                    clear hs1 hs2
                    go_wp2
                    obtain ⟨L2, hr2, hl2, hb2⟩ := HE.out
                    go_roundw
                    case rel => exact ⟨k + 1, L2, g9, c9, by omega, by go_num, by rw [hl2], by rw [hl2]; exact hr2, hb2, hz14, HR14.out, HBW14.out⟩
                    case measure => simp [intOf]; omega
                  · go_simp
                    refine hK.out _ _ (fun _ => by exact HSX.out _ (by repeat (first | with_reducible exact HB14.out | with_reducible exact HB13.out | with_reducible exact HB11.out | with_reducible exact Below.refl _ _ | with_reducible refine Below.alloc ?_ (by first | omega | (simp; done) | (simp; omega)) _ | with_reducible refine Below.drew ?_))) (fun hHeld => ?_)
                    have hHeld := hHeld (by decide)
                    clear hK K
                    try simp only [Act.put, List.getElem_toArray, List.getElem_cons_zero, List.getElem_cons_succ, List.setIfInBounds_toArray, List.set_cons_zero, List.set_cons_succ]
                    refine sink_one (i := 4) (by kernel_rfl) rfl (fun K hK => ?_)
                    (refine step_app _ (by rfl) (.tmp 60) (.tmp 63) _ (by rfl) w10.heap.size 86 i0 _ 3 48 Tryz.underlying46 hi hz0 hz1 hz2 rfl (by omega) _ 0 0 [] (by rfl) (by repeat (first | exact own_c _ _ | exact World.ownsRow_made _ #[] 0 (Nat.le_refl _) (by decide) (by simp) | with_reducible refine World.ownsRow.alloc ?_ _ | with_reducible refine World.ownsRow.drew ?_)) ⟨g, 0, none⟩ m sc y1 (by rfl) HL1.out (N1.out _ (by repeat (first | with_reducible exact HB14.out | with_reducible exact HB13.out | with_reducible exact HB11.out | with_reducible exact Below.refl _ _ | with_reducible refine Below.alloc ?_ (by first | omega | (simp; done) | (simp; omega)) _ | with_reducible refine Below.drew ?_))) H1K.out (by unfold maxLen; omega) (by omega) (by first | exact Nat.le_refl _ | omega | (simp; done) | (simp; omega)) ?_; intro g7 c7 w11 hown7 hgrow7; have HO7 : Hid (w11.ownsRow w10.heap.size 86 3 (.slice (some ⟨g7, 0, none⟩) m c7) m y1) := Lib.hid (by simpa using hown7); have HB11 : Hid (Below w10.heap.size w10 w11) := Lib.hid (below_grownL (by repeat (first | with_reducible exact HB14.out | with_reducible exact HB13.out | with_reducible exact HB11.out | with_reducible exact Below.refl _ _ | with_reducible refine Below.alloc ?_ (by first | omega | (simp; done) | (simp; omega)) _ | with_reducible refine Below.drew ?_)) (Nat.le_refl _) hgrow7 (by first | exact Nat.le_refl _ | omega | (simp; done) | (simp; omega))); have hz11 := HB11.out.size; (first | (have HX7 := Lib.hid (xB hgrow7)) | (have HX7 := Lib.hid (xC hgrow7)) | skip); clear hown7 hgrow7)
                    try go_simp
                    refine hK.out _ _ (fun _ => by exact HSX.out _ (by repeat (first | with_reducible exact HB14.out | with_reducible exact HB13.out | with_reducible exact HB11.out | with_reducible exact Below.refl _ _ | with_reducible refine Below.alloc ?_ (by first | omega | (simp; done) | (simp; omega)) _ | with_reducible refine Below.drew ?_))) (fun hHeld => ?_)
                    have hHeld := hHeld (by decide)
                    clear hK K
                    try simp only [Act.put, List.getElem_toArray, List.getElem_cons_zero, List.getElem_cons_succ, List.setIfInBounds_toArray, List.set_cons_zero, List.set_cons_succ]
                    refine sink_one (i := 7) (by kernel_rfl) rfl (fun K hK => ?_)
                    (refine step_app _ (by rfl) (.tmp 64) (.tmp 66) _ (by rfl) w10.heap.size 86 i0 _ 3 48 Tryz.underlying46 hi hz0 hz1 hz2 rfl (by omega) g7 c7 m y1 (by rfl) (by repeat (first | with_reducible exact HO7.out | with_reducible refine World.ownsRow.alloc ?_ _ | with_reducible refine World.ownsRow.drew ?_)) _ 1 1 [.bool d.var, .string d.tm.name, .slice p8 d.tm.args.length c8] (by rfl) rfl (by first | exact HX7.out | exact xA _ _ _ _) (by simp [Value.oneCell']) (by unfold maxLen; omega) (by omega) (by first | exact Nat.le_refl _ | omega | (simp; done) | (simp; omega)) ?_; intro g8 d8 w13 hown8 hgrow8; have HO8 := Lib.hid hown8; have HB13 : Hid (Below w10.heap.size w10 w13) := Lib.hid (below_grownL (by repeat (first | with_reducible exact HB14.out | with_reducible exact HB13.out | with_reducible exact HB11.out | with_reducible exact Below.refl _ _ | with_reducible refine Below.alloc ?_ (by first | omega | (simp; done) | (simp; omega)) _ | with_reducible refine Below.drew ?_)) (Nat.le_refl _) hgrow8 (HO7.out.lt g7 rfl).1); have hz13 := HB13.out.size; clear hown8 hgrow8)
                    try go_simp
                    refine hK.out _ _ (fun _ => by exact HSX.out _ (by repeat (first | with_reducible exact HB14.out | with_reducible exact HB13.out | with_reducible exact HB11.out | with_reducible exact Below.refl _ _ | with_reducible refine Below.alloc ?_ (by first | omega | (simp; done) | (simp; omega)) _ | with_reducible refine Below.drew ?_))) (fun hHeld => ?_)
                    have hHeld := hHeld (by decide)
                    clear hK K
                    try simp only [Act.put, List.getElem_toArray, List.getElem_cons_zero, List.getElem_cons_succ, List.setIfInBounds_toArray, List.set_cons_zero, List.set_cons_succ]
                    refine sink_one (i := 11) (by kernel_rfl) rfl (fun K hK => ?_)
                    (refine step_app _ (by rfl) (.tmp 67) (.tmp 70) _ (by rfl) w10.heap.size 86 i0 _ 3 48 Tryz.underlying46 hi hz0 hz1 hz2 rfl (by omega) g8 d8 (m + 1) (y1 ++ [.bool d.var, .string d.tm.name, .slice p8 d.tm.args.length c8]) (by rfl) HO8.out ⟨g, o2, none⟩ m2 (sc - m) y3 (by rfl) HL3.out (N3.out _ (by repeat (first | with_reducible exact HB14.out | with_reducible exact HB13.out | with_reducible exact HB11.out | with_reducible exact Below.refl _ _ | with_reducible refine Below.alloc ?_ (by first | omega | (simp; done) | (simp; omega)) _ | with_reducible refine Below.drew ?_))) H1D.out (by unfold maxLen; omega) (by omega) (by first | exact Nat.le_refl _ | omega | (simp; done) | (simp; omega)) ?_; intro g9 c9 w14 hown9 hgrow9; have HO9 := Lib.hid hown9; have HB14 : Hid (Below w10.heap.size w10 w14) := Lib.hid (below_grownL (by repeat (first | with_reducible exact HB14.out | with_reducible exact HB13.out | with_reducible exact HB11.out | with_reducible exact Below.refl _ _ | with_reducible refine Below.alloc ?_ (by first | omega | (simp; done) | (simp; omega)) _ | with_reducible refine Below.drew ?_)) (Nat.le_refl _) hgrow9 (HO8.out.lt g8 rfl).1); clear hown9 hgrow9)
                    try go_simp
                    refine hK.out _ _ (fun _ => by exact HSX.out _ (by repeat (first | with_reducible exact HB14.out | with_reducible exact HB13.out | with_reducible exact HB11.out | with_reducible exact Below.refl _ _ | with_reducible refine Below.alloc ?_ (by first | omega | (simp; done) | (simp; omega)) _ | with_reducible refine Below.drew ?_))) (fun hHeld => ?_)
                    have hHeld := hHeld (by decide)
                    clear hK K
                    try simp only [Act.put, List.getElem_toArray, List.getElem_cons_zero, List.getElem_cons_succ, List.setIfInBounds_toArray, List.set_cons_zero, List.set_cons_succ]
                    refine sink_one (i := 12) (by kernel_rfl) rfl (fun K hK => ?_)
                    go_simp
                    refine hK.out _ _ (fun hne => absurd rfl hne) (fun hHeld => ?_)
                    clear hK K
                    try simp only [Act.put, List.getElem_toArray, List.getElem_cons_zero, List.getElem_cons_succ, List.setIfInBounds_toArray, List.set_cons_zero, List.set_cons_succ]
                    refine sink_done (by kernel_rfl) ?_ _
                    have HE : Hid (∃ L', RowE w1.heap.size w1.heap.size w14 (.slice (some ⟨g9, 0, none⟩) (m + 1 + m2) c9) L' ∧ L'.length = m + 1 + m2 ∧ bdsE L' = makeL (l.take (k + 1))) := Lib.hid (by
                      have h9 := HO9.out
                      rw [← HY1.out, ← HY3.out] at h9
                      refine ⟨_, row_ins (d := d) HROW.out (carry_below HB10.out (Nat.le_refl _) HB14.out) hbs hbs hm HM2.out hz10 h9 (HTO.out.frame fun q hq => HB14.out.block q hq.2.1) (fun q hq => ⟨by have := hq.1; omega, by have := hq.2.1; have := HB14.out.size; omega⟩) (fun hq => by have h1 := hq.2.1; have h2 := (HO9.out.lt g9 rfl).1; omega), by simp; have := HM2.out; omega, by rw [HN.out, bdsE_ins]⟩)
                    have HR14 := Lib.hid (HR.out.kept (carry_below HB10.out (Nat.le_refl _) HB14.out))
                    have HBW14 := Lib.hid (carry_below HB.out (Nat.le_refl _) (carry_below HB10.out (Nat.le_refl _) HB14.out))
                    have hz14 : w1.heap.size ≤ w14.heap.size := by have := HB14.out.size; omega
                    clear hs1 hs2
                    go_wp2
                    obtain ⟨L2, hr2, hl2, hb2⟩ := HE.out
                    go_roundw
                    case rel => exact ⟨k + 1, L2, g9, c9, by omega, by go_num, by rw [hl2], by rw [hl2]; exact hr2, hb2, hz14, HR14.out, HBW14.out⟩
                    case measure => simp [intOf]; omega
                · go_simp
                  refine hK.out _ _ (fun _ => by exact HSX.out _ (by repeat (first | with_reducible exact HB14.out | with_reducible exact HB13.out | with_reducible exact HB11.out | with_reducible exact Below.refl _ _ | with_reducible refine Below.alloc ?_ (by first | omega | (simp; done) | (simp; omega)) _ | with_reducible refine Below.drew ?_))) (fun hHeld => ?_)
                  have hHeld := hHeld (by decide)
                  clear hK K
                  try simp only [Act.put, List.getElem_toArray, List.getElem_cons_zero, List.getElem_cons_succ, List.setIfInBounds_toArray, List.set_cons_zero, List.set_cons_succ]
                  refine sink_one (i := 0) (by kernel_rfl) rfl (fun K hK => ?_)
                  go_simp
                  refine hK.out _ _ (fun _ => by exact HSX.out _ (by repeat (first | with_reducible exact HB14.out | with_reducible exact HB13.out | with_reducible exact HB11.out | with_reducible exact Below.refl _ _ | with_reducible refine Below.alloc ?_ (by first | omega | (simp; done) | (simp; omega)) _ | with_reducible refine Below.drew ?_))) (fun hHeld => ?_)
                  have hHeld := hHeld (by decide)
                  clear hK K
                  try simp only [Act.put, List.getElem_toArray, List.getElem_cons_zero, List.getElem_cons_succ, List.setIfInBounds_toArray, List.set_cons_zero, List.set_cons_succ]
                  refine sink_one (i := 4) (by kernel_rfl) rfl (fun K hK => ?_)
                  (refine step_app _ (by rfl) (.tmp 60) (.tmp 63) _ (by rfl) w10.heap.size 86 i0 _ 3 48 Tryz.underlying46 hi hz0 hz1 hz2 rfl (by omega) _ 0 0 [] (by rfl) (by repeat (first | exact own_c _ _ | exact World.ownsRow_made _ #[] 0 (Nat.le_refl _) (by decide) (by simp) | with_reducible refine World.ownsRow.alloc ?_ _ | with_reducible refine World.ownsRow.drew ?_)) ⟨g, 0, none⟩ m sc y1 (by rfl) HL1.out (N1.out _ (by repeat (first | with_reducible exact HB14.out | with_reducible exact HB13.out | with_reducible exact HB11.out | with_reducible exact Below.refl _ _ | with_reducible refine Below.alloc ?_ (by first | omega | (simp; done) | (simp; omega)) _ | with_reducible refine Below.drew ?_))) H1K.out (by unfold maxLen; omega) (by omega) (by first | exact Nat.le_refl _ | omega | (simp; done) | (simp; omega)) ?_; intro g7 c7 w11 hown7 hgrow7; have HO7 : Hid (w11.ownsRow w10.heap.size 86 3 (.slice (some ⟨g7, 0, none⟩) m c7) m y1) := Lib.hid (by simpa using hown7); have HB11 : Hid (Below w10.heap.size w10 w11) := Lib.hid (below_grownL (by repeat (first | with_reducible exact HB14.out | with_reducible exact HB13.out | with_reducible exact HB11.out | with_reducible exact Below.refl _ _ | with_reducible refine Below.alloc ?_ (by first | omega | (simp; done) | (simp; omega)) _ | with_reducible refine Below.drew ?_)) (Nat.le_refl _) hgrow7 (by first | exact Nat.le_refl _ | omega | (simp; done) | (simp; omega))); have hz11 := HB11.out.size; (first | (have HX7 := Lib.hid (xB hgrow7)) | (have HX7 := Lib.hid (xC hgrow7)) | skip); clear hown7 hgrow7)
                  try go_simp
                  refine hK.out _ _ (fun _ => by exact HSX.out _ (by repeat (first | with_reducible exact HB14.out | with_reducible exact HB13.out | with_reducible exact HB11.out | with_reducible exact Below.refl _ _ | with_reducible refine Below.alloc ?_ (by first | omega | (simp; done) | (simp; omega)) _ | with_reducible refine Below.drew ?_))) (fun hHeld => ?_)
                  have hHeld := hHeld (by decide)
                  clear hK K
                  try simp only [Act.put, List.getElem_toArray, List.getElem_cons_zero, List.getElem_cons_succ, List.setIfInBounds_toArray, List.set_cons_zero, List.set_cons_succ]
                  refine sink_one (i := 7) (by kernel_rfl) rfl (fun K hK => ?_)
                  (refine step_app _ (by rfl) (.tmp 64) (.tmp 66) _ (by rfl) w10.heap.size 86 i0 _ 3 48 Tryz.underlying46 hi hz0 hz1 hz2 rfl (by omega) g7 c7 m y1 (by rfl) (by repeat (first | with_reducible exact HO7.out | with_reducible refine World.ownsRow.alloc ?_ _ | with_reducible refine World.ownsRow.drew ?_)) _ 1 1 [.bool d.var, .string d.tm.name, .slice p8 d.tm.args.length c8] (by rfl) rfl (by first | exact HX7.out | exact xA _ _ _ _) (by simp [Value.oneCell']) (by unfold maxLen; omega) (by omega) (by first | exact Nat.le_refl _ | omega | (simp; done) | (simp; omega)) ?_; intro g8 d8 w13 hown8 hgrow8; have HO8 := Lib.hid hown8; have HB13 : Hid (Below w10.heap.size w10 w13) := Lib.hid (below_grownL (by repeat (first | with_reducible exact HB14.out | with_reducible exact HB13.out | with_reducible exact HB11.out | with_reducible exact Below.refl _ _ | with_reducible refine Below.alloc ?_ (by first | omega | (simp; done) | (simp; omega)) _ | with_reducible refine Below.drew ?_)) (Nat.le_refl _) hgrow8 (HO7.out.lt g7 rfl).1); have hz13 := HB13.out.size; clear hown8 hgrow8)
                  try go_simp
                  refine hK.out _ _ (fun _ => by exact HSX.out _ (by repeat (first | with_reducible exact HB14.out | with_reducible exact HB13.out | with_reducible exact HB11.out | with_reducible exact Below.refl _ _ | with_reducible refine Below.alloc ?_ (by first | omega | (simp; done) | (simp; omega)) _ | with_reducible refine Below.drew ?_))) (fun hHeld => ?_)
                  have hHeld := hHeld (by decide)
                  clear hK K
                  try simp only [Act.put, List.getElem_toArray, List.getElem_cons_zero, List.getElem_cons_succ, List.setIfInBounds_toArray, List.set_cons_zero, List.set_cons_succ]
                  refine sink_one (i := 11) (by kernel_rfl) rfl (fun K hK => ?_)
                  (refine step_app _ (by rfl) (.tmp 67) (.tmp 70) _ (by rfl) w10.heap.size 86 i0 _ 3 48 Tryz.underlying46 hi hz0 hz1 hz2 rfl (by omega) g8 d8 (m + 1) (y1 ++ [.bool d.var, .string d.tm.name, .slice p8 d.tm.args.length c8]) (by rfl) HO8.out ⟨g, o2, none⟩ m2 (sc - m) y3 (by rfl) HL3.out (N3.out _ (by repeat (first | with_reducible exact HB14.out | with_reducible exact HB13.out | with_reducible exact HB11.out | with_reducible exact Below.refl _ _ | with_reducible refine Below.alloc ?_ (by first | omega | (simp; done) | (simp; omega)) _ | with_reducible refine Below.drew ?_))) H1D.out (by unfold maxLen; omega) (by omega) (by first | exact Nat.le_refl _ | omega | (simp; done) | (simp; omega)) ?_; intro g9 c9 w14 hown9 hgrow9; have HO9 := Lib.hid hown9; have HB14 : Hid (Below w10.heap.size w10 w14) := Lib.hid (below_grownL (by repeat (first | with_reducible exact HB14.out | with_reducible exact HB13.out | with_reducible exact HB11.out | with_reducible exact Below.refl _ _ | with_reducible refine Below.alloc ?_ (by first | omega | (simp; done) | (simp; omega)) _ | with_reducible refine Below.drew ?_)) (Nat.le_refl _) hgrow9 (HO8.out.lt g8 rfl).1); clear hown9 hgrow9)
                  try go_simp
                  refine hK.out _ _ (fun _ => by exact HSX.out _ (by repeat (first | with_reducible exact HB14.out | with_reducible exact HB13.out | with_reducible exact HB11.out | with_reducible exact Below.refl _ _ | with_reducible refine Below.alloc ?_ (by first | omega | (simp; done) | (simp; omega)) _ | with_reducible refine Below.drew ?_))) (fun hHeld => ?_)
                  have hHeld := hHeld (by decide)
                  clear hK K
                  try simp only [Act.put, List.getElem_toArray, List.getElem_cons_zero, List.getElem_cons_succ, List.setIfInBounds_toArray, List.set_cons_zero, List.set_cons_succ]
                  refine sink_one (i := 12) (by kernel_rfl) rfl (fun K hK => ?_)
                  go_simp
                  refine hK.out _ _ (fun hne => absurd rfl hne) (fun hHeld => ?_)
                  clear hK K
                  try simp only [Act.put, List.getElem_toArray, List.getElem_cons_zero, List.getElem_cons_succ, List.setIfInBounds_toArray, List.set_cons_zero, List.set_cons_succ]
                  refine sink_done (by kernel_rfl) ?_ _
                  have HE : Hid (∃ L', RowE w1.heap.size w1.heap.size w14 (.slice (some ⟨g9, 0, none⟩) (m + 1 + m2) c9) L' ∧ L'.length = m + 1 + m2 ∧ bdsE L' = makeL (l.take (k + 1))) := Lib.hid (by
                    have h9 := HO9.out
                    rw [← HY1.out, ← HY3.out] at h9
                    refine ⟨_, row_ins (d := d) HROW.out (carry_below HB10.out (Nat.le_refl _) HB14.out) hbs hbs hm HM2.out hz10 h9 (HTO.out.frame fun q hq => HB14.out.block q hq.2.1) (fun q hq => ⟨by have := hq.1; omega, by have := hq.2.1; have := HB14.out.size; omega⟩) (fun hq => by have h1 := hq.2.1; have h2 := (HO9.out.lt g9 rfl).1; omega), by simp; have := HM2.out; omega, by rw [HN.out, bdsE_ins]⟩)
                  have HR14 := Lib.hid (HR.out.kept (carry_below HB10.out (Nat.le_refl _) HB14.out))
                  have HBW14 := Lib.hid (carry_below HB.out (Nat.le_refl _) (carry_below HB10.out (Nat.le_refl _) HB14.out))
                  have hz14 : w1.heap.size ≤ w14.heap.size := by have := HB14.out.size; omega
                  clear hs1 hs2
                  go_wp2
                  obtain ⟨L2, hr2, hl2, hb2⟩ := HE.out
                  go_roundw
                  case rel => exact ⟨k + 1, L2, g9, c9, by omega, by go_num, by rw [hl2], by rw [hl2]; exact hr2, hb2, hz14, HR14.out, HBW14.out⟩
                  case measure => simp [intOf]; omega
        · have hml0 : m = L.length := by omega
          have HML := Lib.hid hml0
          clear hml0
          have HPL : Hid (Place (bdsE L) d m) := Lib.hid (by have h := place_end (l := bdsE L) (x := d) (fun t x ht hx => HQ.out t x (by rw [bdsE_len] at ht; omega) hx); rw [bdsE_len, ← HML.out] at h; exact h)
          have HN : Hid (makeL (l.take (k + 1)) = (bdsE L).take m ++ d :: (bdsE L).drop m) := Lib.hid (by rw [HNX.out, ← HBD.out, put_new HPL.out (hitL_out (by rw [bdsE_len]; have := HML.out; omega))])
          have hn1 : decide ((m : Int) < (L.length : Int)) = false := by rw [decide_eq_false_iff_not]; omega
          have hB : Below w3.heap.size w3 wr.drew := HBI.out.drew
          have x0 := carry_cell C0.out hB
          go_wp2_with fail
          refine wp_region_held_drew (S := (fun w' => w'.cell? ⟨b, off + k * 3, none⟩ = some (.bool d.var) ∧ Below w3.heap.size w3 w')) (by kernel_rfl) (by first | exact ⟨by assumption, by assumption⟩ | go_keep) (fun hHeld => ?_)
          refine takeYesI 0 (v := ?_) rfl (by kernel_rfl) (by kernel_rfl) (by kernel_rfl) (by rfl) (fun _ _ _ h => h) (by assumption) ?_ ?_; rotate_left; (intro w hSw; (try dsimp only at hSw); go_simp; try (with_reducible rfl))
          try simp only [Act.put, List.getElem_toArray, List.getElem_cons_zero, List.setIfInBounds_toArray, List.set_cons_zero, List.set_cons_succ]
          refine takeYesI 1 (v := ?_) rfl (by kernel_rfl) (by kernel_rfl) (by kernel_rfl) (by rfl) (fun _ _ _ h => h) (by assumption) ?_ ?_; rotate_left; (intro w hSw; (try dsimp only at hSw); go_simp; try (with_reducible rfl))
          try simp only [Act.put, List.getElem_toArray, List.getElem_cons_zero, List.getElem_cons_succ, List.setIfInBounds_toArray, List.set_cons_zero, List.set_cons_succ]
          refine takeYesI 2 (v := ?_) rfl (by kernel_rfl) (by kernel_rfl) (by kernel_rfl) (by rfl) (fun _ _ _ h => h) (by assumption) ?_ ?_; rotate_left; (intro w hSw; (try dsimp only at hSw); go_simp; try (with_reducible rfl))
          try simp only [Act.put, List.getElem_toArray, List.getElem_cons_zero, List.getElem_cons_succ, List.setIfInBounds_toArray, List.set_cons_zero, List.set_cons_succ]
          refine takeYesI 3 (v := ?_) rfl (by kernel_rfl) (by kernel_rfl) (by kernel_rfl) (by rfl) (fun _ _ _ h => h) (by assumption) ?_ ?_; rotate_left; (intro w hSw; (try dsimp only at hSw); go_simp; try (with_reducible rfl))
          try simp only [Act.put, List.getElem_toArray, List.getElem_cons_zero, List.getElem_cons_succ, List.setIfInBounds_toArray, List.set_cons_zero, List.set_cons_succ]
          refine takeYesI 4 (v := ?_) rfl (by kernel_rfl) (by kernel_rfl) (by kernel_rfl) (by rfl) (fun _ _ _ h => h) (by assumption) ?_ ?_; rotate_left; (intro w hSw; (try dsimp only at hSw); go_simp; try (with_reducible rfl))
          try simp only [Act.put, List.getElem_toArray, List.getElem_cons_zero, List.getElem_cons_succ, List.setIfInBounds_toArray, List.set_cons_zero, List.set_cons_succ]
          refine takeNoI 5 rfl (by kernel_rfl) (by kernel_rfl) (by kernel_rfl) (by rfl) (fun _ _ _ h => h) (by assumption) ?_
          try simp only [Act.put, List.getElem_toArray, List.getElem_cons_zero, List.getElem_cons_succ, List.setIfInBounds_toArray, List.set_cons_zero, List.set_cons_succ]
          refine takeNoI 6 rfl (by kernel_rfl) (by kernel_rfl) (by kernel_rfl) (by rfl) (fun _ _ _ h => h) (by assumption) ?_
          try simp only [Act.put, List.getElem_toArray, List.getElem_cons_zero, List.getElem_cons_succ, List.setIfInBounds_toArray, List.set_cons_zero, List.set_cons_succ]
          refine takeNoI 7 rfl (by kernel_rfl) (by kernel_rfl) (by kernel_rfl) (by rfl) (fun _ _ _ h => h) (by assumption) ?_
          try simp only [Act.put, List.getElem_toArray, List.getElem_cons_zero, List.getElem_cons_succ, List.setIfInBounds_toArray, List.set_cons_zero, List.set_cons_succ]
          refine takeNoI 8 rfl (by kernel_rfl) (by kernel_rfl) (by kernel_rfl) (by rfl) (fun _ _ _ h => h) (by assumption) ?_
          try simp only [Act.put, List.getElem_toArray, List.getElem_cons_zero, List.getElem_cons_succ, List.setIfInBounds_toArray, List.set_cons_zero, List.set_cons_succ]
          refine takeNoI 9 rfl (by kernel_rfl) (by kernel_rfl) (by kernel_rfl) (by rfl) (fun _ _ _ h => h) (by assumption) ?_
          try simp only [Act.put, List.getElem_toArray, List.getElem_cons_zero, List.getElem_cons_succ, List.setIfInBounds_toArray, List.set_cons_zero, List.set_cons_succ]
          refine takeNoI 10 rfl (by kernel_rfl) (by kernel_rfl) (by kernel_rfl) (by rfl) (fun _ _ _ h => h) (by assumption) ?_
          try simp only [Act.put, List.getElem_toArray, List.getElem_cons_zero, List.getElem_cons_succ, List.setIfInBounds_toArray, List.set_cons_zero, List.set_cons_succ]
          refine takeNoI 11 rfl (by kernel_rfl) (by kernel_rfl) (by kernel_rfl) (by rfl) (fun _ _ _ h => h) (by assumption) ?_
          try simp only [Act.put, List.getElem_toArray, List.getElem_cons_zero, List.getElem_cons_succ, List.setIfInBounds_toArray, List.set_cons_zero, List.set_cons_succ]
          refine takeNoI 12 rfl (by kernel_rfl) (by kernel_rfl) (by kernel_rfl) (by rfl) (fun _ _ _ h => h) (by assumption) ?_
          try simp only [Act.put, List.getElem_toArray, List.getElem_cons_zero, List.getElem_cons_succ, List.setIfInBounds_toArray, List.set_cons_zero, List.set_cons_succ]
          refine takeNoI 13 rfl (by kernel_rfl) (by kernel_rfl) (by kernel_rfl) (by rfl) (fun _ _ _ h => h) (by assumption) ?_
          try simp only [Act.put, List.getElem_toArray, List.getElem_cons_zero, List.getElem_cons_succ, List.setIfInBounds_toArray, List.set_cons_zero, List.set_cons_succ]
          refine takeNoI 14 rfl (by kernel_rfl) (by kernel_rfl) (by kernel_rfl) (by rfl) (fun _ _ _ h => h) (by assumption) ?_
          try simp only [Act.put, List.getElem_toArray, List.getElem_cons_zero, List.getElem_cons_succ, List.setIfInBounds_toArray, List.set_cons_zero, List.set_cons_succ]
          refine takeYesI 15 (v := ?_) rfl (by kernel_rfl) (by kernel_rfl) (by kernel_rfl) (by rfl) (fun _ _ _ h => h) (by assumption) ?_ ?_; rotate_left; (intro w hSw; (try dsimp only at hSw); go_simp; try (with_reducible rfl))
          try simp only [Act.put, List.getElem_toArray, List.getElem_cons_zero, List.getElem_cons_succ, List.setIfInBounds_toArray, List.set_cons_zero, List.set_cons_succ]
          refine wpAnyH_done (by kernel_rfl) ?_ _
          go_wp2_with fail
          have hB := hB.drew
          have x0 := carry_cell C0.out hB
          refine wp_region_held_drew (S := (fun w' => w'.cell? ⟨b, off + k * 3, none⟩ = some (.bool d.var) ∧ Below w3.heap.size w3 w')) (by kernel_rfl) (by first | exact ⟨by assumption, by assumption⟩ | go_keep) (fun hHeld => ?_)
          refine takeYesI 0 (v := ?_) rfl (by kernel_rfl) (by kernel_rfl) (by kernel_rfl) (by rfl) (fun _ _ _ h => h) (by assumption) ?_ ?_; rotate_left; (intro w hSw; (try dsimp only at hSw); go_simp; try (with_reducible rfl))
          try simp only [Act.put, List.getElem_toArray, List.getElem_cons_zero, List.setIfInBounds_toArray, List.set_cons_zero, List.set_cons_succ]
          refine takeYesI 1 (v := ?_) rfl (by kernel_rfl) (by kernel_rfl) (by kernel_rfl) (by rfl) (fun _ _ _ h => h) (by assumption) ?_ ?_; rotate_left; (intro w hSw; (try dsimp only at hSw); go_simp; try (with_reducible rfl))
          try simp only [Act.put, List.getElem_toArray, List.getElem_cons_zero, List.getElem_cons_succ, List.setIfInBounds_toArray, List.set_cons_zero, List.set_cons_succ]
          refine takeYesI 2 (v := ?_) rfl (by kernel_rfl) (by kernel_rfl) (by kernel_rfl) (by rfl) (fun _ _ _ h => h) (by assumption) ?_ ?_; rotate_left; (intro w hSw; (try dsimp only at hSw); go_simp; try (with_reducible rfl))
          try simp only [Act.put, List.getElem_toArray, List.getElem_cons_zero, List.getElem_cons_succ, List.setIfInBounds_toArray, List.set_cons_zero, List.set_cons_succ]
          refine takeYesI 3 (v := ?_) rfl (by kernel_rfl) (by kernel_rfl) (by kernel_rfl) (by rfl) (fun _ _ _ h => h) (by assumption) ?_ ?_; rotate_left; (intro w hSw; (try dsimp only at hSw); go_simp; try (with_reducible rfl))
          try simp only [Act.put, List.getElem_toArray, List.getElem_cons_zero, List.getElem_cons_succ, List.setIfInBounds_toArray, List.set_cons_zero, List.set_cons_succ]
          refine takeYesI 4 (v := ?_) rfl (by kernel_rfl) (by kernel_rfl) (by kernel_rfl) (by rfl) (fun _ _ _ h => h) (by assumption) ?_ ?_; rotate_left; (intro w hSw; (try dsimp only at hSw); go_simp; try (with_reducible rfl))
          try simp only [Act.put, List.getElem_toArray, List.getElem_cons_zero, List.getElem_cons_succ, List.setIfInBounds_toArray, List.set_cons_zero, List.set_cons_succ]
          refine takeNoI 5 rfl (by kernel_rfl) (by kernel_rfl) (by kernel_rfl) (by rfl) (fun _ _ _ h => h) (by assumption) ?_
          try simp only [Act.put, List.getElem_toArray, List.getElem_cons_zero, List.getElem_cons_succ, List.setIfInBounds_toArray, List.set_cons_zero, List.set_cons_succ]
          refine takeNoI 6 rfl (by kernel_rfl) (by kernel_rfl) (by kernel_rfl) (by rfl) (fun _ _ _ h => h) (by assumption) ?_
          try simp only [Act.put, List.getElem_toArray, List.getElem_cons_zero, List.getElem_cons_succ, List.setIfInBounds_toArray, List.set_cons_zero, List.set_cons_succ]
          refine takeNoI 7 rfl (by kernel_rfl) (by kernel_rfl) (by kernel_rfl) (by rfl) (fun _ _ _ h => h) (by assumption) ?_
          try simp only [Act.put, List.getElem_toArray, List.getElem_cons_zero, List.getElem_cons_succ, List.setIfInBounds_toArray, List.set_cons_zero, List.set_cons_succ]
          refine takeNoI 8 rfl (by kernel_rfl) (by kernel_rfl) (by kernel_rfl) (by rfl) (fun _ _ _ h => h) (by assumption) ?_
          try simp only [Act.put, List.getElem_toArray, List.getElem_cons_zero, List.getElem_cons_succ, List.setIfInBounds_toArray, List.set_cons_zero, List.set_cons_succ]
          refine takeNoI 9 rfl (by kernel_rfl) (by kernel_rfl) (by kernel_rfl) (by rfl) (fun _ _ _ h => h) (by assumption) ?_
          try simp only [Act.put, List.getElem_toArray, List.getElem_cons_zero, List.getElem_cons_succ, List.setIfInBounds_toArray, List.set_cons_zero, List.set_cons_succ]
          refine takeNoI 10 rfl (by kernel_rfl) (by kernel_rfl) (by kernel_rfl) (by rfl) (fun _ _ _ h => h) (by assumption) ?_
          try simp only [Act.put, List.getElem_toArray, List.getElem_cons_zero, List.getElem_cons_succ, List.setIfInBounds_toArray, List.set_cons_zero, List.set_cons_succ]
          refine takeNoI 11 rfl (by kernel_rfl) (by kernel_rfl) (by kernel_rfl) (by rfl) (fun _ _ _ h => h) (by assumption) ?_
          try simp only [Act.put, List.getElem_toArray, List.getElem_cons_zero, List.getElem_cons_succ, List.setIfInBounds_toArray, List.set_cons_zero, List.set_cons_succ]
          refine takeNoI 12 rfl (by kernel_rfl) (by kernel_rfl) (by kernel_rfl) (by rfl) (fun _ _ _ h => h) (by assumption) ?_
          try simp only [Act.put, List.getElem_toArray, List.getElem_cons_zero, List.getElem_cons_succ, List.setIfInBounds_toArray, List.set_cons_zero, List.set_cons_succ]
          refine takeNoI 13 rfl (by kernel_rfl) (by kernel_rfl) (by kernel_rfl) (by rfl) (fun _ _ _ h => h) (by assumption) ?_
          try simp only [Act.put, List.getElem_toArray, List.getElem_cons_zero, List.getElem_cons_succ, List.setIfInBounds_toArray, List.set_cons_zero, List.set_cons_succ]
          refine takeNoI 14 rfl (by kernel_rfl) (by kernel_rfl) (by kernel_rfl) (by rfl) (fun _ _ _ h => h) (by assumption) ?_
          try simp only [Act.put, List.getElem_toArray, List.getElem_cons_zero, List.getElem_cons_succ, List.setIfInBounds_toArray, List.set_cons_zero, List.set_cons_succ]
          refine takeYesI 15 (v := ?_) rfl (by kernel_rfl) (by kernel_rfl) (by kernel_rfl) (by rfl) (fun _ _ _ h => h) (by assumption) ?_ ?_; rotate_left; (intro w hSw; (try dsimp only at hSw); go_simp; try (with_reducible rfl))
          try simp only [Act.put, List.getElem_toArray, List.getElem_cons_zero, List.getElem_cons_succ, List.setIfInBounds_toArray, List.set_cons_zero, List.set_cons_succ]
          refine wpAnyH_done (by kernel_rfl) ?_ _
          obtain ⟨w9, hw9⟩ : ∃ x, x = wr.drew.drew := ⟨_, rfl⟩
          rw [← hw9] at hB ⊢
          clear hw9 x0
          have HB9 := Lib.hid hB
          clear hB
          have hbs := HBS.out
          have hz9 : w3.heap.size ≤ w9.heap.size := HB9.out.size
          have D0 := Lib.hid (carry_cell C0.out HB9.out)
          have D1 := Lib.hid (carry_cell C1.out HB9.out)
          have D2 := Lib.hid (carry_cell C2.out HB9.out)
          have CO : Hid (∀ W : World, Below w9.heap.size w9 W → Calls Tryz.prog 82 #[.agg #[.string d.tm.name, .slice pb d.tm.args.length qb]] W (ToEnd d.tm W)) := Lib.hid (fun W hW => l2Own_any d.tm W _ ((HVB.out.kept HB9.out).kept hW) hdw)
          go_upto_region 9 with fail
          go_cut [6] from 48 to 59 (fun p wx => ∃ (xb : Nat) (p8 : Option Addr) (c8 : Nat), p = .pointer (some ⟨xb, 0, none⟩) ∧ wx.cell? ⟨xb, 0, none⟩ = some (.bool d.var) ∧ wx.cell? ⟨xb, 1, none⟩ = some (.string d.tm.name) ∧ wx.cell? ⟨xb, 2, none⟩ = some (.slice p8 d.tm.args.length c8) ∧ TmO wx (fun q => w9.heap.size ≤ q ∧ q < wx.heap.size ∧ q ≠ xb) (.slice p8 d.tm.args.length c8) d.tm.args ∧ w9.heap.size ≤ xb ∧ Below w9.heap.size w9 wx)
          case first =>
            have hB0 : Below w9.heap.size w9 w9.drew := (Below.refl _ _).drew
            have d0 := carry_cell D0.out hB0
            have d1 := carry_cell D1.out hB0
            have d2 := carry_cell D2.out hB0
            refine sink_start 13 (fun w' => w'.cell? ⟨b, off + k * 3, none⟩ = some (.bool d.var) ∧ w'.cell? ⟨b, off + k * 3 + 1, none⟩ = some (.string d.tm.name) ∧ w'.cell? ⟨b, off + k * 3 + 2, none⟩ = some (.slice pb d.tm.args.length qb)) (by kernel_rfl) (by exact ⟨by first | assumption | exact carry_cell' ((Below.refl _ _).alloc (Nat.le_refl _) _) (by assumption), by first | assumption | exact carry_cell' ((Below.refl _ _).alloc (Nat.le_refl _) _) (by assumption), by first | assumption | exact carry_cell' ((Below.refl _ _).alloc (Nat.le_refl _) _) (by assumption)⟩) (fun hHeld => ?_)
            refine sink_take 0 (v := ?_) rfl (by kernel_rfl) (by kernel_rfl) (by kernel_rfl) (by kernel_rfl) (by rfl) (fun _ _ _ h => h) (by assumption) ?_ ?_; rotate_left; (intro w hSw; (try dsimp only at hSw); go_simp; try (with_reducible rfl))
            try simp only [Act.put, List.getElem_toArray, List.getElem_cons_zero, List.getElem_cons_succ, List.setIfInBounds_toArray, List.set_cons_zero, List.set_cons_succ]
            refine sink_take 1 (v := ?_) rfl (by kernel_rfl) (by kernel_rfl) (by kernel_rfl) (by kernel_rfl) (by rfl) (fun _ _ _ h => h) (by assumption) ?_ ?_; rotate_left; (intro w hSw; (try dsimp only at hSw); go_simp; try (with_reducible rfl))
            try simp only [Act.put, List.getElem_toArray, List.getElem_cons_zero, List.getElem_cons_succ, List.setIfInBounds_toArray, List.set_cons_zero, List.set_cons_succ]
            refine sink_take 2 (v := ?_) rfl (by kernel_rfl) (by kernel_rfl) (by kernel_rfl) (by kernel_rfl) (by rfl) (fun _ _ _ h => h) (by assumption) ?_ ?_; rotate_left; (intro w hSw; (try dsimp only at hSw); go_simp; try (with_reducible rfl))
            try simp only [Act.put, List.getElem_toArray, List.getElem_cons_zero, List.getElem_cons_succ, List.setIfInBounds_toArray, List.set_cons_zero, List.set_cons_succ]
            refine sink_take 3 (v := ?_) rfl (by kernel_rfl) (by kernel_rfl) (by kernel_rfl) (by kernel_rfl) (by rfl) (fun _ _ _ h => h) (by assumption) ?_ ?_; rotate_left; (intro w hSw; (try dsimp only at hSw); go_simp; try (with_reducible rfl))
            try simp only [Act.put, List.getElem_toArray, List.getElem_cons_zero, List.getElem_cons_succ, List.setIfInBounds_toArray, List.set_cons_zero, List.set_cons_succ]
            refine sink_take 4 (v := ?_) rfl (by kernel_rfl) (by kernel_rfl) (by kernel_rfl) (by kernel_rfl) (by rfl) (fun _ _ _ h => h) (by assumption) ?_ ?_; rotate_left; (intro w hSw; (try dsimp only at hSw); go_simp; try (with_reducible rfl))
            try simp only [Act.put, List.getElem_toArray, List.getElem_cons_zero, List.getElem_cons_succ, List.setIfInBounds_toArray, List.set_cons_zero, List.set_cons_succ]
            refine sink_take 5 (v := ?_) rfl (by kernel_rfl) (by kernel_rfl) (by kernel_rfl) (by kernel_rfl) (by rfl) (fun _ _ _ h => h) (by assumption) ?_ ?_; rotate_left; (intro w hSw; (try dsimp only at hSw); go_simp; try (with_reducible rfl))
            try simp only [Act.put, List.getElem_toArray, List.getElem_cons_zero, List.getElem_cons_succ, List.setIfInBounds_toArray, List.set_cons_zero, List.set_cons_succ]
            refine sink_take 6 (v := ?_) rfl (by kernel_rfl) (by kernel_rfl) (by kernel_rfl) (by kernel_rfl) (by rfl) (fun _ _ _ h => h) (by assumption) ?_ ?_; rotate_left; (intro w hSw; (try dsimp only at hSw); go_simp; try (with_reducible rfl))
            try simp only [Act.put, List.getElem_toArray, List.getElem_cons_zero, List.getElem_cons_succ, List.setIfInBounds_toArray, List.set_cons_zero, List.set_cons_succ]
            refine sink_take 7 (v := ?_) rfl (by kernel_rfl) (by kernel_rfl) (by kernel_rfl) (by kernel_rfl) (by rfl) (fun _ _ _ h => h) (by assumption) ?_ ?_; rotate_left; (intro w hSw; (try dsimp only at hSw); go_simp; try (with_reducible rfl))
            try simp only [Act.put, List.getElem_toArray, List.getElem_cons_zero, List.getElem_cons_succ, List.setIfInBounds_toArray, List.set_cons_zero, List.set_cons_succ]
            refine sink_take 8 (v := ?_) rfl (by kernel_rfl) (by kernel_rfl) (by kernel_rfl) (by kernel_rfl) (by rfl) (fun _ _ _ h => h) (by assumption) ?_ ?_; rotate_left; (intro w hSw; (try dsimp only at hSw); go_simp; try (with_reducible rfl))
            try simp only [Act.put, List.getElem_toArray, List.getElem_cons_zero, List.getElem_cons_succ, List.setIfInBounds_toArray, List.set_cons_zero, List.set_cons_succ]
            refine sink_take 9 (v := ?_) rfl (by kernel_rfl) (by kernel_rfl) (by kernel_rfl) (by kernel_rfl) (by rfl) (fun _ _ _ h => h) (by assumption) ?_ ?_; rotate_left; (intro w hSw; (try dsimp only at hSw); go_simp; try (with_reducible rfl))
            try simp only [Act.put, List.getElem_toArray, List.getElem_cons_zero, List.getElem_cons_succ, List.setIfInBounds_toArray, List.set_cons_zero, List.set_cons_succ]
            refine sink_two (i := 10) (j := 12) (by kernel_rfl) rfl rfl (fun K hK => ?_) (fun K hK => ?_)
            · go_simp
              go_at_call 82; refine (CO.out _ hB0).mono ?_; rintro e w6 ⟨v6, rfl, ho, hb⟩; have q0 := carry_cell' hb d0; have q1 := carry_cell' hb d1; have q2 := carry_cell' hb d2; have HB6 := Lib.hid (carry_below hB0 (Nat.le_refl _) hb); obtain ⟨p6, c6, rfl⟩ := ho.read.is_slice; have HO6 : Hid (TmO w6 (fun q => w9.heap.size ≤ q ∧ q < w6.heap.size) (.slice p6 d.tm.args.length c6) d.tm.args) := Lib.hid ho; have hz6 := HB6.out.size; clear hb ho; go_wp2_with fail
              refine hK.out _ _ (fun _ => by exact ⟨by first | assumption | exact carry_cell' ((Below.refl _ _).alloc (Nat.le_refl _) _) (by assumption), by first | assumption | exact carry_cell' ((Below.refl _ _).alloc (Nat.le_refl _) _) (by assumption), by first | assumption | exact carry_cell' ((Below.refl _ _).alloc (Nat.le_refl _) _) (by assumption)⟩) (fun hHeld => ?_)
              have hHeld := hHeld (by decide)
              clear hK K
              try simp only [Act.put, List.getElem_toArray, List.getElem_cons_zero, List.getElem_cons_succ, List.setIfInBounds_toArray, List.set_cons_zero, List.set_cons_succ]
              refine sink_take 11 (v := ?_) rfl (by kernel_rfl) (by kernel_rfl) (by kernel_rfl) (by kernel_rfl) (by rfl) (fun _ _ _ h => h) (by assumption) ?_ ?_; rotate_left; (intro w hSw; (try dsimp only at hSw); go_simp; try (with_reducible rfl))
              try simp only [Act.put, List.getElem_toArray, List.getElem_cons_zero, List.getElem_cons_succ, List.setIfInBounds_toArray, List.set_cons_zero, List.set_cons_succ]
              refine sink_one (i := 12) (by kernel_rfl) rfl (fun K hK => ?_)
              go_simp
              refine hK.out _ _ (fun _ => by exact ⟨by first | assumption | exact carry_cell' ((Below.refl _ _).alloc (Nat.le_refl _) _) (by assumption), by first | assumption | exact carry_cell' ((Below.refl _ _).alloc (Nat.le_refl _) _) (by assumption), by first | assumption | exact carry_cell' ((Below.refl _ _).alloc (Nat.le_refl _) _) (by assumption)⟩) (fun hHeld => ?_)
              have hHeld := hHeld (by decide)
              clear hK K
              try simp only [Act.put, List.getElem_toArray, List.getElem_cons_zero, List.getElem_cons_succ, List.setIfInBounds_toArray, List.set_cons_zero, List.set_cons_succ]
              refine sink_one (i := 13) (by kernel_rfl) rfl (fun K hK => ?_)
              go_simp
              refine hK.out _ _ (fun hne => absurd rfl hne) (fun hHeld => ?_)
              clear hK K
              try simp only [Act.put, List.getElem_toArray, List.getElem_cons_zero, List.getElem_cons_succ, List.setIfInBounds_toArray, List.set_cons_zero, List.set_cons_succ]
              refine sink_done (by kernel_rfl) ?_ _
              go_wp2_with fail
              go_meet
              first
                | (refine ⟨w6.heap.size, p6, c6, rfl, by simp [go_sem], by simp [go_sem], by simp [go_sem], (HO6.out.frame fun q hq => Below.heap_alloc _ _ _ hq.2).mono fun q hq => ⟨hq.1, by simp; have := hq.2; omega, fun e => by have := hq.2; omega⟩, hz6, HB6.out.alloc hz6 _⟩)
                | (refine ⟨w9.heap.size, p6, c6, rfl, ?_, ?_, ?_, ?_, Nat.le_refl _, ((HB6.out.setCell (by simp) _).setCell (by simp) _).setCell (by simp) _⟩
                   · rw [World.cell?_setCell_other _ _ _ _ (by simp), World.cell?_setCell_other _ _ _ _ (by simp)]; exact World.cell?_setCell_same _ _ _ f0
                   · rw [World.cell?_setCell_other _ _ _ _ (by simp)]; exact World.cell?_setCell_same _ _ _ ((World.cell?_setCell_other _ _ _ _ (by simp)).trans f1)
                   · exact World.cell?_setCell_same _ _ _ ((World.cell?_setCell_other _ _ _ _ (by simp)).trans ((World.cell?_setCell_other _ _ _ _ (by simp)).trans f2))
                   · refine (((HO6.out.setCell (fun h => by have h1 : w9.heap.size + 1 ≤ w9.heap.size := h.1; omega) _).setCell (fun h => by have h1 : w9.heap.size + 1 ≤ w9.heap.size := h.1; omega) _).setCell (fun h => by have h1 : w9.heap.size + 1 ≤ w9.heap.size := h.1; omega) _).mono fun q hq => ⟨by have := hq.1; omega, by simp only [size_setCell]; exact hq.2, fun e => by have := hq.1; omega⟩)
            · go_simp
              refine hK.out _ _ (fun _ => by exact ⟨by first | assumption | exact carry_cell' ((Below.refl _ _).alloc (Nat.le_refl _) _) (by assumption), by first | assumption | exact carry_cell' ((Below.refl _ _).alloc (Nat.le_refl _) _) (by assumption), by first | assumption | exact carry_cell' ((Below.refl _ _).alloc (Nat.le_refl _) _) (by assumption)⟩) (fun hHeld => ?_)
              have hHeld := hHeld (by decide)
              clear hK K
              try simp only [Act.put, List.getElem_toArray, List.getElem_cons_zero, List.getElem_cons_succ, List.setIfInBounds_toArray, List.set_cons_zero, List.set_cons_succ]
              refine sink_one (i := 10) (by kernel_rfl) rfl (fun K hK => ?_)
              go_simp
              obtain ⟨wa, hwa⟩ : ∃ wa, (w9.alloc (.cells #[.bool false, .string ⟨#[]⟩, .slice none 0 0] 86)).drew = wa := ⟨_, rfl⟩; have BA : Below w9.heap.size w9 wa := (by rw [← hwa]; exact ((Below.refl _ _).alloc (Nat.le_refl _) _).drew); have TA : Thr wa w9.heap.size (.bool false) (.string ⟨#[]⟩) (.slice none 0 0) := (by rw [← hwa]; exact (thr_new _ _ _ _ _ _ rfl).drew); have hza : wa.heap.size = w9.heap.size + 1 := (by rw [← hwa]; simp); go_at_call 82; rw [hwa]; refine (CO.out _ BA).mono ?_; rintro e w6 ⟨v6, rfl, ho, hb⟩; have q0 := carry_cell' hb (carry_cell D0.out BA); have q1 := carry_cell' hb (carry_cell D1.out BA); have q2 := carry_cell' hb (carry_cell D2.out BA); have HT6 := Lib.hid (TA.kept hb); have HB6 := Lib.hid (carry_below BA (Nat.le_refl _) hb); obtain ⟨p6, c6, rfl⟩ := ho.read.is_slice; have HO6 : Hid (TmO w6 (fun q => w9.heap.size + 1 ≤ q ∧ q < w6.heap.size) (.slice p6 d.tm.args.length c6) d.tm.args) := Lib.hid (ho.mono fun q hq => ⟨by have := hq.1; omega, hq.2⟩); have hz6 := HB6.out.size; obtain ⟨f0, f1, f2, f3⟩ := HT6.out; clear hb ho hza TA BA hwa; go_wp2_with fail
              refine hK.out _ _ (fun _ => by exact ⟨by first | assumption | exact carry_cell' ((Below.refl _ _).alloc (Nat.le_refl _) _) (by assumption), by first | assumption | exact carry_cell' ((Below.refl _ _).alloc (Nat.le_refl _) _) (by assumption), by first | assumption | exact carry_cell' ((Below.refl _ _).alloc (Nat.le_refl _) _) (by assumption)⟩) (fun hHeld => ?_)
              have hHeld := hHeld (by decide)
              clear hK K
              try simp only [Act.put, List.getElem_toArray, List.getElem_cons_zero, List.getElem_cons_succ, List.setIfInBounds_toArray, List.set_cons_zero, List.set_cons_succ]
              refine sink_take 11 (v := ?_) rfl (by kernel_rfl) (by kernel_rfl) (by kernel_rfl) (by kernel_rfl) (by rfl) (fun _ _ _ h => h) (by assumption) ?_ ?_; rotate_left; (intro w hSw; (try dsimp only at hSw); go_simp; try (with_reducible rfl))
              try simp only [Act.put, List.getElem_toArray, List.getElem_cons_zero, List.getElem_cons_succ, List.setIfInBounds_toArray, List.set_cons_zero, List.set_cons_succ]
              refine sink_one (i := 13) (by kernel_rfl) rfl (fun K hK => ?_)
              go_simp
              refine hK.out _ _ (fun hne => absurd rfl hne) (fun hHeld => ?_)
              clear hK K
              try simp only [Act.put, List.getElem_toArray, List.getElem_cons_zero, List.getElem_cons_succ, List.setIfInBounds_toArray, List.set_cons_zero, List.set_cons_succ]
              refine sink_done (by kernel_rfl) ?_ _
              go_wp2_with fail
              go_meet
              first
                | (refine ⟨w6.heap.size, p6, c6, rfl, by simp [go_sem], by simp [go_sem], by simp [go_sem], (HO6.out.frame fun q hq => Below.heap_alloc _ _ _ hq.2).mono fun q hq => ⟨hq.1, by simp; have := hq.2; omega, fun e => by have := hq.2; omega⟩, hz6, HB6.out.alloc hz6 _⟩)
                | (refine ⟨w9.heap.size, p6, c6, rfl, ?_, ?_, ?_, ?_, Nat.le_refl _, ((HB6.out.setCell (by simp) _).setCell (by simp) _).setCell (by simp) _⟩
                   · rw [World.cell?_setCell_other _ _ _ _ (by simp), World.cell?_setCell_other _ _ _ _ (by simp)]; exact World.cell?_setCell_same _ _ _ f0
                   · rw [World.cell?_setCell_other _ _ _ _ (by simp)]; exact World.cell?_setCell_same _ _ _ ((World.cell?_setCell_other _ _ _ _ (by simp)).trans f1)
                   · exact World.cell?_setCell_same _ _ _ ((World.cell?_setCell_other _ _ _ _ (by simp)).trans ((World.cell?_setCell_other _ _ _ _ (by simp)).trans f2))
                   · refine (((HO6.out.setCell (fun h => by have h1 : w9.heap.size + 1 ≤ w9.heap.size := h.1; omega) _).setCell (fun h => by have h1 : w9.heap.size + 1 ≤ w9.heap.size := h.1; omega) _).setCell (fun h => by have h1 : w9.heap.size + 1 ≤ w9.heap.size := h.1; omega) _).mono fun q hq => ⟨by have := hq.1; omega, by simp only [size_setCell]; exact hq.2, fun e => by have := hq.1; omega⟩)

          case rest =>
            obtain ⟨xb, p8, c8, rfl, e0, e1, e2, hto, hxb, hb⟩ := hcut
            obtain ⟨w10, hw10⟩ : ∃ x, x = wc := ⟨_, rfl⟩
            rw [← hw10] at e0 e1 e2 hto hb ⊢
            clear hw10
            have HTO := Lib.hid hto
            have HB10 := Lib.hid (carry_below HB9.out (Nat.le_refl _) hb)
            have hz10 : w3.heap.size ≤ w10.heap.size := HB10.out.size
            have HSX : Hid (∀ W : World, Below w10.heap.size w10 W → W.cell? ⟨xb, 0, none⟩ = some (.bool d.var) ∧ W.cell? ⟨xb, 1, none⟩ = some (.string d.tm.name) ∧ W.cell? ⟨xb, 2, none⟩ = some (.slice p8 d.tm.args.length c8)) := Lib.hid (fun W hW => ⟨carry_cell e0 hW, carry_cell e1 hW, carry_cell e2 hW⟩)
            clear hto hb e0 e1 e2 hxb
            have hs1 := cut_lo (b := g) hm hcap
            have hs2 := cut_hi (b := g) hm hcap
            obtain ⟨o2, ho2⟩ : ∃ o2, o2 = if sc = m then 0 else m * 3 := ⟨_, rfl⟩
            rw [← ho2] at hs2
            have N1 : Hid (∀ W : World, Below w10.heap.size w10 W → ∀ j u, (enF (L.take m))[j]? = some u → W.cell? ((⟨g, 0, none⟩ : Addr).add j) = some u) := Lib.hid (fun W hW j u hj => by
              rw [add_off, Nat.zero_add]
              refine carry_cell (HAT.out j u ?_) (carry_below HB10.out (Nat.le_refl _) hW)
              rw [← enF_take _ _ hm, List.getElem?_take] at hj; split at hj; exact hj; cases hj)
            have N3 : Hid (∀ W : World, Below w10.heap.size w10 W → ∀ j u, (enF (L.drop m))[j]? = some u → W.cell? ((⟨g, o2, none⟩ : Addr).add j) = some u) := Lib.hid (fun W hW j u hj => by
              by_cases e : sc = m
              · have : L.drop m = [] := List.drop_of_length_le (by omega)
                rw [this] at hj; cases hj
              · rw [ho2, if_neg e, add_off]
                refine carry_cell (HAT.out _ u ?_) (carry_below HB10.out (Nat.le_refl _) hW)
                rw [← enF_drop _ _ hm, List.getElem?_drop] at hj; exact hj)
            have H1K := Lib.hid (enF_one (HROW.out.ens.sublist (List.take_sublist m L)))
            have H1D := Lib.hid (enF_one (HROW.out.ens.sublist (List.drop_sublist m L)))
            obtain ⟨m2, hm2⟩ : ∃ m2, m2 = L.length - m := ⟨_, rfl⟩
            have HL1 : Hid ((enF (L.take m)).length = m * 3) := Lib.hid (by have h1 := enF_len (L.take m); rw [List.length_take] at h1; omega)
            have HL3 : Hid ((enF (L.drop m)).length = m2 * 3) := Lib.hid (by have h1 := enF_len (L.drop m); rw [List.length_drop] at h1; omega)
            rw [← hm2] at hs2
            have HM2 := Lib.hid hm2
            have hm2b : m2 ≤ 1048576 := by omega
            have hmb : m ≤ 1048576 := by omega
            generalize hy1 : enF (L.take m) = y1 at N1 H1K HL1
            generalize hy3 : enF (L.drop m) = y3 at N3 H1D HL3
            have HY1 := Lib.hid hy1
            have HY3 := Lib.hid hy3
            have hB00 : Below w10.heap.size w10 w10.drew := (Below.refl _ _).drew
            clear ho2 hm2 hy1 hy3
            go_wp2_with fail
            refine sink_start 12 (fun w' => w'.cell? ⟨xb, 0, none⟩ = some (.bool d.var) ∧ w'.cell? ⟨xb, 1, none⟩ = some (.string d.tm.name) ∧ w'.cell? ⟨xb, 2, none⟩ = some (.slice p8 d.tm.args.length c8)) (by kernel_rfl) (by exact HSX.out _ (by repeat (first | with_reducible exact HB14.out | with_reducible exact HB13.out | with_reducible exact HB11.out | with_reducible exact Below.refl _ _ | with_reducible refine Below.alloc ?_ (by first | omega | (simp; done) | (simp; omega)) _ | with_reducible refine Below.drew ?_))) (fun hHeld => ?_)
            refine sink_take 1 (v := ?_) rfl (by kernel_rfl) (by kernel_rfl) (by kernel_rfl) (by kernel_rfl) (by rfl) (fun _ _ _ h => h) (by assumption) ?_ ?_; rotate_left; (intro w hSw; (try dsimp only at hSw); go_simp; try (with_reducible rfl))
            try simp only [Act.put, List.getElem_toArray, List.getElem_cons_zero, List.getElem_cons_succ, List.setIfInBounds_toArray, List.set_cons_zero, List.set_cons_succ]
            refine sink_take 2 (v := ?_) rfl (by kernel_rfl) (by kernel_rfl) (by kernel_rfl) (by kernel_rfl) (by rfl) (fun _ _ _ h => h) (by assumption) ?_ ?_; rotate_left; (intro w hSw; (try dsimp only at hSw); go_simp; try (with_reducible rfl))
            try simp only [Act.put, List.getElem_toArray, List.getElem_cons_zero, List.getElem_cons_succ, List.setIfInBounds_toArray, List.set_cons_zero, List.set_cons_succ]
            refine sink_take 3 (v := ?_) rfl (by kernel_rfl) (by kernel_rfl) (by kernel_rfl) (by kernel_rfl) (by rfl) (fun _ _ _ h => h) (by assumption) ?_ ?_; rotate_left; (intro w hSw; (try dsimp only at hSw); go_simp; try (with_reducible rfl))
            try simp only [Act.put, List.getElem_toArray, List.getElem_cons_zero, List.getElem_cons_succ, List.setIfInBounds_toArray, List.set_cons_zero, List.set_cons_succ]
            refine sink_take 5 (v := ?_) rfl (by kernel_rfl) (by kernel_rfl) (by kernel_rfl) (by kernel_rfl) (by rfl) (fun _ _ _ h => h) (by assumption) ?_ ?_; rotate_left; (intro w hSw; (try dsimp only at hSw); go_simp; try (with_reducible rfl))
            try simp only [Act.put, List.getElem_toArray, List.getElem_cons_zero, List.getElem_cons_succ, List.setIfInBounds_toArray, List.set_cons_zero, List.set_cons_succ]
            refine sink_take 8 (v := ?_) rfl (by kernel_rfl) (by kernel_rfl) (by kernel_rfl) (by kernel_rfl) (by rfl) (fun _ _ _ h => h) (by assumption) ?_ ?_; rotate_left; (intro w hSw; (try dsimp only at hSw); go_simp; try (with_reducible rfl))
            try simp only [Act.put, List.getElem_toArray, List.getElem_cons_zero, List.getElem_cons_succ, List.setIfInBounds_toArray, List.set_cons_zero, List.set_cons_succ]
            refine sink_take 9 (v := ?_) rfl (by kernel_rfl) (by kernel_rfl) (by kernel_rfl) (by kernel_rfl) (by rfl) (fun _ _ _ h => h) (by assumption) ?_ ?_; rotate_left; (intro w hSw; (try dsimp only at hSw); go_simp; try (with_reducible rfl))
            try simp only [Act.put, List.getElem_toArray, List.getElem_cons_zero, List.getElem_cons_succ, List.setIfInBounds_toArray, List.set_cons_zero, List.set_cons_succ]
            refine sink_take 10 (v := ?_) rfl (by kernel_rfl) (by kernel_rfl) (by kernel_rfl) (by kernel_rfl) (by rfl) (fun _ _ _ h => h) (by assumption) ?_ ?_; rotate_left; (intro w hSw; (try dsimp only at hSw); go_simp; try (with_reducible rfl))
            try simp only [Act.put, List.getElem_toArray, List.getElem_cons_zero, List.getElem_cons_succ, List.setIfInBounds_toArray, List.set_cons_zero, List.set_cons_succ]
            refine sink_two (i := 0) (j := 6) (by kernel_rfl) rfl rfl (fun K hK => ?_) (fun K hK => ?_)
            · go_simp
              refine hK.out _ _ (fun _ => by exact HSX.out _ (by repeat (first | with_reducible exact HB14.out | with_reducible exact HB13.out | with_reducible exact HB11.out | with_reducible exact Below.refl _ _ | with_reducible refine Below.alloc ?_ (by first | omega | (simp; done) | (simp; omega)) _ | with_reducible refine Below.drew ?_))) (fun hHeld => ?_)
              have hHeld := hHeld (by decide)
              clear hK K
              try simp only [Act.put, List.getElem_toArray, List.getElem_cons_zero, List.getElem_cons_succ, List.setIfInBounds_toArray, List.set_cons_zero, List.set_cons_succ]
              refine sink_two (i := 4) (j := 6) (by kernel_rfl) rfl rfl (fun K hK => ?_) (fun K hK => ?_)
              · (refine step_app _ (by rfl) (.tmp 60) (.tmp 63) _ (by rfl) w10.heap.size 86 i0 _ 3 48 Tryz.underlying46 hi hz0 hz1 hz2 rfl (by omega) _ 0 0 [] (by rfl) (by repeat (first | exact own_c _ _ | exact World.ownsRow_made _ #[] 0 (Nat.le_refl _) (by decide) (by simp) | with_reducible refine World.ownsRow.alloc ?_ _ | with_reducible refine World.ownsRow.drew ?_)) ⟨g, 0, none⟩ m sc y1 (by rfl) HL1.out (N1.out _ (by repeat (first | with_reducible exact HB14.out | with_reducible exact HB13.out | with_reducible exact HB11.out | with_reducible exact Below.refl _ _ | with_reducible refine Below.alloc ?_ (by first | omega | (simp; done) | (simp; omega)) _ | with_reducible refine Below.drew ?_))) H1K.out (by unfold maxLen; omega) (by omega) (by first | exact Nat.le_refl _ | omega | (simp; done) | (simp; omega)) ?_; intro g7 c7 w11 hown7 hgrow7; have HO7 : Hid (w11.ownsRow w10.heap.size 86 3 (.slice (some ⟨g7, 0, none⟩) m c7) m y1) := Lib.hid (by simpa using hown7); have HB11 : Hid (Below w10.heap.size w10 w11) := Lib.hid (below_grownL (by repeat (first | with_reducible exact HB14.out | with_reducible exact HB13.out | with_reducible exact HB11.out | with_reducible exact Below.refl _ _ | with_reducible refine Below.alloc ?_ (by first | omega | (simp; done) | (simp; omega)) _ | with_reducible refine Below.drew ?_)) (Nat.le_refl _) hgrow7 (by first | exact Nat.le_refl _ | omega | (simp; done) | (simp; omega))); have hz11 := HB11.out.size; (first | (have HX7 := Lib.hid (xB hgrow7)) | (have HX7 := Lib.hid (xC hgrow7)) | skip); clear hown7 hgrow7)
                try go_simp
                refine hK.out _ _ (fun _ => by exact HSX.out _ (by repeat (first | with_reducible exact HB14.out | with_reducible exact HB13.out | with_reducible exact HB11.out | with_reducible exact Below.refl _ _ | with_reducible refine Below.alloc ?_ (by first | omega | (simp; done) | (simp; omega)) _ | with_reducible refine Below.drew ?_))) (fun hHeld => ?_)
                have hHeld := hHeld (by decide)
                clear hK K
                try simp only [Act.put, List.getElem_toArray, List.getElem_cons_zero, List.getElem_cons_succ, List.setIfInBounds_toArray, List.set_cons_zero, List.set_cons_succ]
                refine sink_one (i := 6) (by kernel_rfl) rfl (fun K hK => ?_)
                go_simp
                refine hK.out _ _ (fun _ => by exact HSX.out _ (by repeat (first | with_reducible exact HB14.out | with_reducible exact HB13.out | with_reducible exact HB11.out | with_reducible exact Below.refl _ _ | with_reducible refine Below.alloc ?_ (by first | omega | (simp; done) | (simp; omega)) _ | with_reducible refine Below.drew ?_))) (fun hHeld => ?_)
                have hHeld := hHeld (by decide)
                clear hK K
                try simp only [Act.put, List.getElem_toArray, List.getElem_cons_zero, List.getElem_cons_succ, List.setIfInBounds_toArray, List.set_cons_zero, List.set_cons_succ]
                refine sink_one (i := 7) (by kernel_rfl) rfl (fun K hK => ?_)
                (refine step_app _ (by rfl) (.tmp 64) (.tmp 66) _ (by rfl) w10.heap.size 86 i0 _ 3 48 Tryz.underlying46 hi hz0 hz1 hz2 rfl (by omega) g7 c7 m y1 (by rfl) (by repeat (first | with_reducible exact HO7.out | with_reducible refine World.ownsRow.alloc ?_ _ | with_reducible refine World.ownsRow.drew ?_)) _ 1 1 [.bool d.var, .string d.tm.name, .slice p8 d.tm.args.length c8] (by rfl) rfl (by first | exact HX7.out | exact xA _ _ _ _) (by simp [Value.oneCell']) (by unfold maxLen; omega) (by omega) (by first | exact Nat.le_refl _ | omega | (simp; done) | (simp; omega)) ?_; intro g8 d8 w13 hown8 hgrow8; have HO8 := Lib.hid hown8; have HB13 : Hid (Below w10.heap.size w10 w13) := Lib.hid (below_grownL (by repeat (first | with_reducible exact HB14.out | with_reducible exact HB13.out | with_reducible exact HB11.out | with_reducible exact Below.refl _ _ | with_reducible refine Below.alloc ?_ (by first | omega | (simp; done) | (simp; omega)) _ | with_reducible refine Below.drew ?_)) (Nat.le_refl _) hgrow8 (HO7.out.lt g7 rfl).1); have hz13 := HB13.out.size; clear hown8 hgrow8)
                try go_simp
                refine hK.out _ _ (fun _ => by exact HSX.out _ (by repeat (first | with_reducible exact HB14.out | with_reducible exact HB13.out | with_reducible exact HB11.out | with_reducible exact Below.refl _ _ | with_reducible refine Below.alloc ?_ (by first | omega | (simp; done) | (simp; omega)) _ | with_reducible refine Below.drew ?_))) (fun hHeld => ?_)
                have hHeld := hHeld (by decide)
                clear hK K
                try simp only [Act.put, List.getElem_toArray, List.getElem_cons_zero, List.getElem_cons_succ, List.setIfInBounds_toArray, List.set_cons_zero, List.set_cons_succ]
                refine sink_one (i := 11) (by kernel_rfl) rfl (fun K hK => ?_)
                (refine step_app _ (by rfl) (.tmp 67) (.tmp 70) _ (by rfl) w10.heap.size 86 i0 _ 3 48 Tryz.underlying46 hi hz0 hz1 hz2 rfl (by omega) g8 d8 (m + 1) (y1 ++ [.bool d.var, .string d.tm.name, .slice p8 d.tm.args.length c8]) (by rfl) HO8.out ⟨g, o2, none⟩ m2 (sc - m) y3 (by rfl) HL3.out (N3.out _ (by repeat (first | with_reducible exact HB14.out | with_reducible exact HB13.out | with_reducible exact HB11.out | with_reducible exact Below.refl _ _ | with_reducible refine Below.alloc ?_ (by first | omega | (simp; done) | (simp; omega)) _ | with_reducible refine Below.drew ?_))) H1D.out (by unfold maxLen; omega) (by omega) (by first | exact Nat.le_refl _ | omega | (simp; done) | (simp; omega)) ?_; intro g9 c9 w14 hown9 hgrow9; have HO9 := Lib.hid hown9; have HB14 : Hid (Below w10.heap.size w10 w14) := Lib.hid (below_grownL (by repeat (first | with_reducible exact HB14.out | with_reducible exact HB13.out | with_reducible exact HB11.out | with_reducible exact Below.refl _ _ | with_reducible refine Below.alloc ?_ (by first | omega | (simp; done) | (simp; omega)) _ | with_reducible refine Below.drew ?_)) (Nat.le_refl _) hgrow9 (HO8.out.lt g8 rfl).1); clear hown9 hgrow9)
                try go_simp
                refine hK.out _ _ (fun _ => by exact HSX.out _ (by repeat (first | with_reducible exact HB14.out | with_reducible exact HB13.out | with_reducible exact HB11.out | with_reducible exact Below.refl _ _ | with_reducible refine Below.alloc ?_ (by first | omega | (simp; done) | (simp; omega)) _ | with_reducible refine Below.drew ?_))) (fun hHeld => ?_)
                have hHeld := hHeld (by decide)
                clear hK K
                try simp only [Act.put, List.getElem_toArray, List.getElem_cons_zero, List.getElem_cons_succ, List.setIfInBounds_toArray, List.set_cons_zero, List.set_cons_succ]
                refine sink_one (i := 12) (by kernel_rfl) rfl (fun K hK => ?_)
                go_simp
                refine hK.out _ _ (fun hne => absurd rfl hne) (fun hHeld => ?_)
                clear hK K
                try simp only [Act.put, List.getElem_toArray, List.getElem_cons_zero, List.getElem_cons_succ, List.setIfInBounds_toArray, List.set_cons_zero, List.set_cons_succ]
                refine sink_done (by kernel_rfl) ?_ _
                have HE : Hid (∃ L', RowE w1.heap.size w1.heap.size w14 (.slice (some ⟨g9, 0, none⟩) (m + 1 + m2) c9) L' ∧ L'.length = m + 1 + m2 ∧ bdsE L' = makeL (l.take (k + 1))) := Lib.hid (by
                  have h9 := HO9.out
                  rw [← HY1.out, ← HY3.out] at h9
                  refine ⟨_, row_ins (d := d) HROW.out (carry_below HB10.out (Nat.le_refl _) HB14.out) hbs hbs hm HM2.out hz10 h9 (HTO.out.frame fun q hq => HB14.out.block q hq.2.1) (fun q hq => ⟨by have := hq.1; omega, by have := hq.2.1; have := HB14.out.size; omega⟩) (fun hq => by have h1 := hq.2.1; have h2 := (HO9.out.lt g9 rfl).1; omega), by simp; have := HM2.out; omega, by rw [HN.out, bdsE_ins]⟩)
                have HR14 := Lib.hid (HR.out.kept (carry_below HB10.out (Nat.le_refl _) HB14.out))
                have HBW14 := Lib.hid (carry_below HB.out (Nat.le_refl _) (carry_below HB10.out (Nat.le_refl _) HB14.out))
                have hz14 : w1.heap.size ≤ w14.heap.size := by have := HB14.out.size; omega
                clear hs1 hs2
                go_wp2
                obtain ⟨L2, hr2, hl2, hb2⟩ := HE.out
                go_roundw
                case rel => exact ⟨k + 1, L2, g9, c9, by omega, by go_num, by rw [hl2], by rw [hl2]; exact hr2, hb2, hz14, HR14.out, HBW14.out⟩
                case measure => simp [intOf]; omega
              · go_simp
                refine hK.out _ _ (fun _ => by exact HSX.out _ (by repeat (first | with_reducible exact HB14.out | with_reducible exact HB13.out | with_reducible exact HB11.out | with_reducible exact Below.refl _ _ | with_reducible refine Below.alloc ?_ (by first | omega | (simp; done) | (simp; omega)) _ | with_reducible refine Below.drew ?_))) (fun hHeld => ?_)
                have hHeld := hHeld (by decide)
                clear hK K
                try simp only [Act.put, List.getElem_toArray, List.getElem_cons_zero, List.getElem_cons_succ, List.setIfInBounds_toArray, List.set_cons_zero, List.set_cons_succ]
                refine sink_one (i := 4) (by kernel_rfl) rfl (fun K hK => ?_)
                (refine step_app _ (by rfl) (.tmp 60) (.tmp 63) _ (by rfl) w10.heap.size 86 i0 _ 3 48 Tryz.underlying46 hi hz0 hz1 hz2 rfl (by omega) _ 0 0 [] (by rfl) (by repeat (first | exact own_c _ _ | exact World.ownsRow_made _ #[] 0 (Nat.le_refl _) (by decide) (by simp) | with_reducible refine World.ownsRow.alloc ?_ _ | with_reducible refine World.ownsRow.drew ?_)) ⟨g, 0, none⟩ m sc y1 (by rfl) HL1.out (N1.out _ (by repeat (first | with_reducible exact HB14.out | with_reducible exact HB13.out | with_reducible exact HB11.out | with_reducible exact Below.refl _ _ | with_reducible refine Below.alloc ?_ (by first | omega | (simp; done) | (simp; omega)) _ | with_reducible refine Below.drew ?_))) H1K.out (by unfold maxLen; omega) (by omega) (by first | exact Nat.le_refl _ | omega | (simp; done) | (simp; omega)) ?_; intro g7 c7 w11 hown7 hgrow7; have HO7 : Hid (w11.ownsRow w10.heap.size 86 3 (.slice (some ⟨g7, 0, none⟩) m c7) m y1) := Lib.hid (by simpa using hown7); have HB11 : Hid (Below w10.heap.size w10 w11) := Lib.hid (below_grownL (by repeat (first | with_reducible exact HB14.out | with_reducible exact HB13.out | with_reducible exact HB11.out | with_reducible exact Below.refl _ _ | with_reducible refine Below.alloc ?_ (by first | omega | (simp; done) | (simp; omega)) _ | with_reducible refine Below.drew ?_)) (Nat.le_refl _) hgrow7 (by first | exact Nat.le_refl _ | omega | (simp; done) | (simp; omega))); have hz11 := HB11.out.size; (first | (have HX7 := Lib.hid (xB hgrow7)) | (have HX7 := Lib.hid (xC hgrow7)) | skip); clear hown7 hgrow7)
                try go_simp
                refine hK.out _ _ (fun _ => by exact HSX.out _ (by repeat (first | with_reducible exact HB14.out | with_reducible exact HB13.out | with_reducible exact HB11.out | with_reducible exact Below.refl _ _ | with_reducible refine Below.alloc ?_ (by first | omega | (simp; done) | (simp; omega)) _ | with_reducible refine Below.drew ?_))) (fun hHeld => ?_)
                have hHeld := hHeld (by decide)
                clear hK K
                try simp only [Act.put, List.getElem_toArray, List.getElem_cons_zero, List.getElem_cons_succ, List.setIfInBounds_toArray, List.set_cons_zero, List.set_cons_succ]
                refine sink_one (i := 7) (by kernel_rfl) rfl (fun K hK => ?_)
                (refine step_app _ (by rfl) (.tmp 64) (.tmp 66) _ (by rfl) w10.heap.size 86 i0 _ 3 48 Tryz.underlying46 hi hz0 hz1 hz2 rfl (by omega) g7 c7 m y1 (by rfl) (by repeat (first | with_reducible exact HO7.out | with_reducible refine World.ownsRow.alloc ?_ _ | with_reducible refine World.ownsRow.drew ?_)) _ 1 1 [.bool d.var, .string d.tm.name, .slice p8 d.tm.args.length c8] (by rfl) rfl (by first | exact HX7.out | exact xA _ _ _ _) (by simp [Value.oneCell']) (by unfold maxLen; omega) (by omega) (by first | exact Nat.le_refl _ | omega | (simp; done) | (simp; omega)) ?_; intro g8 d8 w13 hown8 hgrow8; have HO8 := Lib.hid hown8; have HB13 : Hid (Below w10.heap.size w10 w13) := Lib.hid (below_grownL (by repeat (first | with_reducible exact HB14.out | with_reducible exact HB13.out | with_reducible exact HB11.out | with_reducible exact Below.refl _ _ | with_reducible refine Below.alloc ?_ (by first | omega | (simp; done) | (simp; omega)) _ | with_reducible refine Below.drew ?_)) (Nat.le_refl _) hgrow8 (HO7.out.lt g7 rfl).1); have hz13 := HB13.out.size; clear hown8 hgrow8)
                try go_simp
                refine hK.out _ _ (fun _ => by exact HSX.out _ (by repeat (first | with_reducible exact HB14.out | with_reducible exact HB13.out | with_reducible exact HB11.out | with_reducible exact Below.refl _ _ | with_reducible refine Below.alloc ?_ (by first | omega | (simp; done) | (simp; omega)) _ | with_reducible refine Below.drew ?_))) (fun hHeld => ?_)
                have hHeld := hHeld (by decide)
                clear hK K
                try simp only [Act.put, List.getElem_toArray, List.getElem_cons_zero, List.getElem_cons_succ, List.setIfInBounds_toArray, List.set_cons_zero, List.set_cons_succ]
                refine sink_one (i := 11) (by kernel_rfl) rfl (fun K hK => ?_)
                (refine step_app _ (by rfl) (.tmp 67) (.tmp 70) _ (by rfl) w10.heap.size 86 i0 _ 3 48 Tryz.underlying46 hi hz0 hz1 hz2 rfl (by omega) g8 d8 (m + 1) (y1 ++ [.bool d.var, .string d.tm.name, .slice p8 d.tm.args.length c8]) (by rfl) HO8.out ⟨g, o2, none⟩ m2 (sc - m) y3 (by rfl) HL3.out (N3.out _ (by repeat (first | with_reducible exact HB14.out | with_reducible exact HB13.out | with_reducible exact HB11.out | with_reducible exact Below.refl _ _ | with_reducible refine Below.alloc ?_ (by first | omega | (simp; done) | (simp; omega)) _ | with_reducible refine Below.drew ?_))) H1D.out (by unfold maxLen; omega) (by omega) (by first | exact Nat.le_refl _ | omega | (simp; done) | (simp; omega)) ?_; intro g9 c9 w14 hown9 hgrow9; have HO9 := Lib.hid hown9; have HB14 : Hid (Below w10.heap.size w10 w14) := Lib.hid (below_grownL (by repeat (first | with_reducible exact HB14.out | with_reducible exact HB13.out | with_reducible exact HB11.out | with_reducible exact Below.refl _ _ | with_reducible refine Below.alloc ?_ (by first | omega | (simp; done) | (simp; omega)) _ | with_reducible refine Below.drew ?_)) (Nat.le_refl _) hgrow9 (HO8.out.lt g8 rfl).1); clear hown9 hgrow9)
                try go_simp
                refine hK.out _ _ (fun _ => by exact HSX.out _ (by repeat (first | with_reducible exact HB14.out | with_reducible exact HB13.out | with_reducible exact HB11.out | with_reducible exact Below.refl _ _ | with_reducible refine Below.alloc ?_ (by first | omega | (simp; done) | (simp; omega)) _ | with_reducible refine Below.drew ?_))) (fun hHeld => ?_)
                have hHeld := hHeld (by decide)
                clear hK K
                try simp only [Act.put, List.getElem_toArray, List.getElem_cons_zero, List.getElem_cons_succ, List.setIfInBounds_toArray, List.set_cons_zero, List.set_cons_succ]
                refine sink_one (i := 12) (by kernel_rfl) rfl (fun K hK => ?_)
                go_simp
                refine hK.out _ _ (fun hne => absurd rfl hne) (fun hHeld => ?_)
                clear hK K
                try simp only [Act.put, List.getElem_toArray, List.getElem_cons_zero, List.getElem_cons_succ, List.setIfInBounds_toArray, List.set_cons_zero, List.set_cons_succ]
                refine sink_done (by kernel_rfl) ?_ _
                have HE : Hid (∃ L', RowE w1.heap.size w1.heap.size w14 (.slice (some ⟨g9, 0, none⟩) (m + 1 + m2) c9) L' ∧ L'.length = m + 1 + m2 ∧ bdsE L' = makeL (l.take (k + 1))) := Lib.hid (by
                  have h9 := HO9.out
                  rw [← HY1.out, ← HY3.out] at h9
                  refine ⟨_, row_ins (d := d) HROW.out (carry_below HB10.out (Nat.le_refl _) HB14.out) hbs hbs hm HM2.out hz10 h9 (HTO.out.frame fun q hq => HB14.out.block q hq.2.1) (fun q hq => ⟨by have := hq.1; omega, by have := hq.2.1; have := HB14.out.size; omega⟩) (fun hq => by have h1 := hq.2.1; have h2 := (HO9.out.lt g9 rfl).1; omega), by simp; have := HM2.out; omega, by rw [HN.out, bdsE_ins]⟩)
                have HR14 := Lib.hid (HR.out.kept (carry_below HB10.out (Nat.le_refl _) HB14.out))
                have HBW14 := Lib.hid (carry_below HB.out (Nat.le_refl _) (carry_below HB10.out (Nat.le_refl _) HB14.out))
                have hz14 : w1.heap.size ≤ w14.heap.size := by have := HB14.out.size; omega
                clear hs1 hs2
                go_wp2
                obtain ⟨L2, hr2, hl2, hb2⟩ := HE.out
                go_roundw
                case rel => exact ⟨k + 1, L2, g9, c9, by omega, by go_num, by rw [hl2], by rw [hl2]; exact hr2, hb2, hz14, HR14.out, HBW14.out⟩
                case measure => simp [intOf]; omega
            · go_simp
              refine hK.out _ _ (fun _ => by exact HSX.out _ (by repeat (first | with_reducible exact HB14.out | with_reducible exact HB13.out | with_reducible exact HB11.out | with_reducible exact Below.refl _ _ | with_reducible refine Below.alloc ?_ (by first | omega | (simp; done) | (simp; omega)) _ | with_reducible refine Below.drew ?_))) (fun hHeld => ?_)
              have hHeld := hHeld (by decide)
              clear hK K
              try simp only [Act.put, List.getElem_toArray, List.getElem_cons_zero, List.getElem_cons_succ, List.setIfInBounds_toArray, List.set_cons_zero, List.set_cons_succ]
              refine sink_one (i := 0) (by kernel_rfl) rfl (fun K hK => ?_)
              go_simp
              refine hK.out _ _ (fun _ => by exact HSX.out _ (by repeat (first | with_reducible exact HB14.out | with_reducible exact HB13.out | with_reducible exact HB11.out | with_reducible exact Below.refl _ _ | with_reducible refine Below.alloc ?_ (by first | omega | (simp; done) | (simp; omega)) _ | with_reducible refine Below.drew ?_))) (fun hHeld => ?_)
              have hHeld := hHeld (by decide)
              clear hK K
              try simp only [Act.put, List.getElem_toArray, List.getElem_cons_zero, List.getElem_cons_succ, List.setIfInBounds_toArray, List.set_cons_zero, List.set_cons_succ]
              refine sink_one (i := 4) (by kernel_rfl) rfl (fun K hK => ?_)
              (refine step_app _ (by rfl) (.tmp 60) (.tmp 63) _ (by rfl) w10.heap.size 86 i0 _ 3 48 Tryz.underlying46 hi hz0 hz1 hz2 rfl (by omega) _ 0 0 [] (by rfl) (by repeat (first | exact own_c _ _ | exact World.ownsRow_made _ #[] 0 (Nat.le_refl _) (by decide) (by simp) | with_reducible refine World.ownsRow.alloc ?_ _ | with_reducible refine World.ownsRow.drew ?_)) ⟨g, 0, none⟩ m sc y1 (by rfl) HL1.out (N1.out _ (by repeat (first | with_reducible exact HB14.out | with_reducible exact HB13.out | with_reducible exact HB11.out | with_reducible exact Below.refl _ _ | with_reducible refine Below.alloc ?_ (by first | omega | (simp; done) | (simp; omega)) _ | with_reducible refine Below.drew ?_))) H1K.out (by unfold maxLen; omega) (by omega) (by first | exact Nat.le_refl _ | omega | (simp; done) | (simp; omega)) ?_; intro g7 c7 w11 hown7 hgrow7; have HO7 : Hid (w11.ownsRow w10.heap.size 86 3 (.slice (some ⟨g7, 0, none⟩) m c7) m y1) := Lib.hid (by simpa using hown7); have HB11 : Hid (Below w10.heap.size w10 w11) := Lib.hid (below_grownL (by repeat (first | with_reducible exact HB14.out | with_reducible exact HB13.out | with_reducible exact HB11.out | with_reducible exact Below.refl _ _ | with_reducible refine Below.alloc ?_ (by first | omega | (simp; done) | (simp; omega)) _ | with_reducible refine Below.drew ?_)) (Nat.le_refl _) hgrow7 (by first | exact Nat.le_refl _ | omega | (simp; done) | (simp; omega))); have hz11 := HB11.out.size; (first | (have HX7 := Lib.hid (xB hgrow7)) | (have HX7 := Lib.hid (xC hgrow7)) | skip); clear hown7 hgrow7)
              try go_simp
              refine hK.out _ _ (fun _ => by exact HSX.out _ (by repeat (first | with_reducible exact HB14.out | with_reducible exact HB13.out | with_reducible exact HB11.out | with_reducible exact Below.refl _ _ | with_reducible refine Below.alloc ?_ (by first | omega | (simp; done) | (simp; omega)) _ | with_reducible refine Below.drew ?_))) (fun hHeld => ?_)
              have hHeld := hHeld (by decide)
              clear hK K
              try simp only [Act.put, List.getElem_toArray, List.getElem_cons_zero, List.getElem_cons_succ, List.setIfInBounds_toArray, List.set_cons_zero, List.set_cons_succ]
              refine sink_one (i := 7) (by kernel_rfl) rfl (fun K hK => ?_)
              (refine step_app _ (by rfl) (.tmp 64) (.tmp 66) _ (by rfl) w10.heap.size 86 i0 _ 3 48 Tryz.underlying46 hi hz0 hz1 hz2 rfl (by omega) g7 c7 m y1 (by rfl) (by repeat (first | with_reducible exact HO7.out | with_reducible refine World.ownsRow.alloc ?_ _ | with_reducible refine World.ownsRow.drew ?_)) _ 1 1 [.bool d.var, .string d.tm.name, .slice p8 d.tm.args.length c8] (by rfl) rfl (by first | exact HX7.out | exact xA _ _ _ _) (by simp [Value.oneCell']) (by unfold maxLen; omega) (by omega) (by first | exact Nat.le_refl _ | omega | (simp; done) | (simp; omega)) ?_; intro g8 d8 w13 hown8 hgrow8; have HO8 := Lib.hid hown8; have HB13 : Hid (Below w10.heap.size w10 w13) := Lib.hid (below_grownL (by repeat (first | with_reducible exact HB14.out | with_reducible exact HB13.out | with_reducible exact HB11.out | with_reducible exact Below.refl _ _ | with_reducible refine Below.alloc ?_ (by first | omega | (simp; done) | (simp; omega)) _ | with_reducible refine Below.drew ?_)) (Nat.le_refl _) hgrow8 (HO7.out.lt g7 rfl).1); have hz13 := HB13.out.size; clear hown8 hgrow8)
              try go_simp
              refine hK.out _ _ (fun _ => by exact HSX.out _ (by repeat (first | with_reducible exact HB14.out | with_reducible exact HB13.out | with_reducible exact HB11.out | with_reducible exact Below.refl _ _ | with_reducible refine Below.alloc ?_ (by first | omega | (simp; done) | (simp; omega)) _ | with_reducible refine Below.drew ?_))) (fun hHeld => ?_)
              have hHeld := hHeld (by decide)
              clear hK K
              try simp only [Act.put, List.getElem_toArray, List.getElem_cons_zero, List.getElem_cons_succ, List.setIfInBounds_toArray, List.set_cons_zero, List.set_cons_succ]
              refine sink_one (i := 11) (by kernel_rfl) rfl (fun K hK => ?_)
              (refine step_app _ (by rfl) (.tmp 67) (.tmp 70) _ (by rfl) w10.heap.size 86 i0 _ 3 48 Tryz.underlying46 hi hz0 hz1 hz2 rfl (by omega) g8 d8 (m + 1) (y1 ++ [.bool d.var, .string d.tm.name, .slice p8 d.tm.args.length c8]) (by rfl) HO8.out ⟨g, o2, none⟩ m2 (sc - m) y3 (by rfl) HL3.out (N3.out _ (by repeat (first | with_reducible exact HB14.out | with_reducible exact HB13.out | with_reducible exact HB11.out | with_reducible exact Below.refl _ _ | with_reducible refine Below.alloc ?_ (by first | omega | (simp; done) | (simp; omega)) _ | with_reducible refine Below.drew ?_))) H1D.out (by unfold maxLen; omega) (by omega) (by first | exact Nat.le_refl _ | omega | (simp; done) | (simp; omega)) ?_; intro g9 c9 w14 hown9 hgrow9; have HO9 := Lib.hid hown9; have HB14 : Hid (Below w10.heap.size w10 w14) := Lib.hid (below_grownL (by repeat (first | with_reducible exact HB14.out | with_reducible exact HB13.out | with_reducible exact HB11.out | with_reducible exact Below.refl _ _ | with_reducible refine Below.alloc ?_ (by first | omega | (simp; done) | (simp; omega)) _ | with_reducible refine Below.drew ?_)) (Nat.le_refl _) hgrow9 (HO8.out.lt g8 rfl).1); clear hown9 hgrow9)
              try go_simp
              refine hK.out _ _ (fun _ => by exact HSX.out _ (by repeat (first | with_reducible exact HB14.out | with_reducible exact HB13.out | with_reducible exact HB11.out | with_reducible exact Below.refl _ _ | with_reducible refine Below.alloc ?_ (by first | omega | (simp; done) | (simp; omega)) _ | with_reducible refine Below.drew ?_))) (fun hHeld => ?_)
              have hHeld := hHeld (by decide)
              clear hK K
              try simp only [Act.put, List.getElem_toArray, List.getElem_cons_zero, List.getElem_cons_succ, List.setIfInBounds_toArray, List.set_cons_zero, List.set_cons_succ]
              refine sink_one (i := 12) (by kernel_rfl) rfl (fun K hK => ?_)
              go_simp
              refine hK.out _ _ (fun hne => absurd rfl hne) (fun hHeld => ?_)
              clear hK K
              try simp only [Act.put, List.getElem_toArray, List.getElem_cons_zero, List.getElem_cons_succ, List.setIfInBounds_toArray, List.set_cons_zero, List.set_cons_succ]
              refine sink_done (by kernel_rfl) ?_ _
              have HE : Hid (∃ L', RowE w1.heap.size w1.heap.size w14 (.slice (some ⟨g9, 0, none⟩) (m + 1 + m2) c9) L' ∧ L'.length = m + 1 + m2 ∧ bdsE L' = makeL (l.take (k + 1))) := Lib.hid (by
                have h9 := HO9.out
                rw [← HY1.out, ← HY3.out] at h9
                refine ⟨_, row_ins (d := d) HROW.out (carry_below HB10.out (Nat.le_refl _) HB14.out) hbs hbs hm HM2.out hz10 h9 (HTO.out.frame fun q hq => HB14.out.block q hq.2.1) (fun q hq => ⟨by have := hq.1; omega, by have := hq.2.1; have := HB14.out.size; omega⟩) (fun hq => by have h1 := hq.2.1; have h2 := (HO9.out.lt g9 rfl).1; omega), by simp; have := HM2.out; omega, by rw [HN.out, bdsE_ins]⟩)
              have HR14 := Lib.hid (HR.out.kept (carry_below HB10.out (Nat.le_refl _) HB14.out))
              have HBW14 := Lib.hid (carry_below HB.out (Nat.le_refl _) (carry_below HB10.out (Nat.le_refl _) HB14.out))
              have hz14 : w1.heap.size ≤ w14.heap.size := by have := HB14.out.size; omega
              clear hs1 hs2
              go_wp2
              obtain ⟨L2, hr2, hl2, hb2⟩ := HE.out
              go_roundw
              case rel => exact ⟨k + 1, L2, g9, c9, by omega, by go_num, by rw [hl2], by rw [hl2]; exact hr2, hb2, hz14, HR14.out, HBW14.out⟩
              case measure => simp [intOf]; omega
    · have hke : k = l.length := by omega
      have HT : Hid (bdsE L = makeL l) := Lib.hid (by rw [HBD.out, hke, List.take_length])
      obtain ⟨r0, r1⟩ := HR.out
      have hz1w := HZ1.out
      clear hke
      go_wp2
      refine bodyPost_ret (v := .agg #[.slice (some ⟨g, 0, none⟩) L.length sc]) (by simp [results, Tryz.results92, go_sem, r0]) rfl ?_
      refine ⟨_, L, rfl, ?_, HT.out, HB.out.setCell (by simp) _⟩
      exact (HROW.out.setBelow (a := ⟨w.heap.size, 0, none⟩) (by simp; omega) (by simp; omega) _).mono (by omega) (by omega)

end Go.Proofs.YtgpmdfhepanahaaGreat.lit
