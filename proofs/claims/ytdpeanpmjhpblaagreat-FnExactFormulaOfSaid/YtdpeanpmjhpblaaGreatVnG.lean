/- Several texts in one: each says what it proves. No condition but theirs. -/
import Derived.Deep.RegionHeld3
import Derived.WalkKit
import Derived.Outline
import Derived.RangeFuncBox
import Derived.RangeFuncNested
import Derived.OrdersIn
import Derived.TacticsInMore
import Derived.ControlIn
import Derived.Test.YtdpeanpmjhpblaaGreatOwn
import Derived.Test.YtdpeanpmjhpblaaGreatIterX
import Derived.Test.YtdpeanpmjhpblaaGreatCnG
import Derived.Test.YtdpeanpmjhpblaaGreatVarA
import Derived.Deep.AppendLies
/- A region that draws its order and whose last operation waits for all others: the loads are taken first, and the last operation may write what they read. No condition. -/
namespace Go.Proofs.YtdpeanpmjhpblaaGreat
open Go.RowKit
set_option linter.unusedVariables false

section
variable {P : Program} {ops : Array Oper} {Q : Exit → Act → World → Prop} {md : Region.Mode} {S : World → Prop} {n : Nat}

/-- Behind every operation but number n the world meets S. -/
def wpSink (P : Program) (md : Region.Mode) (ops : Array Oper) (Q : Exit → Act → World → Prop) (S : World → Prop) (n : Nat) : Nat → Array Bool → Act → World → Prop
  | 0, seen, act, wd => Region.ready md ops seen = [] ∧ Q .normal act wd
  | left + 1, seen, act, wd =>
    (Region.ready md ops seen = [] → Q .normal act wd) ∧
    ∀ k ∈ Region.ready md ops seen, wpOp P ops Q k (fun act' wd' => (k ≠ n → S wd') ∧ wpSink P md ops Q S n left (seen.setIfInBounds k true) act' wd') act wd

theorem sink_any : ∀ (left : Nat) (seen : Array Bool) (act : Act) (wd : World), wpSink P md ops Q S n left seen act wd → wpAny P md ops Q left seen act wd := by
  intro left
  induction left with
  | zero => exact fun _ _ _ hh => hh
  | succ left more => exact fun seen act wd hh => ⟨hh.1, fun k hk => wpOp_mono (fun _ _ hb => more _ _ _ hb.2) (hh.2 k hk)⟩

theorem sink_first {i : Nat} {oi : Oper} {v : Value} (hi : ops[i]? = some oi) (hin : i ≠ n) (hlast : ∃ on, ops[n]? = some on ∧ ∃ e ∈ on.after, Region.binds md e = true ∧ e.on = i)
    (hsel : ∀ (j : Nat) (o : Oper) cs b, ops[j]? = some o → o.op ≠ .select cs b) (hQ : ∀ c act wd, Q (.panic c) (act.put oi.dst v) wd → Q (.panic c) act wd) :
    ∀ (left : Nat) (seen : Array Bool) (act : Act) (wd : World),
      (∀ j oj, ops[j]? = some oj → j ≠ i → seen.getD j true = false → (∀ e ∈ oj.after, Region.binds md e = true → e.on ≠ i) → oi.apart ops oj = true) →
      i ∈ Region.ready md ops seen → YieldsIf P ops S oi v act → S wd →
      wpSink P md ops Q S n left (seen.setIfInBounds i true) (act.put oi.dst v) wd → wpSink P md ops Q S n (left + 1) seen act wd := by
  intro left
  induction left with
  | zero =>
    intro seen act wd _ hri hyi hSw hend
    refine ⟨fun hnil => absurd (hnil ▸ hri) List.not_mem_nil, fun j hj => ?_⟩
    by_cases hne : j = i
    · subst hne; exact hyi.wpOp hi hSw ⟨fun _ => hSw, hend⟩
    · exact absurd (hend.1 ▸ ready_mono hj hne) List.not_mem_nil
  | succ left more =>
    intro seen act wd hfr hri hyi hSw hend
    refine ⟨fun hnil => absurd (hnil ▸ hri) List.not_mem_nil, fun j hj => ?_⟩
    by_cases hne : j = i
    · subst hne; exact hyi.wpOp hi hSw ⟨fun _ => hSw, hend⟩
    · have later := hend.2 j (ready_mono hj hne)
      obtain ⟨hopen, oj, hoj, hedges⟩ := mem_ready.1 hj
      have hnoedge : ∀ e ∈ oj.after, Region.binds md e = true → e.on ≠ i := by
        intro e he hbind hon
        have hs := hedges e he hbind
        have ho := (mem_ready.1 hri).1
        rw [hon] at hs
        by_cases hsz : i < seen.size
        · simp [hsz] at ho hs; rw [ho] at hs; cases hs
        · simp [Array.getElem?_eq_none (Nat.le_of_not_lt hsz)] at hs
      have hjn : j ≠ n := by
        intro hjn
        subst hjn
        obtain ⟨on, hon, e, he, hbind, heq⟩ := hlast
        rw [hoj] at hon
        cases hon
        exact hnoedge e he hbind heq
      have swapped := wpOp_putIf hoj (hfr j oj hoj hne hopen hnoedge) (fun cs b => hsel i oi cs b hi) (fun cs b => hsel j oj cs b hoj) hQ hyi later
      refine wpOp_mono (fun act' wd' hb => ?_) swapped
      have hSb := hb.2.1 hjn
      refine ⟨fun _ => hSb, more (seen.setIfInBounds j true) act' wd' (fun k ok hk hki hun hno => hfr k ok hk hki ?_ hno) (ready_mono hri (Ne.symm hne)) hb.1 hSb ?_⟩
      · by_cases hjk : j = k
        · subst hjk; exact hopen
        · rwa [getD_set_ne true hjk] at hun
      · rw [Array.setIfInBounds_comm _ _ hne]
        exact hb.2.2

/-- The last operation waits for the others. -/
def waitsAll (md : Region.Mode) (ops : Array Oper) (n i : Nat) : Bool := decide (i ≠ n) && match ops[n]? with
  | some o => o.after.toList.any fun e => Region.binds md e && decide (e.on = i)
  | none => false
theorem waitsAll_spec {i : Nat} (h : waitsAll md ops n i = true) : i ≠ n ∧ ∃ on, ops[n]? = some on ∧ ∃ e ∈ on.after, Region.binds md e = true ∧ e.on = i := by
  unfold waitsAll at h
  rw [Bool.and_eq_true, decide_eq_true_iff] at h
  refine ⟨h.1, ?_⟩
  have h2 := h.2
  cases ho : ops[n]? with
  | none => rw [ho] at h2; cases h2
  | some o =>
    rw [ho] at h2
    obtain ⟨e, he, hbi⟩ := List.any_eq_true.1 h2
    rw [Bool.and_eq_true, decide_eq_true_iff] at hbi
    exact ⟨o, rfl, e, Array.mem_toList_iff.1 he, hbi.1, hbi.2⟩

theorem sink_take (i : Nat) {oi : Oper} {v : Value} {left : Nat} {seen : Array Bool} {act : Act} {wd : World} (hi : ops[i]? = some oi) (hl : waitsAll md ops n i = true)
    (hs : Region.noSelect ops = true) (hf : Region.free md ops seen i = true) (hr : (Region.ready md ops seen).contains i = true) (hw : Region.wanted oi (yielded ops act.tmps) = true)
    (hQ : ∀ c act wd, Q (.panic c) (act.put oi.dst v) wd → Q (.panic c) act wd) (hS : S wd) (hy : ∀ wd, S wd → (execOp act.eval oi).run P wd = .ok (.value v) wd)
    (h : wpSink P md ops Q S n left (seen.setIfInBounds i true) (act.put oi.dst v) wd) : wpSink P md ops Q S n (left + 1) seen act wd :=
  sink_first hi (waitsAll_spec hl).1 (waitsAll_spec hl).2 (Region.noSelect_spec hs) hQ left seen act wd (Region.free_spec hi hf) (by simpa using hr) (.inl ⟨hw, hy⟩) hS h

/-- One operation alone may come up. -/
theorem sink_one {i : Nat} {o : Oper} {left : Nat} {seen : Array Bool} {act : Act} {wd : World} (hr : Region.ready md ops seen = [i]) (ho : ops[i]? = some o)
    (h : ∀ K' : Act → World → Prop, Shut (∀ act wd, (i ≠ n → S wd) → ((i ≠ n → S wd) → wpSink P md ops Q S n left (seen.setIfInBounds i true) act wd) → K' act wd) → if Region.wanted o (yielded ops act.tmps) = true then Oper.wp P o act wd K' Q else K' (act.put o.dst undef) wd) :
    wpSink P md ops Q S n (left + 1) seen act wd := by
  refine ⟨fun hnil => (by rw [hr] at hnil; cases hnil), fun k hk => ?_⟩
  rw [hr] at hk
  obtain rfl : k = i := List.mem_singleton.1 hk
  exact wpOp_step ho (fun K' hK => h K' (fun act wd hS hW => hK act wd ⟨hS, hW hS⟩))

theorem sink_done {seen : Array Bool} {act : Act} {wd : World} (hr : Region.ready md ops seen = []) (h : Q .normal act wd) : ∀ left, wpSink P md ops Q S n left seen act wd := by
  intro left
  cases left with
  | zero => exact ⟨hr, h⟩
  | succ m => exact ⟨fun _ => h, fun k hk => (by rw [hr] at hk; cases hk)⟩

theorem sink_start {id : Nat} {act : Act} {wd : World} (n : Nat) (S : World → Prop) (hm : P.follows .mixedOrders = true) (hS : S wd.drew)
    (h : S wd.drew → wpSink P .any ops Q S n ops.size (Array.replicate ops.size false) act wd.drew) : (Code.region id ops true).wp P Q act wd :=
  wp_region_any hm (sink_any _ _ _ _ (h hS))
end

end Go.Proofs.YtdpeanpmjhpblaaGreat

/- A region that draws its order and whose last operations wait for the others: the loads are taken first, and the last operations may write what they read. No condition. -/
namespace Go.Proofs.YtdpeanpmjhpblaaGreat
open Go.RowKit
set_option linter.unusedVariables false

section
variable {P : Program} {ops : Array Oper} {Q : Exit → Act → World → Prop} {md : Region.Mode} {S : World → Prop} {B : Nat → Bool}

/-- Behind every operation but number n the world meets S. -/
def wpSinkB (P : Program) (md : Region.Mode) (ops : Array Oper) (Q : Exit → Act → World → Prop) (S : World → Prop) (B : Nat → Bool) : Nat → Array Bool → Act → World → Prop
  | 0, seen, act, wd => Region.ready md ops seen = [] ∧ Q .normal act wd
  | left + 1, seen, act, wd =>
    (Region.ready md ops seen = [] → Q .normal act wd) ∧
    ∀ k ∈ Region.ready md ops seen, wpOp P ops Q k (fun act' wd' => (B k = false → S wd') ∧ wpSinkB P md ops Q S B left (seen.setIfInBounds k true) act' wd') act wd

theorem sinkB_any : ∀ (left : Nat) (seen : Array Bool) (act : Act) (wd : World), wpSinkB P md ops Q S B left seen act wd → wpAny P md ops Q left seen act wd := by
  intro left
  induction left with
  | zero => exact fun _ _ _ hh => hh
  | succ left more => exact fun seen act wd hh => ⟨hh.1, fun k hk => wpOp_mono (fun _ _ hb => more _ _ _ hb.2) (hh.2 k hk)⟩

theorem sinkB_first {i : Nat} {oi : Oper} {v : Value} (hi : ops[i]? = some oi) (hin : B i = false) (hlast : ∀ k, B k = true → ∀ on, ops[k]? = some on → ∃ e ∈ on.after, Region.binds md e = true ∧ e.on = i)
    (hsel : ∀ (j : Nat) (o : Oper) cs b, ops[j]? = some o → o.op ≠ .select cs b) (hQ : ∀ c act wd, Q (.panic c) (act.put oi.dst v) wd → Q (.panic c) act wd) :
    ∀ (left : Nat) (seen : Array Bool) (act : Act) (wd : World),
      (∀ j oj, ops[j]? = some oj → j ≠ i → seen.getD j true = false → (∀ e ∈ oj.after, Region.binds md e = true → e.on ≠ i) → oi.apart ops oj = true) →
      i ∈ Region.ready md ops seen → YieldsIf P ops S oi v act → S wd →
      wpSinkB P md ops Q S B left (seen.setIfInBounds i true) (act.put oi.dst v) wd → wpSinkB P md ops Q S B (left + 1) seen act wd := by
  intro left
  induction left with
  | zero =>
    intro seen act wd _ hri hyi hSw hend
    refine ⟨fun hnil => absurd (hnil ▸ hri) List.not_mem_nil, fun j hj => ?_⟩
    by_cases hne : j = i
    · subst hne; exact hyi.wpOp hi hSw ⟨fun _ => hSw, hend⟩
    · exact absurd (hend.1 ▸ ready_mono hj hne) List.not_mem_nil
  | succ left more =>
    intro seen act wd hfr hri hyi hSw hend
    refine ⟨fun hnil => absurd (hnil ▸ hri) List.not_mem_nil, fun j hj => ?_⟩
    by_cases hne : j = i
    · subst hne; exact hyi.wpOp hi hSw ⟨fun _ => hSw, hend⟩
    · have later := hend.2 j (ready_mono hj hne)
      obtain ⟨hopen, oj, hoj, hedges⟩ := mem_ready.1 hj
      have hnoedge : ∀ e ∈ oj.after, Region.binds md e = true → e.on ≠ i := by
        intro e he hbind hon
        have hs := hedges e he hbind
        have ho := (mem_ready.1 hri).1
        rw [hon] at hs
        by_cases hsz : i < seen.size
        · simp [hsz] at ho hs; rw [ho] at hs; cases hs
        · simp [Array.getElem?_eq_none (Nat.le_of_not_lt hsz)] at hs
      have hjn : B j = false := by
        cases hB : B j with
        | false => rfl
        | true =>
          obtain ⟨e, he, hbind, heq⟩ := hlast j hB oj hoj
          exact (hnoedge e he hbind heq).elim
      have swapped := wpOp_putIf hoj (hfr j oj hoj hne hopen hnoedge) (fun cs b => hsel i oi cs b hi) (fun cs b => hsel j oj cs b hoj) hQ hyi later
      refine wpOp_mono (fun act' wd' hb => ?_) swapped
      have hSb := hb.2.1 hjn
      refine ⟨fun _ => hSb, more (seen.setIfInBounds j true) act' wd' (fun k ok hk hki hun hno => hfr k ok hk hki ?_ hno) (ready_mono hri (Ne.symm hne)) hb.1 hSb ?_⟩
      · by_cases hjk : j = k
        · subst hjk; exact hopen
        · rwa [getD_set_ne true hjk] at hun
      · rw [Array.setIfInBounds_comm _ _ hne]
        exact hb.2.2

/-- The operations behind wait for this one. -/
def waitsB (md : Region.Mode) (ops : Array Oper) (B : Nat → Bool) (i : Nat) : Bool := !B i && (List.range ops.size).all fun k => !B k || match ops[k]? with
  | some o => o.after.toList.any fun e => Region.binds md e && decide (e.on = i)
  | none => true
theorem waitsB_spec {i : Nat} (h : waitsB md ops B i = true) : B i = false ∧ ∀ k, B k = true → ∀ on, ops[k]? = some on → ∃ e ∈ on.after, Region.binds md e = true ∧ e.on = i := by
  unfold waitsB at h
  rw [Bool.and_eq_true] at h
  refine ⟨by simpa using h.1, fun k hk on hon => ?_⟩
  have h2 := List.all_eq_true.1 h.2 k (List.mem_range.2 (Array.getElem?_eq_some_iff.1 hon).1)
  rw [hk, hon] at h2
  simp only [Bool.not_true, Bool.false_or] at h2
  obtain ⟨e, he, hbi⟩ := List.any_eq_true.1 h2
  rw [Bool.and_eq_true, decide_eq_true_iff] at hbi
  exact ⟨e, Array.mem_toList_iff.1 he, hbi.1, hbi.2⟩

theorem sinkB_take (i : Nat) {oi : Oper} {v : Value} {left : Nat} {seen : Array Bool} {act : Act} {wd : World} (hi : ops[i]? = some oi) (hl : waitsB md ops B i = true)
    (hs : Region.noSelect ops = true) (hf : Region.free md ops seen i = true) (hr : (Region.ready md ops seen).contains i = true) (hw : Region.wanted oi (yielded ops act.tmps) = true)
    (hQ : ∀ c act wd, Q (.panic c) (act.put oi.dst v) wd → Q (.panic c) act wd) (hS : S wd) (hy : ∀ wd, S wd → (execOp act.eval oi).run P wd = .ok (.value v) wd)
    (h : wpSinkB P md ops Q S B left (seen.setIfInBounds i true) (act.put oi.dst v) wd) : wpSinkB P md ops Q S B (left + 1) seen act wd :=
  sinkB_first hi (waitsB_spec hl).1 (waitsB_spec hl).2 (Region.noSelect_spec hs) hQ left seen act wd (Region.free_spec hi hf) (by simpa using hr) (.inl ⟨hw, hy⟩) hS h

/-- One operation alone may come up. -/
theorem sinkB_one {i : Nat} {o : Oper} {left : Nat} {seen : Array Bool} {act : Act} {wd : World} (hr : Region.ready md ops seen = [i]) (ho : ops[i]? = some o)
    (h : ∀ K' : Act → World → Prop, Shut (∀ act wd, (B i = false → S wd) → ((B i = false → S wd) → wpSinkB P md ops Q S B left (seen.setIfInBounds i true) act wd) → K' act wd) → if Region.wanted o (yielded ops act.tmps) = true then Oper.wp P o act wd K' Q else K' (act.put o.dst undef) wd) :
    wpSinkB P md ops Q S B (left + 1) seen act wd := by
  refine ⟨fun hnil => (by rw [hr] at hnil; cases hnil), fun k hk => ?_⟩
  rw [hr] at hk
  obtain rfl : k = i := List.mem_singleton.1 hk
  exact wpOp_step ho (fun K' hK => h K' (fun act wd hS hW => hK act wd ⟨hS, hW hS⟩))

theorem sinkB_two {i j : Nat} {oi oj : Oper} {left : Nat} {seen : Array Bool} {act : Act} {wd : World} (hr : Region.ready md ops seen = [i, j]) (hi : ops[i]? = some oi) (hj : ops[j]? = some oj)
    (h1 : ∀ K' : Act → World → Prop, Shut (∀ act wd, (B i = false → S wd) → ((B i = false → S wd) → wpSinkB P md ops Q S B left (seen.setIfInBounds i true) act wd) → K' act wd) → if Region.wanted oi (yielded ops act.tmps) = true then Oper.wp P oi act wd K' Q else K' (act.put oi.dst undef) wd)
    (h2 : ∀ K' : Act → World → Prop, Shut (∀ act wd, (B j = false → S wd) → ((B j = false → S wd) → wpSinkB P md ops Q S B left (seen.setIfInBounds j true) act wd) → K' act wd) → if Region.wanted oj (yielded ops act.tmps) = true then Oper.wp P oj act wd K' Q else K' (act.put oj.dst undef) wd) :
    wpSinkB P md ops Q S B (left + 1) seen act wd := by
  refine ⟨fun hnil => (by rw [hr] at hnil; cases hnil), fun k hk => ?_⟩
  rw [hr] at hk
  rcases List.mem_cons.1 hk with rfl | hk
  · exact wpOp_step hi (fun K' hK => h1 K' (fun act wd hS hW => hK act wd ⟨hS, hW hS⟩))
  · obtain rfl : k = j := List.mem_singleton.1 hk
    exact wpOp_step hj (fun K' hK => h2 K' (fun act wd hS hW => hK act wd ⟨hS, hW hS⟩))

theorem sinkB_done {seen : Array Bool} {act : Act} {wd : World} (hr : Region.ready md ops seen = []) (h : Q .normal act wd) : ∀ left, wpSinkB P md ops Q S B left seen act wd := by
  intro left
  cases left with
  | zero => exact ⟨hr, h⟩
  | succ m => exact ⟨fun _ => h, fun k hk => (by rw [hr] at hk; cases hk)⟩

theorem sinkB_start {id : Nat} {act : Act} {wd : World} (B : Nat → Bool) (S : World → Prop) (hm : P.follows .mixedOrders = true) (hS : S wd.drew)
    (h : S wd.drew → wpSinkB P .any ops Q S B ops.size (Array.replicate ops.size false) act wd.drew) : (Code.region id ops true).wp P Q act wd :=
  wp_region_any hm (sinkB_any _ _ _ _ (h hS))
end

end Go.Proofs.YtdpeanpmjhpblaaGreat

/- A region that draws its order, in a round of a loop over a function: it may be walked as outside. No condition. -/
namespace Go.Proofs.YtdpeanpmjhpblaaGreat
open Go.RowKit
set_option linter.unusedVariables false

theorem opIn_of_op {o : Oper} {l n : Nat} {P : Program} {a : Act} {w : World} {K : Act → World → Prop} {Q : Exit → Act → World → Prop} (hd : ∀ c, o.op ≠ .defer c) (h : o.wp P a w K Q) :
    o.wpIn (Fence.wide.inRound l) n P a w K Q := by
  refine ⟨fun _ _ => trivial, ?_⟩
  rw [show (Fence.wide.inRound l).round = some l from rfl, Oper.semAt_some l _ _ hd]
  unfold Oper.wp at h
  generalize (execOp a.eval o).run P w = r at *
  cases r with
  | ok x w' =>
    cases x
    case enter f args => exact ⟨(fun h => by cases h), callsIn_wide.2 h⟩
    case row row args => exact ⟨(fun h => by cases h), fun c cs _ => let ⟨v, w', r, s⟩ := h c cs; ⟨v, w', r, stepsIn_wide.2 s⟩⟩
    all_goals first | exact h | exact False.elim h
  | halt x w' => cases x <;> first | exact h | exact False.elim h

/-- No operation of the region is a 'defer'. -/
def noDefer (ops : Array Oper) : Bool := ops.all fun o => match o.op with | .defer _ => false | _ => true
theorem noDefer_spec {ops : Array Oper} (h : noDefer ops = true) {i : Nat} {o : Oper} (hi : ops[i]? = some o) : ∀ c, o.op ≠ .defer c := by
  intro c e
  have h1 := Array.all_eq_true_iff_forall_mem.1 h o (Array.mem_of_getElem? hi)
  simp [e] at h1

theorem anyIn_of_any {P : Program} {md : Region.Mode} {ops : Array Oper} {Q : Exit → Act → World → Prop} {l n : Nat} (hn : noDefer ops = true) (hl : ¬ LetsOut Q) :
    ∀ (fuel : Nat) (listed : Array Bool) (a : Act) (w : World), wpAny P md ops Q fuel listed a w → wpAnyIn (Fence.wide.inRound l) n P md ops Q fuel listed a w := by
  intro fuel
  induction fuel with
  | zero => exact fun _ _ _ h => h
  | succ fuel ih =>
    intro listed a w h
    refine ⟨h.1, fun i hi => ?_⟩
    have h2 := wpOp_mono (fun a w => ih _ a w) (h.2 i hi)
    unfold wpOpIn
    unfold wpOp at h2
    split
    · rename_i ho; simp only [ho] at h2; exact h2
    · rename_i o ho
      simp only [ho] at h2
      split
      · rename_i hw; simp only [hw, if_true] at h2; exact opIn_of_op (noDefer_spec hn ho) (h2.resolve_right fun h => hl h.2)
      · rename_i hw; simp only [hw] at h2; exact ⟨fun _ _ => trivial, h2⟩

theorem sinkIn_start {P : Program} {ops : Array Oper} {Q : Exit → Act → World → Prop} {l m id : Nat} {act : Act} {wd : World} (n : Nat) (S : World → Prop) (hn : noDefer ops = true) (hl : ¬ LetsOut Q) (hm : P.follows .mixedOrders = true) (hS : S wd.drew)
    (h : S wd.drew → wpSink P .any ops Q S n ops.size (Array.replicate ops.size false) act wd.drew) : (Code.region id ops true).wpIn (Fence.wide.inRound l) m P Q act wd :=
  wpIn_region_any hm (anyIn_of_any hn hl _ _ _ _ (sink_any _ _ _ _ (h hS)))

theorem sinkBIn_start {P : Program} {ops : Array Oper} {Q : Exit → Act → World → Prop} {l m id : Nat} {act : Act} {wd : World} (B : Nat → Bool) (S : World → Prop) (hn : noDefer ops = true) (hl : ¬ LetsOut Q) (hm : P.follows .mixedOrders = true) (hS : S wd.drew)
    (h : S wd.drew → wpSinkB P .any ops Q S B ops.size (Array.replicate ops.size false) act wd.drew) : (Code.region id ops true).wpIn (Fence.wide.inRound l) m P Q act wd :=
  wpIn_region_any hm (anyIn_of_any hn hl _ _ _ _ (sinkB_any _ _ _ _ (h hS)))

end Go.Proofs.YtdpeanpmjhpblaaGreat

/- Rows of terms that a call owns, the terms' arguments where they were: no condition. -/
namespace Go.Proofs.YtdpeanpmjhpblaaGreat
open Go.RowKit
set_option linter.unusedVariables false

def teC (e : Tm × Value) : List Value := [.string e.1.name, e.2]
def teF : List (Tm × Value) → List Value
  | [] => []
  | e :: r => teC e ++ teF r
def tmsE (L : List (Tm × Value)) : List Tm := L.map Prod.fst

theorem teF_len : ∀ L : List (Tm × Value), (teF L).length = L.length * 2
  | [] => rfl
  | e :: r => by rw [teF, List.length_append, teF_len r, List.length_cons]; simp [teC]; omega
theorem teF_append : ∀ a b : List (Tm × Value), teF (a ++ b) = teF a ++ teF b
  | [], b => by simp [teF]
  | e :: r, b => by rw [List.cons_append, teF, teF, teF_append r b, List.append_assoc]
theorem teF_take (L : List (Tm × Value)) (k : Nat) (h : k ≤ L.length) : (teF L).take (k * 2) = teF (L.take k) := by
  have e := teF_append (L.take k) (L.drop k)
  rw [List.take_append_drop] at e
  have hl : (teF (L.take k)).length = k * 2 := by rw [teF_len, List.length_take, Nat.min_eq_left h]
  rw [e, List.take_append_of_le_length (by omega), List.take_of_length_le (by omega)]
theorem teF_drop (L : List (Tm × Value)) (k : Nat) (h : k ≤ L.length) : (teF L).drop (k * 2) = teF (L.drop k) := by
  have e := teF_append (L.take k) (L.drop k)
  rw [List.take_append_drop] at e
  have hl : (teF (L.take k)).length = k * 2 := by rw [teF_len, List.length_take, Nat.min_eq_left h]
  rw [e, ← hl, List.drop_left]
theorem teF_at : ∀ {L : List (Tm × Value)} {k : Nat} {e : Tm × Value}, L[k]? = some e → (teF L)[k * 2]? = some (.string e.1.name) ∧ (teF L)[k * 2 + 1]? = some e.2
  | [], _, _, h => by cases h
  | a :: r, 0, e, h => by simp at h; subst h; rw [teF]; exact ⟨rfl, rfl⟩
  | a :: r, k + 1, e, h => by
    have ih := teF_at (L := r) (k := k) (e := e) (by simpa using h)
    have hl : (teC a).length = 2 := rfl
    rw [teF, List.getElem?_append_right (by omega), List.getElem?_append_right (by omega), hl]
    rw [show (k + 1) * 2 - 2 = k * 2 by omega, show (k + 1) * 2 + 1 - 2 = k * 2 + 1 by omega]
    exact ih
theorem tmsE_len (L : List (Tm × Value)) : (tmsE L).length = L.length := by simp [tmsE]

/-- Terms in a row of the call's own, their arguments as they lay in a world before. -/
structure RowT (w0 : World) (base : Nat) (w : World) (v : Value) (L : List (Tm × Value)) : Prop where
  row : w.ownsRow base 31 2 v L.length (teF L)
  args : ∀ e ∈ L, TmS w0 e.2 e.1.args

theorem RowT.kept {w0 w w' : World} {base : Nat} {v : Value} {L : List (Tm × Value)} (h : RowT w0 base w v L) (hb : Below w.heap.size w w') : RowT w0 base w' v L := ⟨own_kept h.row hb, h.args⟩
theorem RowT.read {w0 w : World} {base : Nat} {v : Value} {L : List (Tm × Value)} (h : RowT w0 base w v L) (hb : Below w0.heap.size w0 w) : TmS w v (tmsE L) := by
  rcases h.row.2 with ⟨rfl, h0⟩ | ⟨g, cap, cur, rfl, hbg, hg, hnc, hcm, hcs, htake⟩
  · rw [List.length_eq_zero_iff.1 h0]; exact .emp _ _
  · by_cases h0 : L.length = 0
    · have e := List.length_eq_zero_iff.1 h0
      subst e; exact .emp _ _
    · have hc : ∀ j u, (teF L)[j]? = some u → w.cell? ⟨g, j, none⟩ = some u := fun j u hj => by
        have hjl := (List.getElem?_eq_some_iff.1 hj).1
        rw [teF_len] at hjl
        have hr := h.row
        rw [hr.cellAt j hjl]; exact hj
      have ht : ∀ {i : Nat} {t : Tm}, (tmsE L)[i]? = some t → ∃ e, L[i]? = some e ∧ e.1 = t := fun {i t} hi => by
        unfold tmsE at hi
        rw [List.getElem?_map] at hi
        cases hq : L[i]? with
        | none => rw [hq] at hi; cases hi
        | some e => rw [hq] at hi; injection hi with hi; exact ⟨e, rfl, hi⟩
      have hrow := TmS.row (w := w) g 0 cap (tmsE L) (fun i => (L[i]?.map Prod.snd).getD (.bool false)) (by rw [tmsE_len]; omega)
        (fun i t hi => by obtain ⟨e, he, rfl⟩ := ht hi; have := hc _ _ (teF_at he).1; simpa using this)
        (fun i t hi => by obtain ⟨e, he, rfl⟩ := ht hi; have := hc _ _ (teF_at he).2; rw [he]; simpa using this)
        (fun i t hi => by obtain ⟨e, he, rfl⟩ := ht hi; rw [he]; exact (h.args e (List.mem_of_getElem? he)).kept hb)
      rwa [tmsE_len] at hrow

theorem teL {w : World} {b : Nat} : ∀ (l : List Tm) (off : Nat), (∀ k t, l[k]? = some t → TmAt w b off k t) →
    ∃ L, tmsE L = l ∧ (∀ e ∈ L, TmS w e.2 e.1.args) ∧ ∀ j u, (teF L)[j]? = some u → w.cell? ⟨b, off + j, none⟩ = some u
  | [], off, h => ⟨[], rfl, fun e he => (by cases he), fun j u hj => by simp [teF] at hj⟩
  | t :: r, off, h => by
    obtain ⟨va, h0, h1, h2⟩ := h 0 t rfl
    obtain ⟨L, e1, e2, e3⟩ := teL (w := w) (b := b) r (off + 2) (fun k x hk => by
      obtain ⟨vx, k0, k1, k2⟩ := h (k + 1) x (by simpa using hk)
      exact ⟨vx, by rw [show off + 2 + k * 2 = off + (k + 1) * 2 by omega]; exact k0, by rw [show off + 2 + k * 2 + 1 = off + (k + 1) * 2 + 1 by omega]; exact k1, k2⟩)
    refine ⟨(t, va) :: L, by rw [← e1]; rfl, fun e he => ?_, fun j u hj => ?_⟩
    · rcases List.mem_cons.1 he with rfl | he
      · exact h2
      · exact e2 e he
    · rw [teF] at hj
      match j, hj with
      | 0, hj => have e : Value.string t.name = u := by simpa [teC] using hj
                 subst e; simpa using h0
      | 1, hj => have e : va = u := by simpa [teC] using hj
                 subst e; simpa using h1
      | j + 2, hj =>
        have hl : (teC (t, va)).length = 2 := rfl
        rw [List.getElem?_append_right (by omega), hl, show j + 2 - 2 = j by omega] at hj
        have := e3 j u hj
        rwa [show off + 2 + j = off + (j + 2) by omega] at this

theorem teF_one {w : World} : ∀ (L : List (Tm × Value)), (∀ e ∈ L, TmS w e.2 e.1.args) → ∀ u ∈ teF L, u.oneCell' = true
  | [], _, u, hu => by cases hu
  | e :: r, h, u, hu => by
    rw [teF, List.mem_append] at hu
    rcases hu with hu | hu
    · have he := h e List.mem_cons_self
      obtain ⟨a, c, hv⟩ := he.is_slice
      rcases List.mem_cons.1 hu with rfl | hu
      · rfl
      · rw [List.mem_singleton.1 hu, hv]; rfl
    · exact teF_one r (fun x hx => h x (List.mem_cons_of_mem _ hx)) u hu

def CloneEnd (l : List Tm) (w : World) (e : Ending) (w' : World) : Prop := ∃ v L, e = .returned v ∧ RowT w w.heap.size w' v L ∧ tmsE L = l ∧ Below w.heap.size w w'

end Go.Proofs.YtdpeanpmjhpblaaGreat

/- The program's list of a term's variables: a contract, for terms of at most 1048576 names' bytes and arguments whose variables have no arguments. -/
namespace Go.Proofs.YtdpeanpmjhpblaaGreat
open Go.RowKit Go.Shelf
set_option linter.unusedVariables false
set_option linter.unusedSimpArgs false

attribute [local go_sem] Oper.semAt_some

/-- The variables among the nodes, with the slices of their arguments. -/
def vT (l : List Nd) : List (Tm × Value) := (l.filter fun x => varB x.tm.name).map fun x => (x.tm, .slice x.a x.tm.args.length x.c)
theorem vT_yes (l : List Nd) {x : Nd} (h : varB x.tm.name = true) : vT (l ++ [x]) = vT l ++ [(x.tm, .slice x.a x.tm.args.length x.c)] := by simp [vT, List.filter_append, h]
theorem vT_no (l : List Nd) {x : Nd} (h : varB x.tm.name = false) : vT (l ++ [x]) = vT l := by simp [vT, List.filter_append, h]
theorem vT_len (l : List Nd) : (vT l).length ≤ l.length := by simp [vT]; exact List.length_filter_le _ _
/-- The variables of a term, each as often as it occurs. -/
def Tm.vs (t : Tm) : List Tm := t.nds.filter fun s => varB s.name
theorem vT_tms (l : List Nd) : tmsE (vT l) = (l.map Nd.tm).filter fun s => varB s.name := by
  unfold vT tmsE
  rw [List.map_map, List.filter_map]
  rfl
/-- A term whose variables have no arguments. -/
def Tm.plain (t : Tm) : Prop := ∀ s ∈ t.nds, varB s.name = true → s.args = []

theorem rowAt_boxed {W : World} {b : Nat} {t : TypeId} {v : Value} (h : Boxed W b t v) : rowAt W b = v.ownBlock := by
  unfold rowAt
  rw [show W.heap[b]? = _ from h]
  rfl

theorem kpx_app {W w8 W' : World} {n0 bb gg cap n m : Nat} {v : Value} {xs ys zs : List Value} {tmp : Obj} (hbv : Boxed W bb 29 v) (hrow : W.ownsRow n0 31 2 v n xs) (hn0 : n0 ≤ W.heap.size)
    (hg : (W.alloc tmp).grownBy w8 v.ownBlock) (hat : v.ownBlock = some gg ∨ W.heap.size ≤ gg) (hB : Below n0 w8 W') (hblk : ∀ k, k ≠ bb → k ≠ gg → W'.heap[k]? = w8.heap[k]?)
    (hbb : Boxed W' bb 29 (.slice (some ⟨gg, 0, none⟩) m cap)) (hrow' : W'.ownsRow n0 31 2 (.slice (some ⟨gg, 0, none⟩) m cap) m zs) : KpX n0 bb W W' := by
  have hlt : ∀ r, v.ownBlock = some r → n0 ≤ r := fun r e => (hrow.lt r e).1
  have hb8 : Below n0 W w8 := ((Below.refl n0 W).alloc hn0 tmp).grown hg (by simp; omega) fun j ej => hlt j ej
  refine ⟨hb8.trans hB, fun ok => ?_⟩
  have e1 := rowAt_boxed hbv
  have e2 := rowAt_boxed hbb
  refine ⟨⟨hbb.lt, fun g h => ?_⟩, fun k a fz hk hne => ?_, fun g h => ?_⟩
  · rw [e2] at h; exact (hrow'.lt g h).2
  · rw [e1] at hne
    have hkl := (Array.getElem?_eq_some_iff.1 hk).1
    have hkb : k ≠ bb := fun e => by rw [e, show W.heap[bb]? = _ from hbv] at hk; cases hk
    have hkg : k ≠ gg := fun e => by
      rcases hat with h | h
      · exact hne (by rw [h, e])
      · omega
    rw [hblk k hkb hkg, hg.block k (by simp; omega) (fun e => hne e.symm), Below.heap_alloc _ _ _ hkl]
    exact hk
  · rw [e2] at h
    have e : gg = g := by simpa [Value.ownBlock] using h
    subst e
    rcases hat with h | h
    · exact .inl (by rw [e1, h])
    · exact .inr h
theorem kot_app {W w8 W' : World} {n0 n : Nat} {v : Value} {xs : List Value} {tmp : Obj} (hrow : W.ownsRow n0 31 2 v n xs) (hg : (W.alloc tmp).grownBy w8 v.ownBlock) (h : KeepsOthers w8 W') : KeepsOthers W W' := by
  refine ((KeepsOthers.alloc W tmp).trans (KeepsOthers.of_grownBy hg fun j o ej hj => ?_)).trans h
  rcases (hrow.alloc tmp).2 with ⟨rfl, _⟩ | ⟨g, cap, cur, rfl, _, hgb, _⟩
  · simp [Value.ownBlock] at ej
  · obtain rfl : g = j := by simpa [Value.ownBlock] using ej
    rw [hgb] at hj; cases hj; rfl
theorem set_two {xs : List Value} {n : Nat} (h : xs.length = n * 2) (a b c d : Value) : ((xs ++ [a, b]).set (n * 2) c).set (n * 2 + 1) d = xs ++ [c, d] := by
  rw [List.set_append_right _ _ (by omega), List.set_append_right _ _ (by omega), h, Nat.sub_self, show n * 2 + 1 - n * 2 = 1 by omega]; rfl
theorem un_drew {W w8 : World} {row : Option Nat} (h : W.drew.grownBy w8 row) : W.grownBy w8 row := ⟨h.os, h.tape, h.output, h.size, h.block⟩

/-- What the round has done, in either order of its stores. -/
def VinR (W W' : World) (n0 bb gg cap m : Nat) (zs : List Value) : Prop := KeepsOthers W W' ∧ KpX n0 bb W W' ∧ Boxed W' bb 29 (.slice (some ⟨gg, 0, none⟩) m cap) ∧ W'.ownsRow n0 31 2 (.slice (some ⟨gg, 0, none⟩) m cap) m zs
theorem vinA {W w8 : World} {n0 bb gg cap n : Nat} {v a b : Value} {xs : List Value} {tmp : Obj} {z0 z1 : Value} (hbv : Boxed W bb 29 v) (hrow : W.ownsRow n0 31 2 v n xs) (hn0 : n0 ≤ W.heap.size) (hbn : n0 ≤ bb)
    (hg : (W.alloc tmp).grownBy w8 v.ownBlock) (hat : v.ownBlock = some gg ∨ W.heap.size ≤ gg) (hown : w8.ownsRow n0 31 2 (.slice (some ⟨gg, 0, none⟩) (n + 1) cap) (n + 1) (xs ++ [z0, z1])) :
    VinR W (((w8.setCell ⟨gg, n * 2, none⟩ a).setCell ⟨gg, n * 2 + 1, none⟩ b).setCell ⟨bb, 0, none⟩ (.slice (some ⟨gg, 0, none⟩) (n + 1) cap)) n0 bb gg cap (n + 1) (xs ++ [a, b]) ∧
    VinR W (((w8.setCell ⟨bb, 0, none⟩ (.slice (some ⟨gg, 0, none⟩) (n + 1) cap)).setCell ⟨gg, n * 2, none⟩ a).setCell ⟨gg, n * 2 + 1, none⟩ b) n0 bb gg cap (n + 1) (xs ++ [a, b]) := by
  have hgg : n0 ≤ gg := (hown.lt gg rfl).1
  have hv1 : Boxed w8 bb 29 v := (hbv.alloc tmp).kept hg (hbv.not_row (by decide) hrow)
  have hne : some bb ≠ (Value.slice (some ⟨gg, 0, none⟩) (n + 1) cap).ownBlock := hv1.not_row (by decide) hown
  have hbg : bb ≠ gg := fun e => hne (by rw [e]; rfl)
  have hxl : xs.length = n * 2 := hrow.1
  constructor
  · have r1 := (hown.stored (n * 2) a).1
    have r2 := (r1.stored (n * 2 + 1) b).1
    rw [set_two hxl] at r2
    have r3 := ownsRow_setCell_other r2 (a := ⟨bb, 0, none⟩) (fun e => hne e.symm) (.slice (some ⟨gg, 0, none⟩) (n + 1) cap)
    have b1 := hv1.kept ((hown.stored (n * 2) a).2) (fun e => hbg (Option.some.inj e))
    have b2 := b1.kept ((r1.stored (n * 2 + 1) b).2) (fun e => hbg (Option.some.inj e))
    have b3 := b2.set (.slice (some ⟨gg, 0, none⟩) (n + 1) cap)
    exact ⟨kot_app hrow hg (((KeepsOthers.setCell _ _ _).trans (KeepsOthers.setCell _ _ _)).trans (KeepsOthers.setCell _ _ _)),
      kpx_app (ys := xs) hbv hrow hn0 hg hat ((((Below.refl _ _).setCell (by exact hgg) _).setCell (by exact hgg) _).setCell (by exact hbn) _) (fun k h1 h2 => by rw [Below.heap_setCell _ _ _ _ (by simpa using h1), Below.heap_setCell _ _ _ _ (by simpa using h2), Below.heap_setCell _ _ _ _ (by simpa using h2)]) b3 r3, b3, r3⟩
  · have b1 := hv1.set (.slice (some ⟨gg, 0, none⟩) (n + 1) cap)
    have r0 := ownsRow_setCell_other hown (a := ⟨bb, 0, none⟩) (fun e => hne e.symm) (.slice (some ⟨gg, 0, none⟩) (n + 1) cap)
    have r1 := (r0.stored (n * 2) a)
    have r2 := (r1.1.stored (n * 2 + 1) b)
    have b2 := b1.kept r1.2 (fun e => hbg (Option.some.inj e))
    have b3 := b2.kept r2.2 (fun e => hbg (Option.some.inj e))
    have r3 := r2.1
    rw [set_two hxl] at r3
    exact ⟨kot_app hrow hg (((KeepsOthers.setCell _ _ _).trans (KeepsOthers.setCell _ _ _)).trans (KeepsOthers.setCell _ _ _)),
      kpx_app (ys := xs) hbv hrow hn0 hg hat ((((Below.refl _ _).setCell (by exact hbn) _).setCell (by exact hgg) _).setCell (by exact hgg) _) (fun k h1 h2 => by rw [Below.heap_setCell _ _ _ _ (by simpa using h2), Below.heap_setCell _ _ _ _ (by simpa using h2), Below.heap_setCell _ _ _ _ (by simpa using h1)]) b3 r3, b3, r3⟩
theorem VinR.drew {W W' : World} {n0 bb gg cap m : Nat} {zs : List Value} (h : VinR W W' n0 bb gg cap m zs) : VinR W W'.drew n0 bb gg cap m zs :=
  ⟨h.1.trans (KeepsOthers.drew _), ⟨h.2.1.1.drew, h.2.1.2⟩, h.2.2.1, h.2.2.2⟩

def VinEnd (t : Tm) (w : World) (e : Ending) (w' : World) : Prop := ∃ v L, e = .returned v ∧ RowT w w.heap.size w' v L ∧ tmsE L = t.vs ∧ Below w.heap.size w w'

set_option maxRecDepth 100000 in
set_option maxHeartbeats 4000000 in
theorem varsIn_in (t : Tm) (w : World) (va : Value) (hv : TmS w va t.args) (hw : t.wt ≤ 1048576) (hp : t.plain) :
    CallsIn Fence.wide 9 Tryz.prog 49 #[.agg #[.string t.name, va]] w (VinEnd t w) := by
  obtain ⟨a, c, rfl⟩ := hv.is_slice
  obtain ⟨i0, hi, hz0, hz1, hz2⟩ := info_parts infoTm
  have HV := Lib.hid hv
  have HP := Lib.hid hp
  have B3 := Lib.hid (((Below.refl w.heap.size w).alloc (Nat.le_refl _) (.cells #[.string t.name, .slice a t.args.length c] 31)).alloc (by simp) (.cells #[.slice none 0 0] 29))
  have T3 := Lib.hid ((two_new w (.string t.name) (.slice a t.args.length c) 31 _ rfl).alloc (.cells #[.slice none 0 0] 29))
  clear hv hp
  obtain ⟨b0, b1, b2⟩ := T3.out
  refine callsIn_of_wp_marks Tryz.func49 rfl trivial ?_ rfl
  simp only [Tryz.ntmps49, List.size_toArray, List.length_cons, List.length_nil, Nat.reduceAdd, Nat.reduceSub, Array.replicate_succ, Array.replicate_zero, List.push_toArray, List.append_toArray, List.nil_append, List.cons_append]
  gi_wp2
  refine ⟨trivial, ?_⟩
  refine (callsIn_wide.2 (nodesOf_any t _ _ (HV.out.kept B3.out))).mono ?_
  rintro e w2 ⟨rfl, rfl⟩
  have C5 : Hid (Boxed (((w.alloc (.cells #[.string t.name, .slice a t.args.length c] 31)).alloc (.cells #[.slice none 0 0] 29)).alloc (.cells #[.string t.name, .slice a t.args.length c] 31)) (w.heap.size + 1) 29 (.slice none 0 0)) := Lib.hid (by
    have h := Boxed.new (w.alloc (.cells #[.string t.name, .slice a t.args.length c] 31)) 29 (.slice none 0 0)
    have e : (w.alloc (.cells #[.string t.name, .slice a t.args.length c] 31)).heap.size = w.heap.size + 1 := by simp
    rw [e] at h
    exact h.alloc _)
  have X5 := Lib.hid (two_new ((w.alloc (.cells #[.string t.name, .slice a t.args.length c] 31)).alloc (.cells #[.slice none 0 0] 29)) (.string t.name) (.slice a t.args.length c) 31 (w.heap.size + 1 + 1) (by simp))
  have B6 := Lib.hid (B3.out.alloc B3.out.size (.cells #[.string t.name, .slice a t.args.length c] 31))
  obtain ⟨W0, hW0⟩ : ∃ W0, ((w.alloc (.cells #[.string t.name, .slice a t.args.length c] 31)).alloc (.cells #[.slice none 0 0] 29)).alloc (.cells #[.string t.name, .slice a t.args.length c] 31) = W0 := ⟨_, rfl⟩
  have hW0s : W0.heap.size = w.heap.size + 3 := by rw [← hW0]; simp
  rw [hW0] at C5 X5 B6 ⊢
  have hlim : t.lim 9223372036854775806 := Tm.lim_of_wt t _ (by omega)
  have hN : t.nds.length ≤ 1048577 := by rw [Tm.nds_len]; have := Tm.sz_wt t; omega
  have OK0 : OKb (w.heap.size + 1) W0 := ⟨by omega, fun g h => by rw [rowAt_boxed C5.out] at h; simp [Value.ownBlock] at h⟩
  clear hW0 b0 b1 b2
  gi_wp2
  refine wpIn_rangeFunc_ownH rfl (by omega) (gf := 93) (lb := #[.pointer (some ⟨w.heap.size + 1 + 1, 0, none⟩)]) rfl trivial (enters_of Tryz.func93 (by kernel_rfl) rfl)
    (nodesX_stops (w.heap.size + 1) (9 - 1) (w.heap.size + 1 + 1) w t _ hlim HV.out W0 B6.out (by omega) X5.out OK0) (fun h k => h.trans k) (KpX.book (by omega) (by omega)) (Below.refl _ _) (fun _ => rfl)
    (fun pre W => (∃ v, Boxed W (w.heap.size + 1) 29 v ∧ W.ownsRow w.heap.size 31 2 v (vT pre).length (teF (vT pre)) ∧ True) ∧ Below w.heap.size w W)
    (fun _ _ _ => False)
    (OwnFrom.and (Own.from (holdsRow_own w.heap.size (w.heap.size + 1) 29 31 2 (fun pre : List Nd => (vT pre).length) (fun pre => teF (vT pre)) (fun _ v => True)) _) (ownFrom_below (Nat.le_refl _) (by omega)))
    (fun _ _ _ _ _ hs _ _ => hs)
    ⟨⟨_, C5.out, by simpa [vT, teF] using World.ownsRow_nil W0 w.heap.size 31 2, trivial⟩, B6.out⟩
    (fun x a' W => ∃ Bx, NdBox W Bx x ∧ a' = { tmps := #[.agg #[.string t.name, .slice a t.args.length c], .pointer (some ⟨w.heap.size, 0, none⟩), .slice none 0 0, .pointer (some ⟨w.heap.size + 1, 0, none⟩), .pointer (some ⟨Bx, 0, none⟩), .agg #[.string t.name, .slice a t.args.length c], .func (.func 93) #[] #[.pointer (some ⟨w.heap.size + 1 + 1, 0, none⟩)], .agg #[.string x.tm.name, .slice x.a x.tm.args.length x.c], undef, undef, undef, undef, undef, undef, undef, undef, undef, undef], defers := [] })
    (fun x a' _ X Y row hs hg hr => by obtain ⟨Bx, h2, h3⟩ := hs; exact ⟨Bx, ndBox_own Bx (fun _ => x) () X Y row h2 hg (fun r e => (hr r e).2), h3⟩)
    ?assign ?body ?done ?stop
  case assign =>
    rintro l pre x W K ⟨⟨v, hbv, hrow, hnn⟩, hB1⟩ hK
    simp only [Nd.enc]
    gi_wp2
    exact hK _ _ ((KeepsOthers.alloc _ _).from _) ((KpX.refl _ _ W).alloc hB1.size _) ⟨⟨v, hbv.alloc _, hrow.alloc _, trivial⟩, hB1.alloc hB1.size _⟩ ⟨W.heap.size, NdBox.new W x, rfl⟩
  case body =>
    rintro l pre x a' W hl ⟨r, hr⟩ ⟨⟨v, hbv, hrow, -⟩, hB1⟩ ⟨Bx, hbx, rfl⟩ hlt
    obtain ⟨x0, x1⟩ := hbx.cells
    have C := Lib.hid (isVar_all x.tm.name W)
    cases hb : varB x.tm.name with
    | false =>
      have HE : Hid (vT (pre ++ [x]) = vT pre) := Lib.hid (vT_no _ hb)
      rw [hb] at C
      clear hb
      gi_wp2
      refine ⟨trivial, ?_⟩
      refine (callsIn_wide.2 C.out).mono ?_
      rintro e w2 ⟨rfl, rfl⟩
      gi_wp2
      exact ⟨KeepsFrom.refl _ _, KpX.refl _ _ _, ⟨v, hbv, by rw [HE.out]; exact hrow, trivial⟩, hB1⟩
    | true =>
      have HE : Hid (vT (pre ++ [x]) = vT pre ++ [(x.tm, .slice x.a x.tm.args.length x.c)]) := Lib.hid (vT_yes _ hb)
      rw [hb] at C
      have hvl := vT_len pre
      obtain ⟨n, hn⟩ : ∃ n, n = (vT pre).length := ⟨_, rfl⟩
      have HNN := Lib.hid hn
      obtain ⟨xs, hxs⟩ : ∃ xs, xs = teF (vT pre) := ⟨_, rfl⟩
      have HXS := Lib.hid hxs
      rw [← hn] at hvl
      rw [← hn, ← hxs] at hrow
      clear hb hn hxs
      obtain ⟨vp, vc, rfl⟩ : ∃ p c, v = .slice p n c := by
        rcases hrow.2 with ⟨rfl, h0⟩ | ⟨g, cap, cur, rfl, _⟩
        · exact ⟨none, 0, by rw [h0]⟩
        · exact ⟨_, _, rfl⟩
      have HBV := Lib.hid hbv
      have HROW := Lib.hid hrow
      have HB1 := Lib.hid hB1
      have k0 := hbv.cell
      have hws := hB1.size
      have hbl : w.heap.size + 1 < W.heap.size := hbv.lt
      clear hr
      gi_wp2
      refine ⟨trivial, ?_⟩
      refine (callsIn_wide.2 C.out).mono ?_
      rintro e w2 ⟨rfl, rfl⟩
      gi_wp2
      refine sinkBIn_start (fun k => decide (4 ≤ k)) (fun w' => w'.cell? ⟨w.heap.size + 1, 0, none⟩ = some (.slice vp n vc) ∧ w'.cell? ⟨Bx, 0, none⟩ = some (.string x.tm.name) ∧ w'.cell? ⟨Bx, 1, none⟩ = some (.slice x.a x.tm.args.length x.c)) (by kernel_rfl) (by rintro ⟨a, w, h⟩; exact h) (by kernel_rfl) (by exact ⟨by first | assumption | exact carry_cell' ((Below.refl _ _).alloc (Nat.le_refl _) _).drew (by assumption) | exact carry_cell' (Below.refl _ _).drew (by assumption), by first | assumption | exact carry_cell' ((Below.refl _ _).alloc (Nat.le_refl _) _).drew (by assumption) | exact carry_cell' (Below.refl _ _).drew (by assumption), by first | assumption | exact carry_cell' ((Below.refl _ _).alloc (Nat.le_refl _) _).drew (by assumption) | exact carry_cell' (Below.refl _ _).drew (by assumption)⟩) (fun hHeld => ?_)
      refine sinkB_take 0 (v := ?_) rfl (by kernel_rfl) (by kernel_rfl) (by kernel_rfl) (by kernel_rfl) (by rfl) (fun _ _ _ h => h) (by assumption) ?_ ?_; rotate_left; (intro w hSw; (try dsimp only at hSw); go_simp; try (with_reducible rfl))
      try simp only [Act.put, List.getElem_toArray, List.getElem_cons_zero, List.getElem_cons_succ, List.setIfInBounds_toArray, List.set_cons_zero, List.set_cons_succ]
      refine sinkB_take 1 (v := ?_) rfl (by kernel_rfl) (by kernel_rfl) (by kernel_rfl) (by kernel_rfl) (by rfl) (fun _ _ _ h => h) (by assumption) ?_ ?_; rotate_left; (intro w hSw; (try dsimp only at hSw); go_simp; try (with_reducible rfl))
      try simp only [Act.put, List.getElem_toArray, List.getElem_cons_zero, List.getElem_cons_succ, List.setIfInBounds_toArray, List.set_cons_zero, List.set_cons_succ]
      refine sinkB_take 2 (v := ?_) rfl (by kernel_rfl) (by kernel_rfl) (by kernel_rfl) (by kernel_rfl) (by rfl) (fun _ _ _ h => h) (by assumption) ?_ ?_; rotate_left; (intro w hSw; (try dsimp only at hSw); go_simp; try (with_reducible rfl))
      try simp only [Act.put, List.getElem_toArray, List.getElem_cons_zero, List.getElem_cons_succ, List.setIfInBounds_toArray, List.set_cons_zero, List.set_cons_succ]
      refine sinkB_one (i := 3) (by kernel_rfl) rfl (fun K hK => ?_)
      go_simp
      refine hK.out _ _ (fun _ => by exact ⟨by first | assumption | exact carry_cell' ((Below.refl _ _).alloc (Nat.le_refl _) _).drew (by assumption) | exact carry_cell' (Below.refl _ _).drew (by assumption), by first | assumption | exact carry_cell' ((Below.refl _ _).alloc (Nat.le_refl _) _).drew (by assumption) | exact carry_cell' (Below.refl _ _).drew (by assumption), by first | assumption | exact carry_cell' ((Below.refl _ _).alloc (Nat.le_refl _) _).drew (by assumption) | exact carry_cell' (Below.refl _ _).drew (by assumption)⟩) (fun hHeld => ?_)
      have hHeld := hHeld (by decide)
      clear hK K
      try simp only [Act.put, List.getElem_toArray, List.getElem_cons_zero, List.getElem_cons_succ, List.setIfInBounds_toArray, List.set_cons_zero, List.set_cons_succ]
      refine sinkB_one (i := 4) (by kernel_rfl) rfl (fun K hK => ?_)
      (refine step_append_lies _ (by rfl) _ _ _ (by rfl) w.heap.size 31 i0 _ 2 40 Tryz.underlying29 hi hz0 hz1 hz2 rfl (by omega) (.slice vp n vc) n xs (by rfl) (by first | exact (HROW.out.alloc _).drew | exact HROW.out.drew.alloc _) ⟨W.heap.size, 0, none⟩ 1 1 [.string ⟨#[]⟩, .slice none 0 0] (by rfl) (by rfl) (by first | exact World.news_of_block (cs := #[.string ⟨#[]⟩, .slice none 0 0]) (t := 31) (fr := (0, 0)) (heap_alloc_new W _) | exact World.news_of_block (cs := #[.string ⟨#[]⟩, .slice none 0 0]) (t := 31) (fr := (0, 0)) (heap_alloc_new W.drew _)) (by simp [Value.oneCell']) (by omega) (by unfold maxLen; omega) (by omega) (by simp; omega) (W.heap.size + 1) (by simp) ?_; intro gg cap w8 hown8 hgrow hat hlt8; have HO8 := Lib.hid hown8; have HG8 := Lib.hid (un_drew hgrow); have HAT : Hid ((Value.slice vp n vc).ownBlock = some gg ∨ W.heap.size ≤ gg) := Lib.hid (hat.imp id fun h => by omega); have hv1 : Boxed w8 (w.heap.size + 1) 29 (.slice vp n vc) := (HBV.out.alloc _).kept HG8.out (HBV.out.not_row (by decide) HROW.out); have hc1 := hv1.cell; have hf1 := hv1.frozen; have hne : w.heap.size + 1 ≠ gg := (fun e => hv1.not_row (by decide) HO8.out (by rw [e]; rfl)); have hne' : gg ≠ w.heap.size + 1 := hne.symm; have g0 : w8.cell? ⟨gg, n * 2, none⟩ = some (.string ⟨#[]⟩) := (by rw [HO8.out.cellAt _ (by omega), List.getElem?_append_right (by rw [HROW.out.1]; omega), HROW.out.1, Nat.sub_self]; rfl); have g1 : w8.cell? ⟨gg, n * 2 + 1, none⟩ = some (.slice none 0 0) := (by rw [HO8.out.cellAt _ (by omega), List.getElem?_append_right (by rw [HROW.out.1]; omega), HROW.out.1, show n * 2 + 1 - n * 2 = 1 by omega]; rfl); have gf0 := HO8.out.frozenAt (n * 2); have gf1 := HO8.out.frozenAt (n * 2 + 1); have hnn : (n : Int) < (n : Int) + 1 := (by omega); have hnn1 : n < n + 1 := (by omega); have hnn2 : (0 : Int) ≤ (n : Int) := (by omega); clear hown8 hgrow hat)
      try go_simp
      refine hK.out _ _ (fun h => absurd h (by decide)) (fun hHeld => ?_)
      clear hK K
      try simp only [Act.put, List.getElem_toArray, List.getElem_cons_zero, List.getElem_cons_succ, List.setIfInBounds_toArray, List.set_cons_zero, List.set_cons_succ]
      refine sinkB_two (i := 5) (j := 7) (by kernel_rfl) rfl rfl (fun K hK => ?_) (fun K hK => ?_)
      · go_simp
        refine hK.out _ _ (fun h => absurd h (by decide)) (fun hHeld => ?_)
        clear hK K
        try simp only [Act.put, List.getElem_toArray, List.getElem_cons_zero, List.getElem_cons_succ, List.setIfInBounds_toArray, List.set_cons_zero, List.set_cons_succ]
        refine sinkB_two (i := 6) (j := 7) (by kernel_rfl) rfl rfl (fun K hK => ?_) (fun K hK => ?_)
        · go_simp
          refine hK.out _ _ (fun h => absurd h (by decide)) (fun hHeld => ?_)
          clear hK K
          try simp only [Act.put, List.getElem_toArray, List.getElem_cons_zero, List.getElem_cons_succ, List.setIfInBounds_toArray, List.set_cons_zero, List.set_cons_succ]
          refine sinkB_one (i := 7) (by kernel_rfl) rfl (fun K hK => ?_)
          go_simp
          refine hK.out _ _ (fun h => absurd h (by decide)) (fun hHeld => ?_)
          clear hK K
          try simp only [Act.put, List.getElem_toArray, List.getElem_cons_zero, List.getElem_cons_succ, List.setIfInBounds_toArray, List.set_cons_zero, List.set_cons_succ]
          refine sinkB_done (by kernel_rfl) ?_ _
          gi_wp2
          have HF : Hid (VinR W _ _ _ _ _ _ _ ∧ VinR W _ _ _ _ _ _ _) := Lib.hid (vinA (a := .string x.tm.name) (b := .slice x.a x.tm.args.length x.c) HBV.out HROW.out hws (by omega) HG8.out HAT.out HO8.out)
          have HT : Hid (xs ++ [.string x.tm.name, .slice x.a x.tm.args.length x.c] = teF (vT (pre ++ [x])) ∧ n + 1 = (vT (pre ++ [x])).length) := Lib.hid ⟨by rw [HE.out, teF_append, HXS.out]; rfl, by rw [HE.out, List.length_append, HNN.out]; rfl⟩
          first
            | (have h := HF.out.1; exact ⟨h.1.from _, h.2.1, ⟨_, h.2.2.1, by rw [← HT.out.1, ← HT.out.2]; exact h.2.2.2, trivial⟩, HB1.out.trans h.2.1.1⟩)
            | (have h := HF.out.2; exact ⟨h.1.from _, h.2.1, ⟨_, h.2.2.1, by rw [← HT.out.1, ← HT.out.2]; exact h.2.2.2, trivial⟩, HB1.out.trans h.2.1.1⟩)
        · go_simp
          refine hK.out _ _ (fun h => absurd h (by decide)) (fun hHeld => ?_)
          clear hK K
          try simp only [Act.put, List.getElem_toArray, List.getElem_cons_zero, List.getElem_cons_succ, List.setIfInBounds_toArray, List.set_cons_zero, List.set_cons_succ]
          refine sinkB_one (i := 6) (by kernel_rfl) rfl (fun K hK => ?_)
          go_simp
          refine hK.out _ _ (fun h => absurd h (by decide)) (fun hHeld => ?_)
          clear hK K
          try simp only [Act.put, List.getElem_toArray, List.getElem_cons_zero, List.getElem_cons_succ, List.setIfInBounds_toArray, List.set_cons_zero, List.set_cons_succ]
          refine sinkB_done (by kernel_rfl) ?_ _
          gi_wp2
          have HF : Hid (VinR W _ _ _ _ _ _ _ ∧ VinR W _ _ _ _ _ _ _) := Lib.hid (vinA (a := .string x.tm.name) (b := .slice x.a x.tm.args.length x.c) HBV.out HROW.out hws (by omega) HG8.out HAT.out HO8.out)
          have HT : Hid (xs ++ [.string x.tm.name, .slice x.a x.tm.args.length x.c] = teF (vT (pre ++ [x])) ∧ n + 1 = (vT (pre ++ [x])).length) := Lib.hid ⟨by rw [HE.out, teF_append, HXS.out]; rfl, by rw [HE.out, List.length_append, HNN.out]; rfl⟩
          first
            | (have h := HF.out.1; exact ⟨h.1.from _, h.2.1, ⟨_, h.2.2.1, by rw [← HT.out.1, ← HT.out.2]; exact h.2.2.2, trivial⟩, HB1.out.trans h.2.1.1⟩)
            | (have h := HF.out.2; exact ⟨h.1.from _, h.2.1, ⟨_, h.2.2.1, by rw [← HT.out.1, ← HT.out.2]; exact h.2.2.2, trivial⟩, HB1.out.trans h.2.1.1⟩)
      · go_simp
        refine hK.out _ _ (fun h => absurd h (by decide)) (fun hHeld => ?_)
        clear hK K
        try simp only [Act.put, List.getElem_toArray, List.getElem_cons_zero, List.getElem_cons_succ, List.setIfInBounds_toArray, List.set_cons_zero, List.set_cons_succ]
        refine sinkB_one (i := 5) (by kernel_rfl) rfl (fun K hK => ?_)
        go_simp
        refine hK.out _ _ (fun h => absurd h (by decide)) (fun hHeld => ?_)
        clear hK K
        try simp only [Act.put, List.getElem_toArray, List.getElem_cons_zero, List.getElem_cons_succ, List.setIfInBounds_toArray, List.set_cons_zero, List.set_cons_succ]
        refine sinkB_one (i := 6) (by kernel_rfl) rfl (fun K hK => ?_)
        go_simp
        refine hK.out _ _ (fun h => absurd h (by decide)) (fun hHeld => ?_)
        clear hK K
        try simp only [Act.put, List.getElem_toArray, List.getElem_cons_zero, List.getElem_cons_succ, List.setIfInBounds_toArray, List.set_cons_zero, List.set_cons_succ]
        refine sinkB_done (by kernel_rfl) ?_ _
        gi_wp2
        have HF : Hid (VinR W _ _ _ _ _ _ _ ∧ VinR W _ _ _ _ _ _ _) := Lib.hid (vinA (a := .string x.tm.name) (b := .slice x.a x.tm.args.length x.c) HBV.out HROW.out hws (by omega) HG8.out HAT.out HO8.out)
        have HT : Hid (xs ++ [.string x.tm.name, .slice x.a x.tm.args.length x.c] = teF (vT (pre ++ [x])) ∧ n + 1 = (vT (pre ++ [x])).length) := Lib.hid ⟨by rw [HE.out, teF_append, HXS.out]; rfl, by rw [HE.out, List.length_append, HNN.out]; rfl⟩
        first
          | (have h := HF.out.1; exact ⟨h.1.from _, h.2.1, ⟨_, h.2.2.1, by rw [← HT.out.1, ← HT.out.2]; exact h.2.2.2, trivial⟩, HB1.out.trans h.2.1.1⟩)
          | (have h := HF.out.2; exact ⟨h.1.from _, h.2.1, ⟨_, h.2.2.1, by rw [← HT.out.1, ← HT.out.2]; exact h.2.2.2, trivial⟩, HB1.out.trans h.2.1.1⟩)
  case done =>
    rintro D xs W hD hS ⟨⟨v, hbv, hrow, -⟩, hB1⟩ hK
    have k0 := hbv.cell
    have HR : Hid (∃ L, W.ownsRow w.heap.size 31 2 v L.length (teF L) ∧ (∀ e ∈ L, TmS w e.2 e.1.args) ∧ tmsE L = t.vs) := Lib.hid ⟨vT xs, hrow, fun e he => by
      unfold vT at he
      obtain ⟨x, hx, rfl⟩ := List.mem_map.1 he
      obtain ⟨hx1, hx2⟩ := List.mem_filter.1 hx
      have hm : x.tm ∈ t.nds := by rw [← hS]; exact List.mem_map_of_mem hx1
      have h0 := HP.out x.tm hm hx2
      show TmS w (.slice x.a x.tm.args.length x.c) x.tm.args
      rw [h0]; exact .emp _ _, by rw [vT_tms, hS]; rfl⟩
    have HK := Lib.hid hK
    have HB1 := Lib.hid hB1
    clear hrow hK hS
    gi_wp2
    refine ⟨by simp, .inl ⟨_, _, rfl, run_takeDeferred HK.out, ?_⟩⟩
    obtain ⟨L, h1, h2, h3⟩ := HR.out
    exact ⟨_, results_tmp rfl _ _ _, v, L, rfl, ⟨ownsRow_putObj h1 _ HK.out rfl, h2⟩, h3, HB1.out.trans (belowK_b (w := w) (Nat.le_refl _) W D _ _ (by omega) HK.out rfl rfl)⟩
  case stop =>
    rintro D c pre W _ _ h _
    exact h.elim

theorem varsIn_any (t : Tm) (w : World) (va : Value) (hv : TmS w va t.args) (hw : t.wt ≤ 1048576) (hp : t.plain) :
    Calls Tryz.prog 49 #[.agg #[.string t.name, va]] w (VinEnd t w) := callsIn_wide.1 (varsIn_in t w va hv hw hp)

end Go.Proofs.YtdpeanpmjhpblaaGreat
