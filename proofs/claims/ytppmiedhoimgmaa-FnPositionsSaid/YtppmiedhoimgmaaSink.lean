/- A region that draws its order and whose last operation waits for all others: the loads are taken first, and the last operation may write what they read. No condition. -/
import Derived.Deep.RegionHeld3
import Derived.WalkKit
import Derived.Outline
namespace Go.Proofs.Ytppmiedhoimgmaa
open Go.RowKit
set_option linter.unusedVariables false

section
variable {P : Program} {ops : Array Oper} {Q : Exit → Act → World → Prop} {md : Region.Mode} {S : World → Prop} {n : Nat}

/-- Behind every operation but number n the world meets S. -/
def wpSink (P : Program) (md : Region.Mode) (ops : Array Oper) (Q : Exit → Act → World → Prop) (S : World → Prop) (n : Nat) : Nat → Array Bool → Act → World → Prop
  | 0, seen, act, wd => Region.ready md ops seen = [] ∧ Q .normal act wd
  | left + 1, seen, act, wd =>
    (Region.ready md ops seen = [] → Q .normal act wd) ∧
    ∀ k ∈ Region.ready md ops seen, wpOp P ops Q k (fun act' wd' => (k ≠ n → S wd') ∧ wpSink P md ops Q S n left (seen.setIfInBounds k true) act' wd') act wd

theorem sink_any : ∀ (left : Nat) (seen : Array Bool) (act : Act) (wd : World), wpSink P md ops Q S n left seen act wd → wpAny P md ops Q left seen act wd := by
  intro left
  induction left with
  | zero => exact fun _ _ _ hh => hh
  | succ left more => exact fun seen act wd hh => ⟨hh.1, fun k hk => wpOp_mono (fun _ _ hb => more _ _ _ hb.2) (hh.2 k hk)⟩

theorem sink_first {i : Nat} {oi : Oper} {v : Value} (hi : ops[i]? = some oi) (hin : i ≠ n) (hlast : ∃ on, ops[n]? = some on ∧ ∃ e ∈ on.after, Region.binds md e = true ∧ e.on = i)
    (hsel : ∀ (j : Nat) (o : Oper) cs b, ops[j]? = some o → o.op ≠ .select cs b) (hQ : ∀ c act wd, Q (.panic c) (act.put oi.dst v) wd → Q (.panic c) act wd) :
    ∀ (left : Nat) (seen : Array Bool) (act : Act) (wd : World),
      (∀ j oj, ops[j]? = some oj → j ≠ i → seen.getD j true = false → (∀ e ∈ oj.after, Region.binds md e = true → e.on ≠ i) → oi.apart ops oj = true) →
      i ∈ Region.ready md ops seen → YieldsIf P ops S oi v act → S wd →
      wpSink P md ops Q S n left (seen.setIfInBounds i true) (act.put oi.dst v) wd → wpSink P md ops Q S n (left + 1) seen act wd := by
  intro left
  induction left with
  | zero =>
    intro seen act wd _ hri hyi hSw hend
    refine ⟨fun hnil => absurd (hnil ▸ hri) List.not_mem_nil, fun j hj => ?_⟩
    by_cases hne : j = i
    · subst hne; exact hyi.wpOp hi hSw ⟨fun _ => hSw, hend⟩
    · exact absurd (hend.1 ▸ ready_mono hj hne) List.not_mem_nil
  | succ left more =>
    intro seen act wd hfr hri hyi hSw hend
    refine ⟨fun hnil => absurd (hnil ▸ hri) List.not_mem_nil, fun j hj => ?_⟩
    by_cases hne : j = i
    · subst hne; exact hyi.wpOp hi hSw ⟨fun _ => hSw, hend⟩
    · have later := hend.2 j (ready_mono hj hne)
      obtain ⟨hopen, oj, hoj, hedges⟩ := mem_ready.1 hj
      have hnoedge : ∀ e ∈ oj.after, Region.binds md e = true → e.on ≠ i := by
        intro e he hbind hon
        have hs := hedges e he hbind
        have ho := (mem_ready.1 hri).1
        rw [hon] at hs
        by_cases hsz : i < seen.size
        · simp [hsz] at ho hs; rw [ho] at hs; cases hs
        · simp [Array.getElem?_eq_none (Nat.le_of_not_lt hsz)] at hs
      have hjn : j ≠ n := by
        intro hjn
        subst hjn
        obtain ⟨on, hon, e, he, hbind, heq⟩ := hlast
        rw [hoj] at hon
        cases hon
        exact hnoedge e he hbind heq
      have swapped := wpOp_putIf hoj (hfr j oj hoj hne hopen hnoedge) (fun cs b => hsel i oi cs b hi) (fun cs b => hsel j oj cs b hoj) hQ hyi later
      refine wpOp_mono (fun act' wd' hb => ?_) swapped
      have hSb := hb.2.1 hjn
      refine ⟨fun _ => hSb, more (seen.setIfInBounds j true) act' wd' (fun k ok hk hki hun hno => hfr k ok hk hki ?_ hno) (ready_mono hri (Ne.symm hne)) hb.1 hSb ?_⟩
      · by_cases hjk : j = k
        · subst hjk; exact hopen
        · rwa [getD_set_ne true hjk] at hun
      · rw [Array.setIfInBounds_comm _ _ hne]
        exact hb.2.2

/-- The last operation waits for the others. -/
def waitsAll (md : Region.Mode) (ops : Array Oper) (n i : Nat) : Bool := decide (i ≠ n) && match ops[n]? with
  | some o => o.after.toList.any fun e => Region.binds md e && decide (e.on = i)
  | none => false
theorem waitsAll_spec {i : Nat} (h : waitsAll md ops n i = true) : i ≠ n ∧ ∃ on, ops[n]? = some on ∧ ∃ e ∈ on.after, Region.binds md e = true ∧ e.on = i := by
  unfold waitsAll at h
  rw [Bool.and_eq_true, decide_eq_true_iff] at h
  refine ⟨h.1, ?_⟩
  have h2 := h.2
  cases ho : ops[n]? with
  | none => rw [ho] at h2; cases h2
  | some o =>
    rw [ho] at h2
    obtain ⟨e, he, hbi⟩ := List.any_eq_true.1 h2
    rw [Bool.and_eq_true, decide_eq_true_iff] at hbi
    exact ⟨o, rfl, e, Array.mem_toList_iff.1 he, hbi.1, hbi.2⟩

theorem sink_take (i : Nat) {oi : Oper} {v : Value} {left : Nat} {seen : Array Bool} {act : Act} {wd : World} (hi : ops[i]? = some oi) (hl : waitsAll md ops n i = true)
    (hs : Region.noSelect ops = true) (hf : Region.free md ops seen i = true) (hr : (Region.ready md ops seen).contains i = true) (hw : Region.wanted oi (yielded ops act.tmps) = true)
    (hQ : ∀ c act wd, Q (.panic c) (act.put oi.dst v) wd → Q (.panic c) act wd) (hS : S wd) (hy : ∀ wd, S wd → (execOp act.eval oi).run P wd = .ok (.value v) wd)
    (h : wpSink P md ops Q S n left (seen.setIfInBounds i true) (act.put oi.dst v) wd) : wpSink P md ops Q S n (left + 1) seen act wd :=
  sink_first hi (waitsAll_spec hl).1 (waitsAll_spec hl).2 (Region.noSelect_spec hs) hQ left seen act wd (Region.free_spec hi hf) (by simpa using hr) (.inl ⟨hw, hy⟩) hS h

/-- One operation alone may come up. -/
theorem sink_one {i : Nat} {o : Oper} {left : Nat} {seen : Array Bool} {act : Act} {wd : World} (hr : Region.ready md ops seen = [i]) (ho : ops[i]? = some o)
    (h : ∀ K' : Act → World → Prop, Shut (∀ act wd, (i ≠ n → S wd) → ((i ≠ n → S wd) → wpSink P md ops Q S n left (seen.setIfInBounds i true) act wd) → K' act wd) → if Region.wanted o (yielded ops act.tmps) = true then Oper.wp P o act wd K' Q else K' (act.put o.dst undef) wd) :
    wpSink P md ops Q S n (left + 1) seen act wd := by
  refine ⟨fun hnil => (by rw [hr] at hnil; cases hnil), fun k hk => ?_⟩
  rw [hr] at hk
  obtain rfl : k = i := List.mem_singleton.1 hk
  exact wpOp_step ho (fun K' hK => h K' (fun act wd hS hW => hK act wd ⟨hS, hW hS⟩))

theorem sink_done {seen : Array Bool} {act : Act} {wd : World} (hr : Region.ready md ops seen = []) (h : Q .normal act wd) : ∀ left, wpSink P md ops Q S n left seen act wd := by
  intro left
  cases left with
  | zero => exact ⟨hr, h⟩
  | succ m => exact ⟨fun _ => h, fun k hk => (by rw [hr] at hk; cases hk)⟩

theorem sink_start {id : Nat} {act : Act} {wd : World} (n : Nat) (S : World → Prop) (hm : P.follows .mixedOrders = true) (hS : S wd.drew)
    (h : S wd.drew → wpSink P .any ops Q S n ops.size (Array.replicate ops.size false) act wd.drew) : (Code.region id ops true).wp P Q act wd :=
  wp_region_any hm (sink_any _ _ _ _ (h hS))
end

end Go.Proofs.Ytppmiedhoimgmaa
