/- IsIdempotent, the model's, and the model's search for a variable: contracts, for bindings of at most 1048576 names' bytes, bindings and arguments. -/
import Derived.Test.YtnkonhdnccolhaaSubS
import Derived.Test.YtnkonhdnccolhaaIdeM
namespace Go.Proofs.Ytnkonhdnccolhaa
open Go.RowKit
set_option linter.unusedVariables false

def LFEnd (l : List Bd) (nm : ByteArray) (w : World) (e : Ending) (w' : World) : Prop :=
  ((boundB l nm = false ∧ e = .returned (.int .i64 (-1))) ∨ (∃ (i : Nat) (d : Bd), l[i]? = some d ∧ d.var = nm ∧ e = .returned (.int .i64 i))) ∧ Below w.heap.size w w'

set_option maxRecDepth 100000 in
set_option maxHeartbeats 2000000 in
theorem l4Find_any (l : List Bd) (w : World) (v : Value) (hv : BdS w v l) (hl : l.length ≤ 1048576) (nm : ByteArray) :
    Calls Try.prog 148 #[.agg #[v], .string nm] w (LFEnd l nm w) := by
  obtain ⟨a, c, rfl⟩ := hv.is_slice
  have HV := Lib.hid hv
  have H1 := Lib.hid (oner_new w (.slice a l.length c) 34 _ rfl)
  have HB0 := Lib.hid ((Below.refl w.heap.size w).alloc (Nat.le_refl _) (.cells #[.slice a l.length c] 34))
  clear hv
  obtain ⟨b0, b1⟩ := H1.out
  go_enter Try.func148, Try.ntmps148
  go_wp2
  go_loopw [5] (fun i wr => ∃ k : Nat, k ≤ l.length ∧ i = .int .i64 k ∧ (∀ j d, j < k → l[j]? = some d → d.var ≠ nm) ∧ Oner wr w.heap.size (.slice a l.length c) ∧ Below w.heap.size w wr) (fun i _ => l.length - (intOf i).toNat)
  case atStart => exact ⟨0, Nat.zero_le _, rfl, fun j d h => absurd h (Nat.not_lt_zero _), H1.out, HB0.out⟩
  case round =>
    obtain ⟨k, hk, rfl, hq, hone, hbel⟩ := hrel
    have HQ := Lib.hid hq
    have HB := Lib.hid hbel
    have H1W := Lib.hid hone
    clear hq hbel b0 b1
    obtain ⟨d0, d1⟩ := hone
    by_cases hlt : k < l.length
    · obtain ⟨d, hd⟩ : ∃ d, l[k]? = some d := ⟨_, List.getElem?_eq_getElem hlt⟩
      obtain ⟨b, off, rfl, va, c0, c1, c2, hva⟩ := HV.out.get hd
      have c0' := carry_cell c0 HB.out
      have HD := Lib.hid hd
      clear hd hva c0 c1 c2
      by_cases he : d.var = nm
      · have hq : (d.var.toList == nm.toList) = true := str_eq he
        have HE := Lib.hid he
        clear he
        go_wp2
        go_ret
        exact ⟨.inr ⟨k, d, HD.out, HE.out, rfl⟩, HB.out⟩
      · have hq : (d.var.toList == nm.toList) = false := str_ne he
        have HF : Hid (∀ j x, j < k + 1 → l[j]? = some x → x.var ≠ nm) := Lib.hid (fun j x hj hx => by
          by_cases e : j = k
          · subst e; rw [HD.out] at hx; injection hx with hx; rw [← hx]; exact he
          · exact HQ.out j x (by omega) hx)
        clear he
        go_wp2
        go_roundw
        case rel => exact ⟨k + 1, by omega, by go_num, HF.out, H1W.out, HB.out⟩
        case measure => simp [intOf]; omega
    · have HF : Hid (boundB l nm = false) := Lib.hid (bound_no.2 fun d hd => by
        obtain ⟨j, hj⟩ := List.getElem?_of_mem hd
        exact HQ.out j d (by have := (List.getElem?_eq_some_iff.1 hj).1; omega) hj)
      go_wp2
      go_ret
      exact ⟨.inl ⟨HF.out, rfl⟩, HB.out⟩

theorem ret_bb' {a b c d : Bool} (h : a = b) (k : c = d) : Ending.returned (.tuple #[.bool a, .bool c]) = .returned (.tuple #[.bool b, .bool d]) := by rw [h, k]

end Go.Proofs.Ytnkonhdnccolhaa
