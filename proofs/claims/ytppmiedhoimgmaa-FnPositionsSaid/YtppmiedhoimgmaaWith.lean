/- The model's replaced term: a contract, for terms of at most 1048576 names' bytes and arguments. -/
import Derived.Test.YtppmiedhoimgmaaRep
namespace Go.Proofs.Ytppmiedhoimgmaa
open Go.RowKit
set_option linter.unusedVariables false

/-- A slice of integers within its capacity. -/
def IntsC (w : World) (v : Value) (is : List Int) : Prop := IntsV w v is ∧ ∃ a c, v = .slice a is.length c ∧ is.length ≤ c

theorem IntsC.kept {w w' : World} {v : Value} {is : List Int} (h : IntsC w v is) (hb : Below w.heap.size w w') : IntsC w' v is := ⟨h.1.kept hb, h.2⟩

theorem IntsO.readC {w : World} {S : Nat → Prop} {v : Value} {is : List Int} (h : IntsO w S v is) : IntsC w v is := by
  refine ⟨h.read, ?_⟩
  rcases h with ⟨a, c, rfl, rfl⟩ | ⟨g, c, rfl, _, hl, _⟩
  · exact ⟨a, c, rfl, Nat.zero_le _⟩
  · exact ⟨_, c, rfl, hl⟩

/-- What a list of terms of a call's own looks like that is not empty. -/
theorem TmO.inv {w : World} {S : Nat → Prop} {a : Option Addr} {c : Nat} {l : List Tm} (h : TmO w S (.slice a l.length c) l) (hp : 0 < l.length) :
    ∃ (g : Nat) (f : Nat → Value) (Ss : Nat → Nat → Prop), a = some ⟨g, 0, none⟩ ∧ l.length ≤ c ∧ S g ∧ (∀ j, w.frozen? ⟨g, j, none⟩ = false) ∧ (∀ (i : Nat) (t : Tm), l[i]? = some t → w.cell? ⟨g, i * 2, none⟩ = some (.string t.name)) ∧
      (∀ (i : Nat) (t : Tm), l[i]? = some t → w.cell? ⟨g, i * 2 + 1, none⟩ = some (f i)) ∧ (∀ (i : Nat) (t : Tm), l[i]? = some t → TmO w (Ss i) (f i) t.args) ∧
      (∀ i k, i < l.length → Ss i k → S k ∧ k ≠ g) ∧ (∀ i j k, i < l.length → j < l.length → i ≠ j → Ss i k → Ss j k → False) := by
  generalize hv : Value.slice a l.length c = v at h
  cases h with
  | emp => simp at hp
  | row _ g c' _ f Ss hp' hS hc hz hn ha hr hsub hdis =>
    injection hv with e1 e2 e3
    subst e1; subst e3
    exact ⟨g, f, Ss, rfl, hc, hS, hz, hn, ha, hr, hsub, hdis⟩

/-- A term of a call's own whose argument is stored anew. -/
theorem stored_one {w : World} {S S' : Nat → Prop} {g c i : Nat} {l : List Tm} {u x : Tm} {v' : Value} (h : TmO w S (.slice (some ⟨g, 0, none⟩) l.length c) l) (hi : l[i]? = some u) (ho : TmO w S' v' x.args) (hS' : ∀ b, S' b → ¬ S b) :
    TmO (stored w g (i * 2) x.name v') (fun b => S b ∨ S' b) (.slice (some ⟨g, 0, none⟩) l.length c) (l.set i x) := by
  have hil : i < l.length := (List.getElem?_eq_some_iff.1 hi).1
  obtain ⟨g', f, Ss, hg, hc, hS, hz, hn, ha, hr, hsub, hdis⟩ := h.inv (by omega)
  have e : g = g' := by injection hg with hg; injection hg
  subst e
  exact TmO.setAt (T := S') (by omega) hS hc hn ha hr hsub hdis hi (fun j => by rw [stored_frozen]; exact hz j) (fun j h1 h2 => stored_other (.inr ⟨h1, h2⟩)) (stored_name (hn i u hi)) (stored_args (ha i u hi))
    (ho.frame fun b hb => stored_heap (fun e => hS' b hb (e ▸ hS))) (fun j b hj _ hb => stored_heap (hsub j b hj hb).2) (fun b hb => .inr hb) hS'

theorem far {W : World} {g x o1 o2 j : Nat} {u v z : Value} (h : x ≠ g) (hc : W.cell? ⟨x, j, none⟩ = some z) : ((W.setCell ⟨g, o1, none⟩ u).setCell ⟨g, o2, none⟩ v).cell? ⟨x, j, none⟩ = some z := by
  rw [World.cell?_setCell_other _ _ _ _ (fun e => h (by injection e with e; exact e.symm)), World.cell?_setCell_other _ _ _ _ (fun e => h (by injection e with e; exact e.symm))]
  exact hc

def BT (t : Tm) (a : Option Addr) (c : Nat) : Obj := .cells #[.string t.name, .slice a t.args.length c] 26

end Go.Proofs.Ytppmiedhoimgmaa
