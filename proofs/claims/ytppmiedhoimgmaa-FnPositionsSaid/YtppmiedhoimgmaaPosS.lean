/- The model's positions of a term: contracts, for terms of at most 1048576 names' bytes and arguments. -/
import Derived.Test.YtppmiedhoimgmaaPosX
namespace Go.Proofs.Ytppmiedhoimgmaa
open Go.RowKit
set_option linter.unusedVariables false

def WalkEnd (t : Tm) (p : List Int) (w : World) (e : Ending) (w' : World) : Prop := ∃ v, e = .returned v ∧ Acc w' w.heap.size v (posT p t) ∧ Below w.heap.size w w'

theorem app_pos {w7 : World} {base g7 c7 : Nat} {p : List Int} {x : Int} (h : w7.ownsRow base 3 1 (.slice (some ⟨g7, 0, none⟩) (p.length + 1) c7) (p.length + 1) (ints p ++ [.int .i64 x])) : PosV w7 (.slice (some ⟨g7, 0, none⟩) (p.length + 1) c7) (p ++ [x]) := by
  have hl : (p ++ [x]).length = p.length + 1 := by simp
  refine OwnP.read (base := base) ⟨?_, g7, c7, by rw [hl]⟩
  rw [hl, ints_append]; exact h

theorem app_below {wr w6 w7 : World} {o : Obj} {g6 n c6 : Nat} (hb : Below wr.heap.size wr w6) (hg : wr.heap.size ≤ g6) (hgr : (w6.alloc o).grownBy w7 (Value.ownBlock (.slice (some ⟨g6, 0, none⟩) n c6))) : Below wr.heap.size wr w7 :=
  below_grown (hb.alloc hb.size o) (Nat.le_refl _) hgr (fun g h => (Option.some.inj h) ▸ hg)

theorem app_below' {wr w6 w7 : World} {g6 n c6 : Nat} (hb : Below wr.heap.size wr w6) (hg : wr.heap.size ≤ g6) (hgr : w6.grownBy w7 (Value.ownBlock (.slice (some ⟨g6, 0, none⟩) n c6))) : Below wr.heap.size wr w7 :=
  below_grown hb (Nat.le_refl _) hgr (fun g h => (Option.some.inj h) ▸ hg)

theorem Acc.form {w : World} {base : Nat} {v : Value} {L : List (List Int)} (h : Acc w base v L) (hp : 0 < L.length) : ∃ g n c, v = .slice (some ⟨g, 0, none⟩) n c ∧ n = L.length ∧ base ≤ g ∧ g < w.heap.size := by
  obtain ⟨us, Ss, h1, h2, h3⟩ := h
  obtain ⟨g, cap, hv, hb, hl⟩ := h1.form hp
  exact ⟨g, _, cap, hv, rfl, hb, hl⟩

theorem Acc.mono {w : World} {base base' : Nat} {v : Value} {L : List (List Int)} (h : Acc w base v L) (hb : base' ≤ base) : Acc w base' v L := by
  obtain ⟨us, Ss, h1, h2, h3⟩ := h
  exact ⟨us, Ss, ⟨h1.1, h1.2.imp id fun ⟨g, cap, cur, a, b, c⟩ => ⟨g, cap, cur, a, Nat.le_trans hb b, c⟩⟩, h2.mono hb, h3⟩

/-- A row of one row. -/
theorem Acc.one {w : World} {base : Nat} {v : Value} {p : List Int} (h : OwnP w base v p) (hb : base ≤ w.heap.size) : Acc (w.alloc (.cells #[v] 36)) base (.slice (some ⟨w.heap.size, 0, none⟩) 1 1) [p] := by
  obtain ⟨g, hg, hbg, hgl, ho⟩ := h.own
  refine ⟨[v], _, World.ownsRow_lit w #[v] 1 hb (by decide) (by simp), (Rws.one (base := base) ho (fun b hb => by subst hb; exact ⟨hbg, hgl⟩)).kept ((Below.refl _ _).alloc (Nat.le_refl _) _), fun g' hg' k hk hs => ?_⟩
  have e : w.heap.size = g' := Option.some.inj hg'
  have e2 : g' = g := hs
  omega

theorem posT_pos (p : List Int) (t : Tm) : 0 < (posT p t).length := by rw [posT_len]; exact t.sz_pos

theorem dp_arg {t s : Tm} (h : s ∈ t.args) : s.dp + 1 ≤ t.dp := by
  rw [t.dp_eq]; have := maxL_mem (f := Tm.dp) h; omega

/-- Two rows of rows, the second made since the first: what an append of the second to the first asks. -/
theorem acc_two {wr w2 : World} {base B g5 n5 c5 : Nat} {v : Value} {L L5 : List (List Int)} (h : Acc wr base v L) (hb : Below wr.heap.size wr w2) (hB : wr.heap.size ≤ B) (hbase : base ≤ wr.heap.size) (h5 : Acc w2 B (.slice (some ⟨g5, 0, none⟩) n5 c5) L5) (hn5 : n5 = L5.length) :
    ∃ us us5 S', w2.ownsRow base 36 1 v L.length us ∧ Rws w2 base (us ++ us5) (L ++ L5) S' ∧ (∀ g, v.ownBlock = some g → ∀ k, k < (L ++ L5).length → ¬ S' k g) ∧ us5.length = n5 ∧
      (∀ j u, us5[j]? = some u → w2.cell? ((⟨g5, 0, none⟩ : Addr).add j) = some u) ∧ (∀ u ∈ us5, u.oneCell' = true) := by
  obtain ⟨us, Ss, h1, h2, h3⟩ := h
  obtain ⟨us5, S5, k1, k2, k3⟩ := h5
  have hz := hb.size
  have r1 := h2.kept hb
  have hk2 : Rws w2 wr.heap.size us5 L5 S5 := k2.mono hB
  have hlt : ∀ k b, k < L.length → Ss k b → b < wr.heap.size := fun k b hk hs => (h2.sub k b hk hs).2
  have hge : ∀ k b, k < L5.length → S5 k b → wr.heap.size ≤ b := fun k b hk hs => (hk2.sub k b hk hs).1
  refine ⟨us, us5, fun k => if k < L.length then Ss k else S5 (k - L.length), own_kept h1 hb, ?_, ?_, ?_, ?_, ?_⟩
  · exact r1.app (hk2.mono hbase) fun i j b hi hj hs hs' => by have := hlt i b hi hs; have := hge j b hj hs'; omega
  · intro g hg k hk hs
    have hl := h1.lt g hg
    rw [List.length_append] at hk
    by_cases e : k < L.length
    · simp only [if_pos e] at hs; exact h3 g hg k e hs
    · simp only [if_neg e] at hs; have := hge _ g (by omega) hs; omega
  · rw [hn5]; exact k2.len
  · exact k1.cells (g := g5) rfl
  · intro u hu
    obtain ⟨j, hj⟩ := List.mem_iff_getElem?.1 hu
    have hjl : j < L5.length := by have := (List.getElem?_eq_some_iff.1 hj).1; rw [k2.len] at this; exact this
    obtain ⟨u', hu', ho⟩ := k2.row j _ (List.getElem?_eq_getElem hjl)
    have e : u = u' := by rw [hj] at hu'; exact Option.some.inj hu'
    subst e
    rcases ho with ⟨a, c, rfl, _⟩ | ⟨g, c, rfl, _⟩ <;> rfl

end Go.Proofs.Ytppmiedhoimgmaa
