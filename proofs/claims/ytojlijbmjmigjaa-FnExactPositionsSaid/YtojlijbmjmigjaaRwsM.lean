/- Rows of positions as the laws' helpers compare and mark them: contracts, for rows of at most 1048576 elements. -/
import Derived.Test.YtojlijbmjmigjaaPosJ
namespace Go.Proofs.Ytojlijbmjmigjaa
open Go.RowKit
set_option linter.unusedVariables false

/-- The slice value reads as n rows. -/
def RowsF (w : World) (v : Value) (n : Nat) (M : Nat → List Int) : Prop :=
  ∃ a c, v = .slice a n c ∧ ∀ k, k < n → ∃ b off u, a = some ⟨b, off, none⟩ ∧ w.cell? ⟨b, off + k, none⟩ = some u ∧ IntsV w u (M k)

theorem RowsF.kept {w w' : World} {v : Value} {n : Nat} {M : Nat → List Int} (h : RowsF w v n M) (hb : Below w.heap.size w w') : RowsF w' v n M := by
  obtain ⟨a, c, hv, hc⟩ := h
  exact ⟨a, c, hv, fun k hk => by obtain ⟨b, off, u, ha, hx, hi⟩ := hc k hk; exact ⟨b, off, u, ha, carry_cell hx hb, hi.kept hb⟩⟩

/-- n rows in blocks of their own. -/
structure RowsG (w : World) (S : Nat → Prop) (g : Nat) (f : Nat → Value) (Ss : Nat → Nat → Prop) (n : Nat) (M : Nat → List Int) : Prop where
  top : S g
  cell : ∀ k, k < n → w.cell? ⟨g, k, none⟩ = some (f k)
  row : ∀ k, k < n → IntsO w (Ss k) (f k) (M k)
  sub : ∀ k b, k < n → Ss k b → S b ∧ b ≠ g
  dis : ∀ i j b, i < n → j < n → Ss i b → Ss j b → i = j

theorem RowsG.frame {w w' : World} {S : Nat → Prop} {g n : Nat} {f : Nat → Value} {Ss : Nat → Nat → Prop} {M : Nat → List Int} (h : RowsG w S g f Ss n M) (hf : ∀ b, S b → w'.heap[b]? = w.heap[b]?) : RowsG w' S g f Ss n M :=
  ⟨h.top, fun k hk => (World.cell?_of_block (a := ⟨g, k, none⟩) (w := w) (hf g h.top)).trans (h.cell k hk), fun k hk => (h.row k hk).frame fun b hb => hf b (h.sub k b hk hb).1, h.sub, h.dis⟩

/-- .. in the blocks from one number to another. -/
def RowsI (w : World) (lo hi : Nat) (v : Value) (n : Nat) (M : Nat → List Int) : Prop :=
  ((n = 0 ∧ ∃ a c, v = .slice a 0 c) ∨ ∃ g c f Ss, v = .slice (some ⟨g, 0, none⟩) n c ∧ 0 < n ∧ RowsG w (Ivl lo hi) g f Ss n M) ∧ hi ≤ w.heap.size

theorem RowsI.read {w : World} {lo hi : Nat} {v : Value} {n : Nat} {M : Nat → List Int} (h : RowsI w lo hi v n M) : RowsF w v n M := by
  rcases h.1 with ⟨rfl, a, c, rfl⟩ | ⟨g, c, f, Ss, rfl, hp, hg⟩
  · exact ⟨a, c, rfl, fun k hk => absurd hk (Nat.not_lt_zero _)⟩
  · exact ⟨_, c, rfl, fun k hk => ⟨g, 0, f k, rfl, by rw [Nat.zero_add]; exact hg.cell k hk, (hg.row k hk).read⟩⟩

theorem RowsI.frame {w w' : World} {lo hi : Nat} {v : Value} {n : Nat} {M : Nat → List Int} (h : RowsI w lo hi v n M) (hz : w.heap.size ≤ w'.heap.size) (hf : ∀ b, Ivl lo hi b → w'.heap[b]? = w.heap[b]?) : RowsI w' lo hi v n M := by
  refine ⟨?_, Nat.le_trans h.2 hz⟩
  rcases h.1 with h | ⟨g, c, f, Ss, rfl, hp, hg⟩
  · exact .inl h
  · exact .inr ⟨g, c, f, Ss, rfl, hp, hg.frame hf⟩

theorem RowsI.kept {w w' : World} {lo hi : Nat} {v : Value} {n : Nat} {M : Nat → List Int} (h : RowsI w lo hi v n M) (hb : Below w.heap.size w w') : RowsI w' lo hi v n M :=
  h.frame hb.size fun b hk => hb.block b (Nat.lt_of_lt_of_le hk.2 h.2)

theorem RowsI.outside {a b : World} {lo hi lo' hi' : Nat} {v : Value} {n : Nat} {M : Nat → List Int} (h : RowsI a lo hi v n M) (ho : Outside (Ivl lo' hi') a b) (hd : hi ≤ lo' ∨ hi' ≤ lo) : RowsI b lo hi v n M :=
  h.frame ho.size fun k hk => ho.block k (Nat.lt_of_lt_of_le hk.2 h.2) (fun hk' => by have := hk.1; have := hk.2; have := hk'.1; have := hk'.2; omega)

/-- The rows of a list. -/
def rowsOf (L : List (List Int)) (k : Nat) : List Int := (L[k]?).getD []

theorem RowsI.of_acc {w : World} {base : Nat} {v : Value} {L : List (List Int)} (h : Acc w base v L) : RowsI w base w.heap.size v L.length (rowsOf L) := by
  refine ⟨?_, Nat.le_refl _⟩
  obtain ⟨us, Ss, h1, h2, h3⟩ := h
  by_cases h0 : L.length = 0
  · refine .inl ⟨h0, ?_⟩
    rcases h1.2 with ⟨rfl, _⟩ | ⟨g, cap, cur, rfl, _⟩
    · exact ⟨_, _, rfl⟩
    · exact ⟨_, _, by rw [h0]⟩
  · obtain ⟨g, cap, rfl, hg, hl⟩ := h1.form (by omega)
    refine .inr ⟨g, cap, fun k => (us[k]?).getD .nilIface, Ss, rfl, by omega, ⟨hg, hl⟩, fun k hk => ?_, fun k hk => ?_, fun k b hk hs => ⟨h2.sub k b hk hs, fun e => by subst e; exact h3 b rfl k hk hs⟩, h2.dis⟩
    · obtain ⟨u, hu, _⟩ := h2.row k _ (List.getElem?_eq_getElem hk)
      rw [h1.cellAt k (by omega), hu]; rfl
    · obtain ⟨u, hu, ho⟩ := h2.row k _ (List.getElem?_eq_getElem hk)
      simp only [hu, Option.getD_some, rowsOf, List.getElem?_eq_getElem hk]; exact ho

theorem RowsF.is_slice {w : World} {v : Value} {n : Nat} {M : Nat → List Int} (h : RowsF w v n M) : ∃ a c, v = .slice a n c := by obtain ⟨a, c, hv, _⟩ := h; exact ⟨a, c, hv⟩

set_option maxRecDepth 100000 in
set_option maxHeartbeats 2000000 in
theorem eqIntSS_any (n : Nat) (M : Nat → List Int) (va vb : Value) (w : World) (ha : RowsF w va n M) (hb : RowsF w vb n M) (hn : n ≤ 1048576) (hm : ∀ k, k < n → (M k).length ≤ 1048576) :
    Calls Try.prog 46 #[va, vb] w fun e w' => e = .returned (.bool true) ∧ Below w.heap.size w w' := by
  obtain ⟨a, c, rfl, hc⟩ := ha
  obtain ⟨a', c', rfl, hc'⟩ := hb
  have HC := Lib.hid hc
  have HC' := Lib.hid hc'
  have HM := Lib.hid hm
  clear hc hc' hm
  go_enter Try.func46, Try.ntmps46
  go_wp2
  go_loopw [5] (fun i wr => ∃ k : Nat, k ≤ n ∧ i = .int .i64 k ∧ Below w.heap.size w wr) (fun i _ => n - (intOf i).toNat)
  case atStart => exact ⟨0, Nat.zero_le _, rfl, Below.refl _ _⟩
  case round =>
    obtain ⟨k, hk, rfl, hbel⟩ := hrel
    have HB := Lib.hid hbel
    clear hbel
    by_cases hlt : k < n
    · obtain ⟨b, off, u, rfl, hx, hi⟩ := HC.out k hlt
      obtain ⟨b', off', u', rfl, hx', hi'⟩ := HC'.out k hlt
      have HI := Lib.hid (hi.kept HB.out)
      have HI' := Lib.hid (hi'.kept HB.out)
      obtain ⟨ua, uc, rfl, _⟩ := hi
      obtain ⟨ua', uc', rfl, _⟩ := hi'
      have C : Hid (∀ W : World, Below wr.heap.size wr W → Calls Try.prog 39 #[.slice ua (M k).length uc, .slice ua' (M k).length uc'] W fun e w' => e = .returned (.bool true) ∧ Below W.heap.size W w') := Lib.hid (fun W hW => eqIntS_any (M k) _ _ W (HI.out.kept hW) (HI'.out.kept hW) (HM.out k hlt))
      have a0 := carry_cell hx HB.out
      have b0 := carry_cell hx' HB.out
      have hB0 : Below wr.heap.size wr wr.drew := (Below.refl _ _).drew
      clear hx hx'
      go_wp2_with fail
      go_region_held3 (fun w' => w'.cell? ⟨b, off + k, none⟩ = some (.slice ua (M k).length uc) ∧ w'.cell? ⟨b', off' + k, none⟩ = some (.slice ua' (M k).length uc') ∧ Below wr.heap.size wr w') (first | exact ⟨by assumption, by assumption, by assumption⟩ | go_keep) (first | (go_at_call 39; refine (C.out _ (by assumption)).mono ?_; rintro e w6 ⟨rfl, hb⟩; have q0 : w6.cell? ⟨b, off + k, none⟩ = some (.slice ua (M k).length uc) := carry_cell' hb (by assumption); have q1 : w6.cell? ⟨b', off' + k, none⟩ = some (.slice ua' (M k).length uc') := carry_cell' hb (by assumption); have hB6 := carry_below hB0 (Nat.le_refl _) hb; clear hb))
      have HB6 := Lib.hid (carry_below HB.out (Nat.le_refl _) hB6)
      clear hB6 hB0 a0 b0 q0 q1
      go_wp2
      go_roundw
      case rel => exact ⟨k + 1, by omega, by go_num, HB6.out⟩
      case measure => simp [intOf]; omega
    · go_wp2
      go_ret
      exact ⟨rfl, HB.out⟩

end Go.Proofs.Ytojlijbmjmigjaa
