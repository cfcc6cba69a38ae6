/- Positions copied and extended: the model's copy and the program's extension: contracts, for positions of at most 1048576 numbers. -/
import Derived.Test.YtppmiedhoimgmaaRws
import Derived.Laws.CopyOwn
namespace Go.Proofs.Ytppmiedhoimgmaa
open Go.RowKit
set_option linter.unusedVariables false

theorem ints_cell {w : World} {g : Nat} {p : List Int} (h : ∀ k x, p[k]? = some x → w.cell? ⟨g, k, none⟩ = some (.int .i64 x)) : ∀ j u, (ints p)[j]? = some u → w.cell? ((⟨g, 0, none⟩ : Addr).add j) = some u := fun j u hu => by
  have hadd : (⟨g, 0, none⟩ : Addr).add j = ⟨g, j, none⟩ := by unfold Addr.add; split <;> simp_all
  rw [hadd]
  have hj : j < p.length := by have := (List.getElem?_eq_some_iff.1 hu).1; rwa [ints_len] at this
  have hx := List.getElem?_eq_getElem hj
  rw [ints_at hx] at hu
  rw [← hu]; exact h j _ hx

theorem ints_one (p : List Int) : ∀ u ∈ ints p, u.oneCell' = true := fun u hu => by
  obtain ⟨x, _, rfl⟩ := List.mem_map.1 hu; rfl

/-- A grown row of integers is one again. -/
theorem own_form {w : World} {base : Nat} {v : Value} {p : List Int} (h : w.ownsRow base 3 1 v p.length (ints p)) (hn : v = .slice none 0 0 → False) : OwnP w base v p := by
  refine ⟨h, ?_⟩
  rcases h.2 with ⟨e, _⟩ | ⟨g, cap, cur, e, _⟩
  · exact (hn e).elim
  · exact ⟨g, cap, e⟩

def OwnPEnd (p : List Int) (w : World) (e : Ending) (w' : World) : Prop := ∃ v, e = .returned v ∧ OwnP w' w.heap.size v p ∧ Below w.heap.size w w'

theorem one_cell {w : World} {g : Nat} {u : Value} (h : w.cell? ⟨g, 0, none⟩ = some u) : ∀ j v, [u][j]? = some v → w.cell? ((⟨g, 0, none⟩ : Addr).add j) = some v := fun j v hj => by
  cases j with
  | zero => simp at hj; subst hj; exact h
  | succ n => simp at hj

theorem splice_two {Z X1 Y : List Value} {k : Nat} (hZ : Z.length = X1.length + Y.length) (hk : X1.length = k) : splice (splice Z 0 X1) k Y = X1 ++ Y := by
  have h := splice_splice_splice Z X1 Y [] k Y.length hk rfl (by simp; omega)
  rw [List.append_nil] at h
  rw [← h]; simp [splice]

theorem own_of_block {w : World} {base g n : Nat} {p : List Int} (hn : p.length = n) (hg : w.heap[g]? = some (.cells (ints p).toArray 3 (0, 0))) (hb : base ≤ g) (hm : p.length ≤ 100000000) : OwnP w base (.slice (some ⟨g, 0, none⟩) n n) p := by
  subst hn
  exact ⟨⟨by rw [ints_len]; omega, .inr ⟨g, p.length, _, rfl, hb, hg, Nat.le_refl _, by unfold maxLen; omega, by simp [ints_len], by simp [List.take_of_length_le, ints_len]⟩⟩, g, _, rfl⟩

theorem infoInt1 : (Try.prog.info? 3).map (·.size) = some 1 := by kernel_rfl

theorem whole_block {w : World} {base : Nat} {e : TypeId} {g n : Nat} {xs : List Value} (h : w.ownsRow base e 1 (.slice (some ⟨g, 0, none⟩) n n) n xs) : w.heap[g]? = some (.cells xs.toArray e (0, 0)) := by
  rcases h.2 with ⟨e1, _⟩ | ⟨g', cap, cur, e1, _, hg, _, _, hcs, ht⟩
  · cases e1
  · injection e1 with e2 e3 e4
    injection e2 with e2
    injection e2 with e2
    subst e2; subst e4
    rw [hg, ← ht, List.take_of_length_le (by simp [hcs])]

set_option maxHeartbeats 1000000 in
theorem extend_any (p : List Int) (x : Int) (v : Value) (w : World) (g1 c1 : Nat) (hv : PosV w v p) (hl : p.length ≤ 1048576) (hg1 : w.cell? ⟨g1, 0, none⟩ = some (.int .i64 x)) :
    Calls Try.prog 109 #[v, .slice (some ⟨g1, 0, none⟩) 1 c1] w (OwnPEnd (p ++ [x]) w) := by
  obtain ⟨i0, hi, hz0, hz1, hz2⟩ := info_parts infoInt
  obtain ⟨g, c, rfl, hg, hc⟩ := hv
  have HC := Lib.hid hc
  have HX1 := Lib.hid hg1
  clear hc hg1
  go_enter Try.func109, Try.ntmps109
  go_wp2_with (first
    | (at_make; refine wpList_make_full _ rfl _ _ 36 rfl w.heap.size 3 i0 (.int .i64 0) 1 Try.underlying36 hi hz0 hz1 .i64 .i64 _ _ (p.length + 1) rfl rfl (by omega) (by omega) (by rw [hz2]; omega) (by unfold maxLen; omega) (Nat.le_refl _) ?_; intro w1 hown1 hg1; have HR1 := Lib.hid (whole_block hown1); have HB1 := Lib.hid ((Below.refl w.heap.size w).grown hg1 (Nat.le_refl _) (by simp)); have HL1 := Lib.hid hown1.1; clear hown1 hg1; generalize (madeCells (Value.int .i64 0).cells ((p.length + 1) * 1)).toList = zs at HR1 HL1)
    | (with_reducible show wpList _ _ _ _ _ _; (refine wpList_copy_splice rfl (.tmp 12) (.tmp 13) 36 36 rfl 3 Try.underlying36 infoInt1 _ _ _ _ _ _ rfl rfl w.heap.size 0 zs 3 HR1.out (ints p) (by rw [ints_len]; exact (Nat.min_eq_left (by omega)).symm) (fun _ => ⟨rfl, _, rfl, ints_cell (fun k x hk => carry_cell (HC.out k x hk) HB1.out)⟩) (by rw [ints_len, HL1.out]; omega) (ints_one p) w.heap.size w HB1.out (Nat.le_refl _) ?_); intro w2 HG2 hb2; have HB2 := Lib.hid hb2; clear hb2)
    | (with_reducible show wpList _ _ _ _ _ _; (refine wpList_copy_splice rfl (.tmp 18) (.tmp 19) 36 36 rfl 3 Try.underlying36 infoInt1 _ _ _ _ _ _ rfl rfl w.heap.size p.length (splice zs 0 (ints p)) 3 HG2.out [.int .i64 x] (by simp) (fun _ => ⟨rfl, _, rfl, one_cell (carry_cell HX1.out HB2.out)⟩) (by rw [length_splice _ _ _ (by rw [ints_len, HL1.out]; omega), HL1.out]; simp) (by simp [Value.oneCell']) w.heap.size w HB2.out (Nat.le_refl _) ?_); intro w3 HG3 hb3; have HB3 := Lib.hid hb3; clear hb3)
    )
  have HE : Hid (OwnPEnd (p ++ [x]) w (.returned (.slice (some ⟨w.heap.size, 0, none⟩) (p.length + 1) (p.length + 1))) w3) := Lib.hid ⟨_, rfl, own_of_block (by simp) (by rw [splice_two (by rw [HL1.out, ints_len]; simp) (ints_len p)] at HG3; rw [ints_append]; exact HG3.out) (Nat.le_refl _) (by simp; omega), HB3.out⟩
  go_wp2
  go_ret
  exact HE.out

end Go.Proofs.Ytppmiedhoimgmaa
