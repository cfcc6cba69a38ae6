/- The program's SubtermAt, and the node of a term in memory at a position: contracts. -/
import Derived.Test.YtppmiedhoimgmaaSub
namespace Go.Proofs.Ytppmiedhoimgmaa
open Go.RowKit
set_option linter.unusedVariables false

/-- A node of a term lies at this place. -/
def NodeAt (w : World) (b o : Nat) (s : Tm) : Prop := ∃ va, w.cell? ⟨b, o, none⟩ = some (.string s.name) ∧ w.cell? ⟨b, o + 1, none⟩ = some va ∧ TmS w va s.args

/-- A position leads from one place to another. -/
inductive PathTo (w : World) : Nat → Nat → List Int → Nat → Nat → Prop where
  | here (b o : Nat) : PathTo w b o [] b o
  | step (b o g off n c i : Nat) (r : List Int) (b' o' : Nat) (hc : w.cell? ⟨b, o + 1, none⟩ = some (.slice (some ⟨g, off, none⟩) n c)) (hi : i < n) (h : PathTo w g (off + i * 2) r b' o') : PathTo w b o ((i : Int) :: r) b' o'

theorem PathTo.snoc {w : World} {b o b1 o1 : Nat} {p : List Int} (h : PathTo w b o p b1 o1) {g off n c i : Nat} (hc : w.cell? ⟨b1, o1 + 1, none⟩ = some (.slice (some ⟨g, off, none⟩) n c)) (hi : i < n) : PathTo w b o (p ++ [(i : Int)]) g (off + i * 2) := by
  induction h with
  | here b o => exact .step b o g off n c i [] _ _ hc hi (.here _ _)
  | step b o g' off' n' c' i' r b' o' hc' hi' h' ih => exact .step b o g' off' n' c' i' _ _ _ hc' hi' (ih hc)

/-- What nodeAt answers. -/
def NodeEnd (w : World) (b o : Nat) (t : Tm) (p : List Int) (e : Ending) (w' : World) : Prop :=
  w = w' ∧ ((subAt p t = none ∧ e = .returned (.pointer none)) ∨ ∃ s b' o', subAt p t = some s ∧ e = .returned (.pointer (some ⟨b', o', none⟩)) ∧ PathTo w b o p b' o' ∧ NodeAt w b' o' s)

set_option maxRecDepth 100000 in
set_option maxHeartbeats 2000000 in
theorem nodeAt_any (t : Tm) (p : List Int) (w : World) (b o : Nat) (vp : Value) (hn : NodeAt w b o t) (hp : IntsV w vp p) (hw : t.wt ≤ 1048576) (hl : p.length ≤ 1048576) :
    Calls Try.prog 54 #[.pointer (some ⟨b, o, none⟩), vp] w (NodeEnd w b o t p) := by
  obtain ⟨pa, pc, rfl, hpc⟩ := hp
  have HN := Lib.hid hn
  have HPC := Lib.hid hpc
  have HW := Lib.hid hw
  clear hn hpc hw
  go_enter Try.func54, Try.ntmps54
  go_wp2
  go_loop [0, 9] (fun q i => ∃ (k : Nat) (s : Tm) (b' o' : Nat), k ≤ p.length ∧ i = .int .i64 k ∧ q = .pointer (some ⟨b', o', none⟩) ∧ subAt (p.take k) t = some s ∧ NodeAt w b' o' s ∧ PathTo w b o (p.take k) b' o') (fun _ i => p.length - (intOf i).toNat)
  case atStart => exact ⟨0, t, b, o, Nat.zero_le _, rfl, rfl, rfl, HN.out, .here _ _⟩
  case round =>
    obtain ⟨k, s, b', o', hk, rfl, rfl, hsub, hnode, hpath⟩ := hrel
    have HSUB := Lib.hid hsub
    have HPATH := Lib.hid hpath
    have HNODE := Lib.hid hnode
    obtain ⟨va, n0, n1, n2⟩ := hnode
    have hls : s.args.length ≤ 1048576 := by have := subAt_wt _ _ _ hsub; have := Tm.wt_len s; have := HW.out; omega
    obtain ⟨a, c, rfl⟩ := n2.is_slice
    have HTS := Lib.hid n2
    clear hsub hpath n2
    by_cases hlt : k < p.length
    · obtain ⟨x, hx⟩ : ∃ x, p[k]? = some x := ⟨_, List.getElem?_eq_getElem hlt⟩
      obtain ⟨pb, po, rfl, hcx⟩ := HPC.out k x hx
      have HNX := Lib.hid (subAt_next HSUB.out hx)
      have HTK := Lib.hid (take_next hx)
      clear hx
      by_cases h0 : x < 0
      · have HNO : Hid (subAt p t = none) := Lib.hid (subAt_none (k := k + 1) (by rw [HNX.out, if_pos h0]))
        go_wp2
        go_ret
        exact ⟨rfl, .inl ⟨HNO.out, rfl⟩⟩
      · obtain ⟨n, rfl⟩ := Int.eq_ofNat_of_zero_le (show 0 ≤ x by omega)
        by_cases hn : n < s.args.length
        · obtain ⟨u, hu⟩ : ∃ u, s.args[n]? = some u := ⟨_, List.getElem?_eq_getElem hn⟩
          have HSU : Hid (subAt (p.take (k + 1)) t = some u) := Lib.hid (by rw [HNX.out, if_neg (by omega)]; exact hu)
          obtain ⟨sb, so, rfl, vu, u0, u1, u2⟩ := HTS.out.get hu
          have HNU : Hid (NodeAt w sb (so + n * 2) u) := Lib.hid ⟨vu, u0, u1, u2⟩
          have HPU : Hid (PathTo w b o (p.take (k + 1)) sb (so + n * 2)) := Lib.hid (by rw [HTK.out]; exact HPATH.out.snoc n1 hn)
          clear hu u0 u1 u2
          go_wp2
          go_round
          case rel => exact ⟨k + 1, u, sb, so + n * 2, by omega, by go_num, rfl, HSU.out, HNU.out, HPU.out⟩
          case measure => simp [intOf]; omega
        · have HNO : Hid (subAt p t = none) := Lib.hid (subAt_none (k := k + 1) (by rw [HNX.out, if_neg h0]; exact List.getElem?_eq_none (by omega)))
          go_wp2
          go_ret
          exact ⟨rfl, .inl ⟨HNO.out, rfl⟩⟩
    · have hke : k = p.length := by omega
      have HALL := Lib.hid (subAt_all HSUB.out (by omega))
      have HPA : Hid (PathTo w b o p b' o') := Lib.hid (by have := HPATH.out; rwa [List.take_of_length_le (by omega)] at this)
      go_wp2
      go_ret
      exact ⟨rfl, .inr ⟨s, b', o', HALL.out, rfl, HPA.out, HNODE.out⟩⟩

set_option maxRecDepth 100000 in
set_option maxHeartbeats 1000000 in
theorem implSub_any (t : Tm) (p : List Int) (w : World) (va vp : Value) (hv : TmS w va t.args) (hp : IntsV w vp p) (hw : t.wt ≤ 1048576) (hl : p.length ≤ 1048576) :
    Calls Try.prog 15 #[.agg #[.string t.name, va], vp] w (SubEnd (subA t p) w) := by
  obtain ⟨a, c, rfl⟩ := hv.is_slice
  have HV := Lib.hid hv
  have HP := Lib.hid hp
  obtain ⟨pa, pc, rfl, _⟩ := hp
  have H2 := Lib.hid ((two_new w (.string t.name) (.slice a t.args.length c) 26 _ rfl).alloc (.cells #[.string ⟨#[]⟩, .slice none 0 0] 26))
  have R2 := Lib.hid (two_new (w.alloc (.cells #[.string t.name, .slice a t.args.length c] 26)) (.string ⟨#[]⟩) (.slice none 0 0) 26 (w.heap.size + 1) (by simp))
  have HB := Lib.hid (((Below.refl w.heap.size w).alloc (Nat.le_refl _) (.cells #[.string t.name, .slice a t.args.length c] 26)).alloc (by simp) (.cells #[.string ⟨#[]⟩, .slice none 0 0] 26))
  clear hv
  go_enter Try.func15, Try.ntmps15
  go_wp2_with fail
  refine (areExpr_one t _ _ _ _ ((HV.out.kept HB.out).alloc (.cells #[.string t.name, .slice a t.args.length c] 26)) (two_new _ _ _ _ _ (by simp)).1 (two_new _ _ _ _ _ (by simp)).2.1 hw).mono ?_
  rintro e w1 ⟨rfl, hb⟩
  have HB1 := Lib.hid (carry_below (HB.out.alloc HB.out.size _) (Nat.le_refl _) hb)
  have R21 := Lib.hid ((R2.out.alloc _).kept hb)
  obtain ⟨b0, b1, b2⟩ := (H2.out.alloc _).kept hb
  obtain ⟨r0, r1, r2⟩ := (R2.out.alloc _).kept hb
  clear hb
  cases hf : anyB t with
  | false =>
    have HF : Hid (subA t p = none) := Lib.hid (by simp [subA, hf])
    clear hf
    go_wp2
    refine bodyPost_ret (v := .tuple #[.agg #[.string ⟨#[]⟩, .slice none 0 0], .bool false]) (by simp [results, Try.results15, go_sem, r0, r1]) rfl ?_
    rw [HF.out]
    exact SubEnd.no ((HB1.out.setCell (by simp) _).setCell (by simp) _)
  | true =>
    have HF : Hid (subA t p = subAt p t) := Lib.hid (by simp [subA, hf])
    have hz : w.heap.size + 1 < w1.heap.size := World.block_lt_of_cell? w1 _ r0
    clear hf
    go_wp2_with fail
    refine (nodeAt_any t p _ w.heap.size 0 _ ⟨_, b0, b1, HV.out.kept HB1.out⟩ (HP.out.kept HB1.out) hw hl).mono ?_
    rintro e w2 ⟨rfl, ⟨hno, rfl⟩ | ⟨s, b', o', hs, rfl, _, vs, s0, s1, s2⟩⟩
    · have HNO := Lib.hid (HF.out.trans hno)
      clear hno
      go_wp2
      refine bodyPost_ret (v := .tuple #[.agg #[.string ⟨#[]⟩, .slice none 0 0], .bool false]) (by simp [results, Try.results15, go_sem, r0, r1]) rfl ?_
      rw [HNO.out]
      exact SubEnd.no ((HB1.out.setCell (by simp) _).setCell (by simp) _)
    · have HYES := Lib.hid (HF.out.trans hs)
      have HWS : Hid (s.wt ≤ 1048576) := Lib.hid (Nat.le_trans (subAt_wt _ _ _ hs) hw)
      have HTS := Lib.hid s2
      clear hs s2
      go_wp2_with fail
      refine (copyTerm_any s _ _ HTS.out HWS.out).mono ?_
      rintro e w6 ⟨v6, rfl, ho, hb⟩
      obtain ⟨pv, cv, rfl⟩ := ho.read.is_slice
      have HO := Lib.hid ho
      have HB6 := Lib.hid (carry_below HB1.out (Nat.le_refl _) hb)
      obtain ⟨q0, q1, q2⟩ := R21.out.kept hb
      clear ho hb b0 b1 b2 r0 r1 r2 s0 s1
      go_wp2
      refine bodyPost_ret (v := .tuple #[.agg #[.string s.name, .slice pv s.args.length cv], .bool true]) (by simp [results, Try.results15, go_sem, q0, q1]) rfl ?_
      rw [HYES.out]
      refine ⟨_, rfl, ?_, (HB6.out.setCell (by simp) _).setCell (by simp) _⟩
      refine ((HO.out.setCell (fun h => by have := h.1; simp at this; omega) _).setCell (fun h => by have := h.1; simp at this; omega) _).mono fun x hx => ⟨?_, ?_⟩
      · have := hx.1; omega
      · simp only [size_setCell]; exact hx.2

end Go.Proofs.Ytppmiedhoimgmaa
