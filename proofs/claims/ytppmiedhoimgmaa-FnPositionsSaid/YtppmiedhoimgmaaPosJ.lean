/- The program's Positions: a contract, for terms of at most 1048576 names' bytes and arguments. -/
import Derived.Test.YtppmiedhoimgmaaPosI
import Derived.Test.YtppmiedhoimgmaaSizes
namespace Go.Proofs.Ytppmiedhoimgmaa
open Go.RowKit
set_option linter.unusedVariables false

set_option maxRecDepth 100000 in
set_option maxHeartbeats 1000000 in
theorem implPos_any (t : Tm) (w : World) (va : Value) (hv : TmS w va t.args) (hw : t.wt ≤ 1048576) :
    Calls Try.prog 11 #[.agg #[.string t.name, va]] w (PosEnd t w) := by
  obtain ⟨a, c, rfl⟩ := hv.is_slice
  have HV := Lib.hid hv
  clear hv
  go_enter Try.func11, Try.ntmps11
  go_wp2_with fail
  refine (areExpr_one t _ _ _ _ ((HV.out.alloc _).alloc _) (two_new _ _ _ _ _ (by simp)).1 (two_new _ _ _ _ _ (by simp)).2.1 hw).mono ?_
  rintro e w1 ⟨rfl, hb⟩
  have HB1 := Lib.hid (carry_below ((((Below.refl w.heap.size w).alloc (Nat.le_refl _) _).alloc (by simp) _)) (Nat.le_refl _) hb)
  obtain ⟨b0, b1, b2⟩ := ((two_new w (.string t.name) (.slice a t.args.length c) 26 _ rfl).alloc _).kept hb
  have hz1 : w.heap.size ≤ w1.heap.size := HB1.out.size
  clear hb
  cases hf : anyB t with
  | false =>
    have HE : Hid (PosEnd t w (.returned (.tuple #[.slice (some ⟨w1.heap.size, 0, none⟩) 0 0, .bool false])) (w1.alloc (.cells #[] 36))) := Lib.hid ⟨_, by rw [hf], by simp only [posA, hf]; exact Acc.none_ w1 _ hz1, HB1.out.alloc hz1 _⟩
    clear hf
    go_wp2
    go_ret2
    exact HE.out
  | true =>
    have hfit := (fits_iff.1 (anyB_fits hf))
    have hB2 : Below w.heap.size w (w1.alloc (.cells #[] 3)) := HB1.out.alloc hz1 _
    have hpe : OwnP (w1.alloc (.cells #[] 3)) w1.heap.size (.slice (some ⟨w1.heap.size, 0, none⟩) 0 0) [] := ⟨World.ownsRow_lit w1 #[] 0 (Nat.le_refl _) (by decide) (by simp), _, _, rfl⟩
    have C1 := Lib.hid (app_any t w (w1.alloc (.cells #[] 3)) _ (.slice none 0 0) _ [] [] (fun _ b => b = w1.heap.size) [] HV.out hB2 (World.ownsRow_nil _ _ _ _) (by
      obtain ⟨g, hg, _, hgl, hi⟩ := hpe.own
      have e : w1.heap.size = g := Option.some.inj hg
      subst e
      exact Rws.one hi (fun b hb => by subst hb; exact ⟨hz1, hgl⟩)) (fun g hg => by cases hg) hpe.read (by simp [Value.ownBlock]) hw (by simp; omega) (by simp; omega))
    have HA : Hid (posA t = posT [] t) := Lib.hid (by simp [posA, hf])
    have HAB := Lib.hid hf
    have HBB := Lib.hid hB2
    clear hf hfit hpe hB2
    go_wp2_with (go_at_call 50; refine C1.out.mono ?_; rintro e w2 ⟨v2, rfl, hacc, hgr, hat⟩; have HE : Hid (PosEnd t w (.returned (.tuple #[v2, .bool true])) w2) := Lib.hid ⟨_, by rw [HAB.out], by rw [HA.out]; exact hacc, below_grown HBB.out (Nat.le_refl _) hgr (fun g h => by cases h)⟩; clear hacc hgr hat)
    go_ret2
    exact HE.out

end Go.Proofs.Ytppmiedhoimgmaa
