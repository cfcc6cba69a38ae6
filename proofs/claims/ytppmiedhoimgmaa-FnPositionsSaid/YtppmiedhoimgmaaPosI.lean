/- The program's positions of a term: contracts, for terms of at most 1048576 names' bytes and arguments. -/
import Derived.Test.YtppmiedhoimgmaaPosP
namespace Go.Proofs.Ytppmiedhoimgmaa
open Go.RowKit
set_option linter.unusedVariables false

/-- A row that a call owns and one more that is to come: what the program appends. -/
theorem pend {wr w6 : World} {base B : Nat} {v v6 : Value} {L : List (List Int)} {q : List Int} (h : Acc wr base v L) (hb : Below wr.heap.size wr w6) (hbase : base ≤ wr.heap.size) (ho : OwnP w6 B v6 q) (hB : wr.heap.size ≤ B) :
    ∃ us Ss, w6.ownsRow base 36 1 v L.length us ∧ Rws w6 base (us ++ [v6]) (L ++ [q]) Ss ∧ (∀ g, v.ownBlock = some g → ∀ k, k < (L ++ [q]).length → ¬ Ss k g) ∧ v.ownBlock ≠ v6.ownBlock := by
  obtain ⟨us, Ss, h1, h2, h3⟩ := h
  obtain ⟨g, hg, hbg, hgl, hi⟩ := ho.own
  have r2 : Rws w6 base [v6] [q] (fun _ b => b = g) := Rws.one hi (fun b hb => by subst hb; omega)
  refine ⟨us, fun k => if k < L.length then Ss k else (fun b => b = g), own_kept h1 hb, (h2.kept hb).app r2 fun i j b hi hj hs hs' => by have := (h2.sub i b hi hs).2; omega, fun g' hg' k hk hs => ?_, fun e => ?_⟩
  · have hl := h1.lt g' hg'
    by_cases e : k < L.length
    · simp only [if_pos e] at hs; exact h3 g' hg' k e hs
    · simp only [if_neg e] at hs; omega
  · rw [hg] at e
    have hl := h1.lt g e; omega

def AppEnd (w0 w : World) (v : Value) (L : List (List Int)) (e : Ending) (w' : World) : Prop :=
  ∃ v', e = .returned v' ∧ Acc w' w0.heap.size v' L ∧ w.grownBy w' v.ownBlock ∧ (v'.ownBlock = v.ownBlock ∨ ∀ g, v'.ownBlock = some g → w.heap.size ≤ g)

def AppT (t : Tm) : Prop := ∀ (w0 w : World) (va v vp : Value) (us : List Value) (L : List (List Int)) (Ss : Nat → Nat → Prop) (p : List Int), TmS w0 va t.args → Below w0.heap.size w0 w →
  w.ownsRow w0.heap.size 36 1 v L.length us → Rws w w0.heap.size (us ++ [vp]) (L ++ [p]) Ss → (∀ g, v.ownBlock = some g → ∀ k, k < (L ++ [p]).length → ¬ Ss k g) → PosV w vp p → v.ownBlock ≠ vp.ownBlock →
  t.wt ≤ 1048576 → L.length + t.sz ≤ 4000000 → p.length + t.dp ≤ 1048576 →
  Calls Try.prog 50 #[v, .agg #[.string t.name, va], vp] w (AppEnd w0 w v (L ++ posT p t))

set_option maxRecDepth 100000 in
set_option maxHeartbeats 4000000 in
theorem app_of (t : Tm) (h : ∀ s ∈ t.args, AppT s) : AppT t := by
  intro w0 w va v vp us L Ss p hv hb0 hown hrw hne hp hnp hw hL hd
  have H := Lib.hid h
  have HL := Lib.hid (fun (s : Tm) (hs : s ∈ t.args) => Nat.le_trans (Tm.wt_arg hs) hw)
  have hlen := Tm.wt_len t
  have hsz := t.sz_eq
  have hszp := t.sz_pos
  obtain ⟨a, c, rfl⟩ := hv.is_slice
  obtain ⟨g0, c0, rfl, hg0, hc0⟩ := hp
  have HP : Hid (PosV w (.slice (some ⟨g0, 0, none⟩) p.length c0) p) := Lib.hid ⟨g0, c0, rfl, hg0, hc0⟩
  have HV := Lib.hid hv
  have HB0 := Lib.hid hb0
  have HNP := Lib.hid hnp
  obtain ⟨j0, hj, hy0, hy1, hy2⟩ := info_parts infoInts
  have hpl : p.length ≤ 1048576 := by omega
  have hz0 := hb0.size
  have HW1 := Lib.hid (((Below.refl w.heap.size w).alloc (Nat.le_refl _) (.cells #[.string t.name, .slice a t.args.length c] 26)).alloc (by simp) (.cells #[.slice (some ⟨g0, 0, none⟩) p.length c0] 36))
  have H2 := Lib.hid ((two_new w (.string t.name) (.slice a t.args.length c) 26 _ rfl).alloc (.cells #[.slice (some ⟨g0, 0, none⟩) p.length c0] 36))
  have HR1 := Lib.hid (hrw.kept HW1.out)
  have HO1 := Lib.hid (own_kept hown HW1.out)
  have HNE := Lib.hid hne
  have HFR := Lib.hid (fun g (hg : v.ownBlock = some g) => hown.lt g hg)
  have HNW : Hid (∀ j u, [Value.slice (some ⟨g0, 0, none⟩) p.length c0][j]? = some u → ((w.alloc (.cells #[.string t.name, .slice a t.args.length c] 26)).alloc (.cells #[(.slice (some ⟨g0, 0, none⟩) p.length c0)] 36)).cell? ((⟨w.heap.size + 1, 0, none⟩ : Addr).add j) = some u) := Lib.hid (by
    rw [show w.heap.size + 1 = (w.alloc (.cells #[.string t.name, .slice a t.args.length c] 26)).heap.size by simp]
    exact World.news_of_block (cs := #[(.slice (some ⟨g0, 0, none⟩) p.length c0)]) (t := 36) (fr := (0, 0)) (heap_alloc_new _ _))
  have HON : Hid (∀ u ∈ [Value.slice (some ⟨g0, 0, none⟩) p.length c0], u.oneCell' = true) := Lib.hid (by simp [Value.oneCell'])
  have HN0 : Hid (some w.heap.size ≠ v.ownBlock) := Lib.hid (fun e => by have := (HFR.out _ e.symm).2; omega)
  clear h hv hc0 hown hrw hne hnp hb0
  go_enter Try.func50, Try.ntmps50
  go_wp2_with (at_builtin; refine wpList_append_lies _ rfl (.tmp 9) (.tmp 11) 28 rfl w0.heap.size 36 j0 (.slice none 0 0) 1 24 Try.underlying28 hj hy0 hy1 hy2 rfl Nat.one_pos v L.length us rfl HO1.out ⟨w.heap.size + 1, 0, none⟩ 1 1 [.slice (some ⟨g0, 0, none⟩) p.length c0] rfl rfl HNW.out HON.out Nat.one_pos (by unfold maxLen; omega) (by omega) (by simp; omega) (w.heap.size + 1 + 1) (by simp) ?_; intro g2 c2 w2 hown2 hgrow2 hat2 hlt2; have T2 := Lib.hid (H2.out.grown hgrow2 HN0.out); have HA2 := Lib.hid (Acc.appended HR1.out HNE.out (by simp) hown2 hgrow2 (hat2.imp id (fun e => by rw [e]; simp))); have HG2 := Lib.hid (grown_trans (grown_of_below HW1.out v.ownBlock) hgrow2 (.inl rfl)); have HAT2 : Hid ((Value.slice (some ⟨g2, 0, none⟩) (L.length + 1) c2).ownBlock = v.ownBlock ∨ ∀ g, (Value.slice (some ⟨g2, 0, none⟩) (L.length + 1) c2).ownBlock = some g → w.heap.size ≤ g) := Lib.hid (hat2.imp (fun e => e.symm) (fun e g h => by have e2 : g2 = g := Option.some.inj h; omega)); obtain ⟨b0, b1, b2⟩ := T2.out; clear hown2 hgrow2 hat2)
  go_loopw [0, 16] (fun ov i wr => ∃ k : Nat, k ≤ t.args.length ∧ i = .int .i64 k ∧ Acc wr w0.heap.size ov (L ++ [p] ++ posL p 0 (t.args.take k)) ∧ w.grownBy wr v.ownBlock ∧ (ov.ownBlock = v.ownBlock ∨ ∀ g, ov.ownBlock = some g → w.heap.size ≤ g)) (fun _ i _ => t.args.length - (intOf i).toNat)
  case atStart => exact ⟨0, Nat.zero_le _, rfl, by rw [List.take_zero, posL, List.append_nil]; exact HA2.out, HG2.out, HAT2.out⟩
  case round =>
    obtain ⟨k, hk, rfl, hacc, hgr, hat⟩ := hrel
    have HA := Lib.hid hacc
    have HG := Lib.hid hgr
    have HAT := Lib.hid hat
    clear hacc hgr hat
    obtain ⟨gu, nu, cu, rfl, hnu, hgu, hlu⟩ := HA.out.form (by simp; omega)
    have HNU := Lib.hid hnu
    have hzr := HG.out.size
    have HBR : Hid (Below w0.heap.size w0 wr) := Lib.hid (below_grown HB0.out (Nat.le_refl _) HG.out (fun g h => (HFR.out g h).1))
    clear hnu
    by_cases hlt : k < t.args.length
    · obtain ⟨s, hs⟩ : ∃ s, t.args[k]? = some s := ⟨_, List.getElem?_eq_getElem hlt⟩
      obtain ⟨b, off, rfl, va, c0', c1', hva⟩ := HV.out.get hs
      have e0 := carry_cell c0' HBR.out
      have e1 := carry_cell c1' HBR.out
      obtain ⟨pv, cv, rfl⟩ := hva.is_slice
      have HVA := Lib.hid hva
      have HS := Lib.hid hs
      have HPR := Lib.hid (HP.out.grown HG.out HNP.out)
      clear hs c0' c1' hva
      have hpk : (p ++ [(k : Int)]).length + s.dp ≤ 1048576 := by have h1 := dp_arg (mem_of_at HS.out); simp; omega
      have hns : (L ++ [p] ++ posL p 0 (t.args.take k)).length + s.sz ≤ 4000000 := by
        have h1 := sumL_next (f := Tm.sz) HS.out
        have h2 := sumL_take Tm.sz t.args (k + 1)
        simp only [List.length_append, posL_len, List.length_cons, List.length_nil]
        omega
      have hzw := HBR.out.size
      have C2 : Hid (∀ (W : World) (B : Nat) (V6 : Value), Below wr.heap.size wr W → wr.heap.size ≤ B → OwnP W B V6 (p ++ [(k : Int)]) → Calls Try.prog 50 #[.slice (some ⟨gu, 0, none⟩) nu cu, .agg #[.string s.name, .slice pv s.args.length cv], V6] W (AppEnd w0 W (.slice (some ⟨gu, 0, none⟩) nu cu) (L ++ [p] ++ posL p 0 (t.args.take k) ++ posT (p ++ [(k : Int)]) s))) := Lib.hid (fun W B V6 hW hB ho => by
        obtain ⟨us', Ss', h1, h2, h3, h4⟩ := pend HA.out hW hzw ho hB
        exact H.out s (mem_of_at HS.out) w0 W _ _ _ us' _ Ss' _ HVA.out (carry_below HBR.out (Nat.le_refl _) hW) h1 h2 h3 ho.read h4 (HL.out s (mem_of_at HS.out)) hns hpk)
      have HBX := Lib.hid (((Below.refl wr.heap.size wr).alloc (Nat.le_refl _) (.cells #[Value.string s.name, .slice pv s.args.length cv] 26)).alloc (by simp) (.cells #[Value.int .i64 k] 3))
      have HTX := Lib.hid ((two_new wr (.string s.name) (.slice pv s.args.length cv) 26 _ rfl).alloc (.cells #[Value.int .i64 k] 3))
      have HKX : Hid (((wr.alloc (.cells #[Value.string s.name, .slice pv s.args.length cv] 26)).alloc (.cells #[Value.int .i64 k] 3)).drew.cell? ⟨wr.heap.size + 1, 0, none⟩ = some (.int .i64 k)) := Lib.hid (by
        have h := World.news_of_block (cs := #[Value.int .i64 k]) (t := 3) (fr := (0, 0)) (heap_alloc_new (wr.alloc (.cells #[Value.string s.name, .slice pv s.args.length cv] 26)) _) 0 _ rfl
        rw [show (wr.alloc (.cells #[Value.string s.name, .slice pv s.args.length cv] 26)).heap.size = wr.heap.size + 1 by simp] at h
        exact h)
      have hBd : Below wr.heap.size wr ((wr.alloc (.cells #[Value.string s.name, .slice pv s.args.length cv] 26)).alloc (.cells #[Value.int .i64 k] 3)).drew := HBX.out.drew
      have C1 := Lib.hid (extend_any p k _ ((wr.alloc (.cells #[Value.string s.name, .slice pv s.args.length cv] 26)).alloc (.cells #[Value.int .i64 k] 3)).drew (wr.heap.size + 1) 1 (HPR.out.kept hBd) hpl HKX.out)
      have HTD : Hid (Two ((wr.alloc (.cells #[Value.string s.name, .slice pv s.args.length cv] 26)).alloc (.cells #[Value.int .i64 k] 3)).drew wr.heap.size (.string s.name) (.slice pv s.args.length cv)) := Lib.hid HTX.out
      obtain ⟨z0, z1, z2⟩ := HTX.out
      clear hpk hns
      go_wp2_with fail
      go_region_law (first
        | ((go_simp); (go_at_call 109); (refine C1.out.mono ?_); (rintro e w6 ⟨v6, rfl, ho, hb⟩); (have hform : ∃ g c, v6 = .slice (some ⟨g, 0, none⟩) (p.length + 1) c := (by simpa using ho.2)); (obtain ⟨g6, c6, rfl⟩ := hform); (have HO6 := Lib.hid ho); (have HB6 := Lib.hid (carry_below hBd (Nat.le_refl _) hb)); (obtain ⟨q0, q1, q2⟩ := HTD.out.kept hb); (have HSB : Hid (wr.heap.size ≤ ((wr.alloc (.cells #[Value.string s.name, .slice pv s.args.length cv] 26)).alloc (.cells #[Value.int .i64 k] 3)).drew.heap.size) := Lib.hid hBd.size); clear ho hb)
        | (go_simp; go_at_call 50; refine (C2.out w6 _ _ HB6.out HSB.out HO6.out).mono ?_; rintro e w7 ⟨v7, rfl, hacc7, hgr7, hat7⟩; have HA7 := Lib.hid hacc7; have HG7 := Lib.hid (grown_trans HG.out (grown_trans (grown_of_below HB6.out _) hgr7 (.inl rfl)) HAT.out); have HT7 : Hid (v7.ownBlock = v.ownBlock ∨ ∀ g, v7.ownBlock = some g → w.heap.size ≤ g) := Lib.hid (hat7.elim (fun e => e ▸ HAT.out) (fun h => .inr fun g hg => Nat.le_trans hzr (Nat.le_trans HB6.out.size (h g hg)))); clear hacc7 hgr7 hat7))
      all_goals
        have HN : Hid (Acc w7 w0.heap.size v7 (L ++ [p] ++ posL p 0 (t.args.take (k + 1)))) := Lib.hid (by rw [posL_take t.args p 0 k s HS.out, Nat.zero_add, ← List.append_assoc]; exact HA7.out)
        clear e0 e1 z0 z1 z2 q0 q1 q2 hBd
        go_wp2
        go_roundw
        case rel => exact ⟨k + 1, by omega, by go_num, HN.out, HG7.out, HT7.out⟩
        case measure => simp [intOf]; omega
    · have hke : k = t.args.length := by omega
      have HE : Hid (AppEnd w0 w v (L ++ posT p t) (.returned (.slice (some ⟨gu, 0, none⟩) nu cu)) wr) := Lib.hid ⟨_, rfl, by have h := HA.out; rw [hke, List.take_length, List.append_assoc] at h; rw [posT_eq]; exact h, HG.out, HAT.out⟩
      clear hke
      go_wp2
      go_ret
      exact HE.out

theorem app_any (t : Tm) : AppT t := Tm.ind (P := AppT) (fun t ih => app_of t ih) t

end Go.Proofs.Ytppmiedhoimgmaa
