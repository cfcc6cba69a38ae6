/- FormatInt and ParseInt are inverse, AppendChecksum and VerifyChecksum are inverse, one changed byte is found: the walk of the law, in two parts. -/
import Derived.Test.YtocenggbdnchfaaDoorParse
import Derived.Test.YtocenggbdnchfaaDoorRead2
import Derived.Test.YtocenggbdnchfaaDoorVerify
import Derived.Test.YtocenggbdnchfaaDoorDetM
import Derived.Test.YtocenggbdnchfaaDoorDrawD
import Derived.Lib.ConvBytes
import Derived.Deep.RegionWith
import Derived.WalkKit
import Derived.Below
namespace Go.Proofs.YtocenggbdnchfaaDoor
open Go.RowKit
set_option linter.unusedVariables false

/-- WHAT THE WALK IS TOLD OF A SLICE OF INTEGERS THAT CAME IN: it is nil; or it leads to a row of 'cap' cells, the numbers 'zs' (the first 'len' are its elements, the rest its spare room), each fitting its kind. -/
def IsRow (k : IntKind) (w : World) (a : Option Addr) (len cap : Nat) (zs : List Int) : Prop :=
  (a = none ∧ len = 0 ∧ cap = 0 ∧ zs = []) ∨
  ∃ x, a = some x ∧ len ≤ cap ∧ cap ≤ maxLen ∧ zs.length = cap ∧ (∀ i, i < zs.length → w.cell? (x.add i) = some (.int k (zs.getD i 0))) ∧ ∀ n ∈ zs, (Lit.int k n).wf = true

theorem codeV_of_row {w : World} {a : Option Addr} {len cap : Nat} {zs : List Int} (h : IsRow .u8 w a len cap zs) : CodeV w (.slice a len cap) len w.heap.size ∧ len ≤ 9223372036854775807 := by
  rcases h with ⟨rfl, rfl, rfl, rfl⟩ | ⟨x, rfl, hl, hm, hz, hcell, hwz⟩
  · exact ⟨.inl ⟨_, _, rfl, rfl⟩, by omega⟩
  · refine ⟨?_, by unfold maxLen at hm; omega⟩
    by_cases h0 : len = 0
    · exact .inl ⟨some x, cap, by rw [h0], h0⟩
    · obtain ⟨b, off, spot⟩ := x
      have hc := hcell 0 (by omega)
      have hspot : spot = none := by simpa [Addr.add] using World.cell?_spot hc
      subst hspot
      have hc0 : w.cell? ⟨b, off, none⟩ = some (.int .u8 (zs.getD 0 0)) := by simpa [Addr.add] using hc
      refine .inr ⟨b, off, cap, rfl, by omega, World.block_lt_of_cell? w _ hc0, fun i hi => ?_⟩
      have h1 := hcell i (by omega)
      have e : Addr.add ⟨b, off, none⟩ i = ⟨b, off + i, none⟩ := by
        simp only [Addr.add]; split <;> simp_all
      rw [e] at h1
      have hm2 : zs.getD i 0 ∈ zs := by rw [List.getD_eq_getElem?_getD, List.getElem?_eq_getElem (by omega)]; exact List.getElem_mem _
      have hw := hwz _ hm2
      obtain ⟨z, hz'⟩ : ∃ z, z = zs.getD i 0 := ⟨_, rfl⟩
      rw [← hz'] at hw h1
      simp [Lit.wf, IntKind.min, IntKind.max, IntKind.signed, IntKind.bits] at hw
      exact ⟨z, by omega, by omega, h1⟩

theorem codeV_up {w w' : World} {v : Value} {n B : Nat} (h : CodeV w v n B) (hb : Below B w w') (hB : B ≤ w'.heap.size) : CodeV w' v n w'.heap.size := by
  rcases h with h | ⟨g, off, c, hv, hp, hg, hc⟩
  · exact .inl h
  · exact .inr ⟨g, off, c, hv, hp, by omega, fun i hi => by
      obtain ⟨z, h0, h1, h2⟩ := hc i hi
      exact ⟨z, h0, h1, (hb.cell (p := ⟨g, off + i, none⟩) hg).trans h2⟩⟩


theorem specParse_any (s : ByteArray) (w : World) (hs : s.size ≤ 1048576) :
    Calls Tryd.prog 14 #[.string s] w fun e w' => PEnd s e ∧ Drawn w w' := by
  have CS := Lib.hid (l1Read_any s w hs)
  go_enter Tryd.func14, Tryd.ntmps14
  go_wp2_with fail
  refine CS.out.mono ?_
  rintro e w1 ⟨⟨n, ok, rfl, hp⟩, hd⟩
  have HP := Lib.hid hp
  have HD := Lib.hid hd
  clear hp hd
  go_wp2_with fail
  go_ret2
  exact ⟨⟨n, ok, rfl, HP.out⟩, HD.out⟩

/-- The library's tables stand. -/
structure Tabs (w : World) : Prop where
  ten : Pow10 w
  syn : Holds "strconv.ErrSyntax" w
  rng : Holds "strconv.ErrRange" w
theorem Tabs.below {w w' : World} (h : Tabs w) (hb : Below w.heap.size w w') : Tabs w' := ⟨h.ten.below hb, h.syn.below gSyn hb, h.rng.below gRng hb⟩

theorem fT_size (n : Int) : (fT n).size ≤ 1048576 := by
  unfold fT
  split
  · rename_i h
    simp only [fB, decide_eq_true_eq] at h
    show (Lib.itoa n).length ≤ 1048576
    unfold Lib.itoa
    split
    · have := decDigits_le n.natAbs
      simp only [List.length_cons]; omega
    · have := decDigits_le n.toNat
      omega
  · show 0 ≤ 1048576; omega

theorem back_num {n : Int} {b : Int} {p : Bool} (h : fB n = true) (hp : PRes (fT n).data.toList b p) : b = n ∧ p = true := by
  have e : (fT n).data.toList = Lib.itoa n := by simp [fT, h]
  rw [e] at hp
  simp only [fB, decide_eq_true_eq] at h
  exact hp.one (.inl ⟨rfl, h.1, h.2, rfl⟩)

theorem drew_below {B : Nat} {w w' : World} (h : Below B w w') : Below B w w'.drew := h.trans ⟨rfl, rfl, rfl, Nat.le_refl _, fun _ _ => rfl⟩

theorem old_byte (y : ByteArray) (p : Nat) (o : UInt8) (hp : p < y.size) (ho : o = y.data.toList.getD p 0) : y.data.toList[p]? = some o := by
  have hl : p < y.data.toList.length := by rw [Array.length_toList]; exact hp
  rw [ho, List.getD_eq_getElem?_getD, List.getElem?_eq_getElem hl]; rfl

/-- The byte that the law writes is another one. -/
theorem byte_other (o : UInt8) (r2 : Int) (h0 : 0 ≤ r2) (h1 : r2 < 256) :
    ∃ u : UInt8, bits BinOp.xor IntKind.u8 (o.toNat : Int) (IntKind.u8.wrap (IntKind.i64.wrap (1 + r2.tmod 255))) = (u.toNat : Int) ∧ u ≠ o := by
  obtain ⟨m, rfl⟩ : ∃ m : Nat, r2 = (m : Int) := ⟨r2.toNat, by omega⟩
  have e : IntKind.u8.wrap (IntKind.i64.wrap (1 + (m : Int).tmod 255)) = ((1 + m % 255 : Nat) : Int) := by
    rw [IntKind.wrap_i64, IntKind.wrap_u8, Int.tmod_eq_emod_of_nonneg (by omega)]
    omega
  have ho := o.toNat_lt
  rw [e, u8_xor_nat _ _ ho (by omega)]
  obtain ⟨a, b⟩ := xor_ne o.toNat (1 + m % 255) ho (by omega) (by omega)
  refine ⟨UInt8.ofNat (o.toNat ^^^ (1 + m % 255)), ?_, fun e2 => b ?_⟩
  · rw [UInt8.toNat_ofNat_of_lt' a]
  · have := congrArg UInt8.toNat e2
    rwa [UInt8.toNat_ofNat_of_lt' a] at this

theorem after_store (W : World) (g p : Nat) (y : ByteArray) (u : UInt8) (hp : p < y.size)
    (hc : ∀ j, j < y.size → W.cell? ⟨g, j, none⟩ = some (.int .u8 (y.data.toList.getD j 0).toNat)) :
    ∀ j (hj : j < (y.data.toList.set p u).length), (W.setCell ⟨g, p, none⟩ (.int .u8 u.toNat)).drew.cell? (Addr.add ⟨g, 0, none⟩ j) = some (.int .u8 ((y.data.toList.set p u)[j].toNat : Int)) := by
  intro j hj
  have e : Addr.add ⟨g, 0, none⟩ j = ⟨g, j, none⟩ := by
    simp only [Addr.add]; split <;> simp_all
  have hl : j < y.data.toList.length := by simpa using hj
  have hl2 : j < y.size := by rw [Array.length_toList] at hl; exact hl
  rw [e]
  show (W.setCell ⟨g, p, none⟩ (.int .u8 u.toNat)).cell? ⟨g, j, none⟩ = _
  by_cases hpj : p = j
  · subst hpj
    rw [World.cell?_setCell_same _ _ _ (hc p hp), List.getElem_set_self]
  · rw [World.cell?_setCell_other _ _ _ _ (by intro e2; exact hpj (congrArg Addr.off e2)), hc j hl2, List.getElem_set_ne hpj, List.getD_eq_getElem?_getD, List.getElem?_eq_getElem hl]
    rfl

set_option maxRecDepth 100000 in
set_option maxHeartbeats 4000000 in
theorem walkC (v : Value) (n : Nat) (w : World) (h : CodeV w v n w.heap.size) (hn : n ≤ 9223372036854775807) (ht : Tabs w) :
    Calls Tryd.prog 3 #[v] w fun e w' => e = .returned (.bool true) ∧ Below w.heap.size w w' := by
  obtain ⟨a, cp, rfl⟩ := h.shape
  by_cases hbig : (65536 : Int) < (n : Int)
  · go_enter Tryd.func3, Tryd.ntmps3
    go_wp2
    go_ret
    exact ⟨rfl, Below.refl _ _⟩
  · have HV := Lib.hid h
    have HT := Lib.hid ht
    clear h ht
    go_enter Tryd.func3, Tryd.ntmps3
    go_wp2_with (go_at_call 8; go_in)
    refine (drawFormat_any _ _ n HV.out hn).mono ?_
    rintro e w1 ⟨q, rfl, hq0, hq1, hb1⟩
    have HB1 := Lib.hid hb1
    clear hb1
    go_wp2_with fail
    refine (implFormat_any q _ (HT.out.below HB1.out).ten).mono ?_
    rintro e w2 ⟨he, hb2⟩; unfold fEnd at he; subst he
    have HB2 : Hid (Below w.heap.size w w2) := Lib.hid (HB1.out.trans (hb2.mono HB1.out.size))
    clear hb2
    go_wp2_with fail
    refine (specFormat_any q _).mono ?_
    rintro e w3 ⟨he, hd3⟩; unfold fEnd at he; subst he
    have HB3 : Hid (Below w.heap.size w w3) := Lib.hid (HB2.out.trans (hd3.below _))
    clear hd3
    go_wp2_with fail
    refine (drawParse_any _ _ n (codeV_up HV.out HB3.out HB3.out.size) hn).mono ?_
    rintro e w4 ⟨t, rfl, htz, hb4⟩
    have HB4 : Hid (Below w.heap.size w w4) := Lib.hid (HB3.out.trans (hb4.mono HB3.out.size))
    clear hb4
    go_wp2_with fail
    refine (implParse_any t _ (by omega) (HT.out.below HB4.out).ten (HT.out.below HB4.out).syn (HT.out.below HB4.out).rng).mono ?_
    rintro e w5 ⟨⟨m, fine, rfl, hp5⟩, hb5⟩
    have HP5 := Lib.hid hp5
    have HB5 : Hid (Below w.heap.size w w5) := Lib.hid (HB4.out.trans (hb5.mono HB4.out.size))
    clear hb5 hp5
    go_wp2_with fail
    refine (specParse_any t _ (by omega)).mono ?_
    rintro e w6 ⟨⟨m2, fine2, rfl, hp6⟩, hd6⟩
    obtain ⟨rfl, rfl⟩ := HP5.out.one hp6
    have HB6 : Hid (Below w.heap.size w w6) := Lib.hid (HB5.out.trans (hd6.below _))
    clear hd6 hp6
    go_wp2_with fail
    refine (drawAppend_any _ _ n (codeV_up HV.out HB6.out HB6.out.size) hn).mono ?_
    rintro e w7 ⟨x, rfl, hxz, hb7⟩
    have HB7 : Hid (Below w.heap.size w w7) := Lib.hid (HB6.out.trans (hb7.mono HB6.out.size))
    clear hb7
    go_wp2_with fail
    refine (implAppend_any x _ (by omega) (HT.out.below HB7.out).ten).mono ?_
    rintro e w8 ⟨he, hb8⟩; unfold aEnd at he; subst he
    have HB8 : Hid (Below w.heap.size w w8) := Lib.hid (HB7.out.trans (hb8.mono HB7.out.size))
    clear hb8
    go_wp2_with fail
    refine (specAppend_any x _ (by omega)).mono ?_
    rintro e w9 ⟨he, hd9⟩; unfold aEnd at he; subst he
    have HB9 : Hid (Below w.heap.size w w9) := Lib.hid (HB8.out.trans (hd9.below _))
    clear hd9
    go_wp2_with fail
    refine (implParse_any (fT q) _ (fT_size q) (HT.out.below HB9.out).ten (HT.out.below HB9.out).syn (HT.out.below HB9.out).rng).mono ?_
    rintro e w10 ⟨⟨bk, th, rfl, hp10⟩, hb10⟩
    have HB10 : Hid (Below w.heap.size w w10) := Lib.hid (HB9.out.trans (hb10.mono HB9.out.size))
    have HBK : Hid ((fB q = true ∧ bk = q ∧ th = true) ∨ fB q = false) := Lib.hid (by
      cases h : fB q with
      | true => exact .inl ⟨rfl, back_num h hp10⟩
      | false => exact .inr rfl)
    clear hb10 hp10
    cases hak : aOk x with
    | false =>
      have ha : aT x = ⟨#[]⟩ := by simp [aT, hak]
      rw [ha]
      clear ha hak
      rcases HBK.out with ⟨hfb, rfl, rfl⟩ | hfb
      all_goals
        rw [hfb]
        clear hfb HBK
        go_wp2_with fail
        go_ret
        exact ⟨rfl, HB10.out⟩
    | true =>
      have ha : aT x = sealB x := by simp [aT, hak]
      rw [ha]
      clear ha
      obtain ⟨hv1, hv2⟩ := open_seal hak
      have hyz : (sealB x).size ≤ 4000 := by
        simp only [aOk, Bool.and_eq_true, decide_eq_true_eq] at hak; exact hak.2
      have hyp : 0 < (sealB x).size := by
        have := congrArg List.length (seal_list x)
        simp only [sealL, List.length_append, List.length_cons] at this
        have e : (sealB x).data.toList.length = (sealB x).size := by rw [Array.length_toList]; rfl
        omega
      have hdet : ∀ (k : Nat) (u : UInt8) (z : ByteArray), k < (sealB x).size → (sealB x).data.toList[k]? ≠ some u → z.data.toList = (sealB x).data.toList.set k u → vOk z = false := fun k u z hk hu hz => bad_seal hak hk hu hz
      obtain ⟨y, hy⟩ : ∃ y, y = sealB x := ⟨_, rfl⟩
      rw [← hy] at hv1 hv2 hyz hyp hdet ⊢
      have CV : Hid (Calls Tryd.prog 18 #[.string y] w10 fun e w' => e = .returned (.tuple #[.string x, .bool true]) ∧ Below w10.heap.size w10 w') := Lib.hid (by
        have c := implVerify_any y w10 (by omega) (HT.out.below HB10.out).ten
        unfold vEnd vT at c
        rw [hv1, hv2] at c
        exact c)
      have HDet := Lib.hid hdet
      clear hy hak hv1 hv2 hdet
      rcases HBK.out with ⟨hfb, rfl, rfl⟩ | hfb
      all_goals
        rw [hfb]
        clear hfb HBK
        go_wp2_with fail
        refine CV.out.mono ?_
        rintro e w11 ⟨rfl, hb11⟩
        have HB11 : Hid (Below w.heap.size w w11) := Lib.hid (HB10.out.trans (hb11.mono HB10.out.size))
        clear hb11 CV
        have hcv := Lib.run_convert_string_bytes (P := Tryd.prog) w11 9 22 5 y Tryd.underlying9 Tryd.underlying22 Tryd.underlying5
        have HZ := Lib.hid (Lib.bytesWorld_size w11 5 y)
        have HN := Lib.hid (Lib.bytesWorld_at_new w11 5 y)
        have HC : Hid (∀ j, j < y.size → (Lib.bytesWorld w11 5 y).cell? ⟨w11.heap.size, j, none⟩ = some (.int .u8 (y.data.toList.getD j 0).toNat)) := Lib.hid (fun j hj => Lib.bytesWorld_cell w11 5 y j hj)
        have HBW : Hid (Below w11.heap.size w11 (Lib.bytesWorld w11 5 y)) := Lib.hid ⟨rfl, rfl, rfl, by rw [Lib.bytesWorld_size]; omega, fun j hj => Lib.bytesWorld_at_old w11 5 y j hj⟩
        obtain ⟨W, hW⟩ : ∃ W, W = Lib.bytesWorld w11 5 y := ⟨_, rfl⟩
        rw [← hW] at hcv HZ HN HC HBW
        clear hW
        obtain ⟨cb, hcb⟩ : ∃ cb, cb = grownCap w11 y.size 0 5 := ⟨_, rfl⟩
        obtain ⟨g, hg⟩ : ∃ g, g = w11.heap.size := ⟨_, rfl⟩
        rw [← hcb, ← hg] at hcv
        rw [← hg] at HZ HN HC
        have HB12 : Hid (Below w.heap.size w W) := Lib.hid (HB11.out.trans (HBW.out.mono HB11.out.size))
        have hgw : w.heap.size ≤ g := by rw [hg]; exact HB11.out.size
        clear hcb hg HBW
        go_wp2_with fail
        refine (vAt_any _ _ n _ 9 (codeV_up HV.out HB12.out HB12.out.size) (by omega) (by omega)).mono ?_
        rintro e w13 ⟨r, rfl, hr0, hr1, rfl⟩
        have HR : Hid (∃ p : Nat, r % (y.size : Int) = (p : Int) ∧ p < y.size) := Lib.hid (by
          have h0 := Int.emod_nonneg r (show (y.size : Int) ≠ 0 by omega)
          have h1 := Int.emod_lt_of_pos r (show (0 : Int) < y.size by omega)
          exact ⟨(r % (y.size : Int)).toNat, by omega, by omega⟩)
        go_wp2_with fail
        obtain ⟨p, hp, hpl⟩ := HR.out
        rw [hp]
        clear hp HR hr0 hr1 hcv
        obtain ⟨o, ho⟩ : ∃ o, o = y.data.toList.getD p 0 := ⟨_, rfl⟩
        have hcl : W.cell? ⟨g, p, none⟩ = some (.int .u8 o.toNat) := by rw [ho]; exact HC.out p hpl
        have hfz : W.frozen? ⟨g, p, none⟩ = false := by
          simp only [World.frozen?, HN.out]
          have : p < (Lib.bytesCells w11 5 y).size := by
            simp only [Lib.bytesCells, Array.size_append, Array.size_map]
            have : y.data.size = y.size := rfl
            omega
          simp; omega
        have HOld := Lib.hid (old_byte y p o hpl ho)
        have C19 := Lib.hid (vAt_any W.drew _ n _ 10 (codeV_up (w' := W.drew) HV.out (drew_below HB12.out) HB12.out.size) (by omega) (by omega))
        clear ho
        go_region_with (go_at_call 19; refine C19.out.mono ?_; rintro e w14 ⟨r2, rfl, hr2, hr3, rfl⟩)
        all_goals
          obtain ⟨u, hu, hne⟩ := byte_other o r2 hr2 hr3
          rw [hu]
          have HW2 := Lib.hid (after_store W g p y u hpl HC.out)
          have HB15 : Hid (Below w.heap.size w (W.setCell ⟨g, p, none⟩ (.int .u8 u.toNat)).drew) := Lib.hid (drew_below (HB12.out.setCell hgw _))
          have hbad : vOk ⟨(y.data.toList.set p u).toArray⟩ = false := HDet.out p u _ hpl (by rw [HOld.out]; intro e; exact hne (Option.some.inj e).symm) (by simp)
          have hlen : (y.data.toList.set p u).length = y.size := by simp
          obtain ⟨W2, hW2⟩ : ∃ W2, W2 = (W.setCell ⟨g, p, none⟩ (.int .u8 u.toNat)).drew := ⟨_, rfl⟩
          rw [← hW2] at HW2 HB15 ⊢
          obtain ⟨l, hl⟩ : ∃ l, l = y.data.toList.set p u := ⟨_, rfl⟩
          rw [← hl] at HW2 hbad hlen
          have hcb := run_convert_bytes_back (P := Tryd.prog) W2 22 9 5 ⟨g, 0, none⟩ cb l Tryd.underlying22 Tryd.underlying5 Tryd.underlying9 HW2.out
          rw [hlen] at hcb
          have CV2 : Hid (Calls Tryd.prog 18 #[.string ⟨l.toArray⟩] W2 fun e w' => e = .returned (.tuple #[.string (vT ⟨l.toArray⟩), .bool false]) ∧ Below W2.heap.size W2 w') := Lib.hid (by
            have c := implVerify_any ⟨l.toArray⟩ W2 (by show l.length ≤ 1048576; omega) (HT.out.below HB15.out).ten
            unfold vEnd at c
            rw [hbad] at c
            exact c)
          clear hW2 hl hbad hlen HOld C19 hcl hfz hu hne HW2
          go_wp2_with fail
          refine CV2.out.mono ?_
          rintro e w16 ⟨rfl, hb16⟩
          have HB16 : Hid (Below w.heap.size w w16) := Lib.hid (HB15.out.trans (hb16.mono HB15.out.size))
          clear hb16
          go_wp2_with fail
          go_ret
          exact ⟨rfl, HB16.out⟩

end Go.Proofs.YtocenggbdnchfaaDoor
