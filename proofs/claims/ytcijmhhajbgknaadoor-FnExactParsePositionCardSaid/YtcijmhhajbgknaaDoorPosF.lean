/- The text of a position: the model's and the program's, as contracts, for every slice of integers. No condition. -/
import Derived.Test.YtcijmhhajbgknaaDoorJoinF
import Derived.Test.YtcijmhhajbgknaaDoorNumF
namespace Go.Proofs.YtcijmhhajbgknaaDoor
open Go.RowKit
set_option linter.unusedVariables false

/-- A position's element is one of the argument numbers. -/
def noB (x : Int) : Bool := !inB x 0 3
def pAll (is : List Int) : Bool := is.all fun x => inB x 0 3
def pOk (is : List Int) : Bool := pAll is && decide (is.length ≤ 8)
def dig (x : Int) : ByteArray := ⟨(Lib.decDigits x.toNat).toArray⟩
def digP (is : List Int) : List (List UInt8) := bytesOf (is.map dig)
def pText (is : List Int) : ByteArray := if pOk is then (if is = [] then ⟨#[45]⟩ else ⟨(Lib.join (digP is) [46]).toArray⟩) else ⟨#[]⟩
def pEnd (is : List Int) : Ending := .returned (.tuple #[.string (pText is), .bool (pOk is)])

theorem inB_iff {x : Int} : inB x 0 3 = true ↔ 0 ≤ x ∧ x ≤ 3 := by simp [inB]
theorem dig_eq {x : Int} (h : inB x 0 3 = true) : dig x = ⟨#[UInt8.ofNat (48 + x.toNat)]⟩ := by
  have h := inB_iff.1 h
  unfold dig
  rw [Lib.decDigits_one (by omega)]
theorem dig_size {x : Int} (h : inB x 0 3 = true) : (dig x).size = 1 := by rw [dig_eq h]; rfl
theorem dig_dot {x : Int} (h : inB x 0 3 = true) : hasB 46 (dig x).data.toList = false := by
  rw [dig_eq h]
  have h := inB_iff.1 h
  obtain ⟨n, rfl⟩ : ∃ n : Nat, x = (n : Int) := ⟨x.toNat, by omega⟩
  have hn : n < 4 := by omega
  have : ∀ n : Nat, n < 4 → hasB 46 (ByteArray.mk #[UInt8.ofNat (48 + n)]).data.toList = false := by decide
  exact this n hn

theorem pOk_all {is : List Int} (h : pOk is = true) : ∀ x ∈ is, inB x 0 3 = true := by
  simp only [pOk, pAll, Bool.and_eq_true, List.all_eq_true] at h
  exact h.1
theorem pOk_len {is : List Int} (h : pOk is = true) : is.length ≤ 8 := by
  simp only [pOk, Bool.and_eq_true, decide_eq_true_eq] at h
  exact h.2
theorem pOk_bad {is : List Int} (h : pAll is = false) : pOk is = false := by simp [pOk, h]
theorem pOk_long {is : List Int} (h : 8 < is.length) : pOk is = false := by simp [pOk]; omega
theorem pAll_bad {is : List Int} {k : Nat} {x : Int} (h : is[k]? = some x) (hx : inB x 0 3 = false) : pAll is = false := by
  cases hp : pAll is with
  | false => rfl
  | true =>
    simp only [pAll, List.all_eq_true] at hp
    rw [hp x (List.mem_of_getElem? h)] at hx; cases hx
theorem pAll_next {is : List Int} {k : Nat} {x : Int} (h : pAll (is.take k) = true) (hx : is[k]? = some x) (hb : inB x 0 3 = true) : pAll (is.take (k + 1)) = true := by
  unfold pAll at h ⊢
  rw [List.take_add_one, hx, List.all_append, h]
  simp [hb]
theorem pEnd_no {is : List Int} (h : pOk is = false) : Ending.returned (.tuple #[.string ⟨#[]⟩, .bool false]) = pEnd is := by simp [pEnd, pText, h]
theorem pEnd_nil : Ending.returned (.tuple #[.string ⟨#[45]⟩, .bool true]) = pEnd [] := by simp [pEnd, pText, pOk, pAll]
theorem pEnd_yes {is : List Int} (h : pOk is = true) (h0 : is ≠ []) : Ending.returned (.tuple #[.string ⟨(Lib.join (digP is) [46]).toArray⟩, .bool true]) = pEnd is := by simp [pEnd, pText, h, h0]

theorem digP_len (is : List Int) : (digP is).length = is.length := by simp [digP, bytesOf]
theorem digP_at {is : List Int} {k : Nat} {x : Int} (h : is[k]? = some x) : (digP is)[k]? = some (dig x).data.toList := by simp [digP, bytesOf, h]
theorem digP_lens : ∀ is : List Int, (∀ x ∈ is, inB x 0 3 = true) → Lib.lens (digP is) = is.length
  | [], _ => rfl
  | x :: r, h => by
    have e := digP_lens r (fun y hy => h y (List.mem_cons_of_mem _ hy))
    have hs := dig_size (h x (List.mem_cons_self ..))
    have hs' : (dig x).data.toList.length = 1 := by rw [Array.length_toList]; exact hs
    have : digP (x :: r) = (dig x).data.toList :: digP r := rfl
    rw [this]
    simp only [Lib.lens, List.map_cons, List.sum_cons, List.length_cons] at e ⊢
    omega
theorem digP_short {is : List Int} (h : pOk is = true) : (Lib.join (digP is) [46]).length ≤ 16 := by
  by_cases h0 : digP is = []
  · rw [h0, Lib.join_nil]; simp
  · have e := join_len 46 _ h0
    have := digP_lens is (pOk_all h)
    have := digP_len is
    have := pOk_len h
    omega
theorem pJoin {is : List Int} (h : pOk is = true) (h0 : is ≠ []) : jB (is.map dig) ⟨#[46]⟩ = true := by
  have hl := digP_len is
  rw [jB_one]
  refine jOk_of (fun e => h0 ?_) (fun k hk => ?_) (Nat.le_trans (digP_short h) (by omega))
  · have : (digP is).length = 0 := by show (bytesOf (is.map dig)).length = 0; rw [e]; rfl
    rw [hl] at this
    exact List.length_eq_zero_iff.1 this
  · have hk' : k < is.length := by rw [← hl]; exact hk
    have e : (digP is)[k]? = some (dig is[k]).data.toList := digP_at (List.getElem?_eq_getElem hk')
    have e2 : (bytesOf (is.map dig)).getD k [] = (dig is[k]).data.toList := by rw [List.getD_eq_getElem?_getD]; show ((digP is)[k]?).getD [] = _; rw [e]; rfl
    rw [e2]
    exact dig_dot (pOk_all h _ (List.getElem_mem hk'))
theorem pJoinEnd {is : List Int} (h : pOk is = true) (h0 : is ≠ []) : jEnd (is.map dig) ⟨#[46]⟩ = pEnd is := by
  rw [← pEnd_yes h h0]
  simp [jEnd, jT, pJoin h h0, digP]

/-- What the model's loop has written. -/
def PRel (is : List Int) (k : Nat) (s : ByteArray) : Prop := s.data.toList = Lib.join ((digP is).take k) [46]
theorem PRel.start (is : List Int) : PRel is 0 ⟨#[]⟩ := by simp [PRel, Lib.join_nil]
theorem PRel.size {is : List Int} {k : Nat} {s : ByteArray} (h : PRel is k s) (hp : pOk is = true) : s.size ≤ 16 := by
  have e : s.size = s.data.toList.length := by rw [Array.length_toList]; rfl
  have := take_len_le 46 (digP is) k
  have := digP_short hp
  rw [e, h]; omega
theorem PRel.one {is : List Int} {x : Int} {s : ByteArray} (h : PRel is 0 s) (hx : is[0]? = some x) : PRel is 1 (s ++ dig x) := by
  unfold PRel at h ⊢
  rw [join_take_succ 46 _ 0 _ (digP_at hx), if_pos rfl]
  simp [Lib.join_nil] at h
  simp [h]
theorem PRel.next {is : List Int} {k : Nat} {x : Int} {s : ByteArray} (h : PRel is k s) (hk : 0 < k) (hx : is[k]? = some x) : PRel is (k + 1) (s ++ ⟨#[46]⟩ ++ dig x) := by
  unfold PRel at h ⊢
  rw [join_take_succ 46 _ k _ (digP_at hx), if_neg (by omega), ← h]
  simp
theorem PRel.done {is : List Int} {k : Nat} {s : ByteArray} (h : PRel is k s) (hk : is.length ≤ k) : s = ⟨(Lib.join (digP is) [46]).toArray⟩ := by
  unfold PRel at h
  rw [List.take_of_length_le (by rw [digP_len]; exact hk)] at h
  rw [← h]
theorem pRaw_ne {is : List Int} (h : pOk is = true) (h0 : is ≠ []) : (Lib.join (digP is) [46]) ≠ [] := by
  intro e
  have h1 : digP is ≠ [] := fun e => h0 (List.length_eq_zero_iff.1 (by rw [← digP_len, e]; rfl))
  have e2 := join_len 46 _ h1
  have := digP_lens is (pOk_all h)
  have := digP_len is
  have hp : 0 < is.length := List.length_pos_iff.2 h0
  rw [e] at e2
  simp at e2
  omega

theorem noArg_any (x : Int) (w : World) :
    Calls Tryd.prog 94 #[.int .i64 x] w fun e w' => e = .returned (.bool (noB x)) ∧ w = w' := by
  by_cases h : x < 0
  · have H : Hid (true = noB x) := Lib.hid (by simp [noB, inB]; omega)
    go_enter Tryd.func94, Tryd.ntmps94
    go_wp2
    go_ret
    exact ⟨ret_bool H.out, rfl⟩
  · by_cases h2 : 4 ≤ x
    · have H : Hid (true = noB x) := Lib.hid (by simp [noB, inB]; omega)
      go_enter Tryd.func94, Tryd.ntmps94
      go_wp2
      go_ret
      exact ⟨ret_bool H.out, rfl⟩
    · have H : Hid (false = noB x) := Lib.hid (by simp [noB, inB]; omega)
      go_enter Tryd.func94, Tryd.ntmps94
      go_wp2
      go_ret
      exact ⟨ret_bool H.out, rfl⟩

def IdxRes (is : List Int) (e : Ending) : Prop := (e = .returned (.int .i64 (-1)) ∧ pAll is = true) ∨ ∃ r : Int, 0 ≤ r ∧ e = .returned (.int .i64 r) ∧ pAll is = false

set_option maxHeartbeats 1000000 in
theorem index_any (is : List Int) (v : Value) (w : World) (hv : IntsV w v is) (hn : is.length ≤ 9223372036854775807) :
    Calls Tryd.prog 121 #[v, .func (.func 94) #[] #[]] w fun e w' => IdxRes is e ∧ w = w' := by
  obtain ⟨a, c, rfl, hc⟩ := hv
  have HC := Lib.hid hc
  clear hc
  go_enter Tryd.func121, Tryd.ntmps121
  go_wp2
  go_loop [8] (fun i => ∃ k : Nat, k ≤ is.length ∧ i = .int .i64 k ∧ pAll (is.take k) = true) (fun i => is.length - (intOf i).toNat)
  case atStart => exact ⟨0, Nat.zero_le _, rfl, by simp [pAll]⟩
  case round =>
    obtain ⟨k, hk, rfl, hall⟩ := hrel
    have HA := Lib.hid hall
    clear hall
    by_cases hlt : k < is.length
    · obtain ⟨x, hx⟩ : ∃ x, is[k]? = some x := ⟨_, List.getElem?_eq_getElem hlt⟩
      obtain ⟨b, off, rfl, hcr⟩ := HC.out k x hx
      have HX := Lib.hid hx
      clear hx
      cases hb : inB x 0 3 with
      | true =>
        have C := Lib.hid (noArg_any x w)
        have hno : noB x = false := by simp [noB, hb]
        rw [hno] at C
        have HN : Hid (pAll (is.take (k + 1)) = true) := Lib.hid (by
          exact pAll_next HA.out HX.out hb)
        clear hb hno
        go_wp2_with (go_at_call 94; refine C.out.mono ?_; rintro e w' ⟨rfl, rfl⟩)
        go_round
        case rel => exact ⟨k + 1, by omega, by go_num, HN.out⟩
        case measure => simp [intOf]; omega
      | false =>
        have C := Lib.hid (noArg_any x w)
        have hno : noB x = true := by simp [noB, hb]
        rw [hno] at C
        have HN : Hid (pAll is = false) := Lib.hid (pAll_bad HX.out hb)
        clear hb hno
        go_wp2_with (go_at_call 94; refine C.out.mono ?_; rintro e w' ⟨rfl, rfl⟩)
        go_ret
        exact ⟨.inr ⟨(k : Int), by omega, rfl, HN.out⟩, rfl⟩
    · have HN : Hid (pAll is = true) := Lib.hid (by have h := HA.out; rwa [List.take_of_length_le (by omega)] at h)
      go_wp2
      go_ret
      exact ⟨.inl ⟨rfl, HN.out⟩, rfl⟩

theorem contains_any (is : List Int) (v : Value) (w : World) (hv : IntsV w v is) (hn : is.length ≤ 9223372036854775807) :
    Calls Tryd.prog 93 #[v, .func (.func 94) #[] #[]] w fun e w' => e = .returned (.bool (!pAll is)) ∧ w = w' := by
  have C := Lib.hid (index_any is v w hv hn)
  obtain ⟨a, c, rfl, hc⟩ := hv
  clear hc
  go_enter Tryd.func93, Tryd.ntmps93
  go_wp2_with fail
  refine C.out.mono ?_
  rintro e w' ⟨⟨rfl, h⟩ | ⟨r, h0, rfl, h⟩, rfl⟩
  · have H : Hid (false = !pAll is) := Lib.hid (by rw [h]; rfl)
    clear h
    go_wp2
    go_ret
    exact ⟨ret_bool H.out, rfl⟩
  · have H : Hid (true = !pAll is) := Lib.hid (by rw [h]; rfl)
    clear h
    go_wp2
    go_ret
    exact ⟨ret_bool H.out, rfl⟩

theorem isPos_any (is : List Int) (v : Value) (w : World) (hv : IntsV w v is) (hn : is.length ≤ 9223372036854775807) :
    Calls Tryd.prog 62 #[v] w fun e w' => e = .returned (.bool (pOk is)) ∧ w = w' := by
  have C := Lib.hid (contains_any is v w hv hn)
  obtain ⟨a, c, rfl, hc⟩ := hv
  clear hc
  by_cases h : is.length ≤ 8
  · have H : Hid ((!(!pAll is)) = pOk is) := Lib.hid (by simp [pOk, h])
    go_enter Tryd.func62, Tryd.ntmps62
    go_wp2_with (go_at_call 93; refine C.out.mono ?_; rintro e w' ⟨rfl, rfl⟩)
    go_ret
    exact ⟨ret_bool (by simpa using H.out), rfl⟩
  · have H : Hid (false = pOk is) := Lib.hid (pOk_long (by omega)).symm
    go_enter Tryd.func62, Tryd.ntmps62
    go_wp2
    go_ret
    exact ⟨ret_bool H.out, rfl⟩

theorem place_any (is : List Int) (v : Value) (w : World) (hv : IntsV w v is) (hn : is.length ≤ 9223372036854775807) :
    Calls Tryd.prog 60 #[v] w fun e w' => e = .returned (.bool (pOk is)) ∧ w = w' := by
  obtain ⟨a, c, rfl, hc⟩ := hv
  have HC := Lib.hid hc
  clear hc
  go_enter Tryd.func60, Tryd.ntmps60
  go_wp2
  go_loop [3] (fun i => ∃ k : Nat, k ≤ is.length ∧ i = .int .i64 k ∧ pAll (is.take k) = true) (fun i => is.length - (intOf i).toNat)
  case atStart => exact ⟨0, Nat.zero_le _, rfl, by simp [pAll]⟩
  case round =>
    obtain ⟨k, hk, rfl, hall⟩ := hrel
    have HA := Lib.hid hall
    clear hall
    by_cases hlt : k < is.length
    · obtain ⟨x, hx⟩ : ∃ x, is[k]? = some x := ⟨_, List.getElem?_eq_getElem hlt⟩
      obtain ⟨b, off, rfl, hcr⟩ := HC.out k x hx
      have HX := Lib.hid hx
      clear hx
      cases hb : inB x 0 3 with
      | true =>
        have C := Lib.hid (in_any x 0 3 w)
        rw [hb] at C
        have HN : Hid (pAll (is.take (k + 1)) = true) := Lib.hid (by
          exact pAll_next HA.out HX.out hb)
        clear hb
        go_wp2_with (go_at_call 91; refine C.out.mono ?_; rintro e w' ⟨rfl, rfl⟩)
        go_round
        case rel => exact ⟨k + 1, by omega, by go_num, HN.out⟩
        case measure => simp [intOf]; omega
      | false =>
        have C := Lib.hid (in_any x 0 3 w)
        rw [hb] at C
        have HN : Hid (false = pOk is) := Lib.hid (pOk_bad (pAll_bad HX.out hb)).symm
        clear hb
        go_wp2_with (go_at_call 91; refine C.out.mono ?_; rintro e w' ⟨rfl, rfl⟩)
        go_ret
        exact ⟨ret_bool HN.out, rfl⟩
    · have hA : pAll is = true := by have h := HA.out; rwa [List.take_of_length_le (by omega)] at h
      have HN : Hid (decide ((is.length : Int) ≤ 8) = pOk is) := Lib.hid (by simp [pOk, hA]; omega)
      clear hA
      go_wp2
      go_ret
      exact ⟨ret_bool HN.out, rfl⟩

end Go.Proofs.YtcijmhhajbgknaaDoor
