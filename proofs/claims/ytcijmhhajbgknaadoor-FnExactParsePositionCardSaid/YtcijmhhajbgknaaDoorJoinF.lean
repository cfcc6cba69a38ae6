/- The two JoinStrings functions, the program's and the model's, give the same two results: contracts, for at most 1048576 parts of at most 1048576 bytes each. -/
import Derived.Test.YtcijmhhajbgknaaDoorStrsF
import Derived.Test.YtcijmhhajbgknaaDoorJoinMF
import Derived.Test.YtcijmhhajbgknaaDoorShelf
namespace Go.Proofs.YtcijmhhajbgknaaDoor
open Go.RowKit

/-- The list of the parts' bytes. -/
def bytesOf (ss : List ByteArray) : List (List UInt8) := ss.map (·.data.toList)
theorem bytesOf_getD (ss : List ByteArray) (k : Nat) (h : k < ss.length) : (bytesOf ss).getD k [] = (ss.getD k ByteArray.empty).data.toList := by
  simp [bytesOf, h]
theorem bytesOf_get (ss : List ByteArray) (k : Nat) (h : k < ss.length) : (bytesOf ss)[k]? = some (ss.getD k ByteArray.empty).data.toList := by
  simp [bytesOf, h]
theorem bytesOf_length (ss : List ByteArray) : (bytesOf ss).length = ss.length := by simp [bytesOf]

/-- What both functions answer. -/
def jB (ss : List ByteArray) (sep : ByteArray) : Bool := decide (sep.size = 1) && jOk (sep.data.toList.headD 0) (bytesOf ss)
def jT (ss : List ByteArray) (sep : ByteArray) : ByteArray := if jB ss sep then ⟨(Lib.join (bytesOf ss) sep.data.toList).toArray⟩ else ⟨#[]⟩

theorem jB_none (sep : ByteArray) : jB [] sep = false := by simp [jB, jOk, bytesOf]
theorem jB_sep {ss : List ByteArray} {sep : ByteArray} (h : sep.size ≠ 1) : jB ss sep = false := by simp [jB, h]
theorem jT_no {ss : List ByteArray} {sep : ByteArray} (h : jB ss sep = false) : jT ss sep = ⟨#[]⟩ := by simp [jT, h]
theorem jB_one (ss : List ByteArray) (c : UInt8) : jB ss ⟨#[c]⟩ = jOk c (bytesOf ss) := by
  have : (ByteArray.mk #[c]).size = 1 := rfl
  simp [jB, this]
theorem sep_one {sep : ByteArray} (h : sep.size = 1) : ∃ c, sep = ⟨#[c]⟩ := by
  obtain ⟨⟨l⟩⟩ := sep
  match l, h with
  | [c], _ => exact ⟨c, rfl⟩

def jNo : Ending := .returned (.tuple #[.string ⟨#[]⟩, .bool false])
def jEnd (ss : List ByteArray) (sep : ByteArray) : Ending := .returned (.tuple #[.string (jT ss sep), .bool (jB ss sep)])
theorem jEnd_no {ss : List ByteArray} {sep : ByteArray} (h : jB ss sep = false) : jNo = jEnd ss sep := by simp [jNo, jEnd, jT_no h, h]
theorem jEnd_yes {ss : List ByteArray} {sep : ByteArray} {t : ByteArray} (h : jB ss sep = true) (ht : t.data.toList = Lib.join (bytesOf ss) sep.data.toList) :
    Ending.returned (.tuple #[.string t, .bool true]) = jEnd ss sep := by
  have : t = ⟨(Lib.join (bytesOf ss) sep.data.toList).toArray⟩ := by apply ByteArray.ext; rw [← ht]
  simp [jEnd, jT, h, this]

/-- What the model's loop has gathered after k parts. -/
structure JRel (c : UInt8) (ss : List ByteArray) (k : Nat) (t : ByteArray) : Prop where
  text : t.data.toList = Lib.join ((bytesOf ss).take k) [c]
  size : t.size ≤ 4000
  none : ∀ j, j < k → hasB c ((bytesOf ss).getD j []) = false

theorem JRel.start (c : UInt8) (ss : List ByteArray) : JRel c ss 0 ⟨#[]⟩ := ⟨by simp [Lib.join_nil], Nat.zero_le _, fun j hj => absurd hj (Nat.not_lt_zero _)⟩

theorem JRel.grow {c : UInt8} {ss : List ByteArray} {k : Nat} {t s : ByteArray} (h : JRel c ss k t) (hk : k < ss.length) (hs : s = ss.getD k ByteArray.empty) :
    (if k = 0 then s.data.toList else t.data.toList ++ [c] ++ s.data.toList) = Lib.join ((bytesOf ss).take (k + 1)) [c] := by
  rw [join_take_succ c _ k _ (bytesOf_get ss k hk), ← hs, ← h.text]

theorem JRel.next {c : UInt8} {ss : List ByteArray} {k : Nat} {t s t' : ByteArray} (h : JRel c ss k t) (hk : k < ss.length) (hs : s = ss.getD k ByteArray.empty) (hb : hasB c s.data.toList = false)
    (ht : t'.data.toList = (if k = 0 then s.data.toList else t.data.toList ++ [c] ++ s.data.toList)) (hz : t'.size ≤ 4000) : JRel c ss (k + 1) t' := by
  refine ⟨ht.trans (h.grow hk hs), hz, fun j hj => ?_⟩
  by_cases e : j = k
  · subst e; rw [bytesOf_getD ss j hk, ← hs]; exact hb
  · exact h.none j (by omega)

theorem size_eq (t : ByteArray) : t.size = t.data.toList.length := by rw [Array.length_toList]; rfl
theorem app_list (a b : ByteArray) : (a ++ b).data.toList = a.data.toList ++ b.data.toList := by simp
theorem empty_of_start {c : UInt8} {ss : List ByteArray} {t : ByteArray} (h : JRel c ss 0 t) : t.data.toList = [] := by rw [h.text]; simp [Lib.join_nil]

theorem JRel.next0 {c : UInt8} {ss : List ByteArray} {t s : ByteArray} (h : JRel c ss 0 t) (hk : 0 < ss.length) (hs : s = ss.getD 0 ByteArray.empty) (hb : hasB c s.data.toList = false) (hz : t.size + s.size ≤ 4000) : JRel c ss 1 (t ++ s) :=
  h.next hk hs hb (by rw [app_list, empty_of_start h]; simp) (by simpa using hz)
theorem JRel.nextk {c : UInt8} {ss : List ByteArray} {k : Nat} {t s : ByteArray} (h : JRel c ss k t) (h0 : 0 < k) (hk : k < ss.length) (hs : s = ss.getD k ByteArray.empty) (hb : hasB c s.data.toList = false) (hz : t.size + 1 + s.size ≤ 4000) : JRel c ss (k + 1) (t ++ ⟨#[c]⟩ ++ s) :=
  h.next hk hs hb (by rw [if_neg (by omega), app_list, app_list]) (by rw [ByteArray.size_append, ByteArray.size_append]; exact hz)
theorem JRel.long {c : UInt8} {ss : List ByteArray} {k : Nat} {t s : ByteArray} (h : JRel c ss k t) (hk : k < ss.length) (hs : s = ss.getD k ByteArray.empty)
    (hz : 4000 < (if k = 0 then s.size else t.size + 1 + s.size)) : jNo = jEnd ss ⟨#[c]⟩ := by
  apply jEnd_no
  rw [jB_one]
  apply jOk_long
  have g := congrArg List.length (h.grow hk hs)
  have l := take_len_le c (bytesOf ss) (k + 1)
  rw [← g] at l
  by_cases e : k = 0
  · simp only [if_pos e] at l hz; rw [size_eq] at hz; omega
  · simp only [if_neg e, List.length_append, List.length_singleton] at l hz; rw [size_eq, size_eq] at hz; omega
theorem JRel.long0 {c : UInt8} {ss : List ByteArray} {t s : ByteArray} (h : JRel c ss 0 t) (hk : 0 < ss.length) (hs : s = ss.getD 0 ByteArray.empty) (hz : 4000 < t.size + s.size) : jNo = jEnd ss ⟨#[c]⟩ := by
  have e := empty_of_start h
  have e2 := size_eq t
  rw [e] at e2
  have e3 : t.size = 0 := e2
  exact h.long hk hs (by rw [if_pos rfl]; omega)
theorem JRel.done {c : UInt8} {ss : List ByteArray} {t : ByteArray} (h : JRel c ss ss.length t) (h0 : 0 < ss.length) : Ending.returned (.tuple #[.string t, .bool true]) = jEnd ss ⟨#[c]⟩ := by
  have e : (bytesOf ss).take ss.length = bytesOf ss := by rw [← bytesOf_length, List.take_length]
  have ht : t.data.toList = Lib.join (bytesOf ss) [c] := by rw [h.text, e]
  refine jEnd_yes ?_ ht
  rw [jB_one]
  refine jOk_of (by intro e; have := bytesOf_length ss; rw [e] at this; simp at this; omega) (fun j hj => h.none j (by rwa [bytesOf_length] at hj)) ?_
  rw [← ht, ← size_eq]; exact h.size

/-- What the program's loop knows after k parts: the size so far is that of all separators and of these parts. -/
structure IRel (c : UInt8) (ss : List ByteArray) (k : Nat) (r : Int) : Prop where
  eq : r + 1 = (ss.length : Int) + (Lib.lens ((bytesOf ss).take k) : Int)
  small : k = 0 ∨ r ≤ 4000
  none : ∀ j, j < k → hasB c ((bytesOf ss).getD j []) = false
  low : -1 ≤ r
  high : r ≤ 1048576 + 4000

theorem bytesOf_ne {ss : List ByteArray} (h : 0 < ss.length) : bytesOf ss ≠ [] := by
  intro e; have := bytesOf_length ss; rw [e] at this; simp at this; omega

theorem IRel.start (c : UInt8) (ss : List ByteArray) (hn : ss.length ≤ 1048576) : IRel c ss 0 ((ss.length : Int) - 1) :=
  ⟨by simp [Lib.lens], .inl rfl, fun j hj => absurd hj (Nat.not_lt_zero _), by omega, by omega⟩
theorem IRel.grow {c : UInt8} {ss : List ByteArray} {k : Nat} {r : Int} {s : ByteArray} (h : IRel c ss k r) (hk : k < ss.length) (hs : s = ss.getD k ByteArray.empty) :
    r + s.size + 1 = (ss.length : Int) + (Lib.lens ((bytesOf ss).take (k + 1)) : Int) := by
  rw [lens_take_succ _ k _ (bytesOf_get ss k hk), ← hs, ← size_eq]; have := h.eq; omega
theorem IRel.next {c : UInt8} {ss : List ByteArray} {k : Nat} {r : Int} {s : ByteArray} (h : IRel c ss k r) (hk : k < ss.length) (hs : s = ss.getD k ByteArray.empty) (hb : hasB c s.data.toList = false)
    (hz : r + (s.size : Int) ≤ 4000) : IRel c ss (k + 1) (r + (s.size : Int)) :=
  ⟨h.grow hk hs, .inr hz, fun j hj => by
    by_cases e : j = k
    · subst e; rw [bytesOf_getD ss j hk, ← hs]; exact hb
    · exact h.none j (by omega), by have := h.low; omega, by omega⟩
theorem IRel.long {c : UInt8} {ss : List ByteArray} {k : Nat} {r : Int} {s : ByteArray} (h : IRel c ss k r) (hk : k < ss.length) (hs : s = ss.getD k ByteArray.empty) (hz : 4000 < r + (s.size : Int)) : jNo = jEnd ss ⟨#[c]⟩ := by
  apply jEnd_no
  rw [jB_one]
  apply jOk_long
  have a := h.grow hk hs
  have b := lens_take_le (bytesOf ss) (k + 1)
  have d := join_len c (bytesOf ss) (bytesOf_ne (by omega))
  rw [bytesOf_length] at d
  omega
theorem IRel.len {c : UInt8} {ss : List ByteArray} {r : Int} (h : IRel c ss ss.length r) (h0 : 0 < ss.length) : (Lib.join (bytesOf ss) [c]).length ≤ 4000 := by
  have e : (bytesOf ss).take ss.length = bytesOf ss := by rw [← bytesOf_length, List.take_length]
  have a := h.eq
  rw [e] at a
  have d := join_len c (bytesOf ss) (bytesOf_ne h0)
  rw [bytesOf_length] at d
  rcases h.small with g | g <;> omega
theorem IRel.done {c : UInt8} {ss : List ByteArray} {r : Int} (h : IRel c ss ss.length r) (h0 : 0 < ss.length) : jB ss ⟨#[c]⟩ = true := by
  rw [jB_one]
  exact jOk_of (bytesOf_ne h0) (fun j hj => h.none j (by rwa [bytesOf_length] at hj)) (h.len h0)

set_option maxHeartbeats 1000000 in
theorem implJoin_any (v : Value) (ss : List ByteArray) (sep : ByteArray) (w : World) (hv : StrsV w v ss) (hs : sep.size ≤ maxLen) (hn : ss.length ≤ 1048576)
    (hz : ∀ j, j < ss.length → (ss.getD j ByteArray.empty).size ≤ 1048576) (hcap : ∀ a n c, v = .slice a n c → n ≤ c) :
    Calls Tryd.prog 64 #[v, .string sep] w fun e w' => e = jEnd ss sep ∧ Below w.heap.size w w' := by
  unfold maxLen at hs
  rcases hv with ⟨a, cp, rfl, rfl⟩ | ⟨b, off, cp, rfl, hp, hc⟩
  · have HH : Hid (jNo = jEnd [] sep) := Lib.hid (jEnd_no (jB_none _))
    go_enter Tryd.func64, Tryd.ntmps64
    go_wp2
    go_ret2
    exact ⟨HH.out, Below.refl _ _⟩
  · have hne0 : ((ss.length : Int) == 0) = false := by rw [beq_eq_false_iff_ne]; omega
    by_cases h1 : sep.size = 1
    · obtain ⟨c, rfl⟩ := sep_one h1
      clear h1 hs
      have HC : Hid (∀ i, i < ss.length → w.cell? ⟨b, off + i, none⟩ = some (.string (ss.getD i ByteArray.empty))) := Lib.hid hc
      have HZ : Hid (∀ j, j < ss.length → (ss.getD j ByteArray.empty).size ≤ 1048576) := Lib.hid hz
      clear hc hz
      go_enter Tryd.func64, Tryd.ntmps64
      go_wp2
      go_loop [6, 22] (fun z i => ∃ k : Nat, ∃ r : Int, k ≤ ss.length ∧ i = .int .i64 k ∧ z = .int .i64 r ∧ IRel c ss k r) (fun _ i => ss.length - (intOf i).toNat)
      case atStart => exact ⟨0, _, Nat.zero_le _, rfl, rfl, IRel.start c ss (by omega)⟩
      case round =>
        obtain ⟨k, r, hk, rfl, rfl, hr⟩ := hrel
        have HR : Hid (IRel c ss k r) := Lib.hid hr
        have hr0 := hr.low
        have hr1 := hr.high
        clear hr
        by_cases hlt : k < ss.length
        · have hcr := HC.out k hlt
          have hsz := HZ.out k hlt
          obtain ⟨s, hs⟩ : ∃ s, s = ss.getD k ByteArray.empty := ⟨_, rfl⟩
          rw [← hs] at hcr hsz
          have HS : Hid (s = ss.getD k ByteArray.empty) := Lib.hid hs
          clear hs
          by_cases hbig : 4000 < r + (s.size : Int)
          · have HN : Hid (jNo = jEnd ss ⟨#[c]⟩) := Lib.hid (HR.out.long hlt HS.out hbig)
            go_wp2
            go_ret2
            exact ⟨HN.out, Below.refl _ _⟩
          · cases hh : hasB c s.data.toList with
            | true =>
              have CH := hide (Tryd.strings_Contains_one s c w)
              have HN : Hid (jNo = jEnd ss ⟨#[c]⟩) := Lib.hid (jEnd_no (by rw [jB_one]; exact jOk_has (k := k) (by rw [bytesOf_length]; exact hlt) (by rw [bytesOf_getD _ _ hlt, ← HS.out]; exact hh)))
              rw [contains_one, hh] at CH
              clear hh
              go_wp2_with (go_at_call 85; refine (unhide CH).mono ?_; rintro e w' ⟨rfl, rfl⟩)
              go_ret2
              exact ⟨HN.out, Below.refl _ _⟩
            | false =>
              have CH := hide (Tryd.strings_Contains_one s c w)
              rw [contains_one, hh] at CH
              have HB : Hid (hasB c s.data.toList = false) := Lib.hid hh
              clear hh
              go_wp2_with (go_at_call 85; refine (unhide CH).mono ?_; rintro e w' ⟨rfl, rfl⟩)
              go_round
              case rel => exact ⟨k + 1, _, by omega, by go_num, rfl, HR.out.next hlt HS.out HB.out (by omega)⟩
              case measure => simp [intOf]; omega
        · have hke : k = ss.length := by omega
          have HY : Hid (jB ss ⟨#[c]⟩ = true) := Lib.hid (by have h := HR.out; rw [hke] at h; exact h.done hp)
          have hlen : (Lib.join (bytesOf ss) [c]).length ≤ 4000 := by
            have h := HR.out; rw [hke] at h; exact h.len hp
          have CJ := hide (Tryd.strings_Join b off cp ss ⟨#[c]⟩ w (fun j x hx => by
              have hj := (List.getElem?_eq_some_iff.1 hx).1
              rw [HC.out j hj, List.getD_eq_getElem?_getD, hx]; rfl) (World.block_lt_of_cell? w _ (HC.out 0 hp)) (by omega) (hcap _ _ _ rfl) (by show (Lib.join (bytesOf ss) [c]).length ≤ _; omega))
          clear hke hlen
          go_wp2_with (go_at_call 96; refine (unhide CJ).mono ?_; rintro e w' ⟨rfl, hb⟩)
          go_ret2
          exact ⟨jEnd_yes HY.out rfl, hb⟩
    · have h2 : ((sep.size : Int) != 1) = true := by rw [bne_iff_ne]; omega
      have HN := jB_sep (ss := ss) h1
      have HH : Hid (jNo = jEnd ss sep) := Lib.hid (jEnd_no HN)
      clear h1 HN
      go_enter Tryd.func64, Tryd.ntmps64
      go_wp2
      go_ret2
      exact ⟨HH.out, Below.refl _ _⟩

end Go.Proofs.YtcijmhhajbgknaaDoor
