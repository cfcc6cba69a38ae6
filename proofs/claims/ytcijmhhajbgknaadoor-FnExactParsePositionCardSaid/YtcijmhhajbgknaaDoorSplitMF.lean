/- Plain facts on splitting a list of bytes at one byte: what both SplitString functions compute. No condition. -/
import Derived.Test.YtcijmhhajbgknaaDoorMathF
namespace Go.Proofs.YtcijmhhajbgknaaDoor

def splStep (c : UInt8) (st : List (List UInt8) × List UInt8) (x : UInt8) : List (List UInt8) × List UInt8 := if x = c then (st.1 ++ [st.2], []) else (st.1, st.2 ++ [x])
def splFold (c : UInt8) (l : List UInt8) : List (List UInt8) × List UInt8 := l.foldl (splStep c) ([], [])
/-- The pieces between the separators. -/
def splitL (c : UInt8) (l : List UInt8) : List (List UInt8) := (splFold c l).1 ++ [(splFold c l).2]

theorem splFold_snoc (c : UInt8) (l : List UInt8) (x : UInt8) : splFold c (l ++ [x]) = splStep c (splFold c l) x := by
  simp [splFold, List.foldl_append]

theorem take_get (l : List UInt8) (k : Nat) (x : UInt8) (h : l[k]? = some x) : l.take (k + 1) = l.take k ++ [x] := by
  rw [List.take_add_one, h]; rfl

theorem fst_len (c : UInt8) (l : List UInt8) (st : List (List UInt8) × List UInt8) : st.1.length ≤ (l.foldl (splStep c) st).1.length := by
  induction l generalizing st with
  | nil => exact Nat.le_refl _
  | cons x l ih =>
    refine Nat.le_trans ?_ (ih (splStep c st x))
    unfold splStep
    split <;> simp

theorem fst_take (c : UInt8) (l : List UInt8) (k : Nat) : (splFold c (l.take k)).1.length ≤ (splFold c l).1.length := by
  have e : splFold c l = (l.drop k).foldl (splStep c) (splFold c (l.take k)) := by
    unfold splFold
    rw [← List.foldl_append, List.take_append_drop]
  rw [e]; exact fst_len c _ _

theorem split_len (c : UInt8) (l : List UInt8) : (splitL c l).length = (splFold c l).1.length + 1 := by simp [splitL]

theorem fold_len (c : UInt8) (l : List UInt8) (st : List (List UInt8) × List UInt8) : (l.foldl (splStep c) st).1.length ≤ st.1.length + l.length := by
  induction l generalizing st with
  | nil => exact Nat.le_refl _
  | cons x l ih =>
    refine Nat.le_trans (ih _) ?_
    unfold splStep
    split <;> simp <;> omega
theorem split_len_le (c : UInt8) (l : List UInt8) : (splitL c l).length ≤ l.length + 1 := by
  have := fold_len c l ([], [])
  rw [split_len]
  simp at this
  exact Nat.succ_le_succ this

/-- The walk stands at place p, behind a separator or at the start; what is left is t; pre has come. -/
structure ORel (c : UInt8) (L : List UInt8) (p : Nat) (t : ByteArray) (pre : List ByteArray) : Prop where
  rest : t.data.toList = L.drop p
  le : p ≤ L.length
  fold : splFold c (L.take p) = (pre.map (·.data.toList), [])

/-- .. and the first k bytes of t hold no separator. -/
structure ARel (c : UInt8) (L : List UInt8) (p : Nat) (t : ByteArray) (pre : List ByteArray) (k : Nat) : Prop where
  o : ORel c L p t pre
  le : k ≤ t.size
  fold : splFold c (L.take (p + k)) = (pre.map (·.data.toList), t.data.toList.take k)

theorem ORel.start (c : UInt8) (s : ByteArray) : ORel c s.data.toList 0 s [] := ⟨by simp, Nat.zero_le _, by simp [splFold]⟩
theorem ORel.arel {c : UInt8} {L : List UInt8} {p : Nat} {t : ByteArray} {pre : List ByteArray} (h : ORel c L p t pre) : ARel c L p t pre 0 :=
  ⟨h, Nat.zero_le _, by simpa using h.fold⟩
theorem ARel.get {c : UInt8} {L : List UInt8} {p k : Nat} {t : ByteArray} {pre : List ByteArray} (h : ARel c L p t pre k) (hk : k < t.size) : L[p + k]? = some t[k] := by
  have e : (L.drop p)[k]? = some t[k] := by
    rw [← h.o.rest, List.getElem?_eq_getElem (by simpa using hk)]; rfl
  rwa [List.getElem?_drop] at e
theorem ARel.miss {c : UInt8} {L : List UInt8} {p k : Nat} {t : ByteArray} {pre : List ByteArray} (h : ARel c L p t pre k) (hk : k < t.size) (hc : t[k] ≠ c) : ARel c L p t pre (k + 1) := by
  refine ⟨h.o, hk, ?_⟩
  rw [← Nat.add_assoc, take_get L (p + k) _ (h.get hk), splFold_snoc, h.fold, take_snoc t k hk]
  simp [splStep, hc]
theorem ARel.hit {c : UInt8} {L : List UInt8} {p k : Nat} {t : ByteArray} {pre : List ByteArray} (h : ARel c L p t pre k) (hk : k < t.size) (hc : t[k] = c) : ORel c L (p + (k + 1)) (t.extract (k + 1) t.size) (pre ++ [t.extract 0 k]) := by
  have hlen : t.size = L.length - p := by
    have := congrArg List.length h.o.rest
    simpa using this
  refine ⟨?_, by have := h.o.le; omega, ?_⟩
  · rw [ByteArray.data_extract, Array.toList_extract, h.o.rest]
    simp [List.drop_drop, hlen]
    rw [List.take_of_length_le]
    simp; omega
  · rw [← Nat.add_assoc, take_get L (p + k) _ (h.get hk), splFold_snoc, h.fold]
    simp [splStep, hc]
theorem ARel.room {c : UInt8} {L : List UInt8} {p k : Nat} {t : ByteArray} {pre : List ByteArray} (h : ARel c L p t pre k) : pre.length < (splitL c L).length := by
  have := fst_take c L (p + k)
  rw [h.fold] at this
  rw [split_len]
  simpa using Nat.lt_succ_of_le this
theorem ARel.done {c : UInt8} {L : List UInt8} {p : Nat} {t : ByteArray} {pre : List ByteArray} (h : ARel c L p t pre t.size) : (pre ++ [t]).map (·.data.toList) = splitL c L := by
  have hlen : t.size = L.length - p := by
    have := congrArg List.length h.o.rest
    simpa using this
  have e : L.take (p + t.size) = L := by rw [List.take_of_length_le]; have := h.o.le; omega
  have f := h.fold
  rw [e, take_all t t.size (Nat.le_refl _)] at f
  simp [splitL, f]

theorem ORel.size {c : UInt8} {L : List UInt8} {p : Nat} {t : ByteArray} {pre : List ByteArray} (h : ORel c L p t pre) : t.size ≤ L.length := by
  have := congrArg List.length h.rest
  simp at this
  have e : t.size = t.data.size := rfl
  omega

/-- The model's loop: k bytes are read, the piece under way begins at p, pre has been gathered. -/
structure CRel (c : UInt8) (s : ByteArray) (k p : Nat) (pre : List ByteArray) : Prop where
  le : p ≤ k
  lek : k ≤ s.size
  fold : splFold c (s.data.toList.take k) = (pre.map (·.data.toList), (s.extract p k).data.toList)

theorem ext_list (s : ByteArray) (p k : Nat) : (s.extract p k).data.toList = (s.data.toList.take k).drop p := by
  simp [ByteArray.data_extract, Array.toList_extract, List.drop_take]

theorem CRel.start (c : UInt8) (s : ByteArray) : CRel c s 0 0 [] := ⟨Nat.le_refl _, Nat.zero_le _, by rw [ext_list]; simp [splFold]⟩
theorem CRel.miss {c : UInt8} {s : ByteArray} {k p : Nat} {pre : List ByteArray} (h : CRel c s k p pre) (hk : k < s.size) (hc : s[k] ≠ c) : CRel c s (k + 1) p pre := by
  refine ⟨by have := h.le; omega, hk, ?_⟩
  have hl : p ≤ (s.data.toList.take k).length := by
    have e : s.data.toList.length = s.size := by rw [Array.length_toList]; rfl
    rw [List.length_take]; have := h.le; omega
  rw [take_snoc s k hk, splFold_snoc, h.fold, ext_list, ext_list, take_snoc s k hk, List.drop_append_of_le_length hl]
  simp [splStep, hc]
theorem CRel.hit {c : UInt8} {s : ByteArray} {k p : Nat} {pre : List ByteArray} (h : CRel c s k p pre) (hk : k < s.size) (hc : s[k] = c) : CRel c s (k + 1) (k + 1) (pre ++ [s.extract p k]) := by
  refine ⟨Nat.le_refl _, hk, ?_⟩
  have e2 : (s.extract (k + 1) (k + 1)).data.toList = [] := by
    rw [ext_list, List.drop_eq_nil_iff]; simp; omega
  rw [e2, take_snoc s k hk, splFold_snoc, h.fold]
  simp [splStep, hc]
theorem CRel.done {c : UInt8} {s : ByteArray} {p : Nat} {pre : List ByteArray} (h : CRel c s s.size p pre) : (pre ++ [s.extract p s.size]).map (·.data.toList) = splitL c s.data.toList := by
  have f := h.fold
  rw [take_all s s.size (Nat.le_refl _)] at f
  simp only [List.map_append, List.map_cons, List.map_nil, splitL, f]
theorem CRel.few {c : UInt8} {s : ByteArray} {k p : Nat} {pre : List ByteArray} (h : CRel c s k p pre) : pre.length ≤ k := by
  have a := fold_len c (s.data.toList.take k) ([], [])
  have b := congrArg (fun x => x.1.length) h.fold
  unfold splFold at b
  simp at a b
  omega

end Go.Proofs.YtcijmhhajbgknaaDoor
