/- Several texts in one: each says what it proves. No condition but theirs. -/
import Derived.Test.YtdpeanpmjhpblaaGreatIterX
import Derived.OwnWalkIn
import Derived.Test.YtdpeanpmjhpblaaGreatFsG
import Derived.ArgAppend
import Derived.Deep.DeepAppendRoom
import Derived.Lib.AppendZeros
/- A range over a function whose iterator writes into a row of its own between two rounds: the caller's invariant abides a relation G that the iterator names, and each element comes with a fact Px. -/
namespace Go.Proofs.YtdpeanpmjhpblaaGreat
open Go.RowKit Go.Shelf
set_option linter.unusedVariables false
variable {F : Fence} {n : Nat} {P : Program}

/-- The iterator's contract. -/
def SeqY {α : Type} (F : Fence) (n : Nat) (P : Program) (g : Nat) (lb : Array Value) (encs : α → Array Value) (G Kp : World → World → Prop) (Px : α → World → Prop) (S Sp : List α → Prop) (N : Nat) (w : World) : Prop :=
  ∀ (l : Nat) (J Jx : List α → World → Prop) (W : World), Below w.heap.size w W → (∀ s A B, J s A → G A B → J s B) → (∀ s A B, Jx s A → G A B → Jx s B) →
    (∀ pre x W1, J pre W1 → Px x W1 → pre.length < N → YieldAt F (n - 1) P l (encs x) W1 fun e W' =>
      (e = .returned (.bool true) ∧ J (pre ++ [x]) W' ∧ Kp W1 W') ∨ (e = .returned (.bool false) ∧ Jx (pre ++ [x]) W')) →
    J [] W →
    CallsIn F n P g (#[.func (.yield l) #[] #[]] ++ lb) W fun e W' => (∃ v, e = .returned v) ∧ ((∃ xs, S xs ∧ J xs W') ∨ (∃ pre, Sp pre ∧ Jx pre W'))

/-- The loop's law. -/
theorem wpIn_rangeY {α : Type} {g : Operand} {ps : Array Tmp} {assign body : Code} {Q : Exit → Act → World → Prop} {a : Act} {w : World}
    (hro : F.round = none) (h1 : 1 ≤ n) {gf : Nat} {lb : Array Value} (hg : a.eval g = .func (.func gf) #[] lb) (hFg : F.fn gf) (eg : ∀ args w, (callFunc gf args).run P w = .ok (.enter gf args) w)
    {encs : α → Array Value} {G Kp : World → World → Prop} {Px : α → World → Prop} {S Sp : List α → Prop} {N : Nat} {w0 : World} (hseq : SeqY F (n - 1) P gf lb encs G Kp Px S Sp N w0)
    (hGc : ∀ (A B : World) (k : Nat) (o : Obj), G A B → A.heap[k]? = some o → o.isCells = false → B.heap[k]? = some o)
    (hKt : ∀ {A B C : World}, Kp A B → Kp B C → Kp A C)
    (hKb : ∀ (W : World) (l : Nat) (o o' : Obj), w.heap.size ≤ l → W.heap[l]? = some o → o.isCells = false → o.isWalk = false → Kp W (W.putObj l o'))
    (hb0 : Below w0.heap.size w0 w) (hps : ∀ x, (encs x).size = ps.size)
    (I : List α → World → Prop) (Ix : Code → List α → World → Prop) (hI : OwnFrom w.heap.size I) (hIx : ∀ c, OwnFrom w.heap.size (Ix c))
    (hIG : ∀ s A B, I s A → G A B → I s B) (hIxG : ∀ c s A B, Ix c s A → G A B → Ix c s B) (hPx : ∀ (x : α) (W : World) (l : Nat) (o o' : Obj), w.heap.size ≤ l → W.heap[l]? = some o → o.isCells = false → o.isWalk = false → Px x W → Px x (W.putObj l o'))
    (h0 : I [] w) (a₁ : α → Act)
    (hassign : ∀ (l : Nat) (x : α) (W : World) (K : Act → World → Prop), K (a₁ x) W →
      assign.wpIn (F.inRound l) (n - 1 - 1) P (Exit.then K (fun _ _ _ => False)) { tmps := (ps.zip (encs x)).foldl (fun t (p, v) => t.setIfInBounds p v) a.tmps, defers := [] } W)
    (hbody : ∀ (l : Nat) (pre : List α) (x : α) (W : World), I pre W → Px x W → pre.length < N → body.wpIn (F.inRound l) (n - 1 - 1) P (ownPostG w.heap.size Kp I Ix (pre ++ [x]) W) (a₁ x) W)
    (hdone : ∀ (D : Nat) (xs : List α) (W : World), w.heap.size ≤ D → S xs → I xs W → W.heap[D]? = some (.deferred (some [])) → Q .normal { a with defers := { target := .collected D, args := #[] } :: a.defers } W)
    (hstop : ∀ (D : Nat) (c : Code) (pre : List α) (W : World), w.heap.size ≤ D → Sp pre → Ix c pre W → W.heap[D]? = some (.deferred (some [])) → c.wpIn F n P Q { a with defers := { target := .collected D, args := #[] } :: a.defers } W) :
    (Code.rangeFunc g ps assign body).wpIn F n P Q a w := by
  refine wpIn_rangeFunc fun fn hfn => ?_
  rw [hro]
  let rec' : LoopState → Option Code → Loop := fun st pe => { state := st, pending := pe, fn, tmps := a.tmps, params := ps, assign, body, defers := w.heap.size }
  -- the two blocks of book-keeping: the rounds' deferred calls at D, the record at L
  let D := w.heap.size
  let L := w.heap.size + 1
  let W1 := (w.alloc (.deferred (some []))).alloc (.loop (rec' .ready none))
  have hL1 : W1.heap[L]? = some (.loop (rec' .ready none)) := by
    have := World.alloc_heap_new (w.alloc (.deferred (some []))) (.loop (rec' .ready none)); rwa [World.size_alloc] at this
  have hD1 : W1.heap[D]? = some (.deferred (some [])) := (Below.heap_alloc _ _ _ (by simp [D])).trans (World.alloc_heap_new w _)
  have hB1 : Below w0.heap.size w0 W1 := hb0.trans ((((Below.refl _ w).alloc (Nat.le_refl _) _).alloc (by simp) _).mono hb0.size)
  refine ⟨L, [{ target := .collected D, args := #[] }], W1, { target := .fn (.func gf) lb, args := #[.func (.yield L) #[] #[]] }, W1, gf,
    #[.func (.yield L) #[] #[]] ++ lb, W1, run_enterLoop_outer _ _ _ _ _, ?_, ?_, ?_, fun _ => h1, ?_⟩
  · simp only [resolve, hg]
    simp [go_sem, L]
  · intro f' hf'; simp [Target.leads] at hf'; subst hf'; exact hFg
  · simp [invoke, go_sem, eg]
  -- the blocks of book-keeping in a later world
  let Bk : LoopState → Option Code → World → Prop := fun st pe W => W.heap[L]? = some (.loop (rec' st pe)) ∧ W.heap[D]? = some (.deferred (some []))
  have hBG : ∀ st pe A B, Bk st pe A → G A B → Bk st pe B := fun st pe A B h hg => ⟨hGc A B _ _ hg h.1 rfl, hGc A B _ _ hg h.2 rfl⟩
  refine (hseq L (fun pre W => I pre W ∧ Bk .ready none W) (fun pre W => ∃ c, Ix c pre W ∧ Bk .done (some c) W) W1 hB1
    (fun s A B h hg => ⟨hIG s A B h.1 hg, hBG _ _ A B h.2 hg⟩) (fun s A B h hg => let ⟨c, hc, hk⟩ := h; ⟨c, hIxG c s A B hc hg, hBG _ _ A B hk hg⟩)
    ?_ ⟨hI.alloc _ (hI.alloc _ h0), hL1, hD1⟩).mono ?_
  · rintro pre x W ⟨hi, hl, hk⟩ hpx hlen
    refine ⟨fn, _, assign, body, run_yield (P := P) (args := encs x) hl (hps x), roundIn_of_wpIn hfn (hassign L x W _ ?_)⟩
    have hlt : L < W.heap.size := (Array.getElem?_eq_some_iff.1 hl).1
    refine ⟨_, run_beginRound hl rfl, ?_⟩
    let V := W.putObj L (.loop { rec' .ready none with state := .busy })
    have hl2 : V.heap[L]? = some (.loop { rec' .ready none with state := .busy }) := World.putObj_heap_same hlt
    have hk2 : V.heap[D]? = some (.deferred (some [])) := (World.putObj_heap_other (by simp [D, L])).trans hk
    have hw2 : Kp W V := hKb W L _ _ (by simp [L]) hl rfl rfl
    refine wpIn_mono (hbody L pre x V (hI.putObj _ hi (by simp [L]) hl rfl) (hPx x W L _ _ (by simp [L]) hl rfl rfl hpx) hlen) ?_
    have fin : ∀ (jump : Option Code) (W3 : World), KeepsFrom w.heap.size V W3 →
        (Instr.endRound L jump).run P W3 = .ok (.bool jump.isNone) (W3.putObj L (.loop (rec' (if jump.isNone then .ready else .done) jump))) ∧
        W3.heap[L]? = some (.loop { rec' .ready none with state := .busy }) ∧
        Bk (if jump.isNone then .ready else .done) jump (W3.putObj L (.loop (rec' (if jump.isNone then .ready else .done) jump))) := fun jump W3 hk3 => by
      have hl3 := hk3.same L _ (by simp [L]) hl2 rfl
      exact ⟨run_endRound (P := P) jump hl3, hl3, World.putObj_heap_same (Array.getElem?_eq_some_iff.1 hl3).1, (World.putObj_heap_other (by simp [D, L])).trans (hk3.same D _ (Nat.le_refl _) hk2 rfl)⟩
    have stop : ∀ (c : Code) (W3 : World), KeepsFrom w.heap.size V W3 → Ix c (pre ++ [x]) W3 → ∃ v w', (Instr.endRound L (some c)).run P W3 = .ok v w' ∧
        ((Ending.returned v = .returned (.bool true) ∧ (I (pre ++ [x]) w' ∧ Bk .ready none w') ∧ Kp W w') ∨ (Ending.returned v = .returned (.bool false) ∧ ∃ c, Ix c (pre ++ [x]) w' ∧ Bk .done (some c) w')) := fun c W3 hk3 hi3 => by
      obtain ⟨hr, hl3, hb⟩ := fin (some c) W3 hk3
      exact ⟨_, _, hr, .inr ⟨rfl, c, (hIx _).putObj _ hi3 (by simp [L]) hl3 rfl, hb⟩⟩
    rintro e a3 W3 hp
    cases e with
    | normal =>
      obtain ⟨hk3, hkp3, hi3⟩ := hp
      obtain ⟨hr, hl3, hb⟩ := fin none W3 hk3
      exact ⟨_, _, hr, .inl ⟨rfl, ⟨hI.putObj _ hi3 (by simp [L]) hl3 rfl, hb⟩, hKt (hKt hw2 hkp3) (hKb _ _ _ _ (by simp [L]) hl3 rfl rfl)⟩⟩
    | ret => exact stop _ _ hp.1 hp.2
    | exit id => exact stop _ _ hp.1 hp.2
    | goto t => exact stop _ _ hp.1 hp.2
    | panic ch => exact hp.elim
    | outgrown => exact hp.elim
  · rintro e W2 ⟨⟨v, rfl⟩, (⟨xs, hS, hi, hl, hk⟩ | ⟨pre, hSp, c, hi, hl, hk⟩)⟩
    · exact ⟨none, _, run_endLoop (P := P) hl (by simp [rec']), hdone D xs _ (Nat.le_refl _) hS (hI.putObj _ hi (by simp [L]) hl rfl) ((World.putObj_heap_other (by simp [D, L])).trans hk)⟩
    · exact ⟨some c, _, run_endLoop (P := P) hl (by simp [rec']), hstop D c pre _ (Nat.le_refl _) hSp ((hIx c).putObj _ hi (by simp [L]) hl rfl) ((World.putObj_heap_other (by simp [D, L])).trans hk)⟩

end Go.Proofs.YtdpeanpmjhpblaaGreat

/- The law of a range over a function (RgY) where the assignment of a round makes memory: a variable's box. -/
namespace Go.Proofs.YtdpeanpmjhpblaaGreat
open Go.RowKit Go.Shelf
set_option linter.unusedVariables false
variable {F : Fence} {n : Nat} {P : Program}

/-- The loop's law. -/
theorem wpIn_rangeYA {α : Type} {g : Operand} {ps : Array Tmp} {assign body : Code} {Q : Exit → Act → World → Prop} {a : Act} {w : World}
    (hro : F.round = none) (h1 : 1 ≤ n) {gf : Nat} {lb : Array Value} (hg : a.eval g = .func (.func gf) #[] lb) (hFg : F.fn gf) (eg : ∀ args w, (callFunc gf args).run P w = .ok (.enter gf args) w)
    {encs : α → Array Value} {G Kp : World → World → Prop} {Px : α → World → Prop} {S Sp : List α → Prop} {N : Nat} {w0 : World} (hseq : SeqY F (n - 1) P gf lb encs G Kp Px S Sp N w0)
    (hGc : ∀ (A B : World) (k : Nat) (o : Obj), G A B → A.heap[k]? = some o → o.isCells = false → B.heap[k]? = some o)
    (hKt : ∀ {A B C : World}, Kp A B → Kp B C → Kp A C)
    (hKb : ∀ (W : World) (l : Nat) (o o' : Obj), w.heap.size ≤ l → W.heap[l]? = some o → o.isCells = false → o.isWalk = false → Kp W (W.putObj l o'))
    (hb0 : Below w0.heap.size w0 w) (hps : ∀ x, (encs x).size = ps.size)
    (I : List α → World → Prop) (Ix : Code → List α → World → Prop) (hI : OwnFrom w.heap.size I) (hIx : ∀ c, OwnFrom w.heap.size (Ix c))
    (hIG : ∀ s A B, I s A → G A B → I s B) (hIxG : ∀ c s A B, Ix c s A → G A B → Ix c s B) (hPx : ∀ (x : α) (W : World) (l : Nat) (o o' : Obj), w.heap.size ≤ l → W.heap[l]? = some o → o.isCells = false → o.isWalk = false → Px x W → Px x (W.putObj l o'))
    (h0 : I [] w) (A : α → Act → World → Prop) (hA : ∀ (x : α) (a' : Act) (W : World) (l : Nat) (o o' : Obj), w.heap.size ≤ l → W.heap[l]? = some o → o.isCells = false → o.isWalk = false → A x a' W → A x a' (W.putObj l o'))
    (hassign : ∀ (l : Nat) (pre : List α) (x : α) (W : World) (K : Act → World → Prop), I pre W → Px x W → (∀ a' W', KeepsFrom w.heap.size W W' → Kp W W' → I pre W' → Px x W' → A x a' W' → K a' W') →
      assign.wpIn (F.inRound l) (n - 1 - 1) P (Exit.then K (fun _ _ _ => False)) { tmps := (ps.zip (encs x)).foldl (fun t (p, v) => t.setIfInBounds p v) a.tmps, defers := [] } W)
    (hbody : ∀ (l : Nat) (pre : List α) (x : α) (a' : Act) (W : World), I pre W → Px x W → A x a' W → pre.length < N → body.wpIn (F.inRound l) (n - 1 - 1) P (ownPostG w.heap.size Kp I Ix (pre ++ [x]) W) a' W)
    (hdone : ∀ (D : Nat) (xs : List α) (W : World), w.heap.size ≤ D → S xs → I xs W → W.heap[D]? = some (.deferred (some [])) → Q .normal { a with defers := { target := .collected D, args := #[] } :: a.defers } W)
    (hstop : ∀ (D : Nat) (c : Code) (pre : List α) (W : World), w.heap.size ≤ D → Sp pre → Ix c pre W → W.heap[D]? = some (.deferred (some [])) → c.wpIn F n P Q { a with defers := { target := .collected D, args := #[] } :: a.defers } W) :
    (Code.rangeFunc g ps assign body).wpIn F n P Q a w := by
  refine wpIn_rangeFunc fun fn hfn => ?_
  rw [hro]
  let rec' : LoopState → Option Code → Loop := fun st pe => { state := st, pending := pe, fn, tmps := a.tmps, params := ps, assign, body, defers := w.heap.size }
  -- the two blocks of book-keeping: the rounds' deferred calls at D, the record at L
  let D := w.heap.size
  let L := w.heap.size + 1
  let W1 := (w.alloc (.deferred (some []))).alloc (.loop (rec' .ready none))
  have hL1 : W1.heap[L]? = some (.loop (rec' .ready none)) := by
    have := World.alloc_heap_new (w.alloc (.deferred (some []))) (.loop (rec' .ready none)); rwa [World.size_alloc] at this
  have hD1 : W1.heap[D]? = some (.deferred (some [])) := (Below.heap_alloc _ _ _ (by simp [D])).trans (World.alloc_heap_new w _)
  have hB1 : Below w0.heap.size w0 W1 := hb0.trans ((((Below.refl _ w).alloc (Nat.le_refl _) _).alloc (by simp) _).mono hb0.size)
  refine ⟨L, [{ target := .collected D, args := #[] }], W1, { target := .fn (.func gf) lb, args := #[.func (.yield L) #[] #[]] }, W1, gf,
    #[.func (.yield L) #[] #[]] ++ lb, W1, run_enterLoop_outer _ _ _ _ _, ?_, ?_, ?_, fun _ => h1, ?_⟩
  · simp only [resolve, hg]
    simp [go_sem, L]
  · intro f' hf'; simp [Target.leads] at hf'; subst hf'; exact hFg
  · simp [invoke, go_sem, eg]
  -- the blocks of book-keeping in a later world
  let Bk : LoopState → Option Code → World → Prop := fun st pe W => W.heap[L]? = some (.loop (rec' st pe)) ∧ W.heap[D]? = some (.deferred (some []))
  have hBG : ∀ st pe A B, Bk st pe A → G A B → Bk st pe B := fun st pe A B h hg => ⟨hGc A B _ _ hg h.1 rfl, hGc A B _ _ hg h.2 rfl⟩
  refine (hseq L (fun pre W => I pre W ∧ Bk .ready none W) (fun pre W => ∃ c, Ix c pre W ∧ Bk .done (some c) W) W1 hB1
    (fun s A B h hg => ⟨hIG s A B h.1 hg, hBG _ _ A B h.2 hg⟩) (fun s A B h hg => let ⟨c, hc, hk⟩ := h; ⟨c, hIxG c s A B hc hg, hBG _ _ A B hk hg⟩)
    ?_ ⟨hI.alloc _ (hI.alloc _ h0), hL1, hD1⟩).mono ?_
  · rintro pre x W0 ⟨hi0, hl0, hk0⟩ hpx0 hlen
    refine ⟨fn, _, assign, body, run_yield (P := P) (args := encs x) hl0 (hps x), roundIn_of_wpIn hfn (hassign L pre x W0 _ hi0 hpx0 ?_)⟩
    intro a' W hkf hkw hi hpx hax
    have hl := hkf.same L _ (by simp [L]) hl0 rfl
    have hk := hkf.same D _ (Nat.le_refl _) hk0 rfl
    have hlt : L < W.heap.size := (Array.getElem?_eq_some_iff.1 hl).1
    refine ⟨_, run_beginRound hl rfl, ?_⟩
    let V := W.putObj L (.loop { rec' .ready none with state := .busy })
    have hl2 : V.heap[L]? = some (.loop { rec' .ready none with state := .busy }) := World.putObj_heap_same hlt
    have hk2 : V.heap[D]? = some (.deferred (some [])) := (World.putObj_heap_other (by simp [D, L])).trans hk
    have hw2 : Kp W V := hKb W L _ _ (by simp [L]) hl rfl rfl
    refine wpIn_mono (hbody L pre x a' V (hI.putObj _ hi (by simp [L]) hl rfl) (hPx x W L _ _ (by simp [L]) hl rfl rfl hpx) (hA x a' W L _ _ (by simp [L]) hl rfl rfl hax) hlen) ?_
    have fin : ∀ (jump : Option Code) (W3 : World), KeepsFrom w.heap.size V W3 →
        (Instr.endRound L jump).run P W3 = .ok (.bool jump.isNone) (W3.putObj L (.loop (rec' (if jump.isNone then .ready else .done) jump))) ∧
        W3.heap[L]? = some (.loop { rec' .ready none with state := .busy }) ∧
        Bk (if jump.isNone then .ready else .done) jump (W3.putObj L (.loop (rec' (if jump.isNone then .ready else .done) jump))) := fun jump W3 hk3 => by
      have hl3 := hk3.same L _ (by simp [L]) hl2 rfl
      exact ⟨run_endRound (P := P) jump hl3, hl3, World.putObj_heap_same (Array.getElem?_eq_some_iff.1 hl3).1, (World.putObj_heap_other (by simp [D, L])).trans (hk3.same D _ (Nat.le_refl _) hk2 rfl)⟩
    have stop : ∀ (c : Code) (W3 : World), KeepsFrom w.heap.size V W3 → Ix c (pre ++ [x]) W3 → ∃ v w', (Instr.endRound L (some c)).run P W3 = .ok v w' ∧
        ((Ending.returned v = .returned (.bool true) ∧ (I (pre ++ [x]) w' ∧ Bk .ready none w') ∧ Kp W0 w') ∨ (Ending.returned v = .returned (.bool false) ∧ ∃ c, Ix c (pre ++ [x]) w' ∧ Bk .done (some c) w')) := fun c W3 hk3 hi3 => by
      obtain ⟨hr, hl3, hb⟩ := fin (some c) W3 hk3
      exact ⟨_, _, hr, .inr ⟨rfl, c, (hIx _).putObj _ hi3 (by simp [L]) hl3 rfl, hb⟩⟩
    rintro e a3 W3 hp
    cases e with
    | normal =>
      obtain ⟨hk3, hkp3, hi3⟩ := hp
      obtain ⟨hr, hl3, hb⟩ := fin none W3 hk3
      exact ⟨_, _, hr, .inl ⟨rfl, ⟨hI.putObj _ hi3 (by simp [L]) hl3 rfl, hb⟩, hKt hkw (hKt (hKt hw2 hkp3) (hKb _ _ _ _ (by simp [L]) hl3 rfl rfl))⟩⟩
    | ret => exact stop _ _ hp.1 hp.2
    | exit id => exact stop _ _ hp.1 hp.2
    | goto t => exact stop _ _ hp.1 hp.2
    | panic ch => exact hp.elim
    | outgrown => exact hp.elim
  · rintro e W2 ⟨⟨v, rfl⟩, (⟨xs, hS, hi, hl, hk⟩ | ⟨pre, hSp, c, hi, hl, hk⟩)⟩
    · exact ⟨none, _, run_endLoop (P := P) hl (by simp [rec']), hdone D xs _ (Nat.le_refl _) hS (hI.putObj _ hi (by simp [L]) hl rfl) ((World.putObj_heap_other (by simp [D, L])).trans hk)⟩
    · exact ⟨some c, _, run_endLoop (P := P) hl (by simp [rec']), hstop D c pre _ (Nat.le_refl _) hSp ((hIx c).putObj _ hi (by simp [L]) hl rfl) ((World.putObj_heap_other (by simp [D, L])).trans hk)⟩

end Go.Proofs.YtdpeanpmjhpblaaGreat

/- slices.Backward at a list of strings: its iterator's contract, for lists of at most 1048576 strings. -/
namespace Go.Proofs.YtdpeanpmjhpblaaGreat
open Go.RowKit Go.Shelf
set_option linter.unusedVariables false
set_option linter.unusedSimpArgs false

attribute [local go_sem] Oper.semAt_some

/-- The last j elements with their indexes, the last first. -/
def bkN (vs : List ByteArray) (j : Nat) : List (Nat × ByteArray) := (List.range j).map fun i => (vs.length - 1 - i, vs.getD (vs.length - 1 - i) ByteArray.empty)
theorem bkN_zero (vs : List ByteArray) : bkN vs 0 = [] := rfl
theorem bkN_succ (vs : List ByteArray) (j : Nat) : bkN vs (j + 1) = bkN vs j ++ [(vs.length - 1 - j, vs.getD (vs.length - 1 - j) ByteArray.empty)] := by simp [bkN, List.range_succ]
theorem bkN_len (vs : List ByteArray) (j : Nat) : (bkN vs j).length = j := by simp [bkN]
def encB (x : Nat × ByteArray) : Array Value := #[.int .i64 x.1, .string x.2]
/-- What the loop's body must keep: the iterator's box and the list. -/
def KpB (Bt b3 : Nat) (W W' : World) : Prop := W.heap.size ≤ W'.heap.size ∧ W'.heap[Bt]? = W.heap[Bt]? ∧ W'.heap[b3]? = W.heap[b3]?
theorem KpB.trans {Bt b3 : Nat} {A B C : World} (h : KpB Bt b3 A B) (k : KpB Bt b3 B C) : KpB Bt b3 A C := ⟨Nat.le_trans h.1 k.1, k.2.1.trans h.2.1, k.2.2.trans h.2.2⟩
theorem KpB.book {Bt b3 : Nat} {w : World} (h1 : Bt < w.heap.size) (h2 : b3 < w.heap.size) (W : World) (l : Nat) (o o' : Obj) (hl : w.heap.size ≤ l) (h : W.heap[l]? = some o) : KpB Bt b3 W (W.putObj l o') := by
  have hg := grownBy_putObj' W l o'
  have hlt := (Array.getElem?_eq_some_iff.1 h).1
  exact ⟨hg.size, hg.block Bt (by omega) (fun e => by have := Option.some.inj e; omega), hg.block b3 (by omega) (fun e => by have := Option.some.inj e; omega)⟩

theorem backward_any (w : World) (p : Option Addr) (n c : Nat) :
    Calls Tryz.prog 26 #[.slice p n c] w (fun e w' => e = .returned (.func (.func 54) #[] #[.pointer (some ⟨w.heap.size, 0, none⟩)]) ∧ w' = w.alloc (.cells #[.slice p n c] 59)) := by
  go_enter Tryz.func26, Tryz.ntmps26
  go_wp2
  go_ret
  exact ⟨rfl, rfl⟩

set_option maxRecDepth 100000 in
set_option maxHeartbeats 4000000 in
theorem back_stops (n Bt b3 c3 : Nat) (vs : List ByteArray) (w : World) (hl : vs.length ≤ 1048576) (hbox : w.cell? ⟨Bt, 0, none⟩ = some (.slice (some ⟨b3, 0, none⟩) vs.length c3))
    (hx : ∀ i, i < vs.length → w.cell? ⟨b3, i, none⟩ = some (.string (vs.getD i ByteArray.empty))) :
    SeqY Fence.wide n Tryz.prog 54 #[.pointer (some ⟨Bt, 0, none⟩)] encB Eq (KpB Bt b3) (fun _ _ => True) (fun xs => xs = bkN vs vs.length) (fun _ => True) vs.length w := by
  intro l J Jx W hW _ _ hY hJ
  have hdd : ∀ k : Nat, (Fence.wide.depth.isSome = true → 1 ≤ k) := fun k h => by cases h
  have HY := Lib.hid hY
  have HJ := Lib.hid hJ
  have HC := Lib.hid (carry_cell hbox hW)
  have HX := Lib.hid (fun i hi => carry_cell (hx i hi) hW)
  have c0 := HC.out
  clear hY hJ hbox hx hW
  refine callsIn_of_wp Tryz.func54 rfl trivial ?_ rfl
  simp only [Tryz.ntmps54, List.size_toArray, List.length_cons, List.length_nil, Nat.reduceAdd, Nat.reduceSub, Array.replicate_succ, Array.replicate_zero, List.push_toArray, List.append_toArray, List.nil_append, List.cons_append]
  gi_wp2
  gi_loopw [3] (fun i wr => ∃ j : Nat, j ≤ vs.length ∧ i = .int .i64 ((vs.length : Int) - 1 - (j : Int)) ∧ J (bkN vs j) wr ∧ wr.cell? ⟨Bt, 0, none⟩ = some (.slice (some ⟨b3, 0, none⟩) vs.length c3) ∧ ∀ i, i < vs.length → wr.cell? ⟨b3, i, none⟩ = some (.string (vs.getD i ByteArray.empty))) (fun i _ => (intOf i + 1).toNat)
  case atStart => exact ⟨0, Nat.zero_le _, by go_num, by rw [bkN_zero]; exact HJ.out, HC.out, HX.out⟩
  case round =>
    obtain ⟨j, hj, rfl, hjj, hcc, hxx⟩ := hrel
    have HJR := Lib.hid hjj
    have HCR := Lib.hid hcc
    have HXR := Lib.hid hxx
    clear hjj hcc hxx c0
    by_cases hje : j = vs.length
    · have HE := Lib.hid (by rw [← hje]; exact HJR.out : J (bkN vs vs.length) wr)
      rw [show ((vs.length : Nat) : Int) - 1 - (j : Int) = -1 by omega]
      clear hje
      gi_wp2
      go_end0
      exact ⟨⟨_, rfl⟩, .inl ⟨_, rfl, HE.out⟩⟩
    · obtain ⟨m, hm⟩ : ∃ m, m = vs.length - 1 - j := ⟨_, rfl⟩
      rw [show ((vs.length : Nat) : Int) - 1 - (j : Int) = (m : Int) by omega]
      have hml : m < vs.length := by omega
      have c0 := HCR.out
      have c1 := HXR.out m hml
      obtain ⟨s, hs⟩ : ∃ s, s = vs.getD m ByteArray.empty := ⟨_, rfl⟩
      rw [← hs] at c1
      have HSU : Hid (bkN vs (j + 1) = bkN vs j ++ [(m, s)]) := Lib.hid (by rw [bkN_succ, ← hm, ← hs])
      have hy1 := HY.out (bkN vs j) (m, s) wr HJR.out trivial (by rw [bkN_len]; omega)
      simp only [encB] at hy1
      obtain ⟨fn, tmps, assign, body, hy, hR⟩ := hy1
      have HM := Lib.hid hm
      clear hs hm
      gi_wp2
      ((try refine ⟨hdd _, ?_⟩); refine hR.mono ?_; clear hR; rintro e W2 (⟨rfl, hJ2, hk2⟩ | ⟨rfl, hx2⟩))
      · have HJ2 : Hid (J (bkN vs (j + 1)) W2) := Lib.hid (by rw [HSU.out]; exact hJ2)
        have HC2 : Hid (W2.cell? ⟨Bt, 0, none⟩ = some (.slice (some ⟨b3, 0, none⟩) vs.length c3)) := Lib.hid ((World.cell?_of_block (w := wr) (a := ⟨Bt, 0, none⟩) hk2.2.1).trans HCR.out)
        have HX2 : Hid (∀ i, i < vs.length → W2.cell? ⟨b3, i, none⟩ = some (.string (vs.getD i ByteArray.empty))) := Lib.hid (fun i hi => (World.cell?_of_block (w := wr) (a := ⟨b3, i, none⟩) hk2.2.2).trans (HXR.out i hi))
        clear hJ2 hk2 c0 c1 hy
        gi_wp2
        go_roundw
        case rel => exact ⟨j + 1, by omega, by have := HM.out; congr 1; omega, HJ2.out, HC2.out, HX2.out⟩
        case measure => first | (simp [intOf]; done) | (simp [intOf]; omega)
      · clear c0 c1 hy
        gi_wp2
        exact bodyPost_ret (results_none rfl _ _ _) rfl ⟨⟨_, rfl⟩, .inr ⟨_, trivial, hx2⟩⟩

end Go.Proofs.YtdpeanpmjhpblaaGreat

/- The atoms of a formula with the variables that are bound at them: lists, and what lies still while the program's iterator grows its row of bound names. -/
namespace Go.Proofs.YtdpeanpmjhpblaaGreat
open Go.RowKit Go.Shelf
set_option linter.unusedVariables false

/-- An atom as a round of the loop is handed it: where it lies, the atom, the slice of the bound names and their list. -/
structure At where
  b : Nat
  o : Nat
  tm : Tm
  v : Value
  bd : List ByteArray
def At.enc (x : At) : Array Value := #[.pointer (some ⟨x.b, x.o, none⟩), x.v]
def At.key (x : At) : Tm × List ByteArray := (x.tm, x.bd)

mutual
/-- The atoms from left to right, each with the names that are bound at it. -/
def Fm.ats : Fm → List ByteArray → List (Tm × List ByteArray)
  | .node o a v ps, bd => if o = 3 then [(a, bd)] else Fm.atsL ps (if v.size = 0 then bd else bd ++ [v])
def Fm.atsL : List Fm → List ByteArray → List (Tm × List ByteArray)
  | [], _ => []
  | t :: r, bd => Fm.ats t bd ++ Fm.atsL r bd
end
/-- The names that are bound below a formula's root. -/
def Fm.bd3 (t : Fm) (bd : List ByteArray) : List ByteArray := if t.var.size = 0 then bd else bd ++ [t.var]
theorem Fm.ats_eq (t : Fm) (bd : List ByteArray) : t.ats bd = if t.op = 3 then [(t.atom, bd)] else Fm.atsL t.parts (t.bd3 bd) := by cases t; rw [Fm.ats]; rfl
theorem Fm.atsL_append : ∀ (a b : List Fm) (bd : List ByteArray), Fm.atsL (a ++ b) bd = Fm.atsL a bd ++ Fm.atsL b bd
  | [], b, bd => by simp [Fm.atsL]
  | t :: r, b, bd => by rw [List.cons_append, Fm.atsL, Fm.atsL, Fm.atsL_append r, List.append_assoc]
theorem Fm.atsL_next {l : List Fm} {k : Nat} {t : Fm} (h : l[k]? = some t) (bd : List ByteArray) : Fm.atsL (l.take (k + 1)) bd = Fm.atsL (l.take k) bd ++ t.ats bd := by
  rw [take_next h, Fm.atsL_append]; simp [Fm.atsL]
theorem Fm.atsL_len (l : List Fm) (k : Nat) (bd : List ByteArray) : (Fm.atsL (l.take k) bd).length ≤ (Fm.atsL l bd).length := by
  have h := Fm.atsL_append (l.take k) (l.drop k) bd
  rw [List.take_append_drop] at h
  rw [h, List.length_append]; omega
theorem Fm.atsL_mem : ∀ {l : List Fm} {t : Fm} {bd : List ByteArray} {y : Tm × List ByteArray}, t ∈ l → y ∈ t.ats bd → y ∈ Fm.atsL l bd
  | [], _, _, _, h, _ => by cases h
  | a :: r, t, bd, y, h, hy => by
    rw [Fm.atsL, List.mem_append]
    rcases List.mem_cons.1 h with rfl | h
    · exact .inl hy
    · exact .inr (Fm.atsL_mem h hy)
theorem Fm.bd3_len (t : Fm) (bd : List ByteArray) : (t.bd3 bd).length ≤ bd.length + 1 := by unfold Fm.bd3; split <;> simp

/-- Blocks of names and of formulas lie as they lay, but the row that the box b holds and the block x; the box's row stays or is new. -/
def KSx (x : Option Nat) (b : Nat) (W W' : World) : Prop := OKb b W → OKb b W' ∧
  (∀ (k : Nat) (a : Array Value) (ty : TypeId) (fz : Nat × Nat), W.heap[k]? = some (Obj.cells a ty fz) → (ty = 9 ∨ ty = 34) → rowAt W b ≠ some k → x ≠ some k → W'.heap[k]? = some (Obj.cells a ty fz)) ∧
  (∀ g, rowAt W' b = some g → rowAt W b = some g ∨ W.heap.size ≤ g)
def KpS (x : Option Nat) (n₀ b : Nat) (W W' : World) : Prop := Below n₀ W W' ∧ KSx x b W W'
theorem KpS.refl (x : Option Nat) (n₀ b : Nat) (W : World) : KpS x n₀ b W W := ⟨Below.refl _ _, fun h => ⟨h, fun _ _ _ _ h _ _ _ => h, fun _ h => .inl h⟩⟩
theorem KpS.trans {x y : Option Nat} {n₀ b : Nat} {A B C : World} (h : KpS x n₀ b A B) (k : KpS y n₀ b B C) (hy : ∀ g, y = some g → x = some g ∨ A.heap.size ≤ g) : KpS x n₀ b A C := by
  refine ⟨h.1.trans k.1, fun ok => ?_⟩
  obtain ⟨ok1, m1, r1⟩ := h.2 ok
  obtain ⟨ok2, m2, r2⟩ := k.2 ok1
  refine ⟨ok2, fun i a ty fz hi ht hne hx => ?_, fun g hg => ?_⟩
  · have hlt := (Array.getElem?_eq_some_iff.1 hi).1
    refine m2 i a ty fz (m1 i a ty fz hi ht hne hx) ht (fun e => ?_) (fun e => ?_)
    · rcases r1 i e with h1 | h1
      · exact hne h1
      · omega
    · rcases hy i e with h1 | h1
      · exact hx h1
      · omega
  · rcases r2 g hg with h1 | h1
    · exact r1 g h1
    · exact .inr (Nat.le_trans h.1.size h1)
theorem KpS.of_block {x : Option Nat} {n₀ b : Nat} {B C : World} (hb : Below n₀ B C) (hf : ∀ k, k < B.heap.size → x ≠ some k → C.heap[k]? = B.heap[k]?) (hx : ∀ g, x = some g → g ≠ b) : KpS x n₀ b B C := ⟨hb, fun ok => by
  have e := rowAt_same (hf b ok.1 fun e => hx b e rfl)
  exact ⟨⟨Nat.lt_of_lt_of_le ok.1 hb.size, fun g hg => Nat.lt_of_lt_of_le (ok.2 g (e ▸ hg)) hb.size⟩, fun k a ty fz hk _ _ hxk => by rw [hf k (Array.getElem?_eq_some_iff.1 hk).1 hxk]; exact hk, fun g hg => .inl (e ▸ hg)⟩⟩
theorem KpS.of_below {n₀ b : Nat} {A B : World} (hn : n₀ ≤ A.heap.size) (h : Below A.heap.size A B) : KpS none n₀ b A B := KpS.of_block (h.mono hn) (fun k hk _ => h.block k hk) (fun g e => by cases e)
theorem KpS.book {n₀ b : Nat} {w : World} (hn : n₀ ≤ w.heap.size) (hb : b < w.heap.size) (W : World) (l : Nat) (o o' : Obj) (hl : w.heap.size ≤ l) (h : W.heap[l]? = some o) (hc : o.isCells = false) (hw : o.isWalk = false) : KpS none n₀ b W (W.putObj l o') := by
  refine ⟨belowK_b hn W l o o' hl h hc hw, fun ok => ?_⟩
  have hg := grownBy_putObj' W l o'
  have e : rowAt (W.putObj l o') b = rowAt W b := rowAt_same (hg.block b ok.1 (fun e => by have := Option.some.inj e; omega))
  refine ⟨⟨Nat.lt_of_lt_of_le ok.1 hg.size, fun g hr => Nat.lt_of_lt_of_le (ok.2 g (e ▸ hr)) hg.size⟩, fun k a ty fz hk _ _ _ => ?_, fun g hr => .inl (e ▸ hr)⟩
  rw [hg.block k (Array.getElem?_eq_some_iff.1 hk).1 (fun e => by cases e; rw [h] at hk; cases hk; cases hc)]; exact hk

theorem rowAtB {W : World} {b : Nat} {t : TypeId} {v : Value} (h : Boxed W b t v) : rowAt W b = v.ownBlock := by
  unfold rowAt
  rw [show W.heap[b]? = _ from h]
  rfl

/-- What the iterator may do to memory between two rounds, as the loop's body sees it. -/
def GB (n₀ b : Nat) (A B : World) : Prop := Below n₀ A B ∧ ∀ (k : Nat) (o : Obj), A.heap[k]? = some o → (k < n₀ ∨ o.isCells = false ∨ k = b ∨ rowAt A b = some k) → B.heap[k]? = some o
theorem GB.cells {n₀ b : Nat} (A B : World) (k : Nat) (o : Obj) (h : GB n₀ b A B) (hk : A.heap[k]? = some o) (ho : o.isCells = false) : B.heap[k]? = some o := h.2 k o hk (.inr (.inl ho))

/-- The row of the bound names. -/
def BdOk (n₀ b : Nat) (W : World) (v : Value) (bd : List ByteArray) : Prop := W.ownsRow n₀ 9 1 v bd.length (bd.map Value.string) ∧ ∀ g, v.ownBlock = some g → g ≠ b ∧ rowAt W b ≠ some g
theorem BdOk.nil (n₀ b : Nat) (W : World) : BdOk n₀ b W (.slice none 0 0) [] := ⟨World.ownsRow_nil _ _ _ _, fun g e => by simp [Value.ownBlock] at e⟩
theorem BdOk.shape {n₀ b : Nat} {W : World} {v : Value} {bd : List ByteArray} (h : BdOk n₀ b W v bd) : ∃ p c, v = .slice p bd.length c := by
  rcases h.1.2 with ⟨rfl, h0⟩ | ⟨g, cap, cur, rfl, _⟩
  · exact ⟨none, 0, by rw [h0]⟩
  · exact ⟨_, _, rfl⟩
theorem BdOk.keep {n₀ b : Nat} {W W' : World} {v : Value} {bd : List ByteArray} (h : BdOk n₀ b W v bd) (ok : OKb b W) (k : KpS none n₀ b W W') : BdOk n₀ b W' v bd := by
  obtain ⟨_, m, r⟩ := k.2 ok
  have hrow : W'.ownsRow n₀ 9 1 v bd.length (bd.map Value.string) := by
    refine ⟨h.1.1, h.1.2.imp id fun ⟨g, cap, cur, e, h1, h2, h3⟩ => ⟨g, cap, cur, e, h1, m g _ _ _ h2 (.inl rfl) ?_ (by simp), h3⟩⟩
    exact (h.2 g (by rw [e]; rfl)).2
  refine ⟨hrow, fun g e => ⟨(h.2 g e).1, fun er => ?_⟩⟩
  rcases r g er with h1 | h1
  · exact (h.2 g e).2 h1
  · have := (h.1.lt g e).2; omega

theorem BdOk.keepx {x : Option Nat} {n₀ b : Nat} {W W' : World} {v : Value} {bd : List ByteArray} (h : BdOk n₀ b W v bd) (ok : OKb b W) (k : KpS x n₀ b W W') (hx : ∀ g, v.ownBlock = some g → x ≠ some g) : BdOk n₀ b W' v bd := by
  obtain ⟨_, m, r⟩ := k.2 ok
  have hrow : W'.ownsRow n₀ 9 1 v bd.length (bd.map Value.string) := by
    refine ⟨h.1.1, h.1.2.imp id fun ⟨g, cap, cur, e, h1, h2, h3⟩ => ⟨g, cap, cur, e, h1, m g _ _ _ h2 (.inl rfl) ?_ (hx g (by rw [e]; rfl)), h3⟩⟩
    exact (h.2 g (by rw [e]; rfl)).2
  refine ⟨hrow, fun g e => ⟨(h.2 g e).1, fun er => ?_⟩⟩
  rcases r g er with h1 | h1
  · exact (h.2 g e).2 h1
  · have := (h.1.lt g e).2; omega

/-- A block that a formula lies in: an old one, or one of the call's own, of formulas. -/
def Stab (n₀ b : Nat) (W : World) (k : Nat) : Prop := k < W.heap.size ∧ (k < n₀ ∨ (∃ a fz, W.heap[k]? = some (Obj.cells a 34 fz)) ∧ rowAt W b ≠ some k)
theorem BdOk.apart {n₀ b : Nat} {W : World} {v : Value} {bd : List ByteArray} (h : BdOk n₀ b W v bd) {k : Nat} (hk : Stab n₀ b W k) : v.ownBlock ≠ some k := fun e => by
  rcases hk.2 with h1 | ⟨⟨a, fz, h1⟩, _⟩
  · have := (h.1.lt k e).1; omega
  · rcases h.1.2 with ⟨rfl, _⟩ | ⟨g, cap, cur, rfl, _, hg, _⟩
    · simp [Value.ownBlock] at e
    · obtain rfl : g = k := by simpa [Value.ownBlock] using e
      rw [hg] at h1; cases h1
theorem Stab.keep {x : Option Nat} {n₀ b : Nat} {W W' : World} {k : Nat} (h : Stab n₀ b W k) (ok : OKb b W) (hk : KpS x n₀ b W W') (hx : x ≠ some k) : W'.heap[k]? = W.heap[k]? ∧ Stab n₀ b W' k := by
  obtain ⟨_, m, r⟩ := hk.2 ok
  have hl := Nat.lt_of_lt_of_le h.1 hk.1.size
  rcases h.2 with h1 | ⟨⟨a, fz, h1⟩, h2⟩
  · exact ⟨hk.1.block k h1, hl, .inl h1⟩
  · have e := m k a _ fz h1 (.inr rfl) h2 hx
    refine ⟨by rw [e, h1], hl, .inr ⟨⟨a, fz, e⟩, fun er => ?_⟩⟩
    rcases r k er with h3 | h3
    · exact h2 h3
    · have := h.1; omega

theorem own_less {w : World} {base : Nat} {ty : TypeId} {g n m cap : Nat} {xs ys : List Value} (h : w.ownsRow base ty 1 (.slice (some ⟨g, 0, none⟩) (n + m) cap) (n + m) (xs ++ ys)) (hx : xs.length = n) : w.ownsRow base ty 1 (.slice (some ⟨g, 0, none⟩) n cap) n xs := by
  rcases h.2 with ⟨e, _⟩ | ⟨g', cap', cur, e, h1, h2, h3, h4, h5, h6⟩
  · cases e
  · cases e
    refine ⟨by omega, .inr ⟨g, cap, cur, rfl, h1, h2, by omega, h4, h5, ?_⟩⟩
    have h7 := congrArg (List.take n) h6
    rw [List.take_take, show min n ((n + m) * 1) = n * 1 by omega, List.take_append_of_le_length (by rw [hx]; exact Nat.le_refl _), List.take_of_length_le (l := xs) (by rw [hx]; exact Nat.le_refl _)] at h7
    exact h7

/-- One more element: the new slice, and the old one where it was. -/
theorem run_app2 {P : Program} (w : World) (base : Nat) (t ty e : TypeId) (i : TypeInfo) (z : Value) (bytes : Nat) (ht : P.underlying t = some (.slice e)) (hi : P.info? e = some i) (hz : i.zero = some z)
    (hsize : i.size = 1) (hby : i.bytes = bytes) (hzs : z.cells.size = 1)
    (v : Value) (n : Nat) (xs : List Value) (hown : w.ownsRow base e 1 v n xs)
    (ad : Addr) (m c : Nat) (news : List Value) (hl : news.length = m) (hnews : ∀ j u, news[j]? = some u → w.cell? (ad.add j) = some u) (h1 : ∀ u ∈ news, u.oneCell' = true) (hm : 0 < m)
    (h63 : n + m ≤ maxLen) (hbytes : (n + m) * bytes ≤ 140737488355328) (hbase : base ≤ w.heap.size) :
    ∃ v' w', (Builtin.append_ #[t, t] ty #[v, .slice (some ad) m c]).run P w = .ok v' w' ∧ w'.ownsRow base e 1 v' (n + m) (xs ++ news) ∧ w'.ownsRow base e 1 v n xs ∧ w.grownBy w' v.ownBlock ∧
      (∀ g, v'.ownBlock = some g → v.ownBlock = some g ∨ w.heap.size ≤ g) ∧ (v'.ownBlock = v.ownBlock → ∀ W : World, W.ownsRow base e 1 v' (n + m) (xs ++ news) → W.ownsRow base e 1 v n xs) := by
  rcases id hown.2 with ⟨rfl, rfl⟩ | ⟨g, cap, cur, rfl, hbg, hg, hnc, hcm, hcs, htake⟩
  · obtain ⟨v', w', hr, r1, r2, _, r4⟩ := run_append_own_at (P := P) w base t ty e i z 1 bytes ht hi hz hsize hby hzs (Nat.one_pos) (.slice none 0 0) 0 xs hown ad m c news (by omega) hnews h1 h63 hbytes hbase
    refine ⟨v', w', hr, r1, ⟨hown.1, .inl ⟨rfl, rfl⟩⟩, r2, fun g e => ?_, fun _ W _ => ⟨hown.1, .inl ⟨rfl, rfl⟩⟩⟩
    rcases r4 with h | h
    · exact .inl (by rw [← h]; exact e)
    · rw [e] at h; have := Option.some.inj h; exact .inr (by omega)
  · have hxl : xs.length = n := by have := hown.1; omega
    by_cases hroom : n + m ≤ cap
    · obtain ⟨w', hr, r1, r2⟩ := run_append_own_spare (P := P) w base t ty e i 1 ht hi hsize g n cap xs hown ad m c news (by omega) hnews h1 hroom
      exact ⟨_, w', hr, r1, own_less r1 hxl, r2, fun g' e => .inl e, fun _ W hW => own_less hW hxl⟩
    · obtain ⟨v', w', hr, r1, r2⟩ := run_append_arg_grows (P := P) w t ty e i z 1 bytes ht hi hz hsize hby hzs (Nat.one_pos) ⟨g, 0, none⟩ n cap xs (by omega)
        (fun j u hj => by
          have hj' := (List.getElem?_eq_some_iff.1 hj).1
          have h := hown.cellAt j (by omega)
          rw [hj] at h
          have e : (⟨g, 0, none⟩ : Addr).add j = ⟨g, j, none⟩ := by unfold Addr.add; split <;> simp_all
          rw [e]; exact h) ad m c news (by omega) hnews (by omega) h63 hbytes
      have hgl := (hown.lt g rfl).2
      refine ⟨v', w', hr, ⟨r1.1, r1.2.imp id fun ⟨g', cap', cur', h1, h2, h3⟩ => ⟨g', cap', cur', h1, by omega, h3⟩⟩, ⟨hown.1, .inr ⟨g, cap, cur, rfl, hbg, (r2.block g hgl (by simp)).trans hg, hnc, hcm, hcs, htake⟩⟩,
        ⟨r2.os, r2.tape, r2.output, r2.size, fun k hk _ => r2.block k hk (by simp)⟩, fun g' e => .inr (r1.lt g' e).1, fun e W _ => ?_⟩
      have := (r1.lt g (by rw [e]; rfl)).1
      omega

theorem wpList_app2 {P : Program} (w : World) {ops : Array Oper} {rest : List Oper} {o : Oper} {a : Act} {Q : Exit → Act → World → Prop} (hgd : o.guard = none) (s x : Operand) (t : TypeId)
    (ho : o.op = .call { callee := .builtin .append, args := #[s, x], argTypes := #[t, t] })
    (base : Nat) (e : TypeId) (i : TypeInfo) (z : Value) (bytes : Nat) (ht : P.underlying t = some (.slice e)) (hi : P.info? e = some i) (hz : i.zero = some z)
    (hsize : i.size = 1) (hby : i.bytes = bytes) (hzs : z.cells.size = 1)
    (v : Value) (n : Nat) (xs : List Value) (hs : a.eval s = v) (hown : w.ownsRow base e 1 v n xs)
    (ad : Addr) (m c : Nat) (news : List Value) (hx : a.eval x = .slice (some ad) m c) (hl : news.length = m) (hnews : ∀ j u, news[j]? = some u → w.cell? (ad.add j) = some u) (h1 : ∀ u ∈ news, u.oneCell' = true) (hm : 0 < m)
    (h63 : n + m ≤ maxLen) (hbytes : (n + m) * bytes ≤ 140737488355328) (hbase : base ≤ w.heap.size)
    (h : ∀ v' w', w'.ownsRow base e 1 v' (n + m) (xs ++ news) → w'.ownsRow base e 1 v n xs → w.grownBy w' v.ownBlock → (∀ g, v'.ownBlock = some g → v.ownBlock = some g ∨ w.heap.size ≤ g) → (v'.ownBlock = v.ownBlock → ∀ W : World, W.ownsRow base e 1 v' (n + m) (xs ++ news) → W.ownsRow base e 1 v n xs) → wpList P ops Q rest (a.put o.dst v') w') : wpList P ops Q (o :: rest) a w :=
  wpList_plain hgd fun _ hK => by
    obtain ⟨v', w', hr, r1, r2, r3, r4, r5⟩ := run_app2 (P := P) w base t o.type e i z bytes ht hi hz hsize hby hzs v n xs hown ad m c news hl hnews h1 hm h63 hbytes hbase
    exact Lib.wp_append_run w s x t t ho v _ hs hx v' w' hr (hK _ _ (h v' w' r1 r2 r3 r4 r5))

/-- The step of the row, in all that is said of it. -/
theorem app2_all {n₀ b : Nat} {W w8 : World} {v v' : Value} {bd : List ByteArray} {s : ByteArray} {tmp : Obj} (hbd : BdOk n₀ b W v bd) (ok : OKb b W) (hn : n₀ ≤ W.heap.size)
    (r1 : w8.ownsRow n₀ 9 1 v' (bd.length + 1) (bd.map Value.string ++ [.string s])) (r2 : w8.ownsRow n₀ 9 1 v bd.length (bd.map Value.string)) (hg : (W.alloc tmp).grownBy w8 v.ownBlock)
    (r4 : ∀ g, v'.ownBlock = some g → v.ownBlock = some g ∨ (W.alloc tmp).heap.size ≤ g) :
    GB n₀ b W w8 ∧ KpS v.ownBlock n₀ b W w8 ∧ BdOk n₀ b w8 v' (bd ++ [s]) ∧ BdOk n₀ b w8 v bd ∧ (∀ g, v'.ownBlock = some g → v.ownBlock = some g ∨ W.heap.size ≤ g) := by
  have hblk : ∀ k, k < W.heap.size → v.ownBlock ≠ some k → w8.heap[k]? = W.heap[k]? := fun k hk hne => (hg.block k (by simp; omega) (fun e => hne e.symm)).trans (Below.heap_alloc W tmp k hk)
  have hB : Below n₀ W w8 := ((Below.refl n₀ W).alloc hn tmp).grown hg (by simp; omega) fun j ej => (hbd.1.lt j ej).1
  have hvb : ∀ g, v.ownBlock = some g → g ≠ b := fun g e => (hbd.2 g e).1
  have er : rowAt w8 b = rowAt W b := rowAt_same (hblk b ok.1 fun e => hvb b e rfl)
  have r4' : ∀ g, v'.ownBlock = some g → v.ownBlock = some g ∨ W.heap.size ≤ g := fun g e => (r4 g e).imp id fun h => by simp at h; omega
  refine ⟨⟨hB, fun k o hk h => ?_⟩, KpS.of_block hB hblk hvb, ⟨by simpa using r1, fun g e => ?_⟩, ⟨r2, fun g e => ⟨hvb g e, by rw [er]; exact (hbd.2 g e).2⟩⟩, r4'⟩
  · have hkl := (Array.getElem?_eq_some_iff.1 hk).1
    rw [hblk k hkl fun e => ?_]; exact hk
    rcases h with h | h | h | h
    · have := (hbd.1.lt k e).1; omega
    · rcases hbd.1.2 with ⟨rfl, _⟩ | ⟨g, cap, cur, rfl, _, hgb, _⟩
      · simp [Value.ownBlock] at e
      · obtain rfl : g = k := by simpa [Value.ownBlock] using e
        rw [hgb] at hk; cases hk; cases h
    · exact hvb k e h
    · exact (hbd.2 k e).2 h
  · rw [er]
    rcases r4' g e with h | h
    · exact hbd.2 g h
    · exact ⟨fun eb => by have := ok.1; omega, fun eb => by have := ok.2 g eb; omega⟩

/-- A box and the row in it, as the loop's body has them. -/
theorem GB.boxed {n₀ b : Nat} {A B : World} (h : GB n₀ b A B) {t : TypeId} {v : Value} (hb : Boxed A b t v) : Boxed B b t v := h.2 b _ hb (.inr (.inr (.inl rfl)))
theorem GB.row {n₀ b : Nat} {A B : World} (h : GB n₀ b A B) {t e : TypeId} {v : Value} (hb : Boxed A b t v) {base size n : Nat} {xs : List Value} (hr : A.ownsRow base e size v n xs) : B.ownsRow base e size v n xs :=
  ⟨hr.1, hr.2.imp id fun ⟨g, cap, cur, ev, h1, h2, h3⟩ => ⟨g, cap, cur, ev, h1, h.2 g _ h2 (.inr (.inr (.inr (by rw [rowAtB hb, ev]; rfl)))), h3⟩⟩

end Go.Proofs.YtdpeanpmjhpblaaGreat

/- The program's iterator over the atoms of a formula, with its row of bound names: a contract. -/
namespace Go.Proofs.YtdpeanpmjhpblaaGreat
open Go.RowKit Go.Shelf
set_option linter.unusedVariables false
set_option linter.unusedSimpArgs false

attribute [local go_sem] Oper.semAt_some

/-- What a round may read. -/
def PxA (n₀ bb : Nat) (w0 : World) (K : List (Tm × List ByteArray)) (x : At) (W : World) : Prop := x.key ∈ K ∧ OKb bb W ∧ Below n₀ w0 W ∧ BdOk n₀ bb W x.v x.bd ∧ ∃ va, W.cell? ⟨x.b, x.o, none⟩ = some (.string x.tm.name) ∧ W.cell? ⟨x.b, x.o + 1, none⟩ = some va ∧ TmS w0 va x.tm.args

section
variable (bb l N : Nat) (w0 : World) (M : List (Tm × List ByteArray)) (J Jx : List At → World → Prop)

/-- What the recursive helper answers. -/
def YEndA (K : List (Tm × List ByteArray)) (vb : Value) (bd : List ByteArray) (pre : List At) (W : World) (e : Ending) (W' : World) : Prop :=
  (e = .returned (.bool true) ∧ ∃ xs : List At, xs.map At.key = K ∧ J (pre ++ xs) W' ∧ KpS vb.ownBlock w0.heap.size bb W W' ∧ BdOk w0.heap.size bb W' vb bd) ∨ (e = .returned (.bool false) ∧ ∃ q, Jx (pre ++ q) W')

def YieldTA (t : Fm) : Prop := ∀ (n ab off : Nat) (va vp vb : Value) (bd : List ByteArray) (pre : List At) (W : World), OKb bb W → Stab w0.heap.size bb W ab → Fiv W ab off (.int .i64 t.op) (.string t.atom.name) va (.string t.var) vp → FmV w0 va vp t →
  Below w0.heap.size w0 W → BdOk w0.heap.size bb W vb bd → J pre W → pre.length + (t.ats bd).length ≤ N → (∀ y ∈ t.ats bd, y ∈ M) → bd.length + t.sz ≤ 1048576 → t.wt ≤ 1048576 →
  CallsIn Fence.wide n Tryz.prog 73 #[.pointer (some ⟨ab, off, none⟩), vb, .func (.yield l) #[] #[]] W (YEndA bb w0 J Jx (t.ats bd) vb bd pre W)
end

theorem bdBack {n₀ b : Nat} {wr W3 : World} {v2 vb : Value} {d2 bd : List ByteArray} (hbv : BdOk n₀ b wr vb bd) (ok : OKb b wr) (hk3 : KpS v2.ownBlock n₀ b wr W3) (hb3 : BdOk n₀ b W3 v2 d2)
    (back : v2.ownBlock = vb.ownBlock → ∀ W : World, W.ownsRow n₀ 9 1 v2 d2.length (d2.map Value.string) → W.ownsRow n₀ 9 1 vb bd.length (bd.map Value.string)) : BdOk n₀ b W3 vb bd := by
  by_cases e : v2.ownBlock = vb.ownBlock
  · exact ⟨back e W3 hb3.1, fun g hg => hb3.2 g (by rw [e]; exact hg)⟩
  · exact hbv.keepx ok hk3 fun g hg h => e (by rw [hg, h])

set_option maxRecDepth 100000 in
set_option maxHeartbeats 4000000 in
theorem yieldA_of (bb l N : Nat) (w0 : World) (M : List (Tm × List ByteArray)) (J Jx : List At → World → Prop) (hJ : ∀ s A B, J s A → GB w0.heap.size bb A B → J s B)
    (hY : ∀ m pre (x : At) W, J pre W → PxA w0.heap.size bb w0 M x W → pre.length < N → YieldAt Fence.wide m Tryz.prog l x.enc W fun e W' =>
      (e = .returned (.bool true) ∧ J (pre ++ [x]) W' ∧ KpS none w0.heap.size bb W W') ∨ (e = .returned (.bool false) ∧ Jx (pre ++ [x]) W'))
    (t : Fm) (h : ∀ s ∈ t.parts, YieldTA bb l N w0 M J Jx s) : YieldTA bb l N w0 M J Jx t := by
  intro n ab off va vp vb bd pre W hok hst hfv hv hB hbd hj hN hM hbs hw
  obtain ⟨i0, hi, hz0, hz1, hz2⟩ := info_parts infoStr
  obtain ⟨pa, ca, pp, cp, rfl, rfl⟩ := hv.open
  have hdd : ∀ k : Nat, (Fence.wide.depth.isSome = true → 1 ≤ k) := fun k h => by cases h
  obtain ⟨op, hop⟩ : ∃ op, op = t.op := ⟨_, rfl⟩
  have HOP := Lib.hid hop
  have HAT := Lib.hid (t.ats_eq bd)
  have HF : Hid (Fiv W ab off (.int .i64 op) (.string t.atom.name) (.slice pa t.atom.args.length ca) (.string t.var) (.slice pp t.parts.length cp)) := Lib.hid (by rw [hop]; exact hfv)
  have HOK := Lib.hid hok
  have HST := Lib.hid hst
  have HV := Lib.hid hv
  have HB := Lib.hid hB
  have HBD := Lib.hid hbd
  have HJJ := Lib.hid hj
  have HJ := Lib.hid hJ
  have H := Lib.hid h
  have HM := Lib.hid hM
  obtain ⟨b0, b1, b2, b3, b4⟩ := HF.out
  clear hfv hop
  by_cases h3 : op = 3
  · have e3 : (op == 3) = true := by rw [h3]; rfl
    have e3' : t.op = 3 := by rw [← HOP.out]; exact h3
    have hat : t.ats bd = [(t.atom, bd)] := by rw [HAT.out, if_pos e3']
    have hat' := congrArg List.length hat
    have hy1 := hY (n - 1) pre ⟨ab, off + 1, t.atom, vb, bd⟩ W hj ⟨hM _ (by rw [hat]; simp [At.key]), hok, hB, hbd, _, b1, b2, hv.1⟩ (by simp at hat'; omega)
    have HAT1 := Lib.hid hat
    obtain ⟨bp, bc, rfl⟩ := hbd.shape
    simp only [At.enc] at hy1
    obtain ⟨fn, tmps, assign, body, hy, hR⟩ := hy1
    clear hY hJ h hM hv hbd hB hst hj hok hat hat' h3 e3'
    refine callsIn_of_wp Tryz.func73 rfl trivial ?_ rfl
    simp only [Tryz.ntmps73, List.size_toArray, List.length_cons, List.length_nil, Nat.reduceAdd, Nat.reduceSub, Array.replicate_succ, Array.replicate_zero, List.push_toArray, List.append_toArray, List.nil_append, List.cons_append]
    gi_wp2
    ((try refine ⟨hdd _, ?_⟩); refine hR.mono ?_; clear hR; rintro e W2 (⟨rfl, hJ2, hk2⟩ | ⟨rfl, hx2⟩))
    · have HE : Hid (YEndA bb w0 J Jx (t.ats bd) (.slice bp bd.length bc) bd pre W (.returned (.bool true)) W2) := Lib.hid (.inl ⟨rfl, [⟨ab, off + 1, t.atom, _, bd⟩], by rw [HAT1.out]; rfl, hJ2, (KpS.refl _ _ _ _).trans hk2 (by simp), HBD.out.keep HOK.out hk2⟩)
      clear hJ2 hk2
      gi_wp2
      go_ret
      exact HE.out
    · gi_wp2
      go_ret
      exact .inr ⟨rfl, [_], hx2⟩
  · have e3 : (op == 3) = false := by rw [beq_eq_false_iff_ne]; exact h3
    have hat : t.ats bd = Fm.atsL t.parts (t.bd3 bd) := by rw [HAT.out, if_neg (by rw [← HOP.out]; exact h3)]
    have HN := Lib.hid hN
    have hpl := Nat.le_trans t.wt_len hw
    refine callsIn_wide.2 ?_
    by_cases hz : t.var.size = 0
    · obtain ⟨s1, s2⟩ := str_none hz
      have HAT2 : Hid (t.ats bd = Fm.atsL t.parts bd) := Lib.hid (by rw [hat, show t.bd3 bd = bd by simp [Fm.bd3, hz]])
      have HLD : Hid (bd.length ≤ bd.length + 1) := Lib.hid (by omega)
      have HJ2 := HJJ
      have HK2 := Lib.hid (KpS.refl vb.ownBlock w0.heap.size bb W)
      have HBD2 := HBD
      have HBV2 := HBD
      have HF2 := HF
      have HST2 := HST
      have HOK2 := HOK
      have HOWN : Hid (∀ g, vb.ownBlock = some g → vb.ownBlock = some g ∨ W.heap.size ≤ g) := Lib.hid (fun g e => .inl e)
      have HBACK : Hid (vb.ownBlock = vb.ownBlock → ∀ W : World, W.ownsRow w0.heap.size 9 1 vb bd.length (bd.map Value.string) → W.ownsRow w0.heap.size 9 1 vb bd.length (bd.map Value.string)) := Lib.hid (fun _ _ h => h)
      clear hY hJ h hM hv hbd hB hst hj hok hat hN h3 hz
      go_enter Tryz.func73, Tryz.ntmps73

      go_wp2
      go_loopw [36] (fun i wr => ∃ (k : Nat) (xs : List At), k ≤ t.parts.length ∧ i = .int .i64 k ∧ xs.map At.key = Fm.atsL (t.parts.take k) bd ∧ J (pre ++ xs) wr ∧ KpS vb.ownBlock w0.heap.size bb W wr ∧ BdOk w0.heap.size bb wr vb bd ∧ BdOk w0.heap.size bb wr vb bd ∧ (Fiv wr ab off (.int .i64 op) (.string t.atom.name) (.slice pa t.atom.args.length ca) (.string t.var) (.slice pp t.parts.length cp)) ∧ Stab w0.heap.size bb wr ab ∧ OKb bb wr) (fun i _ => t.parts.length - (intOf i).toNat)
      case atStart => exact ⟨0, [], Nat.zero_le _, rfl, by simp [Fm.atsL], by simpa using HJ2.out, HK2.out, HBD2.out, HBV2.out, HF2.out, HST2.out, HOK2.out⟩
      case round =>
        obtain ⟨k, xs, hk, rfl, hxs, hjs, hks, hb2, hbv, hfr, hsr, hor⟩ := hrel
        have HX := Lib.hid hxs
        have HJS := Lib.hid hjs
        have HKS := Lib.hid hks
        have HB2 := Lib.hid hb2
        have HBV := Lib.hid hbv
        have HFR := Lib.hid hfr
        have HSR := Lib.hid hsr
        have HOR := Lib.hid hor
        clear hxs hjs hks hb2 hbv hfr hsr hor b0 b1 b2 b3 b4
        obtain ⟨b0, b1, b2, b3, b4⟩ := HFR.out
        by_cases hlt : k < t.parts.length
        · obtain ⟨s, hs⟩ : ∃ s, t.parts[k]? = some s := ⟨_, List.getElem?_eq_getElem hlt⟩
          obtain ⟨b, o2, rfl, va, vp, hc, hva, hvp⟩ := HV.out.2.get hs
          have HBW : Hid (Below w0.heap.size w0 wr) := Lib.hid (HB.out.trans HKS.out.1)
          have HCC := Lib.hid hc
          have hbl : b < w0.heap.size := World.block_lt_of_cell? w0 _ hc.1
          have HSB : Hid (Stab w0.heap.size bb wr b) := Lib.hid ⟨Nat.lt_of_lt_of_le hbl HBW.out.size, .inl hbl⟩
          have HS := Lib.hid hs
          have hsp := Fm.sz_part (mem_of_at hs)
          have hwp := Fm.wt_part (mem_of_at hs)
          have hroom : (pre ++ xs).length + (s.ats bd).length ≤ N := by
            have h1 := Fm.atsL_len t.parts (k + 1) bd
            rw [Fm.atsL_next hs, List.length_append] at h1
            have h2 := congrArg List.length HX.out
            rw [List.length_map] at h2
            have h3 := congrArg List.length HAT2.out
            have h4 := HN.out
            rw [List.length_append]; omega
          have HC := Lib.hid (callsIn_wide.1 (H.out s (mem_of_at hs) 0 b (o2 + k * 5) va vp vb bd (pre ++ xs) wr HOR.out HSB.out (hc.kept HBW.out) ⟨hva, hvp⟩ HBW.out HB2.out HJS.out hroom (fun y hy => HM.out y (by rw [HAT2.out]; exact Fm.atsL_mem (mem_of_at HS.out) hy)) (by have := HLD.out; omega) (by omega)))
          clear hs hc hva hvp hsp hwp hroom
          go_wp2_with fail
          refine HC.out.mono ?_
          rintro e W3 (⟨rfl, ys, hys, hj3, hk3, hb3⟩ | ⟨rfl, q, hx3⟩)
          · have HN3 : Hid ((xs ++ ys).map At.key = Fm.atsL (t.parts.take (k + 1)) bd) := Lib.hid (by rw [List.map_append, HX.out, hys, Fm.atsL_next HS.out])
            have HJ3 : Hid (J (pre ++ (xs ++ ys)) W3) := Lib.hid (by rw [← List.append_assoc]; exact hj3)
            have HK3 := Lib.hid (HKS.out.trans hk3 HOWN.out)
            have HB3 := Lib.hid hb3
            have HBV3 := Lib.hid (bdBack HBV.out HOR.out hk3 hb3 (fun e => HBACK.out (by first | exact e | trivial)))
            have HS3 := Lib.hid (HSR.out.keep HOR.out hk3 (HB2.out.apart HSR.out))
            have HF3 := Lib.hid (HFR.out.block HS3.out.1)
            have HO3 := Lib.hid (hk3.2 HOR.out).1
            clear hys hj3 hk3 hb3 b0 b1 b2 b3 b4 HC
            go_wp2
            go_roundw
            case rel => exact ⟨k + 1, xs ++ ys, by omega, by go_num, HN3.out, HJ3.out, HK3.out, HB3.out, HBV3.out, HF3.out, HS3.out.2, HO3.out⟩
            case measure => simp [intOf]; omega
          · have HX3 : Hid (Jx (pre ++ (xs ++ q)) W3) := Lib.hid (by rw [← List.append_assoc]; exact hx3)
            clear hx3 HC
            go_wp2
            go_ret
            exact .inr ⟨rfl, xs ++ q, HX3.out⟩
        · have HE : Hid (YEndA bb w0 J Jx (t.ats bd) vb bd pre W (.returned (.bool true)) wr) := Lib.hid (.inl ⟨rfl, xs, by rw [HX.out, HAT2.out, List.take_of_length_le (by omega)], HJS.out, HKS.out, HBV.out⟩)
          go_wp2
          go_ret
          exact HE.out
    · have HVZ := Lib.hid hz
      obtain ⟨s1, s2⟩ := str_some hz
      obtain ⟨d2, hd2⟩ : ∃ d2, d2 = bd ++ [t.var] := ⟨_, rfl⟩
      have HAT2 : Hid (t.ats bd = Fm.atsL t.parts d2) := Lib.hid (by rw [hat, hd2, show t.bd3 bd = bd ++ [t.var] by simp [Fm.bd3, hz]])
      have HLD : Hid (d2.length ≤ bd.length + 1) := Lib.hid (by rw [hd2]; simp)
      have HD2 := Lib.hid hd2
      have hbl1 : bd.length + 1 ≤ 1048576 := by have := t.sz_pos; omega
      have hws := HB.out.size
      clear hY hJ h hM hv hbd hB hst hj hok hat hN h3 hd2 hz
      go_enter Tryz.func73, Tryz.ntmps73

      go_wp2_with (at_builtin; go_loud (refine wpList_app2 _ rfl _ _ 59 rfl w0.heap.size 9 i0 (.string ByteArray.empty) 16 Tryz.underlying59 hi hz0 hz1 hz2 rfl vb bd.length (bd.map Value.string) rfl (HBD.out.1.alloc _) ⟨W.heap.size, 0, none⟩ 1 1 [.string t.var] rfl rfl (cell_one_new _ _ _) (by simp [Value.oneCell']) (by omega) (by unfold maxLen; omega) (by omega) (by simp; omega) ?_; intro v2 w2 r1 r2 r3 r4 r5; have HR1 := Lib.hid r1; have HR2 := Lib.hid r2; have HR3 := Lib.hid r3; have HR4 := Lib.hid r4; have HR5 := Lib.hid r5; clear r1 r2 r3 r4 r5; have HALL := Lib.hid (app2_all HBD.out HOK.out hws HR1.out HR2.out HR3.out HR4.out); have HK2 := Lib.hid HALL.out.2.1; have HS2 := Lib.hid (HST.out.keep HOK.out HK2.out (HBD.out.apart HST.out)); have HF2 : Hid (Fiv w2 ab off (.int .i64 op) (.string t.atom.name) (.slice pa t.atom.args.length ca) (.string t.var) (.slice pp t.parts.length cp)) := Lib.hid (HF.out.block HS2.out.1); clear b0 b1 b2 b3 b4; obtain ⟨b0, b1, b2, b3, b4⟩ := HF2.out))
      have HJ2 := Lib.hid (HJ.out _ _ _ HJJ.out HALL.out.1)
      have HBD2 : Hid (BdOk w0.heap.size bb w2 v2 d2) := Lib.hid (by rw [HD2.out]; exact HALL.out.2.2.1)
      have HBV2 := Lib.hid HALL.out.2.2.2.1
      have HST2 := Lib.hid HS2.out.2
      have HOK2 := Lib.hid (HK2.out.2 HOK.out).1
      have HOWN := Lib.hid HALL.out.2.2.2.2
      have HBACK : Hid (v2.ownBlock = vb.ownBlock → ∀ W : World, W.ownsRow w0.heap.size 9 1 v2 d2.length (d2.map Value.string) → W.ownsRow w0.heap.size 9 1 vb bd.length (bd.map Value.string)) := Lib.hid (fun e W h => HR5.out e W (by rw [HD2.out] at h; simpa using h))
      go_wp2
      go_loopw [36] (fun i wr => ∃ (k : Nat) (xs : List At), k ≤ t.parts.length ∧ i = .int .i64 k ∧ xs.map At.key = Fm.atsL (t.parts.take k) d2 ∧ J (pre ++ xs) wr ∧ KpS vb.ownBlock w0.heap.size bb W wr ∧ BdOk w0.heap.size bb wr v2 d2 ∧ BdOk w0.heap.size bb wr vb bd ∧ (Fiv wr ab off (.int .i64 op) (.string t.atom.name) (.slice pa t.atom.args.length ca) (.string t.var) (.slice pp t.parts.length cp)) ∧ Stab w0.heap.size bb wr ab ∧ OKb bb wr) (fun i _ => t.parts.length - (intOf i).toNat)
      case atStart => exact ⟨0, [], Nat.zero_le _, rfl, by simp [Fm.atsL], by simpa using HJ2.out, HK2.out, HBD2.out, HBV2.out, HF2.out, HST2.out, HOK2.out⟩
      case round =>
        obtain ⟨k, xs, hk, rfl, hxs, hjs, hks, hb2, hbv, hfr, hsr, hor⟩ := hrel
        have HX := Lib.hid hxs
        have HJS := Lib.hid hjs
        have HKS := Lib.hid hks
        have HB2 := Lib.hid hb2
        have HBV := Lib.hid hbv
        have HFR := Lib.hid hfr
        have HSR := Lib.hid hsr
        have HOR := Lib.hid hor
        clear hxs hjs hks hb2 hbv hfr hsr hor b0 b1 b2 b3 b4
        obtain ⟨b0, b1, b2, b3, b4⟩ := HFR.out
        by_cases hlt : k < t.parts.length
        · obtain ⟨s, hs⟩ : ∃ s, t.parts[k]? = some s := ⟨_, List.getElem?_eq_getElem hlt⟩
          obtain ⟨b, o2, rfl, va, vp, hc, hva, hvp⟩ := HV.out.2.get hs
          have HBW : Hid (Below w0.heap.size w0 wr) := Lib.hid (HB.out.trans HKS.out.1)
          have HCC := Lib.hid hc
          have hbl : b < w0.heap.size := World.block_lt_of_cell? w0 _ hc.1
          have HSB : Hid (Stab w0.heap.size bb wr b) := Lib.hid ⟨Nat.lt_of_lt_of_le hbl HBW.out.size, .inl hbl⟩
          have HS := Lib.hid hs
          have hsp := Fm.sz_part (mem_of_at hs)
          have hwp := Fm.wt_part (mem_of_at hs)
          have hroom : (pre ++ xs).length + (s.ats d2).length ≤ N := by
            have h1 := Fm.atsL_len t.parts (k + 1) d2
            rw [Fm.atsL_next hs, List.length_append] at h1
            have h2 := congrArg List.length HX.out
            rw [List.length_map] at h2
            have h3 := congrArg List.length HAT2.out
            have h4 := HN.out
            rw [List.length_append]; omega
          have HC := Lib.hid (callsIn_wide.1 (H.out s (mem_of_at hs) 0 b (o2 + k * 5) va vp v2 d2 (pre ++ xs) wr HOR.out HSB.out (hc.kept HBW.out) ⟨hva, hvp⟩ HBW.out HB2.out HJS.out hroom (fun y hy => HM.out y (by rw [HAT2.out]; exact Fm.atsL_mem (mem_of_at HS.out) hy)) (by have := HLD.out; omega) (by omega)))
          clear hs hc hva hvp hsp hwp hroom
          go_wp2_with fail
          refine HC.out.mono ?_
          rintro e W3 (⟨rfl, ys, hys, hj3, hk3, hb3⟩ | ⟨rfl, q, hx3⟩)
          · have HN3 : Hid ((xs ++ ys).map At.key = Fm.atsL (t.parts.take (k + 1)) d2) := Lib.hid (by rw [List.map_append, HX.out, hys, Fm.atsL_next HS.out])
            have HJ3 : Hid (J (pre ++ (xs ++ ys)) W3) := Lib.hid (by rw [← List.append_assoc]; exact hj3)
            have HK3 := Lib.hid (HKS.out.trans hk3 HOWN.out)
            have HB3 := Lib.hid hb3
            have HBV3 := Lib.hid (bdBack HBV.out HOR.out hk3 hb3 (fun e => HBACK.out (by first | exact e | trivial)))
            have HS3 := Lib.hid (HSR.out.keep HOR.out hk3 (HB2.out.apart HSR.out))
            have HF3 := Lib.hid (HFR.out.block HS3.out.1)
            have HO3 := Lib.hid (hk3.2 HOR.out).1
            clear hys hj3 hk3 hb3 b0 b1 b2 b3 b4 HC
            go_wp2
            go_roundw
            case rel => exact ⟨k + 1, xs ++ ys, by omega, by go_num, HN3.out, HJ3.out, HK3.out, HB3.out, HBV3.out, HF3.out, HS3.out.2, HO3.out⟩
            case measure => simp [intOf]; omega
          · have HX3 : Hid (Jx (pre ++ (xs ++ q)) W3) := Lib.hid (by rw [← List.append_assoc]; exact hx3)
            clear hx3 HC
            go_wp2
            go_ret
            exact .inr ⟨rfl, xs ++ q, HX3.out⟩
        · have HE : Hid (YEndA bb w0 J Jx (t.ats bd) vb bd pre W (.returned (.bool true)) wr) := Lib.hid (.inl ⟨rfl, xs, by rw [HX.out, HAT2.out, List.take_of_length_le (by omega)], HJS.out, HKS.out, HBV.out⟩)
          go_wp2
          go_ret
          exact HE.out
theorem yieldA_any (bb l N : Nat) (w0 : World) (M : List (Tm × List ByteArray)) (J Jx : List At → World → Prop) (hJ : ∀ s A B, J s A → GB w0.heap.size bb A B → J s B)
    (hY : ∀ m pre (x : At) W, J pre W → PxA w0.heap.size bb w0 M x W → pre.length < N → YieldAt Fence.wide m Tryz.prog l x.enc W fun e W' =>
      (e = .returned (.bool true) ∧ J (pre ++ [x]) W' ∧ KpS none w0.heap.size bb W W') ∨ (e = .returned (.bool false) ∧ Jx (pre ++ [x]) W')) (t : Fm) : YieldTA bb l N w0 M J Jx t :=
  Fm.ind (P := YieldTA bb l N w0 M J Jx) (fun t ih => yieldA_of bb l N w0 M J Jx hJ hY t ih) t

/-- The closure that the iterator is: Bp is the box that holds the formula's pointer. -/
theorem atomsA1_in (bb n l N Bp ab : Nat) (w0 : World) (t : Fm) (va vp : Value) (J Jx : List At → World → Prop) (hN : (t.ats []).length ≤ N) (hz : t.sz ≤ 1048576) (hw : t.wt ≤ 1048576)
    (hY : ∀ pre (x : At) W, J pre W → PxA w0.heap.size bb w0 (t.ats []) x W → pre.length < N → YieldAt Fence.wide (n - 1) Tryz.prog l x.enc W fun e W' =>
      (e = .returned (.bool true) ∧ J (pre ++ [x]) W' ∧ KpS none w0.heap.size bb W W') ∨ (e = .returned (.bool false) ∧ Jx (pre ++ [x]) W'))
    (W : World) (hok : OKb bb W) (hJ : ∀ s A B, J s A → GB w0.heap.size bb A B → J s B) (hb : Below w0.heap.size w0 W) (hst : Stab w0.heap.size bb W ab) (hf : Fiv W ab 0 (.int .i64 t.op) (.string t.atom.name) va (.string t.var) vp) (hv : FmV w0 va vp t)
    (hbox : W.cell? ⟨Bp, 0, none⟩ = some (.pointer (some ⟨ab, 0, none⟩))) (h0 : J [] W) :
    CallsIn Fence.wide n Tryz.prog 72 #[.func (.yield l) #[] #[], .pointer (some ⟨Bp, 0, none⟩)] W fun e W' => (∃ v, e = .returned v) ∧
      ((∃ xs : List At, xs.map At.key = t.ats [] ∧ J xs W') ∨ (∃ pre, True ∧ Jx pre W')) := by
  have hdd : ∀ k : Nat, (Fence.wide.depth.isSome = true → 1 ≤ k) := fun k h => by cases h
  have HP := Lib.hid (yieldA_any bb l N w0 (t.ats []) J Jx hJ (fun m pre x W hj hp hl => yieldAny m (hY pre x W hj hp hl)) t (n - 1) ab 0 va vp (.slice none 0 0) [] [] W hok hst hf hv hb (BdOk.nil _ _ _) h0 (by simpa using hN) (fun _ h => h) (by simpa using hz) hw)
  clear hY hJ
  refine callsIn_of_wp Tryz.func72 rfl trivial ?_ rfl
  simp only [Tryz.ntmps72, List.size_toArray, List.length_cons, List.length_nil, Nat.reduceAdd, Nat.reduceSub, Array.replicate_succ, Array.replicate_zero, List.push_toArray, List.append_toArray, List.nil_append, List.cons_append]
  gi_wp2
  refine ⟨trivial, hdd _, ?_⟩; refine HP.out.mono ?_; clear HP; (rintro e W1 (⟨rfl, xs, hxs, hJ1, _⟩ | ⟨rfl, q, hx⟩))
  · gi_wp2
    go_end0
    exact ⟨⟨_, rfl⟩, .inl ⟨xs, hxs, by simpa using hJ1⟩⟩
  · gi_wp2
    go_end0
    exact ⟨⟨_, rfl⟩, .inr ⟨_, trivial, hx⟩⟩

/-- The iterator's contract. -/
theorem atoms_stops (bb n Bp ab : Nat) (w0 : World) (t : Fm) (va vp : Value) (hz : t.sz ≤ 1048576) (hw : t.wt ≤ 1048576) (w : World) (hb : Below w0.heap.size w0 w) (hv : FmV w0 va vp t)
    (hst : Stab w0.heap.size bb w ab) (hf : Fiv w ab 0 (.int .i64 t.op) (.string t.atom.name) va (.string t.var) vp) (hbox : w.cell? ⟨Bp, 0, none⟩ = some (.pointer (some ⟨ab, 0, none⟩))) (hok : OKb bb w) :
    SeqY Fence.wide n Tryz.prog 72 #[.pointer (some ⟨Bp, 0, none⟩)] At.enc (GB w0.heap.size bb) (KpS none w0.heap.size bb) (PxA w0.heap.size bb w0 (t.ats [])) (fun xs => xs.map At.key = t.ats []) (fun _ => True) (t.ats []).length w := fun l J Jx W hW hJ _ hY h => by
  have hk : KpS none w0.heap.size bb w W := KpS.of_below hb.size hW
  have hs := hst.keep hok hk (by simp)
  exact atomsA1_in bb n l _ Bp ab w0 t va vp J Jx (Nat.le_refl _) hz hw hY W (hk.2 hok).1 hJ (hb.trans hk.1) hs.2 (hf.kept hW) hv (carry_cell hbox hW) h

/-- What a round may read stands while the loop keeps its books. -/
theorem PxA.put {n₀ bb : Nat} {w0 w W : World} {K : List (Tm × List ByteArray)} {x : At} (hn : n₀ ≤ w.heap.size) (hbb : bb < w.heap.size) (l : Nat) (o o' : Obj) (hl : w.heap.size ≤ l) (h : W.heap[l]? = some o) (hc : o.isCells = false) (hw : o.isWalk = false) (hp : PxA n₀ bb w0 K x W) : PxA n₀ bb w0 K x (W.putObj l o') := by
  obtain ⟨hkx, ok, hb, hbd, va, c0, c1, hv⟩ := hp
  have k := KpS.book hn hbb W l o o' hl h hc hw
  have hne : some x.b ≠ some l := fun e => by
    have e := Option.some.inj e
    unfold World.cell? at c0
    simp only [e, h] at c0
    cases o <;> first | (cases c0; done) | (cases hc; done)
  have hg := grownBy_putObj' W l o'
  exact ⟨hkx, (k.2 ok).1, hb.trans k.1, hbd.keep ok k, va, hg.cell c0 hne, hg.cell c1 hne, hv⟩

/-- The function that makes the iterator. -/
theorem atomsOf_any (w : World) (p : Addr) :
    Calls Tryz.prog 48 #[.pointer (some p)] w (fun e w' => e = .returned (.func (.func 72) #[] #[.pointer (some ⟨w.heap.size, 0, none⟩)]) ∧ w' = w.alloc (.cells #[.pointer (some p)] 84)) := by
  go_enter Tryz.func48, Tryz.ntmps48
  go_wp2
  go_ret
  exact ⟨rfl, rfl⟩

end Go.Proofs.YtdpeanpmjhpblaaGreat
