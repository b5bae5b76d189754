/-
  A range over an iterator whose rounds turn what the iterator reads: the caller's state ahead of a round (I) and behind it (I1); the iterator's own calls lead from the one to the other.
-/
import Derived.Test.YtppmicepkjhfeaaGreatLibF
import Derived.OrdersIn
import Derived.Orders
namespace Go.Proofs.YtppmicepkjhfeaaGreat
open Go.RowKit
set_option linter.unusedVariables false
variable {F : Fence} {n : Nat} {P : Program}

/-- the loop's two records stay -/
def KeepR (D : Nat) (A B : World) : Prop := ∀ k o, k = D ∨ k = D + 1 → A.heap[k]? = some o → o.isCells = false → B.heap[k]? = some o
theorem KeepR.below {D : Nat} {A B : World} (k : Below A.heap.size A B) : KeepR D A B := fun j o _ h _ => (k.block j (Array.getElem?_eq_some_iff.1 h).1).trans h
theorem KeepR.keeps {D : Nat} {A B : World} {G : Nat → Prop} (k : Keeps G A B) (h0 : ¬ G D) (h1 : ¬ G (D + 1)) : KeepR D A B := fun j o hj h _ => (k.block j (Array.getElem?_eq_some_iff.1 h).1 (by rcases hj with rfl | rfl; exact h0; exact h1)).trans h
theorem KeepR.from {D : Nat} {A B : World} (k : KeepsFrom D A B) : KeepR D A B := fun j o hj h hc => k.same j o (by omega) h hc
/-- what stays when the loop turns its records -/
def Clo {β : Type} (D : Nat) (I : β → World → Prop) : Prop := ∀ s (W : World) (l : Nat) (o o' : Obj), I s W → l = D ∨ l = D + 1 → W.heap[l]? = some o → o.isCells = false → I s (W.putObj l o')
theorem putObj_keeps (W : World) (l : Nat) (o' : Obj) : Keeps (fun j => j = l) W (W.putObj l o') := by
  have g := grownBy_putObj' W l o'
  exact ⟨g.os, g.tape, g.output, g.size, fun k hk hB => g.block k hk (fun q => hB (by cases q; rfl))⟩
def SeqW {α : Type} (F : Fence) (n : Nat) (P : Program) (g : Nat) (lb : Array Value) (encs : α → Array Value) (I I1 Fin : List α → World → Prop) (ok : List α → α → Prop) (D : Nat) : Prop :=
  ∀ (l : Nat) (Rec : World → Prop) (Jx : List α → World → Prop) (W : World), (∀ A B, Rec A → KeepR D A B → Rec B) →
    (∀ pre x A, Rec A → I pre A → ok pre x → YieldAt F (n - 1) P l (encs x) A fun e B => e = .returned (.bool true) ∧ Rec B ∧ I1 (pre ++ [x]) B ∨ e = .returned (.bool false) ∧ Jx (pre ++ [x]) B) →
    Rec W → I [] W →
    CallsIn F n P g (#[.func (.yield l) #[] #[]] ++ lb) W fun e B => (∃ v, e = .returned v) ∧ ((∃ xs, Rec B ∧ Fin xs B) ∨ (∃ xs, Jx xs B))
/-- how a round's body may be left -/
def endsW {α : Type} (D : Nat) (I : List α → World → Prop) (Ix : Code → List α → World → Prop) (xs : List α) (W : World) : Exit → Act → World → Prop
  | .normal, _, B => KeepR D W B ∧ I xs B
  | .ret, _, B => KeepR D W B ∧ Ix .ret xs B
  | .exit i, _, B => KeepR D W B ∧ Ix (.exit i) xs B
  | .goto t, _, B => KeepR D W B ∧ Ix (.goto t) xs B
  | .panic _, _, _ => False
  | .outgrown, _, _ => False
theorem wpIn_rangeW {α : Type} {g : Operand} {ps : Array Tmp} {assign body : Code} {Q : Exit → Act → World → Prop} {a : Act} {w : World}
    (hro : F.round = none) (h1 : 1 ≤ n) {gf : Nat} {lb : Array Value} (hg : a.eval g = .func (.func gf) #[] lb) (hFg : F.fn gf) (eg : ∀ args w, (callFunc gf args).run P w = .ok (.enter gf args) w)
    {encs : α → Array Value} {I I1 Fin : List α → World → Prop} {ok : List α → α → Prop} (hseq : SeqW F (n - 1) P gf lb encs I I1 Fin ok w.heap.size) (hps : ∀ x, (encs x).size = ps.size)
    (Ix : Code → List α → World → Prop) (hI : Clo w.heap.size I) (hI1 : Clo w.heap.size I1) (hF : Clo w.heap.size Fin) (hIx : ∀ c, Clo w.heap.size (Ix c))
    (hB : ∀ W, Below w.heap.size w W → I [] W) (a₁ : α → Act)
    (hassign : ∀ (l : Nat) (x : α) (W : World) (K : Act → World → Prop), K (a₁ x) W →
      assign.wpIn (F.inRound l) (n - 1 - 1) P (Exit.then K (fun _ _ _ => False)) { tmps := (ps.zip (encs x)).foldl (fun t (p, v) => t.setIfInBounds p v) a.tmps, defers := [] } W)
    (hbody : ∀ (l : Nat) (pre : List α) (x : α) (W : World), w.heap.size + 2 ≤ W.heap.size → I pre W → ok pre x → body.wpIn (F.inRound l) (n - 1 - 1) P (endsW w.heap.size I1 Ix (pre ++ [x]) W) (a₁ x) W)
    (hdone : ∀ (D : Nat) (xs : List α) (W : World), D = w.heap.size → Fin xs W → W.heap[D]? = some (.deferred (some [])) → Q .normal { a with defers := { target := .collected D, args := #[] } :: a.defers } W)
    (hstop : ∀ (D : Nat) (c : Code) (pre : List α) (W : World), D = w.heap.size → Ix c pre W → W.heap[D]? = some (.deferred (some [])) → c.wpIn F n P Q { a with defers := { target := .collected D, args := #[] } :: a.defers } W) :
    (Code.rangeFunc g ps assign body).wpIn F n P Q a w := by
  refine wpIn_rangeFunc fun fn hfn => ?_
  rw [hro]
  obtain ⟨D, hD⟩ : ∃ D, D = w.heap.size := ⟨_, rfl⟩
  obtain ⟨rec, hrec⟩ : ∃ rec : LoopState → Option Code → Loop, rec = fun st pe => { state := st, pending := pe, fn, tmps := a.tmps, params := ps, assign, body, defers := D } := ⟨_, rfl⟩
  obtain ⟨W1, hW1⟩ : ∃ W1, W1 = (w.alloc (.deferred (some []))).alloc (.loop (rec .ready none)) := ⟨_, rfl⟩
  -- the two blocks of the loop's own book-keeping, and that a step aside leaves them
  have rL : W1.heap[D + 1]? = some (.loop (rec .ready none)) := by
    rw [hW1, hD]
    have q := World.alloc_heap_new (w.alloc (.deferred (some []))) (.loop (rec .ready none))
    rwa [World.size_alloc] at q
  have rD : W1.heap[D]? = some (.deferred (some [])) := by
    rw [hW1, hD]; exact (Below.heap_alloc _ _ _ (by simp)).trans (World.alloc_heap_new w _)
  have rB : Below w.heap.size w W1 := by rw [hW1]; exact ((Below.refl _ w).alloc (Nat.le_refl _) _).alloc (by simp) _
  have rI : I [] W1 := hB W1 rB
  rw [← hD] at hseq hI hI1 hF hIx hbody hdone hstop
  have put : ∀ (W : World) (st : LoopState) (pe : Option Code) (o : Obj), W.heap[D + 1]? = some o → (W.putObj (D + 1) (.loop (rec st pe))).heap[D + 1]? = some (.loop (rec st pe)) := fun W st pe o h => World.putObj_heap_same (Array.getElem?_eq_some_iff.1 h).1
  have putD : ∀ (W : World) (st : LoopState) (pe : Option Code), W.heap[D]? = some (.deferred (some [])) → (W.putObj (D + 1) (.loop (rec st pe))).heap[D]? = some (.deferred (some [])) := fun W st pe h => (World.putObj_heap_other (by omega)).trans h
  have recEq : ∀ st pe, ({ rec st pe with state := .busy } : Loop) = rec .busy pe := fun st pe => by rw [hrec]
  refine ⟨D + 1, [{ target := .collected D, args := #[] }], W1, { target := .fn (.func gf) lb, args := #[.func (.yield (D + 1)) #[] #[]] }, W1, gf, #[.func (.yield (D + 1)) #[] #[]] ++ lb, W1, ?_, ?_, ?_, ?_, fun _ => h1, ?_⟩
  · rw [hW1, hrec, hD]; exact run_enterLoop_outer ..
  · simp only [resolve, hg]; simp [go_sem]
  · intro f' hf'; simp [Target.leads] at hf'; subst hf'; exact hFg
  · simp [invoke, go_sem, eg]
  refine (hseq (D + 1) (fun W => W.heap[D + 1]? = some (.loop (rec .ready none)) ∧ W.heap[D]? = some (.deferred (some [])))
    (fun pre W => ∃ c, (W.heap[D + 1]? = some (.loop (rec .done (some c))) ∧ W.heap[D]? = some (.deferred (some []))) ∧ Ix c pre W) W1
    (fun A B hs st => ⟨st _ _ (.inr rfl) hs.1 rfl, st _ _ (.inl rfl) hs.2 rfl⟩) ?_ ⟨rL, rD⟩ rI).mono ?_
  · -- a round
    rintro pre x A ⟨gL, gD⟩ gI hok
    have hy := run_yield (P := P) (args := encs x) gL (by rw [hrec]; exact hps x)
    have r1 : (rec .ready none).fn = fn := by rw [hrec]
    have r2 : (rec .ready none).params = ps := by rw [hrec]
    have r3 : (rec .ready none).tmps = a.tmps := by rw [hrec]
    have r4 : (rec .ready none).assign = assign := by rw [hrec]
    have r5 : (rec .ready none).body = body := by rw [hrec]
    rw [r1, r2, r3, r4, r5] at hy
    refine ⟨_, _, _, _, hy, roundIn_of_wpIn hfn ?_⟩
    refine hassign (D + 1) x A _ ⟨_, run_beginRound gL (by rw [hrec]), ?_⟩
    rw [recEq]
    have bL := put A .busy none _ gL
    have bD := putD A .busy none gD
    have bI := hI _ _ (D + 1) _ (.loop (rec .busy none)) gI (.inr rfl) gL rfl
    generalize A.putObj (D + 1) (.loop (rec .busy none)) = A2 at *
    refine wpIn_mono (hbody (D + 1) pre x A2 (by have := (Array.getElem?_eq_some_iff.1 bL).1; omega) bI hok) fun e a3 B hp => ?_
    -- the round's end, at whatever jump
    have fin : ∀ (jump : Option Code) (st : LoopState), st = (if jump.isNone then LoopState.ready else .done) → KeepR D A2 B → (Instr.endRound (D + 1) jump).run P B = .ok (.bool jump.isNone) (B.putObj (D + 1) (.loop (rec st jump))) ∧ B.heap[D + 1]? = some (.loop (rec .busy none)) ∧ B.heap[D]? = some (.deferred (some [])) := fun jump st est kf => by
      have cL := kf _ _ (.inr rfl) bL rfl
      have cD := kf _ _ (.inl rfl) bD rfl
      refine ⟨?_, cL, cD⟩
      have q := run_endRound (P := P) jump cL
      rw [est]
      rw [hrec] at q ⊢
      exact q
    cases e with
    | normal =>
      obtain ⟨kf, hi⟩ := hp
      obtain ⟨q, cL, cD⟩ := fin none .ready rfl kf
      exact ⟨_, _, q, .inl ⟨rfl, ⟨put _ .ready none _ cL, putD _ .ready none cD⟩, hI1 _ _ _ _ _ hi (.inr rfl) cL rfl⟩⟩
    | ret =>
      obtain ⟨kf, hi⟩ := hp
      obtain ⟨q, cL, cD⟩ := fin (some .ret) .done rfl kf
      exact ⟨_, _, q, .inr ⟨rfl, _, ⟨put _ .done (some .ret) _ cL, putD _ .done (some .ret) cD⟩, hIx _ _ _ _ _ _ hi (.inr rfl) cL rfl⟩⟩
    | exit i =>
      obtain ⟨kf, hi⟩ := hp
      obtain ⟨q, cL, cD⟩ := fin (some (.exit i)) .done rfl kf
      exact ⟨_, _, q, .inr ⟨rfl, _, ⟨put _ .done (some (.exit i)) _ cL, putD _ .done (some (.exit i)) cD⟩, hIx _ _ _ _ _ _ hi (.inr rfl) cL rfl⟩⟩
    | goto t =>
      obtain ⟨kf, hi⟩ := hp
      obtain ⟨q, cL, cD⟩ := fin (some (.goto t)) .done rfl kf
      exact ⟨_, _, q, .inr ⟨rfl, _, ⟨put _ .done (some (.goto t)) _ cL, putD _ .done (some (.goto t)) cD⟩, hIx _ _ _ _ _ _ hi (.inr rfl) cL rfl⟩⟩
    | panic ch => exact hp.elim
    | outgrown => exact hp.elim
  · -- behind the iterator
    rintro e B ⟨⟨v, rfl⟩, (⟨xs, ⟨gL, gD⟩, gI⟩ | ⟨xs, c, ⟨gL, gD⟩, gI⟩)⟩
    · have q : (Instr.endLoop (D + 1)).run P B = .ok none (B.putObj (D + 1) (.loop (rec .exhausted none))) := by
        have q := run_endLoop (P := P) gL (by rw [hrec]; simp)
        rw [hrec] at q ⊢; exact q
      exact ⟨none, _, q, hdone D xs _ rfl (hF _ _ _ _ _ gI (.inr rfl) gL rfl) (putD _ _ _ gD)⟩
    · have q : (Instr.endLoop (D + 1)).run P B = .ok (some c) (B.putObj (D + 1) (.loop (rec .exhausted (some c)))) := by
        have q := run_endLoop (P := P) gL (by rw [hrec]; simp)
        rw [hrec] at q ⊢; exact q
      exact ⟨some c, _, q, hstop D c xs _ rfl (hIx c _ _ _ _ _ gI (.inr rfl) gL rfl) (putD _ _ _ gD)⟩

/-! ### the same, for an iterator that has blocks of its own: a round keeps what lies ahead of S (Kp S) -/
def SeqS {α : Type} (F : Fence) (n : Nat) (P : Program) (g : Nat) (lb : Array Value) (encs : α → Array Value) (Kp : Nat → World → World → Prop) (St : World → Prop) (I I1 : Nat → List α → World → Prop) (Fin : List α → World → Prop) (ok : List α → α → Prop) (D : Nat) : Prop :=
  ∀ (l : Nat) (Rec : World → Prop) (Jx : List α → World → Prop) (W : World), (∀ A B, Rec A → KeepR D A B → Rec B) →
    (∀ S pre x A, Rec A → S ≤ A.heap.size → I S pre A → ok pre x → YieldAt F (n - 1) P l (encs x) A fun e B => Kp S A B ∧ (e = .returned (.bool true) ∧ Rec B ∧ I1 S (pre ++ [x]) B ∨ e = .returned (.bool false) ∧ Jx (pre ++ [x]) B)) →
    Rec W → St W →
    CallsIn F n P g (#[.func (.yield l) #[] #[]] ++ lb) W fun e B => (∃ v, e = .returned v) ∧ ((∃ xs, Rec B ∧ Fin xs B) ∨ (∃ xs, Jx xs B))
def endsS {α : Type} (D : Nat) (Kp : World → World → Prop) (I : List α → World → Prop) (Ix : Code → List α → World → Prop) (xs : List α) (W : World) : Exit → Act → World → Prop
  | .normal, _, B => (KeepR D W B ∧ Kp W B) ∧ I xs B
  | .ret, _, B => (KeepR D W B ∧ Kp W B) ∧ Ix .ret xs B
  | .exit i, _, B => (KeepR D W B ∧ Kp W B) ∧ Ix (.exit i) xs B
  | .goto t, _, B => (KeepR D W B ∧ Kp W B) ∧ Ix (.goto t) xs B
  | .panic _, _, _ => False
  | .outgrown, _, _ => False
theorem wpIn_rangeS {α : Type} {g : Operand} {ps : Array Tmp} {assign body : Code} {Q : Exit → Act → World → Prop} {a : Act} {w : World}
    (hro : F.round = none) (h1 : 1 ≤ n) {gf : Nat} {lb : Array Value} (hg : a.eval g = .func (.func gf) #[] lb) (hFg : F.fn gf) (eg : ∀ args w, (callFunc gf args).run P w = .ok (.enter gf args) w)
    {encs : α → Array Value} {Kp : Nat → World → World → Prop} {St : World → Prop} {I I1 : Nat → List α → World → Prop} {Fin : List α → World → Prop} {ok : List α → α → Prop} (hseq : SeqS F (n - 1) P gf lb encs Kp St I I1 Fin ok w.heap.size) (hps : ∀ x, (encs x).size = ps.size)
    (Ix : Code → List α → World → Prop) (hKt : ∀ {S : Nat} {A B C : World}, Kp S A B → Kp S B C → Kp S A C) (hKb : ∀ (S : Nat) (W : World) (o o' : Obj), W.heap[w.heap.size + 1]? = some o → o.isCells = false → Kp S W (W.putObj (w.heap.size + 1) o')) (hI : ∀ S, Clo w.heap.size (I S)) (hI1 : ∀ S, Clo w.heap.size (I1 S)) (hF : Clo w.heap.size Fin) (hIx : ∀ c, Clo w.heap.size (Ix c))
    (hB : ∀ W, Below w.heap.size w W → w.heap.size + 2 ≤ W.heap.size → St W) (a₁ : α → Act)
    (hassign : ∀ (l : Nat) (x : α) (W : World) (K : Act → World → Prop), K (a₁ x) W →
      assign.wpIn (F.inRound l) (n - 1 - 1) P (Exit.then K (fun _ _ _ => False)) { tmps := (ps.zip (encs x)).foldl (fun t (p, v) => t.setIfInBounds p v) a.tmps, defers := [] } W)
    (hbody : ∀ (l S : Nat) (pre : List α) (x : α) (W : World), w.heap.size + 2 ≤ W.heap.size → S ≤ W.heap.size → I S pre W → ok pre x → body.wpIn (F.inRound l) (n - 1 - 1) P (endsS w.heap.size (Kp S) (I1 S) Ix (pre ++ [x]) W) (a₁ x) W)
    (hdone : ∀ (D : Nat) (xs : List α) (W : World), D = w.heap.size → Fin xs W → W.heap[D]? = some (.deferred (some [])) → Q .normal { a with defers := { target := .collected D, args := #[] } :: a.defers } W)
    (hstop : ∀ (D : Nat) (c : Code) (pre : List α) (W : World), D = w.heap.size → Ix c pre W → W.heap[D]? = some (.deferred (some [])) → c.wpIn F n P Q { a with defers := { target := .collected D, args := #[] } :: a.defers } W) :
    (Code.rangeFunc g ps assign body).wpIn F n P Q a w := by
  refine wpIn_rangeFunc fun fn hfn => ?_
  rw [hro]
  obtain ⟨D, hD⟩ : ∃ D, D = w.heap.size := ⟨_, rfl⟩
  obtain ⟨rec, hrec⟩ : ∃ rec : LoopState → Option Code → Loop, rec = fun st pe => { state := st, pending := pe, fn, tmps := a.tmps, params := ps, assign, body, defers := D } := ⟨_, rfl⟩
  obtain ⟨W1, hW1⟩ : ∃ W1, W1 = (w.alloc (.deferred (some []))).alloc (.loop (rec .ready none)) := ⟨_, rfl⟩
  -- the two blocks of the loop's own book-keeping, and that a step aside leaves them
  have rL : W1.heap[D + 1]? = some (.loop (rec .ready none)) := by
    rw [hW1, hD]
    have q := World.alloc_heap_new (w.alloc (.deferred (some []))) (.loop (rec .ready none))
    rwa [World.size_alloc] at q
  have rD : W1.heap[D]? = some (.deferred (some [])) := by
    rw [hW1, hD]; exact (Below.heap_alloc _ _ _ (by simp)).trans (World.alloc_heap_new w _)
  have rB : Below w.heap.size w W1 := by rw [hW1]; exact ((Below.refl _ w).alloc (Nat.le_refl _) _).alloc (by simp) _
  have rI : St W1 := hB W1 rB (by rw [hW1]; simp)
  rw [← hD] at hseq hKb hI hI1 hF hIx hbody hdone hstop
  have put : ∀ (W : World) (st : LoopState) (pe : Option Code) (o : Obj), W.heap[D + 1]? = some o → (W.putObj (D + 1) (.loop (rec st pe))).heap[D + 1]? = some (.loop (rec st pe)) := fun W st pe o h => World.putObj_heap_same (Array.getElem?_eq_some_iff.1 h).1
  have putD : ∀ (W : World) (st : LoopState) (pe : Option Code), W.heap[D]? = some (.deferred (some [])) → (W.putObj (D + 1) (.loop (rec st pe))).heap[D]? = some (.deferred (some [])) := fun W st pe h => (World.putObj_heap_other (by omega)).trans h
  have recEq : ∀ st pe, ({ rec st pe with state := .busy } : Loop) = rec .busy pe := fun st pe => by rw [hrec]
  refine ⟨D + 1, [{ target := .collected D, args := #[] }], W1, { target := .fn (.func gf) lb, args := #[.func (.yield (D + 1)) #[] #[]] }, W1, gf, #[.func (.yield (D + 1)) #[] #[]] ++ lb, W1, ?_, ?_, ?_, ?_, fun _ => h1, ?_⟩
  · rw [hW1, hrec, hD]; exact run_enterLoop_outer ..
  · simp only [resolve, hg]; simp [go_sem]
  · intro f' hf'; simp [Target.leads] at hf'; subst hf'; exact hFg
  · simp [invoke, go_sem, eg]
  refine (hseq (D + 1) (fun W => W.heap[D + 1]? = some (.loop (rec .ready none)) ∧ W.heap[D]? = some (.deferred (some [])))
    (fun pre W => ∃ c, (W.heap[D + 1]? = some (.loop (rec .done (some c))) ∧ W.heap[D]? = some (.deferred (some []))) ∧ Ix c pre W) W1
    (fun A B hs st => ⟨st _ _ (.inr rfl) hs.1 rfl, st _ _ (.inl rfl) hs.2 rfl⟩) ?_ ⟨rL, rD⟩ rI).mono ?_
  · -- a round
    rintro S pre x A ⟨gL, gD⟩ hS gI hok
    have hy := run_yield (P := P) (args := encs x) gL (by rw [hrec]; exact hps x)
    have r1 : (rec .ready none).fn = fn := by rw [hrec]
    have r2 : (rec .ready none).params = ps := by rw [hrec]
    have r3 : (rec .ready none).tmps = a.tmps := by rw [hrec]
    have r4 : (rec .ready none).assign = assign := by rw [hrec]
    have r5 : (rec .ready none).body = body := by rw [hrec]
    rw [r1, r2, r3, r4, r5] at hy
    refine ⟨_, _, _, _, hy, roundIn_of_wpIn hfn ?_⟩
    refine hassign (D + 1) x A _ ⟨_, run_beginRound gL (by rw [hrec]), ?_⟩
    rw [recEq]
    have bL := put A .busy none _ gL
    have bD := putD A .busy none gD
    have bI := hI S _ _ (D + 1) _ (.loop (rec .busy none)) gI (.inr rfl) gL rfl
    have bK := hKb S A _ (.loop (rec .busy none)) gL rfl
    have bS := Nat.le_trans hS (putObj_keeps A (D + 1) (.loop (rec .busy none))).size
    generalize A.putObj (D + 1) (.loop (rec .busy none)) = A2 at *
    refine wpIn_mono (hbody (D + 1) S pre x A2 (by have := (Array.getElem?_eq_some_iff.1 bL).1; omega) bS bI hok) fun e a3 B hp => ?_
    -- the round's end, at whatever jump
    have fin : ∀ (jump : Option Code) (st : LoopState), st = (if jump.isNone then LoopState.ready else .done) → KeepR D A2 B → Kp S A2 B → (Instr.endRound (D + 1) jump).run P B = .ok (.bool jump.isNone) (B.putObj (D + 1) (.loop (rec st jump))) ∧ B.heap[D + 1]? = some (.loop (rec .busy none)) ∧ B.heap[D]? = some (.deferred (some [])) ∧ Kp S A (B.putObj (D + 1) (.loop (rec st jump))) := fun jump st est kf kp => by
      have cL := kf _ _ (.inr rfl) bL rfl
      have cD := kf _ _ (.inl rfl) bD rfl
      refine ⟨?_, cL, cD, hKt (hKt bK kp) (hKb S B _ _ cL rfl)⟩
      have q := run_endRound (P := P) jump cL
      rw [est]
      rw [hrec] at q ⊢
      exact q
    cases e with
    | normal =>
      obtain ⟨⟨kf, kp⟩, hi⟩ := hp
      obtain ⟨q, cL, cD, ck⟩ := fin none .ready rfl kf kp
      exact ⟨_, _, q, ck, .inl ⟨rfl, ⟨put _ .ready none _ cL, putD _ .ready none cD⟩, hI1 S _ _ _ _ _ hi (.inr rfl) cL rfl⟩⟩
    | ret =>
      obtain ⟨⟨kf, kp⟩, hi⟩ := hp
      obtain ⟨q, cL, cD, ck⟩ := fin (some .ret) .done rfl kf kp
      exact ⟨_, _, q, ck, .inr ⟨rfl, _, ⟨put _ .done (some .ret) _ cL, putD _ .done (some .ret) cD⟩, hIx _ _ _ _ _ _ hi (.inr rfl) cL rfl⟩⟩
    | exit i =>
      obtain ⟨⟨kf, kp⟩, hi⟩ := hp
      obtain ⟨q, cL, cD, ck⟩ := fin (some (.exit i)) .done rfl kf kp
      exact ⟨_, _, q, ck, .inr ⟨rfl, _, ⟨put _ .done (some (.exit i)) _ cL, putD _ .done (some (.exit i)) cD⟩, hIx _ _ _ _ _ _ hi (.inr rfl) cL rfl⟩⟩
    | goto t =>
      obtain ⟨⟨kf, kp⟩, hi⟩ := hp
      obtain ⟨q, cL, cD, ck⟩ := fin (some (.goto t)) .done rfl kf kp
      exact ⟨_, _, q, ck, .inr ⟨rfl, _, ⟨put _ .done (some (.goto t)) _ cL, putD _ .done (some (.goto t)) cD⟩, hIx _ _ _ _ _ _ hi (.inr rfl) cL rfl⟩⟩
    | panic ch => exact hp.elim
    | outgrown => exact hp.elim
  · -- behind the iterator
    rintro e B ⟨⟨v, rfl⟩, (⟨xs, ⟨gL, gD⟩, gI⟩ | ⟨xs, c, ⟨gL, gD⟩, gI⟩)⟩
    · have q : (Instr.endLoop (D + 1)).run P B = .ok none (B.putObj (D + 1) (.loop (rec .exhausted none))) := by
        have q := run_endLoop (P := P) gL (by rw [hrec]; simp)
        rw [hrec] at q ⊢; exact q
      exact ⟨none, _, q, hdone D xs _ rfl (hF _ _ _ _ _ gI (.inr rfl) gL rfl) (putD _ _ _ gD)⟩
    · have q : (Instr.endLoop (D + 1)).run P B = .ok (some c) (B.putObj (D + 1) (.loop (rec .exhausted (some c)))) := by
        have q := run_endLoop (P := P) gL (by rw [hrec]; simp)
        rw [hrec] at q ⊢; exact q
      exact ⟨some c, _, q, hstop D c xs _ rfl (hIx c _ _ _ _ _ gI (.inr rfl) gL rfl) (putD _ _ _ gD)⟩

/-! ### a region that draws its order, within a round: by the law of a region outside -/
theorem Oper.wpIn_round {l n : Nat} {P : Program} {o : Oper} {a : Act} {w : World} {K : Act → World → Prop} {Q : Exit → Act → World → Prop} (hd : ∀ c, o.op ≠ .defer c) (h : o.wp P a w K Q) : o.wpIn (Fence.wide.inRound l) n P a w K Q := by
  unfold Oper.wpIn
  refine ⟨fun _ _ => trivial, ?_⟩
  unfold Oper.wp at h
  rw [Oper.semAt_eq _ _ _ hd]
  generalize (execOp a.eval o).run P w = r at *
  have hdep : ((Fence.wide.inRound l).depth.isSome = true → 1 ≤ n) := fun q => by simp [Fence.inRound, Fence.wide] at q
  cases r with
  | ok x w' =>
    cases x
    case enter f args => exact ⟨hdep, (callsIn_wide (n := n - 1)).2 h⟩
    case row r args => exact ⟨hdep, fun c cs _ => by
        obtain ⟨v, w'', hr, st⟩ := h c cs
        exact ⟨v, w'', hr, stepsIn_wide.2 st⟩⟩
    all_goals first | exact h | exact h.elim
  | halt x w' => cases x <;> first | exact h | exact h.elim
theorem wpAnyIn_round {l n : Nat} {P : Program} {md : Region.Mode} {ops : Array Oper} {Q : Exit → Act → World → Prop} (hd : ∀ (i : Nat) (o : Oper), ops[i]? = some o → ∀ c, o.op ≠ .defer c) (hL : ¬ LetsOut Q) : ∀ (fuel : Nat) (listed : Array Bool) (a : Act) (w : World), wpAny P md ops Q fuel listed a w → wpAnyIn (Fence.wide.inRound l) n P md ops Q fuel listed a w := by
  intro fuel
  induction fuel with
  | zero => intro listed a w h; exact h
  | succ fuel ih =>
    intro listed a w h
    refine ⟨h.1, fun i hi => ?_⟩
    have q := h.2 i hi
    unfold wpOp at q
    unfold wpOpIn
    cases ho : ops[i]? with
    | none => rw [ho] at q; exact ih _ _ _ q
    | some o =>
      rw [ho] at q
      simp only at q ⊢
      by_cases hw : Region.wanted o (yielded ops a.tmps) = true
      · rw [if_pos hw] at q ⊢
        refine Oper.wpIn_mono (fun a w => ih _ a w) (Oper.wpIn_round (hd i o ho) ?_)
        rcases q with q | q
        · exact q
        · exact absurd q.2 hL
      · rw [if_neg hw] at q ⊢
        exact ⟨fun _ _ => trivial, ih _ _ _ q⟩
/-- no operation of the region is a defer statement -/
def nodef (ops : Array Oper) : Bool := ops.all fun o => match o.op with | .defer _ => false | _ => true
theorem nodef_all {ops : Array Oper} (h : nodef ops = true) : ∀ (i : Nat) (o : Oper), ops[i]? = some o → ∀ c, o.op ≠ .defer c := fun i o ho c e => by
  unfold nodef at h
  rw [Array.all_eq_true] at h
  obtain ⟨hi, e2⟩ := Array.getElem?_eq_some_iff.1 ho
  have q := h i hi
  rw [e2, e] at q
  cases q
theorem wpIn_region_round {l n id : Nat} {P : Program} {ops : Array Oper} {Q : Exit → Act → World → Prop} {a : Act} {w : World} (hm : P.follows .mixedOrders = true) (hd : nodef ops = true) (hL : ¬ LetsOut Q)
    (h : wpAny P .any ops Q ops.size (Array.replicate ops.size false) a w.drew) : (Code.region id ops true).wpIn (Fence.wide.inRound l) n P Q a w :=
  wpIn_region_any hm (wpAnyIn_round (nodef_all hd) hL _ _ _ _ h)
theorem callsIn_round {l n : Nat} {P : Program} {f : FuncId} {args : Array Value} {w : World} {R : Ending → World → Prop} (h : Calls P f args w R) : CallsIn (Fence.wide.inRound l) n P f args w R := (callsIn_wide (n := n)).2 h
end Go.Proofs.YtppmicepkjhfeaaGreat
