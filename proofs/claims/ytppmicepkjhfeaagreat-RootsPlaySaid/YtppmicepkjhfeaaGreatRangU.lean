/-
  A range over an iterator whose own steps turn its own loops' records: the law for the loop, which asks of two blocks alone that they stay.
-/
import Derived.Test.YtppmicepkjhfeaaGreatLibF
namespace Go.Proofs.YtppmicepkjhfeaaGreat
open Go.RowKit
set_option linter.unusedVariables false
variable {F : Fence} {n : Nat} {P : Program}

/-- a region whose ways meet: what is left depends on one world alone -/
def EndsY (S : World → Prop) (Af : World → Act) (Wf : World → World) (e : Exit) (a' : Act) (w' : World) : Prop := e = .normal ∧ ∃ Y, S Y ∧ a' = Af Y ∧ w' = Wf Y
theorem wpIn_endsY {c : Code} {Q : Exit → Act → World → Prop} {a : Act} {w : World} (S : World → Prop) (Af : World → Act) (Wf : World → World) (h : c.wpIn F n P (EndsY S Af Wf) a w) (k : ∀ Y, S Y → Q .normal (Af Y) (Wf Y)) : c.wpIn F n P Q a w :=
  wpIn_mono h (fun e a' w' q => by
    obtain ⟨rfl, Y, s, rfl, rfl⟩ := q
    exact k Y s)
/-- the same contract, where the loop's two records lie already -/
def SeqU {α : Type} (F : Fence) (n : Nat) (P : Program) (g : Nat) (lb : Array Value) (encs : α → Array Value) (St Kp : World → World → Prop) (S Sp : List α → World → Prop) (ok : List α → α → Prop) (w0 : World) (sz : Nat) : Prop :=
  ∀ (l : Nat) (J Jx : List α → World → Prop) (W : World), Below w0.heap.size w0 W → sz ≤ W.heap.size →
    (∀ s A B, J s A → St A B → J s B) → (∀ s A B, Jx s A → St A B → Jx s B) →
    (∀ pre x A, J pre A → ok pre x → YieldAt F (n - 1) P l (encs x) A fun e B => Kp A B ∧ (e = .returned (.bool true) ∧ J (pre ++ [x]) B ∨ e = .returned (.bool false) ∧ Jx (pre ++ [x]) B)) →
    J [] W →
    CallsIn F n P g (#[.func (.yield l) #[] #[]] ++ lb) W fun e B => (∃ v, e = .returned v) ∧ ((∃ xs, S xs B ∧ J xs B) ∨ (∃ xs, Sp xs B ∧ Jx xs B))
theorem wpIn_rangeV {α : Type} {g : Operand} {ps : Array Tmp} {assign body : Code} {Q : Exit → Act → World → Prop} {a : Act} {w : World}
    (hro : F.round = none) (h1 : 1 ≤ n) {gf : Nat} {lb : Array Value} (hg : a.eval g = .func (.func gf) #[] lb) (hFg : F.fn gf) (eg : ∀ args w, (callFunc gf args).run P w = .ok (.enter gf args) w)
    {encs : α → Array Value} {St Kp : World → World → Prop} {S Sp : List α → World → Prop} {ok : List α → α → Prop} {w0 : World} (hseq : SeqU F (n - 1) P gf lb encs St Kp S Sp ok w0 (w.heap.size + 2))
    (hKt : ∀ {A B C : World}, Kp A B → Kp B C → Kp A C) (hKb : ∀ (W : World) (l : Nat) (o o' : Obj), l = w.heap.size ∨ l = w.heap.size + 1 → W.heap[l]? = some o → o.isCells = false → Kp W (W.putObj l o'))
    (hSt : ∀ A B, St A B → ∀ (k : Nat) (o : Obj), k = w.heap.size ∨ k = w.heap.size + 1 → A.heap[k]? = some o → o.isCells = false → B.heap[k]? = some o)
    (hS : ∀ xs (W : World) (l : Nat) (o o' : Obj), S xs W → l = w.heap.size ∨ l = w.heap.size + 1 → W.heap[l]? = some o → o.isCells = false → S xs (W.putObj l o'))
    (hSp : ∀ xs (W : World) (l : Nat) (o o' : Obj), Sp xs W → l = w.heap.size ∨ l = w.heap.size + 1 → W.heap[l]? = some o → o.isCells = false → Sp xs (W.putObj l o'))
    (hb0 : Below w0.heap.size w0 w) (hps : ∀ x, (encs x).size = ps.size)
    (I : List α → World → Prop) (Ix : Code → List α → World → Prop) (hI : OwnFrom w.heap.size I) (hIx : ∀ c, OwnFrom w.heap.size (Ix c))
    (hIs : ∀ s A B, I s A → St A B → I s B) (hIxs : ∀ c s A B, Ix c s A → St A B → Ix c s B) (h0 : I [] w) (a₁ : α → Act)
    (hassign : ∀ (l : Nat) (x : α) (W : World) (K : Act → World → Prop), K (a₁ x) W →
      assign.wpIn (F.inRound l) (n - 1 - 1) P (Exit.then K (fun _ _ _ => False)) { tmps := (ps.zip (encs x)).foldl (fun t (p, v) => t.setIfInBounds p v) a.tmps, defers := [] } W)
    (hbody : ∀ (l : Nat) (pre : List α) (x : α) (W : World), I pre W → ok pre x → body.wpIn (F.inRound l) (n - 1 - 1) P (endsT w.heap.size Kp I Ix (pre ++ [x]) W) (a₁ x) W)
    (hdone : ∀ (D : Nat) (xs : List α) (W : World), w.heap.size ≤ D → S xs W → I xs W → W.heap[D]? = some (.deferred (some [])) → Q .normal { a with defers := { target := .collected D, args := #[] } :: a.defers } W)
    (hstop : ∀ (D : Nat) (c : Code) (pre : List α) (W : World), w.heap.size ≤ D → Sp pre W → Ix c pre W → W.heap[D]? = some (.deferred (some [])) → c.wpIn F n P Q { a with defers := { target := .collected D, args := #[] } :: a.defers } W) :
    (Code.rangeFunc g ps assign body).wpIn F n P Q a w := by
  refine wpIn_rangeFunc fun fn hfn => ?_
  rw [hro]
  obtain ⟨D, hD⟩ : ∃ D, D = w.heap.size := ⟨_, rfl⟩
  obtain ⟨rec, hrec⟩ : ∃ rec : LoopState → Option Code → Loop, rec = fun st pe => { state := st, pending := pe, fn, tmps := a.tmps, params := ps, assign, body, defers := D } := ⟨_, rfl⟩
  obtain ⟨W1, hW1⟩ : ∃ W1, W1 = (w.alloc (.deferred (some []))).alloc (.loop (rec .ready none)) := ⟨_, rfl⟩
  -- the two blocks of the loop's own book-keeping, and that a step aside leaves them
  have rL : W1.heap[D + 1]? = some (.loop (rec .ready none)) := by
    rw [hW1, hD]
    have q := World.alloc_heap_new (w.alloc (.deferred (some []))) (.loop (rec .ready none))
    rwa [World.size_alloc] at q
  have rD : W1.heap[D]? = some (.deferred (some [])) := by
    rw [hW1, hD]; exact (Below.heap_alloc _ _ _ (by simp)).trans (World.alloc_heap_new w _)
  have rI : I [] W1 := by rw [hW1]; exact hI.alloc _ (hI.alloc _ h0)
  have rB : Below w0.heap.size w0 W1 := by
    have q : Below w.heap.size w W1 := by rw [hW1]; exact ((Below.refl _ w).alloc (Nat.le_refl _) _).alloc (by simp) _
    exact hb0.trans (q.mono hb0.size)
  have rS : w.heap.size + 2 ≤ W1.heap.size := by rw [hW1]; simp
  rw [← hD] at hKb hSt hS hSp hI hIx hbody hdone hstop
  have put : ∀ (W : World) (st : LoopState) (pe : Option Code) (o : Obj), W.heap[D + 1]? = some o → (W.putObj (D + 1) (.loop (rec st pe))).heap[D + 1]? = some (.loop (rec st pe)) := fun W st pe o h => World.putObj_heap_same (Array.getElem?_eq_some_iff.1 h).1
  have putD : ∀ (W : World) (st : LoopState) (pe : Option Code), W.heap[D]? = some (.deferred (some [])) → (W.putObj (D + 1) (.loop (rec st pe))).heap[D]? = some (.deferred (some [])) := fun W st pe h => (World.putObj_heap_other (by omega)).trans h
  have recEq : ∀ st pe, ({ rec st pe with state := .busy } : Loop) = rec .busy pe := fun st pe => by rw [hrec]
  refine ⟨D + 1, [{ target := .collected D, args := #[] }], W1, { target := .fn (.func gf) lb, args := #[.func (.yield (D + 1)) #[] #[]] }, W1, gf, #[.func (.yield (D + 1)) #[] #[]] ++ lb, W1, ?_, ?_, ?_, ?_, fun _ => h1, ?_⟩
  · rw [hW1, hrec, hD]; exact run_enterLoop_outer ..
  · simp only [resolve, hg]; simp [go_sem]
  · intro f' hf'; simp [Target.leads] at hf'; subst hf'; exact hFg
  · simp [invoke, go_sem, eg]
  refine (hseq (D + 1) (fun pre W => (W.heap[D + 1]? = some (.loop (rec .ready none)) ∧ W.heap[D]? = some (.deferred (some []))) ∧ I pre W)
    (fun pre W => ∃ c, (W.heap[D + 1]? = some (.loop (rec .done (some c))) ∧ W.heap[D]? = some (.deferred (some []))) ∧ Ix c pre W) W1 rB rS
    (fun s A B hs st => ⟨⟨hSt A B st _ _ (.inr rfl) hs.1.1 rfl, hSt A B st _ _ (.inl rfl) hs.1.2 rfl⟩, hIs s A B hs.2 st⟩)
    (fun s A B ⟨c, hs⟩ st => ⟨c, ⟨hSt A B st _ _ (.inr rfl) hs.1.1 rfl, hSt A B st _ _ (.inl rfl) hs.1.2 rfl⟩, hIxs c s A B hs.2 st⟩) ?_ ⟨⟨rL, rD⟩, rI⟩).mono ?_
  · -- a round
    rintro pre x A ⟨⟨gL, gD⟩, gI⟩ hok
    have hy := run_yield (P := P) (args := encs x) gL (by rw [hrec]; exact hps x)
    have r1 : (rec .ready none).fn = fn := by rw [hrec]
    have r2 : (rec .ready none).params = ps := by rw [hrec]
    have r3 : (rec .ready none).tmps = a.tmps := by rw [hrec]
    have r4 : (rec .ready none).assign = assign := by rw [hrec]
    have r5 : (rec .ready none).body = body := by rw [hrec]
    rw [r1, r2, r3, r4, r5] at hy
    refine ⟨_, _, _, _, hy, roundIn_of_wpIn hfn ?_⟩
    refine hassign (D + 1) x A _ ⟨_, run_beginRound gL (by rw [hrec]), ?_⟩
    rw [recEq]
    have bL := put A .busy none _ gL
    have bD := putD A .busy none gD
    have bK := hKb A (D + 1) _ (.loop (rec .busy none)) (.inr rfl) gL rfl
    have bI := hI.putObj (.loop (rec .busy none)) gI (by omega) gL rfl
    generalize A.putObj (D + 1) (.loop (rec .busy none)) = A2 at *
    refine wpIn_mono (hbody (D + 1) pre x A2 bI hok) fun e a3 B hp => ?_
    -- the round's end, at whatever jump
    have fin : ∀ (jump : Option Code) (st : LoopState), st = (if jump.isNone then LoopState.ready else .done) → KeepsFrom D A2 B → Kp A2 B → (Instr.endRound (D + 1) jump).run P B = .ok (.bool jump.isNone) (B.putObj (D + 1) (.loop (rec st jump))) ∧ B.heap[D + 1]? = some (.loop (rec .busy none)) ∧ B.heap[D]? = some (.deferred (some [])) ∧ Kp A (B.putObj (D + 1) (.loop (rec st jump))) := fun jump st est kf kp => by
      have cL := kf.same _ _ (by omega) bL rfl
      have cD := kf.same _ _ (Nat.le_refl _) bD rfl
      refine ⟨?_, cL, cD, hKt (hKt bK kp) (hKb B (D + 1) _ _ (.inr rfl) cL rfl)⟩
      have q := run_endRound (P := P) jump cL
      rw [est]
      rw [hrec] at q ⊢
      exact q
    cases e with
    | normal =>
      obtain ⟨⟨kf, kp⟩, hi⟩ := hp
      obtain ⟨q, cL, cD, ck⟩ := fin none .ready rfl kf kp
      exact ⟨_, _, q, ck, .inl ⟨rfl, ⟨put _ .ready none _ cL, putD _ .ready none cD⟩, hI.putObj _ hi (by omega) cL rfl⟩⟩
    | ret =>
      obtain ⟨⟨kf, kp⟩, hi⟩ := hp
      obtain ⟨q, cL, cD, ck⟩ := fin (some .ret) .done rfl kf kp
      exact ⟨_, _, q, ck, .inr ⟨rfl, _, ⟨put _ .done (some .ret) _ cL, putD _ .done (some .ret) cD⟩, (hIx _).putObj _ hi (by omega) cL rfl⟩⟩
    | exit i =>
      obtain ⟨⟨kf, kp⟩, hi⟩ := hp
      obtain ⟨q, cL, cD, ck⟩ := fin (some (.exit i)) .done rfl kf kp
      exact ⟨_, _, q, ck, .inr ⟨rfl, _, ⟨put _ .done (some (.exit i)) _ cL, putD _ .done (some (.exit i)) cD⟩, (hIx _).putObj _ hi (by omega) cL rfl⟩⟩
    | goto t =>
      obtain ⟨⟨kf, kp⟩, hi⟩ := hp
      obtain ⟨q, cL, cD, ck⟩ := fin (some (.goto t)) .done rfl kf kp
      exact ⟨_, _, q, ck, .inr ⟨rfl, _, ⟨put _ .done (some (.goto t)) _ cL, putD _ .done (some (.goto t)) cD⟩, (hIx _).putObj _ hi (by omega) cL rfl⟩⟩
    | panic ch => exact hp.elim
    | outgrown => exact hp.elim
  · -- behind the iterator
    rintro e B ⟨⟨v, rfl⟩, (⟨xs, s, ⟨⟨gL, gD⟩, gI⟩⟩ | ⟨xs, s, c, ⟨⟨gL, gD⟩, gI⟩⟩)⟩
    · have q : (Instr.endLoop (D + 1)).run P B = .ok none (B.putObj (D + 1) (.loop (rec .exhausted none))) := by
        have q := run_endLoop (P := P) gL (by rw [hrec]; simp)
        rw [hrec] at q ⊢; exact q
      exact ⟨none, _, q, hdone D xs _ (Nat.le_refl _) (hS _ _ _ _ _ s (.inr rfl) gL rfl) (hI.putObj _ gI (by omega) gL rfl) (putD _ _ _ gD)⟩
    · have q : (Instr.endLoop (D + 1)).run P B = .ok (some c) (B.putObj (D + 1) (.loop (rec .exhausted (some c)))) := by
        have q := run_endLoop (P := P) gL (by rw [hrec]; simp)
        rw [hrec] at q ⊢; exact q
      exact ⟨some c, _, q, hstop D c xs _ (Nat.le_refl _) (hSp _ _ _ _ _ s (.inr rfl) gL rfl) ((hIx c).putObj _ gI (by omega) gL rfl) (putD _ _ _ gD)⟩
theorem wpIn_rangeU {α : Type} {g : Operand} {ps : Array Tmp} {assign body : Code} {Q : Exit → Act → World → Prop} {a : Act} {w : World}
    (hro : F.round = none) (h1 : 1 ≤ n) {gf : Nat} {lb : Array Value} (hg : a.eval g = .func (.func gf) #[] lb) (hFg : F.fn gf) (eg : ∀ args w, (callFunc gf args).run P w = .ok (.enter gf args) w)
    {encs : α → Array Value} {St Kp : World → World → Prop} {S Sp : List α → World → Prop} {ok : List α → α → Prop} {w0 : World} (hseq : SeqT F (n - 1) P gf lb encs St Kp S Sp ok w0)
    (hKt : ∀ {A B C : World}, Kp A B → Kp B C → Kp A C) (hKb : ∀ (W : World) (l : Nat) (o o' : Obj), l = w.heap.size ∨ l = w.heap.size + 1 → W.heap[l]? = some o → o.isCells = false → Kp W (W.putObj l o'))
    (hSt : ∀ A B, St A B → ∀ (k : Nat) (o : Obj), k = w.heap.size ∨ k = w.heap.size + 1 → A.heap[k]? = some o → o.isCells = false → B.heap[k]? = some o)
    (hS : ∀ xs (W : World) (l : Nat) (o o' : Obj), S xs W → l = w.heap.size ∨ l = w.heap.size + 1 → W.heap[l]? = some o → o.isCells = false → S xs (W.putObj l o'))
    (hSp : ∀ xs (W : World) (l : Nat) (o o' : Obj), Sp xs W → l = w.heap.size ∨ l = w.heap.size + 1 → W.heap[l]? = some o → o.isCells = false → Sp xs (W.putObj l o'))
    (hb0 : Below w0.heap.size w0 w) (hps : ∀ x, (encs x).size = ps.size)
    (I : List α → World → Prop) (Ix : Code → List α → World → Prop) (hI : OwnFrom w.heap.size I) (hIx : ∀ c, OwnFrom w.heap.size (Ix c))
    (hIs : ∀ s A B, I s A → St A B → I s B) (hIxs : ∀ c s A B, Ix c s A → St A B → Ix c s B) (h0 : I [] w) (a₁ : α → Act)
    (hassign : ∀ (l : Nat) (x : α) (W : World) (K : Act → World → Prop), K (a₁ x) W →
      assign.wpIn (F.inRound l) (n - 1 - 1) P (Exit.then K (fun _ _ _ => False)) { tmps := (ps.zip (encs x)).foldl (fun t (p, v) => t.setIfInBounds p v) a.tmps, defers := [] } W)
    (hbody : ∀ (l : Nat) (pre : List α) (x : α) (W : World), I pre W → ok pre x → body.wpIn (F.inRound l) (n - 1 - 1) P (endsT w.heap.size Kp I Ix (pre ++ [x]) W) (a₁ x) W)
    (hdone : ∀ (D : Nat) (xs : List α) (W : World), w.heap.size ≤ D → S xs W → I xs W → W.heap[D]? = some (.deferred (some [])) → Q .normal { a with defers := { target := .collected D, args := #[] } :: a.defers } W)
    (hstop : ∀ (D : Nat) (c : Code) (pre : List α) (W : World), w.heap.size ≤ D → Sp pre W → Ix c pre W → W.heap[D]? = some (.deferred (some [])) → c.wpIn F n P Q { a with defers := { target := .collected D, args := #[] } :: a.defers } W) :
    (Code.rangeFunc g ps assign body).wpIn F n P Q a w :=
  wpIn_rangeV hro h1 hg hFg eg (fun l J Jx W hW _ => hseq l J Jx W hW) hKt hKb hSt hS hSp hb0 hps I Ix hI hIx hIs hIxs h0 a₁ hassign hbody hdone hstop
end Go.Proofs.YtppmicepkjhfeaaGreat
