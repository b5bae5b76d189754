/-
  The library of all later seats, LibF: Ints, RangeT, SameI, Frame.
-/
import Derived.Test.YtppmicepkjhfeaaGreatLibA
import Derived.Test.YtppmicepkjhfeaaGreatLibE
import Derived.RangeFuncBox
import Derived.RangeFuncNested
import Derived.RangeFuncLeaves
import Derived.Deep.QuietTactic
import Derived.BigQuiet
import Derived.WalkSmall
import Derived.Deep.RegionHeld3
/-! Ints: Lists of integers of one's own, in memory beside the blocks that have a role. -/
namespace Go.Proofs.YtppmicepkjhfeaaGreat
open Go.RowKit
set_option linter.unusedVariables false

/-- an integer, as the program has it -/
abbrev pe (x : Nat) : Value := .int .i64 (x : Int)
theorem owns_slice {W : World} {base : Nat} {e : TypeId} {size : Nat} {v : Value} {k : Nat} {xs : List Value} (h : W.ownsRow base e size v k xs) : ∃ a cap, v = .slice a k cap := by
  rcases h.2 with ⟨rfl, h0⟩ | ⟨g, cap, _, rfl, _⟩
  · exact ⟨none, 0, by rw [h0]⟩
  · exact ⟨_, _, rfl⟩
theorem owns_base {W : World} {base n : Nat} {e : TypeId} {size : Nat} {v : Value} {k : Nat} {xs : List Value} (h : W.ownsRow base e size v k xs) (hn : n ≤ base) : W.ownsRow n e size v k xs := by
  refine ⟨h.1, ?_⟩
  rcases h.2 with h | ⟨g, cap, cur, rfl, hb, r⟩
  · exact .inl h
  · exact .inr ⟨g, cap, cur, rfl, Nat.le_trans hn hb, r⟩
theorem owns_apart {W : World} {base : Nat} {e : TypeId} {size : Nat} {v : Value} {k : Nat} {xs : List Value} (h : W.ownsRow base e size v k xs) {B : Nat} (hB : B < base) : some B ≠ v.ownBlock := by
  rcases h.2 with ⟨rfl, _⟩ | ⟨g, cap, cur, rfl, hb, _⟩
  · simp [Value.ownBlock]
  · simp [Value.ownBlock]; omega
theorem owns_keeps {F : Nat → Prop} {W W' : World} {base : Nat} {e : TypeId} {size : Nat} {v : Value} {k : Nat} {xs : List Value} (h : W.ownsRow base e size v k xs) (kp : Keeps F W W') (hF : ∀ j, F j → j < base) : W'.ownsRow base e size v k xs := by
  refine ⟨h.1, ?_⟩
  rcases h.2 with h | ⟨g, cap, cur, rfl, hb0, hg, r⟩
  · exact .inl h
  · exact .inr ⟨g, cap, cur, rfl, hb0, (kp.block g (Array.getElem?_eq_some_iff.1 hg).1 (fun q => by have := hF g q; omega)).trans hg, r⟩
theorem Boxed.keeps {F : Nat → Prop} {W W' : World} {B : Nat} {t : TypeId} {v : Value} (h : Boxed W B t v) (kp : Keeps F W W') (hF : ¬ F B) : Boxed W' B t v := (kp.block B h.lt hF).trans h
theorem Boxed.row {W : World} {B : Nat} {t : TypeId} {v : Value} (h : Boxed W B t v) : Row W B 1 (fun _ => v) := ⟨h.lt, fun j hj => by rw [show j = 0 by omega]; exact h.cell, fun j => by simp [World.frozen?, show W.heap[B]? = _ from h]⟩
/-- what was there is as it was, the blocks with a role aside, whatever the loop's own book-keeping -/
theorem ownFrom_tr {β : Type} {B : Nat} {R : Nat → Nat} {w : World} (hB : w.heap.size ≤ B) : OwnFrom B (fun (_ : β) W => TR R R w W) := fun s X Y row hs hg hr =>
  ⟨⟨hg.os.trans hs.keeps.os, hg.tape.trans hs.keeps.tape, hg.output.trans hs.keeps.output, Nat.le_trans hs.keeps.size hg.size, fun k hk hf => (hg.block k (Nat.lt_of_lt_of_le hk hs.keeps.size) (fun e => by have := (hr k e.symm).1; omega)).trans (hs.keeps.block k hk hf)⟩, fun _ _ h => h⟩
theorem TR.belowN {R R' : Nat → Nat} {w w1 w2 : World} {n : Nat} (t : TR R R' w w1) (k : Below n w1 w2) (hn : w.heap.size ≤ n) : TR R R' w w2 :=
  ⟨⟨k.os.trans t.keeps.os, k.tape.trans t.keeps.tape, k.output.trans t.keeps.output, Nat.le_trans t.keeps.size k.size, fun j hj hf => (k.block j (by omega)).trans (t.keeps.block j hj hf)⟩, t.old⟩

/-- The list of integers that a slice holds, in blocks without a role. -/
def NI (w : World) (R : Nat → Nat) (v : Value) (L : List Nat) : Prop := ∃ a cap, v = .slice a L.length cap ∧ L.length ≤ cap ∧ (a = none → cap = 0) ∧ (L.length = 0 ∨ ∃ b off, a = some ⟨b, off, none⟩ ∧ R b = 0 ∧ b < w.heap.size ∧ ∀ i, i < L.length → w.cell? ⟨b, off + i, none⟩ = some (pe (L.getD i 0)))
theorem NI.nl {w : World} {R : Nat → Nat} {v : Value} {L : List Nat} (h : NI w R v L) : NL pe w v L := by
  obtain ⟨a, cap, rfl, hcap, hnil, h⟩ := h
  refine ⟨a, cap, rfl, hcap, hnil, ?_⟩
  rcases h with h | ⟨b, off, rfl, _, hlt, hc⟩
  · exact .inl h
  · exact .inr ⟨b, off, rfl, hlt, hc⟩
theorem NI.tr {w w' : World} {R R' : Nat → Nat} {v : Value} {L : List Nat} (h : NI w R v L) (t : TR R R' w w') : NI w' R' v L := by
  obtain ⟨a, cap, rfl, hcap, hnil, h⟩ := h
  refine ⟨a, cap, rfl, hcap, hnil, ?_⟩
  rcases h with h | ⟨b, off, rfl, hr, hlt, hc⟩
  · exact .inl h
  · exact .inr ⟨b, off, rfl, Decidable.byContradiction fun q => (t.old b hlt q) hr, Nat.lt_of_lt_of_le hlt t.keeps.size, fun i hi => (World.cell?_of_block (w := w) (w' := w') (a := ⟨b, off + i, none⟩) (t.keeps.block b hlt (fun q => q hr))).trans (hc i hi)⟩
theorem NI.nil (w : World) (R : Nat → Nat) : NI w R (.slice none 0 0) [] := ⟨none, 0, rfl, Nat.le_refl _, fun _ => rfl, .inl rfl⟩
theorem NI.slice {w : World} {R : Nat → Nat} {v : Value} {L : List Nat} (h : NI w R v L) : ∃ a cap, v = .slice a L.length cap := by
  obtain ⟨a, cap, e, _⟩ := h
  exact ⟨a, cap, e⟩
theorem NI.of_owns {w : World} {R : Nat → Nat} {base : Nat} {v : Value} {L : List Nat} (h : w.ownsRow base 3 1 v L.length (L.map pe)) (hR : ∀ j, base ≤ j → R j = 0) : NI w R v L := by
  rcases h.2 with ⟨rfl, h0⟩ | ⟨g, cap, cur, rfl, hb, hg, hn, hm, hs, ht⟩
  · rw [show L = [] from List.length_eq_zero_iff.1 h0]; exact NI.nil w R
  · refine ⟨_, cap, rfl, hn, (fun e => nomatch e), .inr ⟨g, 0, rfl, hR g hb, (Array.getElem?_eq_some_iff.1 hg).1, fun i hi => ?_⟩⟩
    rw [Nat.zero_add, h.cellAt i (by omega)]
    simp [List.getD, List.getElem?_eq_getElem hi]
end Go.Proofs.YtppmicepkjhfeaaGreat

/-! RangeT: A range over an iterator that takes steps of its own in memory between two rounds: a contract for the iterator, a law for the loop. -/
namespace Go.Proofs.YtppmicepkjhfeaaGreat
open Go.RowKit
set_option linter.unusedVariables false

/-- What an iterator promises. `St`: its own steps; `Kp`: what a round leaves as it needs it; `S xs`: all of xs have come; `Sp xs`: xs have come, the last round said 'no more'. -/
def SeqT {α : Type} (F : Fence) (n : Nat) (P : Program) (g : Nat) (lb : Array Value) (encs : α → Array Value) (St Kp : World → World → Prop) (S Sp : List α → World → Prop) (ok : List α → α → Prop) (w0 : World) : Prop :=
  ∀ (l : Nat) (J Jx : List α → World → Prop) (W : World), Below w0.heap.size w0 W →
    (∀ s A B, J s A → St A B → J s B) → (∀ s A B, Jx s A → St A B → Jx s B) →
    (∀ pre x A, J pre A → ok pre x → YieldAt F (n - 1) P l (encs x) A fun e B => Kp A B ∧ (e = .returned (.bool true) ∧ J (pre ++ [x]) B ∨ e = .returned (.bool false) ∧ Jx (pre ++ [x]) B)) →
    J [] W →
    CallsIn F n P g (#[.func (.yield l) #[] #[]] ++ lb) W fun e B => (∃ v, e = .returned v) ∧ ((∃ xs, S xs B ∧ J xs B) ∨ (∃ xs, Sp xs B ∧ Jx xs B))

/-- how a round's body may be left -/
def endsT {α : Type} (D : Nat) (Kp : World → World → Prop) (I : List α → World → Prop) (Ix : Code → List α → World → Prop) (xs : List α) (W : World) : Exit → Act → World → Prop
  | .normal, _, B => (KeepsFrom D W B ∧ Kp W B) ∧ I xs B
  | .ret, _, B => (KeepsFrom D W B ∧ Kp W B) ∧ Ix .ret xs B
  | .exit i, _, B => (KeepsFrom D W B ∧ Kp W B) ∧ Ix (.exit i) xs B
  | .goto t, _, B => (KeepsFrom D W B ∧ Kp W B) ∧ Ix (.goto t) xs B
  | .panic _, _, _ => False
  | .outgrown, _, _ => False

variable {F : Fence} {n : Nat} {P : Program}

theorem wpIn_rangeT {α : Type} {g : Operand} {ps : Array Tmp} {assign body : Code} {Q : Exit → Act → World → Prop} {a : Act} {w : World}
    (hro : F.round = none) (h1 : 1 ≤ n) {gf : Nat} {lb : Array Value} (hg : a.eval g = .func (.func gf) #[] lb) (hFg : F.fn gf) (eg : ∀ args w, (callFunc gf args).run P w = .ok (.enter gf args) w)
    {encs : α → Array Value} {St Kp : World → World → Prop} {S Sp : List α → World → Prop} {ok : List α → α → Prop} {w0 : World} (hseq : SeqT F (n - 1) P gf lb encs St Kp S Sp ok w0)
    (hKt : ∀ {A B C : World}, Kp A B → Kp B C → Kp A C) (hKb : ∀ (W : World) (l : Nat) (o o' : Obj), w.heap.size ≤ l → W.heap[l]? = some o → o.isCells = false → Kp W (W.putObj l o'))
    (hSt : ∀ A B, St A B → ∀ (k : Nat) (o : Obj), w.heap.size ≤ k → A.heap[k]? = some o → o.isCells = false → B.heap[k]? = some o)
    (hS : ∀ xs (W : World) (l : Nat) (o o' : Obj), S xs W → w.heap.size ≤ l → W.heap[l]? = some o → o.isCells = false → S xs (W.putObj l o'))
    (hSp : ∀ xs (W : World) (l : Nat) (o o' : Obj), Sp xs W → w.heap.size ≤ l → W.heap[l]? = some o → o.isCells = false → Sp xs (W.putObj l o'))
    (hb0 : Below w0.heap.size w0 w) (hps : ∀ x, (encs x).size = ps.size)
    (I : List α → World → Prop) (Ix : Code → List α → World → Prop) (hI : OwnFrom w.heap.size I) (hIx : ∀ c, OwnFrom w.heap.size (Ix c))
    (hIs : ∀ s A B, I s A → St A B → I s B) (hIxs : ∀ c s A B, Ix c s A → St A B → Ix c s B) (h0 : I [] w) (a₁ : α → Act)
    (hassign : ∀ (l : Nat) (x : α) (W : World) (K : Act → World → Prop), K (a₁ x) W →
      assign.wpIn (F.inRound l) (n - 1 - 1) P (Exit.then K (fun _ _ _ => False)) { tmps := (ps.zip (encs x)).foldl (fun t (p, v) => t.setIfInBounds p v) a.tmps, defers := [] } W)
    (hbody : ∀ (l : Nat) (pre : List α) (x : α) (W : World), I pre W → ok pre x → body.wpIn (F.inRound l) (n - 1 - 1) P (endsT w.heap.size Kp I Ix (pre ++ [x]) W) (a₁ x) W)
    (hdone : ∀ (D : Nat) (xs : List α) (W : World), w.heap.size ≤ D → S xs W → I xs W → W.heap[D]? = some (.deferred (some [])) → Q .normal { a with defers := { target := .collected D, args := #[] } :: a.defers } W)
    (hstop : ∀ (D : Nat) (c : Code) (pre : List α) (W : World), w.heap.size ≤ D → Sp pre W → Ix c pre W → W.heap[D]? = some (.deferred (some [])) → c.wpIn F n P Q { a with defers := { target := .collected D, args := #[] } :: a.defers } W) :
    (Code.rangeFunc g ps assign body).wpIn F n P Q a w := by
  refine wpIn_rangeFunc fun fn hfn => ?_
  rw [hro]
  obtain ⟨D, hD⟩ : ∃ D, D = w.heap.size := ⟨_, rfl⟩
  obtain ⟨rec, hrec⟩ : ∃ rec : LoopState → Option Code → Loop, rec = fun st pe => { state := st, pending := pe, fn, tmps := a.tmps, params := ps, assign, body, defers := D } := ⟨_, rfl⟩
  obtain ⟨W1, hW1⟩ : ∃ W1, W1 = (w.alloc (.deferred (some []))).alloc (.loop (rec .ready none)) := ⟨_, rfl⟩
  -- the two blocks of the loop's own book-keeping, and that a step aside leaves them
  have rL : W1.heap[D + 1]? = some (.loop (rec .ready none)) := by
    rw [hW1, hD]
    have q := World.alloc_heap_new (w.alloc (.deferred (some []))) (.loop (rec .ready none))
    rwa [World.size_alloc] at q
  have rD : W1.heap[D]? = some (.deferred (some [])) := by
    rw [hW1, hD]; exact (Below.heap_alloc _ _ _ (by simp)).trans (World.alloc_heap_new w _)
  have rI : I [] W1 := by rw [hW1]; exact hI.alloc _ (hI.alloc _ h0)
  have rB : Below w0.heap.size w0 W1 := by
    have q : Below w.heap.size w W1 := by rw [hW1]; exact ((Below.refl _ w).alloc (Nat.le_refl _) _).alloc (by simp) _
    exact hb0.trans (q.mono hb0.size)
  rw [← hD] at hKb hSt hS hSp hI hIx hbody hdone hstop
  have put : ∀ (W : World) (st : LoopState) (pe : Option Code) (o : Obj), W.heap[D + 1]? = some o → (W.putObj (D + 1) (.loop (rec st pe))).heap[D + 1]? = some (.loop (rec st pe)) := fun W st pe o h => World.putObj_heap_same (Array.getElem?_eq_some_iff.1 h).1
  have putD : ∀ (W : World) (st : LoopState) (pe : Option Code), W.heap[D]? = some (.deferred (some [])) → (W.putObj (D + 1) (.loop (rec st pe))).heap[D]? = some (.deferred (some [])) := fun W st pe h => (World.putObj_heap_other (by omega)).trans h
  have recEq : ∀ st pe, ({ rec st pe with state := .busy } : Loop) = rec .busy pe := fun st pe => by rw [hrec]
  refine ⟨D + 1, [{ target := .collected D, args := #[] }], W1, { target := .fn (.func gf) lb, args := #[.func (.yield (D + 1)) #[] #[]] }, W1, gf, #[.func (.yield (D + 1)) #[] #[]] ++ lb, W1, ?_, ?_, ?_, ?_, fun _ => h1, ?_⟩
  · rw [hW1, hrec, hD]; exact run_enterLoop_outer ..
  · simp only [resolve, hg]; simp [go_sem]
  · intro f' hf'; simp [Target.leads] at hf'; subst hf'; exact hFg
  · simp [invoke, go_sem, eg]
  refine (hseq (D + 1) (fun pre W => (W.heap[D + 1]? = some (.loop (rec .ready none)) ∧ W.heap[D]? = some (.deferred (some []))) ∧ I pre W)
    (fun pre W => ∃ c, (W.heap[D + 1]? = some (.loop (rec .done (some c))) ∧ W.heap[D]? = some (.deferred (some []))) ∧ Ix c pre W) W1 rB
    (fun s A B hs st => ⟨⟨hSt A B st _ _ (by omega) hs.1.1 rfl, hSt A B st _ _ (Nat.le_refl _) hs.1.2 rfl⟩, hIs s A B hs.2 st⟩)
    (fun s A B ⟨c, hs⟩ st => ⟨c, ⟨hSt A B st _ _ (by omega) hs.1.1 rfl, hSt A B st _ _ (Nat.le_refl _) hs.1.2 rfl⟩, hIxs c s A B hs.2 st⟩) ?_ ⟨⟨rL, rD⟩, rI⟩).mono ?_
  · -- a round
    rintro pre x A ⟨⟨gL, gD⟩, gI⟩ hok
    have hy := run_yield (P := P) (args := encs x) gL (by rw [hrec]; exact hps x)
    have r1 : (rec .ready none).fn = fn := by rw [hrec]
    have r2 : (rec .ready none).params = ps := by rw [hrec]
    have r3 : (rec .ready none).tmps = a.tmps := by rw [hrec]
    have r4 : (rec .ready none).assign = assign := by rw [hrec]
    have r5 : (rec .ready none).body = body := by rw [hrec]
    rw [r1, r2, r3, r4, r5] at hy
    refine ⟨_, _, _, _, hy, roundIn_of_wpIn hfn ?_⟩
    refine hassign (D + 1) x A _ ⟨_, run_beginRound gL (by rw [hrec]), ?_⟩
    rw [recEq]
    have bL := put A .busy none _ gL
    have bD := putD A .busy none gD
    have bK := hKb A (D + 1) _ (.loop (rec .busy none)) (by omega) gL rfl
    have bI := hI.putObj (.loop (rec .busy none)) gI (by omega) gL rfl
    generalize A.putObj (D + 1) (.loop (rec .busy none)) = A2 at *
    refine wpIn_mono (hbody (D + 1) pre x A2 bI hok) fun e a3 B hp => ?_
    -- the round's end, at whatever jump
    have fin : ∀ (jump : Option Code) (st : LoopState), st = (if jump.isNone then LoopState.ready else .done) → KeepsFrom D A2 B → Kp A2 B → (Instr.endRound (D + 1) jump).run P B = .ok (.bool jump.isNone) (B.putObj (D + 1) (.loop (rec st jump))) ∧ B.heap[D + 1]? = some (.loop (rec .busy none)) ∧ B.heap[D]? = some (.deferred (some [])) ∧ Kp A (B.putObj (D + 1) (.loop (rec st jump))) := fun jump st est kf kp => by
      have cL := kf.same _ _ (by omega) bL rfl
      have cD := kf.same _ _ (Nat.le_refl _) bD rfl
      refine ⟨?_, cL, cD, hKt (hKt bK kp) (hKb B (D + 1) _ _ (by omega) cL rfl)⟩
      have q := run_endRound (P := P) jump cL
      rw [est]
      rw [hrec] at q ⊢
      exact q
    cases e with
    | normal =>
      obtain ⟨⟨kf, kp⟩, hi⟩ := hp
      obtain ⟨q, cL, cD, ck⟩ := fin none .ready rfl kf kp
      exact ⟨_, _, q, ck, .inl ⟨rfl, ⟨put _ .ready none _ cL, putD _ .ready none cD⟩, hI.putObj _ hi (by omega) cL rfl⟩⟩
    | ret =>
      obtain ⟨⟨kf, kp⟩, hi⟩ := hp
      obtain ⟨q, cL, cD, ck⟩ := fin (some .ret) .done rfl kf kp
      exact ⟨_, _, q, ck, .inr ⟨rfl, _, ⟨put _ .done (some .ret) _ cL, putD _ .done (some .ret) cD⟩, (hIx _).putObj _ hi (by omega) cL rfl⟩⟩
    | exit i =>
      obtain ⟨⟨kf, kp⟩, hi⟩ := hp
      obtain ⟨q, cL, cD, ck⟩ := fin (some (.exit i)) .done rfl kf kp
      exact ⟨_, _, q, ck, .inr ⟨rfl, _, ⟨put _ .done (some (.exit i)) _ cL, putD _ .done (some (.exit i)) cD⟩, (hIx _).putObj _ hi (by omega) cL rfl⟩⟩
    | goto t =>
      obtain ⟨⟨kf, kp⟩, hi⟩ := hp
      obtain ⟨q, cL, cD, ck⟩ := fin (some (.goto t)) .done rfl kf kp
      exact ⟨_, _, q, ck, .inr ⟨rfl, _, ⟨put _ .done (some (.goto t)) _ cL, putD _ .done (some (.goto t)) cD⟩, (hIx _).putObj _ hi (by omega) cL rfl⟩⟩
    | panic ch => exact hp.elim
    | outgrown => exact hp.elim
  · -- behind the iterator
    rintro e B ⟨⟨v, rfl⟩, (⟨xs, s, ⟨⟨gL, gD⟩, gI⟩⟩ | ⟨xs, s, c, ⟨⟨gL, gD⟩, gI⟩⟩)⟩
    · have q : (Instr.endLoop (D + 1)).run P B = .ok none (B.putObj (D + 1) (.loop (rec .exhausted none))) := by
        have q := run_endLoop (P := P) gL (by rw [hrec]; simp)
        rw [hrec] at q ⊢; exact q
      exact ⟨none, _, q, hdone D xs _ (Nat.le_refl _) (hS _ _ _ _ _ s (by omega) gL rfl) (hI.putObj _ gI (by omega) gL rfl) (putD _ _ _ gD)⟩
    · have q : (Instr.endLoop (D + 1)).run P B = .ok (some c) (B.putObj (D + 1) (.loop (rec .exhausted (some c)))) := by
        have q := run_endLoop (P := P) gL (by rw [hrec]; simp)
        rw [hrec] at q ⊢; exact q
      exact ⟨some c, _, q, hstop D c xs _ (Nat.le_refl _) (hSp _ _ _ _ _ s (by omega) gL rfl) ((hIx c).putObj _ gI (by omega) gL rfl) (putD _ _ _ gD)⟩
/-- the loop's book-keeping lies behind n₀ -/
theorem belowT_b {n₀ B : Nat} (hn : n₀ ≤ B) (W : World) (l : Nat) (o o' : Obj) (hl : B ≤ l) (h : W.heap[l]? = some o) (_ : o.isCells = false) : Below n₀ W (W.putObj l o') :=
  (Below.refl n₀ W).grown (grownBy_putObj' W l o') (by have := (Array.getElem?_eq_some_iff.1 h).1; omega) (fun k e => by cases e; omega)
end Go.Proofs.YtppmicepkjhfeaaGreat

/-! SameI: haymowref02.Same of two lists of the same integers. -/
namespace Go.Proofs.YtppmicepkjhfeaaGreat
open Go.RowKit
set_option linter.unusedVariables false

end Go.Proofs.YtppmicepkjhfeaaGreat

/-! Frame: A piece of code that ends in one frame, whatever order its operations take: the walk goes on once. -/
namespace Go.Proofs.YtppmicepkjhfeaaGreat
open Go.RowKit
set_option linter.unusedVariables false

/-- it ends normally, in that frame, in a world of which S holds -/
def Ends (A : Act) (S : World → Prop) : Exit → Act → World → Prop
  | .normal, a, w => a = A ∧ S w
  | _, _, _ => False
theorem wp_ends {P : Program} {c : Code} {Q : Exit → Act → World → Prop} {a : Act} {w : World} {A : Act} (S : World → Prop) (h : c.wp P (Ends A S) a w) (k : ∀ w', S w' → Q .normal A w') : c.wp P Q a w :=
  Code.wp_mono (fun e a' w' q => by
    cases e with
    | normal => obtain ⟨rfl, s⟩ := q; exact k w' s
    | _ => exact q.elim) h
end Go.Proofs.YtppmicepkjhfeaaGreat

