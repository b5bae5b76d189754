/-
  Lists of integers of one's own, in memory beside the blocks that have a role.
-/
import Derived.Test.YtibaloamgpcghaaNL
import Derived.Test.YtibaloamgpcghaaMemX
import Derived.RangeFuncBox
namespace Go.Proofs.Ytibaloamgpcghaa
open Go.RowKit
set_option linter.unusedVariables false

/-- an integer, as the program has it -/
abbrev pe (x : Nat) : Value := .int .i64 (x : Int)
theorem owns_slice {W : World} {base : Nat} {e : TypeId} {size : Nat} {v : Value} {k : Nat} {xs : List Value} (h : W.ownsRow base e size v k xs) : ∃ a cap, v = .slice a k cap := by
  rcases h.2 with ⟨rfl, h0⟩ | ⟨g, cap, _, rfl, _⟩
  · exact ⟨none, 0, by rw [h0]⟩
  · exact ⟨_, _, rfl⟩
theorem owns_base {W : World} {base n : Nat} {e : TypeId} {size : Nat} {v : Value} {k : Nat} {xs : List Value} (h : W.ownsRow base e size v k xs) (hn : n ≤ base) : W.ownsRow n e size v k xs := by
  refine ⟨h.1, ?_⟩
  rcases h.2 with h | ⟨g, cap, cur, rfl, hb, r⟩
  · exact .inl h
  · exact .inr ⟨g, cap, cur, rfl, Nat.le_trans hn hb, r⟩
theorem owns_apart {W : World} {base : Nat} {e : TypeId} {size : Nat} {v : Value} {k : Nat} {xs : List Value} (h : W.ownsRow base e size v k xs) {B : Nat} (hB : B < base) : some B ≠ v.ownBlock := by
  rcases h.2 with ⟨rfl, _⟩ | ⟨g, cap, cur, rfl, hb, _⟩
  · simp [Value.ownBlock]
  · simp [Value.ownBlock]; omega
theorem owns_keeps {F : Nat → Prop} {W W' : World} {base : Nat} {e : TypeId} {size : Nat} {v : Value} {k : Nat} {xs : List Value} (h : W.ownsRow base e size v k xs) (kp : Keeps F W W') (hF : ∀ j, F j → j < base) : W'.ownsRow base e size v k xs := by
  refine ⟨h.1, ?_⟩
  rcases h.2 with h | ⟨g, cap, cur, rfl, hb0, hg, r⟩
  · exact .inl h
  · exact .inr ⟨g, cap, cur, rfl, hb0, (kp.block g (Array.getElem?_eq_some_iff.1 hg).1 (fun q => by have := hF g q; omega)).trans hg, r⟩
theorem Boxed.keeps {F : Nat → Prop} {W W' : World} {B : Nat} {t : TypeId} {v : Value} (h : Boxed W B t v) (kp : Keeps F W W') (hF : ¬ F B) : Boxed W' B t v := (kp.block B h.lt hF).trans h
theorem Boxed.row {W : World} {B : Nat} {t : TypeId} {v : Value} (h : Boxed W B t v) : Row W B 1 (fun _ => v) := ⟨h.lt, fun j hj => by rw [show j = 0 by omega]; exact h.cell, fun j => by simp [World.frozen?, show W.heap[B]? = _ from h]⟩
/-- what was there is as it was, the blocks with a role aside, whatever the loop's own book-keeping -/
theorem ownFrom_tr {β : Type} {B : Nat} {R : Nat → Nat} {w : World} (hB : w.heap.size ≤ B) : OwnFrom B (fun (_ : β) W => TR R R w W) := fun s X Y row hs hg hr =>
  ⟨⟨hg.os.trans hs.keeps.os, hg.tape.trans hs.keeps.tape, hg.output.trans hs.keeps.output, Nat.le_trans hs.keeps.size hg.size, fun k hk hf => (hg.block k (Nat.lt_of_lt_of_le hk hs.keeps.size) (fun e => by have := (hr k e.symm).1; omega)).trans (hs.keeps.block k hk hf)⟩, fun _ _ h => h⟩
theorem TR.belowN {R R' : Nat → Nat} {w w1 w2 : World} {n : Nat} (t : TR R R' w w1) (k : Below n w1 w2) (hn : w.heap.size ≤ n) : TR R R' w w2 :=
  ⟨⟨k.os.trans t.keeps.os, k.tape.trans t.keeps.tape, k.output.trans t.keeps.output, Nat.le_trans t.keeps.size k.size, fun j hj hf => (k.block j (by omega)).trans (t.keeps.block j hj hf)⟩, t.old⟩

/-- The list of integers that a slice holds, in blocks without a role. -/
def NI (w : World) (R : Nat → Nat) (v : Value) (L : List Nat) : Prop := ∃ a cap, v = .slice a L.length cap ∧ L.length ≤ cap ∧ (a = none → cap = 0) ∧ (L.length = 0 ∨ ∃ b off, a = some ⟨b, off, none⟩ ∧ R b = 0 ∧ b < w.heap.size ∧ ∀ i, i < L.length → w.cell? ⟨b, off + i, none⟩ = some (pe (L.getD i 0)))
theorem NI.nl {w : World} {R : Nat → Nat} {v : Value} {L : List Nat} (h : NI w R v L) : NL pe w v L := by
  obtain ⟨a, cap, rfl, hcap, hnil, h⟩ := h
  refine ⟨a, cap, rfl, hcap, hnil, ?_⟩
  rcases h with h | ⟨b, off, rfl, _, hlt, hc⟩
  · exact .inl h
  · exact .inr ⟨b, off, rfl, hlt, hc⟩
theorem NI.tr {w w' : World} {R R' : Nat → Nat} {v : Value} {L : List Nat} (h : NI w R v L) (t : TR R R' w w') : NI w' R' v L := by
  obtain ⟨a, cap, rfl, hcap, hnil, h⟩ := h
  refine ⟨a, cap, rfl, hcap, hnil, ?_⟩
  rcases h with h | ⟨b, off, rfl, hr, hlt, hc⟩
  · exact .inl h
  · exact .inr ⟨b, off, rfl, Decidable.byContradiction fun q => (t.old b hlt q) hr, Nat.lt_of_lt_of_le hlt t.keeps.size, fun i hi => (World.cell?_of_block (w := w) (w' := w') (a := ⟨b, off + i, none⟩) (t.keeps.block b hlt (fun q => q hr))).trans (hc i hi)⟩
theorem NI.nil (w : World) (R : Nat → Nat) : NI w R (.slice none 0 0) [] := ⟨none, 0, rfl, Nat.le_refl _, fun _ => rfl, .inl rfl⟩
theorem NI.slice {w : World} {R : Nat → Nat} {v : Value} {L : List Nat} (h : NI w R v L) : ∃ a cap, v = .slice a L.length cap := by
  obtain ⟨a, cap, e, _⟩ := h
  exact ⟨a, cap, e⟩
theorem NI.of_owns {w : World} {R : Nat → Nat} {base : Nat} {v : Value} {L : List Nat} (h : w.ownsRow base 3 1 v L.length (L.map pe)) (hR : ∀ j, base ≤ j → R j = 0) : NI w R v L := by
  rcases h.2 with ⟨rfl, h0⟩ | ⟨g, cap, cur, rfl, hb, hg, hn, hm, hs, ht⟩
  · rw [show L = [] from List.length_eq_zero_iff.1 h0]; exact NI.nil w R
  · refine ⟨_, cap, rfl, hn, (fun e => nomatch e), .inr ⟨g, 0, rfl, hR g hb, (Array.getElem?_eq_some_iff.1 hg).1, fun i hi => ?_⟩⟩
    rw [Nat.zero_add, h.cellAt i (by omega)]
    simp [List.getD, List.getElem?_eq_getElem hi]
end Go.Proofs.Ytibaloamgpcghaa
