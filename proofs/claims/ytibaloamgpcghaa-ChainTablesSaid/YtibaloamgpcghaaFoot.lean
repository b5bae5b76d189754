/-
  Two sides in one memory: the blocks of the one (its foot), and lists of spaces that lie beside them. No program in sight.
-/
import Derived.Test.YtibaloamgpcghaaPut
namespace Go.Proofs.Ytibaloamgpcghaa
open Go.RowKit
set_option linter.unusedVariables false

/-- What was there is as it was, the blocks of F aside. -/
structure Keeps (F : Nat → Prop) (w w' : World) : Prop where
  os : w'.os = w.os
  tape : w'.tape = w.tape
  output : w'.output = w.output
  size : w.heap.size ≤ w'.heap.size
  block : ∀ k, k < w.heap.size → ¬ F k → w'.heap[k]? = w.heap[k]?
theorem Keeps.refl (F : Nat → Prop) (w : World) : Keeps F w w := ⟨rfl, rfl, rfl, Nat.le_refl _, fun _ _ _ => rfl⟩
theorem Keeps.of {F : Nat → Prop} {w w' : World} (h : Below w.heap.size w w') : Keeps F w w' := ⟨h.os, h.tape, h.output, h.size, fun k hk _ => h.block k hk⟩
/-- the second one's foot may be greater by blocks that are new -/
theorem Keeps.trans {F F' : Nat → Prop} {a b c : World} (h : Keeps F a b) (k : Keeps F' b c) (hF : ∀ j, j < a.heap.size → F' j → F j) : Keeps F a c :=
  ⟨k.os.trans h.os, k.tape.trans h.tape, k.output.trans h.output, Nat.le_trans h.size k.size, fun j hj hf => (k.block j (Nat.lt_of_lt_of_le hj h.size) (fun q => hf (hF j hj q))).trans (h.block j hj hf)⟩
theorem Keeps.below {F : Nat → Prop} {w w' : World} {B : Nat} (h : Keeps F w w') (hB : B ≤ w.heap.size) (hF : ∀ j, F j → B ≤ j) : Below B w w' :=
  ⟨h.os, h.tape, h.output, h.size, fun k hk => h.block k (by omega) (fun q => by have := hF k q; omega)⟩
theorem Row.keeps {F : Nat → Prop} {w w' : World} {g n : Nat} {f : Nat → Value} (r : Row w g n f) (h : Keeps F w w') (hg : ¬ F g) : Row w' g n f :=
  ⟨Nat.lt_of_lt_of_le r.lt h.size, fun j hj => by rw [World.cell?_of_block (w := w) (h.block g r.lt hg)]; exact r.cell j hj, fun j => by rw [World.frozen?_of_block (w := w) (h.block g r.lt hg)]; exact r.free j⟩
theorem PRow.keeps {F : Nat → Prop} {w w' : World} {s a b : Nat} {v : Value} {h g : Int} (r : PRow w s v a b h g) (k : Keeps F w w') (hs : ¬ F s) : PRow w' s v a b h g := Row.keeps r k hs

/-- A list of words beside the blocks of F. -/
def NF (w : World) (F : Nat → Prop) (v : Value) (L : List Nat) : Prop := ∃ a cap, v = .slice a L.length cap ∧ L.length ≤ cap ∧ (a = none → cap = 0) ∧ (L.length = 0 ∨ ∃ b off, a = some ⟨b, off, none⟩ ∧ ¬ F b ∧ b < w.heap.size ∧ ∀ i, i < L.length → w.cell? ⟨b, off + i, none⟩ = some (pw (L.getD i 0)))
theorem NF.nl {w : World} {F : Nat → Prop} {v : Value} {L : List Nat} (h : NF w F v L) : NL pw w v L := by
  obtain ⟨a, cap, rfl, hcap, hnil, h⟩ := h
  refine ⟨a, cap, rfl, hcap, hnil, ?_⟩
  rcases h with h | ⟨b, off, rfl, _, hlt, hc⟩
  · exact .inl h
  · exact .inr ⟨b, off, rfl, hlt, hc⟩
theorem NF.keeps {w w' : World} {F F' : Nat → Prop} {v : Value} {L : List Nat} (h : NF w F v L) (k : Keeps F w w') (hF : ∀ j, j < w.heap.size → F' j → F j) : NF w' F' v L := by
  obtain ⟨a, cap, rfl, hcap, hnil, h⟩ := h
  refine ⟨a, cap, rfl, hcap, hnil, ?_⟩
  rcases h with h | ⟨b, off, rfl, hb, hlt, hc⟩
  · exact .inl h
  · exact .inr ⟨b, off, rfl, fun q => hb (hF b hlt q), Nat.lt_of_lt_of_le hlt k.size, fun i hi => (World.cell?_of_block (w := w) (w' := w') (a := ⟨b, off + i, none⟩) (k.block b hlt hb)).trans (hc i hi)⟩
theorem NB.nf {w : World} {F : Nat → Prop} {B : Nat} {v : Value} {L : List Nat} (h : NB pw w B v L) (hF : ∀ j, F j → j < B) : NF w F v L := by
  obtain ⟨a, cap, rfl, hcap, hnil, h⟩ := h
  refine ⟨a, cap, rfl, hcap, hnil, ?_⟩
  rcases h with h | ⟨b, off, rfl, hb, hlt, hc⟩
  · exact .inl h
  · exact .inr ⟨b, off, rfl, fun q => by have := hF b q; omega, hlt, hc⟩
/-- A list of spaces beside the blocks of F. -/
def SF (w : World) (F : Nat → Prop) (v : Value) (L : List Spc) : Prop := ∃ a cap U, v = .slice a L.length cap ∧ L.length ≤ cap ∧ (a = none → cap = 0) ∧ (L.length = 0 ∨ ∃ b off, a = some ⟨b, off, none⟩ ∧ ¬ F b ∧ b < w.heap.size ∧ (∀ j, j < L.length * 2 → w.cell? ⟨b, off + j, none⟩ = some (scell L U j)) ∧ ∀ i, i < L.length → NF w F (U i) (L.getD i (false, [])).2)
theorem SF.nil (w : World) (F : Nat → Prop) : SF w F (.slice none 0 0) [] := ⟨none, 0, fun _ => .slice none 0 0, rfl, Nat.le_refl _, fun _ => rfl, .inl rfl⟩
theorem SF.sl {w : World} {F : Nat → Prop} {v : Value} {L : List Spc} (h : SF w F v L) : SL w v L := by
  obtain ⟨a, cap, U, rfl, hcap, hnil, h⟩ := h
  refine ⟨a, cap, U, rfl, hcap, hnil, ?_⟩
  rcases h with h | ⟨b, off, rfl, _, hlt, hc, hw⟩
  · exact .inl h
  · exact .inr ⟨b, off, rfl, hlt, hc, fun i hi => (hw i hi).nl⟩
theorem SF.keeps {w w' : World} {F F' : Nat → Prop} {v : Value} {L : List Spc} (h : SF w F v L) (k : Keeps F w w') (hF : ∀ j, j < w.heap.size → F' j → F j) : SF w' F' v L := by
  obtain ⟨a, cap, U, rfl, hcap, hnil, h⟩ := h
  refine ⟨a, cap, U, rfl, hcap, hnil, ?_⟩
  rcases h with h | ⟨b, off, rfl, hb, hlt, hc, hw⟩
  · exact .inl h
  · exact .inr ⟨b, off, rfl, fun q => hb (hF b hlt q), Nat.lt_of_lt_of_le hlt k.size, fun j hj => (World.cell?_of_block (w := w) (w' := w') (a := ⟨b, off + j, none⟩) (k.block b hlt hb)).trans (hc j hj), fun i hi => (hw i hi).keeps k hF⟩
theorem SF.below {w w' : World} {F : Nat → Prop} {v : Value} {L : List Spc} (h : SF w F v L) (k : Below w.heap.size w w') : SF w' F v L := h.keeps (Keeps.of k) (fun _ _ q => q)
theorem SB.sf {w : World} {F : Nat → Prop} {B : Nat} {v : Value} {L : List Spc} (h : SB w B v L) (hF : ∀ j, F j → j < B) : SF w F v L := by
  obtain ⟨g, cap, U, rfl, hc, hg, r, hw⟩ := h
  exact ⟨_, cap, U, rfl, hc, (fun e => nomatch e), .inr ⟨g, 0, rfl, fun q => by have := hF g q; omega, r.lt, fun j hj => by rw [Nat.zero_add]; exact r.cell j hj, fun i hi => (hw i hi).nf hF⟩⟩

end Go.Proofs.Ytibaloamgpcghaa
