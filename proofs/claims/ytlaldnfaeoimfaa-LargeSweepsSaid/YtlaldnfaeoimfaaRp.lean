/-
  The roles of a Mem's blocks, and the own cells of what lies upon it (a Pool, a Semi ..).
-/
import Derived.Test.YtlaldnfaeoimfaaLibE
namespace Go.Proofs.Ytlaldnfaeoimfaa
open Go.RowKit
set_option linter.unusedVariables false

/-- the roles, and the own cells of what lies upon the Mem -/
def rp (R : Nat → Nat) (pb j : Nat) : Nat := if j = pb then 1 else R j
theorem rp_at (R : Nat → Nat) (pb : Nat) : rp R pb pb ≠ 0 := by unfold rp; rw [if_pos rfl]; decide
theorem rp_sub {R : Nat → Nat} {pb j : Nat} (h : rp R pb j = 0) : R j = 0 := by
  unfold rp at h
  split at h
  · cases h
  · exact h
theorem rp_of {R : Nat → Nat} {pb j : Nat} (h : rp R pb j ≠ 0) : j = pb ∨ R j ≠ 0 := by
  unfold rp at h
  split at h
  · exact .inl ‹_›
  · exact .inr h
theorem TR.wip {R R' : Nat → Nat} {w w' : World} (t : TR R R' w w') (pb : Nat) : TR (rp R pb) (rp R' pb) w w' :=
  ⟨⟨t.keeps.os, t.keeps.tape, t.keeps.output, t.keeps.size, fun k hk hf => t.keeps.block k hk (fun q => hf (fun e => q (rp_sub e)))⟩, fun j hj h => by
    rcases rp_of h with e | e
    · rw [e]; exact rp_at R pb
    · intro q; exact t.old j hj e (rp_sub q)⟩
theorem TR.wips {R R' : Nat → Nat} {w w' : World} {pb : Nat} (t : TR (rp R pb) (rp R' pb) w w') (i : Nat) (v : Value) : TR (rp R pb) (rp R' pb) w (w'.setCell ⟨pb, i, none⟩ v) := t.trans ⟨Keeps.set w' pb i v (rp_at R' pb), fun _ _ h => h⟩
theorem TR.wipt {R R' R'' : Nat → Nat} {w w1 w2 : World} {pb : Nat} (t : TR (rp R pb) (rp R' pb) w w1) (u : TR R' R'' w1 w2) : TR (rp R pb) (rp R'' pb) w w2 := t.trans (u.wip pb)
/-- a call on what lies upon the Mem, in blocks of the law's own -/
theorem own_rp {W0 : World} {R R' : Nat → Nat} {pb : Nat} {w w' : World} (o : Own W0 R w) (lo : W0.heap.size ≤ pb) (z : R pb = 0) (z' : R' pb = 0) (hp : pb < w.heap.size) (t : TR (rp R pb) (rp R' pb) w w') : Own W0 R' w' := by
  have lo' : ∀ j, rp R pb j ≠ 0 → W0.heap.size ≤ j := fun j hj => by
    rcases rp_of hj with e | e
    · omega
    · exact o.lo j e
  refine ⟨fun j hj => t.lo o.b.size lo' j (fun q => hj (rp_sub q)), o.b.trans (t.below o.b.size lo')⟩
end Go.Proofs.Ytlaldnfaeoimfaa
