/-
  A meter and a number in blocks of the call's own; what an errno of 0 says. No program in sight.
-/
import Derived.Test.YtogpojgikipkiaaMtr
namespace Go.Proofs.Ytogpojgikipkiaa
open Go.RowKit
set_option linter.unusedVariables false

/-- a meter and a number stand in blocks of the call's own -/
structure Duo (W : World) (m lb a b : Nat) (h g : Int) (l : Nat) (w : World) : Prop where
  rm : MRow w m a b h g
  rl : WRow w lb l
  rb : Below W.heap.size W w
theorem Duo.below {W : World} {m lb a b : Nat} {h g : Int} {l : Nat} {w w' : World} (A : Duo W m lb a b h g l w) (k : Below w.heap.size w w') : Duo W m lb a b h g l w' :=
  ⟨A.rm.below k, A.rl.below k, A.rb.trans (k.mono A.rb.size)⟩
theorem Duo.drew {W : World} {m lb a b : Nat} {h g : Int} {l : Nat} {w : World} (A : Duo W m lb a b h g l w) : Duo W m lb a b h g l w.drew := ⟨A.rm.drew, A.rl.drew, A.rb.drew⟩
theorem Duo.keep {W : World} {m lb a b : Nat} {h g : Int} {l : Nat} {w : World} {gl i j : Nat} {x y : Value} (c0 : W.cell? ⟨gl, i, none⟩ = some x) (c1 : W.cell? ⟨gl, j, none⟩ = some y) (hg : gl < W.heap.size) (A : Duo W m lb a b h g l w) :
    w.cell? ⟨gl, i, none⟩ = some x ∧ w.cell? ⟨gl, j, none⟩ = some y ∧ w.cell? ⟨lb, 0, none⟩ = some (.int .u64 (hi l)) ∧ w.cell? ⟨lb, 1, none⟩ = some (.int .u64 (lo l)) :=
  ⟨(pairKeep c0 c1 hg A.rb).1, (pairKeep c0 c1 hg A.rb).2, A.rl.c0, A.rl.c1⟩
theorem holde_0 {h n : Int} (e : holde h n = 0) : 0 ≤ n ∧ n ≤ 281474976710656 - h ∧ holdh h n = h + n := by
  unfold holde at e
  by_cases h1 : n < 0
  · rw [if_pos h1] at e; omega
  · rw [if_neg h1] at e
    by_cases h2 : 281474976710656 - h < n
    · rw [if_pos h2] at e; omega
    · refine ⟨by omega, by omega, ?_⟩
      unfold holdh; rw [if_pos (by omega)]
theorem freee_0 {h n : Int} (e : freee h n = 0) : 0 ≤ n ∧ n ≤ h ∧ freeh h n = h - n := by
  unfold freee at e
  by_cases h1 : n < 0
  · rw [if_pos h1] at e; omega
  · rw [if_neg h1] at e
    by_cases h2 : h < n
    · rw [if_pos h2] at e; omega
    · refine ⟨by omega, by omega, ?_⟩
      unfold freeh; rw [if_pos (by omega)]

end Go.Proofs.Ytogpojgikipkiaa
