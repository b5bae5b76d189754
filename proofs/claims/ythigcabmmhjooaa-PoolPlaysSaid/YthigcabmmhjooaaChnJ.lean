/-
  Package chain: Join of two chains.
-/
import Derived.Test.YthigcabmmhjooaaChnC
namespace Go.Proofs.Ythigcabmmhjooaa
open Go.RowKit
set_option linter.unusedVariables false

/-- the boxes of a call with a table and two chains -/
theorem boxes4 (w : World) (mb : Nat) (s W N P h1 t1 n1 h2 t2 n2 : Int) :
    Row ((((w.alloc (.cells #[at0 mb, .int .i64 s, .int .i64 W, .int .i64 N, .int .i64 P] 64)).alloc (.cells #[.int .i64 h1, .int .i64 t1, .int .i64 n1] 67)).alloc (.cells #[.int .i64 h2, .int .i64 t2, .int .i64 n2] 67)).alloc (.cells #[.int .i64 0, .int .i64 0, .int .i64 0] 67)) w.heap.size 5 (tc (at0 mb) s W N P) ∧
    Row ((((w.alloc (.cells #[at0 mb, .int .i64 s, .int .i64 W, .int .i64 N, .int .i64 P] 64)).alloc (.cells #[.int .i64 h1, .int .i64 t1, .int .i64 n1] 67)).alloc (.cells #[.int .i64 h2, .int .i64 t2, .int .i64 n2] 67)).alloc (.cells #[.int .i64 0, .int .i64 0, .int .i64 0] 67)) (w.heap.size + 1) 3 (cc h1 t1 n1) ∧
    Row ((((w.alloc (.cells #[at0 mb, .int .i64 s, .int .i64 W, .int .i64 N, .int .i64 P] 64)).alloc (.cells #[.int .i64 h1, .int .i64 t1, .int .i64 n1] 67)).alloc (.cells #[.int .i64 h2, .int .i64 t2, .int .i64 n2] 67)).alloc (.cells #[.int .i64 0, .int .i64 0, .int .i64 0] 67)) (w.heap.size + 1 + 1) 3 (cc h2 t2 n2) ∧
    Row ((((w.alloc (.cells #[at0 mb, .int .i64 s, .int .i64 W, .int .i64 N, .int .i64 P] 64)).alloc (.cells #[.int .i64 h1, .int .i64 t1, .int .i64 n1] 67)).alloc (.cells #[.int .i64 h2, .int .i64 t2, .int .i64 n2] 67)).alloc (.cells #[.int .i64 0, .int .i64 0, .int .i64 0] 67)) (w.heap.size + 1 + 1 + 1) 3 (cc 0 0 0) ∧
    Below w.heap.size w ((((w.alloc (.cells #[at0 mb, .int .i64 s, .int .i64 W, .int .i64 N, .int .i64 P] 64)).alloc (.cells #[.int .i64 h1, .int .i64 t1, .int .i64 n1] 67)).alloc (.cells #[.int .i64 h2, .int .i64 t2, .int .i64 n2] 67)).alloc (.cells #[.int .i64 0, .int .i64 0, .int .i64 0] 67)) :=
  ⟨(((boxed5 w (at0 mb) s W N P).alloc _).alloc _).alloc _, ((Row.newAt _ _ _ (w.heap.size + 1) 3 _ (by simp) (cc_new h1 t1 n1)).alloc _).alloc _, (Row.newAt _ _ _ (w.heap.size + 1 + 1) 3 _ (by simp) (cc_new h2 t2 n2)).alloc _, Row.newAt _ _ _ (w.heap.size + 1 + 1 + 1) 3 _ (by simp) (cc_new 0 0 0), bAlloc (bAlloc (bAlloc (bAlloc (Below.refl _ _) _) _) _) _⟩
theorem ne_zero_int' {x : Nat} (h : x ≠ 0) : ((x : Int) == 0) = false := by simp [h]
/-- the words behind a Join -/
def joinw (ws : List Nat) (W N P t1 h2 : Nat) : List Nat := (ws.set (lk W t1 N) h2).set (lk W h2 P) t1
section
variable (mb mm : Nat) (R : Nat → Nat) (L : List Spc) (a b : Nat) (h g : Int) (k W N P : Nat) (t : TT L k W N P)
include t
end
end Go.Proofs.Ythigcabmmhjooaa
