/-
  The library of all later seats, LibB: Bits, Wide.
-/
import Derived.Test.YtppmicepkjhfeaaGreatLibA
import Derived.Test.YtppmicepkjhfeaaGreatChecked
import Derived.WalkKit
import Derived.WalkSpells
import Derived.StillTactics
import Derived.RowKit3
import Derived.Laws.Externs
import Derived.Shelf.Spec.BitsCarry
import Derived.Lib.Mul64
import Derived.Laws.Bits64b
import Derived.Lib.Hide
import Derived.Outline
/-! Bits: Contracts of math/bits: Add64, Sub64 (entries of the model), Mul64, Len64, LeadingZeros64. -/
namespace Go.Proofs.YtppmicepkjhfeaaGreat
open Go.RowKit
set_option linter.unusedVariables false

/-! ### worlds with new blocks -/
theorem bAlloc {a w : World} (h : Below a.heap.size a w) (o : Obj) : Below a.heap.size a (w.alloc o) := h.alloc h.size o
theorem bTrans {a b c : World} (h : Below a.heap.size a b) (k : Below b.heap.size b c) : Below a.heap.size a c := h.trans (k.mono h.size)
theorem bSet {a w : World} (h : Below a.heap.size a w) {p : Addr} (hp : a.heap.size ≤ p.block) (u : Value) : Below a.heap.size a (w.setCell p u) := h.setCell hp u
theorem bcell {W w1 : World} (hb : Below W.heap.size W w1) : (∀ b o, b < W.heap.size → w1.cell? ⟨b, o, none⟩ = W.cell? ⟨b, o, none⟩) ∧ (∀ b o, b < W.heap.size → w1.frozen? ⟨b, o, none⟩ = W.frozen? ⟨b, o, none⟩) :=
  ⟨fun b o h => hb.cell (p := ⟨b, o, none⟩) h, fun b o h => hb.frozen (p := ⟨b, o, none⟩) h⟩

theorem add64 (x y c : Int) (hx : 0 ≤ x) (hy : 0 ≤ y) (hc0 : 0 ≤ c) (hc : c ≤ 1) (w : World) : (callFunc 121 #[.int .u64 x, .int .u64 y, .int .u64 c]).run Tryz.prog w =
    .ok (.value (.tuple #[.int .u64 ((x + y + c) % 18446744073709551616), .int .u64 ((x + y + c) / 18446744073709551616)])) w := by
  rw [run_callFunc_extern Tryz.func121 (by kernel_rfl) (by kernel_rfl) (by kernel_rfl) (e := add64Entry) (by kernel_rfl), run_add64 x y c hx hy hc0 hc]
  rfl
theorem add64_0 (x y : Int) (hx : 0 ≤ x) (hy : 0 ≤ y) (w : World) : (callFunc 121 #[.int .u64 x, .int .u64 y, .int .u64 0]).run Tryz.prog w =
    .ok (.value (.tuple #[.int .u64 ((x + y) % 18446744073709551616), .int .u64 ((x + y) / 18446744073709551616)])) w := by
  simpa using add64 x y 0 hx hy (Int.le_refl 0) (by decide) w














end Go.Proofs.YtppmicepkjhfeaaGreat

/-! Wide: Contracts of package wide: the order, the sum, the difference. -/
namespace Go.Proofs.YtppmicepkjhfeaaGreat
open Go.RowKit
set_option linter.unusedVariables false

/-- A number as the program has it. -/
abbrev wv (n : Nat) : Value := .agg #[.int .u64 (hi n), .int .u64 (lo n)]

theorem most_any (w : World) : Calls Tryz.prog 122 #[] w fun e w' => e = .returned (.agg #[.int .u64 18446744073709551615, .int .u64 18446744073709551615]) ∧ w.alloc (.cells #[.int .u64 18446744073709551615, .int .u64 18446744073709551615] 132) = w' := by
  go_enter Tryz.func122, Tryz.ntmps122
  go_wp2
  exact bodyPost_ret (v := .agg #[.int .u64 18446744073709551615, .int .u64 18446744073709551615]) (by simp [results, Tryz.results122, go_sem]) rfl ⟨rfl, rfl⟩

theorem of_any (n : Int) (w : World) : Calls Tryz.prog 100 #[.int .u64 n] w fun e w' => e = .returned (.agg #[.int .u64 0, .int .u64 n]) ∧ Below w.heap.size w w' := by
  go_enter Tryz.func100, Tryz.ntmps100
  go_wp2
  exact bodyPost_ret (v := .agg #[.int .u64 0, .int .u64 n]) (by simp [results, Tryz.results100, go_sem]) rfl ⟨rfl, bAlloc (Below.refl _ _) _⟩

theorem add_any (a b : Nat) (ha : N128 a) (hb : N128 b) (w : World) : Calls Tryz.prog 99 #[wv a, wv b] w fun e w' => e = .returned (.tuple #[wv (addv a b), .bool (addok a b)]) ∧ Below w.heap.size w w' := by
  obtain ⟨a1, a2⟩ := word_hi ha; obtain ⟨b1, b2⟩ := word_lo a; obtain ⟨c1, c2⟩ := word_hi hb; obtain ⟨d1, d2⟩ := word_lo b
  obtain ⟨k0, k1⟩ := add_k a b
  by_cases h : N128 (a + b)
  · have hc : ((hi a + hi b + (lo a + lo b) / 18446744073709551616) / 18446744073709551616 != 0) = false := by rw [add_c h]; rfl
    simp only [wv, addv_t h, addok_t h, ← add_hi h, ← add_lo]
    go_enter Tryz.func99, Tryz.ntmps99
    go_wp2_with (first | simp only [add64_0 _ _ b1 d1] | simp only [add64 _ _ _ a1 c1 k0 k1])
    exact bodyPost_ret (v := .tuple #[.agg #[.int .u64 ((hi a + hi b + (lo a + lo b) / 18446744073709551616) % 18446744073709551616), .int .u64 ((lo a + lo b) % 18446744073709551616)], .bool true]) (by simp [results, Tryz.results99, go_sem]) rfl ⟨rfl, bAlloc (bAlloc (bAlloc (Below.refl _ _) _) _) _⟩
  · have hc : ((hi a + hi b + (lo a + lo b) / 18446744073709551616) / 18446744073709551616 != 0) = true := by rw [add_c1 ha hb h]; rfl
    simp only [wv, addv_f h, addok_f h, hi_most, lo_most]
    go_enter Tryz.func99, Tryz.ntmps99
    go_wp2_with (first | simp only [add64_0 _ _ b1 d1] | simp only [add64 _ _ _ a1 c1 k0 k1] | (go_at_call 122; refine (most_any _).mono ?_; rintro e w1 ⟨rfl, rfl⟩))
    exact bodyPost_ret (v := .tuple #[.agg #[.int .u64 18446744073709551615, .int .u64 18446744073709551615], .bool false]) (by simp [results, Tryz.results99, go_sem]) rfl ⟨rfl, bAlloc (bAlloc (bAlloc (bAlloc (Below.refl _ _) _) _) _) _⟩

end Go.Proofs.YtppmicepkjhfeaaGreat

