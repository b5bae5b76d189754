/-
  Contracts of package wide: the order, the sum, the difference.
-/
import Derived.Test.YtibaloamgpcghaaBits
namespace Go.Proofs.Ytibaloamgpcghaa
open Go.RowKit
set_option linter.unusedVariables false

/-- A number as the program has it. -/
abbrev wv (n : Nat) : Value := .agg #[.int .u64 (hi n), .int .u64 (lo n)]

theorem most_any (w : World) : Calls Try.prog 49 #[] w fun e w' => e = .returned (.agg #[.int .u64 18446744073709551615, .int .u64 18446744073709551615]) ∧ w.alloc (.cells #[.int .u64 18446744073709551615, .int .u64 18446744073709551615] 80) = w' := by
  go_enter Try.func49, Try.ntmps49
  go_wp2
  exact bodyPost_ret (v := .agg #[.int .u64 18446744073709551615, .int .u64 18446744073709551615]) (by simp [results, Try.results49, go_sem]) rfl ⟨rfl, rfl⟩

theorem of_any (n : Int) (w : World) : Calls Try.prog 43 #[.int .u64 n] w fun e w' => e = .returned (.agg #[.int .u64 0, .int .u64 n]) ∧ Below w.heap.size w w' := by
  go_enter Try.func43, Try.ntmps43
  go_wp2
  exact bodyPost_ret (v := .agg #[.int .u64 0, .int .u64 n]) (by simp [results, Try.results43, go_sem]) rfl ⟨rfl, bAlloc (Below.refl _ _) _⟩

theorem add_any (a b : Nat) (ha : N128 a) (hb : N128 b) (w : World) : Calls Try.prog 42 #[wv a, wv b] w fun e w' => e = .returned (.tuple #[wv (addv a b), .bool (addok a b)]) ∧ Below w.heap.size w w' := by
  obtain ⟨a1, a2⟩ := word_hi ha; obtain ⟨b1, b2⟩ := word_lo a; obtain ⟨c1, c2⟩ := word_hi hb; obtain ⟨d1, d2⟩ := word_lo b
  obtain ⟨k0, k1⟩ := add_k a b
  by_cases h : N128 (a + b)
  · have hc : ((hi a + hi b + (lo a + lo b) / 18446744073709551616) / 18446744073709551616 != 0) = false := by rw [add_c h]; rfl
    simp only [wv, addv_t h, addok_t h, ← add_hi h, ← add_lo]
    go_enter Try.func42, Try.ntmps42
    go_wp2_with (first | simp only [add64_0 _ _ b1 d1] | simp only [add64 _ _ _ a1 c1 k0 k1])
    exact bodyPost_ret (v := .tuple #[.agg #[.int .u64 ((hi a + hi b + (lo a + lo b) / 18446744073709551616) % 18446744073709551616), .int .u64 ((lo a + lo b) % 18446744073709551616)], .bool true]) (by simp [results, Try.results42, go_sem]) rfl ⟨rfl, bAlloc (bAlloc (bAlloc (Below.refl _ _) _) _) _⟩
  · have hc : ((hi a + hi b + (lo a + lo b) / 18446744073709551616) / 18446744073709551616 != 0) = true := by rw [add_c1 ha hb h]; rfl
    simp only [wv, addv_f h, addok_f h, hi_most, lo_most]
    go_enter Try.func42, Try.ntmps42
    go_wp2_with (first | simp only [add64_0 _ _ b1 d1] | simp only [add64 _ _ _ a1 c1 k0 k1] | (go_at_call 49; refine (most_any _).mono ?_; rintro e w1 ⟨rfl, rfl⟩))
    exact bodyPost_ret (v := .tuple #[.agg #[.int .u64 18446744073709551615, .int .u64 18446744073709551615], .bool false]) (by simp [results, Try.results42, go_sem]) rfl ⟨rfl, bAlloc (bAlloc (bAlloc (bAlloc (Below.refl _ _) _) _) _) _⟩

end Go.Proofs.Ytibaloamgpcghaa
