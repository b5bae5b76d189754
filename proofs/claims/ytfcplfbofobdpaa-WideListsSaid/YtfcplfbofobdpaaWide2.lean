/-
  Contracts of package wide: the product, the quotient.
-/
import Derived.Test.YtfcplfbofobdpaaWide
import Derived.Test.YtfcplfbofobdpaaDiv
namespace Go.Proofs.Ytfcplfbofobdpaa
open Go.RowKit
set_option linter.unusedVariables false

theorem mul64 (x y : Int) (hx : Word x) (hy : Word y) (w : World) : Calls Try.prog 32 #[.int .u64 x, .int .u64 y] w fun e w' => e = .returned (.tuple #[.int .u64 (x * y / 18446744073709551616), .int .u64 (x * y % 18446744073709551616)]) ∧ w = w' := by
  obtain ⟨a, b⟩ := hx; obtain ⟨c, d⟩ := hy
  obtain ⟨x, rfl⟩ := Int.eq_ofNat_of_zero_le a
  obtain ⟨y, rfl⟩ := Int.eq_ofNat_of_zero_le c
  refine (Try.bits_Mul64 x y (by omega) (by omega) w).mono fun e w' ⟨h1, h2⟩ => ⟨?_, h2.symm⟩
  rw [h1]
  simp

theorem mul_any (a n : Nat) (ha : N128 a) (hn : Word n) (w : World) : Calls Try.prog 18 #[wv a, .int .u64 n] w fun e w' => e = .returned (.tuple #[wv (mulv a n), .bool (mulok a n)]) ∧ Below w.heap.size w w' := by
  have wl := word_lo a; have wh := word_hi ha
  obtain ⟨k0, k1, k2⟩ := mul_k ha hn
  have fit := mul_fit ha hn
  have b0 : 0 ≤ hi a * n % 18446744073709551616 := by omega
  by_cases h : N128 (a * n)
  · obtain ⟨f1, f2⟩ := fit.1 h
    have g1 : (hi a * n / 18446744073709551616 != 0) = false := by rw [f1]; rfl
    have g2 : ((hi a * n % 18446744073709551616 + lo a * n / 18446744073709551616) / 18446744073709551616 != 0) = false := by rw [f2]; rfl
    simp only [wv, mulv_t h, mulok_t h, mul_hi hn h, mul_lo]
    clear f1 f2 fit h ha
    go_enter Try.func18, Try.ntmps18
    go_wp2_with (first | (go_at_call 32; (with_reducible refine (mul64 _ _ (by assumption) (by assumption) _).mono ?_); rintro e w1 ⟨rfl, rfl⟩) | simp only [add64_0 _ _ b0 k1])
    exact bodyPost_ret (v := .tuple #[.agg #[.int .u64 ((hi a * n % 18446744073709551616 + lo a * n / 18446744073709551616) % 18446744073709551616), .int .u64 (lo a * n % 18446744073709551616)], .bool true]) (by simp [results, Try.results18, go_sem]) rfl ⟨rfl, bAlloc (bAlloc (Below.refl _ _) _) _⟩
  · simp only [wv, mulv_f h, mulok_f h, hi_most, lo_most]
    by_cases f1 : hi a * n / 18446744073709551616 = 0
    · have f2 : (hi a * n % 18446744073709551616 + lo a * n / 18446744073709551616) / 18446744073709551616 ≠ 0 := fun f2 => h (fit.2 ⟨f1, f2⟩)
      have g1 : (hi a * n / 18446744073709551616 != 0) = false := by rw [f1]; rfl
      have g2 : ((hi a * n % 18446744073709551616 + lo a * n / 18446744073709551616) / 18446744073709551616 != 0) = true := by simpa using f2
      clear f1 f2 fit h ha
      go_enter Try.func18, Try.ntmps18
      go_wp2_with (first | (go_at_call 32; (with_reducible refine (mul64 _ _ (by assumption) (by assumption) _).mono ?_); rintro e w1 ⟨rfl, rfl⟩) | simp only [add64_0 _ _ b0 k1] | (go_at_call 16; refine (most_any _).mono ?_; rintro e w1 ⟨rfl, rfl⟩))
      exact bodyPost_ret (v := .tuple #[.agg #[.int .u64 18446744073709551615, .int .u64 18446744073709551615], .bool false]) (by simp [results, Try.results18, go_sem]) rfl ⟨rfl, bAlloc (bAlloc (bAlloc (Below.refl _ _) _) _) _⟩
    · have g1 : (hi a * n / 18446744073709551616 != 0) = true := by simpa using f1
      clear f1 fit h ha
      go_enter Try.func18, Try.ntmps18
      go_wp2_with (first | (go_at_call 32; (with_reducible refine (mul64 _ _ (by assumption) (by assumption) _).mono ?_); rintro e w1 ⟨rfl, rfl⟩) | simp only [add64_0 _ _ b0 k1] | (go_at_call 16; refine (most_any _).mono ?_; rintro e w1 ⟨rfl, rfl⟩))
      exact bodyPost_ret (v := .tuple #[.agg #[.int .u64 18446744073709551615, .int .u64 18446744073709551615], .bool false]) (by simp [results, Try.results18, go_sem]) rfl ⟨rfl, bAlloc (bAlloc (bAlloc (Below.refl _ _) _) _) _⟩

theorem div_zero (a : Nat) (w : World) : Calls Try.prog 20 #[wv a, .int .u64 0] w fun e w' => e = .returned (.tuple #[.agg #[.int .u64 0, .int .u64 0], .int .u64 0, .int .i64 1]) ∧ Below w.heap.size w w' := by
  go_enter Try.func20, Try.ntmps20
  go_wp2
  exact bodyPost_ret (v := .tuple #[.agg #[.int .u64 0, .int .u64 0], .int .u64 0, .int .i64 1]) (by simp [results, Try.results20, go_sem]) rfl ⟨rfl, bAlloc (bAlloc (Below.refl _ _) _) _⟩

set_option maxRecDepth 100000 in
theorem div_any (a n : Nat) (ha : N128 a) (hn : Word n) (h0 : 0 < n) (w : World) : Calls Try.prog 20 #[wv a, .int .u64 n] w fun e w' => e = .returned (.tuple #[wv (a / n), .int .u64 (a % n : Nat), .int .i64 0]) ∧ Below w.heap.size w w' := by
  obtain ⟨p1, p2, p3⟩ := div_parts a n h0
  simp only [wv, p1, p2, p3]
  clear p1 p2 p3
  have wl := word_lo a; obtain ⟨wh0, wh1⟩ := word_hi ha
  obtain ⟨hn0, hn1⟩ := hn
  have hp : (0 : Int) < n := by omega
  have e0 : ((n : Int) == 0) = false := by simp; omega
  have m0 := Int.emod_nonneg (hi a) (show (n : Int) ≠ 0 by omega)
  have m1 := Int.emod_lt_of_pos (hi a) hp
  clear h0
  go_enter Try.func20, Try.ntmps20
  go_wp2_with fail
  go_quiet (fail)
  go_wp2_with (go_at_call 33; refine (div64_any _ _ _ m0 wl m1 hn1 _).mono ?_; rintro e w1 ⟨rfl, nq, rfl⟩)
  exact bodyPost_ret (v := .tuple #[.agg #[.int .u64 (hi a / n), .int .u64 ((hi a % n * 18446744073709551616 + lo a) / n)], .int .u64 ((hi a % n * 18446744073709551616 + lo a) % n), .int .i64 0]) (by simp [results, Try.results20, go_sem]) rfl ⟨rfl, (by repeat (first | exact Below.refl _ _ | (with_reducible assumption) | refine bAlloc ?_ _ | refine below_drewN ?_ _ | refine Below.drew ?_ | (refine bSet ?_ (by first | (dsimp only; omega) | (simp; done) | (simp; omega)) _) | refine bTrans ?_ (by assumption)))⟩

end Go.Proofs.Ytfcplfbofobdpaa
