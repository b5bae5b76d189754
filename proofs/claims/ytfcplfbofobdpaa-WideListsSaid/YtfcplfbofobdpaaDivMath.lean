/-
  Plain numbers: the division of two words by one, in halves (Knuth's algorithm D, as math/bits has it). No program in sight.
-/
import Derived.Test.YtfcplfbofobdpaaMath01
namespace Go.Proofs.Ytfcplfbofobdpaa

/-- What holds at the head of the correcting loop: q is at least the true quotient. -/
structure KInv (U d1 d0 u1 Q q r : Int) : Prop where
  eq : q * d1 + r = U
  q0 : 0 ≤ q
  q1 : q ≤ 4294967297
  r0 : 0 ≤ r
  r1 : r < 4294967296
  le : Q ≤ q
structure KArg (U d1 d0 u1 Q : Int) : Prop where
  d10 : 2147483648 ≤ d1
  d11 : d1 < 4294967296
  d00 : 0 ≤ d0
  d01 : d0 < 4294967296
  v0 : 0 ≤ u1
  v1 : u1 < 4294967296
  U0 : 0 ≤ U
  U1 : U < d1 * 4294967296 + d0
  hQ : Q = (U * 4294967296 + u1) / (d1 * 4294967296 + d0)

theorem KArg.Q0 {U d1 d0 u1 Q : Int} (h : KArg U d1 d0 u1 Q) : 0 ≤ Q := by
  have := h.d10; have := h.d00; have := h.U0; have := h.v0
  rw [h.hQ]; exact Int.ediv_nonneg (by omega) (by omega)
theorem KArg.Q1 {U d1 d0 u1 Q : Int} (h : KArg U d1 d0 u1 Q) : Q < 4294967296 := by
  have := h.d10; have := h.d00; have := h.U0; have := h.v0; have := h.v1; have := h.U1
  rw [h.hQ]; exact Int.ediv_lt_of_lt_mul (by omega) (by omega)
theorem KArg.mod {U d1 d0 u1 Q : Int} (h : KArg U d1 d0 u1 Q) : 0 ≤ U * 4294967296 + u1 - Q * (d1 * 4294967296 + d0) ∧ U * 4294967296 + u1 - Q * (d1 * 4294967296 + d0) < d1 * 4294967296 + d0 := by
  have := h.d10; have := h.d00
  have hp : 0 < d1 * 4294967296 + d0 := by omega
  have a := Int.emod_nonneg (U * 4294967296 + u1) (show d1 * 4294967296 + d0 ≠ 0 by omega)
  have b := Int.emod_lt_of_pos (U * 4294967296 + u1) hp
  have c := Int.mul_ediv_add_emod (U * 4294967296 + u1) (d1 * 4294967296 + d0)
  rw [← h.hQ, Int.mul_comm] at c
  omega
/-- q above the true quotient -/
theorem KArg.gt {U d1 d0 u1 Q : Int} (h : KArg U d1 d0 u1 Q) {q : Int} (hq : U * 4294967296 + u1 < q * (d1 * 4294967296 + d0)) : Q < q := by
  have := h.d10; have := h.d00
  have hp : 0 < d1 * 4294967296 + d0 := by omega
  rw [h.hQ]; exact Int.ediv_lt_of_lt_mul hp hq
theorem KArg.ge {U d1 d0 u1 Q : Int} (h : KArg U d1 d0 u1 Q) {q : Int} (hq : q * (d1 * 4294967296 + d0) ≤ U * 4294967296 + u1) : q ≤ Q := by
  have := h.d10; have := h.d00
  have hp : 0 < d1 * 4294967296 + d0 := by omega
  rw [h.hQ]; exact Int.le_ediv_of_mul_le hp hq
theorem split4 (q d1 d0 : Int) : q * (d1 * 4294967296 + d0) = q * d1 * 4294967296 + q * d0 := by
  rw [Int.mul_add, Int.mul_assoc]

theorem KArg.init {U d1 d0 u1 Q : Int} (h : KArg U d1 d0 u1 Q) : KInv U d1 d0 u1 Q (U / d1) (U - U / d1 * d1) := by
  have a1 := h.d10; have a2 := h.d00; have a3 := h.d11; have a4 := h.d01; have a5 := h.U0; have a6 := h.U1; have a7 := h.v1; have a8 := h.v0
  have hp : 0 < d1 := by omega
  have e := Int.mul_ediv_add_emod U d1
  have m0 := Int.emod_nonneg U (show d1 ≠ 0 by omega)
  have m1 := Int.emod_lt_of_pos U hp
  rw [Int.mul_comm] at e
  refine ⟨by omega, Int.ediv_nonneg a5 (by omega), ?_, by omega, by omega, ?_⟩
  · exact Int.le_of_lt_add_one (Int.ediv_lt_of_lt_mul hp (by omega))
  · refine Int.le_of_lt_add_one (h.gt ?_)
    rw [split4]
    have n : (U / d1 + 1) * d1 = U / d1 * d1 + d1 := by rw [Int.add_mul, Int.one_mul]
    have n2 : 0 ≤ (U / d1 + 1) * d0 := Int.mul_nonneg (by have := Int.ediv_nonneg a5 (show 0 ≤ d1 by omega); omega) a2
    rw [n]
    omega

/-- the test says no: q is the true quotient -/
theorem KInv.done {U d1 d0 u1 Q q r : Int} (k : KInv U d1 d0 u1 Q q r) (h : KArg U d1 d0 u1 Q) (t : ¬ 4294967296 * r + u1 < q * d0) : q = Q := by
  have a := k.eq
  have : q ≤ Q := h.ge (by rw [split4]; omega)
  have := k.le
  omega
/-- the test says yes -/
theorem KInv.more {U d1 d0 u1 Q q r : Int} (k : KInv U d1 d0 u1 Q q r) (h : KArg U d1 d0 u1 Q) (t : 4294967296 ≤ q ∨ 4294967296 * r + u1 < q * d0) : Q ≤ q - 1 ∧ 0 ≤ q - 1 ∧ q - 1 ≤ 4294967296 ∧ (q - 1) * d1 + (r + d1) = U := by
  have a := k.eq; have b := k.q1; have c := k.r0
  have hq : Q < q := by
    rcases t with t | t
    · have := h.Q1; omega
    · exact h.gt (by rw [split4]; omega)
  have := h.Q0
  refine ⟨by omega, by omega, by omega, ?_⟩
  rw [Int.sub_mul]; omega
theorem KInv.round {U d1 d0 u1 Q q r : Int} (k : KInv U d1 d0 u1 Q q r) (h : KArg U d1 d0 u1 Q) (t : 4294967296 ≤ q ∨ 4294967296 * r + u1 < q * d0) (hr : ¬ 4294967296 ≤ r + d1) : KInv U d1 d0 u1 Q (q - 1) (r + d1) := by
  obtain ⟨a, b, c, d⟩ := k.more h t
  have := k.r0; have := h.d10
  exact ⟨d, b, by omega, by omega, by omega, a⟩
theorem KInv.stop {U d1 d0 u1 Q q r : Int} (k : KInv U d1 d0 u1 Q q r) (h : KArg U d1 d0 u1 Q) (t : 4294967296 ≤ q ∨ 4294967296 * r + u1 < q * d0) (hr : 4294967296 ≤ r + d1) : q - 1 = Q := by
  obtain ⟨a, b, c, d⟩ := k.more h t
  have z := h.d01; have z2 := h.v0; have z3 := h.d00
  have m : (q - 1) * d0 ≤ 4294967296 * d0 := Int.mul_le_mul_of_nonneg_right c z3
  have : q - 1 ≤ Q := h.ge (by rw [split4]; omega)
  omega
/-- the product fits where it is asked for -/
theorem KInv.fits {U d1 d0 u1 Q q r : Int} (k : KInv U d1 d0 u1 Q q r) (h : KArg U d1 d0 u1 Q) (t : ¬ 4294967296 ≤ q) : 0 ≤ q * d0 ∧ q * d0 ≤ 18446744073709551615 := by
  have a := k.q0; have b := h.d00; have c := h.d01
  refine ⟨Int.mul_nonneg a b, ?_⟩
  have := Int.mul_le_mul_of_nonneg_right (show q ≤ 4294967295 by omega) b
  omega

/-- The whole. -/
theorem knuth_end (h l y S D U L u1 u0 Q1 V Q2 : Int) (hS : 0 < S) (hD : y * S = D) (hy : 0 < y) (hU : (h * 18446744073709551616 + l) * S = U * 18446744073709551616 + L) (hL : L = u1 * 4294967296 + u0)
    (e1 : U * 4294967296 + u1 - Q1 * D = V) (b1 : 0 ≤ V * 4294967296 + u0 - Q2 * D) (b2 : V * 4294967296 + u0 - Q2 * D < D) :
    (h * 18446744073709551616 + l) / y = Q1 * 4294967296 + Q2 ∧ (h * 18446744073709551616 + l) % y = (V * 4294967296 + u0 - Q2 * D) / S := by
  generalize hN : h * 18446744073709551616 + l = N at *
  have key : (N - (Q1 * 4294967296 + Q2) * y) * S = V * 4294967296 + u0 - Q2 * D := by
    have g : (Q1 * 4294967296 + Q2) * y * S = Q1 * D * 4294967296 + Q2 * D := by
      rw [Int.mul_assoc, hD, Int.add_mul, Int.mul_assoc, Int.mul_comm 4294967296 D, ← Int.mul_assoc]
    rw [Int.sub_mul, g, hU]; omega
  generalize hR : N - (Q1 * 4294967296 + Q2) * y = R at *
  have r0 : 0 ≤ R := by
    rcases Int.lt_or_le R 0 with c | c
    · have := Int.mul_neg_of_neg_of_pos c hS; omega
    · exact c
  have r1 : R < y := by
    rcases Int.lt_or_le R y with c | c
    · exact c
    · have := Int.mul_le_mul_of_nonneg_right c (Int.le_of_lt hS); omega
  have e : N = R + y * (Q1 * 4294967296 + Q2) := by rw [Int.mul_comm]; omega
  refine ⟨?_, ?_⟩
  · rw [e, Int.add_mul_ediv_left _ _ (by omega), Int.ediv_eq_zero_of_lt r0 r1, Int.zero_add]
  · rw [← key, Int.mul_ediv_cancel _ (by omega), e, Int.add_mul_emod_self_left, Int.emod_eq_of_lt r0 r1]

end Go.Proofs.Ytfcplfbofobdpaa
