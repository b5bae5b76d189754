/-
  The chapter's examples hold.
-/
import Derived.Test.YtfcplfbofobdpaaText
namespace Go.Proofs.Ytfcplfbofobdpaa
open Go.RowKit
set_option linter.unusedVariables false

theorem k_hi : hi 18446744073709551616 = 1 := by unfold hi; rfl
theorem k_lo : lo 18446744073709551616 = 0 := by unfold lo; rfl
theorem k_big : N128 (18446744073709551616 * 9223372036854775808) := by unfold N128; omega
theorem k_phi : hi (18446744073709551616 * 9223372036854775808) = 9223372036854775808 := by unfold hi; rfl
theorem k_plo : lo (18446744073709551616 * 9223372036854775808) = 0 := by unfold lo; rfl
theorem awake_mul (w : World) : Calls Try.prog 18 #[.agg #[.int .u64 1, .int .u64 0], .int .u64 9223372036854775808] w fun e w' => e = .returned (.tuple #[.agg #[.int .u64 9223372036854775808, .int .u64 0], .bool true]) ∧ Below w.heap.size w w' := by
  have h := mul_any 18446744073709551616 9223372036854775808 (by unfold N128; omega) (by unfold Word; omega) w
  rw [mulv_t k_big, mulok_t k_big] at h
  simp only [wv, k_hi, k_lo, k_phi, k_plo] at h
  exact h
theorem k_text : strOfNums (dtext 18446744073709551616) = ⟨#[49, 56, 52, 52, 54, 55, 52, 52, 48, 55, 51, 55, 48, 57, 53, 53, 49, 54, 49, 54]⟩ := by
  have e : dtext 18446744073709551616 = [49, 56, 52, 52, 54, 55, 52, 52, 48, 55, 51, 55, 48, 57, 53, 53, 49, 54, 49, 54] := by decide +kernel
  rw [e]; rfl
theorem awake_text (w : World) : Calls Try.prog 23 #[.agg #[.int .u64 1, .int .u64 0]] w fun e w' => e = .returned (.string ⟨#[49, 56, 52, 52, 54, 55, 52, 52, 48, 55, 51, 55, 48, 57, 53, 53, 49, 54, 49, 54]⟩) ∧ Below w.heap.size w w' := by
  have h := text_any 18446744073709551616 (by unfold N128; omega) w
  rw [k_text] at h
  simp only [wv, k_hi, k_lo] at h
  exact h

theorem awake_any (w : World) : Calls Try.prog 8 #[] w fun e w' => e = .returned (.bool true) ∧ Below w.heap.size w w' := by
  go_enter Try.func8, Try.ntmps8
  go_wp2_with (first
    | (go_at_call 18; refine (awake_mul _).mono ?_; rintro e w1 ⟨rfl, hb1⟩)
    | (go_at_call 23; refine (awake_text _).mono ?_; rintro e w2 ⟨rfl, hb2⟩)
    | (go_at_call 22; refine (of_any 7 _).mono ?_; rintro e w3 ⟨rfl, hb3⟩))
  go_ret
  exact ⟨rfl, bTrans (bTrans (bAlloc hb1 _) hb2) hb3⟩

/-- what a call leaves of a number in a block -/
theorem Row.two {w : World} {g x : Nat} (h : Row w g 2 (wrow x)) : w.cell? ⟨g, 0, none⟩ = some (.int .u64 (hi x)) ∧ w.cell? ⟨g, 1, none⟩ = some (.int .u64 (lo x)) ∧ g < w.heap.size :=
  ⟨h.cell 0 (by omega), h.cell 1 (by omega), h.lt⟩

end Go.Proofs.Ytfcplfbofobdpaa
