/-
  The chapter's examples hold.
-/
import Derived.Test.YthjobjfnakfliaaRead
import Derived.Test.YthjobjfnakfliaaHex
import Derived.Test.YthjobjfnakfliaaBack
namespace Go.Proofs.Ythjobjfnakfliaa
open Go.RowKit
set_option linter.unusedVariables false

theorem awake_text (w : World) : Calls Try.prog 7 #[.int .i64 (-12)] w fun e w' => e = .returned (.string ⟨#[45, 49, 50]⟩) ∧ Below w.heap.size w w' := by
  have h := text_any (-12) ⟨by decide, by decide⟩ w
  rw [k_text] at h
  exact h
theorem awake_hex (w : World) : Calls Try.prog 16 #[.int .u64 255] w fun e w' => e = .returned (.string ⟨#[48, 48, 48, 48, 48, 48, 48, 48, 48, 48, 48, 48, 48, 48, 102, 102]⟩) ∧ Below w.heap.size w w' := by
  have h := hex_any 255 (by decide) w
  rw [k_hex] at h
  exact h
theorem awake_read (w : World) : Calls Try.prog 8 #[.string ⟨#[48, 49, 50]⟩] w fun e w' => e = .returned (.tuple #[.int .i64 0, .int .i64 5]) ∧ Below w.heap.size w w' := by
  have h := read_any ⟨#[48, 49, 50]⟩ (by decide) w
  rw [k_read] at h
  exact h

set_option maxRecDepth 100000 in
theorem awake_any (w : World) : Calls Try.prog 6 #[] w fun e w' => e = .returned (.bool true) ∧ Below w.heap.size w w' := by
  go_enter Try.func6, Try.ntmps6
  go_wp2_with (first
    | (go_at_call 8; refine (awake_read _).mono ?_; rintro e w1 ⟨rfl, hb1⟩)
    | (go_at_call 7; refine (awake_text _).mono ?_; rintro e w2 ⟨rfl, hb2⟩)
    | (go_at_call 16; refine (awake_hex _).mono ?_; rintro e w3 ⟨rfl, hb3⟩))
  go_ret
  exact ⟨rfl, bTrans (bTrans hb1 hb2) hb3⟩

end Go.Proofs.Ythjobjfnakfliaa
