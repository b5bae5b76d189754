/-
  haymowlaw07.awake.
-/
import Derived.Test.YtogpojgikipkiaaRef07
namespace Go.Proofs.Ytogpojgikipkiaa
open Go.RowKit
set_option linter.unusedVariables false

theorem mc_zero (j : Nat) (hj : j < 6) : (#[Value.int .i64 0, .int .i64 0, .int .u64 0, .int .u64 0, .int .u64 0, .int .u64 0] : Array Value)[j]? = some (mc 0 0 0 0 j) := by
  have h := mc_new 0 0 0 0 j hj
  rw [hi_0, lo_0] at h
  exact h
theorem sc_zero (j : Nat) (hj : j < 6) : (#[Value.int .u64 0, .int .u64 0, .int .u64 0, .int .u64 0, .int .i64 0, .int .i64 0] : Array Value)[j]? = some (sc 0 0 0 0 j) := by
  have h := sc_new 0 0 0 0 j hj
  rw [hi_0, lo_0] at h
  exact h
/-- a change of a block of the call's own -/
theorem Bar.on {m : Nat} {a w w' : World} (h : Below a.heap.size a w) (k : Bar m w.heap.size w w') (hm : a.heap.size ≤ m) : Below a.heap.size a w' := h.trans (k.below hm h.size)

set_option maxHeartbeats 1000000 in
theorem awake_any (w : World) : Calls Try.prog 5 #[] w fun e w' => e = .returned (.bool true) ∧ Below w.heap.size w w' := by
  have F0 : Fit 0 0 := by unfold Fit; omega
  have F5 : Fit 5 5 := by unfold Fit; omega
  have F05 : Fit 0 5 := by unfold Fit; omega
  have N3 : N128 3 := by unfold N128; omega
  have N4 : N128 4 := by unfold N128; omega
  have S1 := fun m w r => step_any m 0 0 0 0 0 3 N128_0 N128_0 (by omega) w r
  rw [show stepv 0 0 3 0 = 3 by unfold stepv addv; simp, show stepv 1 0 3 0 = 0 by unfold stepv; simp] at S1
  have S2 := fun m w r => step_any m 3 0 0 0 1 4 N3 N128_0 (by omega) w r
  rw [show stepv 0 1 4 3 = 3 by unfold stepv; simp, show stepv 1 1 4 0 = 4 by unfold stepv addv; simp] at S2
  have H1 := fun m w r => hold_any m 3 4 0 0 5 F0 (by omega) w r
  rw [show holdh 0 5 = 5 by unfold holdh; simp, show holdg 0 0 5 = 5 by unfold holdg; simp] at H1
  have H2 := fun m w r => free_any m 3 4 5 5 5 F5 (by omega) w r
  rw [show freeh 5 5 = 0 by unfold freeh; simp] at H2
  have H3 := fun m w r => hold_any m 3 4 0 5 2 F05 (by omega) w r
  rw [show holdh 0 2 = 2 by unfold holdh; simp, show holdg 0 5 2 = 5 by unfold holdg; simp] at H3
  have ST := fun m w r => steps_any m 3 4 2 5 N3 N4 w r
  have e7 : wv (addv 3 4) = .agg #[.int .u64 0, .int .u64 7] := by
    rw [show addv 3 4 = 7 by unfold addv; simp]
    simp only [wv]; rw [hi_of_lt (by omega), lo_of_lt (by omega)]; rfl
  rw [e7] at ST
  have S1H := Lib.hid S1; have S2H := Lib.hid S2; have H1H := Lib.hid H1; have H2H := Lib.hid H2; have H3H := Lib.hid H3; have STH := Lib.hid ST
  clear S1 S2 H1 H2 H3 ST e7 F0 F5 F05 N3 N4
  go_enter Try.func5, Try.ntmps5
  go_wp2_with fail
  refine (new_any w).mono ?_
  rintro e w1 ⟨rfl, rfl⟩
  dsimp only
  have R1 : MRow (w.alloc (.cells #[.int .i64 0, .int .i64 0, .int .u64 0, .int .u64 0, .int .u64 0, .int .u64 0] 55)) w.heap.size 0 0 0 0 := Row.newAt w _ _ _ 6 _ rfl mc_zero
  have B1 := bAlloc (Below.refl w.heap.size w) (.cells #[.int .i64 0, .int .i64 0, .int .u64 0, .int .u64 0, .int .u64 0, .int .u64 0] 55)
  generalize w.alloc (.cells #[.int .i64 0, .int .i64 0, .int .u64 0, .int .u64 0, .int .u64 0, .int .u64 0] 55) = w1 at *
  obtain ⟨m, hm⟩ : ∃ m, m = w.heap.size := ⟨_, rfl⟩
  have lm : w.heap.size ≤ m := by omega
  rw [← hm] at R1
  rw [← hm]
  clear hm
  go_wp2_with fail
  refine (S1H.out m _ R1).mono ?_
  rintro e w2 ⟨rfl, R2, b2⟩
  have B2 := Bar.on B1 b2 lm
  clear b2 R1 B1
  dsimp only
  go_wp2_with fail
  refine (S2H.out m _ R2).mono ?_
  rintro e w3 ⟨rfl, R3, b3⟩
  have B3 := Bar.on B2 b3 lm
  clear b3 R2 B2
  dsimp only
  go_wp2_with fail
  refine (H1H.out m _ R3).mono ?_
  rintro e w4 ⟨rfl, R4, b4⟩
  have B4 := Bar.on B3 b4 lm
  clear b4 R3 B3
  dsimp only
  go_wp2_with fail
  refine (H2H.out m _ R4).mono ?_
  rintro e w5 ⟨rfl, R5, b5⟩
  have B5 := Bar.on B4 b5 lm
  clear b5 R4 B4
  dsimp only
  go_wp2_with fail
  refine (H3H.out m _ R5).mono ?_
  rintro e w6 ⟨rfl, R6, b6⟩
  have B6 := Bar.on B5 b6 lm
  clear b6 R5 B5
  dsimp only
  go_wp2_with fail
  refine (STH.out m _ R6).mono ?_
  rintro e w7 ⟨rfl, b7⟩
  have R7 := R6.below b7
  have B7 := bTrans B6 b7
  clear b7 R6 B6
  dsimp only
  go_wp2_with fail
  refine (held_any m 3 4 2 5 _ R7).mono ?_
  rintro e w8 ⟨rfl, rfl⟩
  dsimp only
  go_wp2_with fail
  refine (high_any m 3 4 2 5 _ R7).mono ?_
  rintro e w8 ⟨rfl, rfl⟩
  dsimp only
  go_wp2_with fail
  go_ret
  exact ⟨rfl, B7⟩

end Go.Proofs.Ytogpojgikipkiaa
