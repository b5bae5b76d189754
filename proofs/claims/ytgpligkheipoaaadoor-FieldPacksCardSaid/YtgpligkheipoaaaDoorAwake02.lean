/-
  The chapter's examples hold.
-/
import Derived.Test.YtgpligkheipoaaaDoorField
import Derived.Test.YtgpligkheipoaaaDoorRefPlaces
namespace Go.Proofs.YtgpligkheipoaaaDoor
open Go.RowKit
set_option linter.unusedVariables false

theorem k_places : (placesv 5).take 9 = [0, 2] := by unfold placesv; decide
theorem k_pop : popv 5 = 2 := by unfold popv; decide
theorem k_get : getv 240 4 2 = 3 := by unfold getv; decide
theorem awake_places (w : World) (hT : Tab w) : Calls Tryd.prog 21 #[.int .u64 5, .int .i64 9] w (Told [0, 2] w) := by
  have h := places_any 5 (by decide) 9 (by decide) w hT
  rw [k_places] at h
  exact h
theorem awake_get (w : World) : Calls Tryd.prog 12 #[.int .u64 240, fl 4 2] w fun e w' => e = .returned (.int .u64 3) ∧ Below w.heap.size w w' := by
  have h := get_any 240 4 2 (by decide) (by decide) (by decide) w
  rw [k_get] at h
  exact h
theorem awake_ones (w : World) : Calls Tryd.prog 14 #[.int .u64 5] w fun e w' => e = .returned (.int .i64 2) ∧ w = w' := by
  have h := ones_any 5 (by decide) w
  rw [k_pop] at h
  exact h
theorem ilist_lit (w : World) (v u : Nat) : IList (w.alloc (.cells #[.int .i64 (v : Int), .int .i64 (u : Int)] 3)) (.slice (some ⟨w.heap.size, 0, none⟩) 2 2) [v, u] := by
  refine ⟨_, _, rfl, .inr ⟨w.heap.size, 0, rfl, by simp, fun i hi => ?_⟩⟩
  have h : i = 0 ∨ i = 1 := by simp at hi; omega
  rcases h with rfl | rfl <;> simp
set_option maxRecDepth 100000 in
theorem awake_any (w : World) (hT : Tab w) : Calls Tryd.prog 7 #[] w fun e w' => e = .returned (.bool true) ∧ Below w.heap.size w w' := by
  go_enter Tryd.func7, Tryd.ntmps7
  go_wp2_with (first
    | (go_at_call 21; refine (awake_places _ hT).mono ?_; rintro e w1 ⟨v, rfl, ho, hb1⟩; have hv := IList.of_owns ho; obtain ⟨a, cap, rfl⟩ := owns_slice ho; clear ho)
    | (go_at_call 12; refine (awake_get _).mono ?_; rintro e w2 ⟨rfl, hb2⟩; have hv2 := hv.below hb2)
    | (go_at_call 22; refine (same_any _ _ [0, 2] [0, 2] _ (hv2.below ((Below.refl _ _).alloc (Nat.le_refl _) _)) (ilist_lit _ 0 2) (by decide) (by decide)).mono ?_; rintro e w3 ⟨rfl, hb3⟩)
    | (go_at_call 14; refine (awake_ones _).mono ?_; rintro e w4 ⟨rfl, rfl⟩))
  go_ret
  exact ⟨rfl, (by repeat (first | exact Below.refl _ _ | (with_reducible assumption) | refine bAlloc ?_ _ | refine below_drewN ?_ _ | refine Below.drew ?_ | (refine bSet ?_ (by first | (dsimp only; omega) | (simp; done) | (simp; omega)) _) | refine bTrans ?_ (by assumption)))⟩

end Go.Proofs.YtgpligkheipoaaaDoor
