/-
  haymowlaw02.FieldPlaces, walked.
-/
import Derived.Test.YtgpligkheipoaaaDoorAwake02
namespace Go.Proofs.YtgpligkheipoaaaDoor
open Go.RowKit
set_option linter.unusedVariables false

theorem IList.take {w : World} {base g cap : Nat} {L : List Nat} (h : w.ownsRow base 3 1 (.slice (some ⟨g, 0, none⟩) L.length cap) L.length (L.map pe)) (k : Nat) (hk : k ≤ L.length) : IList w (.slice (some ⟨g, 0, none⟩) k cap) (L.take k) := by
  have e : (L.take k).length = k := by simp; omega
  refine ⟨_, _, by rw [e], .inr ⟨g, 0, rfl, (h.lt g rfl).2, fun i hi => ?_⟩⟩
  rw [e] at hi
  rw [Nat.zero_add, h.cellAt i (by omega)]
  simp [List.getD, List.getElem?_eq_getElem (show i < L.length by omega), hi]
theorem ilist_nil (w : World) (a : Option Addr) (cap : Nat) : IList w (.slice a 0 cap) [] := ⟨a, cap, rfl, .inl rfl⟩
theorem same_true (v u : Value) (L : List Nat) (w : World) (hv : IList w v L) (hu : IList w u L) (hl : L.length ≤ 1000) :
    Calls Tryd.prog 22 #[v, u] w fun e w' => e = .returned (.bool true) ∧ Below w.heap.size w w' := by
  have h := same_any v u L L w hv hu hl hl
  simpa using h
theorem placesv_short (x : Nat) : (placesv x).length ≤ 64 := by rw [placesv_len]; unfold popv; exact popFrom_le _ _ _

set_option maxRecDepth 100000 in
set_option maxHeartbeats 1000000 in
theorem fplaces_walk (x : Nat) (hx : x < 18446744073709551616) (t : Nat) (ht : t ≤ 255) (w : World) (hT : Tab w) :
    Calls Tryd.prog 6 #[.int .u64 (x : Int), .int .u8 (t : Int)] w fun e w' => e = .returned (.bool true) ∧ Below w.heap.size w w' := by
  have P70 : ∀ w (h : Tab w), Calls Tryd.prog 21 #[.int .u64 (x : Int), .int .i64 70] w (Told ((placesv x).take 70) w) := fun w h => places_any x hx 70 (by decide) w h
  rw [List.take_of_length_le (show (placesv x).length ≤ 70 by have := placesv_short x; omega)] at P70
  have PT := fun w h => places_any x hx t ht w h
  have PR := fun w => refplaces_any x hx w
  have PO := fun w => ones_any x hx w
  rw [← placesv_len] at PO
  have hn := placesv_short x
  generalize placesv x = L at *
  obtain ⟨M, hM⟩ : ∃ M, L.take t = M := ⟨_, rfl⟩
  rw [hM] at PT
  have HM := Lib.hid hM
  clear hM
  go_enter Tryd.func6, Tryd.ntmps6
  go_wp2_with (go_at_call 7; refine (awake_any _ hT).mono ?_; rintro e w1 ⟨rfl, hb1⟩; have hT1 := hT.below hb1)
  refine (PR w1).mono ?_
  rintro e w2 ⟨v, rfl, ho2, hb2⟩
  have hT2 := hT1.below hb2
  obtain ⟨a, cap, rfl⟩ := owns_slice ho2
  dsimp only
  go_wp2_with fail
  refine (P70 w2 hT2).mono ?_
  rintro e w3 ⟨v3, rfl, ho3, hb3⟩
  have hT3 := hT2.below hb3
  have i3 := IList.of_owns ho3
  obtain ⟨a3, cap3, rfl⟩ := owns_slice ho3
  dsimp only
  go_wp2_with fail
  refine (PT w3 hT3).mono ?_
  rintro e w4 ⟨v4, rfl, ho4, hb4⟩
  have i4 := IList.of_owns ho4
  obtain ⟨a4, cap4, rfl⟩ := owns_slice ho4
  have i34 := i3.below hb4
  have i24 := ((IList.of_owns ho2).below hb3).below hb4
  have hb14 := bTrans (bTrans (bTrans hb1 hb2) hb3) hb4
  have hm : ∃ h : Nat, min (L.length : Int) (t : Int) = (h : Int) ∧ h ≤ cap ∧ IList w4 (.slice a h cap) M := by
    rw [← HM.out]
    have hc : L.length ≤ cap := by
      rcases ho2.2 with ⟨e, h0⟩ | ⟨g, c, cur, e, _, _, hc, _⟩
      · omega
      · cases e; exact hc
    by_cases c : t < L.length
    · refine ⟨t, by omega, by omega, ?_⟩
      rcases ho2.2 with ⟨e, h0⟩ | ⟨g, c', cur, e, _⟩
      · omega
      · cases e
        exact ((IList.take ho2 t (by omega)).below hb3).below hb4
    · refine ⟨L.length, by omega, hc, ?_⟩
      rw [List.take_of_length_le (by omega)]
      exact i24
  obtain ⟨h, hmin, hcap, i5⟩ := hm
  have hlt : M.length ≤ 64 := by rw [← HM.out]; simp; omega
  have ha : (if cap = 0 then a else a.map (·.add (0 * 1))) = a := by
    split
    · rfl
    · rcases ho2.2 with ⟨e, h0⟩ | ⟨g, c', cur, e, _⟩
      · obtain ⟨rfl, _, _⟩ := Value.slice.inj e; rfl
      · obtain ⟨rfl, _, _⟩ := Value.slice.inj e; rfl
  dsimp only
  clear ho2 ho3 ho4
  go_wp2_with fail
  with_reducible refine (same_true _ _ L w4 i34 i24 (by omega)).mono ?_
  rintro e w5 ⟨rfl, hb5⟩
  have i55 := i5.below hb5
  have i45 := i4.below hb5
  dsimp only
  clear i34 i24 i5 i4 i3
  go_wp2_with fail
  with_reducible refine (same_true _ _ M w5 i45 i55 (by omega)).mono ?_
  rintro e w6 ⟨rfl, hb6⟩
  dsimp only
  go_wp2_with (go_at_call 14; refine (PO _).mono ?_; rintro e w7 ⟨rfl, rfl⟩)
  go_ret
  exact ⟨rfl, bTrans (bTrans hb14 hb5) hb6⟩

end Go.Proofs.YtgpligkheipoaaaDoor
