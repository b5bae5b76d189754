/-
  haymowref08.Read, Write.
-/
import Derived.Test.YtibaloamgpcghaaIs
import Derived.Test.YtibaloamgpcghaaPut
import Derived.Deep.RegionWith
namespace Go.Proofs.Ytibaloamgpcghaa
open Go.RowKit
set_option linter.unusedVariables false

theorem wrongv_0 {L : List Spc} {id a n : Int} (h : wrongv L id a n = 0) : ∃ k i t : Nat, id = k ∧ a = i ∧ n = t ∧ k < L.length ∧ isv L id = true ∧ i + t ≤ (wds L k).length := by
  unfold wrongv at h
  by_cases hi : isv L id = false
  · rw [if_pos hi] at h; omega
  · rw [if_neg hi] at h
    have ht : isv L id = true := by cases q : isv L id; exact absurd q hi; rfl
    obtain ⟨k, rfl, hk, _⟩ := isv_of ht
    rw [Int.toNat_natCast] at h
    by_cases c : n < 0 ∨ a < 0 ∨ ((wds L k).length : Int) < n ∨ ((wds L k).length : Int) - n < a
    · rw [if_pos c] at h; omega
    · obtain ⟨i, rfl⟩ := Int.eq_ofNat_of_zero_le (show 0 ≤ a by omega)
      obtain ⟨t, rfl⟩ := Int.eq_ofNat_of_zero_le (show 0 ≤ n by omega)
      exact ⟨k, i, t, rfl, rfl, rfl, hk, ht, by omega⟩
end Go.Proofs.Ytibaloamgpcghaa
