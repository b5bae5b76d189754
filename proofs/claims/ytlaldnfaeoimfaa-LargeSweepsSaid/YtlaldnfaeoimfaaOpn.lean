/-
  The spaces of a Mem behind Open: which number it gives, what stays.
-/
import Derived.Test.YtlaldnfaeoimfaaLibE
namespace Go.Proofs.Ytlaldnfaeoimfaa
open Go.RowKit
set_option linter.unusedVariables false

theorem firstc_is (L : List Spc) : ∃ k, k ≤ L.length ∧ (∀ j, j < k → (L.getD j (false, [])).1 = true) ∧ (k = L.length ∨ k < L.length ∧ (L.getD k (false, [])).1 = false) := by
  induction L with
  | nil => exact ⟨0, Nat.le_refl _, (fun j hj => by omega), .inl rfl⟩
  | cons x l ih =>
    obtain ⟨k, k1, k2, k3⟩ := ih
    cases hx : x.1
    · exact ⟨0, Nat.zero_le _, (fun j hj => by omega), .inr ⟨by simp, by simpa using hx⟩⟩
    · refine ⟨k + 1, by simpa using k1, fun j hj => ?_, ?_⟩
      · cases j with
        | zero => simpa using hx
        | succ j => simpa using k2 j (by omega)
      · rcases k3 with e | ⟨e1, e2⟩
        · exact .inl (by simp [e])
        · exact .inr ⟨by simpa using e1, by simpa using e2⟩
theorem firstc_le (L : List Spc) : firstc L ≤ L.length := by
  obtain ⟨k, k1, k2, k3⟩ := firstc_is L
  rw [firstc_eq L k k2 k3]; exact k1
theorem firstc_ne (L : List Spc) (i : Nat) (hi : i < L.length) (h : (L.getD i (false, [])).1 = true) : firstc L ≠ i := by
  obtain ⟨k, k1, k2, k3⟩ := firstc_is L
  rw [firstc_eq L k k2 k3]
  intro e
  rcases k3 with e2 | ⟨_, e2⟩
  · omega
  · rw [e, h] at e2; cases e2
theorem opened_at (L : List Spc) (n i : Nat) (hi : i < L.length) (h : firstc L ≠ i) : (opened L n).getD i (false, []) = L.getD i (false, []) := by
  unfold opened
  split
  · rw [getD_set L _ _ _ (by omega), if_neg (fun e => h e.symm)]
  · rw [getD_snoc L _ _ (by omega), if_pos hi]
theorem opened_new (L : List Spc) (n : Nat) : (opened L n).getD (firstc L) (false, []) = (true, List.replicate n 0) := by
  have := firstc_le L
  unfold opened
  split
  · rw [getD_set L _ _ _ (by omega), if_pos rfl]
  · rw [getD_snoc L _ _ (by omega), if_neg (by omega)]
theorem opened_le (L : List Spc) (n : Nat) : L.length ≤ (opened L n).length ∧ firstc L < (opened L n).length := by
  have := firstc_le L
  unfold opened
  split <;> simp <;> omega
theorem opened_wds (L : List Spc) (n i : Nat) (hi : i < L.length) (h : firstc L ≠ i) : wds (opened L n) i = wds L i := by unfold wds; rw [opened_at L n i hi h]
theorem opened_wnew (L : List Spc) (n : Nat) : wds (opened L n) (firstc L) = List.replicate n 0 := by unfold wds; rw [opened_new]
theorem opened_len (L : List Spc) (n : Nat) : (opened L n).length ≤ L.length + 1 := by unfold opened; split <;> simp
theorem freeh_in {h n : Int} (h0 : 0 ≤ n) (h1 : n ≤ h) : freeh h n = h - n := by unfold freeh; exact if_pos ⟨h0, h1⟩
theorem holdh_to {h n : Int} (h0 : 0 ≤ n) (h1 : n ≤ 281474976710656 - h) : holdh h n = h + n := by unfold holdh; exact if_pos ⟨h0, h1⟩
end Go.Proofs.Ytlaldnfaeoimfaa
