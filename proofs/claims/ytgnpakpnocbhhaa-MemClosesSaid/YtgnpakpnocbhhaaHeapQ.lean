/-
  Heaps of numbers as plain lists: what container/heap's up and down keep. No program in sight.
-/
import Derived.WalkKit
namespace Go.Proofs.Ytgnpakpnocbhhaa
set_option linter.unusedVariables false

/-- the number at a place -/
def nq (Q : List Nat) (k : Nat) : Nat := Q.getD k 0
/-- two places exchanged -/
def swq (Q : List Nat) (i j : Nat) : List Nat := (Q.set i (nq Q j)).set j (nq Q i)
theorem swq_len (Q : List Nat) (i j : Nat) : (swq Q i j).length = Q.length := by unfold swq; simp
theorem nq_set (Q : List Nat) (i k x : Nat) (hi : i < Q.length) : nq (Q.set i x) k = if k = i then x else nq Q k := by
  unfold nq
  by_cases e : k = i
  · subst e; rw [if_pos rfl]; simp [List.getD, hi]
  · rw [if_neg e]; simp [List.getD, List.getElem?_set_ne (Ne.symm e)]
theorem nq_swq (Q : List Nat) (i j k : Nat) (hi : i < Q.length) (hj : j < Q.length) : nq (swq Q i j) k = if k = j then nq Q i else if k = i then nq Q j else nq Q k := by
  unfold swq
  rw [nq_set _ _ _ _ (by rw [List.length_set]; exact hj)]
  by_cases e : k = j
  · rw [if_pos e, if_pos e]
  · rw [if_neg e, if_neg e, nq_set _ _ _ _ hi]
theorem swq_perm (Q : List Nat) (i j : Nat) (hi : i < Q.length) (hj : j < Q.length) : (swq Q i j).Perm Q := by
  have h := List.set_set_perm (as := Q) hi hj
  unfold swq nq
  simpa [List.getD, List.getElem?_eq_getElem hi, List.getElem?_eq_getElem hj] using h
theorem nq_app (Q P : List Nat) (k : Nat) (h : k < Q.length) : nq (Q ++ P) k = nq Q k := by
  unfold nq; simp [List.getD, List.getElem?_append_left h]
theorem nq_last (Q : List Nat) (x : Nat) : nq (Q ++ [x]) Q.length = x := by
  unfold nq; simp [List.getD]
theorem nq_take (Q : List Nat) (n k : Nat) (h : k < n) : nq (Q.take n) k = nq Q k := by
  unfold nq; simp [List.getD, List.getElem?_take_of_lt h]
theorem take_last (Q : List Nat) (n : Nat) (h : Q.length = n + 1) : Q.take n ++ [nq Q n] = Q := by
  have e := List.take_succ_eq_append_getElem (show n < Q.length by omega)
  rw [List.take_of_length_le (by omega)] at e
  unfold nq
  rw [List.getD_eq_getElem?_getD, List.getElem?_eq_getElem (show n < Q.length by omega)]
  exact e.symm
theorem nq_mem (Q : List Nat) (k : Nat) (h : k < Q.length) : nq Q k ∈ Q := by
  unfold nq; rw [List.getD_eq_getElem?_getD, List.getElem?_eq_getElem h]; exact List.getElem_mem h

/-- the first n numbers are a heap -/
def HeapN (Q : List Nat) (n : Nat) : Prop := ∀ k, 0 < k → k < n → nq Q ((k - 1) / 2) ≤ nq Q k
/-- .. but for place j, which may be too small for its parent -/
def UpI (Q : List Nat) (j : Nat) : Prop := (∀ k, 0 < k → k < Q.length → k ≠ j → nq Q ((k - 1) / 2) ≤ nq Q k) ∧ ∀ k, 0 < k → k < Q.length → (k - 1) / 2 = j → 0 < j → nq Q ((j - 1) / 2) ≤ nq Q k
/-- .. but for place i, which may be too great for its children -/
def DnI (Q : List Nat) (i n : Nat) : Prop := (∀ k, 0 < k → k < n → (k - 1) / 2 ≠ i → nq Q ((k - 1) / 2) ≤ nq Q k) ∧ ∀ k, 0 < k → k < n → (k - 1) / 2 = i → 0 < i → nq Q ((i - 1) / 2) ≤ nq Q k
theorem UpI.done {Q : List Nat} {j : Nat} (h : UpI Q j) (e : j = 0 ∨ nq Q ((j - 1) / 2) ≤ nq Q j) : HeapN Q Q.length := fun k h0 hk => by
  by_cases c : k = j
  · subst c
    exact e.resolve_left (by omega)
  · exact h.1 k h0 hk c
theorem UpI.step {Q : List Nat} {j : Nat} (h : UpI Q j) (hj : j < Q.length) (h0 : 0 < j) (lt : nq Q j < nq Q ((j - 1) / 2)) : UpI (swq Q ((j - 1) / 2) j) ((j - 1) / 2) := by
  obtain ⟨h1, h2⟩ := h
  have hp : (j - 1) / 2 < Q.length := by omega
  refine ⟨fun k k0 kl kp => ?_, fun k k0 kl kp p0 => ?_⟩
  · rw [swq_len] at kl
    rw [nq_swq _ _ _ _ hp hj, nq_swq _ _ _ _ hp hj]
    by_cases c : k = j
    · subst c
      rw [if_neg (by omega), if_pos rfl, if_pos rfl]; omega
    · rw [if_neg c, if_neg kp]
      have a := h1 k k0 kl c
      by_cases d : (k - 1) / 2 = j
      · rw [if_pos d]; exact h2 k k0 kl d h0
      · rw [if_neg d]
        by_cases f : (k - 1) / 2 = (j - 1) / 2
        · rw [if_pos f]; rw [f] at a; omega
        · rw [if_neg f]; exact a
  · rw [swq_len] at kl
    rw [nq_swq _ _ _ _ hp hj, nq_swq _ _ _ _ hp hj]
    rw [if_neg (by omega), if_neg (by omega)]
    have b := h1 ((j - 1) / 2) p0 hp (by omega)
    by_cases c : k = j
    · rw [if_pos c]; exact b
    · rw [if_neg c, if_neg (by omega)]
      have a := h1 k k0 kl c
      rw [kp] at a; omega
theorem DnI.none {Q : List Nat} {i n : Nat} (h : DnI Q i n) (e : n ≤ 2 * i + 1) : HeapN Q n := fun k h0 hk => h.1 k h0 hk (by omega)
theorem DnI.done {Q : List Nat} {i n : Nat} (h : DnI Q i n) (e : ∀ k, 0 < k → k < n → (k - 1) / 2 = i → nq Q i ≤ nq Q k) : HeapN Q n := fun k h0 hk => by
  by_cases c : (k - 1) / 2 = i
  · rw [c]; exact e k h0 hk c
  · exact h.1 k h0 hk c
theorem DnI.step {Q : List Nat} {i n j : Nat} (h : DnI Q i n) (hn : n ≤ Q.length) (hj : j < n) (j0 : 0 < j) (hi : (j - 1) / 2 = i) (lt : nq Q j < nq Q i) (mn : ∀ k, 0 < k → k < n → (k - 1) / 2 = i → nq Q j ≤ nq Q k) : DnI (swq Q i j) j n := by
  obtain ⟨h1, h2⟩ := h
  have il : i < Q.length := by omega
  have jl : j < Q.length := by omega
  refine ⟨fun k k0 kl kp => ?_, fun k k0 kl kp _ => ?_⟩
  · rw [nq_swq _ _ _ _ il jl, nq_swq _ _ _ _ il jl, if_neg kp]
    by_cases d : (k - 1) / 2 = i
    · rw [if_pos d]
      by_cases c : k = j
      · rw [if_pos c]; omega
      · rw [if_neg c, if_neg (by omega)]; exact mn k k0 kl d
    · rw [if_neg d, if_neg (by omega)]
      by_cases c : k = i
      · rw [if_pos c, c]; exact h2 j j0 hj hi (by omega)
      · rw [if_neg c]; exact h1 k k0 kl d
  · rw [nq_swq _ _ _ _ il jl, nq_swq _ _ _ _ il jl, hi, if_neg (by omega), if_pos rfl, if_neg (by omega), if_neg (by omega)]
    have a := h1 k k0 kl (by omega)
    rw [kp] at a; exact a
/-- the smaller one of two children -/
theorem child2 {Q : List Nat} {i n : Nat} (h1 : 2 * i + 2 < n) (lt : nq Q (2 * i + 2) < nq Q (2 * i + 1)) (k : Nat) (k0 : 0 < k) (kl : k < n) (e : (k - 1) / 2 = i) : nq Q (2 * i + 2) ≤ nq Q k := by
  have : k = 2 * i + 1 ∨ k = 2 * i + 2 := by omega
  rcases this with rfl | rfl <;> omega
theorem child1 {Q : List Nat} {i n : Nat} (h1 : 2 * i + 1 < n) (lt : 2 * i + 2 < n → nq Q (2 * i + 1) ≤ nq Q (2 * i + 2)) (k : Nat) (k0 : 0 < k) (kl : k < n) (e : (k - 1) / 2 = i) : nq Q (2 * i + 1) ≤ nq Q k := by
  have : k = 2 * i + 1 ∨ k = 2 * i + 2 := by omega
  rcases this with rfl | rfl
  · omega
  · exact lt kl
/-- the first number of a heap is the least one -/
theorem HeapN.least {Q : List Nat} {n : Nat} (h : HeapN Q n) : ∀ k, k < n → nq Q 0 ≤ nq Q k := by
  intro k
  induction k using Nat.strongRecOn with
  | _ k ih =>
    intro hk
    by_cases c : k = 0
    · rw [c]; omega
    · have a := ih ((k - 1) / 2) (by omega) (by omega)
      have b := h k (by omega) hk
      omega
theorem HeapN.more {Q : List Nat} (x : Nat) (h : HeapN Q Q.length) : UpI (Q ++ [x]) Q.length := by
  refine ⟨fun k k0 kl kn => ?_, fun k k0 kl kp p0 => ?_⟩
  · rw [List.length_append, List.length_singleton] at kl
    rw [nq_app _ _ _ (by omega), nq_app _ _ _ (by omega)]; exact h k k0 (by omega)
  · rw [List.length_append, List.length_singleton] at kl
    omega
theorem HeapN.first {Q : List Nat} {m : Nat} (h : HeapN Q Q.length) (hm : Q.length = m + 1) : DnI (swq Q 0 m) 0 m := by
  refine ⟨fun k k0 kl kp => ?_, fun k k0 kl kp p0 => by omega⟩
  rw [nq_swq _ _ _ _ (by omega) (by omega), nq_swq _ _ _ _ (by omega) (by omega), if_neg (by omega), if_neg kp, if_neg (by omega), if_neg (by omega)]
  exact h k k0 (by omega)
theorem HeapN.take {Q : List Nat} {m : Nat} (h : HeapN Q m) (hm : m ≤ Q.length) : HeapN (Q.take m) (Q.take m).length := fun k k0 kl => by
  rw [List.length_take] at kl
  rw [nq_take _ _ _ (by omega), nq_take _ _ _ (by omega)]
  exact h k k0 (by omega)
attribute [irreducible] nq swq
end Go.Proofs.Ytgnpakpnocbhhaa
