/-
  Lists of pairs of integers ([][2]int) of one's own: appended, cut in two and joined.
-/
import Derived.Test.YthigcabmmhjooaaLibF
import Derived.Test.YthigcabmmhjooaaLibD
import Derived.Deep.Slices
import Derived.KernelRfl
namespace Go.Proofs.Ythigcabmmhjooaa
open Go.RowKit
set_option linter.unusedVariables false

/-- a pair's cells -/
def pcell (E : List (Nat × Nat)) (j : Nat) : Value := pe (if j % 2 = 0 then (E.getD (j / 2) (0, 0)).1 else (E.getD (j / 2) (0, 0)).2)
theorem pcell_one (E : List (Nat × Nat)) (j : Nat) : (pcell E j).oneCell' = true := rfl
theorem pcell_0 (E : List (Nat × Nat)) (i : Nat) : pcell E (i * 2) = pe (E.getD i (0, 0)).1 := by unfold pcell; rw [if_pos (by omega), show i * 2 / 2 = i by omega]
theorem pcell_1 (E : List (Nat × Nat)) (i : Nat) : pcell E (i * 2 + 1) = pe (E.getD i (0, 0)).2 := by unfold pcell; rw [if_neg (by omega), show (i * 2 + 1) / 2 = i by omega]
theorem pcell_same {E E' : List (Nat × Nat)} {j j' : Nat} (h : j % 2 = j' % 2) (e : E.getD (j / 2) (0, 0) = E'.getD (j' / 2) (0, 0)) : pcell E j = pcell E' j' := by unfold pcell; rw [h, e]
/-- the cells of a list of pairs, in their order -/
def pcells (E : List (Nat × Nat)) : List Value := (List.range (E.length * 2)).map (pcell E)
theorem pcells_len (E : List (Nat × Nat)) : (pcells E).length = E.length * 2 := by unfold pcells; simp
theorem pcells_get (E : List (Nat × Nat)) (j : Nat) (hj : j < E.length * 2) : (pcells E)[j]? = some (pcell E j) := by unfold pcells; simp [hj]
theorem pcells_app (E E' : List (Nat × Nat)) : pcells (E ++ E') = pcells E ++ pcells E' := by
  refine List.ext_getElem? fun j => ?_
  by_cases h : j < E.length * 2
  · rw [List.getElem?_append_left (by rw [pcells_len]; exact h), pcells_get _ _ h, pcells_get _ _ (by rw [List.length_append]; omega)]
    refine congrArg some (pcell_same rfl ?_)
    have : j / 2 < E.length := by omega
    simp [List.getD, List.getElem?_append_left this]
  · rw [List.getElem?_append_right (by rw [pcells_len]; omega), pcells_len]
    by_cases k : j < (E ++ E').length * 2
    · have k' : j - E.length * 2 < E'.length * 2 := by rw [List.length_append] at k; omega
      rw [pcells_get _ _ k, pcells_get _ _ k']
      refine congrArg some (pcell_same (by omega) ?_)
      have e : (j - E.length * 2) / 2 = j / 2 - E.length := by omega
      rw [e]
      simp [List.getD, List.getElem?_append_right (show E.length ≤ j / 2 by omega)]
    · rw [List.getElem?_eq_none (by rw [pcells_len]; omega), List.getElem?_eq_none (by rw [pcells_len]; rw [List.length_append] at k; omega)]
/-- a list of pairs that a slice holds -/
def PQ (w : World) (v : Value) (E : List (Nat × Nat)) : Prop := ∃ a cap, v = .slice a E.length cap ∧ E.length ≤ cap ∧ (a = none → cap = 0) ∧ (E.length = 0 ∨ ∃ b off, a = some ⟨b, off, none⟩ ∧ b < w.heap.size ∧ ∀ j, j < E.length * 2 → w.cell? ⟨b, off + j, none⟩ = some (pcell E j))
theorem PQ.below {w w' : World} {v : Value} {E : List (Nat × Nat)} (h : PQ w v E) (k : Below w.heap.size w w') : PQ w' v E := by
  obtain ⟨a, cap, rfl, hcap, hnil, h⟩ := h
  refine ⟨a, cap, rfl, hcap, hnil, ?_⟩
  rcases h with h | ⟨b, off, rfl, hlt, hc⟩
  · exact .inl h
  · exact .inr ⟨b, off, rfl, Nat.lt_of_lt_of_le hlt k.size, fun j hj => (k.cell (p := ⟨b, off + j, none⟩) hlt).trans (hc j hj)⟩
theorem PQ.at {w : World} {a : Option Addr} {n cap : Nat} {E : List (Nat × Nat)} (h : PQ w (.slice a n cap) E) {k : Nat} (hk : k < E.length) : ∃ b off, a = some ⟨b, off, none⟩ ∧ b < w.heap.size ∧ w.cell? ⟨b, off + k * 2, none⟩ = some (pe (E.getD k (0, 0)).1) ∧ w.cell? ⟨b, off + k * 2 + 1, none⟩ = some (pe (E.getD k (0, 0)).2) := by
  obtain ⟨a', c', e, _, _, h⟩ := h
  injection e with e1 e2 e3
  subst e1
  obtain ⟨b, off, rfl, hb, hc⟩ := h.resolve_left (by omega)
  exact ⟨b, off, rfl, hb, by rw [hc (k * 2) (by omega), pcell_0], by rw [Nat.add_assoc, hc (k * 2 + 1) (by omega), pcell_1]⟩
/-- the first k, what lies behind the first k -/
theorem PQ.take {w : World} {a : Option Addr} {n cap k : Nat} {E : List (Nat × Nat)} (h : PQ w (.slice a n cap) E) (hk : k ≤ n) : PQ w (.slice a k cap) (E.take k) := by
  obtain ⟨a', c', e, hcap, hnil, h⟩ := h
  injection e with e1 e2 e3
  subst e1; subst e2; subst e3
  have hl : (E.take k).length = k := by rw [List.length_take]; omega
  refine ⟨a, cap, by rw [hl], by omega, hnil, ?_⟩
  rw [hl]
  rcases h with h0 | ⟨b, off, rfl, hb, hc⟩
  · exact .inl (by omega)
  · refine .inr ⟨b, off, rfl, hb, fun j hj => ?_⟩
    rw [hc j (by omega)]
    refine congrArg some (pcell_same rfl ?_)
    simp [List.getD, List.getElem?_take_of_lt (show j / 2 < k by omega)]
theorem PQ.drop {w : World} {a : Option Addr} {n cap k : Nat} {E : List (Nat × Nat)} (h : PQ w (.slice a n cap) E) (hk : k ≤ n) (x : Option Addr) (cap' : Nat) (hx : cap ≠ k → x = a.map fun y => y.add (k * 2)) (hcap' : cap' = cap - k) : PQ w (.slice x (n - k) cap') (E.drop k) := by
  obtain ⟨a', c', e, hcap, hnil, h⟩ := h
  injection e with e1 e2 e3
  subst e1; subst e2; subst e3; subst hcap'
  refine ⟨x, _, by rw [List.length_drop], by rw [List.length_drop]; omega, fun hx0 => ?_, ?_⟩
  · by_cases e : cap = k
    · omega
    · have := hx e
      rw [hx0] at this
      cases a with
      | none => have := hnil rfl; omega
      | some y => cases this
  rw [List.length_drop]
  by_cases h0 : E.length - k = 0
  · exact .inl h0
  · obtain ⟨b, off, rfl, hb, hc⟩ := h.resolve_left (by omega)
    refine .inr ⟨b, off + k * 2, ?_, hb, fun j hj => ?_⟩
    · rw [hx (by omega)]
      simp only [Option.map_some, Addr.add]
      split <;> simp_all
    · rw [Nat.add_assoc, hc (k * 2 + j) (by omega)]
      refine congrArg some (pcell_same (by omega) ?_)
      rw [show (k * 2 + j) / 2 = k + j / 2 by omega]
      simp [List.getD, List.getElem?_drop]
end Go.Proofs.Ythigcabmmhjooaa
