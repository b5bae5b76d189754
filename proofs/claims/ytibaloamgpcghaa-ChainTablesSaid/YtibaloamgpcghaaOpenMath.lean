/-
  What Open makes of a list of spaces. No program in sight.
-/
import Derived.Test.YtibaloamgpcghaaPut
import Derived.Deep.AppendLies
namespace Go.Proofs.Ytibaloamgpcghaa
open Go.RowKit
set_option linter.unusedVariables false

/-- the first number that is free -/
def firstc : List Spc → Nat
  | [] => 0
  | x :: l => if x.1 then firstc l + 1 else 0
theorem firstc_eq (L : List Spc) (k : Nat) (h : ∀ j, j < k → (L.getD j (false, [])).1 = true) (hk : k = L.length ∨ k < L.length ∧ (L.getD k (false, [])).1 = false) : firstc L = k := by
  induction L generalizing k with
  | nil =>
    rcases hk with e | ⟨e, _⟩
    · rw [e]; rfl
    · simp at e
  | cons x l ih =>
    cases k with
    | zero =>
      rcases hk with e | ⟨_, e⟩
      · simp at e
      · have : x.1 = false := e
        show (if x.1 then firstc l + 1 else 0) = 0
        rw [this]; rfl
    | succ k =>
      have h0 : x.1 = true := h 0 (by omega)
      show (if x.1 then firstc l + 1 else 0) = k + 1
      rw [h0, if_pos rfl, ih k (fun j hj => h (j + 1) (by omega)) (by simpa using hk)]
/-- a list behind an Open of n words -/
def opened (L : List Spc) (n : Nat) : List Spc := if firstc L < L.length then L.set (firstc L) (true, List.replicate n 0) else L ++ [(true, List.replicate n 0)]
theorem Row.belowB {w w' : World} {g n B : Nat} {f : Nat → Value} (h : Row w g n f) (b : Below B w w') (hg : g < B) : Row w' g n f :=
  ⟨Nat.lt_of_lt_of_le h.lt b.size, fun j hj => by rw [b.cell (p := ⟨g, j, none⟩) hg]; exact h.cell j hj, fun j => by rw [b.frozen (p := ⟨g, j, none⟩) hg]; exact h.free j⟩
theorem PRow.belowB {w w' : World} {s a b B : Nat} {v : Value} {h g : Int} (r : PRow w s v a b h g) (k : Below B w w') (hs : s < B) : PRow w' s v a b h g := Row.belowB r k hs
/-- A list of spaces in a block of the call's own, place k aside each with its words in a block of its own. -/
structure OH (w : World) (B g k : Nat) (L : List Spc) (U : Nat → Value) : Prop where
  lo : B ≤ g
  row : Row w g (L.length * 2) (scell L U)
  nb : ∀ i, i < L.length → i ≠ k → ∃ gi ci, U i = .slice (some ⟨gi, 0, none⟩) (L.getD i (false, [])).2.length ci ∧ (L.getD i (false, [])).2.length ≤ ci ∧ B ≤ gi ∧ gi ≠ g ∧ Row w gi (L.getD i (false, [])).2.length (fun j => pw ((L.getD i (false, [])).2.getD j 0))
theorem OS.oh {w : World} {B g : Nat} {L : List Spc} {G C : Nat → Nat} (h : OS w B g L G C) (k : Nat) : OH w B g k L (uval L G C) :=
  ⟨h.lo, h.row, fun i hi _ => ⟨G i, C i, uval_eq L G C i, h.cap i hi, h.blo i hi, h.ne i hi, h.wrow i hi⟩⟩
theorem OH.below {w w' : World} {B g k : Nat} {L : List Spc} {U : Nat → Value} (h : OH w B g k L U) (b : Below w.heap.size w w') : OH w' B g k L U :=
  ⟨h.lo, h.row.below b, fun i hi hk => by
    obtain ⟨gi, ci, e, h1, h2, h3, r⟩ := h.nb i hi hk
    exact ⟨gi, ci, e, h1, h2, h3, r.below b⟩⟩
theorem OH.drew {w : World} {B g k : Nat} {L : List Spc} {U : Nat → Value} (h : OH w B g k L U) : OH w.drew B g k L U :=
  ⟨h.lo, h.row.drew, fun i hi hk => by
    obtain ⟨gi, ci, e, h1, h2, h3, r⟩ := h.nb i hi hk
    exact ⟨gi, ci, e, h1, h2, h3, r.drew⟩⟩
theorem OH.low {w : World} {B g k : Nat} {L : List Spc} {U : Nat → Value} (h : OH w B g k L U) {p : Addr} (hp : p.block < B) (x : Value) : OH (w.setCell p x) B g k L U :=
  ⟨h.lo, h.row.far x (by have := h.lo; omega), fun i hi hk => by
    obtain ⟨gi, ci, e, h1, h2, h3, r⟩ := h.nb i hi hk
    exact ⟨gi, ci, e, h1, h2, h3, r.far x (by omega)⟩⟩
/-- the space at place k is laid -/
theorem OH.put {w : World} {B g k : Nat} {L : List Spc} {U : Nat → Value} (h : OH w B g k L U) {c : Nat} (hc : L.length ≤ c) (hk : k < L.length) (o : Bool) {u : Value} {ws : List Nat} {H : Nat} (hu : NB pw w H u ws) (hg : g < H) (hB : B ≤ H) :
    SB ((w.setCell ⟨g, k * 2, none⟩ (.bool o)).setCell ⟨g, k * 2 + 1, none⟩ u) B (.slice (some ⟨g, 0, none⟩) L.length c) (L.set k (o, ws)) := by
  refine ⟨g, c, fun i => if i = k then u else U i, by rw [List.length_set], by rw [List.length_set]; exact hc, h.lo, ?_, fun i hi => ?_⟩
  · rw [List.length_set]
    refine ((h.row.set (k * 2) (by omega) _).set (k * 2 + 1) (by omega) _).congr fun j hj => ?_
    have e := scell_put L U (fun i => if i = k then u else U i) k (o, ws) hk (fun i hi => if_neg hi) j
    rw [if_pos rfl] at e
    exact e
  · rw [List.length_set] at hi
    rw [getD_set L k i (o, ws) hk]
    show NB pw _ B (if i = k then u else U i) _
    by_cases e : i = k
    · rw [if_pos e, if_pos e]
      exact ((hu.low (q := ⟨g, k * 2, none⟩) hg _).low (q := ⟨g, k * 2 + 1, none⟩) hg _).mono hB
    · rw [if_neg e, if_neg e]
      obtain ⟨gi, ci, eu, h1, h2, h3, r⟩ := h.nb i hi e
      rw [eu]
      exact NB.of_row ((r.far _ (fun q => h3 q.symm)).far _ (fun q => h3 q.symm)) h1 h2
/-- a closed space behind the last one -/
theorem OS.more {w w' : World} {B g g' : Nat} {L : List Spc} {G C : Nat → Nat} (h : OS w B g L G C) (row : Row w' g' ((L.length + 1) * 2) (scell (L ++ [(false, [])]) (fun i => if i < L.length then uval L G C i else .slice none 0 0))) (hg : g' = g ∨ w.heap.size ≤ g') (hr : w.grownBy w' (some g)) :
    OH w' B g' L.length (L ++ [(false, [])]) (fun i => if i < L.length then uval L G C i else .slice none 0 0) := by
  have lo : B ≤ g' := by
    rcases hg with e | e
    · rw [e]; exact h.lo
    · have := h.lo; have := h.row.lt; omega
  refine ⟨lo, by rw [List.length_append]; exact row, fun i hi hk => ?_⟩
  have hil : i < L.length := by rw [List.length_append] at hi; simp at hi; omega
  have gd : (L ++ [(false, [])]).getD i (false, []) = L.getD i (false, []) := by simp [List.getD, List.getElem?_append_left hil]
  rw [gd]
  refine ⟨G i, C i, by rw [if_pos hil, uval_eq], h.cap i hil, h.blo i hil, ?_, ?_⟩
  · rcases hg with e | e
    · rw [e]; exact h.ne i hil
    · have := (h.wrow i hil).lt; omega
  · have r := h.wrow i hil
    have hb : w'.heap[G i]? = w.heap[G i]? := hr.block (G i) r.lt (fun e => h.ne i hil (Option.some.inj e))
    exact ⟨Nat.lt_of_lt_of_le r.lt hr.size, fun j hj => by rw [World.cell?_of_block (w := w) hb]; exact r.cell j hj, fun j => by rw [World.frozen?_of_block (w := w) hb]; exact r.free j⟩
theorem NB.drew {p : Nat → Value} {w : World} {B : Nat} {v : Value} {L : List Nat} (h : NB p w B v L) : NB p w.drew B v L := h
theorem SB.drew {w : World} {B : Nat} {v : Value} {L : List Spc} (h : SB w B v L) : SB w.drew B v L := by
  obtain ⟨g, cap, U, e, hc, hg, r, hw⟩ := h
  exact ⟨g, cap, U, e, hc, hg, r.drew, fun i hi => (hw i hi).drew⟩
theorem scell_snoc (L : List Spc) (U : Nat → Value) (x : Spc) (u : Value) : (List.range (L.length * 2)).map (scell L U) ++ [.bool x.1, u] = (List.range ((L.length + 1) * 2)).map (scell (L ++ [x]) (fun i => if i < L.length then U i else u)) := by
  refine List.ext_getElem? fun j => ?_
  by_cases h : j < L.length * 2
  · rw [List.getElem?_append_left (by simpa using h)]
    simp only [List.getElem?_map, List.getElem?_range h, List.getElem?_range (show j < (L.length + 1) * 2 by omega), Option.map_some]
    congr 1
    by_cases o : j % 2 = 0
    · rw [show j = j / 2 * 2 by omega, scell_o, scell_o]
      simp [List.getD, List.getElem?_append_left (show j / 2 < L.length by omega)]
    · rw [show j = j / 2 * 2 + 1 by omega, scell_w, scell_w, if_pos (by omega)]
  · by_cases h0 : j = L.length * 2
    · subst h0
      rw [List.getElem?_append_right (by simp)]
      simp only [List.length_map, List.length_range, Nat.sub_self, List.getElem?_map, List.getElem?_range (show L.length * 2 < (L.length + 1) * 2 by omega), Option.map_some]
      rw [scell_o]
      simp [List.getD]
    · by_cases h1 : j = L.length * 2 + 1
      · subst h1
        rw [List.getElem?_append_right (by simp)]
        simp only [List.length_map, List.length_range, List.getElem?_map, List.getElem?_range (show L.length * 2 + 1 < (L.length + 1) * 2 by omega), Option.map_some]
        rw [scell_w, if_neg (by omega)]
        simp
      · rw [List.getElem?_eq_none (by simp; omega), List.getElem?_eq_none (by simp; omega)]

attribute [irreducible] firstc opened
end Go.Proofs.Ytibaloamgpcghaa
