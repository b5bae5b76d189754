/-
  Lists of words in memory, in a slice of any kind; small laws on worlds. No program in sight.
-/
import Derived.Test.YtibaloamgpcghaaRow
import Derived.Laws.AppendOwn
import Derived.Laws.AppendOwnNone
import Derived.Laws.Rows
import Derived.Lib.SliceRun
namespace Go.Proofs.Ytibaloamgpcghaa
open Go.RowKit
set_option linter.unusedVariables false

theorem add_at (b off j : Nat) : (⟨b, off, none⟩ : Addr).add j = ⟨b, off + j, none⟩ := by unfold Addr.add; split <;> simp_all
/-- a word -/
def pw (n : Nat) : Value := .int .u64 (n : Int)
/-- The list that a slice holds in a world, its elements as p says. -/
def NL (p : Nat → Value) (w : World) (v : Value) (L : List Nat) : Prop := ∃ a cap, v = .slice a L.length cap ∧ L.length ≤ cap ∧ (a = none → cap = 0) ∧ (L.length = 0 ∨ ∃ b off, a = some ⟨b, off, none⟩ ∧ b < w.heap.size ∧ ∀ i, i < L.length → w.cell? ⟨b, off + i, none⟩ = some (p (L.getD i 0)))
theorem NL.below {p : Nat → Value} {w w' : World} {v : Value} {L : List Nat} (h : NL p w v L) (hb : Below w.heap.size w w') : NL p w' v L := by
  obtain ⟨a, cap, rfl, hcap, hnil, h⟩ := h
  refine ⟨a, cap, rfl, hcap, hnil, ?_⟩
  rcases h with h | ⟨b, off, rfl, hlt, hc⟩
  · exact .inl h
  · exact .inr ⟨b, off, rfl, Nat.lt_of_lt_of_le hlt hb.size, fun i hi => (hb.cell (p := ⟨b, off + i, none⟩) hlt).trans (hc i hi)⟩
theorem NL.nil (p : Nat → Value) (w : World) : NL p w (.slice none 0 0) [] := ⟨none, 0, rfl, Nat.le_refl _, fun _ => rfl, .inl rfl⟩
theorem NL.slice {p : Nat → Value} {w : World} {v : Value} {L : List Nat} (h : NL p w v L) : ∃ a cap, v = .slice a L.length cap := by
  obtain ⟨a, cap, e, _⟩ := h
  exact ⟨a, cap, e⟩
theorem NL.of_row {p : Nat → Value} {w : World} {g c : Nat} {L : List Nat} (h : Row w g L.length (fun j => p (L.getD j 0))) (hc : L.length ≤ c) : NL p w (.slice (some ⟨g, 0, none⟩) L.length c) L :=
  ⟨_, c, rfl, hc, (fun e => nomatch e), .inr ⟨g, 0, rfl, h.lt, fun i hi => by rw [Nat.zero_add]; exact h.cell i hi⟩⟩
/-- a list's cells, as an append of it asks for them -/
theorem NL.cells {p : Nat → Value} {w : World} {a : Option Addr} {n cap : Nat} {L : List Nat} (h : NL p w (.slice a n cap) L) : a = none ∧ n = 0 ∧ cap = 0 ∨ ∃ ad, a = some ad ∧ ∀ j u, (L.map p)[j]? = some u → w.cell? (ad.add j) = some u := by
  obtain ⟨a', c', e, hcap, hnil, h⟩ := h
  injection e with e1 e2 e3
  subst e1; subst e2; subst e3
  rcases h with h0 | ⟨b, off, rfl, hb, hc⟩
  · cases a with
    | none => exact .inl ⟨rfl, h0, hnil rfl⟩
    | some x =>
      refine .inr ⟨x, rfl, fun j u hj => ?_⟩
      rw [List.getElem?_eq_none (by simp; omega)] at hj; cases hj
  · refine .inr ⟨_, rfl, fun j u hj => ?_⟩
    have hjn : j < L.length := by
      rcases Nat.lt_or_ge j L.length with h | h
      · exact h
      · rw [List.getElem?_eq_none (by simp; omega)] at hj; cases hj
    rw [add_at, hc j hjn]
    simp [List.getElem?_eq_getElem hjn] at hj
    subst hj
    simp [List.getD, List.getElem?_eq_getElem hjn]
/-- Block g is a row of n cells of type t. -/
def Cells (w : World) (g : Nat) (t : TypeId) (n : Nat) : Prop := ∃ cur, w.heap[g]? = some (.cells cur t (0, 0)) ∧ cur.size = n
theorem Cells.below {w w' : World} {g n : Nat} {t : TypeId} (h : Cells w g t n) (b : Below w.heap.size w w') : Cells w' g t n := by
  obtain ⟨cur, hg, hs⟩ := h
  exact ⟨cur, (b.block g (Array.getElem?_eq_some_iff.1 hg).1).trans hg, hs⟩
theorem Cells.set {w : World} {g n : Nat} {t : TypeId} (h : Cells w g t n) (b i : Nat) (v : Value) : Cells (w.setCell ⟨b, i, none⟩ v) g t n := by
  obtain ⟨cur, hg, hs⟩ := h
  by_cases e : g = b
  · subst e
    exact ⟨_, heap_setCell_same w g i cur t v hg, by simpa using hs⟩
  · exact ⟨cur, (heap_setCell_other w ⟨b, i, none⟩ g v e).trans hg, hs⟩
theorem Cells.drew {w : World} {g n : Nat} {t : TypeId} (h : Cells w g t n) : Cells w.drew g t n := h
/-- a row that is known cell by cell, as an append asks for it -/
theorem own_of_row {w : World} {g n c size B : Nat} {t : TypeId} {f : Nat → Value} (h : Cells w g t (c * size)) (r : Row w g (n * size) f) (hn : n ≤ c) (hm : c ≤ maxLen) (hB : B ≤ g) : w.ownsRow B t size (.slice (some ⟨g, 0, none⟩) n c) n ((List.range (n * size)).map f) := by
  obtain ⟨cur, hg, hs⟩ := h
  have hle : n * size ≤ c * size := Nat.mul_le_mul_right _ hn
  refine ⟨by simp, .inr ⟨g, c, cur, rfl, hB, hg, hn, hm, hs, ?_⟩⟩
  refine List.ext_getElem? fun j => ?_
  by_cases hj : j < n * size
  · have e := r.cell j hj
    rw [cell_of_row w g j _ _ _ hg] at e
    rw [List.getElem?_take_of_lt hj]
    simpa [hj] using e
  · rw [List.getElem?_eq_none (by simp; omega), List.getElem?_eq_none (by simp; omega)]
/-- a row of one's own, cell by cell -/
theorem Row.of_ownsG {w : World} {B : Nat} {t : TypeId} {size : Nat} {v : Value} {n : Nat} {xs : List Value} {f : Nat → Value} (h : w.ownsRow B t size v n xs) (hv : v ≠ .slice none 0 0) (hf : ∀ j, j < n * size → xs[j]? = some (f j)) : ∃ g cap, v = .slice (some ⟨g, 0, none⟩) n cap ∧ n ≤ cap ∧ B ≤ g ∧ Row w g (n * size) f ∧ cap ≤ maxLen ∧ Cells w g t (cap * size) := by
  rcases h.2 with ⟨h0, _⟩ | ⟨g, cap, cur, rfl, hb, hg, hn, hm, hs, ht⟩
  · exact absurd h0 hv
  · refine ⟨g, cap, rfl, hn, hb, ⟨(Array.getElem?_eq_some_iff.1 hg).1, fun j hj => ?_, fun j => frozen_of_row w g j _ _ hg⟩, hm, cur, hg, hs⟩
    rw [cell_of_row w g j _ _ _ hg]
    have e := hf j hj
    rw [← ht, List.getElem?_take_of_lt hj] at e
    simpa using e
theorem info_parts2 {P : Program} {t : TypeId} {z : Value} {s b : Nat} (h : (P.info? t).map (fun i => (i.zero, i.size, i.bytes)) = some (some z, s, b)) : ∃ i, P.info? t = some i ∧ i.zero = some z ∧ i.size = s ∧ i.bytes = b := by
  cases hi : P.info? t with
  | none => rw [hi] at h; cases h
  | some i =>
    rw [hi] at h
    simp at h
    exact ⟨i, rfl, h.1, h.2.1, h.2.2⟩

end Go.Proofs.Ytibaloamgpcghaa
