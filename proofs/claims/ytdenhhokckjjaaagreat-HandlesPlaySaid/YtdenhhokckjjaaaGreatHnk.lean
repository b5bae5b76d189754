/-
  Layer 18: numbers of loops, a list of integers made anew. No walk.
-/
import Derived.Test.YtdenhhokckjjaaaGreatLibG
import Derived.Test.YtdenhhokckjjaaaGreatChnC
import Derived.LoopTactic
namespace Go.Proofs.YtdenhhokckjjaaaGreat
open Go.RowKit
set_option linter.unusedVariables false

/-! ### numbers -/
theorem up18 {i n : Nat} (h : i < n) (hn : n ≤ 1000) : (i : Int) < (n : Int) ∧ (i : Int) + 1 = ((i + 1 : Nat) : Int) ∧ wrap64 ((i + 1 : Nat) : Int) = ((i + 1 : Nat) : Int) ∧ IntKind.i64.wrap ((i + 1 : Nat) : Int) = ((i + 1 : Nat) : Int) ∧ (0 : Int) ≤ (i : Int) ∧ ¬ n ≤ i := ⟨by omega, by omega, by unfold wrap64; omega, by rw [IntKind.wrap_i64]; omega, by omega, by omega⟩
theorem meas18 {i i1 n : Nat} (h : i + 1 = i1) (hn : i < n) : n - (intOf (.int .i64 (i1 : Int))).toNat < n - (intOf (.int .i64 (i : Int))).toNat := by
  subst h
  show n - (((i + 1 : Nat) : Int)).toNat < n - ((i : Int)).toNat
  rw [Int.toNat_natCast, Int.toNat_natCast]; omega
theorem rem18 (id : Int) (n : Nat) (h : 1 ≤ n) (hn : n ≤ 1000) : ∃ (r1 : Int) (kk : Nat), id.tmod (n : Int) = r1 ∧ wrap64 r1 = r1 ∧ wrap64 (r1 + (n : Int)) = r1 + (n : Int) ∧ (r1 + (n : Int)).tmod (n : Int) = (kk : Int) ∧ wrap64 (kk : Int) = (kk : Int) ∧ kk < n := by
  have a := Int.tmod_lt_of_pos id (b := (n : Int)) (by omega)
  have b := Int.lt_tmod_of_pos id (b := (n : Int)) (by omega)
  have c : 0 ≤ id.tmod (n : Int) + (n : Int) := by omega
  have d := Int.emod_nonneg (id.tmod (n : Int) + (n : Int)) (b := (n : Int)) (by omega)
  have e := Int.emod_lt_of_pos (id.tmod (n : Int) + (n : Int)) (b := (n : Int)) (by omega)
  obtain ⟨kk, hk⟩ := Int.eq_ofNat_of_zero_le d
  refine ⟨_, kk, rfl, by unfold wrap64; omega, by unfold wrap64; omega, ?_, wrap_small (by omega), by omega⟩
  rw [Int.tmod_eq_emod_of_nonneg c]; exact hk
theorem pos18 {n : Nat} (h : 0 < n) : (0 : Int) < (n : Int) ∧ ((n : Int) == 0) = false ∧ ¬ n = 0 := ⟨by omega, by simp; omega, by omega⟩
theorem kne18 {k : Int} (h : ¬ k = 0) : (k != 0) = true := by simpa using h
theorem keq18 {k : Int} (h : k = 0) : (k != 0) = false := by simpa using h
theorem kk18 {k n : Nat} (h : k < n) (hn : n ≤ 80) : ((k + 1 : Nat) : Int) = (k : Int) + 1 ∧ wrap64 ((k : Int) + 1) = (k : Int) + 1 ∧ IntKind.i64.wrap ((k : Int) + 1) = (k : Int) + 1 ∧ (k : Int) < (n : Int) := ⟨by omega, by unfold wrap64; omega, by rw [IntKind.wrap_i64]; omega, by omega⟩
theorem NL.at18 {p : Nat → Value} {w : World} {a : Option Addr} {n c : Nat} {L : List Nat} (h : NL p w (.slice a n c) L) {i : Nat} (hi : i < L.length) : ∃ b off, a = some ⟨b, off, none⟩ ∧ w.cell? ⟨b, off + i, none⟩ = some (p (L.getD i 0)) := by
  obtain ⟨a', c', e, _, _, h⟩ := h
  injection e with e1 e2 e3
  subst e1
  rcases h with h | ⟨b, off, rfl, _, hc⟩
  · omega
  · exact ⟨b, off, rfl, hc i hi⟩
theorem NL.cap18 {p : Nat → Value} {w : World} {a : Option Addr} {n c : Nat} {L : List Nat} (h : NL p w (.slice a n c) L) : n ≤ c ∧ n = L.length := by
  obtain ⟨a', c', e, h1, _, _⟩ := h
  injection e with e1 e2 e3
  subst e2; subst e3
  exact ⟨h1, rfl⟩
/-! ### a list of integers made anew -/
theorem ics_map18 (L : List Nat) : ics L = L.map pe := by
  refine List.ext_getElem (by rw [ics_len]; simp) fun i h1 h2 => ?_
  have hi : i < L.length := by simpa using h2
  have e := ics_get L i (by omega)
  rw [List.getElem?_eq_getElem h1] at e
  injection e with e
  rw [e, List.getElem_map]
  unfold ic
  rw [show L.getD i 0 = L[i] by simp [List.getD, hi]]
theorem IO.made18 {w : World} {base : Nat} {v : Value} {L : List Nat} (own : w.ownsRow base 3 1 v L.length (L.map pe)) : IO w (fun j => base ≤ j) v L := by
  by_cases hv : v = .slice none 0 0
  · refine .inl ⟨hv, ?_⟩
    rcases own.2 with ⟨_, h0⟩ | ⟨g, cap, cur, e, _⟩
    · exact List.length_eq_zero_iff.1 h0
    · rw [hv] at e; cases e
  · rw [← ics_map18] at own
    obtain ⟨g, c, rfl, hc, hg, R, hm, ce⟩ := Row.of_ownsG (f := ic L) own hv (fun j hj => ics_get _ _ hj)
    exact .inr ⟨g, c, rfl, hc, hm, hg, R, ce⟩
end Go.Proofs.YtdenhhokckjjaaaGreat
