/-
  haymowlaw02.FieldPacks: its two lists as they come in.
-/
import Derived.Test.YtgpligkheipoaaaDoorPacksWalk
import Derived.Test.YtgpligkheipoaaaDoorLaid02
import Derived.Deep.Slices
namespace Go.Proofs.YtgpligkheipoaaaDoor
open Go.ChangeShapes Go.WideShapes Go.ChangeAt Go.RowKit Go.Joins
set_option linter.unusedVariables false

theorem list_of {α : Type} (P : Nat → α → Prop) : ∀ n, (∀ i, i < n → ∃ x, P i x) → ∃ L : List α, L.length = n ∧ ∀ i x, L[i]? = some x → P i x
  | 0, _ => ⟨[], rfl, fun i x h => by simp at h⟩
  | n + 1, h => by
    obtain ⟨L, hl, hp⟩ := list_of P n (fun i hi => h i (by omega))
    obtain ⟨x, hx⟩ := h n (by omega)
    refine ⟨L ++ [x], by simp [hl], fun i y hy => ?_⟩
    by_cases c : i < n
    · rw [List.getElem?_append_left (by omega)] at hy; exact hp i y hy
    · have e : i = n := by
        have := (List.getElem?_eq_some_iff.1 hy).1
        simp at this; omega
      subst e
      rw [List.getElem?_append_right (by omega), hl] at hy
      simp at hy
      subst hy; exact hx

section
variable {H : Type} {enc : TypeId × Value → H} {W : World} {base : Nat} {spare : Nat → Bool} {held : Bool}
theorem add_none (b o i : Nat) : (⟨b, o, none⟩ : Addr).add i = ⟨b, o + i, none⟩ := by unfold Addr.add; split <;> simp_all
theorem fields_in {a : Option Addr} {n cap : Nat} {d : DataW H} {p : List MemPlace} (h : DataW.Trod enc Tryd.prog W base spare held 42 (.slice a n cap) d p) :
    n ≤ maxLen ∧ (n ≤ 1000000 → ∃ F : List (Int × Int), F.length = n ∧ FList W (.slice a n cap) F) := by
  obtain ⟨fuel, hf⟩ := h
  rcases Go.Deep.open_slice Tryd.underlying42 hf with ⟨hcs, _⟩ | ⟨x, l, c, m, q, D, Pl, hcs, _, hl, hc, hm, _, hi⟩
  · simp [Value.cells] at hcs
    obtain ⟨rfl, rfl, rfl⟩ := hcs
    exact ⟨by unfold maxLen; omega, fun _ => ⟨[], rfl, none, 0, rfl, by simp, by simp, .inl rfl⟩⟩
  · simp [Value.cells] at hcs
    obtain ⟨rfl, rfl, rfl⟩ := hcs
    refine ⟨by omega, fun hn => ?_⟩
    have hnm : n ≤ m := by rw [hm]; split <;> omega
    by_cases c0 : n = 0
    · subst c0; exact ⟨[], rfl, some x, cap, rfl, by simp, by simp, .inl rfl⟩
    obtain ⟨b, off, spot⟩ := x
    have hspot : spot = none := by
      obtain ⟨cs', hc1, hc2⟩ := hi 0 (by omega)
      obtain ⟨s, t, rfl, _, _⟩ := field_of_trod hc2
      rw [cellsF] at hc1
      obtain ⟨_, _, hat⟩ := World.cells?_some hc1
      have h0 := hat 0 (by omega)
      have h1 := World.cell?_spot h0
      simpa [Addr.add] using h1
    subst hspot
    have key : ∀ i, i < n → ∃ y : Int × Int, y.1 ≤ 9223372036854775807 ∧ W.cell? ⟨b, off + i * 2, none⟩ = some (.int .i64 y.1) ∧ W.cell? ⟨b, off + i * 2 + 1, none⟩ = some (.int .i64 y.2) := fun i hin => by
      obtain ⟨cs', hc1, hc2⟩ := hi i (by omega)
      obtain ⟨s, t, rfl, ws, wt⟩ := field_of_trod hc2
      rw [cellsF] at hc1
      obtain ⟨_, _, hat⟩ := World.cells?_some hc1
      have h0 := hat 0 (by omega)
      have h1 := hat 1 (by omega)
      simp only [add_none] at h0 h1
      exact ⟨(s, t), int_of_wf ws, by simpa using h0, by simpa using h1⟩
    obtain ⟨F, hF, hp⟩ := list_of _ n key
    obtain ⟨y, _, hc1, _⟩ := key 0 (by omega)
    refine ⟨F, hF, some ⟨b, off, none⟩, cap, by rw [hF], by omega, fun x hx => ?_, .inr ⟨b, off, rfl, World.block_lt_of_cell? W _ hc1, fun i x hx => (hp i x hx).2⟩⟩
    obtain ⟨i, hi, rfl⟩ := List.getElem_of_mem hx
    exact (hp i _ (List.getElem?_eq_getElem hi)).1
theorem words_in {a : Option Addr} {n cap : Nat} {d : DataW H} {p : List MemPlace} (h : DataW.Trod enc Tryd.prog W base spare held 43 (.slice a n cap) d p) :
    n ≤ maxLen ∧ (n ≤ 1000000 → ∃ N : List Nat, N.length = n ∧ NList W (.slice a n cap) N) := by
  obtain ⟨fuel, hf⟩ := h
  rcases open_ints Tryd.underlying43 Tryd.underlying22 (by kernel_rfl) hf with ⟨hcs, _⟩ | ⟨x, l, c, zs, hcs, _, hl, hm, hz, _, hcell, hwz⟩
  · simp [Value.cells] at hcs
    obtain ⟨rfl, rfl, rfl⟩ := hcs
    exact ⟨by unfold maxLen; omega, fun _ => ⟨[], rfl, none, 0, rfl, by simp, by simp, .inl rfl⟩⟩
  · simp [Value.cells] at hcs
    obtain ⟨rfl, rfl, rfl⟩ := hcs
    refine ⟨by omega, fun hn => ?_⟩
    have hnm : n ≤ zs.length := by rw [hz]; split <;> omega
    by_cases c0 : n = 0
    · subst c0; exact ⟨[], rfl, some x, cap, rfl, by simp, by simp, .inl rfl⟩
    obtain ⟨b, off, spot⟩ := x
    have hspot : spot = none := by simpa [Addr.add] using World.cell?_spot (hcell 0 (by omega))
    subst hspot
    have key : ∀ i, i < n → ∃ y : Nat, y < 18446744073709551616 ∧ W.cell? ⟨b, off + i, none⟩ = some (.int .u64 (y : Int)) := fun i hin => by
      have h0 := hcell i (by omega)
      rw [add_none] at h0
      obtain ⟨y, e, hy⟩ := word_of_wf (hwz zs[i] (List.getElem_mem (by omega)))
      exact ⟨y, hy, by rw [h0, ← e]; simp [List.getD, List.getElem?_eq_getElem (show i < zs.length by omega)]⟩
    obtain ⟨N, hN, hp⟩ := list_of _ n key
    obtain ⟨y, _, hc1⟩ := key 0 (by omega)
    refine ⟨N, hN, some ⟨b, off, none⟩, cap, by rw [hN], by omega, fun x hx => ?_, .inr ⟨b, off, rfl, World.block_lt_of_cell? W _ hc1, fun i x hx => (hp i x hx).2⟩⟩
    obtain ⟨i, hi, rfl⟩ := List.getElem_of_mem hx
    exact (hp i _ (List.getElem?_eq_getElem hi)).1
end

set_option maxRecDepth 100000 in
theorem packs_long (a b : Option Addr) (n m c c2 : Nat) (hn : n ≤ maxLen) (hm : m ≤ maxLen) (h : 70 < n ∨ 70 < m) (w : World) (hT : Tab w) :
    Calls Tryd.prog 5 #[.slice a n c, .slice b m c2] w fun e w' => e = .returned (.bool true) ∧ Below w.heap.size w w' := by
  unfold maxLen at hn hm
  by_cases h1 : 70 < n
  · have hn' : (70 : Int) < (n : Int) := by omega
    clear h h1
    go_enter Tryd.func5, Tryd.ntmps5
    go_wp2_with (go_at_call 7; refine (awake_any _ hT).mono ?_; rintro e w1 ⟨rfl, hb1⟩)
    go_ret
    exact ⟨rfl, hb1⟩
  · have h2 : (70 : Int) < (m : Int) := by omega
    have h3 : (n : Int) ≤ 70 := by omega
    clear h h1
    go_enter Tryd.func5, Tryd.ntmps5
    go_wp2_with (go_at_call 7; refine (awake_any _ hT).mono ?_; rintro e w1 ⟨rfl, hb1⟩)
    go_ret
    exact ⟨rfl, hb1⟩

theorem packs_walk {H : Type} {enc : TypeId × Value → H} {W : World} {spare : Nat → Bool} {held : Bool} {base : Nat} {a0 a1 : Option Addr} {n0 n1 c0 c1 : Nat} {d0 d1 : DataW H} {p0 p1 : List MemPlace}
    (h0 : DataW.Trod enc Tryd.prog W base spare held 42 (.slice a0 n0 c0) d0 p0) (h1 : DataW.Trod enc Tryd.prog W base spare held 43 (.slice a1 n1 c1) d1 p1) (hT : Tab W) :
    Calls Tryd.prog 5 #[.slice a0 n0 c0, .slice a1 n1 c1] W fun e w' => e = .returned (.bool true) ∧ Below W.heap.size W w' := by
  obtain ⟨m0, f0⟩ := fields_in h0
  obtain ⟨m1, f1⟩ := words_in h1
  by_cases hl : 70 < n0 ∨ 70 < n1
  · exact packs_long a0 a1 n0 n1 c0 c1 m0 m1 hl W hT
  obtain ⟨F, hF, hu⟩ := f0 (by omega)
  obtain ⟨N, hN, hv⟩ := f1 (by omega)
  cases hap : apFrom 0 F
  · exact packs_bad0 _ _ F N W hu hv (by omega) (by omega) hT hap (fun w a b => pack_arg _ _ F N w a b (.inl hap))
  · by_cases hlen : F.length = N.length
    · cases hpk : packFrom 0 F N with
      | some p => exact packs_good _ _ F N W hu hv (by omega) (by omega) hT hap hlen p 0 (.inl ⟨hpk, rfl⟩) (fun w a b => pack_any _ _ F N w a b hap hlen p 0 (.inl ⟨hpk, rfl⟩))
      | none => exact packs_good _ _ F N W hu hv (by omega) (by omega) hT hap hlen 0 2 (.inr ⟨hpk, rfl, rfl⟩) (fun w a b => pack_any _ _ F N w a b hap hlen 0 2 (.inr ⟨hpk, rfl, rfl⟩))
    · exact packs_bad1 _ _ F N W hu hv (by omega) (by omega) hT hap (by simp; omega) (fun w a b => pack_arg _ _ F N w a b (.inr hlen))

end Go.Proofs.YtgpligkheipoaaaDoor
