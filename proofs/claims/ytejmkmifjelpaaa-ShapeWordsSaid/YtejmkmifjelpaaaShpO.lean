/-
  Shapes that came in: one by value, a list of them.
-/
import Derived.Test.YtejmkmifjelpaaaShpS
import Derived.Test.YtejmkmifjelpaaaRows
import Derived.ProofKit
import Derived.OpenShut
import Derived.Deep.Slices
import Derived.Lib.SmallJoins
namespace Go.Proofs.Ytejmkmifjelpaaa
open Go.ChangeShapes Go.WideShapes Go.ChangeAt Go.RowKit Go.Joins
open Go.WideMaps Go.WideElems
set_option linter.unusedVariables false

theorem own : ownKnob Try.prog.godebug = none := by kernel_rfl
theorem laidOut : laidOutB Try.prog = true := by kernel_rfl
theorem int_of_wf {x : Int} (h : (Lit.int .i64 x).wf = true) : -9223372036854775808 ≤ x ∧ x ≤ 9223372036854775807 := by
  simp [Lit.wf, IntKind.min, IntKind.max, IntKind.signed, IntKind.bits] at h
  omega
theorem cellsP : Try.prog.cellsOf 23 = 2 := by kernel_rfl
theorem cellsI : Try.prog.cellsOf 3 = 1 := by kernel_rfl
theorem list_of {α : Type} (P : Nat → α → Prop) : ∀ n, (∀ i, i < n → ∃ x, P i x) → ∃ L : List α, L.length = n ∧ ∀ i x, L[i]? = some x → P i x
  | 0, _ => ⟨[], rfl, fun i x h => by simp at h⟩
  | n + 1, h => by
    obtain ⟨L, hl, hp⟩ := list_of P n (fun i hi => h i (by omega))
    obtain ⟨x, hx⟩ := h n (by omega)
    refine ⟨L ++ [x], by simp [hl], fun i y hy => ?_⟩
    by_cases c : i < n
    · rw [List.getElem?_append_left (by omega)] at hy; exact hp i y hy
    · have e : i = n := by
        have := (List.getElem?_eq_some_iff.1 hy).1
        simp at this; omega
      subst e
      rw [List.getElem?_append_right (by omega), hl] at hy
      simp at hy
      subst hy; exact hx

section
variable {H : Type} {enc : TypeId × Value → H} {W : World} {base : Nat} {spare : Nat → Bool} {held : Bool}
theorem sh_of_trod {r : Reach} {b0 : Nat} {v : Value} {d : DataW H} {p : List MemPlace} (hv : Value.okWide Try.prog W r b0 23 v) (h : DataW.Trod enc Try.prog W base spare held 23 v d p) :
    ∃ x y : Int, v = sh x y ∧ (Lit.int .i64 x).wf = true ∧ (Lit.int .i64 y).wf = true := by
  obtain ⟨cs, rfl, hsz⟩ := okWide_struct Try.underlying23 hv
  obtain ⟨fuel, hf⟩ := h
  obtain ⟨cs⟩ := cs
  obtain ⟨y0, y1, m, hx, hl, k0, k1⟩ := trod_struct2 Try.underlying23 hf
  rw [cellsP] at hl
  simp only [Value.cells] at hl k0 k1
  match cs, hl with
  | [c0, c1], _ =>
    obtain ⟨a, e0, _, wa⟩ := DataW.trod_int Try.underlying3 k0
    obtain ⟨b, e1, _, wb⟩ := DataW.trod_int Try.underlying3 k1
    simp only [cellsI] at e0 e1
    simp at e0 e1
    exact ⟨a, b, by rw [e0, e1], wa, wb⟩
theorem add_none (b o i : Nat) : (⟨b, o, none⟩ : Addr).add i = ⟨b, o + i, none⟩ := by unfold Addr.add; split <;> simp_all
theorem sh_of_cells {fuel : Nat} {cs : List Value} {y : DataW H × List MemPlace} (h : DataW.trod enc Try.prog W base spare held fuel 23 cs = some y) :
    ∃ a s : Int, cs = [.int .i64 a, .int .i64 s] := by
  obtain ⟨y0, y1, n, hx, hl, h0, h1⟩ := trod_struct2 Try.underlying23 h
  rw [cellsP] at hl
  match cs, hl with
  | [c0, c1], _ =>
    obtain ⟨a, e0, _, wa⟩ := DataW.trod_int Try.underlying3 h0
    obtain ⟨s, e1, _, ws⟩ := DataW.trod_int Try.underlying3 h1
    simp only [cellsI] at e0 e1
    simp at e0 e1
    exact ⟨a, s, by rw [e0, e1]⟩
theorem shapes_in {a : Option Addr} {n cap : Nat} {d : DataW H} {p : List MemPlace} (h : DataW.Trod enc Try.prog W base spare held 31 (.slice a n cap) d p) :
    n ≤ maxLen ∧ (n ≤ 1000000 → ∃ F : List (Int × Int), F.length = n ∧ SList W (.slice a n cap) F) := by
  obtain ⟨fuel, hf⟩ := h
  rcases Go.Deep.open_slice Try.underlying31 hf with ⟨hcs, _⟩ | ⟨x, l, c, m, q, D, Pl, hcs, _, hl, hc, hm, _, hi⟩
  · simp [Value.cells] at hcs
    obtain ⟨rfl, rfl, rfl⟩ := hcs
    exact ⟨by unfold maxLen; omega, fun _ => ⟨[], rfl, none, 0, rfl, by simp, .inl rfl⟩⟩
  · simp [Value.cells] at hcs
    obtain ⟨rfl, rfl, rfl⟩ := hcs
    refine ⟨by omega, fun hn => ?_⟩
    have hnm : n ≤ m := by rw [hm]; split <;> omega
    by_cases c0 : n = 0
    · subst c0; exact ⟨[], rfl, some x, cap, rfl, by simp, .inl rfl⟩
    obtain ⟨b, off, spot⟩ := x
    have hspot : spot = none := by
      obtain ⟨cs', hc1, hc2⟩ := hi 0 (by omega)
      obtain ⟨s, t, rfl⟩ := sh_of_cells hc2
      rw [cellsP] at hc1
      obtain ⟨_, _, hat⟩ := World.cells?_some hc1
      have h0 := hat 0 (by omega)
      have h1 := World.cell?_spot h0
      simpa [Addr.add] using h1
    subst hspot
    have key : ∀ i, i < n → ∃ y : Int × Int, W.cell? ⟨b, off + i * 2, none⟩ = some (.int .i64 y.1) ∧ W.cell? ⟨b, off + i * 2 + 1, none⟩ = some (.int .i64 y.2) := fun i hin => by
      obtain ⟨cs', hc1, hc2⟩ := hi i (by omega)
      obtain ⟨s, t, rfl⟩ := sh_of_cells hc2
      rw [cellsP] at hc1
      obtain ⟨_, _, hat⟩ := World.cells?_some hc1
      have h0 := hat 0 (by omega)
      have h1 := hat 1 (by omega)
      simp only [add_none] at h0 h1
      exact ⟨(s, t), by simpa using h0, by simpa using h1⟩
    obtain ⟨F, hF, hp⟩ := list_of _ n key
    obtain ⟨y, hc1, _⟩ := key 0 (by omega)
    exact ⟨F, hF, some ⟨b, off, none⟩, cap, by rw [hF], by omega, .inr ⟨b, off, rfl, World.block_lt_of_cell? W _ hc1, fun i x hx => hp i x hx⟩⟩
end

end Go.Proofs.Ytejmkmifjelpaaa
