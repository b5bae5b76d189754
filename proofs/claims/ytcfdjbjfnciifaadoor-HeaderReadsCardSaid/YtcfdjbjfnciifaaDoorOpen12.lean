/-
  A header that came in by value.
-/
import Derived.Test.YtcfdjbjfnciifaaDoorLaid12
namespace Go.Proofs.YtcfdjbjfnciifaaDoor
open Go.ChangeShapes Go.WideShapes Go.ChangeAt Go.RowKit Go.Joins
set_option linter.unusedVariables false

theorem cellsH : Tryd.prog.cellsOf 25 = 5 := by kernel_rfl
theorem cellsS : Tryd.prog.cellsOf 23 = 2 := by kernel_rfl
theorem cellsB : Tryd.prog.cellsOf 4 = 1 := by kernel_rfl
section
variable {H : Type} {enc : TypeId × Value → H} {w : World} {base : Nat} {spare : Nat → Bool} {held : Bool}
theorem hd_of_trod {r : Reach} {b0 : Nat} {v : Value} {d : DataW H} {p : List MemPlace} (hv : Value.okWide Tryd.prog w r b0 25 v) (h : DataW.Trod enc Tryd.prog w base spare held 25 v d p) :
    ∃ (p r s a : Int) (l : Bool), v = hd p r s a l := by
  obtain ⟨cs, rfl, hsz⟩ := okWide_struct Tryd.underlying25 hv
  obtain ⟨fuel, hf⟩ := h
  obtain ⟨xs, n, _, hx, hl, hxl, hall⟩ := DataW.trod_struct Tryd.underlying25 hf
  obtain ⟨cs⟩ := cs
  rw [cellsH] at hl
  simp only [Value.cells] at hl hall
  match cs, hl with
  | [c0, c1, c2, c3, c4], _ =>
    match xs, hxl with
    | [y0, y1, y2, y3], _ =>
      have k0 : DataW.trod enc Tryd.prog w base spare held n 23 (List.take (Tryd.prog.cellsOf 23) (List.drop 0 [c0, c1, c2, c3, c4])) = [y0, y1, y2, y3][0]? := hall 0 _ rfl
      have k1 : DataW.trod enc Tryd.prog w base spare held n 3 (List.take (Tryd.prog.cellsOf 3) (List.drop 2 [c0, c1, c2, c3, c4])) = [y0, y1, y2, y3][1]? := hall 1 _ rfl
      have k2 : DataW.trod enc Tryd.prog w base spare held n 3 (List.take (Tryd.prog.cellsOf 3) (List.drop 3 [c0, c1, c2, c3, c4])) = [y0, y1, y2, y3][2]? := hall 2 _ rfl
      have k3 : DataW.trod enc Tryd.prog w base spare held n 4 (List.take (Tryd.prog.cellsOf 4) (List.drop 4 [c0, c1, c2, c3, c4])) = [y0, y1, y2, y3][3]? := hall 3 _ rfl
      simp only [cellsS, cellsI, cellsB] at k0 k1 k2 k3
      simp at k0 k1 k2 k3
      obtain ⟨z0, z1, m, _, hl2, j0, j1⟩ := trod_struct2 Tryd.underlying23 k0
      obtain ⟨a, e0, _, _⟩ := DataW.trod_int Tryd.underlying3 j0
      obtain ⟨b, e1, _, _⟩ := DataW.trod_int Tryd.underlying3 j1
      obtain ⟨s, e2, _, _⟩ := DataW.trod_int Tryd.underlying3 k1
      obtain ⟨g, e3, _, _⟩ := DataW.trod_int Tryd.underlying3 k2
      obtain ⟨l, e4, _⟩ := DataW.trod_bool Tryd.underlying4 k3
      simp only [cellsI] at e0 e1
      simp at e0 e1 e2 e3 e4
      exact ⟨a, b, s, g, l, by rw [e0, e1, e2, e3, e4]⟩
end

end Go.Proofs.YtcfdjbjfnciifaaDoor
