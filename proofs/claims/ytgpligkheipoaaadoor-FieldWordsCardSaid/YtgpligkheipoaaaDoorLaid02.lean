/-
  What the rows of layer 2 share: the listed table, a start that meets the condition.
-/
import Derived.Test.YtgpligkheipoaaaDoorTz
import Derived.Test.YtgpligkheipoaaaDoorRows
import Derived.ProofKit
import Derived.LaidMore
import Derived.OpenShut
import Derived.Stop.Joined
import Derived.Lib.LaidTab
import Derived.Lib.SmallJoins
namespace Go.Proofs.YtgpligkheipoaaaDoor
open Go.ChangeShapes Go.WideShapes Go.ChangeAt Go.RowKit Go.Joins
set_option linter.unusedVariables false

theorem own : ownKnob Tryd.prog.godebug = none := by kernel_rfl
theorem gTab : Tryd.prog.globalNamed "math/bits.deBruijn64tab" = some 0 := by kernel_rfl
theorem tTab : (Tryd.prog.globals[0]?).map (·.type) = some 62 := by kernel_rfl
theorem cU8 : Tryd.prog.cellsOf 5 = 1 := by kernel_rfl
theorem cTab : Tryd.prog.cellsOf 62 = 64 := by kernel_rfl
/-- the list of the rows -/
abbrev laid : List (String × DataW Unit) := [("math/bits.deBruijn64tab", Rows.laid_math_bits_deBruijn64tab)]
theorem laid_tab : (Rows.laid_math_bits_deBruijn64tab : DataW Unit) = Lib.tabData .u8 (Lib.deBruijn64tab.map Int.ofNat) := by kernel_rfl
theorem tab_of_laid {W : World} (h : laidMetH Tryd.prog laid W) : Tab W := by
  rw [MakeChecks.laidMetH_plain _ _ _ (by kernel_rfl)] at h
  have h' : laidMet Tryd.prog [("math/bits.deBruijn64tab", Lib.tabData .u8 (Lib.deBruijn64tab.map Int.ofNat))] W := by rw [← laid_tab]; exact h
  have hT := Lib.tabIs_of_head gTab tTab Tryd.underlying62 Tryd.underlying5 cU8 cTab h'
  intro j hj
  have hc := hT.cell gTab j (by simp [Lib.deBruijn64tab]; omega)
  rw [hc]
  have hl : j < Lib.deBruijn64tab.length := hj
  simp [List.getD, List.getElem?_eq_getElem hl]
theorem door_met (os : Os) (args : Array Value) : laidMetH Tryd.prog laid ((World.doorLaid Tryd.prog 400 os).forCall (fun _ _ => 0) ⟨#[], args, []⟩).memory :=
  laidMetH_of_parts3 (fuel := 8) (laidMet_of_run' 8 (by kernel_rfl) (by kernel_rfl)) (by kernel_rfl) (by kernel_rfl)
theorem word_of_wf {x : Int} (h : (Lit.int .u64 x).wf = true) : ∃ n : Nat, x = n ∧ n < 18446744073709551616 := by
  simp [Lit.wf, IntKind.min, IntKind.max, IntKind.signed, IntKind.bits] at h
  exact ⟨x.toNat, by omega, by omega⟩
theorem int_of_wf {x : Int} (h : (Lit.int .i64 x).wf = true) : x ≤ 9223372036854775807 := by
  simp [Lit.wf, IntKind.min, IntKind.max, IntKind.signed, IntKind.bits] at h
  omega
theorem cellsF : Tryd.prog.cellsOf 24 = 2 := by kernel_rfl
/-- a field's two numbers read back -/
theorem field_reads {H : Type} (enc : TypeId × Value → H) (W : World) (b : Nat) (sp : Nat → Bool) (hd : Bool) {x y : Int} (wx : (Lit.int .i64 x).wf = true) (wy : (Lit.int .i64 y).wf = true) :
    DataW.Trod enc Tryd.prog W b sp hd 24 (.agg #[.int .i64 x, .int .i64 y]) (.agg [.lit (.int .i64 x), .lit (.int .i64 y)]) [] :=
  shut_agg2 (y0 := (.lit (.int .i64 x), [])) (y1 := (.lit (.int .i64 y), [])) Tryd.underlying24 (by kernel_rfl) cellsF ⟨1, by simp [DataW.trod, Tryd.underlying3, wx]⟩ ⟨1, by simp [DataW.trod, Tryd.underlying3, wy]⟩
section
variable {H : Type} {enc : TypeId × Value → H} {w : World} {base : Nat} {spare : Nat → Bool} {held : Bool}
/-- a field that reads holds two numbers -/
theorem field_of_trod {fuel : Nat} {cs : List Value} {y : DataW H × List MemPlace} (h : DataW.trod enc Tryd.prog w base spare held fuel 24 cs = some y) :
    ∃ a s : Int, cs = [.int .i64 a, .int .i64 s] ∧ (Lit.int .i64 a).wf = true ∧ (Lit.int .i64 s).wf = true := by
  obtain ⟨y0, y1, n, hx, hl, h0, h1⟩ := trod_struct2 Tryd.underlying24 h
  rw [cellsF] at hl
  match cs, hl with
  | [c0, c1], _ =>
    have k : Tryd.prog.cellsOf 3 = 1 := by kernel_rfl
    obtain ⟨a, e0, _, wa⟩ := DataW.trod_int Tryd.underlying3 h0
    obtain ⟨s, e1, _, ws⟩ := DataW.trod_int Tryd.underlying3 h1
    simp only [k] at e0 e1
    simp at e0 e1
    exact ⟨a, s, by rw [e0, e1], wa, ws⟩
/-- two fields by value -/
theorem two_of_trod {r : Reach} {b0 : Nat} {v : Value} {d : DataW H} {p : List MemPlace} (hv : Value.okWide Tryd.prog w r b0 39 v) (h : DataW.Trod enc Tryd.prog w base spare held 39 v d p) :
    ∃ a s b t : Int, v = .agg #[.int .i64 a, .int .i64 s, .int .i64 b, .int .i64 t] ∧ a ≤ 9223372036854775807 ∧ b ≤ 9223372036854775807 := by
  have hc : Tryd.prog.cellsOf 39 = 4 := by kernel_rfl
  simp only [Value.okWide, Tryd.underlying39] at hv
  obtain ⟨cs, rfl, hsz, _⟩ := hv
  obtain ⟨fuel, hf⟩ := h
  obtain ⟨xs, m, rfl, hx, hl, hn, hi⟩ := DataW.trod_array Tryd.underlying39 hf
  rw [hc] at hl
  obtain ⟨cs⟩ := cs
  simp only [Value.cells] at hl hi
  match cs, hl with
  | [c0, c1, c2, c3], _ =>
    have i0 := hi 0 (by omega)
    have i1 := hi 1 (by omega)
    rw [cellsF] at i0 i1
    rw [List.getElem?_eq_getElem (by omega)] at i0 i1
    simp at i0 i1
    obtain ⟨a, s, e0, wa, ws⟩ := field_of_trod i0
    obtain ⟨b, t, e1, wb, wt⟩ := field_of_trod i1
    simp at e0 e1
    obtain ⟨rfl, rfl⟩ := e0
    obtain ⟨rfl, rfl⟩ := e1
    exact ⟨a, s, b, t, rfl, int_of_wf wa, int_of_wf wb⟩
end
theorem laidOut : laidOutB Tryd.prog = true := by kernel_rfl

end Go.Proofs.YtgpligkheipoaaaDoor
