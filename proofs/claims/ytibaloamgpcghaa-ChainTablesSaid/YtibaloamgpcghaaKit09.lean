/-
  What the rows of layer 9 share: an array of three integers that came in.
-/
import Derived.Test.YtibaloamgpcghaaRows
import Derived.Test.YtibaloamgpcghaaNL
import Derived.ProofKit
import Derived.OpenShut
import Derived.Lib.SmallJoins
namespace Go.Proofs.Ytibaloamgpcghaa
open Go.ChangeShapes Go.WideShapes Go.ChangeAt Go.RowKit Go.Joins
open Go.WideMaps Go.WideElems
set_option linter.unusedVariables false
set_option maxRecDepth 100000

theorem laidOut : laidOutB Try.prog = true := by kernel_rfl
theorem own : ownKnob Try.prog.godebug = none := by kernel_rfl
theorem byte_wf {c : Int} (h : (Lit.int .u8 c).wf = true) : 0 ≤ c ∧ c < 256 := by
  simp [Lit.wf, IntKind.min, IntKind.max, IntKind.signed, IntKind.bits] at h
  omega
theorem cells3 : Try.prog.cellsOf 22 = 3 := by kernel_rfl
theorem cellsI : Try.prog.cellsOf 3 = 1 := by kernel_rfl
/-- an array of three integers that came in -/
theorem open_three {H : Type} {enc : TypeId × Value → H} {W : World} {base : Nat} {sp : Nat → Bool} {v : Value} {d : DataW H} {p : List MemPlace}
    (hv : Value.okWide Try.prog W .any base 22 v) (h : DataW.Trod enc Try.prog W 0 sp true 22 v d p) : ∃ x y z : Int, v = .agg #[.int .i64 x, .int .i64 y, .int .i64 z] := by
  obtain ⟨cs, rfl, hsz, _⟩ : ∃ cs, v = .agg cs ∧ cs.size = Try.prog.cellsOf 22 ∧ Row.okWide Try.prog W .any base 22 cs := by
    simpa [Value.okWide, Try.underlying22] using hv
  rw [cells3] at hsz
  obtain ⟨fuel, hf⟩ := h
  obtain ⟨xs, m, _, _, _, hl, hel⟩ := DataW.trod_array Try.underlying22 hf
  have one : ∀ j, j < 3 → ∃ z : Int, cs[j]? = some (.int .i64 z) := by
    intro j hj
    have e := hel j hj
    rw [cellsI, Nat.mul_one] at e
    have hjx : j < xs.length := by omega
    rw [List.getElem?_eq_getElem hjx] at e
    obtain ⟨z, ez, _, wz⟩ := DataW.trod_int Try.underlying3 e
    refine ⟨z, ?_⟩
    have hc : (((Value.agg cs).cells.toList).drop j).take 1 = [Value.int .i64 z] := ez
    have h2 := congrArg (fun l => l[0]?) hc
    simp only [List.getElem?_take, List.getElem?_drop] at h2
    simpa [Value.cells] using h2
  obtain ⟨x, hx⟩ := one 0 (by omega)
  obtain ⟨y, hy⟩ := one 1 (by omega)
  obtain ⟨z, hz⟩ := one 2 (by omega)
  refine ⟨x, y, z, congrArg Value.agg (Array.ext_getElem? fun j => ?_)⟩
  match j with
  | 0 => rw [hx]; rfl
  | 1 => rw [hy]; rfl
  | 2 => rw [hz]; rfl
  | j + 3 => rw [Array.getElem?_eq_none (by omega), Array.getElem?_eq_none (by simp)]
end Go.Proofs.Ytibaloamgpcghaa
