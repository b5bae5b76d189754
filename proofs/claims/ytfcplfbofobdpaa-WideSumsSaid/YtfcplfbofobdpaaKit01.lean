/-
  What the rows of layer 1 share.
-/
import Derived.Test.YtfcplfbofobdpaaAwake01
import Derived.Test.YtfcplfbofobdpaaRows
import Derived.ProofKit
import Derived.OpenShut
import Derived.Lib.SmallJoins
namespace Go.Proofs.Ytfcplfbofobdpaa
open Go.ChangeShapes Go.WideShapes Go.ChangeAt Go.RowKit Go.Joins
set_option linter.unusedVariables false

theorem own : ownKnob Try.prog.godebug = none := by kernel_rfl
theorem word_of_wf {x : Int} (h : (Lit.int .u64 x).wf = true) : Word x := by
  simp [Lit.wf, IntKind.min, IntKind.max, IntKind.signed, IntKind.bits] at h
  exact ⟨by omega, by omega⟩
theorem cellsW : Try.prog.cellsOf 24 = 2 := by kernel_rfl
/-- a number's two words read back -/
theorem wide_reads {H : Type} (enc : TypeId × Value → H) (W : World) (b : Nat) (sp : Nat → Bool) (hd : Bool) {x y : Int} (wx : (Lit.int .u64 x).wf = true) (wy : (Lit.int .u64 y).wf = true) :
    DataW.Trod enc Try.prog W b sp hd 24 (.agg #[.int .u64 x, .int .u64 y]) (.agg [.lit (.int .u64 x), .lit (.int .u64 y)]) [] :=
  shut_agg2 (y0 := (.lit (.int .u64 x), [])) (y1 := (.lit (.int .u64 y), [])) Try.underlying24 (by kernel_rfl) cellsW ⟨1, by simp [DataW.trod, Try.underlying22, wx]⟩ ⟨1, by simp [DataW.trod, Try.underlying22, wy]⟩

theorem two_new (w : World) (o : Obj) (x : Nat) : Row ((w.alloc o).alloc (.cells #[.int .u64 (hi x), .int .u64 (lo x)] 24)) (w.heap.size + 1) 2 (wrow x) :=
  Row.newAt _ _ _ _ 2 _ (by simp) (wrow_new x)

theorem of_ex (n : Int) (w : World) : Calls Try.prog 22 #[.int .u64 n] w fun e w' => e = .returned (.agg #[.int .u64 0, .int .u64 n]) ∧ w.alloc (.cells #[.int .u64 0, .int .u64 n] 24) = w' := by
  go_enter Try.func22, Try.ntmps22
  go_wp2
  exact bodyPost_ret (v := .agg #[.int .u64 0, .int .u64 n]) (by simp [results, Try.results22, go_sem]) rfl ⟨rfl, rfl⟩
theorem zero_new (j : Nat) (hj : j < 2) : (#[Value.int .u64 0, .int .u64 0] : Array Value)[j]? = some (wrow 0 j) := by
  have h : j = 0 ∨ j = 1 := by omega
  rcases h with rfl | rfl <;> simp [wrow, hi_0, lo_0]
theorem cell_far (w : World) (p : Addr) (g o : Nat) (v : Value) (h : p.block ≠ g) : (w.setCell p v).cell? ⟨g, o, none⟩ = w.cell? ⟨g, o, none⟩ :=
  World.cell?_setCell_other w p ⟨g, o, none⟩ v (fun e => h (by rw [e]))

end Go.Proofs.Ytfcplfbofobdpaa
