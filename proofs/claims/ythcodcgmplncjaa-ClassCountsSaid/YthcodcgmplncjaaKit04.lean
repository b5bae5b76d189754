/-
  What the walks of layer 3 share: small laws on worlds.
-/
import Derived.Test.YthcodcgmplncjaaRow
import Derived.Test.YthcodcgmplncjaaChecked
import Derived.Test.YthcodcgmplncjaaDig
import Derived.WalkSpells
import Derived.StillTactics
import Derived.LoopTactic
import Derived.KernelRfl
import Derived.Lib.SlBytesConst
import Derived.Lib.Strings
import Derived.Outline
import Derived.Deep.Cut
import Derived.Deep.DeepCutAuto
import Derived.Deep.RegionHeld3
namespace Go.Proofs.Ythcodcgmplncjaa
open Go.RowKit
set_option linter.unusedVariables false

/-! ### worlds with new blocks -/
theorem bAlloc {a w : World} (h : Below a.heap.size a w) (o : Obj) : Below a.heap.size a (w.alloc o) := h.alloc h.size o
theorem bTrans {a b c : World} (h : Below a.heap.size a b) (k : Below b.heap.size b c) : Below a.heap.size a c := h.trans (k.mono h.size)
theorem bSet {a w : World} (h : Below a.heap.size a w) {p : Addr} (hp : a.heap.size ≤ p.block) (u : Value) : Below a.heap.size a (w.setCell p u) := h.setCell hp u
theorem bcell {W w1 : World} (hb : Below W.heap.size W w1) : (∀ b o, b < W.heap.size → w1.cell? ⟨b, o, none⟩ = W.cell? ⟨b, o, none⟩) ∧ (∀ b o, b < W.heap.size → w1.frozen? ⟨b, o, none⟩ = W.frozen? ⟨b, o, none⟩) :=
  ⟨fun b o h => hb.cell (p := ⟨b, o, none⟩) h, fun b o h => hb.frozen (p := ⟨b, o, none⟩) h⟩

/-- a text of one byte, out of a new row -/
theorem conv_one (w : World) (v : Int) : (convert 44 9 (.slice (some ⟨w.heap.size, 0, none⟩) 1 1)).run Try.prog (w.alloc (.cells #[.int .u8 v] 5)) = .ok (.string (strOfNums [v])) (w.alloc (.cells #[.int .u8 v] 5)) := by
  refine run_convert_bytes_arg _ 44 5 Try.underlying44 Try.underlying5 w.heap.size 0 1 1 [v] rfl (fun i hi => ?_) 9 Try.underlying9
  obtain rfl : i = 0 := by omega
  rw [World.cell?_alloc_at _ _ _ _ (by simp)]
  simp
theorem str_cons (v : Int) (s : List Int) : strOfNums [v] ++ strOfNums s = strOfNums (v :: s) := by
  apply ByteArray.ext
  simp [strOfNums]

end Go.Proofs.Ythcodcgmplncjaa
