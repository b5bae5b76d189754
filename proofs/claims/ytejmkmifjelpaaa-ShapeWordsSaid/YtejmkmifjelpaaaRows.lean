/-
  No cell of these rows narrows 'for every input' (looked for: loops, veiled, ifaces, maps, wideKeys, modest, calm, conditions, laid).
  DERIVED. THE GIVEN ROWS OF THIS SEAT. 3 by the template 'for every input the law returns true; each argument reads behind the call as it read before'; 0 by the template 'total and deterministic' (their statements: YtejmkmifjelpaaaTotals.lean).
  GIVEN WITH THE SEED: the statements are not yours to turn. If you find one false, say at which input.
  Laid BY PROGRAM, IN A SANDBOX (cutbox-rows.mjs): the forced cells as the released guide's own fill.sh prints them over the translation d22c0cf9d1791298… (all of the seat's roots in one cut). By AI agents, Wed Nov 11 2026. No macro, syntax, notation, axiom, sorry.
-/
import Derived.Test.YtejmkmifjelpaaaChecked
import GoSem.Claim
import GoSem.ClaimJoined
import GoSem.ClaimMapViews
import Derived.JoinedTies
import Derived.KernelRfl
namespace Go.Proofs.Ytejmkmifjelpaaa
/- THE CELL 'sum', in the pinned program and in every row, IS THE sha256 OF THE DUMP (.gsa) THAT YtejmkmifjelpaaaProg.lean LOADS. Nothing in Lean hashes anything: it is a label: what it is worth is what the hold of that sum in a sandbox is worth. -/
noncomputable def Try.pinned : Pinned := { name := "ytejmkmifjelpaaa", sum := "d22c0cf9d17912989b1009a29d9865286ccfae0560de45003bad63bec66725a3", checked := Try.checked }
namespace Rows
def none {H : Type} : Left H := { results := [], args := [] }

/-- 'haymowlaw13.ShapeCharges': WHATEVER THE INPUT: true; the input reads as it did. -/
def shapeChargesSpec : ChangeSpec := { name := "shapeCharges", fn := fun _ => fun
  | [d1, d2, d3] => { results := [.lit (.bool true)], args := [d1, d2, d3] }
  | _ => none }
def shapeChargesRow : OpenClaim := { program := "ytejmkmifjelpaaa", sum := "d22c0cf9d17912989b1009a29d9865286ccfae0560de45003bad63bec66725a3", func := "haymow/haymowlaw13.ShapeCharges", spec := "shapeCharges", apart := false }
def ShapeChargesSaid : Prop := shapeChargesRow.holds Try.pinned (OpenSpec.ofChange shapeChargesSpec)

/-- ITS FALSE NEIGHBOUR: 'it returns false'. Refute it at one input. -/
def shapeChargesWrong : ChangeSpec := { name := "shapeCharges", fn := fun _ => fun
  | [d1, d2, d3] => { results := [.lit (.bool false)], args := [d1, d2, d3] }
  | _ => none }
def ShapeChargesWrongFalsely : Prop := shapeChargesRow.holds Try.pinned (OpenSpec.ofChange shapeChargesWrong)

/-- 'haymowlaw13.ShapeSums': WHATEVER THE INPUT: true; the input reads as it did. -/
def shapeSumsSpec : ChangeSpec := { name := "shapeSums", fn := fun _ => fun
  | [d1, d2] => { results := [.lit (.bool true)], args := [d1, d2] }
  | _ => none }
def shapeSumsRow : OpenClaim := { program := "ytejmkmifjelpaaa", sum := "d22c0cf9d17912989b1009a29d9865286ccfae0560de45003bad63bec66725a3", func := "haymow/haymowlaw13.ShapeSums", spec := "shapeSums", apart := false }
def ShapeSumsSaid : Prop := shapeSumsRow.holds Try.pinned (OpenSpec.ofChange shapeSumsSpec)

/-- ITS FALSE NEIGHBOUR: 'it returns false'. Refute it at one input. -/
def shapeSumsWrong : ChangeSpec := { name := "shapeSums", fn := fun _ => fun
  | [d1, d2] => { results := [.lit (.bool false)], args := [d1, d2] }
  | _ => none }
def ShapeSumsWrongFalsely : Prop := shapeSumsRow.holds Try.pinned (OpenSpec.ofChange shapeSumsWrong)

/-- 'haymowlaw13.ShapeWords': WHATEVER THE INPUT: true; the input reads as it did. -/
def shapeWordsSpec : ChangeSpec := { name := "shapeWords", fn := fun _ => fun
  | [d1, d2, d3] => { results := [.lit (.bool true)], args := [d1, d2, d3] }
  | _ => none }
def shapeWordsRow : OpenClaim := { program := "ytejmkmifjelpaaa", sum := "d22c0cf9d17912989b1009a29d9865286ccfae0560de45003bad63bec66725a3", func := "haymow/haymowlaw13.ShapeWords", spec := "shapeWords", apart := false }
def ShapeWordsSaid : Prop := shapeWordsRow.holds Try.pinned (OpenSpec.ofChange shapeWordsSpec)

/-- ITS FALSE NEIGHBOUR: 'it returns false'. Refute it at one input. -/
def shapeWordsWrong : ChangeSpec := { name := "shapeWords", fn := fun _ => fun
  | [d1, d2, d3] => { results := [.lit (.bool false)], args := [d1, d2, d3] }
  | _ => none }
def ShapeWordsWrongFalsely : Prop := shapeWordsRow.holds Try.pinned (OpenSpec.ofChange shapeWordsWrong)

/- THE SECOND FORM. 'bulk': how many values and letters a reading holds, each counted each time it is reached (what is shared counts as often as it is met; a slice's spare places count too). A statement '..UptoSaid' is the law's where the arguments, and the package variables that the reading takes, are together of bulk at most 1048576: NARROWER than '..Said'. Prove '..Said' where nothing that the law and all that it calls make is longer than what came in: it says more and counts as full. Else prove '..UptoSaid'. A law counts once. -/
mutual
def uptoBulk {H : Type} : DataW H → Nat
  | .lit (.string bytes) => bytes.length + 1
  | .lit _ => 1
  | .nil => 1
  | .ptr d => uptoBulk d + 1
  | .slice elems spare => uptoBulkAll elems + uptoBulkAll spare + 1
  | .agg parts => uptoBulkAll parts + 1
  | .iface _ d => uptoBulk d + 1
  | .map entries => uptoBulkEntries entries + 1
  | .held _ => 1
def uptoBulkAll {H : Type} : List (DataW H) → Nat
  | [] => 0
  | d :: r => uptoBulk d + uptoBulkAll r
def uptoBulkEntries {H : Type} : List (Lit × DataW H) → Nat
  | [] => 0
  | x :: r => uptoBulkEntry x + uptoBulkEntries r
def uptoBulkEntry {H : Type} : Lit × DataW H → Nat
  | (.string bytes, d) => bytes.length + uptoBulk d + 1
  | (_, d) => uptoBulk d + 1
 end
def uptoSmall : (H : Type) → List (DataW H) → Bool := fun _ ds => decide (uptoBulkAll ds ≤ 1048576)
def OpenSpec.upto (s : _root_.Go.ChangeSpec) : _root_.Go.OpenSpec := { _root_.Go.OpenSpec.ofChange s with cond := some uptoSmall }

/-- 'haymowlaw13.ShapeCharges', WHERE WHAT IT READS IS OF BULK AT MOST 1048576: true; the input reads as it did. -/
def shapeChargesUptoRow : OpenClaim := { program := "ytejmkmifjelpaaa", sum := "d22c0cf9d17912989b1009a29d9865286ccfae0560de45003bad63bec66725a3", func := "haymow/haymowlaw13.ShapeCharges", spec := "shapeCharges", apart := false, narrowed := true }
def ShapeChargesUptoSaid : Prop := shapeChargesUptoRow.holds Try.pinned (OpenSpec.upto shapeChargesSpec)

/-- 'haymowlaw13.ShapeSums', WHERE WHAT IT READS IS OF BULK AT MOST 1048576: true; the input reads as it did. -/
def shapeSumsUptoRow : OpenClaim := { program := "ytejmkmifjelpaaa", sum := "d22c0cf9d17912989b1009a29d9865286ccfae0560de45003bad63bec66725a3", func := "haymow/haymowlaw13.ShapeSums", spec := "shapeSums", apart := false, narrowed := true }
def ShapeSumsUptoSaid : Prop := shapeSumsUptoRow.holds Try.pinned (OpenSpec.upto shapeSumsSpec)

/-- 'haymowlaw13.ShapeWords', WHERE WHAT IT READS IS OF BULK AT MOST 1048576: true; the input reads as it did. -/
def shapeWordsUptoRow : OpenClaim := { program := "ytejmkmifjelpaaa", sum := "d22c0cf9d17912989b1009a29d9865286ccfae0560de45003bad63bec66725a3", func := "haymow/haymowlaw13.ShapeWords", spec := "shapeWords", apart := false, narrowed := true }
def ShapeWordsUptoSaid : Prop := shapeWordsUptoRow.holds Try.pinned (OpenSpec.upto shapeWordsSpec)

end Rows
end Go.Proofs.Ytejmkmifjelpaaa
