/-
  No cell of these rows narrows 'for every input' (looked for: loops, veiled, ifaces, maps, wideKeys, modest, calm, conditions, laid).
  DERIVED. THE GIVEN ROWS OF THIS SEAT. 3 by the template 'for every input the law returns true; each argument reads behind the call as it read before'; 0 by the template 'total and deterministic' (their statements: YtddigkdkglojmaaTotals.lean).
  GIVEN WITH THE SEED: the statements are not yours to turn. If you find one false, say at which input.
  Laid BY PROGRAM, IN A SANDBOX (cutbox-rows.mjs): the forced cells as the released guide's own fill.sh prints them over the translation cdba9c5f4fc16f19… (all of the seat's roots in one cut). By AI agents, Wed Nov 11 2026. No macro, syntax, notation, axiom, sorry.
-/
import Derived.Test.YtddigkdkglojmaaChecked
import GoSem.Claim
import GoSem.ClaimJoined
import GoSem.ClaimMapViews
import Derived.JoinedTies
import Derived.KernelRfl
namespace Go.Proofs.Ytddigkdkglojmaa
/- THE CELL 'sum', in the pinned program and in every row, IS THE sha256 OF THE DUMP (.gsa) THAT YtddigkdkglojmaaProg.lean LOADS. Nothing in Lean hashes anything: it is a label: what it is worth is what the hold of that sum in a sandbox is worth. -/
noncomputable def Try.pinned : Pinned := { name := "ytddigkdkglojmaa", sum := "cdba9c5f4fc16f1980c185a446fa71bfab1f3d5448cadc75cfb32c748e42ae0b", checked := Try.checked }
namespace Rows
def none {H : Type} : Left H := { results := [], args := [] }

/-- 'haymowlaw11.RefMakes': WHATEVER THE INPUT: true; the input reads as it did. -/
def refMakesSpec : ChangeSpec := { name := "refMakes", fn := fun _ => fun
  | [d] => { results := [.lit (.bool true)], args := [d] }
  | _ => none }
def refMakesRow : OpenClaim := { program := "ytddigkdkglojmaa", sum := "cdba9c5f4fc16f1980c185a446fa71bfab1f3d5448cadc75cfb32c748e42ae0b", func := "haymow/haymowlaw11.RefMakes", spec := "refMakes", apart := false }
def RefMakesSaid : Prop := refMakesRow.holds Try.pinned (OpenSpec.ofChange refMakesSpec)

/-- ITS FALSE NEIGHBOUR: 'it returns false'. Refute it at one input. -/
def refMakesWrong : ChangeSpec := { name := "refMakes", fn := fun _ => fun
  | [d] => { results := [.lit (.bool false)], args := [d] }
  | _ => none }
def RefMakesWrongFalsely : Prop := refMakesRow.holds Try.pinned (OpenSpec.ofChange refMakesWrong)

/-- 'haymowlaw11.RefReads': WHATEVER THE INPUT: true; the input reads as it did. -/
def refReadsSpec : ChangeSpec := { name := "refReads", fn := fun _ => fun
  | [d] => { results := [.lit (.bool true)], args := [d] }
  | _ => none }
def refReadsRow : OpenClaim := { program := "ytddigkdkglojmaa", sum := "cdba9c5f4fc16f1980c185a446fa71bfab1f3d5448cadc75cfb32c748e42ae0b", func := "haymow/haymowlaw11.RefReads", spec := "refReads", apart := false }
def RefReadsSaid : Prop := refReadsRow.holds Try.pinned (OpenSpec.ofChange refReadsSpec)

/-- ITS FALSE NEIGHBOUR: 'it returns false'. Refute it at one input. -/
def refReadsWrong : ChangeSpec := { name := "refReads", fn := fun _ => fun
  | [d] => { results := [.lit (.bool false)], args := [d] }
  | _ => none }
def RefReadsWrongFalsely : Prop := refReadsRow.holds Try.pinned (OpenSpec.ofChange refReadsWrong)

/-- 'haymowlaw11.RefApart': WHATEVER THE INPUT: true; the input reads as it did. -/
def refApartSpec : ChangeSpec := { name := "refApart", fn := fun _ => fun
  | [d1, d2] => { results := [.lit (.bool true)], args := [d1, d2] }
  | _ => none }
def refApartRow : OpenClaim := { program := "ytddigkdkglojmaa", sum := "cdba9c5f4fc16f1980c185a446fa71bfab1f3d5448cadc75cfb32c748e42ae0b", func := "haymow/haymowlaw11.RefApart", spec := "refApart", apart := false }
def RefApartSaid : Prop := refApartRow.holds Try.pinned (OpenSpec.ofChange refApartSpec)

/-- ITS FALSE NEIGHBOUR: 'it returns false'. Refute it at one input. -/
def refApartWrong : ChangeSpec := { name := "refApart", fn := fun _ => fun
  | [d1, d2] => { results := [.lit (.bool false)], args := [d1, d2] }
  | _ => none }
def RefApartWrongFalsely : Prop := refApartRow.holds Try.pinned (OpenSpec.ofChange refApartWrong)

/- THE SECOND FORM. 'bulk': how many values and letters a reading holds, each counted each time it is reached (what is shared counts as often as it is met; a slice's spare places count too). A statement '..UptoSaid' is the law's where the arguments, and the package variables that the reading takes, are together of bulk at most 1048576: NARROWER than '..Said'. Prove '..Said' where nothing that the law and all that it calls make is longer than what came in: it says more and counts as full. Else prove '..UptoSaid'. A law counts once. -/
mutual
def uptoBulk {H : Type} : DataW H → Nat
  | .lit (.string bytes) => bytes.length + 1
  | .lit _ => 1
  | .nil => 1
  | .ptr d => uptoBulk d + 1
  | .slice elems spare => uptoBulkAll elems + uptoBulkAll spare + 1
  | .agg parts => uptoBulkAll parts + 1
  | .iface _ d => uptoBulk d + 1
  | .map entries => uptoBulkEntries entries + 1
  | .held _ => 1
def uptoBulkAll {H : Type} : List (DataW H) → Nat
  | [] => 0
  | d :: r => uptoBulk d + uptoBulkAll r
def uptoBulkEntries {H : Type} : List (Lit × DataW H) → Nat
  | [] => 0
  | x :: r => uptoBulkEntry x + uptoBulkEntries r
def uptoBulkEntry {H : Type} : Lit × DataW H → Nat
  | (.string bytes, d) => bytes.length + uptoBulk d + 1
  | (_, d) => uptoBulk d + 1
 end
def uptoSmall : (H : Type) → List (DataW H) → Bool := fun _ ds => decide (uptoBulkAll ds ≤ 1048576)
def OpenSpec.upto (s : _root_.Go.ChangeSpec) : _root_.Go.OpenSpec := { _root_.Go.OpenSpec.ofChange s with cond := some uptoSmall }

/-- 'haymowlaw11.RefMakes', WHERE WHAT IT READS IS OF BULK AT MOST 1048576: true; the input reads as it did. -/
def refMakesUptoRow : OpenClaim := { program := "ytddigkdkglojmaa", sum := "cdba9c5f4fc16f1980c185a446fa71bfab1f3d5448cadc75cfb32c748e42ae0b", func := "haymow/haymowlaw11.RefMakes", spec := "refMakes", apart := false, narrowed := true }
def RefMakesUptoSaid : Prop := refMakesUptoRow.holds Try.pinned (OpenSpec.upto refMakesSpec)

/-- 'haymowlaw11.RefReads', WHERE WHAT IT READS IS OF BULK AT MOST 1048576: true; the input reads as it did. -/
def refReadsUptoRow : OpenClaim := { program := "ytddigkdkglojmaa", sum := "cdba9c5f4fc16f1980c185a446fa71bfab1f3d5448cadc75cfb32c748e42ae0b", func := "haymow/haymowlaw11.RefReads", spec := "refReads", apart := false, narrowed := true }
def RefReadsUptoSaid : Prop := refReadsUptoRow.holds Try.pinned (OpenSpec.upto refReadsSpec)

/-- 'haymowlaw11.RefApart', WHERE WHAT IT READS IS OF BULK AT MOST 1048576: true; the input reads as it did. -/
def refApartUptoRow : OpenClaim := { program := "ytddigkdkglojmaa", sum := "cdba9c5f4fc16f1980c185a446fa71bfab1f3d5448cadc75cfb32c748e42ae0b", func := "haymow/haymowlaw11.RefApart", spec := "refApart", apart := false, narrowed := true }
def RefApartUptoSaid : Prop := refApartUptoRow.holds Try.pinned (OpenSpec.upto refApartSpec)

end Rows
end Go.Proofs.Ytddigkdkglojmaa
