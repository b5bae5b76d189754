/-
  NARROWER THAN 'FOR EVERY INPUT', by the rows' own cells (each row's printed sentence says how): StoreApart: laid · StoreSteps: laid.
  DERIVED. THE GIVEN ROWS OF THIS SEAT. 2 by the template 'for every input the law returns true; each argument reads behind the call as it read before'; 0 by the template 'total and deterministic' (their statements: YtkbljgclflaokaaGreatDoorTotals.lean).
  GIVEN WITH THE SEED: the statements are not yours to turn. If you find one false, say at which input.
  Laid BY PROGRAM, IN A SANDBOX (cutbox-rows.mjs): the forced cells as the released guide's own fill.sh prints them over the translation 8499f9772f81977c… (all of the seat's roots in one cut). By AI agents, Wed Nov 11 2026. No macro, syntax, notation, axiom, sorry.
-/
import Derived.Test.YtkbljgclflaokaaGreatDoorChecked
import GoSem.Claim
import GoSem.ClaimJoined
import GoSem.ClaimMapViews
import Derived.JoinedTies
import Derived.KernelRfl
namespace Go.Proofs.YtkbljgclflaokaaGreatDoor
/- THE CELL 'sum', in the pinned program and in every row, IS THE sha256 OF THE DUMP (.gsa) THAT YtkbljgclflaokaaGreatDoorProg.lean LOADS. Nothing in Lean hashes anything: it is a label: what it is worth is what the hold of that sum in a sandbox is worth. -/
noncomputable def Tryz.pinned : Pinned := { name := "ytkbljgclflaokaagreatdoor", sum := "8499f9772f81977caca2c8a5f9ab7397e6a2403e8b55f37b65fecd99e282a5cc", checked := Tryz.checked }
namespace Rows
def none {H : Type} : Left H := { results := [], args := [] }

/- WHAT THE LISTED PACKAGE-LEVEL VARIABLES READ AS WHEN THE CALL BEGINS. Each datum BY PROGRAM (the guide's laid-datum.mjs) off the statement by which the dump's own 'gosem.cut.vars' lays the variable. In a bare row this is a premise. The card (YtkbljgclflaokaaGreatDoorCards.lean) ties it to the program's text. -/
def laid_haymow_header_pointersField {H : Type} : DataW H := .agg [.lit (.int .i64 0), .lit (.int .i64 12)]
def laid_haymow_header_rawsField {H : Type} : DataW H := .agg [.lit (.int .i64 12), .lit (.int .i64 12)]
def laid_haymow_header_siteField {H : Type} : DataW H := .agg [.lit (.int .i64 24), .lit (.int .i64 5)]
def laid_haymow_header_ageField {H : Type} : DataW H := .agg [.lit (.int .i64 29), .lit (.int .i64 3)]
def laid_haymow_header_largeField {H : Type} : DataW H := .agg [.lit (.int .i64 32), .lit (.int .i64 1)]
def laid_haymow_header_unusedField {H : Type} : DataW H := .agg [.lit (.int .i64 33), .lit (.int .i64 29)]
def laid_haymow_header_kindField {H : Type} : DataW H := .agg [.lit (.int .i64 62), .lit (.int .i64 2)]

/-- 'haymowlaw16.StoreApart': WHATEVER THE INPUT: true; the input reads as it did. -/
def storeApartSpec : ChangeSpec := { name := "storeApart", fn := fun _ => fun
  | [d1, d2, d3] => { results := [.lit (.bool true)], args := [d1, d2, d3] }
  | _ => none }
def storeApartRow : OpenClaim := { program := "ytkbljgclflaokaagreatdoor", sum := "8499f9772f81977caca2c8a5f9ab7397e6a2403e8b55f37b65fecd99e282a5cc", func := "haymow/haymowlaw16.StoreApart", spec := "storeApart", inPlace := ["math/bits.Add64"], unfollowed := true, recurses := true, named := ["haymow/header.pointersField", "haymow/header.rawsField", "haymow/header.siteField", "haymow/header.ageField", "haymow/header.largeField", "haymow/header.kindField", "haymow/header.unusedField"], apart := false, laid := [("haymow/header.pointersField", laid_haymow_header_pointersField), ("haymow/header.rawsField", laid_haymow_header_rawsField), ("haymow/header.siteField", laid_haymow_header_siteField), ("haymow/header.ageField", laid_haymow_header_ageField), ("haymow/header.largeField", laid_haymow_header_largeField), ("haymow/header.unusedField", laid_haymow_header_unusedField), ("haymow/header.kindField", laid_haymow_header_kindField)] }
def StoreApartSaid : Prop := storeApartRow.holds Tryz.pinned (OpenSpec.ofChange storeApartSpec)

/-- ITS FALSE NEIGHBOUR: 'it returns false'. Refute it at one input. -/
def storeApartWrong : ChangeSpec := { name := "storeApart", fn := fun _ => fun
  | [d1, d2, d3] => { results := [.lit (.bool false)], args := [d1, d2, d3] }
  | _ => none }
def StoreApartWrongFalsely : Prop := storeApartRow.holds Tryz.pinned (OpenSpec.ofChange storeApartWrong)

/-- 'haymowlaw16.StoreSteps': WHATEVER THE INPUT: true; the input reads as it did. -/
def storeStepsSpec : ChangeSpec := { name := "storeSteps", fn := fun _ => fun
  | [d1, d2, d3] => { results := [.lit (.bool true)], args := [d1, d2, d3] }
  | _ => none }
def storeStepsRow : OpenClaim := { program := "ytkbljgclflaokaagreatdoor", sum := "8499f9772f81977caca2c8a5f9ab7397e6a2403e8b55f37b65fecd99e282a5cc", func := "haymow/haymowlaw16.StoreSteps", spec := "storeSteps", inPlace := ["math/bits.Add64"], unfollowed := true, recurses := true, named := ["haymow/header.pointersField", "haymow/header.rawsField", "haymow/header.siteField", "haymow/header.ageField", "haymow/header.largeField", "haymow/header.kindField", "haymow/header.unusedField"], apart := false, laid := [("haymow/header.pointersField", laid_haymow_header_pointersField), ("haymow/header.rawsField", laid_haymow_header_rawsField), ("haymow/header.siteField", laid_haymow_header_siteField), ("haymow/header.ageField", laid_haymow_header_ageField), ("haymow/header.largeField", laid_haymow_header_largeField), ("haymow/header.unusedField", laid_haymow_header_unusedField), ("haymow/header.kindField", laid_haymow_header_kindField)] }
def StoreStepsSaid : Prop := storeStepsRow.holds Tryz.pinned (OpenSpec.ofChange storeStepsSpec)

/-- ITS FALSE NEIGHBOUR: 'it returns false'. Refute it at one input. -/
def storeStepsWrong : ChangeSpec := { name := "storeSteps", fn := fun _ => fun
  | [d1, d2, d3] => { results := [.lit (.bool false)], args := [d1, d2, d3] }
  | _ => none }
def StoreStepsWrongFalsely : Prop := storeStepsRow.holds Tryz.pinned (OpenSpec.ofChange storeStepsWrong)

/- THE SECOND FORM. 'bulk': how many values and letters a reading holds, each counted each time it is reached (what is shared counts as often as it is met; a slice's spare places count too). A statement '..UptoSaid' is the law's where the arguments, and the package variables that the reading takes, are together of bulk at most 1048576: NARROWER than '..Said'. Prove '..Said' where nothing that the law and all that it calls make is longer than what came in: it says more and counts as full. Else prove '..UptoSaid'. A law counts once. -/
mutual
def uptoBulk {H : Type} : DataW H → Nat
  | .lit (.string bytes) => bytes.length + 1
  | .lit _ => 1
  | .nil => 1
  | .ptr d => uptoBulk d + 1
  | .slice elems spare => uptoBulkAll elems + uptoBulkAll spare + 1
  | .agg parts => uptoBulkAll parts + 1
  | .iface _ d => uptoBulk d + 1
  | .map entries => uptoBulkEntries entries + 1
  | .held _ => 1
def uptoBulkAll {H : Type} : List (DataW H) → Nat
  | [] => 0
  | d :: r => uptoBulk d + uptoBulkAll r
def uptoBulkEntries {H : Type} : List (Lit × DataW H) → Nat
  | [] => 0
  | x :: r => uptoBulkEntry x + uptoBulkEntries r
def uptoBulkEntry {H : Type} : Lit × DataW H → Nat
  | (.string bytes, d) => bytes.length + uptoBulk d + 1
  | (_, d) => uptoBulk d + 1
 end
def uptoSmall : (H : Type) → List (DataW H) → Bool := fun _ ds => decide (uptoBulkAll ds ≤ 1048576)
def OpenSpec.upto (s : _root_.Go.ChangeSpec) : _root_.Go.OpenSpec := { _root_.Go.OpenSpec.ofChange s with cond := some uptoSmall }

/-- 'haymowlaw16.StoreApart', WHERE WHAT IT READS IS OF BULK AT MOST 1048576: true; the input reads as it did. -/
def storeApartUptoRow : OpenClaim := { program := "ytkbljgclflaokaagreatdoor", sum := "8499f9772f81977caca2c8a5f9ab7397e6a2403e8b55f37b65fecd99e282a5cc", func := "haymow/haymowlaw16.StoreApart", spec := "storeApart", inPlace := ["math/bits.Add64"], unfollowed := true, recurses := true, named := ["haymow/header.pointersField", "haymow/header.rawsField", "haymow/header.siteField", "haymow/header.ageField", "haymow/header.largeField", "haymow/header.kindField", "haymow/header.unusedField"], apart := false, laid := [("haymow/header.pointersField", laid_haymow_header_pointersField), ("haymow/header.rawsField", laid_haymow_header_rawsField), ("haymow/header.siteField", laid_haymow_header_siteField), ("haymow/header.ageField", laid_haymow_header_ageField), ("haymow/header.largeField", laid_haymow_header_largeField), ("haymow/header.unusedField", laid_haymow_header_unusedField), ("haymow/header.kindField", laid_haymow_header_kindField)], narrowed := true }
def StoreApartUptoSaid : Prop := storeApartUptoRow.holds Tryz.pinned (OpenSpec.upto storeApartSpec)

/-- 'haymowlaw16.StoreSteps', WHERE WHAT IT READS IS OF BULK AT MOST 1048576: true; the input reads as it did. -/
def storeStepsUptoRow : OpenClaim := { program := "ytkbljgclflaokaagreatdoor", sum := "8499f9772f81977caca2c8a5f9ab7397e6a2403e8b55f37b65fecd99e282a5cc", func := "haymow/haymowlaw16.StoreSteps", spec := "storeSteps", inPlace := ["math/bits.Add64"], unfollowed := true, recurses := true, named := ["haymow/header.pointersField", "haymow/header.rawsField", "haymow/header.siteField", "haymow/header.ageField", "haymow/header.largeField", "haymow/header.kindField", "haymow/header.unusedField"], apart := false, laid := [("haymow/header.pointersField", laid_haymow_header_pointersField), ("haymow/header.rawsField", laid_haymow_header_rawsField), ("haymow/header.siteField", laid_haymow_header_siteField), ("haymow/header.ageField", laid_haymow_header_ageField), ("haymow/header.largeField", laid_haymow_header_largeField), ("haymow/header.unusedField", laid_haymow_header_unusedField), ("haymow/header.kindField", laid_haymow_header_kindField)], narrowed := true }
def StoreStepsUptoSaid : Prop := storeStepsUptoRow.holds Tryz.pinned (OpenSpec.upto storeStepsSpec)

end Rows
end Go.Proofs.YtkbljgclflaokaaGreatDoor
