/-
  DERIVED. GIVEN WITH THE SEED: THE CARDS: each row of YtkbljgclflaokaaGreatDoorRows.lean that lists a variable, with what it lists TIED to the program's text (the seventh form; the later family's looks); each row that meets fmt, with fmt's text TOLD by the authors' own Lean function (tested against real Go, not proved from fmt's source: count such statements apart). THE CARD IS WHAT COUNTS. Prove the row's statement (the work); the ties are given (YtkbljgclflaokaaGreatDoorTie.lean); close each card by the builder's one call (the guide's Derived/Test/ToyasCard.lean, 'card_holds'). Laid BY PROGRAM, IN A SANDBOX (cutbox-door.mjs). By AI agents, Wed Nov 11 2026. No macro, syntax, notation, axiom, sorry.
-/
import Derived.Test.YtkbljgclflaokaaGreatDoorRows
import GoSem.ClaimSeven
namespace Go.Proofs.YtkbljgclflaokaaGreatDoor
namespace Rows

/-- THE TIED CARD OF 'haymowlaw16.StoreApart'. -/
def storeApartCard : Claim7 := { stood := { row := storeApartRow, standIns := [], harness := (true, "3868b53b0d6c2b59798d8f54d3e1e0e4d840629870c46e3aa868ebec76c63b36"), looks := true }, kinds := [], alts := [], laidByText := true, laidKinds := [.data, .data, .data, .data, .data, .data, .data], laidTests := true, laidLooks := .later }
def StoreApartCardSaid : Prop := Claim7.holds Tryz.pinned (.plain (OpenSpec.ofChange storeApartSpec)) storeApartCard

/-- THE TIED CARD OF 'haymowlaw16.StoreSteps'. -/
def storeStepsCard : Claim7 := { stood := { row := storeStepsRow, standIns := [], harness := (true, "3868b53b0d6c2b59798d8f54d3e1e0e4d840629870c46e3aa868ebec76c63b36"), looks := true }, kinds := [], alts := [], laidByText := true, laidKinds := [.data, .data, .data, .data, .data, .data, .data], laidTests := true, laidLooks := .later }
def StoreStepsCardSaid : Prop := Claim7.holds Tryz.pinned (.plain (OpenSpec.ofChange storeStepsSpec)) storeStepsCard

/-- THE SECOND FORM's CARD OF 'haymowlaw16.StoreApart'. -/
def storeApartUptoCard : Claim7 := { stood := { row := storeApartUptoRow, standIns := [], harness := (true, "3868b53b0d6c2b59798d8f54d3e1e0e4d840629870c46e3aa868ebec76c63b36"), looks := true }, kinds := [], alts := [], laidByText := true, laidKinds := [.data, .data, .data, .data, .data, .data, .data], laidTests := true, laidLooks := .later }
def StoreApartUptoCardSaid : Prop := Claim7.holds Tryz.pinned (.plain (OpenSpec.upto storeApartSpec)) storeApartUptoCard

/-- THE SECOND FORM's CARD OF 'haymowlaw16.StoreSteps'. -/
def storeStepsUptoCard : Claim7 := { stood := { row := storeStepsUptoRow, standIns := [], harness := (true, "3868b53b0d6c2b59798d8f54d3e1e0e4d840629870c46e3aa868ebec76c63b36"), looks := true }, kinds := [], alts := [], laidByText := true, laidKinds := [.data, .data, .data, .data, .data, .data, .data], laidTests := true, laidLooks := .later }
def StoreStepsUptoCardSaid : Prop := Claim7.holds Tryz.pinned (.plain (OpenSpec.upto storeStepsSpec)) storeStepsUptoCard
end Rows
end Go.Proofs.YtkbljgclflaokaaGreatDoor
