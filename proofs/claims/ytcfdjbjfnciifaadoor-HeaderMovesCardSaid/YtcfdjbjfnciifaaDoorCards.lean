/-
  DERIVED. GIVEN WITH THE SEED: THE CARDS: each row of YtcfdjbjfnciifaaDoorRows.lean that lists a variable, with what it lists TIED to the program's text (the seventh form; the later family's looks); each row that meets fmt, with fmt's text TOLD by the authors' own Lean function (tested against real Go, not proved from fmt's source: count such statements apart). THE CARD IS WHAT COUNTS. Prove the row's statement (the work); the ties are given (YtcfdjbjfnciifaaDoorTie.lean); close each card by the builder's one call (the guide's Derived/Test/ToyasCard.lean, 'card_holds'). Laid BY PROGRAM, IN A SANDBOX (cutbox-door.mjs). By AI agents, Wed Nov 11 2026. No macro, syntax, notation, axiom, sorry.
-/
import Derived.Test.YtcfdjbjfnciifaaDoorRows
import GoSem.ClaimSeven
namespace Go.Proofs.YtcfdjbjfnciifaaDoor
namespace Rows

/-- THE TIED CARD OF 'haymowlaw12.HeaderPacks'. -/
def headerPacksCard : Claim7 := { stood := { row := headerPacksRow, standIns := [], harness := (true, "bfd1025a233b4dbf1099ed4970ddb2472144d92dfea1590b485d1159218ce2a1"), looks := false }, kinds := [], alts := [], laidByText := true, laidKinds := [.data, .data, .data, .data, .data, .data, .data, .data], laidTests := true, laidLooks := .later }
def HeaderPacksCardSaid : Prop := Claim7.holds Tryd.pinned (.plain (OpenSpec.ofChange headerPacksSpec)) headerPacksCard

/-- THE TIED CARD OF 'haymowlaw12.HeaderReads'. -/
def headerReadsCard : Claim7 := { stood := { row := headerReadsRow, standIns := [], harness := (true, "bfd1025a233b4dbf1099ed4970ddb2472144d92dfea1590b485d1159218ce2a1"), looks := false }, kinds := [], alts := [], laidByText := true, laidKinds := [.data, .data, .data, .data, .data, .data, .data, .data, .data], laidTests := true, laidLooks := .later }
def HeaderReadsCardSaid : Prop := Claim7.holds Tryd.pinned (.plain (OpenSpec.ofChange headerReadsSpec)) headerReadsCard

/-- THE TIED CARD OF 'haymowlaw12.HeaderMoves'. -/
def headerMovesCard : Claim7 := { stood := { row := headerMovesRow, standIns := [], harness := (true, "bfd1025a233b4dbf1099ed4970ddb2472144d92dfea1590b485d1159218ce2a1"), looks := false }, kinds := [], alts := [], laidByText := true, laidKinds := [.data, .data, .data, .data, .data, .data, .data, .data, .data], laidTests := true, laidLooks := .later }
def HeaderMovesCardSaid : Prop := Claim7.holds Tryd.pinned (.plain (OpenSpec.ofChange headerMovesSpec)) headerMovesCard

/-- THE SECOND FORM's CARD OF 'haymowlaw12.HeaderPacks'. -/
def headerPacksUptoCard : Claim7 := { stood := { row := headerPacksUptoRow, standIns := [], harness := (true, "bfd1025a233b4dbf1099ed4970ddb2472144d92dfea1590b485d1159218ce2a1"), looks := false }, kinds := [], alts := [], laidByText := true, laidKinds := [.data, .data, .data, .data, .data, .data, .data, .data], laidTests := true, laidLooks := .later }
def HeaderPacksUptoCardSaid : Prop := Claim7.holds Tryd.pinned (.plain (OpenSpec.upto headerPacksSpec)) headerPacksUptoCard

/-- THE SECOND FORM's CARD OF 'haymowlaw12.HeaderReads'. -/
def headerReadsUptoCard : Claim7 := { stood := { row := headerReadsUptoRow, standIns := [], harness := (true, "bfd1025a233b4dbf1099ed4970ddb2472144d92dfea1590b485d1159218ce2a1"), looks := false }, kinds := [], alts := [], laidByText := true, laidKinds := [.data, .data, .data, .data, .data, .data, .data, .data, .data], laidTests := true, laidLooks := .later }
def HeaderReadsUptoCardSaid : Prop := Claim7.holds Tryd.pinned (.plain (OpenSpec.upto headerReadsSpec)) headerReadsUptoCard

/-- THE SECOND FORM's CARD OF 'haymowlaw12.HeaderMoves'. -/
def headerMovesUptoCard : Claim7 := { stood := { row := headerMovesUptoRow, standIns := [], harness := (true, "bfd1025a233b4dbf1099ed4970ddb2472144d92dfea1590b485d1159218ce2a1"), looks := false }, kinds := [], alts := [], laidByText := true, laidKinds := [.data, .data, .data, .data, .data, .data, .data, .data, .data], laidTests := true, laidLooks := .later }
def HeaderMovesUptoCardSaid : Prop := Claim7.holds Tryd.pinned (.plain (OpenSpec.upto headerMovesSpec)) headerMovesUptoCard
end Rows
end Go.Proofs.YtcfdjbjfnciifaaDoor
