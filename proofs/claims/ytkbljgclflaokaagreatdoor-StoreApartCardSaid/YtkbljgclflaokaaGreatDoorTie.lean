/-
  DERIVED. GIVEN WITH THE SEED: THE PROGRAM's TIES (one call each: nine closed facts by the kernel) AND EACH ROW's TIE, after the 31st guide's Derived/Test/Toyas{Tie, Card}.lean. No idea stands in it: it is a product of the set-up. Laid BY PROGRAM, IN A SANDBOX (cutbox-door.mjs). By AI agents, Wed Nov 11 2026. No macro, syntax, notation, axiom, sorry.
-/
import Derived.Test.YtkbljgclflaokaaGreatDoorRows
import Derived.LaidByTextLater
import Derived.SevenTiedAt
import Derived.LaidSub
import Derived.LaidOnce
namespace Go.Proofs.YtkbljgclflaokaaGreatDoor
open Go
set_option maxRecDepth 100000
theorem seatTie1 : Tryz.prog.laidByTextLater [("haymow/header.pointersField", Rows.laid_haymow_header_pointersField), ("haymow/header.rawsField", Rows.laid_haymow_header_rawsField), ("haymow/header.siteField", Rows.laid_haymow_header_siteField), ("haymow/header.ageField", Rows.laid_haymow_header_ageField), ("haymow/header.largeField", Rows.laid_haymow_header_largeField), ("haymow/header.unusedField", Rows.laid_haymow_header_unusedField), ("haymow/header.kindField", Rows.laid_haymow_header_kindField)] [.data, .data, .data, .data, .data, .data, .data] true :=
  Program.laidByTextLater_by_one 44 8 3 (by kernel_rfl) (by kernel_rfl) (by kernel_rfl) (by kernel_rfl) (by kernel_rfl) (by kernel_rfl) (fun _ _ => by kernel_rfl)
theorem noOwnUnsafe : Tryz.pinned.checked.prog.headLifts.contains "ownunsafe" = false := by kernel_rfl
theorem tie : Tryz.prog.laidByTextLater [("haymow/header.pointersField", Rows.laid_haymow_header_pointersField), ("haymow/header.rawsField", Rows.laid_haymow_header_rawsField), ("haymow/header.siteField", Rows.laid_haymow_header_siteField), ("haymow/header.ageField", Rows.laid_haymow_header_ageField), ("haymow/header.largeField", Rows.laid_haymow_header_largeField), ("haymow/header.unusedField", Rows.laid_haymow_header_unusedField), ("haymow/header.kindField", Rows.laid_haymow_header_kindField)] [.data, .data, .data, .data, .data, .data, .data] true :=
  Program.laidByTextLater.sub seatTie1 ["haymow/header.pointersField", "haymow/header.rawsField", "haymow/header.siteField", "haymow/header.ageField", "haymow/header.largeField", "haymow/header.unusedField", "haymow/header.kindField"] (by kernel_rfl) (by kernel_rfl)
theorem storeApart_row_tie : Rows.storeApartRow.laidByTextAt .later Tryz.pinned [.data, .data, .data, .data, .data, .data, .data] true :=
  OpenClaim.laidByTextAt_later rfl rfl tie noOwnUnsafe
theorem storeSteps_row_tie : Rows.storeStepsRow.laidByTextAt .later Tryz.pinned [.data, .data, .data, .data, .data, .data, .data] true :=
  OpenClaim.laidByTextAt_later rfl rfl tie noOwnUnsafe
theorem storeApartUpto_row_tie : Rows.storeApartUptoRow.laidByTextAt .later Tryz.pinned [.data, .data, .data, .data, .data, .data, .data] true :=
  OpenClaim.laidByTextAt_later rfl rfl tie noOwnUnsafe
theorem storeStepsUpto_row_tie : Rows.storeStepsUptoRow.laidByTextAt .later Tryz.pinned [.data, .data, .data, .data, .data, .data, .data] true :=
  OpenClaim.laidByTextAt_later rfl rfl tie noOwnUnsafe
end Go.Proofs.YtkbljgclflaokaaGreatDoor
