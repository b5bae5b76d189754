/-
  Package chain: Drop of an entry.
-/
import Derived.Test.YthigcabmmhjooaaChnC
namespace Go.Proofs.Ythigcabmmhjooaa
open Go.RowKit
set_option linter.unusedVariables false

/-- the words behind a Drop -/
def dropw (ws : List Nat) (W N P nx pv : Nat) : List Nat :=
  if pv = 0 then (if nx = 0 then ws else ws.set (lk W nx P) pv) else (if nx = 0 then ws.set (lk W pv N) nx else (ws.set (lk W pv N) nx).set (lk W nx P) pv)
/-- the chain behind a Drop -/
def dhd (hd nx pv : Nat) : Nat := if pv = 0 then nx else hd
def dtl (tl nx pv : Nat) : Nat := if nx = 0 then pv else tl
/-- the writes behind a Drop -/
def dwr (b nx pv : Nat) : Nat := if pv = 0 then (if nx = 0 then b else addv b 1) else (if nx = 0 then addv b 1 else addv (addv b 1) 1)
theorem eq_zero_int {x : Nat} (h : x = 0) : ((x : Int) == 0) = true := by simp [h]
theorem ne_zero_int {x : Nat} (h : ¬ x = 0) : ((x : Int) == 0) = false := by simp [h]
section
variable (mb mm : Nat) (R : Nat → Nat) (L : List Spc) (a b : Nat) (h g : Int) (k W N P : Nat) (t : TT L k W N P)
include t
end
end Go.Proofs.Ythigcabmmhjooaa
