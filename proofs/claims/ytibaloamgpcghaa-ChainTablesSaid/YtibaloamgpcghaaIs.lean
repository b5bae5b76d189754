/-
  haymowref08.Count, Is, wrong.
-/
import Derived.Test.YtibaloamgpcghaaCopied
import Derived.Deep.QuietTactic
import Derived.BigQuiet
import Derived.WalkSmall
import Derived.Deep.DeepCutAuto
namespace Go.Proofs.Ytibaloamgpcghaa
open Go.RowKit
set_option linter.unusedVariables false

/-- is a space open? -/
def isv (L : List Spc) (id : Int) : Bool := decide (0 ≤ id ∧ id < (L.length : Int)) && (L.getD id.toNat (false, [])).1
/-- its words -/
def wds (L : List Spc) (i : Nat) : List Nat := (L.getD i (false, [])).2
/-- one of them -/
def wat (L : List Spc) (k i : Nat) : Nat := (wds L k).getD i 0
theorem wat_eq (L : List Spc) (k i : Nat) : pw ((L.getD k (false, [])).2.getD i 0) = .int .u64 (wat L k i : Nat) := rfl
/-- how many are open -/
def countv : List Spc → Nat
  | [] => 0
  | x :: l => (if x.1 then 1 else 0) + countv l
theorem countv_snoc (l : List Spc) (x : Spc) : countv (l ++ [x]) = countv l + (if x.1 then 1 else 0) := by
  induction l with
  | nil => simp [countv]
  | cons y l ih => simp only [List.cons_append, countv, ih]; omega
theorem countv_le (l : List Spc) : countv l ≤ l.length := by
  induction l with
  | nil => simp [countv]
  | cons y l ih => simp only [countv, List.length_cons]; split <;> omega
theorem countv_take (L : List Spc) (k : Nat) (hk : k < L.length) : countv (L.take (k + 1)) = countv (L.take k) + (if (L.getD k (false, [])).1 then 1 else 0) := by
  rw [List.take_succ_eq_append_getElem hk, countv_snoc]
  simp [List.getD, List.getElem?_eq_getElem hk]
/-- what is wrong with so many words -/
def wrongv (L : List Spc) (id a n : Int) : Int := if isv L id = false then 10 else if n < 0 ∨ a < 0 ∨ (wds L id.toNat).length < n ∨ (wds L id.toNat).length - n < a then 11 else 0
theorem isv_t {L : List Spc} {i : Nat} (h : i < L.length) (o : (L.getD i (false, [])).1 = true) : isv L (i : Int) = true := by
  unfold isv; rw [Int.toNat_natCast, o, decide_eq_true ⟨by omega, by omega⟩]; rfl
theorem isv_of {L : List Spc} {id : Int} (h : isv L id = true) : ∃ i : Nat, id = i ∧ i < L.length ∧ (L.getD i (false, [])).1 = true := by
  unfold isv at h
  rw [Bool.and_eq_true, decide_eq_true_iff] at h
  obtain ⟨i, rfl⟩ := Int.eq_ofNat_of_zero_le h.1.1
  exact ⟨i, rfl, by omega, by rw [Int.toNat_natCast] at h; exact h.2⟩
attribute [irreducible] countv wat
end Go.Proofs.Ytibaloamgpcghaa
