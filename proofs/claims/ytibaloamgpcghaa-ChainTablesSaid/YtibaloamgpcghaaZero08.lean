/-
  haymowref08.Zero.
-/
import Derived.Test.YtibaloamgpcghaaWrite08
import Derived.LoopTactic
namespace Go.Proofs.Ytibaloamgpcghaa
open Go.RowKit
set_option linter.unusedVariables false

/-- words with the first j of f stored from place d on -/
def wset (ws : List Nat) (d : Nat) (f : Nat → Nat) : Nat → List Nat
  | 0 => ws
  | j + 1 => (wset ws d f j).set (d + j) (f j)
theorem wset_len (ws : List Nat) (d : Nat) (f : Nat → Nat) (j : Nat) : (wset ws d f j).length = ws.length := by
  induction j with
  | zero => rfl
  | succ j ih => show ((wset ws d f j).set (d + j) (f j)).length = _; rw [List.length_set, ih]
theorem set_self (L : List Spc) (k : Nat) (hk : k < L.length) : L.set k ((L.getD k (false, [])).1, (L.getD k (false, [])).2) = L := by
  have e : (L.getD k (false, [])) = L[k] := by simp [List.getD, hk]
  rw [show ((L.getD k (false, [])).1, (L.getD k (false, [])).2) = L[k] by rw [e]]
  exact List.set_getElem_self hk
theorem OS.word2 {w : World} {B g : Nat} {L : List Spc} {G C : Nat → Nat} {k : Nat} {o : Bool} {ws : List Nat} (h : OS w B g (L.set k (o, ws)) G C) (hk : k < L.length) {i : Nat} (hi : i < ws.length) (n : Nat) :
    OS (w.setCell ⟨G k, i, none⟩ (pw n)) B g (L.set k (o, ws.set i n)) G C := by
  have e := getD_set L k k (o, ws) hk
  rw [if_pos rfl] at e
  have r := h.word (k := k) (by rw [List.length_set]; exact hk) (i := i) (by rw [e]; exact hi) n
  rw [e, List.set_set] at r
  exact r

end Go.Proofs.Ytibaloamgpcghaa
