/-
  haymowref08.Open.
-/
import Derived.Test.YtibaloamgpcghaaWrite08
import Derived.Test.YtibaloamgpcghaaOpenMath
import Derived.LoopTactic
import Derived.Deep.OwnRows
namespace Go.Proofs.Ytibaloamgpcghaa
open Go.RowKit
set_option linter.unusedVariables false

def zrow (q : Nat) : List Value := List.replicate q (.int .u64 0)
theorem made_zrow (q : Nat) : madeCells (Value.int .u64 0).cells (q * 1) = (zrow q).toArray := by
  unfold madeCells zrow
  apply Array.ext
  · simp
  · intro i h1 h2
    simp [Value.cells, Nat.mod_one]
theorem zrow_at (q j : Nat) (hj : j < q) : ((zrow q).toArray : Array Value)[j]? = some (pw ((List.replicate q 0).getD j 0)) := by
  unfold zrow; simp [List.getD, hj, pw]
attribute [irreducible] zrow
theorem make_words (n : Nat) (hn : n ≤ 10000000) (w : World) : (Instr.makeSlice 40 (.int .i64 (n : Int)) (.int .i64 (n : Int))).run Try.prog w = .ok (.slice (some ⟨w.heap.size, 0, none⟩) n n) (w.alloc (.cells (zrow n).toArray 44)) := by
  obtain ⟨i0, hi, hz0, hz1, hz2⟩ := info_parts2 infoW
  have := run_make (P := Try.prog) w 40 44 i0 (.int .u64 0) Try.underlying40 hi hz0 .i64 .i64 (n : Int) (n : Int) (by omega) (by omega) (by rw [hz2]; omega) (by omega)
  rw [Int.toNat_natCast, hz1, made_zrow] at this
  exact this
theorem zwords (w : World) (n : Nat) : NB pw (w.alloc (.cells (zrow n).toArray 44)) w.heap.size (.slice (some ⟨w.heap.size, 0, none⟩) n n) (List.replicate n 0) := by
  have e : (List.replicate n 0).length = n := by simp
  have r := NB.of_row (p := pw) (w := w.alloc (.cells (zrow n).toArray 44)) (g := w.heap.size) (c := n) (B := w.heap.size) (L := List.replicate n 0) (Row.newAt w _ _ _ _ _ rfl (fun j hj => by rw [e] at hj; exact zrow_at n j hj)) (by rw [e]; exact Nat.le_refl _) (Nat.le_refl _)
  rw [e] at r
  exact r

end Go.Proofs.Ytibaloamgpcghaa
