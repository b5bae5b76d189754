/-
  An array of 14 integers: as a value, in a block, one of its elements, compared with itself.
-/
import Derived.Test.YthcodcgmplncjaaKit04
import Derived.Test.YthcodcgmplncjaaCls
import Derived.Laws.Rows
import Derived.Laws.CopyOwn
import Derived.Laws.StructEq
import Derived.ChangeKeysEq
import Derived.Deep.WholeRow
namespace Go.Proofs.Ythcodcgmplncjaa
open Go.RowKit
set_option linter.unusedVariables false

/-- 14 integers as the program has them -/
def zrow (f : Nat → Int) : Array Value := Array.ofFn (n := 14) fun i => .int .i64 (f i)
theorem zrow_size (f : Nat → Int) : (zrow f).size = 14 := by unfold zrow; simp
theorem zrow_get (f : Nat → Int) (j : Nat) (h : j < 14) : (zrow f)[j]? = some (.int .i64 (f j)) := by unfold zrow; simp [h]
theorem zrow_one (f : Nat → Int) : (zrow f).all (·.oneCell') = true := by
  unfold zrow; rw [Array.all_eq_true]; intro i h; simp [Value.oneCell']
theorem zrow_ext {f : Nat → Int} {A : Array Value} (hs : A.size = 14) (h : ∀ j, j < 14 → A[j]? = some (.int .i64 (f j))) : A = zrow f := by
  apply Array.ext_getElem?
  intro i
  by_cases c : i < 14
  · rw [h i c, zrow_get f i c]
  · rw [Array.getElem?_eq_none (by omega), Array.getElem?_eq_none (by rw [zrow_size]; omega)]
theorem zrow_set (f : Nat → Int) (k : Nat) (hk : k < 14) (b : Int) : (zrow f).setIfInBounds k (.int .i64 b) = zrow (fun j => if j = k then b else f j) := by
  apply zrow_ext (by simp [zrow_size])
  intro j hj
  rw [Array.getElem?_setIfInBounds, zrow_size, zrow_get f j hj]
  by_cases e : k = j
  · subst e; simp [hj]
  · simp [e, show ¬ j = k by omega]
theorem zrow_congr {f g : Nat → Int} (h : ∀ j, j < 14 → f j = g j) : zrow f = zrow g := zrow_ext (zrow_size f) fun j hj => by rw [zrow_get f j hj, h j hj]
attribute [irreducible] zrow

/-- Block g holds 14 integers. -/
def ARow (w : World) (g : Nat) (f : Nat → Int) : Prop := w.heap[g]? = some (.cells (zrow f) 31 (0, 0))
theorem ARow.lt {w : World} {g : Nat} {f : Nat → Int} (h : ARow w g f) : g < w.heap.size := (Array.getElem?_eq_some_iff.1 h).1
theorem ARow.cell {w : World} {g : Nat} {f : Nat → Int} (h : ARow w g f) (j : Nat) (hj : j < 14) : w.cell? ⟨g, j, none⟩ = some (.int .i64 (f j)) := by
  rw [cell_of_row w g j _ _ _ h]; exact zrow_get f j hj
theorem ARow.free {w : World} {g : Nat} {f : Nat → Int} (h : ARow w g f) (j : Nat) : w.frozen? ⟨g, j, none⟩ = false := frozen_of_row w g j _ _ h
theorem ARow.congr {w : World} {g : Nat} {f f' : Nat → Int} (h : ARow w g f) (e : ∀ j, j < 14 → f j = f' j) : ARow w g f' := by
  unfold ARow; rw [← zrow_congr e]; exact h
theorem ARow.below {w w' : World} {g : Nat} {f : Nat → Int} (h : ARow w g f) (b : Below w.heap.size w w') : ARow w' g f := (b.block g h.lt).trans h
theorem ARow.alloc {w : World} {g : Nat} {f : Nat → Int} (h : ARow w g f) (o : Obj) : ARow (w.alloc o) g f := h.below ((Below.refl _ _).alloc (Nat.le_refl _) o)
theorem ARow.drewN {w : World} {g : Nat} {f : Nat → Int} (h : ARow w g f) (k : Nat) : ARow (w.drewN k) g f := h
theorem ARow.drew {w : World} {g : Nat} {f : Nat → Int} (h : ARow w g f) : ARow w.drew g f := h
theorem ARow.new (w : World) (f : Nat → Int) : ARow (w.alloc (.cells (zrow f) 31)) w.heap.size f := heap_alloc_new w _
theorem ARow.newAt (w : World) (f : Nat → Int) (g : Nat) (h : g = w.heap.size) : ARow (w.alloc (.cells (zrow f) 31)) g f := by subst h; exact heap_alloc_new w _
theorem ARow.set {w : World} {g : Nat} {f : Nat → Int} (h : ARow w g f) (k : Nat) (hk : k < 14) (b : Int) : ARow (w.setCell ⟨g, k, none⟩ (.int .i64 b)) g (fun j => if j = k then b else f j) := by
  unfold ARow; rw [heap_setCell_same w g k _ _ _ h, zrow_set f k hk b]
theorem ARow.far {w : World} {g : Nat} {f : Nat → Int} (h : ARow w g f) (p : Addr) (v : Value) (hp : p.block ≠ g) : ARow (w.setCell p v) g f :=
  (heap_setCell_other w p g v (fun e => hp e.symm)).trans h
theorem infoA : (Try.prog.info? 31).map (·.size) = some 14 := by kernel_rfl
theorem info_zrow (f : Nat → Int) : (Try.prog.info? 31).map (·.size) = some (zrow f).size := by rw [zrow_size]; exact infoA
theorem zeros_lit : (#[.int .i64 0, .int .i64 0, .int .i64 0, .int .i64 0, .int .i64 0, .int .i64 0, .int .i64 0, .int .i64 0, .int .i64 0, .int .i64 0, .int .i64 0, .int .i64 0, .int .i64 0, .int .i64 0] : Array Value) = zrow fun _ => 0 := by
  unfold zrow; kernel_rfl
theorem cells_int : Try.prog.cellsOf 3 = 1 := by kernel_rfl
theorem part_z (f : Nat → Int) (k : Nat) (hk : k < 14) (w : World) : (part 3 (zrow f) k).run Try.prog w = .ok (.int .i64 (f k)) w := by
  simp [part, Try.isAgg3, zrow_get f k hk]
/-- an element of an array by value -/
theorem index_z (f : Nat → Int) (k : Nat) (hk : k < 14) (w : World) : (Instr.index 31 (.agg (zrow f)) (.int .i64 (k : Nat))).run Try.prog w = .ok (.int .i64 (f k)) w := by
  simp [Instr.index, run_underlying Try.underlying31, asIntOf, part_z f k hk, Try.sizeOf3]
  intro h
  omega
/-- an array equals itself -/
theorem eql_z (f : Nat → Int) (w : World) : (binOp .eql 31 (.agg (zrow f)) (.agg (zrow f))).run Try.prog w = .ok (.bool true) w := by
  obtain ⟨i, hi⟩ : ∃ i, Try.prog.info? 3 = some i := Option.isSome_iff_exists.1 (by kernel_rfl)
  have go : ∀ is : List Nat, (∀ j ∈ is, j < 14) → (Op.eqItems 9999 3 (Try.prog.cellsOf 3) (zrow f) (zrow f) is).run Try.prog w = .ok true w := by
    intro is
    induction is with
    | nil => intro _; simp [Op.eqItems]
    | cons j is ih =>
      intro h
      have hj := h j (List.mem_cons_self ..)
      have := ih (fun q hq => h q (List.mem_cons_of_mem _ hq))
      rw [cells_int] at this ⊢
      simp only [Op.eqItems, Sem.run_bind, Nat.mul_one, part_z f j hj, Result.andThen_ok]
      rw [show (9999 : Nat) = 9998 + 1 from rfl, run_equalIn_int _ _ _ _ _ _ _ Try.underlying3]
      simp only [beq_self_eq_true, Result.andThen_ok, Bool.not_true, Bool.false_eq_true, if_false]
      exact this
  rw [run_eql_struct, show (10000 : Nat) = 9999 + 1 from rfl, run_equalIn_array (w := w) 9999 _ _ Try.underlying31 hi, go (List.range 14) (fun j hj => List.mem_range.1 hj)]
  rfl

end Go.Proofs.Ythcodcgmplncjaa
