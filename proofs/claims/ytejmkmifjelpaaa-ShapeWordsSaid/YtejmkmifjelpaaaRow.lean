/-
  A block of memory known cell by cell. No program in sight.
-/
import Derived.WalkKit
import Derived.RowKit3
import Derived.Below
import Derived.Lib.Hide
import Derived.WalkSmall
import Derived.Deep.Draws
namespace Go.Proofs.Ytejmkmifjelpaaa
open Go.RowKit

/-- Block g holds f 0 .. f (n-1), none of it frozen. -/
structure Row (w : World) (g n : Nat) (f : Nat → Value) : Prop where
  lt : g < w.heap.size
  cell : ∀ j, j < n → w.cell? ⟨g, j, none⟩ = some (f j)
  free : ∀ j, w.frozen? ⟨g, j, none⟩ = false
theorem Row.below {w w' : World} {g n : Nat} {f : Nat → Value} (h : Row w g n f) (b : Below w.heap.size w w') : Row w' g n f :=
  ⟨Nat.lt_of_lt_of_le h.lt b.size, fun j hj => by rw [b.cell (p := ⟨g, j, none⟩) h.lt]; exact h.cell j hj, fun j => by rw [b.frozen (p := ⟨g, j, none⟩) h.lt]; exact h.free j⟩
theorem Row.alloc {w : World} {g n : Nat} {f : Nat → Value} (h : Row w g n f) (o : Obj) : Row (w.alloc o) g n f := h.below ((Below.refl _ _).alloc (Nat.le_refl _) o)
theorem Row.drewN {w : World} {g n : Nat} {f : Nat → Value} (h : Row w g n f) (k : Nat) : Row (w.drewN k) g n f := ⟨h.lt, h.cell, h.free⟩
theorem Row.drew {w : World} {g n : Nat} {f : Nat → Value} (h : Row w g n f) : Row w.drew g n f := ⟨h.lt, h.cell, h.free⟩
theorem Row.far {w : World} {g n : Nat} {f : Nat → Value} (h : Row w g n f) {p : Addr} (v : Value) (hp : p.block ≠ g) : Row (w.setCell p v) g n f :=
  ⟨by simpa using h.lt, fun j hj => by rw [World.cell?_setCell_other w p ⟨g, j, none⟩ v (fun e => hp (by rw [e]))]; exact h.cell j hj, fun j => by rw [World.frozen?_setCell]; exact h.free j⟩
theorem Row.set {w : World} {g n : Nat} {f : Nat → Value} (h : Row w g n f) (k : Nat) (hk : k < n) (v : Value) : Row (w.setCell ⟨g, k, none⟩ v) g n (fun j => if j = k then v else f j) := by
  refine ⟨by simpa using h.lt, fun j hj => ?_, fun j => by rw [World.frozen?_setCell]; exact h.free j⟩
  by_cases e : j = k
  · subst e; rw [World.cell?_setCell_same w _ v (h.cell j hj)]; simp
  · rw [World.cell?_setCell_other w ⟨g, k, none⟩ ⟨g, j, none⟩ v (by simp)]; simp [e, h.cell j hj]
theorem Row.congr {w : World} {g n : Nat} {f f' : Nat → Value} (h : Row w g n f) (e : ∀ j, j < n → f j = f' j) : Row w g n f' :=
  ⟨h.lt, fun j hj => by rw [← e j hj]; exact h.cell j hj, h.free⟩
/-- a new block -/
theorem Row.new (w : World) (C : Array Value) (t : TypeId) (n : Nat) (f : Nat → Value) (h : ∀ j, j < n → C[j]? = some (f j)) : Row (w.alloc (.cells C t)) w.heap.size n f :=
  ⟨by simp, fun j hj => by rw [World.cell?_alloc_new]; exact h j hj, fun j => by simp⟩
theorem Row.newAt (w : World) (C : Array Value) (t : TypeId) (g n : Nat) (f : Nat → Value) (hg : g = w.heap.size) (h : ∀ j, j < n → C[j]? = some (f j)) : Row (w.alloc (.cells C t)) g n f := by
  subst hg; exact Row.new w C t n f h

end Go.Proofs.Ytejmkmifjelpaaa
