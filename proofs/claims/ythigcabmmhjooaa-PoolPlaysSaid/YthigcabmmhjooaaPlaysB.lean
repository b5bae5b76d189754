/-
  haymowlaw10.do: its boxes; what it tells. No walk.
-/
import Derived.Test.YthigcabmmhjooaaPlaysA
import Derived.Test.YthigcabmmhjooaaOps10
import Derived.Test.YthigcabmmhjooaaLibF
namespace Go.Proofs.Ythigcabmmhjooaa
open Go.RowKit
set_option linter.unusedVariables false

def o4c (o : Op10) (j : Nat) : Value := if j = 0 then .int .i64 o.k else if j = 1 then .int .i64 o.a else if j = 2 then .int .i64 o.b else .int .u64 (o.w : Int)
theorem o4_new (o : Op10) (j : Nat) (hj : j < 4) : (#[.int .i64 o.k, .int .i64 o.a, .int .i64 o.b, .int .u64 (o.w : Int)] : Array Value)[j]? = some (o4c o j) := by
  rcases four hj with rfl | rfl | rfl | rfl <;> rfl
abbrev opv (o : Op10) : Value := .agg #[.int .i64 o.k, .int .i64 o.a, .int .i64 o.b, .int .u64 (o.w : Int)]
theorem o4_all {w : World} {q : Nat} {o : Op10} (h : Row w q 4 (o4c o)) : w.cell? ⟨q, 0, none⟩ = some (.int .i64 o.k) ∧ w.cell? ⟨q, 1, none⟩ = some (.int .i64 o.a) ∧ w.cell? ⟨q, 2, none⟩ = some (.int .i64 o.b) ∧ w.cell? ⟨q, 3, none⟩ = some (.int .u64 (o.w : Int)) ∧ q < w.heap.size :=
  ⟨h.cell 0 (by omega), h.cell 1 (by omega), h.cell 2 (by omega), h.cell 3 (by omega), h.lt⟩
attribute [irreducible] o4c
/-- do's boxes -/
def dbx (D : Nat → Nat) (B j : Nat) : Nat := if B ≤ j ∧ j < B + 3 then 1 else D j
theorem dbx_in {D : Nat → Nat} {B j : Nat} (h1 : B ≤ j) (h2 : j < B + 3) : dbx D B j ≠ 0 := by unfold dbx; rw [if_pos ⟨h1, h2⟩]; decide
theorem dbx_out {D : Nat → Nat} {B j : Nat} (h : j < B) : dbx D B j = D j := by unfold dbx; rw [if_neg (by omega)]
theorem dbx_of {D : Nat → Nat} {B j : Nat} (h : D j ≠ 0) : dbx D B j ≠ 0 := by
  unfold dbx; split
  · decide
  · exact h
structure DB (B : Nat) (o : Op10) (W r : Int) (v f : Value) (w : World) : Prop where
  s : ERow w B W v f r
  o : Row w (B + 1) 4 (o4c o)
  z : ERow w (B + 1 + 1) 0 (.slice none 0 0) (.slice none 0 0) 0
section
variable {B : Nat} {o : Op10} {W r : Int} {v f : Value} {w w' : World} {D R R' : Nat → Nat} {pb : Nat}
theorem DB.below (h : DB B o W r v f w) (k : Below w.heap.size w w') : DB B o W r v f w' := ⟨h.s.below k, h.o.below k, h.z.below k⟩
theorem DB.tr (h : DB B o W r v f w) (t : TR R R' w w') (z : ∀ j, B ≤ j → j < B + 3 → R j = 0) : DB B o W r v f w' :=
  ⟨h.s.tr t (z _ (by omega) (by omega)), h.o.tr t (z _ (by omega) (by omega)), h.z.tr t (z _ (by omega) (by omega))⟩
theorem DB.put (h : DB B o W r v f w) (W' r' : Int) (v' f' : Value) : DB B o W' r' v' f' ((((w.setCell ⟨B, 0, none⟩ (.int .i64 W')).setCell ⟨B, 1, none⟩ v').setCell ⟨B, 2, none⟩ f').setCell ⟨B, 3, none⟩ (.int .i64 r')) :=
  ⟨er_set h.s W' v' f' r', h.o.keeps (keeps4 w B _ _ _ _) (by omega), h.z.keeps (keeps4 w B _ _ _ _) (by omega)⟩
end
theorem db_new (w : World) (o : Op10) (W r : Int) (v f : Value) : DB w.heap.size o W r v f (((w.alloc (.cells #[.int .i64 W, v, f, .int .i64 r] 32)).alloc (.cells #[.int .i64 o.k, .int .i64 o.a, .int .i64 o.b, .int .u64 (o.w : Int)] 45)).alloc (.cells #[.int .i64 0, .slice none 0 0, .slice none 0 0, .int .i64 0] 32)) ∧
    Below w.heap.size w (((w.alloc (.cells #[.int .i64 W, v, f, .int .i64 r] 32)).alloc (.cells #[.int .i64 o.k, .int .i64 o.a, .int .i64 o.b, .int .u64 (o.w : Int)] 45)).alloc (.cells #[.int .i64 0, .slice none 0 0, .slice none 0 0, .int .i64 0] 32)) ∧
    w.heap.size + 3 = (((w.alloc (.cells #[.int .i64 W, v, f, .int .i64 r] 32)).alloc (.cells #[.int .i64 o.k, .int .i64 o.a, .int .i64 o.b, .int .u64 (o.w : Int)] 45)).alloc (.cells #[.int .i64 0, .slice none 0 0, .slice none 0 0, .int .i64 0] 32)).heap.size :=
  ⟨⟨((Row.newAt w _ _ w.heap.size 4 _ rfl (e4_new W v f r)).alloc _).alloc _, (Row.newAt _ _ _ (w.heap.size + 1) 4 _ (by simp) (o4_new o)).alloc _, Row.newAt _ _ _ (w.heap.size + 1 + 1) 4 _ (by simp) (e4_new 0 (.slice none 0 0) (.slice none 0 0) 0)⟩, bAlloc (bAlloc (bAlloc (Below.refl _ _) _) _) _, by simp⟩
/-- what do tells: both tell alike, and of how many steps at the most -/
def DoE (W0 : World) (D R : Nat → Nat) (pb mb mm W k a b : Nat) (w : World) (e : Ending) (w' : World) : Prop := ∃ (R' : Nat → Nat) (rm' a' b' : Nat) (v' f' : Value) (L' : List Ent) (Fr' : List Nat) (most : Nat), e = .returned (.tuple #[estv (W : Int) v' f' (rm' : Int), .int .u64 (most : Int), .bool true]) ∧ Bo W0 D R' pb mb mm W (k + 1) rm' a' b' v' f' L' Fr' w' ∧ TR (rp R pb) (rp R' pb) w w' ∧ a ≤ a' ∧ b ≤ b' ∧ a' + b' ≤ a + b + most ∧ most ≤ 63
section
variable {B : Nat} {W0 : World} {D R R' : Nat → Nat} {pb mb mm W k rm a b : Nat} {v f : Value} {L : List Ent} {Fr : List Nat} {w w' : World} {o : Op10}
/-- do begins -/
theorem Bo.enter (S : Bo W0 D R pb mb mm W k rm a b v f L Fr w) (o : Op10) : ∃ w1, w1 = (((w.alloc (.cells #[.int .i64 (W : Int), v, f, .int .i64 (rm : Int)] 32)).alloc (.cells #[.int .i64 o.k, .int .i64 o.a, .int .i64 o.b, .int .u64 (o.w : Int)] 45)).alloc (.cells #[.int .i64 0, .slice none 0 0, .slice none 0 0, .int .i64 0] 32)) ∧ DB w.heap.size o (W : Int) (rm : Int) v f w1 ∧ Bo W0 (dbx D w.heap.size) R pb mb mm W k rm a b v f L Fr w1 ∧ Below w.heap.size w w1 := by
  obtain ⟨d, kb, sz⟩ := db_new w o (W : Int) (rm : Int) v f
  refine ⟨_, rfl, d, S.grow kb (fun j hj => dbx_out hj) (fun j hj => ?_), kb⟩
  by_cases c : j < w.heap.size + 3
  · rw [← sz]; exact c
  · unfold dbx at hj
    rw [if_neg (by omega)] at hj
    have := S.dl j hj
    omega
theorem Bo.boxes (S : Bo W0 (dbx D B) R pb mb mm W k rm a b v f L Fr w) : ∀ j, B ≤ j → j < B + 3 → rp R pb j = 0 := fun j h1 h2 => S.dz j (dbx_in h1 h2)
theorem Bo.out (S : Bo W0 (dbx D B) R pb mb mm W k rm a b v f L Fr w) : Bo W0 D R pb mb mm W k rm a b v f L Fr w := S.less (fun j hj => dbx_of hj)
theorem Bo.low (S : Bo W0 D R pb mb mm W k rm a b v f L Fr w) : W0.heap.size ≤ w.heap.size := by
  obtain ⟨⟨mad, cnt, fre, ws, h, tk, gn, F, p, m⟩, st, dl, dz, ab⟩ := S
  exact p.o.b.size
theorem TR.put4 {R R' : Nat → Nat} {w w1 : World} (t : TR R R' w w1) {q : Nat} (hq : w.heap.size ≤ q) (x0 x1 x2 x3 : Value) : TR R R' w ((((w1.setCell ⟨q, 0, none⟩ x0).setCell ⟨q, 1, none⟩ x1).setCell ⟨q, 2, none⟩ x2).setCell ⟨q, 3, none⟩ x3) :=
  (((t.store hq 0 x0).store hq 1 x1).store hq 2 x2).store hq 3 x3
end
end Go.Proofs.Ythigcabmmhjooaa
