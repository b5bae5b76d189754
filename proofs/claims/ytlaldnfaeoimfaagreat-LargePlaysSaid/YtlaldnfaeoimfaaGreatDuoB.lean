/-
  haymowlaw15.do: its boxes; what it tells. No walk.
-/
import Derived.Test.YtlaldnfaeoimfaaGreatDuoA
import Derived.Test.YtlaldnfaeoimfaaGreatOps15
import Derived.Test.YtlaldnfaeoimfaaGreatLibF
namespace Go.Proofs.YtlaldnfaeoimfaaGreat
open Go.RowKit
set_option linter.unusedVariables false

def o5c (o : Op15) (j : Nat) : Value := if j = 0 then .int .i64 o.k else if j = 1 then .int .i64 o.a else if j = 2 then .int .i64 o.b else if j = 3 then .int .i64 o.n else .int .u64 (o.w : Int)
theorem fivek {j : Nat} (h : j < 5) : j = 0 ∨ j = 1 ∨ j = 2 ∨ j = 3 ∨ j = 4 := by omega
theorem o5_new (o : Op15) (j : Nat) (hj : j < 5) : (#[.int .i64 o.k, .int .i64 o.a, .int .i64 o.b, .int .i64 o.n, .int .u64 (o.w : Int)] : Array Value)[j]? = some (o5c o j) := by
  rcases fivek hj with rfl | rfl | rfl | rfl | rfl <;> rfl
abbrev opv15 (o : Op15) : Value := .agg #[.int .i64 o.k, .int .i64 o.a, .int .i64 o.b, .int .i64 o.n, .int .u64 (o.w : Int)]
theorem o5_all {w : World} {q : Nat} {o : Op15} (h : Row w q 5 (o5c o)) : w.cell? ⟨q, 0, none⟩ = some (.int .i64 o.k) ∧ w.cell? ⟨q, 1, none⟩ = some (.int .i64 o.a) ∧ w.cell? ⟨q, 2, none⟩ = some (.int .i64 o.b) ∧ w.cell? ⟨q, 3, none⟩ = some (.int .i64 o.n) ∧ w.cell? ⟨q, 4, none⟩ = some (.int .u64 (o.w : Int)) ∧ q < w.heap.size :=
  ⟨h.cell 0 (by omega), h.cell 1 (by omega), h.cell 2 (by omega), h.cell 3 (by omega), h.cell 4 (by omega), h.lt⟩
attribute [irreducible] o5c
/-- do's boxes -/
def dbx15 (D : Nat → Nat) (B j : Nat) : Nat := if B ≤ j ∧ j < B + 3 then 1 else D j
theorem dbx15_in {D : Nat → Nat} {B j : Nat} (h1 : B ≤ j) (h2 : j < B + 3) : dbx15 D B j ≠ 0 := by unfold dbx15; rw [if_pos ⟨h1, h2⟩]; decide
theorem dbx15_out {D : Nat → Nat} {B j : Nat} (h : j < B) : dbx15 D B j = D j := by unfold dbx15; rw [if_neg (by omega)]
theorem dbx15_of {D : Nat → Nat} {B j : Nat} (h : D j ≠ 0) : dbx15 D B j ≠ 0 := by
  unfold dbx15; split
  · decide
  · exact h
theorem TR.put8 {R R' : Nat → Nat} {w w1 : World} (t : TR R R' w w1) {q : Nat} (hq : w.heap.size ≤ q) (x0 x1 x2 x3 x4 x5 x6 x7 : Value) : TR R R' w ((((((((w1.setCell ⟨q, 0, none⟩ x0).setCell ⟨q, 1, none⟩ x1).setCell ⟨q, 2, none⟩ x2).setCell ⟨q, 3, none⟩ x3).setCell ⟨q, 4, none⟩ x4).setCell ⟨q, 5, none⟩ x5).setCell ⟨q, 6, none⟩ x6).setCell ⟨q, 7, none⟩ x7) :=
  (((((((t.store hq 0 x0).store hq 1 x1).store hq 2 x2).store hq 3 x3).store hq 4 x4).store hq 5 x5).store hq 6 x6).store hq 7 x7
/-- do under way: its three boxes, both sides, what has turned since it began -/
structure DX (W0 : World) (D R0 R : Nat → Nat) (pb lb mb mm n rm a b : Nat) (e f u h i : Value) (td : Nat) (L : List Ent) (Fr : List Nat) (Ws : List (List Nat)) (M O : List Nat) (w0 : World) (o : Op15) (w : World) : Prop where
  s : DRow w w0.heap.size 5 rm e f u h i td
  o : Row w (w0.heap.size + 1) 5 (o5c o)
  z : DRow w (w0.heap.size + 1 + 1) 0 0 (.slice none 0 0) (.slice none 0 0) (.slice none 0 0) (.slice none 0 0) (.slice none 0 0) 0
  q : B15 W0 (dbx15 D w0.heap.size) R pb lb mb mm n rm a b e f u h i td L Fr Ws M O w
  t : TR (rl R0 pb lb) (rl R pb lb) w0 w
  lo : W0.heap.size ≤ w0.heap.size
section
variable {W0 : World} {D R0 R R' : Nat → Nat} {pb lb mb mm n n' rm rm' a b a' b' : Nat} {e f u h i e' f' u' h' i' : Value} {td td' : Nat} {L L' : List Ent} {Fr Fr' : List Nat} {Ws Ws' : List (List Nat)} {M O M' O' : List Nat} {w0 w w' w1 w2 : World} {o : Op15}
theorem DX.boxes (x : DX W0 D R0 R pb lb mb mm n rm a b e f u h i td L Fr Ws M O w0 o w) : ∀ j, w0.heap.size ≤ j → j < w0.heap.size + 3 → rl R pb lb j = 0 := fun j h1 h2 => x.q.dz j (dbx15_in h1 h2)
theorem DX.start (S : B15 W0 D R pb lb mb mm n rm a b e f u h i td L Fr Ws M O w) (o : Op15) : DX W0 D R R pb lb mb mm n rm a b e f u h i td L Fr Ws M O w o (((w.alloc (.cells #[.int .i64 5, e, f, .int .i64 rm, u, h, i, .int .i64 td] 35)).alloc (.cells #[.int .i64 o.k, .int .i64 o.a, .int .i64 o.b, .int .i64 o.n, .int .u64 (o.w : Int)] 48)).alloc (.cells #[.int .i64 0, .slice none 0 0, .slice none 0 0, .int .i64 0, .slice none 0 0, .slice none 0 0, .slice none 0 0, .int .i64 0] 35)) := by
  have kb : Below w.heap.size w (((w.alloc (.cells #[.int .i64 5, e, f, .int .i64 rm, u, h, i, .int .i64 td] 35)).alloc (.cells #[.int .i64 o.k, .int .i64 o.a, .int .i64 o.b, .int .i64 o.n, .int .u64 (o.w : Int)] 48)).alloc (.cells #[.int .i64 0, .slice none 0 0, .slice none 0 0, .int .i64 0, .slice none 0 0, .slice none 0 0, .slice none 0 0, .int .i64 0] 35)) := bAlloc (bAlloc (bAlloc (Below.refl _ _) _) _) _
  refine ⟨Row.alloc (Row.alloc (Row.newAt w _ _ w.heap.size 8 _ rfl (d8_new 5 rm e f u h i td)) _) _, Row.alloc (Row.newAt _ _ _ (w.heap.size + 1) 5 _ (by simp) (o5_new o)) _, Row.newAt _ _ _ (w.heap.size + 1 + 1) 8 _ (by simp) (d8_new 0 0 _ _ _ _ _ 0), S.grow kb (fun j hj => dbx15_out hj) (fun j hj => ?_), TR.of kb, S.low⟩
  by_cases c : j < w.heap.size + 3
  · simp; omega
  · unfold dbx15 at hj
    rw [if_neg (by omega)] at hj
    have := S.dl j hj
    omega
theorem DX.below (x : DX W0 D R0 R pb lb mb mm n rm a b e f u h i td L Fr Ws M O w0 o w) (k : Below w.heap.size w w') : DX W0 D R0 R pb lb mb mm n rm a b e f u h i td L Fr Ws M O w0 o w' := ⟨x.s.below k, x.o.below k, x.z.below k, x.q.below k, x.t.below' k, x.lo⟩
theorem DX.drew (x : DX W0 D R0 R pb lb mb mm n rm a b e f u h i td L Fr Ws M O w0 o w) : DX W0 D R0 R pb lb mb mm n rm a b e f u h i td L Fr Ws M O w0 o w.drew := x.below (Below.refl _ _).drew
/-- the boxes behind a call -/
theorem DX.cells (x : DX W0 D R0 R pb lb mb mm n rm a b e f u h i td L Fr Ws M O w0 o w) (t : TR (rl R pb lb) (rl R' pb lb) w w1) : DRow w1 w0.heap.size 5 rm e f u h i td ∧ Row w1 (w0.heap.size + 1) 5 (o5c o) ∧ DRow w1 (w0.heap.size + 1 + 1) 0 0 (.slice none 0 0) (.slice none 0 0) (.slice none 0 0) (.slice none 0 0) (.slice none 0 0) 0 :=
  ⟨x.s.tr t (x.boxes _ (Nat.le_refl _) (by omega)), x.o.tr t (x.boxes _ (by omega) (by omega)), x.z.tr t (x.boxes _ (by omega) (by omega))⟩
/-- a call of the program's alone -/
theorem DX.call (x : DX W0 D R0 R pb lb mb mm n rm a b e f u h i td L Fr Ws M O w0 o w) (t : TR (rl R pb lb) (rl R' pb lb) w w1) (q : B15 W0 (dbx15 D w0.heap.size) R' pb lb mb mm n' rm a' b' e f u h i td L Fr Ws M O w1) : DX W0 D R0 R' pb lb mb mm n' rm a' b' e f u h i td L Fr Ws M O w0 o w1 := by
  obtain ⟨c1, c2, c3⟩ := x.cells t
  exact ⟨c1, c2, c3, q, x.t.trans t, x.lo⟩
/-- a call at both, its state laid into the box -/
theorem DX.both (x : DX W0 D R0 R pb lb mb mm n rm a b e f u h i td L Fr Ws M O w0 o w) (t : TR (rl R pb lb) (rl R' pb lb) w w1) (k : Below w1.heap.size w1 w2) (q : B15 W0 (dbx15 D w0.heap.size) R' pb lb mb mm n' rm' a' b' e' f' u' h' i' td' L' Fr' Ws' M' O' w2) :
    DX W0 D R0 R' pb lb mb mm n' rm' a' b' e' f' u' h' i' td' L' Fr' Ws' M' O' w0 o ((((((((w2.setCell ⟨w0.heap.size, 0, none⟩ (.int .i64 5)).setCell ⟨w0.heap.size, 1, none⟩ e').setCell ⟨w0.heap.size, 2, none⟩ f').setCell ⟨w0.heap.size, 3, none⟩ (.int .i64 rm')).setCell ⟨w0.heap.size, 4, none⟩ u').setCell ⟨w0.heap.size, 5, none⟩ h').setCell ⟨w0.heap.size, 6, none⟩ i').setCell ⟨w0.heap.size, 7, none⟩ (.int .i64 td')) := by
  obtain ⟨c1, c2, c3⟩ := x.cells t
  have KB := keeps8 w2 w0.heap.size (.int .i64 5) e' f' (.int .i64 rm') u' h' i' (.int .i64 td')
  exact ⟨dr_set (c1.below k) 5 rm' e' f' u' h' i' td', (c2.below k).keeps KB (by omega), (c3.below k).keeps KB (by omega), q.put (dbx15_in (Nat.le_refl _) (by omega)) x.lo KB, TR.put8 ((x.t.trans t).below' k) (Nat.le_refl _) _ _ _ _ _ _ _ _, x.lo⟩
end
/-- what do tells: both tell alike, and of how many steps at the most -/
def DoE15 (W0 : World) (D R : Nat → Nat) (pb lb mb mm n a b : Nat) (w : World) (x : Ending) (w' : World) : Prop := ∃ (R' : Nat → Nat) (rm' a' b' : Nat) (e' f' u' h' i' : Value) (td' : Nat) (L' : List Ent) (Fr' : List Nat) (Ws' : List (List Nat)) (M' O' : List Nat) (most : Nat), x = .returned (.tuple #[dsv rm' e' f' u' h' i' td', .int .u64 (most : Int), .bool true]) ∧ B15 W0 D R' pb lb mb mm (n + 1) rm' a' b' e' f' u' h' i' td' L' Fr' Ws' M' O' w' ∧ TR (rl R pb lb) (rl R' pb lb) w w' ∧ a' + b' ≤ a + b + most ∧ most ≤ 1000
section
variable {W0 : World} {D R0 R R' : Nat → Nat} {pb lb mb mm n rm a b a0 b0 : Nat} {e f u h i : Value} {td : Nat} {L : List Ent} {Fr : List Nat} {Ws : List (List Nat)} {M O : List Nat} {w0 w : World} {o : Op15}
/-- do ends: its state is laid into the result -/
theorem DX.fin (x : DX W0 D R0 R pb lb mb mm (n + 1) rm a b e f u h i td L Fr Ws M O w0 o w) (m : Nat) (h1 : a + b ≤ a0 + b0 + m) (h2 : m ≤ 1000) :
    let w' := ((((((((w.setCell ⟨w0.heap.size + 1 + 1, 0, none⟩ (.int .i64 5)).setCell ⟨w0.heap.size + 1 + 1, 1, none⟩ e).setCell ⟨w0.heap.size + 1 + 1, 2, none⟩ f).setCell ⟨w0.heap.size + 1 + 1, 3, none⟩ (.int .i64 rm)).setCell ⟨w0.heap.size + 1 + 1, 4, none⟩ u).setCell ⟨w0.heap.size + 1 + 1, 5, none⟩ h).setCell ⟨w0.heap.size + 1 + 1, 6, none⟩ i).setCell ⟨w0.heap.size + 1 + 1, 7, none⟩ (.int .i64 td))
    DRow w' (w0.heap.size + 1 + 1) 5 rm e f u h i td ∧ DoE15 W0 D R0 pb lb mb mm n a0 b0 w0 (.returned (.tuple #[dsv rm e f u h i td, .int .u64 (m : Int), .bool true])) w' :=
  ⟨dr_set x.z 5 rm e f u h i td, R, rm, a, b, e, f, u, h, i, td, L, Fr, Ws, M, O, m, rfl, (x.q.put (dbx15_in (by omega) (by omega)) (Nat.le_trans x.lo (by omega)) (keeps8 w _ _ _ _ _ _ _ _ _)).less (fun j hj => dbx15_of hj), TR.put8 x.t (by omega) _ _ _ _ _ _ _ _, h1, h2⟩
/-- the same, a draw behind it -/
theorem DoE15.below {x : Ending} {w' w'' : World} (d : DoE15 W0 D R0 pb lb mb mm n a0 b0 w0 x w') (k : Below w'.heap.size w' w'') : DoE15 W0 D R0 pb lb mb mm n a0 b0 w0 x w'' := by
  obtain ⟨R', rm', a', b', e', f', u', h', i', td', L', Fr', Ws', M', O', most, e1, q, t, h1, h2⟩ := d
  exact ⟨R', rm', a', b', e', f', u', h', i', td', L', Fr', Ws', M', O', most, e1, q.below k, t.below' k, h1, h2⟩
end
end Go.Proofs.YtlaldnfaeoimfaaGreat
