/-
  Package header's contracts where it calls package field: the variables that hold its fields; number, Unpack, Pack, Older, Forward, Forwarded.
-/
import Derived.Test.YtkbljgclflaokaaGreatDoorHdrU
namespace Go.Proofs.YtkbljgclflaokaaGreatDoor
open Go.RowKit
set_option linter.unusedVariables false

/-- variable g holds the field At a, Size s -/
def FC (w : World) (g : Nat) (a s : Int) : Prop := w.cell? ⟨g, 0, none⟩ = some (.int .i64 a) ∧ w.cell? ⟨g, 1, none⟩ = some (.int .i64 s)
theorem FC.below {w w' : World} {g : Nat} {a s : Int} (h : FC w g a s) (hb : Below w.heap.size w w') : FC w' g a s :=
  ⟨(hb.cell (p := ⟨g, 0, none⟩) (World.block_lt_of_cell? w _ h.1)).trans h.1, (hb.cell (p := ⟨g, 1, none⟩) (World.block_lt_of_cell? w _ h.2)).trans h.2⟩
/-- seven of the nine variables of package header: those of a header word -/
structure FT (w : World) : Prop where
  ptr : FC w 0 0 12
  raw : FC w 1 12 12
  site : FC w 2 24 5
  age : FC w 3 29 3
  large : FC w 4 32 1
  unused : FC w 6 33 29
  kind : FC w 5 62 2
theorem FT.below {w w' : World} (h : FT w) (hb : Below w.heap.size w w') : FT w' :=
  ⟨h.ptr.below hb, h.raw.below hb, h.site.below hb, h.age.below hb, h.large.below hb, h.unused.below hb, h.kind.below hb⟩
theorem FT.drew {w : World} (h : FT w) : FT w.drew := ⟨h.ptr, h.raw, h.site, h.age, h.large, h.unused, h.kind⟩
theorem FT.alloc {w : World} (h : FT w) (o : Obj) : FT (w.alloc o) := h.below (bAlloc (Below.refl _ _) o)
theorem g0 (x : Nat) : getv x 0 12 = x % 4096 := by unfold getv; simp
theorem g1 (x : Nat) : getv x 12 12 = x / 4096 % 4096 := by unfold getv; rfl
theorem g2 (x : Nat) : getv x 24 5 = x / 16777216 % 32 := by unfold getv; rfl
theorem g3 (x : Nat) : getv x 29 3 = x / 536870912 % 8 := by unfold getv; rfl
theorem g4 (x : Nat) : getv x 32 1 = x / 4294967296 % 2 := by unfold getv; rfl
theorem g5 (x : Nat) : getv x 33 29 = x / 8589934592 % 536870912 := by unfold getv; rfl
theorem g6 (x : Nat) : getv x 0 22 = x % 4194304 := by unfold getv; simp
theorem g7 (x : Nat) : getv x 22 40 = x / 4194304 % 1099511627776 := by unfold getv; rfl
theorem g8 (x : Nat) : getv x 62 2 = x / 4611686018427387904 % 4 := by unfold getv; rfl

set_option maxRecDepth 100000 in
theorem hnumber_any (x a s n : Nat) (hx : x < 18446744073709551616) (h1 : 1 ≤ s) (h2 : a + s ≤ 64) (hn : getv x a s = n) (hl : n < 9223372036854775808) (w : World) :
    Calls Tryz.prog 66 #[.int .u64 (x : Int), fl a s] w fun e w' => e = .returned (.int .i64 (n : Int)) ∧ Below w.heap.size w w' := by
  have GA := fun w => get_any x a s hx h1 h2 w
  rw [hn] at GA
  have G := Lib.hid GA
  have i : IntKind.i64.wrap (n : Int) = (n : Int) := by rw [IntKind.wrap_i64]; omega
  have j : wrap64 (n : Int) = (n : Int) := by unfold wrap64; omega
  clear GA hn hl hx
  go_enter Tryz.func66, Tryz.ntmps66
  go_wp2_with (go_at_call 65; (with_reducible refine (G.out _).mono ?_); rintro e w1 ⟨rfl, hb1⟩)
  go_ret
  exact ⟨rfl, (by repeat (first | exact Below.refl _ _ | (with_reducible assumption) | refine bAlloc ?_ _ | refine below_drewN ?_ _ | refine Below.drew ?_ | (refine bSet ?_ (by first | (dsimp only; omega) | (simp; done) | (simp; omega)) _) | refine bTrans ?_ (by assumption)))⟩

theorem getl (x a s k : Nat) (A S K : Int) (hA : (a : Int) = A) (hS : (s : Int) = S) (hK : (k : Int) = K) (hx : x < 18446744073709551616) (h1 : 1 ≤ s) (h2 : a + s ≤ 64) (hk : getv x a s = k) (w : World) :
    Calls Tryz.prog 65 #[.int .u64 (x : Int), fl A S] w fun e w' => e = .returned (.int .u64 K) ∧ Below w.heap.size w w' := by
  have h := get_any x a s hx h1 h2 w
  rw [hk, hA, hS, hK] at h
  exact h
theorem numl (x a s n : Nat) (A S : Int) (hA : (a : Int) = A) (hS : (s : Int) = S) (hx : x < 18446744073709551616) (h1 : 1 ≤ s) (h2 : a + s ≤ 64) (hn : getv x a s = n) (hl : n < 9223372036854775808) (w : World) :
    Calls Tryz.prog 66 #[.int .u64 (x : Int), fl A S] w fun e w' => e = .returned (.int .i64 (n : Int)) ∧ Below w.heap.size w w' := by
  have h := hnumber_any x a s n hx h1 h2 hn hl w
  rw [hA, hS] at h
  exact h
theorem isH_false {x k u : Nat} (hx : x < 18446744073709551616) (hk : getv x 62 2 = k) (hu : getv x 33 29 = u) : isH x = (decide (k = 1) && decide (u = 0)) := by
  rw [g8] at hk
  rw [g5] at hu
  subst hk
  subst hu
  unfold isH
  rw [Bool.eq_iff_iff, Bool.and_eq_true, decide_eq_true_iff, decide_eq_true_iff, decide_eq_true_iff]
  omega
theorem isF_false {x k u : Nat} (hx : x < 18446744073709551616) (hk : getv x 62 2 = k) (hu : getv x 22 40 = u) : isF x = (decide (k = 2) && decide (u = 0)) := by
  rw [g8] at hk
  rw [g7] at hu
  subst hk
  subst hu
  unfold isF
  rw [Bool.eq_iff_iff, Bool.and_eq_true, decide_eq_true_iff, decide_eq_true_iff, decide_eq_true_iff]
  omega
theorem ne_one {k : Nat} (h : k ≠ 1) : ((k : Int) != 1) = true := by simp; omega
theorem ne_two {k : Nat} (h : k ≠ 2) : ((k : Int) != 2) = true := by simp; omega
theorem ne_nul {k : Nat} (h : k ≠ 0) : ((k : Int) != 0) = true := by simp; omega

/-- a header's five cells -/
def hrow (p r s a : Int) (l : Bool) (j : Nat) : Value := if j = 0 then .int .i64 p else if j = 1 then .int .i64 r else if j = 2 then .int .i64 s else if j = 3 then .int .i64 a else .bool l
theorem hrow_new (p r s a : Int) (l : Bool) (j : Nat) (hj : j < 5) : (#[Value.int .i64 p, .int .i64 r, .int .i64 s, .int .i64 a, .bool l] : Array Value)[j]? = some (hrow p r s a l j) := by
  have h : j = 0 ∨ j = 1 ∨ j = 2 ∨ j = 3 ∨ j = 4 := by omega
  rcases h with rfl | rfl | rfl | rfl | rfl <;> simp [hrow]
theorem hrow_alloc (w : World) (p r s a : Int) (l : Bool) : Row (w.alloc (hc p r s a l)) w.heap.size 5 (hrow p r s a l) := Row.new w _ _ 5 _ (hrow_new p r s a l)
theorem Row.hcells {w : World} {g : Nat} {p r s a : Int} {l : Bool} (h : Row w g 5 (hrow p r s a l)) : w.cell? ⟨g, 0, none⟩ = some (.int .i64 p) ∧ w.cell? ⟨g, 1, none⟩ = some (.int .i64 r) ∧ w.cell? ⟨g, 2, none⟩ = some (.int .i64 s) ∧ w.cell? ⟨g, 3, none⟩ = some (.int .i64 a) ∧ w.cell? ⟨g, 4, none⟩ = some (.bool l) :=
  ⟨h.cell 0 (by omega), h.cell 1 (by omega), h.cell 2 (by omega), h.cell 3 (by omega), h.cell 4 (by omega)⟩
/-- five stores over a block of five -/
theorem Row.five {w : World} {g : Nat} {f : Nat → Value} (h : Row w g 5 f) (p r s a : Int) (l : Bool) :
    Row (((((w.setCell ⟨g, 0, none⟩ (.int .i64 p)).setCell ⟨g, 1, none⟩ (.int .i64 r)).setCell ⟨g, 2, none⟩ (.int .i64 s)).setCell ⟨g, 3, none⟩ (.int .i64 a)).setCell ⟨g, 4, none⟩ (.bool l)) g 5 (hrow p r s a l) := by
  refine ((((((h.set 0 (by omega) _).set 1 (by omega) _).set 2 (by omega) _).set 3 (by omega) _).set 4 (by omega) _)).congr fun j hj => ?_
  have h : j = 0 ∨ j = 1 ∨ j = 2 ∨ j = 3 ∨ j = 4 := by omega
  rcases h with rfl | rfl | rfl | rfl | rfl <;> simp [hrow]

theorem below_five {w w1 : World} (B : Below w.heap.size w w1) (p r s a l : Value) :
    Below w.heap.size w (((((w1.setCell ⟨w.heap.size, 0, none⟩ p).setCell ⟨w.heap.size, 1, none⟩ r).setCell ⟨w.heap.size, 2, none⟩ s).setCell ⟨w.heap.size, 3, none⟩ a).setCell ⟨w.heap.size, 4, none⟩ l) :=
  bSet (bSet (bSet (bSet (bSet B (Nat.le_refl _) _) (Nat.le_refl _) _) (Nat.le_refl _) _) (Nat.le_refl _) _) (Nat.le_refl _) _

set_option maxRecDepth 100000 in
theorem unpack_no (x k u : Nat) (hx : x < 18446744073709551616) (hk : getv x 62 2 = k) (hu : getv x 33 29 = u) (h : k ≠ 1 ∨ u ≠ 0) (w : World) (F : FT w) :
    Calls Tryz.prog 39 #[.int .u64 (x : Int)] w fun e w' => e = .returned (.tuple #[hd 0 0 0 0 false, .int .i64 5]) ∧ Below w.heap.size w w' := by
  have G1 := Lib.hid (fun w => getl x 62 2 k 62 2 (k : Int) rfl rfl rfl hx (by decide) (by decide) hk w)
  have G2 := Lib.hid (fun w => getl x 33 29 u 33 29 (u : Int) rfl rfl rfl hx (by decide) (by decide) hu w)
  obtain ⟨a0, a1⟩ := F.kind
  obtain ⟨b0, b1⟩ := F.unused
  have F0 := Lib.hid F
  clear hk hu hx F
  by_cases c : k = 1
  · subst c
    have one : ((1 : Nat) : Int) = 1 := rfl
    rw [one] at G1
    clear one
    have t := ne_nul (h.resolve_left (by simp))
    clear h
    have FA := F0.out.alloc
    have X0 : (w.alloc (.cells #[.int .i64 0, .int .i64 0, .int .i64 0, .int .i64 0, .bool false] 55)).cell? ⟨6, 0, none⟩ = some (.int .i64 33) := (FA _).unused.1
    have X1 : (w.alloc (.cells #[.int .i64 0, .int .i64 0, .int .i64 0, .int .i64 0, .bool false] 55)).cell? ⟨6, 1, none⟩ = some (.int .i64 29) := (FA _).unused.2
    have X2 : (w.alloc (.cells #[.int .i64 0, .int .i64 0, .int .i64 0, .int .i64 0, .bool false] 55)).cell? ⟨5, 0, none⟩ = some (.int .i64 62) := (FA _).kind.1
    have X3 : (w.alloc (.cells #[.int .i64 0, .int .i64 0, .int .i64 0, .int .i64 0, .bool false] 55)).cell? ⟨5, 1, none⟩ = some (.int .i64 2) := (FA _).kind.2
    clear FA
    go_enter Tryz.func39, Tryz.ntmps39
    go_wp2_with (go_at_call 65; (first | ((with_reducible refine (G1.out _).mono ?_); rintro e w1 ⟨rfl, hb1⟩; have B1 : Below w.heap.size w w1 := bTrans (bAlloc (Below.refl _ _) _) hb1; have R1 := (hrow_alloc w 0 0 0 0 false).below hb1; have f1 := R1.free; obtain ⟨z0, z1, z2, z3, z4⟩ := R1.hcells; have k0 : w1.cell? ⟨6, 0, none⟩ = some (.int .i64 33) := ((F0.out.alloc _).below hb1).unused.1; have k1 : w1.cell? ⟨6, 1, none⟩ = some (.int .i64 29) := ((F0.out.alloc _).below hb1).unused.2) | ((with_reducible refine (G2.out _).mono ?_); rintro e w2 ⟨rfl, hb2⟩; have B2 : Below w.heap.size w w2 := bTrans B1 hb2; have R2 := R1.below hb2; have f2 := R2.free; obtain ⟨y0, y1, y2, y3, y4⟩ := R2.hcells; obtain ⟨x0, x1, x2, x3, x4⟩ := (R2.five 0 0 0 0 false).hcells)))
    exact bodyPost_ret (v := .tuple #[hd 0 0 0 0 false, .int .i64 5]) (by simp [results, Tryz.results39, go_sem, x0, x1, x2, x3, x4]) rfl ⟨rfl, below_five B2 _ _ _ _ _⟩
  · have t := ne_one c
    clear h c
    have FA := F0.out.alloc
    have X2 : (w.alloc (.cells #[.int .i64 0, .int .i64 0, .int .i64 0, .int .i64 0, .bool false] 55)).cell? ⟨5, 0, none⟩ = some (.int .i64 62) := (FA _).kind.1
    have X3 : (w.alloc (.cells #[.int .i64 0, .int .i64 0, .int .i64 0, .int .i64 0, .bool false] 55)).cell? ⟨5, 1, none⟩ = some (.int .i64 2) := (FA _).kind.2
    clear FA
    go_enter Tryz.func39, Tryz.ntmps39
    go_wp2_with (go_at_call 65; (with_reducible refine (G1.out _).mono ?_); rintro e w1 ⟨rfl, hb1⟩; have B1 : Below w.heap.size w w1 := bTrans (bAlloc (Below.refl _ _) _) hb1; have R1 := (hrow_alloc w 0 0 0 0 false).below hb1; have f1 := R1.free; obtain ⟨z0, z1, z2, z3, z4⟩ := R1.hcells; obtain ⟨x0, x1, x2, x3, x4⟩ := (R1.five 0 0 0 0 false).hcells)
    exact bodyPost_ret (v := .tuple #[hd 0 0 0 0 false, .int .i64 5]) (by simp [results, Tryz.results39, go_sem, x0, x1, x2, x3, x4]) rfl ⟨rfl, below_five B1 _ _ _ _ _⟩

end Go.Proofs.YtkbljgclflaokaaGreatDoor
