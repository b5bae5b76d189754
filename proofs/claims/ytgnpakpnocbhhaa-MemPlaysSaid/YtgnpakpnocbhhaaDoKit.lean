/-
  haymowlaw08.do: what its ways share.
-/
import Derived.Test.YtgnpakpnocbhhaaOut
import Derived.Test.YtgnpakpnocbhhaaOps8
import Derived.Test.YtgnpakpnocbhhaaSame
namespace Go.Proofs.Ytgnpakpnocbhhaa
open Go.RowKit
set_option linter.unusedVariables false

/-- a call as a value -/
abbrev ov (k a b c d n : Int) (x : Nat) : Value := .agg #[.int .i64 k, .int .i64 a, .int .i64 b, .int .i64 c, .int .i64 d, .int .i64 n, .int .u64 (x : Int)]
/-- its cells -/
def oc (k a b c d n : Int) (x : Nat) (j : Nat) : Value := if j = 0 then .int .i64 k else if j = 1 then .int .i64 a else if j = 2 then .int .i64 b else if j = 3 then .int .i64 c else if j = 4 then .int .i64 d else if j = 5 then .int .i64 n else .int .u64 (x : Int)
theorem oc_new (k a b c d n : Int) (x : Nat) (j : Nat) (hj : j < 7) : (#[Value.int .i64 k, .int .i64 a, .int .i64 b, .int .i64 c, .int .i64 d, .int .i64 n, .int .u64 (x : Int)] : Array Value)[j]? = some (oc k a b c d n x j) := by
  rcases seven hj with rfl | rfl | rfl | rfl | rfl | rfl | rfl <;> rfl
theorem oc_all {w : World} {s : Nat} {k a b c d n : Int} {x : Nat} (r : Row w s 7 (oc k a b c d n x)) : w.cell? ⟨s, 0, none⟩ = some (.int .i64 k) ∧ w.cell? ⟨s, 1, none⟩ = some (.int .i64 a) ∧ w.cell? ⟨s, 2, none⟩ = some (.int .i64 b) ∧ w.cell? ⟨s, 3, none⟩ = some (.int .i64 c) ∧ w.cell? ⟨s, 4, none⟩ = some (.int .i64 d) ∧ w.cell? ⟨s, 5, none⟩ = some (.int .i64 n) ∧ w.cell? ⟨s, 6, none⟩ = some (.int .u64 (x : Int)) :=
  ⟨r.cell 0 (by omega), r.cell 1 (by omega), r.cell 2 (by omega), r.cell 3 (by omega), r.cell 4 (by omega), r.cell 5 (by omega), r.cell 6 (by omega)⟩
attribute [irreducible] oc
/-- stores aside leave a Mem as it was -/
theorem MM.apart {F : Nat → Prop} {w w' : World} {R : Nat → Nat} {mb mm : Nat} {L : List Spc} {a b : Nat} {h g : Int} (m : MM w R mb mm L a b h g) (k : Keeps F w w') (hF : ∀ j, R j ≠ 0 → ¬ F j) : MM w' R mb mm L a b h g := by
  obtain ⟨sv, qv, U, Q, m⟩ := m
  have nz : ∀ j n, n ≠ 0 → R j = n → ¬ F j := fun j n hn e => hF j (by omega)
  exact ⟨sv, qv, U, Q, fun j hj => Nat.lt_of_lt_of_le (m.hi j hj) k.size, m.r1, m.r2, Row.keeps m.row k (nz mb 1 (by omega) m.r1), Row.keeps m.met k (nz mm 2 (by omega) m.r2), m.sp.keeps k (fun j _ h3 => nz j 3 (by omega) h3) (fun _ _ h => h), m.cl.keeps k (fun j _ h4 => nz j 4 (by omega) h4) (fun _ _ h => h), fun i hi => (m.wd i hi).keeps k (fun j _ h5 => nz j _ (by omega) h5) (fun _ _ h => h), m.hp, m.cq, m.ln, m.lc, m.lw, m.na, m.nb, m.fit⟩
theorem Keeps.set7 {F : Nat → Prop} (w : World) {s : Nat} (hs : F s) (x0 x1 x2 x3 x4 x5 x6 : Value) : Keeps F w (((((((w.setCell ⟨s, 0, none⟩ x0).setCell ⟨s, 1, none⟩ x1).setCell ⟨s, 2, none⟩ x2).setCell ⟨s, 3, none⟩ x3).setCell ⟨s, 4, none⟩ x4).setCell ⟨s, 5, none⟩ x5).setCell ⟨s, 6, none⟩ x6) :=
  (((((((Keeps.set w s 0 x0 hs).trans (Keeps.set _ s 1 x1 hs) (fun _ _ h => h)).trans (Keeps.set _ s 2 x2 hs) (fun _ _ h => h)).trans (Keeps.set _ s 3 x3 hs) (fun _ _ h => h)).trans (Keeps.set _ s 4 x4 hs) (fun _ _ h => h)).trans (Keeps.set _ s 5 x5 hs) (fun _ _ h => h)).trans (Keeps.set _ s 6 x6 hs) (fun _ _ h => h))
/-- a block of the Mem's, or the one block of a caller's -/
def FR (R : Nat → Nat) (sb j : Nat) : Prop := R j ≠ 0 ∨ j = sb
/-- .. or one of the call's own boxes -/
def BX (B : Nat) (R : Nat → Nat) (sb j : Nat) : Prop := FR R sb j ∨ (B ≤ j ∧ j < B + 3)
theorem doboxes (v : Value) (a b : Nat) (h g k a1 b1 c1 d1 n1 : Int) (x : Nat) (w : World) :
    PRow (((w.alloc (.cells #[v, .int .u64 (hi a), .int .u64 (lo a), .int .u64 (hi b), .int .u64 (lo b), .int .i64 h, .int .i64 g] 35)).alloc (.cells #[.int .i64 k, .int .i64 a1, .int .i64 b1, .int .i64 c1, .int .i64 d1, .int .i64 n1, .int .u64 (x : Int)] 39)).alloc (.cells #[.slice none 0 0, .int .u64 0, .int .u64 0, .int .u64 0, .int .u64 0, .int .i64 0, .int .i64 0] 35)) w.heap.size v a b h g ∧
    Row (((w.alloc (.cells #[v, .int .u64 (hi a), .int .u64 (lo a), .int .u64 (hi b), .int .u64 (lo b), .int .i64 h, .int .i64 g] 35)).alloc (.cells #[.int .i64 k, .int .i64 a1, .int .i64 b1, .int .i64 c1, .int .i64 d1, .int .i64 n1, .int .u64 (x : Int)] 39)).alloc (.cells #[.slice none 0 0, .int .u64 0, .int .u64 0, .int .u64 0, .int .u64 0, .int .i64 0, .int .i64 0] 35)) (w.heap.size + 1) 7 (oc k a1 b1 c1 d1 n1 x) ∧
    PRow (((w.alloc (.cells #[v, .int .u64 (hi a), .int .u64 (lo a), .int .u64 (hi b), .int .u64 (lo b), .int .i64 h, .int .i64 g] 35)).alloc (.cells #[.int .i64 k, .int .i64 a1, .int .i64 b1, .int .i64 c1, .int .i64 d1, .int .i64 n1, .int .u64 (x : Int)] 39)).alloc (.cells #[.slice none 0 0, .int .u64 0, .int .u64 0, .int .u64 0, .int .u64 0, .int .i64 0, .int .i64 0] 35)) (w.heap.size + 1 + 1) (.slice none 0 0) 0 0 0 0 ∧
    Below w.heap.size w (((w.alloc (.cells #[v, .int .u64 (hi a), .int .u64 (lo a), .int .u64 (hi b), .int .u64 (lo b), .int .i64 h, .int .i64 g] 35)).alloc (.cells #[.int .i64 k, .int .i64 a1, .int .i64 b1, .int .i64 c1, .int .i64 d1, .int .i64 n1, .int .u64 (x : Int)] 39)).alloc (.cells #[.slice none 0 0, .int .u64 0, .int .u64 0, .int .u64 0, .int .u64 0, .int .i64 0, .int .i64 0] 35)) ∧
    (((w.alloc (.cells #[v, .int .u64 (hi a), .int .u64 (lo a), .int .u64 (hi b), .int .u64 (lo b), .int .i64 h, .int .i64 g] 35)).alloc (.cells #[.int .i64 k, .int .i64 a1, .int .i64 b1, .int .i64 c1, .int .i64 d1, .int .i64 n1, .int .u64 (x : Int)] 39)).alloc (.cells #[.slice none 0 0, .int .u64 0, .int .u64 0, .int .u64 0, .int .u64 0, .int .i64 0, .int .i64 0] 35)).heap.size = w.heap.size + 3 :=
  ⟨PRow.alloc (PRow.alloc (Row.newAt w _ _ w.heap.size 7 _ rfl (st7_new _ a b h g)) _) _, Row.alloc (Row.newAt _ _ _ (w.heap.size + 1) 7 _ (by simp) (oc_new k a1 b1 c1 d1 n1 x)) _, Row.newAt _ _ _ (w.heap.size + 1 + 1) 7 _ (by simp) st7_zero, bAlloc (bAlloc (bAlloc (Below.refl _ _) _) _) _, by simp⟩
/-- where the walk of do stands when the boxes are laid: the Mem, the document's spaces -/
structure D0 (w w3 : World) (mb mm sb : Nat) (R : Nat → Nat) (L : List Spc) (v : Value) (a b : Nat) (h g : Int) : Prop where
  m : MM w3 R mb mm L a b h g
  s : SF w3 (BX w.heap.size R sb) v L
  lo : ∀ j, R j ≠ 0 → j < w.heap.size
  sz : w3.heap.size = w.heap.size + 3
  tr : TR R R w w3
  hsb : sb < w.heap.size
theorem D0.of {w w3 : World} {mb mm sb : Nat} {R : Nat → Nat} {L : List Spc} {v : Value} {a b : Nat} {h g : Int} (hm : MM w R mb mm L a b h g) (hs : SF w (FR R sb) v L) (hsb : sb < w.heap.size) (B : Below w.heap.size w w3) (sz : w3.heap.size = w.heap.size + 3) : D0 w w3 mb mm sb R L v a b h g :=
  ⟨hm.below B, hs.keeps (Keeps.of B) (fun j hj q => q.resolve_right (by omega)), hm.plain.2.2.2.2.1, sz, TR.of B, hsb⟩
/-- behind both calls -/
structure D1 (w w5 : World) (mb mm sb : Nat) (R R' : Nat → Nat) (o : Out) (v' : Value) : Prop where
  m : MM w5 R' mb mm o.L o.a o.b o.h o.g
  s : SF w5 (BX w.heap.size R' sb) v' o.L
  bx : ∀ j, R' j ≠ 0 → ¬ (w.heap.size ≤ j ∧ j < w.heap.size + 3)
  tr : TR R R' w w5
theorem D0.both {w w3 w4 w5 : World} {mb mm sb : Nat} {R R' : Nat → Nat} {L : List Spc} {v v' : Value} {a b : Nat} {h g : Int} {o : Out} (d : D0 w w3 mb mm sb R L v a b h g) (M : MM w4 R' mb mm o.L o.a o.b o.h o.g) (T : TR R R' w3 w4) (S : SB w5 w4.heap.size v' o.L ∨ v' = v ∧ o.L = L) (B : Below w4.heap.size w4 w5) : D1 w w5 mb mm sb R R' o v' := by
  have hi' := M.plain.2.2.2.2.1
  have sz4 := T.keeps.size
  have dsz := d.sz
  have dsb := d.hsb
  have no : ∀ j, R' j ≠ 0 → ¬ (w.heap.size ≤ j ∧ j < w.heap.size + 3) := fun j hj q => by
    have := d.lo j (T.old j (by omega) hj)
    omega
  refine ⟨M.below B, ?_, no, (d.tr.trans T).trans (TR.of B)⟩
  rcases S with S | ⟨e1, e2⟩
  · exact S.sf (fun j hj => by
      rcases hj with (q | q) | q
      · exact hi' j q
      · omega
      · omega)
  · rw [e1, e2]
    have K : Keeps (BX w.heap.size R sb) w3 w4 := T.keeps.mono (fun j _ q => .inl (.inl q))
    exact (d.s.keeps (F' := BX w.heap.size R' sb) K (fun j hj q => by
      rcases q with (q | q) | q
      · exact .inl (.inl (T.old j hj q))
      · exact .inl (.inr q)
      · exact .inr q)).below B
theorem D0.sl4 {w w3 w4 : World} {mb mm sb : Nat} {R R' : Nat → Nat} {L : List Spc} {v : Value} {a b : Nat} {h g : Int} (d : D0 w w3 mb mm sb R L v a b h g) (T : TR R R' w3 w4) : SL w4 v L := by
  have K : Keeps (BX w.heap.size R sb) w3 w4 := T.keeps.mono (fun j _ q => .inl (.inl q))
  exact (d.s.keeps (F' := BX w.heap.size R sb) K (fun j _ q => q)).sl
theorem D0.box {w w3 w4 : World} {mb mm sb : Nat} {R R' : Nat → Nat} {L : List Spc} {v : Value} {a b : Nat} {h g : Int} (d : D0 w w3 mb mm sb R L v a b h g) (T : TR R R' w3 w4) {s n : Nat} {f : Nat → Value} (r : Row w3 s n f) (hs : w.heap.size ≤ s) : Row w4 s n f := r.keeps T.keeps (fun q => by have := d.lo s q; omega)
/-- behind the stores into the boxes -/
theorem D1.last {w w5 w7 : World} {mb mm sb : Nat} {R R' : Nat → Nat} {o : Out} {v' : Value} (d : D1 w w5 mb mm sb R R' o v') (K : Keeps (fun j => w.heap.size ≤ j ∧ j < w.heap.size + 3) w5 w7) : MM w7 R' mb mm o.L o.a o.b o.h o.g ∧ SF w7 (FR R' sb) v' o.L ∧ TR R R' w w7 :=
  ⟨d.m.apart K d.bx, d.s.keeps (K.mono (fun j _ q => .inr q)) (fun j _ q => .inl q), ⟨(d.tr.keeps.trans (F' := fun j => w.heap.size ≤ j ∧ j < w.heap.size + 3) K (fun j hj q => by omega)), d.tr.old⟩⟩
/-- what do leaves -/
def DoGot (mb mm sb : Nat) (R : Nat → Nat) (w : World) (n : Nat) (e : Ending) (w' : World) : Prop := ∃ v' R' L' a' b' h' g', e = .returned (.tuple #[ssv v' a' b' h' g', .bool true]) ∧ MM w' R' mb mm L' a' b' h' g' ∧ SF w' (FR R' sb) v' L' ∧ TR R R' w w' ∧ L'.length ≤ n
/-- what it leaves where nothing turns -/
def DoSame (mb mm sb : Nat) (R : Nat → Nat) (L : List Spc) (v : Value) (a b : Nat) (h g : Int) (w : World) (e : Ending) (w' : World) : Prop := e = .returned (.tuple #[ssv v a b h g, .bool true]) ∧ MM w' R mb mm L a b h g ∧ SF w' (FR R sb) v L ∧ TR R R w w'
theorem DoSame.last {w w5 w7 : World} {mb mm sb : Nat} {R : Nat → Nat} {L : List Spc} {v : Value} {a b : Nat} {h g : Int} (M : MM w5 R mb mm L a b h g) (S : SF w5 (BX w.heap.size R sb) v L) (T : TR R R w w5) (lo : ∀ j, R j ≠ 0 → j < w.heap.size) (K : Keeps (fun j => w.heap.size ≤ j ∧ j < w.heap.size + 3) w5 w7) : DoSame mb mm sb R L v a b h g w (.returned (.tuple #[ssv v a b h g, .bool true])) w7 :=
  ⟨rfl, M.apart K (fun j hj q => by have := lo j hj; omega), S.keeps (K.mono (fun j _ q => .inr q)) (fun j _ q => .inl q), ⟨T.keeps.trans (F' := fun j => w.heap.size ≤ j ∧ j < w.heap.size + 3) K (fun j hj q => by omega), T.old⟩⟩
end Go.Proofs.Ytgnpakpnocbhhaa
