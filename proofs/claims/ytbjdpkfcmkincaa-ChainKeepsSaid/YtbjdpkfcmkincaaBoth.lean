/-
  Two chains and the document's two lists, as haymowlaw09 holds them in memory.
-/
import Derived.Test.YtbjdpkfcmkincaaRef09
import Derived.Test.YtbjdpkfcmkincaaChnL
namespace Go.Proofs.Ytbjdpkfcmkincaa
open Go.RowKit
set_option linter.unusedVariables false

/-- the cells of an array of values -/
def ar (xs : Array Value) (j : Nat) : Value := xs.getD j undef
theorem Row.arNew (w : World) (C : Array Value) (t : TypeId) (g n : Nat) (hg : g = w.heap.size) (hn : C.size = n) : Row (w.alloc (.cells C t)) g n (ar C) := Row.newAt w C t g n _ hg (fun j hj => by
  unfold ar; simp [Array.getD, hn, hj])
theorem Row.arSet {w : World} {g n : Nat} {xs : Array Value} (r : Row w g n (ar xs)) (k : Nat) (hk : k < n) (hn : xs.size = n) (v : Value) : Row (w.setCell ⟨g, k, none⟩ v) g n (ar (xs.setIfInBounds k v)) := (r.set k hk v).congr fun j hj => by
  unfold ar
  by_cases e : j = k
  · subst e; simp [Array.getD, hn, hj]
  · rw [if_neg e]; simp [Array.getD, hn, hj, Ne.symm e]
theorem ar3 {w : World} {g : Nat} {x0 x1 x2 : Value} (r : Row w g 3 (ar #[x0, x1, x2])) : w.cell? ⟨g, 0, none⟩ = some x0 ∧ w.cell? ⟨g, 1, none⟩ = some x1 ∧ w.cell? ⟨g, 2, none⟩ = some x2 ∧ (∀ j, w.frozen? ⟨g, j, none⟩ = false) ∧ g < w.heap.size :=
  ⟨r.cell 0 (by omega), r.cell 1 (by omega), r.cell 2 (by omega), r.free, r.lt⟩
theorem ar15 {w : World} {g : Nat} {x0 x1 x2 x3 x4 x5 x6 x7 x8 x9 x10 x11 x12 x13 x14 : Value} (r : Row w g 15 (ar #[x0, x1, x2, x3, x4, x5, x6, x7, x8, x9, x10, x11, x12, x13, x14])) :
    w.cell? ⟨g, 0, none⟩ = some x0 ∧ w.cell? ⟨g, 1, none⟩ = some x1 ∧ w.cell? ⟨g, 2, none⟩ = some x2 ∧ w.cell? ⟨g, 3, none⟩ = some x3 ∧ w.cell? ⟨g, 4, none⟩ = some x4 ∧ w.cell? ⟨g, 5, none⟩ = some x5 ∧ w.cell? ⟨g, 6, none⟩ = some x6 ∧ w.cell? ⟨g, 7, none⟩ = some x7 ∧ w.cell? ⟨g, 8, none⟩ = some x8 ∧ w.cell? ⟨g, 9, none⟩ = some x9 ∧ w.cell? ⟨g, 10, none⟩ = some x10 ∧ w.cell? ⟨g, 11, none⟩ = some x11 ∧ w.cell? ⟨g, 12, none⟩ = some x12 ∧ w.cell? ⟨g, 13, none⟩ = some x13 ∧ w.cell? ⟨g, 14, none⟩ = some x14 ∧ (∀ j, w.frozen? ⟨g, j, none⟩ = false) ∧ g < w.heap.size :=
  ⟨r.cell 0 (by omega), r.cell 1 (by omega), r.cell 2 (by omega), r.cell 3 (by omega), r.cell 4 (by omega), r.cell 5 (by omega), r.cell 6 (by omega), r.cell 7 (by omega), r.cell 8 (by omega), r.cell 9 (by omega), r.cell 10 (by omega), r.cell 11 (by omega), r.cell 12 (by omega), r.cell 13 (by omega), r.cell 14 (by omega), r.free, r.lt⟩
/-- all fifteen cells turned -/
theorem Row.set15 {w : World} {g : Nat} {f : Nat → Value} (r : Row w g 15 f) (x0 x1 x2 x3 x4 x5 x6 x7 x8 x9 x10 x11 x12 x13 x14 : Value) : Row (((((((((((((((w.setCell ⟨g, 0, none⟩ x0).setCell ⟨g, 1, none⟩ x1).setCell ⟨g, 2, none⟩ x2).setCell ⟨g, 3, none⟩ x3).setCell ⟨g, 4, none⟩ x4).setCell ⟨g, 5, none⟩ x5).setCell ⟨g, 6, none⟩ x6).setCell ⟨g, 7, none⟩ x7).setCell ⟨g, 8, none⟩ x8).setCell ⟨g, 9, none⟩ x9).setCell ⟨g, 10, none⟩ x10).setCell ⟨g, 11, none⟩ x11).setCell ⟨g, 12, none⟩ x12).setCell ⟨g, 13, none⟩ x13).setCell ⟨g, 14, none⟩ x14) g 15 (ar #[x0, x1, x2, x3, x4, x5, x6, x7, x8, x9, x10, x11, x12, x13, x14]) :=
  (((((((((((((((r.set 0 (by omega) x0).set 1 (by omega) x1).set 2 (by omega) x2).set 3 (by omega) x3).set 4 (by omega) x4).set 5 (by omega) x5).set 6 (by omega) x6).set 7 (by omega) x7).set 8 (by omega) x8).set 9 (by omega) x9).set 10 (by omega) x10).set 11 (by omega) x11).set 12 (by omega) x12).set 13 (by omega) x13).set 14 (by omega) x14).congr fun j hj => by
    rcases (show j = 0 ∨ j = 1 ∨ j = 2 ∨ j = 3 ∨ j = 4 ∨ j = 5 ∨ j = 6 ∨ j = 7 ∨ j = 8 ∨ j = 9 ∨ j = 10 ∨ j = 11 ∨ j = 12 ∨ j = 13 ∨ j = 14 by omega) with rfl | rfl | rfl | rfl | rfl | rfl | rfl | rfl | rfl | rfl | rfl | rfl | rfl | rfl | rfl <;> rfl

theorem Row.far15 {w : World} {s n : Nat} {f : Nat → Value} (r : Row w s n f) {q : Nat} (hq : q ≠ s) (x0 x1 x2 x3 x4 x5 x6 x7 x8 x9 x10 x11 x12 x13 x14 : Value) : Row (((((((((((((((w.setCell ⟨q, 0, none⟩ x0).setCell ⟨q, 1, none⟩ x1).setCell ⟨q, 2, none⟩ x2).setCell ⟨q, 3, none⟩ x3).setCell ⟨q, 4, none⟩ x4).setCell ⟨q, 5, none⟩ x5).setCell ⟨q, 6, none⟩ x6).setCell ⟨q, 7, none⟩ x7).setCell ⟨q, 8, none⟩ x8).setCell ⟨q, 9, none⟩ x9).setCell ⟨q, 10, none⟩ x10).setCell ⟨q, 11, none⟩ x11).setCell ⟨q, 12, none⟩ x12).setCell ⟨q, 13, none⟩ x13).setCell ⟨q, 14, none⟩ x14) s n f :=
  (Row.far (Row.far (Row.far (Row.far (Row.far (Row.far (Row.far (Row.far (Row.far (Row.far (Row.far (Row.far (Row.far (Row.far (Row.far r (p := ⟨q, 0, none⟩) x0 hq) (p := ⟨q, 1, none⟩) x1 hq) (p := ⟨q, 2, none⟩) x2 hq) (p := ⟨q, 3, none⟩) x3 hq) (p := ⟨q, 4, none⟩) x4 hq) (p := ⟨q, 5, none⟩) x5 hq) (p := ⟨q, 6, none⟩) x6 hq) (p := ⟨q, 7, none⟩) x7 hq) (p := ⟨q, 8, none⟩) x8 hq) (p := ⟨q, 9, none⟩) x9 hq) (p := ⟨q, 10, none⟩) x10 hq) (p := ⟨q, 11, none⟩) x11 hq) (p := ⟨q, 12, none⟩) x12 hq) (p := ⟨q, 13, none⟩) x13 hq) (p := ⟨q, 14, none⟩) x14 hq)
/-- both, as the program has it: the table, two chains, two lists, two numbers -/
abbrev ba (mb : Nat) (h0 t0 n0 h1 t1 n1 : Int) (v0 v1 : Value) (r q : Int) : Array Value := #[at0 mb, .int .i64 0, .int .i64 4, .int .i64 2, .int .i64 0, .int .i64 h0, .int .i64 t0, .int .i64 n0, .int .i64 h1, .int .i64 t1, .int .i64 n1, v0, v1, .int .u64 r, .int .u64 q]
abbrev bz : Array Value := #[.pointer none, .int .i64 0, .int .i64 0, .int .i64 0, .int .i64 0, .int .i64 0, .int .i64 0, .int .i64 0, .int .i64 0, .int .i64 0, .int .i64 0, .slice none 0 0, .slice none 0 0, .int .u64 0, .int .u64 0]
theorem NL.drew {p : Nat → Value} {w : World} {v : Value} {L : List Nat} (h : NL p w v L) : NL p w.drew v L := h.below (Below.refl _ _).drew
attribute [irreducible] ar
/-- the roles, and the blocks from B to C beside -/
def rb3 (R : Nat → Nat) (B C : Nat) (j : Nat) : Nat := if B ≤ j ∧ j ≤ C then 1 else R j
theorem rb3_in {R : Nat → Nat} {B C j : Nat} (h : B ≤ j) (k : j ≤ C) : rb3 R B C j ≠ 0 := by unfold rb3; rw [if_pos ⟨h, k⟩]; decide
theorem rb3_sub {R : Nat → Nat} {B C j : Nat} (h : rb3 R B C j = 0) : R j = 0 := by
  unfold rb3 at h
  split at h
  · cases h
  · exact h
theorem TR.wide {R Q : Nat → Nat} {w w' : World} (t : TR R R w w') (hQ : ∀ j, Q j = 0 → R j = 0) (B C : Nat) : TR (rb3 Q B C) (rb3 Q B C) w w' :=
  ⟨⟨t.keeps.os, t.keeps.tape, t.keeps.output, t.keeps.size, fun k hk hf => t.keeps.block k hk (fun q => hf (fun e => q (hQ _ (rb3_sub e))))⟩, fun _ _ h => h⟩
theorem NI.thin {w : World} {R : Nat → Nat} {B C : Nat} {v : Value} {L : List Nat} (h : NI w (rb3 R B C) v L) : NI w R v L := by
  obtain ⟨a, cap, rfl, hcap, hnil, h⟩ := h
  refine ⟨a, cap, rfl, hcap, hnil, ?_⟩
  rcases h with h | ⟨b, off, rfl, hr, hlt, hc⟩
  · exact .inl h
  · exact .inr ⟨b, off, rfl, rb3_sub hr, hlt, hc⟩
theorem NI.enter {w w' : World} {R : Nat → Nat} {C : Nat} {v : Value} {L : List Nat} (h : NI w R v L) (k : Below w.heap.size w w') : NI w' (rb3 R w.heap.size C) v L := by
  obtain ⟨a, cap, rfl, hcap, hnil, h⟩ := h
  refine ⟨a, cap, rfl, hcap, hnil, ?_⟩
  rcases h with h | ⟨b, off, rfl, hr, hlt, hc⟩
  · exact .inl h
  · exact .inr ⟨b, off, rfl, by unfold rb3; rw [if_neg (by omega)]; exact hr, Nat.lt_of_lt_of_le hlt k.size, fun i hi => (k.cell (p := ⟨b, off + i, none⟩) hlt).trans (hc i hi)⟩
theorem TR.put {R : Nat → Nat} {w : World} {q : Nat} (hq : R q ≠ 0) (i : Nat) (v : Value) : TR R R w (w.setCell ⟨q, i, none⟩ v) := ⟨Keeps.set w q i v hq, fun _ _ h => h⟩

/-- what lies in memory while haymowlaw09.turn runs: both, the call, the answer's cells (blocks B, B + 1, B + 2), the Mem, the lists -/
structure TS (W0 : World) (R Q : Nat → Nat) (mb mm B : Nat) (X O : Array Value) (Z : Nat → Value) (L : List Spc) (a b : Nat) (h g : Int) (v0 v1 : Value) (M N : List Nat) (w : World) : Prop where
  z1 : R B = 0
  z2 : R (B + 1) = 0
  z3 : R (B + 1 + 1) = 0
  l1 : W0.heap.size ≤ B
  q1 : ∀ j, Q j = 0 → R j = 0
  q2 : ∀ j, Q j ≠ 0 → j < B
  rs : Row w B 15 (ar X)
  ro : Row w (B + 1) 3 (ar O)
  rz : Row w (B + 1 + 1) 15 Z
  m : MM w R mb mm L a b h g
  n0 : NI w (rb3 Q B (B + 1 + 1)) v0 M
  n1 : NI w (rb3 Q B (B + 1 + 1)) v1 N
  t : TR R R W0 w
section
variable {W0 : World} {R Q : Nat → Nat} {mb mm B : Nat} {X O : Array Value} {Z : Nat → Value} {L L' : List Spc} {a b a' b' : Nat} {h g h' g' : Int} {v0 v1 : Value} {M N : List Nat} {w w' : World}
theorem TS.step (s : TS W0 R Q mb mm B X O Z L a b h g v0 v1 M N w) (m : MM w' R mb mm L' a' b' h' g') (t : TR R R w w') : TS W0 R Q mb mm B X O Z L' a' b' h' g' v0 v1 M N w' :=
  ⟨s.z1, s.z2, s.z3, s.l1, s.q1, s.q2, s.rs.tr t s.z1, s.ro.tr t s.z2, s.rz.tr t s.z3, m, s.n0.tr (t.wide s.q1 _ _), s.n1.tr (t.wide s.q1 _ _), s.t.trans t⟩
theorem TS.below (s : TS W0 R Q mb mm B X O Z L a b h g v0 v1 M N w) (k : Below w.heap.size w w') : TS W0 R Q mb mm B X O Z L a b h g v0 v1 M N w' := s.step (s.m.below k) (TR.of k)
theorem TS.drew (s : TS W0 R Q mb mm B X O Z L a b h g v0 v1 M N w) : TS W0 R Q mb mm B X O Z L a b h g v0 v1 M N w.drew := s.below (Below.refl _ _).drew
/-- a cell of both turned -/
theorem TS.put (s : TS W0 R Q mb mm B X O Z L a b h g v0 v1 M N w) (k : Nat) (hk : k < 15) (hX : X.size = 15) (v : Value) : TS W0 R Q mb mm B (X.setIfInBounds k v) O Z L a b h g v0 v1 M N (w.setCell ⟨B, k, none⟩ v) :=
  ⟨s.z1, s.z2, s.z3, s.l1, s.q1, s.q2, s.rs.arSet k hk hX v, s.ro.far (p := ⟨B, k, none⟩) v (by simp), s.rz.far (p := ⟨B, k, none⟩) v (by simp; omega), s.m.store s.z1 k v, s.n0.tr (TR.put (rb3_in (by omega) (by omega)) k v), s.n1.tr (TR.put (rb3_in (by omega) (by omega)) k v), s.t.store s.l1 k v⟩
/-- a new list -/
theorem TS.list0 (s : TS W0 R Q mb mm B X O Z L a b h g v0 v1 M N w) {v : Value} {M' : List Nat} (n : NI w (rb3 Q B (B + 1 + 1)) v M') : TS W0 R Q mb mm B X O Z L a b h g v v1 M' N w := ⟨s.z1, s.z2, s.z3, s.l1, s.q1, s.q2, s.rs, s.ro, s.rz, s.m, n, s.n1, s.t⟩
theorem TS.list1 (s : TS W0 R Q mb mm B X O Z L a b h g v0 v1 M N w) {v : Value} {N' : List Nat} (n : NI w (rb3 Q B (B + 1 + 1)) v N') : TS W0 R Q mb mm B X O Z L a b h g v0 v M N' w := ⟨s.z1, s.z2, s.z3, s.l1, s.q1, s.q2, s.rs, s.ro, s.rz, s.m, s.n0, n, s.t⟩
/-- a cell of the answer turned -/
theorem TS.putz (s : TS W0 R Q mb mm B X O Z L a b h g v0 v1 M N w) (k : Nat) (hk : k < 15) (v : Value) : TS W0 R Q mb mm B X O (fun j => if j = k then v else Z j) L a b h g v0 v1 M N (w.setCell ⟨B + 1 + 1, k, none⟩ v) :=
  ⟨s.z1, s.z2, s.z3, s.l1, s.q1, s.q2, s.rs.far (p := ⟨B + 1 + 1, k, none⟩) v (by simp; omega), s.ro.far (p := ⟨B + 1 + 1, k, none⟩) v (by simp), s.rz.set k hk v, s.m.store s.z3 k v, s.n0.tr (TR.put (rb3_in (by omega) (by omega)) k v), s.n1.tr (TR.put (rb3_in (by omega) (by omega)) k v), s.t.store (by have := s.l1; omega) k v⟩
/-- the answer's cells, all turned -/
theorem TS.all (s : TS W0 R Q mb mm B X O Z L a b h g v0 v1 M N w) (x0 x1 x2 x3 x4 x5 x6 x7 x8 x9 x10 x11 x12 x13 x14 : Value) : TS W0 R Q mb mm B X O (ar #[x0, x1, x2, x3, x4, x5, x6, x7, x8, x9, x10, x11, x12, x13, x14]) L a b h g v0 v1 M N (((((((((((((((w.setCell ⟨B + 1 + 1, 0, none⟩ x0).setCell ⟨B + 1 + 1, 1, none⟩ x1).setCell ⟨B + 1 + 1, 2, none⟩ x2).setCell ⟨B + 1 + 1, 3, none⟩ x3).setCell ⟨B + 1 + 1, 4, none⟩ x4).setCell ⟨B + 1 + 1, 5, none⟩ x5).setCell ⟨B + 1 + 1, 6, none⟩ x6).setCell ⟨B + 1 + 1, 7, none⟩ x7).setCell ⟨B + 1 + 1, 8, none⟩ x8).setCell ⟨B + 1 + 1, 9, none⟩ x9).setCell ⟨B + 1 + 1, 10, none⟩ x10).setCell ⟨B + 1 + 1, 11, none⟩ x11).setCell ⟨B + 1 + 1, 12, none⟩ x12).setCell ⟨B + 1 + 1, 13, none⟩ x13).setCell ⟨B + 1 + 1, 14, none⟩ x14) := by
  have q := ((((((((((((((s.putz 0 (by omega) x0).putz 1 (by omega) x1).putz 2 (by omega) x2).putz 3 (by omega) x3).putz 4 (by omega) x4).putz 5 (by omega) x5).putz 6 (by omega) x6).putz 7 (by omega) x7).putz 8 (by omega) x8).putz 9 (by omega) x9).putz 10 (by omega) x10).putz 11 (by omega) x11).putz 12 (by omega) x12).putz 13 (by omega) x13).putz 14 (by omega) x14
  exact ⟨q.z1, q.z2, q.z3, q.l1, q.q1, q.q2, q.rs, q.ro, s.rz.set15 x0 x1 x2 x3 x4 x5 x6 x7 x8 x9 x10 x11 x12 x13 x14, q.m, q.n0, q.n1, q.t⟩
end
end Go.Proofs.Ytbjdpkfcmkincaa
