/-
  What haymowlaw10.PoolLinks holds in memory in its second loop: the pool, the list that it wants, the list that came, the deferred block of the range.
-/
import Derived.Test.YthigcabmmhjooaaLinksM
namespace Go.Proofs.Ythigcabmmhjooaa
open Go.RowKit
set_option linter.unusedVariables false

structure LT (W0 : World) (R : Nat → Nat) (pb mb mm W nx pv T C j rm : Nat) (ws : List Nat) (b : Nat) (h : Int) (tk : Nat → Bool) (gn : Nat → Nat) (v gv : Value) (G D : Nat) (w : World) : Prop where
  p : ∃ a, PL W0 R pb mb mm W rm j j 0 ws a b h tk gn [] w
  c : CH (W + 1) (nx + 1) (pv + 1) ws (sq j)
  t : ∀ x, 1 ≤ x → x ≤ j → tk x = true
  s : LS W0 R pb mb W nx pv T C v (sq j) (sq j) w
  q : NI w R gv (sq j)
  x : Row w G 1 (fun _ => gv)
  z : R G = 0
  d : w.heap[D]? = some (.deferred (some []))
  dz : R D = 0
  d0 : W0.heap.size ≤ D
section
variable {W0 : World} {R : Nat → Nat} {pb mb mm : Nat} {W nx pv T C j rm : Nat} {ws : List Nat} {a b : Nat} {h : Int} {tk : Nat → Bool} {gn : Nat → Nat} {v gv : Value} {G D : Nat} {w w' : World}
theorem LT.step (s : LT W0 R pb mb mm W nx pv T C j rm ws b h tk gn v gv G D w) (p : PL W0 R pb mb mm W rm j j 0 ws a b h tk gn [] w') (t : TR R R w w') : LT W0 R pb mb mm W nx pv T C j rm ws b h tk gn v gv G D w' :=
  ⟨⟨_, p⟩, s.c, s.t, s.s.plain t, s.q.tr t, s.x.tr t s.z, s.z, (t.keeps.block D (Array.getElem?_eq_some_iff.1 s.d).1 (fun q => q s.dz)).trans s.d, s.dz, s.d0⟩
theorem LT.below (s : LT W0 R pb mb mm W nx pv T C j rm ws b h tk gn v gv G D w) (k : Below w.heap.size w w') : LT W0 R pb mb mm W nx pv T C j rm ws b h tk gn v gv G D w' := by
  obtain ⟨a, p⟩ := s.p
  exact s.step (p.below k) (TR.of k)
/-- the list that is wanted, cell by cell -/
theorem LT.first (s : LT W0 R pb mb mm W nx pv T C j rm ws b h tk gn v gv G D w) (hj : 0 < j) : ∃ g c, v = .slice (some ⟨g, 0, none⟩) (sq j).length c := by
  rcases s.s.q with ⟨_, e⟩ | ⟨g, c, e, _⟩
  · have := sq_len j
    rw [e] at this
    simp at this
    omega
  · exact ⟨g, c, e⟩
theorem LT.cell {g n c : Nat} (s : LT W0 R pb mb mm W nx pv T C j rm ws b h tk gn (.slice (some ⟨g, 0, none⟩) n c) gv G D w) {k : Nat} (hk : k < j) : w.cell? ⟨g, k, none⟩ = some (.int .i64 ((k + 1 : Nat) : Int)) := by
  rcases s.s.q with ⟨e, _⟩ | ⟨g', c', e, _, _, _, r, _⟩
  · cases e
  · injection e with e1 e2 e3
    injection e1 with e1
    injection e1 with e1
    subst e1
    rw [r.cell k (by rw [sq_len]; omega)]
    unfold ic
    rw [sq_at hk]
theorem LT.get1 (s : LT W0 R pb mb mm W nx pv T C j rm ws b h tk gn v gv G D w) {k : Nat} (hk : k + 1 < j) (hn : nx < W) :
    Calls Try.prog 18 #[at0 pb, .int .i64 ((k + 1 : Nat) : Int), .int .i64 (nx : Int)] w fun e w' => e = .returned (.tuple #[.int .u64 ((k + 2 : Nat) : Int), .int .i64 0]) ∧ LT W0 R pb mb mm W nx pv T C j rm ws b h tk gn v gv G D w' := by
  obtain ⟨a, p⟩ := s.p
  refine (p.get (id := k + 1) (j := nx) (by omega) (by omega) (s.t _ (by omega) (by omega)) hn).mono fun e w' ⟨e1, p', t⟩ => ⟨?_, s.step p' t⟩
  have q := s.c.nx k (by rw [sq_len]; omega)
  rw [sq_at (by omega), sq_at hk] at q
  unfold lw at q
  rw [e1, q]
theorem LT.get2 (s : LT W0 R pb mb mm W nx pv T C j rm ws b h tk gn v gv G D w) {k : Nat} (hk : k + 1 < j) (hn : pv < W) :
    Calls Try.prog 18 #[at0 pb, .int .i64 ((k + 2 : Nat) : Int), .int .i64 (pv : Int)] w fun e w' => e = .returned (.tuple #[.int .u64 ((k + 1 : Nat) : Int), .int .i64 0]) ∧ LT W0 R pb mb mm W nx pv T C j rm ws b h tk gn v gv G D w' := by
  obtain ⟨a, p⟩ := s.p
  refine (p.get (id := k + 2) (j := pv) (by omega) (by omega) (s.t _ (by omega) (by omega)) hn).mono fun e w' ⟨e1, p', t⟩ => ⟨?_, s.step p' t⟩
  have q := s.c.pv (k + 1) (by rw [sq_len]; omega)
  rw [sq_at hk, if_neg (by omega), Nat.add_sub_cancel, sq_at (by omega)] at q
  unfold lw at q
  rw [e1, q]
theorem LT.same (s : LT W0 R pb mb mm W nx pv T C j rm ws b h tk gn v gv G D w) (hj : j < 20) :
    Calls Try.prog 27 #[gv, v] w fun e w' => e = .returned (.bool true) ∧ LT W0 R pb mb mm W nx pv T C j rm ws b h tk gn v gv G D w' :=
  (same_true gv v (sq j) w s.q.nl s.s.q.nl (by rw [sq_len]; omega)).mono fun e w' ⟨e1, k⟩ => ⟨e1, s.below k⟩
/-- the end: the deferred block is taken -/
theorem LT.fin (s : LT W0 R pb mb mm W nx pv T C j rm ws b h tk gn v gv G D w) : Below W0.heap.size W0 (w.putObj D (.deferred none)) := by
  obtain ⟨a, p⟩ := s.p
  exact p.o.b.trans (belowT_b (n₀ := W0.heap.size) (Nat.le_refl _) w D _ _ s.d0 s.d rfl)
end
theorem results_one1 {fn : Func} {t : Tmp} (h : fn.results = #[.tmp t]) (tmps : Array Value) (P : Program) (w : World) :
    (results fn tmps).run P w = .ok (tmps.getD t undef) w := by
  simp [results, h]
end Go.Proofs.Ythigcabmmhjooaa
