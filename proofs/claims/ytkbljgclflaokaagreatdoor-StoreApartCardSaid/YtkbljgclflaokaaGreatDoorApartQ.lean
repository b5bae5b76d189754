/-
  StoreApart's phases: the making, the first reading, the last one. No walk.
-/
import Derived.Test.YtkbljgclflaokaaGreatDoorApartP
import Derived.Laws.Bits128
namespace Go.Proofs.YtkbljgclflaokaaGreatDoor
open Go.RowKit
set_option linter.unusedVariables false

theorem i64_and7 (n : Int) : bits .and .i64 n 7 = n % 8 := by
  have h7 : (BitVec.ofInt 64 7).toNat = 2 ^ 3 - 1 := by decide
  have key : (BitVec.ofInt 64 n &&& BitVec.ofInt 64 7).toNat = (n % ((2 ^ 64 : Nat) : Int)).toNat % 2 ^ 3 := by
    rw [BitVec.toNat_and, BitVec.toNat_ofInt, h7, Nat.and_two_pow_sub_one_eq_mod]
  show IntKind.i64.wrap ((BitVec.ofInt 64 n &&& BitVec.ofInt 64 7).toNat : Nat) = n % 8
  rw [key, IntKind.wrap_i64]
  omega
/-- the three lowest bits -/
theorem low3 (n : Int) : ∃ P : Nat, P < 8 ∧ bits .and .i64 n 7 = (P : Int) := ⟨(n % 8).toNat, by omega, by rw [i64_and7]; omega⟩
/-- The list of shapes that a slice holds. -/
def SHL (w : World) (v : Value) (F : List (Int × Int)) : Prop := ∃ a cap, v = .slice a F.length cap ∧ F.length ≤ 1000000 ∧ (F.length = 0 ∨ ∃ b off, a = some ⟨b, off, none⟩ ∧ b < w.heap.size ∧
  ∀ i x, F[i]? = some x → w.cell? ⟨b, off + i * 2, none⟩ = some (.int .i64 x.1) ∧ w.cell? ⟨b, off + i * 2 + 1, none⟩ = some (.int .i64 x.2))
theorem SHL.below {w w' : World} {v : Value} {F : List (Int × Int)} (h : SHL w v F) (k : Below w.heap.size w w') : SHL w' v F := by
  obtain ⟨a, cap, e, hm, h⟩ := h
  refine ⟨a, cap, e, hm, ?_⟩
  rcases h with h | ⟨b, off, ea, hb, hc⟩
  · exact .inl h
  · exact .inr ⟨b, off, ea, Nat.lt_of_lt_of_le hb k.size, fun i x hx => ⟨(k.cell (p := ⟨b, off + i * 2, none⟩) hb).trans (hc i x hx).1, (k.cell (p := ⟨b, off + i * 2 + 1, none⟩) hb).trans (hc i x hx).2⟩⟩
/-- phase 1: i objects were made -/
def PA (W0 : World) (stb i : Nat) (v1 v2 : Value) (w : World) : Prop :=
  ∃ X Q xs ns G, SA W0 X stb xs ns G i w ∧ LL W0 X stb Q v1 v2 (.slice none 0 0) (.slice none 0 0) xs ns 0 (fun _ => .slice none 0 0) (fun _ => []) [] w ∧ xs.length = i ∧ ∀ j, j < i → 1 ≤ ns.getD j 0 ∧ ns.getD j 0 ≤ 15
theorem PA.sl {W0 w : World} {stb i : Nat} {v1 v2 : Value} (p : PA W0 stb i v1 v2 w) : (∃ a c, v1 = .slice a i c) ∧ ∃ a c, v2 = .slice a i c := by
  obtain ⟨X, Q, xs, ns, G, s, l, e, _⟩ := p
  have e2 := s.ll
  obtain ⟨a, c, h1⟩ := ZQ.sl l.l1
  obtain ⟨a', c', h2⟩ := ZQ.sl l.l2
  exact ⟨⟨a, c, by rw [h1, e]⟩, ⟨a', c', by rw [h2, ← e2, e]⟩⟩
theorem PA.own {W0 w : World} {stb i : Nat} {v1 v2 : Value} (p : PA W0 stb i v1 v2 w) : Below W0.heap.size W0 w := by
  obtain ⟨X, Q, xs, ns, G, s, _⟩ := p
  exact s.own
theorem PA.drew {W0 w : World} {stb i : Nat} {v1 v2 : Value} (p : PA W0 stb i v1 v2 w) : PA W0 stb i v1 v2 w.drew := by
  obtain ⟨X, Q, xs, ns, G, s, l, e⟩ := p
  exact ⟨X, Q, xs, ns, G, s.below (Below.refl _ _).drew, l.below (Below.refl _ _).drew, e⟩
theorem PA.below {W0 w w' : World} {stb i : Nat} {v1 v2 : Value} (p : PA W0 stb i v1 v2 w) (k : Below w.heap.size w w') : PA W0 stb i v1 v2 w' := by
  obtain ⟨X, Q, xs, ns, G, s, l, e⟩ := p
  exact ⟨X, Q, xs, ns, G, s.below k, l.below k, e⟩
/-- one object more; behind it the two appends, each with a block that holds what it appends; a block of the round's own stays -/
theorem PA.make {W0 w0 w : World} {stb i q : Nat} {v1 v2 : Value} {f : Nat → Value} (p0 : PA W0 stb i v1 v2 w0) (k : Below w0.heap.size w0 w) (hq : w0.heap.size ≤ q) (r : Row w q 2 f) (hi : i < 20) {P Q : Nat} (hP : P < 8) (hQ : Q < 8) (ty1 ty2 : TypeId) : Calls Tryz.prog 7 #[at0 stb, sh P Q, .int .i64 (i : Int)] w fun e w' => ∃ x : Nat, e = .returned (.tuple #[.int .u64 (x : Int), .int .i64 0]) ∧ Row w' q 2 f ∧
    ∃ u1 w2, (Builtin.append_ #[30, 30] 30 #[v1, .slice (some ⟨w'.heap.size, 0, none⟩) 1 1]).run Tryz.prog (w'.alloc (.cells #[.int .u64 (x : Int)] ty1)) = .ok u1 w2 ∧ Row w2 q 2 f ∧
      ∃ u2 w3, (Builtin.append_ #[31, 31] 31 #[v2, .slice (some ⟨w2.heap.size, 0, none⟩) 1 1]).run Tryz.prog (w2.alloc (.cells #[.int .i64 ((1 + P + Q : Nat) : Int)] ty2)) = .ok u2 w3 ∧ PA W0 stb (i + 1) u1 u2 w3 := by
  obtain ⟨X, Q0, xs, ns, G, s, l, e, hw⟩ := p0
  obtain ⟨zx, _, _⟩ := s.fresh q hq
  have zq : Q0 q = 0 := Decidable.byContradiction fun z => by have := l.q.lt q z; omega
  have l1 := l.below k
  refine ((s.below k).make hi hP hQ).mono fun e' w' ⟨x, X', G', e1, s2, t⟩ => ⟨x, e1, r.tr t zx, ?_⟩
  have l2 := l1.call t
  have r2 := r.tr t zx
  have BA := bAlloc (Below.refl w'.heap.size w') (.cells #[.int .u64 (x : Int)] ty1)
  have s3 := s2.below BA
  have l3 := l2.below BA
  have r3 := r2.below BA
  have en := s.ll
  obtain ⟨g, c, w2, Q2, hr, l4, kk⟩ := l3.push1 (fun j hj => s3.fresh j hj) w'.heap.size x (by rw [World.cell?_alloc_new]; rfl) (by omega)
  have s4 := s3.aside kk (fun j hj => l3.q.lo j (by rw [show Q0 j = 1 from hj]; omega))
  have r4 := r3.keeps kk (fun z => by rw [show Q0 q = 1 from z] at zq; omega)
  refine ⟨_, w2, hr, r4, ?_⟩
  have BB := bAlloc (Below.refl w2.heap.size w2) (.cells #[.int .i64 ((1 + P + Q : Nat) : Int)] ty2)
  have s5 := s4.below BB
  have l5 := l4.below BB
  obtain ⟨g', c', w3, Q3, hr', l6, kk'⟩ := l5.push2 (fun j hj => s5.fresh j hj) w2.heap.size (1 + P + Q) (by rw [World.cell?_alloc_new]; rfl) (by omega)
  have s6 := s5.aside kk' (fun j hj => l5.q.lo j (by rw [show Q2 j = 2 from hj]; omega))
  refine ⟨_, w3, hr', X', Q3, xs ++ [x], ns ++ [1 + P + Q], G', s6, l6, by rw [List.length_append, e]; rfl, fun j hj => ?_⟩
  rw [snoc_at (by omega)]
  split
  · exact hw j (by omega)
  · omega
/-- phases 2 and 3: the words of m objects were read (GD), those of the next one ahead of K's end; the Store holds GS -/
def PB (W0 : World) (stb : Nat) (v1 v2 v3 vl : Value) (xs ns : List Nat) (nx : Nat) (GS GD : Nat → Nat → Nat) (m : Nat) (K : List Nat) (w : World) : Prop :=
  ∃ X Q U D, SA W0 X stb xs ns GS nx w ∧ LL W0 X stb Q v1 v2 v3 vl xs ns m U D K w ∧ (∀ p, p < m → (D p).length = ns.getD p 0 ∧ ∀ k, k < ns.getD p 0 → (D p).getD k 0 = GD p k) ∧ (∀ k, k < K.length → K.getD k 0 = GD m k) ∧ K.length ≤ 15 ∧ m ≤ 20
section
variable {W0 w w' : World} {stb : Nat} {v1 v2 v3 vl : Value} {xs ns : List Nat} {nx : Nat} {GS GD : Nat → Nat → Nat} {m : Nat} {K : List Nat}
theorem PA.next {i : Nat} (p : PA W0 stb i v1 v2 w) : ∃ xs ns G, PB W0 stb v1 v2 (.slice none 0 0) (.slice none 0 0) xs ns i G G 0 [] w ∧ xs.length = i ∧ ∀ j, j < i → 1 ≤ ns.getD j 0 ∧ ns.getD j 0 ≤ 15 := by
  obtain ⟨X, Q, xs, ns, G, s, l, e, hw⟩ := p
  exact ⟨xs, ns, G, ⟨X, Q, _, _, s, l, fun p hp => by omega, fun k hk => by simp at hk, by simp, by omega⟩, e, hw⟩
theorem PB.below (p : PB W0 stb v1 v2 v3 vl xs ns nx GS GD m K w) (k : Below w.heap.size w w') : PB W0 stb v1 v2 v3 vl xs ns nx GS GD m K w' := by
  obtain ⟨X, Q, U, D, s, l, q⟩ := p
  exact ⟨X, Q, U, D, s.below k, l.below k, q⟩
theorem PB.drew (p : PB W0 stb v1 v2 v3 vl xs ns nx GS GD m K w) : PB W0 stb v1 v2 v3 vl xs ns nx GS GD m K w.drew := p.below (Below.refl _ _).drew
theorem PB.own (p : PB W0 stb v1 v2 v3 vl xs ns nx GS GD m K w) : Below W0.heap.size W0 w := by
  obtain ⟨X, Q, U, D, s, l, q⟩ := p
  exact s.own
theorem PB.ref {g n c : Nat} (p : PB W0 stb (.slice (some ⟨g, 0, none⟩) n c) v2 v3 vl xs ns nx GS GD m K w) {j : Nat} (hj : j < xs.length) : w.cell? ⟨g, j, none⟩ = some (.int .u64 ((xs.getD j 0 : Nat) : Int)) := by
  obtain ⟨X, Q, U, D, s, l, q⟩ := p
  rcases l.l1 with ⟨e, _⟩ | ⟨g', c', e, _, _, _, r, _⟩
  · cases e
  · injection e with e; injection e with e; injection e with e
    subst e
    exact r.cell j hj
theorem PB.cnt {g n c : Nat} (p : PB W0 stb v1 (.slice (some ⟨g, 0, none⟩) n c) v3 vl xs ns nx GS GD m K w) {j : Nat} (hj : j < ns.length) : w.cell? ⟨g, j, none⟩ = some (.int .i64 ((ns.getD j 0 : Nat) : Int)) := by
  obtain ⟨X, Q, U, D, s, l, q⟩ := p
  rcases l.l2 with ⟨e, _⟩ | ⟨g', c', e, _, _, _, r, _⟩
  · cases e
  · injection e with e; injection e with e; injection e with e
    subst e
    exact r.cell j hj
theorem PB.old {g n c : Nat} (p : PB W0 stb v1 v2 (.slice (some ⟨g, 0, none⟩) n c) vl xs ns nx GS GD m K w) {j : Nat} (hj : j < m) (h1 : 1 ≤ ns.getD j 0) : ∃ gu cu, w.cell? ⟨g, j, none⟩ = some (.slice (some ⟨gu, 0, none⟩) (ns.getD j 0) cu) ∧ ∀ k, k < ns.getD j 0 → w.cell? ⟨gu, k, none⟩ = some (.int .u64 ((GD j k : Nat) : Int)) := by
  obtain ⟨X, Q, U, D, s, l, q, _⟩ := p
  obtain ⟨q1, q2⟩ := q j hj
  rcases l.l3 with ⟨e, _⟩ | ⟨g', c', e, _, _, _, r, _⟩
  · cases e
  · injection e with e; injection e with e; injection e with e
    subst e
    rcases l.l4 j hj with ⟨_, e⟩ | ⟨gu, cu, eu, _, _, _, ru, _⟩
    · omega
    · refine ⟨gu, cu, by rw [← q1, ← eu]; exact r.cell j hj, fun k hk => ?_⟩
      have := ru.cell k (by omega)
      rw [← q2 k hk]
      exact this
/-- a word is read, and appended -/
theorem PB.word (p : PB W0 stb v1 v2 v3 vl xs ns nx GS GS m K w) (hj : m < xs.length) (hd : K.length < ns.getD m 0) (h15 : ns.getD m 0 ≤ 15) (ty : TypeId) : Calls Tryz.prog 8 #[at0 stb, .int .u64 ((xs.getD m 0 : Nat) : Int), .int .i64 (K.length : Int)] w fun e w' => e = .returned (.tuple #[.int .u64 ((GS m K.length : Nat) : Int), .int .i64 0]) ∧
    ∃ ul w2, (Builtin.append_ #[38, 38] 38 #[vl, .slice (some ⟨w'.heap.size, 0, none⟩) 1 1]).run Tryz.prog (w'.alloc (.cells #[.int .u64 ((GS m K.length : Nat) : Int)] ty)) = .ok ul w2 ∧ PB W0 stb v1 v2 v3 ul xs ns nx GS GS m (K ++ [GS m K.length]) w2 := by
  obtain ⟨X, Q, U, D, s, l, q1, q2, q3, q4⟩ := p
  refine (s.word hj hd).mono fun e w' ⟨e1, s2, t⟩ => ⟨e1, ?_⟩
  have BA := bAlloc (Below.refl w'.heap.size w') (.cells #[.int .u64 ((GS m K.length : Nat) : Int)] ty)
  have l3 := (l.call t).below BA
  have s3 := s2.below BA
  obtain ⟨g, c, w2, Q2, hr, l4, kk⟩ := l3.pushl (fun j hj => s3.fresh j hj) w'.heap.size (GS m K.length) (by rw [World.cell?_alloc_new]; rfl) (by omega)
  refine ⟨_, w2, hr, X, Q2, U, D, s3.aside kk (fun j hj => l3.q.lo j (by rw [show Q j = 4 + m from hj]; omega)), l4, q1, fun k hk => ?_, by rw [List.length_append, List.length_singleton]; omega, q4⟩
  rw [List.length_append, List.length_singleton] at hk
  rw [snoc_at hk]
  split
  · exact q2 k ‹_›
  · rw [show k = K.length by omega]
/-- all words of an object -/
theorem PB.full (p : PB W0 stb v1 v2 v3 vl xs ns nx GS GD m K w) (hk : K.length = ns.getD m 0) (hm : m < 20) (ty : TypeId) :
    ∃ u3 w2, (Builtin.append_ #[37, 37] 37 #[v3, .slice (some ⟨w.heap.size, 0, none⟩) 1 1]).run Tryz.prog (w.alloc (.cells #[vl] ty)) = .ok u3 w2 ∧ PB W0 stb v1 v2 u3 (.slice none 0 0) xs ns nx GS GD (m + 1) [] w2 := by
  obtain ⟨X, Q, U, D, s, l, q1, q2, q3, q4⟩ := p
  have BA := bAlloc (Below.refl w.heap.size w) (.cells #[vl] ty)
  have l3 := l.below BA
  have s3 := s.below BA
  obtain ⟨g, c, w2, Q2, U2, hr, l4, kk⟩ := l3.push3 (fun j hj => s3.fresh j hj) w.heap.size (by rw [World.cell?_alloc_new]; rfl) (by omega)
  refine ⟨_, w2, hr, X, Q2, U2, _, s3.aside kk (fun j hj => l3.q.lo j (by rw [show Q j = 3 from hj]; omega)), l4, fun p hp => ?_, fun k hk => by simp at hk, by simp, by omega⟩
  by_cases e : p = m
  · rw [e, upd_at]
    exact ⟨hk, fun k hk2 => q2 k (by omega)⟩
  · rw [upd_ne _ _ e]
    exact q1 p (by omega)
/-- the store to one word -/
theorem PB.set (p : PB W0 stb v1 v2 v3 vl xs ns nx GS GD m K w) {j d : Nat} (hj : j < xs.length) (hd : d < ns.getD j 0) (v : Nat) : Calls Tryz.prog 9 #[at0 stb, .int .u64 ((xs.getD j 0 : Nat) : Int), .int .i64 (d : Int), .int .u64 (v : Int)] w fun e w' => e = .returned (.int .i64 0) ∧ PB W0 stb v1 v2 v3 vl xs ns nx (fun p k => if p = j ∧ k = d then v else GS p k) GD m K w' := by
  obtain ⟨X, Q, U, D, s, l, q⟩ := p
  exact (s.set hj hd v).mono fun e w' ⟨e1, s2, t⟩ => ⟨e1, X, Q, U, D, s2, l.call t, q⟩
/-- a word read once more -/
theorem PB.again (p : PB W0 stb v1 v2 v3 vl xs ns nx GS GD m K w) {j d : Nat} (hj : j < xs.length) (hd : d < ns.getD j 0) : Calls Tryz.prog 8 #[at0 stb, .int .u64 ((xs.getD j 0 : Nat) : Int), .int .i64 (d : Int)] w fun e w' => e = .returned (.tuple #[.int .u64 ((GS j d : Nat) : Int), .int .i64 0]) ∧ PB W0 stb v1 v2 v3 vl xs ns nx GS GD m K w' := by
  obtain ⟨X, Q, U, D, s, l, q⟩ := p
  exact (s.word hj hd).mono fun e w' ⟨e1, s2, t⟩ => ⟨e1, X, Q, U, D, s2, l.call t, q⟩
theorem PB.vs (p : PB W0 stb v1 v2 v3 vl xs ns nx GS GD m K w) (hx : 1 ≤ xs.length) : (∃ g c, v1 = .slice (some ⟨g, 0, none⟩) xs.length c) ∧ (∃ g c, v2 = .slice (some ⟨g, 0, none⟩) xs.length c) ∧ ns.length = xs.length := by
  obtain ⟨X, Q, U, D, s, l, q⟩ := p
  have e := s.ll
  refine ⟨?_, ?_, e.symm⟩
  · rcases l.l1 with ⟨_, e0⟩ | ⟨g, c, e1, _⟩
    · omega
    · exact ⟨g, c, e1⟩
  · rcases l.l2 with ⟨_, e0⟩ | ⟨g, c, e1, _⟩
    · omega
    · exact ⟨g, c, by rw [e1, e]⟩
theorem PB.w3 (p : PB W0 stb v1 v2 v3 vl xs ns nx GS GD m K w) (hm : 1 ≤ m) : ∃ g c, v3 = .slice (some ⟨g, 0, none⟩) m c := by
  obtain ⟨X, Q, U, D, s, l, q⟩ := p
  rcases l.l3 with ⟨_, e0⟩ | ⟨g, c, e1, _⟩
  · omega
  · exact ⟨g, c, e1⟩
theorem PB.sl (p : PB W0 stb v1 v2 v3 vl xs ns nx GS GD m K w) : (∃ a c, v3 = .slice a m c) ∧ ∃ a c, vl = .slice a K.length c := by
  obtain ⟨X, Q, U, D, s, l, q⟩ := p
  exact ⟨ZQ.sl l.l3, ZQ.sl l.l5⟩
end
end Go.Proofs.YtkbljgclflaokaaGreatDoor
