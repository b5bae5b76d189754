/-
  What the laws of layer 15 hold beside a Large: two lists of integers of their own.
-/
import Derived.Test.YtlaldnfaeoimfaaGreatLrgW
import Derived.Test.YtlaldnfaeoimfaaGreatLibG
namespace Go.Proofs.YtlaldnfaeoimfaaGreat
open Go.RowKit
set_option linter.unusedVariables false

section
variable {W0 : World} {R : Nat → Nat} {lb pb mb mm : Nat} {n rm mad : Nat} {tk : Nat → Bool} {gn : Nat → Nat} {F M O : List Nat} {td tot a b : Nat} {ob : Nat → List Nat} {w w' : World}
theorem rl_at1 (R : Nat → Nat) (pb lb : Nat) : rl R pb lb lb ≠ 0 := rp_at _ _
theorem rl_at2 (R : Nat → Nat) (pb lb : Nat) : rl R pb lb pb ≠ 0 := by
  unfold rl rp
  split
  · decide
  · rw [if_pos rfl]; decide
theorem rl_sub {R : Nat → Nat} {pb lb j : Nat} (h : rl R pb lb j = 0) : R j = 0 := rp_sub (rp_sub h)
theorem LGS.aside {G : Nat → Prop} (s : LGS W0 R lb pb mb mm n rm mad tk gn F M O td tot a b ob w) (k : Keeps G w w') (hG : ∀ j, G j → rl R pb lb j = 0 ∧ W0.heap.size ≤ j) : LGS W0 R lb pb mb mm n rm mad tk gn F M O td tot a b ob w' := by
  obtain ⟨⟨L, fre, g, bg, l, q, d, e1, e2⟩, o, lp, ll, gg, hd, hm, hr, ht, hn⟩ := s
  refine ⟨⟨L, fre, g, bg, ⟨l.row.keeps k (fun q => rl_at1 R pb lb (hG lb q).1), l.z, l.ne, ⟨l.p.row.keeps k (fun q => rl_at2 R pb lb (hG pb q).1), l.p.z, l.p.m.aside k (fun j hj q => hj (rl_sub (hG j q).1)), l.p.w1, l.p.w60, l.p.hk, l.p.ho, l.p.len, l.p.mr, l.p.al⟩⟩, q, d, e1, e2⟩, ⟨o.lo, o.b.trans (k.below o.b.size (fun j hj => (hG j hj).2))⟩, lp, ll, gg, hd, hm, hr, ht, hn⟩
theorem LGS.fresh (s : LGS W0 R lb pb mb mm n rm mad tk gn F M O td tot a b ob w) {j : Nat} (hj : w.heap.size ≤ j) : rl R pb lb j = 0 ∧ W0.heap.size ≤ j := by
  obtain ⟨_, _, _, z1, z2, h1, h2⟩ := s.dist
  refine ⟨?_, Nat.le_trans s.o.b.size hj⟩
  unfold rl rp
  rw [if_neg (by omega), if_neg (by omega)]
  exact Decidable.byContradiction fun q => by have := h2 j q; omega
/-- two lists of integers of one's own -/
def BG (W0 : World) (R : Nat → Nat) (pb lb : Nat) (v : Value) (j : Nat) : Prop := v.ownBlock = some j ∧ rl R pb lb j = 0 ∧ W0.heap.size ≤ j
structure G2 (W0 : World) (R : Nat → Nat) (pb lb : Nat) (v u : Value) (K G : List Nat) (w : World) : Prop where
  q1 : IO w (BG W0 R pb lb v) v K
  q2 : IO w (BG W0 R pb lb u) u G
  ap : ∀ j, v.ownBlock = some j → u.ownBlock ≠ some j
theorem G2.nil (W0 : World) (R : Nat → Nat) (pb lb : Nat) (w : World) : G2 W0 R pb lb (.slice none 0 0) (.slice none 0 0) [] [] w := ⟨IO.nil _ _, IO.nil _ _, fun j h => by cases h⟩
variable {R' : Nat → Nat} {v u : Value} {K G : List Nat}
theorem G2.swap (h : G2 W0 R pb lb v u K G w) : G2 W0 R pb lb u v G K w := ⟨h.q2, h.q1, fun j a b => h.ap j b a⟩
theorem G2.tr (h : G2 W0 R pb lb v u K G w) (t : TR (rl R pb lb) (rl R' pb lb) w w') : G2 W0 R' pb lb v u K G w' :=
  ⟨h.q1.keeps t.keeps (fun j _ z y => y z.2.1) (fun j hj z => ⟨z.1, Decidable.byContradiction fun y => (t.old j hj y) z.2.1, z.2.2⟩),
   h.q2.keeps t.keeps (fun j _ z y => y z.2.1) (fun j hj z => ⟨z.1, Decidable.byContradiction fun y => (t.old j hj y) z.2.1, z.2.2⟩), h.ap⟩
theorem G2.below (h : G2 W0 R pb lb v u K G w) (k : Below w.heap.size w w') : G2 W0 R pb lb v u K G w' := h.tr (TR.of k)
/-- the first list is one longer: what append leaves, from the world in which the new one lies in a block of its own -/
theorem G2.push (h : G2 W0 R pb lb v u K G w) (s : LGS W0 R lb pb mb mm n rm mad tk gn F M O td tot a b ob w) (x : Nat) (ty : TypeId) (hn : K.length ≤ 1000) :
    ∃ v' w2, (Builtin.append_ #[30, 30] 30 #[v, .slice (some ⟨w.heap.size, 0, none⟩) 1 1]).run Tryz.prog (w.alloc (.cells #[.int .i64 (x : Int)] ty)) = .ok v' w2 ∧ G2 W0 R pb lb v' u (K ++ [x]) G w2 ∧ LGS W0 R lb pb mb mm n rm mad tk gn F M O td tot a b ob w2 := by
  have BA := bAlloc (Below.refl w.heap.size w) (.cells #[.int .i64 (x : Int)] ty)
  have h1 := h.below BA
  have s1 := s.below BA
  have fr : ∀ j, w.heap.size ≤ j → rl R pb lb j = 0 ∧ W0.heap.size ≤ j := fun j hj => s.fresh hj
  obtain ⟨g, c, w2, hr, q2, kk, lies⟩ := h1.q1.push w.heap.size x (by rw [World.cell?_alloc_new]; rfl) hn
  have bl : ∀ j, v.ownBlock = some j → rl R pb lb j = 0 ∧ W0.heap.size ≤ j := fun j e => ⟨(h1.q1.block e).2.2.1, (h1.q1.block e).2.2.2⟩
  refine ⟨_, w2, hr, ⟨?_, h1.q2.keeps kk (fun j _ z e => h1.ap j e z.1) (fun _ _ z => z), fun j e => ?_⟩, s1.aside kk bl⟩
  · rcases q2 with ⟨h0, _⟩ | ⟨g1, c1, e1, r1, r2, r3, r4, r5⟩
    · cases h0
    · refine .inr ⟨g1, c1, by simpa using e1, r1, r2, ?_, r4, r5⟩
      injection e1 with e1; injection e1 with e1; injection e1 with e1
      subst e1
      refine ⟨rfl, ?_⟩
      rcases r3 with z | z
      · exact z.2
      · exact fr g (by have := BA.size; omega)
  · injection e with e
    subst e
    rcases lies with z | z
    · exact h.ap g z
    · exact fun e2 => absurd (h1.q2.block e2).1 (Nat.not_lt.2 z)
end
/-- bytes that a slice holds -/
abbrev pb8 (x : Nat) : Value := .int .u8 (x : Int)
end Go.Proofs.YtlaldnfaeoimfaaGreat
