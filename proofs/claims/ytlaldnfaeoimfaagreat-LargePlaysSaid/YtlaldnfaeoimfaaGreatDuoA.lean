/-
  LargePlays: the program's Large and the document's state beside each other; each call at both. No walk.
-/
import Derived.Test.YtlaldnfaeoimfaaGreatDuoP
import Derived.Test.YtlaldnfaeoimfaaGreatLrgG
namespace Go.Proofs.YtlaldnfaeoimfaaGreat
open Go.RowKit
set_option linter.unusedVariables false

/-- both, in blocks apart; D: the boxes of the law's own -/
structure B15 (W0 : World) (D R : Nat → Nat) (pb lb mb mm n rm a b : Nat) (e f u h i : Value) (td : Nat) (L : List Ent) (Fr : List Nat) (Ws : List (List Nat)) (M O : List Nat) (w : World) : Prop where
  s : ∃ mad tk gn F tot ob, LGS W0 R lb pb mb mm n rm mad tk gn F M O td tot a b ob w ∧ MQ n mad tk F M O ob L Fr Ws
  d : DT w (fun j => rl R pb lb j = 0 ∧ D j = 0) e f u h i L Fr Ws M O
  dl : ∀ j, D j ≠ 0 → j < w.heap.size
  dz : ∀ j, D j ≠ 0 → rl R pb lb j = 0
  ab : a + b ≤ 1000 * n
section
variable {W0 : World} {D R R' : Nat → Nat} {pb lb mb mm n rm rm' a b a' b' : Nat} {e f u h i e' f' u' h' i' : Value} {td td' : Nat} {L L' : List Ent} {Fr Fr' : List Nat} {Ws Ws' : List (List Nat)} {M O M' O' : List Nat} {w w' w1 w2 : World} {mad : Nat} {tk : Nat → Bool} {gn : Nat → Nat} {F : List Nat} {tot : Nat} {ob : Nat → List Nat}
theorem B15.below (S : B15 W0 D R pb lb mb mm n rm a b e f u h i td L Fr Ws M O w) (k : Below w.heap.size w w') : B15 W0 D R pb lb mb mm n rm a b e f u h i td L Fr Ws M O w' := by
  obtain ⟨⟨mad, tk, gn, F, tot, ob, s, m⟩, d, dl, dz, ab⟩ := S
  exact ⟨⟨mad, tk, gn, F, tot, ob, s.below k, m⟩, d.below k, fun j hj => Nat.lt_of_lt_of_le (dl j hj) k.size, dz, ab⟩
theorem B15.drew (S : B15 W0 D R pb lb mb mm n rm a b e f u h i td L Fr Ws M O w) : B15 W0 D R pb lb mb mm n rm a b e f u h i td L Fr Ws M O w.drew := S.below (Below.refl _ _).drew
theorem B15.up (S : B15 W0 D R pb lb mb mm n rm a b e f u h i td L Fr Ws M O w) (hn : n ≤ 999) : B15 W0 D R pb lb mb mm (n + 1) rm a b e f u h i td L Fr Ws M O w := by
  obtain ⟨⟨mad, tk, gn, F, tot, ob, s, m⟩, d, dl, dz, ab⟩ := S
  exact ⟨⟨mad, tk, gn, F, tot, ob, s.up hn, m.up⟩, d, dl, dz, by omega⟩
theorem B15.low (S : B15 W0 D R pb lb mb mm n rm a b e f u h i td L Fr Ws M O w) : W0.heap.size ≤ w.heap.size := by
  obtain ⟨⟨mad, tk, gn, F, tot, ob, s, m⟩, d, dl, dz, ab⟩ := S
  exact s.o.b.size
theorem B15.bel (S : B15 W0 D R pb lb mb mm n rm a b e f u h i td L Fr Ws M O w) : Below W0.heap.size W0 w := by
  obtain ⟨⟨mad, tk, gn, F, tot, ob, s, m⟩, d, dl, dz, ab⟩ := S
  exact s.o.b
theorem B15.beyond (S : B15 W0 D R pb lb mb mm n rm a b e f u h i td L Fr Ws M O w) {j : Nat} (hj : w.heap.size ≤ j) : rl R pb lb j = 0 := by
  obtain ⟨⟨mad, tk, gn, F, tot, ob, s, m⟩, d, dl, dz, ab⟩ := S
  exact (s.fresh hj).1
theorem B15.len (S : B15 W0 D R pb lb mb mm n rm a b e f u h i td L Fr Ws M O w) : L.length ≤ 100000 := by
  obtain ⟨⟨mad, tk, gn, F, tot, ob, s, m⟩, d, dl, dz, ab⟩ := S
  have h1 := (m.lens s).1
  have h2 := s.hn
  omega
/-- stores into a box of the law's own -/
theorem B15.put (S : B15 W0 D R pb lb mb mm n rm a b e f u h i td L Fr Ws M O w) {q : Nat} (hq : D q ≠ 0) (hW : W0.heap.size ≤ q) (k : Keeps (fun j => j = q) w w') : B15 W0 D R pb lb mb mm n rm a b e f u h i td L Fr Ws M O w' := by
  obtain ⟨⟨mad, tk, gn, F, tot, ob, s, m⟩, d, dl, dz, ab⟩ := S
  exact ⟨⟨mad, tk, gn, F, tot, ob, s.aside k (fun j e => ⟨by rw [e]; exact dz q hq, by rw [e]; exact hW⟩), m⟩, d.keeps k (fun j _ z e => hq (e ▸ z.2)) (fun _ _ z => z), fun j hj => Nat.lt_of_lt_of_le (dl j hj) k.size, dz, ab⟩
/-- more boxes of the law's own, new ones -/
theorem B15.grow (S : B15 W0 D R pb lb mb mm n rm a b e f u h i td L Fr Ws M O w) {D' : Nat → Nat} (kb : Below w.heap.size w w') (h1 : ∀ j, j < w.heap.size → D' j = D j) (h2 : ∀ j, D' j ≠ 0 → j < w'.heap.size) : B15 W0 D' R pb lb mb mm n rm a b e f u h i td L Fr Ws M O w' := by
  have S0 := S
  obtain ⟨⟨mad, tk, gn, F, tot, ob, s, m⟩, d, dl, dz, ab⟩ := S
  refine ⟨⟨mad, tk, gn, F, tot, ob, s.below kb, m⟩, d.keeps (Keeps.of (F := fun _ => False) kb) (fun _ _ _ q => q) (fun j hj q => ⟨q.1, by rw [h1 j hj]; exact q.2⟩), h2, fun j hj => ?_, ab⟩
  by_cases c : j < w.heap.size
  · exact dz j (by rw [← h1 j c]; exact hj)
  · exact S0.beyond (by omega)
theorem B15.less (S : B15 W0 D R pb lb mb mm n rm a b e f u h i td L Fr Ws M O w) {D' : Nat → Nat} (h1 : ∀ j, D' j ≠ 0 → D j ≠ 0) : B15 W0 D' R pb lb mb mm n rm a b e f u h i td L Fr Ws M O w := by
  obtain ⟨s, d, dl, dz, ab⟩ := S
  exact ⟨s, d.mono (fun j q => ⟨q.1, Decidable.byContradiction fun z => h1 j z q.2⟩), fun j hj => dl j (h1 j hj), fun j hj => dz j (h1 j hj), ab⟩
theorem DT.after (d : DT w (fun j => rl R pb lb j = 0 ∧ D j = 0) e f u h i L Fr Ws M O) (t : TR (rl R pb lb) (rl R' pb lb) w w') : DT w' (fun j => rl R' pb lb j = 0 ∧ D j = 0) e f u h i L Fr Ws M O :=
  d.keeps t.keeps (fun j _ q z => z q.1) (fun j hj q => ⟨Decidable.byContradiction (fun z => t.old j hj z q.1), q.2⟩)
theorem dz15 (dl : ∀ j, D j ≠ 0 → j < w.heap.size) (dz : ∀ j, D j ≠ 0 → rl R pb lb j = 0) (t : TR (rl R pb lb) (rl R' pb lb) w w') : ∀ j, D j ≠ 0 → rl R' pb lb j = 0 :=
  fun j hj => Decidable.byContradiction (fun z => t.old j (dl j hj) z (dz j hj))
/-- what both leave behind a call -/
theorem done15 (s : LGS W0 R' lb pb mb mm n rm mad tk gn F M O td tot a b ob w1) (m : MQ n mad tk F M O ob L Fr Ws) (d : DT w2 (fun j => (rl R' pb lb j = 0 ∧ D j = 0) ∨ w1.heap.size ≤ j) e f u h i L Fr Ws M O) (B2 : Below w1.heap.size w1 w2) (dl : ∀ j, D j ≠ 0 → j < w1.heap.size) (dz : ∀ j, D j ≠ 0 → rl R' pb lb j = 0) (ab : a + b ≤ 1000 * n) : B15 W0 D R' pb lb mb mm n rm a b e f u h i td L Fr Ws M O w2 :=
  ⟨⟨mad, tk, gn, F, tot, ob, s.below B2, m⟩, d.mono (fun j q => q.elim id (fun q => ⟨(s.fresh q).1, Decidable.byContradiction fun z => by have := dl j z; omega⟩)), fun j hj => Nat.lt_of_lt_of_le (dl j hj) B2.size, dz, ab⟩
/-- a call of the program's that leaves all as it was, some reads aside -/
theorem same15 (S : B15 W0 D R pb lb mb mm n rm a b e f u h i td L Fr Ws M O w) (s : LGS W0 R lb pb mb mm n rm mad tk gn F M O td tot a' b' ob w1) (m : MQ n mad tk F M O ob L Fr Ws) (t : TR (rl R pb lb) (rl R pb lb) w w1) (ab : a' + b' ≤ 1000 * n) : B15 W0 D R pb lb mb mm n rm a' b' e f u h i td L Fr Ws M O w1 :=
  ⟨⟨mad, tk, gn, F, tot, ob, s, m⟩, S.d.after t, fun j hj => Nat.lt_of_lt_of_le (S.dl j hj) t.keeps.size, S.dz, ab⟩
/-- Add at both -/
theorem B15.add (S : B15 W0 D R pb lb mb mm n rm a b e f u h i td L Fr Ws M O w) (hn : n ≤ 99) (m : Int) (hm : m ≤ 9223372036854775807) : ∃ id c : Int, Calls Tryz.prog 19 #[at0 lb, .int .i64 m] w fun y w1 => ∃ R' a' b', y = .returned (.tuple #[.int .i64 id, .int .i64 c]) ∧ a' + b' ≤ a + b + 24 ∧ TR (rl R pb lb) (rl R' pb lb) w w1 ∧
    ∀ w2, Below w1.heap.size w1 w2 → Calls Tryz.prog 27 #[dsv rm e f u h i td, .int .i64 m] w2 fun y w3 => ∃ rm' e' f' u' h' L' Fr' Ws' M', y = .returned (.tuple #[dsv (rm' : Nat) e' f' u' h' i td, .int .i64 id, .int .i64 c]) ∧ Below w2.heap.size w2 w3 ∧ B15 W0 D R' pb lb mb mm (n + 1) rm' a' b' e' f' u' h' i td L' Fr' Ws' M' O w3 := by
  have S0 := S
  obtain ⟨⟨mad, tk, gn, F, tot, ob, s, q⟩, d, dl, dz, ab⟩ := S
  obtain ⟨l1, l2, l3, l4, l5, l6, l7, l8, l9⟩ := q.lens s
  by_cases h1 : m < 1
  · have s0 := s
    obtain ⟨⟨L, fre, g, bg, l, _⟩, _⟩ := s0
    refine ⟨0, 1, (ladd_lt m h1 w l).mono ?_⟩
    rintro y w1 ⟨rfl, rfl⟩
    refine ⟨R, a, b, rfl, by omega, TR.refl _ _, fun w2 k => (dadd_no (rm : Int) (td : Int) m 1 w2 (d.below k) (.inl ⟨h1, rfl⟩)).mono ?_⟩
    rintro y w3 ⟨rfl, D3, B3⟩
    exact ⟨rm, e, f, u, h, _, _, _, M, rfl, B3, ((S0.up (by omega)).below k).below B3⟩
  · by_cases h2 : 4194304 < m
    · have s0 := s
      obtain ⟨⟨L, fre, g, bg, l, _⟩, _⟩ := s0
      refine ⟨0, 7, (ladd_long m h2 w l).mono ?_⟩
      rintro y w1 ⟨rfl, rfl⟩
      refine ⟨R, a, b, rfl, by omega, TR.refl _ _, fun w2 k => (dadd_no (rm : Int) (td : Int) m 7 w2 (d.below k) (.inr ⟨h2, rfl⟩)).mono ?_⟩
      rintro y w3 ⟨rfl, D3, B3⟩
      exact ⟨rm, e, f, u, h, _, _, _, M, rfl, B3, ((S0.up (by omega)).below k).below B3⟩
    · obtain ⟨m, rfl⟩ : ∃ k : Nat, m = (k : Int) := ⟨m.toNat, by omega⟩
      obtain ⟨id, rm', mad', gn', F', K, hid, nM, nO, C⟩ := s.add (by omega) (k := m) (by omega) (by omega)
      refine ⟨(id : Int), 0, C.mono ?_⟩
      rintro y w1 ⟨R', a', b', rfl, s1, hs, t⟩
      refine ⟨R', a', b', rfl, hs, t, fun w2 k => ?_⟩
      have dA := (d.after t).below k
      have dl2 : ∀ j, D j ≠ 0 → j < w2.heap.size := fun j hj => Nat.lt_of_lt_of_le (dl j hj) (Nat.le_trans t.keeps.size k.size)
      have dz2 := dz15 dl dz t
      rcases K with ⟨e0, rfl, rfl, e1, rfl⟩ | ⟨e0, rfl, rfl, rfl⟩
      · obtain ⟨f0, q'⟩ := q.add_new s e0 m
        subst f0
        have TK := fun w' (st : ST w' (fun j => (rl R' pb lb j = 0 ∧ D j = 0) ∧ j < w2.heap.size) e f L []) => etake_new 5 rm e f L _ w' st l8 (by omega) (fun i hi => by rw [q.wl i hi]; decide) (by decide)
        rw [show ((5 : Nat) : Int) = 5 from rfl] at TK
        have wn := q.wn
        have ln := q.len
        refine (dadd_ok (rm : Int) ((room2 rm L.length : Nat) : Int) (td : Int) L.length m w2 dA TK (by omega) (by omega) (by omega) (by omega) (by omega)).mono ?_
        rintro y w3 ⟨e', f', u', h', rfl, D3, B3⟩
        rw [ln] at D3 ⊢
        exact ⟨rm', e', f', u', h', _, _, _, _, by rw [e1], B3, done15 (s1.below k) q' D3 B3 dl2 dz2 (by omega)⟩
      · obtain ⟨k0, rfl, k1, f0, q'⟩ := q.add_re s e0 m
        rw [f0] at dA l2
        have ln := q.len
        have TK := fun w' (st : ST w' (fun j => (rl R' pb lb j = 0 ∧ D j = 0) ∧ j < w2.heap.size) e f L (F'.reverse ++ [k0 + 1])) => etake_re 5 (rm' : Int) k0 e f L F'.reverse _ w' st (by omega) (by rw [List.length_append] at l2; omega) (fun i hi => by rw [q.wl i hi]; decide) (by decide) (by omega)
        rw [show ((5 : Nat) : Int) = 5 from rfl] at TK
        refine (dadd_ok (rm' : Int) (rm' : Int) (td : Int) k0 m w2 dA TK (by omega) (by omega) (by omega) (by omega) (by omega)).mono ?_
        rintro y w3 ⟨e', f', u', h', rfl, D3, B3⟩
        exact ⟨rm', e', f', u', h', _, _, _, _, rfl, B3, done15 (s1.below k) q' D3 B3 dl2 dz2 (by omega)⟩
/-- Write at both -/
theorem B15.write (S : B15 W0 D R pb lb mb mm n rm a b e f u h i td L Fr Ws M O w) (hn : n ≤ 99) (id at' : Int) (ha : at' ≤ 9223372036854775807) (x : Nat) : Calls Tryz.prog 28 #[at0 lb, .int .i64 id, .int .i64 at', .int .u64 (x : Int)] w fun y w1 => ∃ a' b', y = .returned (.int .i64 (dwv L Ws id at')) ∧ a' + b' ≤ a + b + 3 ∧ TR (rl R pb lb) (rl R pb lb) w w1 ∧
    ∀ w2, Below w1.heap.size w1 w2 → Calls Tryz.prog 29 #[dsv rm e f u h i td, .int .i64 id, .int .i64 at', .int .u64 (x : Int)] w2 fun y w3 => ∃ u' Ws', y = .returned (.tuple #[dsv rm e f u' h i td, .int .i64 (dwv L Ws id at')]) ∧ Below w2.heap.size w2 w3 ∧ B15 W0 D R pb lb mb mm (n + 1) rm a' b' e f u' h i td L Fr Ws' M O w3 := by
  have S0 := S
  obtain ⟨⟨mad, tk, gn, F, tot, ob, s, q⟩, d, dl, dz, ab⟩ := S
  obtain ⟨l1, l2, l3, l4, l5, l6, l7, l8, l9⟩ := q.lens s
  have no : ∀ a' b' w1 w2, dwv L Ws id at' ≠ 0 → LGS W0 R lb pb mb mm n rm mad tk gn F M O td tot a' b' ob w1 → TR (rl R pb lb) (rl R pb lb) w w1 → a' + b' ≤ a + b + 3 → Below w1.heap.size w1 w2 → Calls Tryz.prog 29 #[dsv rm e f u h i td, .int .i64 id, .int .i64 at', .int .u64 (x : Int)] w2 fun y w3 => ∃ u' Ws', y = .returned (.tuple #[dsv rm e f u' h i td, .int .i64 (dwv L Ws id at')]) ∧ Below w2.heap.size w2 w3 ∧ B15 W0 D R pb lb mb mm (n + 1) rm a' b' e f u' h i td L Fr Ws' M O w3 := fun a' b' w1 w2 hE s1 t hs k => by
    have S1 := (same15 (S0.up (by omega)) (s1.up (by omega)) q.up t (by omega)).below k
    refine (dwrite_no (rm : Int) (td : Int) id at' (x : Int) w2 S1.d (by omega) l3 hE).mono ?_
    rintro y w3 ⟨rfl, D3, B3⟩
    exact ⟨u, Ws, rfl, B3, S1.below B3⟩
  cases hI : isq L id
  · have e4 := dwv_no (Ws := Ws) (at' := at') hI
    rw [e4] at no ⊢
    refine (s.write_no (id := id) (at' := at') (x := (x : Int)) (q.no s hI)).mono ?_
    rintro y w1 ⟨a', rfl, s1, hs, t⟩
    exact ⟨a', b, rfl, by omega, t, fun w2 k => no a' b w1 w2 (by decide) s1 t (by omega) k⟩
  · obtain ⟨k0, rfl, hk, ht, hmem⟩ := q.yes s hI
    have wo := q.wo (k0 + 1) hmem
    rw [Nat.add_sub_cancel] at wo
    have wn := q.wn
    have ev : dwv L Ws ((k0 + 1 : Nat) : Int) at' = wrc (ob (k0 + 1)) at' := by rw [dwv_in hI, wo]; rfl
    refine (s.write (id := k0 + 1) hmem ha x).mono ?_
    rintro y w1 ⟨a', b', rfl, s1, hs, t⟩
    refine ⟨a', b', by rw [ev], hs, t, fun w2 k => ?_⟩
    by_cases c : 0 ≤ at' ∧ at' < ((ob (k0 + 1)).length : Int)
    · rw [if_pos c] at s1
      obtain ⟨j, rfl⟩ := Int.eq_ofNat_of_zero_le c.1
      rw [Int.toNat_natCast] at s1
      have e0 : dwv L Ws ((k0 + 1 : Nat) : Int) (j : Int) = 0 := by rw [ev]; unfold wrc; rw [if_pos c]
      have hz := s.len (k0 + 1) hmem
      refine (dwrite_ok (rm : Int) (td : Int) k0 j x w2 ((d.after t).below k) (by omega) l3 (by omega) (by rw [wo]; omega) (by rw [wo]; omega) e0).mono ?_
      rintro y w3 ⟨u', rfl, D3, B3⟩
      exact ⟨u', _, by rw [e0], B3, done15 ((s1.up (by omega)).below k) (q.write s hk hmem j x) D3 B3 (fun j hj => Nat.lt_of_lt_of_le (dl j hj) (Nat.le_trans t.keeps.size k.size)) dz (by omega)⟩
    · rw [if_neg c] at s1
      exact no a' b' w1 w2 (by rw [ev]; unfold wrc; rw [if_neg c]; decide) s1 t hs k
/-- Read -/
theorem B15.read (S : B15 W0 D R pb lb mb mm n rm a b e f u h i td L Fr Ws M O w) (hn : n ≤ 99) (hab : a + b + 3 ≤ 1000 * n) (id at' : Int) (ha : at' ≤ 9223372036854775807) : ∃ x : Nat, (dwv L Ws id at' ≠ 0 → x = 0) ∧ (dwv L Ws id at' = 0 → ∃ k j : Nat, id = ((k + 1 : Nat) : Int) ∧ at' = (j : Int) ∧ k < Ws.length ∧ j < (Ws.getD k []).length ∧ (Ws.getD k []).length ≤ 10000000 ∧ x = (Ws.getD k []).getD j 0) ∧ Ws.length ≤ 100 ∧ Ws.length = L.length ∧
    Calls Tryz.prog 30 #[at0 lb, .int .i64 id, .int .i64 at'] w fun y w1 => ∃ a', y = .returned (.tuple #[.int .u64 (x : Int), .int .i64 (dwv L Ws id at')]) ∧ a' ≤ a + 3 ∧ TR (rl R pb lb) (rl R pb lb) w w1 ∧ B15 W0 D R pb lb mb mm n rm a' b e f u h i td L Fr Ws M O w1 := by
  have S0 := S
  obtain ⟨⟨mad, tk, gn, F, tot, ob, s, q⟩, d, dl, dz, ab⟩ := S
  obtain ⟨l1, l2, l3, l4, l5, l6, l7, l8, l9⟩ := q.lens s
  cases hI : isq L id
  · have e4 := dwv_no (Ws := Ws) (at' := at') hI
    rw [e4]
    refine ⟨0, fun _ => rfl, fun z => absurd z (by decide), by omega, l3, (s.read_no (id := id) (at' := at') (q.no s hI)).mono ?_⟩
    rintro y w1 ⟨a', rfl, s1, hs, t⟩
    exact ⟨a', rfl, by omega, t, same15 S0 s1 q t (by omega)⟩
  · obtain ⟨k0, rfl, hk, ht, hmem⟩ := q.yes s hI
    have wo := q.wo (k0 + 1) hmem
    rw [Nat.add_sub_cancel] at wo
    have wn := q.wn
    have hz := s.len (k0 + 1) hmem
    have C := s.read (id := k0 + 1) hmem ha
    rw [dwv_in hI, wo]
    by_cases c : 0 ≤ at' ∧ at' < ((ob (k0 + 1)).length : Int)
    · obtain ⟨j, rfl⟩ := Int.eq_ofNat_of_zero_le c.1
      have e1 : rdv (ob (k0 + 1)) (j : Int) = ((((ob (k0 + 1)).getD j 0 : Nat) : Int), 0) := by unfold rdv; rw [if_pos c, Int.toNat_natCast]
      rw [e1] at C
      rw [if_pos c]
      refine ⟨(ob (k0 + 1)).getD j 0, fun z => absurd rfl z, fun _ => ⟨k0, j, rfl, rfl, by omega, by rw [wo]; omega, by rw [wo]; omega, by rw [wo]⟩, by omega, l3, C.mono ?_⟩
      rintro y w1 ⟨a', rfl, s1, hs, t⟩
      exact ⟨a', rfl, hs, t, same15 S0 s1 q t (by omega)⟩
    · have e1 : rdv (ob (k0 + 1)) at' = (0, 11) := by unfold rdv; rw [if_neg c]
      rw [e1] at C
      rw [if_neg c]
      refine ⟨0, fun _ => rfl, fun z => absurd z (by decide), by omega, l3, C.mono ?_⟩
      rintro y w1 ⟨a', rfl, s1, hs, t⟩
      exact ⟨a', rfl, hs, t, same15 S0 s1 q t (by omega)⟩
/-- Begin at both -/
theorem B15.begin (S : B15 W0 D R pb lb mb mm n rm a b e f u h i td L Fr Ws M O w) (hn : n ≤ 99) : Calls Tryz.prog 20 #[at0 lb] w fun y w1 => ∃ b', y = .returned (.tuple #[]) ∧ b' ≤ b + 2 ∧ TR (rl R pb lb) (rl R pb lb) w w1 ∧
    ∀ w2, Below w1.heap.size w1 w2 → Calls Tryz.prog 32 #[dsv rm e f u h i td] w2 fun y w3 => ∃ i', y = .returned (dsv rm e f u (.slice none 0 0) i' 0) ∧ Below w2.heap.size w2 w3 ∧ B15 W0 D R pb lb mb mm (n + 1) rm a b' e f u (.slice none 0 0) i' 0 L Fr Ws [] (O ++ M) w3 := by
  obtain ⟨⟨mad, tk, gn, F, tot, ob, s, q⟩, d, dl, dz, ab⟩ := S
  obtain ⟨l1, l2, l3, l4, l5, l6, l7, l8, l9⟩ := q.lens s
  refine (s.begin (by omega)).mono ?_
  rintro y w1 ⟨b', rfl, s1, hs, t⟩
  refine ⟨b', rfl, hs, t, fun w2 k => (dbegin_any (rm : Int) (td : Int) w2 ((d.after t).below k) (by omega) (by omega)).mono ?_⟩
  rintro y w3 ⟨i', rfl, D3, B3⟩
  exact ⟨i', rfl, B3, done15 (s1.below k) q.begin D3 B3 (fun j hj => Nat.lt_of_lt_of_le (dl j hj) (Nat.le_trans t.keeps.size k.size)) dz (by omega)⟩
/-- Mark of what is none -/
theorem B15.mark_no (S : B15 W0 D R pb lb mb mm n rm a b e f u h i td L Fr Ws M O w) (hn : n ≤ 99) {id : Int} (hI : isq L id = false) : Calls Tryz.prog 21 #[at0 lb, .int .i64 id] w fun y w1 => ∃ a', y = .returned (.tuple #[.bool false, .int .i64 4]) ∧ a' ≤ a + 2 ∧ TR (rl R pb lb) (rl R pb lb) w w1 ∧ B15 W0 D R pb lb mb mm (n + 1) rm a' b e f u h i td L Fr Ws M O w1 := by
  have S0 := S.up (by omega)
  obtain ⟨⟨mad, tk, gn, F, tot, ob, s, q⟩, d, dl, dz, ab⟩ := S
  refine (s.mark_no (q.no s hI)).mono ?_
  rintro y w1 ⟨a', rfl, s1, hs, t⟩
  exact ⟨a', rfl, hs, t, same15 S0 (s1.up (by omega)) q.up t (by omega)⟩
/-- Mark at both -/
theorem B15.mark (S : B15 W0 D R pb lb mb mm n rm a b e f u h i td L Fr Ws M O w) (hn : n ≤ 99) {id : Int} (hI : isq L id = true) : ∃ is : Bool, Calls Tryz.prog 21 #[at0 lb, .int .i64 id] w fun y w1 => ∃ a' b', y = .returned (.tuple #[.bool is, .int .i64 0]) ∧ a' + b' ≤ a + b + 12 ∧ TR (rl R pb lb) (rl R pb lb) w w1 ∧ DT w1 (fun j => rl R pb lb j = 0 ∧ D j = 0) e f u h i L Fr Ws M O ∧
    ∀ w2, Below w1.heap.size w1 w2 → Calls Tryz.prog 34 #[dsv rm e f u h i td, .int .i64 id] w2 fun y w3 => ∃ h' i' M' O', y = .returned (.tuple #[dsv rm e f u h' i' td, .bool is]) ∧ Below w2.heap.size w2 w3 ∧ B15 W0 D R pb lb mb mm (n + 1) rm a' b' e f u h' i' td L Fr Ws M' O' w3 := by
  have S0 := S
  obtain ⟨⟨mad, tk, gn, F, tot, ob, s, q⟩, d, dl, dz, ab⟩ := S
  obtain ⟨l1, l2, l3, l4, l5, l6, l7, l8, l9⟩ := q.lens s
  obtain ⟨k0, rfl, hk, ht, hmem⟩ := q.yes s hI
  by_cases hM : k0 + 1 ∈ M
  · refine ⟨false, (s.mark_is hM).mono ?_⟩
    rintro y w1 ⟨a', rfl, s1, hs, t⟩
    refine ⟨a', b, rfl, by omega, t, d.after t, fun w2 k => ?_⟩
    have S1 := (same15 (S0.up (by omega)) (s1.up (by omega)) q.up t (by omega)).below k
    refine (dmark_is (rm : Int) (td : Int) (k0 + 1) w2 S1.d (by omega) hM).mono ?_
    rintro y w3 ⟨rfl, D3, B3⟩
    exact ⟨h, i, M, O, rfl, B3, S1.below B3⟩
  · have hO := hmem.resolve_left hM
    obtain ⟨i0, hi0, ei⟩ := List.getElem_of_mem hO
    have e3 : O.getD i0 0 = k0 + 1 := by simp [List.getD, hi0, ei]
    have C := s.mark hi0
    rw [e3] at C
    have nd := (List.nodup_append.1 s.nd).2.1
    have qm := q.mark hi0
    rw [e3] at qm
    refine ⟨true, C.mono ?_⟩
    rintro y w1 ⟨a', b', rfl, s1, hs, t⟩
    refine ⟨a', b', rfl, hs, t, d.after t, fun w2 k => ?_⟩
    refine (dmark_ok (rm : Int) (td : Int) (k0 + 1) i0 w2 ((d.after t).below k) (by omega) (by omega) nd hi0 e3 hM).mono ?_
    rintro y w3 ⟨h', i', rfl, D3, B3⟩
    exact ⟨h', i', _, _, rfl, B3, done15 ((s1.up (by omega)).below k) qm D3 B3 (fun j hj => Nat.lt_of_lt_of_le (dl j hj) (Nat.le_trans t.keeps.size k.size)) dz (by omega)⟩
/-- Grey at both -/
theorem B15.grey (S : B15 W0 D R pb lb mb mm n rm a b e f u h i td L Fr Ws M O w) (hn : n ≤ 99) : ∃ (id : Nat) (ok : Bool), Calls Tryz.prog 35 #[at0 lb] w fun y w1 => ∃ a', y = .returned (.tuple #[.int .i64 (id : Int), .bool ok]) ∧ a' ≤ a + 1 ∧ TR (rl R pb lb) (rl R pb lb) w w1 ∧
    ∀ w2, Below w1.heap.size w1 w2 → Calls Tryz.prog 36 #[dsv rm e f u h i td] w2 fun y w3 => ∃ td', y = .returned (.tuple #[dsv rm e f u h i (td' : Nat), .int .i64 (id : Int), .bool ok]) ∧ Below w2.heap.size w2 w3 ∧ B15 W0 D R pb lb mb mm (n + 1) rm a' b e f u h i td' L Fr Ws M O w3 := by
  obtain ⟨⟨mad, tk, gn, F, tot, ob, s, q⟩, d, dl, dz, ab⟩ := S
  obtain ⟨l1, l2, l3, l4, l5, l6, l7, l8, l9⟩ := q.lens s
  have C := s.grey
  by_cases c : td < M.length
  · rw [decide_eq_true c, if_pos c] at C
    refine ⟨M.getD td 0, true, C.mono ?_⟩
    rintro y w1 ⟨a', rfl, s1, hs, t⟩
    refine ⟨a', rfl, hs, t, fun w2 k => (dgrey_ok (rm : Int) td w2 ((d.after t).below k) c (by omega)).mono ?_⟩
    rintro y w3 ⟨rfl, D3, B3⟩
    exact ⟨_, rfl, B3, done15 ((s1.up (by omega)).below k) q.up D3 B3 (fun j hj => Nat.lt_of_lt_of_le (dl j hj) (Nat.le_trans t.keeps.size k.size)) dz (by omega)⟩
  · rw [decide_eq_false c, if_neg c, show M.getD td 0 = 0 from getD_beyond (by omega)] at C
    refine ⟨0, false, C.mono ?_⟩
    rintro y w1 ⟨a', rfl, s1, hs, t⟩
    refine ⟨a', rfl, hs, t, fun w2 k => (dgrey_no (rm : Int) td w2 ((d.after t).below k) (by omega)).mono ?_⟩
    rintro y w3 ⟨rfl, D3, B3⟩
    exact ⟨td, rfl, B3, done15 ((s1.up (by omega)).below k) q.up D3 B3 (fun j hj => Nat.lt_of_lt_of_le (dl j hj) (Nat.le_trans t.keeps.size k.size)) dz (by omega)⟩
/-- Sweep at both -/
theorem B15.sweep (S : B15 W0 D R pb lb mb mm n rm a b e f u h i td L Fr Ws M O w) (hn : n ≤ 60) : ∃ z x : Nat, z ≤ 60 ∧ Calls Tryz.prog 22 #[at0 lb] w fun y w1 => ∃ R' a' b', y = .returned (.tuple #[.int .i64 (z : Int), .int .i64 (x : Int)]) ∧ a' + b' ≤ a + b + 16 * z ∧ TR (rl R pb lb) (rl R' pb lb) w w1 ∧
    ∀ w2, Below w1.heap.size w1 w2 → Calls Tryz.prog 37 #[dsv rm e f u h i td] w2 fun y w3 => ∃ e' f' L' Fr', y = .returned (.tuple #[dsv rm e' f' u h (.slice none 0 0) td, .int .i64 (z : Int), .int .i64 (x : Int)]) ∧ Below w2.heap.size w2 w3 ∧ B15 W0 D R' pb lb mb mm (n + 1) rm a' b' e' f' u h (.slice none 0 0) td L' Fr' Ws M [] w3 := by
  obtain ⟨⟨mad, tk, gn, F, tot, ob, s, q⟩, d, dl, dz, ab⟩ := S
  obtain ⟨l1, l2, l3, l4, l5, l6, l7, l8, l9⟩ := q.lens s
  have tt := s.tt
  have es := q.swn
  refine ⟨O.length, sumw ob O, by omega, (s.sweep (by omega)).mono ?_⟩
  rintro y w1 ⟨R', a', b', rfl, s1, hs, t⟩
  refine ⟨R', a', b', rfl, hs, t, fun w2 k => ?_⟩
  have C := dsweep_any (rm : Int) (td : Int) w2 ((d.after t).below k) (by omega) (by omega) l3 (fun j hj => by rw [q.wl j hj]; decide) (fun j => Nat.le_trans (q.g j) (by omega)) (fun j hj => by
    obtain ⟨h1, h2, _⟩ := s.us _ (.inr (getD_mem hj))
    exact ⟨h1, by rw [q.len]; exact h2⟩) (fun j hj => by
    obtain ⟨h1, h2, h3⟩ := s.us _ (.inr (getD_mem hj))
    rw [q.t _ (by omega), show O.getD j 0 - 1 + 1 = O.getD j 0 by omega]; exact h3) (List.nodup_append.1 s.nd).2.1 (by omega) (by rw [es]; omega)
  rw [es] at C
  refine C.mono ?_
  rintro y w3 ⟨e', f', rfl, D3, B3⟩
  exact ⟨e', f', _, _, rfl, B3, done15 (s1.below k) (q.sweep s (by omega)) D3 B3 (fun j hj => Nat.lt_of_lt_of_le (dl j hj) (Nat.le_trans t.keeps.size k.size)) (dz15 dl dz t) (by omega)⟩
/-- what is known of a number: its words -/
theorem B15.size (S : B15 W0 D R pb lb mb mm n rm a b e f u h i td L Fr Ws M O w) (hab : a + b + 2 ≤ 1000 * n) (id : Int) : Calls Tryz.prog 41 #[at0 lb, .int .i64 id] w fun y w1 => ∃ a', y = .returned (.tuple #[.int .i64 (if isq L id = true then ((Ws.getD (id.toNat - 1) []).length : Nat) else (0 : Nat)), .int .i64 (if isq L id = true then 0 else 4)]) ∧ a' ≤ a + 2 ∧ TR (rl R pb lb) (rl R pb lb) w w1 ∧ B15 W0 D R pb lb mb mm n rm a' b e f u h i td L Fr Ws M O w1 := by
  have S0 := S
  obtain ⟨⟨mad, tk, gn, F, tot, ob, s, q⟩, d, dl, dz, ab⟩ := S
  cases hI : isq L id
  · refine (s.size_no (id := id) (q.no s hI)).mono ?_
    rintro y w1 ⟨a', rfl, s1, hs, t⟩
    exact ⟨a', rfl, hs, t, same15 S0 s1 q t (by omega)⟩
  · obtain ⟨k0, rfl, hk, ht, hmem⟩ := q.yes s hI
    have wo := q.wo (k0 + 1) hmem
    rw [if_pos rfl, if_pos rfl, Int.toNat_natCast, wo]
    refine (s.size (id := k0 + 1) hmem).mono ?_
    rintro y w1 ⟨a', rfl, s1, hs, t⟩
    exact ⟨a', rfl, hs, t, same15 S0 s1 q t (by omega)⟩
/-- is it marked? -/
theorem B15.marked (S : B15 W0 D R pb lb mb mm n rm a b e f u h i td L Fr Ws M O w) (hab : a + b + 2 ≤ 1000 * n) (id : Int) : Calls Tryz.prog 42 #[at0 lb, .int .i64 id] w fun y w1 => ∃ a', y = .returned (.tuple #[.bool (isq L id && decide (∃ x, x ∈ M ∧ id = (x : Int))), .int .i64 (if isq L id = true then 0 else 4)]) ∧ a' ≤ a + 2 ∧ TR (rl R pb lb) (rl R pb lb) w w1 ∧ B15 W0 D R pb lb mb mm n rm a' b e f u h i td L Fr Ws M O w1 := by
  have S0 := S
  obtain ⟨⟨mad, tk, gn, F, tot, ob, s, q⟩, d, dl, dz, ab⟩ := S
  cases hI : isq L id
  · refine (s.marked_no (id := id) (q.no s hI)).mono ?_
    rintro y w1 ⟨a', rfl, s1, hs, t⟩
    exact ⟨a', rfl, hs, t, same15 S0 s1 q t (by omega)⟩
  · obtain ⟨k0, rfl, hk, ht, hmem⟩ := q.yes s hI
    have ed : decide (∃ x, x ∈ M ∧ ((k0 + 1 : Nat) : Int) = (x : Int)) = decide (k0 + 1 ∈ M) := by
      by_cases hM : k0 + 1 ∈ M
      · rw [decide_eq_true hM, decide_eq_true ⟨_, hM, rfl⟩]
      · rw [decide_eq_false hM, decide_eq_false (fun ⟨x, hx, ex⟩ => hM (by rw [Int.ofNat_inj.1 ex]; exact hx))]
    rw [ed, if_pos rfl, Bool.true_and]
    refine (s.marked (id := k0 + 1) hmem).mono ?_
    rintro y w1 ⟨a', rfl, s1, hs, t⟩
    exact ⟨a', rfl, hs, t, same15 S0 s1 q t (by omega)⟩
end
end Go.Proofs.YtlaldnfaeoimfaaGreat
