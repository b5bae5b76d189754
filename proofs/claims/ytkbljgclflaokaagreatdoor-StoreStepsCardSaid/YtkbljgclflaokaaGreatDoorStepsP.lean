/-
  What StoreSteps holds: a Store with one object, behind t steps; its calls.
-/
import Derived.Test.YtkbljgclflaokaaGreatDoorStoP
namespace Go.Proofs.YtkbljgclflaokaaGreatDoor
open Go.RowKit
set_option linter.unusedVariables false

def SX (W0 : World) (X : Nat → Nat) (stb mb mm x P Q S : Nat) (l : Bool) (t : Nat) (w : World) : Prop :=
  ∃ R sb lb pb sml L n ws ct rm mad F M O tot a b h g ob, SO W0 R stb sb lb pb mb mm sml L n ws ct rm mad F M O tot a b h g ob w ∧ X = rs R sb pb lb ∧ IsO ct ws M O ob x P Q S 0 l ∧ a + b = t ∧ t ≤ 1000000
section
variable {W0 w w' : World} {X : Nat → Nat} {stb mb mm x P Q S : Nat} {l : Bool} {t : Nat}
theorem SX.below (s : SX W0 X stb mb mm x P Q S l t w) (k : Below w.heap.size w w') : SX W0 X stb mb mm x P Q S l t w' := by
  obtain ⟨R, sb, lb, pb, sml, L, n, ws, ct, rm, mad, F, M, O, tot, a, b, h, g, ob, s, e⟩ := s
  exact ⟨R, sb, lb, pb, sml, L, n, ws, ct, rm, mad, F, M, O, tot, a, b, h, g, ob, s.below k, e⟩
theorem SX.drew (s : SX W0 X stb mb mm x P Q S l t w) : SX W0 X stb mb mm x P Q S l t w.drew := s.below (Below.refl _ _).drew
theorem SX.fresh (s : SX W0 X stb mb mm x P Q S l t w) {q : Nat} (hq : w.heap.size ≤ q) : X q = 0 ∧ q ≠ stb ∧ W0.heap.size ≤ q := by
  obtain ⟨R, sb, lb, pb, sml, L, n, ws, ct, rm, mad, F, M, O, tot, a, b, h, g, ob, s, rfl, _⟩ := s
  obtain ⟨z, e⟩ := s.s.fresh hq
  exact ⟨z, e, Nat.le_trans s.o.b.size hq⟩
theorem SX.store (s : SX W0 X stb mb mm x P Q S l t w) {q : Nat} (z : X q = 0 ∧ q ≠ stb ∧ W0.heap.size ≤ q) (i : Nat) (v : Value) : SX W0 X stb mb mm x P Q S l t (w.setCell ⟨q, i, none⟩ v) := by
  obtain ⟨R, sb, lb, pb, sml, L, n, ws, ct, rm, mad, F, M, O, tot, a, b, h, g, ob, s, rfl, e⟩ := s
  exact ⟨R, sb, lb, pb, sml, L, n, ws, ct, rm, mad, F, M, O, tot, a, b, h, g, ob, ⟨s.s.store z.1 z.2.1 i v, ⟨s.o.lo, s.o.b.setCell z.2.2 v⟩, s.ls, s.ft⟩, rfl, e⟩
theorem addv_small {a b : Nat} (h : a + b ≤ 2000000) : addv a b = a + b := addv_t (by unfold N128; omega)
theorem SX.steps (s : SX W0 X stb mb mm x P Q S l t w) : w.cell? ⟨mb, 0, none⟩ = some (at0 mm) ∧ Calls Tryz.prog 12 #[at0 mm] w fun e w' => e = .returned (wv t) ∧ Below w.heap.size w w' := by
  obtain ⟨R, sb, lb, pb, sml, L, n, ws, ct, rm, mad, F, M, O, tot, a, b, h, g, ob, s, rfl, i, e1, e2⟩ := s
  obtain ⟨c, C⟩ := s.met
  rw [addv_small (by omega), e1] at C
  exact ⟨c, C⟩
theorem SX.own (s : SX W0 X stb mb mm x P Q S l t w) : Below W0.heap.size W0 w := by
  obtain ⟨R, sb, lb, pb, sml, L, n, ws, ct, rm, mad, F, M, O, tot, a, b, h, g, ob, s, _⟩ := s
  exact s.o.b
theorem SX.le (s : SX W0 X stb mb mm x P Q S l t w) : t ≤ 1000000 := by
  obtain ⟨R, sb, lb, pb, sml, L, n, ws, ct, rm, mad, F, M, O, tot, a, b, h, g, ob, s, _, _, _, e⟩ := s
  exact e
/-- one to eight steps more -/
def SXN (W0 : World) (X : Nat → Nat) (stb mb mm x P Q S : Nat) (l : Bool) (t : Nat) (w w' : World) : Prop := ∃ t', SX W0 X stb mb mm x P Q S l t' w' ∧ t + 1 ≤ t' ∧ t' ≤ t + 8 ∧ TR X X w w'
theorem SX.header (s : SX W0 X stb mb mm x P Q S l t w) (ht : t ≤ 900000) : Calls Tryz.prog 13 #[at0 stb, .int .u64 (x : Int)] w fun e w' => (∃ v, e = .returned v) ∧ SXN W0 X stb mb mm x P Q S l t w w' := by
  obtain ⟨R, sb, lb, pb, sml, L, n, ws, ct, rm, mad, F, M, O, tot, a, b, h, g, ob, s, rfl, i, e1, e2⟩ := s
  refine (sthead_ok (i.iw 0 (by omega)) i.hd i.p i.q i.s i.a w s.s (fun v t => s.fx t)).mono fun e w' ⟨a', e', s', u1, u2, t⟩ => ⟨⟨_, e'⟩, a' + b, ⟨R, sb, lb, pb, sml, L, n, ws, ct, rm, mad, F, M, O, tot, a', b, h, g, ob, s.step s' t, rfl, i, rfl, by omega⟩, ?_, by omega, t⟩
  rw [addv_small (by omega)] at u2
  omega
/-- a field of an object, or none -/
theorem slot_way (P Q : Nat) (hP : P < 4096) (hQ : Q < 4096) (k : Int) : (∀ w, Calls Tryz.prog 41 #[sh P Q, .int .i64 k] w fun e w' => e = .returned (.tuple #[.int .i64 0, .int .i64 32]) ∧ Below w.heap.size w w') ∨ ∃ d : Nat, 1 ≤ d ∧ d < 1 + P + Q ∧ ∀ w, Calls Tryz.prog 41 #[sh P Q, .int .i64 k] w fun e w' => e = .returned (.tuple #[.int .i64 (d : Int), .int .i64 0]) ∧ Below w.heap.size w w' := by
  by_cases h : 0 ≤ k ∧ k < P
  · refine .inr ⟨1 + k.toNat, by omega, by omega, fun w => ?_⟩
    have C := slot_ok (P : Int) (Q : Int) k (rt_ok hP hQ) h.1 h.2 w
    rw [show (1 : Int) + k = ((1 + k.toNat : Nat) : Int) by omega] at C
    exact C
  · exact .inl fun w => slot_no (P : Int) (Q : Int) k (.inr (by omega)) w
theorem cell_way (P Q : Nat) (hP : P < 4096) (hQ : Q < 4096) (k : Int) : (∀ w, Calls Tryz.prog 43 #[sh P Q, .int .i64 k] w fun e w' => e = .returned (.tuple #[.int .i64 0, .int .i64 32]) ∧ Below w.heap.size w w') ∨ ∃ d : Nat, 1 ≤ d ∧ d < 1 + P + Q ∧ ∀ w, Calls Tryz.prog 43 #[sh P Q, .int .i64 k] w fun e w' => e = .returned (.tuple #[.int .i64 (d : Int), .int .i64 0]) ∧ Below w.heap.size w w' := by
  by_cases h : 0 ≤ k ∧ k < Q
  · refine .inr ⟨1 + P + k.toNat, by omega, by omega, fun w => ?_⟩
    have C := cell_ok (P : Int) (Q : Int) k (rt_ok hP hQ) h.1 h.2 w
    rw [show (1 : Int) + P + k = ((1 + P + k.toNat : Nat) : Int) by omega] at C
    exact C
  · exact .inl fun w => cell_no (P : Int) (Q : Int) k (.inr (by omega)) w
theorem SX.pointer (s : SX W0 X stb mb mm x P Q S l t w) (ht : t ≤ 900000) (k : Int) : Calls Tryz.prog 14 #[at0 stb, .int .u64 (x : Int), .int .i64 k] w fun e w' => (∃ v, e = .returned v) ∧ SXN W0 X stb mb mm x P Q S l t w w' := by
  obtain ⟨R, sb, lb, pb, sml, L, n, ws, ct, rm, mad, F, M, O, tot, a, b, h, g, ob, s, rfl, i, e1, e2⟩ := s
  rcases slot_way P Q i.p i.q k with C | ⟨d, d1, d2, C⟩
  · refine (stPointer_no k C (i.iw 0 (by omega)) i.hd i.p i.q i.s i.a w s.s (fun v t => s.fx t)).mono fun e w' ⟨a', e', s', u1, u2, t⟩ => ⟨⟨_, e'⟩, a' + b, ⟨R, sb, lb, pb, sml, L, n, ws, ct, rm, mad, F, M, O, tot, a', b, h, g, ob, s.step s' t, rfl, i, rfl, by omega⟩, ?_, by omega, t⟩
    rw [addv_small (by omega)] at u2
    omega
  · refine (stPointer_ok k d C (i.iw 0 (by omega)) i.hd i.p i.q i.s i.a (i.iw d d2) w s.s (fun v t => s.fx t)).mono fun e w' ⟨a', e', s', u1, u2, t⟩ => ⟨⟨_, e'⟩, a' + b, ⟨R, sb, lb, pb, sml, L, n, ws, ct, rm, mad, F, M, O, tot, a', b, h, g, ob, s.step s' t, rfl, i, rfl, by omega⟩, ?_, by omega, t⟩
    rw [addv_small (by omega)] at u2
    omega
theorem SX.raw (s : SX W0 X stb mb mm x P Q S l t w) (ht : t ≤ 900000) (k : Int) : Calls Tryz.prog 16 #[at0 stb, .int .u64 (x : Int), .int .i64 k] w fun e w' => (∃ v, e = .returned v) ∧ SXN W0 X stb mb mm x P Q S l t w w' := by
  obtain ⟨R, sb, lb, pb, sml, L, n, ws, ct, rm, mad, F, M, O, tot, a, b, h, g, ob, s, rfl, i, e1, e2⟩ := s
  rcases cell_way P Q i.p i.q k with C | ⟨d, d1, d2, C⟩
  · refine (stRaw_no k C (i.iw 0 (by omega)) i.hd i.p i.q i.s i.a w s.s (fun v t => s.fx t)).mono fun e w' ⟨a', e', s', u1, u2, t⟩ => ⟨⟨_, e'⟩, a' + b, ⟨R, sb, lb, pb, sml, L, n, ws, ct, rm, mad, F, M, O, tot, a', b, h, g, ob, s.step s' t, rfl, i, rfl, by omega⟩, ?_, by omega, t⟩
    rw [addv_small (by omega)] at u2
    omega
  · refine (stRaw_ok k d C (i.iw 0 (by omega)) i.hd i.p i.q i.s i.a (i.iw d d2) w s.s (fun v t => s.fx t)).mono fun e w' ⟨a', e', s', u1, u2, t⟩ => ⟨⟨_, e'⟩, a' + b, ⟨R, sb, lb, pb, sml, L, n, ws, ct, rm, mad, F, M, O, tot, a', b, h, g, ob, s.step s' t, rfl, i, rfl, by omega⟩, ?_, by omega, t⟩
    rw [addv_small (by omega)] at u2
    omega
theorem SX.setPointer (s : SX W0 X stb mb mm x P Q S l t w) (ht : t ≤ 900000) (k : Int) : Calls Tryz.prog 15 #[at0 stb, .int .u64 (x : Int), .int .i64 k, .int .u64 (x : Int)] w fun e w' => (∃ v, e = .returned v) ∧ SXN W0 X stb mb mm x P Q S l t w w' := by
  obtain ⟨R, sb, lb, pb, sml, L, n, ws, ct, rm, mad, F, M, O, tot, a, b, h, g, ob, s, rfl, i, e1, e2⟩ := s
  have i0 := i.iw 0 (by omega)
  rcases slot_way P Q i.p i.q k with C | ⟨d, d1, d2, C⟩
  · refine (stSetPointer_no k x C i0 i.hd i.p i.q i.s i.a w s.s (fun v t => s.fx t)).mono fun e w' ⟨a', e', s', u1, u2, t⟩ => ⟨⟨_, e'⟩, a' + b, ⟨R, sb, lb, pb, sml, L, n, ws, ct, rm, mad, F, M, O, tot, a', b, h, g, ob, s.step s' t, rfl, i, rfl, by omega⟩, ?_, by omega, t⟩
    rw [addv_small (by omega)] at u2
    omega
  · have kx : kd x ≠ 3 := by
      rcases i0.2 with q | q
      · omega
      · omega
    refine (stSetPointer_ok k d x i0.1 kx C i0 i.hd i.p i.q i.s i.a (i.iw d d2) w s.s (fun v t => s.fx t)).mono fun e w' ⟨a', b', L', e', s', u1, u2, u3, u4, kp, t⟩ => ⟨⟨_, e'⟩, a' + b', ⟨R, sb, lb, pb, sml, L', n, _, ct, rm, mad, F, M, O, tot, a', b', h, g, _, s.step s' t, rfl, i.set d1 d2 x, rfl, by omega⟩, ?_, by omega, t⟩
    rw [addv_small (by omega)] at u2
    omega
theorem SX.setRaw (s : SX W0 X stb mb mm x P Q S l t w) (ht : t ≤ 900000) (k : Int) (v : Nat) : Calls Tryz.prog 17 #[at0 stb, .int .u64 (x : Int), .int .i64 k, .int .u64 (v : Int)] w fun e w' => (∃ v, e = .returned v) ∧ SXN W0 X stb mb mm x P Q S l t w w' := by
  obtain ⟨R, sb, lb, pb, sml, L, n, ws, ct, rm, mad, F, M, O, tot, a, b, h, g, ob, s, rfl, i, e1, e2⟩ := s
  have i0 := i.iw 0 (by omega)
  rcases cell_way P Q i.p i.q k with C | ⟨d, d1, d2, C⟩
  · refine (stSetRaw_no k v C i0 i.hd i.p i.q i.s i.a w s.s (fun v t => s.fx t)).mono fun e w' ⟨a', e', s', u1, u2, t⟩ => ⟨⟨_, e'⟩, a' + b, ⟨R, sb, lb, pb, sml, L, n, ws, ct, rm, mad, F, M, O, tot, a', b, h, g, ob, s.step s' t, rfl, i, rfl, by omega⟩, ?_, by omega, t⟩
    rw [addv_small (by omega)] at u2
    omega
  · refine (stSetRaw_ok k d v C i0 i.hd i.p i.q i.s i.a (i.iw d d2) w s.s (fun v t => s.fx t)).mono fun e w' ⟨a', b', L', e', s', u1, u2, u3, u4, kp, t⟩ => ⟨⟨_, e'⟩, a' + b', ⟨R, sb, lb, pb, sml, L', n, _, ct, rm, mad, F, M, O, tot, a', b', h, g, _, s.step s' t, rfl, i.set d1 d2 v, rfl, by omega⟩, ?_, by omega, t⟩
    rw [addv_small (by omega)] at u2
    omega
end
/-- Make of the one object: an error, or the object -/
def MakeR (W0 : World) (stb mb mm : Nat) (e : Ending) (w : World) : Prop :=
  (∃ c : Int, (c != 0) = true ∧ e = .returned (.tuple #[.int .u64 0, .int .i64 c]) ∧ w.cell? ⟨mb, 0, none⟩ = some (at0 mm) ∧ Below W0.heap.size W0 w ∧ Calls Tryz.prog 12 #[at0 mm] w fun e w' => e = .returned (wv 0) ∧ Below w.heap.size w w') ∨
  ∃ X x P Q S l t, e = .returned (.tuple #[.int .u64 (x : Nat), .int .i64 0]) ∧ SX W0 X stb mb mm x P Q S l t w ∧ t ≤ 30
theorem steps_make {W0 : World} {R : Nat → Nat} {stb sb lb pb mb mm : Nat} {L : List Spc} {g : Int} {w : World} (s : SO W0 R stb sb lb pb mb mm 8 L 0 (List.replicate 20 0) 0 0 0 [] [] [] 0 0 0 ((20 : Nat) : Int) g (fun _ => []) w)
    (p r site : Int) (hp : ¬ (300 < p ∧ p < 4096)) (hr : ¬ (300 < r ∧ r < 4096)) : Calls Tryz.prog 7 #[at0 stb, sh p r, .int .i64 site] w fun e w' => MakeR W0 stb mb mm e w' := by
  rcases chk_cases p r site 0 with ⟨P, Q, S, A, rfl, rfl, rfl, hA, h1, h2, h3, h4, _⟩ | hc
  · by_cases hk : 1 + P + Q ≤ 8
    · refine (s.s.make_s h1 h2 h3 hk (by simp; omega) (fun v t => s.fx t)).mono fun e w' ⟨a', b', L', e', s', u, kp, t⟩ => .inr ⟨_, _, P, Q, S, _, a' + b', e', ⟨R, sb, lb, pb, 8, L', 0, _, _, 0, 0, [], [], [], 0, a', b', _, g, _, s.step s' t, rfl, IsO.small h1 h2 h3 (by simp; omega) (by simp), rfl, by omega⟩, by omega⟩
    · obtain ⟨i1, i2, i3, i4, C⟩ := s.s.make_l (by omega) h1 h2 h3 (by omega) (fun v t => s.fx t)
      refine C.mono fun e w' ⟨R', a', b', g', L', e', s', u, kp, t⟩ => .inr ⟨_, _, P, Q, S, _, a' + b', e', ⟨R', sb, lb, pb, 8, L', 1, _, _, _, _, _, _, [], _, a', b', _, g', _, s.step s' t, rfl, IsO.large h1 h2 h3 i1 (by decide), rfl, by omega⟩, by omega⟩
  · have h0 : (chk p r site 0 != 0) = true := by
      rcases hc with e | e | e <;> (rw [e]; rfl)
    refine (s.s.make_no p r site _ rfl h0).mono fun e w' ⟨e', b⟩ => .inl ⟨_, h0, e', ?_, (s.below b).o.b, ?_⟩
    · exact (s.below b).met.1
    · have C := (s.below b).met.2
      rw [addv_small (by omega)] at C
      exact C
end Go.Proofs.YtkbljgclflaokaaGreatDoor
