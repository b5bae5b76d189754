/-
  Roots and the document's state, side by side: each call at both.
-/
import Derived.Test.YtppmicepkjhfeaaGreatRri
import Derived.Test.YtppmicepkjhfeaaGreatRtu
namespace Go.Proofs.YtppmicepkjhfeaaGreat
open Go.RowKit
set_option linter.unusedVariables false

/-- the document's state: its lists -/
structure V19 where
  F : Value
  gv : Value
  gf : Value
  gl : Value
  hv : Value
  hf : Value
  hl : Value
abbrev V19.val (x : V19) (gr hr : Nat) : Value := dv19 x.F x.gv x.gf (gr : Int) x.gl x.hv x.hf (hr : Int) x.hl
def PR19 (B : BK) (R : Nat → Nat) (D : Nat → Prop) (j : Nat) : Prop := rr B R j = 0 ∧ ¬ D j
abbrev DB' (n : Nat) (P : Nat → Prop) (S : List (List Nat)) (G H : HS) (x : V19) (w : World) : Prop := DB n P S G H x.F x.gv x.gf x.gl x.hv x.hf x.hl w
/-- both; D: blocks that are apart -/
structure P19 (W0 : World) (D : Nat → Prop) (R : Nat → Nat) (B : BK) (n : Nat) (S : List (List Nat)) (G H : HS) (x : V19) (w : World) : Prop where
  s : RL W0 R B n S false G H w
  d : DB' n (PR19 B R D) S G H x w
  bg : G.bz = false
  bh : H.bz = false
  dl : ∀ j, D j → j < w.heap.size
  dz : ∀ j, D j → rr B R j = 0
  dw : ∀ j, D j → W0.heap.size ≤ j
section
variable {W0 : World} {D : Nat → Prop} {R R' : Nat → Nat} {B : BK} {n : Nat} {S S' T : List (List Nat)} {xs : List Nat} {G G' H H' : HS} {x x' : V19} {w w' w1 : World}
/-- behind a call of the program's: the document's lists are as they were -/
theorem P19.docs (p : P19 W0 D R B n S G H x w) (t : TR (rr B R) (rr B R') w w1) : DB' n (PR19 B R' D) S G H x w1 ∧ (∀ j, D j → rr B R' j = 0) ∧ (∀ j, D j → j < w1.heap.size) := by
  have up : ∀ j, j < w.heap.size → rr B R j = 0 → rr B R' j = 0 := fun j hj z => t.z hj z
  exact ⟨p.d.keeps t.keeps (fun j _ h q => q h.1) (fun j hj h => ⟨up j hj h.1, h.2⟩), fun j h => up j (p.dl j h) (p.dz j h), fun j h => Nat.lt_of_lt_of_le (p.dl j h) t.keeps.size⟩
theorem P19.below (p : P19 W0 D R B n S G H x w) (k : Below w.heap.size w w') : P19 W0 D R B n S G H x w' :=
  ⟨p.s.below k, p.d.below k, p.bg, p.bh, fun j h => Nat.lt_of_lt_of_le (p.dl j h) k.size, p.dz, p.dw⟩
theorem P19.up (p : P19 W0 D R B n S G H x w) (h : n < 400) : P19 W0 D R B (n + 1) S G H x w := ⟨p.s.up h, p.d.up, p.bg, p.bh, p.dl, p.dz, p.dw⟩
theorem P19.fresh (p : P19 W0 D R B n S G H x w) {j : Nat} (hj : w.heap.size ≤ j) : PR19 B R D j ∧ W0.heap.size ≤ j := ⟨⟨(p.s.fresh hj).1, fun h => by have := p.dl j h; omega⟩, (p.s.fresh hj).2⟩
/-- the same lists, at a call's end -/
theorem P19.same (p : P19 W0 D R B n S G H x w) (s : RL W0 R B n S false G H w1) (t : TR (rr B R) (rr B R) w w1) : P19 W0 D R B n S G H x w1 := by
  obtain ⟨d, z, l⟩ := p.docs t
  exact ⟨s, d, p.bg, p.bh, l, z, p.dw⟩
/-- blocks of D are written -/
theorem P19.aside (p : P19 W0 D R B n S G H x w) {X : Nat → Prop} (k : Keeps X w w') (hX : ∀ j, X j → D j) : P19 W0 D R B n S G H x w' :=
  ⟨p.s.aside k (fun j h => ⟨p.dz j (hX j h), p.dw j (hX j h)⟩), p.d.keeps k (fun j _ h q => h.2 (hX j q)) (fun _ _ h => h), p.bg, p.bh, fun j h => Nat.lt_of_lt_of_le (p.dl j h) k.size, p.dz, p.dw⟩
/-- more blocks of one's own -/
theorem P19.grow (p : P19 W0 D R B n S G H x w) {D' : Nat → Prop} (k : Below w.heap.size w w') (h1 : ∀ j, D' j → D j ∨ w.heap.size ≤ j) (h2 : ∀ j, D' j → j < w'.heap.size) : P19 W0 D' R B n S G H x w' :=
  ⟨p.s.below k, p.d.keeps (Keeps.of (F := fun _ => False) k) (fun _ _ _ h => h) (fun j hj h => ⟨h.1, fun q => (h1 j q).elim h.2 (fun q => by omega)⟩), p.bg, p.bh, h2, fun j h => (h1 j h).elim (p.dz j) (fun q => (p.s.fresh q).1), fun j h => (h1 j h).elim (p.dw j) (fun q => (p.s.fresh q).2)⟩
theorem P19.less (p : P19 W0 D R B n S G H x w) {D' : Nat → Prop} (h1 : ∀ j, D' j → D j) : P19 W0 D' R B n S G H x w :=
  ⟨p.s, p.d.mono (fun j h => ⟨h.1, fun q => h.2 (h1 j q)⟩), p.bg, p.bh, fun j h => p.dl j (h1 j h), fun j h => p.dz j (h1 j h), fun j h => p.dw j (h1 j h)⟩
theorem P19.sc (p : P19 W0 D R B n S G H x w) : SC G ∧ SC H ∧ HL G n ∧ HL H n ∧ S.length ≤ 100000 ∧ fwn S ≤ 103200 ∧ G.C.length ≤ 400 ∧ H.C.length ≤ 400 := by
  have h1 := p.s.gc
  have h2 := p.s.hc
  have h3 := p.s.hg.hm
  have h4 := p.s.hh.hm
  have h5 := p.s.hn
  have h6 := p.s.g9.2.2.2.2.2.2
  have h7 := fwn_len S
  exact ⟨h1, h2, p.s.hg, p.s.hh, by omega, by omega, by have := h1.1; omega, by have := h2.1; omega⟩
theorem P19.slices (p : P19 W0 D R B n S G H x w) : (∃ a c, x.F = .slice a S.length c) ∧ (∃ a n c, x.gv = .slice a n c) ∧ (∃ a n c, x.gf = .slice a n c) ∧ (∃ a c, x.gl = .slice a G.C.length c) ∧ (∃ a n c, x.hv = .slice a n c) ∧ (∃ a n c, x.hf = .slice a n c) ∧ ∃ a c, x.hl = .slice a H.C.length c := by
  obtain ⟨y1, y2, y3⟩ := p.d.y.slice
  obtain ⟨g1, g2, g3⟩ := p.d.g.slices
  obtain ⟨h1, h2, h3⟩ := p.d.h.slices
  rw [List.length_reverse] at y3
  exact ⟨⟨y1, y2, y3⟩, g1, g2, g3, h1, h2, h3⟩
/-! ### the stack -/
theorem P19.push (p : P19 W0 D R B n S G H x w) (hn : n < 400) {k : Nat} (hk : k ≤ 256) : Calls Tryz.prog 14 #[at0 B.fb, .int .i64 (k : Int)] w fun e w1 => ∃ R', e = .returned (.int .i64 0) ∧ TR (rr B R) (rr B R') w w1 ∧ w1.cell? ⟨B.rb, 0, none⟩ = some (at0 B.fb) ∧
    ∀ w2, Below w1.heap.size w1 w2 → Calls Tryz.prog 46 #[x.val G.rm H.rm, .int .i64 (k : Int)] w2 fun e w3 => ∃ Fa Fn Fc, e = .returned (V19.val { x with F := .slice Fa Fn Fc } G.rm H.rm) ∧ Below w2.heap.size w2 w3 ∧ P19 W0 D R' B (n + 1) (List.replicate k 0 :: S) G H { x with F := .slice Fa Fn Fc } w3 := by
  obtain ⟨⟨Fa, Fc, e1⟩, ⟨gva, gvn, gvc, e2⟩, ⟨gfa, gfn, gfc, e3⟩, ⟨gla, glc, e4⟩, ⟨hva, hvn, hvc, e5⟩, ⟨hfa, hfn, hfc, e6⟩, ⟨hla, hlc, e7⟩⟩ := p.slices
  obtain ⟨xF, xgv, xgf, xgl, xhv, xhf, xhl⟩ := x
  dsimp only at e1 e2 e3 e4 e5 e6 e7
  subst e1 e2 e3 e4 e5 e6 e7
  have lS := p.sc.2.2.2.2.1
  refine (p.s.push hn hk).mono ?_
  rintro e w1 ⟨R', rfl, s', t⟩
  obtain ⟨d, z, l⟩ := p.docs t
  refine ⟨R', rfl, t, s'.cells.1, fun w2 k2 => ?_⟩
  have d2 := d.below k2
  have y2 : YW w2 (PR19 B R' D) (.slice Fa S.length Fc) S.reverse := d2.y
  have C := rpush19 (gva := gva) (gvn := gvn) (gvc := gvc) (gfa := gfa) (gfn := gfn) (gfc := gfc) (gla := gla) (gln := G.C.length) (glc := glc) (hva := hva) (hvn := hvn) (hvc := hvc) (hfa := hfa) (hfn := hfn) (hfc := hfc) (hla := hla) (hln := H.C.length) (hlc := hlc) (gr := (G.rm : Int)) (hr := (H.rm : Int)) k hk S.reverse _ w2 y2 (by rw [List.length_reverse]; omega)
  refine C.mono ?_
  rintro e w3 ⟨Fa', Fn', Fc', rfl, y3, b3⟩
  have s2 := s'.below k2
  refine ⟨Fa', Fn', Fc', rfl, b3, s2.below b3, ⟨?_, (d2.g.below b3).up, (d2.h.below b3).up⟩, p.bg, p.bh, fun j h => by have := l j h; have := k2.size; have := b3.size; omega, z, p.dw⟩
  rw [List.reverse_cons]
  exact y3.mono (fun j q => q.elim (fun q => q.1) (fun q => ⟨(s2.fresh (by omega)).1, fun h => by have := l j h; have := k2.size; omega⟩))
theorem P19.pop (p : P19 W0 D R B n (xs :: T) G H x w) : Calls Tryz.prog 47 #[at0 B.fb] w fun e w1 => e = .returned (.int .i64 0) ∧ TR (rr B R) (rr B R) w w1 ∧
    ∀ Fa Fc, x.F = .slice Fa (T.length + 1) Fc → P19 W0 D R B n T G H { x with F := .slice Fa T.length Fc } w1 := by
  refine (p.s.pop).mono ?_
  rintro e w1 ⟨rfl, s', t⟩
  obtain ⟨d, z, l⟩ := p.docs t
  refine ⟨rfl, t, fun Fa Fc eF => ⟨s', ⟨?_, d.g, d.h⟩, p.bg, p.bh, l, z, p.dw⟩⟩
  have y := d.y
  rw [eF] at y
  have h := y.take (k := T.length) (by omega)
  rw [rev_last, rev_take] at h
  exact h
/-! ### global handles -/
theorem P19.add (p : P19 W0 D R B n S G H x w) (hn : n < 400) :
    ∃ t rm' : Nat, Calls Tryz.prog 15 #[at0 B.rb] w fun e w1 => ∃ u v, e = .returned (.tuple #[u, v]) ∧ (u = .int .i64 (t : Int) ∧ v = .int .i64 0 ∧ ∃ R', TR (rr B R) (rr B R') w w1 ∧
      ∀ w2, Below w1.heap.size w1 w2 → Calls Tryz.prog 22 #[stv18 x.gv x.gf (G.rm : Int) x.gl, .int .u64 0] w2 fun e w3 => ∃ va vn vc fa fn fc la ln lc G', e = .returned (.tuple #[stv18 (.slice va vn vc) (.slice fa fn fc) (rm' : Int) (.slice la ln lc), .int .i64 (t : Int)]) ∧ Below w2.heap.size w2 w3 ∧ G'.rm = rm' ∧ P19 W0 D R' B (n + 1) S G' H { x with gv := .slice va vn vc, gf := .slice fa fn fc, gl := .slice la ln lc } w3) := by
  obtain ⟨id, rm', mad', gn', F', Tk, C⟩ := p.s.add hn
  have sc := p.sc
  refine ⟨tkn id (gn' id), rm', C.mono ?_⟩
  rintro e w1 ⟨u, v, rfl, rfl, rfl, R', s', t⟩
  obtain ⟨d, z, l⟩ := p.docs t
  refine ⟨_, _, rfl, rfl, rfl, R', t, fun w2 k2 => ?_⟩
  have d2 := d.below k2
  have s2 := s'.below k2
  refine (d2.g.add sc.1 sc.2.2.1 hn Tk 0).mono ?_
  rintro e w3 ⟨v', f', l', rfl, b3, q3⟩
  have q4 := q3
  obtain ⟨⟨va, vn, vc, rfl⟩, ⟨fa, fn, fc, rfl⟩, ⟨la, lc, rfl⟩⟩ := q3.slices
  exact ⟨va, vn, vc, fa, fn, fc, la, _, lc, _, rfl, b3, rfl, s2.below b3, ⟨d2.y.below b3, q4.mono (fun j q => (⟨(s2.fresh q).1, fun h => by have := l j h; have := k2.size; omega⟩ : PR19 B _ D j)), (d2.h.below b3).up⟩, p.bg, p.bh, fun j h => by have := l j h; have := k2.size; have := b3.size; omega, z, p.dw⟩
theorem P19.drop (p : P19 W0 D R B n S G H x w) (hn : n < 400) (t : Int) :
    ∃ c : Int, Calls Tryz.prog 23 #[at0 B.rb, .int .i64 t] w fun e w1 => ∃ d, e = .returned (.int .i64 d) ∧ (d = c ∧ TR (rr B R) (rr B R) w w1 ∧
      ∀ w2, Below w1.heap.size w1 w2 → Calls Tryz.prog 24 #[stv18 x.gv x.gf (G.rm : Int) x.gl, .int .i64 t] w2 fun e w3 => ∃ va vn vc fa fn fc la ln lc G', e = .returned (.tuple #[stv18 (.slice va vn vc) (.slice fa fn fc) (G.rm : Int) (.slice la ln lc), .int .i64 c]) ∧ Below w2.heap.size w2 w3 ∧ G'.rm = G.rm ∧ P19 W0 D R B (n + 1) S G' H { x with gv := .slice va vn vc, gf := .slice fa fn fc, gl := .slice la ln lc } w3) := by
  have sc := p.sc
  rcases SC.find sc.1 t with ⟨i, hi, hiH, et, e1, e2, hno⟩ | ⟨hC, hno⟩
  · subst et
    refine ⟨0, (p.s.drop hn hi).mono ?_⟩
    rintro e w1 ⟨_, rfl, rfl, s', t⟩
    obtain ⟨d, z, l⟩ := p.docs t
    refine ⟨_, rfl, rfl, t, fun w2 k2 => ?_⟩
    have d2 := d.below k2
    have s2 := s'.below k2
    refine (d2.g.drop sc.1 sc.2.2.1 hn hi e1 hno).mono ?_
    rintro e w3 ⟨v', f', l', rfl, b3, q3⟩
    have q4 := q3
    obtain ⟨⟨va, vn, vc, rfl⟩, ⟨fa, fn, fc, rfl⟩, ⟨la, lc, rfl⟩⟩ := q3.slices
    exact ⟨va, vn, vc, fa, fn, fc, la, _, lc, G.drop i, rfl, b3, rfl, s2.below b3, ⟨d2.y.below b3, q4.mono (fun j q => (⟨(s2.fresh q).1, fun h => by have := l j h; have := k2.size; omega⟩ : PR19 B _ D j)), (d2.h.below b3).up⟩, p.bg, p.bh, fun j h => by have := l j h; have := k2.size; have := b3.size; omega, z, p.dw⟩
  · refine ⟨30, (p.s.drop_no hC).mono ?_⟩
    rintro e w1 ⟨_, rfl, rfl, s', t⟩
    have p1 := p.same s' t
    refine ⟨_, rfl, rfl, t, fun w2 k2 => ?_⟩
    have p2 := p1.below k2
    refine (p2.d.g.drop_no sc.1 sc.2.2.1 hn hno).mono ?_
    rintro e w3 ⟨rfl, b3⟩
    obtain ⟨⟨va, vn, vc, ev⟩, ⟨fa, fn, fc, ef⟩, ⟨la, lc, el⟩⟩ := p2.d.g.slices
    rw [ev, ef, el]
    refine ⟨va, vn, vc, fa, fn, fc, la, _, lc, _, rfl, b3, rfl, ?_⟩
    rw [← ev, ← ef, ← el]
    exact (p2.below b3).up hn
/-! ### weak handles -/
theorem P19.addw (p : P19 W0 D R B n S G H x w) (hn : n < 400) {r : Nat} (hr9 : r < 18446744073709551616) :
    ∃ t rm' : Nat, Calls Tryz.prog 52 #[at0 B.rb, .int .u64 (r : Int)] w fun e w1 => ∃ u v, e = .returned (.tuple #[u, v]) ∧ (u = .int .i64 (t : Int) ∧ v = .int .i64 0 ∧ ∃ R', TR (rr B R) (rr B R') w w1 ∧
      ∀ w2, Below w1.heap.size w1 w2 → Calls Tryz.prog 22 #[stv18 x.hv x.hf (H.rm : Int) x.hl, .int .u64 (r : Int)] w2 fun e w3 => ∃ va vn vc fa fn fc la ln lc H', e = .returned (.tuple #[stv18 (.slice va vn vc) (.slice fa fn fc) (rm' : Int) (.slice la ln lc), .int .i64 (t : Int)]) ∧ Below w2.heap.size w2 w3 ∧ H'.rm = rm' ∧ P19 W0 D R' B (n + 1) S G H' { x with hv := .slice va vn vc, hf := .slice fa fn fc, hl := .slice la ln lc } w3) := by
  obtain ⟨id, rm', mad', gn', F', Tk, C⟩ := p.s.addw hn hr9
  have sc := p.sc
  refine ⟨tkn id (gn' id), rm', C.mono ?_⟩
  rintro e w1 ⟨u, v, rfl, rfl, rfl, R', s', t⟩
  obtain ⟨d, z, l⟩ := p.docs t
  refine ⟨_, _, rfl, rfl, rfl, R', t, fun w2 k2 => ?_⟩
  have d2 := d.below k2
  have s2 := s'.below k2
  refine (d2.h.add sc.2.1 sc.2.2.2.1 hn Tk r).mono ?_
  rintro e w3 ⟨v', f', l', rfl, b3, q3⟩
  have q4 := q3
  obtain ⟨⟨va, vn, vc, rfl⟩, ⟨fa, fn, fc, rfl⟩, ⟨la, lc, rfl⟩⟩ := q3.slices
  exact ⟨va, vn, vc, fa, fn, fc, la, _, lc, _, rfl, b3, rfl, s2.below b3, ⟨d2.y.below b3, (d2.g.below b3).up, q4.mono (fun j q => (⟨(s2.fresh q).1, fun h => by have := l j h; have := k2.size; omega⟩ : PR19 B _ D j))⟩, p.bg, p.bh, fun j h => by have := l j h; have := k2.size; have := b3.size; omega, z, p.dw⟩
theorem P19.dropw (p : P19 W0 D R B n S G H x w) (hn : n < 400) (t : Int) :
    ∃ c : Int, Calls Tryz.prog 53 #[at0 B.rb, .int .i64 t] w fun e w1 => ∃ d, e = .returned (.int .i64 d) ∧ (d = c ∧ TR (rr B R) (rr B R) w w1 ∧
      ∀ w2, Below w1.heap.size w1 w2 → Calls Tryz.prog 24 #[stv18 x.hv x.hf (H.rm : Int) x.hl, .int .i64 t] w2 fun e w3 => ∃ va vn vc fa fn fc la ln lc H', e = .returned (.tuple #[stv18 (.slice va vn vc) (.slice fa fn fc) (H.rm : Int) (.slice la ln lc), .int .i64 c]) ∧ Below w2.heap.size w2 w3 ∧ H'.rm = H.rm ∧ P19 W0 D R B (n + 1) S G H' { x with hv := .slice va vn vc, hf := .slice fa fn fc, hl := .slice la ln lc } w3) := by
  have sc := p.sc
  rcases SC.find sc.2.1 t with ⟨i, hi, hiH, et, e1, e2, hno⟩ | ⟨hC, hno⟩
  · subst et
    refine ⟨0, (p.s.dropw hn hi).mono ?_⟩
    rintro e w1 ⟨_, rfl, rfl, s', t⟩
    obtain ⟨d, z, l⟩ := p.docs t
    refine ⟨_, rfl, rfl, t, fun w2 k2 => ?_⟩
    have d2 := d.below k2
    have s2 := s'.below k2
    refine (d2.h.drop sc.2.1 sc.2.2.2.1 hn hi e1 hno).mono ?_
    rintro e w3 ⟨v', f', l', rfl, b3, q3⟩
    have q4 := q3
    obtain ⟨⟨va, vn, vc, rfl⟩, ⟨fa, fn, fc, rfl⟩, ⟨la, lc, rfl⟩⟩ := q3.slices
    exact ⟨va, vn, vc, fa, fn, fc, la, _, lc, H.drop i, rfl, b3, rfl, s2.below b3, ⟨d2.y.below b3, (d2.g.below b3).up, q4.mono (fun j q => (⟨(s2.fresh q).1, fun h => by have := l j h; have := k2.size; omega⟩ : PR19 B _ D j))⟩, p.bg, p.bh, fun j h => by have := l j h; have := k2.size; have := b3.size; omega, z, p.dw⟩
  · refine ⟨30, (p.s.dropw_no hC).mono ?_⟩
    rintro e w1 ⟨_, rfl, rfl, s', t⟩
    have p1 := p.same s' t
    refine ⟨_, rfl, rfl, t, fun w2 k2 => ?_⟩
    have p2 := p1.below k2
    refine (p2.d.h.drop_no sc.2.1 sc.2.2.2.1 hn hno).mono ?_
    rintro e w3 ⟨rfl, b3⟩
    obtain ⟨⟨va, vn, vc, ev⟩, ⟨fa, fn, fc, ef⟩, ⟨la, lc, el⟩⟩ := p2.d.h.slices
    rw [ev, ef, el]
    refine ⟨va, vn, vc, fa, fn, fc, la, _, lc, _, rfl, b3, rfl, ?_⟩
    rw [← ev, ← ef, ← el]
    exact (p2.below b3).up hn
/-! ### Weak, Get, Set -/
theorem P19.weak (p : P19 W0 D R B n S G H x w) (hn : n < 400) (t : Int) :
    ∃ (y : Nat) (c : Int), Calls Tryz.prog 54 #[at0 B.rb, .int .i64 t] w fun e w1 => ∃ u v, e = .returned (.tuple #[u, v]) ∧ (u = .int .u64 (y : Int) ∧ v = .int .i64 c ∧ TR (rr B R) (rr B R) w w1 ∧ P19 W0 D R B n S G H x w1 ∧
      ∀ w2, Below w1.heap.size w1 w2 → Calls Tryz.prog 50 #[stv18 x.hv x.hf (H.rm : Int) x.hl, .int .i64 t] w2 fun e w3 => ∃ i, e = .returned (.int .i64 i) ∧ Below w2.heap.size w2 w3 ∧ (i = -1 ∧ y = 0 ∧ c = 30 ∨ ∃ k : Nat, i = (k : Int) ∧ k < H.C.length ∧ y = (H.list.getD k (0, 0)).2 ∧ c = 0)) := by
  have sc := p.sc
  rcases SC.find sc.2.1 t with ⟨i, hi, hiH, et, e1, e2, hno⟩ | ⟨hC, hno⟩
  · subst et
    refine ⟨H.V (H.C.getD i 0), 0, (p.s.weak (mem_getD18 hi)).mono ?_⟩
    rintro e w1 ⟨_, _, rfl, rfl, rfl, s', t⟩
    have p1 := p.same s' t
    refine ⟨_, _, rfl, rfl, rfl, t, p1, fun w2 k2 => ?_⟩
    refine ((p1.below k2).d.h.at sc.2.1 sc.2.2.2.1 hn _).mono ?_
    rintro e w3 ⟨z, rfl, hy, b3⟩
    exact ⟨z, rfl, b3, .inr ⟨i, hy.ok hiH e1 hno, hi, e2.symm, rfl⟩⟩
  · refine ⟨0, 30, (p.s.weak_no hC).mono ?_⟩
    rintro e w1 ⟨_, _, rfl, rfl, rfl, s', t⟩
    have p1 := p.same s' t
    refine ⟨_, _, rfl, rfl, rfl, t, p1, fun w2 k2 => ?_⟩
    refine ((p1.below k2).d.h.at sc.2.1 sc.2.2.2.1 hn _).mono ?_
    rintro e w3 ⟨z, rfl, hy, b3⟩
    exact ⟨z, rfl, b3, .inl ⟨hy.no hno, rfl, rfl⟩⟩
theorem name_of {name : Int} (h : name < 0) : ∃ k : Nat, name = -1 - (k : Int) := ⟨(-1 - name).toNat, by omega⟩
theorem P19.get (p : P19 W0 D R B n S G H x w) (hn : n < 400) (name : Int) (hw : -9223372036854775808 ≤ name) :
    ∃ (y : Nat) (c : Int), Calls Tryz.prog 13 #[at0 B.rb, .int .i64 name] w fun e w1 => ∃ u v, e = .returned (.tuple #[u, v]) ∧ (u = .int .u64 (y : Int) ∧ v = .int .i64 c ∧ TR (rr B R) (rr B R) w w1 ∧ P19 W0 D R B n S G H x w1 ∧
      ∀ w2, Below w1.heap.size w1 w2 → Calls Tryz.prog 28 #[x.val G.rm H.rm, .int .i64 name] w2 fun e w3 => e = .returned (.tuple #[.int .u64 (y : Int), .int .i64 c]) ∧ Below w2.heap.size w2 w3) := by
  have sc := p.sc
  by_cases h0 : name < 0
  · obtain ⟨k, rfl⟩ := name_of h0
    by_cases hc : fck S (k : Int) = 0
    · cases S with
      | nil => rw [fck_nil] at hc; exact absurd hc (by decide)
      | cons xs T =>
        have hk : k < xs.length := by
          by_cases q : 0 ≤ (k : Int) ∧ (k : Int) < (xs.length : Int)
          · omega
          · rw [fck_out q] at hc; exact absurd hc (by decide)
        refine ⟨xs.getD k 0, 0, (p.s.get_f hk).mono ?_⟩
        rintro e w1 ⟨_, _, rfl, rfl, rfl, s', t⟩
        have p1 := p.same s' t
        refine ⟨_, _, rfl, rfl, rfl, t, p1, fun w2 k2 => ?_⟩
        have p2 := p1.below k2
        have y2 := p2.d.y
        have lx := p.s.sl xs (by simp)
        have lS := sc.2.2.2.2.1
        obtain ⟨Fa, Fc, eF⟩ := (p2.slices).1
        rw [eF, rev_last] at y2
        obtain ⟨en, bb, off, ua, uc, ea, _, c0, ly⟩ := y2.last
        obtain ⟨ub, uo, rfl, c1⟩ := ly.at hk
        rw [rev_len] at en c0
        subst ea
        have WR : ∀ w', Below w2.heap.size w2 w' → Calls Tryz.prog 56 #[.slice (some ⟨bb, off, none⟩) (xs :: T).length Fc, .int .i64 (k : Int)] w' fun e w'' => e = .returned (.int .i64 0) ∧ w' = w'' := fun w' k' => by
          have yy := (p2.below k').d.y
          rw [eF] at yy
          have C := ywrong_rev (k : Int) yy (by omega)
          rw [hc] at C; exact C
        have C := rget19_f (gv := x.gv) (gf := x.gf) (gl := x.gl) (hv := x.hv) (hf := x.hf) (hl := x.hl) (gr := (G.rm : Int)) (hr := (H.rm : Int)) (-1 - (k : Int)) k T.length (xs.getD k 0) xs.length h0 hw (by omega) hk lx (by rw [List.length_cons] at lS; omega) off bb (xs :: T).length Fc ub uo uc en w2 c0 c1 WR
        unfold V19.val
        rw [eF]
        exact C
    · refine ⟨0, fck S (k : Int), (p.s.get_fno (by omega) (by omega) rfl hc).mono ?_⟩
      rintro e w1 ⟨_, _, rfl, rfl, rfl, s', t⟩
      have p1 := p.same s' t
      refine ⟨_, _, rfl, rfl, rfl, t, p1, fun w2 k2 => ?_⟩
      exact rget19_fno (-1 - (k : Int)) (k : Int) _ h0 hw (by omega) hc w2 (fun w' k' => ywrong_rev (k : Int) ((p1.below k2).below k').d.y (by omega))
  · rcases SC.find sc.1 name with ⟨i, hi, hiH, et, e1, e2, hno⟩ | ⟨hC, hno⟩
    · subst et
      refine ⟨G.V (G.C.getD i 0), 0, (p.s.get_g (mem_getD18 hi)).mono ?_⟩
      rintro e w1 ⟨_, _, rfl, rfl, rfl, s', t⟩
      have p1 := p.same s' t
      refine ⟨_, _, rfl, rfl, rfl, t, p1, fun w2 k2 => ?_⟩
      have p2 := p1.below k2
      obtain ⟨ga, gc, eg⟩ := p2.slices.2.2.2.1
      have pq := p2.d.g.pq
      rw [eg] at pq
      obtain ⟨gb, go, rfl, _, _, c1⟩ := pq.at hiH
      rw [e2] at c1
      have AT : ∀ w', Below w2.heap.size w2 w' → Calls Tryz.prog 50 #[stv18 x.gv x.gf (G.rm : Int) (.slice (some ⟨gb, go, none⟩) G.C.length gc), .int .i64 ((G.t (G.C.getD i 0) : Nat) : Int)] w' fun e w'' => e = .returned (.int .i64 (i : Int)) ∧ Below w'.heap.size w' w'' := fun w' k' => by
        have C := (p2.below k').d.g.at sc.1 sc.2.2.1 hn ((G.t (G.C.getD i 0) : Nat) : Int)
        rw [eg] at C
        exact C.mono fun e w'' ⟨z, h1, hy, b3⟩ => ⟨by rw [h1, hy.ok hiH e1 hno], b3⟩
      have C := rget19_g (F := x.F) (gv := x.gv) (gf := x.gf) (hv := x.hv) (hf := x.hf) (hl := x.hl) (gr := (G.rm : Int)) (hr := (H.rm : Int)) _ h0 i G.C.length gc gb go (G.V (G.C.getD i 0)) hi (by omega) w2 c1 AT
      unfold V19.val
      rw [eg]
      exact C
    · refine ⟨0, 30, (p.s.get_gno h0 hC).mono ?_⟩
      rintro e w1 ⟨_, _, rfl, rfl, rfl, s', t⟩
      have p1 := p.same s' t
      refine ⟨_, _, rfl, rfl, rfl, t, p1, fun w2 k2 => ?_⟩
      exact rget19_gno name h0 w2 (fun w' k' => ((p1.below k2).below k').d.g.at sc.1 sc.2.2.1 hn name |>.mono fun e w'' ⟨z, h1, hy, b3⟩ => ⟨by rw [h1, hy.no hno], b3⟩)
theorem P19.set (p : P19 W0 D R B n S G H x w) (hn : n < 400) (name : Int) (hw : -9223372036854775808 ≤ name) {r : Nat} (hr9 : r < 18446744073709551616) :
    ∃ c : Int, Calls Tryz.prog 16 #[at0 B.rb, .int .i64 name, .int .u64 (r : Int)] w fun e w1 => ∃ d, e = .returned (.int .i64 d) ∧ (d = c ∧ TR (rr B R) (rr B R) w w1 ∧
      ∀ w2, Below w1.heap.size w1 w2 → Calls Tryz.prog 26 #[x.val G.rm H.rm, .int .i64 name, .int .u64 (r : Int)] w2 fun e w3 => ∃ Fa Fn Fc la ln lc S' G', e = .returned (.tuple #[V19.val { x with F := .slice Fa Fn Fc, gl := .slice la ln lc } G.rm H.rm, .int .i64 c]) ∧ Below w2.heap.size w2 w3 ∧ G'.rm = G.rm ∧ P19 W0 D R B n S' G' H { x with F := .slice Fa Fn Fc, gl := .slice la ln lc } w3) := by
  have sc := p.sc
  obtain ⟨⟨Fa, Fc, e1⟩, ⟨gva, gvn, gvc, e2⟩, ⟨gfa, gfn, gfc, e3⟩, ⟨gla, glc, e4⟩, ⟨hva, hvn, hvc, e5⟩, ⟨hfa, hfn, hfc, e6⟩, ⟨hla, hlc, e7⟩⟩ := p.slices
  obtain ⟨xF, xgv, xgf, xgl, xhv, xhf, xhl⟩ := x
  dsimp only at e1 e2 e3 e4 e5 e6 e7
  subst e1 e2 e3 e4 e5 e6 e7
  by_cases h0 : name < 0
  · obtain ⟨k, rfl⟩ := name_of h0
    by_cases hc : fck S (k : Int) = 0
    · cases S with
      | nil => rw [fck_nil] at hc; exact absurd hc (by decide)
      | cons xs T =>
        have hk : k < xs.length := by
          by_cases q : 0 ≤ (k : Int) ∧ (k : Int) < (xs.length : Int)
          · omega
          · rw [fck_out q] at hc; exact absurd hc (by decide)
        refine ⟨0, (p.s.set_f hk r).mono ?_⟩
        rintro e w1 ⟨_, rfl, rfl, s', t⟩
        obtain ⟨d, z, l⟩ := p.docs t
        refine ⟨_, rfl, rfl, t, fun w2 k2 => ?_⟩
        have d2 := d.below k2
        have s2 := s'.below k2
        have lx := p.s.sl xs (by simp)
        have lS := sc.2.2.2.2.1
        rw [List.length_cons] at lS
        have C := rset19_f (Fa := Fa) (Fn := (xs :: T).length) (Fc := Fc) (gva := gva) (gvn := gvn) (gvc := gvc) (gfa := gfa) (gfn := gfn) (gfc := gfc) (gla := gla) (gln := G.C.length) (glc := glc) (hva := hva) (hvn := hvn) (hvc := hvc) (hfa := hfa) (hfn := hfn) (hfc := hfc) (hla := hla) (hln := H.C.length) (hlc := hlc) (gr := (G.rm : Int)) (hr := (H.rm : Int)) (-1 - (k : Int)) (k : Int) r h0 hw (by omega) w2
          (fun F' w' => YW w' (fun j => PR19 B R D j ∧ j < w2.heap.size ∨ w2.heap.size + 2 ≤ j) F' (xs.set k r :: T).reverse)
          (fun F' wa wb q kk => q.keeps kk (fun j _ h z => by rcases h with h | h <;> have := z.1 <;> have := z.2 <;> omega) (fun _ _ h => h))
          (fun w' k' => by
            have yy := (d2.below k').y
            have C := ywrong_rev (k : Int) yy (by rw [List.length_cons]; omega)
            rw [hc] at C; exact C)
          (fun w' k' ls => by
            have yy := d2.y.tight.below k'
            rw [rev_last] at yy
            refine (yset_ok k r _ _ T.reverse xs w' yy hk (by rw [rev_len]; omega) (by omega)).mono ?_
            rintro e w'' ⟨v', rfl, y', b'⟩
            obtain ⟨a', c', rfl⟩ := y'.slice
            refine ⟨a', _, c', rfl, ?_, b'⟩
            rw [rev_last]
            exact y'.mono (fun j q => q.elim .inl (fun q => .inr (by omega))))
        refine C.mono ?_
        rintro e w3 ⟨Fa', Fn', Fc', rfl, y3, b3⟩
        refine ⟨Fa', Fn', Fc', gla, _, glc, _, G, rfl, b3, rfl, s2.below b3, ⟨?_, ?_, d2.h.below b3⟩, p.bg, p.bh, fun j h => by have := l j h; have := k2.size; have := b3.size; omega, z, p.dw⟩
        · exact y3.mono (fun j q => q.elim (fun q => q.1) (fun q => ⟨(s2.fresh (by omega)).1, fun h => by have := l j h; have := k2.size; omega⟩))
        · exact d2.g.below b3
    · refine ⟨fck S (k : Int), (p.s.set_fno r (by omega) (by omega) rfl hc).mono ?_⟩
      rintro e w1 ⟨_, rfl, rfl, s', t⟩
      have p1 := p.same s' t
      refine ⟨_, rfl, rfl, t, fun w2 k2 => ?_⟩
      have p2 := p1.below k2
      have C := rset19_fno (Fa := Fa) (Fn := S.length) (Fc := Fc) (gva := gva) (gvn := gvn) (gvc := gvc) (gfa := gfa) (gfn := gfn) (gfc := gfc) (gla := gla) (gln := G.C.length) (glc := glc) (hva := hva) (hvn := hvn) (hvc := hvc) (hfa := hfa) (hfn := hfn) (hfc := hfc) (hla := hla) (hln := H.C.length) (hlc := hlc) (gr := (G.rm : Int)) (hr := (H.rm : Int)) (-1 - (k : Int)) (k : Int) _ r h0 hw (by omega) hc w2 (fun w' k' => by
        have yy := (p2.below k').d.y
        exact ywrong_rev (k : Int) yy (by omega))
      refine C.mono ?_
      rintro e w3 ⟨rfl, b3⟩
      refine ⟨Fa, _, Fc, gla, _, glc, S, G, rfl, b3, rfl, ?_⟩
      exact p2.below b3
  · rcases SC.find sc.1 name with ⟨i, hi, hiH, et, e8, e9, hno⟩ | ⟨hC, hno⟩
    · subst et
      refine ⟨0, (p.s.set_g (mem_getD18 hi) hr9).mono ?_⟩
      rintro e w1 ⟨_, rfl, rfl, s', t⟩
      obtain ⟨d, z, l⟩ := p.docs t
      refine ⟨_, rfl, rfl, t, fun w2 k2 => ?_⟩
      have d2 := d.below k2
      have s2 := s'.below k2
      have C := rset19_g (Fa := Fa) (Fn := S.length) (Fc := Fc) (gva := gva) (gvn := gvn) (gvc := gvc) (gfa := gfa) (gfn := gfn) (gfc := gfc) (gla := gla) (gln := G.C.length) (glc := glc) (hva := hva) (hvn := hvn) (hvc := hvc) (hfa := hfa) (hfn := hfn) (hfc := hfc) (hla := hla) (hln := H.C.length) (hlc := hlc) (gr := (G.rm : Int)) (hr := (H.rm : Int)) _ 0 r h0 w2
        (fun l' w' => DocS n (fun j => PR19 B R D j ∧ j < w2.heap.size ∨ w2.heap.size + 2 ≤ j) (G.set (G.C.getD i 0) r) (.slice gva gvn gvc) (.slice gfa gfn gfc) l' w')
        (fun F' wa wb q kk => q.keeps kk (fun j _ h z => by rcases h with h | h <;> have := z.1 <;> have := z.2 <;> omega) (fun _ _ h => h))
        (fun w' k' ls => by
          have gg : DocS n (fun j => PR19 B R D j ∧ j < w2.heap.size) G (.slice gva gvn gvc) (.slice gfa gfn gfc) (.slice gla G.C.length glc) w' := d2.g.keeps (Keeps.of (F := fun _ => False) k') (fun _ _ _ h => h) (fun j hj h => ⟨h, hj⟩)
          have C := gg.set sc.1 sc.2.2.1 hn (r := r) hi e8 hno
          refine C.mono ?_
          rintro e w'' ⟨l', rfl, b', q'⟩
          obtain ⟨a', c', rfl⟩ := q'.slices.2.2
          exact ⟨a', _, c', rfl, q'.mono (fun j q => q.elim .inl (fun q => .inr (by omega))), b'⟩)
      refine C.mono ?_
      rintro e w3 ⟨a', n', c', rfl, q3, b3⟩
      refine ⟨Fa, _, Fc, a', n', c', S, G.set (G.C.getD i 0) r, rfl, b3, rfl, s2.below b3, ⟨?_, ?_, d2.h.below b3⟩, p.bg, p.bh, fun j h => by have := l j h; have := k2.size; have := b3.size; omega, z, p.dw⟩
      · exact d2.y.below b3
      · exact q3.mono (fun j q => q.elim (fun q => q.1) (fun q => ⟨(s2.fresh (by omega)).1, fun h => by have := l j h; have := k2.size; omega⟩))
    · refine ⟨30, (p.s.set_gno r h0 hC).mono ?_⟩
      rintro e w1 ⟨_, rfl, rfl, s', t⟩
      have p1 := p.same s' t
      refine ⟨_, rfl, rfl, t, fun w2 k2 => ?_⟩
      have p2 := p1.below k2
      have C := rset19_g (Fa := Fa) (Fn := S.length) (Fc := Fc) (gva := gva) (gvn := gvn) (gvc := gvc) (gfa := gfa) (gfn := gfn) (gfc := gfc) (gla := gla) (gln := G.C.length) (glc := glc) (hva := hva) (hvn := hvn) (hvc := hvc) (hfa := hfa) (hfn := hfn) (hfc := hfc) (hla := hla) (hln := H.C.length) (hlc := hlc) (gr := (G.rm : Int)) (hr := (H.rm : Int)) name 30 r h0 w2
        (fun l' w' => l' = .slice gla G.C.length glc) (fun F' wa wb q kk => q)
        (fun w' k' ls => by
          have C := (p2.below k').d.g.set_no sc.1 sc.2.2.1 hn r hno
          exact C.mono fun e w'' ⟨h1, b'⟩ => ⟨gla, _, glc, h1, rfl, b'⟩)
      refine C.mono ?_
      rintro e w3 ⟨a', n', c', rfl, q3, b3⟩
      injection q3 with q1 q2 q3
      subst q1 q2 q3
      refine ⟨Fa, _, Fc, _, _, _, S, G, rfl, b3, rfl, ?_⟩
      exact p2.below b3
end
end Go.Proofs.YtppmicepkjhfeaaGreat
