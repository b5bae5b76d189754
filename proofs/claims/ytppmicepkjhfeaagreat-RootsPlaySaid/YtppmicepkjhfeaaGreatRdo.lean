/-
  haymowlaw19.slots: Push and Pop at both; the boxes that the law's functions keep.
-/
import Derived.Test.YtppmicepkjhfeaaGreatRpb
namespace Go.Proofs.YtppmicepkjhfeaaGreat
open Go.RowKit
set_option linter.unusedVariables false

abbrev ov19 (k n : Int) (u : Nat) : Value := .agg #[.int .i64 k, .int .i64 n, .int .u64 (u : Int)]
abbrev ox19 (k n : Int) (u : Nat) : Obj := .cells #[.int .i64 k, .int .i64 n, .int .u64 (u : Int)] 42
abbrev V19.box (x : V19) (gr hr : Nat) : Obj := bx19 x.F x.gv x.gf (gr : Int) x.gl x.hv x.hf (hr : Int) x.hl
abbrev dw19 (w : World) (k n : Int) (u : Nat) (x : V19) (gr hr : Nat) : World := ((w.alloc (x.box gr hr)).alloc (ox19 k n u)).alloc zx19
def D319 (D : Nat → Prop) (b j : Nat) : Prop := D j ∨ (b ≤ j ∧ j < b + 3)
structure DX19 (b : Nat) (k n : Int) (u : Nat) (x : V19) (gr hr : Nat) (w : World) : Prop where
  s : Row w b 11 (d11 x.F x.gv x.gf (gr : Int) x.gl x.hv x.hf (hr : Int) x.hl)
  o : Row w (b + 1) 3 (o3d k n u)
  z : Row w (b + 1 + 1) 11 z11
theorem dx19_new (w : World) (k n : Int) (u : Nat) (x : V19) (gr hr : Nat) : DX19 w.heap.size k n u x gr hr (dw19 w k n u x gr hr) ∧ Below w.heap.size w (dw19 w k n u x gr hr) ∧ (dw19 w k n u x gr hr).heap.size = w.heap.size + 3 :=
  ⟨⟨((bx19_row w x.F x.gv x.gf (gr : Int) x.gl x.hv x.hf (hr : Int) x.hl).alloc _).alloc _, (Row.newAt _ _ _ (w.heap.size + 1) 3 _ (by simp) (o3d_new k n u)).alloc _, zx19_row _ (w.heap.size + 1 + 1) (by simp)⟩, bAlloc (bAlloc (bAlloc (Below.refl _ _) _) _) _, by simp⟩
section
variable {W0 : World} {D : Nat → Prop} {R R' : Nat → Nat} {B : BK} {n gr hr b u : Nat} {S S' T : List (List Nat)} {xs : List Nat} {G G' H H' : HS} {x x' : V19} {w w' w1 w2 w3 : World} {k m : Int}
theorem DX19.below (h : DX19 b k m u x gr hr w) (kb : Below w.heap.size w w') : DX19 b k m u x gr hr w' := ⟨h.s.below kb, h.o.below kb, h.z.below kb⟩
/-- what a function of the law tells -/
def DoR19 (W0 : World) (D : Nat → Prop) (R : Nat → Nat) (B : BK) (n : Nat) (w : World) (e : Ending) (w' : World) : Prop :=
  ∃ (R' : Nat → Nat) (S' : List (List Nat)) (G' H' : HS) (x' : V19), e = .returned (.tuple #[x'.val G'.rm H'.rm, .bool true]) ∧ P19 W0 D R' B (n + 1) S' G' H' x' w' ∧ TR (rr B R) (rr B R') w w'
theorem P19.enter (p : P19 W0 D R B n S G H x w) (k m : Int) (u : Nat) : ∃ w1, w1 = dw19 w k m u x G.rm H.rm ∧ DX19 w.heap.size k m u x G.rm H.rm w1 ∧ P19 W0 (D319 D w.heap.size) R B n S G H x w1 ∧ Below w.heap.size w w1 := by
  obtain ⟨h1, h2, h3⟩ := dx19_new w k m u x G.rm H.rm
  exact ⟨_, rfl, h1, p.grow h2 (fun j h => h.elim .inl (fun q => .inr q.1)) (fun j h => h.elim (fun q => by have := p.dl j q; omega) (fun q => by omega)), h2⟩
theorem P19.boxes (p : P19 W0 (D319 D b) R B n S G H x w) {j : Nat} (h1 : b ≤ j) (h2 : j < b + 3) : rr B R j = 0 := p.dz j (.inr ⟨h1, h2⟩)
theorem P19.out (p : P19 W0 (D319 D b) R B n S G H x w) : P19 W0 D R B n S G H x w := p.less (fun j h => .inl h)
theorem P19.put (p : P19 W0 (D319 D b) R B n S G H x w) {q : Nat} (k : Keeps (fun j => j = q) w w') (h1 : b ≤ q) (h2 : q < b + 3) : P19 W0 (D319 D b) R B n S G H x w' := p.aside k (fun j e => .inr (by subst e; exact ⟨h1, h2⟩))
theorem DX19.tr (h : DX19 b k m u x gr hr w) (p : P19 W0 (D319 D b) R B n S G H x' w) (t : TR (rr B R) (rr B R') w w') : DX19 b k m u x gr hr w' :=
  ⟨h.s.tr t (p.boxes (Nat.le_refl _) (by omega)), h.o.tr t (p.boxes (by omega) (by omega)), h.z.tr t (p.boxes (by omega) (by omega))⟩
/-- the answer is laid in its box -/
theorem P19.fin (p : P19 W0 (D319 D w.heap.size) R' B (n + 1) S G H x w2) (t : TR (rr B R) (rr B R') w w2) (k : Keeps (fun j => j = w.heap.size + 1 + 1) w2 w3) : DoR19 W0 D R B n w (.returned (.tuple #[x.val G.rm H.rm, .bool true])) w3 :=
  ⟨R', S, G, H, x, rfl, (p.put k (by omega) (by omega)).out, t.own11 (q := w.heap.size + 1 + 1) (by omega) k⟩
set_option maxRecDepth 100000 in
set_option maxHeartbeats 4000000 in
theorem slots_no1 (m : Int) (u : Nat) (hm : m < 0) (h9 : n < 400) (p : P19 W0 D R B n S G H x w) :
    Calls Tryz.prog 21 #[at0 B.rb, x.val G.rm H.rm, ov19 0 m u] w (DoR19 W0 D R B n w) := by
  obtain ⟨⟨Fa, Fc, e1⟩, ⟨gva, gvn, gvc, e2⟩, ⟨gfa, gfn, gfc, e3⟩, ⟨gla, glc, e4⟩, ⟨hva, hvn, hvc, e5⟩, ⟨hfa, hfn, hfc, e6⟩, ⟨hla, hlc, e7⟩⟩ := p.slices
  obtain ⟨xF, xgv, xgf, xgl, xhv, xhf, xhl⟩ := x
  dsimp only at e1 e2 e3 e4 e5 e6 e7
  subst e1 e2 e3 e4 e5 e6 e7
  obtain ⟨w1, hw1, X1, p1, B1⟩ := p.enter 0 m u
  have PN := Lib.hid (fun w' (k : Below w1.heap.size w1 w') => (p1.s.below k).push_no (k := m) (by omega))
  go_enter Tryz.func21, Tryz.ntmps21
  go_upto_region 1 with fail
  replace hw1 : w1 = ((w.alloc (.cells #[.slice Fa S.length Fc, .int .i64 3, .slice gva gvn gvc, .slice gfa gfn gfc, .int .i64 (G.rm : Int), .slice gla G.C.length glc, .int .i64 3, .slice hva hvn hvc, .slice hfa hfn hfc, .int .i64 (H.rm : Int), .slice hla H.C.length hlc] 36)).alloc (.cells #[.int .i64 0, .int .i64 m, .int .u64 (u : Int)] 42)).alloc (.cells #[.slice none 0 0, .int .i64 0, .slice none 0 0, .slice none 0 0, .int .i64 0, .slice none 0 0, .int .i64 0, .slice none 0 0, .slice none 0 0, .int .i64 0, .slice none 0 0] 36) := hw1
  rw [← hw1]
  clear hw1
  obtain ⟨c0, _, _, _⟩ := p1.s.cells
  obtain ⟨o0, o1, o2, ol⟩ := o3d_all X1.o
  have KS := Lib.hid (show ∀ W, Below w1.heap.size w1 W → W.cell? ⟨B.rb, 0, none⟩ = some (at0 B.fb) ∧ W.cell? ⟨w.heap.size + 1, 1, none⟩ = some (.int .i64 m) from fun W k => ⟨(p1.s.below k).cells.1, (o3d_all (X1.below k).o).2.1⟩)
  go_upto_region 2 with fail
  have BB0 : Below w1.heap.size w1 w1 := Below.refl _ _
  go_region_held3 (fun W => W.cell? ⟨B.rb, 0, none⟩ = some (at0 B.fb) ∧ W.cell? ⟨w.heap.size + 1, 1, none⟩ = some (.int .i64 m))
    (first
      | (refine KS.out _ ?_
         · repeat (first | with_reducible assumption | with_reducible refine Below.drew ?_)
         done)
      | (go_keep; done))
    (first
      | (go_at_call 14; with_reducible refine (PN.out _ ?_).mono ?_
         · repeat (first | with_reducible assumption | with_reducible refine Below.drew ?_)
         rintro e w2 ⟨rfl, rfl⟩))
  all_goals
    obtain ⟨w2, hw2⟩ : ∃ w2, w2 = w1.drew := ⟨_, rfl⟩
    have B2 : Below w1.heap.size w1 w2 := by rw [hw2]; exact (Below.refl _ _).drew
    first | rw [← hw2] | skip
    clear hw2 KS PN BB0 c0 o0 o1 o2 ol
    have p2 := (p1.below B2).up h9
    have X2 := X1.below B2
    have TT := Lib.hid (show TR (rr B R) (rr B R) w w2 from TR.of (B1.trans (B2.mono B1.size)))
    obtain ⟨q0, q1, q2, q3, q4, q5, q6, q7, q8, q9, q10, qf, ql⟩ := c11_all X2.s
    obtain ⟨o0, o1, o2, ol⟩ := o3d_all X2.o
    obtain ⟨z0, z1, z2, z3, z4, z5, z6, z7, z8, z9, z10, zf, zl⟩ := c11_all X2.z
    obtain ⟨y0, y1, y2, y3, y4, y5, y6, y7, y8, y9, y10, yf, yl⟩ := c11_all (X2.z.put11 (.slice Fa S.length Fc) (.int .i64 3) (.slice gva gvn gvc) (.slice gfa gfn gfc) (.int .i64 (G.rm : Int)) (.slice gla G.C.length glc) (.int .i64 3) (.slice hva hvn hvc) (.slice hfa hfn hfc) (.int .i64 (H.rm : Int)) (.slice hla H.C.length hlc))
    have FIN := Lib.hid (p2.fin TT.out (keeps11 w2 (w.heap.size + 1 + 1) (.slice Fa S.length Fc) (.int .i64 3) (.slice gva gvn gvc) (.slice gfa gfn gfc) (.int .i64 (G.rm : Int)) (.slice gla G.C.length glc) (.int .i64 3) (.slice hva hvn hvc) (.slice hfa hfn hfc) (.int .i64 (H.rm : Int)) (.slice hla H.C.length hlc)))
    clear p2 X2 X1 p1 p B1 B2
    go_wp2_with fail
    exact bodyPost_ret (v := .tuple #[dv19 (.slice Fa S.length Fc) (.slice gva gvn gvc) (.slice gfa gfn gfc) (G.rm : Int) (.slice gla G.C.length glc) (.slice hva hvn hvc) (.slice hfa hfn hfc) (H.rm : Int) (.slice hla H.C.length hlc), .bool true]) (by simp [results, Tryz.results21, go_sem, y0, y1, y2, y3, y4, y5, y6, y7, y8, y9, y10]) rfl FIN.out
set_option maxRecDepth 100000 in
set_option maxHeartbeats 4000000 in
theorem slots_no2 (m : Int) (u : Nat) (hm0 : ¬ m < 0) (hm : 256 < m) (h9 : n < 400) (p : P19 W0 D R B n S G H x w) :
    Calls Tryz.prog 21 #[at0 B.rb, x.val G.rm H.rm, ov19 0 m u] w (DoR19 W0 D R B n w) := by
  obtain ⟨⟨Fa, Fc, e1⟩, ⟨gva, gvn, gvc, e2⟩, ⟨gfa, gfn, gfc, e3⟩, ⟨gla, glc, e4⟩, ⟨hva, hvn, hvc, e5⟩, ⟨hfa, hfn, hfc, e6⟩, ⟨hla, hlc, e7⟩⟩ := p.slices
  obtain ⟨xF, xgv, xgf, xgl, xhv, xhf, xhl⟩ := x
  dsimp only at e1 e2 e3 e4 e5 e6 e7
  subst e1 e2 e3 e4 e5 e6 e7
  obtain ⟨w1, hw1, X1, p1, B1⟩ := p.enter 0 m u
  have PN := Lib.hid (fun w' (k : Below w1.heap.size w1 w') => (p1.s.below k).push_no (k := m) (by omega))
  go_enter Tryz.func21, Tryz.ntmps21
  go_upto_region 1 with fail
  replace hw1 : w1 = ((w.alloc (.cells #[.slice Fa S.length Fc, .int .i64 3, .slice gva gvn gvc, .slice gfa gfn gfc, .int .i64 (G.rm : Int), .slice gla G.C.length glc, .int .i64 3, .slice hva hvn hvc, .slice hfa hfn hfc, .int .i64 (H.rm : Int), .slice hla H.C.length hlc] 36)).alloc (.cells #[.int .i64 0, .int .i64 m, .int .u64 (u : Int)] 42)).alloc (.cells #[.slice none 0 0, .int .i64 0, .slice none 0 0, .slice none 0 0, .int .i64 0, .slice none 0 0, .int .i64 0, .slice none 0 0, .slice none 0 0, .int .i64 0, .slice none 0 0] 36) := hw1
  rw [← hw1]
  clear hw1
  obtain ⟨c0, _, _, _⟩ := p1.s.cells
  obtain ⟨o0, o1, o2, ol⟩ := o3d_all X1.o
  have KS := Lib.hid (show ∀ W, Below w1.heap.size w1 W → W.cell? ⟨B.rb, 0, none⟩ = some (at0 B.fb) ∧ W.cell? ⟨w.heap.size + 1, 1, none⟩ = some (.int .i64 m) from fun W k => ⟨(p1.s.below k).cells.1, (o3d_all (X1.below k).o).2.1⟩)
  go_upto_region 2 with fail
  have BB0 : Below w1.heap.size w1 w1 := Below.refl _ _
  go_region_held3 (fun W => W.cell? ⟨B.rb, 0, none⟩ = some (at0 B.fb) ∧ W.cell? ⟨w.heap.size + 1, 1, none⟩ = some (.int .i64 m))
    (first
      | (refine KS.out _ ?_
         · repeat (first | with_reducible assumption | with_reducible refine Below.drew ?_)
         done)
      | (go_keep; done))
    (first
      | (go_at_call 14; with_reducible refine (PN.out _ ?_).mono ?_
         · repeat (first | with_reducible assumption | with_reducible refine Below.drew ?_)
         rintro e w2 ⟨rfl, rfl⟩))
  all_goals
    obtain ⟨w2, hw2⟩ : ∃ w2, w2 = w1.drew := ⟨_, rfl⟩
    have B2 : Below w1.heap.size w1 w2 := by rw [hw2]; exact (Below.refl _ _).drew
    first | rw [← hw2] | skip
    clear hw2 KS PN BB0 c0 o0 o1 o2 ol
    have p2 := (p1.below B2).up h9
    have X2 := X1.below B2
    have TT := Lib.hid (show TR (rr B R) (rr B R) w w2 from TR.of (B1.trans (B2.mono B1.size)))
    obtain ⟨q0, q1, q2, q3, q4, q5, q6, q7, q8, q9, q10, qf, ql⟩ := c11_all X2.s
    obtain ⟨o0, o1, o2, ol⟩ := o3d_all X2.o
    obtain ⟨z0, z1, z2, z3, z4, z5, z6, z7, z8, z9, z10, zf, zl⟩ := c11_all X2.z
    obtain ⟨y0, y1, y2, y3, y4, y5, y6, y7, y8, y9, y10, yf, yl⟩ := c11_all (X2.z.put11 (.slice Fa S.length Fc) (.int .i64 3) (.slice gva gvn gvc) (.slice gfa gfn gfc) (.int .i64 (G.rm : Int)) (.slice gla G.C.length glc) (.int .i64 3) (.slice hva hvn hvc) (.slice hfa hfn hfc) (.int .i64 (H.rm : Int)) (.slice hla H.C.length hlc))
    have FIN := Lib.hid (p2.fin TT.out (keeps11 w2 (w.heap.size + 1 + 1) (.slice Fa S.length Fc) (.int .i64 3) (.slice gva gvn gvc) (.slice gfa gfn gfc) (.int .i64 (G.rm : Int)) (.slice gla G.C.length glc) (.int .i64 3) (.slice hva hvn hvc) (.slice hfa hfn hfc) (.int .i64 (H.rm : Int)) (.slice hla H.C.length hlc)))
    clear p2 X2 X1 p1 p B1 B2
    go_wp2_with fail
    exact bodyPost_ret (v := .tuple #[dv19 (.slice Fa S.length Fc) (.slice gva gvn gvc) (.slice gfa gfn gfc) (G.rm : Int) (.slice gla G.C.length glc) (.slice hva hvn hvc) (.slice hfa hfn hfc) (H.rm : Int) (.slice hla H.C.length hlc), .bool true]) (by simp [results, Tryz.results21, go_sem, y0, y1, y2, y3, y4, y5, y6, y7, y8, y9, y10]) rfl FIN.out
set_option maxRecDepth 100000 in
set_option maxHeartbeats 4000000 in
theorem slots_push (k : Nat) (u : Nat) (hk : k ≤ 256) (h9 : n < 400) (p : P19 W0 D R B n S G H x w) :
    Calls Tryz.prog 21 #[at0 B.rb, x.val G.rm H.rm, ov19 0 (k : Int) u] w (DoR19 W0 D R B n w) := by
  have k1 : ¬ (k : Int) < 0 := by omega
  have k2 : ¬ (256 : Int) < (k : Int) := by omega
  obtain ⟨⟨Fa, Fc, e1⟩, ⟨gva, gvn, gvc, e2⟩, ⟨gfa, gfn, gfc, e3⟩, ⟨gla, glc, e4⟩, ⟨hva, hvn, hvc, e5⟩, ⟨hfa, hfn, hfc, e6⟩, ⟨hla, hlc, e7⟩⟩ := p.slices
  obtain ⟨xF, xgv, xgf, xgl, xhv, xhf, xhl⟩ := x
  dsimp only at e1 e2 e3 e4 e5 e6 e7
  subst e1 e2 e3 e4 e5 e6 e7
  obtain ⟨w1, hw1, X1, p1, B1⟩ := p.enter 0 (k : Int) u
  have PN := Lib.hid (fun w' (kb : Below w1.heap.size w1 w') => (p1.below kb).push h9 hk)
  go_enter Tryz.func21, Tryz.ntmps21
  go_upto_region 1 with fail
  replace hw1 : w1 = ((w.alloc (.cells #[.slice Fa S.length Fc, .int .i64 3, .slice gva gvn gvc, .slice gfa gfn gfc, .int .i64 (G.rm : Int), .slice gla G.C.length glc, .int .i64 3, .slice hva hvn hvc, .slice hfa hfn hfc, .int .i64 (H.rm : Int), .slice hla H.C.length hlc] 36)).alloc (.cells #[.int .i64 0, .int .i64 (k : Int), .int .u64 (u : Int)] 42)).alloc (.cells #[.slice none 0 0, .int .i64 0, .slice none 0 0, .slice none 0 0, .int .i64 0, .slice none 0 0, .int .i64 0, .slice none 0 0, .slice none 0 0, .int .i64 0, .slice none 0 0] 36) := hw1
  rw [← hw1]
  clear hw1
  obtain ⟨c0, _, _, _⟩ := p1.s.cells
  obtain ⟨o0, o1, o2, ol⟩ := o3d_all X1.o
  have KS := Lib.hid (show ∀ W, Below w1.heap.size w1 W → W.cell? ⟨B.rb, 0, none⟩ = some (at0 B.fb) ∧ W.cell? ⟨w.heap.size + 1, 1, none⟩ = some (.int .i64 (k : Int)) from fun W k => ⟨(p1.s.below k).cells.1, (o3d_all (X1.below k).o).2.1⟩)
  have P1 := Lib.hid p1
  have X1h := Lib.hid X1
  have B1h := Lib.hid B1
  go_upto_region 2 with fail
  have BB0 : Below w1.heap.size w1 w1 := Below.refl _ _
  clear p p1 X1 B1
  go_region_held3 (fun W => W.cell? ⟨B.rb, 0, none⟩ = some (at0 B.fb) ∧ W.cell? ⟨w.heap.size + 1, 1, none⟩ = some (.int .i64 (k : Int)))
    (first
      | (refine KS.out _ ?_
         · repeat (first | with_reducible assumption | with_reducible refine Below.drew ?_)
         done)
      | (go_keep; done))
    (first
      | (go_at_call 14; with_reducible refine (PN.out _ ?_).mono ?_
         · repeat (first | with_reducible assumption | with_reducible refine Below.drew ?_)
         rintro e w2 ⟨R', rfl, t2, d0, RD⟩
         have TT2 : TR (rr B R) (rr B R') w1 w2 := TR.trans (TR.of (by repeat (first | with_reducible assumption | with_reducible refine Below.drew ?_))) t2
         have X2 := X1h.out.tr P1.out TT2
         obtain ⟨d1, d2, d3, dl⟩ := o3d_all X2.o))
  all_goals
    have T2 := Lib.hid ((TR.of (R := rr B R) B1h.out).trans TT2)
    have RDh := Lib.hid (RD w2 (Below.refl _ _))
    clear KS PN BB0 c0 o0 o1 o2 ol t2 RD TT2 d0
    obtain ⟨q0, q1, q2, q3, q4, q5, q6, q7, q8, q9, q10, qf, ql⟩ := c11_all X2.s
    go_wp2_with fail
    refine RDh.out.mono ?_
    rintro e w3 ⟨Fa', Fn', Fc', rfl, b3, p3⟩
    dsimp only
    have X3 := X2.below b3
    have TT := Lib.hid (T2.out.below' b3)
    clear q0 q1 q2 q3 q4 q5 q6 q7 q8 q9 q10 qf ql
    clear X2 d1 d2 d3 dl RDh T2 b3 P1 X1h B1h
    obtain ⟨z0, z1, z2, z3, z4, z5, z6, z7, z8, z9, z10, zf, zl⟩ := c11_all X3.z
    obtain ⟨y0, y1, y2, y3, y4, y5, y6, y7, y8, y9, y10, yf, yl⟩ := c11_all (X3.z.put11 (.slice Fa' Fn' Fc') (.int .i64 3) (.slice gva gvn gvc) (.slice gfa gfn gfc) (.int .i64 (G.rm : Int)) (.slice gla G.C.length glc) (.int .i64 3) (.slice hva hvn hvc) (.slice hfa hfn hfc) (.int .i64 (H.rm : Int)) (.slice hla H.C.length hlc))
    have FIN := Lib.hid (p3.fin TT.out (keeps11 w3 (w.heap.size + 1 + 1) (.slice Fa' Fn' Fc') (.int .i64 3) (.slice gva gvn gvc) (.slice gfa gfn gfc) (.int .i64 (G.rm : Int)) (.slice gla G.C.length glc) (.int .i64 3) (.slice hva hvn hvc) (.slice hfa hfn hfc) (.int .i64 (H.rm : Int)) (.slice hla H.C.length hlc)))
    clear p3 X3
    go_wp2_with fail
    exact bodyPost_ret (v := .tuple #[dv19 (.slice Fa' Fn' Fc') (.slice gva gvn gvc) (.slice gfa gfn gfc) (G.rm : Int) (.slice gla G.C.length glc) (.slice hva hvn hvc) (.slice hfa hfn hfc) (H.rm : Int) (.slice hla H.C.length hlc), .bool true]) (by simp [results, Tryz.results21, go_sem, y0, y1, y2, y3, y4, y5, y6, y7, y8, y9, y10]) rfl FIN.out
set_option maxRecDepth 100000 in
set_option maxHeartbeats 4000000 in
theorem slots_nil (kd m : Int) (u : Nat) (hk : ¬ kd = 0) (h9 : n < 400) (p : P19 W0 D R B n [] G H x w) :
    Calls Tryz.prog 21 #[at0 B.rb, x.val G.rm H.rm, ov19 kd m u] w (DoR19 W0 D R B n w) := by
  have hk2 : (kd == 0) = false := by simpa using hk
  obtain ⟨⟨Fa, Fc, e1⟩, ⟨gva, gvn, gvc, e2⟩, ⟨gfa, gfn, gfc, e3⟩, ⟨gla, glc, e4⟩, ⟨hva, hvn, hvc, e5⟩, ⟨hfa, hfn, hfc, e6⟩, ⟨hla, hlc, e7⟩⟩ := p.slices
  obtain ⟨xF, xgv, xgf, xgl, xhv, xhf, xhl⟩ := x
  dsimp only at e1 e2 e3 e4 e5 e6 e7
  subst e1 e2 e3 e4 e5 e6 e7
  obtain ⟨w1, hw1, X1, p1, B1⟩ := p.enter kd m u
  have PN := Lib.hid p1.s.pop_no
  have e0 : ([] : List (List Nat)).length = 0 := rfl
  go_enter Tryz.func21, Tryz.ntmps21
  go_upto_region 1 with fail
  replace hw1 : w1 = ((w.alloc (.cells #[.slice Fa 0 Fc, .int .i64 3, .slice gva gvn gvc, .slice gfa gfn gfc, .int .i64 (G.rm : Int), .slice gla G.C.length glc, .int .i64 3, .slice hva hvn hvc, .slice hfa hfn hfc, .int .i64 (H.rm : Int), .slice hla H.C.length hlc] 36)).alloc (.cells #[.int .i64 kd, .int .i64 m, .int .u64 (u : Int)] 42)).alloc (.cells #[.slice none 0 0, .int .i64 0, .slice none 0 0, .slice none 0 0, .int .i64 0, .slice none 0 0, .int .i64 0, .slice none 0 0, .slice none 0 0, .int .i64 0, .slice none 0 0] 36) := hw1
  rw [← hw1]
  clear hw1
  obtain ⟨c0, _, _, _⟩ := p1.s.cells
  obtain ⟨o0, o1, o2, ol⟩ := o3d_all X1.o
  obtain ⟨q0, q1, q2, q3, q4, q5, q6, q7, q8, q9, q10, qf, ql⟩ := c11_all X1.s
  obtain ⟨z0, z1, z2, z3, z4, z5, z6, z7, z8, z9, z10, zf, zl⟩ := c11_all X1.z
  go_wp2_with fail
  with_reducible refine PN.out.mono ?_
  rintro e w2 ⟨rfl, rfl⟩
  dsimp only
  have TT := Lib.hid (show TR (rr B R) (rr B R) w w1 from TR.of B1)
  have p2 := p1.up h9
  obtain ⟨y0, y1, y2, y3, y4, y5, y6, y7, y8, y9, y10, yf, yl⟩ := c11_all (X1.z.put11 (.slice Fa 0 Fc) (.int .i64 3) (.slice gva gvn gvc) (.slice gfa gfn gfc) (.int .i64 (G.rm : Int)) (.slice gla G.C.length glc) (.int .i64 3) (.slice hva hvn hvc) (.slice hfa hfn hfc) (.int .i64 (H.rm : Int)) (.slice hla H.C.length hlc))
  have FIN := Lib.hid (p2.fin TT.out (keeps11 w1 (w.heap.size + 1 + 1) (.slice Fa 0 Fc) (.int .i64 3) (.slice gva gvn gvc) (.slice gfa gfn gfc) (.int .i64 (G.rm : Int)) (.slice gla G.C.length glc) (.int .i64 3) (.slice hva hvn hvc) (.slice hfa hfn hfc) (.int .i64 (H.rm : Int)) (.slice hla H.C.length hlc)))
  clear p2 X1 p1 p B1 PN
  go_wp2_with fail
  exact bodyPost_ret (v := .tuple #[dv19 (.slice Fa 0 Fc) (.slice gva gvn gvc) (.slice gfa gfn gfc) (G.rm : Int) (.slice gla G.C.length glc) (.slice hva hvn hvc) (.slice hfa hfn hfc) (H.rm : Int) (.slice hla H.C.length hlc), .bool true]) (by simp [results, Tryz.results21, go_sem, y0, y1, y2, y3, y4, y5, y6, y7, y8, y9, y10]) rfl FIN.out
set_option maxRecDepth 100000 in
set_option maxHeartbeats 4000000 in
theorem slots_pop (kd m : Int) (u : Nat) (hk : ¬ kd = 0) (h9 : n < 400) (hS : S = xs :: T) (p : P19 W0 D R B n S G H x w) :
    Calls Tryz.prog 21 #[at0 B.rb, x.val G.rm H.rm, ov19 kd m u] w (DoR19 W0 D R B n w) := by
  have hk2 : (kd == 0) = false := by simpa using hk
  have hl : S.length = T.length + 1 := by rw [hS, List.length_cons]
  have lT : T.length ≤ 10000000 := by have := p.sc.2.2.2.2.1; omega
  obtain ⟨nl, el, m1, m2, m3, m4, m5, m6, m7, m8⟩ := last_nums (n := T.length) lT
  obtain rfl : nl = S.length := by omega
  obtain ⟨⟨Fa, Fc, e1⟩, ⟨gva, gvn, gvc, e2⟩, ⟨gfa, gfn, gfc, e3⟩, ⟨gla, glc, e4⟩, ⟨hva, hvn, hvc, e5⟩, ⟨hfa, hfn, hfc, e6⟩, ⟨hla, hlc, e7⟩⟩ := p.slices
  obtain ⟨xF, xgv, xgf, xgl, xhv, xhf, xhl⟩ := x
  dsimp only at e1 e2 e3 e4 e5 e6 e7
  subst e1 e2 e3 e4 e5 e6 e7
  obtain ⟨w1, hw1, X1, p1, B1⟩ := p.enter kd m u
  have PN := Lib.hid (show Calls Tryz.prog 47 #[at0 B.fb] w1 fun e w2 => e = .returned (.int .i64 0) ∧ TR (rr B R) (rr B R) w1 w2 ∧ P19 W0 (D319 D w.heap.size) R B n T G H ⟨.slice Fa T.length Fc, .slice gva gvn gvc, .slice gfa gfn gfc, .slice gla G.C.length glc, .slice hva hvn hvc, .slice hfa hfn hfc, .slice hla H.C.length hlc⟩ w2 from by
    have q : P19 W0 (D319 D w.heap.size) R B n (xs :: T) G H _ w1 := hS ▸ p1
    refine q.pop.mono ?_
    rintro e w2 ⟨rfl, t, h⟩
    exact ⟨rfl, t, h Fa Fc rfl⟩)
  have hcap : S.length ≤ Fc := by
    obtain ⟨a', c', U, e, h, _⟩ := p1.d.y
    injection e with e1 e2 e3
    rw [List.length_reverse] at h
    omega
  have s1 := fun w => slice_to17 Fa S.length Fc T.length (by omega) w
  have s2 := fun w => slice_to17' Fa S.length Fc T.length (by omega) w
  have P1 := Lib.hid p1
  clear hS hl lT el hcap
  go_enter Tryz.func21, Tryz.ntmps21
  go_upto_region 1 with fail
  replace hw1 : w1 = ((w.alloc (.cells #[.slice Fa S.length Fc, .int .i64 3, .slice gva gvn gvc, .slice gfa gfn gfc, .int .i64 (G.rm : Int), .slice gla G.C.length glc, .int .i64 3, .slice hva hvn hvc, .slice hfa hfn hfc, .int .i64 (H.rm : Int), .slice hla H.C.length hlc] 36)).alloc (.cells #[.int .i64 kd, .int .i64 m, .int .u64 (u : Int)] 42)).alloc (.cells #[.slice none 0 0, .int .i64 0, .slice none 0 0, .slice none 0 0, .int .i64 0, .slice none 0 0, .int .i64 0, .slice none 0 0, .slice none 0 0, .int .i64 0, .slice none 0 0] 36) := hw1
  rw [← hw1]
  clear hw1
  obtain ⟨c0, _, _, _⟩ := p1.s.cells
  obtain ⟨o0, o1, o2, ol⟩ := o3d_all X1.o
  obtain ⟨q0, q1, q2, q3, q4, q5, q6, q7, q8, q9, q10, qf, ql⟩ := c11_all X1.s
  go_wp2_with fail
  with_reducible refine PN.out.mono ?_
  rintro e w2 ⟨rfl, t2, p2⟩
  dsimp only
  have X2 := X1.tr P1.out t2
  have T2 := (TR.of (R := rr B R) B1).trans t2
  clear q0 q1 q2 q3 q4 q5 q6 q7 q8 q9 q10 qf ql
  clear c0 o0 o1 o2 ol X1 B1 p1 p P1 PN t2
  obtain ⟨q0, q1, q2, q3, q4, q5, q6, q7, q8, q9, q10, qf, ql⟩ := c11_all X2.s
  have k3 := keeps11F w2 w.heap.size (.slice Fa T.length Fc)
  have p3 := p2.put k3 (Nat.le_refl _) (by omega)
  have S3 := X2.s.put11F (.slice Fa T.length Fc)
  have Z3 := X2.z.keeps k3 (by omega)
  have TT3 := T2.own11 (q := w.heap.size) (Nat.le_refl _) k3
  clear p2 X2 T2 k3
  generalize hnT : T.length = nt at *
  go_upto_region 10 with fail
  generalize w2.setCell ⟨w.heap.size, 0, none⟩ (.slice Fa nt Fc) = w3 at *
  clear q0 q1 q2 q3 q4 q5 q6 q7 q8 q9 q10 qf ql
  obtain ⟨q0, q1, q2, q3, q4, q5, q6, q7, q8, q9, q10, qf, ql⟩ := c11_all S3
  obtain ⟨z0, z1, z2, z3, z4, z5, z6, z7, z8, z9, z10, zf, zl⟩ := c11_all Z3
  have TT := Lib.hid TT3
  have p4 := p3.up h9
  obtain ⟨y0, y1, y2, y3, y4, y5, y6, y7, y8, y9, y10, yf, yl⟩ := c11_all (Z3.put11 (.slice Fa nt Fc) (.int .i64 3) (.slice gva gvn gvc) (.slice gfa gfn gfc) (.int .i64 (G.rm : Int)) (.slice gla G.C.length glc) (.int .i64 3) (.slice hva hvn hvc) (.slice hfa hfn hfc) (.int .i64 (H.rm : Int)) (.slice hla H.C.length hlc))
  have FIN := Lib.hid (p4.fin TT.out (keeps11 w3 (w.heap.size + 1 + 1) (.slice Fa nt Fc) (.int .i64 3) (.slice gva gvn gvc) (.slice gfa gfn gfc) (.int .i64 (G.rm : Int)) (.slice gla G.C.length glc) (.int .i64 3) (.slice hva hvn hvc) (.slice hfa hfn hfc) (.int .i64 (H.rm : Int)) (.slice hla H.C.length hlc)))
  clear p3 p4 S3 Z3 TT3
  go_wp2_with fail
  exact bodyPost_ret (v := .tuple #[dv19 (.slice Fa nt Fc) (.slice gva gvn gvc) (.slice gfa gfn gfc) (G.rm : Int) (.slice gla G.C.length glc) (.slice hva hvn hvc) (.slice hfa hfn hfc) (H.rm : Int) (.slice hla H.C.length hlc), .bool true]) (by simp [results, Tryz.results21, go_sem, y0, y1, y2, y3, y4, y5, y6, y7, y8, y9, y10]) rfl FIN.out
end
end Go.Proofs.YtppmicepkjhfeaaGreat
