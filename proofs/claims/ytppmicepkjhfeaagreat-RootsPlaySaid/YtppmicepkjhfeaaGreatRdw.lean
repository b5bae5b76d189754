/-
  haymowlaw19.weak: AddWeak, DropWeak, Weak at both.
-/
import Derived.Test.YtppmicepkjhfeaaGreatRdo
namespace Go.Proofs.YtppmicepkjhfeaaGreat
open Go.RowKit
set_option linter.unusedVariables false

section
variable {W0 : World} {D : Nat → Prop} {R R' : Nat → Nat} {B : BK} {n : Nat} {S S' T : List (List Nat)} {xs : List Nat} {G G' H H' : HS} {x x' : V19} {w w' w1 w2 w3 : World}
theorem docs_blk {P : Nat → Prop} {s : HS} {v f : Value} {g off ln lc : Nat} (d : DocS n P s v f (.slice (some ⟨g, off, none⟩) ln lc) w) : P g := by
  obtain ⟨L, Fr, m, st, q⟩ := d
  rcases q with ⟨e, _⟩ | ⟨g', c', e, _, _, hB, _⟩
  · cases e
  · injection e with e1 e2 e3
    injection e1 with e1
    injection e1 with e1
    subst e1
    exact hB
theorem keeps_cell {W W' : World} {q j i : Nat} {y : Value} (K : Keeps (fun j => j = q) W W') (hj : j ≠ q) (h : W.cell? ⟨j, i, none⟩ = some y) : W'.cell? ⟨j, i, none⟩ = some y := (World.cell?_of_block (w := W) (K.block j (World.block_lt_of_cell? W _ h) hj)).trans h
theorem kdrew {F : Nat → Prop} {W W' : World} (K : Keeps F W W') : Keeps F W W'.drew := K.trans (Keeps.of (F := F) (Below.refl W'.heap.size W').drew) (fun _ _ q => q)
theorem nb19 (b : Nat) : ¬ b = b + 1 + 1 := by omega
theorem nneg19 (k : Nat) : ¬ (k : Int) < 0 := by omega
theorem xeq19 (x : Nat) : ((x : Int) == (x : Int)) = true := by simp
set_option maxRecDepth 100000 in
set_option maxHeartbeats 4000000 in
theorem weak_add (m : Int) (u : Nat) (hu : u < 18446744073709551616) (h9 : n < 400) (p : P19 W0 D R B n S G H x w) :
    Calls Tryz.prog 25 #[at0 B.rb, x.val G.rm H.rm, ov19 4 m u] w (DoR19 W0 D R B n w) := by
  obtain ⟨⟨Fa, Fc, e1⟩, ⟨gva, gvn, gvc, e2⟩, ⟨gfa, gfn, gfc, e3⟩, ⟨gla, glc, e4⟩, ⟨hva, hvn, hvc, e5⟩, ⟨hfa, hfn, hfc, e6⟩, ⟨hla, hlc, e7⟩⟩ := p.slices
  obtain ⟨xF, xgv, xgf, xgl, xhv, xhf, xhl⟩ := x
  dsimp only at e1 e2 e3 e4 e5 e6 e7
  subst e1 e2 e3 e4 e5 e6 e7
  obtain ⟨w1, hw1, X1, p1, B1⟩ := p.enter 4 m u
  obtain ⟨tk, rm', AD0⟩ := p1.addw h9 hu
  dsimp only at AD0
  have AD := Lib.hid AD0
  clear AD0
  go_enter Tryz.func25, Tryz.ntmps25
  go_upto_region 1 with fail
  replace hw1 : w1 = ((w.alloc (.cells #[.slice Fa S.length Fc, .int .i64 3, .slice gva gvn gvc, .slice gfa gfn gfc, .int .i64 (G.rm : Int), .slice gla G.C.length glc, .int .i64 3, .slice hva hvn hvc, .slice hfa hfn hfc, .int .i64 (H.rm : Int), .slice hla H.C.length hlc] 36)).alloc (.cells #[.int .i64 4, .int .i64 m, .int .u64 (u : Int)] 42)).alloc (.cells #[.slice none 0 0, .int .i64 0, .slice none 0 0, .slice none 0 0, .int .i64 0, .slice none 0 0, .int .i64 0, .slice none 0 0, .slice none 0 0, .int .i64 0, .slice none 0 0] 36) := hw1
  rw [← hw1]
  clear hw1
  have P1 := Lib.hid p1
  obtain ⟨o0, o1, o2, ol⟩ := o3d_all X1.o
  clear p p1
  go_upto_region 5 with (go_at_call 52; refine AD.out.mono ?_; rintro e w2 ⟨_, _, rfl, rfl, rfl, R', t2, RD⟩)
  have X2 := X1.tr P1.out t2
  have T2 := (TR.of (R := rr B R) B1).trans t2
  clear AD o0 o1 o2 ol X1 B1 P1 t2
  obtain ⟨q0, q1, q2, q3, q4, q5, q6, q7, q8, q9, q10, qf, ql⟩ := c11_all X2.s
  obtain ⟨o0, o1, o2, ol⟩ := o3d_all X2.o
  have RDh := Lib.hid (RD w2 (Below.refl _ _))
  clear RD
  go_upto_region 6 with (go_at_call 22; refine RDh.out.mono ?_; rintro e w3 ⟨va, vn, vc, fa, fn, fc, la, ln, lc, H', rfl, b3, hrm, p3⟩; have X3 := X2.below b3; obtain ⟨v0, v1, v2, v3, v4, v5, v6, v7, v8, v9, v10, vf, vl⟩ := c11_all X3.s)
  have T3 := T2.below' b3
  have k4 := keeps11H w3 w.heap.size (.int .i64 3) (.slice va vn vc) (.slice fa fn fc) (.int .i64 (rm' : Int)) (.slice la ln lc)
  have p4 := p3.put k4 (Nat.le_refl _) (by omega)
  have S4 := X3.s.put11H (.int .i64 3) (.slice va vn vc) (.slice fa fn fc) (.int .i64 (rm' : Int)) (.slice la ln lc)
  have Z4 := X3.z.keeps k4 (by omega)
  have TT := Lib.hid (T3.own11 (q := w.heap.size) (Nat.le_refl _) k4)
  clear q0 q1 q2 q3 q4 q5 q6 q7 q8 q9 q10 qf ql
  clear v0 v1 v2 v3 v4 v5 v6 v7 v8 v9 v10 vf vl
  clear o0 o1 o2 ol X2 T2 RDh b3 p3 X3 T3 k4
  generalize ((((w3.setCell ⟨w.heap.size, 6, none⟩ (.int .i64 3)).setCell ⟨w.heap.size, 7, none⟩ (.slice va vn vc)).setCell ⟨w.heap.size, 8, none⟩ (.slice fa fn fc)).setCell ⟨w.heap.size, 9, none⟩ (.int .i64 (rm' : Int))).setCell ⟨w.heap.size, 10, none⟩ (.slice la ln lc) = w4 at *
  obtain ⟨q0, q1, q2, q3, q4, q5, q6, q7, q8, q9, q10, qf, ql⟩ := c11_all S4
  obtain ⟨z0, z1, z2, z3, z4, z5, z6, z7, z8, z9, z10, zf, zl⟩ := c11_all Z4
  obtain ⟨y0, y1, y2, y3, y4, y5, y6, y7, y8, y9, y10, yf, yl⟩ := c11_all (Z4.put11 (.slice Fa S.length Fc) (.int .i64 3) (.slice gva gvn gvc) (.slice gfa gfn gfc) (.int .i64 (G.rm : Int)) (.slice gla G.C.length glc) (.int .i64 3) (.slice va vn vc) (.slice fa fn fc) (.int .i64 (rm' : Int)) (.slice la ln lc))
  have FIN0 := p4.fin TT.out (keeps11 w4 (w.heap.size + 1 + 1) (.slice Fa S.length Fc) (.int .i64 3) (.slice gva gvn gvc) (.slice gfa gfn gfc) (.int .i64 (G.rm : Int)) (.slice gla G.C.length glc) (.int .i64 3) (.slice va vn vc) (.slice fa fn fc) (.int .i64 (rm' : Int)) (.slice la ln lc))
  rw [hrm] at FIN0
  have FIN := Lib.hid FIN0
  clear FIN0
  have cc := xeq19 tk
  clear p4 S4 Z4
  go_wp2_with fail
  exact bodyPost_ret (v := .tuple #[dv19 (.slice Fa S.length Fc) (.slice gva gvn gvc) (.slice gfa gfn gfc) (G.rm : Int) (.slice gla G.C.length glc) (.slice va vn vc) (.slice fa fn fc) (rm' : Int) (.slice la ln lc), .bool true]) (by simp [results, Tryz.results25, go_sem, y0, y1, y2, y3, y4, y5, y6, y7, y8, y9, y10]) rfl FIN.out
set_option maxRecDepth 100000 in
set_option maxHeartbeats 4000000 in
theorem weak_drop (m : Int) (u : Nat) (h9 : n < 400) (p : P19 W0 D R B n S G H x w) :
    Calls Tryz.prog 25 #[at0 B.rb, x.val G.rm H.rm, ov19 5 m u] w (DoR19 W0 D R B n w) := by
  obtain ⟨⟨Fa, Fc, e1⟩, ⟨gva, gvn, gvc, e2⟩, ⟨gfa, gfn, gfc, e3⟩, ⟨gla, glc, e4⟩, ⟨hva, hvn, hvc, e5⟩, ⟨hfa, hfn, hfc, e6⟩, ⟨hla, hlc, e7⟩⟩ := p.slices
  obtain ⟨xF, xgv, xgf, xgl, xhv, xhf, xhl⟩ := x
  dsimp only at e1 e2 e3 e4 e5 e6 e7
  subst e1 e2 e3 e4 e5 e6 e7
  obtain ⟨w1, hw1, X1, p1, B1⟩ := p.enter 5 m u
  obtain ⟨cd, AD0⟩ := p1.dropw h9 m
  dsimp only at AD0
  have AD := Lib.hid AD0
  clear AD0
  go_enter Tryz.func25, Tryz.ntmps25
  go_upto_region 1 with fail
  replace hw1 : w1 = ((w.alloc (.cells #[.slice Fa S.length Fc, .int .i64 3, .slice gva gvn gvc, .slice gfa gfn gfc, .int .i64 (G.rm : Int), .slice gla G.C.length glc, .int .i64 3, .slice hva hvn hvc, .slice hfa hfn hfc, .int .i64 (H.rm : Int), .slice hla H.C.length hlc] 36)).alloc (.cells #[.int .i64 5, .int .i64 m, .int .u64 (u : Int)] 42)).alloc (.cells #[.slice none 0 0, .int .i64 0, .slice none 0 0, .slice none 0 0, .int .i64 0, .slice none 0 0, .int .i64 0, .slice none 0 0, .slice none 0 0, .int .i64 0, .slice none 0 0] 36) := hw1
  rw [← hw1]
  clear hw1
  have P1 := Lib.hid p1
  obtain ⟨o0, o1, o2, ol⟩ := o3d_all X1.o
  clear p p1
  go_upto_region 9 with (go_at_call 53; refine AD.out.mono ?_; rintro e w2 ⟨d, rfl, hd, t2, RD⟩; subst hd)
  have X2 := X1.tr P1.out t2
  have T2 := (TR.of (R := rr B R) B1).trans t2
  clear AD o0 o1 o2 ol X1 B1 P1 t2
  obtain ⟨q0, q1, q2, q3, q4, q5, q6, q7, q8, q9, q10, qf, ql⟩ := c11_all X2.s
  obtain ⟨o0, o1, o2, ol⟩ := o3d_all X2.o
  have RDh := Lib.hid (RD w2 (Below.refl _ _))
  clear RD
  go_upto_region 10 with (go_at_call 24; refine RDh.out.mono ?_; rintro e w3 ⟨va, vn, vc, fa, fn, fc, la, ln, lc, H', rfl, b3, hrm, p3⟩; have X3 := X2.below b3; obtain ⟨v0, v1, v2, v3, v4, v5, v6, v7, v8, v9, v10, vf, vl⟩ := c11_all X3.s)
  have T3 := T2.below' b3
  have k4 := keeps11H w3 w.heap.size (.int .i64 3) (.slice va vn vc) (.slice fa fn fc) (.int .i64 (H.rm : Int)) (.slice la ln lc)
  have p4 := p3.put k4 (Nat.le_refl _) (by omega)
  have S4 := X3.s.put11H (.int .i64 3) (.slice va vn vc) (.slice fa fn fc) (.int .i64 (H.rm : Int)) (.slice la ln lc)
  have Z4 := X3.z.keeps k4 (by omega)
  have TT := Lib.hid (T3.own11 (q := w.heap.size) (Nat.le_refl _) k4)
  clear q0 q1 q2 q3 q4 q5 q6 q7 q8 q9 q10 qf ql
  clear v0 v1 v2 v3 v4 v5 v6 v7 v8 v9 v10 vf vl
  clear o0 o1 o2 ol X2 T2 RDh b3 p3 X3 T3 k4
  generalize ((((w3.setCell ⟨w.heap.size, 6, none⟩ (.int .i64 3)).setCell ⟨w.heap.size, 7, none⟩ (.slice va vn vc)).setCell ⟨w.heap.size, 8, none⟩ (.slice fa fn fc)).setCell ⟨w.heap.size, 9, none⟩ (.int .i64 (H.rm : Int))).setCell ⟨w.heap.size, 10, none⟩ (.slice la ln lc) = w4 at *
  obtain ⟨q0, q1, q2, q3, q4, q5, q6, q7, q8, q9, q10, qf, ql⟩ := c11_all S4
  obtain ⟨z0, z1, z2, z3, z4, z5, z6, z7, z8, z9, z10, zf, zl⟩ := c11_all Z4
  obtain ⟨y0, y1, y2, y3, y4, y5, y6, y7, y8, y9, y10, yf, yl⟩ := c11_all (Z4.put11 (.slice Fa S.length Fc) (.int .i64 3) (.slice gva gvn gvc) (.slice gfa gfn gfc) (.int .i64 (G.rm : Int)) (.slice gla G.C.length glc) (.int .i64 3) (.slice va vn vc) (.slice fa fn fc) (.int .i64 (H.rm : Int)) (.slice la ln lc))
  have FIN0 := p4.fin TT.out (keeps11 w4 (w.heap.size + 1 + 1) (.slice Fa S.length Fc) (.int .i64 3) (.slice gva gvn gvc) (.slice gfa gfn gfc) (.int .i64 (G.rm : Int)) (.slice gla G.C.length glc) (.int .i64 3) (.slice va vn vc) (.slice fa fn fc) (.int .i64 (H.rm : Int)) (.slice la ln lc))
  rw [hrm] at FIN0
  have FIN := Lib.hid FIN0
  clear FIN0
  have cc := (show (d == d) = true by simp)
  clear p4 S4 Z4
  go_wp2_with fail
  exact bodyPost_ret (v := .tuple #[dv19 (.slice Fa S.length Fc) (.slice gva gvn gvc) (.slice gfa gfn gfc) (G.rm : Int) (.slice gla G.C.length glc) (.slice va vn vc) (.slice fa fn fc) (H.rm : Int) (.slice la ln lc), .bool true]) (by simp [results, Tryz.results25, go_sem, y0, y1, y2, y3, y4, y5, y6, y7, y8, y9, y10]) rfl FIN.out
set_option maxRecDepth 100000 in
set_option maxHeartbeats 8000000 in
theorem weak_get (kd m : Int) (u : Nat) (h4 : ¬ kd = 4) (h5 : ¬ kd = 5) (h9 : n < 400) (p : P19 W0 D R B n S G H x w) :
    Calls Tryz.prog 25 #[at0 B.rb, x.val G.rm H.rm, ov19 kd m u] w (DoR19 W0 D R B n w) := by
  have h42 : (kd == 4) = false := by simpa using h4
  have h52 : (kd == 5) = false := by simpa using h5
  obtain ⟨⟨Fa, Fc, e1⟩, ⟨gva, gvn, gvc, e2⟩, ⟨gfa, gfn, gfc, e3⟩, ⟨gla, glc, e4⟩, ⟨hva, hvn, hvc, e5⟩, ⟨hfa, hfn, hfc, e6⟩, ⟨hla, hlc, e7⟩⟩ := p.slices
  obtain ⟨xF, xgv, xgf, xgl, xhv, xhf, xhl⟩ := x
  dsimp only at e1 e2 e3 e4 e5 e6 e7
  subst e1 e2 e3 e4 e5 e6 e7
  obtain ⟨w1, hw1, X1, p1, B1⟩ := p.enter kd m u
  obtain ⟨y, cd, AD0⟩ := p1.weak h9 m
  dsimp only at AD0
  have AD := Lib.hid AD0
  have lH := p1.sc.2.2.2.2.2.2.2
  clear AD0
  go_enter Tryz.func25, Tryz.ntmps25
  go_upto_region 1 with fail
  replace hw1 : w1 = ((w.alloc (.cells #[.slice Fa S.length Fc, .int .i64 3, .slice gva gvn gvc, .slice gfa gfn gfc, .int .i64 (G.rm : Int), .slice gla G.C.length glc, .int .i64 3, .slice hva hvn hvc, .slice hfa hfn hfc, .int .i64 (H.rm : Int), .slice hla H.C.length hlc] 36)).alloc (.cells #[.int .i64 kd, .int .i64 m, .int .u64 (u : Int)] 42)).alloc (.cells #[.slice none 0 0, .int .i64 0, .slice none 0 0, .slice none 0 0, .int .i64 0, .slice none 0 0, .int .i64 0, .slice none 0 0, .slice none 0 0, .int .i64 0, .slice none 0 0] 36) := hw1
  rw [← hw1]
  clear hw1
  have P1 := Lib.hid p1
  obtain ⟨o0, o1, o2, ol⟩ := o3d_all X1.o
  clear p p1
  go_upto_region 12 with (go_at_call 54; refine AD.out.mono ?_; rintro e w2 ⟨_, _, rfl, rfl, rfl, t2, p2, RD⟩)
  have X2 := X1.tr P1.out t2
  have T2 := (TR.of (R := rr B R) B1).trans t2
  clear AD o0 o1 o2 ol X1 B1 P1 t2
  obtain ⟨q0, q1, q2, q3, q4, q5, q6, q7, q8, q9, q10, qf, ql⟩ := c11_all X2.s
  obtain ⟨o0, o1, o2, ol⟩ := o3d_all X2.o
  have RDh := Lib.hid (RD w2 (Below.refl _ _))
  clear RD
  go_upto_region 13 with (go_at_call 50; refine RDh.out.mono ?_; rintro e w3 ⟨i, rfl, b3, hi⟩)
  have X3 := X2.below b3
  have p3 := (p2.below b3).up h9
  have TT := Lib.hid (T2.below' b3)
  have PQ := p3.d.h.pq
  clear q0 q1 q2 q3 q4 q5 q6 q7 q8 q9 q10 qf ql
  clear o0 o1 o2 ol X2 T2 RDh b3 p2
  obtain ⟨q0, q1, q2, q3, q4, q5, q6, q7, q8, q9, q10, qf, ql⟩ := c11_all X3.s
  obtain ⟨z0, z1, z2, z3, z4, z5, z6, z7, z8, z9, z10, zf, zl⟩ := c11_all X3.z
  rcases hi with ⟨rfl, rfl, rfl⟩ | ⟨k, rfl, hk, hy, rfl⟩
  · skip
    obtain ⟨y0, y1, y2, y3, y4, y5, y6, y7, y8, y9, y10, yf, yl⟩ := c11_all (X3.z.put11 (.slice Fa S.length Fc) (.int .i64 3) (.slice gva gvn gvc) (.slice gfa gfn gfc) (.int .i64 (G.rm : Int)) (.slice gla G.C.length glc) (.int .i64 3) (.slice hva hvn hvc) (.slice hfa hfn hfc) (.int .i64 (H.rm : Int)) (.slice hla H.C.length hlc))
    have FIN0 := p3.fin TT.out (keeps11 w3 (w.heap.size + 1 + 1) (.slice Fa S.length Fc) (.int .i64 3) (.slice gva gvn gvc) (.slice gfa gfn gfc) (.int .i64 (G.rm : Int)) (.slice gla G.C.length glc) (.int .i64 3) (.slice hva hvn hvc) (.slice hfa hfn hfc) (.int .i64 (H.rm : Int)) (.slice hla H.C.length hlc))
    have FIN := Lib.hid FIN0
    clear FIN0
    clear p3 X3 PQ
    go_wp2_with fail
    exact bodyPost_ret (v := .tuple #[dv19 (.slice Fa S.length Fc) (.slice gva gvn gvc) (.slice gfa gfn gfc) (G.rm : Int) (.slice gla G.C.length glc) (.slice hva hvn hvc) (.slice hfa hfn hfc) (H.rm : Int) (.slice hla H.C.length hlc), .bool true]) (by simp [results, Tryz.results25, go_sem, y0, y1, y2, y3, y4, y5, y6, y7, y8, y9, y10]) rfl FIN.out
  · obtain ⟨g, off, rfl, hg, c0, c1⟩ := PQ18.at (k := k) PQ (by rw [HS.list_len]; exact hk)
    rw [← hy] at c1
    replace c1 : w3.cell? ⟨g, off + k * 2 + 1, none⟩ = some (.int .u64 (y : Int)) := c1
    obtain ⟨e0, e1, e2, e3, e4, e5⟩ := up18 hk (by omega)
    have kn := nneg19 k
    have cc := xeq19 y
    obtain ⟨y0, y1, y2, y3, y4, y5, y6, y7, y8, y9, y10, yf, yl⟩ := c11_all (Row.drew (X3.z.put11 (.slice Fa S.length Fc) (.int .i64 3) (.slice gva gvn gvc) (.slice gfa gfn gfc) (.int .i64 (G.rm : Int)) (.slice gla G.C.length glc) (.int .i64 3) (.slice hva hvn hvc) (.slice hfa hfn hfc) (.int .i64 (H.rm : Int)) (.slice (some ⟨g, off, none⟩) H.C.length hlc)))
    have FIN0 := p3.fin TT.out (kdrew (keeps11 w3 (w.heap.size + 1 + 1) (.slice Fa S.length Fc) (.int .i64 3) (.slice gva gvn gvc) (.slice gfa gfn gfc) (.int .i64 (G.rm : Int)) (.slice gla G.C.length glc) (.int .i64 3) (.slice hva hvn hvc) (.slice hfa hfn hfc) (.int .i64 (H.rm : Int)) (.slice (some ⟨g, off, none⟩) H.C.length hlc)))
    have FIN := Lib.hid FIN0
    clear FIN0
    have X3h := Lib.hid X3
    have lb := X3.z.lt
    have lg : g < w3.heap.size := World.block_lt_of_cell? w3 _ c1
    have nb : g ≠ w.heap.size + 1 + 1 := fun e => (docs_blk p3.d.h).2 (.inr (by rw [e]; omega))
    have KS := Lib.hid (show ∀ W, Below w3.heap.size w3 W → W.cell? ⟨w.heap.size, 0, none⟩ = some (.slice Fa S.length Fc) ∧ W.cell? ⟨w.heap.size, 1, none⟩ = some (.int .i64 3) ∧ W.cell? ⟨w.heap.size, 2, none⟩ = some (.slice gva gvn gvc) ∧ W.cell? ⟨w.heap.size, 3, none⟩ = some (.slice gfa gfn gfc) ∧ W.cell? ⟨w.heap.size, 4, none⟩ = some (.int .i64 (G.rm : Int)) ∧ W.cell? ⟨w.heap.size, 5, none⟩ = some (.slice gla G.C.length glc) ∧ W.cell? ⟨w.heap.size, 6, none⟩ = some (.int .i64 3) ∧ W.cell? ⟨w.heap.size, 7, none⟩ = some (.slice hva hvn hvc) ∧ W.cell? ⟨w.heap.size, 8, none⟩ = some (.slice hfa hfn hfc) ∧ W.cell? ⟨w.heap.size, 9, none⟩ = some (.int .i64 (H.rm : Int)) ∧ W.cell? ⟨w.heap.size, 10, none⟩ = some (.slice (some ⟨g, off, none⟩) H.C.length hlc) ∧ W.cell? ⟨g, off + k * 2 + 1, none⟩ = some (.int .u64 (y : Int)) from fun W k' => by
      obtain ⟨v0, v1, v2, v3, v4, v5, v6, v7, v8, v9, v10, vf, vl⟩ := c11_all (X3h.out.below k').s
      exact ⟨v0, v1, v2, v3, v4, v5, v6, v7, v8, v9, v10, (k'.cell (p := ⟨g, off + k * 2 + 1, none⟩) lg).trans c1⟩)
    have KS2 := Lib.hid (show ∀ W z0 z1 z2 z3 z4 z5 z6 z7 z8 z9 z10, Below w3.heap.size w3 W → (fun V' => V'.cell? ⟨w.heap.size, 0, none⟩ = some (.slice Fa S.length Fc) ∧ V'.cell? ⟨w.heap.size, 1, none⟩ = some (.int .i64 3) ∧ V'.cell? ⟨w.heap.size, 2, none⟩ = some (.slice gva gvn gvc) ∧ V'.cell? ⟨w.heap.size, 3, none⟩ = some (.slice gfa gfn gfc) ∧ V'.cell? ⟨w.heap.size, 4, none⟩ = some (.int .i64 (G.rm : Int)) ∧ V'.cell? ⟨w.heap.size, 5, none⟩ = some (.slice gla G.C.length glc) ∧ V'.cell? ⟨w.heap.size, 6, none⟩ = some (.int .i64 3) ∧ V'.cell? ⟨w.heap.size, 7, none⟩ = some (.slice hva hvn hvc) ∧ V'.cell? ⟨w.heap.size, 8, none⟩ = some (.slice hfa hfn hfc) ∧ V'.cell? ⟨w.heap.size, 9, none⟩ = some (.int .i64 (H.rm : Int)) ∧ V'.cell? ⟨w.heap.size, 10, none⟩ = some (.slice (some ⟨g, off, none⟩) H.C.length hlc) ∧ V'.cell? ⟨g, off + k * 2 + 1, none⟩ = some (.int .u64 (y : Int))) (((((((((((W.setCell ⟨(w.heap.size + 1 + 1), 0, none⟩ z0).setCell ⟨(w.heap.size + 1 + 1), 1, none⟩ z1).setCell ⟨(w.heap.size + 1 + 1), 2, none⟩ z2).setCell ⟨(w.heap.size + 1 + 1), 3, none⟩ z3).setCell ⟨(w.heap.size + 1 + 1), 4, none⟩ z4).setCell ⟨(w.heap.size + 1 + 1), 5, none⟩ z5).setCell ⟨(w.heap.size + 1 + 1), 6, none⟩ z6).setCell ⟨(w.heap.size + 1 + 1), 7, none⟩ z7).setCell ⟨(w.heap.size + 1 + 1), 8, none⟩ z8).setCell ⟨(w.heap.size + 1 + 1), 9, none⟩ z9).setCell ⟨(w.heap.size + 1 + 1), 10, none⟩ z10) from fun W z0 z1 z2 z3 z4 z5 z6 z7 z8 z9 z10 k' => by
      have K := keeps11 W (w.heap.size + 1 + 1) z0 z1 z2 z3 z4 z5 z6 z7 z8 z9 z10
      obtain ⟨v0, v1, v2, v3, v4, v5, v6, v7, v8, v9, v10, vf, vl⟩ := c11_all ((X3h.out.below k').s.keeps K (nb19 _))
      exact ⟨v0, v1, v2, v3, v4, v5, v6, v7, v8, v9, v10, keeps_cell K nb ((k'.cell (p := ⟨g, off + k * 2 + 1, none⟩) lg).trans c1)⟩)
    have KS3 := Lib.hid (show ∀ W z0 z1 z2 z3 z4 z5 z6 z7 z8 z9 z10, Below w3.heap.size w3 W → (fun V' => V'.cell? ⟨w.heap.size, 0, none⟩ = some (.slice Fa S.length Fc) ∧ V'.cell? ⟨w.heap.size, 1, none⟩ = some (.int .i64 3) ∧ V'.cell? ⟨w.heap.size, 2, none⟩ = some (.slice gva gvn gvc) ∧ V'.cell? ⟨w.heap.size, 3, none⟩ = some (.slice gfa gfn gfc) ∧ V'.cell? ⟨w.heap.size, 4, none⟩ = some (.int .i64 (G.rm : Int)) ∧ V'.cell? ⟨w.heap.size, 5, none⟩ = some (.slice gla G.C.length glc) ∧ V'.cell? ⟨w.heap.size, 6, none⟩ = some (.int .i64 3) ∧ V'.cell? ⟨w.heap.size, 7, none⟩ = some (.slice hva hvn hvc) ∧ V'.cell? ⟨w.heap.size, 8, none⟩ = some (.slice hfa hfn hfc) ∧ V'.cell? ⟨w.heap.size, 9, none⟩ = some (.int .i64 (H.rm : Int)) ∧ V'.cell? ⟨w.heap.size, 10, none⟩ = some (.slice (some ⟨g, off, none⟩) H.C.length hlc) ∧ V'.cell? ⟨g, off + k * 2 + 1, none⟩ = some (.int .u64 (y : Int))) (((((((((((W.setCell ⟨(w.heap.size + 1 + 1), 0, none⟩ z0).setCell ⟨(w.heap.size + 1 + 1), 1, none⟩ z1).setCell ⟨(w.heap.size + 1 + 1), 2, none⟩ z2).setCell ⟨(w.heap.size + 1 + 1), 3, none⟩ z3).setCell ⟨(w.heap.size + 1 + 1), 4, none⟩ z4).setCell ⟨(w.heap.size + 1 + 1), 5, none⟩ z5).setCell ⟨(w.heap.size + 1 + 1), 6, none⟩ z6).setCell ⟨(w.heap.size + 1 + 1), 7, none⟩ z7).setCell ⟨(w.heap.size + 1 + 1), 8, none⟩ z8).setCell ⟨(w.heap.size + 1 + 1), 9, none⟩ z9).setCell ⟨(w.heap.size + 1 + 1), 10, none⟩ z10).drew from fun W z0 z1 z2 z3 z4 z5 z6 z7 z8 z9 z10 k' => by
      have h := KS2.out W z0 z1 z2 z3 z4 z5 z6 z7 z8 z9 z10 k'
      simp only [World.cell?_drew]
      exact h)
    clear p3 X3 PQ hy hk lH
    go_upto_region 15 with fail
    have BB0 : Below w3.heap.size w3 w3 := Below.refl _ _
    go_region_held3 (fun W => W.cell? ⟨w.heap.size, 0, none⟩ = some (.slice Fa S.length Fc) ∧ W.cell? ⟨w.heap.size, 1, none⟩ = some (.int .i64 3) ∧ W.cell? ⟨w.heap.size, 2, none⟩ = some (.slice gva gvn gvc) ∧ W.cell? ⟨w.heap.size, 3, none⟩ = some (.slice gfa gfn gfc) ∧ W.cell? ⟨w.heap.size, 4, none⟩ = some (.int .i64 (G.rm : Int)) ∧ W.cell? ⟨w.heap.size, 5, none⟩ = some (.slice gla G.C.length glc) ∧ W.cell? ⟨w.heap.size, 6, none⟩ = some (.int .i64 3) ∧ W.cell? ⟨w.heap.size, 7, none⟩ = some (.slice hva hvn hvc) ∧ W.cell? ⟨w.heap.size, 8, none⟩ = some (.slice hfa hfn hfc) ∧ W.cell? ⟨w.heap.size, 9, none⟩ = some (.int .i64 (H.rm : Int)) ∧ W.cell? ⟨w.heap.size, 10, none⟩ = some (.slice (some ⟨g, off, none⟩) H.C.length hlc) ∧ W.cell? ⟨g, off + k * 2 + 1, none⟩ = some (.int .u64 (y : Int)))
      (first
        | (with_reducible refine KS.out _ ?_
           · repeat (first | with_reducible assumption | with_reducible refine Below.drew ?_)
           done)
        | (with_reducible refine KS2.out _ _ _ _ _ _ _ _ _ _ _ _ ?_
           · repeat (first | with_reducible assumption | with_reducible refine Below.drew ?_)
           done)
        | (with_reducible refine KS3.out _ _ _ _ _ _ _ _ _ _ _ _ ?_
           · repeat (first | with_reducible assumption | with_reducible refine Below.drew ?_)
           done)
        | (go_keep; done))
      (fail)
    all_goals
      go_wp2_with fail
      exact bodyPost_ret (v := .tuple #[dv19 (.slice Fa S.length Fc) (.slice gva gvn gvc) (.slice gfa gfn gfc) (G.rm : Int) (.slice gla G.C.length glc) (.slice hva hvn hvc) (.slice hfa hfn hfc) (H.rm : Int) (.slice (some ⟨g, off, none⟩) H.C.length hlc), .bool true]) (by simp [results, Tryz.results25, go_sem, y0, y1, y2, y3, y4, y5, y6, y7, y8, y9, y10]) rfl FIN.out
end
end Go.Proofs.YtppmicepkjhfeaaGreat
