/-
  haymowlaw19.do: the kinds inline
-/
import Derived.Test.YtppmicepkjhfeaaGreatRdo
import Derived.Test.YtppmicepkjhfeaaGreatRdw
namespace Go.Proofs.YtppmicepkjhfeaaGreat
open Go.RowKit
set_option linter.unusedVariables false

section
variable {W0 : World} {D : Nat → Prop} {R R' : Nat → Nat} {B : BK} {n : Nat} {S S' T : List (List Nat)} {xs : List Nat} {G G' H H' : HS} {x x' : V19} {w w' w1 w2 w3 : World}
set_option maxRecDepth 100000 in
set_option maxHeartbeats 4000000 in
theorem do_add (m : Int) (u : Nat) (h9 : n < 400) (p : P19 W0 D R B n S G H x w) :
    Calls Tryz.prog 7 #[at0 B.rb, x.val G.rm H.rm, ov19 2 m u] w (DoR19 W0 D R B n w) := by
  obtain ⟨⟨Fa, Fc, e1⟩, ⟨gva, gvn, gvc, e2⟩, ⟨gfa, gfn, gfc, e3⟩, ⟨gla, glc, e4⟩, ⟨hva, hvn, hvc, e5⟩, ⟨hfa, hfn, hfc, e6⟩, ⟨hla, hlc, e7⟩⟩ := p.slices
  obtain ⟨xF, xgv, xgf, xgl, xhv, xhf, xhl⟩ := x
  dsimp only at e1 e2 e3 e4 e5 e6 e7
  subst e1 e2 e3 e4 e5 e6 e7
  obtain ⟨w1, hw1, X1, p1, B1⟩ := p.enter 2 m u
  obtain ⟨tk, rm', AD0⟩ := p1.add h9
  dsimp only at AD0
  have AD := Lib.hid AD0
  clear AD0
  go_enter Tryz.func7, Tryz.ntmps7
  go_upto_region 1 with fail
  replace hw1 : w1 = ((w.alloc (.cells #[.slice Fa S.length Fc, .int .i64 3, .slice gva gvn gvc, .slice gfa gfn gfc, .int .i64 (G.rm : Int), .slice gla G.C.length glc, .int .i64 3, .slice hva hvn hvc, .slice hfa hfn hfc, .int .i64 (H.rm : Int), .slice hla H.C.length hlc] 36)).alloc (.cells #[.int .i64 2, .int .i64 m, .int .u64 (u : Int)] 42)).alloc (.cells #[.slice none 0 0, .int .i64 0, .slice none 0 0, .slice none 0 0, .int .i64 0, .slice none 0 0, .int .i64 0, .slice none 0 0, .slice none 0 0, .int .i64 0, .slice none 0 0] 36) := hw1
  rw [← hw1]
  clear hw1
  have P1 := Lib.hid p1
  obtain ⟨o0, o1, o2, ol⟩ := o3d_all X1.o
  clear p p1
  go_upto_region 8 with (go_at_call 15; refine AD.out.mono ?_; rintro e w2 ⟨_, _, rfl, rfl, rfl, R', t2, RD⟩)
  have X2 := X1.tr P1.out t2
  have T2 := (TR.of (R := rr B R) B1).trans t2
  clear AD o0 o1 o2 ol X1 B1 P1 t2
  obtain ⟨q0, q1, q2, q3, q4, q5, q6, q7, q8, q9, q10, qf, ql⟩ := c11_all X2.s
  obtain ⟨o0, o1, o2, ol⟩ := o3d_all X2.o
  have RDh := Lib.hid (RD w2 (Below.refl _ _))
  clear RD
  go_upto_region 9 with (go_at_call 22; refine RDh.out.mono ?_; rintro e w3 ⟨va, vn, vc, fa, fn, fc, la, ln, lc, G', rfl, b3, hrm, p3⟩; have X3 := X2.below b3; obtain ⟨v0, v1, v2, v3, v4, v5, v6, v7, v8, v9, v10, vf, vl⟩ := c11_all X3.s)
  have T3 := T2.below' b3
  have k4 := keeps11G w3 w.heap.size (.int .i64 3) (.slice va vn vc) (.slice fa fn fc) (.int .i64 (rm' : Int)) (.slice la ln lc)
  have p4 := p3.put k4 (Nat.le_refl _) (by omega)
  have S4 := X3.s.put11G (.int .i64 3) (.slice va vn vc) (.slice fa fn fc) (.int .i64 (rm' : Int)) (.slice la ln lc)
  have Z4 := X3.z.keeps k4 (by omega)
  have TT := Lib.hid (T3.own11 (q := w.heap.size) (Nat.le_refl _) k4)
  clear q0 q1 q2 q3 q4 q5 q6 q7 q8 q9 q10 qf ql
  clear v0 v1 v2 v3 v4 v5 v6 v7 v8 v9 v10 vf vl
  clear o0 o1 o2 ol X2 T2 RDh b3 p3 X3 T3 k4
  generalize ((((w3.setCell ⟨w.heap.size, 1, none⟩ (.int .i64 3)).setCell ⟨w.heap.size, 2, none⟩ (.slice va vn vc)).setCell ⟨w.heap.size, 3, none⟩ (.slice fa fn fc)).setCell ⟨w.heap.size, 4, none⟩ (.int .i64 (rm' : Int))).setCell ⟨w.heap.size, 5, none⟩ (.slice la ln lc) = w4 at *
  obtain ⟨q0, q1, q2, q3, q4, q5, q6, q7, q8, q9, q10, qf, ql⟩ := c11_all S4
  obtain ⟨z0, z1, z2, z3, z4, z5, z6, z7, z8, z9, z10, zf, zl⟩ := c11_all Z4
  obtain ⟨y0, y1, y2, y3, y4, y5, y6, y7, y8, y9, y10, yf, yl⟩ := c11_all (Z4.put11 (.slice Fa S.length Fc) (.int .i64 3) (.slice va vn vc) (.slice fa fn fc) (.int .i64 (rm' : Int)) (.slice la ln lc) (.int .i64 3) (.slice hva hvn hvc) (.slice hfa hfn hfc) (.int .i64 (H.rm : Int)) (.slice hla H.C.length hlc))
  have FIN0 := p4.fin TT.out (keeps11 w4 (w.heap.size + 1 + 1) (.slice Fa S.length Fc) (.int .i64 3) (.slice va vn vc) (.slice fa fn fc) (.int .i64 (rm' : Int)) (.slice la ln lc) (.int .i64 3) (.slice hva hvn hvc) (.slice hfa hfn hfc) (.int .i64 (H.rm : Int)) (.slice hla H.C.length hlc))
  rw [hrm] at FIN0
  have FIN := Lib.hid FIN0
  clear FIN0
  have cc := xeq19 tk
  clear p4 S4 Z4
  go_wp2_with fail
  exact bodyPost_ret (v := .tuple #[dv19 (.slice Fa S.length Fc) (.slice va vn vc) (.slice fa fn fc) (rm' : Int) (.slice la ln lc) (.slice hva hvn hvc) (.slice hfa hfn hfc) (H.rm : Int) (.slice hla H.C.length hlc), .bool true]) (by simp [results, Tryz.results7, go_sem, y0, y1, y2, y3, y4, y5, y6, y7, y8, y9, y10]) rfl FIN.out
set_option maxRecDepth 100000 in
set_option maxHeartbeats 4000000 in
theorem do_drop (m : Int) (u : Nat) (h9 : n < 400) (p : P19 W0 D R B n S G H x w) :
    Calls Tryz.prog 7 #[at0 B.rb, x.val G.rm H.rm, ov19 3 m u] w (DoR19 W0 D R B n w) := by
  obtain ⟨⟨Fa, Fc, e1⟩, ⟨gva, gvn, gvc, e2⟩, ⟨gfa, gfn, gfc, e3⟩, ⟨gla, glc, e4⟩, ⟨hva, hvn, hvc, e5⟩, ⟨hfa, hfn, hfc, e6⟩, ⟨hla, hlc, e7⟩⟩ := p.slices
  obtain ⟨xF, xgv, xgf, xgl, xhv, xhf, xhl⟩ := x
  dsimp only at e1 e2 e3 e4 e5 e6 e7
  subst e1 e2 e3 e4 e5 e6 e7
  obtain ⟨w1, hw1, X1, p1, B1⟩ := p.enter 3 m u
  obtain ⟨cd, AD0⟩ := p1.drop h9 m
  dsimp only at AD0
  have AD := Lib.hid AD0
  clear AD0
  go_enter Tryz.func7, Tryz.ntmps7
  go_upto_region 1 with fail
  replace hw1 : w1 = ((w.alloc (.cells #[.slice Fa S.length Fc, .int .i64 3, .slice gva gvn gvc, .slice gfa gfn gfc, .int .i64 (G.rm : Int), .slice gla G.C.length glc, .int .i64 3, .slice hva hvn hvc, .slice hfa hfn hfc, .int .i64 (H.rm : Int), .slice hla H.C.length hlc] 36)).alloc (.cells #[.int .i64 3, .int .i64 m, .int .u64 (u : Int)] 42)).alloc (.cells #[.slice none 0 0, .int .i64 0, .slice none 0 0, .slice none 0 0, .int .i64 0, .slice none 0 0, .int .i64 0, .slice none 0 0, .slice none 0 0, .int .i64 0, .slice none 0 0] 36) := hw1
  rw [← hw1]
  clear hw1
  have P1 := Lib.hid p1
  obtain ⟨o0, o1, o2, ol⟩ := o3d_all X1.o
  clear p p1
  go_upto_region 12 with (go_at_call 23; refine AD.out.mono ?_; rintro e w2 ⟨d, rfl, hd, t2, RD⟩; subst hd)
  have X2 := X1.tr P1.out t2
  have T2 := (TR.of (R := rr B R) B1).trans t2
  clear AD o0 o1 o2 ol X1 B1 P1 t2
  obtain ⟨q0, q1, q2, q3, q4, q5, q6, q7, q8, q9, q10, qf, ql⟩ := c11_all X2.s
  obtain ⟨o0, o1, o2, ol⟩ := o3d_all X2.o
  have RDh := Lib.hid (RD w2 (Below.refl _ _))
  clear RD
  go_upto_region 13 with (go_at_call 24; refine RDh.out.mono ?_; rintro e w3 ⟨va, vn, vc, fa, fn, fc, la, ln, lc, G', rfl, b3, hrm, p3⟩; have X3 := X2.below b3; obtain ⟨v0, v1, v2, v3, v4, v5, v6, v7, v8, v9, v10, vf, vl⟩ := c11_all X3.s)
  have T3 := T2.below' b3
  have k4 := keeps11G w3 w.heap.size (.int .i64 3) (.slice va vn vc) (.slice fa fn fc) (.int .i64 (G.rm : Int)) (.slice la ln lc)
  have p4 := p3.put k4 (Nat.le_refl _) (by omega)
  have S4 := X3.s.put11G (.int .i64 3) (.slice va vn vc) (.slice fa fn fc) (.int .i64 (G.rm : Int)) (.slice la ln lc)
  have Z4 := X3.z.keeps k4 (by omega)
  have TT := Lib.hid (T3.own11 (q := w.heap.size) (Nat.le_refl _) k4)
  clear q0 q1 q2 q3 q4 q5 q6 q7 q8 q9 q10 qf ql
  clear v0 v1 v2 v3 v4 v5 v6 v7 v8 v9 v10 vf vl
  clear o0 o1 o2 ol X2 T2 RDh b3 p3 X3 T3 k4
  generalize ((((w3.setCell ⟨w.heap.size, 1, none⟩ (.int .i64 3)).setCell ⟨w.heap.size, 2, none⟩ (.slice va vn vc)).setCell ⟨w.heap.size, 3, none⟩ (.slice fa fn fc)).setCell ⟨w.heap.size, 4, none⟩ (.int .i64 (G.rm : Int))).setCell ⟨w.heap.size, 5, none⟩ (.slice la ln lc) = w4 at *
  obtain ⟨q0, q1, q2, q3, q4, q5, q6, q7, q8, q9, q10, qf, ql⟩ := c11_all S4
  obtain ⟨z0, z1, z2, z3, z4, z5, z6, z7, z8, z9, z10, zf, zl⟩ := c11_all Z4
  obtain ⟨y0, y1, y2, y3, y4, y5, y6, y7, y8, y9, y10, yf, yl⟩ := c11_all (Z4.put11 (.slice Fa S.length Fc) (.int .i64 3) (.slice va vn vc) (.slice fa fn fc) (.int .i64 (G.rm : Int)) (.slice la ln lc) (.int .i64 3) (.slice hva hvn hvc) (.slice hfa hfn hfc) (.int .i64 (H.rm : Int)) (.slice hla H.C.length hlc))
  have FIN0 := p4.fin TT.out (keeps11 w4 (w.heap.size + 1 + 1) (.slice Fa S.length Fc) (.int .i64 3) (.slice va vn vc) (.slice fa fn fc) (.int .i64 (G.rm : Int)) (.slice la ln lc) (.int .i64 3) (.slice hva hvn hvc) (.slice hfa hfn hfc) (.int .i64 (H.rm : Int)) (.slice hla H.C.length hlc))
  rw [hrm] at FIN0
  have FIN := Lib.hid FIN0
  clear FIN0
  have cc := (show (d == d) = true by simp)
  clear p4 S4 Z4
  go_wp2_with fail
  exact bodyPost_ret (v := .tuple #[dv19 (.slice Fa S.length Fc) (.slice va vn vc) (.slice fa fn fc) (G.rm : Int) (.slice la ln lc) (.slice hva hvn hvc) (.slice hfa hfn hfc) (H.rm : Int) (.slice hla H.C.length hlc), .bool true]) (by simp [results, Tryz.results7, go_sem, y0, y1, y2, y3, y4, y5, y6, y7, y8, y9, y10]) rfl FIN.out
set_option maxRecDepth 100000 in
set_option maxHeartbeats 4000000 in
theorem do_set (m : Int) (u : Nat) (hm : -9223372036854775808 ≤ m) (hu : u < 18446744073709551616) (h9 : n < 400) (p : P19 W0 D R B n S G H x w) :
    Calls Tryz.prog 7 #[at0 B.rb, x.val G.rm H.rm, ov19 7 m u] w (DoR19 W0 D R B n w) := by
  obtain ⟨⟨Fa, Fc, e1⟩, ⟨gva, gvn, gvc, e2⟩, ⟨gfa, gfn, gfc, e3⟩, ⟨gla, glc, e4⟩, ⟨hva, hvn, hvc, e5⟩, ⟨hfa, hfn, hfc, e6⟩, ⟨hla, hlc, e7⟩⟩ := p.slices
  obtain ⟨xF, xgv, xgf, xgl, xhv, xhf, xhl⟩ := x
  dsimp only at e1 e2 e3 e4 e5 e6 e7
  subst e1 e2 e3 e4 e5 e6 e7
  obtain ⟨w1, hw1, X1, p1, B1⟩ := p.enter 7 m u
  obtain ⟨cd, AD0⟩ := p1.set h9 m hm hu
  unfold V19.val at AD0
  dsimp only at AD0
  have AD := Lib.hid AD0
  clear AD0
  go_enter Tryz.func7, Tryz.ntmps7
  go_upto_region 1 with fail
  replace hw1 : w1 = ((w.alloc (.cells #[.slice Fa S.length Fc, .int .i64 3, .slice gva gvn gvc, .slice gfa gfn gfc, .int .i64 (G.rm : Int), .slice gla G.C.length glc, .int .i64 3, .slice hva hvn hvc, .slice hfa hfn hfc, .int .i64 (H.rm : Int), .slice hla H.C.length hlc] 36)).alloc (.cells #[.int .i64 7, .int .i64 m, .int .u64 (u : Int)] 42)).alloc (.cells #[.slice none 0 0, .int .i64 0, .slice none 0 0, .slice none 0 0, .int .i64 0, .slice none 0 0, .int .i64 0, .slice none 0 0, .slice none 0 0, .int .i64 0, .slice none 0 0] 36) := hw1
  rw [← hw1]
  clear hw1
  have P1 := Lib.hid p1
  obtain ⟨o0, o1, o2, ol⟩ := o3d_all X1.o
  clear p p1
  go_upto_region 20 with (go_at_call 16; refine AD.out.mono ?_; rintro e w2 ⟨d, rfl, hd, t2, RD⟩; subst hd)
  have X2 := X1.tr P1.out t2
  have T2 := (TR.of (R := rr B R) B1).trans t2
  clear AD o0 o1 o2 ol X1 B1 P1 t2
  obtain ⟨q0, q1, q2, q3, q4, q5, q6, q7, q8, q9, q10, qf, ql⟩ := c11_all X2.s
  obtain ⟨o0, o1, o2, ol⟩ := o3d_all X2.o
  have RDh := Lib.hid (RD w2 (Below.refl _ _))
  clear RD
  go_upto_region 21 with (go_at_call 26; with_reducible refine RDh.out.mono ?_; rintro e w3 ⟨Fa', Fn', Fc', la, ln, lc, S', G', rfl, b3, hrm, p3⟩; have X3 := X2.below b3; obtain ⟨v0, v1, v2, v3, v4, v5, v6, v7, v8, v9, v10, vf, vl⟩ := c11_all X3.s)
  have T3 := T2.below' b3
  have k4 := keeps11 w3 w.heap.size (.slice Fa' Fn' Fc') (.int .i64 3) (.slice gva gvn gvc) (.slice gfa gfn gfc) (.int .i64 (G.rm : Int)) (.slice la ln lc) (.int .i64 3) (.slice hva hvn hvc) (.slice hfa hfn hfc) (.int .i64 (H.rm : Int)) (.slice hla H.C.length hlc)
  have p4 := (p3.up h9).put k4 (Nat.le_refl _) (by omega)
  have S4 := X3.s.put11 (.slice Fa' Fn' Fc') (.int .i64 3) (.slice gva gvn gvc) (.slice gfa gfn gfc) (.int .i64 (G.rm : Int)) (.slice la ln lc) (.int .i64 3) (.slice hva hvn hvc) (.slice hfa hfn hfc) (.int .i64 (H.rm : Int)) (.slice hla H.C.length hlc)
  have Z4 := X3.z.keeps k4 (by omega)
  have TT := Lib.hid (T3.own11 (q := w.heap.size) (Nat.le_refl _) k4)
  clear q0 q1 q2 q3 q4 q5 q6 q7 q8 q9 q10 qf ql
  clear v0 v1 v2 v3 v4 v5 v6 v7 v8 v9 v10 vf vl
  clear o0 o1 o2 ol X2 T2 RDh b3 p3 X3 T3 k4
  generalize ((((((((((w3.setCell ⟨w.heap.size, 0, none⟩ (.slice Fa' Fn' Fc')).setCell ⟨w.heap.size, 1, none⟩ (.int .i64 3)).setCell ⟨w.heap.size, 2, none⟩ (.slice gva gvn gvc)).setCell ⟨w.heap.size, 3, none⟩ (.slice gfa gfn gfc)).setCell ⟨w.heap.size, 4, none⟩ (.int .i64 (G.rm : Int))).setCell ⟨w.heap.size, 5, none⟩ (.slice la ln lc)).setCell ⟨w.heap.size, 6, none⟩ (.int .i64 3)).setCell ⟨w.heap.size, 7, none⟩ (.slice hva hvn hvc)).setCell ⟨w.heap.size, 8, none⟩ (.slice hfa hfn hfc)).setCell ⟨w.heap.size, 9, none⟩ (.int .i64 (H.rm : Int))).setCell ⟨w.heap.size, 10, none⟩ (.slice hla H.C.length hlc) = w4 at *
  obtain ⟨q0, q1, q2, q3, q4, q5, q6, q7, q8, q9, q10, qf, ql⟩ := c11_all S4
  obtain ⟨z0, z1, z2, z3, z4, z5, z6, z7, z8, z9, z10, zf, zl⟩ := c11_all Z4
  obtain ⟨y0, y1, y2, y3, y4, y5, y6, y7, y8, y9, y10, yf, yl⟩ := c11_all (Z4.put11 (.slice Fa' Fn' Fc') (.int .i64 3) (.slice gva gvn gvc) (.slice gfa gfn gfc) (.int .i64 (G.rm : Int)) (.slice la ln lc) (.int .i64 3) (.slice hva hvn hvc) (.slice hfa hfn hfc) (.int .i64 (H.rm : Int)) (.slice hla H.C.length hlc))
  have FIN0 := p4.fin TT.out (keeps11 w4 (w.heap.size + 1 + 1) (.slice Fa' Fn' Fc') (.int .i64 3) (.slice gva gvn gvc) (.slice gfa gfn gfc) (.int .i64 (G.rm : Int)) (.slice la ln lc) (.int .i64 3) (.slice hva hvn hvc) (.slice hfa hfn hfc) (.int .i64 (H.rm : Int)) (.slice hla H.C.length hlc))
  rw [hrm] at FIN0
  have FIN := Lib.hid FIN0
  clear FIN0
  have cc := (show (d == d) = true by simp)
  clear p4 S4 Z4
  go_wp2_with fail
  exact bodyPost_ret (v := .tuple #[dv19 (.slice Fa' Fn' Fc') (.slice gva gvn gvc) (.slice gfa gfn gfc) (G.rm : Int) (.slice la ln lc) (.slice hva hvn hvc) (.slice hfa hfn hfc) (H.rm : Int) (.slice hla H.C.length hlc), .bool true]) (by simp [results, Tryz.results7, go_sem, y0, y1, y2, y3, y4, y5, y6, y7, y8, y9, y10]) rfl FIN.out
set_option maxRecDepth 100000 in
set_option maxHeartbeats 4000000 in
theorem do_get (kd m : Int) (u : Nat) (k0 : ¬ kd = 0) (k1 : ¬ kd = 1) (k2 : ¬ kd = 2) (k3 : ¬ kd = 3) (k4 : ¬ kd = 4) (k5 : ¬ kd = 5) (k6 : ¬ kd = 6) (k7 : ¬ kd = 7) (k9 : ¬ kd = 9) (k10 : ¬ kd = 10) (hm : -9223372036854775808 ≤ m) (h9 : n < 400) (p : P19 W0 D R B n S G H x w) :
    Calls Tryz.prog 7 #[at0 B.rb, x.val G.rm H.rm, ov19 kd m u] w (DoR19 W0 D R B n w) := by
  have kf0 : (kd == 0) = false := by simpa using k0
  have kf1 : (kd == 1) = false := by simpa using k1
  have kf2 : (kd == 2) = false := by simpa using k2
  have kf3 : (kd == 3) = false := by simpa using k3
  have kf4 : (kd == 4) = false := by simpa using k4
  have kf5 : (kd == 5) = false := by simpa using k5
  have kf6 : (kd == 6) = false := by simpa using k6
  have kf7 : (kd == 7) = false := by simpa using k7
  have kf9 : (kd == 9) = false := by simpa using k9
  have kf10 : (kd == 10) = false := by simpa using k10
  clear k0 k1 k2 k3 k4 k5 k6 k7 k9 k10
  obtain ⟨⟨Fa, Fc, e1⟩, ⟨gva, gvn, gvc, e2⟩, ⟨gfa, gfn, gfc, e3⟩, ⟨gla, glc, e4⟩, ⟨hva, hvn, hvc, e5⟩, ⟨hfa, hfn, hfc, e6⟩, ⟨hla, hlc, e7⟩⟩ := p.slices
  obtain ⟨xF, xgv, xgf, xgl, xhv, xhf, xhl⟩ := x
  dsimp only at e1 e2 e3 e4 e5 e6 e7
  subst e1 e2 e3 e4 e5 e6 e7
  obtain ⟨w1, hw1, X1, p1, B1⟩ := p.enter kd m u
  obtain ⟨y, cd, AD0⟩ := p1.get h9 m hm
  unfold V19.val at AD0
  dsimp only at AD0
  have AD := Lib.hid AD0
  clear AD0
  go_enter Tryz.func7, Tryz.ntmps7
  go_upto_region 1 with fail
  replace hw1 : w1 = ((w.alloc (.cells #[.slice Fa S.length Fc, .int .i64 3, .slice gva gvn gvc, .slice gfa gfn gfc, .int .i64 (G.rm : Int), .slice gla G.C.length glc, .int .i64 3, .slice hva hvn hvc, .slice hfa hfn hfc, .int .i64 (H.rm : Int), .slice hla H.C.length hlc] 36)).alloc (.cells #[.int .i64 kd, .int .i64 m, .int .u64 (u : Int)] 42)).alloc (.cells #[.slice none 0 0, .int .i64 0, .slice none 0 0, .slice none 0 0, .int .i64 0, .slice none 0 0, .int .i64 0, .slice none 0 0, .slice none 0 0, .int .i64 0, .slice none 0 0] 36) := hw1
  rw [← hw1]
  clear hw1
  have P1 := Lib.hid p1
  obtain ⟨o0, o1, o2, ol⟩ := o3d_all X1.o
  clear p p1
  go_upto_region 26 with (go_at_call 13; refine AD.out.mono ?_; rintro e w2 ⟨_, _, rfl, rfl, rfl, t2, p2, RD⟩)
  have X2 := X1.tr P1.out t2
  have T2 := (TR.of (R := rr B R) B1).trans t2
  clear AD o0 o1 o2 ol X1 B1 P1 t2
  obtain ⟨q0, q1, q2, q3, q4, q5, q6, q7, q8, q9, q10, qf, ql⟩ := c11_all X2.s
  obtain ⟨o0, o1, o2, ol⟩ := o3d_all X2.o
  have RDh := Lib.hid (RD w2 (Below.refl _ _))
  clear RD
  go_upto_region 27 with (go_at_call 28; with_reducible refine RDh.out.mono ?_; rintro e w3 ⟨rfl, b3⟩; have X3 := X2.below b3)
  have p3 := (p2.below b3).up h9
  have TT := Lib.hid (T2.below' b3)
  clear q0 q1 q2 q3 q4 q5 q6 q7 q8 q9 q10 qf ql
  clear o0 o1 o2 ol X2 T2 RDh b3 p2
  obtain ⟨q0, q1, q2, q3, q4, q5, q6, q7, q8, q9, q10, qf, ql⟩ := c11_all X3.s
  obtain ⟨z0, z1, z2, z3, z4, z5, z6, z7, z8, z9, z10, zf, zl⟩ := c11_all X3.z
  obtain ⟨y0, y1, y2, y3, y4, y5, y6, y7, y8, y9, y10, yf, yl⟩ := c11_all (X3.z.put11 (.slice Fa S.length Fc) (.int .i64 3) (.slice gva gvn gvc) (.slice gfa gfn gfc) (.int .i64 (G.rm : Int)) (.slice gla G.C.length glc) (.int .i64 3) (.slice hva hvn hvc) (.slice hfa hfn hfc) (.int .i64 (H.rm : Int)) (.slice hla H.C.length hlc))
  have FIN0 := p3.fin TT.out (keeps11 w3 (w.heap.size + 1 + 1) (.slice Fa S.length Fc) (.int .i64 3) (.slice gva gvn gvc) (.slice gfa gfn gfc) (.int .i64 (G.rm : Int)) (.slice gla G.C.length glc) (.int .i64 3) (.slice hva hvn hvc) (.slice hfa hfn hfc) (.int .i64 (H.rm : Int)) (.slice hla H.C.length hlc))
  have FIN := Lib.hid FIN0
  clear FIN0
  have cc := xeq19 y
  have cd2 := (show (cd == cd) = true by simp)
  clear p3 X3
  go_wp2_with fail
  exact bodyPost_ret (v := .tuple #[dv19 (.slice Fa S.length Fc) (.slice gva gvn gvc) (.slice gfa gfn gfc) (G.rm : Int) (.slice gla G.C.length glc) (.slice hva hvn hvc) (.slice hfa hfn hfc) (H.rm : Int) (.slice hla H.C.length hlc), .bool true]) (by simp [results, Tryz.results7, go_sem, y0, y1, y2, y3, y4, y5, y6, y7, y8, y9, y10]) rfl FIN.out
end
end Go.Proofs.YtppmicepkjhfeaaGreat
