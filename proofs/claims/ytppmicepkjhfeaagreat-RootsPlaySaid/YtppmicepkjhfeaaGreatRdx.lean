/-
  haymowlaw19.do: the kinds that are handed on
-/
import Derived.Test.YtppmicepkjhfeaaGreatRdo
import Derived.Test.YtppmicepkjhfeaaGreatRdw
import Derived.Test.YtppmicepkjhfeaaGreatRto
namespace Go.Proofs.YtppmicepkjhfeaaGreat
open Go.RowKit
set_option linter.unusedVariables false

section
variable {W0 : World} {D : Nat → Prop} {R R' : Nat → Nat} {B : BK} {n : Nat} {S S' T : List (List Nat)} {xs : List Nat} {G G' H H' : HS} {x x' : V19} {w w' w1 w2 w3 : World}
theorem slots_any (m : Int) (u : Nat) (h9 : n < 400) (p : P19 W0 D R B n S G H x w) :
    Calls Tryz.prog 21 #[at0 B.rb, x.val G.rm H.rm, ov19 0 m u] w (DoR19 W0 D R B n w) := by
  by_cases h1 : m < 0
  · exact slots_no1 m u h1 h9 p
  by_cases h2 : 256 < m
  · exact slots_no2 m u h1 h2 h9 p
  obtain ⟨k, rfl⟩ : ∃ k : Nat, m = (k : Int) := ⟨m.toNat, by omega⟩
  exact slots_push k u (by omega) h9 p
theorem slots_any1 (m : Int) (u : Nat) (h9 : n < 400) (p : P19 W0 D R B n S G H x w) :
    Calls Tryz.prog 21 #[at0 B.rb, x.val G.rm H.rm, ov19 1 m u] w (DoR19 W0 D R B n w) := by
  cases S with
  | nil => exact slots_nil 1 m u (by decide) h9 p
  | cons xs T => exact slots_pop 1 m u (by decide) h9 rfl p
set_option maxRecDepth 100000 in
set_option maxHeartbeats 4000000 in
theorem do_push (m : Int) (u : Nat) (h9 : n < 400) (p : P19 W0 D R B n S G H x w) :
    Calls Tryz.prog 7 #[at0 B.rb, x.val G.rm H.rm, ov19 0 m u] w (DoR19 W0 D R B n w) := by
  obtain ⟨⟨Fa, Fc, e1⟩, ⟨gva, gvn, gvc, e2⟩, ⟨gfa, gfn, gfc, e3⟩, ⟨gla, glc, e4⟩, ⟨hva, hvn, hvc, e5⟩, ⟨hfa, hfn, hfc, e6⟩, ⟨hla, hlc, e7⟩⟩ := p.slices
  obtain ⟨xF, xgv, xgf, xgl, xhv, xhf, xhl⟩ := x
  dsimp only at e1 e2 e3 e4 e5 e6 e7
  subst e1 e2 e3 e4 e5 e6 e7
  obtain ⟨w1, hw1, X1, p1, B1⟩ := p.enter 0 m u
  have PN0 := slots_any m u h9 p1
  unfold V19.val at PN0
  dsimp only at PN0
  have PN := Lib.hid PN0
  clear PN0
  go_enter Tryz.func7, Tryz.ntmps7
  go_upto_region 1 with fail
  replace hw1 : w1 = ((w.alloc (.cells #[.slice Fa S.length Fc, .int .i64 3, .slice gva gvn gvc, .slice gfa gfn gfc, .int .i64 (G.rm : Int), .slice gla G.C.length glc, .int .i64 3, .slice hva hvn hvc, .slice hfa hfn hfc, .int .i64 (H.rm : Int), .slice hla H.C.length hlc] 36)).alloc (.cells #[.int .i64 0, .int .i64 m, .int .u64 (u : Int)] 42)).alloc (.cells #[.slice none 0 0, .int .i64 0, .slice none 0 0, .slice none 0 0, .int .i64 0, .slice none 0 0, .int .i64 0, .slice none 0 0, .slice none 0 0, .int .i64 0, .slice none 0 0] 36) := hw1
  rw [← hw1]
  clear hw1
  have P1 := Lib.hid p1
  obtain ⟨q0, q1, q2, q3, q4, q5, q6, q7, q8, q9, q10, qf, ql⟩ := c11_all X1.s
  obtain ⟨o0, o1, o2, ol⟩ := o3d_all X1.o
  clear p p1
  go_upto_region 5 with fail
  go_wp2_with
   (go_at_call 21; with_reducible refine PN.out.mono ?_
    rintro e w2 ⟨R', S', G', H', ⟨xF', xgv', xgf', xgl', xhv', xhf', xhl'⟩, rfl, p2, t2⟩
    obtain ⟨⟨Fa', Fc', e1⟩, ⟨gva', gvn', gvc', e2⟩, ⟨gfa', gfn', gfc', e3⟩, ⟨gla', glc', e4⟩, ⟨hva', hvn', hvc', e5⟩, ⟨hfa', hfn', hfc', e6⟩, ⟨hla', hlc', e7⟩⟩ := p2.slices
    dsimp only at e1 e2 e3 e4 e5 e6 e7
    subst e1 e2 e3 e4 e5 e6 e7
    have X2 := X1.tr P1.out t2
    have TT := Lib.hid ((TR.of (R := rr B R) B1).trans t2)
    clear PN o0 o1 o2 ol X1 B1 P1 t2
    clear q0 q1 q2 q3 q4 q5 q6 q7 q8 q9 q10 qf ql
    obtain ⟨z0, z1, z2, z3, z4, z5, z6, z7, z8, z9, z10, zf, zl⟩ := c11_all X2.z
    obtain ⟨y0, y1, y2, y3, y4, y5, y6, y7, y8, y9, y10, yf, yl⟩ := c11_all (X2.z.put11 (.slice Fa' S'.length Fc') (.int .i64 3) (.slice gva' gvn' gvc') (.slice gfa' gfn' gfc') (.int .i64 (G'.rm : Int)) (.slice gla' G'.C.length glc') (.int .i64 3) (.slice hva' hvn' hvc') (.slice hfa' hfn' hfc') (.int .i64 (H'.rm : Int)) (.slice hla' H'.C.length hlc'))
    have FIN := Lib.hid (p2.fin TT.out (keeps11 w2 (w.heap.size + 1 + 1) (.slice Fa' S'.length Fc') (.int .i64 3) (.slice gva' gvn' gvc') (.slice gfa' gfn' gfc') (.int .i64 (G'.rm : Int)) (.slice gla' G'.C.length glc') (.int .i64 3) (.slice hva' hvn' hvc') (.slice hfa' hfn' hfc') (.int .i64 (H'.rm : Int)) (.slice hla' H'.C.length hlc')))
    clear p2 X2 TT)
  exact bodyPost_ret (v := .tuple #[dv19 (.slice Fa' S'.length Fc') (.slice gva' gvn' gvc') (.slice gfa' gfn' gfc') (G'.rm : Int) (.slice gla' G'.C.length glc') (.slice hva' hvn' hvc') (.slice hfa' hfn' hfc') (H'.rm : Int) (.slice hla' H'.C.length hlc'), .bool true]) (by simp [results, Tryz.results7, go_sem, y0, y1, y2, y3, y4, y5, y6, y7, y8, y9, y10]) rfl FIN.out
set_option maxRecDepth 100000 in
set_option maxHeartbeats 4000000 in
theorem do_pop (m : Int) (u : Nat) (h9 : n < 400) (p : P19 W0 D R B n S G H x w) :
    Calls Tryz.prog 7 #[at0 B.rb, x.val G.rm H.rm, ov19 1 m u] w (DoR19 W0 D R B n w) := by
  obtain ⟨⟨Fa, Fc, e1⟩, ⟨gva, gvn, gvc, e2⟩, ⟨gfa, gfn, gfc, e3⟩, ⟨gla, glc, e4⟩, ⟨hva, hvn, hvc, e5⟩, ⟨hfa, hfn, hfc, e6⟩, ⟨hla, hlc, e7⟩⟩ := p.slices
  obtain ⟨xF, xgv, xgf, xgl, xhv, xhf, xhl⟩ := x
  dsimp only at e1 e2 e3 e4 e5 e6 e7
  subst e1 e2 e3 e4 e5 e6 e7
  obtain ⟨w1, hw1, X1, p1, B1⟩ := p.enter 1 m u
  have PN0 := slots_any1 m u h9 p1
  unfold V19.val at PN0
  dsimp only at PN0
  have PN := Lib.hid PN0
  clear PN0
  go_enter Tryz.func7, Tryz.ntmps7
  go_upto_region 1 with fail
  replace hw1 : w1 = ((w.alloc (.cells #[.slice Fa S.length Fc, .int .i64 3, .slice gva gvn gvc, .slice gfa gfn gfc, .int .i64 (G.rm : Int), .slice gla G.C.length glc, .int .i64 3, .slice hva hvn hvc, .slice hfa hfn hfc, .int .i64 (H.rm : Int), .slice hla H.C.length hlc] 36)).alloc (.cells #[.int .i64 1, .int .i64 m, .int .u64 (u : Int)] 42)).alloc (.cells #[.slice none 0 0, .int .i64 0, .slice none 0 0, .slice none 0 0, .int .i64 0, .slice none 0 0, .int .i64 0, .slice none 0 0, .slice none 0 0, .int .i64 0, .slice none 0 0] 36) := hw1
  rw [← hw1]
  clear hw1
  have P1 := Lib.hid p1
  obtain ⟨q0, q1, q2, q3, q4, q5, q6, q7, q8, q9, q10, qf, ql⟩ := c11_all X1.s
  obtain ⟨o0, o1, o2, ol⟩ := o3d_all X1.o
  clear p p1
  go_upto_region 5 with fail
  go_wp2_with
   (go_at_call 21; with_reducible refine PN.out.mono ?_
    rintro e w2 ⟨R', S', G', H', ⟨xF', xgv', xgf', xgl', xhv', xhf', xhl'⟩, rfl, p2, t2⟩
    obtain ⟨⟨Fa', Fc', e1⟩, ⟨gva', gvn', gvc', e2⟩, ⟨gfa', gfn', gfc', e3⟩, ⟨gla', glc', e4⟩, ⟨hva', hvn', hvc', e5⟩, ⟨hfa', hfn', hfc', e6⟩, ⟨hla', hlc', e7⟩⟩ := p2.slices
    dsimp only at e1 e2 e3 e4 e5 e6 e7
    subst e1 e2 e3 e4 e5 e6 e7
    have X2 := X1.tr P1.out t2
    have TT := Lib.hid ((TR.of (R := rr B R) B1).trans t2)
    clear PN o0 o1 o2 ol X1 B1 P1 t2
    clear q0 q1 q2 q3 q4 q5 q6 q7 q8 q9 q10 qf ql
    obtain ⟨z0, z1, z2, z3, z4, z5, z6, z7, z8, z9, z10, zf, zl⟩ := c11_all X2.z
    obtain ⟨y0, y1, y2, y3, y4, y5, y6, y7, y8, y9, y10, yf, yl⟩ := c11_all (X2.z.put11 (.slice Fa' S'.length Fc') (.int .i64 3) (.slice gva' gvn' gvc') (.slice gfa' gfn' gfc') (.int .i64 (G'.rm : Int)) (.slice gla' G'.C.length glc') (.int .i64 3) (.slice hva' hvn' hvc') (.slice hfa' hfn' hfc') (.int .i64 (H'.rm : Int)) (.slice hla' H'.C.length hlc'))
    have FIN := Lib.hid (p2.fin TT.out (keeps11 w2 (w.heap.size + 1 + 1) (.slice Fa' S'.length Fc') (.int .i64 3) (.slice gva' gvn' gvc') (.slice gfa' gfn' gfc') (.int .i64 (G'.rm : Int)) (.slice gla' G'.C.length glc') (.int .i64 3) (.slice hva' hvn' hvc') (.slice hfa' hfn' hfc') (.int .i64 (H'.rm : Int)) (.slice hla' H'.C.length hlc')))
    clear p2 X2 TT)
  exact bodyPost_ret (v := .tuple #[dv19 (.slice Fa' S'.length Fc') (.slice gva' gvn' gvc') (.slice gfa' gfn' gfc') (G'.rm : Int) (.slice gla' G'.C.length glc') (.slice hva' hvn' hvc') (.slice hfa' hfn' hfc') (H'.rm : Int) (.slice hla' H'.C.length hlc'), .bool true]) (by simp [results, Tryz.results7, go_sem, y0, y1, y2, y3, y4, y5, y6, y7, y8, y9, y10]) rfl FIN.out
set_option maxRecDepth 100000 in
set_option maxHeartbeats 4000000 in
theorem do_addw (m : Int) (u : Nat) (hu : u < 18446744073709551616) (h9 : n < 400) (p : P19 W0 D R B n S G H x w) :
    Calls Tryz.prog 7 #[at0 B.rb, x.val G.rm H.rm, ov19 4 m u] w (DoR19 W0 D R B n w) := by
  obtain ⟨⟨Fa, Fc, e1⟩, ⟨gva, gvn, gvc, e2⟩, ⟨gfa, gfn, gfc, e3⟩, ⟨gla, glc, e4⟩, ⟨hva, hvn, hvc, e5⟩, ⟨hfa, hfn, hfc, e6⟩, ⟨hla, hlc, e7⟩⟩ := p.slices
  obtain ⟨xF, xgv, xgf, xgl, xhv, xhf, xhl⟩ := x
  dsimp only at e1 e2 e3 e4 e5 e6 e7
  subst e1 e2 e3 e4 e5 e6 e7
  obtain ⟨w1, hw1, X1, p1, B1⟩ := p.enter 4 m u
  have PN0 := weak_add m u hu h9 p1
  unfold V19.val at PN0
  dsimp only at PN0
  have PN := Lib.hid PN0
  clear PN0
  go_enter Tryz.func7, Tryz.ntmps7
  go_upto_region 1 with fail
  replace hw1 : w1 = ((w.alloc (.cells #[.slice Fa S.length Fc, .int .i64 3, .slice gva gvn gvc, .slice gfa gfn gfc, .int .i64 (G.rm : Int), .slice gla G.C.length glc, .int .i64 3, .slice hva hvn hvc, .slice hfa hfn hfc, .int .i64 (H.rm : Int), .slice hla H.C.length hlc] 36)).alloc (.cells #[.int .i64 4, .int .i64 m, .int .u64 (u : Int)] 42)).alloc (.cells #[.slice none 0 0, .int .i64 0, .slice none 0 0, .slice none 0 0, .int .i64 0, .slice none 0 0, .int .i64 0, .slice none 0 0, .slice none 0 0, .int .i64 0, .slice none 0 0] 36) := hw1
  rw [← hw1]
  clear hw1
  have P1 := Lib.hid p1
  obtain ⟨q0, q1, q2, q3, q4, q5, q6, q7, q8, q9, q10, qf, ql⟩ := c11_all X1.s
  obtain ⟨o0, o1, o2, ol⟩ := o3d_all X1.o
  clear p p1
  go_upto_region 17 with fail
  go_wp2_with
   (go_at_call 25; with_reducible refine PN.out.mono ?_
    rintro e w2 ⟨R', S', G', H', ⟨xF', xgv', xgf', xgl', xhv', xhf', xhl'⟩, rfl, p2, t2⟩
    obtain ⟨⟨Fa', Fc', e1⟩, ⟨gva', gvn', gvc', e2⟩, ⟨gfa', gfn', gfc', e3⟩, ⟨gla', glc', e4⟩, ⟨hva', hvn', hvc', e5⟩, ⟨hfa', hfn', hfc', e6⟩, ⟨hla', hlc', e7⟩⟩ := p2.slices
    dsimp only at e1 e2 e3 e4 e5 e6 e7
    subst e1 e2 e3 e4 e5 e6 e7
    have X2 := X1.tr P1.out t2
    have TT := Lib.hid ((TR.of (R := rr B R) B1).trans t2)
    clear PN o0 o1 o2 ol X1 B1 P1 t2
    clear q0 q1 q2 q3 q4 q5 q6 q7 q8 q9 q10 qf ql
    obtain ⟨z0, z1, z2, z3, z4, z5, z6, z7, z8, z9, z10, zf, zl⟩ := c11_all X2.z
    obtain ⟨y0, y1, y2, y3, y4, y5, y6, y7, y8, y9, y10, yf, yl⟩ := c11_all (X2.z.put11 (.slice Fa' S'.length Fc') (.int .i64 3) (.slice gva' gvn' gvc') (.slice gfa' gfn' gfc') (.int .i64 (G'.rm : Int)) (.slice gla' G'.C.length glc') (.int .i64 3) (.slice hva' hvn' hvc') (.slice hfa' hfn' hfc') (.int .i64 (H'.rm : Int)) (.slice hla' H'.C.length hlc'))
    have FIN := Lib.hid (p2.fin TT.out (keeps11 w2 (w.heap.size + 1 + 1) (.slice Fa' S'.length Fc') (.int .i64 3) (.slice gva' gvn' gvc') (.slice gfa' gfn' gfc') (.int .i64 (G'.rm : Int)) (.slice gla' G'.C.length glc') (.int .i64 3) (.slice hva' hvn' hvc') (.slice hfa' hfn' hfc') (.int .i64 (H'.rm : Int)) (.slice hla' H'.C.length hlc')))
    clear p2 X2 TT)
  exact bodyPost_ret (v := .tuple #[dv19 (.slice Fa' S'.length Fc') (.slice gva' gvn' gvc') (.slice gfa' gfn' gfc') (G'.rm : Int) (.slice gla' G'.C.length glc') (.slice hva' hvn' hvc') (.slice hfa' hfn' hfc') (H'.rm : Int) (.slice hla' H'.C.length hlc'), .bool true]) (by simp [results, Tryz.results7, go_sem, y0, y1, y2, y3, y4, y5, y6, y7, y8, y9, y10]) rfl FIN.out
set_option maxRecDepth 100000 in
set_option maxHeartbeats 4000000 in
theorem do_dropw (m : Int) (u : Nat) (h9 : n < 400) (p : P19 W0 D R B n S G H x w) :
    Calls Tryz.prog 7 #[at0 B.rb, x.val G.rm H.rm, ov19 5 m u] w (DoR19 W0 D R B n w) := by
  obtain ⟨⟨Fa, Fc, e1⟩, ⟨gva, gvn, gvc, e2⟩, ⟨gfa, gfn, gfc, e3⟩, ⟨gla, glc, e4⟩, ⟨hva, hvn, hvc, e5⟩, ⟨hfa, hfn, hfc, e6⟩, ⟨hla, hlc, e7⟩⟩ := p.slices
  obtain ⟨xF, xgv, xgf, xgl, xhv, xhf, xhl⟩ := x
  dsimp only at e1 e2 e3 e4 e5 e6 e7
  subst e1 e2 e3 e4 e5 e6 e7
  obtain ⟨w1, hw1, X1, p1, B1⟩ := p.enter 5 m u
  have PN0 := weak_drop m u h9 p1
  unfold V19.val at PN0
  dsimp only at PN0
  have PN := Lib.hid PN0
  clear PN0
  go_enter Tryz.func7, Tryz.ntmps7
  go_upto_region 1 with fail
  replace hw1 : w1 = ((w.alloc (.cells #[.slice Fa S.length Fc, .int .i64 3, .slice gva gvn gvc, .slice gfa gfn gfc, .int .i64 (G.rm : Int), .slice gla G.C.length glc, .int .i64 3, .slice hva hvn hvc, .slice hfa hfn hfc, .int .i64 (H.rm : Int), .slice hla H.C.length hlc] 36)).alloc (.cells #[.int .i64 5, .int .i64 m, .int .u64 (u : Int)] 42)).alloc (.cells #[.slice none 0 0, .int .i64 0, .slice none 0 0, .slice none 0 0, .int .i64 0, .slice none 0 0, .int .i64 0, .slice none 0 0, .slice none 0 0, .int .i64 0, .slice none 0 0] 36) := hw1
  rw [← hw1]
  clear hw1
  have P1 := Lib.hid p1
  obtain ⟨q0, q1, q2, q3, q4, q5, q6, q7, q8, q9, q10, qf, ql⟩ := c11_all X1.s
  obtain ⟨o0, o1, o2, ol⟩ := o3d_all X1.o
  clear p p1
  go_upto_region 17 with fail
  go_wp2_with
   (go_at_call 25; with_reducible refine PN.out.mono ?_
    rintro e w2 ⟨R', S', G', H', ⟨xF', xgv', xgf', xgl', xhv', xhf', xhl'⟩, rfl, p2, t2⟩
    obtain ⟨⟨Fa', Fc', e1⟩, ⟨gva', gvn', gvc', e2⟩, ⟨gfa', gfn', gfc', e3⟩, ⟨gla', glc', e4⟩, ⟨hva', hvn', hvc', e5⟩, ⟨hfa', hfn', hfc', e6⟩, ⟨hla', hlc', e7⟩⟩ := p2.slices
    dsimp only at e1 e2 e3 e4 e5 e6 e7
    subst e1 e2 e3 e4 e5 e6 e7
    have X2 := X1.tr P1.out t2
    have TT := Lib.hid ((TR.of (R := rr B R) B1).trans t2)
    clear PN o0 o1 o2 ol X1 B1 P1 t2
    clear q0 q1 q2 q3 q4 q5 q6 q7 q8 q9 q10 qf ql
    obtain ⟨z0, z1, z2, z3, z4, z5, z6, z7, z8, z9, z10, zf, zl⟩ := c11_all X2.z
    obtain ⟨y0, y1, y2, y3, y4, y5, y6, y7, y8, y9, y10, yf, yl⟩ := c11_all (X2.z.put11 (.slice Fa' S'.length Fc') (.int .i64 3) (.slice gva' gvn' gvc') (.slice gfa' gfn' gfc') (.int .i64 (G'.rm : Int)) (.slice gla' G'.C.length glc') (.int .i64 3) (.slice hva' hvn' hvc') (.slice hfa' hfn' hfc') (.int .i64 (H'.rm : Int)) (.slice hla' H'.C.length hlc'))
    have FIN := Lib.hid (p2.fin TT.out (keeps11 w2 (w.heap.size + 1 + 1) (.slice Fa' S'.length Fc') (.int .i64 3) (.slice gva' gvn' gvc') (.slice gfa' gfn' gfc') (.int .i64 (G'.rm : Int)) (.slice gla' G'.C.length glc') (.int .i64 3) (.slice hva' hvn' hvc') (.slice hfa' hfn' hfc') (.int .i64 (H'.rm : Int)) (.slice hla' H'.C.length hlc')))
    clear p2 X2 TT)
  exact bodyPost_ret (v := .tuple #[dv19 (.slice Fa' S'.length Fc') (.slice gva' gvn' gvc') (.slice gfa' gfn' gfc') (G'.rm : Int) (.slice gla' G'.C.length glc') (.slice hva' hvn' hvc') (.slice hfa' hfn' hfc') (H'.rm : Int) (.slice hla' H'.C.length hlc'), .bool true]) (by simp [results, Tryz.results7, go_sem, y0, y1, y2, y3, y4, y5, y6, y7, y8, y9, y10]) rfl FIN.out
set_option maxRecDepth 100000 in
set_option maxHeartbeats 4000000 in
theorem do_weak (m : Int) (u : Nat) (h9 : n < 400) (p : P19 W0 D R B n S G H x w) :
    Calls Tryz.prog 7 #[at0 B.rb, x.val G.rm H.rm, ov19 6 m u] w (DoR19 W0 D R B n w) := by
  obtain ⟨⟨Fa, Fc, e1⟩, ⟨gva, gvn, gvc, e2⟩, ⟨gfa, gfn, gfc, e3⟩, ⟨gla, glc, e4⟩, ⟨hva, hvn, hvc, e5⟩, ⟨hfa, hfn, hfc, e6⟩, ⟨hla, hlc, e7⟩⟩ := p.slices
  obtain ⟨xF, xgv, xgf, xgl, xhv, xhf, xhl⟩ := x
  dsimp only at e1 e2 e3 e4 e5 e6 e7
  subst e1 e2 e3 e4 e5 e6 e7
  obtain ⟨w1, hw1, X1, p1, B1⟩ := p.enter 6 m u
  have PN0 := weak_get 6 m u (by decide) (by decide) h9 p1
  unfold V19.val at PN0
  dsimp only at PN0
  have PN := Lib.hid PN0
  clear PN0
  go_enter Tryz.func7, Tryz.ntmps7
  go_upto_region 1 with fail
  replace hw1 : w1 = ((w.alloc (.cells #[.slice Fa S.length Fc, .int .i64 3, .slice gva gvn gvc, .slice gfa gfn gfc, .int .i64 (G.rm : Int), .slice gla G.C.length glc, .int .i64 3, .slice hva hvn hvc, .slice hfa hfn hfc, .int .i64 (H.rm : Int), .slice hla H.C.length hlc] 36)).alloc (.cells #[.int .i64 6, .int .i64 m, .int .u64 (u : Int)] 42)).alloc (.cells #[.slice none 0 0, .int .i64 0, .slice none 0 0, .slice none 0 0, .int .i64 0, .slice none 0 0, .int .i64 0, .slice none 0 0, .slice none 0 0, .int .i64 0, .slice none 0 0] 36) := hw1
  rw [← hw1]
  clear hw1
  have P1 := Lib.hid p1
  obtain ⟨q0, q1, q2, q3, q4, q5, q6, q7, q8, q9, q10, qf, ql⟩ := c11_all X1.s
  obtain ⟨o0, o1, o2, ol⟩ := o3d_all X1.o
  clear p p1
  go_upto_region 17 with fail
  go_wp2_with
   (go_at_call 25; with_reducible refine PN.out.mono ?_
    rintro e w2 ⟨R', S', G', H', ⟨xF', xgv', xgf', xgl', xhv', xhf', xhl'⟩, rfl, p2, t2⟩
    obtain ⟨⟨Fa', Fc', e1⟩, ⟨gva', gvn', gvc', e2⟩, ⟨gfa', gfn', gfc', e3⟩, ⟨gla', glc', e4⟩, ⟨hva', hvn', hvc', e5⟩, ⟨hfa', hfn', hfc', e6⟩, ⟨hla', hlc', e7⟩⟩ := p2.slices
    dsimp only at e1 e2 e3 e4 e5 e6 e7
    subst e1 e2 e3 e4 e5 e6 e7
    have X2 := X1.tr P1.out t2
    have TT := Lib.hid ((TR.of (R := rr B R) B1).trans t2)
    clear PN o0 o1 o2 ol X1 B1 P1 t2
    clear q0 q1 q2 q3 q4 q5 q6 q7 q8 q9 q10 qf ql
    obtain ⟨z0, z1, z2, z3, z4, z5, z6, z7, z8, z9, z10, zf, zl⟩ := c11_all X2.z
    obtain ⟨y0, y1, y2, y3, y4, y5, y6, y7, y8, y9, y10, yf, yl⟩ := c11_all (X2.z.put11 (.slice Fa' S'.length Fc') (.int .i64 3) (.slice gva' gvn' gvc') (.slice gfa' gfn' gfc') (.int .i64 (G'.rm : Int)) (.slice gla' G'.C.length glc') (.int .i64 3) (.slice hva' hvn' hvc') (.slice hfa' hfn' hfc') (.int .i64 (H'.rm : Int)) (.slice hla' H'.C.length hlc'))
    have FIN := Lib.hid (p2.fin TT.out (keeps11 w2 (w.heap.size + 1 + 1) (.slice Fa' S'.length Fc') (.int .i64 3) (.slice gva' gvn' gvc') (.slice gfa' gfn' gfc') (.int .i64 (G'.rm : Int)) (.slice gla' G'.C.length glc') (.int .i64 3) (.slice hva' hvn' hvc') (.slice hfa' hfn' hfc') (.int .i64 (H'.rm : Int)) (.slice hla' H'.C.length hlc')))
    clear p2 X2 TT)
  exact bodyPost_ret (v := .tuple #[dv19 (.slice Fa' S'.length Fc') (.slice gva' gvn' gvc') (.slice gfa' gfn' gfc') (G'.rm : Int) (.slice gla' G'.C.length glc') (.slice hva' hvn' hvc') (.slice hfa' hfn' hfc') (H'.rm : Int) (.slice hla' H'.C.length hlc'), .bool true]) (by simp [results, Tryz.results7, go_sem, y0, y1, y2, y3, y4, y5, y6, y7, y8, y9, y10]) rfl FIN.out
set_option maxRecDepth 100000 in
set_option maxHeartbeats 4000000 in
theorem do_turn (m : Int) (u : Nat) (h9 : n < 400) (p : P19 W0 D R B n S G H x w) :
    Calls Tryz.prog 7 #[at0 B.rb, x.val G.rm H.rm, ov19 9 m u] w (DoR19 W0 D R B n w) := by
  obtain ⟨⟨Fa, Fc, e1⟩, ⟨gva, gvn, gvc, e2⟩, ⟨gfa, gfn, gfc, e3⟩, ⟨gla, glc, e4⟩, ⟨hva, hvn, hvc, e5⟩, ⟨hfa, hfn, hfc, e6⟩, ⟨hla, hlc, e7⟩⟩ := p.slices
  obtain ⟨xF, xgv, xgf, xgl, xhv, xhf, xhl⟩ := x
  dsimp only at e1 e2 e3 e4 e5 e6 e7
  subst e1 e2 e3 e4 e5 e6 e7
  obtain ⟨w1, hw1, X1, p1, B1⟩ := p.enter 9 m u
  have PN0 := turn_all m u h9 p1
  unfold V19.val at PN0
  dsimp only at PN0
  have PN := Lib.hid PN0
  clear PN0
  go_enter Tryz.func7, Tryz.ntmps7
  go_upto_region 1 with fail
  replace hw1 : w1 = ((w.alloc (.cells #[.slice Fa S.length Fc, .int .i64 3, .slice gva gvn gvc, .slice gfa gfn gfc, .int .i64 (G.rm : Int), .slice gla G.C.length glc, .int .i64 3, .slice hva hvn hvc, .slice hfa hfn hfc, .int .i64 (H.rm : Int), .slice hla H.C.length hlc] 36)).alloc (.cells #[.int .i64 9, .int .i64 m, .int .u64 (u : Int)] 42)).alloc (.cells #[.slice none 0 0, .int .i64 0, .slice none 0 0, .slice none 0 0, .int .i64 0, .slice none 0 0, .int .i64 0, .slice none 0 0, .slice none 0 0, .int .i64 0, .slice none 0 0] 36) := hw1
  rw [← hw1]
  clear hw1
  have P1 := Lib.hid p1
  obtain ⟨q0, q1, q2, q3, q4, q5, q6, q7, q8, q9, q10, qf, ql⟩ := c11_all X1.s
  obtain ⟨o0, o1, o2, ol⟩ := o3d_all X1.o
  clear p p1
  go_upto_region 24 with fail
  go_wp2_with
   (go_at_call 27; with_reducible refine PN.out.mono ?_
    rintro e w2 ⟨R', S', G', H', ⟨xF', xgv', xgf', xgl', xhv', xhf', xhl'⟩, rfl, p2, t2⟩
    obtain ⟨⟨Fa', Fc', e1⟩, ⟨gva', gvn', gvc', e2⟩, ⟨gfa', gfn', gfc', e3⟩, ⟨gla', glc', e4⟩, ⟨hva', hvn', hvc', e5⟩, ⟨hfa', hfn', hfc', e6⟩, ⟨hla', hlc', e7⟩⟩ := p2.slices
    dsimp only at e1 e2 e3 e4 e5 e6 e7
    subst e1 e2 e3 e4 e5 e6 e7
    have X2 := X1.tr P1.out t2
    have TT := Lib.hid ((TR.of (R := rr B R) B1).trans t2)
    clear PN o0 o1 o2 ol X1 B1 P1 t2
    clear q0 q1 q2 q3 q4 q5 q6 q7 q8 q9 q10 qf ql
    obtain ⟨z0, z1, z2, z3, z4, z5, z6, z7, z8, z9, z10, zf, zl⟩ := c11_all X2.z
    obtain ⟨y0, y1, y2, y3, y4, y5, y6, y7, y8, y9, y10, yf, yl⟩ := c11_all (X2.z.put11 (.slice Fa' S'.length Fc') (.int .i64 3) (.slice gva' gvn' gvc') (.slice gfa' gfn' gfc') (.int .i64 (G'.rm : Int)) (.slice gla' G'.C.length glc') (.int .i64 3) (.slice hva' hvn' hvc') (.slice hfa' hfn' hfc') (.int .i64 (H'.rm : Int)) (.slice hla' H'.C.length hlc'))
    have FIN := Lib.hid (p2.fin TT.out (keeps11 w2 (w.heap.size + 1 + 1) (.slice Fa' S'.length Fc') (.int .i64 3) (.slice gva' gvn' gvc') (.slice gfa' gfn' gfc') (.int .i64 (G'.rm : Int)) (.slice gla' G'.C.length glc') (.int .i64 3) (.slice hva' hvn' hvc') (.slice hfa' hfn' hfc') (.int .i64 (H'.rm : Int)) (.slice hla' H'.C.length hlc')))
    clear p2 X2 TT)
  exact bodyPost_ret (v := .tuple #[dv19 (.slice Fa' S'.length Fc') (.slice gva' gvn' gvc') (.slice gfa' gfn' gfc') (G'.rm : Int) (.slice gla' G'.C.length glc') (.slice hva' hvn' hvc') (.slice hfa' hfn' hfc') (H'.rm : Int) (.slice hla' H'.C.length hlc'), .bool true]) (by simp [results, Tryz.results7, go_sem, y0, y1, y2, y3, y4, y5, y6, y7, y8, y9, y10]) rfl FIN.out
set_option maxRecDepth 100000 in
set_option maxHeartbeats 4000000 in
theorem do_turnw (m : Int) (u : Nat) (h9 : n < 400) (p : P19 W0 D R B n S G H x w) :
    Calls Tryz.prog 7 #[at0 B.rb, x.val G.rm H.rm, ov19 10 m u] w (DoR19 W0 D R B n w) := by
  obtain ⟨⟨Fa, Fc, e1⟩, ⟨gva, gvn, gvc, e2⟩, ⟨gfa, gfn, gfc, e3⟩, ⟨gla, glc, e4⟩, ⟨hva, hvn, hvc, e5⟩, ⟨hfa, hfn, hfc, e6⟩, ⟨hla, hlc, e7⟩⟩ := p.slices
  obtain ⟨xF, xgv, xgf, xgl, xhv, xhf, xhl⟩ := x
  dsimp only at e1 e2 e3 e4 e5 e6 e7
  subst e1 e2 e3 e4 e5 e6 e7
  obtain ⟨w1, hw1, X1, p1, B1⟩ := p.enter 10 m u
  have PN0 := turn_weak 10 m u (by decide) h9 p1
  unfold V19.val at PN0
  dsimp only at PN0
  have PN := Lib.hid PN0
  clear PN0
  go_enter Tryz.func7, Tryz.ntmps7
  go_upto_region 1 with fail
  replace hw1 : w1 = ((w.alloc (.cells #[.slice Fa S.length Fc, .int .i64 3, .slice gva gvn gvc, .slice gfa gfn gfc, .int .i64 (G.rm : Int), .slice gla G.C.length glc, .int .i64 3, .slice hva hvn hvc, .slice hfa hfn hfc, .int .i64 (H.rm : Int), .slice hla H.C.length hlc] 36)).alloc (.cells #[.int .i64 10, .int .i64 m, .int .u64 (u : Int)] 42)).alloc (.cells #[.slice none 0 0, .int .i64 0, .slice none 0 0, .slice none 0 0, .int .i64 0, .slice none 0 0, .int .i64 0, .slice none 0 0, .slice none 0 0, .int .i64 0, .slice none 0 0] 36) := hw1
  rw [← hw1]
  clear hw1
  have P1 := Lib.hid p1
  obtain ⟨q0, q1, q2, q3, q4, q5, q6, q7, q8, q9, q10, qf, ql⟩ := c11_all X1.s
  obtain ⟨o0, o1, o2, ol⟩ := o3d_all X1.o
  clear p p1
  go_upto_region 24 with fail
  go_wp2_with
   (go_at_call 27; with_reducible refine PN.out.mono ?_
    rintro e w2 ⟨R', S', G', H', ⟨xF', xgv', xgf', xgl', xhv', xhf', xhl'⟩, rfl, p2, t2⟩
    obtain ⟨⟨Fa', Fc', e1⟩, ⟨gva', gvn', gvc', e2⟩, ⟨gfa', gfn', gfc', e3⟩, ⟨gla', glc', e4⟩, ⟨hva', hvn', hvc', e5⟩, ⟨hfa', hfn', hfc', e6⟩, ⟨hla', hlc', e7⟩⟩ := p2.slices
    dsimp only at e1 e2 e3 e4 e5 e6 e7
    subst e1 e2 e3 e4 e5 e6 e7
    have X2 := X1.tr P1.out t2
    have TT := Lib.hid ((TR.of (R := rr B R) B1).trans t2)
    clear PN o0 o1 o2 ol X1 B1 P1 t2
    clear q0 q1 q2 q3 q4 q5 q6 q7 q8 q9 q10 qf ql
    obtain ⟨z0, z1, z2, z3, z4, z5, z6, z7, z8, z9, z10, zf, zl⟩ := c11_all X2.z
    obtain ⟨y0, y1, y2, y3, y4, y5, y6, y7, y8, y9, y10, yf, yl⟩ := c11_all (X2.z.put11 (.slice Fa' S'.length Fc') (.int .i64 3) (.slice gva' gvn' gvc') (.slice gfa' gfn' gfc') (.int .i64 (G'.rm : Int)) (.slice gla' G'.C.length glc') (.int .i64 3) (.slice hva' hvn' hvc') (.slice hfa' hfn' hfc') (.int .i64 (H'.rm : Int)) (.slice hla' H'.C.length hlc'))
    have FIN := Lib.hid (p2.fin TT.out (keeps11 w2 (w.heap.size + 1 + 1) (.slice Fa' S'.length Fc') (.int .i64 3) (.slice gva' gvn' gvc') (.slice gfa' gfn' gfc') (.int .i64 (G'.rm : Int)) (.slice gla' G'.C.length glc') (.int .i64 3) (.slice hva' hvn' hvc') (.slice hfa' hfn' hfc') (.int .i64 (H'.rm : Int)) (.slice hla' H'.C.length hlc')))
    clear p2 X2 TT)
  exact bodyPost_ret (v := .tuple #[dv19 (.slice Fa' S'.length Fc') (.slice gva' gvn' gvc') (.slice gfa' gfn' gfc') (G'.rm : Int) (.slice gla' G'.C.length glc') (.slice hva' hvn' hvc') (.slice hfa' hfn' hfc') (H'.rm : Int) (.slice hla' H'.C.length hlc'), .bool true]) (by simp [results, Tryz.results7, go_sem, y0, y1, y2, y3, y4, y5, y6, y7, y8, y9, y10]) rfl FIN.out
end
end Go.Proofs.YtppmicepkjhfeaaGreat
