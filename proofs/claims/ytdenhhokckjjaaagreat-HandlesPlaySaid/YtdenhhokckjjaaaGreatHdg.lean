/-
  haymowlaw18.do: Get.
-/
import Derived.Test.YtdenhhokckjjaaaGreatHdo
namespace Go.Proofs.YtdenhhokckjjaaaGreat
open Go.RowKit
set_option linter.unusedVariables false

section
variable {W0 : World} {D : Nat → Prop} {R R' : Nat → Nat} {hb pb mb mm n rm c B : Nat} {v f hl : Value} {H : List (Nat × Nat)} {w w' : World}
theorem nneg18 (k : Nat) : ¬ (k : Int) < 0 := by omega
theorem xeq18 (x : Nat) : ((x : Int) == (x : Int)) = true := by simp
set_option maxRecDepth 100000 in
set_option maxHeartbeats 4000000 in
theorem do18_get (a : Int) (b : Bool) (u : Nat) (t : Int) (h9 : n < 400) (s : PB W0 D R hb pb mb mm n rm c v f hl H w) :
    Calls Tryz.prog 10 #[at0 hb, stv18 v f (rm : Int) hl, ov18 2 a b u, .int .i64 t] w (DoR18 W0 D R hb pb mb mm n c w) := by
  obtain ⟨⟨va, vn, vc, rfl⟩, ⟨fa, fn, fc, rfl⟩, ⟨ha, hc, rfl⟩⟩ := s.slices
  obtain ⟨w1, hw1, X1, s1, B1⟩ := s.enter 2 a b u
  obtain ⟨x, cd, DR⟩ := s1.get t
  have DRh := Lib.hid DR
  have S1 := Lib.hid s1
  have lH := s.lens
  clear DR s
  go_enter Tryz.func10, Tryz.ntmps10
  go_upto_region 1 with fail
  replace hw1 : w1 = ((w.alloc (.cells #[.int .i64 3, .slice va vn vc, .slice fa fn fc, .int .i64 (rm : Int), .slice ha H.length hc] 34)).alloc (.cells #[.int .i64 2, .int .i64 a, .bool b, .int .u64 (u : Int)] 46)).alloc (.cells #[.int .i64 0, .slice none 0 0, .slice none 0 0, .int .i64 0, .slice none 0 0] 34) := hw1
  rw [← hw1]
  clear hw1
  obtain ⟨o0, o1, o2, o3, ol⟩ := o4_all X1.o
  go_upto_region 9 with (go_at_call 16; with_reducible refine DRh.out.mono ?_; rintro e w2 ⟨c', rfl, l2, t2, s2, RD⟩)
  have X2 := X1.trb S1.out t2
  have T2 := (TR.of B1).trans t2
  clear X1 t2 o0 o1 o2 o3 ol
  obtain ⟨q0, q1, q2, q3, q4, qf, ql⟩ := s5_all X2.s
  go_upto_region 10 with (go_at_call 31; with_reducible refine (RD _ (Below.refl _ _)).mono ?_; rintro e w3 ⟨i, rfl, b3, hi⟩)
  have X3 := X2.below b3
  have s3 := s2.below b3
  have T3 := T2.below' b3
  have lw := B1.size
  clear q0 q1 q2 q3 q4 qf ql X2 s2 T2 RD b3
  obtain ⟨q0, q1, q2, q3, q4, qf, ql⟩ := s5_all X3.s
  obtain ⟨z0, z1, z2, z3, z4, zf, zl⟩ := s5_all X3.z
  rcases hi with ⟨rfl, rfl, rfl⟩ | ⟨k, rfl, hk, hx, rfl⟩
  · obtain ⟨y0, y1, y2, y3, y4, yf, yl⟩ := s5_all (s5_setA X3.z 3 (.slice va vn vc) (.slice fa fn fc) (rm : Int) (.slice ha H.length hc))
    have T5 := Lib.hid (T3.put518 (q := w.heap.size + 1 + 1) (by omega) (.int .i64 3) (.slice va vn vc) (.slice fa fn fc) (.int .i64 (rm : Int)) (.slice ha H.length hc))
    have s5 := Lib.hid (s3.put (q := w.heap.size + 1 + 1) (by omega) (by omega) (.int .i64 3) (.slice va vn vc) (.slice fa fn fc) (.int .i64 (rm : Int)) (.slice ha H.length hc)).out
    have FIN := Lib.hid (show DoR18 W0 D R hb pb mb mm n c w (.returned (.tuple #[stv18 (.slice va vn vc) (.slice fa fn fc) (rm : Int) (.slice ha H.length hc), .int .u64 6, .bool true])) _ from ⟨R, rm, c', _, _, _, H, 6, rfl, s5.out.up h9, T5.out, Nat.le_trans l2 (Nat.add_le_add_left (by decide) _), by decide⟩)
    clear T3 s3 X3 s5 T5
    go_wp2_with fail
    exact bodyPost_ret (v := .tuple #[stv18 (.slice va vn vc) (.slice fa fn fc) (rm : Int) (.slice ha H.length hc), .int .u64 6, .bool true]) (by simp [results, Tryz.results10, go_sem, y0, y1, y2, y3, y4]) rfl FIN.out
  · obtain ⟨g, off, rfl, hg, c0, c1⟩ := PQ18.at (k := k) s3.pq hk
    rw [← hx] at c1
    replace c1 : w3.cell? ⟨g, off + k * 2 + 1, none⟩ = some (.int .u64 (x : Int)) := c1
    obtain ⟨e0, e1, e2, e3, e4, e5⟩ := up18 hk (by omega)
    have kn := nneg18 k
    have cc := xeq18 x
    obtain ⟨y0, y1, y2, y3, y4, yf, yl⟩ := s5_all (Row.drew (s5_setA X3.z 3 (.slice va vn vc) (.slice fa fn fc) (rm : Int) (.slice (some ⟨g, off, none⟩) H.length hc)))
    have T5 := Lib.hid ((T3.below' (Below.refl _ _).drew).put518 (q := w.heap.size + 1 + 1) (by omega) (.int .i64 3) (.slice va vn vc) (.slice fa fn fc) (.int .i64 (rm : Int)) (.slice (some ⟨g, off, none⟩) H.length hc))
    have s5 := Lib.hid ((s3.below (Below.refl _ _).drew).put (q := w.heap.size + 1 + 1) (by omega) (by omega) (.int .i64 3) (.slice va vn vc) (.slice fa fn fc) (.int .i64 (rm : Int)) (.slice (some ⟨g, off, none⟩) H.length hc)).out
    have FIN := Lib.hid (show DoR18 W0 D R hb pb mb mm n c w (.returned (.tuple #[stv18 (.slice va vn vc) (.slice fa fn fc) (rm : Int) (.slice (some ⟨g, off, none⟩) H.length hc), .int .u64 6, .bool true])) _ from ⟨R, rm, c', _, _, _, H, 6, rfl, s5.out.up h9, T5.out, Nat.le_trans l2 (Nat.add_le_add_left (by decide) _), by decide⟩)
    clear T3 s3 X3 hx hk s5 T5
    go_upto_region 12 with fail
    go_region
    all_goals
      go_wp2_with fail
      exact bodyPost_ret (v := .tuple #[stv18 (.slice va vn vc) (.slice fa fn fc) (rm : Int) (.slice (some ⟨g, off, none⟩) H.length hc), .int .u64 6, .bool true]) (by simp [results, Tryz.results10, go_sem, y0, y1, y2, y3, y4]) rfl FIN.out
end
end Go.Proofs.YtdenhhokckjjaaaGreat
