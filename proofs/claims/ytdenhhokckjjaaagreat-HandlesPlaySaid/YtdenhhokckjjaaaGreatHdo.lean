/-
  haymowlaw18.do: Drop, Set, Get.
-/
import Derived.Test.YtdenhhokckjjaaaGreatHdn
import Derived.Test.YtdenhhokckjjaaaGreatOps18
namespace Go.Proofs.YtdenhhokckjjaaaGreat
open Go.RowKit
set_option linter.unusedVariables false

def o4 (k a : Int) (b : Bool) (u : Nat) (j : Nat) : Value := if j = 0 then .int .i64 k else if j = 1 then .int .i64 a else if j = 2 then .bool b else .int .u64 (u : Int)
theorem four18 {j : Nat} (h : j < 4) : j = 0 ∨ j = 1 ∨ j = 2 ∨ j = 3 := by omega
theorem o4_new18 (k a : Int) (b : Bool) (u : Nat) (j : Nat) (hj : j < 4) : (#[.int .i64 k, .int .i64 a, .bool b, .int .u64 (u : Int)] : Array Value)[j]? = some (o4 k a b u j) := by
  rcases four18 hj with rfl | rfl | rfl | rfl <;> rfl
structure DX18 (B : Nat) (k a : Int) (b : Bool) (u : Nat) (v f : Value) (r : Int) (hl : Value) (w : World) : Prop where
  s : SRow5 w B 3 v f r hl
  o : Row w (B + 1) 4 (o4 k a b u)
  z : SRow5 w (B + 1 + 1) 0 (.slice none 0 0) (.slice none 0 0) 0 (.slice none 0 0)
abbrev ov18 (k a : Int) (b : Bool) (u : Nat) : Value := .agg #[.int .i64 k, .int .i64 a, .bool b, .int .u64 (u : Int)]
abbrev dw18 (w : World) (k a : Int) (b : Bool) (u : Nat) (v f : Value) (r : Int) (hl : Value) : World := ((w.alloc (.cells #[.int .i64 3, v, f, .int .i64 r, hl] 34)).alloc (.cells #[.int .i64 k, .int .i64 a, .bool b, .int .u64 (u : Int)] 46)).alloc (.cells #[.int .i64 0, .slice none 0 0, .slice none 0 0, .int .i64 0, .slice none 0 0] 34)
def D318 (D : Nat → Prop) (B j : Nat) : Prop := D j ∨ (B ≤ j ∧ j < B + 3)
theorem dx_new (w : World) (k a : Int) (b : Bool) (u : Nat) (v f : Value) (r : Int) (hl : Value) : DX18 w.heap.size k a b u v f r hl (dw18 w k a b u v f r hl) ∧ Below w.heap.size w (dw18 w k a b u v f r hl) ∧ (dw18 w k a b u v f r hl).heap.size = w.heap.size + 3 :=
  ⟨⟨((Row.newAt w _ _ w.heap.size 5 _ rfl (s5_new 3 v f r hl)).alloc _).alloc _, (Row.newAt _ _ _ (w.heap.size + 1) 4 _ (by simp) (o4_new18 k a b u)).alloc _, Row.newAt _ _ _ (w.heap.size + 1 + 1) 5 _ (by simp) (s5_new 0 _ _ 0 _)⟩, bAlloc (bAlloc (bAlloc (Below.refl _ _) _) _) _, by simp⟩
section
variable {w w' : World} {B u : Nat} {k a r : Int} {b : Bool} {v f hl : Value}
theorem DX18.below (h : DX18 B k a b u v f r hl w) (kb : Below w.heap.size w w') : DX18 B k a b u v f r hl w' := ⟨h.s.below kb, h.o.below kb, h.z.below kb⟩
theorem DX18.tr {R R' : Nat → Nat} (h : DX18 B k a b u v f r hl w) (t : TR R R' w w') (z : ∀ j, B ≤ j → R j = 0) : DX18 B k a b u v f r hl w' :=
  ⟨h.s.tr t (z _ (Nat.le_refl _)), h.o.tr t (z _ (by omega)), h.z.tr t (z _ (by omega))⟩
theorem DX18.put (h : DX18 B k a b u v f r hl w) (v' f' : Value) (r' : Int) (hl' : Value) : DX18 B k a b u v' f' r' hl' (((((w.setCell ⟨B, 0, none⟩ (.int .i64 3)).setCell ⟨B, 1, none⟩ v').setCell ⟨B, 2, none⟩ f').setCell ⟨B, 3, none⟩ (.int .i64 r')).setCell ⟨B, 4, none⟩ hl') :=
  ⟨s5_setA h.s 3 v' f' r' hl', h.o.keeps (keeps518 w B _ v' f' _ hl') (by omega), h.z.keeps (keeps518 w B _ v' f' _ hl') (by omega)⟩
theorem o4_all (h : Row w B 4 (o4 k a b u)) : w.cell? ⟨B, 0, none⟩ = some (.int .i64 k) ∧ w.cell? ⟨B, 1, none⟩ = some (.int .i64 a) ∧ w.cell? ⟨B, 2, none⟩ = some (.bool b) ∧ w.cell? ⟨B, 3, none⟩ = some (.int .u64 (u : Int)) ∧ B < w.heap.size :=
  ⟨h.cell 0 (by omega), h.cell 1 (by omega), h.cell 2 (by omega), h.cell 3 (by omega), h.lt⟩
theorem TR.put518 {R R' : Nat → Nat} {w1 : World} (t : TR R R' w w1) {q : Nat} (hq : w.heap.size ≤ q) (x0 x1 x2 x3 x4 : Value) : TR R R' w (((((w1.setCell ⟨q, 0, none⟩ x0).setCell ⟨q, 1, none⟩ x1).setCell ⟨q, 2, none⟩ x2).setCell ⟨q, 3, none⟩ x3).setCell ⟨q, 4, none⟩ x4) :=
  ((((t.store hq 0 x0).store hq 1 x1).store hq 2 x2).store hq 3 x3).store hq 4 x4
end
def DoR18 (W0 : World) (D : Nat → Prop) (R : Nat → Nat) (hb pb mb mm n c : Nat) (w : World) (e : Ending) (w' : World) : Prop :=
  ∃ (R' : Nat → Nat) (rm' c' : Nat) (v' f' hl' : Value) (H' : List (Nat × Nat)) (most : Nat), e = .returned (.tuple #[stv18 v' f' (rm' : Int) hl', .int .u64 (most : Int), .bool true]) ∧ PB W0 D R' hb pb mb mm (n + 1) rm' c' v' f' hl' H' w' ∧ TR (rh R pb hb) (rh R' pb hb) w w' ∧ c' ≤ c + most ∧ most ≤ 1000000
section
variable {W0 : World} {D : Nat → Prop} {R R' : Nat → Nat} {hb pb mb mm n rm c B : Nat} {v f hl : Value} {H : List (Nat × Nat)} {w w' : World}
theorem PB.enter (s : PB W0 D R hb pb mb mm n rm c v f hl H w) (k a : Int) (b : Bool) (u : Nat) : ∃ w1, w1 = dw18 w k a b u v f (rm : Int) hl ∧ DX18 w.heap.size k a b u v f (rm : Int) hl w1 ∧ PB W0 (D318 D w.heap.size) R hb pb mb mm n rm c v f hl H w1 ∧ Below w.heap.size w w1 := by
  obtain ⟨h1, h2, h3⟩ := dx_new w k a b u v f (rm : Int) hl
  exact ⟨_, rfl, h1, s.grow h2 (fun j h => h.elim .inl (fun q => .inr q.1)) (fun j h => h.elim (fun q => by
    have : j < w.heap.size := by
      obtain ⟨mad, tk, gn, F, C, V, bz, a, b, L, Fr, s, m, e, eh, st, q', dl, dz, dw⟩ := s
      exact dl j q
    omega) (fun q => by omega)), h2⟩
theorem PB.boxes (s : PB W0 (D318 D B) R hb pb mb mm n rm c v f hl H w) {j : Nat} (h1 : B ≤ j) (h2 : j < B + 3) : rh R pb hb j = 0 := by
  obtain ⟨mad, tk, gn, F, C, V, bz, a, b, L, Fr, s, m, e, eh, st, q', dl, dz, dw⟩ := s
  exact dz j (.inr ⟨h1, h2⟩)
theorem PB.out (s : PB W0 (D318 D B) R hb pb mb mm n rm c v f hl H w) : PB W0 D R hb pb mb mm n rm c v f hl H w := s.less (fun j h => .inl h)
theorem PB.put (s : PB W0 (D318 D B) R hb pb mb mm n rm c v f hl H w) {q : Nat} (h1 : B ≤ q) (h2 : q < B + 3) (x0 x1 x2 x3 x4 : Value) : PB W0 (D318 D B) R hb pb mb mm n rm c v f hl H (((((w.setCell ⟨q, 0, none⟩ x0).setCell ⟨q, 1, none⟩ x1).setCell ⟨q, 2, none⟩ x2).setCell ⟨q, 3, none⟩ x3).setCell ⟨q, 4, none⟩ x4) :=
  s.aside (keeps518 w q x0 x1 x2 x3 x4) (fun j e => .inr (by subst e; exact ⟨h1, h2⟩))
theorem DX18.trb {k a r : Int} {b : Bool} {u B : Nat} {v0 f0 hl0 : Value} (h : DX18 B k a b u v0 f0 r hl0 w) (s : PB W0 (D318 D B) R hb pb mb mm n rm c v f hl H w) (t : TR (rh R pb hb) (rh R' pb hb) w w') : DX18 B k a b u v0 f0 r hl0 w' :=
  ⟨h.s.tr t (s.boxes (Nat.le_refl _) (by omega)), h.o.tr t (s.boxes (by omega) (by omega)), h.z.tr t (s.boxes (by omega) (by omega))⟩
theorem PB.up (s : PB W0 D R hb pb mb mm n rm c v f hl H w) (h9 : n < 400) : PB W0 D R hb pb mb mm (n + 1) rm c v f hl H w := by
  obtain ⟨mad, tk, gn, F, C, V, bz, a, b, L, Fr, s, m, e, eh, st, q, dl, dz, dw⟩ := s
  exact ⟨mad, tk, gn, F, C, V, bz, a, b, L, Fr, s.up (by omega), m.up, e, eh, st, q, dl, dz, dw⟩
set_option maxRecDepth 100000 in
set_option maxHeartbeats 1000000 in
theorem do18_drop (a : Int) (b : Bool) (u : Nat) (t : Int) (h9 : n < 400) (s : PB W0 D R hb pb mb mm n rm c v f hl H w) :
    Calls Tryz.prog 10 #[at0 hb, stv18 v f (rm : Int) hl, ov18 1 a b u, .int .i64 t] w (DoR18 W0 D R hb pb mb mm n c w) := by
  obtain ⟨⟨va, vn, vc, rfl⟩, ⟨fa, fn, fc, rfl⟩, ⟨ha, hc, rfl⟩⟩ := s.slices
  obtain ⟨w1, hw1, X1, s1, B1⟩ := s.enter 1 a b u
  obtain ⟨cd, DR⟩ := s1.drop h9 t
  have DRh := Lib.hid DR
  have S1 := Lib.hid s1
  clear DR s
  unfold DoR18
  go_enter Tryz.func10, Tryz.ntmps10
  go_upto_region 1 with fail
  replace hw1 : w1 = ((w.alloc (.cells #[.int .i64 3, .slice va vn vc, .slice fa fn fc, .int .i64 (rm : Int), .slice ha H.length hc] 34)).alloc (.cells #[.int .i64 1, .int .i64 a, .bool b, .int .u64 (u : Int)] 46)).alloc (.cells #[.int .i64 0, .slice none 0 0, .slice none 0 0, .int .i64 0, .slice none 0 0] 34) := hw1
  rw [← hw1]
  clear hw1
  obtain ⟨o0, o1, o2, o3, ol⟩ := o4_all X1.o
  go_upto_region 5 with (go_at_call 19; with_reducible refine DRh.out.mono ?_; rintro e w2 ⟨c', rfl, l2, t2, RD⟩)
  have X2 := X1.trb S1.out t2
  have T2 := (TR.of B1).trans t2
  clear X1 t2 o0 o1 o2 o3 ol
  obtain ⟨q0, q1, q2, q3, q4, qf, ql⟩ := s5_all X2.s
  go_upto_region 6 with (go_at_call 30; with_reducible refine (RD _ (Below.refl _ _)).mono ?_; rintro e w3 ⟨v', f', hl', H', rfl, b3, s3⟩; obtain ⟨⟨va', vn', vc', ev⟩, ⟨fa', fn', fc', ef⟩, ⟨ha', hc', eh⟩⟩ := s3.slices; subst ev ef eh; have X3 := X2.below b3; obtain ⟨t0, t1, t2, t3, t4, tf, tl⟩ := s5_all X3.s)
  have lw := B1.size
  have T3 := (T2.below' b3).put518 (q := w.heap.size) (Nat.le_refl _) (.int .i64 3) (.slice va' vn' vc') (.slice fa' fn' fc') (.int .i64 (rm : Int)) (.slice ha' H'.length hc')
  have s4 := s3.put (q := w.heap.size) (Nat.le_refl _) (by omega) (.int .i64 3) (.slice va' vn' vc') (.slice fa' fn' fc') (.int .i64 (rm : Int)) (.slice ha' H'.length hc')
  have X4 := X3.put (.slice va' vn' vc') (.slice fa' fn' fc') (rm : Int) (.slice ha' H'.length hc')
  clear q0 q1 q2 q3 q4 qf ql t0 t1 t2 t3 t4 tf tl X3 T2 s3 b3 RD X2
  generalize ((((w3.setCell ⟨w.heap.size, 0, none⟩ (.int .i64 3)).setCell ⟨w.heap.size, 1, none⟩ (.slice va' vn' vc')).setCell ⟨w.heap.size, 2, none⟩ (.slice fa' fn' fc')).setCell ⟨w.heap.size, 3, none⟩ (.int .i64 (rm : Int))).setCell ⟨w.heap.size, 4, none⟩ (.slice ha' H'.length hc') = w4 at *
  obtain ⟨q0, q1, q2, q3, q4, qf, ql⟩ := s5_all X4.s
  obtain ⟨z0, z1, z2, z3, z4, zf, zl⟩ := s5_all X4.z
  obtain ⟨y0, y1, y2, y3, y4, yf, yl⟩ := s5_all (s5_setA X4.z 3 (.slice va' vn' vc') (.slice fa' fn' fc') (rm : Int) (.slice ha' H'.length hc'))
  have T5 := Lib.hid (T3.put518 (q := w.heap.size + 1 + 1) (by omega) (.int .i64 3) (.slice va' vn' vc') (.slice fa' fn' fc') (.int .i64 (rm : Int)) (.slice ha' H'.length hc'))
  have s5 := Lib.hid (s4.put (q := w.heap.size + 1 + 1) (by omega) (by omega) (.int .i64 3) (.slice va' vn' vc') (.slice fa' fn' fc') (.int .i64 (rm : Int)) (.slice ha' H'.length hc')).out
  have cc : (cd == cd) = true := by simp
  clear T3 s4 X4
  go_wp2_with fail
  exact bodyPost_ret (v := .tuple #[stv18 (.slice va' vn' vc') (.slice fa' fn' fc') (rm : Int) (.slice ha' H'.length hc'), .int .u64 12, .bool true]) (by simp [results, Tryz.results10, go_sem, y0, y1, y2, y3, y4]) rfl ⟨R, rm, c', _, _, _, H', 12, rfl, s5.out, T5.out, by omega, by decide⟩
set_option maxRecDepth 100000 in
set_option maxHeartbeats 1000000 in
theorem do18_set (a : Int) (b : Bool) (u : Nat) (hu : u < 18446744073709551616) (t : Int) (h9 : n < 400) (s : PB W0 D R hb pb mb mm n rm c v f hl H w) :
    Calls Tryz.prog 10 #[at0 hb, stv18 v f (rm : Int) hl, ov18 3 a b u, .int .i64 t] w (DoR18 W0 D R hb pb mb mm n c w) := by
  obtain ⟨⟨va, vn, vc, rfl⟩, ⟨fa, fn, fc, rfl⟩, ⟨ha, hc, rfl⟩⟩ := s.slices
  obtain ⟨w1, hw1, X1, s1, B1⟩ := s.enter 3 a b u
  obtain ⟨cd, DR⟩ := s1.set h9 t hu
  have DRh := Lib.hid DR
  have S1 := Lib.hid s1
  clear DR s
  unfold DoR18
  go_enter Tryz.func10, Tryz.ntmps10
  go_upto_region 1 with fail
  replace hw1 : w1 = ((w.alloc (.cells #[.int .i64 3, .slice va vn vc, .slice fa fn fc, .int .i64 (rm : Int), .slice ha H.length hc] 34)).alloc (.cells #[.int .i64 3, .int .i64 a, .bool b, .int .u64 (u : Int)] 46)).alloc (.cells #[.int .i64 0, .slice none 0 0, .slice none 0 0, .int .i64 0, .slice none 0 0] 34) := hw1
  rw [← hw1]
  clear hw1
  obtain ⟨o0, o1, o2, o3, ol⟩ := o4_all X1.o
  go_upto_region 15 with (go_at_call 32; with_reducible refine DRh.out.mono ?_; rintro e w2 ⟨c', rfl, l2, t2, RD⟩)
  have X2 := X1.trb S1.out t2
  have T2 := (TR.of B1).trans t2
  clear X1 t2 o0 o1 o2 o3 ol
  obtain ⟨q0, q1, q2, q3, q4, qf, ql⟩ := s5_all X2.s
  obtain ⟨o0, o1, o2, o3, ol⟩ := o4_all X2.o
  go_upto_region 16 with (go_at_call 33; with_reducible refine (RD _ (Below.refl _ _)).mono ?_; rintro e w3 ⟨v', f', hl', H', rfl, b3, s3⟩; obtain ⟨⟨va', vn', vc', ev⟩, ⟨fa', fn', fc', ef⟩, ⟨ha', hc', eh⟩⟩ := s3.slices; subst ev ef eh; have X3 := X2.below b3; obtain ⟨t0, t1, t2, t3, t4, tf, tl⟩ := s5_all X3.s)
  have lw := B1.size
  have T3 := (T2.below' b3).put518 (q := w.heap.size) (Nat.le_refl _) (.int .i64 3) (.slice va' vn' vc') (.slice fa' fn' fc') (.int .i64 (rm : Int)) (.slice ha' H'.length hc')
  have s4 := s3.put (q := w.heap.size) (Nat.le_refl _) (by omega) (.int .i64 3) (.slice va' vn' vc') (.slice fa' fn' fc') (.int .i64 (rm : Int)) (.slice ha' H'.length hc')
  have X4 := X3.put (.slice va' vn' vc') (.slice fa' fn' fc') (rm : Int) (.slice ha' H'.length hc')
  clear q0 q1 q2 q3 q4 qf ql t0 t1 t2 t3 t4 tf tl X3 T2 s3 b3 RD X2 o0 o1 o2 o3 ol
  generalize ((((w3.setCell ⟨w.heap.size, 0, none⟩ (.int .i64 3)).setCell ⟨w.heap.size, 1, none⟩ (.slice va' vn' vc')).setCell ⟨w.heap.size, 2, none⟩ (.slice fa' fn' fc')).setCell ⟨w.heap.size, 3, none⟩ (.int .i64 (rm : Int))).setCell ⟨w.heap.size, 4, none⟩ (.slice ha' H'.length hc') = w4 at *
  obtain ⟨q0, q1, q2, q3, q4, qf, ql⟩ := s5_all X4.s
  obtain ⟨z0, z1, z2, z3, z4, zf, zl⟩ := s5_all X4.z
  obtain ⟨y0, y1, y2, y3, y4, yf, yl⟩ := s5_all (s5_setA X4.z 3 (.slice va' vn' vc') (.slice fa' fn' fc') (rm : Int) (.slice ha' H'.length hc'))
  have T5 := Lib.hid (T3.put518 (q := w.heap.size + 1 + 1) (by omega) (.int .i64 3) (.slice va' vn' vc') (.slice fa' fn' fc') (.int .i64 (rm : Int)) (.slice ha' H'.length hc'))
  have s5 := Lib.hid (s4.put (q := w.heap.size + 1 + 1) (by omega) (by omega) (.int .i64 3) (.slice va' vn' vc') (.slice fa' fn' fc') (.int .i64 (rm : Int)) (.slice ha' H'.length hc')).out
  have cc : (cd == cd) = true := by simp
  clear T3 s4 X4
  go_wp2_with fail
  exact bodyPost_ret (v := .tuple #[stv18 (.slice va' vn' vc') (.slice fa' fn' fc') (rm : Int) (.slice ha' H'.length hc'), .int .u64 6, .bool true]) (by simp [results, Tryz.results10, go_sem, y0, y1, y2, y3, y4]) rfl ⟨R, rm, c', _, _, _, H', 6, rfl, s5.out, T5.out, by omega, by decide⟩
end
end Go.Proofs.YtdenhhokckjjaaaGreat
