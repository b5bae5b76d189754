/-
  haymowlaw10.do: a number is given back; a word is set.
-/
import Derived.Test.YthigcabmmhjooaaPlaysB
import Derived.Deep.DeepCutAuto
import Derived.Deep.RegionLaw
namespace Go.Proofs.Ythigcabmmhjooaa
open Go.RowKit
set_option linter.unusedVariables false

set_option maxRecDepth 100000 in
set_option maxHeartbeats 4000000 in
theorem do_give (W0 : World) (D R : Nat → Nat) (pb mb mm W k rm a b : Nat) (v f : Value) (L : List Ent) (Fr : List Nat) (w : World) (oa ob : Int) (ow : Nat) (S : Bo W0 D R pb mb mm W k rm a b v f L Fr w) (hk : k ≤ 79) :
    Calls Try.prog 9 #[at0 pb, estv (W : Int) v f (rm : Int), opv ⟨1, oa, ob, ow⟩] w (DoE W0 D R pb mb mm W k a b w) := by
  obtain ⟨w1, hw1, d1, S1, B1⟩ := S.enter ⟨1, oa, ob, ow⟩
  have lo := S.low
  obtain ⟨va, vc, rfl⟩ := S.st.el.slice
  obtain ⟨fa, fc, rfl⟩ := S.st.fl.slice
  obtain ⟨cc, a', b', L', Fr', hb, C⟩ := S1.give hk oa
  have CH := Lib.hid C
  have HB := Lib.hid hb
  clear C S hb
  obtain ⟨s0, s1, s2, s3, sf, sl⟩ := er_all d1.s
  obtain ⟨o0, o1, o2, o3, ol⟩ := o4_all d1.o
  dsimp only at o0 o1 o2 o3 hw1
  go_enter Try.func9, Try.ntmps9
  go_upto_region 1 with fail
  rw [← hw1]
  clear hw1
  go_wp2_with fail
  with_reducible refine CH.out.mono ?_
  rintro e w2 ⟨R', rfl, T2, C2⟩
  dsimp only
  have d2 := d1.tr T2 (fun j h1 h2 => S1.boxes j h1 h2)
  have CH2 := Lib.hid C2
  have TT := Lib.hid ((TR.of B1).trans T2)
  clear C2 S1 CH T2 B1 d1 s0 s1 s2 s3 sf sl o0 o1 o2 o3 ol
  obtain ⟨s0, s1, s2, s3, sf, sl⟩ := er_all d2.s
  obtain ⟨o0, o1, o2, o3, ol⟩ := o4_all d2.o
  dsimp only at o0 o1 o2 o3
  go_wp2_with fail
  with_reducible refine CH2.out.mono ?_
  rintro e w3 ⟨v', f', rfl, b3, S3⟩
  dsimp only
  obtain ⟨va', vc', rfl⟩ := S3.st.el.slice
  obtain ⟨fa', fc', rfl⟩ := S3.st.fl.slice
  have d3 := d2.below b3
  have d4 := d3.put (W : Int) (rm : Int) (.slice va' L'.length vc') (.slice fa' Fr'.length fc')
  have S4 := S3.store4 (q := w.heap.size) (dbx_in (Nat.le_refl _) (by omega)) lo (.int .i64 (W : Int)) (.slice va' L'.length vc') (.slice fa' Fr'.length fc') (.int .i64 (rm : Int))
  have T4 := (TT.out.below' b3).put4 (q := w.heap.size) (Nat.le_refl _) (.int .i64 (W : Int)) (.slice va' L'.length vc') (.slice fa' Fr'.length fc') (.int .i64 (rm : Int))
  clear s0 s1 s2 s3 sf sl o0 o1 o2 o3 ol d2 S3 b3 CH2 TT
  obtain ⟨s0, s1, s2, s3, sf, sl⟩ := er_all d3.s
  clear d3
  go_upto_region 11 with fail
  generalize (((w3.setCell ⟨w.heap.size, 0, none⟩ (.int .i64 (W : Int))).setCell ⟨w.heap.size, 1, none⟩ (.slice va' L'.length vc')).setCell ⟨w.heap.size, 2, none⟩ (.slice fa' Fr'.length fc')).setCell ⟨w.heap.size, 3, none⟩ (.int .i64 (rm : Int)) = w4 at *
  clear s0 s1 s2 s3 sf sl
  obtain ⟨s0, s1, s2, s3, sf, sl⟩ := er_all d4.s
  obtain ⟨z0, z1, z2, z3, zf, zl⟩ := er_all d4.z
  have Z5 := er_set d4.z (W : Int) (.slice va' L'.length vc') (.slice fa' Fr'.length fc') (rm : Int)
  have S5 := S4.store4 (q := w.heap.size + 1 + 1) (dbx_in (by omega) (by omega)) (by omega) (.int .i64 (W : Int)) (.slice va' L'.length vc') (.slice fa' Fr'.length fc') (.int .i64 (rm : Int))
  have T5 := T4.put4 (q := w.heap.size + 1 + 1) (by omega) (.int .i64 (W : Int)) (.slice va' L'.length vc') (.slice fa' Fr'.length fc') (.int .i64 (rm : Int))
  obtain ⟨y0, y1, y2, y3, yf, yl⟩ := er_all Z5
  have FIN : DoE W0 D R pb mb mm W k a b w (.returned (.tuple #[estv (W : Int) (.slice va' L'.length vc') (.slice fa' Fr'.length fc') (rm : Int), .int .u64 3, .bool true])) _ := ⟨R', rm, a', b', _, _, L', Fr', 3, rfl, S5.out, T5, HB.out.1, HB.out.2.1, HB.out.2.2, by omega⟩
  have FIN := Lib.hid FIN
  clear S4 T4 d4 Z5 S5 T5 HB
  go_wp2_with fail
  exact bodyPost_ret (v := .tuple #[estv (W : Int) (.slice va' L'.length vc') (.slice fa' Fr'.length fc') (rm : Int), .int .u64 3, .bool true]) (by simp [results, Try.results9, go_sem, y0, y1, y2, y3]) rfl FIN.out
set_option maxRecDepth 100000 in
set_option maxHeartbeats 4000000 in
theorem do_set (W0 : World) (D R : Nat → Nat) (pb mb mm W k rm a b : Nat) (v f : Value) (L : List Ent) (Fr : List Nat) (w : World) (oa ob : Int) (ow : Nat) (hx : ow < 18446744073709551616) (S : Bo W0 D R pb mb mm W k rm a b v f L Fr w) (hk : k ≤ 79) :
    Calls Try.prog 9 #[at0 pb, estv (W : Int) v f (rm : Int), opv ⟨3, oa, ob, ow⟩] w (DoE W0 D R pb mb mm W k a b w) := by
  obtain ⟨w1, hw1, d1, S1, B1⟩ := S.enter ⟨3, oa, ob, ow⟩
  have lo := S.low
  obtain ⟨va, vc, rfl⟩ := S.st.el.slice
  obtain ⟨fa, fc, rfl⟩ := S.st.fl.slice
  obtain ⟨cc, a', b', L', Fr', hb, C⟩ := S1.set hk oa ob ow hx
  have CH := Lib.hid C
  have HB := Lib.hid hb
  clear C S hb
  obtain ⟨s0, s1, s2, s3, sf, sl⟩ := er_all d1.s
  obtain ⟨o0, o1, o2, o3, ol⟩ := o4_all d1.o
  dsimp only at o0 o1 o2 o3 hw1
  go_enter Try.func9, Try.ntmps9
  go_upto_region 1 with fail
  rw [← hw1]
  clear hw1
  go_wp2_with fail
  with_reducible refine CH.out.mono ?_
  rintro e w2 ⟨R', rfl, T2, C2⟩
  dsimp only
  have d2 := d1.tr T2 (fun j h1 h2 => S1.boxes j h1 h2)
  have CH2 := Lib.hid C2
  have TT := Lib.hid ((TR.of B1).trans T2)
  clear C2 S1 CH T2 B1 d1 s0 s1 s2 s3 sf sl o0 o1 o2 o3 ol
  obtain ⟨s0, s1, s2, s3, sf, sl⟩ := er_all d2.s
  obtain ⟨o0, o1, o2, o3, ol⟩ := o4_all d2.o
  dsimp only at o0 o1 o2 o3
  go_wp2_with fail
  with_reducible refine CH2.out.mono ?_
  rintro e w3 ⟨v', f', rfl, b3, S3⟩
  dsimp only
  obtain ⟨va', vc', rfl⟩ := S3.st.el.slice
  obtain ⟨fa', fc', rfl⟩ := S3.st.fl.slice
  have d3 := d2.below b3
  have d4 := d3.put (W : Int) (rm : Int) (.slice va' L'.length vc') (.slice fa' Fr'.length fc')
  have S4 := S3.store4 (q := w.heap.size) (dbx_in (Nat.le_refl _) (by omega)) lo (.int .i64 (W : Int)) (.slice va' L'.length vc') (.slice fa' Fr'.length fc') (.int .i64 (rm : Int))
  have T4 := (TT.out.below' b3).put4 (q := w.heap.size) (Nat.le_refl _) (.int .i64 (W : Int)) (.slice va' L'.length vc') (.slice fa' Fr'.length fc') (.int .i64 (rm : Int))
  clear s0 s1 s2 s3 sf sl o0 o1 o2 o3 ol d2 S3 b3 CH2 TT
  obtain ⟨s0, s1, s2, s3, sf, sl⟩ := er_all d3.s
  clear d3
  go_upto_region 22 with fail
  generalize (((w3.setCell ⟨w.heap.size, 0, none⟩ (.int .i64 (W : Int))).setCell ⟨w.heap.size, 1, none⟩ (.slice va' L'.length vc')).setCell ⟨w.heap.size, 2, none⟩ (.slice fa' Fr'.length fc')).setCell ⟨w.heap.size, 3, none⟩ (.int .i64 (rm : Int)) = w4 at *
  clear s0 s1 s2 s3 sf sl
  obtain ⟨s0, s1, s2, s3, sf, sl⟩ := er_all d4.s
  obtain ⟨z0, z1, z2, z3, zf, zl⟩ := er_all d4.z
  have Z5 := er_set d4.z (W : Int) (.slice va' L'.length vc') (.slice fa' Fr'.length fc') (rm : Int)
  have S5 := S4.store4 (q := w.heap.size + 1 + 1) (dbx_in (by omega) (by omega)) (by omega) (.int .i64 (W : Int)) (.slice va' L'.length vc') (.slice fa' Fr'.length fc') (.int .i64 (rm : Int))
  have T5 := T4.put4 (q := w.heap.size + 1 + 1) (by omega) (.int .i64 (W : Int)) (.slice va' L'.length vc') (.slice fa' Fr'.length fc') (.int .i64 (rm : Int))
  obtain ⟨y0, y1, y2, y3, yf, yl⟩ := er_all Z5
  have FIN : DoE W0 D R pb mb mm W k a b w (.returned (.tuple #[estv (W : Int) (.slice va' L'.length vc') (.slice fa' Fr'.length fc') (rm : Int), .int .u64 2, .bool true])) _ := ⟨R', rm, a', b', _, _, L', Fr', 2, rfl, S5.out, T5, HB.out.1, HB.out.2.1, HB.out.2.2, by omega⟩
  have FIN := Lib.hid FIN
  clear S4 T4 d4 Z5 S5 T5 HB
  go_wp2_with fail
  exact bodyPost_ret (v := .tuple #[estv (W : Int) (.slice va' L'.length vc') (.slice fa' Fr'.length fc') (rm : Int), .int .u64 2, .bool true]) (by simp [results, Try.results9, go_sem, y0, y1, y2, y3]) rfl FIN.out
end Go.Proofs.Ythigcabmmhjooaa
