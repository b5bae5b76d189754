/-
  haymowlaw15.do: Add, Write, Begin, Grey, Sweep, Mark at both.
-/
import Derived.Test.YtlaldnfaeoimfaaGreatDuoB
namespace Go.Proofs.YtlaldnfaeoimfaaGreat
open Go.RowKit
set_option linter.unusedVariables false

theorem DX.finz {W0 : World} {D R0 R : Nat → Nat} {pb lb mb mm n rm a b a0 b0 : Nat} {e f u h i : Value} {td : Nat} {L : List Ent} {Fr : List Nat} {Ws : List (List Nat)} {M O : List Nat} {w0 w : World} (z : DRow w (w0.heap.size + 1 + 1) 0 0 (.slice none 0 0) (.slice none 0 0) (.slice none 0 0) (.slice none 0 0) (.slice none 0 0) 0) (q : B15 W0 (dbx15 D w0.heap.size) R pb lb mb mm (n + 1) rm a b e f u h i td L Fr Ws M O w) (t : TR (rl R0 pb lb) (rl R pb lb) w0 w) (lo : W0.heap.size ≤ w0.heap.size) (m : Nat) (h1 : a + b ≤ a0 + b0 + m) (h2 : m ≤ 1000) :
    let w' := ((((((((w.setCell ⟨w0.heap.size + 1 + 1, 0, none⟩ (.int .i64 5)).setCell ⟨w0.heap.size + 1 + 1, 1, none⟩ e).setCell ⟨w0.heap.size + 1 + 1, 2, none⟩ f).setCell ⟨w0.heap.size + 1 + 1, 3, none⟩ (.int .i64 rm)).setCell ⟨w0.heap.size + 1 + 1, 4, none⟩ u).setCell ⟨w0.heap.size + 1 + 1, 5, none⟩ h).setCell ⟨w0.heap.size + 1 + 1, 6, none⟩ i).setCell ⟨w0.heap.size + 1 + 1, 7, none⟩ (.int .i64 td))
    DRow w' (w0.heap.size + 1 + 1) 5 rm e f u h i td ∧ DoE15 W0 D R0 pb lb mb mm n a0 b0 w0 (.returned (.tuple #[dsv rm e f u h i td, .int .u64 (m : Int), .bool true])) w' :=
  ⟨dr_set z 5 rm e f u h i td, R, rm, a, b, e, f, u, h, i, td, L, Fr, Ws, M, O, m, rfl, (q.put (dbx15_in (by omega) (by omega)) (Nat.le_trans lo (by omega)) (keeps8 w _ _ _ _ _ _ _ _ _)).less (fun j hj => dbx15_of hj), TR.put8 t (by omega) _ _ _ _ _ _ _ _, h1, h2⟩
theorem sweep_nums {z : Nat} (h : z ≤ 60) : ∃ q : Nat, 16 * z = q ∧ wrap64 (16 * (z : Int)) = (q : Int) ∧ IntKind.u64.wrap (q : Int) = (q : Int) ∧ q ≤ 1000 := ⟨16 * z, rfl, by unfold wrap64; omega, by rw [IntKind.wrap_u64]; omega, by omega⟩
section
variable {W0 : World} {D R : Nat → Nat} {pb lb mb mm n rm a b : Nat} {e f u h i : Value} {td : Nat} {L : List Ent} {Fr : List Nat} {Ws : List (List Nat)} {M O : List Nat}
set_option maxRecDepth 100000 in
set_option maxHeartbeats 4000000 in
theorem do15_add (oa ob on : Int) (ow : Nat) (w : World) (h2 : on ≤ 9223372036854775807) (S : B15 W0 D R pb lb mb mm n rm a b e f u h i td L Fr Ws M O w) (hn : n ≤ 59) :
    Calls Tryz.prog 9 #[at0 lb, dsv rm e f u h i td, opv15 ⟨0, oa, ob, on, ow⟩] w (DoE15 W0 D R pb lb mb mm n a b w) := by
  have X1 := DX.start S ⟨0, oa, ob, on, ow⟩
  have lo := S.low
  obtain ⟨id, c, C⟩ := X1.q.add (by omega) on h2
  have CH := Lib.hid C
  clear C h2
  obtain ⟨ea, ec, fa, fc, ua, uc, ha, hc, ia, ic, rfl, rfl, rfl, rfl, rfl⟩ := S.d.forms
  clear S
  go_enter Tryz.func9, Tryz.ntmps9
  go_upto_region 1 with fail
  dsimp only at X1
  generalize ((w.alloc (.cells #[.int .i64 5, .slice ea L.length ec, .slice fa Fr.length fc, .int .i64 rm, .slice ua Ws.length uc, .slice ha M.length hc, .slice ia O.length ic, .int .i64 td] 35)).alloc (.cells #[.int .i64 0, .int .i64 oa, .int .i64 ob, .int .i64 on, .int .u64 (ow : Int)] 48)).alloc (.cells #[.int .i64 0, .slice none 0 0, .slice none 0 0, .int .i64 0, .slice none 0 0, .slice none 0 0, .slice none 0 0, .int .i64 0] 35) = w1 at *
  obtain ⟨s0, s1, s2, s3, s4, s5, s6, s7, sf, sl⟩ := dr_all X1.s
  obtain ⟨o0, o1, o2, o3, o4, ol⟩ := o5_all X1.o
  dsimp only at o0 o1 o2 o3 o4
  go_wp2_with fail
  with_reducible refine CH.out.mono ?_
  rintro y w2 ⟨R', a', b', rfl, hs, T2, C2⟩
  dsimp only
  obtain ⟨d1, d2, d3⟩ := X1.cells T2
  have CH2 := Lib.hid (C2 w2 (Below.refl _ _))
  have HS := Lib.hid hs
  have X1 := Lib.hid X1
  clear s0 s1 s2 s3 s4 s5 s6 s7 sf sl o0 o1 o2 o3 o4 ol C2 CH hs
  obtain ⟨s0, s1, s2, s3, s4, s5, s6, s7, sf, sl⟩ := dr_all d1
  obtain ⟨o0, o1, o2, o3, o4, ol⟩ := o5_all d2
  dsimp only at o0 o1 o2 o3 o4
  go_wp2_with fail
  with_reducible refine CH2.out.mono ?_
  rintro y w3 ⟨rm', e', f', u', h', L', Fr', Ws', M', rfl, b3, q3⟩
  dsimp only
  obtain ⟨ea', ec', fa', fc', ua', uc', ha', hc', ia', ic', rfl, rfl, rfl, rfl, ei⟩ := q3.d.forms
  have X4 := X1.out.both T2 b3 q3
  have d4 := d1.below b3
  clear s0 s1 s2 s3 s4 s5 s6 s7 sf sl o0 o1 o2 o3 o4 ol X1 T2 b3 q3 CH2 d1 d2 d3
  obtain ⟨s0, s1, s2, s3, s4, s5, s6, s7, sf, sl⟩ := dr_all d4
  go_upto_region 6 with fail
  generalize (((((((w3.setCell ⟨w.heap.size, 0, none⟩ (.int .i64 5)).setCell ⟨w.heap.size, 1, none⟩ (.slice ea' L'.length ec')).setCell ⟨w.heap.size, 2, none⟩ (.slice fa' Fr'.length fc')).setCell ⟨w.heap.size, 3, none⟩ (.int .i64 rm')).setCell ⟨w.heap.size, 4, none⟩ (.slice ua' Ws'.length uc')).setCell ⟨w.heap.size, 5, none⟩ (.slice ha' M'.length hc')).setCell ⟨w.heap.size, 6, none⟩ (.slice ia O.length ic)).setCell ⟨w.heap.size, 7, none⟩ (.int .i64 td) = w4 at *
  clear s0 s1 s2 s3 s4 s5 s6 s7 sf sl d4
  obtain ⟨s0, s1, s2, s3, s4, s5, s6, s7, sf, sl⟩ := dr_all X4.s
  obtain ⟨z0, z1, z2, z3, z4, z5, z6, z7, zf, zl⟩ := dr_all X4.z
  obtain ⟨R8, FIN1⟩ := X4.fin (a0 := a) (b0 := b) 24 HS.out (by decide)
  have FIN1 : DoE15 W0 D R pb lb mb mm n a b w (.returned (.tuple #[dsv rm' (.slice ea' L'.length ec') (.slice fa' Fr'.length fc') (.slice ua' Ws'.length uc') (.slice ha' M'.length hc') (.slice ia O.length ic) td, .int .u64 24, .bool true])) _ := FIN1
  have FIN := Lib.hid FIN1
  obtain ⟨y0, y1, y2, y3, y4, y5, y6, y7, yf, yl⟩ := dr_all R8
  clear X4 R8 FIN1
  go_wp2_with fail
  exact bodyPost_ret (v := .tuple #[dsv rm' (.slice ea' L'.length ec') (.slice fa' Fr'.length fc') (.slice ua' Ws'.length uc') (.slice ha' M'.length hc') (.slice ia O.length ic) td, .int .u64 24, .bool true]) (by simp [results, Tryz.results9, go_sem, y0, y1, y2, y3, y4, y5, y6, y7]) rfl FIN.out
set_option maxRecDepth 100000 in
set_option maxHeartbeats 4000000 in
theorem do15_write (oa ob on : Int) (ow : Nat) (w : World) (h2 : ob ≤ 9223372036854775807) (S : B15 W0 D R pb lb mb mm n rm a b e f u h i td L Fr Ws M O w) (hn : n ≤ 59) :
    Calls Tryz.prog 9 #[at0 lb, dsv rm e f u h i td, opv15 ⟨1, oa, ob, on, ow⟩] w (DoE15 W0 D R pb lb mb mm n a b w) := by
  have X1 := DX.start S ⟨1, oa, ob, on, ow⟩
  have lo := S.low
  have CH := Lib.hid (X1.q.write (by omega) oa ob h2 ow)
  obtain ⟨c, hc0⟩ : ∃ c, dwv L Ws oa ob = c := ⟨_, rfl⟩
  rw [hc0] at CH
  clear hc0 h2
  obtain ⟨ea, ec, fa, fc, ua, uc, ha, hc, ia, ic, rfl, rfl, rfl, rfl, rfl⟩ := S.d.forms
  clear S
  go_enter Tryz.func9, Tryz.ntmps9
  go_upto_region 1 with fail
  dsimp only at X1
  generalize ((w.alloc (.cells #[.int .i64 5, .slice ea L.length ec, .slice fa Fr.length fc, .int .i64 rm, .slice ua Ws.length uc, .slice ha M.length hc, .slice ia O.length ic, .int .i64 td] 35)).alloc (.cells #[.int .i64 1, .int .i64 oa, .int .i64 ob, .int .i64 on, .int .u64 (ow : Int)] 48)).alloc (.cells #[.int .i64 0, .slice none 0 0, .slice none 0 0, .int .i64 0, .slice none 0 0, .slice none 0 0, .slice none 0 0, .int .i64 0] 35) = w1 at *
  obtain ⟨s0, s1, s2, s3, s4, s5, s6, s7, sf, sl⟩ := dr_all X1.s
  obtain ⟨o0, o1, o2, o3, o4, ol⟩ := o5_all X1.o
  dsimp only at o0 o1 o2 o3 o4
  go_wp2_with fail
  with_reducible refine CH.out.mono ?_
  rintro y w2 ⟨a', b', rfl, hs, T2, C2⟩
  dsimp only
  obtain ⟨d1, d2, d3⟩ := X1.cells T2
  have CH2 := Lib.hid (C2 w2 (Below.refl _ _))
  have HS := Lib.hid hs
  have X1 := Lib.hid X1
  clear s0 s1 s2 s3 s4 s5 s6 s7 sf sl o0 o1 o2 o3 o4 ol C2 CH hs
  obtain ⟨s0, s1, s2, s3, s4, s5, s6, s7, sf, sl⟩ := dr_all d1
  obtain ⟨o0, o1, o2, o3, o4, ol⟩ := o5_all d2
  dsimp only at o0 o1 o2 o3 o4
  go_wp2_with fail
  with_reducible refine CH2.out.mono ?_
  rintro y w3 ⟨u', Ws', rfl, b3, q3⟩
  dsimp only
  obtain ⟨ea', ec', fa', fc', ua', uc', ha', hc', ia', ic', ee, ef, rfl, eh, ei⟩ := q3.d.forms
  have X4 := X1.out.both T2 b3 q3
  have d4 := d1.below b3
  clear s0 s1 s2 s3 s4 s5 s6 s7 sf sl o0 o1 o2 o3 o4 ol X1 T2 b3 q3 CH2 d1 d2 d3
  obtain ⟨s0, s1, s2, s3, s4, s5, s6, s7, sf, sl⟩ := dr_all d4
  go_upto_region 10 with fail
  generalize (((((((w3.setCell ⟨w.heap.size, 0, none⟩ (.int .i64 5)).setCell ⟨w.heap.size, 1, none⟩ (.slice ea L.length ec)).setCell ⟨w.heap.size, 2, none⟩ (.slice fa Fr.length fc)).setCell ⟨w.heap.size, 3, none⟩ (.int .i64 rm)).setCell ⟨w.heap.size, 4, none⟩ (.slice ua' Ws'.length uc')).setCell ⟨w.heap.size, 5, none⟩ (.slice ha M.length hc)).setCell ⟨w.heap.size, 6, none⟩ (.slice ia O.length ic)).setCell ⟨w.heap.size, 7, none⟩ (.int .i64 td) = w4 at *
  clear s0 s1 s2 s3 s4 s5 s6 s7 sf sl d4
  obtain ⟨s0, s1, s2, s3, s4, s5, s6, s7, sf, sl⟩ := dr_all X4.s
  obtain ⟨z0, z1, z2, z3, z4, z5, z6, z7, zf, zl⟩ := dr_all X4.z
  obtain ⟨R8, FIN1⟩ := X4.fin (a0 := a) (b0 := b) 3 HS.out (by decide)
  have FIN1 : DoE15 W0 D R pb lb mb mm n a b w (.returned (.tuple #[dsv rm (.slice ea L.length ec) (.slice fa Fr.length fc) (.slice ua' Ws'.length uc') (.slice ha M.length hc) (.slice ia O.length ic) td, .int .u64 3, .bool true])) _ := FIN1
  have FIN := Lib.hid FIN1
  obtain ⟨y0, y1, y2, y3, y4, y5, y6, y7, yf, yl⟩ := dr_all R8
  clear X4 R8 FIN1
  go_wp2_with fail
  exact bodyPost_ret (v := .tuple #[dsv rm (.slice ea L.length ec) (.slice fa Fr.length fc) (.slice ua' Ws'.length uc') (.slice ha M.length hc) (.slice ia O.length ic) td, .int .u64 3, .bool true]) (by simp [results, Tryz.results9, go_sem, y0, y1, y2, y3, y4, y5, y6, y7]) rfl FIN.out
set_option maxRecDepth 100000 in
set_option maxHeartbeats 4000000 in
theorem do15_grey (oa ob on : Int) (ow : Nat) (w : World) (S : B15 W0 D R pb lb mb mm n rm a b e f u h i td L Fr Ws M O w) (hn : n ≤ 59) :
    Calls Tryz.prog 9 #[at0 lb, dsv rm e f u h i td, opv15 ⟨5, oa, ob, on, ow⟩] w (DoE15 W0 D R pb lb mb mm n a b w) := by
  have X1 := DX.start S ⟨5, oa, ob, on, ow⟩
  have lo := S.low
  obtain ⟨id, k, C⟩ := X1.q.grey (by omega)
  have CH := Lib.hid C
  clear C
  obtain ⟨ea, ec, fa, fc, ua, uc, ha, hc, ia, ic, rfl, rfl, rfl, rfl, rfl⟩ := S.d.forms
  clear S
  go_enter Tryz.func9, Tryz.ntmps9
  go_upto_region 1 with fail
  dsimp only at X1
  generalize ((w.alloc (.cells #[.int .i64 5, .slice ea L.length ec, .slice fa Fr.length fc, .int .i64 rm, .slice ua Ws.length uc, .slice ha M.length hc, .slice ia O.length ic, .int .i64 td] 35)).alloc (.cells #[.int .i64 5, .int .i64 oa, .int .i64 ob, .int .i64 on, .int .u64 (ow : Int)] 48)).alloc (.cells #[.int .i64 0, .slice none 0 0, .slice none 0 0, .int .i64 0, .slice none 0 0, .slice none 0 0, .slice none 0 0, .int .i64 0] 35) = w1 at *
  obtain ⟨s0, s1, s2, s3, s4, s5, s6, s7, sf, sl⟩ := dr_all X1.s
  obtain ⟨o0, o1, o2, o3, o4, ol⟩ := o5_all X1.o
  dsimp only at o0 o1 o2 o3 o4
  go_wp2_with fail
  with_reducible refine CH.out.mono ?_
  rintro y w2 ⟨a', rfl, hs, T2, C2⟩
  dsimp only
  obtain ⟨d1, d2, d3⟩ := X1.cells T2
  have CH2 := Lib.hid (C2 w2 (Below.refl _ _))
  have HS := Lib.hid hs
  have X1 := Lib.hid X1
  clear s0 s1 s2 s3 s4 s5 s6 s7 sf sl o0 o1 o2 o3 o4 ol C2 CH hs
  obtain ⟨s0, s1, s2, s3, s4, s5, s6, s7, sf, sl⟩ := dr_all d1
  obtain ⟨o0, o1, o2, o3, o4, ol⟩ := o5_all d2
  dsimp only at o0 o1 o2 o3 o4
  go_wp2_with fail
  with_reducible refine CH2.out.mono ?_
  rintro y w3 ⟨td', rfl, b3, q3⟩
  dsimp only
  have X4 := X1.out.both T2 b3 q3
  have d4 := d1.below b3
  clear s0 s1 s2 s3 s4 s5 s6 s7 sf sl o0 o1 o2 o3 o4 ol X1 T2 b3 q3 CH2 d1 d2 d3
  obtain ⟨s0, s1, s2, s3, s4, s5, s6, s7, sf, sl⟩ := dr_all d4
  go_upto_region 29 with fail
  generalize (((((((w3.setCell ⟨w.heap.size, 0, none⟩ (.int .i64 5)).setCell ⟨w.heap.size, 1, none⟩ (.slice ea L.length ec)).setCell ⟨w.heap.size, 2, none⟩ (.slice fa Fr.length fc)).setCell ⟨w.heap.size, 3, none⟩ (.int .i64 rm)).setCell ⟨w.heap.size, 4, none⟩ (.slice ua Ws.length uc)).setCell ⟨w.heap.size, 5, none⟩ (.slice ha M.length hc)).setCell ⟨w.heap.size, 6, none⟩ (.slice ia O.length ic)).setCell ⟨w.heap.size, 7, none⟩ (.int .i64 td') = w4 at *
  clear s0 s1 s2 s3 s4 s5 s6 s7 sf sl d4
  obtain ⟨s0, s1, s2, s3, s4, s5, s6, s7, sf, sl⟩ := dr_all X4.s
  obtain ⟨z0, z1, z2, z3, z4, z5, z6, z7, zf, zl⟩ := dr_all X4.z
  obtain ⟨R8, FIN1⟩ := X4.fin (a0 := a) (b0 := b) 1 (by have := HS.out; omega) (by decide)
  have FIN1 : DoE15 W0 D R pb lb mb mm n a b w (.returned (.tuple #[dsv rm (.slice ea L.length ec) (.slice fa Fr.length fc) (.slice ua Ws.length uc) (.slice ha M.length hc) (.slice ia O.length ic) td', .int .u64 1, .bool true])) _ := FIN1
  have FIN := Lib.hid FIN1
  obtain ⟨y0, y1, y2, y3, y4, y5, y6, y7, yf, yl⟩ := dr_all R8
  clear X4 R8 FIN1
  go_wp2_with fail
  exact bodyPost_ret (v := .tuple #[dsv rm (.slice ea L.length ec) (.slice fa Fr.length fc) (.slice ua Ws.length uc) (.slice ha M.length hc) (.slice ia O.length ic) td', .int .u64 1, .bool true]) (by simp [results, Tryz.results9, go_sem, y0, y1, y2, y3, y4, y5, y6, y7]) rfl FIN.out
set_option maxRecDepth 100000 in
set_option maxHeartbeats 4000000 in
theorem do15_sweep (oa ob on : Int) (ow : Nat) (w : World) (S : B15 W0 D R pb lb mb mm n rm a b e f u h i td L Fr Ws M O w) (hn : n ≤ 59) :
    Calls Tryz.prog 9 #[at0 lb, dsv rm e f u h i td, opv15 ⟨6, oa, ob, on, ow⟩] w (DoE15 W0 D R pb lb mb mm n a b w) := by
  have X1 := DX.start S ⟨6, oa, ob, on, ow⟩
  have lo := S.low
  obtain ⟨z, k, hz, C⟩ := X1.q.sweep (by omega)
  have CH := Lib.hid C
  obtain ⟨q, hq, m1, m2, hq2⟩ := sweep_nums hz
  rw [hq] at CH
  have HQ2 := Lib.hid hq2
  clear C hz hq hq2
  obtain ⟨ea, ec, fa, fc, ua, uc, ha, hc, ia, ic, rfl, rfl, rfl, rfl, rfl⟩ := S.d.forms
  clear S
  go_enter Tryz.func9, Tryz.ntmps9
  go_upto_region 1 with fail
  dsimp only at X1
  generalize ((w.alloc (.cells #[.int .i64 5, .slice ea L.length ec, .slice fa Fr.length fc, .int .i64 rm, .slice ua Ws.length uc, .slice ha M.length hc, .slice ia O.length ic, .int .i64 td] 35)).alloc (.cells #[.int .i64 6, .int .i64 oa, .int .i64 ob, .int .i64 on, .int .u64 (ow : Int)] 48)).alloc (.cells #[.int .i64 0, .slice none 0 0, .slice none 0 0, .int .i64 0, .slice none 0 0, .slice none 0 0, .slice none 0 0, .int .i64 0] 35) = w1 at *
  obtain ⟨s0, s1, s2, s3, s4, s5, s6, s7, sf, sl⟩ := dr_all X1.s
  obtain ⟨o0, o1, o2, o3, o4, ol⟩ := o5_all X1.o
  dsimp only at o0 o1 o2 o3 o4
  go_wp2_with fail
  with_reducible refine CH.out.mono ?_
  rintro y w2 ⟨R', a', b', rfl, hs, T2, C2⟩
  dsimp only
  obtain ⟨d1, d2, d3⟩ := X1.cells T2
  have CH2 := Lib.hid (C2 w2 (Below.refl _ _))
  have HS := Lib.hid hs
  have X1 := Lib.hid X1
  clear s0 s1 s2 s3 s4 s5 s6 s7 sf sl o0 o1 o2 o3 o4 ol C2 CH hs
  obtain ⟨s0, s1, s2, s3, s4, s5, s6, s7, sf, sl⟩ := dr_all d1
  obtain ⟨o0, o1, o2, o3, o4, ol⟩ := o5_all d2
  dsimp only at o0 o1 o2 o3 o4
  go_wp2_with fail
  with_reducible refine CH2.out.mono ?_
  rintro y w3 ⟨e', f', L', Fr', rfl, b3, q3⟩
  dsimp only
  obtain ⟨ea', ec', fa', fc', ua', uc', ha', hc', ia', ic', rfl, rfl, eu, eh, ei⟩ := q3.d.forms
  have X4 := X1.out.both T2 b3 q3
  have d4 := d1.below b3
  clear s0 s1 s2 s3 s4 s5 s6 s7 sf sl o0 o1 o2 o3 o4 ol X1 T2 b3 q3 CH2 d1 d2 d3
  obtain ⟨s0, s1, s2, s3, s4, s5, s6, s7, sf, sl⟩ := dr_all d4
  go_upto_region 33 with fail
  generalize (((((((w3.setCell ⟨w.heap.size, 0, none⟩ (.int .i64 5)).setCell ⟨w.heap.size, 1, none⟩ (.slice ea' L'.length ec')).setCell ⟨w.heap.size, 2, none⟩ (.slice fa' Fr'.length fc')).setCell ⟨w.heap.size, 3, none⟩ (.int .i64 rm)).setCell ⟨w.heap.size, 4, none⟩ (.slice ua Ws.length uc)).setCell ⟨w.heap.size, 5, none⟩ (.slice ha M.length hc)).setCell ⟨w.heap.size, 6, none⟩ (.slice none 0 0)).setCell ⟨w.heap.size, 7, none⟩ (.int .i64 td) = w4 at *
  clear s0 s1 s2 s3 s4 s5 s6 s7 sf sl d4
  obtain ⟨s0, s1, s2, s3, s4, s5, s6, s7, sf, sl⟩ := dr_all X4.s
  obtain ⟨z0, z1, z2, z3, z4, z5, z6, z7, zf, zl⟩ := dr_all X4.z
  obtain ⟨R8, FIN1⟩ := X4.fin (a0 := a) (b0 := b) q HS.out (by exact HQ2.out)
  have FIN1 : DoE15 W0 D R pb lb mb mm n a b w (.returned (.tuple #[dsv rm (.slice ea' L'.length ec') (.slice fa' Fr'.length fc') (.slice ua Ws.length uc) (.slice ha M.length hc) (.slice none 0 0) td, .int .u64 (q : Int), .bool true])) _ := FIN1
  have FIN := Lib.hid FIN1
  obtain ⟨y0, y1, y2, y3, y4, y5, y6, y7, yf, yl⟩ := dr_all R8
  clear X4 R8 FIN1
  go_wp2_with fail
  exact bodyPost_ret (v := .tuple #[dsv rm (.slice ea' L'.length ec') (.slice fa' Fr'.length fc') (.slice ua Ws.length uc) (.slice ha M.length hc) (.slice none 0 0) td, .int .u64 (q : Int), .bool true]) (by simp [results, Tryz.results9, go_sem, y0, y1, y2, y3, y4, y5, y6, y7]) rfl FIN.out
set_option maxRecDepth 100000 in
set_option maxHeartbeats 4000000 in
theorem do15_begin (oa ob on : Int) (ow : Nat) (w : World) (S : B15 W0 D R pb lb mb mm n rm a b e f u h i td L Fr Ws M O w) (hn : n ≤ 59) :
    Calls Tryz.prog 9 #[at0 lb, dsv rm e f u h i td, opv15 ⟨3, oa, ob, on, ow⟩] w (DoE15 W0 D R pb lb mb mm n a b w) := by
  have X1 := DX.start S ⟨3, oa, ob, on, ow⟩
  have lo := S.low
  have CH := Lib.hid (X1.q.begin (by omega))
  obtain ⟨ea, ec, fa, fc, ua, uc, ha, hc, ia, ic, rfl, rfl, rfl, rfl, rfl⟩ := S.d.forms
  clear S
  go_enter Tryz.func9, Tryz.ntmps9
  go_upto_region 1 with fail
  dsimp only at X1
  generalize ((w.alloc (.cells #[.int .i64 5, .slice ea L.length ec, .slice fa Fr.length fc, .int .i64 rm, .slice ua Ws.length uc, .slice ha M.length hc, .slice ia O.length ic, .int .i64 td] 35)).alloc (.cells #[.int .i64 3, .int .i64 oa, .int .i64 ob, .int .i64 on, .int .u64 (ow : Int)] 48)).alloc (.cells #[.int .i64 0, .slice none 0 0, .slice none 0 0, .int .i64 0, .slice none 0 0, .slice none 0 0, .slice none 0 0, .int .i64 0] 35) = w1 at *
  obtain ⟨s0, s1, s2, s3, s4, s5, s6, s7, sf, sl⟩ := dr_all X1.s
  obtain ⟨o0, o1, o2, o3, o4, ol⟩ := o5_all X1.o
  dsimp only at o0 o1 o2 o3 o4
  go_wp2_with fail
  with_reducible refine CH.out.mono ?_
  rintro y w2 ⟨b', rfl, hs, T2, C2⟩
  dsimp only
  obtain ⟨d1, d2, d3⟩ := X1.cells T2
  have CH2 := Lib.hid (C2 w2 (Below.refl _ _))
  have HS := Lib.hid hs
  have HT := X1.t
  have TT := Lib.hid (HT.trans T2)
  clear s0 s1 s2 s3 s4 s5 s6 s7 sf sl o0 o1 o2 o3 o4 ol C2 CH hs X1 HT T2
  obtain ⟨s0, s1, s2, s3, s4, s5, s6, s7, sf, sl⟩ := dr_all d1
  go_wp2_with fail
  with_reducible refine CH2.out.mono ?_
  rintro y w3 ⟨i', rfl, b3, q3⟩
  dsimp only
  obtain ⟨ea', ec', fa', fc', ua', uc', ha', hc', ia', ic', ee, ef, eu, eh, rfl⟩ := q3.d.forms
  have d6 := d3.below b3
  obtain ⟨R8, FIN1⟩ := DX.finz (a0 := a) (b0 := b) d6 q3 (TT.out.below' b3) lo 2 (by have := HS.out; omega) (by decide)
  rw [show ((0 : Nat) : Int) = 0 from rfl] at R8 FIN1
  have FIN1 : DoE15 W0 D R pb lb mb mm n a b w (.returned (.tuple #[dsv rm (.slice ea L.length ec) (.slice fa Fr.length fc) (.slice ua Ws.length uc) (.slice none 0 0) (.slice ia' (O ++ M).length ic') 0, .int .u64 2, .bool true])) _ := FIN1
  have FIN := Lib.hid FIN1
  obtain ⟨y0, y1, y2, y3, y4, y5, y6, y7, yf, yl⟩ := dr_all R8
  obtain ⟨z0, z1, z2, z3, z4, z5, z6, z7, zf, zl⟩ := dr_all d6
  obtain ⟨nn, hnn⟩ : ∃ nn, (O ++ M).length = nn := ⟨_, rfl⟩
  rw [hnn] at FIN y6 R8 y0 y1 y2 y3 y4 y5 y7
  clear R8 FIN1 q3 d6 b3 TT
  go_wp2_with fail
  exact bodyPost_ret (v := .tuple #[dsv rm (.slice ea L.length ec) (.slice fa Fr.length fc) (.slice ua Ws.length uc) (.slice none 0 0) (.slice ia' nn ic') 0, .int .u64 2, .bool true]) (by simp [results, Tryz.results9, go_sem, y0, y1, y2, y3, y4, y5, y6, y7]) rfl FIN.out
set_option maxRecDepth 100000 in
set_option maxHeartbeats 4000000 in
theorem do15_mark_no (oa ob on : Int) (ow : Nat) (w : World) (hI : isq L oa = false) (S : B15 W0 D R pb lb mb mm n rm a b e f u h i td L Fr Ws M O w) (hn : n ≤ 59) :
    Calls Tryz.prog 9 #[at0 lb, dsv rm e f u h i td, opv15 ⟨4, oa, ob, on, ow⟩] w (DoE15 W0 D R pb lb mb mm n a b w) := by
  have X1 := DX.start S ⟨4, oa, ob, on, ow⟩
  have lo := S.low
  have CH := Lib.hid (X1.q.mark_no (by omega) hI)
  have IS := Lib.hid (fun w' (q : DT w' (fun j => rl R pb lb j = 0 ∧ dbx15 D w.heap.size j = 0) e f u h i L Fr Ws M O) (hl : L.length ≤ 100000) => by
    have C := dis_any (rm : Int) (td : Int) oa w' q hl
    rw [hI] at C
    exact C)
  clear hI
  obtain ⟨ea, ec, fa, fc, ua, uc, ha, hc, ia, ic, rfl, rfl, rfl, rfl, rfl⟩ := S.d.forms
  clear S
  go_enter Tryz.func9, Tryz.ntmps9
  go_upto_region 1 with fail
  dsimp only at X1
  generalize ((w.alloc (.cells #[.int .i64 5, .slice ea L.length ec, .slice fa Fr.length fc, .int .i64 rm, .slice ua Ws.length uc, .slice ha M.length hc, .slice ia O.length ic, .int .i64 td] 35)).alloc (.cells #[.int .i64 4, .int .i64 oa, .int .i64 ob, .int .i64 on, .int .u64 (ow : Int)] 48)).alloc (.cells #[.int .i64 0, .slice none 0 0, .slice none 0 0, .int .i64 0, .slice none 0 0, .slice none 0 0, .slice none 0 0, .int .i64 0] 35) = w1 at *
  obtain ⟨s0, s1, s2, s3, s4, s5, s6, s7, sf, sl⟩ := dr_all X1.s
  obtain ⟨o0, o1, o2, o3, o4, ol⟩ := o5_all X1.o
  dsimp only at o0 o1 o2 o3 o4
  go_wp2_with fail
  with_reducible refine CH.out.mono ?_
  rintro y w2 ⟨a', rfl, hs, T2, q2⟩
  dsimp only
  have X2 := X1.call T2 q2
  have HS := Lib.hid (show a' + b ≤ a + b + 12 by omega)
  have LL := q2.len
  clear s0 s1 s2 s3 s4 s5 s6 s7 sf sl o0 o1 o2 o3 o4 ol CH hs X1 T2 q2
  obtain ⟨s0, s1, s2, s3, s4, s5, s6, s7, sf, sl⟩ := dr_all X2.s
  obtain ⟨o0, o1, o2, o3, o4, ol⟩ := o5_all X2.o
  dsimp only at o0 o1 o2 o3 o4
  go_wp2_with fail
  with_reducible refine (IS.out _ X2.q.d LL).mono ?_
  rintro y w3 ⟨rfl, b3⟩
  dsimp only
  have X4 := X2.below b3
  clear s0 s1 s2 s3 s4 s5 s6 s7 sf sl o0 o1 o2 o3 o4 ol X2 b3 IS LL
  obtain ⟨s0, s1, s2, s3, s4, s5, s6, s7, sf, sl⟩ := dr_all X4.s
  obtain ⟨z0, z1, z2, z3, z4, z5, z6, z7, zf, zl⟩ := dr_all X4.z
  obtain ⟨R8, FIN1⟩ := X4.fin (a0 := a) (b0 := b) 12 HS.out (by decide)
  have FIN1 : DoE15 W0 D R pb lb mb mm n a b w (.returned (.tuple #[dsv rm (.slice ea L.length ec) (.slice fa Fr.length fc) (.slice ua Ws.length uc) (.slice ha M.length hc) (.slice ia O.length ic) td, .int .u64 12, .bool true])) _ := FIN1
  have FIN := Lib.hid FIN1
  obtain ⟨y0, y1, y2, y3, y4, y5, y6, y7, yf, yl⟩ := dr_all R8
  clear X4 R8 FIN1
  go_wp2_with fail
  exact bodyPost_ret (v := .tuple #[dsv rm (.slice ea L.length ec) (.slice fa Fr.length fc) (.slice ua Ws.length uc) (.slice ha M.length hc) (.slice ia O.length ic) td, .int .u64 12, .bool true]) (by simp [results, Tryz.results9, go_sem, y0, y1, y2, y3, y4, y5, y6, y7]) rfl FIN.out
set_option maxRecDepth 100000 in
set_option maxHeartbeats 4000000 in
theorem do15_mark (oa ob on : Int) (ow : Nat) (w : World) (hI : isq L oa = true) (S : B15 W0 D R pb lb mb mm n rm a b e f u h i td L Fr Ws M O w) (hn : n ≤ 59) :
    Calls Tryz.prog 9 #[at0 lb, dsv rm e f u h i td, opv15 ⟨4, oa, ob, on, ow⟩] w (DoE15 W0 D R pb lb mb mm n a b w) := by
  have X1 := DX.start S ⟨4, oa, ob, on, ow⟩
  have lo := S.low
  obtain ⟨is, C⟩ := X1.q.mark (by omega) hI
  have CH := Lib.hid C
  have IS := Lib.hid (fun w' (q : DT w' (fun j => rl R pb lb j = 0 ∧ dbx15 D w.heap.size j = 0) e f u h i L Fr Ws M O) (hl : L.length ≤ 100000) => by
    have C := dis_any (rm : Int) (td : Int) oa w' q hl
    rw [hI] at C
    exact C)
  have LL := X1.q.len
  clear hI C
  obtain ⟨ea, ec, fa, fc, ua, uc, ha, hc, ia, ic, rfl, rfl, rfl, rfl, rfl⟩ := S.d.forms
  clear S
  go_enter Tryz.func9, Tryz.ntmps9
  go_upto_region 1 with fail
  dsimp only at X1
  generalize ((w.alloc (.cells #[.int .i64 5, .slice ea L.length ec, .slice fa Fr.length fc, .int .i64 rm, .slice ua Ws.length uc, .slice ha M.length hc, .slice ia O.length ic, .int .i64 td] 35)).alloc (.cells #[.int .i64 4, .int .i64 oa, .int .i64 ob, .int .i64 on, .int .u64 (ow : Int)] 48)).alloc (.cells #[.int .i64 0, .slice none 0 0, .slice none 0 0, .int .i64 0, .slice none 0 0, .slice none 0 0, .slice none 0 0, .int .i64 0] 35) = w1 at *
  obtain ⟨s0, s1, s2, s3, s4, s5, s6, s7, sf, sl⟩ := dr_all X1.s
  obtain ⟨o0, o1, o2, o3, o4, ol⟩ := o5_all X1.o
  dsimp only at o0 o1 o2 o3 o4
  go_wp2_with fail
  with_reducible refine CH.out.mono ?_
  rintro y w2 ⟨a', b', rfl, hs, T2, D2, C2⟩
  dsimp only
  obtain ⟨d1, d2, d3⟩ := X1.cells T2
  have HS := Lib.hid hs
  have X1 := Lib.hid X1
  have C2 := Lib.hid C2
  clear s0 s1 s2 s3 s4 s5 s6 s7 sf sl o0 o1 o2 o3 o4 ol CH hs
  obtain ⟨s0, s1, s2, s3, s4, s5, s6, s7, sf, sl⟩ := dr_all d1
  obtain ⟨o0, o1, o2, o3, o4, ol⟩ := o5_all d2
  dsimp only at o0 o1 o2 o3 o4
  go_wp2_with fail
  with_reducible refine (IS.out _ D2 LL).mono ?_
  rintro y w3 ⟨rfl, b3⟩
  dsimp only
  have C3 := Lib.hid (C2.out w3 b3)
  have e1 := d1.below b3
  have e2 := d2.below b3
  clear s0 s1 s2 s3 s4 s5 s6 s7 sf sl o0 o1 o2 o3 o4 ol IS D2 LL C2 d1 d2 d3
  obtain ⟨s0, s1, s2, s3, s4, s5, s6, s7, sf, sl⟩ := dr_all e1
  obtain ⟨o0, o1, o2, o3, o4, ol⟩ := o5_all e2
  dsimp only at o0 o1 o2 o3 o4
  go_wp2_with fail
  with_reducible refine C3.out.mono ?_
  rintro y w4 ⟨h', i', M', O', rfl, b4, q4⟩
  dsimp only
  obtain ⟨ea', ec', fa', fc', ua', uc', ha', hc', ia', ic', ee, ef, eu, rfl, rfl⟩ := q4.d.forms
  have X4 := X1.out.both T2 (bTrans b3 b4) q4
  have d4 := e1.below b4
  clear s0 s1 s2 s3 s4 s5 s6 s7 sf sl o0 o1 o2 o3 o4 ol X1 T2 b3 b4 q4 C3 e1 e2
  obtain ⟨s0, s1, s2, s3, s4, s5, s6, s7, sf, sl⟩ := dr_all d4
  go_upto_region 24 with fail
  generalize (((((((w4.setCell ⟨w.heap.size, 0, none⟩ (.int .i64 5)).setCell ⟨w.heap.size, 1, none⟩ (.slice ea L.length ec)).setCell ⟨w.heap.size, 2, none⟩ (.slice fa Fr.length fc)).setCell ⟨w.heap.size, 3, none⟩ (.int .i64 rm)).setCell ⟨w.heap.size, 4, none⟩ (.slice ua Ws.length uc)).setCell ⟨w.heap.size, 5, none⟩ (.slice ha' M'.length hc')).setCell ⟨w.heap.size, 6, none⟩ (.slice ia' O'.length ic')).setCell ⟨w.heap.size, 7, none⟩ (.int .i64 td) = w5 at *
  clear s0 s1 s2 s3 s4 s5 s6 s7 sf sl d4
  obtain ⟨s0, s1, s2, s3, s4, s5, s6, s7, sf, sl⟩ := dr_all X4.s
  obtain ⟨z0, z1, z2, z3, z4, z5, z6, z7, zf, zl⟩ := dr_all X4.z
  obtain ⟨R8, FIN1⟩ := X4.fin (a0 := a) (b0 := b) 12 HS.out (by decide)
  have FIN1 : DoE15 W0 D R pb lb mb mm n a b w (.returned (.tuple #[dsv rm (.slice ea L.length ec) (.slice fa Fr.length fc) (.slice ua Ws.length uc) (.slice ha' M'.length hc') (.slice ia' O'.length ic') td, .int .u64 12, .bool true])) _ := FIN1
  have FIN := Lib.hid FIN1
  obtain ⟨y0, y1, y2, y3, y4, y5, y6, y7, yf, yl⟩ := dr_all R8
  clear X4 R8 FIN1
  go_wp2_with fail
  exact bodyPost_ret (v := .tuple #[dsv rm (.slice ea L.length ec) (.slice fa Fr.length fc) (.slice ua Ws.length uc) (.slice ha' M'.length hc') (.slice ia' O'.length ic') td, .int .u64 12, .bool true]) (by simp [results, Tryz.results9, go_sem, y0, y1, y2, y3, y4, y5, y6, y7]) rfl FIN.out
end
end Go.Proofs.YtlaldnfaeoimfaaGreat
