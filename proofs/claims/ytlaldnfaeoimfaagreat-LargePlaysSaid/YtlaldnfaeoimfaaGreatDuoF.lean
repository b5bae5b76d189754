/-
  haymowlaw15.do of all else: what is known of a number; do of any call.
-/
import Derived.Test.YtlaldnfaeoimfaaGreatDuoC
import Derived.Test.YtlaldnfaeoimfaaGreatDuoD
import Derived.Test.YtlaldnfaeoimfaaGreatDuoE
import Derived.Deep.RegionLaw
namespace Go.Proofs.YtlaldnfaeoimfaaGreat
open Go.RowKit
set_option linter.unusedVariables false

section
variable {W0 : World} {D R : Nat → Nat} {pb lb mb mm n rm a b : Nat} {e f u h i : Value} {td : Nat} {L : List Ent} {Fr : List Nat} {Ws : List (List Nat)} {M O : List Nat}
set_option maxRecDepth 100000 in
set_option maxHeartbeats 4000000 in
theorem do15_known (kd oa ob on : Int) (ow : Nat) (w : World) (k0 : (kd == 0) = false) (k1 : (kd == 1) = false) (k2 : (kd == 2) = false) (k3 : (kd == 3) = false) (k4 : (kd == 4) = false) (k5 : (kd == 5) = false) (k6 : (kd == 6) = false) (S : B15 W0 D R pb lb mb mm n rm a b e f u h i td L Fr Ws M O w) (hn : n ≤ 59) :
    Calls Tryz.prog 9 #[at0 lb, dsv rm e f u h i td, opv15 ⟨kd, oa, ob, on, ow⟩] w (DoE15 W0 D R pb lb mb mm n a b w) := by
  have X1 := DX.start S ⟨kd, oa, ob, on, ow⟩
  have lo := S.low
  have ab := S.ab
  have X1 : DX W0 D R R pb lb mb mm (n + 1) rm a b e f u h i td L Fr Ws M O w ⟨kd, oa, ob, on, ow⟩ _ := ⟨X1.s, X1.o, X1.z, X1.q.up (by omega), X1.t, X1.lo⟩
  have hab : a + b + 4 ≤ 1000 * (n + 1) := by omega
  obtain ⟨ea, ec, fa, fc, ua, uc, ha, hc, ia, ic, rfl, rfl, rfl, rfl, rfl⟩ := S.d.forms
  clear S ab
  go_enter Tryz.func9, Tryz.ntmps9
  go_upto_region 1 with fail
  dsimp only at X1
  generalize ((w.alloc (.cells #[.int .i64 5, .slice ea L.length ec, .slice fa Fr.length fc, .int .i64 rm, .slice ua Ws.length uc, .slice ha M.length hc, .slice ia O.length ic, .int .i64 td] 35)).alloc (.cells #[.int .i64 kd, .int .i64 oa, .int .i64 ob, .int .i64 on, .int .u64 (ow : Int)] 48)).alloc (.cells #[.int .i64 0, .slice none 0 0, .slice none 0 0, .int .i64 0, .slice none 0 0, .slice none 0 0, .slice none 0 0, .int .i64 0] 35) = w1 at *
  obtain ⟨s0, s1, s2, s3, s4, s5, s6, s7, sf, sl⟩ := dr_all X1.s
  obtain ⟨o0, o1, o2, o3, o4, ol⟩ := o5_all X1.o
  dsimp only at o0 o1 o2 o3 o4
  have XD := X1.drew
  have CK := Lib.hid (known_any oa w1.drew XD.q hab)
  have XD := Lib.hid XD
  clear X1 hab
  go_upto_region 34 with fail
  go_region_law (first | (go_simp; go_at_call 18; (with_reducible refine CK.out.mono ?_); rintro y w2 ⟨a', rfl, hs, T2, q2⟩; have X2 := XD.out.call T2 q2; obtain ⟨t0, t1, t2, t3, t4, t5, t6, t7, tf, tl⟩ := dr_all X2.s; obtain ⟨z0, z1, z2, z3, z4, z5, z6, z7, zf, zl⟩ := dr_all X2.z))
  all_goals
    obtain ⟨R8, FIN1⟩ := X2.fin (a0 := a) (b0 := b) 4 (by omega) (by decide)
    have FIN1 : DoE15 W0 D R pb lb mb mm n a b w (.returned (.tuple #[dsv rm (.slice ea L.length ec) (.slice fa Fr.length fc) (.slice ua Ws.length uc) (.slice ha M.length hc) (.slice ia O.length ic) td, .int .u64 4, .bool true])) _ := FIN1
    have FIN := Lib.hid FIN1
    obtain ⟨y0, y1, y2, y3, y4, y5, y6, y7, yf, yl⟩ := dr_all R8
    clear X2 R8 FIN1 XD CK T2 q2 hs s0 s1 s2 s3 s4 s5 s6 s7 sf sl o0 o1 o2 o3 o4 ol
    go_wp2_with fail
    exact bodyPost_ret (v := .tuple #[dsv rm (.slice ea L.length ec) (.slice fa Fr.length fc) (.slice ua Ws.length uc) (.slice ha M.length hc) (.slice ia O.length ic) td, .int .u64 4, .bool true]) (by simp [results, Tryz.results9, go_sem, y0, y1, y2, y3, y4, y5, y6, y7]) rfl FIN.out
theorem do15_any (o : Op15) (ok : o.Ok) (w : World) (S : B15 W0 D R pb lb mb mm n rm a b e f u h i td L Fr Ws M O w) (hn : n ≤ 59) :
    Calls Tryz.prog 9 #[at0 lb, dsv rm e f u h i td, opv15 o] w (DoE15 W0 D R pb lb mb mm n a b w) := by
  obtain ⟨kd, oa, ob, on, ow⟩ := o
  by_cases h0 : kd = 0
  · subst h0; exact do15_add oa ob on ow w ok.n.2 S hn
  · by_cases h1 : kd = 1
    · subst h1; exact do15_write oa ob on ow w ok.b.2 S hn
    · by_cases h2 : kd = 2
      · subst h2; exact do15_read oa ob on ow w ok.b.2 S hn
      · by_cases h3 : kd = 3
        · subst h3; exact do15_begin oa ob on ow w S hn
        · by_cases h4 : kd = 4
          · subst h4
            cases hI : isq L oa
            · exact do15_mark_no oa ob on ow w hI S hn
            · exact do15_mark oa ob on ow w hI S hn
          · by_cases h5 : kd = 5
            · subst h5; exact do15_grey oa ob on ow w S hn
            · by_cases h6 : kd = 6
              · subst h6; exact do15_sweep oa ob on ow w S hn
              · exact do15_known kd oa ob on ow w (by simp [h0]) (by simp [h1]) (by simp [h2]) (by simp [h3]) (by simp [h4]) (by simp [h5]) (by simp [h6]) S hn
end
end Go.Proofs.YtlaldnfaeoimfaaGreat
