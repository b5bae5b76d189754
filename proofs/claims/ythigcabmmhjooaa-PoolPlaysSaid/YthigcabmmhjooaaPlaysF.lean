/-
  haymowlaw10.do: a word is read.
-/
import Derived.Test.YthigcabmmhjooaaPlaysB
import Derived.Deep.DeepCutAuto
import Derived.Deep.RegionLaw
import Derived.BigQuiet
namespace Go.Proofs.Ythigcabmmhjooaa
open Go.RowKit
set_option linter.unusedVariables false

set_option maxRecDepth 100000 in
set_option maxHeartbeats 4000000 in
theorem do_get (W0 : World) (D R : Nat → Nat) (pb mb mm W k rm a b : Nat) (v f : Value) (L : List Ent) (Fr : List Nat) (w : World) (oa ob : Int) (ow : Nat) (S : Bo W0 D R pb mb mm W k rm a b v f L Fr w) (hk : k ≤ 79) :
    Calls Try.prog 9 #[at0 pb, estv (W : Int) v f (rm : Int), opv ⟨2, oa, ob, ow⟩] w (DoE W0 D R pb mb mm W k a b w) := by
  obtain ⟨w1, hw1, d1, S1, B1⟩ := S.enter ⟨2, oa, ob, ow⟩
  have lo := S.low
  obtain ⟨x, a', b', hb, hx0, hx1, hl, C⟩ := S1.up.get (by omega) (by have := S1.ab; omega) oa ob
  have WR := Lib.hid (fun w' (q : Bo W0 (dbx D w.heap.size) R pb mb mm W (k + 1) rm a' b' v f L Fr w') => wrongq_any W (rm : Int) oa ob v f L Fr _ w' q.st (by omega))
  obtain ⟨va, vc, rfl⟩ := S.st.el.slice
  obtain ⟨fa, fc, rfl⟩ := S.st.fl.slice
  have CH := Lib.hid C
  have HB := Lib.hid hb
  have HX0 := Lib.hid hx0
  have HX1 := Lib.hid hx1
  have HLL := Lib.hid hl
  clear C S hb hx0 hx1 hl
  obtain ⟨E, hE⟩ : ∃ E, wrongq L W oa ob = E := ⟨_, rfl⟩
  have HE := Lib.hid hE
  rw [hE] at CH WR HX0 HX1
  clear hE
  obtain ⟨s0, s1, s2, s3, sf, sl⟩ := er_all d1.s
  obtain ⟨o0, o1, o2, o3, ol⟩ := o4_all d1.o
  dsimp only at o0 o1 o2 o3 hw1
  go_enter Try.func9, Try.ntmps9
  go_upto_region 1 with fail
  rw [← hw1]
  clear hw1
  go_wp2_with fail
  with_reducible refine CH.out.mono ?_
  rintro e w2 ⟨rfl, T2, S2⟩
  dsimp only
  have d2 := d1.tr T2 (fun j h1 h2 => S1.boxes j h1 h2)
  have TT := Lib.hid ((TR.of B1).trans T2)
  clear S1 CH T2 B1 d1 s0 s1 s2 s3 sf sl o0 o1 o2 o3 ol
  obtain ⟨s0, s1, s2, s3, sf, sl⟩ := er_all d2.s
  obtain ⟨o0, o1, o2, o3, ol⟩ := o4_all d2.o
  dsimp only at o0 o1 o2 o3
  go_wp2_with fail
  with_reducible refine (WR.out _ S2).mono ?_
  rintro e w3 ⟨rfl, b3⟩
  dsimp only
  have d3 := d2.below b3
  have S3 := S2.below b3
  have T3 := TT.out.below' b3
  clear s0 s1 s2 s3 sf sl o0 o1 o2 o3 ol d2 S2 b3 WR TT
  obtain ⟨s0, s1, s2, s3, sf, sl⟩ := er_all d3.s
  obtain ⟨o0, o1, o2, o3, ol⟩ := o4_all d3.o
  dsimp only at o0 o1 o2 o3
  have SL := Lib.hid S3.st.el
  by_cases h0 : E = 0
  · subst h0
    obtain ⟨k0, j, rfl, rfl, k1, ht, hj⟩ := wrongq_yes HE.out
    obtain ⟨x1, x2⟩ := HX1.out rfl
    rw [Int.toNat_natCast, Nat.add_sub_cancel] at x1 x2
    rw [Int.toNat_natCast] at x1
    obtain ⟨_, bl, off, u, rfl, hbl, c0, c1, c2, wl⟩ := SL.out.at (show k0 < L.length from k1)
    obtain ⟨ua, uc, rfl, hcap, hnil, hu⟩ := wl
    obtain ⟨ub, uo, rfl, _, hul, hc⟩ := hu.resolve_left (by omega)
    have cx := hc j (by omega)
    rw [← x1] at cx
    change w3.cell? _ = some (.int .u64 (x : Int)) at cx
    rw [x2] at c2
    have i0 : (0 : Int) ≤ (k0 : Int) := by omega
    have i1 : (k0 : Int) < (L.length : Int) := by omega
    have m1 : ((k0 + 1 : Nat) : Int) - 1 = (k0 : Int) := by omega
    have m2 : wrap64 (k0 : Int) = (k0 : Int) := wrap_small (by have := HLL.out; omega)
    have j0 : (0 : Int) ≤ (j : Int) := by omega
    have j1 : (j : Int) < (W : Int) := by omega
    obtain ⟨k2, hk2⟩ : ∃ k2, k0 + 1 = k2 := ⟨_, rfl⟩
    rw [hk2] at m1 o1
    simp only [hk2]
    clear hcap hnil hu hc x1 x2 HX0 HX1 HE ht hj k1 hul hbl c0 c1 hk2 SL
    go_upto_region 17 with fail
    go_quiet (fail)
    have bq : Below w3.heap.size w3 (w3.drewN nq) := (by repeat (first | exact Below.refl _ _ | (with_reducible assumption) | refine bAlloc ?_ _ | refine below_drewN ?_ _ | refine Below.drew ?_ | (refine bSet ?_ (by first | (dsimp only; omega) | (simp; done) | (simp; omega)) _) | refine bTrans ?_ (by assumption)))
    have d6 := d3.below bq
    have S6 := S3.below bq
    have T6 := T3.below' bq
    clear d3 S3 T3 s0 s1 s2 s3 sf sl o0 o1 o2 o3 ol c2 cx i0 i1 m1 m2 j0 j1
    generalize w3.drewN nq = w6 at *
    obtain ⟨s0, s1, s2, s3, sf, sl⟩ := er_all d6.s
    obtain ⟨z0, z1, z2, z3, zf, zl⟩ := er_all d6.z
    have Z5 := er_set d6.z (W : Int) (.slice (some ⟨bl, off, none⟩) L.length vc) (.slice fa Fr.length fc) (rm : Int)
    have S5 := S6.store4 (q := w.heap.size + 1 + 1) (dbx_in (by omega) (by omega)) (by omega) (.int .i64 (W : Int)) (.slice (some ⟨bl, off, none⟩) L.length vc) (.slice fa Fr.length fc) (.int .i64 (rm : Int))
    have T5 := T6.put4 (q := w.heap.size + 1 + 1) (by omega) (.int .i64 (W : Int)) (.slice (some ⟨bl, off, none⟩) L.length vc) (.slice fa Fr.length fc) (.int .i64 (rm : Int))
    obtain ⟨y0, y1, y2, y3, yf, yl⟩ := er_all Z5
    have FIN : DoE W0 D R pb mb mm W k a b w (.returned (.tuple #[estv (W : Int) (.slice (some ⟨bl, off, none⟩) L.length vc) (.slice fa Fr.length fc) (rm : Int), .int .u64 2, .bool true])) _ := ⟨R, rm, a', b', _, _, L, Fr, 2, rfl, S5.out, T5, HB.out.1, HB.out.2.1, HB.out.2.2, by omega⟩
    have FIN := Lib.hid FIN
    clear T6 S6 d6 Z5 S5 T5 HB
    go_wp2_with fail
    exact bodyPost_ret (v := .tuple #[estv (W : Int) (.slice (some ⟨bl, off, none⟩) L.length vc) (.slice fa Fr.length fc) (rm : Int), .int .u64 2, .bool true]) (by simp [results, Try.results9, go_sem, y0, y1, y2, y3]) rfl FIN.out
  · have hx := HX0.out h0
    subst hx
    have kE : (E == 0) = false := by simp [h0]
    have kE2 : (E == E) = true := by simp
    clear h0 HX0 HX1 SL
    obtain ⟨z0, z1, z2, z3, zf, zl⟩ := er_all d3.z
    have Z5 := er_set d3.z (W : Int) (.slice va L.length vc) (.slice fa Fr.length fc) (rm : Int)
    have S5 := S3.store4 (q := w.heap.size + 1 + 1) (dbx_in (by omega) (by omega)) (by omega) (.int .i64 (W : Int)) (.slice va L.length vc) (.slice fa Fr.length fc) (.int .i64 (rm : Int))
    have T5 := T3.put4 (q := w.heap.size + 1 + 1) (by omega) (.int .i64 (W : Int)) (.slice va L.length vc) (.slice fa Fr.length fc) (.int .i64 (rm : Int))
    obtain ⟨y0, y1, y2, y3, yf, yl⟩ := er_all Z5
    have FIN : DoE W0 D R pb mb mm W k a b w (.returned (.tuple #[estv (W : Int) (.slice va L.length vc) (.slice fa Fr.length fc) (rm : Int), .int .u64 2, .bool true])) _ := ⟨R, rm, a', b', _, _, L, Fr, 2, rfl, S5.out, T5, HB.out.1, HB.out.2.1, HB.out.2.2, by omega⟩
    have FIN := Lib.hid FIN
    clear T3 S3 d3 Z5 S5 T5 HB
    go_wp2_with fail
    exact bodyPost_ret (v := .tuple #[estv (W : Int) (.slice va L.length vc) (.slice fa Fr.length fc) (rm : Int), .int .u64 2, .bool true]) (by simp [results, Try.results9, go_sem, y0, y1, y2, y3]) rfl FIN.out
end Go.Proofs.Ythigcabmmhjooaa
