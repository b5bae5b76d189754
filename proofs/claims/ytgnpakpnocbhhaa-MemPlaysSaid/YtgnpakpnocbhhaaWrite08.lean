/-
  haymowref08.Write.
-/
import Derived.Test.YtgnpakpnocbhhaaRead08
namespace Go.Proofs.Ytgnpakpnocbhhaa
open Go.RowKit
set_option linter.unusedVariables false

set_option maxRecDepth 100000 in
set_option maxHeartbeats 1000000 in
theorem write_bad (v : Value) (a b : Nat) (h g id at' x : Int) (L : List Spc) (w : World) (hv : SL w v L) (hl : L.length ≤ 1000000) (hw : ∀ i, i < L.length → (wds L i).length ≤ 100000000) (hE : ¬ wrongv L id at' 1 = 0) :
    Calls Try.prog 28 #[ssv v a b h g, .int .i64 id, .int .i64 at', .int .u64 x] w fun e w' => e = .returned (.tuple #[ssv v a b h g, .int .i64 (wrongv L id at' 1)]) ∧ Below w.heap.size w w' := by
  obtain ⟨PS, PR, B1⟩ := boxed v a b h g w
  have WR := Lib.hid (fun w' (q : SL w' v L) => wrong_any v a b h g id at' 1 L w' q hl (by omega) hw)
  have HV := Lib.hid (hv.below B1)
  obtain ⟨av, cap, rfl⟩ := hv.slice
  have kE : (wrongv L id at' 1 != 0) = true := by simp [hE]
  clear hv hw hE
  generalize wrongv L id at' 1 = E at *
  go_enter Try.func28, Try.ntmps28
  go_upto_region 1 with fail
  generalize (w.alloc (.cells #[.slice av L.length cap, .int .u64 (hi a), .int .u64 (lo a), .int .u64 (hi b), .int .u64 (lo b), .int .i64 h, .int .i64 g] 35)).alloc (.cells #[.slice none 0 0, .int .u64 0, .int .u64 0, .int .u64 0, .int .u64 0, .int .i64 0, .int .i64 0] 35) = W at *
  obtain ⟨s0, s1, s2, s3, s4, s5, s6, sf, sl⟩ := PS.all
  go_wp2_with fail
  refine (WR.out _ HV.out).mono ?_
  rintro e w2 ⟨rfl, b2⟩
  dsimp only
  have PS2 := PS.below b2
  have PR2 := PR.below b2
  have B2 := bTrans B1 b2
  have B3 := bSev B2 (v := w.heap.size + 1) (Nat.le_succ _) (.slice av L.length cap) (.int .u64 (hi a)) (.int .u64 (lo a)) (.int .u64 (hi b)) (.int .u64 (lo b)) (.int .i64 h) (.int .i64 g)
  clear PS PR s0 s1 s2 s3 s4 s5 s6 sf sl b2
  obtain ⟨s0, s1, s2, s3, s4, s5, s6, sf, sl⟩ := PS2.all
  obtain ⟨r0, r1, r2, r3, r4, r5, r6, rf, rl⟩ := PR2.all
  obtain ⟨y0, y1, y2, y3, y4, y5, y6, yf, yl⟩ := (Row.setP PR2 (.slice av L.length cap) a b h g).all
  clear PS2 PR2
  go_wp2_with fail
  exact bodyPost_ret (v := .tuple #[ssv (.slice av L.length cap) a b h g, .int .i64 E]) (by simp [results, Try.results28, go_sem, y0, y1, y2, y3, y4, y5, y6]) rfl ⟨rfl, B3⟩

set_option maxRecDepth 100000 in
set_option maxHeartbeats 1000000 in
theorem write_ok (v : Value) (a b : Nat) (h g : Int) (k i x : Nat) (L : List Spc) (w : World) (hv : SL w v L) (hl : L.length ≤ 1000000) (hw : ∀ i, i < L.length → (wds L i).length ≤ 100000000) (ha : N128 a) (hb : N128 b) (hk : k < L.length) (hi' : i < (wds L k).length) (hE : wrongv L (k : Int) (i : Int) 1 = 0) :
    Calls Try.prog 28 #[ssv v a b h g, .int .i64 (k : Int), .int .i64 (i : Int), .int .u64 (x : Int)] w fun e w' => ∃ v', e = .returned (.tuple #[ssv v' (stepv 0 1 1 a) (stepv 1 1 1 b) h g, .int .i64 0]) ∧ SB w' w.heap.size v' (L.set k ((L.getD k (false, [])).1, (wds L k).set i x)) ∧ Below w.heap.size w w' := by
  obtain ⟨PS, PR, B1⟩ := boxed v a b h g w
  have WR := fun w' (q : SL w' v L) => wrong_any v a b h g (k : Int) (i : Int) 1 L w' q hl (by omega) hw
  rw [hE] at WR
  have WRH := Lib.hid WR
  have RS := Lib.hid (fun w' => refstep_any a b h g 1 1 ha hb (by omega) w')
  have CO := Lib.hid (fun w' (q : SL w' v L) => copied_any v a b h g L w' q hl hw)
  have HV := Lib.hid (hv.below B1)
  obtain ⟨av, cap, rfl⟩ := hv.slice
  have i0 : (0 : Int) ≤ (k : Int) := by omega
  have i1 : (k : Int) < (L.length : Int) := by omega
  have lw := hw k hk
  have HL' := Lib.hid (show ∀ (w' : World) (B gb : Nat) (G C : Nat → Nat), OS w' B gb L G C → OS (w'.setCell ⟨G k, i, none⟩ (pw x)) B gb (L.set k ((L.getD k (false, [])).1, (wds L k).set i x)) G C from fun w' B gb G C O => O.word hk hi' x)
  have ln : (L.set k ((L.getD k (false, [])).1, (wds L k).set i x)).length = L.length := by rw [List.length_set]
  generalize L.set k ((L.getD k (false, [])).1, (wds L k).set i x) = L' at *
  have LN := Lib.hid ln
  clear hv hw hE WR ha hb ln
  generalize stepv 0 1 1 a = a' at *
  generalize stepv 1 1 1 b = b' at *
  have px : pw x = .int .u64 (x : Int) := rfl
  have PX := Lib.hid px
  clear px
  go_enter Try.func28, Try.ntmps28
  go_upto_region 1 with fail
  have sz : w.heap.size + 2 ≤ ((w.alloc (.cells #[.slice av L.length cap, .int .u64 (hi a), .int .u64 (lo a), .int .u64 (hi b), .int .u64 (lo b), .int .i64 h, .int .i64 g] 35)).alloc (.cells #[.slice none 0 0, .int .u64 0, .int .u64 0, .int .u64 0, .int .u64 0, .int .i64 0, .int .i64 0] 35)).heap.size := by simp
  generalize (w.alloc (.cells #[.slice av L.length cap, .int .u64 (hi a), .int .u64 (lo a), .int .u64 (hi b), .int .u64 (lo b), .int .i64 h, .int .i64 g] 35)).alloc (.cells #[.slice none 0 0, .int .u64 0, .int .u64 0, .int .u64 0, .int .u64 0, .int .i64 0, .int .i64 0] 35) = W at *
  obtain ⟨s0, s1, s2, s3, s4, s5, s6, sf, sl⟩ := PS.all
  go_wp2_with fail
  refine (WRH.out _ HV.out).mono ?_
  rintro e w2 ⟨rfl, b2⟩
  dsimp only
  have PS2 := PS.below b2
  have PR2 := PR.below b2
  have B2 := bTrans B1 b2
  have sz2 : w.heap.size + 2 ≤ w2.heap.size := Nat.le_trans sz b2.size
  have V2 := Lib.hid (HV.out.below b2)
  clear PS PR s0 s1 s2 s3 s4 s5 s6 sf sl b2 B1 HV sz
  obtain ⟨s0, s1, s2, s3, s4, s5, s6, sf, sl⟩ := PS2.all
  go_wp2_with fail
  refine (CO.out _ V2.out).mono ?_
  rintro e w3 ⟨gb, c, G, C, rfl, hc, hcm, hce, O3, b3⟩
  dsimp only
  have PS3 := PS2.below b3
  have PR3 := PR2.below b3
  have B3 := bTrans B2 b3
  have lo0 : w.heap.size < w2.heap.size := by omega
  have lo1 : w.heap.size + 1 < w2.heap.size := by omega
  clear PS2 PR2 s0 s1 s2 s3 s4 s5 s6 sf sl b3 B2 V2 hce hcm
  obtain ⟨s0, s1, s2, s3, s4, s5, s6, sf, sl⟩ := PS3.all
  have PS4 := Row.setP PS3 (.slice (some ⟨gb, 0, none⟩) L.length c) a b h g
  have PR4 := PR3.far7 (t := w.heap.size) (by omega) (.slice (some ⟨gb, 0, none⟩) L.length c) (.int .u64 (hi a)) (.int .u64 (lo a)) (.int .u64 (hi b)) (.int .u64 (lo b)) (.int .i64 h) (.int .i64 g)
  have B4 := bSev B3 (v := w.heap.size) (Nat.le_refl _) (.slice (some ⟨gb, 0, none⟩) L.length c) (.int .u64 (hi a)) (.int .u64 (lo a)) (.int .u64 (hi b)) (.int .u64 (lo b)) (.int .i64 h) (.int .i64 g)
  have HO4 := Lib.hid (O3.low7 lo0 (.slice (some ⟨gb, 0, none⟩) L.length c) (.int .u64 (hi a)) (.int .u64 (lo a)) (.int .u64 (hi b)) (.int .u64 (lo b)) (.int .i64 h) (.int .i64 g))
  clear O3 PS3 PR3 B3
  go_upto_region 5 with fail
  generalize ((((((w3.setCell ⟨w.heap.size, 0, none⟩ (.slice (some ⟨gb, 0, none⟩) L.length c)).setCell ⟨w.heap.size, 1, none⟩ (.int .u64 (hi a))).setCell ⟨w.heap.size, 2, none⟩ (.int .u64 (lo a))).setCell ⟨w.heap.size, 3, none⟩ (.int .u64 (hi b))).setCell ⟨w.heap.size, 4, none⟩ (.int .u64 (lo b))).setCell ⟨w.heap.size, 5, none⟩ (.int .i64 h)).setCell ⟨w.heap.size, 6, none⟩ (.int .i64 g) = w4 at *
  clear s0 s1 s2 s3 s4 s5 s6 sf sl
  obtain ⟨s0, s1, s2, s3, s4, s5, s6, sf, sl⟩ := PS4.all
  go_wp2_with fail
  refine (RS.out _).mono ?_
  rintro e w5 ⟨rfl, b5⟩
  dsimp only
  have PS5 := PS4.below b5
  have PR5 := PR4.below b5
  have B5 := bTrans B4 b5
  have O5 := HO4.out.below b5
  clear PS4 PR4 B4 HO4 b5 s0 s1 s2 s3 s4 s5 s6 sf sl
  obtain ⟨s0, s1, s2, s3, s4, s5, s6, sf, sl⟩ := PS5.all
  have PS6 := PS5.setM a' b' h g
  have PR6 := PR5.far16 (t := w.heap.size) (by omega) (.int .u64 (hi a')) (.int .u64 (lo a')) (.int .u64 (hi b')) (.int .u64 (lo b')) (.int .i64 h) (.int .i64 g)
  have B6 := b16 B5 (v := w.heap.size) (Nat.le_refl _) (.int .u64 (hi a')) (.int .u64 (lo a')) (.int .u64 (hi b')) (.int .u64 (lo b')) (.int .i64 h) (.int .i64 g)
  have O6 := O5.low6 lo0 (.int .u64 (hi a')) (.int .u64 (lo a')) (.int .u64 (hi b')) (.int .u64 (lo b')) (.int .i64 h) (.int .i64 g)
  have HO6 := Lib.hid O6
  clear O5 O6 PS5 PR5 B5
  go_upto_region 6 with fail
  generalize (((((w5.setCell ⟨w.heap.size, 1, none⟩ (.int .u64 (hi a'))).setCell ⟨w.heap.size, 2, none⟩ (.int .u64 (lo a'))).setCell ⟨w.heap.size, 3, none⟩ (.int .u64 (hi b'))).setCell ⟨w.heap.size, 4, none⟩ (.int .u64 (lo b'))).setCell ⟨w.heap.size, 5, none⟩ (.int .i64 h)).setCell ⟨w.heap.size, 6, none⟩ (.int .i64 g) = w6 at *
  clear s0 s1 s2 s3 s4 s5 s6 sf sl
  obtain ⟨s0, s1, s2, s3, s4, s5, s6, sf, sl⟩ := PS6.all
  have O6 := HO6.out
  have c1 := O6.row.cell (k * 2 + 1) (by omega)
  rw [scell_w, uval_eq] at c1
  change w6.cell? _ = some (.slice (some ⟨G k, 0, none⟩) (wds L k).length (C k)) at c1
  have d0 := (O6.wrow k hk).cell i hi'
  have df := (O6.wrow k hk).free i
  rw [wat_eq] at d0
  have j0 : (0 : Int) ≤ (i : Int) := by omega
  have j1 : (i : Int) < ((wds L k).length : Int) := by omega
  have gk := O6.blo k hk
  have B7 := B6.setCell (p := ⟨G k, i, none⟩) (by show _ ≤ G k; omega) (.int .u64 (x : Int))
  have O7 := HL'.out _ _ _ _ _ O6
  rw [PX.out] at O7
  have PS7 := PS6.far (p := ⟨G k, i, none⟩) (.int .u64 (x : Int)) (by show G k ≠ _; omega)
  have PR7 := PR6.far (p := ⟨G k, i, none⟩) (.int .u64 (x : Int)) (by show G k ≠ _; omega)
  have HO7 := Lib.hid O7
  clear O6 O7 HO6 PS6 PR6 B6
  generalize (wds L k).length = m at *
  generalize wat L k i = y at *
  go_upto_region 7 with fail
  generalize w6.setCell ⟨G k, i, none⟩ (.int .u64 (x : Int)) = w7 at *
  clear s0 s1 s2 s3 s4 s5 s6 sf sl c1 d0 df
  obtain ⟨s0, s1, s2, s3, s4, s5, s6, sf, sl⟩ := PS7.all
  obtain ⟨r0, r1, r2, r3, r4, r5, r6, rf, rl⟩ := PR7.all
  obtain ⟨y0, y1, y2, y3, y4, y5, y6, yf, yl⟩ := (Row.setP PR7 (.slice (some ⟨gb, 0, none⟩) L.length c) a' b' h g).all
  have B8 := bSev B7 (v := w.heap.size + 1) (Nat.le_succ _) (.slice (some ⟨gb, 0, none⟩) L.length c) (.int .u64 (hi a')) (.int .u64 (lo a')) (.int .u64 (hi b')) (.int .u64 (lo b')) (.int .i64 h) (.int .i64 g)
  have O8 := HO7.out.low7 lo1 (.slice (some ⟨gb, 0, none⟩) L.length c) (.int .u64 (hi a')) (.int .u64 (lo a')) (.int .u64 (hi b')) (.int .u64 (lo b')) (.int .i64 h) (.int .i64 g)
  have S8 := (O8.sb (c := c) (by rw [LN.out]; exact hc)).mono (Nat.le_of_lt lo0)
  rw [LN.out] at S8
  have HS8 := Lib.hid S8
  clear O8 S8 HO7 PS7 PR7 B7
  go_wp2_with fail
  exact bodyPost_ret (v := .tuple #[ssv (.slice (some ⟨gb, 0, none⟩) L.length c) a' b' h g, .int .i64 0]) (by simp [results, Try.results28, go_sem, y0, y1, y2, y3, y4, y5, y6]) rfl ⟨_, rfl, HS8.out, B8⟩

end Go.Proofs.Ytgnpakpnocbhhaa
