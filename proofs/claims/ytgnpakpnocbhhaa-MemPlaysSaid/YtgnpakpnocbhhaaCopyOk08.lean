/-
  haymowref08.Copy, where it copies.
-/
import Derived.Test.YtgnpakpnocbhhaaCopy08
namespace Go.Proofs.Ytgnpakpnocbhhaa
open Go.RowKit
set_option linter.unusedVariables false

set_option maxRecDepth 100000 in
set_option maxHeartbeats 1000000 in
theorem copy_ok (v : Value) (a b : Nat) (h g : Int) (kf i k d t : Nat) (L : List Spc) (w : World) (hv : SL w v L) (hl : L.length ≤ 1000000) (hw : ∀ i, i < L.length → (wds L i).length ≤ 100000000) (ha : N128 a) (hb : N128 b) (hkf : kf < L.length) (hk : k < L.length) (hif : i + t ≤ (wds L kf).length) (hi' : d + t ≤ (wds L k).length)
    (hF : isv L (kf : Int) = true) (hT : isv L (k : Int) = true) (hE : wrongv L (kf : Int) (i : Int) (t : Int) = 0) (hD : wrongv L (k : Int) (d : Int) (t : Int) = 0) :
    Calls Try.prog 30 #[ssv v a b h g, .int .i64 (kf : Int), .int .i64 (i : Int), .int .i64 (k : Int), .int .i64 (d : Int), .int .i64 (t : Int)] w fun e w' => ∃ v', e = .returned (.tuple #[ssv v' (stepv 0 1 (t : Int) (stepv 0 0 (t : Int) a)) (stepv 1 1 (t : Int) (stepv 1 0 (t : Int) b)) h g, .int .i64 0]) ∧ SB w' w.heap.size v' (L.set k ((L.getD k (false, [])).1, wset (wds L k) d (fun j => wat L kf (i + j)) t)) ∧ Below w.heap.size w w' := by
  obtain ⟨PS, PR, B1⟩ := boxed v a b h g w
  have lwf := hw kf hkf
  have lw := hw k hk
  have tn : (t : Int) ≤ 9223372036854775807 := by omega
  have IF0 := fun w' (q : SL w' v L) => is_any v a b h g (kf : Int) L w' q hl
  rw [hF] at IF0
  have IF := Lib.hid IF0
  have IT0 := fun w' (q : SL w' v L) => is_any v a b h g (k : Int) L w' q hl
  rw [hT] at IT0
  have IT := Lib.hid IT0
  have WF0 := fun w' (q : SL w' v L) => wrong_any v a b h g (kf : Int) (i : Int) (t : Int) L w' q hl tn hw
  rw [hE] at WF0
  have WF := Lib.hid WF0
  have WT0 := fun w' (q : SL w' v L) => wrong_any v a b h g (k : Int) (d : Int) (t : Int) L w' q hl tn hw
  rw [hD] at WT0
  have WT := Lib.hid WT0
  have RS := Lib.hid (fun w' => refstep_any a b h g 0 (t : Int) ha hb tn w')
  have RT := Lib.hid (fun w' => refstep_any (stepv 0 0 (t : Int) a) (stepv 1 0 (t : Int) b) h g 1 (t : Int) (stepv_N ha) (stepv_N hb) tn w')
  have CO := Lib.hid (fun w' (q : SL w' v L) => copied_any v a b h g L w' q hl hw)
  have HV := Lib.hid (hv.below B1)
  obtain ⟨av, cap, rfl⟩ := hv.slice
  obtain ⟨_, bl, off, u, rfl, hbl, c0, c1, nl⟩ := hv.at hkf
  obtain ⟨ua, uc, rfl, hcu, _, hcell⟩ := nl
  have HCELL := Lib.hid hcell
  have C1 := Lib.hid c1
  have i0 : (0 : Int) ≤ (k : Int) := by omega
  have i1 : (k : Int) < (L.length : Int) := by omega
  have f0 : (0 : Int) ≤ (kf : Int) := by omega
  have f1 : (kf : Int) < (L.length : Int) := by omega
  clear hv hw hF hT hE hD IF0 IT0 WF0 WT0 ha hb hcell c0 c1
  generalize stepv 0 1 (t : Int) (stepv 0 0 (t : Int) a) = a2 at *
  generalize stepv 1 1 (t : Int) (stepv 1 0 (t : Int) b) = b2' at *
  generalize stepv 0 0 (t : Int) a = a1 at *
  generalize stepv 1 0 (t : Int) b = b1' at *
  go_enter Try.func30, Try.ntmps30
  go_upto_region 1 with fail
  have sz : w.heap.size + 2 ≤ ((w.alloc (.cells #[.slice (some ⟨bl, off, none⟩) L.length cap, .int .u64 (hi a), .int .u64 (lo a), .int .u64 (hi b), .int .u64 (lo b), .int .i64 h, .int .i64 g] 35)).alloc (.cells #[.slice none 0 0, .int .u64 0, .int .u64 0, .int .u64 0, .int .u64 0, .int .i64 0, .int .i64 0] 35)).heap.size := by simp
  generalize (w.alloc (.cells #[.slice (some ⟨bl, off, none⟩) L.length cap, .int .u64 (hi a), .int .u64 (lo a), .int .u64 (hi b), .int .u64 (lo b), .int .i64 h, .int .i64 g] 35)).alloc (.cells #[.slice none 0 0, .int .u64 0, .int .u64 0, .int .u64 0, .int .u64 0, .int .i64 0, .int .i64 0] 35) = W at *
  obtain ⟨s0, s1, s2, s3, s4, s5, s6, sf, sl⟩ := PS.all
  go_wp2_with fail
  with_reducible refine (IF.out _ HV.out).mono ?_
  rintro e u1 ⟨rfl, bb1⟩
  dsimp only
  have Ba := bTrans B1 bb1
  have PSa := PS.below bb1
  have PRa := PR.below bb1
  have Va := Lib.hid (HV.out.below bb1)
  clear s0 s1 s2 s3 s4 s5 s6 sf sl PS PR HV
  obtain ⟨s0, s1, s2, s3, s4, s5, s6, sf, sl⟩ := PSa.all
  go_wp2_with fail
  with_reducible refine (IT.out _ Va.out).mono ?_
  rintro e u2 ⟨rfl, bb2⟩
  dsimp only
  have Bb := bTrans Ba bb2
  have PSb := PSa.below bb2
  have PRb := PRa.below bb2
  have Vb := Lib.hid (Va.out.below bb2)
  clear s0 s1 s2 s3 s4 s5 s6 sf sl PSa PRa Va
  obtain ⟨s0, s1, s2, s3, s4, s5, s6, sf, sl⟩ := PSb.all
  go_wp2_with fail
  with_reducible refine (WF.out _ Vb.out).mono ?_
  rintro e u3 ⟨rfl, bb3⟩
  dsimp only
  have Bc := bTrans Bb bb3
  have PSc := PSb.below bb3
  have PRc := PRb.below bb3
  have Vc := Lib.hid (Vb.out.below bb3)
  clear s0 s1 s2 s3 s4 s5 s6 sf sl PSb PRb Vb
  obtain ⟨s0, s1, s2, s3, s4, s5, s6, sf, sl⟩ := PSc.all
  go_wp2_with fail
  with_reducible refine (WT.out _ Vc.out).mono ?_
  rintro e w2 ⟨rfl, bb4⟩
  dsimp only
  have B2 := bTrans Bc bb4
  have PS2 := PSc.below bb4
  have PR2 := PRc.below bb4
  have V2 := Lib.hid (Vc.out.below bb4)
  have sz2 : w.heap.size + 2 ≤ w2.heap.size := Nat.le_trans sz (Nat.le_trans bb1.size (Nat.le_trans bb2.size (Nat.le_trans bb3.size bb4.size)))
  clear s0 s1 s2 s3 s4 s5 s6 sf sl PSc PRc Vc Ba Bb Bc bb1 bb2 bb3 bb4 B1 sz IF IT WF WT
  obtain ⟨s0, s1, s2, s3, s4, s5, s6, sf, sl⟩ := PS2.all
  have e1 : w2.cell? ⟨bl, off + kf * 2 + 1, none⟩ = some (.slice ua (wds L kf).length uc) := (B2.cell (p := ⟨bl, off + kf * 2 + 1, none⟩) hbl).trans C1.out
  go_wp2_with fail
  refine (CO.out _ V2.out).mono ?_
  rintro e w3 ⟨gb, c, G, C, rfl, hc, hcm, hce, O3, b3⟩
  dsimp only
  have PS3 := PS2.below b3
  have PR3 := PR2.below b3
  have B3 := bTrans B2 b3
  have lo0 : w.heap.size < w2.heap.size := by omega
  have lo1 : w.heap.size + 1 < w2.heap.size := by omega
  clear PS2 PR2 s0 s1 s2 s3 s4 s5 s6 sf sl b3 B2 V2 hce hcm e1
  obtain ⟨s0, s1, s2, s3, s4, s5, s6, sf, sl⟩ := PS3.all
  have PS4 := Row.setP PS3 (.slice (some ⟨gb, 0, none⟩) L.length c) a b h g
  have PR4 := PR3.far7 (t := w.heap.size) (by omega) (.slice (some ⟨gb, 0, none⟩) L.length c) (.int .u64 (hi a)) (.int .u64 (lo a)) (.int .u64 (hi b)) (.int .u64 (lo b)) (.int .i64 h) (.int .i64 g)
  have B4 := bSev B3 (v := w.heap.size) (Nat.le_refl _) (.slice (some ⟨gb, 0, none⟩) L.length c) (.int .u64 (hi a)) (.int .u64 (lo a)) (.int .u64 (hi b)) (.int .u64 (lo b)) (.int .i64 h) (.int .i64 g)
  have HO4 := Lib.hid (O3.low7 lo0 (.slice (some ⟨gb, 0, none⟩) L.length c) (.int .u64 (hi a)) (.int .u64 (lo a)) (.int .u64 (hi b)) (.int .u64 (lo b)) (.int .i64 h) (.int .i64 g))
  clear O3 PS3 PR3 B3
  go_upto_region 7 with fail
  generalize ((((((w3.setCell ⟨w.heap.size, 0, none⟩ (.slice (some ⟨gb, 0, none⟩) L.length c)).setCell ⟨w.heap.size, 1, none⟩ (.int .u64 (hi a))).setCell ⟨w.heap.size, 2, none⟩ (.int .u64 (lo a))).setCell ⟨w.heap.size, 3, none⟩ (.int .u64 (hi b))).setCell ⟨w.heap.size, 4, none⟩ (.int .u64 (lo b))).setCell ⟨w.heap.size, 5, none⟩ (.int .i64 h)).setCell ⟨w.heap.size, 6, none⟩ (.int .i64 g) = w4 at *
  clear s0 s1 s2 s3 s4 s5 s6 sf sl
  obtain ⟨s0, s1, s2, s3, s4, s5, s6, sf, sl⟩ := PS4.all
  go_wp2_with fail
  with_reducible refine (RS.out _).mono ?_
  rintro e x5 ⟨rfl, b5⟩
  dsimp only
  go_wp2_with fail
  with_reducible refine (RT.out _).mono ?_
  rintro e w5 ⟨rfl, b6⟩
  dsimp only
  have PS5 := (PS4.below b5).below b6
  have PR5 := (PR4.below b5).below b6
  have B5 := bTrans (bTrans B4 b5) b6
  have O5 := (HO4.out.below b5).below b6
  clear PS4 PR4 B4 HO4 b5 b6 s0 s1 s2 s3 s4 s5 s6 sf sl
  obtain ⟨s0, s1, s2, s3, s4, s5, s6, sf, sl⟩ := PS5.all
  have PS6 := PS5.setM a2 b2' h g
  have PR6 := PR5.far16 (t := w.heap.size) (by omega) (.int .u64 (hi a2)) (.int .u64 (lo a2)) (.int .u64 (hi b2')) (.int .u64 (lo b2')) (.int .i64 h) (.int .i64 g)
  have B6 := b16 B5 (v := w.heap.size) (Nat.le_refl _) (.int .u64 (hi a2)) (.int .u64 (lo a2)) (.int .u64 (hi b2')) (.int .u64 (lo b2')) (.int .i64 h) (.int .i64 g)
  have O6 := O5.low6 lo0 (.int .u64 (hi a2)) (.int .u64 (lo a2)) (.int .u64 (hi b2')) (.int .u64 (lo b2')) (.int .i64 h) (.int .i64 g)
  have HO6 := Lib.hid O6
  clear O5 O6 PS5 PR5 B5
  go_upto_region 8 with fail
  generalize (((((w5.setCell ⟨w.heap.size, 1, none⟩ (.int .u64 (hi a2))).setCell ⟨w.heap.size, 2, none⟩ (.int .u64 (lo a2))).setCell ⟨w.heap.size, 3, none⟩ (.int .u64 (hi b2'))).setCell ⟨w.heap.size, 4, none⟩ (.int .u64 (lo b2'))).setCell ⟨w.heap.size, 5, none⟩ (.int .i64 h)).setCell ⟨w.heap.size, 6, none⟩ (.int .i64 g) = w6 at *
  clear s0 s1 s2 s3 s4 s5 s6 sf sl
  have O0 := HO6.out
  rw [show L = L.set k ((L.getD k (false, [])).1, wset (wds L k) d (fun j => wat L kf (i + j)) 0) from (set_self L k hk).symm] at O0
  have HO0 := Lib.hid O0
  clear O0 HO6
  go_wp2_with fail
  go_loopw [15] (fun q wr => ∃ j : Nat, j ≤ t ∧ q = .int .i64 (j : Int) ∧ OS wr w2.heap.size gb (L.set k ((L.getD k (false, [])).1, wset (wds L k) d (fun j => wat L kf (i + j)) j)) G C ∧ PRow wr w.heap.size (.slice (some ⟨gb, 0, none⟩) L.length c) a2 b2' h g ∧ PRow wr (w.heap.size + 1) (.slice none 0 0) 0 0 0 0 ∧ Below w.heap.size w wr) (fun q _ => t - (intOf q).toNat)
  case atStart => exact ⟨0, by omega, rfl, HO0.out, PS6, PR6, B6⟩
  case round =>
    obtain ⟨j, hj, rfl, O, PS, PR, BW⟩ := hrel
    clear PS6 PR6 B6 HO0
    obtain ⟨s0, s1, s2, s3, s4, s5, s6, sf, sl⟩ := PS.all
    have lnj : (L.set k ((L.getD k (false, [])).1, wset (wds L k) d (fun j => wat L kf (i + j)) j)).length = L.length := List.length_set
    have gd : ((L.set k ((L.getD k (false, [])).1, wset (wds L k) d (fun j => wat L kf (i + j)) j)).getD k (false, [])).2 = wset (wds L k) d (fun j => wat L kf (i + j)) j := by rw [getD_set L k k _ hk, if_pos rfl]
    have lz := wset_len (wds L k) d (fun j => wat L kf (i + j)) j
    by_cases hlt : j < t
    · obtain ⟨ub, uo, rfl, hub, huc⟩ := HCELL.out.resolve_left (show ¬ (wds L kf).length = 0 by omega)
      have z0 := (BW.cell (p := ⟨ub, uo + (i + j), none⟩) hub).trans (huc (i + j) (show i + j < (wds L kf).length by omega))
      rw [wat_eq] at z0
      have gk := O.blo k (by rw [lnj]; exact hk)
      have c1 := O.row.cell (k * 2 + 1) (by rw [lnj]; omega)
      rw [scell_w, uval_eq, gd, lz] at c1
      have wr0 := O.wrow k (by rw [lnj]; exact hk)
      rw [gd, lz] at wr0
      have d0 := wr0.cell (d + j) (by omega)
      have df := wr0.free (d + j)
      have HO2 := Lib.hid (O.word2 hk (i := d + j) (by rw [lz]; omega) (wat L kf (i + j)))
      have B2 := Lib.hid (BW.setCell (p := ⟨G k, d + j, none⟩) (by show _ ≤ G k; omega) (.int .u64 (wat L kf (i + j) : Nat)))
      have PS2 := Lib.hid (PS.far (p := ⟨G k, d + j, none⟩) (.int .u64 (wat L kf (i + j) : Nat)) (by show G k ≠ _; omega))
      have PR2 := Lib.hid (PR.far (p := ⟨G k, d + j, none⟩) (.int .u64 (wat L kf (i + j) : Nat)) (by show G k ≠ _; omega))
      have WS := Lib.hid (show wset (wds L k) d (fun j => wat L kf (i + j)) (j + 1) = (wset (wds L k) d (fun j => wat L kf (i + j)) j).set (d + j) (wat L kf (i + j)) from rfl)
      have j0 : (0 : Int) ≤ (j : Int) := by omega
      have j1 : (j : Int) < (t : Int) := by omega
      obtain ⟨q, hq⟩ : ∃ q, q = d + j := ⟨_, rfl⟩
      obtain ⟨r, hr⟩ : ∃ r, r = i + j := ⟨_, rfl⟩
      have eqw : IntKind.i64.wrap ((d : Int) + (j : Int)) = (q : Int) := by rw [IntKind.wrap_i64]; omega
      have erw : IntKind.i64.wrap ((i : Int) + (j : Int)) = (r : Int) := by rw [IntKind.wrap_i64]; omega
      have q1 : (q : Int) < ((wds L k).length : Int) := by omega
      have q0 : (0 : Int) ≤ (q : Int) := by omega
      have r1 : (r : Int) < ((wds L kf).length : Int) := by omega
      have r0 : (0 : Int) ≤ (r : Int) := by omega
      rw [← hq] at d0 df HO2 B2 PS2 PR2 WS
      rw [← hr] at z0 HO2 B2 PS2 PR2 WS
      obtain ⟨x, hx⟩ : ∃ x, wat L kf r = x := ⟨_, rfl⟩
      rw [hx] at z0 HO2 B2 PS2 PR2 WS
      clear hq hr hx wr0 gd lnj lz PS PR BW O huc HCELL
      generalize pw ((wset (wds L k) d (fun j => wat L kf (i + j)) j).getD q 0) = y at *
      generalize (wds L k).length = m at *
      generalize (wds L kf).length = mf at *
      go_wp2_with fail
      go_region
      all_goals
        go_wp2_with fail
        go_roundw
        case rel => exact ⟨j + 1, by omega, by go_num, by rw [WS.out]; exact HO2.out.drew, PS2.out.drew, PR2.out.drew, B2.out.drew⟩
        case measure => simp [intOf]; try omega
    · obtain rfl : j = t := by omega
      obtain ⟨r0, r1, r2, r3, r4, r5, r6, rf, rl⟩ := PR.all
      obtain ⟨y0, y1, y2, y3, y4, y5, y6, yf, yl⟩ := (Row.setP PR (.slice (some ⟨gb, 0, none⟩) L.length c) a2 b2' h g).all
      have B8 := bSev BW (v := w.heap.size + 1) (Nat.le_succ _) (.slice (some ⟨gb, 0, none⟩) L.length c) (.int .u64 (hi a2)) (.int .u64 (lo a2)) (.int .u64 (hi b2')) (.int .u64 (lo b2')) (.int .i64 h) (.int .i64 g)
      have O8 := O.low7 lo1 (.slice (some ⟨gb, 0, none⟩) L.length c) (.int .u64 (hi a2)) (.int .u64 (lo a2)) (.int .u64 (hi b2')) (.int .u64 (lo b2')) (.int .i64 h) (.int .i64 g)
      have S8 := (O8.sb (c := c) (by rw [lnj]; exact hc)).mono (Nat.le_of_lt lo0)
      rw [lnj] at S8
      have HS8 := Lib.hid S8
      clear O8 S8 O PS PR BW lnj gd lz
      go_wp2_with fail
      exact bodyPost_ret (v := .tuple #[ssv (.slice (some ⟨gb, 0, none⟩) L.length c) a2 b2' h g, .int .i64 0]) (by simp [results, Try.results30, go_sem, y0, y1, y2, y3, y4, y5, y6]) rfl ⟨_, rfl, HS8.out, B8⟩

end Go.Proofs.Ytgnpakpnocbhhaa
