/-
  haymowref08.Close.
-/
import Derived.Test.YtgnpakpnocbhhaaWrite08
namespace Go.Proofs.Ytgnpakpnocbhhaa
open Go.RowKit
set_option linter.unusedVariables false

set_option maxRecDepth 100000 in
set_option maxHeartbeats 1000000 in
theorem close_no (v : Value) (a b : Nat) (h g id : Int) (L : List Spc) (w : World) (hv : SL w v L) (hl : L.length ≤ 1000000) (hE : isv L id = false) :
    Calls Try.prog 25 #[ssv v a b h g, .int .i64 id] w fun e w' => e = .returned (.tuple #[ssv v a b h g, .int .i64 10]) ∧ Below w.heap.size w w' := by
  obtain ⟨PS, PR, B1⟩ := boxed v a b h g w
  have WR0 := fun w' (q : SL w' v L) => is_any v a b h g id L w' q hl
  rw [hE] at WR0
  have WR := Lib.hid WR0
  have HV := Lib.hid (hv.below B1)
  obtain ⟨av, cap, rfl⟩ := hv.slice
  clear hv hE WR0
  go_enter Try.func25, Try.ntmps25
  go_upto_region 1 with fail
  generalize (w.alloc (.cells #[.slice av L.length cap, .int .u64 (hi a), .int .u64 (lo a), .int .u64 (hi b), .int .u64 (lo b), .int .i64 h, .int .i64 g] 35)).alloc (.cells #[.slice none 0 0, .int .u64 0, .int .u64 0, .int .u64 0, .int .u64 0, .int .i64 0, .int .i64 0] 35) = W at *
  obtain ⟨s0, s1, s2, s3, s4, s5, s6, sf, sl⟩ := PS.all
  go_wp2_with fail
  refine (WR.out _ HV.out).mono ?_
  rintro e w2 ⟨rfl, b2⟩
  dsimp only
  have PS2 := PS.below b2
  have PR2 := PR.below b2
  have B2 := bTrans B1 b2
  have B3 := bSev B2 (v := w.heap.size + 1) (Nat.le_succ _) (.slice av L.length cap) (.int .u64 (hi a)) (.int .u64 (lo a)) (.int .u64 (hi b)) (.int .u64 (lo b)) (.int .i64 h) (.int .i64 g)
  clear PS PR s0 s1 s2 s3 s4 s5 s6 sf sl b2
  obtain ⟨s0, s1, s2, s3, s4, s5, s6, sf, sl⟩ := PS2.all
  obtain ⟨r0, r1, r2, r3, r4, r5, r6, rf, rl⟩ := PR2.all
  obtain ⟨y0, y1, y2, y3, y4, y5, y6, yf, yl⟩ := (Row.setP PR2 (.slice av L.length cap) a b h g).all
  clear PS2 PR2
  go_wp2_with fail
  exact bodyPost_ret (v := .tuple #[ssv (.slice av L.length cap) a b h g, .int .i64 10]) (by simp [results, Try.results25, go_sem, y0, y1, y2, y3, y4, y5, y6]) rfl ⟨rfl, B3⟩

set_option maxRecDepth 100000 in
set_option maxHeartbeats 1000000 in
theorem close_ok (v : Value) (a b : Nat) (h g : Int) (k : Nat) (L : List Spc) (w : World) (hv : SL w v L) (hl : L.length ≤ 1000000) (hw : ∀ i, i < L.length → (wds L i).length ≤ 100000000) (hf : Fit h g) (hk : k < L.length) (hE : isv L (k : Int) = true) :
    Calls Try.prog 25 #[ssv v a b h g, .int .i64 (k : Int)] w fun e w' => ∃ v', e = .returned (.tuple #[ssv v' a b (freeh h ((wds L k).length : Nat)) g, .int .i64 0]) ∧ SB w' w.heap.size v' (L.set k (false, [])) ∧ Below w.heap.size w w' := by
  obtain ⟨PS, PR, B1⟩ := boxed v a b h g w
  have WR := fun w' (q : SL w' v L) => is_any v a b h g (k : Int) L w' q hl
  rw [hE] at WR
  have WRH := Lib.hid WR
  have lw := hw k hk
  have RS := Lib.hid (fun w' => reffree_any a b h g ((wds L k).length : Nat) hf (by omega) w')
  have CO := Lib.hid (fun w' (q : SL w' v L) => copied_any v a b h g L w' q hl hw)
  have HV := Lib.hid (hv.below B1)
  obtain ⟨av, cap, rfl⟩ := hv.slice
  have i0 : (0 : Int) ≤ (k : Int) := by omega
  have i1 : (k : Int) < (L.length : Int) := by omega
  clear hv hw hE WR hf
  generalize freeh h ((wds L k).length : Nat) = h' at *
  generalize freee h ((wds L k).length : Nat) = er at *
  go_enter Try.func25, Try.ntmps25
  go_upto_region 1 with fail
  have sz : w.heap.size + 2 ≤ ((w.alloc (.cells #[.slice av L.length cap, .int .u64 (hi a), .int .u64 (lo a), .int .u64 (hi b), .int .u64 (lo b), .int .i64 h, .int .i64 g] 35)).alloc (.cells #[.slice none 0 0, .int .u64 0, .int .u64 0, .int .u64 0, .int .u64 0, .int .i64 0, .int .i64 0] 35)).heap.size := by simp
  generalize (w.alloc (.cells #[.slice av L.length cap, .int .u64 (hi a), .int .u64 (lo a), .int .u64 (hi b), .int .u64 (lo b), .int .i64 h, .int .i64 g] 35)).alloc (.cells #[.slice none 0 0, .int .u64 0, .int .u64 0, .int .u64 0, .int .u64 0, .int .i64 0, .int .i64 0] 35) = W at *
  obtain ⟨s0, s1, s2, s3, s4, s5, s6, sf, sl⟩ := PS.all
  go_wp2_with fail
  refine (WRH.out _ HV.out).mono ?_
  rintro e w2 ⟨rfl, b2⟩
  dsimp only
  have PS2 := PS.below b2
  have PR2 := PR.below b2
  have B2 := bTrans B1 b2
  have sz2 : w.heap.size + 2 ≤ w2.heap.size := Nat.le_trans sz b2.size
  have V2 := Lib.hid (HV.out.below b2)
  clear PS PR s0 s1 s2 s3 s4 s5 s6 sf sl b2 B1 HV sz
  obtain ⟨s0, s1, s2, s3, s4, s5, s6, sf, sl⟩ := PS2.all
  go_wp2_with fail
  refine (CO.out _ V2.out).mono ?_
  rintro e w3 ⟨gb, c, G, C, rfl, hc, hcm, hce, O3, b3⟩
  dsimp only
  have PS3 := PS2.below b3
  have PR3 := PR2.below b3
  have B3 := bTrans B2 b3
  have lo0 : w.heap.size < w2.heap.size := by omega
  have lo1 : w.heap.size + 1 < w2.heap.size := by omega
  clear PS2 PR2 s0 s1 s2 s3 s4 s5 s6 sf sl b3 B2 V2 hce hcm
  obtain ⟨s0, s1, s2, s3, s4, s5, s6, sf, sl⟩ := PS3.all
  have PS4 := Row.setP PS3 (.slice (some ⟨gb, 0, none⟩) L.length c) a b h g
  have PR4 := PR3.far7 (t := w.heap.size) (by omega) (.slice (some ⟨gb, 0, none⟩) L.length c) (.int .u64 (hi a)) (.int .u64 (lo a)) (.int .u64 (hi b)) (.int .u64 (lo b)) (.int .i64 h) (.int .i64 g)
  have B4 := bSev B3 (v := w.heap.size) (Nat.le_refl _) (.slice (some ⟨gb, 0, none⟩) L.length c) (.int .u64 (hi a)) (.int .u64 (lo a)) (.int .u64 (hi b)) (.int .u64 (lo b)) (.int .i64 h) (.int .i64 g)
  have HO4 := Lib.hid (O3.low7 lo0 (.slice (some ⟨gb, 0, none⟩) L.length c) (.int .u64 (hi a)) (.int .u64 (lo a)) (.int .u64 (hi b)) (.int .u64 (lo b)) (.int .i64 h) (.int .i64 g))
  clear O3 PS3 PR3 B3
  go_upto_region 4 with fail
  generalize ((((((w3.setCell ⟨w.heap.size, 0, none⟩ (.slice (some ⟨gb, 0, none⟩) L.length c)).setCell ⟨w.heap.size, 1, none⟩ (.int .u64 (hi a))).setCell ⟨w.heap.size, 2, none⟩ (.int .u64 (lo a))).setCell ⟨w.heap.size, 3, none⟩ (.int .u64 (hi b))).setCell ⟨w.heap.size, 4, none⟩ (.int .u64 (lo b))).setCell ⟨w.heap.size, 5, none⟩ (.int .i64 h)).setCell ⟨w.heap.size, 6, none⟩ (.int .i64 g) = w4 at *
  clear s0 s1 s2 s3 s4 s5 s6 sf sl
  obtain ⟨s0, s1, s2, s3, s4, s5, s6, sf, sl⟩ := PS4.all
  have c1 := HO4.out.row.cell (k * 2 + 1) (by omega)
  rw [scell_w, uval_eq] at c1
  change w4.cell? _ = some (.slice (some ⟨G k, 0, none⟩) (wds L k).length (C k)) at c1
  generalize (wds L k).length = m at *
  go_region_with (first
    | (go_at_call 46; with_reducible refine (RS.out _).mono ?_; rintro e w5 ⟨rfl, b5⟩
       have PS5 := PRow.below (by first | exact PS4 | exact PS4.drew) b5
       have PR5 := PRow.below (by first | exact PR4 | exact PR4.drew) b5
       have B5 := bTrans (by first | exact B4 | exact B4.drew) b5
       have HO5 := Lib.hid (OS.below (by first | exact HO4.out | exact HO4.out.drew) b5)
       obtain ⟨t0, t1, t2, t3, t4, t5, t6, tf, tl⟩ := PS5.all))
  all_goals
    have PS6 := PS5.setM a b h' g
    have PR6 := PR5.far16 (t := w.heap.size) (by omega) (.int .u64 (hi a)) (.int .u64 (lo a)) (.int .u64 (hi b)) (.int .u64 (lo b)) (.int .i64 h') (.int .i64 g)
    have B6 := b16 B5 (v := w.heap.size) (Nat.le_refl _) (.int .u64 (hi a)) (.int .u64 (lo a)) (.int .u64 (hi b)) (.int .u64 (lo b)) (.int .i64 h') (.int .i64 g)
    have HO6 := Lib.hid (HO5.out.low6 lo0 (.int .u64 (hi a)) (.int .u64 (lo a)) (.int .u64 (hi b)) (.int .u64 (lo b)) (.int .i64 h') (.int .i64 g))
    go_upto_region 5 with fail
    generalize (((((w5.setCell ⟨w.heap.size, 1, none⟩ (.int .u64 (hi a))).setCell ⟨w.heap.size, 2, none⟩ (.int .u64 (lo a))).setCell ⟨w.heap.size, 3, none⟩ (.int .u64 (hi b))).setCell ⟨w.heap.size, 4, none⟩ (.int .u64 (lo b))).setCell ⟨w.heap.size, 5, none⟩ (.int .i64 h')).setCell ⟨w.heap.size, 6, none⟩ (.int .i64 g) = w6 at *
    clear s0 s1 s2 s3 s4 s5 s6 sf sl t0 t1 t2 t3 t4 t5 t6 tf tl c1 PS5 PR5 B5 HO5 PS4 PR4 B4 HO4
    obtain ⟨s0, s1, s2, s3, s4, s5, s6, sf, sl⟩ := PS6.all
    have O6 := HO6.out
    have d0 := O6.row.cell (k * 2) (by omega)
    have d1 := O6.row.cell (k * 2 + 1) (by omega)
    have df0 := O6.row.free (k * 2)
    have df1 := O6.row.free (k * 2 + 1)
    rw [scell_o] at d0
    rw [scell_w, uval_eq] at d1
    have glo := O6.lo
    have S7 := O6.put hc hk false (NB.nil pw w6 (gb + 1)) (Nat.lt_succ_self gb) (by omega)
    have B7 := (B6.setCell (p := ⟨gb, k * 2, none⟩) (by show _ ≤ gb; omega) (.bool false)).setCell (p := ⟨gb, k * 2 + 1, none⟩) (by show _ ≤ gb; omega) (.slice none 0 0)
    have PS7 := (PS6.far (p := ⟨gb, k * 2, none⟩) (.bool false) (by show gb ≠ _; omega)).far (p := ⟨gb, k * 2 + 1, none⟩) (.slice none 0 0) (by show gb ≠ _; omega)
    have PR7 := (PR6.far (p := ⟨gb, k * 2, none⟩) (.bool false) (by show gb ≠ _; omega)).far (p := ⟨gb, k * 2 + 1, none⟩) (.slice none 0 0) (by show gb ≠ _; omega)
    have HS7 := Lib.hid S7
    clear O6 S7 HO6 PS6 PR6 B6
    go_upto_region 6 with fail
    generalize (w6.setCell ⟨gb, k * 2, none⟩ (.bool false)).setCell ⟨gb, k * 2 + 1, none⟩ (.slice none 0 0) = w7 at *
    clear s0 s1 s2 s3 s4 s5 s6 sf sl d0 d1 df0 df1
    obtain ⟨s0, s1, s2, s3, s4, s5, s6, sf, sl⟩ := PS7.all
    obtain ⟨r0, r1, r2, r3, r4, r5, r6, rf, rl⟩ := PR7.all
    obtain ⟨y0, y1, y2, y3, y4, y5, y6, yf, yl⟩ := (Row.setP PR7 (.slice (some ⟨gb, 0, none⟩) L.length c) a b h' g).all
    have B8 := bSev B7 (v := w.heap.size + 1) (Nat.le_succ _) (.slice (some ⟨gb, 0, none⟩) L.length c) (.int .u64 (hi a)) (.int .u64 (lo a)) (.int .u64 (hi b)) (.int .u64 (lo b)) (.int .i64 h') (.int .i64 g)
    have S8 := (HS7.out.low7 lo1 (.slice (some ⟨gb, 0, none⟩) L.length c) (.int .u64 (hi a)) (.int .u64 (lo a)) (.int .u64 (hi b)) (.int .u64 (lo b)) (.int .i64 h') (.int .i64 g)).mono (Nat.le_of_lt lo0)
    have HS8 := Lib.hid S8
    clear S8 HS7 PS7 PR7 B7
    go_wp2_with fail
    exact bodyPost_ret (v := .tuple #[ssv (.slice (some ⟨gb, 0, none⟩) L.length c) a b h' g, .int .i64 0]) (by simp [results, Try.results25, go_sem, y0, y1, y2, y3, y4, y5, y6]) rfl ⟨_, rfl, HS8.out, B8⟩

end Go.Proofs.Ytgnpakpnocbhhaa
