/-
  haymowref08.Read, Write.
-/
import Derived.Test.YtgnpakpnocbhhaaIs
import Derived.Test.YtgnpakpnocbhhaaPut
import Derived.Deep.RegionWith
namespace Go.Proofs.Ytgnpakpnocbhhaa
open Go.RowKit
set_option linter.unusedVariables false

theorem wrongv_0 {L : List Spc} {id a n : Int} (h : wrongv L id a n = 0) : ∃ k i t : Nat, id = k ∧ a = i ∧ n = t ∧ k < L.length ∧ isv L id = true ∧ i + t ≤ (wds L k).length := by
  unfold wrongv at h
  by_cases hi : isv L id = false
  · rw [if_pos hi] at h; omega
  · rw [if_neg hi] at h
    have ht : isv L id = true := by cases q : isv L id; exact absurd q hi; rfl
    obtain ⟨k, rfl, hk, _⟩ := isv_of ht
    rw [Int.toNat_natCast] at h
    by_cases c : n < 0 ∨ a < 0 ∨ ((wds L k).length : Int) < n ∨ ((wds L k).length : Int) - n < a
    · rw [if_pos c] at h; omega
    · obtain ⟨i, rfl⟩ := Int.eq_ofNat_of_zero_le (show 0 ≤ a by omega)
      obtain ⟨t, rfl⟩ := Int.eq_ofNat_of_zero_le (show 0 ≤ n by omega)
      exact ⟨k, i, t, rfl, rfl, rfl, hk, ht, by omega⟩
theorem boxed (v : Value) (a b : Nat) (h g : Int) (w : World) : PRow ((w.alloc (.cells #[v, .int .u64 (hi a), .int .u64 (lo a), .int .u64 (hi b), .int .u64 (lo b), .int .i64 h, .int .i64 g] 35)).alloc (.cells #[.slice none 0 0, .int .u64 0, .int .u64 0, .int .u64 0, .int .u64 0, .int .i64 0, .int .i64 0] 35)) w.heap.size v a b h g ∧
    PRow ((w.alloc (.cells #[v, .int .u64 (hi a), .int .u64 (lo a), .int .u64 (hi b), .int .u64 (lo b), .int .i64 h, .int .i64 g] 35)).alloc (.cells #[.slice none 0 0, .int .u64 0, .int .u64 0, .int .u64 0, .int .u64 0, .int .i64 0, .int .i64 0] 35)) (w.heap.size + 1) (.slice none 0 0) 0 0 0 0 ∧
    Below w.heap.size w ((w.alloc (.cells #[v, .int .u64 (hi a), .int .u64 (lo a), .int .u64 (hi b), .int .u64 (lo b), .int .i64 h, .int .i64 g] 35)).alloc (.cells #[.slice none 0 0, .int .u64 0, .int .u64 0, .int .u64 0, .int .u64 0, .int .i64 0, .int .i64 0] 35)) :=
  ⟨PRow.alloc (Row.newAt w _ _ w.heap.size 7 _ rfl (st7_new _ a b h g)) _, Row.newAt _ _ _ (w.heap.size + 1) 7 _ (by simp) st7_zero, bAlloc (bAlloc (Below.refl _ _) _) _⟩

set_option maxRecDepth 100000 in
set_option maxHeartbeats 1000000 in
theorem read_bad (v : Value) (a b : Nat) (h g id at' : Int) (L : List Spc) (w : World) (hv : SL w v L) (hl : L.length ≤ 1000000) (hw : ∀ i, i < L.length → (wds L i).length ≤ 100000000) (hE : ¬ wrongv L id at' 1 = 0) :
    Calls Try.prog 27 #[ssv v a b h g, .int .i64 id, .int .i64 at'] w fun e w' => e = .returned (.tuple #[ssv v a b h g, .int .u64 0, .int .i64 (wrongv L id at' 1)]) ∧ Below w.heap.size w w' := by
  obtain ⟨PS, PR, B1⟩ := boxed v a b h g w
  have WR := Lib.hid (fun w' (q : SL w' v L) => wrong_any v a b h g id at' 1 L w' q hl (by omega) hw)
  have HV := Lib.hid (hv.below B1)
  obtain ⟨av, cap, rfl⟩ := hv.slice
  have kE : (wrongv L id at' 1 != 0) = true := by simp [hE]
  clear hv hw hE
  generalize wrongv L id at' 1 = E at *
  go_enter Try.func27, Try.ntmps27
  go_upto_region 1 with fail
  generalize (w.alloc (.cells #[.slice av L.length cap, .int .u64 (hi a), .int .u64 (lo a), .int .u64 (hi b), .int .u64 (lo b), .int .i64 h, .int .i64 g] 35)).alloc (.cells #[.slice none 0 0, .int .u64 0, .int .u64 0, .int .u64 0, .int .u64 0, .int .i64 0, .int .i64 0] 35) = W at *
  obtain ⟨s0, s1, s2, s3, s4, s5, s6, sf, sl⟩ := PS.all
  go_wp2_with fail
  refine (WR.out _ HV.out).mono ?_
  rintro e w2 ⟨rfl, b2⟩
  dsimp only
  have PS2 := PS.below b2
  have PR2 := PR.below b2
  have B2 := bTrans B1 b2
  have B3 := bSev B2 (v := w.heap.size + 1) (Nat.le_succ _) (.slice av L.length cap) (.int .u64 (hi a)) (.int .u64 (lo a)) (.int .u64 (hi b)) (.int .u64 (lo b)) (.int .i64 h) (.int .i64 g)
  clear PS PR s0 s1 s2 s3 s4 s5 s6 sf sl b2
  obtain ⟨s0, s1, s2, s3, s4, s5, s6, sf, sl⟩ := PS2.all
  obtain ⟨r0, r1, r2, r3, r4, r5, r6, rf, rl⟩ := PR2.all
  obtain ⟨y0, y1, y2, y3, y4, y5, y6, yf, yl⟩ := (Row.setP PR2 (.slice av L.length cap) a b h g).all
  clear PS2 PR2
  go_wp2_with fail
  exact bodyPost_ret (v := .tuple #[ssv (.slice av L.length cap) a b h g, .int .u64 0, .int .i64 E]) (by simp [results, Try.results27, go_sem, y0, y1, y2, y3, y4, y5, y6]) rfl ⟨rfl, B3⟩

set_option maxRecDepth 100000 in
set_option maxHeartbeats 1000000 in
theorem read_ok (v : Value) (a b : Nat) (h g : Int) (k i : Nat) (L : List Spc) (w : World) (hv : SL w v L) (hl : L.length ≤ 1000000) (hw : ∀ i, i < L.length → (wds L i).length ≤ 100000000) (ha : N128 a) (hb : N128 b) (hk : k < L.length) (hi' : i < (wds L k).length) (hE : wrongv L (k : Int) (i : Int) 1 = 0) :
    Calls Try.prog 27 #[ssv v a b h g, .int .i64 (k : Int), .int .i64 (i : Int)] w fun e w' => e = .returned (.tuple #[ssv v (stepv 0 0 1 a) (stepv 1 0 1 b) h g, .int .u64 (wat L k i : Nat), .int .i64 0]) ∧ Below w.heap.size w w' := by
  obtain ⟨PS, PR, B1⟩ := boxed v a b h g w
  have WR := fun w' (q : SL w' v L) => wrong_any v a b h g (k : Int) (i : Int) 1 L w' q hl (by omega) hw
  rw [hE] at WR
  have WRH := Lib.hid WR
  have RS := Lib.hid (fun w' => refstep_any a b h g 0 1 ha hb (by omega) w')
  have HV := Lib.hid (hv.below B1)
  have HV0 := Lib.hid hv
  obtain ⟨av, cap, rfl⟩ := hv.slice
  have i0 : (0 : Int) ≤ (k : Int) := by omega
  have i1 : (k : Int) < (L.length : Int) := by omega
  have lw := hw k hk
  clear hv hw hE WR ha hb
  generalize stepv 0 0 1 a = a' at *
  generalize stepv 1 0 1 b = b' at *
  go_enter Try.func27, Try.ntmps27
  go_upto_region 1 with fail
  generalize (w.alloc (.cells #[.slice av L.length cap, .int .u64 (hi a), .int .u64 (lo a), .int .u64 (hi b), .int .u64 (lo b), .int .i64 h, .int .i64 g] 35)).alloc (.cells #[.slice none 0 0, .int .u64 0, .int .u64 0, .int .u64 0, .int .u64 0, .int .i64 0, .int .i64 0] 35) = W at *
  obtain ⟨s0, s1, s2, s3, s4, s5, s6, sf, sl⟩ := PS.all
  go_wp2_with fail
  refine (WRH.out _ HV.out).mono ?_
  rintro e w2 ⟨rfl, b2⟩
  dsimp only
  have PS2 := PS.below b2
  have PR2 := PR.below b2
  have B2 := bTrans B1 b2
  have V2 := Lib.hid (HV.out.below b2)
  clear PS PR s0 s1 s2 s3 s4 s5 s6 sf sl b2 B1 HV
  obtain ⟨s0, s1, s2, s3, s4, s5, s6, sf, sl⟩ := PS2.all
  go_wp2_with fail
  refine (RS.out _).mono ?_
  rintro e w3 ⟨rfl, b3⟩
  dsimp only
  have PS3 := PS2.below b3
  have PR3 := PR2.below b3
  have B3 := bTrans B2 b3
  have V3 := Lib.hid (V2.out.below b3)
  clear PS2 PR2 s0 s1 s2 s3 s4 s5 s6 sf sl b3 B2 V2
  obtain ⟨s0, s1, s2, s3, s4, s5, s6, sf, sl⟩ := PS3.all
  have PS4 := PS3.setM a' b' h g
  have PR4 := PR3.far16 (t := w.heap.size) (by omega) (.int .u64 (hi a')) (.int .u64 (lo a')) (.int .u64 (hi b')) (.int .u64 (lo b')) (.int .i64 h) (.int .i64 g)
  have B4 := b16 B3 (v := w.heap.size) (Nat.le_refl _) (.int .u64 (hi a')) (.int .u64 (lo a')) (.int .u64 (hi b')) (.int .u64 (lo b')) (.int .i64 h) (.int .i64 g)
  have B5 := bSev B4 (v := w.heap.size + 1) (Nat.le_succ _) (.slice av L.length cap) (.int .u64 (hi a')) (.int .u64 (lo a')) (.int .u64 (hi b')) (.int .u64 (lo b')) (.int .i64 h) (.int .i64 g)
  have PS5 := PS4.far7 (t := w.heap.size + 1) (by omega) (.slice av L.length cap) (.int .u64 (hi a')) (.int .u64 (lo a')) (.int .u64 (hi b')) (.int .u64 (lo b')) (.int .i64 h) (.int .i64 g)
  have PR5 := Row.setP PR4 (.slice av L.length cap) a' b' h g
  go_upto_region 5 with fail
  generalize (((((w3.setCell ⟨w.heap.size, 1, none⟩ (.int .u64 (hi a'))).setCell ⟨w.heap.size, 2, none⟩ (.int .u64 (lo a'))).setCell ⟨w.heap.size, 3, none⟩ (.int .u64 (hi b'))).setCell ⟨w.heap.size, 4, none⟩ (.int .u64 (lo b'))).setCell ⟨w.heap.size, 5, none⟩ (.int .i64 h)).setCell ⟨w.heap.size, 6, none⟩ (.int .i64 g) = w4 at *
  clear PS3 PR3 s0 s1 s2 s3 s4 s5 s6 sf sl B3 V3
  obtain ⟨s0, s1, s2, s3, s4, s5, s6, sf, sl⟩ := PS4.all
  obtain ⟨r0, r1, r2, r3, r4, r5, r6, rf, rl⟩ := PR4.all
  obtain ⟨_, bl, off, u, rfl, hbl, c0, c1, nl⟩ := HV0.out.at hk
  obtain ⟨ua, uc, hu, hcu, _, hcell⟩ := nl
  subst hu
  obtain ⟨wb, wo, rfl, hwb, hwc⟩ := hcell.resolve_left (show ¬ (wds L k).length = 0 by omega)
  have d0 := hwc i hi'
  rw [wat_eq] at d0
  have e1 : w4.cell? ⟨bl, off + k * 2 + 1, none⟩ = some (.slice (some ⟨wb, wo, none⟩) (wds L k).length uc) := (B4.cell (p := ⟨bl, off + k * 2 + 1, none⟩) hbl).trans c1
  have e2 : w4.cell? ⟨wb, wo + i, none⟩ = some (.int .u64 (wat L k i : Nat)) := (B4.cell (p := ⟨wb, wo + i, none⟩) hwb).trans d0
  have f0 := PS5.all.1
  have f1 := (B5.cell (p := ⟨bl, off + k * 2 + 1, none⟩) hbl).trans c1
  have f2 := (B5.cell (p := ⟨wb, wo + i, none⟩) hwb).trans d0
  change World.cell? _ _ = some (.slice (some ⟨wb, wo, none⟩) (wds L k).length uc) at f1
  have j0 : (0 : Int) ≤ (i : Int) := by omega
  have j1 : (i : Int) < ((wds L k).length : Int) := by omega
  obtain ⟨y0, y1, y2, y3, y4, y5, y6, yf, yl⟩ := PR5.all
  have HB5 := Lib.hid B5
  clear hwc hcell PS4 PR4 PS5 PR5 hi' hcu HV0 B4 B5 c0 c1 d0 yf
  generalize (wds L k).length = m at *
  obtain ⟨x, hx⟩ : ∃ x, wat L k i = x := ⟨_, rfl⟩
  rw [hx] at e2 f2
  have HX := Lib.hid hx
  clear hx
  go_region
  all_goals
    go_wp2
    exact bodyPost_ret (v := .tuple #[ssv (.slice (some ⟨bl, off, none⟩) L.length cap) a' b' h g, .int .u64 (x : Nat), .int .i64 0]) (by simp [results, Try.results27, go_sem, y0, y1, y2, y3, y4, y5, y6]) rfl ⟨by rw [HX.out], HB5.out.drew⟩

end Go.Proofs.Ytgnpakpnocbhhaa
