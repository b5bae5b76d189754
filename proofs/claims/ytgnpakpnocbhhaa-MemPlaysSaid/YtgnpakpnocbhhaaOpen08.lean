/-
  haymowref08.Open.
-/
import Derived.Test.YtgnpakpnocbhhaaWrite08
import Derived.Test.YtgnpakpnocbhhaaOpenMath
import Derived.LoopTactic
import Derived.Deep.OwnRows
namespace Go.Proofs.Ytgnpakpnocbhhaa
open Go.RowKit
set_option linter.unusedVariables false

set_option maxRecDepth 100000 in
set_option maxHeartbeats 1000000 in
theorem open_neg (v : Value) (a b : Nat) (h g n : Int) (L : List Spc) (w : World) (hv : SL w v L) (hn : n < 0) :
    Calls Try.prog 24 #[ssv v a b h g, .int .i64 n] w fun e w' => e = .returned (.tuple #[ssv v a b h g, .int .i64 0, .int .i64 1]) ∧ Below w.heap.size w w' := by
  obtain ⟨PS, PR, B1⟩ := boxed v a b h g w
  obtain ⟨av, cap, rfl⟩ := hv.slice
  clear hv
  go_enter Try.func24, Try.ntmps24
  go_upto_region 1 with fail
  generalize (w.alloc (.cells #[.slice av L.length cap, .int .u64 (hi a), .int .u64 (lo a), .int .u64 (hi b), .int .u64 (lo b), .int .i64 h, .int .i64 g] 35)).alloc (.cells #[.slice none 0 0, .int .u64 0, .int .u64 0, .int .u64 0, .int .u64 0, .int .i64 0, .int .i64 0] 35) = W at *
  obtain ⟨s0, s1, s2, s3, s4, s5, s6, sf, sl⟩ := PS.all
  obtain ⟨r0, r1, r2, r3, r4, r5, r6, rf, rl⟩ := PR.all
  have B3 := bSev B1 (v := w.heap.size + 1) (Nat.le_succ _) (.slice av L.length cap) (.int .u64 (hi a)) (.int .u64 (lo a)) (.int .u64 (hi b)) (.int .u64 (lo b)) (.int .i64 h) (.int .i64 g)
  obtain ⟨y0, y1, y2, y3, y4, y5, y6, yf, yl⟩ := (Row.setP PR (.slice av L.length cap) a b h g).all
  clear PS PR
  go_wp2_with fail
  exact bodyPost_ret (v := .tuple #[ssv (.slice av L.length cap) a b h g, .int .i64 0, .int .i64 1]) (by simp [results, Try.results24, go_sem, y0, y1, y2, y3, y4, y5, y6]) rfl ⟨rfl, B3⟩

set_option maxRecDepth 100000 in
set_option maxHeartbeats 1000000 in
theorem open_long (v : Value) (a b : Nat) (h g n : Int) (L : List Spc) (w : World) (hv : SL w v L) (hn : 4194304 < n) :
    Calls Try.prog 24 #[ssv v a b h g, .int .i64 n] w fun e w' => e = .returned (.tuple #[ssv v a b h g, .int .i64 0, .int .i64 7]) ∧ Below w.heap.size w w' := by
  obtain ⟨PS, PR, B1⟩ := boxed v a b h g w
  obtain ⟨av, cap, rfl⟩ := hv.slice
  clear hv
  have d0 : decide (n < 0) = false := decide_eq_false (by omega)
  have d1 : decide (4194304 < n) = true := decide_eq_true hn
  clear hn
  go_enter Try.func24, Try.ntmps24
  go_upto_region 1 with fail
  generalize (w.alloc (.cells #[.slice av L.length cap, .int .u64 (hi a), .int .u64 (lo a), .int .u64 (hi b), .int .u64 (lo b), .int .i64 h, .int .i64 g] 35)).alloc (.cells #[.slice none 0 0, .int .u64 0, .int .u64 0, .int .u64 0, .int .u64 0, .int .i64 0, .int .i64 0] 35) = W at *
  obtain ⟨s0, s1, s2, s3, s4, s5, s6, sf, sl⟩ := PS.all
  obtain ⟨r0, r1, r2, r3, r4, r5, r6, rf, rl⟩ := PR.all
  have B3 := bSev B1 (v := w.heap.size + 1) (Nat.le_succ _) (.slice av L.length cap) (.int .u64 (hi a)) (.int .u64 (lo a)) (.int .u64 (hi b)) (.int .u64 (lo b)) (.int .i64 h) (.int .i64 g)
  obtain ⟨y0, y1, y2, y3, y4, y5, y6, yf, yl⟩ := (Row.setP PR (.slice av L.length cap) a b h g).all
  clear PS PR
  go_wp2_with fail
  exact bodyPost_ret (v := .tuple #[ssv (.slice av L.length cap) a b h g, .int .i64 0, .int .i64 7]) (by simp [results, Try.results24, go_sem, y0, y1, y2, y3, y4, y5, y6]) rfl ⟨rfl, B3⟩

def zrow (q : Nat) : List Value := List.replicate q (.int .u64 0)
theorem made_zrow (q : Nat) : madeCells (Value.int .u64 0).cells (q * 1) = (zrow q).toArray := by
  unfold madeCells zrow
  apply Array.ext
  · simp
  · intro i h1 h2
    simp [Value.cells, Nat.mod_one]
theorem zrow_at (q j : Nat) (hj : j < q) : ((zrow q).toArray : Array Value)[j]? = some (pw ((List.replicate q 0).getD j 0)) := by
  unfold zrow; simp [List.getD, hj, pw]
attribute [irreducible] zrow
theorem make_words (n : Nat) (hn : n ≤ 10000000) (w : World) : (Instr.makeSlice 75 (.int .i64 (n : Int)) (.int .i64 (n : Int))).run Try.prog w = .ok (.slice (some ⟨w.heap.size, 0, none⟩) n n) (w.alloc (.cells (zrow n).toArray 28)) := by
  obtain ⟨i0, hi, hz0, hz1, hz2⟩ := info_parts2 infoW
  have := run_make (P := Try.prog) w 75 28 i0 (.int .u64 0) Try.underlying75 hi hz0 .i64 .i64 (n : Int) (n : Int) (by omega) (by omega) (by rw [hz2]; omega) (by omega)
  rw [Int.toNat_natCast, hz1, made_zrow] at this
  exact this
theorem zwords (w : World) (n : Nat) : NB pw (w.alloc (.cells (zrow n).toArray 28)) w.heap.size (.slice (some ⟨w.heap.size, 0, none⟩) n n) (List.replicate n 0) := by
  have e : (List.replicate n 0).length = n := by simp
  have r := NB.of_row (p := pw) (w := w.alloc (.cells (zrow n).toArray 28)) (g := w.heap.size) (c := n) (B := w.heap.size) (L := List.replicate n 0) (Row.newAt w _ _ _ _ _ rfl (fun j hj => by rw [e] at hj; exact zrow_at n j hj)) (by rw [e]; exact Nat.le_refl _) (Nat.le_refl _)
  rw [e] at r
  exact r

set_option maxRecDepth 100000 in
set_option maxHeartbeats 2000000 in
theorem open_ok (v : Value) (a b : Nat) (h g : Int) (n : Nat) (L : List Spc) (w : World) (hv : SL w v L) (hl : L.length ≤ 200000) (hw : ∀ i, i < L.length → (wds L i).length ≤ 100000000) (hf : Fit h g) (hn : n ≤ 4194304) :
    Calls Try.prog 24 #[ssv v a b h g, .int .i64 (n : Int)] w fun e w' => ∃ v', e = .returned (.tuple #[ssv v' a b (holdh h (n : Int)) (holdg h g (n : Int)), .int .i64 (firstc L : Nat), .int .i64 0]) ∧ SB w' w.heap.size v' (opened L n) ∧ Below w.heap.size w w' := by
  obtain ⟨PS, PR, B1⟩ := boxed v a b h g w
  have CT := Lib.hid (fun w' (q : SL w' v L) => count_any v a b h g L w' q (by omega))
  have RH := Lib.hid (fun w' => refhold_any a b h g (n : Int) hf (by omega) w')
  have CO := Lib.hid (fun w' (q : SL w' v L) => copied_any v a b h g L w' q (by omega) hw)
  have MK := make_words n (by omega)
  have cl := countv_le L
  have HV := Lib.hid (hv.below B1)
  obtain ⟨av, cap, rfl⟩ := hv.slice
  have cl2 : decide (262144 ≤ (countv L : Int)) = false := decide_eq_false (by omega)
  have n1 : decide (4194304 < (n : Int)) = false := decide_eq_false (by omega)
  have n0 : decide ((n : Int) < 0) = false := decide_eq_false (by omega)
  have HN := Lib.hid hn
  have HL := Lib.hid hl
  clear hv hw hf cl hn hl
  generalize countv L = ct at *
  generalize holdh h (n : Int) = h' at *
  generalize holdg h g (n : Int) = g' at *
  generalize holde h (n : Int) = er at *
  go_enter Try.func24, Try.ntmps24
  go_upto_region 1 with fail
  have sz : w.heap.size + 2 ≤ ((w.alloc (.cells #[.slice av L.length cap, .int .u64 (hi a), .int .u64 (lo a), .int .u64 (hi b), .int .u64 (lo b), .int .i64 h, .int .i64 g] 35)).alloc (.cells #[.slice none 0 0, .int .u64 0, .int .u64 0, .int .u64 0, .int .u64 0, .int .i64 0, .int .i64 0] 35)).heap.size := by simp
  generalize (w.alloc (.cells #[.slice av L.length cap, .int .u64 (hi a), .int .u64 (lo a), .int .u64 (hi b), .int .u64 (lo b), .int .i64 h, .int .i64 g] 35)).alloc (.cells #[.slice none 0 0, .int .u64 0, .int .u64 0, .int .u64 0, .int .u64 0, .int .i64 0, .int .i64 0] 35) = W at *
  obtain ⟨s0, s1, s2, s3, s4, s5, s6, sf, sl⟩ := PS.all
  go_wp2_with fail
  with_reducible refine (CT.out _ HV.out).mono ?_
  rintro e w2 ⟨rfl, b2⟩
  dsimp only
  have PS2 := PS.below b2
  have PR2 := PR.below b2
  have B2 := bTrans B1 b2
  have sz2 : w.heap.size + 2 ≤ w2.heap.size := Nat.le_trans sz b2.size
  have V2 := Lib.hid (HV.out.below b2)
  clear PS PR s0 s1 s2 s3 s4 s5 s6 sf sl b2 B1 HV sz CT
  obtain ⟨s0, s1, s2, s3, s4, s5, s6, sf, sl⟩ := PS2.all
  go_wp2_with fail
  with_reducible refine (CO.out _ V2.out).mono ?_
  rintro e w3 ⟨gb, c, G, C, rfl, hc, hcm, hce, O3, b3⟩
  dsimp only
  have PS3 := PS2.below b3
  have PR3 := PR2.below b3
  have B3 := bTrans B2 b3
  have lo0 : w.heap.size < w2.heap.size := by omega
  have lo1 : w.heap.size + 1 < w2.heap.size := by omega
  clear PS2 PR2 s0 s1 s2 s3 s4 s5 s6 sf sl b3 B2 V2 CO
  obtain ⟨s0, s1, s2, s3, s4, s5, s6, sf, sl⟩ := PS3.all
  have PS4 := Row.setP PS3 (.slice (some ⟨gb, 0, none⟩) L.length c) a b h g
  have PR4 := PR3.far7 (t := w.heap.size) (by omega) (.slice (some ⟨gb, 0, none⟩) L.length c) (.int .u64 (hi a)) (.int .u64 (lo a)) (.int .u64 (hi b)) (.int .u64 (lo b)) (.int .i64 h) (.int .i64 g)
  have B4 := bSev B3 (v := w.heap.size) (Nat.le_refl _) (.slice (some ⟨gb, 0, none⟩) L.length c) (.int .u64 (hi a)) (.int .u64 (lo a)) (.int .u64 (hi b)) (.int .u64 (lo b)) (.int .i64 h) (.int .i64 g)
  have HO4 := Lib.hid (O3.low7 lo0 (.slice (some ⟨gb, 0, none⟩) L.length c) (.int .u64 (hi a)) (.int .u64 (lo a)) (.int .u64 (hi b)) (.int .u64 (lo b)) (.int .i64 h) (.int .i64 g))
  have HC4 := Lib.hid (((((((hce.set w.heap.size 0 (.slice (some ⟨gb, 0, none⟩) L.length c)).set w.heap.size 1 (.int .u64 (hi a))).set w.heap.size 2 (.int .u64 (lo a))).set w.heap.size 3 (.int .u64 (hi b))).set w.heap.size 4 (.int .u64 (lo b))).set w.heap.size 5 (.int .i64 h)).set w.heap.size 6 (.int .i64 g))
  clear O3 PS3 PR3 B3 hce
  go_upto_region 8 with fail
  generalize ((((((w3.setCell ⟨w.heap.size, 0, none⟩ (.slice (some ⟨gb, 0, none⟩) L.length c)).setCell ⟨w.heap.size, 1, none⟩ (.int .u64 (hi a))).setCell ⟨w.heap.size, 2, none⟩ (.int .u64 (lo a))).setCell ⟨w.heap.size, 3, none⟩ (.int .u64 (hi b))).setCell ⟨w.heap.size, 4, none⟩ (.int .u64 (lo b))).setCell ⟨w.heap.size, 5, none⟩ (.int .i64 h)).setCell ⟨w.heap.size, 6, none⟩ (.int .i64 g) = w4 at *
  clear s0 s1 s2 s3 s4 s5 s6 sf sl
  obtain ⟨s0, s1, s2, s3, s4, s5, s6, sf, sl⟩ := PS4.all
  go_wp2_with fail
  go_loopw [7] (fun q wr => ∃ k : Nat, k ≤ L.length ∧ q = .int .i64 (k : Int) ∧ (∀ j, j < k → (L.getD j (false, [])).1 = true) ∧ w4 = wr) (fun q _ => L.length - (intOf q).toNat)
  case atStart => exact ⟨0, by omega, rfl, (fun j hj => by omega), rfl⟩
  case round =>
    obtain ⟨k, hk, rfl, ho, rfl⟩ := hrel
    have k0 : (0 : Int) ≤ (k : Int) := by omega
    have kb : (k : Int) ≤ 200000 := by have := HL.out; omega
    by_cases hlt : k < L.length
    · have k1 : (k : Int) < (L.length : Int) := by omega
      have kne : ((k : Int) == (L.length : Int)) = false := by simp; omega
      have c0 := HO4.out.row.cell (k * 2) (by omega)
      have c1 := HO4.out.row.cell (k * 2 + 1) (by omega)
      have cf0 := HO4.out.row.free (k * 2)
      have cf1 := HO4.out.row.free (k * 2 + 1)
      rw [scell_o] at c0
      rw [scell_w, uval_eq] at c1
      cases hko : (L.getD k (false, [])).1
      · have FE := Lib.hid (firstc_eq L k ho (.inr ⟨hlt, hko⟩))
        have OE := Lib.hid (show opened L n = L.set k (true, List.replicate n 0) by unfold opened; rw [FE.out, if_pos hlt])
        rw [hko] at c0
        clear ho hko
        have OA := HO4.out.below (bAlloc (Below.refl w4.heap.size w4) (.cells (zrow n).toArray 28))
        have e0 := OA.row.cell (k * 2) (by omega)
        have e1 := OA.row.cell (k * 2 + 1) (by omega)
        have ef0 := OA.row.free (k * 2)
        have ef1 := OA.row.free (k * 2 + 1)
        rw [scell_o] at e0
        rw [scell_w, uval_eq] at e1
        have glo := HO4.out.lo
        have S5 := OA.put hc hlt true (zwords w4 n) HO4.out.row.lt (Nat.le_trans HO4.out.lo (Nat.le_of_lt HO4.out.row.lt))
        have BA := B4.alloc B4.size (.cells (zrow n).toArray 28)
        have B5 := (BA.setCell (p := ⟨gb, k * 2, none⟩) (by show _ ≤ gb; omega) (.bool true)).setCell (p := ⟨gb, k * 2 + 1, none⟩) (by show _ ≤ gb; omega) (.slice (some ⟨w4.heap.size, 0, none⟩) n n)
        have PS5 := ((PS4.alloc (.cells (zrow n).toArray 28)).far (p := ⟨gb, k * 2, none⟩) (.bool true) (by show gb ≠ _; omega)).far (p := ⟨gb, k * 2 + 1, none⟩) (.slice (some ⟨w4.heap.size, 0, none⟩) n n) (by show gb ≠ _; omega)
        have PR5 := ((PR4.alloc (.cells (zrow n).toArray 28)).far (p := ⟨gb, k * 2, none⟩) (.bool true) (by show gb ≠ _; omega)).far (p := ⟨gb, k * 2 + 1, none⟩) (.slice (some ⟨w4.heap.size, 0, none⟩) n n) (by show gb ≠ _; omega)
        have HS5 := Lib.hid S5
        have HB5 := Lib.hid B5
        have HPS5 := Lib.hid PS5
        have HPR5 := Lib.hid PR5
        clear OA S5 B5 BA PS5 PR5 PS4 PR4 B4 HO4 HC4
        go_upto_region 13 with fail
        go_region
        all_goals
          obtain ⟨w5, hw5⟩ : ∃ w5, w5 = ((w4.alloc (.cells (zrow n).toArray 28)).setCell ⟨gb, k * 2, none⟩ (.bool true)).setCell ⟨gb, k * 2 + 1, none⟩ (.slice (some ⟨w4.heap.size, 0, none⟩) n n) := ⟨_, rfl⟩
          rw [← hw5] at HS5 HB5 HPS5 HPR5
          rw [← hw5]
          clear hw5 e0 e1 ef0 ef1 s0 s1 s2 s3 s4 s5 s6 sf sl c0 c1 cf0 cf1
          obtain ⟨s0, s1, s2, s3, s4, s5, s6, sf, sl⟩ := HPS5.out.all
          go_wp2_with fail
          with_reducible refine (RH.out _).mono ?_
          rintro e w6 ⟨rfl, b6⟩
          dsimp only
          have PS6 := PRow.below (by first | exact HPS5.out | exact HPS5.out.drew) b6
          have PR6 := PRow.below (by first | exact HPR5.out | exact HPR5.out.drew) b6
          have B6 := bTrans (by first | exact HB5.out | exact HB5.out.drew) b6
          have SB6 := SB.below (by first | exact HS5.out | exact HS5.out.drew) b6
          clear HPS5 HPR5 HB5 HS5 s0 s1 s2 s3 s4 s5 s6 sf sl
          obtain ⟨s0, s1, s2, s3, s4, s5, s6, sf, sl⟩ := PS6.all
          have PS7 := PS6.setM a b h' g'
          have PR7 := PR6.far16 (t := w.heap.size) (by omega) (.int .u64 (hi a)) (.int .u64 (lo a)) (.int .u64 (hi b)) (.int .u64 (lo b)) (.int .i64 h') (.int .i64 g')
          have B7 := b16 B6 (v := w.heap.size) (Nat.le_refl _) (.int .u64 (hi a)) (.int .u64 (lo a)) (.int .u64 (hi b)) (.int .u64 (lo b)) (.int .i64 h') (.int .i64 g')
          have HS7 := Lib.hid (SB6.low6 lo0 (.int .u64 (hi a)) (.int .u64 (lo a)) (.int .u64 (hi b)) (.int .u64 (lo b)) (.int .i64 h') (.int .i64 g'))
          clear PS6 PR6 B6 SB6 b6
          go_upto_region 15 with fail
          generalize (((((w6.setCell ⟨w.heap.size, 1, none⟩ (.int .u64 (hi a))).setCell ⟨w.heap.size, 2, none⟩ (.int .u64 (lo a))).setCell ⟨w.heap.size, 3, none⟩ (.int .u64 (hi b))).setCell ⟨w.heap.size, 4, none⟩ (.int .u64 (lo b))).setCell ⟨w.heap.size, 5, none⟩ (.int .i64 h')).setCell ⟨w.heap.size, 6, none⟩ (.int .i64 g') = w7 at *
          clear s0 s1 s2 s3 s4 s5 s6 sf sl
          obtain ⟨s0, s1, s2, s3, s4, s5, s6, sf, sl⟩ := PS7.all
          obtain ⟨r0, r1, r2, r3, r4, r5, r6, rf, rl⟩ := PR7.all
          obtain ⟨y0, y1, y2, y3, y4, y5, y6, yf, yl⟩ := (Row.setP PR7 (.slice (some ⟨gb, 0, none⟩) L.length c) a b h' g').all
          have B8 := bSev B7 (v := w.heap.size + 1) (Nat.le_succ _) (.slice (some ⟨gb, 0, none⟩) L.length c) (.int .u64 (hi a)) (.int .u64 (lo a)) (.int .u64 (hi b)) (.int .u64 (lo b)) (.int .i64 h') (.int .i64 g')
          have HS8 := Lib.hid (SB.mono (HS7.out.low7 lo1 (.slice (some ⟨gb, 0, none⟩) L.length c) (.int .u64 (hi a)) (.int .u64 (lo a)) (.int .u64 (hi b)) (.int .u64 (lo b)) (.int .i64 h') (.int .i64 g')) (Nat.le_of_lt lo0))
          clear HS7 PS7 PR7 B7
          go_wp2_with fail
          exact bodyPost_ret (v := .tuple #[ssv (.slice (some ⟨gb, 0, none⟩) L.length c) a b h' g', .int .i64 (k : Int), .int .i64 0]) (by simp [results, Try.results24, go_sem, y0, y1, y2, y3, y4, y5, y6]) rfl ⟨_, by rw [FE.out], by rw [OE.out]; exact HS8.out, B8⟩
      · have HO := Lib.hid (show ∀ j, j < k + 1 → (L.getD j (false, [])).1 = true from fun j hj => by
          rcases Nat.lt_or_ge j k with q | q
          · exact ho j q
          · rw [show j = k by omega]; exact hko)
        rw [hko] at c0
        clear ho hko c1 cf0 cf1
        go_wp2_with fail
        go_roundw
        case rel => exact ⟨k + 1, by omega, by go_num, HO.out, by first | rfl | trivial⟩
        case measure => simp [intOf]; try omega
    · obtain rfl : k = L.length := by omega
      have FE := Lib.hid (firstc_eq L L.length ho (.inl rfl))
      have OE := Lib.hid (show opened L n = L ++ [(true, List.replicate n 0)] by unfold opened; rw [FE.out, if_neg (by omega)])
      clear ho
      obtain ⟨ii, hi, hz0, hz1, hz2⟩ := info_parts2 infoS
      have hl' := HL.out
      have O := HO4.out
      have glt := O.row.lt
      have own := own_of_row HC4.out O.row hc hcm O.lo
      obtain ⟨g5, c5, w5, hr, own5, grow5, lies, lt5⟩ := run_append_lies (P := Try.prog) (w4.alloc (.cells #[.bool false, .slice none 0 0] 80)) 27 27 w2.heap.size 80 ii _ 2 32 Try.underlying27 hi hz0 hz1 hz2 rfl (by decide) _ L.length _ (own.alloc _) ⟨w4.heap.size, 0, none⟩ 1 1 [.bool false, .slice none 0 0] rfl (World.news_of_block (cs := #[.bool false, .slice none 0 0]) (t := 80) (fr := (0, 0)) (heap_alloc_new w4 _)) (fun u hu => by simp at hu; rcases hu with rfl | rfl <;> rfl) (by decide) (by unfold maxLen; omega) (by omega) (by have := O.lo; simp; omega) _ rfl
      rw [scell_snoc L (uval L G C) (false, []) (.slice none 0 0)] at own5
      obtain ⟨g6, c6, eg, hc6, _, R5, _, _⟩ := Row.of_ownsG (f := scell (L ++ [(false, [])]) (fun i => if i < L.length then uval L G C i else .slice none 0 0)) own5 (fun e => by cases e) (fun j hj => by simp [hj])
      injection eg with eg1 eg2 eg3
      injection eg1 with eg1
      injection eg1 with eg1
      subst eg1
      subst eg3
      have BA : Below w4.heap.size w4 (w4.alloc (.cells #[.bool false, .slice none 0 0] 80)) := bAlloc (Below.refl _ _) _
      have H5 := OS.more (O.below BA) R5 (by
        rcases lies with e | e
        · exact .inl (Option.some.inj e).symm
        · exact .inr (by rw [e]; exact Nat.le_refl _)) grow5
      have BG : Below w2.heap.size w4 w5 := (BA.mono (by have := O.lo; omega)).grown grow5 (by have := O.lo; simp; omega) (fun j hj => by
        have : gb = j := Option.some.inj hj
        rw [← this]; exact O.lo)
      have PS5 := PS4.belowB BG lo0
      have PR5 := PR4.belowB BG lo1
      have B5 := B4.trans (BG.mono (by omega))
      have lo5 := H5.lo
      have HR := Lib.hid hr
      have HH5 := Lib.hid (H5.low (p := ⟨w.heap.size, 0, none⟩) lo0 (.slice (some ⟨g5, 0, none⟩) (L.length + 1) c5))
      have HPS6 := Lib.hid (PS5.setV (.slice (some ⟨g5, 0, none⟩) (L.length + 1) c5))
      have HPR6 := Lib.hid (PR5.far (p := ⟨w.heap.size, 0, none⟩) (.slice (some ⟨g5, 0, none⟩) (L.length + 1) c5) (by simp))
      have HB6 := Lib.hid (B5.setCell (p := ⟨w.heap.size, 0, none⟩) (Nat.le_refl _) (.slice (some ⟨g5, 0, none⟩) (L.length + 1) c5))
      have HC6 := Lib.hid hc6
      obtain ⟨t0, t1, t2, t3, t4, t5, t6, tf, tl⟩ := PS5.all
      clear hi hz0 hz1 hz2 hl' O own own5 grow5 lies lt5 R5 BA H5 BG PS5 PR5 B5 HO4 HC4 PS4 PR4 B4 hc6 hr hk
      have ll : (L ++ [((false, []) : Spc)]).length = L.length + 1 := by simp
      have SE := Lib.hid (show (L ++ [((false, []) : Spc)]).set L.length (true, List.replicate n 0) = L ++ [(true, List.replicate n 0)] by rw [List.set_append_right _ _ (Nat.le_refl _)]; simp)
      have OA := HH5.out.below (bAlloc (Below.refl (w5.setCell ⟨w.heap.size, 0, none⟩ (.slice (some ⟨g5, 0, none⟩) (L.length + 1) c5)).heap.size _) (.cells (zrow n).toArray 28))
      have rr := OA.row
      rw [ll] at rr
      have e0 := rr.cell (L.length * 2) (by omega)
      have e1 := rr.cell (L.length * 2 + 1) (by omega)
      have ef0 := rr.free (L.length * 2)
      have ef1 := rr.free (L.length * 2 + 1)
      rw [scell_o] at e0
      rw [scell_w, if_neg (by omega)] at e1
      have S5 := OA.put (c := c5) (by rw [ll]; exact HC6.out) (by rw [ll]; omega) true (zwords _ n) HH5.out.row.lt (Nat.le_trans HH5.out.lo (Nat.le_of_lt HH5.out.row.lt))
      rw [ll, SE.out] at S5
      have BA := HB6.out.alloc HB6.out.size (.cells (zrow n).toArray 28)
      have B7 := (BA.setCell (p := ⟨g5, L.length * 2, none⟩) (by show _ ≤ g5; omega) (.bool true)).setCell (p := ⟨g5, L.length * 2 + 1, none⟩) (by show _ ≤ g5; omega) (.slice (some ⟨(w5.setCell ⟨w.heap.size, 0, none⟩ (.slice (some ⟨g5, 0, none⟩) (L.length + 1) c5)).heap.size, 0, none⟩) n n)
      have PS7 := ((HPS6.out.alloc (.cells (zrow n).toArray 28)).far (p := ⟨g5, L.length * 2, none⟩) (.bool true) (by show g5 ≠ _; omega)).far (p := ⟨g5, L.length * 2 + 1, none⟩) (.slice (some ⟨(w5.setCell ⟨w.heap.size, 0, none⟩ (.slice (some ⟨g5, 0, none⟩) (L.length + 1) c5)).heap.size, 0, none⟩) n n) (by show g5 ≠ _; omega)
      have PR7 := ((HPR6.out.alloc (.cells (zrow n).toArray 28)).far (p := ⟨g5, L.length * 2, none⟩) (.bool true) (by show g5 ≠ _; omega)).far (p := ⟨g5, L.length * 2 + 1, none⟩) (.slice (some ⟨(w5.setCell ⟨w.heap.size, 0, none⟩ (.slice (some ⟨g5, 0, none⟩) (L.length + 1) c5)).heap.size, 0, none⟩) n n) (by show g5 ≠ _; omega)
      have HPSS := HPS6.out
      obtain ⟨v0, v1, v2, v3, v4, v5, v6, vf, vl⟩ := HPSS.all
      have HS5 := Lib.hid S5
      have HB5 := Lib.hid B7
      have HPS5 := Lib.hid PS7
      have HPR5 := Lib.hid PR7
      clear OA rr S5 BA B7 PS7 PR7 HPSS HPS6 HPR6 HB6 HH5 SE vf
      have kb2 : (L.length : Int) < ((L.length + 1 : Nat) : Int) := by omega
      generalize hm1 : L.length + 1 = m at *
      have HM := Lib.hid hm1
      clear hm1 ll
      go_wp2_with (at_builtin; refine Lib.wpList_append_run _ rfl _ _ _ _ rfl _ _ rfl rfl _ _ HR.out ?_)
      clear t0 t1 t2 t3 t4 t5 t6 tf tl HR
      generalize w5.setCell ⟨w.heap.size, 0, none⟩ (.slice (some ⟨g5, 0, none⟩) m c5) = w6 at *
      go_region
      all_goals
        obtain ⟨w8, hw8⟩ : ∃ w8, w8 = ((w6.alloc (.cells (zrow n).toArray 28)).setCell ⟨g5, L.length * 2, none⟩ (.bool true)).setCell ⟨g5, L.length * 2 + 1, none⟩ (.slice (some ⟨w6.heap.size, 0, none⟩) n n) := ⟨_, rfl⟩
        rw [← hw8] at HS5 HB5 HPS5 HPR5
        rw [← hw8]
        clear hw8 e0 e1 ef0 ef1 v0 v1 v2 v3 v4 v5 v6 vl
        obtain ⟨s0, s1, s2, s3, s4, s5, s6, sf, sl⟩ := HPS5.out.all
        go_wp2_with fail
        with_reducible refine (RH.out _).mono ?_
        rintro e w6 ⟨rfl, b6⟩
        dsimp only
        have PS6 := PRow.below (by first | exact HPS5.out | exact HPS5.out.drew) b6
        have PR6 := PRow.below (by first | exact HPR5.out | exact HPR5.out.drew) b6
        have B6 := bTrans (by first | exact HB5.out | exact HB5.out.drew) b6
        have SB6 := SB.below (by first | exact HS5.out | exact HS5.out.drew) b6
        clear HPS5 HPR5 HB5 HS5 s0 s1 s2 s3 s4 s5 s6 sf sl
        obtain ⟨s0, s1, s2, s3, s4, s5, s6, sf, sl⟩ := PS6.all
        have PS7 := PS6.setM a b h' g'
        have PR7 := PR6.far16 (t := w.heap.size) (by omega) (.int .u64 (hi a)) (.int .u64 (lo a)) (.int .u64 (hi b)) (.int .u64 (lo b)) (.int .i64 h') (.int .i64 g')
        have B7 := b16 B6 (v := w.heap.size) (Nat.le_refl _) (.int .u64 (hi a)) (.int .u64 (lo a)) (.int .u64 (hi b)) (.int .u64 (lo b)) (.int .i64 h') (.int .i64 g')
        have HS7 := Lib.hid (SB6.low6 lo0 (.int .u64 (hi a)) (.int .u64 (lo a)) (.int .u64 (hi b)) (.int .u64 (lo b)) (.int .i64 h') (.int .i64 g'))
        clear PS6 PR6 B6 SB6 b6
        go_upto_region 15 with fail
        generalize (((((w6.setCell ⟨w.heap.size, 1, none⟩ (.int .u64 (hi a))).setCell ⟨w.heap.size, 2, none⟩ (.int .u64 (lo a))).setCell ⟨w.heap.size, 3, none⟩ (.int .u64 (hi b))).setCell ⟨w.heap.size, 4, none⟩ (.int .u64 (lo b))).setCell ⟨w.heap.size, 5, none⟩ (.int .i64 h')).setCell ⟨w.heap.size, 6, none⟩ (.int .i64 g') = w7 at *
        clear s0 s1 s2 s3 s4 s5 s6 sf sl
        obtain ⟨s0, s1, s2, s3, s4, s5, s6, sf, sl⟩ := PS7.all
        obtain ⟨r0, r1, r2, r3, r4, r5, r6, rf, rl⟩ := PR7.all
        obtain ⟨y0, y1, y2, y3, y4, y5, y6, yf, yl⟩ := (Row.setP PR7 (.slice (some ⟨g5, 0, none⟩) m c5) a b h' g').all
        have B8 := bSev B7 (v := w.heap.size + 1) (Nat.le_succ _) (.slice (some ⟨g5, 0, none⟩) m c5) (.int .u64 (hi a)) (.int .u64 (lo a)) (.int .u64 (hi b)) (.int .u64 (lo b)) (.int .i64 h') (.int .i64 g')
        have HS8 := Lib.hid (SB.mono (HS7.out.low7 lo1 (.slice (some ⟨g5, 0, none⟩) m c5) (.int .u64 (hi a)) (.int .u64 (lo a)) (.int .u64 (hi b)) (.int .u64 (lo b)) (.int .i64 h') (.int .i64 g')) (Nat.le_of_lt lo0))
        clear HS7 PS7 PR7 B7
        go_wp2_with fail
        exact bodyPost_ret (v := .tuple #[ssv (.slice (some ⟨g5, 0, none⟩) m c5) a b h' g', .int .i64 (L.length : Int), .int .i64 0]) (by simp [results, Try.results24, go_sem, y0, y1, y2, y3, y4, y5, y6]) rfl ⟨_, by rw [FE.out], by rw [OE.out]; exact HS8.out, B8⟩

end Go.Proofs.Ytgnpakpnocbhhaa
