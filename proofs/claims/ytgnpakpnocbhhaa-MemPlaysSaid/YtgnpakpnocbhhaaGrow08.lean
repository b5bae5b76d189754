/-
  haymowref08.Grow, where it answers an errno.
-/
import Derived.Test.YtgnpakpnocbhhaaWrite08
namespace Go.Proofs.Ytgnpakpnocbhhaa
open Go.RowKit
set_option linter.unusedVariables false

set_option maxRecDepth 100000 in
set_option maxHeartbeats 1000000 in
theorem grow_no (v : Value) (a b : Nat) (h g id n : Int) (L : List Spc) (w : World) (hv : SL w v L) (hl : L.length ≤ 1000000) (hw : ∀ i, i < L.length → (wds L i).length ≤ 100000000) (hF : isv L id = false) :
    Calls Try.prog 26 #[ssv v a b h g, .int .i64 id, .int .i64 n] w fun e w' => e = .returned (.tuple #[ssv v a b h g, .int .i64 10]) ∧ Below w.heap.size w w' := by
  obtain ⟨PS, PR, B1⟩ := boxed v a b h g w
  have IF0 := fun w' (q : SL w' v L) => is_any v a b h g id L w' q hl
  rw [hF] at IF0
  have IF := Lib.hid IF0
  have HV := Lib.hid (hv.below B1)
  obtain ⟨av, cap, rfl⟩ := hv.slice
  clear hv hw hl hF IF0
  go_enter Try.func26, Try.ntmps26
  go_upto_region 1 with fail
  generalize (w.alloc (.cells #[.slice av L.length cap, .int .u64 (hi a), .int .u64 (lo a), .int .u64 (hi b), .int .u64 (lo b), .int .i64 h, .int .i64 g] 35)).alloc (.cells #[.slice none 0 0, .int .u64 0, .int .u64 0, .int .u64 0, .int .u64 0, .int .i64 0, .int .i64 0] 35) = W at *
  obtain ⟨s0, s1, s2, s3, s4, s5, s6, sf, sl⟩ := PS.all
  go_wp2_with fail
  with_reducible refine (IF.out _ HV.out).mono ?_
  rintro e w2 ⟨rfl, bb⟩
  dsimp only
  have B2 := bTrans B1 bb
  have PS2 := PS.below bb
  have PR2 := PR.below bb
  clear PS PR B1 HV bb s0 s1 s2 s3 s4 s5 s6 sf sl
  obtain ⟨s0, s1, s2, s3, s4, s5, s6, sf, sl⟩ := PS2.all
  obtain ⟨r0, r1, r2, r3, r4, r5, r6, rf, rl⟩ := PR2.all
  have B3 := bSev B2 (v := w.heap.size + 1) (Nat.le_succ _) (.slice av L.length cap) (.int .u64 (hi a)) (.int .u64 (lo a)) (.int .u64 (hi b)) (.int .u64 (lo b)) (.int .i64 h) (.int .i64 g)
  obtain ⟨y0, y1, y2, y3, y4, y5, y6, yf, yl⟩ := (Row.setP PR2 (.slice av L.length cap) a b h g).all
  clear PS2 PR2 B2
  go_wp2_with fail
  exact bodyPost_ret (v := .tuple #[ssv (.slice av L.length cap) a b h g, .int .i64 10]) (by simp [results, Try.results26, go_sem, y0, y1, y2, y3, y4, y5, y6]) rfl ⟨rfl, B3⟩

set_option maxRecDepth 100000 in
set_option maxHeartbeats 1000000 in
theorem grow_low (v : Value) (a b : Nat) (h g n : Int) (k : Nat) (L : List Spc) (w : World) (hv : SL w v L) (hl : L.length ≤ 1000000) (hw : ∀ i, i < L.length → (wds L i).length ≤ 100000000) (hk : k < L.length) (hF : isv L (k : Int) = true) (hn : n < ((wds L k).length : Int)) :
    Calls Try.prog 26 #[ssv v a b h g, .int .i64 (k : Int), .int .i64 n] w fun e w' => e = .returned (.tuple #[ssv v a b h g, .int .i64 1]) ∧ Below w.heap.size w w' := by
  obtain ⟨PS, PR, B1⟩ := boxed v a b h g w
  have IF0 := fun w' (q : SL w' v L) => is_any v a b h g (k : Int) L w' q hl
  rw [hF] at IF0
  have IF := Lib.hid IF0
  have HV := Lib.hid (hv.below B1)
  obtain ⟨av, cap, rfl⟩ := hv.slice
  obtain ⟨_, bl, off, u, rfl, hbl, c0, c1, nl⟩ := hv.at hk
  obtain ⟨ua, uc, rfl⟩ := nl.slice
  have C1 := Lib.hid c1
  have i0 : (0 : Int) ≤ (k : Int) := by omega
  have i1 : (k : Int) < (L.length : Int) := by omega
  have lw := hw k hk
  clear c0 c1 nl
  clear hv hw hl hF IF0
  go_enter Try.func26, Try.ntmps26
  go_upto_region 1 with fail
  generalize (w.alloc (.cells #[.slice (some ⟨bl, off, none⟩) L.length cap, .int .u64 (hi a), .int .u64 (lo a), .int .u64 (hi b), .int .u64 (lo b), .int .i64 h, .int .i64 g] 35)).alloc (.cells #[.slice none 0 0, .int .u64 0, .int .u64 0, .int .u64 0, .int .u64 0, .int .i64 0, .int .i64 0] 35) = W at *
  obtain ⟨s0, s1, s2, s3, s4, s5, s6, sf, sl⟩ := PS.all
  go_wp2_with fail
  with_reducible refine (IF.out _ HV.out).mono ?_
  rintro e w2 ⟨rfl, bb⟩
  dsimp only
  have B2 := bTrans B1 bb
  have PS2 := PS.below bb
  have PR2 := PR.below bb
  clear PS PR B1 HV bb s0 s1 s2 s3 s4 s5 s6 sf sl
  obtain ⟨s0, s1, s2, s3, s4, s5, s6, sf, sl⟩ := PS2.all
  obtain ⟨r0, r1, r2, r3, r4, r5, r6, rf, rl⟩ := PR2.all
  have B3 := bSev B2 (v := w.heap.size + 1) (Nat.le_succ _) (.slice (some ⟨bl, off, none⟩) L.length cap) (.int .u64 (hi a)) (.int .u64 (lo a)) (.int .u64 (hi b)) (.int .u64 (lo b)) (.int .i64 h) (.int .i64 g)
  obtain ⟨y0, y1, y2, y3, y4, y5, y6, yf, yl⟩ := (Row.setP PR2 (.slice (some ⟨bl, off, none⟩) L.length cap) a b h g).all
  have e1 : w2.cell? ⟨bl, off + k * 2 + 1, none⟩ = some (.slice ua (wds L k).length uc) := (B2.cell (p := ⟨bl, off + k * 2 + 1, none⟩) hbl).trans C1.out
  have d0 : decide (n < ((wds L k).length : Int)) = true := decide_eq_true hn
  clear hn
  generalize (wds L k).length = m at *
  clear PS2 PR2 B2
  go_wp2_with fail
  exact bodyPost_ret (v := .tuple #[ssv (.slice (some ⟨bl, off, none⟩) L.length cap) a b h g, .int .i64 1]) (by simp [results, Try.results26, go_sem, y0, y1, y2, y3, y4, y5, y6]) rfl ⟨rfl, B3⟩

set_option maxRecDepth 100000 in
set_option maxHeartbeats 1000000 in
theorem grow_long (v : Value) (a b : Nat) (h g n : Int) (k : Nat) (L : List Spc) (w : World) (hv : SL w v L) (hl : L.length ≤ 1000000) (hw : ∀ i, i < L.length → (wds L i).length ≤ 100000000) (hk : k < L.length) (hF : isv L (k : Int) = true) (hn : ((wds L k).length : Int) ≤ n) (hx : 4194304 < n) :
    Calls Try.prog 26 #[ssv v a b h g, .int .i64 (k : Int), .int .i64 n] w fun e w' => e = .returned (.tuple #[ssv v a b h g, .int .i64 7]) ∧ Below w.heap.size w w' := by
  obtain ⟨PS, PR, B1⟩ := boxed v a b h g w
  have IF0 := fun w' (q : SL w' v L) => is_any v a b h g (k : Int) L w' q hl
  rw [hF] at IF0
  have IF := Lib.hid IF0
  have HV := Lib.hid (hv.below B1)
  obtain ⟨av, cap, rfl⟩ := hv.slice
  obtain ⟨_, bl, off, u, rfl, hbl, c0, c1, nl⟩ := hv.at hk
  obtain ⟨ua, uc, rfl⟩ := nl.slice
  have C1 := Lib.hid c1
  have i0 : (0 : Int) ≤ (k : Int) := by omega
  have i1 : (k : Int) < (L.length : Int) := by omega
  have lw := hw k hk
  clear c0 c1 nl
  clear hv hw hl hF IF0
  go_enter Try.func26, Try.ntmps26
  go_upto_region 1 with fail
  generalize (w.alloc (.cells #[.slice (some ⟨bl, off, none⟩) L.length cap, .int .u64 (hi a), .int .u64 (lo a), .int .u64 (hi b), .int .u64 (lo b), .int .i64 h, .int .i64 g] 35)).alloc (.cells #[.slice none 0 0, .int .u64 0, .int .u64 0, .int .u64 0, .int .u64 0, .int .i64 0, .int .i64 0] 35) = W at *
  obtain ⟨s0, s1, s2, s3, s4, s5, s6, sf, sl⟩ := PS.all
  go_wp2_with fail
  with_reducible refine (IF.out _ HV.out).mono ?_
  rintro e w2 ⟨rfl, bb⟩
  dsimp only
  have B2 := bTrans B1 bb
  have PS2 := PS.below bb
  have PR2 := PR.below bb
  clear PS PR B1 HV bb s0 s1 s2 s3 s4 s5 s6 sf sl
  obtain ⟨s0, s1, s2, s3, s4, s5, s6, sf, sl⟩ := PS2.all
  obtain ⟨r0, r1, r2, r3, r4, r5, r6, rf, rl⟩ := PR2.all
  have B3 := bSev B2 (v := w.heap.size + 1) (Nat.le_succ _) (.slice (some ⟨bl, off, none⟩) L.length cap) (.int .u64 (hi a)) (.int .u64 (lo a)) (.int .u64 (hi b)) (.int .u64 (lo b)) (.int .i64 h) (.int .i64 g)
  obtain ⟨y0, y1, y2, y3, y4, y5, y6, yf, yl⟩ := (Row.setP PR2 (.slice (some ⟨bl, off, none⟩) L.length cap) a b h g).all
  have e1 : w2.cell? ⟨bl, off + k * 2 + 1, none⟩ = some (.slice ua (wds L k).length uc) := (B2.cell (p := ⟨bl, off + k * 2 + 1, none⟩) hbl).trans C1.out
  have d0 : decide (n < ((wds L k).length : Int)) = false := decide_eq_false (by omega)
  have d1 : decide (4194304 < n) = true := decide_eq_true hx
  clear hn hx
  generalize (wds L k).length = m at *
  clear PS2 PR2 B2
  go_wp2_with fail
  exact bodyPost_ret (v := .tuple #[ssv (.slice (some ⟨bl, off, none⟩) L.length cap) a b h g, .int .i64 7]) (by simp [results, Try.results26, go_sem, y0, y1, y2, y3, y4, y5, y6]) rfl ⟨rfl, B3⟩

end Go.Proofs.Ytgnpakpnocbhhaa
