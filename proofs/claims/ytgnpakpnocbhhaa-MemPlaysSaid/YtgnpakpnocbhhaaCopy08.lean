/-
  haymowref08.Copy, where it answers an errno.
-/
import Derived.Test.YtgnpakpnocbhhaaZero08
namespace Go.Proofs.Ytgnpakpnocbhhaa
open Go.RowKit
set_option linter.unusedVariables false

set_option maxRecDepth 100000 in
set_option maxHeartbeats 1000000 in
theorem copy_no1 (v : Value) (a b : Nat) (h g fr at' tt ds n : Int) (L : List Spc) (w : World) (hv : SL w v L) (hl : L.length ≤ 1000000) (hw : ∀ i, i < L.length → (wds L i).length ≤ 100000000) (hn : n ≤ 9223372036854775807) (hF : isv L fr = false) :
    Calls Try.prog 30 #[ssv v a b h g, .int .i64 fr, .int .i64 at', .int .i64 tt, .int .i64 ds, .int .i64 n] w fun e w' => e = .returned (.tuple #[ssv v a b h g, .int .i64 10]) ∧ Below w.heap.size w w' := by
  obtain ⟨PS, PR, B1⟩ := boxed v a b h g w
  have IF0 := fun w' (q : SL w' v L) => is_any v a b h g fr L w' q hl
  rw [hF] at IF0
  have IF := Lib.hid IF0
  clear IF0
  have HV := Lib.hid (hv.below B1)
  obtain ⟨av, cap, rfl⟩ := hv.slice
  clear hv hw hn hF
  go_enter Try.func30, Try.ntmps30
  go_upto_region 1 with fail
  generalize (w.alloc (.cells #[.slice av L.length cap, .int .u64 (hi a), .int .u64 (lo a), .int .u64 (hi b), .int .u64 (lo b), .int .i64 h, .int .i64 g] 35)).alloc (.cells #[.slice none 0 0, .int .u64 0, .int .u64 0, .int .u64 0, .int .u64 0, .int .i64 0, .int .i64 0] 35) = W at *
  obtain ⟨s0, s1, s2, s3, s4, s5, s6, sf, sl⟩ := PS.all
  go_wp2_with fail
  with_reducible refine (IF.out _ HV.out).mono ?_
  rintro e w' ⟨rfl, bb⟩
  dsimp only
  have B2 := bTrans B1 bb
  have PS2 := PS.below bb
  have PR2 := PR.below bb
  have V2 := Lib.hid (HV.out.below bb)
  clear PS PR B1 HV bb s0 s1 s2 s3 s4 s5 s6 sf sl
  obtain ⟨PS, PR, B1, HV⟩ := id (And.intro PS2 (And.intro PR2 (And.intro B2 V2)))
  clear PS2 PR2 B2 V2
  obtain ⟨s0, s1, s2, s3, s4, s5, s6, sf, sl⟩ := PS.all
  obtain ⟨r0, r1, r2, r3, r4, r5, r6, rf, rl⟩ := PR.all
  have B3 := bSev B1 (v := w.heap.size + 1) (Nat.le_succ _) (.slice av L.length cap) (.int .u64 (hi a)) (.int .u64 (lo a)) (.int .u64 (hi b)) (.int .u64 (lo b)) (.int .i64 h) (.int .i64 g)
  obtain ⟨y0, y1, y2, y3, y4, y5, y6, yf, yl⟩ := (Row.setP PR (.slice av L.length cap) a b h g).all
  clear PS PR
  go_wp2_with fail
  exact bodyPost_ret (v := .tuple #[ssv (.slice av L.length cap) a b h g, .int .i64 10]) (by simp [results, Try.results30, go_sem, y0, y1, y2, y3, y4, y5, y6]) rfl ⟨rfl, B3⟩

set_option maxRecDepth 100000 in
set_option maxHeartbeats 1000000 in
theorem copy_no2 (v : Value) (a b : Nat) (h g fr at' tt ds n : Int) (L : List Spc) (w : World) (hv : SL w v L) (hl : L.length ≤ 1000000) (hw : ∀ i, i < L.length → (wds L i).length ≤ 100000000) (hn : n ≤ 9223372036854775807) (hF : isv L fr = true) (hT : isv L tt = false) :
    Calls Try.prog 30 #[ssv v a b h g, .int .i64 fr, .int .i64 at', .int .i64 tt, .int .i64 ds, .int .i64 n] w fun e w' => e = .returned (.tuple #[ssv v a b h g, .int .i64 10]) ∧ Below w.heap.size w w' := by
  obtain ⟨PS, PR, B1⟩ := boxed v a b h g w
  have IF0 := fun w' (q : SL w' v L) => is_any v a b h g fr L w' q hl
  rw [hF] at IF0
  have IF := Lib.hid IF0
  clear IF0
  have IT0 := fun w' (q : SL w' v L) => is_any v a b h g tt L w' q hl
  rw [hT] at IT0
  have IT := Lib.hid IT0
  clear IT0
  have HV := Lib.hid (hv.below B1)
  obtain ⟨av, cap, rfl⟩ := hv.slice
  clear hv hw hn hF hT
  go_enter Try.func30, Try.ntmps30
  go_upto_region 1 with fail
  generalize (w.alloc (.cells #[.slice av L.length cap, .int .u64 (hi a), .int .u64 (lo a), .int .u64 (hi b), .int .u64 (lo b), .int .i64 h, .int .i64 g] 35)).alloc (.cells #[.slice none 0 0, .int .u64 0, .int .u64 0, .int .u64 0, .int .u64 0, .int .i64 0, .int .i64 0] 35) = W at *
  obtain ⟨s0, s1, s2, s3, s4, s5, s6, sf, sl⟩ := PS.all
  go_wp2_with fail
  with_reducible refine (IF.out _ HV.out).mono ?_
  rintro e w' ⟨rfl, bb⟩
  dsimp only
  have B2 := bTrans B1 bb
  have PS2 := PS.below bb
  have PR2 := PR.below bb
  have V2 := Lib.hid (HV.out.below bb)
  clear PS PR B1 HV bb s0 s1 s2 s3 s4 s5 s6 sf sl
  obtain ⟨PS, PR, B1, HV⟩ := id (And.intro PS2 (And.intro PR2 (And.intro B2 V2)))
  clear PS2 PR2 B2 V2
  obtain ⟨s0, s1, s2, s3, s4, s5, s6, sf, sl⟩ := PS.all
  go_wp2_with fail
  with_reducible refine (IT.out _ HV.out).mono ?_
  rintro e w' ⟨rfl, bb⟩
  dsimp only
  have B2 := bTrans B1 bb
  have PS2 := PS.below bb
  have PR2 := PR.below bb
  have V2 := Lib.hid (HV.out.below bb)
  clear PS PR B1 HV bb s0 s1 s2 s3 s4 s5 s6 sf sl
  obtain ⟨PS, PR, B1, HV⟩ := id (And.intro PS2 (And.intro PR2 (And.intro B2 V2)))
  clear PS2 PR2 B2 V2
  obtain ⟨s0, s1, s2, s3, s4, s5, s6, sf, sl⟩ := PS.all
  obtain ⟨r0, r1, r2, r3, r4, r5, r6, rf, rl⟩ := PR.all
  have B3 := bSev B1 (v := w.heap.size + 1) (Nat.le_succ _) (.slice av L.length cap) (.int .u64 (hi a)) (.int .u64 (lo a)) (.int .u64 (hi b)) (.int .u64 (lo b)) (.int .i64 h) (.int .i64 g)
  obtain ⟨y0, y1, y2, y3, y4, y5, y6, yf, yl⟩ := (Row.setP PR (.slice av L.length cap) a b h g).all
  clear PS PR
  go_wp2_with fail
  exact bodyPost_ret (v := .tuple #[ssv (.slice av L.length cap) a b h g, .int .i64 10]) (by simp [results, Try.results30, go_sem, y0, y1, y2, y3, y4, y5, y6]) rfl ⟨rfl, B3⟩

set_option maxRecDepth 100000 in
set_option maxHeartbeats 1000000 in
theorem copy_bad1 (v : Value) (a b : Nat) (h g fr at' tt ds n : Int) (L : List Spc) (w : World) (hv : SL w v L) (hl : L.length ≤ 1000000) (hw : ∀ i, i < L.length → (wds L i).length ≤ 100000000) (hn : n ≤ 9223372036854775807) (hF : isv L fr = true) (hT : isv L tt = true) (hE : ¬ wrongv L fr at' n = 0) :
    Calls Try.prog 30 #[ssv v a b h g, .int .i64 fr, .int .i64 at', .int .i64 tt, .int .i64 ds, .int .i64 n] w fun e w' => e = .returned (.tuple #[ssv v a b h g, .int .i64 11]) ∧ Below w.heap.size w w' := by
  obtain ⟨PS, PR, B1⟩ := boxed v a b h g w
  have IF0 := fun w' (q : SL w' v L) => is_any v a b h g fr L w' q hl
  rw [hF] at IF0
  have IF := Lib.hid IF0
  clear IF0
  have IT0 := fun w' (q : SL w' v L) => is_any v a b h g tt L w' q hl
  rw [hT] at IT0
  have IT := Lib.hid IT0
  clear IT0
  have WF0 := fun w' (q : SL w' v L) => wrong_any v a b h g fr at' n L w' q hl hn hw
  have kWF : (wrongv L fr at' n != 0) = true := by simp [hE]
  generalize wrongv L fr at' n = EWF at *
  have WF := Lib.hid WF0
  clear WF0
  have HV := Lib.hid (hv.below B1)
  obtain ⟨av, cap, rfl⟩ := hv.slice
  clear hv hw hn hF hT hE
  go_enter Try.func30, Try.ntmps30
  go_upto_region 1 with fail
  generalize (w.alloc (.cells #[.slice av L.length cap, .int .u64 (hi a), .int .u64 (lo a), .int .u64 (hi b), .int .u64 (lo b), .int .i64 h, .int .i64 g] 35)).alloc (.cells #[.slice none 0 0, .int .u64 0, .int .u64 0, .int .u64 0, .int .u64 0, .int .i64 0, .int .i64 0] 35) = W at *
  obtain ⟨s0, s1, s2, s3, s4, s5, s6, sf, sl⟩ := PS.all
  go_wp2_with fail
  with_reducible refine (IF.out _ HV.out).mono ?_
  rintro e w' ⟨rfl, bb⟩
  dsimp only
  have B2 := bTrans B1 bb
  have PS2 := PS.below bb
  have PR2 := PR.below bb
  have V2 := Lib.hid (HV.out.below bb)
  clear PS PR B1 HV bb s0 s1 s2 s3 s4 s5 s6 sf sl
  obtain ⟨PS, PR, B1, HV⟩ := id (And.intro PS2 (And.intro PR2 (And.intro B2 V2)))
  clear PS2 PR2 B2 V2
  obtain ⟨s0, s1, s2, s3, s4, s5, s6, sf, sl⟩ := PS.all
  go_wp2_with fail
  with_reducible refine (IT.out _ HV.out).mono ?_
  rintro e w' ⟨rfl, bb⟩
  dsimp only
  have B2 := bTrans B1 bb
  have PS2 := PS.below bb
  have PR2 := PR.below bb
  have V2 := Lib.hid (HV.out.below bb)
  clear PS PR B1 HV bb s0 s1 s2 s3 s4 s5 s6 sf sl
  obtain ⟨PS, PR, B1, HV⟩ := id (And.intro PS2 (And.intro PR2 (And.intro B2 V2)))
  clear PS2 PR2 B2 V2
  obtain ⟨s0, s1, s2, s3, s4, s5, s6, sf, sl⟩ := PS.all
  go_wp2_with fail
  with_reducible refine (WF.out _ HV.out).mono ?_
  rintro e w' ⟨rfl, bb⟩
  dsimp only
  have B2 := bTrans B1 bb
  have PS2 := PS.below bb
  have PR2 := PR.below bb
  have V2 := Lib.hid (HV.out.below bb)
  clear PS PR B1 HV bb s0 s1 s2 s3 s4 s5 s6 sf sl
  obtain ⟨PS, PR, B1, HV⟩ := id (And.intro PS2 (And.intro PR2 (And.intro B2 V2)))
  clear PS2 PR2 B2 V2
  obtain ⟨s0, s1, s2, s3, s4, s5, s6, sf, sl⟩ := PS.all
  obtain ⟨r0, r1, r2, r3, r4, r5, r6, rf, rl⟩ := PR.all
  have B3 := bSev B1 (v := w.heap.size + 1) (Nat.le_succ _) (.slice av L.length cap) (.int .u64 (hi a)) (.int .u64 (lo a)) (.int .u64 (hi b)) (.int .u64 (lo b)) (.int .i64 h) (.int .i64 g)
  obtain ⟨y0, y1, y2, y3, y4, y5, y6, yf, yl⟩ := (Row.setP PR (.slice av L.length cap) a b h g).all
  clear PS PR
  go_wp2_with fail
  exact bodyPost_ret (v := .tuple #[ssv (.slice av L.length cap) a b h g, .int .i64 11]) (by simp [results, Try.results30, go_sem, y0, y1, y2, y3, y4, y5, y6]) rfl ⟨rfl, B3⟩

set_option maxRecDepth 100000 in
set_option maxHeartbeats 1000000 in
theorem copy_bad2 (v : Value) (a b : Nat) (h g fr at' tt ds n : Int) (L : List Spc) (w : World) (hv : SL w v L) (hl : L.length ≤ 1000000) (hw : ∀ i, i < L.length → (wds L i).length ≤ 100000000) (hn : n ≤ 9223372036854775807) (hF : isv L fr = true) (hT : isv L tt = true) (hE : wrongv L fr at' n = 0) (hD : ¬ wrongv L tt ds n = 0) :
    Calls Try.prog 30 #[ssv v a b h g, .int .i64 fr, .int .i64 at', .int .i64 tt, .int .i64 ds, .int .i64 n] w fun e w' => e = .returned (.tuple #[ssv v a b h g, .int .i64 11]) ∧ Below w.heap.size w w' := by
  obtain ⟨PS, PR, B1⟩ := boxed v a b h g w
  have IF0 := fun w' (q : SL w' v L) => is_any v a b h g fr L w' q hl
  rw [hF] at IF0
  have IF := Lib.hid IF0
  clear IF0
  have IT0 := fun w' (q : SL w' v L) => is_any v a b h g tt L w' q hl
  rw [hT] at IT0
  have IT := Lib.hid IT0
  clear IT0
  have WF0 := fun w' (q : SL w' v L) => wrong_any v a b h g fr at' n L w' q hl hn hw
  rw [hE] at WF0
  have WF := Lib.hid WF0
  clear WF0
  have WT0 := fun w' (q : SL w' v L) => wrong_any v a b h g tt ds n L w' q hl hn hw
  have kWT : (wrongv L tt ds n != 0) = true := by simp [hD]
  generalize wrongv L tt ds n = EWT at *
  have WT := Lib.hid WT0
  clear WT0
  have HV := Lib.hid (hv.below B1)
  obtain ⟨av, cap, rfl⟩ := hv.slice
  clear hv hw hn hF hT hE hD
  go_enter Try.func30, Try.ntmps30
  go_upto_region 1 with fail
  generalize (w.alloc (.cells #[.slice av L.length cap, .int .u64 (hi a), .int .u64 (lo a), .int .u64 (hi b), .int .u64 (lo b), .int .i64 h, .int .i64 g] 35)).alloc (.cells #[.slice none 0 0, .int .u64 0, .int .u64 0, .int .u64 0, .int .u64 0, .int .i64 0, .int .i64 0] 35) = W at *
  obtain ⟨s0, s1, s2, s3, s4, s5, s6, sf, sl⟩ := PS.all
  go_wp2_with fail
  with_reducible refine (IF.out _ HV.out).mono ?_
  rintro e w' ⟨rfl, bb⟩
  dsimp only
  have B2 := bTrans B1 bb
  have PS2 := PS.below bb
  have PR2 := PR.below bb
  have V2 := Lib.hid (HV.out.below bb)
  clear PS PR B1 HV bb s0 s1 s2 s3 s4 s5 s6 sf sl
  obtain ⟨PS, PR, B1, HV⟩ := id (And.intro PS2 (And.intro PR2 (And.intro B2 V2)))
  clear PS2 PR2 B2 V2
  obtain ⟨s0, s1, s2, s3, s4, s5, s6, sf, sl⟩ := PS.all
  go_wp2_with fail
  with_reducible refine (IT.out _ HV.out).mono ?_
  rintro e w' ⟨rfl, bb⟩
  dsimp only
  have B2 := bTrans B1 bb
  have PS2 := PS.below bb
  have PR2 := PR.below bb
  have V2 := Lib.hid (HV.out.below bb)
  clear PS PR B1 HV bb s0 s1 s2 s3 s4 s5 s6 sf sl
  obtain ⟨PS, PR, B1, HV⟩ := id (And.intro PS2 (And.intro PR2 (And.intro B2 V2)))
  clear PS2 PR2 B2 V2
  obtain ⟨s0, s1, s2, s3, s4, s5, s6, sf, sl⟩ := PS.all
  go_wp2_with fail
  with_reducible refine (WF.out _ HV.out).mono ?_
  rintro e w' ⟨rfl, bb⟩
  dsimp only
  have B2 := bTrans B1 bb
  have PS2 := PS.below bb
  have PR2 := PR.below bb
  have V2 := Lib.hid (HV.out.below bb)
  clear PS PR B1 HV bb s0 s1 s2 s3 s4 s5 s6 sf sl
  obtain ⟨PS, PR, B1, HV⟩ := id (And.intro PS2 (And.intro PR2 (And.intro B2 V2)))
  clear PS2 PR2 B2 V2
  obtain ⟨s0, s1, s2, s3, s4, s5, s6, sf, sl⟩ := PS.all
  go_wp2_with fail
  with_reducible refine (WT.out _ HV.out).mono ?_
  rintro e w' ⟨rfl, bb⟩
  dsimp only
  have B2 := bTrans B1 bb
  have PS2 := PS.below bb
  have PR2 := PR.below bb
  have V2 := Lib.hid (HV.out.below bb)
  clear PS PR B1 HV bb s0 s1 s2 s3 s4 s5 s6 sf sl
  obtain ⟨PS, PR, B1, HV⟩ := id (And.intro PS2 (And.intro PR2 (And.intro B2 V2)))
  clear PS2 PR2 B2 V2
  obtain ⟨s0, s1, s2, s3, s4, s5, s6, sf, sl⟩ := PS.all
  obtain ⟨r0, r1, r2, r3, r4, r5, r6, rf, rl⟩ := PR.all
  have B3 := bSev B1 (v := w.heap.size + 1) (Nat.le_succ _) (.slice av L.length cap) (.int .u64 (hi a)) (.int .u64 (lo a)) (.int .u64 (hi b)) (.int .u64 (lo b)) (.int .i64 h) (.int .i64 g)
  obtain ⟨y0, y1, y2, y3, y4, y5, y6, yf, yl⟩ := (Row.setP PR (.slice av L.length cap) a b h g).all
  clear PS PR
  go_wp2_with fail
  exact bodyPost_ret (v := .tuple #[ssv (.slice av L.length cap) a b h g, .int .i64 11]) (by simp [results, Try.results30, go_sem, y0, y1, y2, y3, y4, y5, y6]) rfl ⟨rfl, B3⟩

end Go.Proofs.Ytgnpakpnocbhhaa
