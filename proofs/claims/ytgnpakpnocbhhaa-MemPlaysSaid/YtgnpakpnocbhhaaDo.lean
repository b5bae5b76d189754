/-
  haymowlaw08.do: its seven ways.
-/
import Derived.Test.YtgnpakpnocbhhaaDoKit
namespace Go.Proofs.Ytgnpakpnocbhhaa
open Go.RowKit
set_option linter.unusedVariables false

set_option maxRecDepth 100000 in
set_option maxHeartbeats 2000000 in
theorem do_open (mb mm : Nat) (R : Nat → Nat) (L : List Spc) (v : Value) (a b : Nat) (h g a1 b1 c1 d1 n1 : Int) (x : Nat) (w : World) (hm : MM w R mb mm L a b h g) (sb : Nat) (hsb : sb < w.heap.size) (hs : SF w (FR R sb) v L) (hl : L.length ≤ 200000) (hb1 : b1 ≤ 9223372036854775807) (hd1 : d1 ≤ 9223372036854775807) (hn1 : n1 ≤ 9223372036854775807) :
    Calls Try.prog 9 #[at0 mb, ssv v a b h g, ov 0 a1 b1 c1 d1 n1 x] w (DoGot mb mm sb R w (L.length + 1)) := by
  obtain ⟨PS, OB, PR, B3, sz⟩ := doboxes v a b h g 0 a1 b1 c1 d1 n1 x w
  have D := D0.of hm hs hsb B3 sz
  obtain ⟨na, nb, fit, lw, _, _⟩ := hm.plain
  have CP := Lib.hid (mopen_any mb mm R L a b h g _ D.m n1 hl)
  have CR := Lib.hid (fun w' (q : SL w' v L) => ropen_any v a b h g L w' q hl lw fit n1)
  have LEN := Lib.hid (show (openv L a b h g n1).L.length ≤ L.length + 1 from openv_len L a b h g n1)
  obtain ⟨av0, cap0, rfl⟩ := hs.sl.slice
  clear hm hs hsb hl na nb fit lw hb1 hd1 hn1 B3 sz
  generalize openv L a b h g n1 = o at *
  have OT := Lib.hid (show ∀ (w5 w7 : World) R' v', D1 w w5 mb mm sb R R' o v' → Keeps (fun j => w.heap.size ≤ j ∧ j < w.heap.size + 3) w5 w7 → DoGot mb mm sb R w (L.length + 1) (.returned (.tuple #[ssv v' o.a o.b o.h o.g, .bool true])) w7 from fun w5 w7 R' v' d K => ⟨_, _, _, _, _, _, _, rfl, (d.last K).1, (d.last K).2.1, (d.last K).2.2, LEN.out⟩)
  go_enter Try.func9, Try.ntmps9
  go_upto_region 1 with fail
  generalize ((w.alloc (.cells #[.slice av0 L.length cap0, .int .u64 (hi a), .int .u64 (lo a), .int .u64 (hi b), .int .u64 (lo b), .int .i64 h, .int .i64 g] 35)).alloc (.cells #[.int .i64 0, .int .i64 a1, .int .i64 b1, .int .i64 c1, .int .i64 d1, .int .i64 n1, .int .u64 (x : Int)] 39)).alloc (.cells #[.slice none 0 0, .int .u64 0, .int .u64 0, .int .u64 0, .int .u64 0, .int .i64 0, .int .i64 0] 35) = w3 at *
  obtain ⟨s0, s1, s2, s3, s4, s5, s6, sf, sl⟩ := PS.all
  obtain ⟨o0, o1, o2, o3, o4, o5, o6⟩ := oc_all OB
  go_wp2_with fail
  with_reducible refine CP.out.mono ?_
  rintro e w4 ⟨R', rfl, M4, T4⟩
  dsimp only
  have PS4 : PRow w4 w.heap.size (.slice av0 L.length cap0) a b h g := D.box T4 PS (Nat.le_refl _)
  have OB4 := D.box T4 OB (Nat.le_succ _)
  have PR4 : PRow w4 (w.heap.size + 1 + 1) (.slice none 0 0) 0 0 0 0 := D.box T4 PR (by omega)
  have SL4 := Lib.hid (D.sl4 T4)
  have BOTH := Lib.hid (fun w5 v' S B => D.both (w5 := w5) (v' := v') M4 T4 S B)
  clear s0 s1 s2 s3 s4 s5 s6 sf sl o0 o1 o2 o3 o4 o5 o6 PS OB PR D M4 T4
  obtain ⟨s0, s1, s2, s3, s4, s5, s6, sf, sl⟩ := PS4.all
  obtain ⟨o0, o1, o2, o3, o4, o5, o6⟩ := oc_all OB4
  go_wp2_with fail
  with_reducible refine (CR.out _ SL4.out).mono ?_
  rintro e w5 ⟨v', rfl, S5, B5⟩
  dsimp only
  have E1 := BOTH.out w5 v' S5 B5
  obtain ⟨av, cap, rfl⟩ := E1.s.sl.slice
  have PS5 := PS4.below B5
  have PR5 := PR4.below B5
  have HE1 := Lib.hid E1
  clear s0 s1 s2 s3 s4 s5 s6 sf sl o0 o1 o2 o3 o4 o5 o6 PS4 OB4 PR4 SL4 BOTH S5 B5 E1
  obtain ⟨s0, s1, s2, s3, s4, s5, s6, sf, sl⟩ := PS5.all
  have PS6 := Row.setP PS5 (.slice av o.L.length cap) o.a o.b o.h o.g
  have PR6 := PR5.far7 (t := w.heap.size) (by omega) (.slice av o.L.length cap) (.int .u64 (hi o.a)) (.int .u64 (lo o.a)) (.int .u64 (hi o.b)) (.int .u64 (lo o.b)) (.int .i64 o.h) (.int .i64 o.g)
  have K6 := Keeps.set7 (F := fun j => w.heap.size ≤ j ∧ j < w.heap.size + 3) w5 (s := w.heap.size) (by omega) (.slice av o.L.length cap) (.int .u64 (hi o.a)) (.int .u64 (lo o.a)) (.int .u64 (hi o.b)) (.int .u64 (lo o.b)) (.int .i64 o.h) (.int .i64 o.g)
  clear PS5 PR5
  go_upto_region 6 with fail
  generalize (((((((w5.setCell ⟨w.heap.size, 0, none⟩ (.slice av o.L.length cap)).setCell ⟨w.heap.size, 1, none⟩ (.int .u64 (hi o.a))).setCell ⟨w.heap.size, 2, none⟩ (.int .u64 (lo o.a))).setCell ⟨w.heap.size, 3, none⟩ (.int .u64 (hi o.b))).setCell ⟨w.heap.size, 4, none⟩ (.int .u64 (lo o.b))).setCell ⟨w.heap.size, 5, none⟩ (.int .i64 o.h)).setCell ⟨w.heap.size, 6, none⟩ (.int .i64 o.g)) = w6 at *
  clear s0 s1 s2 s3 s4 s5 s6 sf sl
  obtain ⟨s0, s1, s2, s3, s4, s5, s6, sf, sl⟩ := PS6.all
  obtain ⟨r0, r1, r2, r3, r4, r5, r6, rf, rl⟩ := PR6.all
  obtain ⟨y0, y1, y2, y3, y4, y5, y6, yf, yl⟩ := (Row.setP PR6 (.slice av o.L.length cap) o.a o.b o.h o.g).all
  have K7 := Lib.hid (K6.trans (Keeps.set7 (F := fun j => w.heap.size ≤ j ∧ j < w.heap.size + 3) w6 (s := w.heap.size + 1 + 1) (by omega) (.slice av o.L.length cap) (.int .u64 (hi o.a)) (.int .u64 (lo o.a)) (.int .u64 (hi o.b)) (.int .u64 (lo o.b)) (.int .i64 o.h) (.int .i64 o.g)) (fun _ _ q => q))
  clear PS6 PR6 K6
  go_wp2_with fail
  exact bodyPost_ret (v := .tuple #[ssv (.slice av o.L.length cap) o.a o.b o.h o.g, .bool true]) (by simp [results, Try.results9, go_sem, y0, y1, y2, y3, y4, y5, y6]) rfl (OT.out _ _ _ _ HE1.out K7.out)

set_option maxRecDepth 100000 in
set_option maxHeartbeats 2000000 in
theorem do_close (mb mm : Nat) (R : Nat → Nat) (L : List Spc) (v : Value) (a b : Nat) (h g a1 b1 c1 d1 n1 : Int) (x : Nat) (w : World) (hm : MM w R mb mm L a b h g) (sb : Nat) (hsb : sb < w.heap.size) (hs : SF w (FR R sb) v L) (hl : L.length ≤ 200000) (hb1 : b1 ≤ 9223372036854775807) (hd1 : d1 ≤ 9223372036854775807) (hn1 : n1 ≤ 9223372036854775807) :
    Calls Try.prog 9 #[at0 mb, ssv v a b h g, ov 1 a1 b1 c1 d1 n1 x] w (DoGot mb mm sb R w (L.length + 1)) := by
  obtain ⟨PS, OB, PR, B3, sz⟩ := doboxes v a b h g 1 a1 b1 c1 d1 n1 x w
  have D := D0.of hm hs hsb B3 sz
  obtain ⟨na, nb, fit, lw, _, _⟩ := hm.plain
  have CP := Lib.hid (mclose_any mb mm R L a b h g _ D.m a1)
  have CR := Lib.hid (fun w' (q : SL w' v L) => rclose_any v a b h g L w' q hl lw fit a1)
  have LEN := Lib.hid (show (closev L a b h g a1).L.length ≤ L.length + 1 from Nat.le_succ_of_le (Nat.le_of_eq (closev_len L a b h g a1)))
  obtain ⟨av0, cap0, rfl⟩ := hs.sl.slice
  clear hm hs hsb hl na nb fit lw hb1 hd1 hn1 B3 sz
  generalize closev L a b h g a1 = o at *
  have OT := Lib.hid (show ∀ (w5 w7 : World) R' v', D1 w w5 mb mm sb R R' o v' → Keeps (fun j => w.heap.size ≤ j ∧ j < w.heap.size + 3) w5 w7 → DoGot mb mm sb R w (L.length + 1) (.returned (.tuple #[ssv v' o.a o.b o.h o.g, .bool true])) w7 from fun w5 w7 R' v' d K => ⟨_, _, _, _, _, _, _, rfl, (d.last K).1, (d.last K).2.1, (d.last K).2.2, LEN.out⟩)
  go_enter Try.func9, Try.ntmps9
  go_upto_region 1 with fail
  generalize ((w.alloc (.cells #[.slice av0 L.length cap0, .int .u64 (hi a), .int .u64 (lo a), .int .u64 (hi b), .int .u64 (lo b), .int .i64 h, .int .i64 g] 35)).alloc (.cells #[.int .i64 1, .int .i64 a1, .int .i64 b1, .int .i64 c1, .int .i64 d1, .int .i64 n1, .int .u64 (x : Int)] 39)).alloc (.cells #[.slice none 0 0, .int .u64 0, .int .u64 0, .int .u64 0, .int .u64 0, .int .i64 0, .int .i64 0] 35) = w3 at *
  obtain ⟨s0, s1, s2, s3, s4, s5, s6, sf, sl⟩ := PS.all
  obtain ⟨o0, o1, o2, o3, o4, o5, o6⟩ := oc_all OB
  go_wp2_with fail
  with_reducible refine CP.out.mono ?_
  rintro e w4 ⟨R', rfl, M4, T4⟩
  dsimp only
  have PS4 : PRow w4 w.heap.size (.slice av0 L.length cap0) a b h g := D.box T4 PS (Nat.le_refl _)
  have OB4 := D.box T4 OB (Nat.le_succ _)
  have PR4 : PRow w4 (w.heap.size + 1 + 1) (.slice none 0 0) 0 0 0 0 := D.box T4 PR (by omega)
  have SL4 := Lib.hid (D.sl4 T4)
  have BOTH := Lib.hid (fun w5 v' S B => D.both (w5 := w5) (v' := v') M4 T4 S B)
  clear s0 s1 s2 s3 s4 s5 s6 sf sl o0 o1 o2 o3 o4 o5 o6 PS OB PR D M4 T4
  obtain ⟨s0, s1, s2, s3, s4, s5, s6, sf, sl⟩ := PS4.all
  obtain ⟨o0, o1, o2, o3, o4, o5, o6⟩ := oc_all OB4
  go_wp2_with fail
  with_reducible refine (CR.out _ SL4.out).mono ?_
  rintro e w5 ⟨v', rfl, S5, B5⟩
  dsimp only
  have E1 := BOTH.out w5 v' S5 B5
  obtain ⟨av, cap, rfl⟩ := E1.s.sl.slice
  have PS5 := PS4.below B5
  have PR5 := PR4.below B5
  have HE1 := Lib.hid E1
  clear s0 s1 s2 s3 s4 s5 s6 sf sl o0 o1 o2 o3 o4 o5 o6 PS4 OB4 PR4 SL4 BOTH S5 B5 E1
  obtain ⟨s0, s1, s2, s3, s4, s5, s6, sf, sl⟩ := PS5.all
  have PS6 := Row.setP PS5 (.slice av o.L.length cap) o.a o.b o.h o.g
  have PR6 := PR5.far7 (t := w.heap.size) (by omega) (.slice av o.L.length cap) (.int .u64 (hi o.a)) (.int .u64 (lo o.a)) (.int .u64 (hi o.b)) (.int .u64 (lo o.b)) (.int .i64 o.h) (.int .i64 o.g)
  have K6 := Keeps.set7 (F := fun j => w.heap.size ≤ j ∧ j < w.heap.size + 3) w5 (s := w.heap.size) (by omega) (.slice av o.L.length cap) (.int .u64 (hi o.a)) (.int .u64 (lo o.a)) (.int .u64 (hi o.b)) (.int .u64 (lo o.b)) (.int .i64 o.h) (.int .i64 o.g)
  clear PS5 PR5
  go_upto_region 10 with fail
  generalize (((((((w5.setCell ⟨w.heap.size, 0, none⟩ (.slice av o.L.length cap)).setCell ⟨w.heap.size, 1, none⟩ (.int .u64 (hi o.a))).setCell ⟨w.heap.size, 2, none⟩ (.int .u64 (lo o.a))).setCell ⟨w.heap.size, 3, none⟩ (.int .u64 (hi o.b))).setCell ⟨w.heap.size, 4, none⟩ (.int .u64 (lo o.b))).setCell ⟨w.heap.size, 5, none⟩ (.int .i64 o.h)).setCell ⟨w.heap.size, 6, none⟩ (.int .i64 o.g)) = w6 at *
  clear s0 s1 s2 s3 s4 s5 s6 sf sl
  obtain ⟨s0, s1, s2, s3, s4, s5, s6, sf, sl⟩ := PS6.all
  obtain ⟨r0, r1, r2, r3, r4, r5, r6, rf, rl⟩ := PR6.all
  obtain ⟨y0, y1, y2, y3, y4, y5, y6, yf, yl⟩ := (Row.setP PR6 (.slice av o.L.length cap) o.a o.b o.h o.g).all
  have K7 := Lib.hid (K6.trans (Keeps.set7 (F := fun j => w.heap.size ≤ j ∧ j < w.heap.size + 3) w6 (s := w.heap.size + 1 + 1) (by omega) (.slice av o.L.length cap) (.int .u64 (hi o.a)) (.int .u64 (lo o.a)) (.int .u64 (hi o.b)) (.int .u64 (lo o.b)) (.int .i64 o.h) (.int .i64 o.g)) (fun _ _ q => q))
  clear PS6 PR6 K6
  go_wp2_with fail
  exact bodyPost_ret (v := .tuple #[ssv (.slice av o.L.length cap) o.a o.b o.h o.g, .bool true]) (by simp [results, Try.results9, go_sem, y0, y1, y2, y3, y4, y5, y6]) rfl (OT.out _ _ _ _ HE1.out K7.out)

set_option maxRecDepth 100000 in
set_option maxHeartbeats 2000000 in
theorem do_grow (mb mm : Nat) (R : Nat → Nat) (L : List Spc) (v : Value) (a b : Nat) (h g a1 b1 c1 d1 n1 : Int) (x : Nat) (w : World) (hm : MM w R mb mm L a b h g) (sb : Nat) (hsb : sb < w.heap.size) (hs : SF w (FR R sb) v L) (hl : L.length ≤ 200000) (hb1 : b1 ≤ 9223372036854775807) (hd1 : d1 ≤ 9223372036854775807) (hn1 : n1 ≤ 9223372036854775807) :
    Calls Try.prog 9 #[at0 mb, ssv v a b h g, ov 2 a1 b1 c1 d1 n1 x] w (DoGot mb mm sb R w (L.length + 1)) := by
  obtain ⟨PS, OB, PR, B3, sz⟩ := doboxes v a b h g 2 a1 b1 c1 d1 n1 x w
  have D := D0.of hm hs hsb B3 sz
  obtain ⟨na, nb, fit, lw, _, _⟩ := hm.plain
  have CP := Lib.hid (mgrow_any mb mm R L a b h g _ D.m a1 n1)
  have CR := Lib.hid (fun w' (q : SL w' v L) => rgrow_any v a b h g L w' q hl lw fit a1 n1)
  have LEN := Lib.hid (show (growv L a b h g a1 n1).L.length ≤ L.length + 1 from Nat.le_succ_of_le (Nat.le_of_eq (growv_len L a b h g a1 n1)))
  obtain ⟨av0, cap0, rfl⟩ := hs.sl.slice
  clear hm hs hsb hl na nb fit lw hb1 hd1 hn1 B3 sz
  generalize growv L a b h g a1 n1 = o at *
  have OT := Lib.hid (show ∀ (w5 w7 : World) R' v', D1 w w5 mb mm sb R R' o v' → Keeps (fun j => w.heap.size ≤ j ∧ j < w.heap.size + 3) w5 w7 → DoGot mb mm sb R w (L.length + 1) (.returned (.tuple #[ssv v' o.a o.b o.h o.g, .bool true])) w7 from fun w5 w7 R' v' d K => ⟨_, _, _, _, _, _, _, rfl, (d.last K).1, (d.last K).2.1, (d.last K).2.2, LEN.out⟩)
  go_enter Try.func9, Try.ntmps9
  go_upto_region 1 with fail
  generalize ((w.alloc (.cells #[.slice av0 L.length cap0, .int .u64 (hi a), .int .u64 (lo a), .int .u64 (hi b), .int .u64 (lo b), .int .i64 h, .int .i64 g] 35)).alloc (.cells #[.int .i64 2, .int .i64 a1, .int .i64 b1, .int .i64 c1, .int .i64 d1, .int .i64 n1, .int .u64 (x : Int)] 39)).alloc (.cells #[.slice none 0 0, .int .u64 0, .int .u64 0, .int .u64 0, .int .u64 0, .int .i64 0, .int .i64 0] 35) = w3 at *
  obtain ⟨s0, s1, s2, s3, s4, s5, s6, sf, sl⟩ := PS.all
  obtain ⟨o0, o1, o2, o3, o4, o5, o6⟩ := oc_all OB
  go_wp2_with fail
  with_reducible refine CP.out.mono ?_
  rintro e w4 ⟨R', rfl, M4, T4⟩
  dsimp only
  have PS4 : PRow w4 w.heap.size (.slice av0 L.length cap0) a b h g := D.box T4 PS (Nat.le_refl _)
  have OB4 := D.box T4 OB (Nat.le_succ _)
  have PR4 : PRow w4 (w.heap.size + 1 + 1) (.slice none 0 0) 0 0 0 0 := D.box T4 PR (by omega)
  have SL4 := Lib.hid (D.sl4 T4)
  have BOTH := Lib.hid (fun w5 v' S B => D.both (w5 := w5) (v' := v') M4 T4 S B)
  clear s0 s1 s2 s3 s4 s5 s6 sf sl o0 o1 o2 o3 o4 o5 o6 PS OB PR D M4 T4
  obtain ⟨s0, s1, s2, s3, s4, s5, s6, sf, sl⟩ := PS4.all
  obtain ⟨o0, o1, o2, o3, o4, o5, o6⟩ := oc_all OB4
  go_wp2_with fail
  with_reducible refine (CR.out _ SL4.out).mono ?_
  rintro e w5 ⟨v', rfl, S5, B5⟩
  dsimp only
  have E1 := BOTH.out w5 v' S5 B5
  obtain ⟨av, cap, rfl⟩ := E1.s.sl.slice
  have PS5 := PS4.below B5
  have PR5 := PR4.below B5
  have HE1 := Lib.hid E1
  clear s0 s1 s2 s3 s4 s5 s6 sf sl o0 o1 o2 o3 o4 o5 o6 PS4 OB4 PR4 SL4 BOTH S5 B5 E1
  obtain ⟨s0, s1, s2, s3, s4, s5, s6, sf, sl⟩ := PS5.all
  have PS6 := Row.setP PS5 (.slice av o.L.length cap) o.a o.b o.h o.g
  have PR6 := PR5.far7 (t := w.heap.size) (by omega) (.slice av o.L.length cap) (.int .u64 (hi o.a)) (.int .u64 (lo o.a)) (.int .u64 (hi o.b)) (.int .u64 (lo o.b)) (.int .i64 o.h) (.int .i64 o.g)
  have K6 := Keeps.set7 (F := fun j => w.heap.size ≤ j ∧ j < w.heap.size + 3) w5 (s := w.heap.size) (by omega) (.slice av o.L.length cap) (.int .u64 (hi o.a)) (.int .u64 (lo o.a)) (.int .u64 (hi o.b)) (.int .u64 (lo o.b)) (.int .i64 o.h) (.int .i64 o.g)
  clear PS5 PR5
  go_upto_region 14 with fail
  generalize (((((((w5.setCell ⟨w.heap.size, 0, none⟩ (.slice av o.L.length cap)).setCell ⟨w.heap.size, 1, none⟩ (.int .u64 (hi o.a))).setCell ⟨w.heap.size, 2, none⟩ (.int .u64 (lo o.a))).setCell ⟨w.heap.size, 3, none⟩ (.int .u64 (hi o.b))).setCell ⟨w.heap.size, 4, none⟩ (.int .u64 (lo o.b))).setCell ⟨w.heap.size, 5, none⟩ (.int .i64 o.h)).setCell ⟨w.heap.size, 6, none⟩ (.int .i64 o.g)) = w6 at *
  clear s0 s1 s2 s3 s4 s5 s6 sf sl
  obtain ⟨s0, s1, s2, s3, s4, s5, s6, sf, sl⟩ := PS6.all
  obtain ⟨r0, r1, r2, r3, r4, r5, r6, rf, rl⟩ := PR6.all
  obtain ⟨y0, y1, y2, y3, y4, y5, y6, yf, yl⟩ := (Row.setP PR6 (.slice av o.L.length cap) o.a o.b o.h o.g).all
  have K7 := Lib.hid (K6.trans (Keeps.set7 (F := fun j => w.heap.size ≤ j ∧ j < w.heap.size + 3) w6 (s := w.heap.size + 1 + 1) (by omega) (.slice av o.L.length cap) (.int .u64 (hi o.a)) (.int .u64 (lo o.a)) (.int .u64 (hi o.b)) (.int .u64 (lo o.b)) (.int .i64 o.h) (.int .i64 o.g)) (fun _ _ q => q))
  clear PS6 PR6 K6
  go_wp2_with fail
  exact bodyPost_ret (v := .tuple #[ssv (.slice av o.L.length cap) o.a o.b o.h o.g, .bool true]) (by simp [results, Try.results9, go_sem, y0, y1, y2, y3, y4, y5, y6]) rfl (OT.out _ _ _ _ HE1.out K7.out)

set_option maxRecDepth 100000 in
set_option maxHeartbeats 2000000 in
theorem do_read (mb mm : Nat) (R : Nat → Nat) (L : List Spc) (v : Value) (a b : Nat) (h g a1 b1 c1 d1 n1 : Int) (x : Nat) (w : World) (hm : MM w R mb mm L a b h g) (sb : Nat) (hsb : sb < w.heap.size) (hs : SF w (FR R sb) v L) (hl : L.length ≤ 200000) (hb1 : b1 ≤ 9223372036854775807) (hd1 : d1 ≤ 9223372036854775807) (hn1 : n1 ≤ 9223372036854775807) :
    Calls Try.prog 9 #[at0 mb, ssv v a b h g, ov 3 a1 b1 c1 d1 n1 x] w (DoGot mb mm sb R w (L.length + 1)) := by
  obtain ⟨PS, OB, PR, B3, sz⟩ := doboxes v a b h g 3 a1 b1 c1 d1 n1 x w
  have D := D0.of hm hs hsb B3 sz
  obtain ⟨na, nb, fit, lw, _, _⟩ := hm.plain
  have CP := Lib.hid (mread_any mb mm R L a b h g _ D.m a1 b1 hb1)
  have CR := Lib.hid (fun w' (q : SL w' v L) => rread_any v a b h g L w' q hl lw na nb a1 b1)
  have LEN := Lib.hid (show (readv L a b h g a1 b1).L.length ≤ L.length + 1 from Nat.le_succ_of_le (Nat.le_of_eq (readv_len L a b h g a1 b1)))
  obtain ⟨av0, cap0, rfl⟩ := hs.sl.slice
  clear hm hs hsb hl na nb fit lw hb1 hd1 hn1 B3 sz
  generalize readv L a b h g a1 b1 = o at *
  have OT := Lib.hid (show ∀ (w5 w7 : World) R' v', D1 w w5 mb mm sb R R' o v' → Keeps (fun j => w.heap.size ≤ j ∧ j < w.heap.size + 3) w5 w7 → DoGot mb mm sb R w (L.length + 1) (.returned (.tuple #[ssv v' o.a o.b o.h o.g, .bool true])) w7 from fun w5 w7 R' v' d K => ⟨_, _, _, _, _, _, _, rfl, (d.last K).1, (d.last K).2.1, (d.last K).2.2, LEN.out⟩)
  go_enter Try.func9, Try.ntmps9
  go_upto_region 1 with fail
  generalize ((w.alloc (.cells #[.slice av0 L.length cap0, .int .u64 (hi a), .int .u64 (lo a), .int .u64 (hi b), .int .u64 (lo b), .int .i64 h, .int .i64 g] 35)).alloc (.cells #[.int .i64 3, .int .i64 a1, .int .i64 b1, .int .i64 c1, .int .i64 d1, .int .i64 n1, .int .u64 (x : Int)] 39)).alloc (.cells #[.slice none 0 0, .int .u64 0, .int .u64 0, .int .u64 0, .int .u64 0, .int .i64 0, .int .i64 0] 35) = w3 at *
  obtain ⟨s0, s1, s2, s3, s4, s5, s6, sf, sl⟩ := PS.all
  obtain ⟨o0, o1, o2, o3, o4, o5, o6⟩ := oc_all OB
  go_wp2_with fail
  with_reducible refine CP.out.mono ?_
  rintro e w4 ⟨R', rfl, M4, T4⟩
  dsimp only
  have PS4 : PRow w4 w.heap.size (.slice av0 L.length cap0) a b h g := D.box T4 PS (Nat.le_refl _)
  have OB4 := D.box T4 OB (Nat.le_succ _)
  have PR4 : PRow w4 (w.heap.size + 1 + 1) (.slice none 0 0) 0 0 0 0 := D.box T4 PR (by omega)
  have SL4 := Lib.hid (D.sl4 T4)
  have BOTH := Lib.hid (fun w5 v' S B => D.both (w5 := w5) (v' := v') M4 T4 S B)
  clear s0 s1 s2 s3 s4 s5 s6 sf sl o0 o1 o2 o3 o4 o5 o6 PS OB PR D M4 T4
  obtain ⟨s0, s1, s2, s3, s4, s5, s6, sf, sl⟩ := PS4.all
  obtain ⟨o0, o1, o2, o3, o4, o5, o6⟩ := oc_all OB4
  go_wp2_with fail
  with_reducible refine (CR.out _ SL4.out).mono ?_
  rintro e w5 ⟨v', rfl, S5, B5⟩
  dsimp only
  have E1 := BOTH.out w5 v' S5 B5
  obtain ⟨av, cap, rfl⟩ := E1.s.sl.slice
  have PS5 := PS4.below B5
  have PR5 := PR4.below B5
  have HE1 := Lib.hid E1
  clear s0 s1 s2 s3 s4 s5 s6 sf sl o0 o1 o2 o3 o4 o5 o6 PS4 OB4 PR4 SL4 BOTH S5 B5 E1
  obtain ⟨s0, s1, s2, s3, s4, s5, s6, sf, sl⟩ := PS5.all
  have PS6 := Row.setP PS5 (.slice av o.L.length cap) o.a o.b o.h o.g
  have PR6 := PR5.far7 (t := w.heap.size) (by omega) (.slice av o.L.length cap) (.int .u64 (hi o.a)) (.int .u64 (lo o.a)) (.int .u64 (hi o.b)) (.int .u64 (lo o.b)) (.int .i64 o.h) (.int .i64 o.g)
  have K6 := Keeps.set7 (F := fun j => w.heap.size ≤ j ∧ j < w.heap.size + 3) w5 (s := w.heap.size) (by omega) (.slice av o.L.length cap) (.int .u64 (hi o.a)) (.int .u64 (lo o.a)) (.int .u64 (hi o.b)) (.int .u64 (lo o.b)) (.int .i64 o.h) (.int .i64 o.g)
  clear PS5 PR5
  go_upto_region 19 with fail
  generalize (((((((w5.setCell ⟨w.heap.size, 0, none⟩ (.slice av o.L.length cap)).setCell ⟨w.heap.size, 1, none⟩ (.int .u64 (hi o.a))).setCell ⟨w.heap.size, 2, none⟩ (.int .u64 (lo o.a))).setCell ⟨w.heap.size, 3, none⟩ (.int .u64 (hi o.b))).setCell ⟨w.heap.size, 4, none⟩ (.int .u64 (lo o.b))).setCell ⟨w.heap.size, 5, none⟩ (.int .i64 o.h)).setCell ⟨w.heap.size, 6, none⟩ (.int .i64 o.g)) = w6 at *
  clear s0 s1 s2 s3 s4 s5 s6 sf sl
  obtain ⟨s0, s1, s2, s3, s4, s5, s6, sf, sl⟩ := PS6.all
  obtain ⟨r0, r1, r2, r3, r4, r5, r6, rf, rl⟩ := PR6.all
  obtain ⟨y0, y1, y2, y3, y4, y5, y6, yf, yl⟩ := (Row.setP PR6 (.slice av o.L.length cap) o.a o.b o.h o.g).all
  have K7 := Lib.hid (K6.trans (Keeps.set7 (F := fun j => w.heap.size ≤ j ∧ j < w.heap.size + 3) w6 (s := w.heap.size + 1 + 1) (by omega) (.slice av o.L.length cap) (.int .u64 (hi o.a)) (.int .u64 (lo o.a)) (.int .u64 (hi o.b)) (.int .u64 (lo o.b)) (.int .i64 o.h) (.int .i64 o.g)) (fun _ _ q => q))
  clear PS6 PR6 K6
  go_wp2_with fail
  exact bodyPost_ret (v := .tuple #[ssv (.slice av o.L.length cap) o.a o.b o.h o.g, .bool true]) (by simp [results, Try.results9, go_sem, y0, y1, y2, y3, y4, y5, y6]) rfl (OT.out _ _ _ _ HE1.out K7.out)

set_option maxRecDepth 100000 in
set_option maxHeartbeats 2000000 in
theorem do_write (mb mm : Nat) (R : Nat → Nat) (L : List Spc) (v : Value) (a b : Nat) (h g a1 b1 c1 d1 n1 : Int) (x : Nat) (w : World) (hm : MM w R mb mm L a b h g) (sb : Nat) (hsb : sb < w.heap.size) (hs : SF w (FR R sb) v L) (hl : L.length ≤ 200000) (hb1 : b1 ≤ 9223372036854775807) (hd1 : d1 ≤ 9223372036854775807) (hn1 : n1 ≤ 9223372036854775807) :
    Calls Try.prog 9 #[at0 mb, ssv v a b h g, ov 4 a1 b1 c1 d1 n1 x] w (DoGot mb mm sb R w (L.length + 1)) := by
  obtain ⟨PS, OB, PR, B3, sz⟩ := doboxes v a b h g 4 a1 b1 c1 d1 n1 x w
  have D := D0.of hm hs hsb B3 sz
  obtain ⟨na, nb, fit, lw, _, _⟩ := hm.plain
  have CP := Lib.hid (mwrite_any mb mm R L a b h g _ D.m a1 b1 x hb1)
  have CR := Lib.hid (fun w' (q : SL w' v L) => rwrite_any v a b h g L w' q hl lw na nb a1 b1 x)
  have LEN := Lib.hid (show (writev L a b h g a1 b1 x).L.length ≤ L.length + 1 from Nat.le_succ_of_le (Nat.le_of_eq (writev_len L a b h g a1 b1 x)))
  obtain ⟨av0, cap0, rfl⟩ := hs.sl.slice
  clear hm hs hsb hl na nb fit lw hb1 hd1 hn1 B3 sz
  generalize writev L a b h g a1 b1 x = o at *
  have OT := Lib.hid (show ∀ (w5 w7 : World) R' v', D1 w w5 mb mm sb R R' o v' → Keeps (fun j => w.heap.size ≤ j ∧ j < w.heap.size + 3) w5 w7 → DoGot mb mm sb R w (L.length + 1) (.returned (.tuple #[ssv v' o.a o.b o.h o.g, .bool true])) w7 from fun w5 w7 R' v' d K => ⟨_, _, _, _, _, _, _, rfl, (d.last K).1, (d.last K).2.1, (d.last K).2.2, LEN.out⟩)
  go_enter Try.func9, Try.ntmps9
  go_upto_region 1 with fail
  generalize ((w.alloc (.cells #[.slice av0 L.length cap0, .int .u64 (hi a), .int .u64 (lo a), .int .u64 (hi b), .int .u64 (lo b), .int .i64 h, .int .i64 g] 35)).alloc (.cells #[.int .i64 4, .int .i64 a1, .int .i64 b1, .int .i64 c1, .int .i64 d1, .int .i64 n1, .int .u64 (x : Int)] 39)).alloc (.cells #[.slice none 0 0, .int .u64 0, .int .u64 0, .int .u64 0, .int .u64 0, .int .i64 0, .int .i64 0] 35) = w3 at *
  obtain ⟨s0, s1, s2, s3, s4, s5, s6, sf, sl⟩ := PS.all
  obtain ⟨o0, o1, o2, o3, o4, o5, o6⟩ := oc_all OB
  go_wp2_with fail
  with_reducible refine CP.out.mono ?_
  rintro e w4 ⟨R', rfl, M4, T4⟩
  dsimp only
  have PS4 : PRow w4 w.heap.size (.slice av0 L.length cap0) a b h g := D.box T4 PS (Nat.le_refl _)
  have OB4 := D.box T4 OB (Nat.le_succ _)
  have PR4 : PRow w4 (w.heap.size + 1 + 1) (.slice none 0 0) 0 0 0 0 := D.box T4 PR (by omega)
  have SL4 := Lib.hid (D.sl4 T4)
  have BOTH := Lib.hid (fun w5 v' S B => D.both (w5 := w5) (v' := v') M4 T4 S B)
  clear s0 s1 s2 s3 s4 s5 s6 sf sl o0 o1 o2 o3 o4 o5 o6 PS OB PR D M4 T4
  obtain ⟨s0, s1, s2, s3, s4, s5, s6, sf, sl⟩ := PS4.all
  obtain ⟨o0, o1, o2, o3, o4, o5, o6⟩ := oc_all OB4
  go_wp2_with fail
  with_reducible refine (CR.out _ SL4.out).mono ?_
  rintro e w5 ⟨v', rfl, S5, B5⟩
  dsimp only
  have E1 := BOTH.out w5 v' S5 B5
  obtain ⟨av, cap, rfl⟩ := E1.s.sl.slice
  have PS5 := PS4.below B5
  have PR5 := PR4.below B5
  have HE1 := Lib.hid E1
  clear s0 s1 s2 s3 s4 s5 s6 sf sl o0 o1 o2 o3 o4 o5 o6 PS4 OB4 PR4 SL4 BOTH S5 B5 E1
  obtain ⟨s0, s1, s2, s3, s4, s5, s6, sf, sl⟩ := PS5.all
  have PS6 := Row.setP PS5 (.slice av o.L.length cap) o.a o.b o.h o.g
  have PR6 := PR5.far7 (t := w.heap.size) (by omega) (.slice av o.L.length cap) (.int .u64 (hi o.a)) (.int .u64 (lo o.a)) (.int .u64 (hi o.b)) (.int .u64 (lo o.b)) (.int .i64 o.h) (.int .i64 o.g)
  have K6 := Keeps.set7 (F := fun j => w.heap.size ≤ j ∧ j < w.heap.size + 3) w5 (s := w.heap.size) (by omega) (.slice av o.L.length cap) (.int .u64 (hi o.a)) (.int .u64 (lo o.a)) (.int .u64 (hi o.b)) (.int .u64 (lo o.b)) (.int .i64 o.h) (.int .i64 o.g)
  clear PS5 PR5
  go_upto_region 23 with fail
  generalize (((((((w5.setCell ⟨w.heap.size, 0, none⟩ (.slice av o.L.length cap)).setCell ⟨w.heap.size, 1, none⟩ (.int .u64 (hi o.a))).setCell ⟨w.heap.size, 2, none⟩ (.int .u64 (lo o.a))).setCell ⟨w.heap.size, 3, none⟩ (.int .u64 (hi o.b))).setCell ⟨w.heap.size, 4, none⟩ (.int .u64 (lo o.b))).setCell ⟨w.heap.size, 5, none⟩ (.int .i64 o.h)).setCell ⟨w.heap.size, 6, none⟩ (.int .i64 o.g)) = w6 at *
  clear s0 s1 s2 s3 s4 s5 s6 sf sl
  obtain ⟨s0, s1, s2, s3, s4, s5, s6, sf, sl⟩ := PS6.all
  obtain ⟨r0, r1, r2, r3, r4, r5, r6, rf, rl⟩ := PR6.all
  obtain ⟨y0, y1, y2, y3, y4, y5, y6, yf, yl⟩ := (Row.setP PR6 (.slice av o.L.length cap) o.a o.b o.h o.g).all
  have K7 := Lib.hid (K6.trans (Keeps.set7 (F := fun j => w.heap.size ≤ j ∧ j < w.heap.size + 3) w6 (s := w.heap.size + 1 + 1) (by omega) (.slice av o.L.length cap) (.int .u64 (hi o.a)) (.int .u64 (lo o.a)) (.int .u64 (hi o.b)) (.int .u64 (lo o.b)) (.int .i64 o.h) (.int .i64 o.g)) (fun _ _ q => q))
  clear PS6 PR6 K6
  go_wp2_with fail
  exact bodyPost_ret (v := .tuple #[ssv (.slice av o.L.length cap) o.a o.b o.h o.g, .bool true]) (by simp [results, Try.results9, go_sem, y0, y1, y2, y3, y4, y5, y6]) rfl (OT.out _ _ _ _ HE1.out K7.out)

set_option maxRecDepth 100000 in
set_option maxHeartbeats 2000000 in
theorem do_zero (mb mm : Nat) (R : Nat → Nat) (L : List Spc) (v : Value) (a b : Nat) (h g a1 b1 c1 d1 n1 : Int) (x : Nat) (w : World) (hm : MM w R mb mm L a b h g) (sb : Nat) (hsb : sb < w.heap.size) (hs : SF w (FR R sb) v L) (hl : L.length ≤ 200000) (hb1 : b1 ≤ 9223372036854775807) (hd1 : d1 ≤ 9223372036854775807) (hn1 : n1 ≤ 9223372036854775807) :
    Calls Try.prog 9 #[at0 mb, ssv v a b h g, ov 5 a1 b1 c1 d1 n1 x] w (DoGot mb mm sb R w (L.length + 1)) := by
  obtain ⟨PS, OB, PR, B3, sz⟩ := doboxes v a b h g 5 a1 b1 c1 d1 n1 x w
  have D := D0.of hm hs hsb B3 sz
  obtain ⟨na, nb, fit, lw, _, _⟩ := hm.plain
  have CP := Lib.hid (mzero_any mb mm R L a b h g _ D.m a1 b1 n1 hb1)
  have CR := Lib.hid (fun w' (q : SL w' v L) => rzero_any v a b h g L w' q hl lw na nb a1 b1 n1 hn1)
  have LEN := Lib.hid (show (zerov L a b h g a1 b1 n1).L.length ≤ L.length + 1 from Nat.le_succ_of_le (Nat.le_of_eq (zerov_len L a b h g a1 b1 n1)))
  obtain ⟨av0, cap0, rfl⟩ := hs.sl.slice
  clear hm hs hsb hl na nb fit lw hb1 hd1 hn1 B3 sz
  generalize zerov L a b h g a1 b1 n1 = o at *
  have OT := Lib.hid (show ∀ (w5 w7 : World) R' v', D1 w w5 mb mm sb R R' o v' → Keeps (fun j => w.heap.size ≤ j ∧ j < w.heap.size + 3) w5 w7 → DoGot mb mm sb R w (L.length + 1) (.returned (.tuple #[ssv v' o.a o.b o.h o.g, .bool true])) w7 from fun w5 w7 R' v' d K => ⟨_, _, _, _, _, _, _, rfl, (d.last K).1, (d.last K).2.1, (d.last K).2.2, LEN.out⟩)
  go_enter Try.func9, Try.ntmps9
  go_upto_region 1 with fail
  generalize ((w.alloc (.cells #[.slice av0 L.length cap0, .int .u64 (hi a), .int .u64 (lo a), .int .u64 (hi b), .int .u64 (lo b), .int .i64 h, .int .i64 g] 35)).alloc (.cells #[.int .i64 5, .int .i64 a1, .int .i64 b1, .int .i64 c1, .int .i64 d1, .int .i64 n1, .int .u64 (x : Int)] 39)).alloc (.cells #[.slice none 0 0, .int .u64 0, .int .u64 0, .int .u64 0, .int .u64 0, .int .i64 0, .int .i64 0] 35) = w3 at *
  obtain ⟨s0, s1, s2, s3, s4, s5, s6, sf, sl⟩ := PS.all
  obtain ⟨o0, o1, o2, o3, o4, o5, o6⟩ := oc_all OB
  go_wp2_with fail
  with_reducible refine CP.out.mono ?_
  rintro e w4 ⟨R', rfl, M4, T4⟩
  dsimp only
  have PS4 : PRow w4 w.heap.size (.slice av0 L.length cap0) a b h g := D.box T4 PS (Nat.le_refl _)
  have OB4 := D.box T4 OB (Nat.le_succ _)
  have PR4 : PRow w4 (w.heap.size + 1 + 1) (.slice none 0 0) 0 0 0 0 := D.box T4 PR (by omega)
  have SL4 := Lib.hid (D.sl4 T4)
  have BOTH := Lib.hid (fun w5 v' S B => D.both (w5 := w5) (v' := v') M4 T4 S B)
  clear s0 s1 s2 s3 s4 s5 s6 sf sl o0 o1 o2 o3 o4 o5 o6 PS OB PR D M4 T4
  obtain ⟨s0, s1, s2, s3, s4, s5, s6, sf, sl⟩ := PS4.all
  obtain ⟨o0, o1, o2, o3, o4, o5, o6⟩ := oc_all OB4
  go_wp2_with fail
  with_reducible refine (CR.out _ SL4.out).mono ?_
  rintro e w5 ⟨v', rfl, S5, B5⟩
  dsimp only
  have E1 := BOTH.out w5 v' S5 B5
  obtain ⟨av, cap, rfl⟩ := E1.s.sl.slice
  have PS5 := PS4.below B5
  have PR5 := PR4.below B5
  have HE1 := Lib.hid E1
  clear s0 s1 s2 s3 s4 s5 s6 sf sl o0 o1 o2 o3 o4 o5 o6 PS4 OB4 PR4 SL4 BOTH S5 B5 E1
  obtain ⟨s0, s1, s2, s3, s4, s5, s6, sf, sl⟩ := PS5.all
  have PS6 := Row.setP PS5 (.slice av o.L.length cap) o.a o.b o.h o.g
  have PR6 := PR5.far7 (t := w.heap.size) (by omega) (.slice av o.L.length cap) (.int .u64 (hi o.a)) (.int .u64 (lo o.a)) (.int .u64 (hi o.b)) (.int .u64 (lo o.b)) (.int .i64 o.h) (.int .i64 o.g)
  have K6 := Keeps.set7 (F := fun j => w.heap.size ≤ j ∧ j < w.heap.size + 3) w5 (s := w.heap.size) (by omega) (.slice av o.L.length cap) (.int .u64 (hi o.a)) (.int .u64 (lo o.a)) (.int .u64 (hi o.b)) (.int .u64 (lo o.b)) (.int .i64 o.h) (.int .i64 o.g)
  clear PS5 PR5
  go_upto_region 27 with fail
  generalize (((((((w5.setCell ⟨w.heap.size, 0, none⟩ (.slice av o.L.length cap)).setCell ⟨w.heap.size, 1, none⟩ (.int .u64 (hi o.a))).setCell ⟨w.heap.size, 2, none⟩ (.int .u64 (lo o.a))).setCell ⟨w.heap.size, 3, none⟩ (.int .u64 (hi o.b))).setCell ⟨w.heap.size, 4, none⟩ (.int .u64 (lo o.b))).setCell ⟨w.heap.size, 5, none⟩ (.int .i64 o.h)).setCell ⟨w.heap.size, 6, none⟩ (.int .i64 o.g)) = w6 at *
  clear s0 s1 s2 s3 s4 s5 s6 sf sl
  obtain ⟨s0, s1, s2, s3, s4, s5, s6, sf, sl⟩ := PS6.all
  obtain ⟨r0, r1, r2, r3, r4, r5, r6, rf, rl⟩ := PR6.all
  obtain ⟨y0, y1, y2, y3, y4, y5, y6, yf, yl⟩ := (Row.setP PR6 (.slice av o.L.length cap) o.a o.b o.h o.g).all
  have K7 := Lib.hid (K6.trans (Keeps.set7 (F := fun j => w.heap.size ≤ j ∧ j < w.heap.size + 3) w6 (s := w.heap.size + 1 + 1) (by omega) (.slice av o.L.length cap) (.int .u64 (hi o.a)) (.int .u64 (lo o.a)) (.int .u64 (hi o.b)) (.int .u64 (lo o.b)) (.int .i64 o.h) (.int .i64 o.g)) (fun _ _ q => q))
  clear PS6 PR6 K6
  go_wp2_with fail
  exact bodyPost_ret (v := .tuple #[ssv (.slice av o.L.length cap) o.a o.b o.h o.g, .bool true]) (by simp [results, Try.results9, go_sem, y0, y1, y2, y3, y4, y5, y6]) rfl (OT.out _ _ _ _ HE1.out K7.out)

set_option maxRecDepth 100000 in
set_option maxHeartbeats 2000000 in
theorem do_copy (mb mm : Nat) (R : Nat → Nat) (L : List Spc) (v : Value) (a b : Nat) (h g a1 b1 c1 d1 n1 : Int) (x : Nat) (w : World) (hm : MM w R mb mm L a b h g) (sb : Nat) (hsb : sb < w.heap.size) (hs : SF w (FR R sb) v L) (hl : L.length ≤ 200000) (hb1 : b1 ≤ 9223372036854775807) (hd1 : d1 ≤ 9223372036854775807) (hn1 : n1 ≤ 9223372036854775807) :
    Calls Try.prog 9 #[at0 mb, ssv v a b h g, ov 6 a1 b1 c1 d1 n1 x] w (DoGot mb mm sb R w (L.length + 1)) := by
  obtain ⟨PS, OB, PR, B3, sz⟩ := doboxes v a b h g 6 a1 b1 c1 d1 n1 x w
  have D := D0.of hm hs hsb B3 sz
  obtain ⟨na, nb, fit, lw, _, _⟩ := hm.plain
  have CP := Lib.hid (mcopy_any mb mm R L a b h g _ D.m a1 b1 c1 d1 n1 hb1 hd1)
  have CR := Lib.hid (fun w' (q : SL w' v L) => rcopy_any v a b h g L w' q hl lw na nb a1 b1 c1 d1 n1 hn1)
  have LEN := Lib.hid (show (copyv L a b h g a1 b1 c1 d1 n1).L.length ≤ L.length + 1 from Nat.le_succ_of_le (Nat.le_of_eq (copyv_len L a b h g a1 b1 c1 d1 n1)))
  obtain ⟨av0, cap0, rfl⟩ := hs.sl.slice
  clear hm hs hsb hl na nb fit lw hb1 hd1 hn1 B3 sz
  generalize copyv L a b h g a1 b1 c1 d1 n1 = o at *
  have OT := Lib.hid (show ∀ (w5 w7 : World) R' v', D1 w w5 mb mm sb R R' o v' → Keeps (fun j => w.heap.size ≤ j ∧ j < w.heap.size + 3) w5 w7 → DoGot mb mm sb R w (L.length + 1) (.returned (.tuple #[ssv v' o.a o.b o.h o.g, .bool true])) w7 from fun w5 w7 R' v' d K => ⟨_, _, _, _, _, _, _, rfl, (d.last K).1, (d.last K).2.1, (d.last K).2.2, LEN.out⟩)
  go_enter Try.func9, Try.ntmps9
  go_upto_region 1 with fail
  generalize ((w.alloc (.cells #[.slice av0 L.length cap0, .int .u64 (hi a), .int .u64 (lo a), .int .u64 (hi b), .int .u64 (lo b), .int .i64 h, .int .i64 g] 35)).alloc (.cells #[.int .i64 6, .int .i64 a1, .int .i64 b1, .int .i64 c1, .int .i64 d1, .int .i64 n1, .int .u64 (x : Int)] 39)).alloc (.cells #[.slice none 0 0, .int .u64 0, .int .u64 0, .int .u64 0, .int .u64 0, .int .i64 0, .int .i64 0] 35) = w3 at *
  obtain ⟨s0, s1, s2, s3, s4, s5, s6, sf, sl⟩ := PS.all
  obtain ⟨o0, o1, o2, o3, o4, o5, o6⟩ := oc_all OB
  go_wp2_with fail
  with_reducible refine CP.out.mono ?_
  rintro e w4 ⟨R', rfl, M4, T4⟩
  dsimp only
  have PS4 : PRow w4 w.heap.size (.slice av0 L.length cap0) a b h g := D.box T4 PS (Nat.le_refl _)
  have OB4 := D.box T4 OB (Nat.le_succ _)
  have PR4 : PRow w4 (w.heap.size + 1 + 1) (.slice none 0 0) 0 0 0 0 := D.box T4 PR (by omega)
  have SL4 := Lib.hid (D.sl4 T4)
  have BOTH := Lib.hid (fun w5 v' S B => D.both (w5 := w5) (v' := v') M4 T4 S B)
  clear s0 s1 s2 s3 s4 s5 s6 sf sl o0 o1 o2 o3 o4 o5 o6 PS OB PR D M4 T4
  obtain ⟨s0, s1, s2, s3, s4, s5, s6, sf, sl⟩ := PS4.all
  obtain ⟨o0, o1, o2, o3, o4, o5, o6⟩ := oc_all OB4
  go_wp2_with fail
  with_reducible refine (CR.out _ SL4.out).mono ?_
  rintro e w5 ⟨v', rfl, S5, B5⟩
  dsimp only
  have E1 := BOTH.out w5 v' S5 B5
  obtain ⟨av, cap, rfl⟩ := E1.s.sl.slice
  have PS5 := PS4.below B5
  have PR5 := PR4.below B5
  have HE1 := Lib.hid E1
  clear s0 s1 s2 s3 s4 s5 s6 sf sl o0 o1 o2 o3 o4 o5 o6 PS4 OB4 PR4 SL4 BOTH S5 B5 E1
  obtain ⟨s0, s1, s2, s3, s4, s5, s6, sf, sl⟩ := PS5.all
  have PS6 := Row.setP PS5 (.slice av o.L.length cap) o.a o.b o.h o.g
  have PR6 := PR5.far7 (t := w.heap.size) (by omega) (.slice av o.L.length cap) (.int .u64 (hi o.a)) (.int .u64 (lo o.a)) (.int .u64 (hi o.b)) (.int .u64 (lo o.b)) (.int .i64 o.h) (.int .i64 o.g)
  have K6 := Keeps.set7 (F := fun j => w.heap.size ≤ j ∧ j < w.heap.size + 3) w5 (s := w.heap.size) (by omega) (.slice av o.L.length cap) (.int .u64 (hi o.a)) (.int .u64 (lo o.a)) (.int .u64 (hi o.b)) (.int .u64 (lo o.b)) (.int .i64 o.h) (.int .i64 o.g)
  clear PS5 PR5
  go_upto_region 31 with fail
  generalize (((((((w5.setCell ⟨w.heap.size, 0, none⟩ (.slice av o.L.length cap)).setCell ⟨w.heap.size, 1, none⟩ (.int .u64 (hi o.a))).setCell ⟨w.heap.size, 2, none⟩ (.int .u64 (lo o.a))).setCell ⟨w.heap.size, 3, none⟩ (.int .u64 (hi o.b))).setCell ⟨w.heap.size, 4, none⟩ (.int .u64 (lo o.b))).setCell ⟨w.heap.size, 5, none⟩ (.int .i64 o.h)).setCell ⟨w.heap.size, 6, none⟩ (.int .i64 o.g)) = w6 at *
  clear s0 s1 s2 s3 s4 s5 s6 sf sl
  obtain ⟨s0, s1, s2, s3, s4, s5, s6, sf, sl⟩ := PS6.all
  obtain ⟨r0, r1, r2, r3, r4, r5, r6, rf, rl⟩ := PR6.all
  obtain ⟨y0, y1, y2, y3, y4, y5, y6, yf, yl⟩ := (Row.setP PR6 (.slice av o.L.length cap) o.a o.b o.h o.g).all
  have K7 := Lib.hid (K6.trans (Keeps.set7 (F := fun j => w.heap.size ≤ j ∧ j < w.heap.size + 3) w6 (s := w.heap.size + 1 + 1) (by omega) (.slice av o.L.length cap) (.int .u64 (hi o.a)) (.int .u64 (lo o.a)) (.int .u64 (hi o.b)) (.int .u64 (lo o.b)) (.int .i64 o.h) (.int .i64 o.g)) (fun _ _ q => q))
  clear PS6 PR6 K6
  go_wp2_with fail
  exact bodyPost_ret (v := .tuple #[ssv (.slice av o.L.length cap) o.a o.b o.h o.g, .bool true]) (by simp [results, Try.results9, go_sem, y0, y1, y2, y3, y4, y5, y6]) rfl (OT.out _ _ _ _ HE1.out K7.out)
end Go.Proofs.Ytgnpakpnocbhhaa
