/-
  haymowlaw09.ChainTables, walked: tables that may be.
-/
import Derived.Test.YtibaloamgpcghaaTab
namespace Go.Proofs.Ytibaloamgpcghaa
open Go.RowKit
set_option linter.unusedVariables false

set_option maxRecDepth 100000 in
set_option maxHeartbeats 4000000 in
theorem tab_in (sz : Nat) (hs : sz < 256) (W N P : Nat) (t : TT (osp sz) 0 W N P) (id : Nat) (h1 : 1 ≤ id) (h2 : id ≤ ent W sz) (w : World) : Calls Try.prog 3 #[.int .u8 (sz : Int), .agg #[.int .i64 (W : Int), .int .i64 (N : Int), .int .i64 (P : Int)], .int .i64 (id : Int)] w fun e w' => e = .returned (.bool true) ∧ Below w.heap.size w w' := by
  obtain ⟨L1, hL1⟩ : ∃ L1, L1 = setw (osp sz) 0 (pushw (wds (osp sz) 0) W N P 0 0 id) := ⟨_, rfl⟩
  have t1 : TT L1 0 W N P := by rw [hL1]; exact t.setw _
  have e1 : (wds L1 0).length = sz := by rw [hL1, setw_wds t.hk, pushw_len, osp_len]
  have c1 : CH W N P (wds L1 0) [id] := by rw [hL1, setw_wds t.hk]; exact (CH.nil W N P (wds (osp sz) 0)).push t.tb h1 (by rw [osp_len]; exact h2) (by simp)
  have nz : (wds L1 0).getD (lk W id N) 0 = 0 := c1.nx 0 (by simp)
  have PU := Lib.hid (show ∀ mb mm R a b h g w, MM w R mb mm (osp sz) a b h g → Calls Try.prog 10 #[tv (at0 mb) 0 (W : Int) (N : Int) (P : Int), cv 0 0 0, .int .i64 (id : Int)] w fun e w' => e = .returned (.tuple #[cv (id : Int) (id : Int) 1, .int .i64 0]) ∧ MM w' R mb mm L1 a (up2 b) h g ∧ TR R R w w' from fun mb mm R a b h g w q => by rw [hL1]; exact push_first mb mm R (osp sz) a b h g 0 W N P t 0 0 id h1 (by rw [osp_len]; exact h2) (by omega) w q)
  have AF := Lib.hid (show ∀ mb mm R a b h g w, MM w R mb mm L1 a b h g → Calls Try.prog 11 #[tv (at0 mb) 0 (W : Int) (N : Int) (P : Int), .int .i64 (id : Int)] w fun e w' => e = .returned (.tuple #[.int .i64 0, .int .i64 0]) ∧ MM w' R mb mm L1 (addv a 1) b h g ∧ TR R R w w' from fun mb mm R a b h g w q => by have z := after_ok mb mm R L1 a b h g 0 W N P t1 id h1 (by rw [e1]; exact h2) (by rw [nz]; omega) w q; rw [nz] at z; exact z)
  have EN := Lib.hid (show ∀ mb mm R a b h g w, MM w R mb mm L1 a b h g → Calls Try.prog 9 #[tv (at0 mb) 0 (W : Int) (N : Int) (P : Int)] w fun e w' => e = .returned (.int .i64 ((ent W sz : Nat) : Int)) ∧ Below w.heap.size w w' from fun mb mm R a b h g w q => by have z := entries_ok mb mm R L1 a b h g 0 W N P t1 w q; rw [e1] at z; exact z)
  have JO := Lib.hid (fun mb w => join_0 mb 0 (W : Int) (N : Int) (P : Int) t.right 0 0 0 0 0 0 rfl w)
  have RR := Lib.hid (show ∀ w, Calls Try.prog 13 #[.int .i64 (W : Int), .int .i64 (N : Int), .int .i64 (P : Int)] w fun e w' => e = .returned (.bool true) ∧ Below w.heap.size w w' from fun w => by have q := ref_right (W : Int) (N : Int) (P : Int) w; rw [t.right] at q; exact q)
  have RT := Lib.hid (show ∀ mb w, Calls Try.prog 8 #[tv (at0 mb) 0 (W : Int) (N : Int) (P : Int)] w fun e w' => e = .returned (.bool true) ∧ Below w.heap.size w w' from fun mb w => by have q := right_any mb 0 (W : Int) (N : Int) (P : Int) w; rw [t.right] at q; exact q)
  have qe : (sz : Int).tdiv (W : Int) = ((ent W sz : Nat) : Int) := quo_ent sz W
  have we : wrap64 ((ent W sz : Nat) : Int) = ((ent W sz : Nat) : Int) := wrap_small (by have := ent_le (n := sz) t.w2 (by omega); omega)
  have wge := t.w2
  have W0 : ((W : Int) == 0) = false := by simp; omega
  clear t t1 e1 c1 nz hL1
  generalize ent W sz = E at *
  have AW := Lib.hid (fun w => awake9_any w)
  have NW := Lib.hid (fun w => mnew_any w)
  have OP := Lib.hid (fun mb mm R w q => open_first mb mm R w sz (by omega) q)
  have RN := Lib.hid (fun w => right_nil 0 (W : Int) (N : Int) (P : Int) w)
  have ENN := Lib.hid (fun w => entries_nil 0 (W : Int) (N : Int) (P : Int) w)
  have cv8 := conv_u8 sz hs
  have cw8 : wrap64 (sz : Int) = (sz : Int) := wrap_small (by omega)
  have RA0 := Row.newAt w (#[.int .i64 (W : Int), .int .i64 (N : Int), .int .i64 (P : Int)] : Array Value) 22 w.heap.size 3 _ rfl (cc_new (W : Int) (N : Int) (P : Int))
  have BA := bAlloc (Below.refl w.heap.size w) (.cells #[.int .i64 (W : Int), .int .i64 (N : Int), .int .i64 (P : Int)] 22)
  clear hs
  go_enter Try.func3, Try.ntmps3
  go_wp2_with fail
  with_reducible refine (AW.out _).mono ?_
  rintro e w1 ⟨rfl, b1⟩
  dsimp only
  have RA1 := RA0.below b1
  have B1 := bTrans BA b1
  clear RA0 BA b1
  go_wp2_with fail
  with_reducible refine (NW.out _).mono ?_
  rintro e w2 ⟨mb, mm, R, rfl, M2, lo2, b2⟩
  dsimp only
  have O2 := Own.new B1 lo2 b2
  have z1 : R w.heap.size = 0 := Decidable.byContradiction fun q => by have := lo2 _ q; have := RA1.lt; omega
  have RA2 := RA1.below b2
  clear RA1 B1 b2 lo2
  go_wp2_with fail
  with_reducible refine (OP.out mb mm R _ M2).mono ?_
  rintro e w3 ⟨R3, h, g, rfl, M3, T3⟩
  dsimp only
  have O3 := O2.step T3
  have RA3 := RA2.tr T3 z1
  have z1 : R3 w.heap.size = 0 := Decidable.byContradiction fun q => (T3.old _ RA2.lt q) z1
  have z2 : R3 w3.heap.size = 0 := Decidable.byContradiction fun q => by have := M3.hi _ q; omega
  have z3 : R3 (w3.heap.size + 1) = 0 := Decidable.byContradiction fun q => by have := M3.hi _ q; omega
  have RX := (boxed5 w3 (at0 mb) 0 (W : Int) (N : Int) (P : Int)).alloc (.cells #[.pointer none, .int .i64 0, .int .i64 (W : Int), .int .i64 (N : Int), .int .i64 (P : Int)] 30)
  have RM := Row.newAt (w3.alloc (.cells #[at0 mb, .int .i64 0, .int .i64 (W : Int), .int .i64 (N : Int), .int .i64 (P : Int)] 30)) (#[.pointer none, .int .i64 0, .int .i64 (W : Int), .int .i64 (N : Int), .int .i64 (P : Int)] : Array Value) 30 (w3.heap.size + 1) 5 _ (by simp) (tc_new (.pointer none) 0 (W : Int) (N : Int) (P : Int))
  have S5 : TX w R3 mb mm w.heap.size w3.heap.size (w3.heap.size + 1) (W : Int) (N : Int) (P : Int) (osp sz) 0 0 h g _ := ⟨z1, z2, z3, (RA3.alloc _).alloc _, RX, RM, (M3.alloc _).alloc _, (O3.below ((Below.refl _ _).alloc (Nat.le_refl _) _)).below ((Below.refl _ _).alloc (Nat.le_refl _) _)⟩
  have RA4 := RA3.alloc (.cells #[at0 mb, .int .i64 0, .int .i64 (W : Int), .int .i64 (N : Int), .int .i64 (P : Int)] 30)
  clear RA2 M2 O2 T3 O3 z2 z3 RX RM M3
  obtain ⟨y0, y1, y2, yf, yl⟩ := cc_all RA3
  obtain ⟨v0, v1, v2, vf, vl⟩ := cc_all RA4
  go_upto_region 9 with fail
  clear y0 y1 y2 yf yl v0 v1 v2 vf vl RA3 RA4
  generalize (w3.alloc (.cells #[at0 mb, .int .i64 0, .int .i64 (W : Int), .int .i64 (N : Int), .int .i64 (P : Int)] 30)).alloc (.cells #[.pointer none, .int .i64 0, .int .i64 (W : Int), .int .i64 (N : Int), .int .i64 (P : Int)] 30) = w5 at *
  obtain ⟨x0, x1, x2, x3, x4, xf, xl⟩ := tc_all S5.rn
  go_wp2_with fail
  with_reducible refine (RN.out _).mono ?_
  rintro e w6 ⟨rfl, b6⟩
  dsimp only
  have S6 := S5.below b6
  clear x0 x1 x2 x3 x4 xf xl S5 b6
  obtain ⟨x0, x1, x2, x3, x4, xf, xl⟩ := tc_all S6.rn
  go_wp2_with fail
  with_reducible refine (ENN.out _).mono ?_
  rintro e w7 ⟨rfl, b7⟩
  dsimp only
  have S7 := S6.below b7
  clear x0 x1 x2 x3 x4 xf xl S6 b7
  obtain ⟨x0, x1, x2, x3, x4, xf, xl⟩ := tc_all S7.rx
  go_wp2_with fail
  with_reducible refine (PU.out mb mm R3 _ _ _ _ _ S7.m).mono ?_
  rintro e w8 ⟨rfl, M8, T8⟩
  dsimp only
  have S8 := (S7.step M8 T8).alloc (.cells #[.int .i64 (id : Int), .int .i64 (id : Int), .int .i64 1] 33)
  clear x0 x1 x2 x3 x4 xf xl S7 M8 T8
  obtain ⟨x0, x1, x2, x3, x4, xf, xl⟩ := tc_all S8.rx
  go_wp2_with fail
  with_reducible refine (AF.out mb mm R3 _ _ _ _ _ S8.m).mono ?_
  rintro e w9 ⟨rfl, M9, T9⟩
  dsimp only
  have S9 := S8.step M9 T9
  clear x0 x1 x2 x3 x4 xf xl S8 M9 T9
  obtain ⟨x0, x1, x2, x3, x4, xf, xl⟩ := tc_all S9.rx
  go_wp2_with fail
  with_reducible refine (JO.out mb _).mono ?_
  rintro e w10 ⟨rfl, b10⟩
  dsimp only
  have S10 := (S9.below b10).alloc (.cells #[.int .i64 0, .int .i64 0, .int .i64 0] 33)
  clear x0 x1 x2 x3 x4 xf xl S9 b10
  obtain ⟨y0, y1, y2, yf, yl⟩ := cc_all S10.ra
  go_wp2_with fail
  with_reducible refine (RR.out _).mono ?_
  rintro e w11 ⟨rfl, b11⟩
  dsimp only
  have S11 := S10.below b11
  clear y0 y1 y2 yf yl S10 b11
  obtain ⟨y0, y1, y2, yf, yl⟩ := cc_all S11.ra
  obtain ⟨x0, x1, x2, x3, x4, xf, xl⟩ := tc_all S11.rx
  go_wp2_with fail
  with_reducible refine (RT.out mb _).mono ?_
  rintro e w12 ⟨rfl, b12⟩
  dsimp only
  have S12 := S11.below b12
  clear x0 x1 x2 x3 x4 xf xl y0 y1 y2 yf yl S11 b12
  obtain ⟨x0, x1, x2, x3, x4, xf, xl⟩ := tc_all S12.rx
  go_wp2_with fail
  with_reducible refine (EN.out mb mm R3 _ _ _ _ _ S12.m).mono ?_
  rintro e w13 ⟨rfl, b13⟩
  dsimp only
  have S13 := S12.below b13
  go_wp2_with fail
  go_ret
  exact ⟨rfl, S13.o.b⟩
end Go.Proofs.Ytibaloamgpcghaa
