/-
  haymowlaw09.ChainTables, walked: a table that may not be; an entry that is not there; one that is.
-/
import Derived.Test.YtibaloamgpcghaaAwake09
namespace Go.Proofs.Ytibaloamgpcghaa
open Go.RowKit
set_option linter.unusedVariables false

theorem conv_u8 (b : Nat) (hb : b < 256) : IntKind.i64.wrap (b : Int) = (b : Int) := by rw [IntKind.wrap_i64]; omega
/-- one space of so many noughts -/
def osp (n : Nat) : List Spc := [(true, List.replicate n 0)]
theorem osp_len (n : Nat) : (wds (osp n) 0).length = n := List.length_replicate
theorem opened_osp (n : Nat) : opened [] n = osp n := by
  have F0 : firstc [] = 0 := firstc_eq [] 0 (fun j hj => by omega) (.inl rfl)
  unfold opened osp; rw [F0]; rfl
theorem first_nil : firstc [] = 0 := firstc_eq [] 0 (fun j hj => by omega) (.inl rfl)
/-- Open of an empty Mem -/
theorem open_first (mb mm : Nat) (R : Nat → Nat) (w : World) (n : Nat) (hn : n ≤ 4194304) (m : MM w R mb mm [] 0 0 0 0) : Calls Try.prog 7 #[at0 mb, .int .i64 (n : Int)] w fun e w' => ∃ R' h g, e = .returned (.tuple #[.int .i64 0, .int .i64 0]) ∧ MM w' R' mb mm (osp n) 0 0 h g ∧ TR R R' w w' := by
  have OP := mopen_ok mb mm R [] 0 0 0 0 w m n hn (by unfold countv; omega)
  rw [first_nil, opened_osp] at OP
  exact OP.mono fun e w' ⟨R', he, m', t⟩ => ⟨R', _, _, he, m', t⟩

/-- what ChainTables holds in memory: the array, the table, the table without a Mem -/
structure TX (W0 : World) (R : Nat → Nat) (mb mm ab xb nb : Nat) (W N P : Int) (L : List Spc) (a b : Nat) (h g : Int) (w : World) : Prop where
  z1 : R ab = 0
  z2 : R xb = 0
  z3 : R nb = 0
  ra : Row w ab 3 (cc W N P)
  rx : Row w xb 5 (tc (at0 mb) 0 W N P)
  rn : Row w nb 5 (tc (.pointer none) 0 W N P)
  m : MM w R mb mm L a b h g
  o : Own W0 R w
theorem TX.below {W0 : World} {R : Nat → Nat} {mb mm ab xb nb : Nat} {W N P : Int} {L : List Spc} {a b : Nat} {h g : Int} {w w' : World} (s : TX W0 R mb mm ab xb nb W N P L a b h g w) (k : Below w.heap.size w w') : TX W0 R mb mm ab xb nb W N P L a b h g w' :=
  ⟨s.z1, s.z2, s.z3, s.ra.below k, s.rx.below k, s.rn.below k, s.m.below k, s.o.below k⟩
theorem TX.alloc {W0 : World} {R : Nat → Nat} {mb mm ab xb nb : Nat} {W N P : Int} {L : List Spc} {a b : Nat} {h g : Int} {w : World} (s : TX W0 R mb mm ab xb nb W N P L a b h g w) (o : Obj) : TX W0 R mb mm ab xb nb W N P L a b h g (w.alloc o) := s.below ((Below.refl _ _).alloc (Nat.le_refl _) o)
theorem TX.step {W0 : World} {R : Nat → Nat} {mb mm ab xb nb : Nat} {W N P : Int} {L L' : List Spc} {a b a' b' : Nat} {h g h' g' : Int} {w w' : World} (s : TX W0 R mb mm ab xb nb W N P L a b h g w) (m : MM w' R mb mm L' a' b' h' g') (t : TR R R w w') : TX W0 R mb mm ab xb nb W N P L' a' b' h' g' w' :=
  ⟨s.z1, s.z2, s.z3, s.ra.tr t s.z1, s.rx.tr t s.z2, s.rn.tr t s.z3, m, s.o.step t⟩

set_option maxRecDepth 100000 in
/-- haymowref09.Right -/
theorem ref_right (W N P : Int) (w : World) : Calls Try.prog 13 #[.int .i64 W, .int .i64 N, .int .i64 P] w fun e w' => e = .returned (.bool (rightv W N P)) ∧ Below w.heap.size w w' := by
  by_cases c1 : W < 2
  · rw [rightv_f (fun q => by omega)]
    go_enter Try.func13, Try.ntmps13
    go_wp2
    go_ret
    exact ⟨rfl, (by repeat (first | exact Below.refl _ _ | (with_reducible assumption) | refine bAlloc ?_ _ | refine below_drewN ?_ _ | refine Below.drew ?_ | (refine bSet ?_ (by first | (dsimp only; omega) | (simp; done) | (simp; omega)) _) | refine bTrans ?_ (by assumption)))⟩
  · by_cases c2 : 64 < W
    · rw [rightv_f (fun q => by omega)]
      go_enter Try.func13, Try.ntmps13
      go_wp2
      go_ret
      exact ⟨rfl, (by repeat (first | exact Below.refl _ _ | (with_reducible assumption) | refine bAlloc ?_ _ | refine below_drewN ?_ _ | refine Below.drew ?_ | (refine bSet ?_ (by first | (dsimp only; omega) | (simp; done) | (simp; omega)) _) | refine bTrans ?_ (by assumption)))⟩
    · by_cases c3 : N = P
      · rw [rightv_f (fun q => q.2.2.2.2.2.2 c3)]
        subst c3
        go_enter Try.func13, Try.ntmps13
        go_wp2
        go_ret
        exact ⟨rfl, (by repeat (first | exact Below.refl _ _ | (with_reducible assumption) | refine bAlloc ?_ _ | refine below_drewN ?_ _ | refine Below.drew ?_ | (refine bSet ?_ (by first | (dsimp only; omega) | (simp; done) | (simp; omega)) _) | refine bTrans ?_ (by assumption)))⟩
      · have c3' : (N == P) = false := by simp [c3]
        by_cases c4 : 0 ≤ N
        · by_cases c5 : N < W
          · by_cases c6 : 0 ≤ P
            · by_cases c7 : P < W
              · rw [rightv_iff.2 ⟨by omega, by omega, c4, c5, c6, c7, c3⟩]
                clear c3
                go_enter Try.func13, Try.ntmps13
                go_wp2
                go_ret
                exact ⟨rfl, (by repeat (first | exact Below.refl _ _ | (with_reducible assumption) | refine bAlloc ?_ _ | refine below_drewN ?_ _ | refine Below.drew ?_ | (refine bSet ?_ (by first | (dsimp only; omega) | (simp; done) | (simp; omega)) _) | refine bTrans ?_ (by assumption)))⟩
              · rw [rightv_f (fun q => c7 q.2.2.2.2.2.1)]
                clear c3
                go_enter Try.func13, Try.ntmps13
                go_wp2
                go_ret
                exact ⟨rfl, (by repeat (first | exact Below.refl _ _ | (with_reducible assumption) | refine bAlloc ?_ _ | refine below_drewN ?_ _ | refine Below.drew ?_ | (refine bSet ?_ (by first | (dsimp only; omega) | (simp; done) | (simp; omega)) _) | refine bTrans ?_ (by assumption)))⟩
            · rw [rightv_f (fun q => c6 q.2.2.2.2.1)]
              clear c3
              go_enter Try.func13, Try.ntmps13
              go_wp2
              go_ret
              exact ⟨rfl, (by repeat (first | exact Below.refl _ _ | (with_reducible assumption) | refine bAlloc ?_ _ | refine below_drewN ?_ _ | refine Below.drew ?_ | (refine bSet ?_ (by first | (dsimp only; omega) | (simp; done) | (simp; omega)) _) | refine bTrans ?_ (by assumption)))⟩
          · rw [rightv_f (fun q => c5 q.2.2.2.1)]
            clear c3
            go_enter Try.func13, Try.ntmps13
            go_wp2
            go_ret
            exact ⟨rfl, (by repeat (first | exact Below.refl _ _ | (with_reducible assumption) | refine bAlloc ?_ _ | refine below_drewN ?_ _ | refine Below.drew ?_ | (refine bSet ?_ (by first | (dsimp only; omega) | (simp; done) | (simp; omega)) _) | refine bTrans ?_ (by assumption)))⟩
        · rw [rightv_f (fun q => c4 q.2.2.1)]
          clear c3
          go_enter Try.func13, Try.ntmps13
          go_wp2
          go_ret
          exact ⟨rfl, (by repeat (first | exact Below.refl _ _ | (with_reducible assumption) | refine bAlloc ?_ _ | refine below_drewN ?_ _ | refine Below.drew ?_ | (refine bSet ?_ (by first | (dsimp only; omega) | (simp; done) | (simp; omega)) _) | refine bTrans ?_ (by assumption)))⟩
set_option maxRecDepth 100000 in
set_option maxHeartbeats 4000000 in
theorem tab_no (sz : Nat) (hs : sz < 256) (W N P id : Int) (hr : rightv W N P = false) (w : World) : Calls Try.prog 3 #[.int .u8 (sz : Int), .agg #[.int .i64 W, .int .i64 N, .int .i64 P], .int .i64 id] w fun e w' => e = .returned (.bool true) ∧ Below w.heap.size w w' := by
  have PU := Lib.hid (fun mb w => push_no mb 0 W N P hr 0 0 0 id w)
  have AF := Lib.hid (fun mb w => after_no mb 0 W N P hr id w)
  have JO := Lib.hid (fun mb w => join_no mb 0 W N P hr 0 0 0 0 0 0 w)
  have RR := Lib.hid (show ∀ w, Calls Try.prog 13 #[.int .i64 W, .int .i64 N, .int .i64 P] w fun e w' => e = .returned (.bool false) ∧ Below w.heap.size w w' from fun w => by have q := ref_right W N P w; rw [hr] at q; exact q)
  have RT := Lib.hid (show ∀ mb w, Calls Try.prog 8 #[tv (at0 mb) 0 W N P] w fun e w' => e = .returned (.bool false) ∧ Below w.heap.size w w' from fun mb w => by have q := right_any mb 0 W N P w; rw [hr] at q; exact q)
  have EN := Lib.hid (fun mb w => entries_no mb 0 W N P hr w)
  clear hr
  have AW := Lib.hid (fun w => awake9_any w)
  have NW := Lib.hid (fun w => mnew_any w)
  have OP := Lib.hid (fun mb mm R w q => open_first mb mm R w sz (by omega) q)
  have RN := Lib.hid (fun w => right_nil 0 W N P w)
  have ENN := Lib.hid (fun w => entries_nil 0 W N P w)
  have cv8 := conv_u8 sz hs
  have cw8 : wrap64 (sz : Int) = (sz : Int) := wrap_small (by omega)
  have RA0 := Row.newAt w (#[.int .i64 W, .int .i64 N, .int .i64 P] : Array Value) 22 w.heap.size 3 _ rfl (cc_new W N P)
  have BA := bAlloc (Below.refl w.heap.size w) (.cells #[.int .i64 W, .int .i64 N, .int .i64 P] 22)
  clear hs
  go_enter Try.func3, Try.ntmps3
  go_wp2_with fail
  with_reducible refine (AW.out _).mono ?_
  rintro e w1 ⟨rfl, b1⟩
  dsimp only
  have RA1 := RA0.below b1
  have B1 := bTrans BA b1
  clear RA0 BA b1
  go_wp2_with fail
  with_reducible refine (NW.out _).mono ?_
  rintro e w2 ⟨mb, mm, R, rfl, M2, lo2, b2⟩
  dsimp only
  have O2 := Own.new B1 lo2 b2
  have z1 : R w.heap.size = 0 := Decidable.byContradiction fun q => by have := lo2 _ q; have := RA1.lt; omega
  have RA2 := RA1.below b2
  clear RA1 B1 b2 lo2
  go_wp2_with fail
  with_reducible refine (OP.out mb mm R _ M2).mono ?_
  rintro e w3 ⟨R3, h, g, rfl, M3, T3⟩
  dsimp only
  have O3 := O2.step T3
  have RA3 := RA2.tr T3 z1
  have z1 : R3 w.heap.size = 0 := Decidable.byContradiction fun q => (T3.old _ RA2.lt q) z1
  have z2 : R3 w3.heap.size = 0 := Decidable.byContradiction fun q => by have := M3.hi _ q; omega
  have z3 : R3 (w3.heap.size + 1) = 0 := Decidable.byContradiction fun q => by have := M3.hi _ q; omega
  have RX := (boxed5 w3 (at0 mb) 0 W N P).alloc (.cells #[.pointer none, .int .i64 0, .int .i64 W, .int .i64 N, .int .i64 P] 30)
  have RM := Row.newAt (w3.alloc (.cells #[at0 mb, .int .i64 0, .int .i64 W, .int .i64 N, .int .i64 P] 30)) (#[.pointer none, .int .i64 0, .int .i64 W, .int .i64 N, .int .i64 P] : Array Value) 30 (w3.heap.size + 1) 5 _ (by simp) (tc_new (.pointer none) 0 W N P)
  have S5 : TX w R3 mb mm w.heap.size w3.heap.size (w3.heap.size + 1) W N P (osp sz) 0 0 h g _ := ⟨z1, z2, z3, (RA3.alloc _).alloc _, RX, RM, (M3.alloc _).alloc _, (O3.below ((Below.refl _ _).alloc (Nat.le_refl _) _)).below ((Below.refl _ _).alloc (Nat.le_refl _) _)⟩
  have RA4 := RA3.alloc (.cells #[at0 mb, .int .i64 0, .int .i64 W, .int .i64 N, .int .i64 P] 30)
  clear RA2 M2 O2 T3 O3 z2 z3 RX RM M3
  obtain ⟨y0, y1, y2, yf, yl⟩ := cc_all RA3
  obtain ⟨v0, v1, v2, vf, vl⟩ := cc_all RA4
  go_upto_region 9 with fail
  clear y0 y1 y2 yf yl v0 v1 v2 vf vl RA3 RA4
  generalize (w3.alloc (.cells #[at0 mb, .int .i64 0, .int .i64 W, .int .i64 N, .int .i64 P] 30)).alloc (.cells #[.pointer none, .int .i64 0, .int .i64 W, .int .i64 N, .int .i64 P] 30) = w5 at *
  obtain ⟨x0, x1, x2, x3, x4, xf, xl⟩ := tc_all S5.rn
  go_wp2_with fail
  with_reducible refine (RN.out _).mono ?_
  rintro e w6 ⟨rfl, b6⟩
  dsimp only
  have S6 := S5.below b6
  clear x0 x1 x2 x3 x4 xf xl S5 b6
  obtain ⟨x0, x1, x2, x3, x4, xf, xl⟩ := tc_all S6.rn
  go_wp2_with fail
  with_reducible refine (ENN.out _).mono ?_
  rintro e w7 ⟨rfl, b7⟩
  dsimp only
  have S7 := S6.below b7
  clear x0 x1 x2 x3 x4 xf xl S6 b7
  obtain ⟨x0, x1, x2, x3, x4, xf, xl⟩ := tc_all S7.rx
  go_wp2_with fail
  with_reducible refine (PU.out mb _).mono ?_
  rintro e w8 ⟨rfl, b8⟩
  dsimp only
  have S8 := (S7.below b8).alloc (.cells #[.int .i64 0, .int .i64 0, .int .i64 0] 33)
  clear x0 x1 x2 x3 x4 xf xl S7 b8
  obtain ⟨x0, x1, x2, x3, x4, xf, xl⟩ := tc_all S8.rx
  go_wp2_with fail
  with_reducible refine (AF.out mb _).mono ?_
  rintro e w9 ⟨rfl, b9⟩
  dsimp only
  have S9 := S8.below b9
  clear x0 x1 x2 x3 x4 xf xl S8 b9
  obtain ⟨x0, x1, x2, x3, x4, xf, xl⟩ := tc_all S9.rx
  go_wp2_with fail
  with_reducible refine (JO.out mb _).mono ?_
  rintro e w10 ⟨rfl, b10⟩
  dsimp only
  have S10 := (S9.below b10).alloc (.cells #[.int .i64 0, .int .i64 0, .int .i64 0] 33)
  clear x0 x1 x2 x3 x4 xf xl S9 b10
  obtain ⟨y0, y1, y2, yf, yl⟩ := cc_all S10.ra
  go_wp2_with fail
  with_reducible refine (RR.out _).mono ?_
  rintro e w11 ⟨rfl, b11⟩
  dsimp only
  have S11 := S10.below b11
  clear y0 y1 y2 yf yl S10 b11
  obtain ⟨x0, x1, x2, x3, x4, xf, xl⟩ := tc_all S11.rx
  go_wp2_with fail
  with_reducible refine (RT.out mb _).mono ?_
  rintro e w12 ⟨rfl, b12⟩
  dsimp only
  have S12 := S11.below b12
  clear x0 x1 x2 x3 x4 xf xl S11 b12
  obtain ⟨x0, x1, x2, x3, x4, xf, xl⟩ := tc_all S12.rx
  go_wp2_with fail
  with_reducible refine (EN.out mb _).mono ?_
  rintro e w13 ⟨rfl, b13⟩
  dsimp only
  have S13 := S12.below b13
  go_wp2_with fail
  go_ret
  exact ⟨rfl, S13.o.b⟩
end Go.Proofs.Ytibaloamgpcghaa
