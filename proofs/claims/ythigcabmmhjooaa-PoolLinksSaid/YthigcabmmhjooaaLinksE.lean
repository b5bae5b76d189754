/-
  haymowlaw10.PoolLinks: a width that New refuses; two links that are one word.
-/
import Derived.Test.YthigcabmmhjooaaLinksP
import Derived.LoopTactic
import Derived.Deep.RegionHeld3
import Derived.Deep.RegionLaw
namespace Go.Proofs.Ythigcabmmhjooaa
open Go.RowKit
set_option linter.unusedVariables false

theorem pool_eql_nil (a : Addr) (w : World) : (binOp .eql 26 (.pointer (some a)) (.pointer none)).run Try.prog w = .ok (.bool false) w := by kernel_rfl
theorem pool_nil_nil (w : World) : (binOp .eql 26 (.pointer none) (.pointer none)).run Try.prog w = .ok (.bool true) w := by kernel_rfl
set_option maxRecDepth 100000 in
set_option maxHeartbeats 1000000 in
theorem links_no (W : Int) (n p q : Nat) (hW : ¬ (1 ≤ W ∧ W ≤ 60)) (w : World) :
    Calls Try.prog 4 #[.int .i64 W, .int .u8 (n : Int), .agg #[.int .u8 (p : Int), .int .u8 (q : Int)]] w fun e w' => e = .returned (.bool true) ∧ Below w.heap.size w w' := by
  have AW := Lib.hid (fun w => awake10_any w)
  have NW := Lib.hid (fun w => mnew_any w)
  have PN := Lib.hid (fun mb w => pnew_no mb W hW w)
  have PZ := Lib.hid (fun w => pnew_nil 2 w)
  have q0 := pool_nil_nil
  by_cases c1 : W < 1
  · clear hW
    go_enter Try.func4, Try.ntmps4
    go_wp2_with fail
    with_reducible refine (AW.out _).mono ?_
    rintro e w1 ⟨rfl, b1⟩
    have B1 := bTrans (bAlloc (Below.refl w.heap.size w) (.cells #[.int .u8 (p : Int), .int .u8 (q : Int)] 59)) b1
    clear b1
    dsimp only
    go_wp2_with fail
    with_reducible refine (NW.out _).mono ?_
    rintro e w2 ⟨mb, mm, R, rfl, M2, lo2, b2⟩
    have B2 := bTrans B1 b2
    clear B1 b2
    dsimp only
    go_wp2_with fail
    with_reducible refine (PN.out mb _).mono ?_
    rintro e w3 ⟨rfl, rfl⟩
    dsimp only
    go_wp2_with fail
    with_reducible refine (PZ.out _).mono ?_
    rintro e w3 ⟨rfl, rfl⟩
    dsimp only
    go_wp2_with fail
    go_ret
    exact ⟨rfl, B2⟩
  · have c2 : 60 < W := by omega
    clear hW
    go_enter Try.func4, Try.ntmps4
    go_wp2_with fail
    with_reducible refine (AW.out _).mono ?_
    rintro e w1 ⟨rfl, b1⟩
    have B1 := bTrans (bAlloc (Below.refl w.heap.size w) (.cells #[.int .u8 (p : Int), .int .u8 (q : Int)] 59)) b1
    clear b1
    dsimp only
    go_wp2_with fail
    with_reducible refine (NW.out _).mono ?_
    rintro e w2 ⟨mb, mm, R, rfl, M2, lo2, b2⟩
    have B2 := bTrans B1 b2
    clear B1 b2
    dsimp only
    go_wp2_with fail
    with_reducible refine (PN.out mb _).mono ?_
    rintro e w3 ⟨rfl, rfl⟩
    dsimp only
    go_wp2_with fail
    with_reducible refine (PZ.out _).mono ?_
    rintro e w3 ⟨rfl, rfl⟩
    dsimp only
    go_wp2_with fail
    go_ret
    exact ⟨rfl, B2⟩

theorem tmod_one {p W x : Nat} (h : x = p % W) : Int.tmod (p : Int) (W : Int) = (x : Int) := by rw [h]; rfl
theorem wne {W : Nat} (h : 1 ≤ W) : ((W : Int) == 0) = false ∧ ¬ ((W : Int) = 0) := ⟨by simp; omega, by omega⟩
theorem tab_right {W x y : Nat} (h1 : 1 ≤ W) (h2 : W ≤ 60) (hx : x < W) (hy : y < W) (ne : x ≠ y) : rightv ((W + 1 : Nat) : Int) ((x + 1 : Nat) : Int) ((y + 1 : Nat) : Int) = true := rightv_iff.2 ⟨by omega, by omega, by omega, by omega, by omega, by omega, by omega⟩
theorem tab_box (w : World) (mb W x y : Nat) : Row (w.alloc (.cells #[at0 mb, .int .i64 0, .int .i64 ((W : Int) + 1), .int .i64 ((x : Int) + 1), .int .i64 ((y : Int) + 1)] 64)) w.heap.size 5 (tc (at0 mb) 0 ((W : Int) + 1) ((x : Int) + 1) ((y : Int) + 1)) := boxed5 w (at0 mb) 0 ((W : Int) + 1) ((x : Int) + 1) ((y : Int) + 1)
theorem tab_cells {w : World} {g : Nat} {m : Value} {s W N P : Int} (r : Row w g 5 (tc m s W N P)) : w.cell? ⟨g, 0, none⟩ = some m ∧ w.cell? ⟨g, 1, none⟩ = some (.int .i64 s) ∧ w.cell? ⟨g, 2, none⟩ = some (.int .i64 W) ∧ w.cell? ⟨g, 3, none⟩ = some (.int .i64 N) ∧ w.cell? ⟨g, 4, none⟩ = some (.int .i64 P) := by
  obtain ⟨a, b, c, d, e, _⟩ := tc_all r
  exact ⟨a, b, c, d, e⟩
theorem tab_wrong {W x : Nat} : rightv ((W + 1 : Nat) : Int) ((x + 1 : Nat) : Int) ((x + 1 : Nat) : Int) = false := rightv_f (fun q => q.2.2.2.2.2.2 rfl)
set_option maxRecDepth 100000 in
set_option maxHeartbeats 1000000 in
theorem links_eq (W n p q x : Nat) (h1 : 1 ≤ W) (h2 : W ≤ 60) (hx : x = p % W) (hy : x = q % W) (hp : p < 256) (hq : q < 256) (w : World) :
    Calls Try.prog 4 #[.int .i64 (W : Int), .int .u8 (n : Int), .agg #[.int .u8 (p : Int), .int .u8 (q : Int)]] w fun e w' => e = .returned (.bool true) ∧ Below w.heap.size w w' := by
  have AW := Lib.hid (fun w => awake10_any w)
  have NW := Lib.hid (fun w => mnew_any w)
  have PN := Lib.hid (fun mb mm R w m => pnew_ok mb mm R W h1 h2 w m)
  have PZ := Lib.hid (fun w => pnew_nil 2 w)
  have q0 := fun w a => pool_eql_nil a w
  have BA := bAlloc (Below.refl w.heap.size w) (.cells #[.int .u8 (p : Int), .int .u8 (q : Int)] 59)
  have RA : Row (w.alloc (.cells #[.int .u8 (p : Int), .int .u8 (q : Int)] 59)) w.heap.size 2 (fun j => if j = 0 then .int .u8 (p : Int) else .int .u8 (q : Int)) := Row.newAt w _ _ w.heap.size 2 _ rfl (fun j hj => by
    have : j = 0 ∨ j = 1 := by omega
    rcases this with rfl | rfl <;> rfl)
  have lx : x < W := by rw [hx]; exact Nat.mod_lt _ h1
  have RG := Lib.hid (show ∀ mb w, Calls Try.prog 22 #[tv (at0 mb) 0 ((W : Int) + 1) ((x : Int) + 1) ((x : Int) + 1)] w fun e w' => e = .returned (.bool false) ∧ Below w.heap.size w w' from fun mb w => by have q := right_any mb 0 ((W + 1 : Nat) : Int) ((x + 1 : Nat) : Int) ((x + 1 : Nat) : Int) w; rw [tab_wrong] at q; exact q)
  have SP := Lib.hid (fun pb mb w r => pspace_any (m := at0 mb) (k := ((0 : Nat) : Int)) (c := ((0 : Nat) : Int)) (d := ((0 : Nat) : Int)) (f := ((0 : Nat) : Int)) (W := W) pb w r)
  have w1' : IntKind.i64.wrap ((W : Int) + 1) = (W : Int) + 1 := by rw [IntKind.wrap_i64]; omega
  have w2' : wrap64 ((W : Int) + 1) = (W : Int) + 1 := by unfold wrap64; omega
  have TA := Lib.hid (fun R pb mb mm L a b h g w P => ptable_any (R := R) (pb := pb) (mb := mb) (mm := mm) (L := L) (k := 0) (W := W) (rm := 0) (cnt := 0) (mad := 0) (fre := 0) (a := a) (b := b) (h := h) (g := g) x x (by omega) (by omega) w P)
  have c1 : ¬ ((W : Int) < 1) := by omega
  have c2 : ¬ ((60 : Int) < (W : Int)) := by omega
  have t1 := tmod_one hx
  have t2 := tmod_one hy
  obtain ⟨z1, z2⟩ := wne h1
  have x1 : IntKind.i64.wrap (x : Int) = (x : Int) := by rw [IntKind.wrap_i64]; omega
  have x2 : wrap64 (x : Int) = (x : Int) := wrap_small (by omega)
  have p1 : IntKind.i64.wrap (p : Int) = (p : Int) := by rw [IntKind.wrap_i64]; omega
  have p2 : IntKind.i64.wrap (q : Int) = (q : Int) := by rw [IntKind.wrap_i64]; omega
  have HE := Lib.hid (And.intro h1 h2)
  clear hx hy hp hq lx h1 h2
  go_enter Try.func4, Try.ntmps4
  go_wp2_with fail
  with_reducible refine (AW.out _).mono ?_
  rintro e w1 ⟨rfl, b1⟩
  have B1 := bTrans BA b1
  have RA1 := RA.below b1
  clear b1 BA RA
  dsimp only
  go_wp2_with fail
  with_reducible refine (NW.out _).mono ?_
  rintro e w2 ⟨mb, mm, R, rfl, M2, lo2, b2⟩
  have B2 := bTrans B1 b2
  have RA2 := RA1.below b2
  have nz : R w.heap.size = 0 := Decidable.byContradiction fun e => by
    have := lo2 _ e
    have := RA1.lt
    omega
  clear RA1 b2
  dsimp only
  go_wp2_with fail
  with_reducible refine (PN.out mb mm R _ M2).mono ?_
  rintro e w3 ⟨R3, pb, rfl, P3, lp, T3⟩
  have RA3 := RA2.tr T3 nz
  have B3 := Lib.hid (show Below w.heap.size w w3 from B2.trans (T3.below (B := w.heap.size) B2.size (fun j hj => Nat.le_trans B1.size (lo2 j hj))))
  have HP := Lib.hid P3
  have KP := Lib.hid (fun w' (t : Below w3.heap.size w3 w') => P3.below t)
  have BN := Lib.hid lp
  obtain ⟨r0, r1, r2, r3, r4, r5, rf, rl⟩ := pc_all P3.row
  clear T3 M2 lo2 B1 B2 RA2 nz P3 lp
  dsimp only
  go_wp2_with fail
  with_reducible refine (PZ.out _).mono ?_
  rintro e w4 ⟨rfl, rfl⟩
  dsimp only
  have MA := Lib.hid (fun w r => pmade_any (m := at0 mb) (k := ((0 : Nat) : Int)) (c := ((0 : Nat) : Int)) (d := ((0 : Nat) : Int)) (f := ((0 : Nat) : Int)) (W := W) pb w r)
  have CA := Lib.hid (fun w r => pcount_any (m := at0 mb) (k := ((0 : Nat) : Int)) (c := ((0 : Nat) : Int)) (d := ((0 : Nat) : Int)) (f := ((0 : Nat) : Int)) (W := W) pb w r)
  go_wp2_with fail
  with_reducible refine (MA.out _ HP.out.row).mono ?_
  rintro e w4 ⟨rfl, rfl⟩
  dsimp only
  go_wp2_with fail
  with_reducible refine (CA.out _ HP.out.row).mono ?_
  rintro e w4 ⟨rfl, rfl⟩
  dsimp only
  go_wp2_with fail
  obtain ⟨ra0, ra1, rf5⟩ : w3.cell? ⟨w.heap.size, 0, none⟩ = some (.int .u8 (p : Int)) ∧ w3.cell? ⟨w.heap.size, 1, none⟩ = some (.int .u8 (q : Int)) ∧ True := ⟨RA3.cell 0 (by omega), RA3.cell 1 (by omega), trivial⟩
  go_quiet (fail)
  go_wp2_with fail
  with_reducible refine (TA.out _ _ _ _ _ _ _ _ _ _ (HP.out.below (by repeat (first | exact Below.refl _ _ | (with_reducible assumption) | refine bAlloc ?_ _ | refine below_drewN ?_ _ | refine Below.drew ?_ | (refine bSet ?_ (by first | (dsimp only; omega) | (simp; done) | (simp; omega)) _) | refine bTrans ?_ (by assumption))))).mono ?_
  rintro e w5 ⟨rfl, b5⟩
  dsimp only
  go_wp2_with fail
  have RT := tab_box w5 mb W x x
  have B6 := Lib.hid (show Below w3.heap.size w3 (w5.alloc (.cells #[at0 mb, .int .i64 0, .int .i64 ((W : Int) + 1), .int .i64 ((x : Int) + 1), .int .i64 ((x : Int) + 1)] 64)) from bAlloc (bTrans (by repeat (first | exact Below.refl _ _ | refine below_drewN ?_ _)) b5) _)
  obtain ⟨T, hT⟩ : ∃ T, T = w5.heap.size := ⟨_, rfl⟩
  rw [← hT] at RT ⊢
  clear hT b5
  generalize w5.alloc (.cells #[at0 mb, .int .i64 0, .int .i64 ((W : Int) + 1), .int .i64 ((x : Int) + 1), .int .i64 ((x : Int) + 1)] 64) = w6 at *
  have KT := Lib.hid (fun w' (b : Below w6.heap.size w6 w') => tab_cells (RT.below b))
  have HR := Lib.hid (fun w' (b : Below w6.heap.size w6 w') => ((HP.out.below B6.out).below b).row)
  have BB0 : Below w6.heap.size w6 w6 := Below.refl _ _
  obtain ⟨y0, y1, y2, y3, y4⟩ := tab_cells RT
  clear r0 r1 r2 r3 r4 r5 rf rl ra0 ra1 rf5 RA3 RT
  go_region_held3 (fun w' => w'.cell? ⟨T, 0, none⟩ = some (at0 mb) ∧ w'.cell? ⟨T, 1, none⟩ = some (.int .i64 0) ∧ w'.cell? ⟨T, 2, none⟩ = some (.int .i64 ((W : Int) + 1)) ∧ w'.cell? ⟨T, 3, none⟩ = some (.int .i64 ((x : Int) + 1)) ∧ w'.cell? ⟨T, 4, none⟩ = some (.int .i64 ((x : Int) + 1)))
      (first | (refine KT.out _ ?_; repeat (first | with_reducible assumption | with_reducible refine Below.drew ?_)))
      (first
        | (go_at_call 22; with_reducible refine (RG.out _ _).mono ?_
           rintro e w7 ⟨rfl, b7⟩
           have BB7 : Below w6.heap.size w6 w7 := bTrans (by repeat (first | with_reducible assumption | with_reducible refine Below.drew ?_)) b7)
        | (go_at_call 23; with_reducible refine (SP.out _ _ _ (HR.out _ ?_)).mono ?_
           · repeat (first | with_reducible assumption | with_reducible refine Below.drew ?_)
           rintro e w8 ⟨rfl, rfl⟩))
  all_goals
    obtain ⟨u0, u1, u2, u3, u4⟩ := KT.out _ BB7
    go_wp2_with fail
    with_reducible refine (RG.out _ _).mono ?_
    rintro e w9 ⟨rfl, b9⟩
    dsimp only
    go_wp2_with fail
    go_ret
    exact ⟨rfl, B3.out.trans ((B6.out.trans (BB7.mono B6.out.size)).trans (b9.mono (bTrans B6.out BB7).size) |>.mono B3.out.size)⟩
end Go.Proofs.Ythigcabmmhjooaa
