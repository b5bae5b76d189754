/-
  Package frames: below, over whatever holds the stack's words (J).
-/
import Derived.Test.YtgicgaogoeihpaaFrk
import Derived.Deep.RegionLaw
namespace Go.Proofs.Ytgicgaogoeihpaa
open Go.RowKit
set_option linter.unusedVariables false

/-- what holds a stack: J n R w: behind n accesses, its blocks by their roles R -/
structure JK (fb mb fs : Nat) (J : Nat → (Nat → Nat) → World → Prop) : Prop where
  cel : ∀ n R w, J n R w → w.cell? ⟨fb, 0, none⟩ = some (at0 mb) ∧ w.cell? ⟨fb, 1, none⟩ = some (.int .i64 (fs : Int))
  fr : ∀ n R w, J n R w → R fb ≠ 0
  hi : ∀ n R w, J n R w → ∀ j, R j ≠ 0 → j < w.heap.size
  bel : ∀ n R w w', J n R w → Below w.heap.size w w' → J n R w'
  sto : ∀ n R w q i v, J n R w → R q = 0 → J n R (w.setCell ⟨q, i, none⟩ v)
theorem TR.z {R R' : Nat → Nat} {w w' : World} (t : TR R R' w w') {j : Nat} (hj : j < w.heap.size) (z : R j = 0) : R' j = 0 := Decidable.byContradiction fun q => t.old j hj q z
def fx2 (x y : Value) (j : Nat) : Value := if j = 0 then x else y
theorem fx2_new (x y : Value) (j : Nat) (hj : j < 2) : (#[x, y] : Array Value)[j]? = some (fx2 x y j) := by
  have e : j = 0 ∨ j = 1 := by omega
  rcases e with rfl | rfl <;> rfl
theorem fx2_all {w : World} {g : Nat} {x y : Value} (r : Row w g 2 (fx2 x y)) : w.cell? ⟨g, 0, none⟩ = some x ∧ w.cell? ⟨g, 1, none⟩ = some y ∧ (∀ j, w.frozen? ⟨g, j, none⟩ = false) ∧ g < w.heap.size := ⟨r.cell 0 (by omega), r.cell 1 (by omega), r.free, r.lt⟩
theorem Row.fx2 {w : World} {g : Nat} {x y : Value} (r : Row w g 2 (fx2 x y)) (u v : Value) : Row ((w.setCell ⟨g, 0, none⟩ u).setCell ⟨g, 1, none⟩ v) g 2 (Go.Proofs.Ytgicgaogoeihpaa.fx2 u v) := ((r.set 0 (by omega) u).set 1 (by omega) v).congr fun j hj => by
  have e : j = 0 ∨ j = 1 := by omega
  rcases e with rfl | rfl <;> rfl
attribute [irreducible] fx2
/-- the boxes of below -/
theorem fbox (w : World) (x y : Value) : Row ((w.alloc (.cells #[x, y] 80)).alloc (.cells #[.int .i64 0, .int .i64 0] 80)) w.heap.size 2 (fx2 x y) ∧ Row ((w.alloc (.cells #[x, y] 80)).alloc (.cells #[.int .i64 0, .int .i64 0] 80)) (w.heap.size + 1) 2 (fx2 (.int .i64 0) (.int .i64 0)) ∧ Below w.heap.size w ((w.alloc (.cells #[x, y] 80)).alloc (.cells #[.int .i64 0, .int .i64 0] 80)) :=
  ⟨Row.alloc (Row.newAt w _ _ w.heap.size 2 _ rfl (fx2_new x y)) _, Row.newAt _ _ _ (w.heap.size + 1) 2 _ (by simp) (fx2_new _ _), bAlloc (bAlloc (Below.refl _ _) _) _⟩
theorem fbelow_nums {f s st : Nat} (h1 : f + s = st) (h2 : s ≤ 256) (h3 : st ≤ 10000000) : ∃ t1 t2 : Nat, st + 1 = t1 ∧ st + 2 = t2 ∧ (t2 : Int) - 2 = (st : Int) ∧ wrap64 (st : Int) = (st : Int) ∧ IntKind.i64.wrap (st : Int) = (st : Int) ∧ (st : Int) + 1 = (t1 : Int) ∧ wrap64 (t1 : Int) = (t1 : Int) ∧ IntKind.i64.wrap (t1 : Int) = (t1 : Int) ∧ IntKind.i64.wrap (f : Int) = (f : Int) ∧ IntKind.i64.wrap (s : Int) = (s : Int) ∧ ¬ ((s + 2 : Nat) : Int) = 0 ∧ (((s + 2 : Nat) : Int) == 0) = false ∧ ((st : Int) != (st : Int)) = false ∧ wrap64 (f : Int) = (f : Int) ∧ wrap64 (s : Int) = (s : Int) :=
  ⟨st + 1, st + 2, rfl, rfl, by omega, by unfold wrap64; omega, by rw [IntKind.wrap_i64]; omega, by omega, by unfold wrap64; omega, by rw [IntKind.wrap_i64]; omega, by rw [IntKind.wrap_i64]; omega, by rw [IntKind.wrap_i64]; omega, by omega, by simp; omega, by simp, by unfold wrap64; omega, by unfold wrap64; omega⟩
section
variable {fb mb fs : Nat} {J : Nat → (Nat → Nat) → World → Prop}
set_option maxRecDepth 100000 in
set_option maxHeartbeats 2000000 in
theorem fbelow_any (K : JK fb mb fs J) (st f s t2 : Nat) (sv : Int) (h1 : f + s = st) (h2 : s ≤ 256) (h3 : st ≤ 10000000) (h4 : st + 2 = t2)
    (r0 : ∀ n R w, J n R w → Calls Try.prog 36 #[at0 mb, .int .i64 (fs : Int), .int .i64 (st : Int)] w fun e w' => ∃ R', e = .returned (.tuple #[.int .u64 (f : Int), .int .i64 0]) ∧ J (n + 1) R' w' ∧ TR R R' w w')
    (r1 : ∀ n R w, J n R w → Calls Try.prog 36 #[at0 mb, .int .i64 (fs : Int), .int .i64 ((st + 1 : Nat) : Int)] w fun e w' => ∃ R', e = .returned (.tuple #[.int .u64 (s : Int), .int .i64 0]) ∧ J (n + 1) R' w' ∧ TR R R' w w')
    (n : Nat) (R : Nat → Nat) (w : World) (j : J n R w) :
    Calls Try.prog 38 #[at0 fb, fval (t2 : Int) sv] w fun e w' => ∃ R', e = .returned (fval (f : Int) (s : Int)) ∧ J (n + 1 + 1) R' w' ∧ TR R R' w w' := by
  obtain ⟨B0, B1, BW⟩ := fbox w (.int .i64 (t2 : Int)) (.int .i64 sv)
  have J1 := K.bel _ _ _ _ j BW
  have z0 : R w.heap.size = 0 := Decidable.byContradiction fun q => by have := K.hi _ _ _ j _ q; omega
  have z1 : R (w.heap.size + 1) = 0 := Decidable.byContradiction fun q => by have := K.hi _ _ _ j _ q; omega
  have FF := fun w => fframe_any (s : Int) w
  rw [fsz_ok h2] at FF
  have FE := Lib.hid (fun w => fend_any f s st h1 (by omega) w)
  obtain ⟨t1, t2', e1, e2, n1, n2, n3, n4, n5, n6, n7, n8, n9, n10, n11, n12, n13⟩ := fbelow_nums h1 h2 h3
  obtain rfl : t2' = t2 := by omega
  rw [e1] at r1
  generalize s + 2 = s2 at FF n9 n10
  have FFh := Lib.hid FF
  have R0 := Lib.hid r0
  have R1 := Lib.hid r1
  have KH := Lib.hid K
  have TW := Lib.hid (show TR R R w _ from TR.of BW)
  obtain ⟨c0, c1⟩ := K.cel _ _ _ J1
  obtain ⟨b0, b1, bf, bl⟩ := fx2_all B0
  have J1h := Lib.hid J1
  have B0h := Lib.hid B0
  have B1h := Lib.hid B1
  have Z0 := Lib.hid z0
  have Z1 := Lib.hid z1
  clear r0 r1 K FF h1 h2 h3 h4 j e1 e2 B0 B1 BW J1 z0 z1
  go_enter Try.func38, Try.ntmps38
  go_upto_region 1 with fail
  generalize hN : w.heap.size = N at *
  generalize (w.alloc (.cells #[.int .i64 (t2' : Int), .int .i64 sv] 80)).alloc (.cells #[.int .i64 0, .int .i64 0] 80) = w1 at *
  go_upto_region 2 with fail
  have TT0 : TR R R w1 w1 := TR.refl R w1
  first
  | (
    go_region_held3 (fun w' => w'.cell? ⟨fb, 0, none⟩ = some (at0 mb) ∧ w'.cell? ⟨fb, 1, none⟩ = some (.int .i64 (fs : Int)))
      (first | (simp only [World.cell?_drew, c0, c1, and_self]; done) | (simp only [d0, d1, and_self]; done))
      (first
        | (go_at_call 36; with_reducible refine (R0.out n R _ ?_).mono ?_
           · refine KH.out.bel _ _ _ _ J1h.out ?_
             repeat (first | with_reducible exact Below.refl _ _ | with_reducible refine Below.drew ?_)
           rintro e w2 ⟨R2, rfl, J2, T2⟩
           have TT2 : TR R R2 w1 w2 := TR.trans (by repeat (first | with_reducible assumption | with_reducible refine TR.drew ?_)) T2
           obtain ⟨d0, d1⟩ := KH.out.cel _ _ _ J2)))
  | fail "held"
  all_goals
    have J2h := Lib.hid J2
    have X0 := Lib.hid (B0h.out.tr TT2 Z0.out)
    have X1 := Lib.hid (B1h.out.tr TT2 Z1.out)
    have Y0 := Lib.hid (TT2.z B0h.out.lt Z0.out)
    have Y1 := Lib.hid (TT2.z B1h.out.lt Z1.out)
    have TU := Lib.hid (TW.out.trans TT2)
    clear c0 c1 b0 b1 bf bl J1h B0h B1h Z0 Z1 TW TT0 TT2 T2 J2 R0
    go_upto_region 3 with fail
    have TT3 : TR R2 R2 w2 w2 := TR.refl R2 w2
    first
    | (
      go_region_held3 (fun w' => w'.cell? ⟨fb, 0, none⟩ = some (at0 mb) ∧ w'.cell? ⟨fb, 1, none⟩ = some (.int .i64 (fs : Int)))
        (first | (simp only [World.cell?_drew, d0, d1, and_self]; done) | (simp only [g0, g1, and_self]; done))
        (first
          | (go_at_call 36; with_reducible refine (R1.out (n + 1) R2 _ ?_).mono ?_
             · refine KH.out.bel _ _ _ _ J2h.out ?_
               repeat (first | with_reducible exact Below.refl _ _ | with_reducible refine Below.drew ?_)
             rintro e w3 ⟨R3, rfl, J3, T3⟩
             have TT4 : TR R2 R3 w2 w3 := TR.trans (by repeat (first | with_reducible assumption | with_reducible refine TR.drew ?_)) T3
             obtain ⟨g0, g1⟩ := KH.out.cel _ _ _ J3)))
    | fail "held"
    all_goals
      have J3h := Lib.hid J3
      have X2 := Lib.hid (X1.out.tr TT4 Y1.out)
      have Y2 := Lib.hid (TT4.z X1.out.lt Y1.out)
      have TV := Lib.hid (TU.out.trans TT4)
      clear d0 d1 g0 g1 X0 X1 Y0 Y1 TU TT3 TT4 T3 J3 J2h R1
      go_upto_region 5 with fail
      have A4 := fx2_all (Row.newAt w3 #[.int .i64 (f : Int), .int .i64 (s : Int)] 80 w3.heap.size 2 _ rfl (fx2_new _ _))
      have J4 := Lib.hid (KH.out.bel _ _ _ (w3.alloc (.cells #[.int .i64 (f : Int), .int .i64 (s : Int)] 80)) J3h.out (bAlloc (Below.refl _ _) _))
      have X4 := Lib.hid (X2.out.alloc (.cells #[.int .i64 (f : Int), .int .i64 (s : Int)] 80))
      have T4 := Lib.hid (TV.out.alloc (.cells #[.int .i64 (f : Int), .int .i64 (s : Int)] 80))
      have RB := Lib.hid (Row.newAt w3 #[.int .i64 (f : Int), .int .i64 (s : Int)] 80 w3.heap.size 2 _ rfl (fx2_new (.int .i64 (f : Int)) (.int .i64 (s : Int))))
      clear J3h X2 TV
      generalize w3.alloc (.cells #[.int .i64 (f : Int), .int .i64 (s : Int)] 80) = w4 at *
      generalize w3.heap.size = M at *
      obtain ⟨a0, a1, af, al⟩ := A4
      go_wp2_with fail
      with_reducible refine (FFh.out _).mono ?_
      rintro e w5 ⟨rfl, rfl⟩
      dsimp only
      go_wp2_with fail
      with_reducible refine (FE.out _).mono ?_
      rintro e w5 ⟨rfl, b5⟩
      dsimp only
      have J5 := KH.out.bel _ _ _ _ J4.out b5
      have X5 := X4.out.below b5
      have T5 := T4.out.below' b5
      have RB5 := RB.out.below b5
      have J6 := Lib.hid (KH.out.sto _ _ _ (N + 1) 0 (.int .i64 (f : Int)) J5 Y2.out)
      have J7 := Lib.hid (KH.out.sto _ _ _ (N + 1) 1 (.int .i64 (s : Int)) J6.out Y2.out)
      have T7 := Lib.hid ((T5.store (q := N + 1) (by omega) 0 (.int .i64 (f : Int))).store (q := N + 1) (by omega) 1 (.int .i64 (s : Int)))
      have X7 := Lib.hid (X5.fx2 (.int .i64 (f : Int)) (.int .i64 (s : Int)))
      obtain ⟨y0, y1, yf, yl⟩ := fx2_all X5
      clear a0 a1 af al J4 X4 T4 RB b5 J5 X5 T5 J6
      obtain ⟨a0, a1, af, al⟩ := fx2_all RB5
      clear RB5
      obtain ⟨v0, v1, vf, vl⟩ := fx2_all X7.out
      go_wp2_with fail
      exact bodyPost_ret (v := fval (f : Int) (s : Int)) (by simp [results, Try.results38, go_sem, v0, v1]) rfl ⟨_, rfl, J7.out, T7.out⟩
end
end Go.Proofs.Ytgicgaogoeihpaa
