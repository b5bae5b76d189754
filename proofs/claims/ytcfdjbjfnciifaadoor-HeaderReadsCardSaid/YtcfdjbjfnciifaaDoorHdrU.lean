/-
  haymowref12.Unpack: the header that a word is, if it is one.
-/
import Derived.Test.YtcfdjbjfnciifaaDoorHdr
namespace Go.Proofs.YtcfdjbjfnciifaaDoor
open Go.RowKit
set_option linter.unusedVariables false

set_option maxRecDepth 100000 in
theorem refunpack_walk (x X1 X2 X3 X4 P R S A L y : Nat) (l b : Bool) (w : World)
    (r0 : ∀ d : Int, d = 4096 → (x : Int) % d = (P : Int)) (q1 : ∀ d : Int, d = 4096 → (x : Int) / d = (X1 : Int)) (r1 : ∀ d : Int, d = 4096 → (X1 : Int) % d = (R : Int)) (q2 : ∀ d : Int, d = 16777216 → (x : Int) / d = (X2 : Int)) (r2 : ∀ d : Int, d = 32 → (X2 : Int) % d = (S : Int)) (q3 : ∀ d : Int, d = 536870912 → (x : Int) / d = (X3 : Int)) (r3 : ∀ d : Int, d = 8 → (X3 : Int) % d = (A : Int)) (q4 : ∀ d : Int, d = 4294967296 → (x : Int) / d = (X4 : Int)) (r4 : ∀ d : Int, d = 2 → (X4 : Int) % d = (L : Int)) (r5 : ((L : Int) == 1) = l)
    (u1 : IntKind.u64.wrap (X1 : Int) = (X1 : Int)) (u2 : IntKind.u64.wrap (X2 : Int) = (X2 : Int)) (u3 : IntKind.u64.wrap (X3 : Int) = (X3 : Int)) (u4 : IntKind.u64.wrap (X4 : Int) = (X4 : Int))
    (v0 : IntKind.u64.wrap (P : Int) = (P : Int)) (v1 : IntKind.u64.wrap (R : Int) = (R : Int)) (v2 : IntKind.u64.wrap (S : Int) = (S : Int)) (v3 : IntKind.u64.wrap (A : Int) = (A : Int)) (v4 : IntKind.u64.wrap (L : Int) = (L : Int))
    (i0 : IntKind.i64.wrap (P : Int) = (P : Int)) (i1 : IntKind.i64.wrap (R : Int) = (R : Int)) (i2 : IntKind.i64.wrap (S : Int) = (S : Int)) (i3 : IntKind.i64.wrap (A : Int) = (A : Int))
    (j0 : wrap64 (P : Int) = (P : Int)) (j1 : wrap64 (R : Int) = (R : Int)) (j2 : wrap64 (S : Int) = (S : Int)) (j3 : wrap64 (A : Int) = (A : Int))
    (ht : ((y : Int) != (x : Int)) = !b)
    (PK : Hid (∀ w, Calls Tryd.prog 12 #[hd P R S A l] w fun e w' => e = .returned (.int .u64 (y : Int)) ∧ w.alloc (hc P R S A l) = w')) :
    Calls Tryd.prog 15 #[.int .u64 (x : Int)] w fun e w' => e = .returned (.tuple #[if b then hd P R S A l else hd 0 0 0 0 false, .bool b]) ∧ Below w.heap.size w w' := by
  cases b
  · have t : ((y : Int) != (x : Int)) = true := ht
    clear ht
    go_enter Tryd.func15, Tryd.ntmps15
    go_wp2_with (go_at_call 12; with_reducible refine (PK.out _).mono ?_; rintro e w1 ⟨rfl, rfl⟩)
    exact bodyPost_ret (v := .tuple #[hd 0 0 0 0 false, .bool false]) (by simp [results, Tryd.results15, go_sem]) rfl ⟨rfl, (by repeat (first | exact Below.refl _ _ | (with_reducible assumption) | refine bAlloc ?_ _ | refine below_drewN ?_ _ | refine Below.drew ?_ | (refine bSet ?_ (by first | (dsimp only; omega) | (simp; done) | (simp; omega)) _) | refine bTrans ?_ (by assumption)))⟩
  · have t : ((y : Int) != (x : Int)) = false := ht
    clear ht
    go_enter Tryd.func15, Tryd.ntmps15
    go_wp2_with (go_at_call 12; with_reducible refine (PK.out _).mono ?_; rintro e w1 ⟨rfl, rfl⟩)
    exact bodyPost_ret (v := .tuple #[hd P R S A l, .bool true]) (by simp [results, Tryd.results15, go_sem]) rfl ⟨rfl, (by repeat (first | exact Below.refl _ _ | (with_reducible assumption) | refine bAlloc ?_ _ | refine below_drewN ?_ _ | refine Below.drew ?_ | (refine bSet ?_ (by first | (dsimp only; omega) | (simp; done) | (simp; omega)) _) | refine bTrans ?_ (by assumption)))⟩

theorem wu {n : Nat} (h : n < 18446744073709551616) : IntKind.u64.wrap (n : Int) = (n : Int) := by rw [IntKind.wrap_u64]; omega
theorem wi {n : Nat} (h : n < 4096) : IntKind.i64.wrap (n : Int) = (n : Int) := by rw [IntKind.wrap_i64]; omega
theorem wj {n : Nat} (h : n < 4096) : wrap64 (n : Int) = (n : Int) := by unfold wrap64; omega
theorem isone (n : Nat) : ((n : Int) == 1) = decide (n = 1) := by rw [Bool.eq_iff_iff]; simp; omega
theorem refunpack_any (x : Nat) (hx : x < 18446744073709551616) (w : World) :
    Calls Tryd.prog 15 #[.int .u64 (x : Int)] w fun e w' => e = .returned (.tuple #[if isH x then hd (x % 4096 : Nat) (x / 4096 % 4096 : Nat) (x / 16777216 % 32 : Nat) (x / 536870912 % 8 : Nat) (decide (x / 4294967296 % 2 = 1)) else hd 0 0 0 0 false, .bool (isH x)]) ∧ Below w.heap.size w w' := by
  have lt : ∀ d m, x / d % m < 18446744073709551616 := fun d m => Nat.lt_of_le_of_lt (Nat.mod_le _ _) (Nat.lt_of_le_of_lt (Nat.div_le_self _ _) hx)
  have ld : ∀ d, x / d < 18446744073709551616 := fun d => Nat.lt_of_le_of_lt (Nat.div_le_self _ _) hx
  have l0 : x % 4096 < 4096 := Nat.mod_lt _ (by decide)
  have l1 : x / 4096 % 4096 < 4096 := Nat.mod_lt _ (by decide)
  have l2 : x / 16777216 % 32 < 32 := Nat.mod_lt _ (by decide)
  have l3 : x / 536870912 % 8 < 8 := Nat.mod_lt _ (by decide)
  refine refunpack_walk x (x / 4096) (x / 16777216) (x / 536870912) (x / 4294967296) (x % 4096) (x / 4096 % 4096) (x / 16777216 % 32) (x / 536870912 % 8) (x / 4294967296 % 2)
    (hw (x % 4096) (x / 4096 % 4096) (x / 16777216 % 32) (x / 536870912 % 8) (decide (x / 4294967296 % 2 = 1))) (decide (x / 4294967296 % 2 = 1)) (isH x) w
    (fun _ h => by rw [h]; rfl) (fun _ h => by rw [h]; rfl) (fun _ h => by rw [h]; rfl) (fun _ h => by rw [h]; rfl) (fun _ h => by rw [h]; rfl) (fun _ h => by rw [h]; rfl) (fun _ h => by rw [h]; rfl) (fun _ h => by rw [h]; rfl) (fun _ h => by rw [h]; rfl) (isone _) (wu (ld _)) (wu (ld _)) (wu (ld _)) (wu (ld _))
    (wu (Nat.lt_of_le_of_lt (Nat.mod_le _ _) hx)) (wu (lt _ _)) (wu (lt _ _)) (wu (lt _ _)) (wu (lt _ _)) (wi l0) (wi l1) (wi (Nat.lt_trans l2 (by decide))) (wi (Nat.lt_trans l3 (by decide))) (wj l0) (wj l1) (wj (Nat.lt_trans l2 (by decide))) (wj (Nat.lt_trans l3 (by decide))) ?_
    (Lib.hid fun w => refpack_any _ _ _ _ _ l0 l1 l2 l3 w)
  cases h : isH x
  · exact ne_nat (hw_not hx h)
  · exact eq_nat (hw_of hx h)

end Go.Proofs.YtcfdjbjfnciifaaDoor
