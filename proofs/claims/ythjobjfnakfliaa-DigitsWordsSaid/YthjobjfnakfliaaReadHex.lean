/-
  Contracts of haymowref03.Hex, digits.ReadHex, haymowref03.ReadHex.
-/
import Derived.Test.YthjobjfnakfliaaHex
namespace Go.Proofs.Ythjobjfnakfliaa
open Go.RowKit
set_option linter.unusedVariables false

set_option maxHeartbeats 600000 in
set_option maxRecDepth 100000 in
theorem refhex_any (x : Nat) (hx : x < 18446744073709551616) (w : World) : Calls Try.prog 19 #[.int .u64 (x : Int)] w fun e w' => e = .returned (.string (strOfNums (htext x))) ∧ Below w.heap.size w w' := by
  have HX := Lib.hid hx
  clear hx
  go_enter Try.func19, Try.ntmps19
  go_wp2
  go_loopw [0, 3, 4] (fun z t i wr => ∃ (k y f : Nat) (s : List Int), i = .int .i64 (k : Nat) ∧ z = .int .u64 (y : Nat) ∧ t = .string (strOfNums s) ∧ f + k = 16 ∧ s.length = k ∧ y < 18446744073709551616 ∧ htext x = htextF f y ++ s ∧ Below w.heap.size w wr) (fun _ _ i _ => (16 - intOf i).toNat)
  case atStart =>
    exact ⟨0, x, 16, [], rfl, rfl, rfl, rfl, rfl, HX.out, by simp [htext], (by repeat (first | exact Below.refl _ _ | (with_reducible assumption) | refine bAlloc ?_ _ | refine below_drewN ?_ _ | refine Below.drew ?_ | (refine bSet ?_ (by first | (dsimp only; omega) | (simp; done) | (simp; omega)) _) | refine bTrans ?_ (by assumption)))⟩
  case round =>
    obtain ⟨k, y, f, s, rfl, rfl, rfl, lenI, slI, ltI, eqI, bel⟩ := hrel
    by_cases hk : k < 16
    · obtain ⟨f, rfl⟩ : ∃ g, f = g + 1 := ⟨f - 1, by omega⟩
      have em : (y : Int) % 16 = ((y % 16 : Nat) : Int) := by omega
      have eq : (y : Int) / 16 = ((y / 16 : Nat) : Int) := by omega
      have dl : y % 16 < 16 := by omega
      have nx := htext_step eqI
      have ly : y / 16 < 18446744073709551616 := by omega
      have hd : hexd (y % 16) = (if (y % 16) < 10 then 48 + ((y % 16 : Nat) : Int) else 87 + ((y % 16 : Nat) : Int)) := by
        split
        · exact hexd_lo ‹_›
        · exact hexd_hi ‹_›
      generalize y % 16 = d at *
      generalize y / 16 = q at *
      have NX := Lib.hid nx
      have sl := Lib.hid slI
      have HD := Lib.hid hd
      have sz1 : ∀ v, (strOfNums [v]).size = 1 := fun v => strOfNums_size _
      have sz2 : (strOfNums s).size ≤ 16 := by rw [strOfNums_size]; omega
      have cv := fun v => conv_one wr v
      clear eqI nx hd slI
      by_cases d9 : (9 : Int) < (d : Int)
      · have E : hexd d = 87 + (d : Int) := by rw [HD.out, if_neg (by omega)]
        go_wp2
        go_roundw
        case rel =>
          exact ⟨k + 1, q, f, hexd d :: s, by go_num, rfl, by rw [str_cons, E], by omega, by simp [sl.out], ly, NX.out, (by repeat (first | exact Below.refl _ _ | (with_reducible assumption) | refine bAlloc ?_ _ | refine below_drewN ?_ _ | refine Below.drew ?_ | (refine bSet ?_ (by first | (dsimp only; omega) | (simp; done) | (simp; omega)) _) | refine bTrans ?_ (by assumption)))⟩
        case measure => simp [intOf]; omega
      · have E : hexd d = 48 + (d : Int) := by rw [HD.out, if_pos (by omega)]
        go_wp2
        go_roundw
        case rel =>
          exact ⟨k + 1, q, f, hexd d :: s, by go_num, rfl, by rw [str_cons, E], by omega, by simp [sl.out], ly, NX.out, (by repeat (first | exact Below.refl _ _ | (with_reducible assumption) | refine bAlloc ?_ _ | refine below_drewN ?_ _ | refine Below.drew ?_ | (refine bSet ?_ (by first | (dsimp only; omega) | (simp; done) | (simp; omega)) _) | refine bTrans ?_ (by assumption)))⟩
        case measure => simp [intOf]; omega
    · obtain rfl : k = 16 := by omega
      obtain rfl : f = 0 := by omega
      have FIN := Lib.hid eqI
      clear eqI
      go_wp2
      go_ret
      exact ⟨by rw [FIN.out]; rfl, (by repeat (first | exact Below.refl _ _ | (with_reducible assumption) | refine bAlloc ?_ _ | refine below_drewN ?_ _ | refine Below.drew ?_ | (refine bSet ?_ (by first | (dsimp only; omega) | (simp; done) | (simp; omega)) _) | refine bTrans ?_ (by assumption)))⟩

end Go.Proofs.Ythjobjfnakfliaa
