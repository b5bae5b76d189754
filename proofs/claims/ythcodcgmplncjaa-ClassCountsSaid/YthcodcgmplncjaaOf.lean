/-
  Contracts of class.Of, haymowref04.Of, class.Bounds, haymowref04.Top, haymowref04.Bounds.
-/
import Derived.Test.YthcodcgmplncjaaText
import Derived.Test.YthcodcgmplncjaaCls
import Derived.Test.YthcodcgmplncjaaShelf
namespace Go.Proofs.Ythcodcgmplncjaa
open Go.RowKit
set_option linter.unusedVariables false

set_option maxRecDepth 100000 in
theorem of_any (n : Int) (hn : Whole n) (w : World) : Calls Try.prog 9 #[.int .i64 n] w fun e w' => e = .returned (.int .i64 (cls n : Nat)) ∧ w = w' := by
  obtain ⟨h1, h2⟩ := hn
  by_cases c : n ≤ 1
  · have e := cls_low c
    have E := Lib.hid e
    clear e
    go_enter Try.func9, Try.ntmps9
    go_wp2_with fail
    go_ret
    exact ⟨by rw [E.out]; rfl, rfl⟩
  · have e := cls_bits (by omega) h2
    have E := Lib.hid e
    have u : IntKind.u64.wrap (n - 1) = n - 1 := by rw [IntKind.wrap_u64]; omega
    have LN := Lib.hid (fun w => Try.bits_Len (n - 1) w (by omega) (by omega))
    clear e
    obtain ⟨b, hb⟩ : ∃ b, Lib.bitLen (n - 1).toNat = b := ⟨_, rfl⟩
    rw [hb] at E LN
    clear hb
    by_cases m : b < 13
    · rw [Nat.min_eq_left (by omega)] at E
      have m1 : min (b : Int) 13 = b := by omega
      go_enter Try.func9, Try.ntmps9
      go_wp2_with (go_at_call 17; refine (LN.out _).mono ?_; rintro e w1 ⟨rfl, rfl⟩)
      go_ret
      exact ⟨by rw [E.out]; rfl, rfl⟩
    · rw [Nat.min_eq_right (by omega)] at E
      have m1 : min (b : Int) 13 = 13 := by omega
      go_enter Try.func9, Try.ntmps9
      go_wp2_with (go_at_call 17; refine (LN.out _).mono ?_; rintro e w1 ⟨rfl, rfl⟩)
      go_ret
      exact ⟨by rw [E.out]; rfl, rfl⟩

set_option maxRecDepth 100000 in
theorem refof_any (n : Int) (w : World) : Calls Try.prog 10 #[.int .i64 n] w fun e w' => e = .returned (.int .i64 (cls n : Nat)) ∧ w = w' := by
  go_enter Try.func10, Try.ntmps10
  go_wp2_with fail
  go_loop [3, 4] (fun cv tv => ∃ c p : Nat, c ≤ 13 ∧ p = 2 ^ c ∧ p ≤ 8192 ∧ cv = .int .i64 (c : Nat) ∧ tv = .int .i64 (p : Nat) ∧ (0 < c → ((2 ^ (c - 1) : Nat) : Int) < n)) (fun cv _ => (13 - intOf cv).toNat)
  case atStart => exact ⟨0, 1, by omega, rfl, by omega, rfl, rfl, fun h => by omega⟩
  case round =>
    obtain ⟨c, p, hc, hp, hp2, rfl, rfl, hlow⟩ := hrel
    have HP := Lib.hid hp
    have HL := Lib.hid hlow
    clear hp hlow
    by_cases c1 : c < 13
    · have c2 : (c : Int) < 13 := by omega
      by_cases t1 : (p : Int) < n
      · go_wp2
        go_round
        case rel =>
          have up := pow_up (show c + 1 ≤ 13 by omega)
          have e := HP.out
          refine ⟨c + 1, p * 2, by omega, by rw [e, Nat.pow_succ], by rw [e, ← Nat.pow_succ]; exact up, by go_num, by go_num, fun _ => ?_⟩
          rw [Nat.add_sub_cancel, ← e]; exact t1
        case measure => simp [intOf]; omega
      · have E := Lib.hid (cls_of n c hc (fun _ => by rw [← HP.out]; omega) HL.out)
        go_wp2
        go_ret
        exact ⟨by rw [E.out]; rfl, rfl⟩
    · obtain rfl : c = 13 := by omega
      have E := Lib.hid (cls_of n 13 hc (fun h => by omega) HL.out)
      go_wp2
      go_ret
      exact ⟨by rw [E.out]; rfl, rfl⟩

set_option maxRecDepth 100000 in
theorem top_any (c : Nat) (hc : c ≤ 13) (w : World) : Calls Try.prog 16 #[.int .i64 (c : Nat)] w fun e w' => e = .returned (.int .i64 (2 ^ c : Nat)) ∧ w = w' := by
  go_enter Try.func16, Try.ntmps16
  go_wp2_with fail
  go_loop [3, 4] (fun nv iv => ∃ i p : Nat, i ≤ c ∧ p = 2 ^ i ∧ p ≤ 8192 ∧ iv = .int .i64 (i : Nat) ∧ nv = .int .i64 (p : Nat)) (fun _ iv => c - (intOf iv).toNat)
  case atStart => exact ⟨0, 1, by omega, rfl, by omega, rfl, rfl⟩
  case round =>
    obtain ⟨i, p, hi, hp, hp2, rfl, rfl⟩ := hrel
    have HP := Lib.hid hp
    clear hp
    by_cases l : i < c
    · have l2 : (i : Int) < (c : Int) := by omega
      go_wp2
      go_round
      case rel =>
        have up := pow_up (show i + 1 ≤ 13 by omega)
        have e := HP.out
        exact ⟨i + 1, p * 2, by omega, by rw [e, Nat.pow_succ], by rw [e, ← Nat.pow_succ]; exact up, by go_num, by go_num⟩
      case measure => simp [intOf]; omega
    · obtain rfl : i = c := by omega
      go_wp2
      go_ret
      exact ⟨by rw [HP.out]; rfl, rfl⟩

/-- is there such a class? -/
def isCls (c : Int) : Prop := 0 ≤ c ∧ c ≤ 13
set_option maxRecDepth 100000 in
theorem bounds_is (c : Nat) (hc : c ≤ 13) (w : World) : Calls Try.prog 7 #[.int .i64 (c : Nat)] w fun e w' => e = .returned (.tuple #[.int .i64 (blo c : Nat), .int .i64 (bhi c : Nat), .bool true]) ∧ w = w' := by
  have e1 : bhi c = 2 ^ c := by unfold bhi; rfl
  have e2 : blo c = 2 ^ c / 2 + 1 := by unfold blo; rfl
  rcases fourteen hc with rfl | rfl | rfl | rfl | rfl | rfl | rfl | rfl | rfl | rfl | rfl | rfl | rfl | rfl
  all_goals
    have E1 := Lib.hid e1
    have E2 := Lib.hid e2
    clear e1 e2 hc
    go_enter Try.func7, Try.ntmps7
    go_wp2_with fail
    go_ret3
    exact ⟨by rw [E1.out, E2.out]; rfl, rfl⟩
set_option maxRecDepth 100000 in
theorem refbounds_is (c : Nat) (hc : c ≤ 13) (w : World) : Calls Try.prog 8 #[.int .i64 (c : Nat)] w fun e w' => e = .returned (.tuple #[.int .i64 (blo c : Nat), .int .i64 (bhi c : Nat), .bool true]) ∧ w = w' := by
  have e1 : bhi c = 2 ^ c := by unfold bhi; rfl
  have e2 : blo c = 2 ^ c / 2 + 1 := by unfold blo; rfl
  cases c with
  | zero =>
    have E1 := Lib.hid e1
    have E2 := Lib.hid e2
    clear e1 e2 hc
    go_enter Try.func8, Try.ntmps8
    go_wp2_with fail
    go_ret3
    exact ⟨by rw [E1.out, E2.out]; rfl, rfl⟩
  | succ c =>
    have e3 : blo (c + 1) = 2 ^ c + 1 := by rw [e2, Nat.pow_succ, Nat.mul_div_cancel _ (by decide)]
    have E1 := Lib.hid e1
    have E3 := Lib.hid e3
    have T1 := Lib.hid (fun w => top_any c (by omega) w)
    have T2 := Lib.hid (fun w => top_any (c + 1) hc w)
    have p1 := pow_up (show c ≤ 13 by omega)
    simp at p1
    clear e1 e2 e3
    generalize 2 ^ c = p at *
    generalize 2 ^ (c + 1) = q at *
    obtain ⟨d, hd⟩ : ∃ d, c + 1 = d := ⟨_, rfl⟩
    rw [hd] at E1 E3 T2 hc ⊢
    have d0 : (0 : Int) < (d : Int) := by omega
    have cz : ((d : Int) == 0) = false := by simp; omega
    have cm : (d : Int) - 1 = (c : Int) := by omega
    clear hd
    go_enter Try.func8, Try.ntmps8
    go_wp2_with (first
      | (go_at_call_of 16 (Value.int .i64 ((c : Nat) : Int)); refine (T1.out _).mono ?_; rintro e w1 ⟨rfl, rfl⟩)
      | (go_at_call_of 16 (Value.int .i64 ((d : Nat) : Int)); refine (T2.out _).mono ?_; rintro e w1 ⟨rfl, rfl⟩))
    go_ret3
    exact ⟨by rw [E1.out, E3.out]; first | rfl | go_num, rfl⟩
set_option maxRecDepth 100000 in
theorem bounds_no (c : Int) (hc : ¬ (0 ≤ c ∧ c ≤ 13)) (w : World) : Calls Try.prog 7 #[.int .i64 c] w fun e w' => e = .returned (.tuple #[.int .i64 0, .int .i64 0, .bool false]) ∧ w = w' := by
  by_cases c0 : c < 0
  all_goals
    have c1 := Lib.hid hc
    have c2 : ¬ c < 0 → 13 < c := by omega
    first | (have c3 : 13 < c := c2 c0; clear hc c2) | clear hc c2
    go_enter Try.func7, Try.ntmps7
    go_wp2_with fail
    go_ret3
    exact ⟨rfl, rfl⟩
set_option maxRecDepth 100000 in
theorem refbounds_no (c : Int) (hc : ¬ (0 ≤ c ∧ c ≤ 13)) (w : World) : Calls Try.prog 8 #[.int .i64 c] w fun e w' => e = .returned (.tuple #[.int .i64 0, .int .i64 0, .bool false]) ∧ w = w' := by
  by_cases c0 : c < 0
  all_goals
    have c1 := Lib.hid hc
    have c2 : ¬ c < 0 → 13 < c := by omega
    first | (have c3 : 13 < c := c2 c0; clear hc c2) | clear hc c2
    go_enter Try.func8, Try.ntmps8
    go_wp2_with fail
    go_ret3
    exact ⟨rfl, rfl⟩

end Go.Proofs.Ythcodcgmplncjaa
