/-
  haymowlaw11.RefMakes, RefReads, RefApart, walked.
-/
import Derived.Test.YtddigkdkglojmaaRef
namespace Go.Proofs.Ytddigkdkglojmaa
open Go.RowKit
set_option linter.unusedVariables false

set_option maxHeartbeats 1000000 in
set_option maxRecDepth 100000 in
theorem makes_walk (n : Int) (A B : Nat) (e f : Int) (ok is : Bool) (w : World)
    (hs : e = 0 ∧ ok = true ∧ (∀ w, Calls Try.prog 10 #[.int .u64 (A : Int)] w fun e w' => e = .returned (.int .i64 1) ∧ w = w') ∧ (∀ w, Calls Try.prog 11 #[.int .u64 (A : Int)] w fun e w' => e = .returned (.int .i64 n) ∧ w = w') ∨ e = 2 ∧ ok = false)
    (hl : f = 0 ∧ is = true ∧ (∀ w, Calls Try.prog 10 #[.int .u64 (B : Int)] w fun e w' => e = .returned (.int .i64 2) ∧ w = w') ∧ (∀ w, Calls Try.prog 11 #[.int .u64 (B : Int)] w fun e w' => e = .returned (.int .i64 n) ∧ w = w') ∨ f = 2 ∧ is = false)
    (TS : ∀ w, Calls Try.prog 7 #[.int .i64 n] w fun x w' => x = .returned (.tuple #[.int .u64 (A : Int), .int .i64 e]) ∧ w = w')
    (TL : ∀ w, Calls Try.prog 8 #[.int .i64 n] w fun x w' => x = .returned (.tuple #[.int .u64 (B : Int), .int .i64 f]) ∧ w = w')
    (WS : ∀ w, Calls Try.prog 9 #[.int .i64 1, .int .i64 n] w fun x w' => x = .returned (.tuple #[.int .u64 (A : Int), .bool ok]) ∧ w = w')
    (WL : ∀ w, Calls Try.prog 9 #[.int .i64 2, .int .i64 n] w fun x w' => x = .returned (.tuple #[.int .u64 (B : Int), .bool is]) ∧ w = w') :
    Calls Try.prog 3 #[.int .i64 n] w fun e w' => e = .returned (.bool true) ∧ w = w' := by
  have AW := Lib.hid (fun w => awake_any w)
  have HTS := Lib.hid TS
  have HTL := Lib.hid TL
  have HWS := Lib.hid WS
  have HWL := Lib.hid WL
  clear TS TL WS WL
  rcases hs with ⟨rfl, rfl, K1, A1⟩ | ⟨rfl, rfl⟩
  · have HK1 := Lib.hid K1
    have HA1 := Lib.hid A1
    clear K1 A1
    rcases hl with ⟨rfl, rfl, K2, A2⟩ | ⟨rfl, rfl⟩
    · have HK2 := Lib.hid K2
      have HA2 := Lib.hid A2
      clear K2 A2
      go_enter Try.func3, Try.ntmps3
      go_wp2_with (first
        | (go_at_call 6; refine (AW.out _).mono ?_; rintro e w1 ⟨rfl, rfl⟩)
        | (go_at_call 7; refine (HTS.out _).mono ?_; rintro e w1 ⟨rfl, rfl⟩)
        | (go_at_call 8; refine (HTL.out _).mono ?_; rintro e w1 ⟨rfl, rfl⟩)
        | (go_at_call 9; (first | with_reducible refine (HWS.out _).mono ?_ | with_reducible refine (HWL.out _).mono ?_); rintro e w1 ⟨rfl, rfl⟩)
        | (go_at_call_of 10 (Value.int .u64 (A : Int)); refine (HK1.out _).mono ?_; rintro e w1 ⟨rfl, rfl⟩)
        | (go_at_call_of 10 (Value.int .u64 (B : Int)); refine (HK2.out _).mono ?_; rintro e w1 ⟨rfl, rfl⟩)
        | (go_at_call_of 11 (Value.int .u64 (A : Int)); refine (HA1.out _).mono ?_; rintro e w1 ⟨rfl, rfl⟩)
        | (go_at_call_of 11 (Value.int .u64 (B : Int)); refine (HA2.out _).mono ?_; rintro e w1 ⟨rfl, rfl⟩))
      go_ret
      exact ⟨rfl, rfl⟩
    · go_enter Try.func3, Try.ntmps3
      go_wp2_with (first
        | (go_at_call 6; refine (AW.out _).mono ?_; rintro e w1 ⟨rfl, rfl⟩)
        | (go_at_call 7; refine (HTS.out _).mono ?_; rintro e w1 ⟨rfl, rfl⟩)
        | (go_at_call 8; refine (HTL.out _).mono ?_; rintro e w1 ⟨rfl, rfl⟩)
        | (go_at_call 9; (first | with_reducible refine (HWS.out _).mono ?_ | with_reducible refine (HWL.out _).mono ?_); rintro e w1 ⟨rfl, rfl⟩)
        | (go_at_call_of 10 (Value.int .u64 (A : Int)); refine (HK1.out _).mono ?_; rintro e w1 ⟨rfl, rfl⟩)
        | (go_at_call_of 11 (Value.int .u64 (A : Int)); refine (HA1.out _).mono ?_; rintro e w1 ⟨rfl, rfl⟩))
      go_ret
      exact ⟨rfl, rfl⟩
  · rcases hl with ⟨rfl, rfl, K2, A2⟩ | ⟨rfl, rfl⟩
    · have HK2 := Lib.hid K2
      have HA2 := Lib.hid A2
      clear K2 A2
      go_enter Try.func3, Try.ntmps3
      go_wp2_with (first
        | (go_at_call 6; refine (AW.out _).mono ?_; rintro e w1 ⟨rfl, rfl⟩)
        | (go_at_call 7; refine (HTS.out _).mono ?_; rintro e w1 ⟨rfl, rfl⟩)
        | (go_at_call 8; refine (HTL.out _).mono ?_; rintro e w1 ⟨rfl, rfl⟩)
        | (go_at_call 9; (first | with_reducible refine (HWS.out _).mono ?_ | with_reducible refine (HWL.out _).mono ?_); rintro e w1 ⟨rfl, rfl⟩)
        | (go_at_call_of 10 (Value.int .u64 (B : Int)); refine (HK2.out _).mono ?_; rintro e w1 ⟨rfl, rfl⟩)
        | (go_at_call_of 11 (Value.int .u64 (B : Int)); refine (HA2.out _).mono ?_; rintro e w1 ⟨rfl, rfl⟩))
      go_ret
      exact ⟨rfl, rfl⟩
    · go_enter Try.func3, Try.ntmps3
      go_wp2_with (first
        | (go_at_call 6; refine (AW.out _).mono ?_; rintro e w1 ⟨rfl, rfl⟩)
        | (go_at_call 7; refine (HTS.out _).mono ?_; rintro e w1 ⟨rfl, rfl⟩)
        | (go_at_call 8; refine (HTL.out _).mono ?_; rintro e w1 ⟨rfl, rfl⟩)
        | (go_at_call 9; (first | with_reducible refine (HWS.out _).mono ?_ | with_reducible refine (HWL.out _).mono ?_); rintro e w1 ⟨rfl, rfl⟩))
      go_ret
      exact ⟨rfl, rfl⟩

set_option maxHeartbeats 1000000 in
set_option maxRecDepth 100000 in
theorem reads_walk (x : Nat) (hx : x < 18446744073709551616) (w : World) : Calls Try.prog 4 #[.int .u64 (x : Int)] w fun e w' => e = .returned (.bool true) ∧ w = w' := by
  have AW := Lib.hid (fun w => awake_any w)
  have RD := Lib.hid (fun w => read_any x hx w)
  have KA := Lib.hid (fun w => kind_any x hx w)
  have AA := Lib.hid (fun w => at_any x hx w)
  by_cases k : kd x = 3
  · have OF := Lib.hid (fun w => of_no x hx k w)
    rw [k] at RD KA
    clear hx k
    generalize nr x = y at *
    go_enter Try.func4, Try.ntmps4
    go_wp2_with (first
      | (go_at_call 6; refine (AW.out _).mono ?_; rintro e w1 ⟨rfl, rfl⟩)
      | (go_at_call 12; refine (RD.out _).mono ?_; rintro e w1 ⟨rfl, rfl⟩)
      | (go_at_call 13; refine (OF.out _).mono ?_; rintro e w1 ⟨rfl, rfl⟩)
      | (go_at_call 10; refine (KA.out _).mono ?_; rintro e w1 ⟨rfl, rfl⟩)
      | (go_at_call 11; refine (AA.out _).mono ?_; rintro e w1 ⟨rfl, rfl⟩))
    go_ret
    exact ⟨rfl, rfl⟩
  · have OF := Lib.hid (fun w => of_ok x hx k w)
    have t : (((kd x : Nat) : Int) == 3) = false := by simp; omega
    have kw : IntKind.i64.wrap ((kd x : Nat) : Int) = ((kd x : Nat) : Int) := by have := kd_le x; rw [IntKind.wrap_i64]; omega
    clear hx k
    generalize nr x = y at *
    generalize kd x = k at *
    go_enter Try.func4, Try.ntmps4
    go_wp2_with (first
      | (go_at_call 6; refine (AW.out _).mono ?_; rintro e w1 ⟨rfl, rfl⟩)
      | (go_at_call 12; refine (RD.out _).mono ?_; rintro e w1 ⟨rfl, rfl⟩)
      | (go_at_call 13; refine (OF.out _).mono ?_; rintro e w1 ⟨rfl, rfl⟩)
      | (go_at_call 10; refine (KA.out _).mono ?_; rintro e w1 ⟨rfl, rfl⟩)
      | (go_at_call 11; refine (AA.out _).mono ?_; rintro e w1 ⟨rfl, rfl⟩))
    go_ret
    exact ⟨by first | rfl | simp, rfl⟩

set_option maxHeartbeats 4000000 in
set_option maxRecDepth 100000 in
theorem apart_walk (n m : Int) (A B C D : Nat) (e f g h : Int) (t : Bool) (w : World) (ht : (n == m) = t)
    (he : e = 0 ∨ e = 2) (hf : f = 0 ∨ f = 2) (hg : g = 0 ∨ g = 2) (hh : h = 0 ∨ h = 2)
    (ab : e = 0 → f = 0 → ((A : Int) == (B : Int)) = t) (cd : g = 0 → h = 0 → ((C : Int) == (D : Int)) = t)
    (ad : e = 0 → h = 0 → ((A : Int) != (D : Int)) = true) (cb : g = 0 → f = 0 → ((C : Int) != (B : Int)) = true)
    (a0 : e = 0 → ((A : Int) != 0) = true) (c0 : g = 0 → ((C : Int) != 0) = true)
    (TA : ∀ w, Calls Try.prog 7 #[.int .i64 n] w fun x w' => x = .returned (.tuple #[.int .u64 (A : Int), .int .i64 e]) ∧ w = w')
    (TB : ∀ w, Calls Try.prog 7 #[.int .i64 m] w fun x w' => x = .returned (.tuple #[.int .u64 (B : Int), .int .i64 f]) ∧ w = w')
    (TC : ∀ w, Calls Try.prog 8 #[.int .i64 n] w fun x w' => x = .returned (.tuple #[.int .u64 (C : Int), .int .i64 g]) ∧ w = w')
    (TD : ∀ w, Calls Try.prog 8 #[.int .i64 m] w fun x w' => x = .returned (.tuple #[.int .u64 (D : Int), .int .i64 h]) ∧ w = w') :
    Calls Try.prog 5 #[.int .i64 n, .int .i64 m] w fun e w' => e = .returned (.bool true) ∧ w = w' := by
  have AW := Lib.hid (fun w => awake_any w)
  have HA := Lib.hid TA
  have HB := Lib.hid TB
  have HC := Lib.hid TC
  have HD := Lib.hid TD
  clear TA TB TC TD
  rcases he with rfl | rfl <;> rcases hf with rfl | rfl <;> rcases hg with rfl | rfl <;> rcases hh with rfl | rfl <;> cases t
  all_goals
    first | (have u1 := ab rfl rfl; have u1' := Lib.hid u1) | skip
    first | have u2 := cd rfl rfl | skip
    first | have u3 := ad rfl rfl | skip
    first | have u4 := cb rfl rfl | skip
    first | have u5 := a0 rfl | skip
    first | have u6 := c0 rfl | skip
    clear ab cd ad cb a0 c0
    go_enter Try.func5, Try.ntmps5
    go_wp2_with (first
      | (go_at_call 6; refine (AW.out _).mono ?_; rintro e w1 ⟨rfl, rfl⟩)
      | (go_at_call 7; (first | with_reducible refine (HA.out _).mono ?_ | with_reducible refine (HB.out _).mono ?_); rintro e w1 ⟨rfl, rfl⟩)
      | (go_at_call 8; (first | with_reducible refine (HC.out _).mono ?_ | with_reducible refine (HD.out _).mono ?_); rintro e w1 ⟨rfl, rfl⟩))
    go_ret
    exact ⟨by first | rfl | simp [*], rfl⟩

end Go.Proofs.Ytddigkdkglojmaa
