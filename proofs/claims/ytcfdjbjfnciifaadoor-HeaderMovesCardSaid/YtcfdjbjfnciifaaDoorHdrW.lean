/-
  haymowlaw12.HeaderMoves, HeaderReads, walked.
-/
import Derived.Test.YtcfdjbjfnciifaaDoorHdrO
namespace Go.Proofs.YtcfdjbjfnciifaaDoor
open Go.RowKit
set_option linter.unusedVariables false

set_option maxRecDepth 100000 in
theorem moves_no (n : Int) (h : n < 0 ∨ 4194304 ≤ n) (w : World) (F : FT w) :
    Calls Tryd.prog 5 #[.int .i64 n] w fun e w' => e = .returned (.bool true) ∧ Below w.heap.size w w' := by
  have FW := Lib.hid (fun w => forward_no n h w)
  have F0 := Lib.hid F
  clear F
  rcases h with c | c
  · go_enter Tryd.func5, Tryd.ntmps5
    go_wp2_with (first
      | (go_at_call 6; (with_reducible refine (awake_any _ F0.out).mono ?_); rintro e w1 ⟨rfl, hb1⟩)
      | (go_at_call 18; (with_reducible refine (FW.out _).mono ?_); rintro e w2 ⟨rfl, hb2⟩))
    go_ret
    exact ⟨rfl, bTrans hb1 hb2⟩
  · have c0 : ¬ n < 0 := by omega
    go_enter Tryd.func5, Tryd.ntmps5
    go_wp2_with (first
      | (go_at_call 6; (with_reducible refine (awake_any _ F0.out).mono ?_); rintro e w1 ⟨rfl, hb1⟩)
      | (go_at_call 18; (with_reducible refine (FW.out _).mono ?_); rintro e w2 ⟨rfl, hb2⟩))
    go_ret
    exact ⟨rfl, bTrans hb1 hb2⟩

set_option maxRecDepth 100000 in
theorem moves_ok (n : Nat) (hn : n < 4194304) (w : World) (F : FR w) :
    Calls Tryd.prog 5 #[.int .i64 (n : Int)] w fun e w' => e = .returned (.bool true) ∧ Below w.heap.size w w' := by
  have FW := Lib.hid (fun w (F : FR w) => forward_ok n hn w F.ft)
  obtain ⟨y, hy⟩ : ∃ y, 9223372036854775808 + n = y := ⟨_, rfl⟩
  have hy64 : y < 18446744073709551616 := by omega
  have yF : isF y = true := by rw [isF_iff hy64]; exact decide_eq_true (by omega)
  have FD0 := fun w F => forwarded_any y n hy64 (by rw [yF, if_pos rfl]; omega) w F
  rw [yF] at FD0
  have FD := Lib.hid FD0
  have UN := Lib.hid (fun w (F : FR w) => unpackh_no y hy64 (isF_isH yF) w F.ft)
  have u : IntKind.u64.wrap (n : Int) = n := by rw [IntKind.wrap_u64]; omega
  have v : ∀ d : Int, d = 9223372036854775808 → IntKind.u64.wrap (d + (n : Int)) = (y : Int) := fun d hd => by rw [IntKind.wrap_u64]; omega
  rw [hy] at FW
  have c0 : ¬ (n : Int) < 0 := by omega
  have c1 : decide ((4194304 : Int) ≤ (n : Int)) = false := decide_eq_false (by omega)
  have F0 := Lib.hid F
  clear F FD0 yF hy64 hy hn
  go_enter Tryd.func5, Tryd.ntmps5
  go_wp2_with (first
    | (go_at_call 6; (with_reducible refine (awake_any _ F0.out.ft).mono ?_); rintro e w1 ⟨rfl, hb1⟩)
    | (go_at_call 18; (with_reducible refine (FW.out _ (F0.out.below hb1)).mono ?_); rintro e w2 ⟨rfl, hb2⟩)
    | (go_at_call 16; (with_reducible refine (FD.out _ ((F0.out.below hb1).below hb2)).mono ?_); rintro e w3 ⟨rfl, hb3⟩)
    | (go_at_call 10; (with_reducible refine (UN.out _ (((F0.out.below hb1).below hb2).below hb3)).mono ?_); rintro e w4 ⟨rfl, hb4⟩))
  go_ret
  exact ⟨by first | rfl | simp, bAlloc (bTrans (bTrans (bTrans hb1 hb2) hb3) hb4) _⟩

set_option maxHeartbeats 1000000 in
set_option maxRecDepth 100000 in
theorem reads_yes (x P R S A B y : Nat) (l : Bool) (hx0 : ((x : Int) == 0) = false)
    (HU : ∀ w, FR w → Calls Tryd.prog 10 #[.int .u64 (x : Int)] w fun e w' => e = .returned (.tuple #[hd P R S A l, .int .i64 0]) ∧ Below w.heap.size w w')
    (RU : ∀ w, Calls Tryd.prog 15 #[.int .u64 (x : Int)] w fun e w' => e = .returned (.tuple #[hd P R S A l, .bool true]) ∧ Below w.heap.size w w')
    (HF : ∀ w, FR w → Calls Tryd.prog 16 #[.int .u64 (x : Int)] w fun e w' => e = .returned (.tuple #[.int .i64 0, .bool false]) ∧ Below w.heap.size w w')
    (RF : ∀ w, Calls Tryd.prog 17 #[.int .u64 (x : Int)] w fun e w' => e = .returned (.tuple #[.int .i64 0, .bool false]) ∧ w = w')
    (HO : ∀ w, FR w → Calls Tryd.prog 11 #[.int .u64 (x : Int)] w fun e w' => e = .returned (.tuple #[.int .u64 (y : Int), .int .i64 0]) ∧ Below w.heap.size w w')
    (RO : ∀ w, Calls Tryd.prog 13 #[hd P R S A l] w fun e w' => e = .returned (hd P R S B l) ∧ Below w.heap.size w w')
    (RP : ∀ w, Calls Tryd.prog 12 #[hd P R S B l] w fun e w' => e = .returned (.int .u64 (y : Int)) ∧ w.alloc (hc P R S B l) = w') (w : World) (F : FR w) :
    Calls Tryd.prog 4 #[.int .u64 (x : Int)] w fun e w' => e = .returned (.bool true) ∧ Below w.heap.size w w' := by
  have XHU := Lib.hid HU
  have XRU := Lib.hid RU
  have XHF := Lib.hid HF
  have XRF := Lib.hid RF
  have XHO := Lib.hid HO
  have XRO := Lib.hid RO
  have XRP := Lib.hid RP
  have F0 := Lib.hid F
  clear HU RU HF RF HO RO RP F
  go_enter Tryd.func4, Tryd.ntmps4
  go_wp2_with (first
    | (go_at_call 6; (with_reducible refine (awake_any _ F0.out.ft).mono ?_); rintro e w1 ⟨rfl, hb1⟩; have F1 := Lib.hid (F0.out.below hb1))
    | (go_at_call 10; (with_reducible refine (XHU.out _ F1.out).mono ?_); rintro e w2 ⟨rfl, hb2⟩; have F2 := Lib.hid (F1.out.below hb2))
    | (go_at_call 15; (with_reducible refine (XRU.out _).mono ?_); rintro e w3 ⟨rfl, hb3⟩; have F3 := Lib.hid ((F2.out.alloc _).below hb3); have R3 := (hrow_alloc w2 P R S A l).below hb3)
    | (go_at_call 16; (with_reducible refine (XHF.out _ (F3.out.alloc _)).mono ?_); rintro e w4 ⟨rfl, hb4⟩; have F4 := Lib.hid ((F3.out.alloc _).below hb4); have R4 := (R3.alloc (hc P R S A l)).below hb4; have Q4 := (hrow_alloc w3 P R S A l).below hb4)
    | (go_at_call 17; (with_reducible refine (XRF.out _).mono ?_); rintro e w5 ⟨rfl, rfl⟩)
    | (go_at_call 11; (with_reducible refine (XHO.out _ F4.out).mono ?_); rintro e w6 ⟨rfl, hb6⟩; have R6 := R4.below hb6; have Q6 := Q4.below hb6; obtain ⟨x0, x1, x2, x3, x4⟩ := R6.hcells; obtain ⟨y0, y1, y2, y3, y4⟩ := Q6.hcells)
    | (go_at_call 13; (with_reducible refine (XRO.out _).mono ?_); rintro e w7 ⟨rfl, hb7⟩)
    | (go_at_call 12; (with_reducible refine (XRP.out _).mono ?_); rintro e w8 ⟨rfl, rfl⟩))
  go_ret
  exact ⟨by first | rfl | simp, bAlloc (bTrans (bTrans (bTrans (bAlloc (bTrans (bAlloc (bTrans hb1 hb2) _) hb3) _) hb4) hb6) hb7) _⟩

set_option maxHeartbeats 1000000 in
set_option maxRecDepth 100000 in
theorem reads_no (x n : Nat) (m z : Bool) (hx0 : ((x : Int) == 0) = z) (hz : z = true → m = false)
    (HU : ∀ w, FR w → Calls Tryd.prog 10 #[.int .u64 (x : Int)] w fun e w' => e = .returned (.tuple #[hd 0 0 0 0 false, .int .i64 5]) ∧ Below w.heap.size w w')
    (RU : ∀ w, Calls Tryd.prog 15 #[.int .u64 (x : Int)] w fun e w' => e = .returned (.tuple #[hd 0 0 0 0 false, .bool false]) ∧ Below w.heap.size w w')
    (HF : ∀ w, FR w → Calls Tryd.prog 16 #[.int .u64 (x : Int)] w fun e w' => e = .returned (.tuple #[.int .i64 (n : Int), .bool m]) ∧ Below w.heap.size w w')
    (RF : ∀ w, Calls Tryd.prog 17 #[.int .u64 (x : Int)] w fun e w' => e = .returned (.tuple #[.int .i64 (n : Int), .bool m]) ∧ w = w')
    (HO : ∀ w, FR w → Calls Tryd.prog 11 #[.int .u64 (x : Int)] w fun e w' => e = .returned (.tuple #[.int .u64 0, .int .i64 5]) ∧ Below w.heap.size w w') (w : World) (F : FR w) :
    Calls Tryd.prog 4 #[.int .u64 (x : Int)] w fun e w' => e = .returned (.bool true) ∧ Below w.heap.size w w' := by
  have XHU := Lib.hid HU
  have XRU := Lib.hid RU
  have XHF := Lib.hid HF
  have XRF := Lib.hid RF
  have XHO := Lib.hid HO
  have F0 := Lib.hid F
  have Z : (m = false ∧ z = false) ∨ (m = false ∧ z = true) ∨ (m = true ∧ z = false) := by
    cases m <;> cases z <;> simp at hz ⊢
  clear HU RU HF RF HO F hz
  rcases Z with ⟨rfl, rfl⟩ | ⟨rfl, rfl⟩ | ⟨rfl, rfl⟩
  all_goals
    go_enter Tryd.func4, Tryd.ntmps4
    go_wp2_with (first
      | (go_at_call 6; (with_reducible refine (awake_any _ F0.out.ft).mono ?_); rintro e w1 ⟨rfl, hb1⟩; have F1 := Lib.hid (F0.out.below hb1))
      | (go_at_call 10; (with_reducible refine (XHU.out _ F1.out).mono ?_); rintro e w2 ⟨rfl, hb2⟩; have F2 := Lib.hid (F1.out.below hb2))
      | (go_at_call 15; (with_reducible refine (XRU.out _).mono ?_); rintro e w3 ⟨rfl, hb3⟩; have F3 := Lib.hid ((F2.out.alloc _).below hb3); have R3 := (hrow_alloc w2 0 0 0 0 false).below hb3)
      | (go_at_call 16; (with_reducible refine (XHF.out _ (F3.out.alloc _)).mono ?_); rintro e w4 ⟨rfl, hb4⟩; have F4 := Lib.hid ((F3.out.alloc _).below hb4); have R4 := (R3.alloc (hc 0 0 0 0 false)).below hb4; have Q4 := (hrow_alloc w3 0 0 0 0 false).below hb4)
      | (go_at_call 17; (with_reducible refine (XRF.out _).mono ?_); rintro e w5 ⟨rfl, rfl⟩)
      | (go_at_call 11; (with_reducible refine (XHO.out _ F4.out).mono ?_); rintro e w6 ⟨rfl, hb6⟩; have R6 := R4.below hb6; have Q6 := Q4.below hb6; obtain ⟨x0, x1, x2, x3, x4⟩ := R6.hcells; obtain ⟨y0, y1, y2, y3, y4⟩ := Q6.hcells))
    go_ret
    exact ⟨by first | rfl | simp, bTrans (bTrans (bAlloc (bTrans (bAlloc (bTrans hb1 hb2) _) hb3) _) hb4) hb6⟩

theorem reads_walk (x : Nat) (hx : x < 18446744073709551616) (w : World) (F : FR w) :
    Calls Tryd.prog 4 #[.int .u64 (x : Int)] w fun e w' => e = .returned (.bool true) ∧ Below w.heap.size w w' := by
  cases h : isH x
  · obtain ⟨n, hn⟩ : ∃ n, n = if isF x then x % 4194304 else 0 := ⟨_, rfl⟩
    refine reads_no x n (isF x) _ rfl (fun z => ?_) (fun w F => unpackh_no x hx h w F.ft) (fun w => ?_) (fun w F => forwarded_any x n hx hn w F) (fun w => refforw_any x hx n hn w) (fun w F => older_no x hx h w F.ft) w F
    · have z0 : x = 0 := by simpa using z
      subst z0
      unfold isF; rfl
    · have k := refunpack_any x hx w
      rw [h] at k
      exact k
  · have f : isF x = false := by
      cases f : isF x
      · rfl
      · rw [isF_isH f] at h; cases h
    have e := hw_of hx h
    have l0 : x % 4096 < 4096 := Nat.mod_lt _ (by decide)
    have l1 : x / 4096 % 4096 < 4096 := Nat.mod_lt _ (by decide)
    have l2 : x / 16777216 % 32 < 32 := Nat.mod_lt _ (by decide)
    have l3 : x / 536870912 % 8 < 8 := Nat.mod_lt _ (by decide)
    refine reads_yes x (x % 4096) (x / 4096 % 4096) (x / 16777216 % 32) (x / 536870912 % 8) (min (x / 536870912 % 8 + 1) 7) (hw (x % 4096) (x / 4096 % 4096) (x / 16777216 % 32) (min (x / 536870912 % 8 + 1) 7) (decide (x / 4294967296 % 2 = 1))) (decide (x / 4294967296 % 2 = 1)) ?_
      (fun w F => unpackh_ok x hx h w F.ft) (fun w => ?_) (fun w F => ?_) (fun w => ?_) (fun w F => ?_) (fun w => refolder_any _ _ _ _ _ l3 w) (fun w => refpack_any _ _ _ _ _ l0 l1 l2 (by omega) w) w F
    · cases z : ((x : Int) == 0)
      · rfl
      · have z0 : x = 0 := by simpa using z
        subst z0
        unfold isH at h; exact absurd h (by decide)
    · have k := refunpack_any x hx w
      rw [h] at k
      exact k
    · have k := forwarded_any x 0 hx (by rw [f]; rfl) w F
      rw [f] at k
      exact k
    · have k := refforw_any x hx 0 (by rw [f]; rfl) w
      rw [f] at k
      exact k
    · have k := older_hw (x % 4096) (x / 4096 % 4096) (x / 16777216 % 32) (x / 536870912 % 8) (decide (x / 4294967296 % 2 = 1)) l0 l1 l2 l3 w F.ft
      rw [e] at k
      exact k

theorem moves_walk (n : Int) (w : World) (F : FR w) : Calls Tryd.prog 5 #[.int .i64 n] w fun e w' => e = .returned (.bool true) ∧ Below w.heap.size w w' := by
  by_cases h : n < 0 ∨ 4194304 ≤ n
  · exact moves_no n h w F.ft
  · obtain ⟨m, rfl⟩ : ∃ m : Nat, n = m := ⟨n.toNat, by omega⟩
    exact moves_ok m (by omega) w F

end Go.Proofs.YtcfdjbjfnciifaaDoor
