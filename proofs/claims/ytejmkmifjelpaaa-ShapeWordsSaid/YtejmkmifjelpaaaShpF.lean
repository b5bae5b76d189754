/-
  Contracts of shape.Slot, Cell; class.Of and haymowref04.Of of a number of words; shape.Class.
-/
import Derived.Test.YtejmkmifjelpaaaShp
import Derived.Test.YtejmkmifjelpaaaCls
namespace Go.Proofs.Ytejmkmifjelpaaa
open Go.RowKit
set_option linter.unusedVariables false

set_option maxRecDepth 100000 in
theorem slot_no (p r n : Int) (h : rt p r = false ∨ n < 0 ∨ p ≤ n) (w : World) : Calls Try.prog 19 #[sh p r, .int .i64 n] w fun e w' => e = .returned (.tuple #[.int .i64 0, .int .i64 32]) ∧ Below w.heap.size w w' := by
  have C := fun w => shright_any p r w
  cases hr : rt p r
  · rw [hr] at C
    have H := Lib.hid C
    clear C h hr
    go_enter Try.func19, Try.ntmps19
    go_wp2_with (go_at_call 8; (with_reducible refine (H.out _).mono ?_); rintro e w1 ⟨rfl, hb1⟩; obtain ⟨x0, x1⟩ := ((srow_alloc w p r).below hb1).scells)
    go_ret2
    exact ⟨rfl, (by repeat (first | exact Below.refl _ _ | (with_reducible assumption) | refine bAlloc ?_ _ | refine below_drewN ?_ _ | refine Below.drew ?_ | (refine bSet ?_ (by first | (dsimp only; omega) | (simp; done) | (simp; omega)) _) | refine bTrans ?_ (by assumption)))⟩
  · rw [hr] at C
    have h := h.resolve_left (by simp [hr])
    have H := Lib.hid C
    clear C hr
    by_cases c : n < 0
    · clear h
      go_enter Try.func19, Try.ntmps19
      go_wp2_with (go_at_call 8; (with_reducible refine (H.out _).mono ?_); rintro e w1 ⟨rfl, hb1⟩; obtain ⟨x0, x1⟩ := ((srow_alloc w p r).below hb1).scells)
      go_ret2
      exact ⟨rfl, (by repeat (first | exact Below.refl _ _ | (with_reducible assumption) | refine bAlloc ?_ _ | refine below_drewN ?_ _ | refine Below.drew ?_ | (refine bSet ?_ (by first | (dsimp only; omega) | (simp; done) | (simp; omega)) _) | refine bTrans ?_ (by assumption)))⟩
    · have h := h.resolve_left c
      go_enter Try.func19, Try.ntmps19
      go_wp2_with (go_at_call 8; (with_reducible refine (H.out _).mono ?_); rintro e w1 ⟨rfl, hb1⟩; obtain ⟨x0, x1⟩ := ((srow_alloc w p r).below hb1).scells)
      go_ret2
      exact ⟨rfl, (by repeat (first | exact Below.refl _ _ | (with_reducible assumption) | refine bAlloc ?_ _ | refine below_drewN ?_ _ | refine Below.drew ?_ | (refine bSet ?_ (by first | (dsimp only; omega) | (simp; done) | (simp; omega)) _) | refine bTrans ?_ (by assumption)))⟩

set_option maxRecDepth 100000 in
theorem slot_ok (p r n : Int) (hr : rt p r = true) (h0 : 0 ≤ n) (h1 : n < p) (w : World) : Calls Try.prog 19 #[sh p r, .int .i64 n] w fun e w' => e = .returned (.tuple #[.int .i64 (1 + n), .int .i64 0]) ∧ Below w.heap.size w w' := by
  have C := fun w => shright_any p r w
  have k := rt_yes hr
  rw [hr] at C
  have H := Lib.hid C
  have s1 : IntKind.i64.wrap (1 + n) = 1 + n := by rw [IntKind.wrap_i64]; omega
  have t1 : wrap64 (1 + n) = 1 + n := by unfold wrap64; omega
  clear C hr k
  go_enter Try.func19, Try.ntmps19
  go_wp2_with (go_at_call 8; (with_reducible refine (H.out _).mono ?_); rintro e w1 ⟨rfl, hb1⟩; obtain ⟨x0, x1⟩ := ((srow_alloc w p r).below hb1).scells)
  go_ret2
  exact ⟨rfl, (by repeat (first | exact Below.refl _ _ | (with_reducible assumption) | refine bAlloc ?_ _ | refine below_drewN ?_ _ | refine Below.drew ?_ | (refine bSet ?_ (by first | (dsimp only; omega) | (simp; done) | (simp; omega)) _) | refine bTrans ?_ (by assumption)))⟩

set_option maxRecDepth 100000 in
theorem cell_no (p r n : Int) (h : rt p r = false ∨ n < 0 ∨ r ≤ n) (w : World) : Calls Try.prog 20 #[sh p r, .int .i64 n] w fun e w' => e = .returned (.tuple #[.int .i64 0, .int .i64 32]) ∧ Below w.heap.size w w' := by
  have C := fun w => shright_any p r w
  cases hr : rt p r
  · rw [hr] at C
    have H := Lib.hid C
    clear C h hr
    go_enter Try.func20, Try.ntmps20
    go_wp2_with (go_at_call 8; (with_reducible refine (H.out _).mono ?_); rintro e w1 ⟨rfl, hb1⟩; obtain ⟨x0, x1⟩ := ((srow_alloc w p r).below hb1).scells)
    go_ret2
    exact ⟨rfl, (by repeat (first | exact Below.refl _ _ | (with_reducible assumption) | refine bAlloc ?_ _ | refine below_drewN ?_ _ | refine Below.drew ?_ | (refine bSet ?_ (by first | (dsimp only; omega) | (simp; done) | (simp; omega)) _) | refine bTrans ?_ (by assumption)))⟩
  · rw [hr] at C
    have h := h.resolve_left (by simp [hr])
    have H := Lib.hid C
    clear C hr
    by_cases c : n < 0
    · clear h
      go_enter Try.func20, Try.ntmps20
      go_wp2_with (go_at_call 8; (with_reducible refine (H.out _).mono ?_); rintro e w1 ⟨rfl, hb1⟩; obtain ⟨x0, x1⟩ := ((srow_alloc w p r).below hb1).scells)
      go_ret2
      exact ⟨rfl, (by repeat (first | exact Below.refl _ _ | (with_reducible assumption) | refine bAlloc ?_ _ | refine below_drewN ?_ _ | refine Below.drew ?_ | (refine bSet ?_ (by first | (dsimp only; omega) | (simp; done) | (simp; omega)) _) | refine bTrans ?_ (by assumption)))⟩
    · have h := h.resolve_left c
      go_enter Try.func20, Try.ntmps20
      go_wp2_with (go_at_call 8; (with_reducible refine (H.out _).mono ?_); rintro e w1 ⟨rfl, hb1⟩; obtain ⟨x0, x1⟩ := ((srow_alloc w p r).below hb1).scells)
      go_ret2
      exact ⟨rfl, (by repeat (first | exact Below.refl _ _ | (with_reducible assumption) | refine bAlloc ?_ _ | refine below_drewN ?_ _ | refine Below.drew ?_ | (refine bSet ?_ (by first | (dsimp only; omega) | (simp; done) | (simp; omega)) _) | refine bTrans ?_ (by assumption)))⟩

set_option maxRecDepth 100000 in
theorem cell_ok (p r n : Int) (hr : rt p r = true) (h0 : 0 ≤ n) (h1 : n < r) (w : World) : Calls Try.prog 20 #[sh p r, .int .i64 n] w fun e w' => e = .returned (.tuple #[.int .i64 (1 + p + n), .int .i64 0]) ∧ Below w.heap.size w w' := by
  have C := fun w => shright_any p r w
  have k := rt_yes hr
  rw [hr] at C
  have H := Lib.hid C
  have s1 : IntKind.i64.wrap (1 + p) = 1 + p := by rw [IntKind.wrap_i64]; omega
  have t1 : wrap64 (1 + p) = 1 + p := by unfold wrap64; omega
  have s2 : IntKind.i64.wrap (1 + p + n) = 1 + p + n := by rw [IntKind.wrap_i64]; omega
  have t2 : wrap64 (1 + p + n) = 1 + p + n := by unfold wrap64; omega
  clear C hr k
  go_enter Try.func20, Try.ntmps20
  go_wp2_with (go_at_call 8; (with_reducible refine (H.out _).mono ?_); rintro e w1 ⟨rfl, hb1⟩; obtain ⟨x0, x1⟩ := ((srow_alloc w p r).below hb1).scells)
  go_ret2
  exact ⟨rfl, (by repeat (first | exact Below.refl _ _ | (with_reducible assumption) | refine bAlloc ?_ _ | refine below_drewN ?_ _ | refine Below.drew ?_ | (refine bSet ?_ (by first | (dsimp only; omega) | (simp; done) | (simp; omega)) _) | refine bTrans ?_ (by assumption)))⟩

/-! ### classes -/
set_option maxRecDepth 100000 in
theorem of_any (n : Int) (h2 : n ≤ 9223372036854775807) (w : World) : Calls Try.prog 24 #[.int .i64 n] w fun e w' => e = .returned (.int .i64 (cls n : Nat)) ∧ w = w' := by
  by_cases c : n ≤ 1
  · have e := cls_low c
    have E := Lib.hid e
    clear e
    go_enter Try.func24, Try.ntmps24
    go_wp2_with fail
    go_ret
    exact ⟨by rw [E.out]; rfl, rfl⟩
  · have e := cls_bits (by omega) h2
    have E := Lib.hid e
    have u : IntKind.u64.wrap (n - 1) = n - 1 := by rw [IntKind.wrap_u64]; omega
    have LN := Lib.hid (fun w => Try.bits_Len (n - 1) w (by omega) (by omega))
    clear e
    obtain ⟨b, hb⟩ : ∃ b, Lib.bitLen (n - 1).toNat = b := ⟨_, rfl⟩
    rw [hb] at E LN
    clear hb
    by_cases m : b < 13
    · rw [Nat.min_eq_left (by omega)] at E
      have m1 : min (b : Int) 13 = b := by omega
      go_enter Try.func24, Try.ntmps24
      go_wp2_with (go_at_call 26; refine (LN.out _).mono ?_; rintro e w1 ⟨rfl, rfl⟩)
      go_ret
      exact ⟨by rw [E.out]; rfl, rfl⟩
    · rw [Nat.min_eq_right (by omega)] at E
      have m1 : min (b : Int) 13 = 13 := by omega
      go_enter Try.func24, Try.ntmps24
      go_wp2_with (go_at_call 26; refine (LN.out _).mono ?_; rintro e w1 ⟨rfl, rfl⟩)
      go_ret
      exact ⟨by rw [E.out]; rfl, rfl⟩

set_option maxRecDepth 100000 in
theorem refof_any (n : Int) (w : World) : Calls Try.prog 17 #[.int .i64 n] w fun e w' => e = .returned (.int .i64 (cls n : Nat)) ∧ w = w' := by
  go_enter Try.func17, Try.ntmps17
  go_wp2_with fail
  go_loop [3, 4] (fun cv tv => ∃ c p : Nat, c ≤ 13 ∧ p = 2 ^ c ∧ p ≤ 8192 ∧ cv = .int .i64 (c : Nat) ∧ tv = .int .i64 (p : Nat) ∧ (0 < c → ((2 ^ (c - 1) : Nat) : Int) < n)) (fun cv _ => (13 - intOf cv).toNat)
  case atStart => exact ⟨0, 1, by omega, rfl, by omega, rfl, rfl, fun h => by omega⟩
  case round =>
    obtain ⟨c, p, hc, hp, hp2, rfl, rfl, hlow⟩ := hrel
    have HP := Lib.hid hp
    have HL := Lib.hid hlow
    clear hp hlow
    by_cases c1 : c < 13
    · have c2 : (c : Int) < 13 := by omega
      by_cases t1 : (p : Int) < n
      · go_wp2
        go_round
        case rel =>
          have up := pow_up (show c + 1 ≤ 13 by omega)
          have e := HP.out
          refine ⟨c + 1, p * 2, by omega, by rw [e, Nat.pow_succ], by rw [e, ← Nat.pow_succ]; exact up, by go_num, by go_num, fun _ => ?_⟩
          rw [Nat.add_sub_cancel, ← e]; exact t1
        case measure => simp [intOf]; omega
      · have E := Lib.hid (cls_of n c hc (fun _ => by rw [← HP.out]; omega) HL.out)
        go_wp2
        go_ret
        exact ⟨by rw [E.out]; rfl, rfl⟩
    · obtain rfl : c = 13 := by omega
      have E := Lib.hid (cls_of n 13 hc (fun h => by omega) HL.out)
      go_wp2
      go_ret
      exact ⟨by rw [E.out]; rfl, rfl⟩

set_option maxRecDepth 100000 in
theorem shclass_any (p r : Int) (w : World) : Calls Try.prog 16 #[sh p r] w fun e w' => e = .returned (.int .i64 (cls (wds p r : Nat) : Nat)) ∧ Below w.heap.size w w' := by
  have WO := Lib.hid (fun w => shwords_any p r w)
  have hl := wds_le p r
  generalize wds p r = n at *
  have OF := Lib.hid (fun w => of_any (n : Int) (by omega) w)
  generalize cls (n : Int) = k at *
  clear hl
  go_enter Try.func16, Try.ntmps16
  go_wp2_with (first
    | (go_at_call 10; (with_reducible refine (WO.out _).mono ?_); rintro e w1 ⟨rfl, hb1⟩)
    | (go_at_call 24; (with_reducible refine (OF.out _).mono ?_); rintro e w2 ⟨rfl, rfl⟩))
  go_ret
  exact ⟨rfl, (by repeat (first | exact Below.refl _ _ | (with_reducible assumption) | refine bAlloc ?_ _ | refine below_drewN ?_ _ | refine Below.drew ?_ | (refine bSet ?_ (by first | (dsimp only; omega) | (simp; done) | (simp; omega)) _) | refine bTrans ?_ (by assumption)))⟩

end Go.Proofs.Ytejmkmifjelpaaa
