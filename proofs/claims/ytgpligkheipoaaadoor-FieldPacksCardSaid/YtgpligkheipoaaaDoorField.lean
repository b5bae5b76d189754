/-
  Contracts of package field: Right, Mask, Get, Put, Ones.
-/
import Derived.Test.YtgpligkheipoaaaDoorKit02
import Derived.Test.YtgpligkheipoaaaDoorRow
import Derived.Test.YtgpligkheipoaaaDoorShelf
import Derived.Laws.BitsAllLaws
import Derived.LoopTactic
import Derived.Deep.QuietTactic
import Derived.BigQuiet
import Derived.WalkSmall
import Derived.Deep.RegionWith
import Derived.Deep.RegionHeld3
namespace Go.Proofs.YtgpligkheipoaaaDoor
open Go.RowKit
set_option linter.unusedVariables false

/-- A field as the program has it. -/
abbrev fl (a s : Int) : Value := .agg #[.int .i64 a, .int .i64 s]
theorem right_any (a s : Int) (hm : a ≤ 9223372036854775807) (w : World) : Calls Tryd.prog 10 #[fl a s] w fun e w' => e = .returned (.bool (rightB a s)) ∧ w.alloc (.cells #[.int .i64 a, .int .i64 s] 24) = w' := by
  by_cases h3 : 0 ≤ a
  · by_cases h1 : 1 ≤ s
    · by_cases h4 : s ≤ 64 - a
      · have e : rightB a s = true := by unfold rightB; exact decide_eq_true (by omega)
        rw [e]
        clear e
        have ha : a ≤ 64 := by omega
        go_enter Tryd.func10, Tryd.ntmps10
        go_wp2_with fail
        go_ret
        exact ⟨rfl, rfl⟩
      · have e : rightB a s = false := by unfold rightB; exact decide_eq_false (by omega)
        rw [e]
        clear e
        have h5 : 64 - a < s := by omega
        go_enter Tryd.func10, Tryd.ntmps10
        go_wp2_with fail
        go_ret
        exact ⟨rfl, rfl⟩
    · have e : rightB a s = false := by unfold rightB; exact decide_eq_false (by omega)
      have h5 : s < 1 := by omega
      rw [e]
      clear e h1
      go_enter Tryd.func10, Tryd.ntmps10
      go_wp2_with fail
      go_ret
      exact ⟨rfl, rfl⟩
  · have e : rightB a s = false := by unfold rightB; exact decide_eq_false (by omega)
    have h5 : a < 0 := by omega
    rw [e]
    clear e h3
    go_enter Tryd.func10, Tryd.ntmps10
    go_wp2_with fail
    go_ret
    exact ⟨rfl, rfl⟩

theorem ret_i {k : IntKind} {a b : Int} (h : a = b) : Ending.returned (.int k a) = .returned (.int k b) := by rw [h]
theorem mask_int {a s : Nat} (h1 : 1 ≤ s) (h2 : a + s ≤ 64) : IntKind.u64.wrap ((18446744073709551615 : Int) / 2 ^ (64 - s) * 2 ^ a) = (maskv a s : Int) := by
  have e : (18446744073709551615 : Int) / 2 ^ (64 - s) * 2 ^ a = ((18446744073709551615 / 2 ^ (64 - s) * 2 ^ a : Nat) : Int) := by simp
  have e2 : 18446744073709551615 / 2 ^ (64 - s) * 2 ^ a = maskv a s := by rw [ones_shr h1 (by omega)]; unfold maskv; rfl
  rw [e, e2]
  exact wrap_nat _ (maskv_lt h2)
theorem mask_any (a s : Nat) (h1 : 1 ≤ s) (h2 : a + s ≤ 64) (w : World) : Calls Tryd.prog 11 #[fl a s] w fun e w' => e = .returned (.int .u64 (maskv a s : Int)) ∧ Below w.heap.size w w' := by
  have hr := Lib.hid (right_of h1 h2)
  have hm := Lib.hid (mask_int h1 h2)
  go_enter Tryd.func11, Tryd.ntmps11
  go_wp2_with (go_at_call 10; refine (right_any _ _ (by omega) _).mono ?_; rw [hr.out]; rintro e w1 ⟨rfl, rfl⟩)
  go_quiet (fail)
  go_wp2_with fail
  go_ret
  exact ⟨ret_i hm.out, (by repeat (first | exact Below.refl _ _ | (with_reducible assumption) | refine bAlloc ?_ _ | refine below_drewN ?_ _ | refine Below.drew ?_ | (refine bSet ?_ (by first | (dsimp only; omega) | (simp; done) | (simp; omega)) _) | refine bTrans ?_ (by assumption)))⟩
theorem mask_bad (a s : Int) (hm : a ≤ 9223372036854775807) (h : rightB a s = false) (w : World) : Calls Tryd.prog 11 #[fl a s] w fun e w' => e = .returned (.int .u64 0) ∧ Below w.heap.size w w' := by
  have hr := Lib.hid h
  clear h
  go_enter Tryd.func11, Tryd.ntmps11
  go_wp2_with (go_at_call 10; refine (right_any _ _ hm _).mono ?_; rw [hr.out]; rintro e w1 ⟨rfl, rfl⟩)
  go_ret
  exact ⟨rfl, (by repeat (first | exact Below.refl _ _ | (with_reducible assumption) | refine bAlloc ?_ _ | refine below_drewN ?_ _ | refine Below.drew ?_ | (refine bSet ?_ (by first | (dsimp only; omega) | (simp; done) | (simp; omega)) _) | refine bTrans ?_ (by assumption)))⟩
theorem ones_any (x : Nat) (hx : x < 18446744073709551616) (w : World) : Calls Tryd.prog 14 #[.int .u64 (x : Int)] w fun e w' => e = .returned (.int .i64 (popv x : Int)) ∧ w = w' := by
  go_enter Tryd.func14, Tryd.ntmps14
  go_wp2_with (go_at_call 26; refine (ones64_any x hx _).mono ?_; rintro e w1 ⟨rfl, rfl⟩)
  go_ret
  exact ⟨rfl, rfl⟩
theorem get_bad (x a s : Int) (hm : a ≤ 9223372036854775807) (h : rightB a s = false) (w : World) : Calls Tryd.prog 12 #[.int .u64 x, fl a s] w fun e w' => e = .returned (.int .u64 0) ∧ Below w.heap.size w w' := by
  have hr := Lib.hid h
  clear h
  go_enter Tryd.func12, Tryd.ntmps12
  go_wp2_with (go_at_call 10; refine (right_any _ _ hm _).mono ?_; rw [hr.out]; rintro e w1 ⟨rfl, rfl⟩)
  go_ret
  exact ⟨rfl, (by repeat (first | exact Below.refl _ _ | (with_reducible assumption) | refine bAlloc ?_ _ | refine below_drewN ?_ _ | refine Below.drew ?_ | (refine bSet ?_ (by first | (dsimp only; omega) | (simp; done) | (simp; omega)) _) | refine bTrans ?_ (by assumption)))⟩
theorem get_int {x a s : Nat} (hx : x < 18446744073709551616) (h2 : a + s ≤ 64) : bits BinOp.and IntKind.u64 (x : Int) (maskv a s : Int) / 2 ^ a = (getv x a s : Int) := by
  rw [bits_and_u64_nat x _ hx (maskv_lt h2), ← and_maskv]; simp
set_option maxRecDepth 100000 in
theorem get_any (x a s : Nat) (hx : x < 18446744073709551616) (h1 : 1 ≤ s) (h2 : a + s ≤ 64) (w : World) : Calls Tryd.prog 12 #[.int .u64 (x : Int), fl a s] w fun e w' => e = .returned (.int .u64 (getv x a s : Int)) ∧ Below w.heap.size w w' := by
  have hr := Lib.hid (right_of h1 h2)
  have hg := Lib.hid (get_int hx h2)
  have MA := Lib.hid (fun w => mask_any a s h1 h2 w)
  have HL := Lib.hid (maskv_lt h2)
  go_enter Tryd.func12, Tryd.ntmps12
  go_wp2_with (go_at_call 10; refine (right_any _ _ (by omega) _).mono ?_; rw [hr.out]; rintro e w1 ⟨rfl, rfl⟩)
  go_region_held3 (fun w' => w'.cell? ⟨w.heap.size, 0, none⟩ = some (.int .i64 (a : Int)) ∧ w'.cell? ⟨w.heap.size, 1, none⟩ = some (.int .i64 (s : Int))) (first | (simp [go_sem, World.cell?_alloc_past]; done) | (simp only [c0, c1, and_self]; done))
    (first | (go_at_call 11; (with_reducible refine (MA.out _).mono ?_); rintro e w2 ⟨rfl, hb2⟩; have c0 : w2.cell? ⟨w.heap.size, 0, none⟩ = some (.int .i64 (a : Int)) := (hb2.cell (p := ⟨w.heap.size, 0, none⟩) (by simp; omega)).trans (by simp [World.cell?_alloc_past]); have c1 : w2.cell? ⟨w.heap.size, 1, none⟩ = some (.int .i64 (s : Int)) := (hb2.cell (p := ⟨w.heap.size, 1, none⟩) (by simp; omega)).trans (by simp [World.cell?_alloc_past])))
  all_goals
    go_wp2_with fail
    go_ret
    exact ⟨ret_i hg.out, (by repeat (first | exact Below.refl _ _ | (with_reducible assumption) | refine bAlloc ?_ _ | refine below_drewN ?_ _ | refine Below.drew ?_ | (refine bSet ?_ (by first | (dsimp only; omega) | (simp; done) | (simp; omega)) _) | refine bTrans ?_ (by assumption)))⟩

/-! ### Put -/
theorem put_arg (x a s n : Int) (hm : a ≤ 9223372036854775807) (h : rightB a s = false) (w : World) : Calls Tryd.prog 8 #[.int .u64 x, fl a s, .int .u64 n] w fun e w' => e = .returned (.tuple #[.int .u64 0, .int .i64 1]) ∧ Below w.heap.size w w' := by
  have hr := Lib.hid h
  clear h
  go_enter Tryd.func8, Tryd.ntmps8
  go_wp2_with (go_at_call 10; refine (right_any _ _ hm _).mono ?_; rw [hr.out]; rintro e w1 ⟨rfl, rfl⟩)
  go_ret2
  exact ⟨rfl, (by repeat (first | exact Below.refl _ _ | (with_reducible assumption) | refine bAlloc ?_ _ | refine below_drewN ?_ _ | refine Below.drew ?_ | (refine bSet ?_ (by first | (dsimp only; omega) | (simp; done) | (simp; omega)) _) | refine bTrans ?_ (by assumption)))⟩
theorem bitLenAux_le_iff : ∀ (f n s : Nat), n < 2 ^ f → (Lib.bitLenAux f n ≤ s ↔ n < 2 ^ s)
  | 0, n, s, h => by
    have h0 : n = 0 := by simpa using h
    subst h0
    simp [Lib.bitLenAux, Nat.two_pow_pos]
  | f + 1, n, s, h => by
    unfold Lib.bitLenAux
    by_cases c : n = 0
    · subst c; simp [Nat.two_pow_pos]
    · rw [if_neg c]
      have ih := bitLenAux_le_iff f (n / 2)
      cases s with
      | zero => simp; omega
      | succ s =>
        have hi := ih s (by rw [Nat.pow_succ] at h; omega)
        rw [Nat.pow_succ]
        constructor
        · intro k; have := hi.1 (by omega); omega
        · intro k; have := hi.2 (by omega); omega
theorem bitLen_fits {n s : Nat} (hn : n < 18446744073709551616) (h : n < 2 ^ s) : Lib.bitLen n ≤ s := (bitLenAux_le_iff 64 n s hn).2 h
theorem bitLen_not {n s : Nat} (hn : n < 18446744073709551616) (h : ¬ n < 2 ^ s) : s < Lib.bitLen n := by
  have := mt (bitLenAux_le_iff 64 n s hn).1 h
  unfold Lib.bitLen; omega
theorem len_any (n : Nat) (hn : n < 18446744073709551616) (w : World) : Calls Tryd.prog 23 #[.int .u64 (n : Int)] w fun e w' => e = .returned (.int .i64 (Lib.bitLen n : Int)) ∧ w' = w := by
  have h := Tryd.bits_Len64 (n : Int) w (by omega) (by omega)
  simpa using h
theorem put_range (x : Int) (a s n : Nat) (hn : n < 18446744073709551616) (h1 : 1 ≤ s) (h2 : a + s ≤ 64) (h : ¬ n < 2 ^ s) (w : World) :
    Calls Tryd.prog 8 #[.int .u64 x, fl a s, .int .u64 (n : Int)] w fun e w' => e = .returned (.tuple #[.int .u64 0, .int .i64 2]) ∧ Below w.heap.size w w' := by
  have hr := Lib.hid (right_of h1 h2)
  have LA := Lib.hid (fun w => len_any n hn w)
  have hl := bitLen_not hn h
  generalize Lib.bitLen n = L at *
  clear h hn
  go_enter Tryd.func8, Tryd.ntmps8
  go_wp2_with (go_at_call 10; refine (right_any _ _ (by omega) _).mono ?_; rw [hr.out]; rintro e w1 ⟨rfl, rfl⟩)
  go_quiet ((go_at_call 23; exact Calls.quiet_of_same (LA.out _)))
  go_wp2_with fail
  go_ret2
  exact ⟨rfl, (by repeat (first | exact Below.refl _ _ | (with_reducible assumption) | refine bAlloc ?_ _ | refine below_drewN ?_ _ | refine Below.drew ?_ | (refine bSet ?_ (by first | (dsimp only; omega) | (simp; done) | (simp; omega)) _) | refine bTrans ?_ (by assumption)))⟩
theorem put_int {x a s n : Nat} (hx : x < 18446744073709551616) (hn : n < 2 ^ s) (h2 : a + s ≤ 64) :
    bits BinOp.or IntKind.u64 (bits BinOp.andNot IntKind.u64 (x : Int) (maskv a s : Int)) (IntKind.u64.wrap ((n : Int) * 2 ^ a)) = (putv x a s n : Int) := by
  have hm := maskv_lt h2
  have hs : n * 2 ^ a < 18446744073709551616 := by
    have : n * 2 ^ a < 2 ^ s * 2 ^ a := Nat.mul_lt_mul_of_pos_right hn (Nat.two_pow_pos a)
    rw [← Nat.pow_add, Nat.add_comm] at this
    exact Nat.lt_of_lt_of_le this (Nat.pow_le_pow_right (n := 2) (by decide) h2)
  have e1 : IntKind.u64.wrap ((n : Int) * 2 ^ a) = ((n * 2 ^ a : Nat) : Int) := by
    rw [show ((n : Int) * 2 ^ a) = ((n * 2 ^ a : Nat) : Int) by simp]; exact wrap_nat _ hs
  have e2 : bits BinOp.andNot IntKind.u64 (x : Int) (maskv a s : Int) = ((x &&& (18446744073709551615 - maskv a s) : Nat) : Int) := by
    rw [u64_andNot _ _ (by omega) (by omega) (by omega) (by omega)]; simp
  rw [e1, e2, bits_or_u64_nat _ _ (Nat.lt_of_le_of_lt Nat.and_le_left hx) hs, putv_of_bits hn h2 _ rfl]
set_option maxRecDepth 100000 in
theorem put_any (x a s n : Nat) (hx : x < 18446744073709551616) (hn : n < 2 ^ s) (h1 : 1 ≤ s) (h2 : a + s ≤ 64) (w : World) :
    Calls Tryd.prog 8 #[.int .u64 (x : Int), fl a s, .int .u64 (n : Int)] w fun e w' => e = .returned (.tuple #[.int .u64 (putv x a s n : Int), .int .i64 0]) ∧ Below w.heap.size w w' := by
  have hr := Lib.hid (right_of h1 h2)
  have hn64 : n < 18446744073709551616 := Nat.lt_of_lt_of_le hn (Nat.pow_le_pow_right (n := 2) (by decide) (show s ≤ 64 by omega))
  have LA := Lib.hid (fun w => len_any n hn64 w)
  have MA := Lib.hid (fun w => mask_any a s h1 h2 w)
  have hg := Lib.hid (put_int hx hn h2)
  have hl := bitLen_fits hn64 hn
  generalize Lib.bitLen n = L at *
  clear hn
  go_enter Tryd.func8, Tryd.ntmps8
  go_wp2_with (go_at_call 10; refine (right_any _ _ (by omega) _).mono ?_; rw [hr.out]; rintro e w1 ⟨rfl, rfl⟩)
  go_quiet ((go_at_call 23; exact Calls.quiet_of_same (LA.out _)))
  go_wp2_with fail
  go_region_held3 (fun w' => w'.cell? ⟨w.heap.size, 0, none⟩ = some (.int .i64 (a : Int)) ∧ w'.cell? ⟨w.heap.size, 1, none⟩ = some (.int .i64 (s : Int))) (first | (simp [go_sem, World.cell?_alloc_past]; done) | (simp only [c0, c1, and_self]; done))
    (first | (go_at_call 11; (with_reducible refine (MA.out _).mono ?_); rintro e w2 ⟨rfl, hb2⟩; have c0 : w2.cell? ⟨w.heap.size, 0, none⟩ = some (.int .i64 (a : Int)) := (hb2.cell (p := ⟨w.heap.size, 0, none⟩) (by simp; omega)).trans (by simp [World.cell?_alloc_past]); have c1 : w2.cell? ⟨w.heap.size, 1, none⟩ = some (.int .i64 (s : Int)) := (hb2.cell (p := ⟨w.heap.size, 1, none⟩) (by simp; omega)).trans (by simp [World.cell?_alloc_past])))
  all_goals
    go_wp2_with fail
    go_ret2
    exact ⟨by rw [← hg.out]; rfl, (by repeat (first | exact Below.refl _ _ | (with_reducible assumption) | refine bAlloc ?_ _ | refine below_drewN ?_ _ | refine Below.drew ?_ | (refine bSet ?_ (by first | (dsimp only; omega) | (simp; done) | (simp; omega)) _) | refine bTrans ?_ (by assumption)))⟩
end Go.Proofs.YtgpligkheipoaaaDoor
