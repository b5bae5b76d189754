/-
  haymowlaw02.FieldKeeps, walked.
-/
import Derived.Test.YtgpligkheipoaaaDoorApart
namespace Go.Proofs.YtgpligkheipoaaaDoor
open Go.RowKit
set_option linter.unusedVariables false

theorem getv_putv {x a s n : Nat} (hn : n < 2 ^ s) (h : a + s ≤ 64) : getv (putv x a s n) a s = n := by
  apply Nat.eq_of_testBit_eq
  intro j
  rw [testBit_getv]
  unfold putv putf
  rw [testBit_wordOf]
  by_cases c : j < s
  · rw [if_pos (by omega), show a + j - a = j by omega]
    simp [c, show a + j < 64 by omega]
  · have hz : n.testBit j = false := Nat.testBit_lt_two_pow (Nat.lt_of_lt_of_le hn (Nat.pow_le_pow_right (n := 2) (by decide) (by omega)))
    simp [c, hz]
theorem getv_putv_apart {x a s n b t : Nat} (h : b + t ≤ 64) (hd : maskv a s &&& maskv b t = 0) : getv (putv x a s n) b t = getv x b t := by
  apply Nat.eq_of_testBit_eq
  intro j
  rw [testBit_getv, testBit_getv]
  unfold putv putf
  rw [testBit_wordOf]
  by_cases c : j < t
  · have e : (maskv a s &&& maskv b t).testBit (b + j) = false := by rw [hd]; simp
    rw [Nat.testBit_and, testBit_maskv, testBit_maskv] at e
    have e2 : ¬ (a ≤ b + j ∧ b + j < a + s) := fun k => by
      rw [decide_eq_true k, decide_eq_true (show b ≤ b + j ∧ b + j < b + t by omega)] at e; cases e
    rw [if_neg e2]
    simp [show b + j < 64 by omega]
  · simp [c]
theorem xor_putv {x a s n : Nat} (hx : x < 18446744073709551616) (h : a + s ≤ 64) : (putv x a s n ^^^ x) &&& (18446744073709551615 - maskv a s) = 0 := by
  apply Nat.eq_of_testBit_eq
  intro j
  have hM := maskv_lt h
  rw [Nat.testBit_and, Nat.testBit_xor, show 18446744073709551615 - maskv a s = 2 ^ 64 - (maskv a s + 1) by omega, Nat.testBit_two_pow_sub_succ (by omega), testBit_maskv]
  unfold putv putf
  rw [testBit_wordOf]
  by_cases c : a ≤ j ∧ j < a + s
  · simp [c]
  · rw [if_neg c]
    by_cases c2 : j < 64
    · simp [c2]
    · simp [c2]
theorem apart_one (a s : Int) : apFrom 0 [(a, s)] = rightB a s := by unfold apFrom; simp [apFrom]
theorem apart_two {a s b t : Int} (h : apFrom 0 [(a, s), (b, t)] = true) : rightB a s = true ∧ rightB b t = true ∧ maskv a.toNat s.toNat &&& maskv b.toNat t.toNat = 0 := by
  simp only [apFrom, Nat.zero_or, Nat.zero_and, Bool.and_eq_true, decide_eq_true_eq] at h
  exact ⟨h.1.1, h.2.1.1, h.2.1.2⟩
theorem flist_one (w : World) (a s : Int) (hm : a ≤ 9223372036854775807) : FList (w.alloc (.cells #[.int .i64 a, .int .i64 s] 24)) (.slice (some ⟨w.heap.size, 0, none⟩) 1 1) [(a, s)] := by
  refine ⟨_, _, rfl, by simp, by simpa using hm, .inr ⟨w.heap.size, 0, rfl, by simp, fun i x hx => ?_⟩⟩
  match i, hx with
  | 0, hx => simp at hx; subst hx; simp
theorem flist_two (w : World) (a s b t : Int) (hm : a ≤ 9223372036854775807) (hb : b ≤ 9223372036854775807) : FList (w.alloc (.cells #[.int .i64 a, .int .i64 s, .int .i64 b, .int .i64 t] 24)) (.slice (some ⟨w.heap.size, 0, none⟩) 2 2) [(a, s), (b, t)] := by
  refine ⟨_, _, rfl, by simp, by simpa using ⟨hm, hb⟩, .inr ⟨w.heap.size, 0, rfl, by simp, fun i x hx => ?_⟩⟩
  match i, hx with
  | 0, hx => simp at hx; subst hx; simp
  | 1, hx => simp at hx; subst hx; simp

theorem FList.drew {w : World} {v : Value} {F : List (Int × Int)} (h : FList w v F) : FList w.drew v F := h
/-- two fields' four cells -/
def krow (a s b t : Int) (j : Nat) : Value := if j = 0 then .int .i64 a else if j = 1 then .int .i64 s else if j = 2 then .int .i64 b else .int .i64 t
theorem krow_new (a s b t : Int) (j : Nat) (hj : j < 4) : (#[Value.int .i64 a, .int .i64 s, .int .i64 b, .int .i64 t] : Array Value)[j]? = some (krow a s b t j) := by
  have h : j = 0 ∨ j = 1 ∨ j = 2 ∨ j = 3 := by omega
  rcases h with rfl | rfl | rfl | rfl <;> simp [krow]
theorem Row.kcells {w : World} {g : Nat} {a s b t : Int} (h : Row w g 4 (krow a s b t)) : w.cell? ⟨g, 0, none⟩ = some (.int .i64 a) ∧ w.cell? ⟨g, 1, none⟩ = some (.int .i64 s) ∧ w.cell? ⟨g, 2, none⟩ = some (.int .i64 b) ∧ w.cell? ⟨g, 3, none⟩ = some (.int .i64 t) :=
  ⟨h.cell 0 (by omega), h.cell 1 (by omega), h.cell 2 (by omega), h.cell 3 (by omega)⟩
abbrev kv (a s b t : Int) : Value := .agg #[.int .i64 a, .int .i64 s, .int .i64 b, .int .i64 t]

set_option maxRecDepth 100000 in
set_option maxHeartbeats 1000000 in
theorem keeps_bad (x n a s b t : Int) (hm : a ≤ 9223372036854775807) (hb : b ≤ 9223372036854775807) (h : apFrom 0 [(a, s), (b, t)] = false) (w : World) (hT : Tab w) :
    Calls Tryd.prog 4 #[.int .u64 x, kv a s b t, .int .u64 n] w fun e w' => e = .returned (.bool true) ∧ Below w.heap.size w w' := by
  have hT0 : Tab (w.alloc (.cells #[.int .i64 a, .int .i64 s, .int .i64 b, .int .i64 t] 39)) := hT.below ((Below.refl _ _).alloc (Nat.le_refl _) _)
  have R0 : Row (w.alloc (.cells #[.int .i64 a, .int .i64 s, .int .i64 b, .int .i64 t] 39)) w.heap.size 4 (krow a s b t) := Row.new w _ _ 4 _ (krow_new a s b t)
  have RR := Lib.hid (fun w => refright_any a s w)
  have A2 := fun w h => apart_any (.slice (some ⟨w, 0, none⟩) 2 2) [(a, s), (b, t)] h
  have A1 := fun w h => apart_any (.slice (some ⟨w, 0, none⟩) 1 1) [(a, s)] h
  rw [h] at A2
  rw [apart_one] at A1
  have A2' := Lib.hid A2
  have A1' := Lib.hid A1
  clear A1 A2 h
  generalize rightB a s = r at *
  go_enter Tryd.func4, Tryd.ntmps4
  go_wp2_with (first
    | (go_at_call 7; refine (awake_any _ hT0).mono ?_; rintro e w1 ⟨rfl, hb1⟩; have R1 := R0.below hb1; obtain ⟨c10, c11, c12, c13⟩ := R1.kcells)
    | (go_at_call 17; refine (A2'.out _ _ (flist_two _ a s b t hm hb)).mono ?_; rintro e w2 ⟨rfl, hb2⟩; have R2 : Row w2 w.heap.size 4 (krow a s b t) := Row.below (by repeat (first | assumption | refine Row.alloc ?_ _)) hb2; obtain ⟨c20, c21, c22, c23⟩ := R2.kcells))
  have q0 := fun o => (R2.alloc o).kcells.1
  have q1 := fun o => (R2.alloc o).kcells.2.1
  first
  | (
    go_region_held3 (fun w' => w'.cell? ⟨w.heap.size, 0, none⟩ = some (.int .i64 (a : Int)) ∧ w'.cell? ⟨w.heap.size, 1, none⟩ = some (.int .i64 (s : Int))) (first | (simp only [World.cell?_drew, c20, c21, and_self]; done) | (simp only [k0, k1, and_self]; done) | (simp only [World.cell?_drew, q0, q1, and_self]; done))
      (first
        | (go_at_call 17; (with_reducible refine (A1'.out _ _ (by first | exact flist_one _ a s hm | exact (flist_one _ a s hm).drew)).mono ?_); rintro e v1 ⟨rfl, kb1⟩; have T1 : Row v1 w.heap.size 4 (krow a s b t) := Row.below (by repeat (first | assumption | refine Row.alloc ?_ _ | refine Row.drewN ?_ _ | refine Row.drew ?_)) kb1; obtain ⟨k0, k1, k2, k3⟩ := T1.kcells)
        | (go_at_call 9; (with_reducible refine (RR.out _).mono ?_); rintro e v2 ⟨rfl, rfl⟩))
    )
  | fail "held"
  all_goals
    go_wp2_with fail
    go_ret
    exact ⟨by simp, (by repeat (first | exact Below.refl _ _ | (with_reducible assumption) | refine bAlloc ?_ _ | refine below_drewN ?_ _ | refine Below.drew ?_ | (refine bSet ?_ (by first | (dsimp only; omega) | (simp; done) | (simp; omega)) _) | refine bTrans ?_ (by assumption)))⟩

theorem and_low {n a s : Nat} : n &&& (maskv a s / 2 ^ a) = n % 2 ^ s := by
  have e : maskv a s / 2 ^ a = 2 ^ s - 1 := by unfold maskv; exact Nat.mul_div_cancel _ (Nat.two_pow_pos a)
  rw [e, Nat.and_two_pow_sub_one_eq_mod]
theorem keep_and {n a s : Nat} (hn : n < 18446744073709551616) (h : a + s ≤ 64) : bits BinOp.and IntKind.u64 (n : Int) ((maskv a s : Int) / 2 ^ a) = ((n % 2 ^ s : Nat) : Int) := by
  have e : (maskv a s : Int) / 2 ^ a = ((maskv a s / 2 ^ a : Nat) : Int) := by simp
  rw [e, bits_and_u64_nat n _ hn (Nat.lt_of_le_of_lt (Nat.div_le_self _ _) (maskv_lt h)), and_low]
theorem keep_xor {x a s n : Nat} (hx : x < 18446744073709551616) (h : a + s ≤ 64) : bits BinOp.andNot IntKind.u64 (bits BinOp.xor IntKind.u64 (putv x a s n : Int) (x : Int)) (maskv a s : Int) = 0 := by
  have hp := putv_lt x a s n
  have hm := maskv_lt h
  have hxx : putv x a s n ^^^ x < 18446744073709551616 := Nat.xor_lt_two_pow (n := 64) hp hx
  rw [bits_xor_u64_nat _ _ hp hx, u64_andNot _ _ (by omega) (by omega) (by omega) (by omega)]
  simp only [Int.toNat_natCast]
  rw [xor_putv hx h]; rfl

set_option maxRecDepth 100000 in
set_option maxHeartbeats 2000000 in
theorem keeps_good (x n a s b t : Nat) (hx : x < 18446744073709551616) (hn : n < 18446744073709551616) (h1 : 1 ≤ s) (h2 : a + s ≤ 64) (h3 : 1 ≤ t) (h4 : b + t ≤ 64) (hd : maskv a s &&& maskv b t = 0)
    (h : apFrom 0 [((a : Int), (s : Int)), ((b : Int), (t : Int))] = true) (w : World) (hT : Tab w) :
    Calls Tryd.prog 4 #[.int .u64 (x : Int), kv a s b t, .int .u64 (n : Int)] w fun e w' => e = .returned (.bool true) ∧ Below w.heap.size w w' := by
  have hT0 : Tab (w.alloc (.cells #[.int .i64 (a : Int), .int .i64 (s : Int), .int .i64 (b : Int), .int .i64 (t : Int)] 39)) := hT.below ((Below.refl _ _).alloc (Nat.le_refl _) _)
  have R0 : Row (w.alloc (.cells #[.int .i64 (a : Int), .int .i64 (s : Int), .int .i64 (b : Int), .int .i64 (t : Int)] 39)) w.heap.size 4 (krow a s b t) := Row.new w _ _ 4 _ (krow_new a s b t)
  have hm : (a : Int) ≤ 9223372036854775807 := by omega
  have hb : (b : Int) ≤ 9223372036854775807 := by omega
  have A2 := fun w h => apart_any (.slice (some ⟨w, 0, none⟩) 2 2) [((a : Int), (s : Int)), ((b : Int), (t : Int))] h
  rw [h] at A2
  have hn2 : n % 2 ^ s < 2 ^ s := Nat.mod_lt _ (Nat.two_pow_pos s)
  have MA := fun w => mask_any a s h1 h2 w
  have PA := fun w => put_any x a s (n % 2 ^ s) hx hn2 h1 h2 w
  have G1 := fun w => get_any (putv x a s (n % 2 ^ s)) a s (putv_lt _ _ _ _) h1 h2 w
  have G2 := fun w => get_any (putv x a s (n % 2 ^ s)) b t (putv_lt _ _ _ _) h3 h4 w
  have G3 := fun w => get_any x b t hx h3 h4 w
  rw [getv_putv hn2 h2] at G1
  rw [getv_putv_apart h4 hd] at G2
  have ka := keep_and (a := a) (s := s) hn h2
  have kx := keep_xor (n := n % 2 ^ s) hx h2
  have hwa : IntKind.u64.wrap (a : Int) = (a : Int) := wrap_nat a (by omega)
  have A2' := Lib.hid A2; have MA' := Lib.hid MA; have PA' := Lib.hid PA; have G1' := Lib.hid G1; have G2' := Lib.hid G2; have G3' := Lib.hid G3
  clear A2 MA PA G1 G2 G3 hd h hn2
  generalize putv x a s (n % 2 ^ s) = p at *
  generalize n % 2 ^ s = n2 at *
  generalize getv x b t = g at *
  generalize maskv a s = m at *
  have KA := Lib.hid ka
  have KX := Lib.hid kx
  clear ka kx
  go_enter Tryd.func4, Tryd.ntmps4
  go_wp2_with (first
    | (go_at_call 7; refine (awake_any _ hT0).mono ?_; rintro e w1 ⟨rfl, hb1⟩; have R1 := R0.below hb1; obtain ⟨c10, c11, c12, c13⟩ := R1.kcells)
    | (go_at_call 17; refine (A2'.out _ _ (flist_two _ a s b t hm hb)).mono ?_; rintro e w2 ⟨rfl, hb2⟩; have R2 : Row w2 w.heap.size 4 (krow a s b t) := Row.below (by repeat (first | assumption | refine Row.alloc ?_ _)) hb2; obtain ⟨c20, c21, c22, c23⟩ := R2.kcells))
  have bw2 : Below w.heap.size w w2 := (by repeat (first | exact Below.refl _ _ | (with_reducible assumption) | refine bAlloc ?_ _ | refine below_drewN ?_ _ | refine Below.drew ?_ | (refine bSet ?_ (by first | (dsimp only; omega) | (simp; done) | (simp; omega)) _) | refine bTrans ?_ (by assumption)))
  clear c10 c11 c12 c13 hb1 hb2 R1 R0 hT0
  first
  | (
    go_region_held3 (fun w' => w'.cell? ⟨w.heap.size, 0, none⟩ = some (.int .i64 (a : Int)) ∧ w'.cell? ⟨w.heap.size, 1, none⟩ = some (.int .i64 (s : Int))) (first | (simp only [World.cell?_drew, c20, c21, and_self]; done) | (simp only [k0, k1, and_self]; done))
      (first
        | (go_at_call 11; (with_reducible refine (MA'.out _).mono ?_); rintro e v1 ⟨rfl, kb1⟩; have T1 : Row v1 w.heap.size 4 (krow a s b t) := Row.below (by repeat (first | assumption | refine Row.drewN ?_ _ | refine Row.drew ?_)) kb1; obtain ⟨k0, k1, k2, k3⟩ := T1.kcells))
    )
  | fail "held"
  all_goals
    rw [KA.out]
    have bv1 : Below w.heap.size w v1 := (by repeat (first | exact Below.refl _ _ | (with_reducible assumption) | refine bAlloc ?_ _ | refine below_drewN ?_ _ | refine Below.drew ?_ | (refine bSet ?_ (by first | (dsimp only; omega) | (simp; done) | (simp; omega)) _) | refine bTrans ?_ (by assumption)))
    clear kb1 bw2 c20 c21 c22 c23 R2
    go_wp2_with (first
      | (go_at_call 8; refine (PA'.out _).mono ?_; rintro e w3 ⟨rfl, hb3⟩; have R3 : Row w3 w.heap.size 4 (krow a s b t) := Row.below (by repeat (first | assumption | refine Row.drewN ?_ _ | refine Row.drew ?_)) hb3; obtain ⟨c30, c31, c32, c33⟩ := R3.kcells))
    have bw3 : Below w.heap.size w w3 := (by repeat (first | exact Below.refl _ _ | (with_reducible assumption) | refine bAlloc ?_ _ | refine below_drewN ?_ _ | refine Below.drew ?_ | (refine bSet ?_ (by first | (dsimp only; omega) | (simp; done) | (simp; omega)) _) | refine bTrans ?_ (by assumption)))
    have kx := KX.out
    clear bv1 hb3 T1 k0 k1 k2 k3 KA
    first
    | (
      go_region_held3 (fun w' => w'.cell? ⟨w.heap.size, 0, none⟩ = some (.int .i64 (a : Int)) ∧ w'.cell? ⟨w.heap.size, 1, none⟩ = some (.int .i64 (s : Int)) ∧ w'.cell? ⟨w.heap.size, 2, none⟩ = some (.int .i64 (b : Int)) ∧ w'.cell? ⟨w.heap.size, 3, none⟩ = some (.int .i64 (t : Int)))
        (first | (simp only [World.cell?_drew, c30, c31, c32, c33, and_self]; done) | (simp only [k0, k1, k2, k3, and_self]; done))
        (first
          | (go_at_call 11; (with_reducible refine (MA'.out _).mono ?_); rintro e v4 ⟨rfl, kb4⟩; have T4 : Row v4 w.heap.size 4 (krow a s b t) := Row.below (by repeat (first | assumption | refine Row.drewN ?_ _ | refine Row.drew ?_)) kb4; obtain ⟨k0, k1, k2, k3⟩ := T4.kcells)
          | (go_at_call 12; (with_reducible refine (G1'.out _).mono ?_); rintro e v5 ⟨rfl, kb5⟩; have T5 : Row v5 w.heap.size 4 (krow a s b t) := Row.below (by repeat (first | assumption | refine Row.drewN ?_ _ | refine Row.drew ?_)) kb5; obtain ⟨k0, k1, k2, k3⟩ := T5.kcells)
          | (go_at_call 12; (with_reducible refine (G2'.out _).mono ?_); rintro e v6 ⟨rfl, kb6⟩; have T6 : Row v6 w.heap.size 4 (krow a s b t) := Row.below (by repeat (first | assumption | refine Row.drewN ?_ _ | refine Row.drew ?_)) kb6; obtain ⟨k0, k1, k2, k3⟩ := T6.kcells)
          | (go_at_call 12; (with_reducible refine (G3'.out _).mono ?_); rintro e v7 ⟨rfl, kb7⟩; have T7 : Row v7 w.heap.size 4 (krow a s b t) := Row.below (by repeat (first | assumption | refine Row.drewN ?_ _ | refine Row.drew ?_)) kb7; obtain ⟨k0, k1, k2, k3⟩ := T7.kcells))
      )
    | fail "held2"
    all_goals
      clear kx
      go_wp2_with fail
      go_ret
      exact ⟨rfl, (by repeat (first | exact Below.refl _ _ | (with_reducible assumption) | refine bAlloc ?_ _ | refine below_drewN ?_ _ | refine Below.drew ?_ | (refine bSet ?_ (by first | (dsimp only; omega) | (simp; done) | (simp; omega)) _) | refine bTrans ?_ (by assumption)))⟩

theorem keeps_walk (x n : Nat) (a s b t : Int) (hx : x < 18446744073709551616) (hn : n < 18446744073709551616) (hm : a ≤ 9223372036854775807) (hb : b ≤ 9223372036854775807) (w : World) (hT : Tab w) :
    Calls Tryd.prog 4 #[.int .u64 (x : Int), kv a s b t, .int .u64 (n : Int)] w fun e w' => e = .returned (.bool true) ∧ Below w.heap.size w w' := by
  by_cases h : apFrom 0 [(a, s), (b, t)] = true
  · obtain ⟨r1, r2, hd⟩ := apart_two h
    obtain ⟨A, S, rfl, rfl, h1, h2⟩ := right_nat r1
    obtain ⟨B, T, rfl, rfl, h3, h4⟩ := right_nat r2
    exact keeps_good x n A S B T hx hn h1 h2 h3 h4 (by simpa using hd) h w hT
  · exact keeps_bad x n a s b t hm hb (by simpa using h) w hT

end Go.Proofs.YtgpligkheipoaaaDoor
