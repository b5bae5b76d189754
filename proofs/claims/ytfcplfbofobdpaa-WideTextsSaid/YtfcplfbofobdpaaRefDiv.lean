/-
  Contracts of package haymowref01: a number's bits, the quotient.
-/
import Derived.Test.YtfcplfbofobdpaaKit01
import Derived.LoopTactic
import Derived.Deep.Cut
import Derived.Deep.DeepCutAuto
namespace Go.Proofs.Ytfcplfbofobdpaa
open Go.RowKit
set_option linter.unusedVariables false

theorem bit_lo (a k : Nat) (hk : k < 64) : lo a / 2 ^ k % 2 = ((a / 2 ^ k % 2 : Nat) : Int) := by
  have e : (18446744073709551616 : Nat) = 2 ^ k * 2 ^ (64 - k) := by rw [← Nat.pow_add, show k + (64 - k) = 64 by omega]
  have h : a % 18446744073709551616 / 2 ^ k % 2 = a / 2 ^ k % 2 := by
    rw [e, Nat.mod_mul_right_div_self, show 2 ^ (64 - k) = 2 * 2 ^ (63 - k) by rw [← Nat.pow_succ']; congr 1; omega, Nat.mod_mul_right_mod]
  unfold lo
  rw [← h]; simp
theorem bit_hi (a k : Nat) (hk : 64 ≤ k) : hi a / 2 ^ (k - 64) % 2 = ((a / 2 ^ k % 2 : Nat) : Int) := by
  have e : 2 ^ k = 18446744073709551616 * 2 ^ (k - 64) := by rw [show (18446744073709551616 : Nat) = 2 ^ 64 from rfl, ← Nat.pow_add, show 64 + (k - 64) = k by omega]
  unfold hi
  rw [e, ← Nat.div_div_eq_div_mul]; simp

set_option maxRecDepth 100000 in
theorem bit_any (a k : Nat) (ha : N128 a) (hk : k < 128) (w : World) : Calls Try.prog 34 #[wv a, .int .i64 k] w fun e w' => e = .returned (.int .u64 ((a / 2 ^ k % 2 : Nat) : Int)) ∧ Below w.heap.size w w' := by
  obtain ⟨h0, h1⟩ := word_hi ha; obtain ⟨l0, l1⟩ := word_lo a
  by_cases c : k < 64
  · rw [← bit_lo a k c]
    have e1 : min k 64 = k := by omega
    go_enter Try.func34, Try.ntmps34
    go_wp2
    go_ret
    exact ⟨by rw [and_one_u64 _ (Int.ediv_nonneg l0 (Int.le_of_lt (Int.pow_pos (by omega)))) (by have := Int.ediv_le_self (2 ^ k) l0; omega)]; rfl, (by repeat (first | exact Below.refl _ _ | (with_reducible assumption) | refine bAlloc ?_ _ | refine below_drewN ?_ _ | refine Below.drew ?_ | (refine bSet ?_ (by first | (dsimp only; omega) | (simp; done) | (simp; omega)) _) | refine bTrans ?_ (by assumption)))⟩
  · rw [← bit_hi a k (by omega)]
    have e1 : min (k - 64) 64 = k - 64 := by omega
    have c' : ((k : Int) < 64) = False := by simp; omega
    go_enter Try.func34, Try.ntmps34
    go_wp2
    go_ret
    exact ⟨by rw [and_one_u64 _ (Int.ediv_nonneg h0 (Int.le_of_lt (Int.pow_pos (by omega)))) (by have := Int.ediv_le_self (2 ^ (k - 64)) h0; omega)]; rfl, (by repeat (first | exact Below.refl _ _ | (with_reducible assumption) | refine bAlloc ?_ _ | refine below_drewN ?_ _ | refine Below.drew ?_ | (refine bSet ?_ (by first | (dsimp only; omega) | (simp; done) | (simp; omega)) _) | refine bTrans ?_ (by assumption)))⟩

/-- one step of the long division -/
theorem div_step (X n b : Nat) (hn : 0 < n) (hb : b < 2) : (n ≤ 2 * (X % n) + b → (2 * X + b) / n = 2 * (X / n) + 1 ∧ (2 * X + b) % n + n = 2 * (X % n) + b) ∧ (¬ n ≤ 2 * (X % n) + b → (2 * X + b) / n = 2 * (X / n) ∧ (2 * X + b) % n = 2 * (X % n) + b) := by
  have e := Nat.div_add_mod X n
  have m := Nat.mod_lt X hn
  refine ⟨fun h => ?_, fun h => ?_⟩
  · have s : 2 * X + b = (2 * (X % n) + b - n) + n * (2 * (X / n) + 1) := by
      rw [Nat.mul_add, Nat.mul_one, Nat.mul_left_comm]; omega
    rw [s, Nat.add_mul_div_left _ _ hn, Nat.add_mul_mod_self_left, Nat.div_eq_of_lt (by omega), Nat.mod_eq_of_lt (by omega)]
    omega
  · have s : 2 * X + b = (2 * (X % n) + b) + n * (2 * (X / n)) := by rw [Nat.mul_left_comm]; omega
    rw [s, Nat.add_mul_div_left _ _ hn, Nat.add_mul_mod_self_left, Nat.div_eq_of_lt (by omega), Nat.mod_eq_of_lt (by omega)]
    omega
theorem half_step (a j : Nat) : a / 2 ^ j = 2 * (a / 2 ^ (j + 1)) + a / 2 ^ j % 2 := by
  rw [Nat.pow_succ, ← Nat.div_div_eq_div_mul]; omega
/-- a bit set below a multiple of twice it -/
theorem set_lo {Q j : Nat} (hj : j < 64) (hQ : Q % 2 ^ (j + 1) = 0) : bits .or .u64 (lo Q) ((2 : Int) ^ j) = lo (Q + 2 ^ j) ∧ hi (Q + 2 ^ j) = hi Q := by
  have e : (18446744073709551616 : Nat) = 2 ^ (j + 1) * 2 ^ (63 - j) := by rw [← Nat.pow_add, show j + 1 + (63 - j) = 64 by omega]
  have m : Q % 18446744073709551616 % 2 ^ (j + 1) = 0 := by rw [e, Nat.mod_mul_right_mod]; exact hQ
  obtain ⟨c, hc⟩ := Nat.dvd_of_mod_eq_zero m
  have lt := Nat.mod_lt Q (show 0 < 18446744073709551616 by omega)
  have p2 : 2 ^ (j + 1) = 2 * 2 ^ j := Nat.pow_succ'
  have hp := Nat.two_pow_pos j
  have room : Q % 18446744073709551616 + 2 ^ (j + 1) ≤ 18446744073709551616 := by
    rw [hc] at lt ⊢
    rw [e] at lt ⊢
    rw [← Nat.mul_succ]
    exact Nat.mul_le_mul_left _ (Nat.lt_of_mul_lt_mul_left lt)
  have pj : ((2 ^ j : Nat) : Int) = (2 : Int) ^ j := by simp
  have pj1 : ((2 ^ (j + 1) : Nat) : Int) = (2 : Int) ^ (j + 1) := by simp
  have join := bits_join .u64 64 (by decide) (fun n a b => wrap_u64_id n a b) (j + 1) (lo Q) ((2 : Int) ^ j) (word_lo Q).1 (by unfold lo; rw [← pj1]; omega) (word_lo Q).2 (by rw [← pj]; omega) (by rw [← pj, ← pj1]; omega) (by show _ < (18446744073709551616 : Int); rw [← pj]; omega)
  refine ⟨?_, ?_⟩
  · rw [join, ← pj]; unfold lo; omega
  · unfold hi; omega
theorem set_hi {Q j : Nat} (hj : 64 ≤ j) (hj2 : j < 128) (hQ : Q % 2 ^ (j + 1) = 0) (hN : N128 Q) : bits .or .u64 (hi Q) ((2 : Int) ^ (j - 64)) = hi (Q + 2 ^ j) ∧ lo (Q + 2 ^ j) = lo Q := by
  have e : 2 ^ j = 18446744073709551616 * 2 ^ (j - 64) := by rw [show (18446744073709551616 : Nat) = 2 ^ 64 from rfl, ← Nat.pow_add, show 64 + (j - 64) = j by omega]
  have e1 : 2 ^ (j + 1) = 18446744073709551616 * 2 ^ (j - 64 + 1) := by rw [show (18446744073709551616 : Nat) = 2 ^ 64 from rfl, ← Nat.pow_add, show 64 + (j - 64 + 1) = j + 1 by omega]
  obtain ⟨c, hc⟩ := Nat.dvd_of_mod_eq_zero hQ
  have hh : Q / 18446744073709551616 = 2 ^ (j - 64 + 1) * c := by rw [hc, e1, Nat.mul_assoc, Nat.mul_div_cancel_left _ (by omega)]
  have s := set_lo (Q := Q / 18446744073709551616) (j := j - 64) (by omega) (by rw [hh]; exact Nat.mul_mod_right ..)
  have hl : Q / 18446744073709551616 < 18446744073709551616 := by unfold N128 at hN; omega
  have room : Q / 18446744073709551616 + 2 ^ (j - 64) < 18446744073709551616 := by
    have lt := hl
    have p : (18446744073709551616 : Nat) = 2 ^ (j - 64 + 1) * 2 ^ (127 - j) := by rw [← Nat.pow_add, show j - 64 + 1 + (127 - j) = 64 by omega]
    have hp := Nat.two_pow_pos (j - 64)
    have p2 : 2 ^ (j - 64 + 1) = 2 * 2 ^ (j - 64) := Nat.pow_succ'
    have : Q / 18446744073709551616 + 2 ^ (j - 64 + 1) ≤ 18446744073709551616 := by
      rw [hh] at lt ⊢
      rw [p] at lt ⊢
      rw [← Nat.mul_succ]
      exact Nat.mul_le_mul_left _ (Nat.lt_of_mul_lt_mul_left lt)
    omega
  have a1 : lo (Q / 18446744073709551616) = hi Q := by unfold lo hi; rw [Nat.mod_eq_of_lt hl]
  have a2 : lo (Q / 18446744073709551616 + 2 ^ (j - 64)) = hi (Q + 2 ^ j) := by
    unfold lo hi; rw [Nat.mod_eq_of_lt room, e, Nat.add_mul_div_left _ _ (by omega)]
  rw [a1, a2] at s
  refine ⟨s.1, ?_⟩
  unfold lo; rw [e, Nat.add_mul_mod_self_left]

theorem pow_lt64 {j : Nat} (h : j < 64) : IntKind.u64.wrap ((2 : Int) ^ j) = (2 : Int) ^ j := by
  refine wrap_u64_id _ (Int.le_of_lt (Int.pow_pos (by omega))) ?_
  have := Nat.pow_lt_pow_right (show 1 < 2 by omega) h
  have e : ((2 ^ j : Nat) : Int) = (2 : Int) ^ j := by simp
  rw [← e]; omega
theorem qrow_lo {w : World} {g Q j : Nat} (h : Row w g 2 (wrow Q)) (hj : j < 64) (hQ : Q % 2 ^ (j + 1) = 0) : Row (w.setCell ⟨g, 1, none⟩ (.int .u64 (bits .or .u64 (lo Q) (IntKind.u64.wrap ((2 : Int) ^ j))))) g 2 (wrow (Q + 2 ^ j)) := by
  obtain ⟨s1, s2⟩ := set_lo hj hQ
  rw [pow_lt64 hj, s1]
  refine (h.set 1 (by omega) _).congr fun i hi => ?_
  have h : i = 0 ∨ i = 1 := by omega
  rcases h with rfl | rfl
  · simp [wrow, s2]
  · simp [wrow]
theorem qrow_hi {w : World} {g Q j : Nat} (h : Row w g 2 (wrow Q)) (hj : 64 ≤ j) (hj2 : j < 128) (hQ : Q % 2 ^ (j + 1) = 0) (hN : N128 Q) : Row (w.setCell ⟨g, 0, none⟩ (.int .u64 (bits .or .u64 (hi Q) (IntKind.u64.wrap ((2 : Int) ^ (j - 64)))))) g 2 (wrow (Q + 2 ^ j)) := by
  obtain ⟨s1, s2⟩ := set_hi hj hj2 hQ hN
  rw [pow_lt64 (by omega), s1]
  refine (h.set 0 (by omega) _).congr fun i hi => ?_
  have h : i = 0 ∨ i = 1 := by omega
  rcases h with rfl | rfl
  · simp [wrow]
  · simp [wrow, s2]

set_option maxHeartbeats 2000000 in
set_option maxRecDepth 100000 in
theorem refdiv_any (a n : Nat) (ha : N128 a) (hn : Word n) (hp : 0 < n) (w : World) : Calls Try.prog 21 #[wv a, .int .u64 n] w fun e w' => e = .returned (.tuple #[wv (a / n), .int .u64 ((a % n : Nat) : Int)]) ∧ Below w.heap.size w w' := by
  obtain ⟨n0, n1⟩ := hn
  have NA := Lib.hid ha
  have np : (0 : Int) < n := by omega
  generalize hN : (n : Int) = N at n0 n1 np ⊢
  have HN := Lib.hid hN
  have HP := Lib.hid hp
  clear ha hN hp
  go_enter Try.func21, Try.ntmps21
  go_wp2
  go_loopw [7, 8, 9] (fun l i o wr => ∃ k : Nat, k ≤ 128 ∧ i = .int .i64 ((k : Int) - 1) ∧ l = .int .u64 ((a / 2 ^ k % n : Nat) : Int) ∧ Row wr w.heap.size 2 (wrow a) ∧ Row wr (w.heap.size + 1) 2 (wrow 0) ∧ Row wr (w.heap.size + 2) 2 (wrow (a / 2 ^ k / n * 2 ^ k)) ∧ Below w.heap.size w wr) (fun _ i _ _ => (intOf i + 1).toNat)
  case atStart =>
    have h := NA.out
    have e : a / 2 ^ 128 = 0 := Nat.div_eq_of_lt (by unfold N128 at h; omega)
    refine ⟨128, by omega, rfl, by rw [e, Nat.zero_mod]; rfl, (Row.new w _ _ 2 _ (wrow_new a)).alloc _ |>.alloc _, (Row.newAt _ _ _ _ 2 _ (by simp) (zero_new)).alloc _, Row.newAt _ _ _ _ 2 _ (by simp) ?_, (by repeat (first | exact Below.refl _ _ | (with_reducible assumption) | refine bAlloc ?_ _ | refine below_drewN ?_ _ | refine Below.drew ?_ | (refine bSet ?_ (by first | (dsimp only; omega) | (simp; done) | (simp; omega)) _) | refine bTrans ?_ (by assumption)))⟩
    rw [e, Nat.zero_div, Nat.zero_mul]
    exact zero_new
  case round =>
    obtain ⟨k, hk, rfl, rfl, R1, R2, R3, bel⟩ := hrel
    cases k with
    | zero =>
      obtain ⟨q0, q1, q2⟩ := R3.two
      obtain ⟨z0, z1, z2⟩ := R2.two
      have z3 := R2.free 0; have z4 := R2.free 1
      have e1 : a / 2 ^ 0 / n * 2 ^ 0 = a / n := by simp
      have e2 : a / 2 ^ 0 % n = a % n := by simp
      rw [e1] at q0 q1
      rw [e2, show ((0 : Nat) : Int) - 1 = -1 from rfl]
      clear e1 e2
      generalize hr : ((a % n : Nat) : Int) = r at *
      have HR := Lib.hid hr
      clear hr
      go_wp2
      exact bodyPost_ret (v := .tuple #[wv (a / n), .int .u64 r]) (by simp [results, Try.results21, go_sem, z0, z1]) rfl ⟨by rw [HR.out], (by repeat (first | exact Below.refl _ _ | (with_reducible assumption) | refine bAlloc ?_ _ | refine below_drewN ?_ _ | refine Below.drew ?_ | (refine bSet ?_ (by first | (dsimp only; omega) | (simp; done) | (simp; omega)) _) | refine bTrans ?_ (by assumption)))⟩
    | succ j =>
      obtain ⟨a0, a1, a2⟩ := R1.two
      obtain ⟨q0, q1, q2⟩ := R3.two
      rw [show ((j + 1 : Nat) : Int) - 1 = (j : Int) by omega]
      have BT := Lib.hid (fun w => bit_any a j NA.out (by omega) w)
      have ST := div_step (a / 2 ^ (j + 1)) n (a / 2 ^ j % 2) HP.out (by omega)
      rw [← half_step] at ST
      have dv : a / 2 ^ (j + 1) / n * 2 ^ (j + 1) % 2 ^ (j + 1) = 0 := Nat.mul_mod_left _ _
      have nq : N128 (a / 2 ^ (j + 1) / n * 2 ^ (j + 1)) := by
        have h := NA.out
        have h1 := Nat.mul_le_mul_right (2 ^ (j + 1)) (Nat.div_le_self (a / 2 ^ (j + 1)) n)
        have h2 := Nat.div_mul_le_self a (2 ^ (j + 1))
        unfold N128 at *
        omega
      have b0 : 0 ≤ ((a / 2 ^ j % 2 : Nat) : Int) := by omega
      have b1 : ((a / 2 ^ j % 2 : Nat) : Int) < 2 := by omega
      have r0 : 0 ≤ ((a / 2 ^ (j + 1) % n : Nat) : Int) := by omega
      have r1 : ((a / 2 ^ (j + 1) % n : Nat) : Int) < N := by rw [← HN.out]; exact_mod_cast Nat.mod_lt _ HP.out
      have GE : n ≤ 2 * (a / 2 ^ (j + 1) % n) + a / 2 ^ j % 2 ↔ N ≤ ((a / 2 ^ (j + 1) % n : Nat) : Int) * 2 + ((a / 2 ^ j % 2 : Nat) : Int) := by rw [← HN.out]; omega
      have SG : n ≤ 2 * (a / 2 ^ (j + 1) % n) + a / 2 ^ j % 2 → ((a / 2 ^ j % n : Nat) : Int) = ((a / 2 ^ (j + 1) % n : Nat) : Int) * 2 + ((a / 2 ^ j % 2 : Nat) : Int) - N ∧ a / 2 ^ j / n * 2 ^ j = a / 2 ^ (j + 1) / n * 2 ^ (j + 1) + 2 ^ j := fun h => by
        obtain ⟨s1, s2⟩ := ST.1 h
        refine ⟨by rw [← HN.out]; omega, ?_⟩
        rw [s1, Nat.add_mul, Nat.one_mul, Nat.pow_succ, Nat.mul_comm (2 ^ j) 2, ← Nat.mul_assoc, Nat.mul_comm 2 _]
      have SL : ¬ n ≤ 2 * (a / 2 ^ (j + 1) % n) + a / 2 ^ j % 2 → ((a / 2 ^ j % n : Nat) : Int) = ((a / 2 ^ (j + 1) % n : Nat) : Int) * 2 + ((a / 2 ^ j % 2 : Nat) : Int) ∧ a / 2 ^ j / n * 2 ^ j = a / 2 ^ (j + 1) / n * 2 ^ (j + 1) := fun h => by
        obtain ⟨s1, s2⟩ := ST.2 h
        refine ⟨by omega, ?_⟩
        rw [s1, Nat.pow_succ, Nat.mul_comm (2 ^ j) 2, ← Nat.mul_assoc, Nat.mul_comm 2 _]
      rw [GE] at SG SL
      clear ST GE
      generalize ((a / 2 ^ j % 2 : Nat) : Int) = b at *
      generalize ((a / 2 ^ (j + 1) % n : Nat) : Int) = r at *
      generalize a / 2 ^ (j + 1) / n * 2 ^ (j + 1) = Q at *
      have DV := Lib.hid dv; have NQ := Lib.hid nq
      clear dv nq
      by_cases g : N ≤ r * 2 + b
      · obtain ⟨s1, s2⟩ := SG g
        have E1 := Lib.hid s1; have E2 := Lib.hid s2
        clear SG SL s1 s2
        by_cases o : 9223372036854775808 ≤ r
        · have f1 : (r / 9223372036854775808 == 1) = true := by simp; omega
          have f0 : IntKind.u64.wrap (r * 2) = r * 2 - 18446744073709551616 := by rw [wrap_u64_mod]; omega
          have f2 : bits .or .u64 (r * 2 - 18446744073709551616) b = r * 2 - 18446744073709551616 + b := bits_join .u64 64 (by decide) (fun n a b => wrap_u64_id n a b) 1 (r * 2 - 18446744073709551616) b (by omega) (by omega) (by show _ < (18446744073709551616 : Int); omega) b0 (by show _ < (2 : Int); omega) (by show _ < (18446744073709551616 : Int); omega)
          have f3 : IntKind.u64.wrap (r * 2 - 18446744073709551616 + b - N) = r * 2 + b - N := by rw [wrap_u64_mod]; omega
          by_cases c : j < 64
          · have m1 : min j 64 = j := by omega
            go_wp2_with (go_at_call 34; refine (BT.out _).mono ?_; rintro e w1 ⟨rfl, hb1⟩; have S1 := R1.below hb1; have S2 := R2.below hb1; have S3 := R3.below hb1; obtain ⟨b0, b1, b2⟩ := S1.two; obtain ⟨t0, t1, t2⟩ := S3.two; have t3 := S3.free 0; have t4 := S3.free 1)
            have bz : Below w.heap.size w w1 := bel.trans (hb1.mono bel.size)
            go_roundw
            case rel => exact ⟨j, by omega, rfl, by rw [E1.out], S1.far _ (by dsimp only; omega), S2.far _ (by dsimp only; omega), by rw [E2.out]; exact qrow_lo S3 c DV.out, (by repeat (first | exact Below.refl _ _ | (with_reducible assumption) | refine bAlloc ?_ _ | refine below_drewN ?_ _ | refine Below.drew ?_ | (refine bSet ?_ (by first | (dsimp only; omega) | (simp; done) | (simp; omega)) _) | refine bTrans ?_ (by assumption)))⟩
            case measure => simp [intOf]; try omega
          · have m1 : min (j - 64) 64 = j - 64 := by omega
            have c2 : 64 ≤ (j : Int) := by omega
            go_wp2_with (go_at_call 34; refine (BT.out _).mono ?_; rintro e w1 ⟨rfl, hb1⟩; have S1 := R1.below hb1; have S2 := R2.below hb1; have S3 := R3.below hb1; obtain ⟨b0, b1, b2⟩ := S1.two; obtain ⟨t0, t1, t2⟩ := S3.two; have t3 := S3.free 0; have t4 := S3.free 1)
            have bz : Below w.heap.size w w1 := bel.trans (hb1.mono bel.size)
            go_roundw
            case rel => exact ⟨j, by omega, rfl, by rw [E1.out], S1.far _ (by dsimp only; omega), S2.far _ (by dsimp only; omega), by rw [E2.out]; exact qrow_hi S3 (by omega) (by omega) DV.out NQ.out, (by repeat (first | exact Below.refl _ _ | (with_reducible assumption) | refine bAlloc ?_ _ | refine below_drewN ?_ _ | refine Below.drew ?_ | (refine bSet ?_ (by first | (dsimp only; omega) | (simp; done) | (simp; omega)) _) | refine bTrans ?_ (by assumption)))⟩
            case measure => simp [intOf]; try omega
        · have f1 : (r / 9223372036854775808 == 1) = false := by simp; omega
          have f2 : bits .or .u64 (r * 2) b = r * 2 + b := bits_join .u64 64 (by decide) (fun n a b => wrap_u64_id n a b) 1 (r * 2) b (by omega) (by omega) (by show _ < (18446744073709551616 : Int); omega) b0 (by show _ < (2 : Int); omega) (by show _ < (18446744073709551616 : Int); omega)
          by_cases c : j < 64
          · have m1 : min j 64 = j := by omega
            go_wp2_with (go_at_call 34; refine (BT.out _).mono ?_; rintro e w1 ⟨rfl, hb1⟩; have S1 := R1.below hb1; have S2 := R2.below hb1; have S3 := R3.below hb1; obtain ⟨b0, b1, b2⟩ := S1.two; obtain ⟨t0, t1, t2⟩ := S3.two; have t3 := S3.free 0; have t4 := S3.free 1)
            have bz : Below w.heap.size w w1 := bel.trans (hb1.mono bel.size)
            go_roundw
            case rel => exact ⟨j, by omega, rfl, by rw [E1.out], S1.far _ (by dsimp only; omega), S2.far _ (by dsimp only; omega), by rw [E2.out]; exact qrow_lo S3 c DV.out, (by repeat (first | exact Below.refl _ _ | (with_reducible assumption) | refine bAlloc ?_ _ | refine below_drewN ?_ _ | refine Below.drew ?_ | (refine bSet ?_ (by first | (dsimp only; omega) | (simp; done) | (simp; omega)) _) | refine bTrans ?_ (by assumption)))⟩
            case measure => simp [intOf]; try omega
          · have m1 : min (j - 64) 64 = j - 64 := by omega
            have c2 : 64 ≤ (j : Int) := by omega
            go_wp2_with (go_at_call 34; refine (BT.out _).mono ?_; rintro e w1 ⟨rfl, hb1⟩; have S1 := R1.below hb1; have S2 := R2.below hb1; have S3 := R3.below hb1; obtain ⟨b0, b1, b2⟩ := S1.two; obtain ⟨t0, t1, t2⟩ := S3.two; have t3 := S3.free 0; have t4 := S3.free 1)
            have bz : Below w.heap.size w w1 := bel.trans (hb1.mono bel.size)
            go_roundw
            case rel => exact ⟨j, by omega, rfl, by rw [E1.out], S1.far _ (by dsimp only; omega), S2.far _ (by dsimp only; omega), by rw [E2.out]; exact qrow_hi S3 (by omega) (by omega) DV.out NQ.out, (by repeat (first | exact Below.refl _ _ | (with_reducible assumption) | refine bAlloc ?_ _ | refine below_drewN ?_ _ | refine Below.drew ?_ | (refine bSet ?_ (by first | (dsimp only; omega) | (simp; done) | (simp; omega)) _) | refine bTrans ?_ (by assumption)))⟩
            case measure => simp [intOf]; try omega
      · obtain ⟨s1, s2⟩ := SL g
        have E1 := Lib.hid s1; have E2 := Lib.hid s2
        clear SG SL s1 s2
        have f1 : (r / 9223372036854775808 == 1) = false := by simp; omega
        have f2 : bits .or .u64 (r * 2) b = r * 2 + b := bits_join .u64 64 (by decide) (fun n a b => wrap_u64_id n a b) 1 (r * 2) b (by omega) (by omega) (by show _ < (18446744073709551616 : Int); omega) b0 (by show _ < (2 : Int); omega) (by show _ < (18446744073709551616 : Int); omega)
        go_wp2_with (go_at_call 34; refine (BT.out _).mono ?_; rintro e w1 ⟨rfl, hb1⟩; have S1 := R1.below hb1; have S2 := R2.below hb1; have S3 := R3.below hb1; obtain ⟨b0, b1, b2⟩ := S1.two; obtain ⟨t0, t1, t2⟩ := S3.two; have t3 := S3.free 0; have t4 := S3.free 1)
        have bz : Below w.heap.size w w1 := bel.trans (hb1.mono bel.size)
        go_roundw
        case rel => exact ⟨j, by omega, rfl, by rw [E1.out], S1, S2, by rw [E2.out]; exact S3, (by repeat (first | exact Below.refl _ _ | (with_reducible assumption) | refine bAlloc ?_ _ | refine below_drewN ?_ _ | refine Below.drew ?_ | (refine bSet ?_ (by first | (dsimp only; omega) | (simp; done) | (simp; omega)) _) | refine bTrans ?_ (by assumption)))⟩
        case measure => simp [intOf]; try omega

end Go.Proofs.Ytfcplfbofobdpaa
