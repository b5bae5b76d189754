/-
  Contracts of package haymowref01: the product.
-/
import Derived.Test.YtfcplfbofobdpaaRef01
import Derived.Test.YtfcplfbofobdpaaMulMath
import Derived.Test.YtfcplfbofobdpaaKit01
import Derived.LoopTactic
import Derived.BigQuiet
namespace Go.Proofs.Ytfcplfbofobdpaa
open Go.RowKit
set_option linter.unusedVariables false

/-- the product's parts in the middle of a row -/
def mrow (S P t j : Nat) : Value := .int .u64 (if j < t then dig S j else dig P j)
theorem mrow_start (P t j : Nat) : mrow P P t j = fd P j := by unfold mrow fd; split <;> rfl
theorem mrow_ge {S P t j : Nat} (h : ¬ j < t) : mrow S P t j = .int .u64 (dig P j) := by unfold mrow; rw [if_neg h]
theorem mrow_end {S P t j : Nat} (h : j < t) : mrow S P t j = fd S j := by unfold mrow fd; rw [if_pos h]
theorem mrow_step (a y P k i j : Nat) : (if j = i + k then Value.int .u64 (dig (sumi a y P k (i + 1)) (i + k)) else mrow (sumi a y P k i) P (i + k) j) = mrow (sumi a y P k (i + 1)) P (i + 1 + k) j := by
  by_cases h : j = i + k
  · subst h; rw [if_pos rfl, mrow_end (by omega)]; rfl
  · rw [if_neg h]
    by_cases h2 : j < i + k
    · rw [mrow_end h2, mrow_end (by omega)]; unfold fd; rw [dig_sumi_succ _ _ _ _ _ _ h2]
    · rw [mrow_ge h2, mrow_ge (by omega)]
theorem dig_prod (a i n k : Nat) : 0 ≤ dig a i * dig n k ∧ dig a i * dig n k ≤ 18446744065119617025 := by
  obtain ⟨a0, a1⟩ := dig_b a i; obtain ⟨b0, b1⟩ := dig_b n k
  refine ⟨Int.mul_nonneg a0 b0, ?_⟩
  have h1 := Int.mul_le_mul_of_nonneg_right (show dig a i ≤ 4294967295 by omega) b0
  omega
/-- digit k of n as a natural number -/
def ny (n k : Nat) : Nat := n / 4294967296 ^ k % 4294967296
theorem ny_dig (n k : Nat) : ((ny n k : Nat) : Int) = dig n k := by unfold ny dig; rfl
theorem ny_lt (n k : Nat) : ny n k < 4294967296 := by unfold ny; omega
structure MInv (a n : Nat) (w wr : World) : Prop where
  x : Row wr (w.heap.size + 4) 6 (fd a)
  y : Row wr (w.heap.size + 5) 2 (fd n)
  z : Row wr (w.heap.size + 1) 2 (wrow 0)
  b : Below w.heap.size w wr
theorem MInv.below {a n : Nat} {w w1 w2 : World} (h : MInv a n w w1) (b : Below w1.heap.size w1 w2) : MInv a n w w2 := ⟨h.x.below b, h.y.below b, h.z.below b, bTrans h.b b⟩
theorem MInv.drewN {a n : Nat} {w w1 : World} (h : MInv a n w w1) (k : Nat) : MInv a n w (w1.drewN k) := ⟨h.x.drewN k, h.y.drewN k, h.z.drewN k, below_drewN h.b k⟩
theorem MInv.set {a n : Nat} {w w1 : World} (h : MInv a n w w1) (o : Nat) (v : Value) : MInv a n w (w1.setCell ⟨w.heap.size + 6, o, none⟩ v) :=
  ⟨h.x.far _ (by dsimp only; omega), h.y.far _ (by dsimp only; omega), h.z.far _ (by dsimp only; omega), bSet h.b (by dsimp only; omega) _⟩

set_option maxHeartbeats 2000000 in
set_option maxRecDepth 100000 in
theorem refmul_any (a n : Nat) (ha : N128 a) (hn : Word n) (w : World) : Calls Try.prog 19 #[wv a, .int .u64 n] w fun e w' => e = .returned (.tuple #[wv (mulv a n), .bool (mulok a n)]) ∧ Below w.heap.size w w' := by
  rw [mulv_cap, mulok_cap]
  obtain ⟨a1, a2⟩ := word_hi ha; obtain ⟨b1, b2⟩ := word_lo a
  obtain ⟨n0, n1⟩ := hn
  have NA := Lib.hid ha
  have NN := Lib.hid (show n < 18446744073709551616 by omega)
  have y0 : dig n 0 = (n : Int) % 4294967296 := by unfold dig; simp
  have y1 : dig n 1 = (n : Int) / 4294967296 := by unfold dig; simp; omega
  generalize hN : (n : Int) = N at n0 n1 y0 y1 ⊢
  have Y0 := Lib.hid y0; have Y1 := Lib.hid y1
  clear ha hN y0 y1
  go_enter Try.func19, Try.ntmps19
  go_wp2_with (go_at_call 29; refine (parts_any a NA.out _).mono ?_; rintro e w1 ⟨rfl, rfl⟩)
  go_loopw [9, 10, 11, 12] (fun k _ _ _ wr => ∃ k' : Nat, k' ≤ 2 ∧ k = .int .i64 k' ∧ MInv a n w wr ∧ Row wr (w.heap.size + 6) 6 (fd (a * (n % 4294967296 ^ k')))) (fun k _ _ _ _ => (2 - intOf k).toNat)
  case atStart =>
    refine ⟨0, by omega, rfl, ⟨?_, ?_, ?_, (by repeat (first | exact Below.refl _ _ | (with_reducible assumption) | refine bAlloc ?_ _ | refine below_drewN ?_ _ | refine Below.drew ?_ | (refine bSet ?_ (by first | (dsimp only; omega) | (simp; done) | (simp; omega)) _) | refine bTrans ?_ (by assumption)))⟩, ?_⟩
    · refine Row.alloc (Row.alloc (Row.newAt _ _ _ _ 6 _ (by simp) (fd_row a NA.out)) _) _
    · refine Row.alloc (Row.newAt _ _ _ _ 2 _ (by simp) fun j hj => ?_) _
      have h : j = 0 ∨ j = 1 := by omega
      rcases h with rfl | rfl
      · simp [fd, Y0.out]
      · simp [fd, Y1.out]
    · repeat (first | (refine Row.newAt _ _ _ _ 2 _ ?_ zero_new; simp; done) | refine Row.alloc ?_ _)
    · refine Row.newAt _ _ _ _ 6 _ (by simp) fun j hj => ?_
      have h : j = 0 ∨ j = 1 ∨ j = 2 ∨ j = 3 ∨ j = 4 ∨ j = 5 := by omega
      have e : fd (a * (n % 4294967296 ^ 0)) j = .int .u64 0 := by simp [fd, Nat.mod_one, dig]
      rw [e]
      rcases h with rfl | rfl | rfl | rfl | rfl | rfl <;> rfl
  case round =>
    obtain ⟨k, hk, rfl, M, R⟩ := hrel
    by_cases hk2 : k < 2
    · go_wp2
      generalize hP : a * (n % 4294967296 ^ k) = P at R
      have HP := Lib.hid hP
      clear hP
      go_loopw [10, 11, 12] (fun u i _ w2 => ∃ i' : Nat, i' + k ≤ 6 ∧ i = .int .i64 i' ∧ u = .int .u64 ((upi a (ny n k) P k i' : Nat) : Int) ∧ MInv a n w w2 ∧ Row w2 (w.heap.size + 6) 6 (mrow (sumi a (ny n k) P k i') P (i' + k))) (fun _ i _ _ => (6 - intOf i).toNat)
      case atStart =>
        refine ⟨0, by omega, rfl, by rw [upi_0]; rfl, M, R.congr fun j hj => ?_⟩
        rw [sumi_0, mrow_start]
      case round =>
        obtain ⟨i, hi, rfl, rfl, M2, R2⟩ := hrel
        by_cases hi6 : i + k < 6
        · have q1 := R2.cell (i + k) hi6
          have q4 := R2.free (i + k)
          have q2 := M2.x.cell i (by omega)
          have q3 := M2.y.cell k (by omega)
          rw [mrow_ge (by omega)] at q1
          unfold fd at q2 q3
          obtain ⟨s1, s2⟩ := mul_step a (ny n k) P k i
          rw [ny_dig] at s1 s2
          have u0 : 0 ≤ ((upi a (ny n k) P k i : Nat) : Int) := by omega
          have u1 : ((upi a (ny n k) P k i : Nat) : Int) < 4294967296 := by have := upi_le a (ny n k) P k i (ny_lt n k); omega
          obtain ⟨p0, p1⟩ := dig_prod a i n k
          obtain ⟨d0, d1⟩ := dig_b P (i + k)
          have S1 := Lib.hid s1; have S2 := Lib.hid s2
          clear s1 s2
          generalize hu : ((upi a (ny n k) P k i : Nat) : Int) = u at *
          have HU := Lib.hid hu
          clear hu
          go_wp2
          go_quiet (fail)
          go_wp2
          go_roundw
          case rel =>
            refine ⟨i + 1, by omega, by go_num, by rw [S2.out], (M2.drewN _).set _ _, ?_⟩
            rw [S1.out]
            exact ((R2.drewN _).set (i + k) hi6 _).congr (fun j _ => mrow_step a (ny n k) P k i j)
          case measure => simp [intOf]; try omega
        · have hi6' : 6 ≤ (i : Int) + (k : Int) := by omega
          go_wp2
          go_roundw
          case rel =>
            refine ⟨k + 1, by omega, by go_num, M2, R2.congr fun j hj => ?_⟩
            rw [mrow_end (by omega), show i = 6 - k by omega, sumi_end NA.out (by omega), ← HP.out, ny, row_next]
          case measure => simp [intOf]; try omega
    · obtain rfl : k = 2 := by omega
      have e2 : a * (n % 4294967296 ^ 2) = a * n := by
        have h := NN.out
        rw [Nat.mod_eq_of_lt (by omega)]
      rw [e2] at R
      clear e2
      have q0 := R.cell 0 (by omega); have q1 := R.cell 1 (by omega); have q2 := R.cell 2 (by omega); have q3 := R.cell 3 (by omega); have q4 := R.cell 4 (by omega); have q5 := R.cell 5 (by omega)
      unfold fd at q0 q1 q2 q3 q4 q5
      have WH := Lib.hid (fun w => whole_any (a * n) (by
        have h1 := NA.out; have h2 := NN.out
        unfold N128 at h1
        have := Nat.mul_lt_mul'' h1 h2
        omega) w)
      have hk2' : (2 : Int) ≤ ((2 : Nat) : Int) := by omega
      go_wp2_with (go_at_call 30; refine (WH.out _).mono ?_; rintro e w2 ⟨rfl, hb1⟩; have r9 := M.z.below hb1; have z0 := r9.cell 0 (by omega); have z1 := r9.cell 1 (by omega); have z2 := r9.free 0; have z3 := r9.free 1)
      have bz : Below w.heap.size w w2 := bTrans M.b hb1
      exact bodyPost_ret (v := .tuple #[wv (capv (a * n)), .bool (okv (a * n))]) (by simp [results, Try.results19, go_sem, z0, z1]) rfl ⟨rfl, (by repeat (first | exact Below.refl _ _ | (with_reducible assumption) | refine bAlloc ?_ _ | refine below_drewN ?_ _ | refine Below.drew ?_ | (refine bSet ?_ (by first | (dsimp only; omega) | (simp; done) | (simp; omega)) _) | refine bTrans ?_ (by assumption)))⟩

end Go.Proofs.Ytfcplfbofobdpaa
