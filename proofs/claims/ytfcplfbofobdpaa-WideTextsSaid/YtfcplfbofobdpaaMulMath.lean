/-
  Plain numbers: the school multiplication, digit by digit. No program in sight.
-/
import Derived.Test.YtfcplfbofobdpaaMath01
namespace Go.Proofs.Ytfcplfbofobdpaa

/-- row k's sum after i digits -/
def sumi (a y P k i : Nat) : Nat := P + a % 4294967296 ^ i * y * 4294967296 ^ k
def upi (a y P k i : Nat) : Nat := sumi a y P k i / 4294967296 ^ (i + k) - P / 4294967296 ^ (i + k)
theorem sumi_0 (a y P k : Nat) : sumi a y P k 0 = P := by unfold sumi; simp [Nat.mod_one]
theorem upi_0 (a y P k : Nat) : upi a y P k 0 = 0 := by unfold upi; rw [sumi_0]; omega
theorem sumi_succ (a y P k i : Nat) : sumi a y P k (i + 1) = sumi a y P k i + a / 4294967296 ^ i % 4294967296 * y * 4294967296 ^ (i + k) := by
  unfold sumi
  rw [Nat.pow_succ, mod_split, Nat.add_mul, Nat.add_mul, Nat.pow_add]
  have : 4294967296 ^ i * (a / 4294967296 ^ i % 4294967296) * y * 4294967296 ^ k = a / 4294967296 ^ i % 4294967296 * y * (4294967296 ^ i * 4294967296 ^ k) := by
    generalize 4294967296 ^ i = p; generalize a / p % 4294967296 = x; generalize 4294967296 ^ k = q
    rw [Nat.mul_comm p x, Nat.mul_assoc x p y, Nat.mul_comm p y, ← Nat.mul_assoc x y p, Nat.mul_assoc (x * y) p q]
  omega
theorem sumi_le (a y P k i : Nat) : P ≤ sumi a y P k i := by unfold sumi; omega
theorem upi_le (a y P k i : Nat) (hy : y < 4294967296) : upi a y P k i < 4294967296 := by
  unfold upi
  have hi := pow_pos32 i
  have hk := pow_pos32 k
  have hm := Nat.mod_lt a hi
  have e : sumi a y P k i ≤ P + (4294967295 * 4294967296 ^ i) * 4294967296 ^ k - 0 := by
    unfold sumi
    have h1 : a % 4294967296 ^ i * y ≤ 4294967296 ^ i * 4294967295 := Nat.mul_le_mul (by omega) (by omega)
    have h2 := Nat.mul_le_mul_right (4294967296 ^ k) h1
    rw [Nat.mul_comm (4294967296 ^ i) 4294967295] at h2
    omega
  have s : P + (4294967295 * 4294967296 ^ i) * 4294967296 ^ k - 0 = P + 4294967296 ^ (i + k) * 4294967295 := by
    rw [Nat.pow_add, Nat.sub_zero, Nat.mul_comm 4294967295, Nat.mul_assoc, Nat.mul_assoc, Nat.mul_comm 4294967295]
  rw [s] at e
  have d := Nat.div_le_div_right (c := 4294967296 ^ (i + k)) e
  rw [Nat.add_mul_div_left _ _ (pow_pos32 (i + k))] at d
  omega
theorem mul_step (a y P k i : Nat) :
    (((dig P (i + k)) + dig a i * (y : Int) + (upi a y P k i : Int)) % 4294967296 = dig (sumi a y P k (i + 1)) (i + k)) ∧
    ((dig P (i + k)) + dig a i * (y : Int) + (upi a y P k i : Int)) / 4294967296 = (upi a y P k (i + 1) : Int) := by
  have e := sumi_succ a y P k i
  have l := Nat.div_le_div_right (c := 4294967296 ^ (i + k)) (sumi_le a y P k i)
  have h1 : sumi a y P k (i + 1) / 4294967296 ^ (i + k) = sumi a y P k i / 4294967296 ^ (i + k) + a / 4294967296 ^ i % 4294967296 * y := by
    rw [e, Nat.add_mul_div_right _ _ (pow_pos32 (i + k))]
  have t : i + 1 + k = i + k + 1 := by omega
  unfold upi dig
  rw [t, Nat.pow_succ, ← Nat.div_div_eq_div_mul, ← Nat.div_div_eq_div_mul, h1]
  generalize sumi a y P k i / 4294967296 ^ (i + k) = s at *
  generalize P / 4294967296 ^ (i + k) = p at *
  generalize a / 4294967296 ^ i % 4294967296 = x at *
  rw [← Int.natCast_mul]
  generalize x * y = c
  omega
theorem dig_add_mul (s c j t : Nat) (h : j < t) : dig (s + c * 4294967296 ^ t) j = dig s j := by
  unfold dig
  have e : 4294967296 ^ t = 4294967296 ^ j * (4294967296 * 4294967296 ^ (t - j - 1)) := by
    rw [← Nat.pow_succ', ← Nat.pow_add]; congr 1; omega
  rw [e, Nat.mul_left_comm, Nat.add_mul_div_left _ _ (pow_pos32 j), Nat.mul_left_comm]
  congr 1
  exact Nat.add_mul_mod_self_left _ _ _
theorem dig_sumi_succ (a y P k i j : Nat) (h : j < i + k) : dig (sumi a y P k (i + 1)) j = dig (sumi a y P k i) j := by
  rw [sumi_succ]; exact dig_add_mul _ _ _ _ h
theorem pow4 : (4294967296 : Nat) ^ 4 = 340282366920938463463374607431768211456 := by decide
/-- a whole row -/
theorem sumi_end {a y P k : Nat} (ha : N128 a) (hk : k ≤ 1) : sumi a y P k (6 - k) = P + a * y * 4294967296 ^ k := by
  unfold sumi
  rw [Nat.mod_eq_of_lt]
  have h1 : 4294967296 ^ 4 ≤ 4294967296 ^ (6 - k) := Nat.pow_le_pow_right (by omega) (by omega)
  rw [pow4] at h1
  unfold N128 at ha
  omega
theorem row_next (a n k : Nat) : a * (n % 4294967296 ^ k) + a * (n / 4294967296 ^ k % 4294967296) * 4294967296 ^ k = a * (n % 4294967296 ^ (k + 1)) := by
  rw [Nat.pow_succ, mod_split, Nat.mul_add, Nat.mul_assoc, Nat.mul_comm (n / 4294967296 ^ k % 4294967296)]
attribute [irreducible] sumi upi

end Go.Proofs.Ytfcplfbofobdpaa
