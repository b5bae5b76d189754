/-
  Decimal texts of numbers. No program in sight.
-/
import Derived.Test.YtfcplfbofobdpaaMath01
import Derived.Laws.BytesArg
namespace Go.Proofs.Ytfcplfbofobdpaa

/-- the text of a number of at most f digits, as bytes -/
def dtextF : Nat → Nat → List Int
  | 0, _ => []
  | f + 1, a => if a / 10 = 0 then [48 + ((a % 10 : Nat) : Int)] else dtextF f (a / 10) ++ [48 + ((a % 10 : Nat) : Int)]
def dtext (a : Nat) : List Int := dtextF 39 a
theorem dtextF_last {f a : Nat} (h : a / 10 = 0) : dtextF (f + 1) a = [48 + ((a % 10 : Nat) : Int)] := by unfold dtextF; rw [if_pos h]
theorem dtextF_more {f a : Nat} (h : a / 10 ≠ 0) : dtextF (f + 1) a = dtextF f (a / 10) ++ [48 + ((a % 10 : Nat) : Int)] := by
  rw [dtextF.eq_def]; simp only; rw [if_neg h]
theorem pow10_succ (f : Nat) : 10 ^ (f + 1) = 10 ^ f * 10 := Nat.pow_succ ..
theorem div10_lt {a f : Nat} (h : a < 10 ^ (f + 1)) : a / 10 < 10 ^ f := by rw [pow10_succ] at h; omega
theorem N128_div {a : Nat} (h : N128 a) : N128 (a / 10) := by unfold N128 at *; omega
theorem N128_10 {a : Nat} (h : N128 a) : a < 10 ^ 39 := by unfold N128 at h; omega

end Go.Proofs.Ytfcplfbofobdpaa
