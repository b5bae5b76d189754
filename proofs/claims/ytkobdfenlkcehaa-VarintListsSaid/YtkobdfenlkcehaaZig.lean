/-
  Contracts of varint.Zig, varint.Zag; the chapter's examples.
-/
import Derived.Test.YtkobdfenlkcehaaAll
import Derived.Laws.Unary
import Derived.Laws.DeepNot64
namespace Go.Proofs.Ytkobdfenlkcehaa
open Go.RowKit
set_option linter.unusedVariables false

theorem ones_xor (a : Nat) (h : a < 18446744073709551616) : 18446744073709551615 ^^^ a = 18446744073709551615 - a := by
  have e := congrArg BitVec.toNat (BitVec.allOnes_xor (x := BitVec.ofNat 64 a))
  rw [BitVec.toNat_xor, BitVec.toNat_not, BitVec.toNat_allOnes, BitVec.toNat_ofNat, Nat.mod_eq_of_lt h] at e
  exact e
theorem u64_not (a : Nat) (h : a < 18446744073709551616) : bits BinOp.xor IntKind.u64 IntKind.u64.max (a : Int) = 18446744073709551615 - (a : Int) := by
  have e := u64_xor_nat 18446744073709551615 a (by omega) h
  rw [ones_xor a h] at e
  have m : IntKind.u64.max = ((18446744073709551615 : Nat) : Int) := by decide
  rw [m, e]; omega
/-- what an int may be -/
def Whole (n : Int) : Prop := -9223372036854775808 ≤ n ∧ n ≤ 9223372036854775807
set_option maxRecDepth 100000 in
theorem zig_any (n : Int) (hn : Whole n) (w : World) : Calls Try.prog 17 #[.int .i64 n] w fun e w' => e = .returned (.int .u64 (zig n : Nat)) ∧ w = w' := by
  obtain ⟨h1, h2⟩ := hn
  by_cases c : n < 0
  · have e : ((zig n : Nat) : Int) = -2 * n - 1 := by unfold zig; rw [if_pos c]; omega
    have E := Lib.hid e
    have d : IntKind.u64.wrap (IntKind.u64.wrap n * 2) = 18446744073709551616 + 2 * n := by rw [IntKind.wrap_u64, IntKind.wrap_u64]; omega
    clear e
    go_enter Try.func17, Try.ntmps17
    go_wp2_with fail
    go_ret
    have nt := u64_not (18446744073709551616 + 2 * n).toNat (by omega)
    rw [Int.toNat_of_nonneg (by omega)] at nt
    exact ⟨by rw [E.out]; exact congrArg (fun z => Ending.returned (.int .u64 z)) (nt.trans (by omega)), rfl⟩
  · have e : ((zig n : Nat) : Int) = 2 * n := by unfold zig; rw [if_neg c]; omega
    have E := Lib.hid e
    have d : IntKind.u64.wrap (IntKind.u64.wrap n * 2) = 2 * n := by rw [IntKind.wrap_u64, IntKind.wrap_u64]; omega
    clear e
    go_enter Try.func17, Try.ntmps17
    go_wp2_with fail
    go_ret
    exact ⟨by rw [E.out, Int.mul_comm]; rfl, rfl⟩
set_option maxRecDepth 100000 in
theorem zag_any (x : Nat) (hx : x < 18446744073709551616) (w : World) : Calls Try.prog 18 #[.int .u64 (x : Int)] w fun e w' => e = .returned (.int .i64 (zag x)) ∧ w = w' := by
  have eq : (x : Int) / 2 = ((x / 2 : Nat) : Int) := by omega
  have em : (x : Int) % 2 = ((x % 2 : Nat) : Int) := by omega
  have wq : IntKind.u64.wrap ((x / 2 : Nat) : Int) = ((x / 2 : Nat) : Int) := by rw [IntKind.wrap_u64]; omega
  have wi : IntKind.i64.wrap ((x / 2 : Nat) : Int) = ((x / 2 : Nat) : Int) := by rw [IntKind.wrap_i64]; omega
  by_cases c : x % 2 = 1
  · have e : zag x = -((x / 2 : Nat) : Int) - 1 := by unfold zag; rw [if_pos c]
    have E := Lib.hid e
    have t : (((x % 2 : Nat) : Int) == 1) = true := by simp; omega
    clear e c
    generalize x / 2 = q at *
    generalize x % 2 = m at *
    go_enter Try.func18, Try.ntmps18
    go_wp2_with fail
    go_ret
    exact ⟨by rw [E.out]; exact congrArg (fun z => Ending.returned (.int .i64 z)) ((i64_not q (by omega)).trans (by omega)), rfl⟩
  · have e : zag x = ((x / 2 : Nat) : Int) := by unfold zag; rw [if_neg c]
    have E := Lib.hid e
    have t : (((x % 2 : Nat) : Int) == 1) = false := by simp; omega
    clear e c
    generalize x / 2 = q at *
    generalize x % 2 = m at *
    go_enter Try.func18, Try.ntmps18
    go_wp2_with fail
    go_ret
    exact ⟨by rw [E.out]; rfl, rfl⟩

/-! ### the chapter's examples -/
theorem k_zig : zig (-1) = 1 := by decide +kernel
theorem k_zag : zag 1 = -1 := by decide +kernel
theorem awake_put (w : World) : Calls Try.prog 8 #[.slice none 0 0, .int .u64 300] w (Grew w.heap.size [172, 2] w) := by
  have h := put_any (.slice none 0 0) [] 300 (by omega) w (NL.nil _ _) (by simp)
  have e : [] ++ enc 300 = [172, 2] := by decide +kernel
  rw [e] at h
  exact h
theorem awake_zig (w : World) : Calls Try.prog 17 #[.int .i64 (-1)] w fun e w' => e = .returned (.int .u64 1) ∧ w = w' := by
  have h := zig_any (-1) ⟨by decide, by decide⟩ w
  rw [k_zig] at h
  exact h
theorem awake_zag (w : World) : Calls Try.prog 18 #[.int .u64 1] w fun e w' => e = .returned (.int .i64 (-1)) ∧ w = w' := by
  have h := zag_any 1 (by omega) w
  rw [k_zag] at h
  exact h
set_option maxRecDepth 100000 in
theorem awake_any (w : World) : Calls Try.prog 7 #[] w fun e w' => e = .returned (.bool true) ∧ Below w.heap.size w w' := by
  go_enter Try.func7, Try.ntmps7
  go_wp2_with fail
  refine (awake_put w).mono ?_
  rintro e w1 ⟨v, rfl, own, hb1⟩
  obtain ⟨a, cap, rfl⟩ := owns_slice own
  change w1.ownsRow w.heap.size 5 1 (.slice a 2 cap) 2 _ at own
  have cv : (convert 23 9 (.slice a 2 cap)).run Try.prog w1 = .ok (.string (bstr [172, 2])) w1 := conv_list (L := [172, 2]) (NL.of_owns own)
  have ks : bstr [172, 2] = ⟨#[172, 2]⟩ := by decide +kernel
  rw [ks] at cv
  dsimp only
  go_wp2_with (first
    | (go_at_call 17; refine (awake_zig _).mono ?_; rintro e w2 ⟨rfl, rfl⟩)
    | (go_at_call 18; refine (awake_zag _).mono ?_; rintro e w3 ⟨rfl, rfl⟩))
  go_ret
  exact ⟨rfl, hb1⟩

end Go.Proofs.Ytkobdfenlkcehaa
