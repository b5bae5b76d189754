/-
  The contract of math/bits.Div64.
-/
import Derived.Test.YtfcplfbofobdpaaDivMath
import Derived.Test.YtfcplfbofobdpaaBits
import Derived.Test.YtfcplfbofobdpaaShelf
import Derived.LoopTactic
import Derived.Deep.QuietTactic
import Derived.BigQuiet
import Derived.WalkSmall
import Derived.Deep.DeepCutAuto
import Derived.Deep.CutBlock
namespace Go.Proofs.Ytfcplfbofobdpaa
open Go.RowKit
set_option linter.unusedVariables false

theorem bitLen_pos {y : Nat} (h : y ≠ 0) : 1 ≤ Lib.bitLen y := by
  unfold Lib.bitLen Lib.bitLenAux; rw [if_neg h]; omega
theorem bitLenAux_spec : ∀ (f x : Nat), x < 2 ^ f → x < 2 ^ Lib.bitLenAux f x ∧ (x ≠ 0 → 2 ^ Lib.bitLenAux f x ≤ 2 * x) ∧ Lib.bitLenAux f x ≤ f
  | 0, x, h => by simp at h; subst h; simp [Lib.bitLenAux]
  | f + 1, x, h => by
    unfold Lib.bitLenAux
    by_cases hx : x = 0
    · subst hx; simp
    · rw [if_neg hx]
      obtain ⟨a, b, c⟩ := bitLenAux_spec f (x / 2) (by rw [Nat.pow_succ] at h; omega)
      have e : 2 ^ (1 + Lib.bitLenAux f (x / 2)) = 2 * 2 ^ Lib.bitLenAux f (x / 2) := by rw [Nat.add_comm, Nat.pow_succ]; omega
      refine ⟨by rw [e]; omega, fun _ => ?_, by omega⟩
      rw [e]
      by_cases hz : x / 2 = 0
      · rw [hz]; have : Lib.bitLenAux f 0 = 0 := by cases f <;> simp [Lib.bitLenAux]
        rw [this]; omega
      · have := b hz; omega
theorem lead_spec (y : Nat) (h0 : y ≠ 0) (h : y < 18446744073709551616) : ∃ s : Nat, s ≤ 63 ∧ (64 - (Lib.bitLen y : Int)) = (s : Int) ∧ 9223372036854775808 ≤ y * 2 ^ s ∧ y * 2 ^ s < 18446744073709551616 := by
  obtain ⟨a, b, c⟩ := bitLenAux_spec 64 y h
  have p := bitLen_pos h0
  change y < 2 ^ Lib.bitLen y at a
  have b' : 2 ^ Lib.bitLen y ≤ 2 * y := b h0
  change Lib.bitLen y ≤ 64 at c
  refine ⟨64 - Lib.bitLen y, by omega, by omega, ?_, ?_⟩
  · have e : 2 ^ Lib.bitLen y * 2 ^ (64 - Lib.bitLen y) = 18446744073709551616 := by rw [← Nat.pow_add, show Lib.bitLen y + (64 - Lib.bitLen y) = 64 by omega]
    have := Nat.mul_le_mul_right (2 ^ (64 - Lib.bitLen y)) b'
    rw [e, Nat.mul_assoc] at this
    omega
  · have e : 2 ^ Lib.bitLen y * 2 ^ (64 - Lib.bitLen y) = 18446744073709551616 := by rw [← Nat.pow_add, show Lib.bitLen y + (64 - Lib.bitLen y) = 64 by omega]
    have := Nat.mul_lt_mul_of_pos_right a (Nat.two_pow_pos (64 - Lib.bitLen y))
    rw [e] at this
    exact this
theorem div64_zero (l y : Int) (hl : Word l) (hy : Word y) (h0 : y ≠ 0) (w : World) :
    Calls Try.prog 33 #[.int .u64 0, .int .u64 l, .int .u64 y] w fun e w' => e = .returned (.tuple #[.int .u64 (l / y), .int .u64 (l % y)]) ∧ ∃ nq, w.drewN nq = w' := by
  obtain ⟨l0, l1⟩ := hl; obtain ⟨y0, y1⟩ := hy
  have e0 : (y == 0) = false := by simp [h0]
  have e1 : 0 < y := by omega
  go_enter Try.func33, Try.ntmps33
  go_wp2_with fail
  go_quiet (fail)
  go_wp2_with fail
  go_ret2
  exact ⟨rfl, _, rfl⟩

set_option maxRecDepth 100000 in
set_option maxHeartbeats 1000000 in
theorem div64_walk (h l y : Int) (s : Nat) (hh : 0 ≤ h) (hl0 : 0 ≤ l) (hl : l < 18446744073709551616) (h0 : h < y) (hp : h ≠ 0) (hy : y < 18446744073709551616) (hs : s ≤ 63) (he : (64 - (Lib.bitLen y.toNat : Int)) = (s : Int))
    (D d1 d0 U L u1 u0 r Q1 V r' Q2 R : Int) (hD : y * 2 ^ s = D) (hD0 : 9223372036854775808 ≤ D) (hD1 : D < 18446744073709551616)
    (x1 : D / 4294967296 = d1) (x2 : bits .and .u64 D 4294967295 = d0) (x3 : bits .or .u64 (IntKind.u64.wrap (h * 2 ^ s)) (l / 2 ^ (64 - s)) = U) (x4 : IntKind.u64.wrap (l * 2 ^ s) = L) (x5 : L / 4294967296 = u1) (x6 : bits .and .u64 L 4294967295 = u0) (hL0 : 0 ≤ L) (hL1 : L < 18446744073709551616) (hU0 : 0 ≤ U) (hU1 : U < 18446744073709551616)
    (A1 : KArg U d1 d0 u1 Q1) (x8 : U - U / d1 * d1 = r) (b7 : 0 ≤ U / d1 ∧ U / d1 ≤ 4294967297) (b8 : 0 ≤ U / d1 * d1 ∧ U / d1 * d1 ≤ U) (I1 : KInv U d1 d0 u1 Q1 (U / d1) r) (c1 : 0 ≤ Q1 ∧ Q1 ≤ 4294967295)
    (x9 : IntKind.u64.wrap (IntKind.u64.wrap (IntKind.u64.wrap (U * 4294967296) + u1) - IntKind.u64.wrap (Q1 * D)) = V) (hV0 : 0 ≤ V) (hV1 : V < 18446744073709551616)
    (A2 : KArg V d1 d0 u0 Q2) (y8 : V - V / d1 * d1 = r') (d7 : 0 ≤ V / d1 ∧ V / d1 ≤ 4294967297) (d8 : 0 ≤ V / d1 * d1 ∧ V / d1 * d1 ≤ V) (I2 : KInv V d1 d0 u0 Q2 (V / d1) r') (c2 : 0 ≤ Q2 ∧ Q2 ≤ 4294967295)
    (y9 : IntKind.u64.wrap (IntKind.u64.wrap (IntKind.u64.wrap (V * 4294967296) + u0) - IntKind.u64.wrap (Q2 * D)) = R) (hR0 : 0 ≤ R)
    (w : World) :
    Calls Try.prog 33 #[.int .u64 h, .int .u64 l, .int .u64 y] w fun e w' => e = .returned (.tuple #[.int .u64 (Q1 * 4294967296 + Q2), .int .u64 (R / 2 ^ s)]) ∧ ∃ nq, w.drewN nq = w' := by
  have e0 : (y == 0) = false := by simp; omega
  have e1 : (h == 0) = false := by simp [hp]
  have e2 : 0 ≤ y := by omega
  have e3 : min s 64 = s := by omega
  have f1 := A1.d10; have f2 := A1.d11; have f3 := A1.d00; have f4 := A1.d01; have f5 := A1.v0; have f6 := A1.v1
  have e4 : 1 ≤ d1 := by omega
  obtain ⟨b70, b71⟩ := b7; obtain ⟨b80, b81⟩ := b8
  obtain ⟨d70, d71⟩ := d7; obtain ⟨d80, d81⟩ := d8; obtain ⟨c10, c11⟩ := c1; obtain ⟨c20, c21⟩ := c2
  have f7 := A2.v0; have f8 := A2.v1
  have HE := Lib.hid he
  clear he
  go_enter Try.func33, Try.ntmps33
  go_upto_block 0 with (go_at_call 36; refine (Try.bits_LeadingZeros64 _ _ (by omega) (by omega)).mono ?_; rintro e w' ⟨rfl, hw⟩; rw [hw, HE.out])
  go_cut [15, 16] from 67 to 85 (fun a b wx => a = .int .u64 Q1 ∧ (∃ z, b = .int .u64 z) ∧ w = wx)
  case first =>
    go_wp2
    go_loop [15, 16] (fun a b => ∃ q r : Int, a = .int .u64 q ∧ b = .int .u64 r ∧ KInv U d1 d0 u1 Q1 q r) (fun a _ => (intOf a).toNat)
    case atStart => exact ⟨_, _, rfl, rfl, I1⟩
    case round =>
      obtain ⟨q2, r2, rfl, rfl, k⟩ := hrel
      have k0 := k.q0; have k1 := k.q1; have k2 := k.r0; have k3 := k.r1
      by_cases t1 : 4294967296 ≤ q2
      · have m := k.more A1 (Or.inl t1)
        have m2 := m.2.1
        by_cases t3 : 4294967296 ≤ r2 + d1
        · have st := k.stop A1 (Or.inl t1) t3
          have ST := Lib.hid st
          clear st m
          go_wp2
          go_meet
          exact ⟨by rw [ST.out], ⟨_, rfl⟩, rfl⟩
        · have ro := k.round A1 (Or.inl t1) t3
          clear m
          go_wp2
          go_round
          case rel => exact ⟨_, _, rfl, rfl, ro⟩
          case measure => simp [intOf]; omega
      · obtain ⟨g1, g2⟩ := k.fits A1 t1
        by_cases t2 : 4294967296 * r2 + u1 < q2 * d0
        · have m := k.more A1 (Or.inr t2)
          have m2 := m.2.1
          by_cases t3 : 4294967296 ≤ r2 + d1
          · have st := k.stop A1 (Or.inr t2) t3
            have ST := Lib.hid st
            clear st m
            go_wp2
            go_meet
            exact ⟨by rw [ST.out], ⟨_, rfl⟩, rfl⟩
          · have ro := k.round A1 (Or.inr t2) t3
            clear m
            go_wp2
            go_round
            case rel => exact ⟨_, _, rfl, rfl, ro⟩
            case measure => simp [intOf]; omega
        · have dn := k.done A1 t2
          have DN := Lib.hid dn
          clear dn
          go_wp2
          go_meet
          exact ⟨by rw [DN.out], ⟨_, rfl⟩, rfl⟩
  case rest =>
    obtain ⟨rfl, ⟨z, rfl⟩, rfl⟩ := hcut
    go_upto_block 2 with fail
    go_cut [18, 16] from 102 to 120 (fun a b wx => a = .int .u64 Q2 ∧ (∃ z, b = .int .u64 z) ∧ w = wx)
    case first =>
      go_wp2
      go_loop [18, 16] (fun a b => ∃ q r : Int, a = .int .u64 q ∧ b = .int .u64 r ∧ KInv V d1 d0 u0 Q2 q r) (fun a _ => (intOf a).toNat)
      case atStart => exact ⟨_, _, rfl, rfl, I2⟩
      case round =>
        obtain ⟨q2, r2, rfl, rfl, k⟩ := hrel
        have k0 := k.q0; have k1 := k.q1; have k2 := k.r0; have k3 := k.r1
        by_cases t1 : 4294967296 ≤ q2
        · have m := k.more A2 (Or.inl t1)
          have m2 := m.2.1
          by_cases t3 : 4294967296 ≤ r2 + d1
          · have st := k.stop A2 (Or.inl t1) t3
            have ST := Lib.hid st
            clear st m
            go_wp2
            go_meet
            exact ⟨by rw [ST.out], ⟨_, rfl⟩, rfl⟩
          · have ro := k.round A2 (Or.inl t1) t3
            clear m
            go_wp2
            go_round
            case rel => exact ⟨_, _, rfl, rfl, ro⟩
            case measure => simp [intOf]; omega
        · obtain ⟨g1, g2⟩ := k.fits A2 t1
          by_cases t2 : 4294967296 * r2 + u0 < q2 * d0
          · have m := k.more A2 (Or.inr t2)
            have m2 := m.2.1
            by_cases t3 : 4294967296 ≤ r2 + d1
            · have st := k.stop A2 (Or.inr t2) t3
              have ST := Lib.hid st
              clear st m
              go_wp2
              go_meet
              exact ⟨by rw [ST.out], ⟨_, rfl⟩, rfl⟩
            · have ro := k.round A2 (Or.inr t2) t3
              clear m
              go_wp2
              go_round
              case rel => exact ⟨_, _, rfl, rfl, ro⟩
              case measure => simp [intOf]; omega
          · have dn := k.done A2 t2
            have DN := Lib.hid dn
            clear dn
            go_wp2
            go_meet
            exact ⟨by rw [DN.out], ⟨_, rfl⟩, rfl⟩
    case rest =>
      obtain ⟨rfl, ⟨z2, rfl⟩, rfl⟩ := hcut
      go_wp2
      go_ret2
      exact ⟨rfl, 0, rfl⟩

theorem wrap_u64_id (n : Int) (h0 : 0 ≤ n) (h : n < 18446744073709551616) : IntKind.u64.wrap n = n := by rw [IntKind.wrap_u64]; omega
theorem wrap_u64_mod (n : Int) : IntKind.u64.wrap n = n % 18446744073709551616 := by rw [IntKind.wrap_u64]
/-- the upper half of what is shifted -/
theorem shift_split (h l : Int) (s : Nat) (hs : s ≤ 63) (hl0 : 0 ≤ l) (hl : l < 18446744073709551616) :
    (h * 18446744073709551616 + l) * 2 ^ s = (h * 2 ^ s + l / 2 ^ (64 - s)) * 18446744073709551616 + l * 2 ^ s % 18446744073709551616 ∧ 0 ≤ l / 2 ^ (64 - s) ∧ l / 2 ^ (64 - s) < 2 ^ s := by
  have hST : (2 : Int) ^ s * 2 ^ (64 - s) = 18446744073709551616 := by rw [← Int.pow_add, show s + (64 - s) = 64 by omega]; rfl
  have hS : (0 : Int) < 2 ^ s := Int.pow_pos (by omega)
  have hT : (0 : Int) < 2 ^ (64 - s) := Int.pow_pos (by omega)
  generalize (2 : Int) ^ s = S at *
  generalize (2 : Int) ^ (64 - s) = T at *
  have e1 : l * S / 18446744073709551616 = l / T := by
    rw [← hST, Int.mul_comm l S, Int.mul_ediv_mul_of_pos _ _ hS]
  have e2 : (h * 18446744073709551616 + l) * S = h * S * 18446744073709551616 + l * S := by rw [Int.add_mul, Int.mul_assoc, Int.mul_comm _ S, ← Int.mul_assoc]
  refine ⟨by rw [e2]; omega, Int.ediv_nonneg hl0 (by omega), Int.ediv_lt_of_lt_mul hT (by rw [hST]; exact hl)⟩

theorem div64_any (h l y : Int) (hh : 0 ≤ h) (hl : Word l) (h0 : h < y) (hy : y < 18446744073709551616) (w : World) :
    Calls Try.prog 33 #[.int .u64 h, .int .u64 l, .int .u64 y] w fun e w' => e = .returned (.tuple #[.int .u64 ((h * 18446744073709551616 + l) / y), .int .u64 ((h * 18446744073709551616 + l) % y)]) ∧ ∃ nq, w.drewN nq = w' := by
  by_cases hz : h = 0
  · subst hz
    have := div64_zero l y hl ⟨by omega, hy⟩ (by omega) w
    simpa using this
  obtain ⟨hl0, hl1⟩ := hl
  obtain ⟨yn, rfl⟩ := Int.eq_ofNat_of_zero_le (show 0 ≤ y by omega)
  obtain ⟨s, hs, he, b1, b2⟩ := lead_spec yn (by omega) (by omega)
  obtain ⟨sh, q0, q1⟩ := shift_split h l s hs hl0 hl1
  have eD : ((yn * 2 ^ s : Nat) : Int) = (yn : Int) * 2 ^ s := by simp
  have hS : (0 : Int) < 2 ^ s := Int.pow_pos (by omega)
  have hyS : (h + 1) * 2 ^ s ≤ (yn : Int) * 2 ^ s := Int.mul_le_mul_of_nonneg_right (by omega) (by omega)
  rw [Int.add_mul, Int.one_mul] at hyS
  have hh2 : 0 ≤ h * 2 ^ s := Int.mul_nonneg hh (by omega)
  have w1 : IntKind.u64.wrap (h * 2 ^ s) = h * 2 ^ s := wrap_u64_id _ hh2 (by omega)
  have x3 : bits .or .u64 (IntKind.u64.wrap (h * 2 ^ s)) (l / 2 ^ (64 - s)) = h * 2 ^ s + l / 2 ^ (64 - s) := by
    rw [w1]
    exact bits_join .u64 64 (by decide) (fun n a b => wrap_u64_id n a b) s _ _ hh2 (Int.mul_emod_left _ _) (by show _ < (18446744073709551616 : Int); omega) q0 q1 (by show _ < (18446744073709551616 : Int); omega)
  have x4 := wrap_u64_mod (l * 2 ^ s)
  generalize hL : l * 2 ^ s % 18446744073709551616 = L at *
  have L0 : 0 ≤ L := by omega
  have L1 : L < 18446744073709551616 := by omega
  generalize hD : (yn : Int) * 2 ^ s = D at *
  generalize hU : h * 2 ^ s + l / 2 ^ (64 - s) = U at *
  have x2 := and_low32 D (by omega) (by omega)
  have x6 := and_low32 L L0 L1
  have dd : D / 4294967296 * 4294967296 + D % 4294967296 = D := by omega
  have A1 : KArg U (D / 4294967296) (D % 4294967296) (L / 4294967296) ((U * 4294967296 + L / 4294967296) / D) :=
    ⟨by omega, by omega, by omega, by omega, by omega, by omega, by omega, by omega, by rw [dd]⟩
  have I1 := A1.init
  have c10 := A1.Q0; have c11 := A1.Q1; have m1 := A1.mod
  rw [dd] at m1
  generalize hQ1 : (U * 4294967296 + L / 4294967296) / D = Q1 at *
  have i1 := I1.eq; have i2 := I1.r0; have i3 := I1.r1; have i4 := I1.q0; have i5 := I1.q1
  generalize hV : U * 4294967296 + L / 4294967296 - Q1 * D = V at *
  have x9 : IntKind.u64.wrap (IntKind.u64.wrap (IntKind.u64.wrap (U * 4294967296) + L / 4294967296) - IntKind.u64.wrap (Q1 * D)) = V := by
    simp only [wrap_u64_mod]; omega
  have A2 : KArg V (D / 4294967296) (D % 4294967296) (L % 4294967296) ((V * 4294967296 + L % 4294967296) / D) :=
    ⟨by omega, by omega, by omega, by omega, by omega, by omega, by omega, by omega, by rw [dd]⟩
  have I2 := A2.init
  have c20 := A2.Q0; have c21 := A2.Q1; have m2 := A2.mod
  rw [dd] at m2
  generalize hQ2 : (V * 4294967296 + L % 4294967296) / D = Q2 at *
  have j1 := I2.eq; have j2 := I2.r0; have j3 := I2.r1; have j4 := I2.q0; have j5 := I2.q1
  have y9 : IntKind.u64.wrap (IntKind.u64.wrap (IntKind.u64.wrap (V * 4294967296) + L % 4294967296) - IntKind.u64.wrap (Q2 * D)) = V * 4294967296 + L % 4294967296 - Q2 * D := by
    simp only [wrap_u64_mod]; omega
  have fin := knuth_end h l yn (2 ^ s) D U L (L / 4294967296) (L % 4294967296) Q1 V Q2 hS hD (by omega) sh (by omega) hV m2.1 m2.2
  rw [fin.1, fin.2]
  exact div64_walk h l yn s hh hl0 hl1 h0 hz hy hs (by rw [Int.toNat_natCast]; exact he) D _ _ U L _ _ _ Q1 V _ Q2 _ hD (by omega) (by omega) rfl x2 x3 x4 rfl x6 L0 L1 (by omega) (by omega) A1 rfl ⟨i4, i5⟩ ⟨Int.mul_nonneg i4 (by omega), by omega⟩ I1 ⟨c10, by omega⟩
    x9 (by omega) (by omega) A2 rfl ⟨j4, j5⟩ ⟨Int.mul_nonneg j4 (by omega), by omega⟩ I2 ⟨c20, by omega⟩ y9 (by omega) w

end Go.Proofs.Ytfcplfbofobdpaa
