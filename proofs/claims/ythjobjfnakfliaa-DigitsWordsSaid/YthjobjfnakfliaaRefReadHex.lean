/-
  The contract of haymowref03.ReadHex.
-/
import Derived.Test.YthjobjfnakfliaaReadHex
namespace Go.Proofs.Ythjobjfnakfliaa
open Go.RowKit
set_option linter.unusedVariables false

/-- a text's word, if it is one's -/
def hread (s : ByteArray) : Option Nat := if s.size = 16 then hrun 0 s.toList else none
def hres : Option Nat → Value
  | none => .tuple #[.int .u64 0, .bool false]
  | some v => .tuple #[.int .u64 (v : Nat), .bool true]
theorem hrun_go {v d : Nat} {c : UInt8} {l : List UInt8} (h : hval c.toNat = some d) : hrun v (c :: l) = hrun (v * 16 + d) l := by rw [hrun, h]
theorem hrun_stop {v : Nat} {c : UInt8} {l : List UInt8} (h : hval c.toNat = none) : hrun v (c :: l) = none := by rw [hrun, h]
theorem hval_cases (c : Nat) : (48 ≤ c ∧ c ≤ 57 ∧ hval c = some (c - 48)) ∨ (97 ≤ c ∧ c ≤ 102 ∧ hval c = some (c - 87)) ∨ (¬ (48 ≤ c ∧ c ≤ 57) ∧ ¬ (97 ≤ c ∧ c ≤ 102) ∧ hval c = none) := by
  unfold hval
  by_cases h1 : 48 ≤ c ∧ c ≤ 57
  · left; exact ⟨h1.1, h1.2, by rw [if_pos h1]⟩
  · by_cases h2 : 97 ≤ c ∧ c ≤ 102
    · right; left; exact ⟨h2.1, h2.2, by rw [if_neg h1, if_pos h2]⟩
    · right; right; exact ⟨h1, h2, by rw [if_neg h1, if_neg h2]⟩
theorem pow16_succ (k : Nat) : 16 ^ (k + 1) = 16 ^ k * 16 := Nat.pow_succ ..
theorem pow16_step {v k d : Nat} (h : v < 16 ^ k) (hd : d < 16) : v * 16 + d < 16 ^ (k + 1) := by rw [pow16_succ]; omega
theorem pow16_lt {v k : Nat} (h : v < 16 ^ k) (hk : k < 16) : v < 1152921504606846976 := by
  have : 16 ^ k ≤ 16 ^ 15 := Nat.pow_le_pow_right (by omega) (by omega)
  have e : 16 ^ 15 = 1152921504606846976 := by decide
  omega

set_option maxHeartbeats 600000 in
set_option maxRecDepth 100000 in
theorem refreadhex_any (s : ByteArray) (hs : s.size ≤ maxLen) (w : World) : Calls Try.prog 18 #[.string s] w fun e w' => e = .returned (hres (hread s)) ∧ Below w.heap.size w w' := by
  unfold maxLen at hs
  by_cases c : s.size = 16
  · have e1 : ((s.size : Int) == 16) = true := by simp [c]
    have HR := Lib.hid (show hread s = hrun 0 s.toList by unfold hread; rw [if_pos c])
    have SZ := Lib.hid c
    clear c
    go_enter Try.func18, Try.ntmps18
    go_wp2_with fail
    go_loop [4, 5, 6] (fun z i _ => ∃ k v : Nat, k ≤ 16 ∧ i = .int .i64 k ∧ z = .int .u64 v ∧ v < 16 ^ k ∧ hread s = hrun v (s.toList.drop k)) (fun _ i _ => 16 - (intOf i).toNat)
    case atStart => exact ⟨0, 0, by omega, rfl, rfl, by simp, HR.out⟩
    case round =>
      obtain ⟨k, v, hk, rfl, rfl, lt, eq⟩ := hrel
      by_cases hlt : k < 16
      · have hks : k < s.size := by rw [SZ.out]; exact hlt
        have cs := hval_cases s[k].toNat
        have dc := drop_cons hks
        have v15 := pow16_lt lt hlt
        have EQ := Lib.hid eq
        have DC := Lib.hid dc
        have LT := Lib.hid lt
        clear eq dc lt
        generalize hb : s[k] = b at *
        have HB := Lib.hid hb
        have cl : (b.toNat : Int) < 256 := by have := b.toNat_lt; omega
        have w1 : IntKind.u64.wrap ((v : Int) * 16) = (v : Int) * 16 := by rw [IntKind.wrap_u64]; omega
        have w2 : IntKind.u64.wrap (b.toNat : Int) = (b.toNat : Int) := by rw [IntKind.wrap_u64]; omega
        rcases cs with ⟨c1, c2, c3⟩ | ⟨c1, c2, c3⟩ | ⟨c1, c2, c3⟩
        · have d1 : (48 : Int) ≤ (b.toNat : Int) := by omega
          have d2 : (b.toNat : Int) ≤ 57 := by omega
          have w4 : IntKind.u64.wrap (IntKind.u64.wrap ((v : Int) * 16 + (b.toNat : Int)) - 48) = ((v * 16 + (b.toNat - 48) : Nat) : Int) := by clear w1 w2; rw [IntKind.wrap_u64, IntKind.wrap_u64]; omega
          have st : hread s = hrun (v * 16 + (b.toNat - 48)) (s.toList.drop (k + 1)) := by rw [EQ.out, DC.out, hrun_go c3]
          have ST := Lib.hid st
          have LN := Lib.hid (pow16_step LT.out (hval_lt c3))
          clear c1 c2 c3 st
          go_wp2
          go_round
          case rel => exact ⟨k + 1, _, by omega, by go_num, rfl, LN.out, ST.out⟩
          case measure => simp [intOf]; omega
        · have d1 : (97 : Int) ≤ (b.toNat : Int) := by omega
          have d2 : (b.toNat : Int) ≤ 102 := by omega
          have d3 : ¬ (b.toNat : Int) ≤ 57 := by omega
          have d4 : (48 : Int) ≤ (b.toNat : Int) := by omega
          have w4 : IntKind.u64.wrap (IntKind.u64.wrap ((v : Int) * 16 + (b.toNat : Int)) - 87) = ((v * 16 + (b.toNat - 87) : Nat) : Int) := by clear w1 w2; rw [IntKind.wrap_u64, IntKind.wrap_u64]; omega
          have st : hread s = hrun (v * 16 + (b.toNat - 87)) (s.toList.drop (k + 1)) := by rw [EQ.out, DC.out, hrun_go c3]
          have ST := Lib.hid st
          have LN := Lib.hid (pow16_step LT.out (hval_lt c3))
          clear c1 c2 c3 st
          go_wp2
          go_round
          case rel => exact ⟨k + 1, _, by omega, by go_num, rfl, LN.out, ST.out⟩
          case measure => simp [intOf]; omega
        · have st : hread s = none := by rw [EQ.out, DC.out, hrun_stop c3]
          have ST := Lib.hid st
          have cs : (b.toNat : Int) < 48 ∨ (48 ≤ (b.toNat : Int) ∧ 57 < (b.toNat : Int) ∧ (b.toNat : Int) < 97) ∨ (48 ≤ (b.toNat : Int) ∧ 57 < (b.toNat : Int) ∧ 97 ≤ (b.toNat : Int) ∧ 102 < (b.toNat : Int)) := by omega
          clear c1 c2 c3 st
          rcases cs with d1 | ⟨d1, d2, d3⟩ | ⟨d1, d2, d3, d4⟩
          · have d2 : ¬ (48 : Int) ≤ (b.toNat : Int) := by omega
            have d3 : ¬ (97 : Int) ≤ (b.toNat : Int) := by omega
            go_wp2
            go_ret2
            exact ⟨by rw [ST.out]; rfl, (by repeat (first | exact Below.refl _ _ | (with_reducible assumption) | refine bAlloc ?_ _ | refine below_drewN ?_ _ | refine Below.drew ?_ | (refine bSet ?_ (by first | (dsimp only; omega) | (simp; done) | (simp; omega)) _) | refine bTrans ?_ (by assumption)))⟩
          · have d4 : ¬ (b.toNat : Int) ≤ 57 := by omega
            have d5 : ¬ (97 : Int) ≤ (b.toNat : Int) := by omega
            go_wp2
            go_ret2
            exact ⟨by rw [ST.out]; rfl, (by repeat (first | exact Below.refl _ _ | (with_reducible assumption) | refine bAlloc ?_ _ | refine below_drewN ?_ _ | refine Below.drew ?_ | (refine bSet ?_ (by first | (dsimp only; omega) | (simp; done) | (simp; omega)) _) | refine bTrans ?_ (by assumption)))⟩
          · have d5 : ¬ (b.toNat : Int) ≤ 57 := by omega
            have d6 : ¬ (b.toNat : Int) ≤ 102 := by omega
            go_wp2
            go_ret2
            exact ⟨by rw [ST.out]; rfl, (by repeat (first | exact Below.refl _ _ | (with_reducible assumption) | refine bAlloc ?_ _ | refine below_drewN ?_ _ | refine Below.drew ?_ | (refine bSet ?_ (by first | (dsimp only; omega) | (simp; done) | (simp; omega)) _) | refine bTrans ?_ (by assumption)))⟩
      · obtain rfl : k = 16 := by omega
        have fin : hread s = some v := by rw [eq, ← SZ.out, drop_end]; rfl
        have FIN := Lib.hid fin
        clear fin eq lt
        go_wp2
        go_ret2
        exact ⟨by rw [FIN.out]; rfl, (by repeat (first | exact Below.refl _ _ | (with_reducible assumption) | refine bAlloc ?_ _ | refine below_drewN ?_ _ | refine Below.drew ?_ | (refine bSet ?_ (by first | (dsimp only; omega) | (simp; done) | (simp; omega)) _) | refine bTrans ?_ (by assumption)))⟩
  · have e1 : ((s.size : Int) == 16) = false := beq_eq_false_iff_ne.2 (by omega)
    have HR := Lib.hid (show hread s = none by unfold hread; rw [if_neg c])
    clear c
    go_enter Try.func18, Try.ntmps18
    go_wp2_with fail
    go_ret2
    exact ⟨by rw [HR.out]; rfl, (by repeat (first | exact Below.refl _ _ | (with_reducible assumption) | refine bAlloc ?_ _ | refine below_drewN ?_ _ | refine Below.drew ?_ | (refine bSet ?_ (by first | (dsimp only; omega) | (simp; done) | (simp; omega)) _) | refine bTrans ?_ (by assumption)))⟩

end Go.Proofs.Ythjobjfnakfliaa
