/-
  The contract of digits.ReadHex.
-/
import Derived.Test.YthjobjfnakfliaaRefReadHex
import Derived.Test.YthjobjfnakfliaaShelf
namespace Go.Proofs.Ythjobjfnakfliaa
open Go.RowKit
set_option linter.unusedVariables false

def figOf (b : UInt8) : Int := match hval b.toNat with
  | some d => (d : Int)
  | none => -1
theorem figOf_some {b : UInt8} {d : Nat} (h : hval b.toNat = some d) : figOf b = (d : Int) := by unfold figOf; rw [h]
theorem figOf_none {b : UInt8} (h : hval b.toNat = none) : figOf b = -1 := by unfold figOf; rw [h]
theorem index_fig (b : UInt8) : Lib.indexByte figs.data.toList ((b.toNat : Int).toNat.toUInt8) = figOf b := by
  have k : ∀ b : Fin 256, Lib.indexByte figs.data.toList (((UInt8.ofNat b.val).toNat : Int).toNat.toUInt8) = figOf (UInt8.ofNat b.val) := by decide +kernel
  have := k ⟨b.toNat, b.toNat_lt⟩
  simpa using this
theorem indexfig_any (b : UInt8) (w : World) : Calls Try.prog 28 #[.string figs, .int .u8 (b.toNat : Int)] w fun e w' => e = .returned (.int .i64 (figOf b)) ∧ w' = w := by
  have h := Try.strings_IndexByte figs (b.toNat : Int) w
  rw [index_fig] at h
  exact h

def hres2 : Option Nat → Value
  | none => .tuple #[.int .u64 0, .int .i64 5]
  | some v => .tuple #[.int .u64 (v : Nat), .int .i64 0]

attribute [irreducible] figOf
set_option maxHeartbeats 600000 in
set_option maxRecDepth 100000 in
theorem readhex_any (s : ByteArray) (hs : s.size ≤ maxLen) (w : World) : Calls Try.prog 17 #[.string s] w fun e w' => e = .returned (hres2 (hread s)) ∧ Below w.heap.size w w' := by
  unfold maxLen at hs
  by_cases c : s.size = 16
  · have e1 : ((s.size : Int) == 16) = true := by simp [c]
    have HR := Lib.hid (show hread s = hrun 0 s.toList by unfold hread; rw [if_pos c])
    have SZ := Lib.hid c
    clear c
    go_enter Try.func17, Try.ntmps17
    go_wp2_with fail
    rename_i hq hK hA
    clear hq e1
    go_loopw [4, 5, 6, 10] (fun z _ _ i wr => ∃ k v : Nat, k ≤ 16 ∧ i = .int .i64 k ∧ z = .int .u64 v ∧ v < 16 ^ k ∧ hread s = hrun v (s.toList.drop k) ∧ Below w.heap.size w wr) (fun _ _ _ i _ => 16 - (intOf i).toNat)
    case atStart => exact ⟨0, 0, by omega, rfl, rfl, by simp, HR.out, (by repeat (first | exact Below.refl _ _ | (with_reducible assumption) | refine bAlloc ?_ _ | refine below_drewN ?_ _ | refine Below.drew ?_ | (refine bSet ?_ (by first | (dsimp only; omega) | (simp; done) | (simp; omega)) _) | refine bTrans ?_ (by assumption)))⟩
    case round =>
      obtain ⟨k, v, hk, rfl, rfl, lt, eq, bel⟩ := hrel
      by_cases hlt : k < 16
      · have hks : k < s.size := by rw [SZ.out]; exact hlt
        have dc := drop_cons hks
        have v15 := pow16_lt lt hlt
        have EQ := Lib.hid eq
        have DC := Lib.hid dc
        have LT := Lib.hid lt
        clear eq dc lt
        generalize hb : s[k] = b at *
        have IB := Lib.hid (fun w => indexfig_any b w)
        have HB := Lib.hid hb
        have cl : (b.toNat : Int) < 256 := by have := b.toNat_lt; omega
        have w1 : IntKind.u64.wrap ((v : Int) * 16) = (v : Int) * 16 := by rw [IntKind.wrap_u64]; omega
        cases hv : hval b.toNat with
        | some d =>
          have ld := hval_lt hv
          have w2 : IntKind.u64.wrap (d : Int) = (d : Int) := by rw [IntKind.wrap_u64]; omega
          have w3 : IntKind.u64.wrap ((v : Int) * 16 + (d : Int)) = ((v * 16 + d : Nat) : Int) := by rw [IntKind.wrap_u64]; omega
          have st : hread s = hrun (v * 16 + d) (s.toList.drop (k + 1)) := by rw [EQ.out, DC.out, hrun_go hv]
          have ST := Lib.hid st
          have LN := Lib.hid (pow16_step LT.out ld)
          have FO := Lib.hid (figOf_some hv)
          clear st hv
          go_wp2_with (go_at_call 28; refine (IB.out _).mono ?_; rintro e w1 ⟨rfl, rfl⟩; rw [FO.out])
          go_roundw
          case rel => exact ⟨k + 1, _, by omega, by go_num, rfl, LN.out, ST.out, (by repeat (first | exact Below.refl _ _ | (with_reducible assumption) | refine bAlloc ?_ _ | refine below_drewN ?_ _ | refine Below.drew ?_ | (refine bSet ?_ (by first | (dsimp only; omega) | (simp; done) | (simp; omega)) _) | refine bTrans ?_ (by assumption)))⟩
          case measure => simp [intOf]; omega
        | none =>
          have st : hread s = none := by rw [EQ.out, DC.out, hrun_stop hv]
          have ST := Lib.hid st
          have FO := Lib.hid (figOf_none hv)
          clear st hv
          go_wp2_with (go_at_call 28; refine (IB.out _).mono ?_; rintro e w1 ⟨rfl, rfl⟩; rw [FO.out])
          go_ret2
          exact ⟨by rw [ST.out]; rfl, (by repeat (first | exact Below.refl _ _ | (with_reducible assumption) | refine bAlloc ?_ _ | refine below_drewN ?_ _ | refine Below.drew ?_ | (refine bSet ?_ (by first | (dsimp only; omega) | (simp; done) | (simp; omega)) _) | refine bTrans ?_ (by assumption)))⟩
      · obtain rfl : k = 16 := by omega
        have fin : hread s = some v := by rw [eq, ← SZ.out, drop_end]; rfl
        have FIN := Lib.hid fin
        clear fin eq lt
        go_wp2
        go_ret2
        exact ⟨by rw [FIN.out]; rfl, (by repeat (first | exact Below.refl _ _ | (with_reducible assumption) | refine bAlloc ?_ _ | refine below_drewN ?_ _ | refine Below.drew ?_ | (refine bSet ?_ (by first | (dsimp only; omega) | (simp; done) | (simp; omega)) _) | refine bTrans ?_ (by assumption)))⟩
  · have e1 : ((s.size : Int) == 16) = false := beq_eq_false_iff_ne.2 (by omega)
    have HR := Lib.hid (show hread s = none by unfold hread; rw [if_neg c])
    clear c
    go_enter Try.func17, Try.ntmps17
    go_wp2_with fail
    go_ret2
    exact ⟨by rw [HR.out]; rfl, (by repeat (first | exact Below.refl _ _ | (with_reducible assumption) | refine bAlloc ?_ _ | refine below_drewN ?_ _ | refine Below.drew ?_ | (refine bSet ?_ (by first | (dsimp only; omega) | (simp; done) | (simp; omega)) _) | refine bTrans ?_ (by assumption)))⟩

end Go.Proofs.Ythjobjfnakfliaa
