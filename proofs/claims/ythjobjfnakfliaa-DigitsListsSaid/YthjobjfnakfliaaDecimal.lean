/-
  Contracts of digits.decimal, strings.CutPrefix at a sign.
-/
import Derived.Test.YthjobjfnakfliaaReads
import Derived.Test.YthjobjfnakfliaaText
import Derived.Test.YthjobjfnakfliaaShelf
namespace Go.Proofs.Ythjobjfnakfliaa
open Go.RowKit
set_option linter.unusedVariables false

set_option maxRecDepth 100000 in
theorem decimal_nohead (s : ByteArray) (w : World) (h : ¬ headOk s) : Calls Try.prog 22 #[.string s] w fun e w' => e = .returned (.bool false) ∧ w = w' := by
  by_cases c : s.size = 0
  · have e1 := is_nil c
    go_enter Try.func22, Try.ntmps22
    go_wp2_with fail
    go_ret
    exact ⟨rfl, rfl⟩
  · have e0 : 0 < s.size := by omega
    obtain ⟨e1, e2⟩ := not_nil e0
    have e3 : (s[0].toNat : Int) = 48 := by
      by_cases d : (s[0].toNat : Int) = 48
      · exact d
      · exact absurd ⟨e0, .inr d⟩ h
    have e4 : (!s.toList == [48]) = true := long_not fun d => h ⟨e0, .inl d⟩
    clear h
    go_enter Try.func22, Try.ntmps22
    go_wp2_with fail
    go_ret
    exact ⟨rfl, rfl⟩

set_option maxRecDepth 100000 in
theorem decimal_yes (s : ByteArray) (w : World) (hs : s.size ≤ 100000) (h : decP s) : Calls Try.prog 22 #[.string s] w fun e w' => e = .returned (.bool true) ∧ w = w' := by
  obtain ⟨⟨e0, hd⟩, hall⟩ := h
  obtain ⟨e1, e2⟩ := not_nil e0
  have HA := Lib.hid hall
  clear hall
  by_cases e3 : (s[0].toNat : Int) = 48
  all_goals
    first | (have e4 : (!s.toList == [48]) = false := one_zero (hd.resolve_right (fun k => k e3)) e3) | skip
    clear hd
    go_enter Try.func22, Try.ntmps22
    go_wp2_with fail
    go_loop [3, 17] (fun _ i => ∃ k : Nat, k ≤ s.size ∧ i = .int .i64 k) (fun _ i => s.size - (intOf i).toNat)
    case atStart => exact ⟨0, by omega, rfl⟩
    case round =>
      obtain ⟨k, hk, rfl⟩ := hrel
      by_cases hlt : k < s.size
      · obtain ⟨d0, d1⟩ := HA.out k hlt
        go_wp2
        go_round
        case rel => exact ⟨k + 1, by omega, by go_num⟩
        case measure => simp [intOf]; omega
      · go_wp2
        go_ret
        exact ⟨rfl, rfl⟩

set_option maxRecDepth 100000 in
theorem decimal_no (s : ByteArray) (w : World) (hs : s.size ≤ 100000) (hh : headOk s) (h : ¬ decP s) : Calls Try.prog 22 #[.string s] w fun e w' => e = .returned (.bool false) ∧ w = w' := by
  obtain ⟨i0, b1, b2, b3⟩ := bad_cases hh h
  obtain ⟨e0, hd⟩ := hh
  obtain ⟨e1, e2⟩ := not_nil e0
  have HA := Lib.hid b3
  have HB := Lib.hid b2
  clear b3 b2 h
  by_cases e3 : (s[0].toNat : Int) = 48
  all_goals
    first | (have e4 : (!s.toList == [48]) = false := one_zero (hd.resolve_right (fun k => k e3)) e3) | skip
    clear hd
    go_enter Try.func22, Try.ntmps22
    go_wp2_with fail
    go_loop [3, 17] (fun _ i => ∃ k : Nat, k ≤ i0 ∧ i = .int .i64 k) (fun _ i => s.size - (intOf i).toNat)
    case atStart => exact ⟨0, by omega, rfl⟩
    case round =>
      obtain ⟨k, hk, rfl⟩ := hrel
      have hlt : k < s.size := by omega
      by_cases hki : k < i0
      · obtain ⟨d0, d1⟩ := HA.out k hki hlt
        go_wp2
        go_round
        case rel => exact ⟨k + 1, by omega, by go_num⟩
        case measure => simp [intOf]; omega
      · obtain rfl : k = i0 := by omega
        have nb : (s[k].toNat : Int) < 48 ∨ 57 < (s[k].toNat : Int) := by
          have h := HB.out
          unfold isDig at h
          rcases Int.lt_or_le (s[k].toNat : Int) 48 with a | a
          · exact .inl a
          · rcases Int.lt_or_le 57 (s[k].toNat : Int) with b | b
            · exact .inr b
            · exact absurd (fun _ => ⟨a, b⟩) h
        rcases nb with nb | nb
        · go_wp2
          go_ret
          exact ⟨rfl, rfl⟩
        · have nb2 : ¬ (s[k].toNat : Int) < 48 := by omega
          go_wp2
          go_ret
          exact ⟨rfl, rfl⟩


theorem decimal_false (s : ByteArray) (hs : s.size ≤ 100000) (h : ¬ decP s) (w : World) : Calls Try.prog 22 #[.string s] w fun e w' => e = .returned (.bool false) ∧ w = w' := by
  by_cases hh : headOk s
  · exact decimal_no s w hs hh h
  · exact decimal_nohead s w hh

theorem cutprefix_any (s : ByteArray) (w : World) : Calls Try.prog 21 #[.string s, .string ⟨#[45]⟩] w fun e w' => e = .returned (.tuple #[.string (digsOf s), .bool (negOf s)]) ∧ w' = w := by
  have h := Try.strings_CutPrefix s ⟨#[45]⟩ w
  have e : ∀ l : List UInt8, (⟨(Lib.trimPrefix l [45]).toArray⟩ : ByteArray) = (if l.head? == some 45 then tailOf l.tail else tailOf l) ∧ Lib.hasPrefix l [45] = (l.head? == some 45) := by
    intro l
    cases l with
    | nil => exact ⟨rfl, rfl⟩
    | cons a b =>
      by_cases c : a = 45
      · subst c; exact ⟨rfl, rfl⟩
      · have c2 : ¬ (45 : UInt8) = a := fun h => c h.symm
        have c3 : ((45 : UInt8) == a) = false := beq_eq_false_iff_ne.2 c2
        simp [Lib.trimPrefix, Lib.hasPrefix, c, c3, tailOf, List.isPrefixOf]
  have e2 := e s.data.toList
  have e3 : (⟨#[45]⟩ : ByteArray).data.toList = [45] := rfl
  rw [e3, e2.1, e2.2, ← toList_data] at h
  have e4 : (if (s.toList.head? == some 45) = true then tailOf s.toList.tail else tailOf s.toList) = digsOf s := by unfold digsOf negOf; rw [tailOf_self]
  rw [e4] at h
  exact h

end Go.Proofs.Ythjobjfnakfliaa
