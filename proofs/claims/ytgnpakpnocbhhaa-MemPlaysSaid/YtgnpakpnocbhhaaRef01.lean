/-
  Contracts of package haymowref01.
-/
import Derived.Test.YtgnpakpnocbhhaaWide
import Derived.Test.YtgnpakpnocbhhaaRow
import Derived.LoopTactic
import Derived.Deep.QuietTactic
import Derived.BigQuiet
import Derived.WalkSmall
import Derived.Deep.RegionWith
import Derived.Deep.RegionHeld3
import Derived.Deep.DeepCutAuto
import Derived.Deep.CutBlock
namespace Go.Proofs.Ytgnpakpnocbhhaa
open Go.RowKit
set_option linter.unusedVariables false

/-- the four parts of a number -/
abbrev fv (a b c d : Int) : Value := .agg #[.int .u64 a, .int .u64 b, .int .u64 c, .int .u64 d, .int .u64 0, .int .u64 0]
theorem parts_any (a : Nat) (ha : N128 a) (w : World) : Calls Try.prog 59 #[wv a] w fun e w' => e = .returned (fv (lo a % 4294967296) (lo a / 4294967296) (hi a % 4294967296) (hi a / 4294967296)) ∧
    (w.alloc (.cells #[.int .u64 (hi a), .int .u64 (lo a)] 30)).alloc (.cells #[.int .u64 (lo a % 4294967296), .int .u64 (lo a / 4294967296), .int .u64 (hi a % 4294967296), .int .u64 (hi a / 4294967296), .int .u64 0, .int .u64 0] 114) = w' := by
  obtain ⟨a1, a2⟩ := word_hi ha; obtain ⟨b1, b2⟩ := word_lo a
  go_enter Try.func59, Try.ntmps59
  go_wp2_with fail
  exact bodyPost_ret (v := fv (lo a % 4294967296) (lo a / 4294967296) (hi a % 4294967296) (hi a / 4294967296)) (by simp [results, Try.results59, go_sem]) rfl ⟨rfl, rfl⟩

theorem refmost_any (w : World) : Calls Try.prog 61 #[] w fun e w' => e = .returned (.agg #[.int .u64 18446744073709551615, .int .u64 18446744073709551615]) ∧ w.alloc (.cells #[.int .u64 18446744073709551615, .int .u64 18446744073709551615] 30) = w' := by
  go_enter Try.func61, Try.ntmps61
  go_wp2
  exact bodyPost_ret (v := .agg #[.int .u64 18446744073709551615, .int .u64 18446744073709551615]) (by simp [results, Try.results61, go_sem]) rfl ⟨rfl, rfl⟩

/-- the parts of a number, as values -/
def fd (a j : Nat) : Value := .int .u64 (dig a j)
theorem fd_row (a : Nat) (ha : N128 a) (j : Nat) (hj : j < 6) : (#[Value.int .u64 (lo a % 4294967296), .int .u64 (lo a / 4294967296), .int .u64 (hi a % 4294967296), .int .u64 (hi a / 4294967296), .int .u64 0, .int .u64 0] : Array Value)[j]? = some (fd a j) := by
  have h : j = 0 ∨ j = 1 ∨ j = 2 ∨ j = 3 ∨ j = 4 ∨ j = 5 := by omega
  rcases h with rfl | rfl | rfl | rfl | rfl | rfl <;> simp [fd, dig0, dig1, dig2, dig3 ha, dig4 ha, dig5 ha]
theorem whole_any (s : Nat) (hs : s < 4294967296 ^ 6) (w : World) :
    Calls Try.prog 60 #[.agg #[.int .u64 (dig s 0), .int .u64 (dig s 1), .int .u64 (dig s 2), .int .u64 (dig s 3), .int .u64 (dig s 4), .int .u64 (dig s 5)]] w fun e w' => e = .returned (.tuple #[wv (capv s), .bool (okv s)]) ∧ Below w.heap.size w w' := by
  obtain ⟨a0, a1⟩ := dig_b s 0; obtain ⟨b0, b1⟩ := dig_b s 1; obtain ⟨c0, c1⟩ := dig_b s 2; obtain ⟨d0, d1⟩ := dig_b s 3
  by_cases h : N128 s
  · have h4 : (dig s 4 != 0) = false := by rw [dig4 h]; rfl
    have h5 : (dig s 5 != 0) = false := by rw [dig5 h]; rfl
    simp only [wv, capv_t h, okv_t h, ← whole_hi h, ← whole_lo s]
    clear h
    go_enter Try.func60, Try.ntmps60
    go_wp2_with fail
    exact bodyPost_ret (v := .tuple #[.agg #[.int .u64 (dig s 3 * 4294967296 + dig s 2), .int .u64 (dig s 1 * 4294967296 + dig s 0)], .bool true]) (by simp [results, Try.results60, go_sem]) rfl ⟨rfl, (by repeat (first | exact Below.refl _ _ | (with_reducible assumption) | refine bAlloc ?_ _ | refine below_drewN ?_ _ | refine Below.drew ?_ | (refine bSet ?_ (by first | (dsimp only; omega) | (simp; done) | (simp; omega)) _) | refine bTrans ?_ (by assumption)))⟩
  · have hb := big_dig h hs
    simp only [wv, capv_f h, okv_f h, hi_most, lo_most]
    clear h
    by_cases h4 : dig s 4 = 0
    · have h5 : (dig s 5 != 0) = true := by simpa using hb.resolve_left (fun k => k h4)
      have h4' : (dig s 4 != 0) = false := by rw [h4]; rfl
      clear h4 hb
      go_enter Try.func60, Try.ntmps60
      go_wp2_with (go_at_call 61; refine (refmost_any _).mono ?_; rintro e w1 ⟨rfl, rfl⟩)
      exact bodyPost_ret (v := .tuple #[.agg #[.int .u64 18446744073709551615, .int .u64 18446744073709551615], .bool false]) (by simp [results, Try.results60, go_sem]) rfl ⟨rfl, (by repeat (first | exact Below.refl _ _ | (with_reducible assumption) | refine bAlloc ?_ _ | refine below_drewN ?_ _ | refine Below.drew ?_ | (refine bSet ?_ (by first | (dsimp only; omega) | (simp; done) | (simp; omega)) _) | refine bTrans ?_ (by assumption)))⟩
    · have h4' : (dig s 4 != 0) = true := by simpa using h4
      clear h4 hb
      go_enter Try.func60, Try.ntmps60
      go_wp2_with (go_at_call 61; refine (refmost_any _).mono ?_; rintro e w1 ⟨rfl, rfl⟩)
      exact bodyPost_ret (v := .tuple #[.agg #[.int .u64 18446744073709551615, .int .u64 18446744073709551615], .bool false]) (by simp [results, Try.results60, go_sem]) rfl ⟨rfl, (by repeat (first | exact Below.refl _ _ | (with_reducible assumption) | refine bAlloc ?_ _ | refine below_drewN ?_ _ | refine Below.drew ?_ | (refine bSet ?_ (by first | (dsimp only; omega) | (simp; done) | (simp; omega)) _) | refine bTrans ?_ (by assumption)))⟩

/-- Two new blocks hold the parts of two numbers. -/
def Two (W : World) (a b : Nat) (x y : Value) (wx : World) : Prop := ∃ g1 g2 : Nat, x = .pointer (some ⟨g1, 0, none⟩) ∧ y = .pointer (some ⟨g2, 0, none⟩) ∧ W.heap.size ≤ g1 ∧ W.heap.size ≤ g2 ∧ Row wx g1 6 (fd a) ∧ Row wx g2 6 (fd b) ∧ Below W.heap.size W wx

end Go.Proofs.Ytgnpakpnocbhhaa
