/-
  Contracts of package haymowref01.
-/
import Derived.Test.YtogpojgikipkiaaWide
import Derived.Test.YtogpojgikipkiaaRow
import Derived.LoopTactic
import Derived.Deep.QuietTactic
import Derived.BigQuiet
import Derived.WalkSmall
import Derived.Deep.RegionWith
import Derived.Deep.RegionHeld3
import Derived.Deep.DeepCutAuto
import Derived.Deep.CutBlock
namespace Go.Proofs.Ytogpojgikipkiaa
open Go.RowKit
set_option linter.unusedVariables false

/-- the four parts of a number -/
abbrev fv (a b c d : Int) : Value := .agg #[.int .u64 a, .int .u64 b, .int .u64 c, .int .u64 d, .int .u64 0, .int .u64 0]
theorem parts_any (a : Nat) (ha : N128 a) (w : World) : Calls Try.prog 28 #[wv a] w fun e w' => e = .returned (fv (lo a % 4294967296) (lo a / 4294967296) (hi a % 4294967296) (hi a / 4294967296)) ∧
    (w.alloc (.cells #[.int .u64 (hi a), .int .u64 (lo a)] 25)).alloc (.cells #[.int .u64 (lo a % 4294967296), .int .u64 (lo a / 4294967296), .int .u64 (hi a % 4294967296), .int .u64 (hi a / 4294967296), .int .u64 0, .int .u64 0] 59) = w' := by
  obtain ⟨a1, a2⟩ := word_hi ha; obtain ⟨b1, b2⟩ := word_lo a
  go_enter Try.func28, Try.ntmps28
  go_wp2_with fail
  exact bodyPost_ret (v := fv (lo a % 4294967296) (lo a / 4294967296) (hi a % 4294967296) (hi a / 4294967296)) (by simp [results, Try.results28, go_sem]) rfl ⟨rfl, rfl⟩

theorem refmost_any (w : World) : Calls Try.prog 33 #[] w fun e w' => e = .returned (.agg #[.int .u64 18446744073709551615, .int .u64 18446744073709551615]) ∧ w.alloc (.cells #[.int .u64 18446744073709551615, .int .u64 18446744073709551615] 25) = w' := by
  go_enter Try.func33, Try.ntmps33
  go_wp2
  exact bodyPost_ret (v := .agg #[.int .u64 18446744073709551615, .int .u64 18446744073709551615]) (by simp [results, Try.results33, go_sem]) rfl ⟨rfl, rfl⟩

/-- the parts of a number, as values -/
def fd (a j : Nat) : Value := .int .u64 (dig a j)
theorem fd_row (a : Nat) (ha : N128 a) (j : Nat) (hj : j < 6) : (#[Value.int .u64 (lo a % 4294967296), .int .u64 (lo a / 4294967296), .int .u64 (hi a % 4294967296), .int .u64 (hi a / 4294967296), .int .u64 0, .int .u64 0] : Array Value)[j]? = some (fd a j) := by
  have h : j = 0 ∨ j = 1 ∨ j = 2 ∨ j = 3 ∨ j = 4 ∨ j = 5 := by omega
  rcases h with rfl | rfl | rfl | rfl | rfl | rfl <;> simp [fd, dig0, dig1, dig2, dig3 ha, dig4 ha, dig5 ha]
theorem whole_any (s : Nat) (hs : s < 4294967296 ^ 6) (w : World) :
    Calls Try.prog 29 #[.agg #[.int .u64 (dig s 0), .int .u64 (dig s 1), .int .u64 (dig s 2), .int .u64 (dig s 3), .int .u64 (dig s 4), .int .u64 (dig s 5)]] w fun e w' => e = .returned (.tuple #[wv (capv s), .bool (okv s)]) ∧ Below w.heap.size w w' := by
  obtain ⟨a0, a1⟩ := dig_b s 0; obtain ⟨b0, b1⟩ := dig_b s 1; obtain ⟨c0, c1⟩ := dig_b s 2; obtain ⟨d0, d1⟩ := dig_b s 3
  by_cases h : N128 s
  · have h4 : (dig s 4 != 0) = false := by rw [dig4 h]; rfl
    have h5 : (dig s 5 != 0) = false := by rw [dig5 h]; rfl
    simp only [wv, capv_t h, okv_t h, ← whole_hi h, ← whole_lo s]
    clear h
    go_enter Try.func29, Try.ntmps29
    go_wp2_with fail
    exact bodyPost_ret (v := .tuple #[.agg #[.int .u64 (dig s 3 * 4294967296 + dig s 2), .int .u64 (dig s 1 * 4294967296 + dig s 0)], .bool true]) (by simp [results, Try.results29, go_sem]) rfl ⟨rfl, (by repeat (first | exact Below.refl _ _ | (with_reducible assumption) | refine bAlloc ?_ _ | refine below_drewN ?_ _ | refine Below.drew ?_ | (refine bSet ?_ (by first | (dsimp only; omega) | (simp; done) | (simp; omega)) _) | refine bTrans ?_ (by assumption)))⟩
  · have hb := big_dig h hs
    simp only [wv, capv_f h, okv_f h, hi_most, lo_most]
    clear h
    by_cases h4 : dig s 4 = 0
    · have h5 : (dig s 5 != 0) = true := by simpa using hb.resolve_left (fun k => k h4)
      have h4' : (dig s 4 != 0) = false := by rw [h4]; rfl
      clear h4 hb
      go_enter Try.func29, Try.ntmps29
      go_wp2_with (go_at_call 33; refine (refmost_any _).mono ?_; rintro e w1 ⟨rfl, rfl⟩)
      exact bodyPost_ret (v := .tuple #[.agg #[.int .u64 18446744073709551615, .int .u64 18446744073709551615], .bool false]) (by simp [results, Try.results29, go_sem]) rfl ⟨rfl, (by repeat (first | exact Below.refl _ _ | (with_reducible assumption) | refine bAlloc ?_ _ | refine below_drewN ?_ _ | refine Below.drew ?_ | (refine bSet ?_ (by first | (dsimp only; omega) | (simp; done) | (simp; omega)) _) | refine bTrans ?_ (by assumption)))⟩
    · have h4' : (dig s 4 != 0) = true := by simpa using h4
      clear h4 hb
      go_enter Try.func29, Try.ntmps29
      go_wp2_with (go_at_call 33; refine (refmost_any _).mono ?_; rintro e w1 ⟨rfl, rfl⟩)
      exact bodyPost_ret (v := .tuple #[.agg #[.int .u64 18446744073709551615, .int .u64 18446744073709551615], .bool false]) (by simp [results, Try.results29, go_sem]) rfl ⟨rfl, (by repeat (first | exact Below.refl _ _ | (with_reducible assumption) | refine bAlloc ?_ _ | refine below_drewN ?_ _ | refine Below.drew ?_ | (refine bSet ?_ (by first | (dsimp only; omega) | (simp; done) | (simp; omega)) _) | refine bTrans ?_ (by assumption)))⟩

/-- Two new blocks hold the parts of two numbers. -/
def Two (W : World) (a b : Nat) (x y : Value) (wx : World) : Prop := ∃ g1 g2 : Nat, x = .pointer (some ⟨g1, 0, none⟩) ∧ y = .pointer (some ⟨g2, 0, none⟩) ∧ W.heap.size ≤ g1 ∧ W.heap.size ≤ g2 ∧ Row wx g1 6 (fd a) ∧ Row wx g2 6 (fd b) ∧ Below W.heap.size W wx

set_option maxHeartbeats 2000000 in
set_option maxRecDepth 100000 in
theorem refcmp_any (a b : Nat) (ha : N128 a) (hb : N128 b) (w : World) : Calls Try.prog 21 #[wv a, wv b] w fun e w' => e = .returned (.int .i64 (cmpv a b)) ∧ Below w.heap.size w w' := by
  obtain ⟨a1, a2⟩ := word_hi ha; obtain ⟨b1, b2⟩ := word_lo a
  obtain ⟨c1, c2⟩ := word_hi hb; obtain ⟨d1, d2⟩ := word_lo b
  go_enter Try.func21, Try.ntmps21
  go_upto_region 1 with fail
  go_cut [5, 6] from 8 to 11 (fun x y wx => Two ((w.alloc (.cells #[.int .u64 (hi a), .int .u64 (lo a)] 25)).alloc (.cells #[.int .u64 (hi b), .int .u64 (lo b)] 25)) a b x y wx)
  case first =>
    go_region_held3 (fun w' => w'.cell? ⟨w.heap.size, 0, none⟩ = some (.int .u64 (hi a)) ∧ w'.cell? ⟨w.heap.size, 1, none⟩ = some (.int .u64 (lo a)) ∧ w'.cell? ⟨w.heap.size + 1, 0, none⟩ = some (.int .u64 (hi b)) ∧ w'.cell? ⟨w.heap.size + 1, 1, none⟩ = some (.int .u64 (lo b))) (simp [go_sem, World.cell?_alloc_past])
      (first | (go_at_call_of 28 (Value.int IntKind.u64 (hi a)); refine (parts_any a ha _).mono ?_; rintro e w1 ⟨rfl, rfl⟩) | (go_at_call_of 28 (Value.int IntKind.u64 (hi b)); refine (parts_any b hb _).mono ?_; rintro e w1 ⟨rfl, rfl⟩))
    all_goals
      go_wp2_with fail
      go_meet
      refine ⟨_, _, rfl, rfl, by simp, by simp, ?_, ?_, (by repeat (first | exact Below.refl _ _ | (with_reducible assumption) | refine bAlloc ?_ _ | refine below_drewN ?_ _ | refine Below.drew ?_ | (refine bSet ?_ (by first | (dsimp only; omega) | (simp; done) | (simp; omega)) _) | refine bTrans ?_ (by assumption)))⟩
      all_goals (repeat (first | (refine Row.newAt _ _ _ _ 6 _ ?_ (fd_row a ha); simp; done) | (refine Row.newAt _ _ _ _ 6 _ ?_ (fd_row b hb); simp; done) | refine Row.alloc ?_ _ | refine Row.drewN ?_ _ | refine Row.drew ?_))
  case rest =>
    obtain ⟨g1, g2, rfl, rfl, hg1, hg2, r1, r2, bl⟩ := hcut
    have bw : Below w.heap.size w wc := bTrans (bAlloc (bAlloc (Below.refl _ _) _) _) bl
    clear bl hg1 hg2
    go_wp2
    go_loopw [7] (fun i wr => ∃ k nq : Nat, k ≤ 4 ∧ i = .int .i64 ((k : Int) - 1) ∧ a / 4294967296 ^ k = b / 4294967296 ^ k ∧ wc.drewN nq = wr) (fun i _ => (intOf i + 1).toNat)
    case atStart =>
      refine ⟨4, 0, by omega, rfl, ?_, rfl⟩
      rw [Nat.div_eq_of_lt (by unfold N128 at ha; omega), Nat.div_eq_of_lt (by unfold N128 at hb; omega)]
    case round =>
      obtain ⟨k, nq, hk, rfl, he, rfl⟩ := hrel
      cases k with
      | zero =>
        have fin : cmpv a b = 0 := by
          simp at he
          rw [he, cmpv_eq]
        have FIN := Lib.hid fin
        clear fin he
        rw [show ((0 : Nat) : Int) - 1 = -1 from rfl]
        go_wp2
        go_ret
        exact ⟨by rw [FIN.out]; rfl, (by repeat (first | exact Below.refl _ _ | (with_reducible assumption) | refine bAlloc ?_ _ | refine below_drewN ?_ _ | refine Below.drew ?_ | (refine bSet ?_ (by first | (dsimp only; omega) | (simp; done) | (simp; omega)) _) | refine bTrans ?_ (by assumption)))⟩
      | succ m =>
        have em : ((m + 1 : Nat) : Int) - 1 = (m : Int) := by omega
        have q1 := r1.cell m (by omega)
        have q2 := r2.cell m (by omega)
        unfold fd at q1 q2
        have HE := Lib.hid he
        clear he
        rw [em]
        clear em
        by_cases t1 : dig a m < dig b m
        · have fin := cmpv_lt (dig_lt HE.out t1)
          have FIN := Lib.hid fin
          clear fin
          go_wp2
          go_quiet (fail)
          go_wp2
          go_ret
          exact ⟨by rw [FIN.out]; rfl, (by repeat (first | exact Below.refl _ _ | (with_reducible assumption) | refine bAlloc ?_ _ | refine below_drewN ?_ _ | refine Below.drew ?_ | (refine bSet ?_ (by first | (dsimp only; omega) | (simp; done) | (simp; omega)) _) | refine bTrans ?_ (by assumption)))⟩
        · by_cases t2 : dig b m < dig a m
          · have fin := cmpv_gt (dig_lt HE.out.symm t2)
            have FIN := Lib.hid fin
            have d1 := decide_eq_false t1
            have d2 := decide_eq_true t2
            clear fin t1 t2
            go_wp2
            go_quiet (fail)
            go_wp2
            go_quiet (fail)
            go_wp2
            go_ret
            exact ⟨by rw [FIN.out]; rfl, (by repeat (first | exact Below.refl _ _ | (with_reducible assumption) | refine bAlloc ?_ _ | refine below_drewN ?_ _ | refine Below.drew ?_ | (refine bSet ?_ (by first | (dsimp only; omega) | (simp; done) | (simp; omega)) _) | refine bTrans ?_ (by assumption)))⟩
          · have e2 := Lib.hid (dig_eq HE.out (by omega))
            have d1 := decide_eq_false t1
            have d2 := decide_eq_false t2
            clear t1 t2
            go_wp2
            go_quiet (fail)
            go_wp2
            go_quiet (fail)
            go_wp2
            go_roundw
            case rel => exact ⟨m, _, by omega, rfl, e2.out, rfl⟩
            case measure => simp [intOf]; try omega

end Go.Proofs.Ytogpojgikipkiaa
