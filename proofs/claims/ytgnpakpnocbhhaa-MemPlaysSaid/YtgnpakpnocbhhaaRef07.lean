/-
  Contracts of package haymowref07, and of the law's kind.
-/
import Derived.Test.YtgnpakpnocbhhaaRef01b
import Derived.Test.YtgnpakpnocbhhaaMtr
namespace Go.Proofs.Ytgnpakpnocbhhaa
open Go.RowKit
set_option linter.unusedVariables false

/-- a state as the program has it -/
abbrev sv (a b : Nat) (h g : Int) : Value := .agg #[.int .u64 (hi a), .int .u64 (lo a), .int .u64 (hi b), .int .u64 (lo b), .int .i64 h, .int .i64 g]
theorem refhold_any (a b : Nat) (h g n : Int) (hf : Fit h g) (hn : n ≤ 9223372036854775807) (w : World) : Calls Try.prog 45 #[sv a b h g, .int .i64 n] w fun e w' => e = .returned (.tuple #[sv a b (holdh h n) (holdg h g n), .int .i64 (holde h n)]) ∧ Below w.heap.size w w' := by
  obtain ⟨f0, f1, f2⟩ := hf
  by_cases h1 : n < 0
  · rw [show holde h n = 1 by unfold holde; rw [if_pos h1], show holdh h n = h by unfold holdh; rw [if_neg (by omega)], show holdg h g n = g by unfold holdg; rw [if_neg (by omega)]]
    clear hn
    go_enter Try.func45, Try.ntmps45
    go_wp2
    exact bodyPost_ret (v := .tuple #[sv a b h g, .int .i64 1]) (by simp [results, Try.results45, go_sem]) rfl ⟨rfl, (by repeat (first | exact Below.refl _ _ | (with_reducible assumption) | refine bAlloc ?_ _ | refine below_drewN ?_ _ | refine Below.drew ?_ | (refine bSet ?_ (by first | (dsimp only; omega) | (simp; done) | (simp; omega)) _) | refine bTrans ?_ (by assumption)))⟩
  · have h1' : (0 : Int) ≤ n := by omega
    clear h1
    by_cases h2 : 281474976710656 - h < n
    · rw [show holde h n = 3 by unfold holde; rw [if_neg (by omega), if_pos h2], show holdh h n = h by unfold holdh; rw [if_neg (by omega)], show holdg h g n = g by unfold holdg; rw [if_neg (by omega)]]
      go_enter Try.func45, Try.ntmps45
      go_wp2
      exact bodyPost_ret (v := .tuple #[sv a b h g, .int .i64 3]) (by simp [results, Try.results45, go_sem]) rfl ⟨rfl, (by repeat (first | exact Below.refl _ _ | (with_reducible assumption) | refine bAlloc ?_ _ | refine below_drewN ?_ _ | refine Below.drew ?_ | (refine bSet ?_ (by first | (dsimp only; omega) | (simp; done) | (simp; omega)) _) | refine bTrans ?_ (by assumption)))⟩
    · have h2' : n ≤ 281474976710656 - h := by omega
      rw [show holde h n = 0 by unfold holde; rw [if_neg (by omega), if_neg h2], show holdh h n = h + n by unfold holdh; rw [if_pos ⟨h1', h2'⟩]]
      by_cases h3 : g < h + n
      · rw [show holdg h g n = h + n by unfold holdg; rw [if_pos ⟨h1', h2'⟩, if_pos h3]]
        go_enter Try.func45, Try.ntmps45
        go_wp2
        exact bodyPost_ret (v := .tuple #[sv a b (h + n) (h + n), .int .i64 0]) (by simp [results, Try.results45, go_sem]) rfl ⟨rfl, (by repeat (first | exact Below.refl _ _ | (with_reducible assumption) | refine bAlloc ?_ _ | refine below_drewN ?_ _ | refine Below.drew ?_ | (refine bSet ?_ (by first | (dsimp only; omega) | (simp; done) | (simp; omega)) _) | refine bTrans ?_ (by assumption)))⟩
      · rw [show holdg h g n = g by unfold holdg; rw [if_pos ⟨h1', h2'⟩, if_neg h3]]
        have h3' : h + n ≤ g := by omega
        go_enter Try.func45, Try.ntmps45
        go_wp2
        exact bodyPost_ret (v := .tuple #[sv a b (h + n) g, .int .i64 0]) (by simp [results, Try.results45, go_sem]) rfl ⟨rfl, (by repeat (first | exact Below.refl _ _ | (with_reducible assumption) | refine bAlloc ?_ _ | refine below_drewN ?_ _ | refine Below.drew ?_ | (refine bSet ?_ (by first | (dsimp only; omega) | (simp; done) | (simp; omega)) _) | refine bTrans ?_ (by assumption)))⟩

theorem reffree_any (a b : Nat) (h g n : Int) (hf : Fit h g) (hn : n ≤ 9223372036854775807) (w : World) : Calls Try.prog 46 #[sv a b h g, .int .i64 n] w fun e w' => e = .returned (.tuple #[sv a b (freeh h n) g, .int .i64 (freee h n)]) ∧ Below w.heap.size w w' := by
  obtain ⟨f0, f1, f2⟩ := hf
  by_cases h1 : n < 0
  · rw [show freee h n = 1 by unfold freee; rw [if_pos h1], show freeh h n = h by unfold freeh; rw [if_neg (by omega)]]
    clear hn
    go_enter Try.func46, Try.ntmps46
    go_wp2
    exact bodyPost_ret (v := .tuple #[sv a b h g, .int .i64 1]) (by simp [results, Try.results46, go_sem]) rfl ⟨rfl, (by repeat (first | exact Below.refl _ _ | (with_reducible assumption) | refine bAlloc ?_ _ | refine below_drewN ?_ _ | refine Below.drew ?_ | (refine bSet ?_ (by first | (dsimp only; omega) | (simp; done) | (simp; omega)) _) | refine bTrans ?_ (by assumption)))⟩
  · have h1' : (0 : Int) ≤ n := by omega
    clear h1
    by_cases h2 : h < n
    · rw [show freee h n = 4 by unfold freee; rw [if_neg (by omega), if_pos h2], show freeh h n = h by unfold freeh; rw [if_neg (by omega)]]
      go_enter Try.func46, Try.ntmps46
      go_wp2
      exact bodyPost_ret (v := .tuple #[sv a b h g, .int .i64 4]) (by simp [results, Try.results46, go_sem]) rfl ⟨rfl, (by repeat (first | exact Below.refl _ _ | (with_reducible assumption) | refine bAlloc ?_ _ | refine below_drewN ?_ _ | refine Below.drew ?_ | (refine bSet ?_ (by first | (dsimp only; omega) | (simp; done) | (simp; omega)) _) | refine bTrans ?_ (by assumption)))⟩
    · have h2' : n ≤ h := by omega
      rw [show freee h n = 0 by unfold freee; rw [if_neg (by omega), if_neg h2], show freeh h n = h - n by unfold freeh; rw [if_pos ⟨h1', h2'⟩]]
      go_enter Try.func46, Try.ntmps46
      go_wp2
      exact bodyPost_ret (v := .tuple #[sv a b (h - n) g, .int .i64 0]) (by simp [results, Try.results46, go_sem]) rfl ⟨rfl, (by repeat (first | exact Below.refl _ _ | (with_reducible assumption) | refine bAlloc ?_ _ | refine below_drewN ?_ _ | refine Below.drew ?_ | (refine bSet ?_ (by first | (dsimp only; omega) | (simp; done) | (simp; omega)) _) | refine bTrans ?_ (by assumption)))⟩

/-! ### Step -/
theorem wrapu (t : Nat) (ht : t ≤ 9223372036854775807) : IntKind.u64.wrap (t : Int) = (t : Int) := by rw [IntKind.wrap_u64]; omega
theorem refstep_no (a b : Nat) (h g k n : Int) (hk : ¬ (0 ≤ k ∧ k ≤ 1 ∧ 0 < n)) (w : World) : Calls Try.prog 48 #[sv a b h g, .int .i64 k, .int .i64 n] w fun e w' => e = .returned (sv a b h g) ∧ Below w.heap.size w w' := by
  by_cases h0 : 0 ≤ k
  · by_cases h1 : k ≤ 1
    · have h2 : n ≤ 0 := by omega
      clear hk
      go_enter Try.func48, Try.ntmps48
      go_wp2
      exact bodyPost_ret (v := sv a b h g) (by simp [results, Try.results48, go_sem]) rfl ⟨rfl, (by repeat (first | exact Below.refl _ _ | (with_reducible assumption) | refine bAlloc ?_ _ | refine below_drewN ?_ _ | refine Below.drew ?_ | (refine bSet ?_ (by first | (dsimp only; omega) | (simp; done) | (simp; omega)) _) | refine bTrans ?_ (by assumption)))⟩
    · have h1' : 1 < k := by omega
      clear hk h1
      go_enter Try.func48, Try.ntmps48
      go_wp2
      exact bodyPost_ret (v := sv a b h g) (by simp [results, Try.results48, go_sem]) rfl ⟨rfl, (by repeat (first | exact Below.refl _ _ | (with_reducible assumption) | refine bAlloc ?_ _ | refine below_drewN ?_ _ | refine Below.drew ?_ | (refine bSet ?_ (by first | (dsimp only; omega) | (simp; done) | (simp; omega)) _) | refine bTrans ?_ (by assumption)))⟩
  · have h0' : k < 0 := by omega
    clear hk h0
    go_enter Try.func48, Try.ntmps48
    go_wp2
    exact bodyPost_ret (v := sv a b h g) (by simp [results, Try.results48, go_sem]) rfl ⟨rfl, (by repeat (first | exact Below.refl _ _ | (with_reducible assumption) | refine bAlloc ?_ _ | refine below_drewN ?_ _ | refine Below.drew ?_ | (refine bSet ?_ (by first | (dsimp only; omega) | (simp; done) | (simp; omega)) _) | refine bTrans ?_ (by assumption)))⟩

set_option maxHeartbeats 1000000 in
theorem refstep_reads (a b : Nat) (h g : Int) (t : Nat) (ha : N128 a) (h0 : 0 < t) (ht : t ≤ 9223372036854775807) (w : World) : Calls Try.prog 48 #[sv a b h g, .int .i64 0, .int .i64 (t : Int)] w fun e w' => e = .returned (sv (addv a t) b h g) ∧ Below w.heap.size w w' := by
  have AD := fun w => refadd_any a t ha (by unfold N128; omega) w
  rw [show wv t = .agg #[.int .u64 0, .int .u64 (t : Int)] by simp only [wv]; rw [hi_of_lt (by omega), lo_of_lt (by omega)]] at AD
  have AD' := Lib.hid AD
  have i0 : (0 : Int) < t := by omega
  have i1 : (t : Int) ≤ 9223372036854775807 := by omega
  have wt := wrapu t ht
  clear ha ht h0 AD
  go_enter Try.func48, Try.ntmps48
  go_wp2_with fail
  refine (AD'.out _).mono ?_
  rintro e w1 ⟨rfl, b1⟩
  dsimp only
  have b1' : Below w.heap.size w w1 := bTrans (by repeat (first | exact Below.refl _ _ | (with_reducible assumption) | refine bAlloc ?_ _ | refine below_drewN ?_ _ | refine Below.drew ?_ | (refine bSet ?_ (by first | (dsimp only; omega) | (simp; done) | (simp; omega)) _) | refine bTrans ?_ (by assumption))) b1
  have S1 : SRow w1 w.heap.size a b h g := SRow.below (SRow.alloc (Row.newAt w _ _ w.heap.size 6 _ rfl (sc_new a b h g)) _) b1
  have Z1 : Row w1 (w.heap.size + 1) 6 (fun j => if j < 4 then .int .u64 0 else .int .i64 0) := (Row.newAt _ _ 33 (w.heap.size + 1) 6 _ (by simp) zero6).below b1
  obtain ⟨c0, c1, c2, c3, c4, c5, cf⟩ := S1.all
  obtain ⟨d0, d1, d2, d3, d4, d5, df⟩ := (S1.setA (addv a t)).all
  have Z2 := Row.far (Row.far Z1 (p := ⟨w.heap.size, 0, none⟩) (.int .u64 (hi (addv a t))) (by simp)) (p := ⟨w.heap.size, 1, none⟩) (.int .u64 (lo (addv a t))) (by simp)
  obtain ⟨z0, z1, z2, z3, z4, z5, zf⟩ := Z2.zzz
  obtain ⟨y0, y1, y2, y3, y4, y5, yf⟩ := (Z2.setS (addv a t) b h g).all
  have l1 := S1.lt
  have l2 := Z1.lt
  go_wp2_with fail
  have B2 := bSix (bTwo b1' (Nat.le_refl _) 0 1 (.int .u64 (hi (addv a t))) (.int .u64 (lo (addv a t)))) (v := w.heap.size + 1) (Nat.le_succ _) (.int .u64 (hi (addv a t))) (.int .u64 (lo (addv a t))) (.int .u64 (hi b)) (.int .u64 (lo b)) (.int .i64 h) (.int .i64 g)
  exact bodyPost_ret (v := sv (addv a t) b h g) (by simp [results, Try.results48, go_sem, y0, y1, y2, y3, y4, y5]) rfl ⟨rfl, B2⟩

set_option maxHeartbeats 1000000 in
theorem refstep_writes (a b : Nat) (h g : Int) (t : Nat) (hb : N128 b) (h0 : 0 < t) (ht : t ≤ 9223372036854775807) (w : World) : Calls Try.prog 48 #[sv a b h g, .int .i64 1, .int .i64 (t : Int)] w fun e w' => e = .returned (sv a (addv b t) h g) ∧ Below w.heap.size w w' := by
  have AD := fun w => refadd_any b t hb (by unfold N128; omega) w
  rw [show wv t = .agg #[.int .u64 0, .int .u64 (t : Int)] by simp only [wv]; rw [hi_of_lt (by omega), lo_of_lt (by omega)]] at AD
  have AD' := Lib.hid AD
  have i0 : (0 : Int) < t := by omega
  have i1 : (t : Int) ≤ 9223372036854775807 := by omega
  have wt := wrapu t ht
  clear hb ht h0 AD
  go_enter Try.func48, Try.ntmps48
  go_wp2_with fail
  refine (AD'.out _).mono ?_
  rintro e w1 ⟨rfl, b1⟩
  dsimp only
  have b1' : Below w.heap.size w w1 := bTrans (by repeat (first | exact Below.refl _ _ | (with_reducible assumption) | refine bAlloc ?_ _ | refine below_drewN ?_ _ | refine Below.drew ?_ | (refine bSet ?_ (by first | (dsimp only; omega) | (simp; done) | (simp; omega)) _) | refine bTrans ?_ (by assumption))) b1
  have S1 : SRow w1 w.heap.size a b h g := SRow.below (SRow.alloc (Row.newAt w _ _ w.heap.size 6 _ rfl (sc_new a b h g)) _) b1
  have Z1 : Row w1 (w.heap.size + 1) 6 (fun j => if j < 4 then .int .u64 0 else .int .i64 0) := (Row.newAt _ _ 33 (w.heap.size + 1) 6 _ (by simp) zero6).below b1
  obtain ⟨c0, c1, c2, c3, c4, c5, cf⟩ := S1.all
  obtain ⟨d0, d1, d2, d3, d4, d5, df⟩ := (S1.setB (addv b t)).all
  have Z2 := Row.far (Row.far Z1 (p := ⟨w.heap.size, 2, none⟩) (.int .u64 (hi (addv b t))) (by simp)) (p := ⟨w.heap.size, 3, none⟩) (.int .u64 (lo (addv b t))) (by simp)
  obtain ⟨z0, z1, z2, z3, z4, z5, zf⟩ := Z2.zzz
  obtain ⟨y0, y1, y2, y3, y4, y5, yf⟩ := (Z2.setS a (addv b t) h g).all
  have l1 := S1.lt
  have l2 := Z1.lt
  go_wp2_with fail
  have B2 := bSix (bTwo b1' (Nat.le_refl _) 2 3 (.int .u64 (hi (addv b t))) (.int .u64 (lo (addv b t)))) (v := w.heap.size + 1) (Nat.le_succ _) (.int .u64 (hi a)) (.int .u64 (lo a)) (.int .u64 (hi (addv b t))) (.int .u64 (lo (addv b t))) (.int .i64 h) (.int .i64 g)
  exact bodyPost_ret (v := sv a (addv b t) h g) (by simp [results, Try.results48, go_sem, y0, y1, y2, y3, y4, y5]) rfl ⟨rfl, B2⟩

theorem refstep_any (a b : Nat) (h g k n : Int) (ha : N128 a) (hb : N128 b) (hn : n ≤ 9223372036854775807) (w : World) : Calls Try.prog 48 #[sv a b h g, .int .i64 k, .int .i64 n] w fun e w' => e = .returned (sv (stepv 0 k n a) (stepv 1 k n b) h g) ∧ Below w.heap.size w w' := by
  by_cases hk : 0 ≤ k ∧ k ≤ 1 ∧ 0 < n
  · obtain ⟨t, rfl⟩ := Int.eq_ofNat_of_zero_le (show 0 ≤ n by omega)
    by_cases h0 : k = 0
    · subst h0
      rw [stepv_y a rfl (by omega), stepv_n b (by omega), Int.toNat_natCast]
      exact refstep_reads a b h g t ha (by omega) (by omega) w
    · obtain rfl : k = 1 := by omega
      rw [stepv_n a (by omega), stepv_y b rfl (by omega), Int.toNat_natCast]
      exact refstep_writes a b h g t hb (by omega) (by omega) w
  · rw [stepv_n a (by omega), stepv_n b (by omega)]
    exact refstep_no a b h g k n hk w

end Go.Proofs.Ytgnpakpnocbhhaa
