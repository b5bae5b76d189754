/-
  Contracts of package meter: Step.
-/
import Derived.Test.YtibaloamgpcghaaCount
import Derived.Test.YtibaloamgpcghaaRef07
namespace Go.Proofs.Ytibaloamgpcghaa
open Go.RowKit
set_option linter.unusedVariables false

theorem step_nil (k n : Int) (w : World) : Calls Try.prog 32 #[.pointer none, .int .i64 k, .int .i64 n] w fun e w' => e = .returned (.tuple #[]) ∧ w = w' := by
  go_enter Try.func32, Try.ntmps32
  go_wp2
  exact bodyPost_ret (v := .tuple #[]) (by simp [results, Try.results32, go_sem]) rfl ⟨rfl, rfl⟩
theorem step_far (m : Nat) (k n : Int) (hk : ¬ (0 ≤ k ∧ k < 2)) (w : World) : Calls Try.prog 32 #[at0 m, .int .i64 k, .int .i64 n] w fun e w' => e = .returned (.tuple #[]) ∧ w = w' := by
  have EX := Lib.hid (fun w => exists_any k w)
  rw [decide_eq_false hk] at EX
  clear hk
  go_enter Try.func32, Try.ntmps32
  go_wp2_with (go_at_call 41; refine (EX.out _).mono ?_; rintro e w1 ⟨rfl, rfl⟩)
  exact bodyPost_ret (v := .tuple #[]) (by simp [results, Try.results32, go_sem]) rfl ⟨rfl, rfl⟩
theorem step_low (m : Nat) (k n : Int) (hk : 0 ≤ k ∧ k < 2) (hn : n < 1) (w : World) : Calls Try.prog 32 #[at0 m, .int .i64 k, .int .i64 n] w fun e w' => e = .returned (.tuple #[]) ∧ w = w' := by
  have EX := Lib.hid (fun w => exists_any k w)
  rw [decide_eq_true hk] at EX
  clear hk
  go_enter Try.func32, Try.ntmps32
  go_wp2_with (go_at_call 41; refine (EX.out _).mono ?_; rintro e w1 ⟨rfl, rfl⟩)
  exact bodyPost_ret (v := .tuple #[]) (by simp [results, Try.results32, go_sem]) rfl ⟨rfl, rfl⟩
theorem of_nat (t : Nat) (ht : t ≤ 9223372036854775807) (w : World) : Calls Try.prog 43 #[.int .u64 (t : Int)] w fun e w' => e = .returned (wv t) ∧ Below w.heap.size w w' := by
  have e : wv t = .agg #[.int .u64 0, .int .u64 (t : Int)] := by simp only [wv]; rw [hi_of_lt (by omega), lo_of_lt (by omega)]
  rw [e]
  exact of_any _ w

set_option maxHeartbeats 2000000 in
set_option maxRecDepth 100000 in
theorem step_reads (m a b : Nat) (h g : Int) (t : Nat) (ha : N128 a) (h0 : 0 < t) (ht : t ≤ 9223372036854775807) (w : World) (r : MRow w m a b h g) : Calls Try.prog 32 #[at0 m, .int .i64 0, .int .i64 (t : Int)] w fun e w' => e = .returned (.tuple #[]) ∧ MRow w' m (addv a t) b h g ∧ Bar m w.heap.size w w' := by
  have EX := Lib.hid (fun w => exists_any 0 w)
  rw [decide_eq_true (by omega)] at EX
  have OF := Lib.hid (fun w => of_nat t ht w)
  have AD := Lib.hid (fun w => add_any a t ha (by unfold N128; omega) w)
  obtain ⟨c0, c1, c2, c3, c4, c5, cf⟩ := r.all
  have i0 : (0 : Int) < t := by omega
  have i1 : (t : Int) ≤ 9223372036854775807 := by omega
  have hm := r.lt
  have wt := wrapu t ht
  clear ha ht h0
  go_enter Try.func32, Try.ntmps32
  go_wp2_with (go_at_call 41; refine (EX.out _).mono ?_; rintro e w1 ⟨rfl, rfl⟩)
  go_region_with (first
    | (go_at_call 43; with_reducible refine (OF.out _).mono ?_; rintro e w1 ⟨rfl, b1⟩; have r1 := MRow.below (by first | exact r | exact r.drew) b1; obtain ⟨d0, d1, d2, d3, d4, d5, df⟩ := r1.all)
    | (go_at_call 42; with_reducible refine (AD.out _).mono ?_; rintro e w2 ⟨rfl, b2⟩; have r2 := MRow.below (by first | exact r1 | exact r1.drew) b2; obtain ⟨e0, e1, e2, e3, e4, e5, ef⟩ := r2.all))
  all_goals
    have q1 := Bar.then (Bar.of (m := m) (Below.refl w.heap.size w).drew) b1
    exact bodyPost_end (v := .tuple #[]) (by simp [results, Try.results32, go_sem]) rfl ⟨rfl, r2.setA (addv a t), ((q1.then b2).set 2 _).set 3 _⟩

set_option maxHeartbeats 2000000 in
set_option maxRecDepth 100000 in
theorem step_writes (m a b : Nat) (h g : Int) (t : Nat) (hb : N128 b) (h0 : 0 < t) (ht : t ≤ 9223372036854775807) (w : World) (r : MRow w m a b h g) : Calls Try.prog 32 #[at0 m, .int .i64 1, .int .i64 (t : Int)] w fun e w' => e = .returned (.tuple #[]) ∧ MRow w' m a (addv b t) h g ∧ Bar m w.heap.size w w' := by
  have EX := Lib.hid (fun w => exists_any 1 w)
  rw [decide_eq_true (by omega)] at EX
  have OF := Lib.hid (fun w => of_nat t ht w)
  have AD := Lib.hid (fun w => add_any b t hb (by unfold N128; omega) w)
  obtain ⟨c0, c1, c2, c3, c4, c5, cf⟩ := r.all
  have i0 : (0 : Int) < t := by omega
  have i1 : (t : Int) ≤ 9223372036854775807 := by omega
  have hm := r.lt
  have wt := wrapu t ht
  clear hb ht h0
  go_enter Try.func32, Try.ntmps32
  go_wp2_with (go_at_call 41; refine (EX.out _).mono ?_; rintro e w1 ⟨rfl, rfl⟩)
  go_region_with (first
    | (go_at_call 43; with_reducible refine (OF.out _).mono ?_; rintro e w1 ⟨rfl, b1⟩; have r1 := MRow.below (by first | exact r | exact r.drew) b1; obtain ⟨d0, d1, d2, d3, d4, d5, df⟩ := r1.all)
    | (go_at_call 42; with_reducible refine (AD.out _).mono ?_; rintro e w2 ⟨rfl, b2⟩; have r2 := MRow.below (by first | exact r1 | exact r1.drew) b2; obtain ⟨e0, e1, e2, e3, e4, e5, ef⟩ := r2.all))
  all_goals
    have q1 := Bar.then (Bar.of (m := m) (Below.refl w.heap.size w).drew) b1
    exact bodyPost_end (v := .tuple #[]) (by simp [results, Try.results32, go_sem]) rfl ⟨rfl, r2.setB (addv b t), ((q1.then b2).set 4 _).set 5 _⟩

theorem step_any (m a b : Nat) (h g k n : Int) (ha : N128 a) (hb : N128 b) (hn : n ≤ 9223372036854775807) (w : World) (r : MRow w m a b h g) : Calls Try.prog 32 #[at0 m, .int .i64 k, .int .i64 n] w fun e w' => e = .returned (.tuple #[]) ∧ MRow w' m (stepv 0 k n a) (stepv 1 k n b) h g ∧ Bar m w.heap.size w w' := by
  by_cases hk : 0 ≤ k ∧ k < 2
  · by_cases h1 : n < 1
    · rw [stepv_n a (by omega), stepv_n b (by omega)]
      exact (step_low m k n hk h1 w).mono fun e w' ⟨e1, e2⟩ => ⟨e1, e2 ▸ r, e2 ▸ Bar.refl _ _ _⟩
    · obtain ⟨t, rfl⟩ := Int.eq_ofNat_of_zero_le (show 0 ≤ n by omega)
      by_cases h0 : k = 0
      · subst h0
        rw [stepv_y a rfl (by omega), stepv_n b (by omega), Int.toNat_natCast]
        exact step_reads m a b h g t ha (by omega) (by omega) w r
      · obtain rfl : k = 1 := by omega
        rw [stepv_n a (by omega), stepv_y b rfl (by omega), Int.toNat_natCast]
        exact step_writes m a b h g t hb (by omega) (by omega) w r
  · rw [stepv_n a (by omega), stepv_n b (by omega)]
    exact (step_far m k n hk w).mono fun e w' ⟨e1, e2⟩ => ⟨e1, e2 ▸ r, e2 ▸ Bar.refl _ _ _⟩

end Go.Proofs.Ytibaloamgpcghaa
