/-
  Contracts of package wide: the order, the sum, the difference.
-/
import Derived.Test.YtfcplfbofobdpaaBits
namespace Go.Proofs.Ytfcplfbofobdpaa
open Go.RowKit
set_option linter.unusedVariables false

/-- A number as the program has it. -/
abbrev wv (n : Nat) : Value := .agg #[.int .u64 (hi n), .int .u64 (lo n)]

theorem most_any (w : World) : Calls Try.prog 16 #[] w fun e w' => e = .returned (.agg #[.int .u64 18446744073709551615, .int .u64 18446744073709551615]) ∧ w.alloc (.cells #[.int .u64 18446744073709551615, .int .u64 18446744073709551615] 24) = w' := by
  go_enter Try.func16, Try.ntmps16
  go_wp2
  exact bodyPost_ret (v := .agg #[.int .u64 18446744073709551615, .int .u64 18446744073709551615]) (by simp [results, Try.results16, go_sem]) rfl ⟨rfl, rfl⟩

theorem less_int (ah al bh bl : Int) (w : World) : Calls Try.prog 15 #[.agg #[.int .u64 ah, .int .u64 al], .agg #[.int .u64 bh, .int .u64 bl]] w fun e w' => e = .returned (.bool (ltw ah al bh bl)) ∧ Below w.heap.size w w' := by
  by_cases h : ah = bh
  · subst h
    rw [ltw_eq]
    go_enter Try.func15, Try.ntmps15
    go_wp2
    go_ret
    exact ⟨rfl, bAlloc (bAlloc (Below.refl _ _) _) _⟩
  · have e1 : (ah != bh) = true := by simp [h]
    rw [ltw_ne h]
    clear h
    go_enter Try.func15, Try.ntmps15
    go_wp2
    go_ret
    exact ⟨rfl, bAlloc (bAlloc (Below.refl _ _) _) _⟩
theorem less_any (a b : Nat) (w : World) : Calls Try.prog 15 #[wv a, wv b] w fun e w' => e = .returned (.bool (ltv a b)) ∧ Below w.heap.size w w' := by
  rw [← ltw_v]; exact less_int _ _ _ _ w

theorem cmp_int (ah al bh bl : Int) (w : World) : Calls Try.prog 14 #[.agg #[.int .u64 ah, .int .u64 al], .agg #[.int .u64 bh, .int .u64 bl]] w fun e w' => e = .returned (.int .i64 (cmpw ah al bh bl)) ∧ Below w.heap.size w w' := by
  by_cases h : ah = bh ∧ al = bl
  · obtain ⟨rfl, rfl⟩ := h
    have hv : cmpw ah al ah al = 0 := by unfold cmpw; exact if_pos ⟨rfl, rfl⟩
    rw [hv]
    clear hv
    go_enter Try.func14, Try.ntmps14
    go_wp2
    go_ret
    exact ⟨rfl, bAlloc (bAlloc (Below.refl _ _) _) _⟩
  · have hv : cmpw ah al bh bl = if ltw ah al bh bl then -1 else 1 := by unfold cmpw; exact if_neg h
    have hx : (ah = bh → ¬ al = bl) := fun a b => h ⟨a, b⟩
    rw [hv]
    clear hv h
    cases hl : ltw ah al bh bl
    all_goals
      have HL := Lib.hid hl
      clear hl
      by_cases k : ah = bh
      · subst k
        have hy := hx rfl
        clear hx
        go_enter Try.func14, Try.ntmps14
        go_wp2_with (go_at_call 15; refine (less_int _ _ _ _ _).mono ?_; rw [HL.out]; rintro e w' ⟨rfl, hb1⟩)
        go_ret
        exact ⟨rfl, bTrans (bAlloc (bAlloc (Below.refl _ _) _) _) hb1⟩
      · clear hx
        go_enter Try.func14, Try.ntmps14
        go_wp2_with (go_at_call 15; refine (less_int _ _ _ _ _).mono ?_; rw [HL.out]; rintro e w' ⟨rfl, hb1⟩)
        go_ret
        exact ⟨rfl, bTrans (bAlloc (bAlloc (Below.refl _ _) _) _) hb1⟩
theorem cmp_any (a b : Nat) (w : World) : Calls Try.prog 14 #[wv a, wv b] w fun e w' => e = .returned (.int .i64 (cmpv a b)) ∧ Below w.heap.size w w' := by
  rw [← cmpw_v]; exact cmp_int _ _ _ _ w

theorem of_any (n : Int) (w : World) : Calls Try.prog 22 #[.int .u64 n] w fun e w' => e = .returned (.agg #[.int .u64 0, .int .u64 n]) ∧ Below w.heap.size w w' := by
  go_enter Try.func22, Try.ntmps22
  go_wp2
  exact bodyPost_ret (v := .agg #[.int .u64 0, .int .u64 n]) (by simp [results, Try.results22, go_sem]) rfl ⟨rfl, bAlloc (Below.refl _ _) _⟩

theorem add_any (a b : Nat) (ha : N128 a) (hb : N128 b) (w : World) : Calls Try.prog 9 #[wv a, wv b] w fun e w' => e = .returned (.tuple #[wv (addv a b), .bool (addok a b)]) ∧ Below w.heap.size w w' := by
  obtain ⟨a1, a2⟩ := word_hi ha; obtain ⟨b1, b2⟩ := word_lo a; obtain ⟨c1, c2⟩ := word_hi hb; obtain ⟨d1, d2⟩ := word_lo b
  obtain ⟨k0, k1⟩ := add_k a b
  by_cases h : N128 (a + b)
  · have hc : ((hi a + hi b + (lo a + lo b) / 18446744073709551616) / 18446744073709551616 != 0) = false := by rw [add_c h]; rfl
    simp only [wv, addv_t h, addok_t h, ← add_hi h, ← add_lo]
    go_enter Try.func9, Try.ntmps9
    go_wp2_with (first | simp only [add64_0 _ _ b1 d1] | simp only [add64 _ _ _ a1 c1 k0 k1])
    exact bodyPost_ret (v := .tuple #[.agg #[.int .u64 ((hi a + hi b + (lo a + lo b) / 18446744073709551616) % 18446744073709551616), .int .u64 ((lo a + lo b) % 18446744073709551616)], .bool true]) (by simp [results, Try.results9, go_sem]) rfl ⟨rfl, bAlloc (bAlloc (bAlloc (Below.refl _ _) _) _) _⟩
  · have hc : ((hi a + hi b + (lo a + lo b) / 18446744073709551616) / 18446744073709551616 != 0) = true := by rw [add_c1 ha hb h]; rfl
    simp only [wv, addv_f h, addok_f h, hi_most, lo_most]
    go_enter Try.func9, Try.ntmps9
    go_wp2_with (first | simp only [add64_0 _ _ b1 d1] | simp only [add64 _ _ _ a1 c1 k0 k1] | (go_at_call 16; refine (most_any _).mono ?_; rintro e w1 ⟨rfl, rfl⟩))
    exact bodyPost_ret (v := .tuple #[.agg #[.int .u64 18446744073709551615, .int .u64 18446744073709551615], .bool false]) (by simp [results, Try.results9, go_sem]) rfl ⟨rfl, bAlloc (bAlloc (bAlloc (bAlloc (Below.refl _ _) _) _) _) _⟩

theorem sub_any (a b : Nat) (ha : N128 a) (hb : N128 b) (w : World) : Calls Try.prog 11 #[wv a, wv b] w fun e w' => e = .returned (.tuple #[wv (subv a b), .bool (subok a b)]) ∧ Below w.heap.size w w' := by
  obtain ⟨a1, a2⟩ := word_hi ha; obtain ⟨b1, b2⟩ := word_lo a; obtain ⟨c1, c2⟩ := word_hi hb; obtain ⟨d1, d2⟩ := word_lo b
  obtain ⟨k0, k1⟩ := bor_b (lo a) (lo b)
  by_cases h : b ≤ a
  · have hc : (bor (hi a) (hi b + bor (lo a) (lo b)) != 0) = false := by rw [sub_c h]; rfl
    have hv : subok a b = true := by unfold subok; simp [h]
    simp only [wv, hv, subv, ← sub_hi ha h, ← sub_lo h]
    clear hv
    go_enter Try.func11, Try.ntmps11
    go_wp2_with (first | simp only [sub64_0 _ _ b1 d1 d2] | simp only [sub64 _ _ _ a1 c1 c2 k0 k1])
    exact bodyPost_ret (v := .tuple #[.agg #[.int .u64 ((hi a - hi b - bor (lo a) (lo b)) % 18446744073709551616), .int .u64 ((lo a - lo b) % 18446744073709551616)], .bool true]) (by simp [results, Try.results11, go_sem]) rfl ⟨rfl, bAlloc (bAlloc (bAlloc (Below.refl _ _) _) _) _⟩
  · have hc : (bor (hi a) (hi b + bor (lo a) (lo b)) != 0) = true := by rw [sub_c1 (by omega)]; rfl
    have hv : subok a b = false := by unfold subok; simp [h]
    have hz : subv a b = 0 := by unfold subv; omega
    simp only [wv, hv, hz, hi_0, lo_0]
    clear hv hz
    go_enter Try.func11, Try.ntmps11
    go_wp2_with (first | simp only [sub64_0 _ _ b1 d1 d2] | simp only [sub64 _ _ _ a1 c1 c2 k0 k1])
    exact bodyPost_ret (v := .tuple #[.agg #[.int .u64 0, .int .u64 0], .bool false]) (by simp [results, Try.results11, go_sem]) rfl ⟨rfl, bAlloc (bAlloc (bAlloc (Below.refl _ _) _) _) _⟩

end Go.Proofs.Ytfcplfbofobdpaa
