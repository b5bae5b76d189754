/-
  The lowest one of a word; math/bits.TrailingZeros64.
-/
import Derived.Test.YtgpligkheipoaaaDoorKit02
import Derived.Lib.TrailingZeros
import Derived.Shelf.Spec.TrailingZeros
namespace Go.Proofs.YtgpligkheipoaaaDoor
open Go.RowKit
set_option linter.unusedVariables false

/-! ### the word without its lowest one -/
theorem low_facts (x : Nat) (h0 : x ≠ 0) (hx : x < 18446744073709551616) : ∃ k, Lib.ctz 64 x = k ∧ k < 64 ∧ (∀ j, j < k → x.testBit j = false) ∧ x.testBit k = true ∧
    (∀ j, (x &&& (x - 1)).testBit j = (x.testBit j && decide (j ≠ k))) := by
  obtain ⟨m, hm, hk⟩ := Lib.ctzFrom_spec 64 x (by omega) hx
  have e : Lib.ctz 64 x = Lib.ctzFrom 64 x := by simp [Lib.ctz, h0]
  rw [e]
  generalize Lib.ctzFrom 64 x = k at *
  have hp := Nat.two_pow_pos k
  have t1 : ∀ j, x.testBit j = (decide (k ≤ j) && (2 * m + 1).testBit (j - k)) := fun j => by rw [hm, Nat.mul_comm, Nat.testBit_mul_two_pow]
  have e1 : x - 1 = 2 ^ k * (2 * m) + (2 ^ k - 1) := by rw [hm, Nat.mul_add, Nat.mul_one]; omega
  have t2 : ∀ j, (x - 1).testBit j = if j < k then true else (2 * m).testBit (j - k) := fun j => by
    rw [e1, Nat.testBit_two_pow_mul_add _ (by omega)]
    by_cases c : j < k <;> simp [c, Nat.testBit_two_pow_sub_one]
  refine ⟨k, rfl, hk, fun j hj => ?_, ?_, fun j => ?_⟩
  · rw [t1]; simp; omega
  · rw [t1]; simp
  · rw [Nat.testBit_and, t2, t1]
    by_cases c : j < k
    · simp [show ¬ k ≤ j by omega]
    · by_cases c2 : j = k
      · subst c2; simp
      · obtain ⟨d, rfl⟩ : ∃ d, j = k + (d + 1) := ⟨j - k - 1, by omega⟩
        have d1 : (2 * m + 1) / 2 = m := by omega
        have d2 : 2 * m / 2 = m := by omega
        rw [show k + (d + 1) - k = d + 1 by omega, Nat.testBit_succ, Nat.testBit_succ, d1, d2]
        simp [c]
theorem placesFrom_first (f g : Nat → Bool) (k : Nat) (hf : ∀ j, j < k → f j = false) (ht : f k = true) (hg : ∀ j, g j = (f j && decide (j ≠ k))) :
    ∀ n i, i ≤ k → k < i + n → placesFrom f i n = k :: placesFrom g i n
  | 0, i, h1, h2 => by omega
  | n + 1, i, h1, h2 => by
    unfold placesFrom
    by_cases c : i = k
    · subst c
      rw [ht, hg i]
      have e : placesFrom f (i + 1) n = placesFrom g (i + 1) n := by
        have : ∀ n j, i < j → placesFrom f j n = placesFrom g j n := fun n => by
          induction n with
          | zero => intro j _; rfl
          | succ n ih => intro j hj; unfold placesFrom; rw [ih (j + 1) (by omega), hg j]; simp [show j ≠ i by omega]
        exact this n (i + 1) (by omega)
      rw [e]; simp
    · rw [hf i (by omega), hg i, hf i (by omega), placesFrom_first f g k hf ht hg n (i + 1) (by omega) (by omega)]; simp
theorem placesv_zero : placesv 0 = [] := by
  unfold placesv
  have : ∀ n i, placesFrom (Nat.testBit 0) i n = [] := fun n => by
    induction n with
    | zero => intro i; rfl
    | succ n ih => intro i; unfold placesFrom; rw [ih]; simp
  exact this 64 0
theorem placesv_cons (x : Nat) (h0 : x ≠ 0) (hx : x < 18446744073709551616) : placesv x = Lib.ctz 64 x :: placesv (x &&& (x - 1)) := by
  obtain ⟨k, rfl, hk, hf, ht, hg⟩ := low_facts x h0 hx
  unfold placesv
  exact placesFrom_first _ _ _ hf ht hg 64 0 (Nat.zero_le _) (by omega)
theorem low_lt (x : Nat) (h0 : x ≠ 0) : x &&& (x - 1) < x := Nat.lt_of_le_of_lt Nat.and_le_right (by omega)

/-! ### the library's table, the call -/
/-- math/bits.deBruijn64tab as its initialiser lays it -/
def Tab (w : World) : Prop := ∀ j, j < 64 → w.cell? ⟨0, j, none⟩ = some (.int .u8 (Lib.deBruijn64tab.getD j 0))
theorem Tab.below {w w' : World} (h : Tab w) (hb : Below w.heap.size w w') : Tab w' := fun j hj => by
  have := h j hj
  rw [hb.cell (p := ⟨0, j, none⟩) (World.block_lt_of_cell? w _ this)]; exact this
theorem Tab.lt {w : World} (h : Tab w) : 0 < w.heap.size := World.block_lt_of_cell? w _ (h 0 (by decide))

/-- math/bits.TrailingZeros64 in this program: the library's numbers and ours -/
def tzRen : Go.Shelf.Ren := ⟨fun | 29 => 29 | n => n, fun | 0 => 0 | 3 => 3 | 4 => 4 | 5 => 5 | 22 => 22 | 25 => 34 | 54 => 62 | n => n, fun | 1 => 0 | n => n⟩
theorem tzLays : Go.Proofs.Lays7.n29 Tryd.prog tzRen := {
  mixed := by kernel_rfl
  f29 := Tryd.func29.trans (congrArg some (by kernel_rfl))
  t0 := Tryd.underlying0
  a0 := Tryd.isAgg0
  z0 := Tryd.sizeOf0
  v0 := Tryd.zeroValue0
  i0 := by kernel_rfl
  t3 := Tryd.underlying3
  a3 := Tryd.isAgg3
  z3 := Tryd.sizeOf3
  v3 := Tryd.zeroValue3
  i3 := by kernel_rfl
  t4 := Tryd.underlying4
  a4 := Tryd.isAgg4
  z4 := Tryd.sizeOf4
  v4 := Tryd.zeroValue4
  i4 := by kernel_rfl
  t5 := Tryd.underlying5
  a5 := Tryd.isAgg5
  z5 := Tryd.sizeOf5
  v5 := Tryd.zeroValue5
  i5 := by kernel_rfl
  t22 := Tryd.underlying22
  a22 := Tryd.isAgg22
  z22 := Tryd.sizeOf22
  v22 := Tryd.zeroValue22
  i22 := by kernel_rfl
  t25 := Tryd.underlying34
  a25 := Tryd.isAgg34
  z25 := Tryd.sizeOf34
  v25 := Tryd.zeroValue34
  i25 := by kernel_rfl
  t54 := Tryd.underlying62
  a54 := Tryd.isAgg62
  z54 := Tryd.sizeOf62
  g1 := by kernel_rfl }
theorem tz_any (x : Nat) (hx : x < 18446744073709551616) (h0 : x ≠ 0) (w : World) (hT : Tab w) : Calls Tryd.prog 29 #[.int .u64 x] w fun e w' => e = .returned (.int .i64 (Lib.ctz 64 x)) ∧ w = w' :=
  (Go.Proofs.Any7.bits_TrailingZeros64 tzLays x hx w (fun _ => hT)).mono fun _ _ ⟨h, k⟩ => ⟨h, k.symm⟩

end Go.Proofs.YtgpligkheipoaaaDoor
