/-
  haymowlaw11.RefMakes: for any integer the law returns true, and its arguments read afterwards as before.
-/
import Derived.Test.YtddigkdkglojmaaRefW
import Derived.Test.YtddigkdkglojmaaRows
import Derived.ProofKit
import Derived.OpenShut
import Derived.Lib.SmallJoins
namespace Go.Proofs.Ytddigkdkglojmaa.refMakes
open Go.ChangeShapes Go.WideShapes Go.ChangeAt Go.RowKit Go.Joins
open Go.WideMaps Go.WideElems
set_option linter.unusedVariables false

theorem own : ownKnob Try.prog.godebug = none := by kernel_rfl
theorem whole_of_wf {n : Int} (h : (Lit.int .i64 n).wf = true) : Whole n := by
  simp [Lit.wf, IntKind.min, IntKind.max, IntKind.signed, IntKind.bits] at h
  exact ⟨by omega, by omega⟩
theorem word_of_wf {x : Int} (h : (Lit.int .u64 x).wf = true) : ∃ y : Nat, x = (y : Int) ∧ y < 18446744073709551616 := by
  simp [Lit.wf, IntKind.min, IntKind.max, IntKind.signed, IntKind.bits] at h
  exact ⟨x.toNat, by omega, by omega⟩

/-- the word of a small object and of a large one -/
theorem small_of (n : Nat) (hn : n < 4194304) : kd (2 * n + 1) = 1 ∧ nr (2 * n + 1) = n := by
  have k := kd_small (x := 2 * n + 1) (by omega) (by omega)
  exact ⟨k, by rw [nr_of (.inl k)]; omega⟩
theorem large_of (n : Nat) (h0 : 1 ≤ n) (hn : n ≤ 1048576) : kd (2 * n) = 2 ∧ nr (2 * n) = n := by
  have k := kd_large (x := 2 * n) (by omega) (by omega) (by omega)
  exact ⟨k, by rw [nr_of (.inr k)]; omega⟩
theorem small_tells (n : Nat) (hn : n < 4194304) : (∀ w, Calls Try.prog 10 #[.int .u64 ((2 * n + 1 : Nat) : Int)] w fun e w' => e = .returned (.int .i64 1) ∧ w = w') ∧ (∀ w, Calls Try.prog 11 #[.int .u64 ((2 * n + 1 : Nat) : Int)] w fun e w' => e = .returned (.int .i64 (n : Int)) ∧ w = w') := by
  obtain ⟨k, y⟩ := small_of n hn
  exact ⟨fun w => by have h := kind_any (2 * n + 1) (by omega) w; rw [k] at h; exact h, fun w => by have h := at_any (2 * n + 1) (by omega) w; rw [y] at h; exact h⟩
theorem large_tells (n : Nat) (h0 : 1 ≤ n) (hn : n ≤ 1048576) : (∀ w, Calls Try.prog 10 #[.int .u64 ((2 * n : Nat) : Int)] w fun e w' => e = .returned (.int .i64 2) ∧ w = w') ∧ (∀ w, Calls Try.prog 11 #[.int .u64 ((2 * n : Nat) : Int)] w fun e w' => e = .returned (.int .i64 (n : Int)) ∧ w = w') := by
  obtain ⟨k, y⟩ := large_of n h0 hn
  exact ⟨fun w => by have h := kind_any (2 * n) (by omega) w; rw [k] at h; exact h, fun w => by have h := at_any (2 * n) (by omega) w; rw [y] at h; exact h⟩
/-- for any integer -/
theorem makes_any (n : Int) (w : World) : Calls Try.prog 3 #[.int .i64 n] w fun e w' => e = .returned (.bool true) ∧ w = w' := by
  by_cases s : n < 0 ∨ 4194304 ≤ n
  · exact makes_walk n 0 0 2 2 false false w (.inr ⟨rfl, rfl⟩) (.inr ⟨rfl, rfl⟩) (tosmall_no n s) (tolarge_no n (by omega)) (word1_no n s) (word2_no n (by omega))
  · obtain ⟨k, rfl⟩ : ∃ k : Nat, n = (k : Int) := ⟨n.toNat, by omega⟩
    have t := small_tells k (by omega)
    by_cases l : 1 ≤ k ∧ k ≤ 1048576
    · have u := large_tells k l.1 l.2
      exact makes_walk k (2 * k + 1) (2 * k) 0 0 true true w (.inl ⟨rfl, rfl, t.1, t.2⟩) (.inl ⟨rfl, rfl, u.1, u.2⟩) (tosmall_ok k (by omega)) (tolarge_ok k l.1 l.2) (word1_ok k (by omega)) (word2_ok k l.1 l.2)
    · exact makes_walk k (2 * k + 1) 0 0 2 true false w (.inl ⟨rfl, rfl, t.1, t.2⟩) (.inr ⟨rfl, rfl⟩) (tosmall_ok k (by omega)) (tolarge_no k (by omega)) (word1_ok k (by omega)) (word2_no k (by omega))

set_option maxRecDepth 100000 in
theorem lifted (os : Os) (started : os.Started) (H : Type) (enc : TypeId × Value → H) :
    ReturnsInHanded {} Try.checked os 3 .any (Rows.refMakesSpec.pre6 enc Try.prog Try.f3 Rows.refMakesRow.domain false) (Rows.refMakesSpec.post enc Try.prog Try.f3 false true false false) := by
  refine returnsInHanded_of_change (C := Try.checked) own started (by kernel_rfl) Try.func3
    (ChangeSpec.witness6 (enc := enc) (C := Try.checked) false ⟨#[], #[.int .i64 0], []⟩ 8 (by kernel_rfl) (by kernel_rfl) (by kernel_rfl) (by kernel_rfl)) ?_
  intro W base args ds gs before hval0 hW hcnd _
  have hval : ∀ (j : Nat) t v, Try.f3.params[j]? = some t → args[j]? = some v → Value.okWide Try.prog W .any base t v := hval0
  have hW' := hW
  obtain ⟨p, q, hA0, hV, rfl, hfz, hnd⟩ := hW
  have hA : DataW.TrodAll enc Try.prog W 0 (fun _ => true) true Try.f3.params.toList args.toList ds p := hA0
  rw [Try.params3] at hA hval
  obtain ⟨v0, d0, rfl, rfl, h0⟩ := trodAll_one hA
  obtain ⟨rfl, rfl⟩ := trodVars_none hV
  obtain ⟨n, rfl, rfl, rfl, wn⟩ := open_int Try.underlying3 (hval 0 3 v0 rfl rfl) h0
  clear hA0 hval0
  refine (makes_any n W).mono fun e W' ⟨he, hw⟩ => ?_
  subst he
  subst hw
  exact ⟨_, rfl, _, _, _, [], _, [], hW', trodAll_mk1 (shut_bool Try.underlying4 _), trodAll_mk1 (shut_int Try.underlying3 wn), rfl, (Below.refl W.heap.size W).frame _, fun h => by cases h⟩

theorem proved : Rows.RefMakesSaid :=
  OpenClaim.holds_of_wide 3 Try.f3 rfl rfl rfl rfl rfl rfl rfl ⟨rfl, rfl, rfl, rfl, rfl⟩ rfl rfl rfl rfl rfl (by kernel_rfl) Try.func3 (by kernel_rfl)
    (of_decide_eq_true (by kernel_rfl)) (by unfold Func.isWrapper; first | (rw [if_pos (by decide +kernel)]; kernel_rfl) | (rw [if_neg (by decide +kernel)]; exact ⟨rfl, rfl⟩))
    (fun os started H enc _ => lifted os started H enc)
#print axioms proved

end Go.Proofs.Ytddigkdkglojmaa.refMakes
