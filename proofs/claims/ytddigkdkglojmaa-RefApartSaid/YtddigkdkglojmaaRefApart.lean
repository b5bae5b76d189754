/-
  haymowlaw11.RefApart: for any two integers the law returns true, and its arguments read afterwards as before.
-/
import Derived.Test.YtddigkdkglojmaaRefW
import Derived.Test.YtddigkdkglojmaaRows
import Derived.ProofKit
import Derived.OpenShut
import Derived.Lib.SmallJoins
namespace Go.Proofs.Ytddigkdkglojmaa.refApart
open Go.ChangeShapes Go.WideShapes Go.ChangeAt Go.RowKit Go.Joins
open Go.WideMaps Go.WideElems
set_option linter.unusedVariables false

theorem own : ownKnob Try.prog.godebug = none := by kernel_rfl
theorem whole_of_wf {n : Int} (h : (Lit.int .i64 n).wf = true) : Whole n := by
  simp [Lit.wf, IntKind.min, IntKind.max, IntKind.signed, IntKind.bits] at h
  exact ⟨by omega, by omega⟩
theorem word_of_wf {x : Int} (h : (Lit.int .u64 x).wf = true) : ∃ y : Nat, x = (y : Int) ∧ y < 18446744073709551616 := by
  simp [Lit.wf, IntKind.min, IntKind.max, IntKind.signed, IntKind.bits] at h
  exact ⟨x.toNat, by omega, by omega⟩

/-- what ToSmall answers -/
theorem small_is (n : Int) : ∃ (A : Nat) (e : Int), (e = 0 ∨ e = 2) ∧ (e = 0 → (A : Int) = 2 * n + 1 ∧ 0 ≤ n) ∧ ∀ w, Calls Try.prog 7 #[.int .i64 n] w fun x w' => x = .returned (.tuple #[.int .u64 (A : Int), .int .i64 e]) ∧ w = w' := by
  by_cases s : n < 0 ∨ 4194304 ≤ n
  · exact ⟨0, 2, .inr rfl, fun h => absurd h (by decide), tosmall_no n s⟩
  · obtain ⟨k, rfl⟩ : ∃ k : Nat, n = (k : Int) := ⟨n.toNat, by omega⟩
    exact ⟨2 * k + 1, 0, .inl rfl, fun _ => ⟨by omega, by omega⟩, tosmall_ok k (by omega)⟩
/-- what ToLarge answers -/
theorem large_is (n : Int) : ∃ (A : Nat) (e : Int), (e = 0 ∨ e = 2) ∧ (e = 0 → (A : Int) = 2 * n ∧ 1 ≤ n) ∧ ∀ w, Calls Try.prog 8 #[.int .i64 n] w fun x w' => x = .returned (.tuple #[.int .u64 (A : Int), .int .i64 e]) ∧ w = w' := by
  by_cases s : n < 1 ∨ 1048576 < n
  · exact ⟨0, 2, .inr rfl, fun h => absurd h (by decide), tolarge_no n s⟩
  · obtain ⟨k, rfl⟩ : ∃ k : Nat, n = (k : Int) := ⟨n.toNat, by omega⟩
    exact ⟨2 * k, 0, .inl rfl, fun _ => ⟨by omega, by omega⟩, tolarge_ok k (by omega) (by omega)⟩
theorem same_of {a b n m : Int} (h : a = b ↔ n = m) : (a == b) = (n == m) := by
  rw [Bool.eq_iff_iff, beq_iff_eq, beq_iff_eq]; exact h
theorem unlike {a b : Int} (h : a ≠ b) : (a != b) = true := by simpa using h
/-- for any two integers -/
theorem apart_any (n m : Int) (w : World) : Calls Try.prog 5 #[.int .i64 n, .int .i64 m] w fun e w' => e = .returned (.bool true) ∧ w = w' := by
  obtain ⟨A, e, e2, ea, TA⟩ := small_is n
  obtain ⟨B, f, f2, fb, TB⟩ := small_is m
  obtain ⟨C, g, g2, gc, TC⟩ := large_is n
  obtain ⟨D, h, h2, hd, TD⟩ := large_is m
  exact apart_walk n m A B C D e f g h (n == m) w rfl e2 f2 g2 h2
    (fun a b => same_of (by have := (ea a).1; have := (fb b).1; omega)) (fun a b => same_of (by have := (gc a).1; have := (hd b).1; omega))
    (fun a b => unlike (by have := (ea a).1; have := (hd b).1; omega)) (fun a b => unlike (by have := (gc a).1; have := (fb b).1; omega))
    (fun a => unlike (by have := ea a; omega)) (fun a => unlike (by have := gc a; omega)) TA TB TC TD

set_option maxRecDepth 100000 in
theorem lifted (os : Os) (started : os.Started) (H : Type) (enc : TypeId × Value → H) :
    ReturnsInHanded {} Try.checked os 5 .any (Rows.refApartSpec.pre6 enc Try.prog Try.f5 Rows.refApartRow.domain false) (Rows.refApartSpec.post enc Try.prog Try.f5 false true false false) := by
  refine returnsInHanded_of_change (C := Try.checked) own started (by kernel_rfl) Try.func5
    (ChangeSpec.witness6 (enc := enc) (C := Try.checked) false ⟨#[], #[.int .i64 0, .int .i64 0], []⟩ 8 (by kernel_rfl) (by kernel_rfl) (by kernel_rfl) (by kernel_rfl)) ?_
  intro W base args ds gs before hval0 hW hcnd _
  have hval : ∀ (j : Nat) t v, Try.f5.params[j]? = some t → args[j]? = some v → Value.okWide Try.prog W .any base t v := hval0
  have hW' := hW
  obtain ⟨p, q, hA0, hV, rfl, hfz, hnd⟩ := hW
  have hA : DataW.TrodAll enc Try.prog W 0 (fun _ => true) true Try.f5.params.toList args.toList ds p := hA0
  rw [Try.params5] at hA hval
  obtain ⟨v0, v1, d0, d1, p0, p1, rfl, rfl, rfl, h0, h1⟩ := trodAll_two hA
  obtain ⟨rfl, rfl⟩ := trodVars_none hV
  obtain ⟨n, rfl, rfl, rfl, wn⟩ := open_int Try.underlying3 (hval 0 3 v0 rfl rfl) h0
  obtain ⟨m, rfl, rfl, rfl, wm⟩ := open_int Try.underlying3 (hval 1 3 v1 rfl rfl) h1
  clear hA0 hval0
  refine (apart_any n m W).mono fun e W' ⟨he, hw⟩ => ?_
  subst he
  subst hw
  exact ⟨_, rfl, _, _, _, [], _, [], hW', trodAll_mk1 (shut_bool Try.underlying4 _), trodAll_mk2 (shut_int Try.underlying3 wn) (shut_int Try.underlying3 wm), rfl, (Below.refl W.heap.size W).frame _, fun h => by cases h⟩

theorem proved : Rows.RefApartSaid :=
  OpenClaim.holds_of_wide 5 Try.f5 rfl rfl rfl rfl rfl rfl rfl ⟨rfl, rfl, rfl, rfl, rfl⟩ rfl rfl rfl rfl rfl (by kernel_rfl) Try.func5 (by kernel_rfl)
    (of_decide_eq_true (by kernel_rfl)) (by unfold Func.isWrapper; first | (rw [if_pos (by decide +kernel)]; kernel_rfl) | (rw [if_neg (by decide +kernel)]; exact ⟨rfl, rfl⟩))
    (fun os started H enc _ => lifted os started H enc)
#print axioms proved

end Go.Proofs.Ytddigkdkglojmaa.refApart
