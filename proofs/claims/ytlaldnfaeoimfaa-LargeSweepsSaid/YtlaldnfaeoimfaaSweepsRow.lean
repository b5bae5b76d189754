/-
  haymowlaw15.LargeSweeps: for any two lists of bytes and any word the law returns true, and its arguments read afterwards as before.
-/
import Derived.Test.YtlaldnfaeoimfaaKitR
import Derived.Test.YtlaldnfaeoimfaaSweepsW
namespace Go.Proofs.Ytlaldnfaeoimfaa.largeSweeps
open Go.ChangeShapes Go.WideShapes Go.ChangeAt Go.RowKit Go.Joins
open Go.WideMaps Go.WideElems
set_option linter.unusedVariables false

set_option maxRecDepth 100000 in
theorem long_s (u : Int) (za : Option Addr) (nz zc : Nat) (la : Option Addr) (nf lc : Nat) (h : ¬ (nz ≤ 40 ∧ nf ≤ 40)) (w : World) : Calls Try.prog 3 #[.slice za nz zc, .slice la nf lc, .int .u64 u] w fun e w' => e = .returned (.bool true) ∧ Below w.heap.size w w' := by
  have AW := Lib.hid (fun w => awake15_any w)
  by_cases h1 : nz ≤ 40
  · have l1 : ¬ (40 : Int) < (nz : Int) := by omega
    have l2 : ¬ 40 < nz := by omega
    have l3 : (40 : Int) < (nf : Int) := by omega
    have l4 : 40 < nf := by omega
    clear h h1
    go_enter Try.func3, Try.ntmps3
    go_wp2_with fail
    with_reducible refine (AW.out _).mono ?_
    rintro e w1 ⟨rfl, b1⟩
    dsimp only
    go_wp2_with fail
    go_ret
    exact ⟨rfl, b1⟩
  · have l1 : (40 : Int) < (nz : Int) := by omega
    have l2 : 40 < nz := by omega
    clear h h1
    go_enter Try.func3, Try.ntmps3
    go_wp2_with fail
    with_reducible refine (AW.out _).mono ?_
    rintro e w1 ⟨rfl, b1⟩
    dsimp only
    go_wp2_with fail
    go_ret
    exact ⟨rfl, b1⟩
set_option maxRecDepth 100000 in
theorem lifted (os : Os) (started : os.Started) (H : Type) (enc : TypeId × Value → H) :
    ReturnsInHanded {} Try.checked os 3 .any (Rows.largeSweepsSpec.pre6 enc Try.prog Try.f3 Rows.largeSweepsRow.domain false) (Rows.largeSweepsSpec.post enc Try.prog Try.f3 false true false false) := by
  refine returnsInHanded_of_change (C := Try.checked) ownR started (by kernel_rfl) Try.func3
    (ChangeSpec.witness6 (enc := enc) (C := Try.checked) false ⟨#[], #[.slice none 0 0, .slice none 0 0, .int .u64 0], []⟩ 8 (by kernel_rfl) (by kernel_rfl) (by kernel_rfl) (by kernel_rfl)) ?_
  intro W base args ds gs before hval0 hW hcnd _
  have hval : ∀ (j : Nat) t v, Try.f3.params[j]? = some t → args[j]? = some v → Value.okWide Try.prog W .any base t v := hval0
  have hW' := hW
  obtain ⟨pp, qq, hA0, hV, rfl, hfz, hnd⟩ := hW
  have hA : DataW.TrodAll enc Try.prog W 0 (fun _ => true) true Try.f3.params.toList args.toList ds pp := hA0
  rw [Try.params3] at hA hval
  obtain ⟨v0, v1, v2, d0, d1, d2, p0, p1, p2, rfl, rfl, rfl, h0, h1, h2⟩ := trodAll_three hA
  obtain ⟨rfl, rfl⟩ := trodVars_none hV
  obtain ⟨a0, len0, cap0, rfl⟩ := okWide_slice Try.underlying22 (hval 0 22 v0 rfl rfl)
  obtain ⟨a1, len1, cap1, rfl⟩ := okWide_slice Try.underlying22 (hval 1 22 v1 rfl rfl)
  obtain ⟨t, rfl, rfl, rfl, wt⟩ := open_int Try.underlying23 (hval 2 23 v2 rfl rfl) h2
  obtain ⟨t0, t1⟩ := word_wfR wt
  obtain ⟨t, rfl⟩ := Int.eq_ofNat_of_zero_le t0
  have k0 := h0
  have lt0 : ∀ z ∈ p0, z.block < W.heap.size := by obtain ⟨m, hm⟩ := k0; exact DataW.trod_lt m _ _ _ hm
  have k1 := h1
  have lt1 : ∀ z ∈ p1, z.block < W.heap.size := by obtain ⟨m, hm⟩ := k1; exact DataW.trod_lt m _ _ _ hm
  obtain ⟨m0, Y, hY, hy, wy⟩ := open_listR (p := pb8) (fun m => rfl) Try.underlying22 Try.underlying5 (by kernel_rfl) (fun z hz => (byte_wfR hz).1) h0
  obtain ⟨m1, Z, hZ, hz, wz⟩ := open_listR (p := pb8) (fun m => rfl) Try.underlying22 Try.underlying5 (by kernel_rfl) (fun z hz => (byte_wfR hz).1) h1
  clear hA0 hval0
  have wk : Calls Try.prog 3 #[.slice a0 len0 cap0, .slice a1 len1 cap1, .int .u64 (t : Int)] W fun e W' => e = .returned (.bool true) ∧ Below W.heap.size W W' := by
    by_cases c1 : len0 ≤ 40 ∧ len1 ≤ 40
    · exact sweeps_in Y Z t (by omega) W _ _ hy (by omega) (fun c hc => by have := (byte_wfR (wy c hc)).2; omega) hz (by omega) (fun c hc => by have := (byte_wfR (wz c hc)).2; omega)
    · exact long_s _ a0 len0 cap0 a1 len1 cap1 c1 W
  refine wk.mono fun e W' ⟨he, bel⟩ => ?_
  subst he
  exact ⟨_, rfl, _, _, _, [], _, [], hW', trodAll_mk1 (shut_bool Try.underlying4 _), trodAll_mk3 (Below.trod laidOutR (by kernel_rfl) (of_decide_eq_true (by kernel_rfl)) k0 bel lt0) (Below.trod laidOutR (by kernel_rfl) (of_decide_eq_true (by kernel_rfl)) k1 bel lt1) (shut_int Try.underlying23 wt), rfl, bel.frame _, fun h => by cases h⟩

theorem proved : Rows.LargeSweepsSaid :=
  OpenClaim.holds_of_wide 3 Try.f3 rfl rfl rfl rfl rfl rfl rfl ⟨rfl, rfl, rfl, rfl, rfl⟩ rfl rfl rfl rfl rfl (by kernel_rfl) Try.func3 (by kernel_rfl)
    (of_decide_eq_true (by kernel_rfl)) (by unfold Func.isWrapper; first | (rw [if_pos (by decide +kernel)]; kernel_rfl) | (rw [if_neg (by decide +kernel)]; exact ⟨rfl, rfl⟩))
    (fun os started H enc _ => lifted os started H enc)
#print axioms proved

end Go.Proofs.Ytlaldnfaeoimfaa.largeSweeps
