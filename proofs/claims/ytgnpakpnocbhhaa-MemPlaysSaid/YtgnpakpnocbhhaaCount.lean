/-
  Contracts of package meter: the counters.
-/
import Derived.Test.YtgnpakpnocbhhaaMeter
namespace Go.Proofs.Ytgnpakpnocbhhaa
open Go.RowKit
set_option linter.unusedVariables false

/-! ### Of -/
theorem of_nil (k : Int) (w : World) : Calls Try.prog 35 #[.pointer none, .int .i64 k] w fun e w' => e = .returned (wv 0) ∧ Below w.heap.size w w' := by
  simp only [wv, hi_0, lo_0]
  go_enter Try.func35, Try.ntmps35
  go_wp2
  exact bodyPost_ret (v := .agg #[.int .u64 0, .int .u64 0]) (by simp [results, Try.results35, go_sem]) rfl ⟨rfl, (by repeat (first | exact Below.refl _ _ | (with_reducible assumption) | refine bAlloc ?_ _ | refine below_drewN ?_ _ | refine Below.drew ?_ | (refine bSet ?_ (by first | (dsimp only; omega) | (simp; done) | (simp; omega)) _) | refine bTrans ?_ (by assumption)))⟩
theorem of_far (m : Nat) (k : Int) (hk : ¬ (0 ≤ k ∧ k < 2)) (w : World) : Calls Try.prog 35 #[at0 m, .int .i64 k] w fun e w' => e = .returned (wv 0) ∧ Below w.heap.size w w' := by
  simp only [wv, hi_0, lo_0]
  have EX := Lib.hid (fun w => exists_any k w)
  rw [decide_eq_false hk] at EX
  clear hk
  go_enter Try.func35, Try.ntmps35
  go_wp2_with (go_at_call 49; refine (EX.out _).mono ?_; rintro e w1 ⟨rfl, rfl⟩)
  exact bodyPost_ret (v := .agg #[.int .u64 0, .int .u64 0]) (by simp [results, Try.results35, go_sem]) rfl ⟨rfl, (by repeat (first | exact Below.refl _ _ | (with_reducible assumption) | refine bAlloc ?_ _ | refine below_drewN ?_ _ | refine Below.drew ?_ | (refine bSet ?_ (by first | (dsimp only; omega) | (simp; done) | (simp; omega)) _) | refine bTrans ?_ (by assumption)))⟩
theorem of_reads (m a b : Nat) (h g : Int) (w : World) (r : MRow w m a b h g) : Calls Try.prog 35 #[at0 m, .int .i64 0] w fun e w' => e = .returned (wv a) ∧ Below w.heap.size w w' := by
  have EX := Lib.hid (fun w => exists_any 0 w)
  rw [decide_eq_true (by omega)] at EX
  obtain ⟨c0, c1, c2, c3, c4, c5, cf⟩ := r.all
  have hm := r.lt
  go_enter Try.func35, Try.ntmps35
  go_wp2_with (go_at_call 49; refine (EX.out _).mono ?_; rintro e w1 ⟨rfl, rfl⟩)
  exact bodyPost_ret (v := wv a) (by simp [results, Try.results35, go_sem]) rfl ⟨rfl, (by repeat (first | exact Below.refl _ _ | (with_reducible assumption) | refine bAlloc ?_ _ | refine below_drewN ?_ _ | refine Below.drew ?_ | (refine bSet ?_ (by first | (dsimp only; omega) | (simp; done) | (simp; omega)) _) | refine bTrans ?_ (by assumption)))⟩
theorem of_writes (m a b : Nat) (h g : Int) (w : World) (r : MRow w m a b h g) : Calls Try.prog 35 #[at0 m, .int .i64 1] w fun e w' => e = .returned (wv b) ∧ Below w.heap.size w w' := by
  have EX := Lib.hid (fun w => exists_any 1 w)
  rw [decide_eq_true (by omega)] at EX
  obtain ⟨c0, c1, c2, c3, c4, c5, cf⟩ := r.all
  have hm := r.lt
  go_enter Try.func35, Try.ntmps35
  go_wp2_with (go_at_call 49; refine (EX.out _).mono ?_; rintro e w1 ⟨rfl, rfl⟩)
  exact bodyPost_ret (v := wv b) (by simp [results, Try.results35, go_sem]) rfl ⟨rfl, (by repeat (first | exact Below.refl _ _ | (with_reducible assumption) | refine bAlloc ?_ _ | refine below_drewN ?_ _ | refine Below.drew ?_ | (refine bSet ?_ (by first | (dsimp only; omega) | (simp; done) | (simp; omega)) _) | refine bTrans ?_ (by assumption)))⟩

/-! ### Steps -/
theorem steps_any (m a b : Nat) (h g : Int) (ha : N128 a) (hb : N128 b) (w : World) (r : MRow w m a b h g) : Calls Try.prog 20 #[at0 m] w fun e w' => e = .returned (wv (addv a b)) ∧ Below w.heap.size w w' := by
  have O0 := Lib.hid (fun w r => of_reads m a b h g w r)
  have O1 := Lib.hid (fun w r => of_writes m a b h g w r)
  have AD := Lib.hid (fun w => add_any a b ha hb w)
  clear ha hb
  go_enter Try.func20, Try.ntmps20
  go_wp2_with fail
  refine (O0.out _ (r.below (by repeat (first | exact Below.refl _ _ | (with_reducible assumption) | refine bAlloc ?_ _ | refine below_drewN ?_ _ | refine Below.drew ?_ | (refine bSet ?_ (by first | (dsimp only; omega) | (simp; done) | (simp; omega)) _) | refine bTrans ?_ (by assumption))))).mono ?_
  rintro e w1 ⟨rfl, b1⟩
  have b1' : Below w.heap.size w w1 := bTrans (by repeat (first | exact Below.refl _ _ | (with_reducible assumption) | refine bAlloc ?_ _ | refine below_drewN ?_ _ | refine Below.drew ?_ | (refine bSet ?_ (by first | (dsimp only; omega) | (simp; done) | (simp; omega)) _) | refine bTrans ?_ (by assumption))) b1
  dsimp only
  go_wp2_with fail
  refine (O1.out _ (r.below b1')).mono ?_
  rintro e w2 ⟨rfl, b2⟩
  dsimp only
  have Z : Row w2 w.heap.size 2 (fun _ => .int .u64 0) := ((Row.newAt w _ 30 w.heap.size 2 (fun _ => .int .u64 0) rfl zero2).below b1).below b2
  have b2' := bTrans b1' b2
  go_wp2_with fail
  refine (AD.out _).mono ?_
  rintro e w3 ⟨rfl, b3⟩
  dsimp only
  have Z3 := Z.below b3
  have b3' := bTrans b2' b3
  have l3 := Z3.lt
  have z0 := Z3.cell 0 (by omega); have z1 := Z3.cell 1 (by omega); have z2 := Z3.free 0; have z3 := Z3.free 1
  obtain ⟨y0, y1, yf⟩ := ((Z3.setW (addv a b)).below (bAlloc (Below.refl _ _) (.cells #[.int .u64 (hi (addv a b)), .int .u64 (lo (addv a b))] 30))).all
  go_wp2_with fail
  exact bodyPost_ret (v := wv (addv a b)) (by simp [results, Try.results20, go_sem, y0, y1]) rfl ⟨rfl, (by repeat (first | exact Below.refl _ _ | (with_reducible assumption) | refine bAlloc ?_ _ | refine below_drewN ?_ _ | refine Below.drew ?_ | (refine bSet ?_ (by first | (dsimp only; omega) | (simp; done) | (simp; omega)) _) | refine bTrans ?_ (by assumption)))⟩

theorem steps_nil (w : World) : Calls Try.prog 20 #[.pointer none] w fun e w' => e = .returned (wv 0) ∧ Below w.heap.size w w' := by
  have O0 := Lib.hid (fun k w => of_nil k w)
  have AD := fun w => add_any 0 0 N128_0 N128_0 w
  rw [show addv 0 0 = 0 by rw [addv_t (by unfold N128; omega)]] at AD
  have AD := Lib.hid AD
  go_enter Try.func20, Try.ntmps20
  go_wp2_with fail
  refine (O0.out _ _).mono ?_
  rintro e w1 ⟨rfl, b1⟩
  have b1' : Below w.heap.size w w1 := bTrans (by repeat (first | exact Below.refl _ _ | (with_reducible assumption) | refine bAlloc ?_ _ | refine below_drewN ?_ _ | refine Below.drew ?_ | (refine bSet ?_ (by first | (dsimp only; omega) | (simp; done) | (simp; omega)) _) | refine bTrans ?_ (by assumption))) b1
  dsimp only
  go_wp2_with fail
  refine (O0.out _ _).mono ?_
  rintro e w2 ⟨rfl, b2⟩
  dsimp only
  have Z : Row w2 w.heap.size 2 (fun _ => .int .u64 0) := ((Row.newAt w _ 30 w.heap.size 2 (fun _ => .int .u64 0) rfl zero2).below b1).below b2
  have b2' := bTrans b1' b2
  go_wp2_with fail
  refine (AD.out _).mono ?_
  rintro e w3 ⟨rfl, b3⟩
  dsimp only
  have Z3 := Z.below b3
  have b3' := bTrans b2' b3
  have l3 := Z3.lt
  have z0 := Z3.cell 0 (by omega); have z1 := Z3.cell 1 (by omega); have z2 := Z3.free 0; have z3 := Z3.free 1
  obtain ⟨y0, y1, yf⟩ := ((Z3.setW 0).below (bAlloc (Below.refl _ _) (.cells #[.int .u64 (hi 0), .int .u64 (lo 0)] 30))).all
  go_wp2_with fail
  exact bodyPost_ret (v := wv 0) (by simp [results, Try.results20, go_sem, y0, y1]) rfl ⟨rfl, (by repeat (first | exact Below.refl _ _ | (with_reducible assumption) | refine bAlloc ?_ _ | refine below_drewN ?_ _ | refine Below.drew ?_ | (refine bSet ?_ (by first | (dsimp only; omega) | (simp; done) | (simp; omega)) _) | refine bTrans ?_ (by assumption)))⟩

end Go.Proofs.Ytgnpakpnocbhhaa
