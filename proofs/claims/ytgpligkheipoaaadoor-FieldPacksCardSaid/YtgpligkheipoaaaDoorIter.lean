/-
  field.Places and the loop over it: which ones of a word are told.
-/
import Derived.Test.YtgpligkheipoaaaDoorTz
import Derived.RangeFuncBox
import Derived.RangeFuncLeaves
import Derived.Shelf.Abstract
import Derived.OwnWalkIn
import Derived.TacticsInMore
import Derived.LoopNIn
import Derived.LoopIn
import Derived.Maps.AppendAt
namespace Go.Proofs.YtgpligkheipoaaaDoor
open Go.RowKit Go.Shelf
set_option linter.unusedVariables false

attribute [local go_sem] Oper.semAt_some

/-- a bit's number, as the program has it -/
abbrev pe (x : Nat) : Value := .int .i64 (x : Int)
theorem and_step (x : Nat) (h0 : x ≠ 0) (hx : x < 18446744073709551616) : bits BinOp.and IntKind.u64 (x : Int) ((x : Int) - 1) = ((x &&& (x - 1) : Nat) : Int) := by
  rw [show (x : Int) - 1 = ((x - 1 : Nat) : Int) by omega]
  exact bits_and_u64_nat x _ hx (by omega)

set_option maxRecDepth 100000 in
set_option maxHeartbeats 1000000 in
theorem places1_in (n : Nat) (hn : 1 ≤ n) (l Bn n₀ : Nat) (X : Nat) (hX : X < 18446744073709551616) (J Jx : List Nat → World → Prop)
    (hY : ∀ pre x W, J pre W → pre.length < (placesv X).length → YieldAt Fence.wide (n - 1) Tryd.prog l #[pe x] W fun e W' =>
      (e = .returned (.bool true) ∧ J (pre ++ [x]) W' ∧ Below n₀ W W') ∨ (e = .returned (.bool false) ∧ Jx (pre ++ [x]) W'))
    (W : World) (hBn : W.cell? ⟨Bn, 0, none⟩ = some (.int .u64 (X : Int))) (hT : Tab W) (h00 : 0 < n₀) (h0 : J [] W) :
    CallsIn Fence.wide n Tryd.prog 28 #[.func (.yield l) #[] #[], .pointer (some ⟨Bn, 0, none⟩)] W fun e W' => (∃ v, e = .returned v) ∧
      ((∃ ys, ys = placesv X ∧ J ys W') ∨ (∃ pre, pre <+: placesv X ∧ Jx pre W')) := by
  refine callsIn_of_wp Tryd.func28 rfl trivial ?_ rfl
  simp only [Tryd.ntmps28, List.size_toArray, List.length_cons, List.length_nil, Nat.reduceAdd, Nat.reduceSub, Array.replicate_succ, Array.replicate_zero, List.push_toArray, List.append_toArray, List.nil_append, List.cons_append]
  gi_wp2
  gi_loopw [3] (fun p wr => ∃ (pre : List Nat) (q : Nat), p = .int .u64 (q : Int) ∧ q < 18446744073709551616 ∧ placesv X = pre ++ placesv q ∧ Tab wr ∧ J pre wr)
    (fun p wr => (intOf p).toNat)
  case atStart =>
    exact ⟨[], X, rfl, hX, rfl, hT, h0⟩
  case round =>
    obtain ⟨pre, q, rfl, hq, hx, hTr, hJs⟩ := hrel
    by_cases hz : q = 0
    · subst hz
      rw [placesv_zero, List.append_nil] at hx
      have HX := Lib.hid hx
      clear hx
      gi_wp2
      go_end0
      exact ⟨⟨_, rfl⟩, .inl ⟨pre, HX.out.symm, hJs⟩⟩
    · have hc := placesv_cons q hz hq
      have ha := and_step q hz hq
      have hl := low_lt q hz
      have ht := tz_any q hq hz wr hTr
      rw [hc] at hx
      obtain ⟨fn, tmps, assign, body, hy, hR⟩ := hY pre (Lib.ctz 64 q) wr hJs (by rw [hx]; simp)
      have HX := Lib.hid hx
      clear hx hc
      have hz' : ((q : Int) != 0) = true := by simp; omega
      have hq1 : (1 : Int) ≤ q := by omega
      gi_wp2_with (refine ⟨trivial, ?_⟩; gi_at_call 29; refine (callsIn_wide.2 ht).mono ?_; rintro e w' ⟨rfl, rfl⟩)
      refine hR.mono ?_
      rintro e W3 (⟨rfl, hJ3, hk3⟩ | ⟨rfl, hJx3⟩)
      · have hT3 : Tab W3 := fun j hj => (hk3.cell (p := ⟨0, j, none⟩) h00).trans (hTr j hj)
        gi_wp2
        go_roundw
        case rel => exact ⟨pre ++ [Lib.ctz 64 q], q &&& (q - 1), rfl, by omega, by rw [HX.out]; simp, hT3, hJ3⟩
        case measure => simp [intOf]; try omega
      · gi_wp2
        refine bodyPost_ret (results_none rfl _ _ _) rfl ?_
        exact ⟨⟨_, rfl⟩, .inr ⟨pre ++ [Lib.ctz 64 q], ⟨placesv (q &&& (q - 1)), by rw [HX.out]; simp⟩, hJx3⟩⟩

end Go.Proofs.YtgpligkheipoaaaDoor
