/-
  The contract of wide.Sum.
-/
import Derived.Test.YtfcplfbofobdpaaKit01
import Derived.LoopTactic
import Derived.Deep.RegionWith
import Derived.Deep.Cut
import Derived.Deep.DeepCutAuto
namespace Go.Proofs.Ytfcplfbofobdpaa
open Go.RowKit
set_option linter.unusedVariables false

/-- the numbers of a list, added one by one -/
def sumv (xs : List Nat) : Nat := xs.foldl addv 0
theorem sumv_snoc (xs : List Nat) (n : Nat) : sumv (xs ++ [n]) = addv (sumv xs) n := by unfold sumv; rw [List.foldl_append]; rfl
theorem sumv_take {xs : List Nat} {k : Nat} (h : k < xs.length) : sumv (xs.take (k + 1)) = addv (sumv (xs.take k)) (xs.getD k 0) := by
  rw [List.take_succ_eq_append_getElem h, sumv_snoc]
  simp [List.getD, List.getElem?_eq_getElem h]
theorem N128_sumv (xs : List Nat) : N128 (sumv xs) := by
  unfold sumv
  have h : ∀ (l : List Nat) (v : Nat), N128 v → N128 (l.foldl addv v) := fun l => by
    induction l with
    | nil => intro v h; exact h
    | cons a l ih => intro v h; exact ih _ (N128_addv _ _)
  exact h xs 0 N128_0

theorem sum_none (a : Option Addr) (cap : Nat) (w : World) : Calls Try.prog 27 #[.slice a 0 cap] w fun e w' => e = .returned (wv 0) ∧ Below w.heap.size w w' := by
  simp only [wv, hi_0, lo_0]
  go_enter Try.func27, Try.ntmps27
  go_wp2
  go_loop [5, 8] (fun _ i => i = .int .i64 0) (fun _ _ => 0)
  case atStart => rfl
  case round =>
    subst hrel
    go_wp2
    exact bodyPost_ret (v := .agg #[.int .u64 0, .int .u64 0]) (by simp [results, Try.results27, go_sem]) rfl ⟨rfl, (by repeat (first | exact Below.refl _ _ | (with_reducible assumption) | refine bAlloc ?_ _ | refine below_drewN ?_ _ | refine Below.drew ?_ | (refine bSet ?_ (by first | (dsimp only; omega) | (simp; done) | (simp; omega)) _) | refine bTrans ?_ (by assumption)))⟩

set_option maxHeartbeats 600000 in
set_option maxRecDepth 100000 in
theorem sum_some (b off n cap : Nat) (xs : List Nat) (hl : xs.length = n) (hm : n ≤ 1000000) (hx : ∀ i, xs.getD i 0 < 18446744073709551616) (w : World) (hb : b < w.heap.size) (hc : ∀ i, i < n → w.cell? ⟨b, off + i, none⟩ = some (.int .u64 ((xs.getD i 0 : Nat) : Int))) :
    Calls Try.prog 27 #[.slice (some ⟨b, off, none⟩) n cap] w fun e w' => e = .returned (wv (sumv xs)) ∧ Below w.heap.size w w' := by
  have HL := Lib.hid hl
  have HC := Lib.hid hc
  have HX := Lib.hid hx
  clear hl hc hx
  go_enter Try.func27, Try.ntmps27
  go_wp2
  go_loopw [5, 8] (fun _ i wr => ∃ k : Nat, k ≤ n ∧ i = .int .i64 k ∧ Row wr w.heap.size 2 (wrow 0) ∧ Row wr (w.heap.size + 1) 2 (wrow (sumv (xs.take k))) ∧ Below w.heap.size w wr) (fun _ i _ => n - (intOf i).toNat)
  case atStart =>
    exact ⟨0, by omega, rfl, (Row.newAt _ _ _ _ 2 _ (by simp) zero_new).alloc _, Row.newAt _ _ _ _ 2 _ (by simp) zero_new, (by repeat (first | exact Below.refl _ _ | (with_reducible assumption) | refine bAlloc ?_ _ | refine below_drewN ?_ _ | refine Below.drew ?_ | (refine bSet ?_ (by first | (dsimp only; omega) | (simp; done) | (simp; omega)) _) | refine bTrans ?_ (by assumption)))⟩
  case round =>
    obtain ⟨k, hk, rfl, R1, R2, bel⟩ := hrel
    obtain ⟨x0, x1, x2⟩ := R2.two
    have x3 := R2.free 0; have x4 := R2.free 1
    obtain ⟨z0, z1, z2⟩ := R1.two
    by_cases hlt : k < n
    · have q0 : wr.cell? ⟨b, off + k, none⟩ = some (.int .u64 ((xs.getD k 0 : Nat) : Int)) := (bel.cell (p := ⟨b, off + k, none⟩) hb).trans (HC.out k hlt)
      have hv := HX.out k
      have st := sumv_take (xs := xs) (k := k) (by rw [HL.out]; exact hlt)
      have AD := fun w => add_any (sumv (xs.take k)) (xs.getD k 0) (N128_sumv _) (by unfold N128; omega) w
      rw [← st] at AD
      simp only [wv, hi_of_lt hv, lo_of_lt hv] at AD
      have AH := Lib.hid AD
      have W2 := fun (w2 : World) => @wrow_set w2 (w.heap.size + 1) (sumv (xs.take k)) (sumv (xs.take (k + 1)))
      clear AD st hv
      generalize ((xs.getD k 0 : Nat) : Int) = v at *
      generalize hs : sumv (xs.take k) = S at *
      generalize hs2 : sumv (xs.take (k + 1)) = S2 at *
      have HS2 := Lib.hid hs2
      clear hs hs2
      generalize addok S (xs.getD k 0) = g at *
      go_upto_region 5 with fail
      go_region_with (first
        | (go_at_call 22; (with_reducible refine (of_ex _ _).mono ?_); rintro e w1 ⟨rfl, rfl⟩)
        | (go_at_call 9; (with_reducible refine (AH.out _).mono ?_); rintro e w7 ⟨rfl, hb7⟩; have U1 : Row w7 w.heap.size 2 (wrow 0) := Row.below (by repeat (first | exact R1 | refine Row.alloc ?_ _ | refine Row.drewN ?_ _ | refine Row.drew ?_)) hb7; have U2 : Row w7 (w.heap.size + 1) 2 (wrow S) := Row.below (by repeat (first | exact R2 | refine Row.alloc ?_ _ | refine Row.drewN ?_ _ | refine Row.drew ?_)) hb7; obtain ⟨y0, y1, y2⟩ := U2.two; have y3 := U2.free 0; have y4 := U2.free 1))
      all_goals
        go_wp2_with fail
        have b7 : Below w.heap.size w w7 := bTrans (by repeat (first | exact Below.refl _ _ | (with_reducible assumption) | refine bAlloc ?_ _ | refine below_drewN ?_ _ | refine Below.drew ?_ | (refine bSet ?_ (by first | (dsimp only; omega) | (simp; done) | (simp; omega)) _) | refine bTrans ?_ (by assumption))) hb7
        have T2 := W2 w7 U2
        go_roundw
        case rel => exact ⟨k + 1, by omega, by go_num, (U1.far _ (by dsimp only; omega)).far _ (by dsimp only; omega), by rw [HS2.out]; exact T2, (by repeat (first | exact Below.refl _ _ | (with_reducible assumption) | refine bAlloc ?_ _ | refine below_drewN ?_ _ | refine Below.drew ?_ | (refine bSet ?_ (by first | (dsimp only; omega) | (simp; done) | (simp; omega)) _) | refine bTrans ?_ (by assumption)))⟩
        case measure => simp [intOf]; try omega
    · obtain rfl : k = n := by omega
      have e : xs.take k = xs := List.take_of_length_le (by rw [HL.out]; omega)
      rw [e] at R2 x0 x1
      have z3 := R1.free 0; have z4 := R1.free 1
      clear e
      go_wp2
      exact bodyPost_ret (v := wv (sumv xs)) (by simp [results, Try.results27, go_sem, z0, z1]) rfl ⟨rfl, (by repeat (first | exact Below.refl _ _ | (with_reducible assumption) | refine bAlloc ?_ _ | refine below_drewN ?_ _ | refine Below.drew ?_ | (refine bSet ?_ (by first | (dsimp only; omega) | (simp; done) | (simp; omega)) _) | refine bTrans ?_ (by assumption)))⟩

end Go.Proofs.Ytfcplfbofobdpaa
