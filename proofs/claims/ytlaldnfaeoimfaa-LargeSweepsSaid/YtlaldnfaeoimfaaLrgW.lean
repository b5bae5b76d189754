/-
  haymowlaw15.awake; haymowref15.Has.
-/
import Derived.Test.YtlaldnfaeoimfaaLrgK
import Derived.LoopTactic
namespace Go.Proofs.Ytlaldnfaeoimfaa
open Go.RowKit
set_option linter.unusedVariables false

theorem nl_owns {w : World} {base : Nat} {v : Value} {L : List Nat} (h : w.ownsRow base 3 1 v L.length (L.map pe)) : NL pe w v L := (NI.of_owns (R := fun _ => 0) h (fun _ _ => rfl)).nl
theorem nl_new1 (w : World) (x : Nat) (ty : TypeId) : NL pe (w.alloc (.cells #[.int .i64 (x : Int)] ty)) (.slice (some ⟨w.heap.size, 0, none⟩) 1 1) [x] :=
  ⟨_, 1, rfl, Nat.le_refl _, (fun e => nomatch e), .inr ⟨w.heap.size, 0, rfl, by simp, fun i hi => by
    obtain rfl : i = 0 := by simpa using hi
    rw [Nat.add_zero]; simp only [World.cell?, World.alloc_heap_new]; rfl⟩⟩
set_option maxRecDepth 100000 in
set_option maxHeartbeats 4000000 in
theorem awake15_any (w : World) : Calls Try.prog 5 #[] w fun e w' => e = .returned (.bool true) ∧ Below w.heap.size w w' := by
  have MD := Lib.hid (fun w => made15_ok w)
  go_enter Try.func5, Try.ntmps5
  go_wp2_with fail
  refine (MD.out _).mono ?_
  rintro e w1 ⟨mb, mm, R, pb, lb, rfl, S1⟩
  dsimp only
  obtain ⟨id1, rm1, mad1, gn1, F1, K1, _, _, _, C1⟩ := S1.add (k := 100) (by omega) (by omega) (by omega)
  obtain ⟨_, rfl, rfl, rfl, rfl⟩ := K1.resolve_right (fun q => nomatch q.1)
  rw [show ((100 : Nat) : Int) = 100 from rfl] at C1
  have C1 := Lib.hid C1
  clear S1 K1
  go_wp2_with fail
  with_reducible refine C1.out.mono ?_
  rintro e w2 ⟨R2, a2, b2, rfl, S2, _⟩
  dsimp only
  obtain ⟨id2, rm2, mad2, gn2, F2, K2, _, _, _, C2⟩ := S2.add (k := 50) (by omega) (by omega) (by omega)
  obtain ⟨_, rfl, rfl, rfl, rfl⟩ := K2.resolve_right (fun q => nomatch q.1)
  rw [show ((50 : Nat) : Int) = 50 from rfl] at C2
  have C2 := Lib.hid C2
  clear S2 K2 C1
  go_wp2_with fail
  with_reducible refine C2.out.mono ?_
  rintro e w3 ⟨R3, a3, b3, rfl, S3, _⟩
  dsimp only
  have C3 := S3.begin (by omega)
  have C3 := Lib.hid C3
  clear S3 C2
  go_wp2_with fail
  with_reducible refine C3.out.mono ?_
  rintro e w4 ⟨b4, rfl, S4, _⟩
  dsimp only
  have e4 : ([] ++ ([] ++ [0 + 1] ++ [0 + 1 + 1]) : List Nat) = [1, 2] := rfl
  rw [e4] at S4
  have C4 := S4.mark (i := 1) (by decide)
  rw [show ((([1, 2] : List Nat).getD 1 0 : Nat) : Int) = 2 from rfl, show ([1, 2] : List Nat).getD 1 0 = 2 from rfl, show ([1, 2] : List Nat).eraseIdx 1 = [1] from rfl, show ([] ++ [2] : List Nat) = [2] from rfl] at C4
  have C4 := Lib.hid C4
  clear S4 C3 e4
  go_wp2_with fail
  with_reducible refine C4.out.mono ?_
  rintro e w5 ⟨a5, b5, rfl, S5, _⟩
  dsimp only
  have C5 := S5.sweep (by omega)
  have e5 : sumw (upd (upd (fun _ => []) (0 + 1) (List.replicate 100 0)) (0 + 1 + 1) (List.replicate 50 0)) [1] = 100 := by rw [sumw_cons, sumw_nil, upd_ne _ _ (by omega), upd_at, List.length_replicate]
  rw [e5, show ((([1] : List Nat).length : Nat) : Int) = 1 from rfl, show ((100 : Nat) : Int) = 100 from rfl, show 0 + 100 + 50 - 100 = 50 from rfl] at C5
  have C5 := Lib.hid C5
  clear S5 C4 e5
  go_wp2_with fail
  with_reducible refine C5.out.mono ?_
  rintro e w6 ⟨R6, a6, b6, rfl, S6, _⟩
  dsimp only
  have C6 := S6.told (by decide)
  rw [show ([2] ++ [] : List Nat) = [2] from rfl] at C6
  have C6 := Lib.hid C6
  clear S6 C5
  go_wp2_with fail
  with_reducible refine C6.out.mono ?_
  rintro e w7 ⟨v, a7, rfl, own, S7, _⟩
  dsimp only
  have N7 := nl_owns own
  have W7 := Lib.hid (fun w k => (S7.below (w' := w) k).words)
  have B7 := Lib.hid S7.o.b
  clear own S7 C6
  have SM := Lib.hid (fun v u w hv hu => same_true v u [2] w hv hu (by decide))
  go_wp2_with fail
  have K8 := bAlloc (Below.refl w7.heap.size w7) (.cells #[.int .i64 2] 3)
  have N8 : NL pe (w7.alloc (.cells #[.int .i64 2] 3)) (.slice (some ⟨w7.heap.size, 0, none⟩) 1 1) [2] := nl_new1 w7 2 3
  refine (SM.out _ _ _ (N7.below K8) N8).mono ?_
  rintro e w8 ⟨rfl, b8⟩
  dsimp only
  have K9 := K8.trans (b8.mono K8.size)
  have C8 := Lib.hid (W7.out w8 K9)
  have B9 := Lib.hid (B7.out.trans (K9.mono B7.out.size))
  clear N7 N8 K8 K9 b8
  go_wp2_with fail
  with_reducible refine C8.out.mono ?_
  rintro e w9 ⟨rfl, rfl⟩
  dsimp only
  go_wp2_with fail
  go_ret
  exact ⟨rfl, B9.out⟩
/-! ### haymowref15.Has -/
set_option maxRecDepth 100000 in
theorem has15_any (v : Value) (L : List Nat) (z : Int) (w : World) (hv : NL pe w v L) (hl : L.length ≤ 100000) :
    Calls Try.prog 13 #[v, .int .i64 z] w fun e w' => e = .returned (.bool (decide (∃ x, x ∈ L ∧ z = (x : Int)))) ∧ Below w.heap.size w w' := by
  obtain ⟨a, cap, rfl, _, _, hva⟩ := hv
  obtain ⟨n, hn⟩ : ∃ n, L.length = n := ⟨_, rfl⟩
  rw [hn] at hva hl ⊢
  have HN := Lib.hid hn
  have HL := Lib.hid hl
  obtain ⟨d, hd⟩ : ∃ d, d = decide (∃ x, x ∈ L ∧ z = (x : Int)) := ⟨_, rfl⟩
  rw [← hd]
  have HD := Lib.hid hd
  clear hn hl hd
  go_enter Try.func13, Try.ntmps13
  go_wp2_with fail
  go_loopw [5] (fun i wr => ∃ k nq : Nat, k ≤ n ∧ i = .int .i64 (k : Int) ∧ w.drewN nq = wr ∧ ∀ j, j < k → ((L.getD j 0 : Nat) : Int) ≠ z) (fun i _ => n - (intOf i).toNat)
  case atStart => exact ⟨0, 0, by omega, rfl, rfl, fun j hj => by omega⟩
  case round =>
    obtain ⟨k, nq, hk, rfl, rfl, hno⟩ := hrel
    by_cases hlt : k < n
    · obtain ⟨g, off, rfl, hg, hc⟩ := hva.resolve_left (by omega)
      have q1 := hc k hlt
      have NO := Lib.hid hno
      have HLT := Lib.hid hlt
      obtain ⟨e1, e2, e3⟩ := up15 hlt HL.out
      have klt := lt15 hlt
      clear hva hc hno
      generalize hcc : L.getD k 0 = c at q1
      have HC := Lib.hid hcc
      clear hcc
      generalize hk1 : k + 1 = k1 at *
      have HK1 := Lib.hid hk1
      clear hk1 hk hlt
      by_cases hz : (c : Int) = z
      · have FIN := Lib.hid (show d = true from HD.out.trans (decide_eq_true ⟨c, by rw [← HC.out]; exact getD_mem (by rw [HN.out]; exact HLT.out), hz.symm⟩))
        go_wp2_with fail
        go_ret
        exact ⟨by first | (rw [FIN.out]; done) | (rw [FIN.out]; rfl) | (rw [FIN.out, hz]; rfl) | simp [FIN.out, hz], (by repeat (first | exact Below.refl _ _ | (with_reducible assumption) | refine bAlloc ?_ _ | refine below_drewN ?_ _ | refine Below.drew ?_ | (refine bSet ?_ (by first | (dsimp only; omega) | (simp; done) | (simp; omega)) _) | refine bTrans ?_ (by assumption)))⟩
      · have NO2 := Lib.hid (show ∀ j, j < k1 → ((L.getD j 0 : Nat) : Int) ≠ z from fun j hj => by
          rcases Nat.lt_or_ge j k with q | q
          · exact NO.out j q
          · rw [show j = k by have := HK1.out; omega, HC.out]; exact hz)
        go_wp2_with fail
        go_roundw
        case rel => exact ⟨k1, _, by rw [← HK1.out]; exact HLT.out, rfl, rfl, NO2.out⟩
        case measure => exact meas15 HK1.out HLT.out
    · obtain rfl : k = n := by omega
      have klt := nlt15 hlt
      have NO := Lib.hid (show ¬ ∃ x, x ∈ L ∧ z = (x : Int) from fun ⟨x, hx, e⟩ => by
        obtain ⟨i, hi, e2⟩ := List.getElem_of_mem hx
        exact hno i (by have := HN.out; omega) (by rw [e]; simp [List.getD, hi, e2]))
      clear hno hva
      go_wp2_with fail
      go_ret
      exact ⟨by first | (rw [HD.out, decide_eq_false NO.out]; done) | simp [HD.out, NO.out], (by repeat (first | exact Below.refl _ _ | (with_reducible assumption) | refine bAlloc ?_ _ | refine below_drewN ?_ _ | refine Below.drew ?_ | (refine bSet ?_ (by first | (dsimp only; omega) | (simp; done) | (simp; omega)) _) | refine bTrans ?_ (by assumption)))⟩
end Go.Proofs.Ytlaldnfaeoimfaa
