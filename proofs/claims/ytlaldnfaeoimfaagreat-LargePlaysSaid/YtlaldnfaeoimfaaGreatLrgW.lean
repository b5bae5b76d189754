/-
  haymowlaw15.awake.
-/
import Derived.Test.YtlaldnfaeoimfaaGreatLrgK
import Derived.Test.YtlaldnfaeoimfaaGreatLrgT
import Derived.LoopTactic
namespace Go.Proofs.YtlaldnfaeoimfaaGreat
open Go.RowKit
set_option linter.unusedVariables false

theorem nl_owns {w : World} {base : Nat} {v : Value} {L : List Nat} (h : w.ownsRow base 3 1 v L.length (L.map pe)) : NL pe w v L := (NI.of_owns (R := fun _ => 0) h (fun _ _ => rfl)).nl
theorem nl_new1 (w : World) (x : Nat) (ty : TypeId) : NL pe (w.alloc (.cells #[.int .i64 (x : Int)] ty)) (.slice (some ⟨w.heap.size, 0, none⟩) 1 1) [x] :=
  ⟨_, 1, rfl, Nat.le_refl _, (fun e => nomatch e), .inr ⟨w.heap.size, 0, rfl, by simp, fun i hi => by
    obtain rfl : i = 0 := by simpa using hi
    rw [Nat.add_zero]; simp only [World.cell?, World.alloc_heap_new]; rfl⟩⟩
set_option maxRecDepth 100000 in
set_option maxHeartbeats 4000000 in
theorem awake15_any (w : World) : Calls Tryz.prog 4 #[] w fun e w' => e = .returned (.bool true) ∧ Below w.heap.size w w' := by
  have MD := Lib.hid (fun w => made15_ok w)
  go_enter Tryz.func4, Tryz.ntmps4
  go_wp2_with fail
  refine (MD.out _).mono ?_
  rintro e w1 ⟨mb, mm, R, pb, lb, rfl, S1⟩
  dsimp only
  obtain ⟨id1, rm1, mad1, gn1, F1, K1, _, _, _, C1⟩ := S1.add (k := 100) (by omega) (by omega) (by omega)
  obtain ⟨_, rfl, rfl, rfl, rfl⟩ := K1.resolve_right (fun q => nomatch q.1)
  rw [show ((100 : Nat) : Int) = 100 from rfl] at C1
  have C1 := Lib.hid C1
  clear S1 K1
  go_wp2_with fail
  with_reducible refine C1.out.mono ?_
  rintro e w2 ⟨R2, a2, b2, rfl, S2, _⟩
  dsimp only
  obtain ⟨id2, rm2, mad2, gn2, F2, K2, _, _, _, C2⟩ := S2.add (k := 50) (by omega) (by omega) (by omega)
  obtain ⟨_, rfl, rfl, rfl, rfl⟩ := K2.resolve_right (fun q => nomatch q.1)
  rw [show ((50 : Nat) : Int) = 50 from rfl] at C2
  have C2 := Lib.hid C2
  clear S2 K2 C1
  go_wp2_with fail
  with_reducible refine C2.out.mono ?_
  rintro e w3 ⟨R3, a3, b3, rfl, S3, _⟩
  dsimp only
  have C3 := S3.begin (by omega)
  have C3 := Lib.hid C3
  clear S3 C2
  go_wp2_with fail
  with_reducible refine C3.out.mono ?_
  rintro e w4 ⟨b4, rfl, S4, _⟩
  dsimp only
  have e4 : ([] ++ ([] ++ [0 + 1] ++ [0 + 1 + 1]) : List Nat) = [1, 2] := rfl
  rw [e4] at S4
  have C4 := S4.mark (i := 1) (by decide)
  rw [show ((([1, 2] : List Nat).getD 1 0 : Nat) : Int) = 2 from rfl, show ([1, 2] : List Nat).getD 1 0 = 2 from rfl, show ([1, 2] : List Nat).eraseIdx 1 = [1] from rfl, show ([] ++ [2] : List Nat) = [2] from rfl] at C4
  have C4 := Lib.hid C4
  clear S4 C3 e4
  go_wp2_with fail
  with_reducible refine C4.out.mono ?_
  rintro e w5 ⟨a5, b5, rfl, S5, _⟩
  dsimp only
  have C5 := S5.sweep (by omega)
  have e5 : sumw (upd (upd (fun _ => []) (0 + 1) (List.replicate 100 0)) (0 + 1 + 1) (List.replicate 50 0)) [1] = 100 := by rw [sumw_cons, sumw_nil, upd_ne _ _ (by omega), upd_at, List.length_replicate]
  rw [e5, show ((([1] : List Nat).length : Nat) : Int) = 1 from rfl, show ((100 : Nat) : Int) = 100 from rfl, show 0 + 100 + 50 - 100 = 50 from rfl] at C5
  have C5 := Lib.hid C5
  clear S5 C4 e5
  go_wp2_with fail
  with_reducible refine C5.out.mono ?_
  rintro e w6 ⟨R6, a6, b6, rfl, S6, _⟩
  dsimp only
  have C6 := S6.told (by decide)
  rw [show ([2] ++ [] : List Nat) = [2] from rfl] at C6
  have C6 := Lib.hid C6
  clear S6 C5
  go_wp2_with fail
  with_reducible refine C6.out.mono ?_
  rintro e w7 ⟨v, a7, rfl, own, S7, _⟩
  dsimp only
  have N7 := nl_owns own
  have W7 := Lib.hid (fun w k => (S7.below (w' := w) k).words)
  have B7 := Lib.hid S7.o.b
  clear own S7 C6
  have SM := Lib.hid (fun v u w hv hu => same_true v u [2] w hv hu (by decide))
  go_wp2_with fail
  have K8 := bAlloc (Below.refl w7.heap.size w7) (.cells #[.int .i64 2] 3)
  have N8 : NL pe (w7.alloc (.cells #[.int .i64 2] 3)) (.slice (some ⟨w7.heap.size, 0, none⟩) 1 1) [2] := nl_new1 w7 2 3
  refine (SM.out _ _ _ (N7.below K8) N8).mono ?_
  rintro e w8 ⟨rfl, b8⟩
  dsimp only
  have K9 := K8.trans (b8.mono K8.size)
  have C8 := Lib.hid (W7.out w8 K9)
  have B9 := Lib.hid (B7.out.trans (K9.mono B7.out.size))
  clear N7 N8 K8 K9 b8
  go_wp2_with fail
  with_reducible refine C8.out.mono ?_
  rintro e w9 ⟨rfl, rfl⟩
  dsimp only
  go_wp2_with fail
  go_ret
  exact ⟨rfl, B9.out⟩
/-! ### haymowref15.Has -/
end Go.Proofs.YtlaldnfaeoimfaaGreat
