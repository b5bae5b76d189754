/-
  haymowlaw10.made, awake, few.
-/
import Derived.Test.YthigcabmmhjooaaPoolH
namespace Go.Proofs.Ythigcabmmhjooaa
open Go.RowKit
set_option linter.unusedVariables false

theorem pool_neq_nil (a : Addr) (w : World) : (binOp .neq 26 (.pointer (some a)) (.pointer none)).run Try.prog w = .ok (.bool true) w := by kernel_rfl
theorem made_ok (W : Nat) (h1 : 1 ≤ W) (h2 : W ≤ 60) (w : World) : Calls Try.prog 7 #[.int .i64 (W : Int)] w fun e w' => ∃ mb mm R pb, e = .returned (.tuple #[at0 mb, at0 pb, .bool true]) ∧ PL w R pb mb mm W 0 0 0 0 [] 0 0 0 (fun _ => false) (fun _ => 0) [] w' := by
  have NW := Lib.hid (fun w => mnew_any w)
  have PN := Lib.hid (fun mb mm R w m => pnew_ok mb mm R W h1 h2 w m)
  have q0 := fun w a => ptr_eql_nil a w
  have q1 := fun w a => pool_neq_nil a w
  clear h1 h2
  go_enter Try.func7, Try.ntmps7
  go_wp2_with fail
  with_reducible refine (NW.out _).mono ?_
  rintro e w1 ⟨mb, mm, R, rfl, M1, lo1, b1⟩
  dsimp only
  go_wp2_with fail
  with_reducible refine (PN.out mb mm R _ M1).mono ?_
  rintro e w2 ⟨R2, pb, rfl, P2, lp, T2⟩
  dsimp only
  have O1 : Own w R w1 := ⟨lo1, b1⟩
  have S2 := Lib.hid (show PL w R2 pb mb mm W 0 0 0 0 [] 0 0 0 (fun _ => false) (fun _ => 0) [] w2 from ⟨⟨0, P2⟩, PR.start _ _ _ _, Nat.le_trans b1.size lp, O1.step T2⟩)
  clear O1 M1 T2 P2
  go_wp2_with fail
  exact bodyPost_ret (v := .tuple #[at0 mb, at0 pb, .bool true]) (by simp [results, Try.results7, go_sem]) rfl ⟨mb, mm, R2, pb, rfl, S2.out⟩
theorem few_any (a : Option Addr) (n c : Nat) (w : World) : Calls Try.prog 6 #[.slice a n c] w fun e w' => e = .returned (.bool (decide (n ≤ 80))) ∧ w = w' := by
  go_enter Try.func6, Try.ntmps6
  go_wp2_with fail
  exact bodyPost_ret (v := .bool (decide (n ≤ 80))) (by simp [results, Try.results6, go_sem]; omega) rfl ⟨rfl, rfl⟩
set_option maxRecDepth 100000 in
set_option maxHeartbeats 4000000 in
theorem awake10_any (w : World) : Calls Try.prog 5 #[] w fun e w' => e = .returned (.bool true) ∧ Below w.heap.size w w' := by
  have MD := Lib.hid (show ∀ w, Calls Try.prog 7 #[.int .i64 2] w _ from fun w => made_ok 2 (by omega) (by omega) w)
  go_enter Try.func5, Try.ntmps5
  go_wp2_with fail
  refine (MD.out _).mono ?_
  rintro e w1 ⟨mb, mm, R, pb, rfl, S1⟩
  dsimp only
  obtain ⟨id1, rm1, mad1, fre1, ws1, gn1, F1, a1, h1, T1, K1, C1⟩ := S1.take (by omega) (by omega) (by omega) (fun _ => by omega)
  have GB1 := T1.gb 0 (fun _ => Nat.le_refl _)
  obtain ⟨i1, _, _, _, _, _, _, z1, _⟩ := T1
  obtain ⟨_, rfl, rfl, rfl, rfl, rfl, rfl⟩ := K1.resolve_right (fun q => nomatch q.1)
  have C1 := Lib.hid C1
  have g1 : gn1 1 = 0 := z1 (by omega)
  clear S1 i1 z1
  go_wp2_with fail
  with_reducible refine C1.out.mono ?_
  rintro e w2 ⟨R1, rfl, S2, _⟩
  dsimp only
  obtain ⟨id2, rm2, mad2, fre2, ws2, gn2, F2, a2, h2, T2, K2, C2⟩ := S2.take (by omega) (by unfold room2 nroom; split <;> omega) (by omega) (fun x => by have := GB1 x; omega)
  have GB2 := T2.gb 0 GB1
  obtain ⟨i2, _, _, _, _, _, gs2, z2, _⟩ := T2
  obtain ⟨_, rfl, rfl, rfl, rfl, rfl, rfl⟩ := K2.resolve_right (fun q => nomatch q.1)
  have C2 := Lib.hid C2
  have g2 : gn2 2 = 0 := z2 (by omega)
  have g3 : gn2 1 = 0 := by have := GB2 1; omega
  clear S2 i2 z2 C1
  go_wp2_with fail
  with_reducible refine C2.out.mono ?_
  rintro e w3 ⟨R2, rfl, S3, _⟩
  dsimp only
  have C3 := Lib.hid (S3.give (id := 1) (by omega) (by omega) rfl (by rw [g3]; omega) (by omega) (by omega))
  clear S3 C2
  go_wp2_with fail
  refine C3.out.mono ?_
  rintro e w4 ⟨rfl, S4, _⟩
  dsimp only
  have C4 := Lib.hid (S4.give (id := 2) (by omega) (by omega) rfl (by rw [upd_ne _ _ (by omega), g2]; omega) (by omega) (by omega))
  clear S4 C3
  go_wp2_with fail
  refine C4.out.mono ?_
  rintro e w5 ⟨rfl, S5, _⟩
  dsimp only
  obtain ⟨id5, rm5, mad5, fre5, ws5, gn5, F5, a5, h5, T5, K5, C5⟩ := S5.take (by omega) (by unfold room2 nroom; split <;> split <;> omega) (by omega) (fun x => by
    unfold upd
    have := GB2 x; have := GB2 1; have := GB2 2
    split <;> split <;> omega)
  clear T5
  obtain ⟨q, rfl, rfl, rfl, rfl, rfl⟩ := K5.resolve_left (fun q => nomatch q.1)
  obtain ⟨rfl, rfl⟩ := List.cons.inj q
  have C5 := Lib.hid C5
  clear S5 C4 q
  go_wp2_with fail
  refine C5.out.mono ?_
  rintro e w6 ⟨R5, rfl, S6, _⟩
  dsimp only
  have C6 := S6.gen (id := 2) (by omega) (by omega)
  rw [upd_at, upd_ne _ _ (by omega), g2] at C6
  have C6 := Lib.hid C6
  clear S6 C5
  go_wp2_with fail
  refine C6.out.mono ?_
  rintro e w7 ⟨rfl, S7, _⟩
  dsimp only
  have C7 := S7.is (id := 2) (by omega) (by omega)
  rw [upd_at] at C7
  have C7 := Lib.hid C7
  clear S7 C6
  go_wp2_with fail
  refine C7.out.mono ?_
  rintro e w8 ⟨rfl, S8, _⟩
  dsimp only
  have C8 := S8.is (id := 1) (by omega) (by omega)
  rw [upd_ne _ _ (by omega), upd_ne _ _ (by omega), upd_at] at C8
  have C8 := Lib.hid C8
  clear S8 C7
  go_wp2_with fail
  refine C8.out.mono ?_
  rintro e w9 ⟨rfl, S9, _⟩
  dsimp only
  go_wp2_with fail
  go_ret
  exact ⟨rfl, S9.o.b⟩
end Go.Proofs.Ythigcabmmhjooaa
