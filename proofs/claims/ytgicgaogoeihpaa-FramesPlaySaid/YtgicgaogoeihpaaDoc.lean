/-
  haymowlaw17.do: Set, Get at both.
-/
import Derived.Test.YtgicgaogoeihpaaDob
namespace Go.Proofs.Ytgicgaogoeihpaa
open Go.RowKit
set_option linter.unusedVariables false

section
variable {W0 : World} {R R' : Nat → Nat} {fb mb mm n rm rm' : Nat} {S S' T : List (List Nat)} {x : List Nat} {a b a' b' : Nat} {v v' : Value} {w w' w1 : World}
theorem ywrong_rev {P : Nat → Prop} (k : Int) (d : YW w P v S.reverse) (hS : S.length ≤ 10000000) : Calls Try.prog 25 #[v, .int .i64 k] w fun e w' => e = .returned (.int .i64 (fck S k)) ∧ w = w' := by
  cases S with
  | nil => rw [fck_nil]; exact ywrong_nil k v P w d
  | cons x T =>
    rw [rev_last] at d
    have C := ywrong_last k v P T.reverse x w (by rw [rev_len]; rw [List.length_cons] at hS; omega) d
    by_cases c : 0 ≤ k ∧ k < (x.length : Int)
    · rw [if_pos c] at C; rw [fck_in c]; exact C
    · rw [if_neg c] at C; rw [fck_out c]; exact C
set_option maxRecDepth 100000 in
set_option maxHeartbeats 4000000 in
theorem do17_set_no (on c : Int) (ow : Nat) (hc : fck S on = c) (h0 : ¬ c = 0) (w : World) (q : B17 W0 R fb mb mm n rm S a b v w) (hn : n ≤ 998) :
    Calls Try.prog 8 #[at0 fb, v, opv17 ⟨2, on, ow⟩] w (DoE17 W0 R fb mb mm n rm a b w) := by
  have X1 := DX17.start q ⟨2, on, ow⟩
  have B1 := obox w ⟨2, on, ow⟩
  have FIN := Lib.hid (show ∀ w', Below w.heap.size w w' → DoE17 W0 R fb mb mm n rm a b w (.returned (.tuple #[v, .int .u64 0, .bool true])) w' from fun w' k => ⟨R, rm, S, a, b, v, 0, rfl, (q.up hn).below k, TR.of k, by omega, by omega, q.room⟩)
  have PN := Lib.hid (fun w' (k : Below w.heap.size w w') => (q.s.below k).set_no ow hc h0)
  have WR := Lib.hid (show ∀ w', Below w.heap.size w w' → Calls Try.prog 25 #[v, .int .i64 on] w' fun e w'' => e = .returned (.int .i64 c) ∧ w' = w'' from fun w' k => by
    have C := ywrong_rev on (q.d.below k) (by have := q.lens.1; omega)
    rw [hc] at C; exact C)
  have c1 : (c != 0) = true := by simp [h0]
  have c2 : (c == c) = true := by simp
  dsimp only at X1 B1
  obtain ⟨a0, a1, a2, al⟩ := o3_all X1.o
  dsimp only at a0 a1 a2
  have BH := Lib.hid B1
  have X1h := Lib.hid X1
  obtain ⟨va, vc, rfl⟩ := q.d.slice
  generalize S.reverse.length = sl at *
  clear q X1 B1 hc h0
  go_enter Try.func8, Try.ntmps8
  go_wp2_with fail
  with_reducible refine (PN.out _ BH.out).mono ?_
  rintro e w2 ⟨rfl, b2⟩
  dsimp only
  have B2 := Lib.hid (BH.out.trans (b2.mono BH.out.size))
  have X2 := X1h.out.below b2
  clear a0 a1 a2 al
  obtain ⟨a0, a1, a2, al⟩ := o3_all X2.o
  dsimp only at a0 a1 a2
  clear X2 b2
  go_wp2_with fail
  with_reducible refine (WR.out _ B2.out).mono ?_
  rintro e w3 ⟨rfl, rfl⟩
  dsimp only
  go_wp2_with fail
  exact bodyPost_ret (v := .tuple #[.slice va sl vc, .int .u64 0, .bool true]) (by simp [results, Try.results8, go_sem]) rfl (FIN.out _ B2.out)
set_option maxRecDepth 100000 in
set_option maxHeartbeats 4000000 in
theorem do17_set (k : Nat) (ow : Nat) (hk : k < x.length) (w : World) (q : B17 W0 R fb mb mm n rm (x :: T) a b v w) (hn : n ≤ 998) :
    Calls Try.prog 8 #[at0 fb, v, opv17 ⟨2, (k : Int), ow⟩] w (DoE17 W0 R fb mb mm n rm a b w) := by
  have X1 := DX17.start q ⟨2, (k : Int), ow⟩
  have B1 := obox w ⟨2, (k : Int), ow⟩
  have lt : T.length ≤ 200000 := by have := q.lens.1; rw [List.length_cons] at this; omega
  have lx : x.length ≤ 256 := q.s.wl.2 x (by simp)
  have ab := q.ab
  have ge := q.ge
  have PN := Lib.hid (fun w' (kb : Below w.heap.size w w') => (q.s.below kb).set hk ow)
  have DV := Lib.hid (fun w1 (t : TR (rp R fb) (rp R fb) w w1) => YW.tr q.d t)
  have WR := Lib.hid (show ∀ w', YW w' (fun j => rp R fb j = 0) v (x :: T).reverse → Calls Try.prog 25 #[v, .int .i64 (k : Int)] w' fun e w'' => e = .returned (.int .i64 0) ∧ w' = w'' from fun w' d => by
    have C := ywrong_rev (k : Int) d (by rw [List.length_cons]; omega)
    rw [fck_in ⟨by omega, by omega⟩] at C; exact C)
  have SE := Lib.hid (show ∀ w', YW w' (fun j => rp R fb j = 0) v (x :: T).reverse → Calls Try.prog 26 #[v, .int .i64 (k : Int), .int .u64 (ow : Int)] w' fun e w'' => ∃ v', e = .returned v' ∧ YW w'' (fun j => rp R fb j = 0 ∨ w'.heap.size ≤ j) v' (x.set k ow :: T).reverse ∧ Below w'.heap.size w' w'' from fun w' d => by
    rw [rev_last] at d ⊢
    exact yset_ok k ow _ v T.reverse x w' d hk (by rw [rev_len]; exact lt) (by omega))
  have FIN := Lib.hid (show ∀ b' w2 w3 v', b' ≤ b + 1 → FB W0 R fb mb mm n rm (x.set k ow :: T) false a b' w2 → Below w2.heap.size w2 w3 → YW w3 (fun j => rp R fb j = 0 ∨ w2.heap.size ≤ j) v' (x.set k ow :: T).reverse → TR (rp R fb) (rp R fb) w w2 → DoE17 W0 R fb mb mm n rm a b w (.returned (.tuple #[v', .int .u64 1, .bool true])) w3 from
    fun b' w2 w3 v' l s k3 d t => ⟨R, rm, _, a, b', v', 1, rfl, ⟨(s.up hn).below k3, d.new (fun j q => q) (fun j hj => s.beyond hj), by omega, ge⟩, t.below' k3, by omega, by omega, .done s.wl.1⟩)
  dsimp only at X1 B1
  obtain ⟨a0, a1, a2, al⟩ := o3_all X1.o
  dsimp only at a0 a1 a2
  have BH := Lib.hid B1
  have X1h := Lib.hid X1
  have T1 := Lib.hid (show TR (rp R fb) (rp R fb) w _ from TR.of B1)
  obtain ⟨va, vc, rfl⟩ := q.d.slice
  generalize (x :: T).reverse.length = sl at *
  clear q X1 B1 lt lx ab ge hk
  go_enter Try.func8, Try.ntmps8
  go_wp2_with fail
  with_reducible refine (PN.out _ BH.out).mono ?_
  rintro e w2 ⟨b', rfl, l2, S2, T2⟩
  dsimp only
  have TT := Lib.hid (T1.out.trans T2)
  have D2 := Lib.hid (DV.out _ TT.out)
  have X2 := X1h.out.call T2
  have S2h := Lib.hid S2
  have L2 := Lib.hid l2
  clear a0 a1 a2 al S2 T2 l2
  obtain ⟨a0, a1, a2, al⟩ := o3_all X2.o
  dsimp only at a0 a1 a2
  clear X2 X1h
  go_wp2_with fail
  with_reducible refine (WR.out _ D2.out).mono ?_
  rintro e w3 ⟨rfl, rfl⟩
  dsimp only
  go_wp2_with fail
  with_reducible refine (SE.out _ D2.out).mono ?_
  rintro e w3 ⟨v', rfl, D3, b3⟩
  dsimp only
  have FH := Lib.hid (FIN.out _ _ _ v' L2.out S2h.out b3 D3 TT.out)
  obtain ⟨va', vc', rfl⟩ := D3.slice
  clear D3 b3 a0 a1 a2 al FIN SE WR
  go_wp2_with fail
  exact bodyPost_ret (v := .tuple #[.slice va' (x.set k ow :: T).reverse.length vc', .int .u64 1, .bool true]) (by simp [results, Try.results8, go_sem]) rfl FH.out

/-! ### Get -/
set_option maxRecDepth 100000 in
set_option maxHeartbeats 4000000 in
theorem do17_get_no (on c : Int) (ow : Nat) (hc : fck S on = c) (h0 : ¬ c = 0) (w : World) (q : B17 W0 R fb mb mm n rm S a b v w) (hn : n ≤ 998) :
    Calls Try.prog 8 #[at0 fb, v, opv17 ⟨3, on, ow⟩] w (DoE17 W0 R fb mb mm n rm a b w) := by
  have X1 := DX17.start q ⟨3, on, ow⟩
  have B1 := obox w ⟨3, on, ow⟩
  have FIN := Lib.hid (show ∀ w', Below w.heap.size w w' → DoE17 W0 R fb mb mm n rm a b w (.returned (.tuple #[v, .int .u64 0, .bool true])) w' from fun w' k => ⟨R, rm, S, a, b, v, 0, rfl, (q.up hn).below k, TR.of k, by omega, by omega, q.room⟩)
  have PN := Lib.hid (fun w' (k : Below w.heap.size w w') => (q.s.below k).get_no hc h0)
  have WR := Lib.hid (show ∀ w', Below w.heap.size w w' → Calls Try.prog 25 #[v, .int .i64 on] w' fun e w'' => e = .returned (.int .i64 c) ∧ w' = w'' from fun w' k => by
    have C := ywrong_rev on (q.d.below k) (by have := q.lens.1; omega)
    rw [hc] at C; exact C)
  have c1 : (c != 0) = true := by simp [h0]
  have c2 : (c == c) = true := by simp
  dsimp only at X1 B1
  obtain ⟨a0, a1, a2, al⟩ := o3_all X1.o
  dsimp only at a0 a1 a2
  have BH := Lib.hid B1
  have X1h := Lib.hid X1
  obtain ⟨va, vc, rfl⟩ := q.d.slice
  generalize S.reverse.length = sl at *
  clear q X1 B1 hc h0
  go_enter Try.func8, Try.ntmps8
  go_wp2_with fail
  with_reducible refine (PN.out _ BH.out).mono ?_
  rintro e w2 ⟨rfl, b2⟩
  dsimp only
  have B2 := Lib.hid (BH.out.trans (b2.mono BH.out.size))
  have X2 := X1h.out.below b2
  clear a0 a1 a2 al
  obtain ⟨a0, a1, a2, al⟩ := o3_all X2.o
  dsimp only at a0 a1 a2
  clear X2 b2
  go_wp2_with fail
  with_reducible refine (WR.out _ B2.out).mono ?_
  rintro e w3 ⟨rfl, rfl⟩
  dsimp only
  go_wp2_with fail
  exact bodyPost_ret (v := .tuple #[.slice va sl vc, .int .u64 0, .bool true]) (by simp [results, Try.results8, go_sem]) rfl (FIN.out _ B2.out)
set_option maxRecDepth 100000 in
set_option maxHeartbeats 4000000 in
theorem do17_get (k : Nat) (ow : Nat) (hk : k < x.length) (w : World) (q : B17 W0 R fb mb mm n rm (x :: T) a b v w) (hn : n ≤ 998) :
    Calls Try.prog 8 #[at0 fb, v, opv17 ⟨3, (k : Int), ow⟩] w (DoE17 W0 R fb mb mm n rm a b w) := by
  have X1 := DX17.start q ⟨3, (k : Int), ow⟩
  have B1 := obox w ⟨3, (k : Int), ow⟩
  have lt : T.length ≤ 200000 := by have := q.lens.1; rw [List.length_cons] at this; omega
  have ab := q.ab
  have ge := q.ge
  have PN := Lib.hid (fun w' (kb : Below w.heap.size w w') => (q.s.below kb).get hk)
  have DV := Lib.hid (fun w1 (t : TR (rp R fb) (rp R fb) w w1) => YW.tr q.d t)
  have WR := Lib.hid (show ∀ w', YW w' (fun j => rp R fb j = 0) v (x :: T).reverse → Calls Try.prog 25 #[v, .int .i64 (k : Int)] w' fun e w'' => e = .returned (.int .i64 0) ∧ w' = w'' from fun w' d => by
    have C := ywrong_rev (k : Int) d (by rw [List.length_cons]; omega)
    rw [fck_in ⟨by omega, by omega⟩] at C; exact C)
  have LA := Lib.hid (show ∀ w' va sl vc, YW w' (fun j => rp R fb j = 0) (.slice va sl vc) (x :: T).reverse → sl = T.length + 1 ∧ ∃ bb off ub uo uc, va = some ⟨bb, off, none⟩ ∧ w'.cell? ⟨bb, off + T.length, none⟩ = some (.slice (some ⟨ub, uo, none⟩) x.length uc) ∧ w'.cell? ⟨ub, uo + k, none⟩ = some (.int .u64 ((x.getD k 0 : Nat) : Int)) from fun w' va sl vc d => by
    rw [rev_last] at d
    obtain ⟨e, bb, off, ua, uc, e1, _, c0, l⟩ := d.last
    obtain ⟨ub, uo, rfl, c1⟩ := l.at hk
    rw [rev_len] at e c0
    exact ⟨e, bb, off, ub, uo, uc, e1, c0, c1⟩)
  have FIN := Lib.hid (show ∀ a' w2 w3, a' ≤ a + 1 → FB W0 R fb mb mm n rm (x :: T) false a' b w2 → YW w2 (fun j => rp R fb j = 0) v (x :: T).reverse → Below w2.heap.size w2 w3 → TR (rp R fb) (rp R fb) w w2 → DoE17 W0 R fb mb mm n rm a b w (.returned (.tuple #[v, .int .u64 1, .bool true])) w3 from
    fun a' w2 w3 l s d k3 t => ⟨R, rm, _, a', b, v, 1, rfl, ⟨(s.up hn).below k3, d.below k3, by omega, ge⟩, t.below' k3, by omega, by omega, .done s.wl.1⟩)
  obtain ⟨n1, e1, m1, m2, m3, m4, m5, m6, m7, m8⟩ := last_nums (n := T.length) (by omega)
  obtain ⟨k0, k1⟩ := yset_nums hk
  obtain ⟨y, hy⟩ : ∃ y, x.getD k 0 = y := ⟨_, rfl⟩
  rw [hy] at PN LA
  rw [e1] at LA
  dsimp only at X1 B1
  obtain ⟨a0, a1, a2, al⟩ := o3_all X1.o
  dsimp only at a0 a1 a2
  have BH := Lib.hid B1
  have X1h := Lib.hid X1
  have T1 := Lib.hid (show TR (rp R fb) (rp R fb) w _ from TR.of B1)
  obtain ⟨va, vc, rfl⟩ := q.d.slice
  generalize (x :: T).reverse.length = sl at *
  clear q X1 B1 lt ab ge hk e1 hy
  go_enter Try.func8, Try.ntmps8
  go_wp2_with fail
  with_reducible refine (PN.out _ BH.out).mono ?_
  rintro e w2 ⟨a', rfl, l2, S2, T2⟩
  dsimp only
  have TT := Lib.hid (T1.out.trans T2)
  have D2 := Lib.hid (DV.out _ TT.out)
  have X2 := X1h.out.call T2
  have S2h := Lib.hid S2
  have L2 := Lib.hid l2
  clear a0 a1 a2 al S2 T2 l2
  obtain ⟨a0, a1, a2, al⟩ := o3_all X2.o
  dsimp only at a0 a1 a2
  clear X2 X1h
  go_wp2_with fail
  with_reducible refine (WR.out _ D2.out).mono ?_
  rintro e w3 ⟨rfl, rfl⟩
  dsimp only
  obtain ⟨e2, bb, off, ub, uo, uc, e3, c0, c1⟩ := LA.out _ _ _ _ D2.out
  subst e2; subst e3
  have FH := Lib.hid (fun w3 k3 => FIN.out _ _ w3 L2.out S2h.out D2.out k3 TT.out)
  clear LA FIN WR DV PN
  generalize x.length = xl at *
  generalize T.length = tl at *
  have yy : ((y : Int) == (y : Int)) = true := by simp
  go_upto_region 23 with fail
  go_quiet (fail)
  have b9 := below_drewN (Below.refl w2.heap.size w2) nq
  go_wp2_with fail
  exact bodyPost_ret (v := .tuple #[.slice (some ⟨bb, off, none⟩) sl vc, .int .u64 1, .bool true]) (by simp [results, Try.results8, go_sem]) rfl (FH.out _ b9)
end
end Go.Proofs.Ytgicgaogoeihpaa
