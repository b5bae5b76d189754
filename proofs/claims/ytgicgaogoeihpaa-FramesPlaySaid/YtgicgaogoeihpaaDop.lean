/-
  haymowlaw17.do: Push of what may be pushed, at both.
-/
import Derived.Test.YtgicgaogoeihpaaDob
namespace Go.Proofs.Ytgicgaogoeihpaa
open Go.RowKit
set_option linter.unusedVariables false

theorem push17_nums {k : Nat} (h : k ≤ 256) : ¬ (k : Int) < 0 ∧ ¬ (256 : Int) < (k : Int) ∧ (0 : Int) ≤ (k : Int) ∧ (2 : Int) + (k : Int) = ((2 + k : Nat) : Int) ∧ wrap64 ((2 + k : Nat) : Int) = ((2 + k : Nat) : Int) ∧ IntKind.i64.wrap ((2 + k : Nat) : Int) = ((2 + k : Nat) : Int) ∧ IntKind.u64.wrap ((2 + k : Nat) : Int) = ((2 + k : Nat) : Int) :=
  ⟨by omega, by omega, by omega, by omega, by unfold wrap64; omega, by rw [IntKind.wrap_i64]; omega, by rw [IntKind.wrap_u64]; omega⟩
section
variable {W0 : World} {R R' : Nat → Nat} {fb mb mm n rm rm' : Nat} {S S' T : List (List Nat)} {x : List Nat} {a b a' b' : Nat} {v v' : Value} {w w' w1 : World}
set_option maxRecDepth 100000 in
set_option maxHeartbeats 8000000 in
theorem do17_push (k : Nat) (ow : Nat) (hk : k ≤ 256) (w : World) (q : B17 W0 R fb mb mm n rm S a b v w) (hn : n ≤ 998) :
    Calls Try.prog 8 #[at0 fb, v, opv17 ⟨0, (k : Int), ow⟩] w (DoE17 W0 R fb mb mm n rm a b w) := by
  have X1 := DX17.start q ⟨0, (k : Int), ow⟩
  have B1 := obox w ⟨0, (k : Int), ow⟩
  have hl : S.reverse.length ≤ 1000000 := by have := q.lens.1; rw [rev_len]; omega
  have ab := q.ab
  have ge := q.ge
  have PN := Lib.hid (fun w' (kb : Below w.heap.size w w') => (q.s.below kb).push hn hk)
  have DV := Lib.hid (fun R' w1 (t : TR (rp R fb) (rp R' fb) w w1) => YW.tr q.d t)
  have RR := Lib.hid (show ∀ rm', RoomR (fwn S + 2 + k) rm rm' → (rm' = 0 ∨ 32 ≤ rm') ∧ RoomR (fwn (List.replicate k 0 :: S)) rm rm' from fun rm' h => ⟨h.least ge, by rw [fwn_cons, List.length_replicate]; exact h⟩)
  have FIN := Lib.hid (show ∀ R' rm' b' w2 w5 v', RoomR (fwn S + 2 + k) rm rm' → b' ≤ b + (2 + k) → FB W0 R' fb mb mm (n + 1) rm' (List.replicate k 0 :: S) false a b' w2 → TR (rp R fb) (rp R' fb) w w2 → Below w2.heap.size w2 w5 → YW w5 (fun j => (rp R' fb j = 0 ∧ j < w2.heap.size) ∨ w2.heap.size ≤ j) v' (S.reverse ++ [List.replicate k 0]) → DoE17 W0 R fb mb mm n rm a b w (.returned (.tuple #[v', .int .u64 ((2 + k : Nat) : Int), .bool true])) w5 from
    fun R' rm' b' w2 w5 v' rr l s t k5 d => ⟨R', rm', _, a, b', v', 2 + k, rfl, ⟨s.below k5, by rw [rev_last]; exact d.new (fun j q => q.1) (fun j hj => s.beyond hj), by omega, (RR.out _ rr).1⟩, t.below' k5, by omega, by omega, (RR.out _ rr).2⟩)
  have ZB := Lib.hid (fun R' rm' b' w2 (s : FB W0 R' fb mb mm (n + 1) rm' (List.replicate k 0 :: S) false a b' w2) => s.row)
  obtain ⟨k1, k2, k3, k4, k5, k6, k7⟩ := push17_nums hk
  have MK := make_words k (by omega)
  dsimp only at X1 B1
  obtain ⟨a0, a1, a2, al⟩ := o3_all X1.o
  dsimp only at a0 a1 a2
  have BH := Lib.hid B1
  have X1h := Lib.hid X1
  have T1 := Lib.hid (show TR (rp R fb) (rp R fb) w _ from TR.of B1)
  obtain ⟨va, vc, rfl⟩ := q.d.slice
  generalize S.reverse = D at *
  have HL := Lib.hid hl
  clear q X1 B1 ab ge hk hl
  go_enter Try.func8, Try.ntmps8
  go_wp2_with fail
  with_reducible refine (PN.out _ BH.out).mono ?_
  rintro e w2 ⟨R', rm', b', rfl, rr, l2, S2, T2⟩
  dsimp only
  have TT := Lib.hid (T1.out.trans T2)
  have D2 := (DV.out _ _ TT.out).tight
  have X2 := X1h.out.call T2
  have FH := Lib.hid (fun w5 v' => FIN.out R' rm' b' w2 w5 v' rr l2 S2 TT.out)
  clear a0 a1 a2 al S2 T2 l2 rr PN DV FIN RR ZB TT T1
  obtain ⟨a0, a1, a2, al⟩ := o3_all X2.o
  dsimp only at a0 a1 a2
  have XA := Lib.hid al
  have X1a := Lib.hid a1
  clear X2 X1h
  go_upto_region 6 with fail
  have B2 : Below w2.heap.size w2 w2 := Below.refl _ _
  generalize w.heap.size = bx at *
  generalize 2 + k = k2k at *
  go_region_held3 (fun w' => w'.cell? ⟨bx, 1, none⟩ = some (.int .i64 (k : Int)))
    (first
      | (refine Eq.trans (Below.cell (p := ⟨bx, 1, none⟩) (show Below w2.heap.size w2 _ from ?_) XA.out) X1a.out
         repeat (first | with_reducible assumption | with_reducible refine Below.drew ?_ | with_reducible refine bAlloc ?_ _)
         done)
      | (go_keep; done))
    (first
      | (refine step_ycopy (by rfl) _ _ (by rfl) (by rfl) w2.heap.size _ (by rfl) (yinfo_own ?_ ?_) _ D _ (by rfl) (D2.below ?_) HL.out ?_ (fun j q => q.2) ?_
         · repeat (first | with_reducible exact hb_new (by simp) | with_reducible refine hb_drew ?_ | with_reducible refine hb_up ?_)
         · first | omega | simp | (simp; omega)
         · repeat (first | with_reducible assumption | with_reducible refine Below.drew ?_ | with_reducible refine bAlloc ?_ _)
         · refine Below.size (show Below w2.heap.size w2 _ from ?_)
           repeat (first | with_reducible assumption | with_reducible refine Below.drew ?_ | with_reducible refine bAlloc ?_ _)
         intro g c U w4 O4 b4 K4
         have B4 : Below w2.heap.size w2 w4 := by
           refine Below.trans ?_ b4
           repeat (first | with_reducible assumption | with_reducible refine Below.drew ?_ | with_reducible refine bAlloc ?_ _)
         have y1 : w4.cell? ⟨bx, 1, none⟩ = some (.int .i64 (k : Int)) := (B4.cell (p := ⟨bx, 1, none⟩) XA.out).trans X1a.out)
      | (refine step_yzero (by rfl) _ _ (by rfl) (by rfl) w2.heap.size g c U D _ (by rfl) (O4.below ?_) _ (by rfl) (w4.heap.size) k ?_ ?_ ?_ HL.out ?_ ?_
         · repeat (first | with_reducible exact Below.refl _ _ | with_reducible refine Below.drew ?_ | with_reducible refine bAlloc ?_ _)
         · repeat (first | with_reducible exact hb_new (by first | rfl | simp) | with_reducible refine hb_drew ?_ | with_reducible refine hb_up ?_ | with_reducible refine hb_keeps K4 (by first | omega | simp) ?_)
         · repeat (first | with_reducible exact hb_new (by first | rfl | simp) | with_reducible refine hb_drew ?_ | with_reducible refine hb_up ?_ | with_reducible refine hb_keeps K4 (by first | omega | simp) ?_)
         · first | exact B4.size | omega
         · refine Nat.le_trans B4.size (Below.size (show Below w4.heap.size w4 _ from ?_))
           repeat (first | with_reducible exact Below.refl _ _ | with_reducible refine Below.drew ?_ | with_reducible refine bAlloc ?_ _)
         intro g5 c5 U5 w5 O5 b5
         have B5 : Below w2.heap.size w2 w5 := by
           refine Below.trans (Below.trans B4 (Below.mono (show Below w4.heap.size w4 _ from ?_) B4.size)) b5
           repeat (first | with_reducible exact Below.refl _ _ | with_reducible refine Below.drew ?_ | with_reducible refine bAlloc ?_ _)
         have z1 : w5.cell? ⟨bx, 1, none⟩ = some (.int .i64 (k : Int)) := (B5.cell (p := ⟨bx, 1, none⟩) XA.out).trans X1a.out)
      | (refine step_yzero (by rfl) _ _ (by rfl) (by rfl) w2.heap.size g c U D _ (by rfl) (O4.below ?_) _ (by rfl) (w2.heap.size) k ?_ ?_ ?_ HL.out ?_ ?_
         · repeat (first | with_reducible exact Below.refl _ _ | with_reducible refine Below.drew ?_ | with_reducible refine bAlloc ?_ _)
         · repeat (first | with_reducible exact hb_new (by first | rfl | simp) | with_reducible refine hb_drew ?_ | with_reducible refine hb_up ?_ | with_reducible refine hb_keeps K4 (by first | omega | simp) ?_)
         · repeat (first | with_reducible exact hb_new (by first | rfl | simp) | with_reducible refine hb_drew ?_ | with_reducible refine hb_up ?_ | with_reducible refine hb_keeps K4 (by first | omega | simp) ?_)
         · first | exact B4.size | omega
         · refine Nat.le_trans B4.size (Below.size (show Below w4.heap.size w4 _ from ?_))
           repeat (first | with_reducible exact Below.refl _ _ | with_reducible refine Below.drew ?_ | with_reducible refine bAlloc ?_ _)
         intro g5 c5 U5 w5 O5 b5
         have B5 : Below w2.heap.size w2 w5 := by
           refine Below.trans (Below.trans B4 (Below.mono (show Below w4.heap.size w4 _ from ?_) B4.size)) b5
           repeat (first | with_reducible exact Below.refl _ _ | with_reducible refine Below.drew ?_ | with_reducible refine bAlloc ?_ _)
         have z1 : w5.cell? ⟨bx, 1, none⟩ = some (.int .i64 (k : Int)) := (B5.cell (p := ⟨bx, 1, none⟩) XA.out).trans X1a.out)
      | (refine step_yzero (by rfl) _ _ (by rfl) (by rfl) w2.heap.size g c U D _ (by rfl) (O4.below ?_) _ (by rfl) (w2.heap.size + 1) k ?_ ?_ ?_ HL.out ?_ ?_
         · repeat (first | with_reducible exact Below.refl _ _ | with_reducible refine Below.drew ?_ | with_reducible refine bAlloc ?_ _)
         · repeat (first | with_reducible exact hb_new (by first | rfl | simp) | with_reducible refine hb_drew ?_ | with_reducible refine hb_up ?_ | with_reducible refine hb_keeps K4 (by first | omega | simp) ?_)
         · repeat (first | with_reducible exact hb_new (by first | rfl | simp) | with_reducible refine hb_drew ?_ | with_reducible refine hb_up ?_ | with_reducible refine hb_keeps K4 (by first | omega | simp) ?_)
         · first | exact B4.size | omega
         · refine Nat.le_trans B4.size (Below.size (show Below w4.heap.size w4 _ from ?_))
           repeat (first | with_reducible exact Below.refl _ _ | with_reducible refine Below.drew ?_ | with_reducible refine bAlloc ?_ _)
         intro g5 c5 U5 w5 O5 b5
         have B5 : Below w2.heap.size w2 w5 := by
           refine Below.trans (Below.trans B4 (Below.mono (show Below w4.heap.size w4 _ from ?_) B4.size)) b5
           repeat (first | with_reducible exact Below.refl _ _ | with_reducible refine Below.drew ?_ | with_reducible refine bAlloc ?_ _)
         have z1 : w5.cell? ⟨bx, 1, none⟩ = some (.int .i64 (k : Int)) := (B5.cell (p := ⟨bx, 1, none⟩) XA.out).trans X1a.out))
  all_goals
    have Y5 := O5.ww (Q := fun j => (rp R' fb j = 0 ∧ j < w2.heap.size) ∨ w2.heap.size ≤ j) (.inr O5.lo)
    rw [List.length_append, List.length_singleton] at Y5
    have DH := Lib.hid (FH.out _ _ B5 Y5)
    clear Y5 O5 O4 FH D2 b4 K4 b5 B5 B4
    go_wp2_with fail
    exact bodyPost_ret (v := .tuple #[.slice (some ⟨g5, 0, none⟩) (D.length + 1) c5, .int .u64 (k2k : Int), .bool true]) (by simp [results, Try.results8, go_sem]) rfl DH.out
end
end Go.Proofs.Ytgicgaogoeihpaa
