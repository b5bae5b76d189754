/-
  haymowlaw08.awake.
-/
import Derived.Test.YtgnpakpnocbhhaaOut
namespace Go.Proofs.Ytgnpakpnocbhhaa
open Go.RowKit
set_option linter.unusedVariables false

/-- all of a Mem's blocks are the call's own -/
structure Own (W : World) (R : Nat → Nat) (w : World) : Prop where
  lo : ∀ j, R j ≠ 0 → W.heap.size ≤ j
  b : Below W.heap.size W w
theorem Own.step {W w w' : World} {R R' : Nat → Nat} (o : Own W R w) (t : TR R R' w w') : Own W R' w' := ⟨t.lo o.b.size o.lo, o.b.trans (t.below o.b.size o.lo)⟩
theorem Own.below {W w w' : World} {R : Nat → Nat} (o : Own W R w) (k : Below w.heap.size w w') : Own W R w' := ⟨o.lo, o.b.trans (k.mono o.b.size)⟩
theorem Own.new {W w w' : World} {R : Nat → Nat} (b : Below W.heap.size W w) (lo : ∀ j, R j ≠ 0 → w.heap.size ≤ j) (k : Below w.heap.size w w') : Own W R w' := ⟨fun j hj => Nat.le_trans b.size (lo j hj), b.trans (k.mono b.size)⟩
theorem MM.all {w : World} {R : Nat → Nat} {mb mm : Nat} {L : List Spc} {a b : Nat} {h g : Int} (m : MM w R mb mm L a b h g) : w.cell? ⟨mb, 0, none⟩ = some (.pointer (some ⟨mm, 0, none⟩)) ∧ MRow w mm a b h g := by
  obtain ⟨sv, qv, U, Q, m⟩ := m
  exact ⟨m.row.all.1, m.met⟩
theorem ptr_nil (a : Addr) (w : World) : (binOp .eql 25 (.pointer (some a)) (.pointer none)).run Try.prog w = .ok (.bool false) w := by kernel_rfl
set_option maxRecDepth 100000 in
set_option maxHeartbeats 1000000 in
theorem awake_any (w : World) : Calls Try.prog 6 #[] w fun e w' => e = .returned (.bool true) ∧ Below w.heap.size w w' := by
  have H1 := fun mb mm R w' (q : MM w' R mb mm [] 0 0 0 0) => mopen_ok mb mm R [] 0 0 0 0 w' q 3 (by omega) (by unfold countv; omega)
  have F0 : firstc [] = 0 := firstc_eq [] 0 (fun j hj => by omega) (.inl rfl)
  rw [F0, show opened [] 3 = [(true, [0, 0, 0])] by unfold opened; rw [F0]; rfl, show holdh 0 ((3 : Nat) : Int) = 3 by unfold holdh; simp, show holdg 0 0 ((3 : Nat) : Int) = 3 by unfold holdg; simp] at H1
  have H2 := fun mb mm R w' (q : MM w' R mb mm [(true, [0, 0, 0])] 0 0 3 3) => mwrite_ok mb mm R [(true, [0, 0, 0])] 0 0 3 3 w' q 0 1 77 (by decide) (by decide) (by decide) (by decide)
  rw [show List.set [((true, [0, 0, 0]) : Spc)] 0 ((List.getD [((true, [0, 0, 0]) : Spc)] 0 (false, [])).1, (wds [(true, [0, 0, 0])] 0).set 1 77) = [(true, [0, 77, 0])] by rfl, show stepv 0 1 1 0 = 0 by unfold stepv; simp, show stepv 1 1 1 0 = 1 by unfold stepv addv; simp] at H2
  have H3 := fun mb mm R w' (q : MM w' R mb mm [(true, [0, 77, 0])] 0 1 3 3) => mgrow_ok mb mm R [(true, [0, 77, 0])] 0 1 3 3 w' q 0 5 2 (by decide) (by decide) (by decide) (by omega)
  rw [show List.set [((true, [0, 77, 0]) : Spc)] 0 ((List.getD [((true, [0, 77, 0]) : Spc)] 0 (false, [])).1, wds [(true, [0, 77, 0])] 0 ++ List.replicate 2 0) = [(true, [0, 77, 0, 0, 0])] by rfl, show holdh 3 ((2 : Nat) : Int) = 5 by unfold holdh; simp, show holdg 3 3 ((2 : Nat) : Int) = 5 by unfold holdg; simp] at H3
  have H4 := fun mb mm R w' (q : MM w' R mb mm [(true, [0, 77, 0, 0, 0])] 0 1 5 5) => mread_ok mb mm R [(true, [0, 77, 0, 0, 0])] 0 1 5 5 w' q 0 1 (by decide) (by decide) (by decide) (by decide)
  rw [show wat [(true, [0, 77, 0, 0, 0])] 0 1 = 77 by unfold wat; rfl, show stepv 0 0 1 0 = 1 by unfold stepv addv; simp, show stepv 1 0 1 1 = 1 by unfold stepv; simp] at H4
  have N1 : N128 1 := by unfold N128; omega
  have ST := fun m w r => steps_any m 1 1 5 5 N1 N1 w r
  have e2 : wv (addv 1 1) = .agg #[.int .u64 0, .int .u64 2] := by
    rw [show addv 1 1 = 2 by unfold addv; simp]
    simp only [wv]; rw [hi_of_lt (by omega), lo_of_lt (by omega)]; rfl
  rw [e2] at ST
  have H1' := Lib.hid H1; have H2' := Lib.hid H2; have H3' := Lib.hid H3; have H4' := Lib.hid H4; have ST' := Lib.hid ST
  have PN := fun a w => ptr_nil a w
  clear H1 H2 H3 H4 ST e2 N1 F0
  go_enter Try.func6, Try.ntmps6
  go_wp2_with fail
  refine (mnew_any w).mono ?_
  rintro e w1 ⟨mb, mm, R1, rfl, M1, lo1, b1⟩
  have O1 := Own.new (Below.refl _ w) lo1 b1
  dsimp only
  go_wp2_with fail
  refine (H1'.out mb mm R1 _ M1).mono ?_
  rintro e w2 ⟨R2, rfl, M2, T2⟩
  have O2 := O1.step T2
  clear M1 T2 O1 b1 lo1
  dsimp only
  go_wp2_with fail
  refine (H2'.out mb mm R2 _ M2).mono ?_
  rintro e w3 ⟨rfl, M3, T3⟩
  have O3 := O2.step T3
  clear M2 T3 O2
  dsimp only
  go_wp2_with fail
  refine (H3'.out mb mm R2 _ M3).mono ?_
  rintro e w4 ⟨R4, rfl, M4, T4⟩
  have O4 := O3.step T4
  clear M3 T4 O3
  dsimp only
  go_wp2_with fail
  refine (H4'.out mb mm R4 _ M4).mono ?_
  rintro e w5 ⟨rfl, M5, T5⟩
  have O5 := O4.step T5
  clear M4 T5 O4
  obtain ⟨c0, met⟩ := M5.all
  dsimp only
  go_wp2_with fail
  refine (ST'.out mm _ met).mono ?_
  rintro e w6 ⟨rfl, b6⟩
  have M6 := M5.below b6
  have O6 := O5.below b6
  clear M5 O5 b6 c0 met
  obtain ⟨c0, met⟩ := M6.all
  dsimp only
  go_wp2_with fail
  refine (held_any mm 1 1 5 5 _ met).mono ?_
  rintro e w7 ⟨rfl, rfl⟩
  dsimp only
  go_wp2_with fail
  go_ret
  exact ⟨rfl, O6.b⟩
end Go.Proofs.Ytgnpakpnocbhhaa
