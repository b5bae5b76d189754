/-
  haymowlaw13.awake; ShapeCharges, walked.
-/
import Derived.Test.YtejmkmifjelpaaaShpF
namespace Go.Proofs.Ytejmkmifjelpaaa
open Go.RowKit
set_option linter.unusedVariables false

theorem rt23 : rt 2 3 = true := by unfold rt; rfl
theorem wds23 : wds 2 3 = 6 := by unfold wds rt; rfl
theorem awake_8 (w : World) : Calls Try.prog 12 #[sh 2 3, .int .i64 8] w fun e w' => e = .returned (.int .i64 6) ∧ Below w.heap.size w w' := by
  have h := shcharge_any 2 3 8 w
  rw [chg_small rt23 (by rw [wds23]; decide), wds23] at h
  exact h
theorem awake_5 (w : World) : Calls Try.prog 12 #[sh 2 3, .int .i64 5] w fun e w' => e = .returned (.int .i64 12) ∧ Below w.heap.size w w' := by
  have h := shcharge_any 2 3 5 w
  rw [chg_large rt23 (by rw [wds23]; decide), wds23] at h
  exact h
theorem awake_1 (w : World) : Calls Try.prog 20 #[sh 2 3, .int .i64 1] w fun e w' => e = .returned (.tuple #[.int .i64 4, .int .i64 0]) ∧ Below w.heap.size w w' :=
  cell_ok 2 3 1 rt23 (by decide) (by decide) w
set_option maxRecDepth 100000 in
theorem awake13_any (w : World) : Calls Try.prog 6 #[] w fun e w' => e = .returned (.bool true) ∧ Below w.heap.size w w' := by
  have A8 := Lib.hid awake_8
  have A5 := Lib.hid awake_5
  have A1 := Lib.hid awake_1
  go_enter Try.func6, Try.ntmps6
  go_wp2_with (first
    | (go_at_call 20; (with_reducible refine (A1.out _).mono ?_); rintro e w1 ⟨rfl, hb1⟩; have R1 := (srow_alloc w 2 3).below hb1; obtain ⟨x0, x1⟩ := R1.scells)
    | (go_at_call_of 12 (Value.int .i64 8); (with_reducible refine (A8.out _).mono ?_); rintro e w2 ⟨rfl, hb2⟩; have R2 := R1.below hb2; obtain ⟨y0, y1⟩ := R2.scells)
    | (go_at_call 12; (with_reducible refine (A5.out _).mono ?_); rintro e w3 ⟨rfl, hb3⟩))
  go_ret
  exact ⟨rfl, bTrans (bTrans (bTrans (bAlloc (Below.refl _ _) _) hb1) hb2) hb3⟩

/-- the law's shape in memory -/
structure SB (W : World) (a : Nat) (p r : Int) (v : World) : Prop where
  row : Row v a 2 (srow p r)
  bel : Below W.heap.size W v
theorem SB.below {W v u : World} {a : Nat} {p r : Int} (h : SB W a p r v) (k : Below v.heap.size v u) : SB W a p r u := ⟨h.row.below k, bTrans h.bel k⟩
theorem SB.drew {W v : World} {a : Nat} {p r : Int} (h : SB W a p r v) : SB W a p r v.drew := ⟨h.row.drew, h.bel.drew⟩

set_option maxHeartbeats 2000000 in
set_option maxRecDepth 100000 in
theorem charges_walk (p r s t : Int) (w : World) :
    Calls Try.prog 3 #[sh p r, .int .i64 s, .int .i64 t] w fun e w' => e = .returned (.bool true) ∧ Below w.heap.size w w' := by
  have AW := Lib.hid (fun w => awake13_any w)
  have RW := Lib.hid (fun w => refwords_any p r w)
  have RI := Lib.hid (fun w => shright_any p r w)
  have RR := Lib.hid (fun w => refright_any p r w)
  have WO := Lib.hid (fun w => shwords_any p r w)
  have LA := Lib.hid (fun w => shlarge_any p r s _ rfl w)
  have CH := Lib.hid (fun w => shcharge_any p r s w)
  have RC := Lib.hid (fun w => refcharge_any p r s w)
  have FR := Lib.hid (fun w => shframe_any t w)
  have RF := Lib.hid (fun w => refframe_any t w)
  have CL := Lib.hid (fun w => shclass_any p r w)
  have RO := Lib.hid (fun w => refof_any ((wds p r : Nat) : Int) w)
  generalize wds p r = n at *
  generalize rt p r = b at *
  generalize chg p r s = c at *
  generalize frm t = f at *
  generalize cls (n : Int) = k at *
  obtain ⟨g, hg⟩ : ∃ g, decide (s < (n : Int)) = g := ⟨_, rfl⟩
  rw [hg] at LA
  have bb : (b == b) = true := by simp
  have gg : (g == g) = true := by simp
  have nn : ((n : Int) == (n : Int)) = true := by simp
  have cc : ((c : Int) == (c : Int)) = true := by simp
  have ff : ((f : Int) == (f : Int)) = true := by simp
  have kk : ((k : Int) == (k : Int)) = true := by simp
  go_enter Try.func3, Try.ntmps3
  go_wp2_with (first
    | (go_at_call 6; (with_reducible refine (AW.out _).mono ?_); rintro e w1 ⟨rfl, hb1⟩; have R1 := (srow_alloc w p r).below hb1; obtain ⟨x0, x1⟩ := R1.scells)
    | (go_at_call 7; (with_reducible refine (RW.out _).mono ?_); rintro e w2 ⟨rfl, hb2⟩; have V0 : SB w w.heap.size p r w2 := ⟨R1.below hb2, bTrans (bTrans (bAlloc (Below.refl _ _) _) hb1) hb2⟩; obtain ⟨y0, y1⟩ := V0.row.scells))
  clear x0 x1 R1 hb1 hb2 AW RW
  generalize w.heap.size = a at V0 y0 y1 ⊢
  first
  | (
    go_region_held3 (fun w' => w'.cell? ⟨a, 0, none⟩ = some (.int .i64 p) ∧ w'.cell? ⟨a, 1, none⟩ = some (.int .i64 r))
      (first | (refine Row.scells (SB.row (W := w) ?_); (repeat (first | (with_reducible assumption) | refine SB.drew ?_)); done))
      (first
        | (go_at_call 8; (with_reducible refine (RI.out _).mono ?_); rintro e v ⟨rfl, kb⟩; have V1 : SB w a p r v := SB.below (by repeat (first | (with_reducible assumption) | refine SB.drew ?_)) kb)
        | (go_at_call 9; (with_reducible refine (RR.out _).mono ?_); rintro e v ⟨rfl, kb⟩; have V1 : SB w a p r v := SB.below (by repeat (first | (with_reducible assumption) | refine SB.drew ?_)) kb)
        | (go_at_call 10; (with_reducible refine (WO.out _).mono ?_); rintro e v ⟨rfl, kb⟩; have V1 : SB w a p r v := SB.below (by repeat (first | (with_reducible assumption) | refine SB.drew ?_)) kb)
        | (go_at_call 11; (with_reducible refine (LA.out _).mono ?_); rintro e v ⟨rfl, kb⟩; have V1 : SB w a p r v := SB.below (by repeat (first | (with_reducible assumption) | refine SB.drew ?_)) kb)
        | (go_at_call 12; (with_reducible refine (CH.out _).mono ?_); rintro e v ⟨rfl, kb⟩; have V1 : SB w a p r v := SB.below (by repeat (first | (with_reducible assumption) | refine SB.drew ?_)) kb)
        | (go_at_call 13; (with_reducible refine (RC.out _).mono ?_); rintro e v ⟨rfl, kb⟩; have V1 : SB w a p r v := SB.below (by repeat (first | (with_reducible assumption) | refine SB.drew ?_)) kb)
        | (go_at_call 14; (with_reducible refine (FR.out _).mono ?_); rintro e v ⟨rfl, rfl⟩)
        | (go_at_call 15; (with_reducible refine (RF.out _).mono ?_); rintro e v ⟨rfl, rfl⟩)
        | (go_at_call 16; (with_reducible refine (CL.out _).mono ?_); rintro e v ⟨rfl, kb⟩; have V1 : SB w a p r v := SB.below (by repeat (first | (with_reducible assumption) | refine SB.drew ?_)) kb)
        | (go_at_call 17; (with_reducible refine (RO.out _).mono ?_); rintro e v ⟨rfl, rfl⟩)))
  | fail "held"
  all_goals
    go_wp2_with fail
    go_ret
    exact ⟨by first | rfl | simp, V1.bel⟩

end Go.Proofs.Ytejmkmifjelpaaa
