/-
  Shapes in plain numbers; contracts of package shape (all but Class and Sum) and of haymowref13: each for any argument.
-/
import Derived.Test.YtkbljgclflaokaaGreatDoorHdr
namespace Go.Proofs.YtkbljgclflaokaaGreatDoor
open Go.RowKit
set_option linter.unusedVariables false

/-- a shape as the program has it -/
abbrev sh (p r : Int) : Value := .agg #[.int .i64 p, .int .i64 r]
abbrev ssc (p r : Int) : Obj := .cells #[.int .i64 p, .int .i64 r] 33
/-- may an object have it? -/
def rt (p r : Int) : Bool := decide (0 ≤ p ∧ p ≤ 4095 ∧ 0 ≤ r ∧ r ≤ 4095)
/-- its words; 0: it may not be -/
def swd (p r : Int) : Nat := if rt p r = true then (1 + p + r).toNat else 0
/-- what it is charged -/
def chg (p r s : Int) : Nat := if rt p r = true then (if s < (swd p r : Int) then swd p r + 6 else swd p r) else 0
/-- what a frame is charged -/
def frm (n : Int) : Nat := if n < 0 ∨ 256 < n then 0 else (n + 2).toNat
theorem rt_yes {p r : Int} (h : rt p r = true) : 0 ≤ p ∧ p ≤ 4095 ∧ 0 ≤ r ∧ r ≤ 4095 := of_decide_eq_true h
theorem rt_no {p r : Int} (h : rt p r = false) : ¬ (0 ≤ p ∧ p ≤ 4095 ∧ 0 ≤ r ∧ r ≤ 4095) := of_decide_eq_false h
theorem rt_ok {P R : Nat} (hP : P < 4096) (hR : R < 4096) : rt P R = true := decide_eq_true (by omega)
theorem rt_nat {p r : Int} (h : rt p r = true) : ∃ P R n : Nat, p = P ∧ r = R ∧ P < 4096 ∧ R < 4096 ∧ 1 + P + R = n ∧ swd p r = n := by
  have k := rt_yes h
  refine ⟨p.toNat, r.toNat, swd p r, by omega, by omega, by omega, by omega, ?_, rfl⟩
  unfold swd
  rw [if_pos h]
  omega
theorem swd_no {p r : Int} (h : rt p r = false) : swd p r = 0 := by unfold swd; rw [h]; rfl
theorem swd_le (p r : Int) : swd p r ≤ 8191 := by
  cases h : rt p r
  · rw [swd_no h]; omega
  · obtain ⟨P, R, n, rfl, rfl, hP, hR, hn, e⟩ := rt_nat h
    rw [e]; omega
theorem swd_pos {p r : Int} (h : rt p r = true) : 0 < swd p r := by
  obtain ⟨P, R, n, rfl, rfl, hP, hR, hn, e⟩ := rt_nat h
  rw [e]; omega
theorem chg_no {p r s : Int} (h : rt p r = false) : chg p r s = 0 := by unfold chg; rw [h]; rfl
theorem chg_large {p r s : Int} (h : rt p r = true) (k : s < (swd p r : Int)) : chg p r s = swd p r + 6 := by unfold chg; rw [if_pos h, if_pos k]
theorem chg_small {p r s : Int} (h : rt p r = true) (k : ¬ s < (swd p r : Int)) : chg p r s = swd p r := by unfold chg; rw [if_pos h, if_neg k]
theorem chg_le (p r s : Int) : chg p r s ≤ 8197 := by
  have := swd_le p r
  cases h : rt p r
  · rw [chg_no h]; omega
  · by_cases k : s < (swd p r : Int)
    · rw [chg_large h k]; omega
    · rw [chg_small h k]; omega
theorem frm_no {n : Int} (h : n < 0 ∨ 256 < n) : frm n = 0 := if_pos h
theorem frm_ok {n : Int} (h : ¬ (n < 0 ∨ 256 < n)) : ((frm n : Nat) : Int) = n + 2 := by unfold frm; rw [if_neg h]; omega
attribute [irreducible] rt swd chg frm
/-- a shape's two cells -/
def srow (p r : Int) (j : Nat) : Value := if j = 0 then .int .i64 p else .int .i64 r
theorem srow_new (p r : Int) (j : Nat) (hj : j < 2) : (#[Value.int .i64 p, .int .i64 r] : Array Value)[j]? = some (srow p r j) := by
  have h : j = 0 ∨ j = 1 := by omega
  rcases h with rfl | rfl <;> simp [srow]
theorem srow_alloc (w : World) (p r : Int) : Row (w.alloc (ssc p r)) w.heap.size 2 (srow p r) := Row.new w _ _ 2 _ (srow_new p r)
theorem Row.scells {w : World} {g : Nat} {p r : Int} (h : Row w g 2 (srow p r)) : w.cell? ⟨g, 0, none⟩ = some (.int .i64 p) ∧ w.cell? ⟨g, 1, none⟩ = some (.int .i64 r) :=
  ⟨h.cell 0 (by omega), h.cell 1 (by omega)⟩

/-! ### the document's answers -/
/-! ### the program's -/
set_option maxRecDepth 100000 in
theorem ashead_any (p r : Int) (w : World) : Calls Tryz.prog 55 #[sh p r] w fun e w' => e = .returned (hd p r 0 0 false) ∧ Below w.heap.size w w' := by
  go_enter Tryz.func55, Tryz.ntmps55
  go_wp2_with fail
  exact bodyPost_ret (v := hd p r 0 0 false) (by simp [results, Tryz.results55, go_sem]) rfl ⟨rfl, (by repeat (first | exact Below.refl _ _ | (with_reducible assumption) | refine bAlloc ?_ _ | refine below_drewN ?_ _ | refine Below.drew ?_ | (refine bSet ?_ (by first | (dsimp only; omega) | (simp; done) | (simp; omega)) _) | refine bTrans ?_ (by assumption)))⟩

set_option maxRecDepth 100000 in
theorem shright_any (p r : Int) (w : World) : Calls Tryz.prog 53 #[sh p r] w fun e w' => e = .returned (.bool (rt p r)) ∧ Below w.heap.size w w' := by
  have C := fun w => check_any p r 0 0 false w
  have AH := Lib.hid (fun w => ashead_any p r w)
  cases h : rt p r
  · rw [chk_p (rt_no h)] at C
    have H := Lib.hid C
    clear C h
    go_enter Tryz.func53, Tryz.ntmps53
    go_wp2_with (first
      | (go_at_call 55; (with_reducible refine (AH.out _).mono ?_); rintro e w1 ⟨rfl, hb1⟩)
      | (go_at_call 47; (with_reducible refine (H.out _).mono ?_); rintro e w2 ⟨rfl, rfl⟩))
    go_ret
    exact ⟨rfl, (by repeat (first | exact Below.refl _ _ | (with_reducible assumption) | refine bAlloc ?_ _ | refine below_drewN ?_ _ | refine Below.drew ?_ | (refine bSet ?_ (by first | (dsimp only; omega) | (simp; done) | (simp; omega)) _) | refine bTrans ?_ (by assumption)))⟩
  · rw [chk_ok (rt_yes h) (by decide) (by decide)] at C
    have H := Lib.hid C
    clear C h
    go_enter Tryz.func53, Tryz.ntmps53
    go_wp2_with (first
      | (go_at_call 55; (with_reducible refine (AH.out _).mono ?_); rintro e w1 ⟨rfl, hb1⟩)
      | (go_at_call 47; (with_reducible refine (H.out _).mono ?_); rintro e w2 ⟨rfl, rfl⟩))
    go_ret
    exact ⟨rfl, (by repeat (first | exact Below.refl _ _ | (with_reducible assumption) | refine bAlloc ?_ _ | refine below_drewN ?_ _ | refine Below.drew ?_ | (refine bSet ?_ (by first | (dsimp only; omega) | (simp; done) | (simp; omega)) _) | refine bTrans ?_ (by assumption)))⟩

theorem words0 (P R n : Nat) (hP : P < 4096) (hR : R < 4096) (hn : 1 + P + R = n) (w : World) :
    Calls Tryz.prog 54 #[hd P R 0 0 false] w fun e w' => e = .returned (.int .i64 (n : Int)) ∧ Below w.heap.size w w' := by
  have h := words_any P R 0 0 false hP hR (by decide) (by decide) w
  rw [show 1 + (P : Int) + (R : Int) = (n : Int) by omega] at h
  exact h
set_option maxRecDepth 100000 in
theorem shwords_any (p r : Int) (w : World) : Calls Tryz.prog 27 #[sh p r] w fun e w' => e = .returned (.int .i64 (swd p r : Nat)) ∧ Below w.heap.size w w' := by
  have C := fun w => shright_any p r w
  cases h : rt p r
  · rw [swd_no h]
    rw [h] at C
    have H := Lib.hid C
    clear C h
    go_enter Tryz.func27, Tryz.ntmps27
    go_wp2_with (go_at_call 53; (with_reducible refine (H.out _).mono ?_); rintro e w1 ⟨rfl, hb1⟩)
    go_ret
    exact ⟨rfl, (by repeat (first | exact Below.refl _ _ | (with_reducible assumption) | refine bAlloc ?_ _ | refine below_drewN ?_ _ | refine Below.drew ?_ | (refine bSet ?_ (by first | (dsimp only; omega) | (simp; done) | (simp; omega)) _) | refine bTrans ?_ (by assumption)))⟩
  · obtain ⟨P, R, n, rfl, rfl, hP, hR, hn, e⟩ := rt_nat h
    rw [e]
    rw [h] at C
    have H := Lib.hid C
    have AH := Lib.hid (fun w => ashead_any (P : Int) (R : Int) w)
    have WO := Lib.hid (fun w => words0 P R n hP hR hn w)
    clear C h e hP hR hn
    go_enter Tryz.func27, Tryz.ntmps27
    go_wp2_with (first
      | (go_at_call 53; (with_reducible refine (H.out _).mono ?_); rintro e w1 ⟨rfl, hb1⟩; obtain ⟨x0, x1⟩ := ((srow_alloc w P R).below hb1).scells)
      | (go_at_call 55; (with_reducible refine (AH.out _).mono ?_); rintro e w2 ⟨rfl, hb2⟩)
      | (go_at_call 54; (with_reducible refine (WO.out _).mono ?_); rintro e w3 ⟨rfl, hb3⟩))
    go_ret
    exact ⟨rfl, bTrans (bTrans (bTrans (bAlloc (Below.refl _ _) _) hb1) hb2) hb3⟩

set_option maxRecDepth 100000 in
theorem shlarge_any (p r s : Int) (b : Bool) (hb : decide (s < (swd p r : Int)) = b) (w : World) : Calls Tryz.prog 24 #[sh p r, .int .i64 s] w fun e w' => e = .returned (.bool b) ∧ Below w.heap.size w w' := by
  have H := Lib.hid (fun w => shwords_any p r w)
  generalize swd p r = n at *
  subst hb
  go_enter Tryz.func24, Tryz.ntmps24
  go_wp2_with (go_at_call 27; (with_reducible refine (H.out _).mono ?_); rintro e w1 ⟨rfl, hb1⟩)
  go_ret
  exact ⟨rfl, (by repeat (first | exact Below.refl _ _ | (with_reducible assumption) | refine bAlloc ?_ _ | refine below_drewN ?_ _ | refine Below.drew ?_ | (refine bSet ?_ (by first | (dsimp only; omega) | (simp; done) | (simp; omega)) _) | refine bTrans ?_ (by assumption)))⟩

end Go.Proofs.YtkbljgclflaokaaGreatDoor
