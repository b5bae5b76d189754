/-
  Shapes in plain numbers; contracts of package shape (all but Class and Sum) and of haymowref13: each for any argument.
-/
import Derived.Test.YtejmkmifjelpaaaHdr
namespace Go.Proofs.Ytejmkmifjelpaaa
open Go.RowKit
set_option linter.unusedVariables false

/-- a shape as the program has it -/
abbrev sh (p r : Int) : Value := .agg #[.int .i64 p, .int .i64 r]
abbrev sc (p r : Int) : Obj := .cells #[.int .i64 p, .int .i64 r] 23
/-- may an object have it? -/
def rt (p r : Int) : Bool := decide (0 ≤ p ∧ p ≤ 4095 ∧ 0 ≤ r ∧ r ≤ 4095)
/-- its words; 0: it may not be -/
def wds (p r : Int) : Nat := if rt p r = true then (1 + p + r).toNat else 0
/-- what it is charged -/
def chg (p r s : Int) : Nat := if rt p r = true then (if s < (wds p r : Int) then wds p r + 6 else wds p r) else 0
/-- what a frame is charged -/
def frm (n : Int) : Nat := if n < 0 ∨ 256 < n then 0 else (n + 2).toNat
theorem rt_yes {p r : Int} (h : rt p r = true) : 0 ≤ p ∧ p ≤ 4095 ∧ 0 ≤ r ∧ r ≤ 4095 := of_decide_eq_true h
theorem rt_no {p r : Int} (h : rt p r = false) : ¬ (0 ≤ p ∧ p ≤ 4095 ∧ 0 ≤ r ∧ r ≤ 4095) := of_decide_eq_false h
theorem rt_ok {P R : Nat} (hP : P < 4096) (hR : R < 4096) : rt P R = true := decide_eq_true (by omega)
theorem rt_nat {p r : Int} (h : rt p r = true) : ∃ P R n : Nat, p = P ∧ r = R ∧ P < 4096 ∧ R < 4096 ∧ 1 + P + R = n ∧ wds p r = n := by
  have k := rt_yes h
  refine ⟨p.toNat, r.toNat, wds p r, by omega, by omega, by omega, by omega, ?_, rfl⟩
  unfold wds
  rw [if_pos h]
  omega
theorem wds_no {p r : Int} (h : rt p r = false) : wds p r = 0 := by unfold wds; rw [h]; rfl
theorem wds_le (p r : Int) : wds p r ≤ 8191 := by
  cases h : rt p r
  · rw [wds_no h]; omega
  · obtain ⟨P, R, n, rfl, rfl, hP, hR, hn, e⟩ := rt_nat h
    rw [e]; omega
theorem wds_pos {p r : Int} (h : rt p r = true) : 0 < wds p r := by
  obtain ⟨P, R, n, rfl, rfl, hP, hR, hn, e⟩ := rt_nat h
  rw [e]; omega
theorem chg_no {p r s : Int} (h : rt p r = false) : chg p r s = 0 := by unfold chg; rw [h]; rfl
theorem chg_large {p r s : Int} (h : rt p r = true) (k : s < (wds p r : Int)) : chg p r s = wds p r + 6 := by unfold chg; rw [if_pos h, if_pos k]
theorem chg_small {p r s : Int} (h : rt p r = true) (k : ¬ s < (wds p r : Int)) : chg p r s = wds p r := by unfold chg; rw [if_pos h, if_neg k]
theorem chg_le (p r s : Int) : chg p r s ≤ 8197 := by
  have := wds_le p r
  cases h : rt p r
  · rw [chg_no h]; omega
  · by_cases k : s < (wds p r : Int)
    · rw [chg_large h k]; omega
    · rw [chg_small h k]; omega
theorem frm_no {n : Int} (h : n < 0 ∨ 256 < n) : frm n = 0 := if_pos h
theorem frm_ok {n : Int} (h : ¬ (n < 0 ∨ 256 < n)) : ((frm n : Nat) : Int) = n + 2 := by unfold frm; rw [if_neg h]; omega
attribute [irreducible] rt wds chg frm
/-- a shape's two cells -/
def srow (p r : Int) (j : Nat) : Value := if j = 0 then .int .i64 p else .int .i64 r
theorem srow_new (p r : Int) (j : Nat) (hj : j < 2) : (#[Value.int .i64 p, .int .i64 r] : Array Value)[j]? = some (srow p r j) := by
  have h : j = 0 ∨ j = 1 := by omega
  rcases h with rfl | rfl <;> simp [srow]
theorem srow_alloc (w : World) (p r : Int) : Row (w.alloc (sc p r)) w.heap.size 2 (srow p r) := Row.new w _ _ 2 _ (srow_new p r)
theorem Row.scells {w : World} {g : Nat} {p r : Int} (h : Row w g 2 (srow p r)) : w.cell? ⟨g, 0, none⟩ = some (.int .i64 p) ∧ w.cell? ⟨g, 1, none⟩ = some (.int .i64 r) :=
  ⟨h.cell 0 (by omega), h.cell 1 (by omega)⟩

/-! ### the document's answers -/
set_option maxRecDepth 100000 in
theorem refright_any (p r : Int) (w : World) : Calls Try.prog 9 #[sh p r] w fun e w' => e = .returned (.bool (rt p r)) ∧ Below w.heap.size w w' := by
  have E : rt p r = decide (0 ≤ p ∧ p ≤ 4095 ∧ 0 ≤ r ∧ r ≤ 4095) := by unfold rt; rfl
  by_cases c1 : 0 ≤ p
  · by_cases c2 : p < 4096
    · by_cases c3 : 0 ≤ r
      · by_cases c4 : r < 4096
        · rw [E, decide_eq_true (p := 0 ≤ p ∧ p ≤ 4095 ∧ 0 ≤ r ∧ r ≤ 4095) (by omega)]
          clear E
          go_enter Try.func9, Try.ntmps9
          go_wp2_with fail
          go_ret
          exact ⟨rfl, (by repeat (first | exact Below.refl _ _ | (with_reducible assumption) | refine bAlloc ?_ _ | refine below_drewN ?_ _ | refine Below.drew ?_ | (refine bSet ?_ (by first | (dsimp only; omega) | (simp; done) | (simp; omega)) _) | refine bTrans ?_ (by assumption)))⟩
        · rw [E, decide_eq_false (p := 0 ≤ p ∧ p ≤ 4095 ∧ 0 ≤ r ∧ r ≤ 4095) (by omega)]
          clear E
          go_enter Try.func9, Try.ntmps9
          go_wp2_with fail
          go_ret
          exact ⟨rfl, (by repeat (first | exact Below.refl _ _ | (with_reducible assumption) | refine bAlloc ?_ _ | refine below_drewN ?_ _ | refine Below.drew ?_ | (refine bSet ?_ (by first | (dsimp only; omega) | (simp; done) | (simp; omega)) _) | refine bTrans ?_ (by assumption)))⟩
      · rw [E, decide_eq_false (p := 0 ≤ p ∧ p ≤ 4095 ∧ 0 ≤ r ∧ r ≤ 4095) (by omega)]
        clear E
        go_enter Try.func9, Try.ntmps9
        go_wp2_with fail
        go_ret
        exact ⟨rfl, (by repeat (first | exact Below.refl _ _ | (with_reducible assumption) | refine bAlloc ?_ _ | refine below_drewN ?_ _ | refine Below.drew ?_ | (refine bSet ?_ (by first | (dsimp only; omega) | (simp; done) | (simp; omega)) _) | refine bTrans ?_ (by assumption)))⟩
    · rw [E, decide_eq_false (p := 0 ≤ p ∧ p ≤ 4095 ∧ 0 ≤ r ∧ r ≤ 4095) (by omega)]
      clear E
      go_enter Try.func9, Try.ntmps9
      go_wp2_with fail
      go_ret
      exact ⟨rfl, (by repeat (first | exact Below.refl _ _ | (with_reducible assumption) | refine bAlloc ?_ _ | refine below_drewN ?_ _ | refine Below.drew ?_ | (refine bSet ?_ (by first | (dsimp only; omega) | (simp; done) | (simp; omega)) _) | refine bTrans ?_ (by assumption)))⟩
  · rw [E, decide_eq_false (p := 0 ≤ p ∧ p ≤ 4095 ∧ 0 ≤ r ∧ r ≤ 4095) (by omega)]
    clear E
    go_enter Try.func9, Try.ntmps9
    go_wp2_with fail
    go_ret
    exact ⟨rfl, (by repeat (first | exact Below.refl _ _ | (with_reducible assumption) | refine bAlloc ?_ _ | refine below_drewN ?_ _ | refine Below.drew ?_ | (refine bSet ?_ (by first | (dsimp only; omega) | (simp; done) | (simp; omega)) _) | refine bTrans ?_ (by assumption)))⟩

set_option maxRecDepth 100000 in
theorem refwords_any (p r : Int) (w : World) : Calls Try.prog 7 #[sh p r] w fun e w' => e = .returned (.int .i64 (wds p r : Nat)) ∧ Below w.heap.size w w' := by
  have C := fun w => refright_any p r w
  cases h : rt p r
  · rw [wds_no h]
    rw [h] at C
    have H := Lib.hid C
    clear C h
    go_enter Try.func7, Try.ntmps7
    go_wp2_with (go_at_call 9; (with_reducible refine (H.out _).mono ?_); rintro e w1 ⟨rfl, hb1⟩)
    go_ret
    exact ⟨rfl, (by repeat (first | exact Below.refl _ _ | (with_reducible assumption) | refine bAlloc ?_ _ | refine below_drewN ?_ _ | refine Below.drew ?_ | (refine bSet ?_ (by first | (dsimp only; omega) | (simp; done) | (simp; omega)) _) | refine bTrans ?_ (by assumption)))⟩
  · obtain ⟨P, R, n, rfl, rfl, hP, hR, hn, e⟩ := rt_nat h
    rw [e]
    rw [h] at C
    have H := Lib.hid C
    obtain ⟨x, hx⟩ : ∃ x : Int, 1 + (P : Int) = x := ⟨_, rfl⟩
    have hy : x + (R : Int) = (n : Int) := by omega
    have s1 : IntKind.i64.wrap x = x := by rw [IntKind.wrap_i64]; omega
    have s2 : IntKind.i64.wrap (n : Int) = (n : Int) := by rw [IntKind.wrap_i64]; omega
    have t1 : wrap64 x = x := by unfold wrap64; omega
    have t2 : wrap64 (n : Int) = (n : Int) := by unfold wrap64; omega
    clear C h e hP hR hn
    go_enter Try.func7, Try.ntmps7
    go_wp2_with (go_at_call 9; (with_reducible refine (H.out _).mono ?_); rintro e w1 ⟨rfl, hb1⟩; obtain ⟨x0, x1⟩ := ((srow_alloc w P R).below hb1).scells)
    go_ret
    exact ⟨rfl, (by repeat (first | exact Below.refl _ _ | (with_reducible assumption) | refine bAlloc ?_ _ | refine below_drewN ?_ _ | refine Below.drew ?_ | (refine bSet ?_ (by first | (dsimp only; omega) | (simp; done) | (simp; omega)) _) | refine bTrans ?_ (by assumption)))⟩

set_option maxRecDepth 100000 in
theorem refcharge_any (p r s : Int) (w : World) : Calls Try.prog 13 #[sh p r, .int .i64 s] w fun e w' => e = .returned (.int .i64 (chg p r s : Nat)) ∧ Below w.heap.size w w' := by
  have C := fun w => refwords_any p r w
  cases h : rt p r
  · rw [chg_no h]
    rw [wds_no h] at C
    have H := Lib.hid C
    clear C h
    go_enter Try.func13, Try.ntmps13
    go_wp2_with (go_at_call 7; (with_reducible refine (H.out _).mono ?_); rintro e w1 ⟨rfl, hb1⟩)
    go_ret
    exact ⟨rfl, (by repeat (first | exact Below.refl _ _ | (with_reducible assumption) | refine bAlloc ?_ _ | refine below_drewN ?_ _ | refine Below.drew ?_ | (refine bSet ?_ (by first | (dsimp only; omega) | (simp; done) | (simp; omega)) _) | refine bTrans ?_ (by assumption)))⟩
  · have hp := wds_pos h
    have hl := wds_le p r
    by_cases k : s < (wds p r : Int)
    · rw [chg_large h k]
      obtain ⟨n, hn⟩ : ∃ n, wds p r = n := ⟨_, rfl⟩
      rw [hn] at C hp hl k ⊢
      have H := Lib.hid C
      have c0 : (0 : Int) < (n : Int) := by omega
      have s1 : IntKind.i64.wrap ((n : Int) + 6) = (n : Int) + 6 := by rw [IntKind.wrap_i64]; omega
      have t1 : wrap64 ((n : Int) + 6) = (n : Int) + 6 := by unfold wrap64; omega
      have E := Lib.hid (show ((n + 6 : Nat) : Int) = (n : Int) + 6 by omega)
      clear C h hn hl hp
      go_enter Try.func13, Try.ntmps13
      go_wp2_with (go_at_call 7; (with_reducible refine (H.out _).mono ?_); rintro e w1 ⟨rfl, hb1⟩)
      go_ret
      exact ⟨by rw [E.out]; rfl, (by repeat (first | exact Below.refl _ _ | (with_reducible assumption) | refine bAlloc ?_ _ | refine below_drewN ?_ _ | refine Below.drew ?_ | (refine bSet ?_ (by first | (dsimp only; omega) | (simp; done) | (simp; omega)) _) | refine bTrans ?_ (by assumption)))⟩
    · rw [chg_small h k]
      obtain ⟨n, hn⟩ : ∃ n, wds p r = n := ⟨_, rfl⟩
      rw [hn] at C hp hl k ⊢
      have H := Lib.hid C
      have c0 : (0 : Int) < (n : Int) := by omega
      clear C h hn hl hp
      go_enter Try.func13, Try.ntmps13
      go_wp2_with (go_at_call 7; (with_reducible refine (H.out _).mono ?_); rintro e w1 ⟨rfl, hb1⟩)
      go_ret
      exact ⟨rfl, (by repeat (first | exact Below.refl _ _ | (with_reducible assumption) | refine bAlloc ?_ _ | refine below_drewN ?_ _ | refine Below.drew ?_ | (refine bSet ?_ (by first | (dsimp only; omega) | (simp; done) | (simp; omega)) _) | refine bTrans ?_ (by assumption)))⟩

theorem refframe_any (n : Int) (w : World) : Calls Try.prog 15 #[.int .i64 n] w fun e w' => e = .returned (.int .i64 (frm n : Nat)) ∧ w = w' := by
  by_cases c1 : n < 0
  · rw [frm_no (.inl c1)]
    go_enter Try.func15, Try.ntmps15
    go_wp2_with fail
    go_ret
    exact ⟨rfl, rfl⟩
  · by_cases c2 : 256 < n
    · rw [frm_no (.inr c2)]
      go_enter Try.func15, Try.ntmps15
      go_wp2_with fail
      go_ret
      exact ⟨rfl, rfl⟩
    · rw [frm_ok (by omega)]
      have s1 : IntKind.i64.wrap (n + 2) = n + 2 := by rw [IntKind.wrap_i64]; omega
      have t1 : wrap64 (n + 2) = n + 2 := by unfold wrap64; omega
      go_enter Try.func15, Try.ntmps15
      go_wp2_with fail
      go_ret
      exact ⟨rfl, rfl⟩

/-! ### the program's -/
theorem shframe_any (n : Int) (w : World) : Calls Try.prog 14 #[.int .i64 n] w fun e w' => e = .returned (.int .i64 (frm n : Nat)) ∧ w = w' := by
  by_cases c1 : n < 0
  · rw [frm_no (.inl c1)]
    go_enter Try.func14, Try.ntmps14
    go_wp2_with fail
    go_ret
    exact ⟨rfl, rfl⟩
  · by_cases c2 : 256 < n
    · rw [frm_no (.inr c2)]
      go_enter Try.func14, Try.ntmps14
      go_wp2_with fail
      go_ret
      exact ⟨rfl, rfl⟩
    · rw [frm_ok (by omega)]
      have s1 : IntKind.i64.wrap (n + 2) = n + 2 := by rw [IntKind.wrap_i64]; omega
      have t1 : wrap64 (n + 2) = n + 2 := by unfold wrap64; omega
      go_enter Try.func14, Try.ntmps14
      go_wp2_with fail
      go_ret
      exact ⟨rfl, rfl⟩

set_option maxRecDepth 100000 in
theorem ashead_any (p r : Int) (w : World) : Calls Try.prog 22 #[sh p r] w fun e w' => e = .returned (hd p r 0 0 false) ∧ Below w.heap.size w w' := by
  go_enter Try.func22, Try.ntmps22
  go_wp2_with fail
  exact bodyPost_ret (v := hd p r 0 0 false) (by simp [results, Try.results22, go_sem]) rfl ⟨rfl, (by repeat (first | exact Below.refl _ _ | (with_reducible assumption) | refine bAlloc ?_ _ | refine below_drewN ?_ _ | refine Below.drew ?_ | (refine bSet ?_ (by first | (dsimp only; omega) | (simp; done) | (simp; omega)) _) | refine bTrans ?_ (by assumption)))⟩

set_option maxRecDepth 100000 in
theorem shright_any (p r : Int) (w : World) : Calls Try.prog 8 #[sh p r] w fun e w' => e = .returned (.bool (rt p r)) ∧ Below w.heap.size w w' := by
  have C := fun w => check_any p r 0 0 false w
  have AH := Lib.hid (fun w => ashead_any p r w)
  cases h : rt p r
  · rw [chk_p (rt_no h)] at C
    have H := Lib.hid C
    clear C h
    go_enter Try.func8, Try.ntmps8
    go_wp2_with (first
      | (go_at_call 22; (with_reducible refine (AH.out _).mono ?_); rintro e w1 ⟨rfl, hb1⟩)
      | (go_at_call 21; (with_reducible refine (H.out _).mono ?_); rintro e w2 ⟨rfl, rfl⟩))
    go_ret
    exact ⟨rfl, (by repeat (first | exact Below.refl _ _ | (with_reducible assumption) | refine bAlloc ?_ _ | refine below_drewN ?_ _ | refine Below.drew ?_ | (refine bSet ?_ (by first | (dsimp only; omega) | (simp; done) | (simp; omega)) _) | refine bTrans ?_ (by assumption)))⟩
  · rw [chk_ok (rt_yes h) (by decide) (by decide)] at C
    have H := Lib.hid C
    clear C h
    go_enter Try.func8, Try.ntmps8
    go_wp2_with (first
      | (go_at_call 22; (with_reducible refine (AH.out _).mono ?_); rintro e w1 ⟨rfl, hb1⟩)
      | (go_at_call 21; (with_reducible refine (H.out _).mono ?_); rintro e w2 ⟨rfl, rfl⟩))
    go_ret
    exact ⟨rfl, (by repeat (first | exact Below.refl _ _ | (with_reducible assumption) | refine bAlloc ?_ _ | refine below_drewN ?_ _ | refine Below.drew ?_ | (refine bSet ?_ (by first | (dsimp only; omega) | (simp; done) | (simp; omega)) _) | refine bTrans ?_ (by assumption)))⟩

theorem words0 (P R n : Nat) (hP : P < 4096) (hR : R < 4096) (hn : 1 + P + R = n) (w : World) :
    Calls Try.prog 23 #[hd P R 0 0 false] w fun e w' => e = .returned (.int .i64 (n : Int)) ∧ Below w.heap.size w w' := by
  have h := words_any P R 0 0 false hP hR (by decide) (by decide) w
  rw [show 1 + (P : Int) + (R : Int) = (n : Int) by omega] at h
  exact h
set_option maxRecDepth 100000 in
theorem shwords_any (p r : Int) (w : World) : Calls Try.prog 10 #[sh p r] w fun e w' => e = .returned (.int .i64 (wds p r : Nat)) ∧ Below w.heap.size w w' := by
  have C := fun w => shright_any p r w
  cases h : rt p r
  · rw [wds_no h]
    rw [h] at C
    have H := Lib.hid C
    clear C h
    go_enter Try.func10, Try.ntmps10
    go_wp2_with (go_at_call 8; (with_reducible refine (H.out _).mono ?_); rintro e w1 ⟨rfl, hb1⟩)
    go_ret
    exact ⟨rfl, (by repeat (first | exact Below.refl _ _ | (with_reducible assumption) | refine bAlloc ?_ _ | refine below_drewN ?_ _ | refine Below.drew ?_ | (refine bSet ?_ (by first | (dsimp only; omega) | (simp; done) | (simp; omega)) _) | refine bTrans ?_ (by assumption)))⟩
  · obtain ⟨P, R, n, rfl, rfl, hP, hR, hn, e⟩ := rt_nat h
    rw [e]
    rw [h] at C
    have H := Lib.hid C
    have AH := Lib.hid (fun w => ashead_any (P : Int) (R : Int) w)
    have WO := Lib.hid (fun w => words0 P R n hP hR hn w)
    clear C h e hP hR hn
    go_enter Try.func10, Try.ntmps10
    go_wp2_with (first
      | (go_at_call 8; (with_reducible refine (H.out _).mono ?_); rintro e w1 ⟨rfl, hb1⟩; obtain ⟨x0, x1⟩ := ((srow_alloc w P R).below hb1).scells)
      | (go_at_call 22; (with_reducible refine (AH.out _).mono ?_); rintro e w2 ⟨rfl, hb2⟩)
      | (go_at_call 23; (with_reducible refine (WO.out _).mono ?_); rintro e w3 ⟨rfl, hb3⟩))
    go_ret
    exact ⟨rfl, bTrans (bTrans (bTrans (bAlloc (Below.refl _ _) _) hb1) hb2) hb3⟩

set_option maxRecDepth 100000 in
theorem shlarge_any (p r s : Int) (b : Bool) (hb : decide (s < (wds p r : Int)) = b) (w : World) : Calls Try.prog 11 #[sh p r, .int .i64 s] w fun e w' => e = .returned (.bool b) ∧ Below w.heap.size w w' := by
  have H := Lib.hid (fun w => shwords_any p r w)
  generalize wds p r = n at *
  subst hb
  go_enter Try.func11, Try.ntmps11
  go_wp2_with (go_at_call 10; (with_reducible refine (H.out _).mono ?_); rintro e w1 ⟨rfl, hb1⟩)
  go_ret
  exact ⟨rfl, (by repeat (first | exact Below.refl _ _ | (with_reducible assumption) | refine bAlloc ?_ _ | refine below_drewN ?_ _ | refine Below.drew ?_ | (refine bSet ?_ (by first | (dsimp only; omega) | (simp; done) | (simp; omega)) _) | refine bTrans ?_ (by assumption)))⟩

set_option maxRecDepth 100000 in
theorem shcharge_any (p r s : Int) (w : World) : Calls Try.prog 12 #[sh p r, .int .i64 s] w fun e w' => e = .returned (.int .i64 (chg p r s : Nat)) ∧ Below w.heap.size w w' := by
  have C := fun w => shright_any p r w
  have D := fun w => shwords_any p r w
  have L := fun w b hb => shlarge_any p r s b hb w
  have hl := wds_le p r
  cases h : rt p r
  · rw [chg_no h]
    rw [h] at C
    have H := Lib.hid C
    clear C D L h hl
    go_enter Try.func12, Try.ntmps12
    go_wp2_with (go_at_call 8; (with_reducible refine (H.out _).mono ?_); rintro e w1 ⟨rfl, hb1⟩)
    go_ret
    exact ⟨rfl, (by repeat (first | exact Below.refl _ _ | (with_reducible assumption) | refine bAlloc ?_ _ | refine below_drewN ?_ _ | refine Below.drew ?_ | (refine bSet ?_ (by first | (dsimp only; omega) | (simp; done) | (simp; omega)) _) | refine bTrans ?_ (by assumption)))⟩
  · rw [h] at C
    by_cases k : s < (wds p r : Int)
    · rw [chg_large h k]
      have L2 := fun w => L w true (decide_eq_true k)
      clear L h
      generalize wds p r = n at *
      have H := Lib.hid C
      have HD := Lib.hid D
      have HL := Lib.hid L2
      have s1 : IntKind.i64.wrap ((n : Int) + 6) = (n : Int) + 6 := by rw [IntKind.wrap_i64]; omega
      have t1 : wrap64 ((n : Int) + 6) = (n : Int) + 6 := by unfold wrap64; omega
      have E := Lib.hid (show ((n + 6 : Nat) : Int) = (n : Int) + 6 by omega)
      clear C D L2 hl
      go_enter Try.func12, Try.ntmps12
      go_wp2_with (first
        | (go_at_call 8; (with_reducible refine (H.out _).mono ?_); rintro e w1 ⟨rfl, hb1⟩; have R1 := (srow_alloc w p r).below hb1; obtain ⟨x0, x1⟩ := R1.scells)
        | (go_at_call 11; (with_reducible refine (HL.out _).mono ?_); rintro e w2 ⟨rfl, hb2⟩; have R2 := R1.below hb2; obtain ⟨y0, y1⟩ := R2.scells)
        | (go_at_call 10; (with_reducible refine (HD.out _).mono ?_); rintro e w3 ⟨rfl, hb3⟩))
      go_ret
      exact ⟨by rw [E.out]; rfl, bTrans (bTrans (bTrans (bAlloc (Below.refl _ _) _) hb1) hb2) hb3⟩
    · rw [chg_small h k]
      have L2 := fun w => L w false (decide_eq_false k)
      clear L h
      generalize wds p r = n at *
      have H := Lib.hid C
      have HD := Lib.hid D
      have HL := Lib.hid L2
      clear C D L2 hl
      go_enter Try.func12, Try.ntmps12
      go_wp2_with (first
        | (go_at_call 8; (with_reducible refine (H.out _).mono ?_); rintro e w1 ⟨rfl, hb1⟩; have R1 := (srow_alloc w p r).below hb1; obtain ⟨x0, x1⟩ := R1.scells)
        | (go_at_call 11; (with_reducible refine (HL.out _).mono ?_); rintro e w2 ⟨rfl, hb2⟩; have R2 := R1.below hb2; obtain ⟨y0, y1⟩ := R2.scells)
        | (go_at_call 10; (with_reducible refine (HD.out _).mono ?_); rintro e w3 ⟨rfl, hb3⟩))
      go_ret
      exact ⟨rfl, bTrans (bTrans (bTrans (bAlloc (Below.refl _ _) _) hb1) hb2) hb3⟩

end Go.Proofs.Ytejmkmifjelpaaa
