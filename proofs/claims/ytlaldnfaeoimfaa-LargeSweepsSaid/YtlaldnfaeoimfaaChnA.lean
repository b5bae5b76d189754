/-
  Package chain: isWord, Right, Entries, has, check, at.
-/
import Derived.Test.YtlaldnfaeoimfaaLibE
import Derived.LoopTactic
namespace Go.Proofs.Ytlaldnfaeoimfaa
open Go.RowKit
set_option linter.unusedVariables false

/-- a table as the program has it -/
abbrev tv (m : Value) (s W N P : Int) : Value := .agg #[m, .int .i64 s, .int .i64 W, .int .i64 N, .int .i64 P]
/-- its cells -/
def tc (m : Value) (s W N P : Int) (j : Nat) : Value := if j = 0 then m else if j = 1 then .int .i64 s else if j = 2 then .int .i64 W else if j = 3 then .int .i64 N else .int .i64 P
theorem five {j : Nat} (h : j < 5) : j = 0 ∨ j = 1 ∨ j = 2 ∨ j = 3 ∨ j = 4 := by omega
theorem tc_new (m : Value) (s W N P : Int) (j : Nat) (hj : j < 5) : (#[m, Value.int .i64 s, .int .i64 W, .int .i64 N, .int .i64 P] : Array Value)[j]? = some (tc m s W N P j) := by
  rcases five hj with rfl | rfl | rfl | rfl | rfl <;> rfl
theorem tc_all {w : World} {g : Nat} {m : Value} {s W N P : Int} (r : Row w g 5 (tc m s W N P)) : w.cell? ⟨g, 0, none⟩ = some m ∧ w.cell? ⟨g, 1, none⟩ = some (.int .i64 s) ∧ w.cell? ⟨g, 2, none⟩ = some (.int .i64 W) ∧ w.cell? ⟨g, 3, none⟩ = some (.int .i64 N) ∧ w.cell? ⟨g, 4, none⟩ = some (.int .i64 P) ∧ (∀ j, w.frozen? ⟨g, j, none⟩ = false) ∧ g < w.heap.size :=
  ⟨r.cell 0 (by omega), r.cell 1 (by omega), r.cell 2 (by omega), r.cell 3 (by omega), r.cell 4 (by omega), r.free, r.lt⟩
/-- a chain as the program has it -/
abbrev cv (h t n : Int) : Value := .agg #[.int .i64 h, .int .i64 t, .int .i64 n]
def cc (h t n : Int) (j : Nat) : Value := if j = 0 then .int .i64 h else if j = 1 then .int .i64 t else .int .i64 n
theorem cc_new (h t n : Int) (j : Nat) (hj : j < 3) : (#[Value.int .i64 h, .int .i64 t, .int .i64 n] : Array Value)[j]? = some (cc h t n j) := by
  rcases (show j = 0 ∨ j = 1 ∨ j = 2 by omega) with rfl | rfl | rfl <;> rfl
theorem cc_all {w : World} {g : Nat} {h t n : Int} (r : Row w g 3 (cc h t n)) : w.cell? ⟨g, 0, none⟩ = some (.int .i64 h) ∧ w.cell? ⟨g, 1, none⟩ = some (.int .i64 t) ∧ w.cell? ⟨g, 2, none⟩ = some (.int .i64 n) ∧ (∀ j, w.frozen? ⟨g, j, none⟩ = false) ∧ g < w.heap.size :=
  ⟨r.cell 0 (by omega), r.cell 1 (by omega), r.cell 2 (by omega), r.free, r.lt⟩
attribute [irreducible] tc cc
/-- is it a word of an entry? -/
def isw (W x : Int) : Bool := decide (0 ≤ x ∧ x < W)
theorem isw_t {W x : Int} (h : 0 ≤ x) (k : x < W) : isw W x = true := by unfold isw; exact decide_eq_true ⟨h, k⟩
theorem isw_l {W x : Int} (h : ¬ 0 ≤ x) : isw W x = false := by unfold isw; exact decide_eq_false (fun q => h q.1)
theorem isw_h {W x : Int} (h : ¬ x < W) : isw W x = false := by unfold isw; exact decide_eq_false (fun q => h q.2)
theorem isw_iff {W x : Int} : isw W x = true ↔ 0 ≤ x ∧ x < W := by unfold isw; exact decide_eq_true_iff
attribute [irreducible] isw
theorem isword_any (m : Value) (s W N P x : Int) (w : World) : Calls Try.prog 80 #[tv m s W N P, .int .i64 x] w fun e w' => e = .returned (.bool (isw W x)) ∧ Below w.heap.size w w' := by
  by_cases h0 : 0 ≤ x
  · by_cases h1 : x < W
    · rw [isw_t h0 h1]
      go_enter Try.func80, Try.ntmps80
      go_wp2
      go_ret
      exact ⟨rfl, (by repeat (first | exact Below.refl _ _ | (with_reducible assumption) | refine bAlloc ?_ _ | refine below_drewN ?_ _ | refine Below.drew ?_ | (refine bSet ?_ (by first | (dsimp only; omega) | (simp; done) | (simp; omega)) _) | refine bTrans ?_ (by assumption)))⟩
    · rw [isw_h h1]
      have h1' : W ≤ x := by omega
      go_enter Try.func80, Try.ntmps80
      go_wp2
      go_ret
      exact ⟨rfl, (by repeat (first | exact Below.refl _ _ | (with_reducible assumption) | refine bAlloc ?_ _ | refine below_drewN ?_ _ | refine Below.drew ?_ | (refine bSet ?_ (by first | (dsimp only; omega) | (simp; done) | (simp; omega)) _) | refine bTrans ?_ (by assumption)))⟩
  · rw [isw_l h0]
    have h0' : x < 0 := by omega
    go_enter Try.func80, Try.ntmps80
    go_wp2
    go_ret
    exact ⟨rfl, (by repeat (first | exact Below.refl _ _ | (with_reducible assumption) | refine bAlloc ?_ _ | refine below_drewN ?_ _ | refine Below.drew ?_ | (refine bSet ?_ (by first | (dsimp only; omega) | (simp; done) | (simp; omega)) _) | refine bTrans ?_ (by assumption)))⟩

/-- may such a table be? -/
def rightv (W N P : Int) : Bool := decide (2 ≤ W ∧ W ≤ 64) && (isw W N && (isw W P && decide (N ≠ P)))
theorem rightv_iff {W N P : Int} : rightv W N P = true ↔ 2 ≤ W ∧ W ≤ 64 ∧ 0 ≤ N ∧ N < W ∧ 0 ≤ P ∧ P < W ∧ N ≠ P := by
  unfold rightv
  simp only [Bool.and_eq_true, decide_eq_true_eq, isw_iff]
  constructor
  · rintro ⟨⟨a, b⟩, ⟨c, d⟩, ⟨e, f⟩, g⟩; exact ⟨a, b, c, d, e, f, g⟩
  · rintro ⟨a, b, c, d, e, f, g⟩; exact ⟨⟨a, b⟩, ⟨c, d⟩, ⟨e, f⟩, g⟩
attribute [irreducible] rightv
theorem rightv_f {W N P : Int} (h : ¬ (2 ≤ W ∧ W ≤ 64 ∧ 0 ≤ N ∧ N < W ∧ 0 ≤ P ∧ P < W ∧ N ≠ P)) : rightv W N P = false := by
  cases q : rightv W N P
  · rfl
  · exact absurd (rightv_iff.1 q) h

theorem right_nil (s W N P : Int) (w : World) : Calls Try.prog 54 #[tv (.pointer none) s W N P] w fun e w' => e = .returned (.bool false) ∧ Below w.heap.size w w' := by
  go_enter Try.func54, Try.ntmps54
  go_wp2_with fail
  go_ret
  exact ⟨rfl, (by repeat (first | exact Below.refl _ _ | (with_reducible assumption) | refine bAlloc ?_ _ | refine below_drewN ?_ _ | refine Below.drew ?_ | (refine bSet ?_ (by first | (dsimp only; omega) | (simp; done) | (simp; omega)) _) | refine bTrans ?_ (by assumption)))⟩
theorem ptr_neq_nil (a : Addr) (w : World) : (binOp .neq 25 (.pointer (some a)) (.pointer none)).run Try.prog w = .ok (.bool true) w := by kernel_rfl
theorem ptr_eql_nil (a : Addr) (w : World) : (binOp .eql 25 (.pointer (some a)) (.pointer none)).run Try.prog w = .ok (.bool false) w := by kernel_rfl

theorem boxed5 (w : World) (m : Value) (s W N P : Int) : Row (w.alloc (.cells #[m, .int .i64 s, .int .i64 W, .int .i64 N, .int .i64 P] 75)) w.heap.size 5 (tc m s W N P) := Row.newAt w _ _ w.heap.size 5 _ rfl (tc_new m s W N P)
set_option maxRecDepth 100000 in
theorem right_any (mb : Nat) (s W N P : Int) (w : World) : Calls Try.prog 54 #[tv (at0 mb) s W N P] w fun e w' => e = .returned (.bool (rightv W N P)) ∧ Below w.heap.size w w' := by
  have I1 := Lib.hid (fun w => isword_any (at0 mb) s W N P N w)
  have I2 := Lib.hid (fun w => isword_any (at0 mb) s W N P P w)
  have q0 := fun w a => ptr_neq_nil a w
  have B0 := boxed5 w (at0 mb) s W N P
  by_cases c1 : 2 ≤ W
  · by_cases c2 : W ≤ 64
    · by_cases c3 : isw W N = true
      · by_cases c4 : isw W P = true
        · rw [c3] at I1
          rw [c4] at I2
          obtain ⟨d1, d2⟩ := isw_iff.1 c3
          obtain ⟨d3, d4⟩ := isw_iff.1 c4
          have e0 : rightv W N P = (N != P) := by
            by_cases e : N = P
            · rw [rightv_f (fun q => q.2.2.2.2.2.2 e)]; simp [e]
            · rw [rightv_iff.2 ⟨c1, c2, d1, d2, d3, d4, e⟩]; simp [e]
          rw [e0]
          clear e0 c3 c4 d1 d2 d3 d4
          go_enter Try.func54, Try.ntmps54
          go_wp2_with fail
          with_reducible refine (I1.out _).mono ?_
          rintro e w1 ⟨rfl, b1⟩
          dsimp only
          have B1 := B0.below b1
          obtain ⟨x0, x1, x2, x3, x4, xf, xl⟩ := tc_all B1
          go_wp2_with fail
          with_reducible refine (I2.out _).mono ?_
          rintro e w2 ⟨rfl, b2⟩
          dsimp only
          have B2 := B1.below b2
          clear x0 x1 x2 x3 x4 xf xl
          obtain ⟨x0, x1, x2, x3, x4, xf, xl⟩ := tc_all B2
          go_wp2_with fail
          go_ret
          exact ⟨rfl, (by repeat (first | exact Below.refl _ _ | (with_reducible assumption) | refine bAlloc ?_ _ | refine below_drewN ?_ _ | refine Below.drew ?_ | (refine bSet ?_ (by first | (dsimp only; omega) | (simp; done) | (simp; omega)) _) | refine bTrans ?_ (by assumption)))⟩
        · rw [rightv_f (fun q => c4 (isw_iff.2 ⟨q.2.2.2.2.1, q.2.2.2.2.2.1⟩))]
          rw [c3] at I1
          rw [Bool.eq_false_iff.2 c4] at I2
          clear c3 c4
          go_enter Try.func54, Try.ntmps54
          go_wp2_with fail
          with_reducible refine (I1.out _).mono ?_
          rintro e w1 ⟨rfl, b1⟩
          dsimp only
          have B1 := B0.below b1
          obtain ⟨x0, x1, x2, x3, x4, xf, xl⟩ := tc_all B1
          go_wp2_with fail
          with_reducible refine (I2.out _).mono ?_
          rintro e w2 ⟨rfl, b2⟩
          dsimp only
          go_wp2_with fail
          go_ret
          exact ⟨rfl, (by repeat (first | exact Below.refl _ _ | (with_reducible assumption) | refine bAlloc ?_ _ | refine below_drewN ?_ _ | refine Below.drew ?_ | (refine bSet ?_ (by first | (dsimp only; omega) | (simp; done) | (simp; omega)) _) | refine bTrans ?_ (by assumption)))⟩
      · rw [rightv_f (fun q => c3 (isw_iff.2 ⟨q.2.2.1, q.2.2.2.1⟩))]
        rw [Bool.eq_false_iff.2 c3] at I1
        clear c3
        go_enter Try.func54, Try.ntmps54
        go_wp2_with fail
        with_reducible refine (I1.out _).mono ?_
        rintro e w1 ⟨rfl, b1⟩
        dsimp only
        go_wp2_with fail
        go_ret
        exact ⟨rfl, (by repeat (first | exact Below.refl _ _ | (with_reducible assumption) | refine bAlloc ?_ _ | refine below_drewN ?_ _ | refine Below.drew ?_ | (refine bSet ?_ (by first | (dsimp only; omega) | (simp; done) | (simp; omega)) _) | refine bTrans ?_ (by assumption)))⟩
    · rw [rightv_f (fun q => c2 q.2.1)]
      have c2' : 64 < W := by omega
      go_enter Try.func54, Try.ntmps54
      go_wp2_with fail
      go_ret
      exact ⟨rfl, (by repeat (first | exact Below.refl _ _ | (with_reducible assumption) | refine bAlloc ?_ _ | refine below_drewN ?_ _ | refine Below.drew ?_ | (refine bSet ?_ (by first | (dsimp only; omega) | (simp; done) | (simp; omega)) _) | refine bTrans ?_ (by assumption)))⟩
  · rw [rightv_f (fun q => c1 q.1)]
    have c1' : W < 2 := by omega
    go_enter Try.func54, Try.ntmps54
    go_wp2_with fail
    go_ret
    exact ⟨rfl, (by repeat (first | exact Below.refl _ _ | (with_reducible assumption) | refine bAlloc ?_ _ | refine below_drewN ?_ _ | refine Below.drew ?_ | (refine bSet ?_ (by first | (dsimp only; omega) | (simp; done) | (simp; omega)) _) | refine bTrans ?_ (by assumption)))⟩

/-! ### how many entries -/
theorem entries_nil (s W N P : Int) (w : World) : Calls Try.prog 85 #[tv (.pointer none) s W N P] w fun e w' => e = .returned (.int .i64 0) ∧ Below w.heap.size w w' := by
  have I1 := Lib.hid (fun w => right_nil s W N P w)
  go_enter Try.func85, Try.ntmps85
  go_wp2_with fail
  with_reducible refine (I1.out _).mono ?_
  rintro e w1 ⟨rfl, b1⟩
  dsimp only
  go_wp2_with fail
  go_ret
  exact ⟨rfl, (by repeat (first | exact Below.refl _ _ | (with_reducible assumption) | refine bAlloc ?_ _ | refine below_drewN ?_ _ | refine Below.drew ?_ | (refine bSet ?_ (by first | (dsimp only; omega) | (simp; done) | (simp; omega)) _) | refine bTrans ?_ (by assumption)))⟩
theorem entries_no (mb : Nat) (s W N P : Int) (hr : rightv W N P = false) (w : World) : Calls Try.prog 85 #[tv (at0 mb) s W N P] w fun e w' => e = .returned (.int .i64 0) ∧ Below w.heap.size w w' := by
  have I1 := fun w => right_any mb s W N P w
  rw [hr] at I1
  have I1 := Lib.hid I1
  go_enter Try.func85, Try.ntmps85
  go_wp2_with fail
  with_reducible refine (I1.out _).mono ?_
  rintro e w1 ⟨rfl, b1⟩
  dsimp only
  go_wp2_with fail
  go_ret
  exact ⟨rfl, (by repeat (first | exact Below.refl _ _ | (with_reducible assumption) | refine bAlloc ?_ _ | refine below_drewN ?_ _ | refine Below.drew ?_ | (refine bSet ?_ (by first | (dsimp only; omega) | (simp; done) | (simp; omega)) _) | refine bTrans ?_ (by assumption)))⟩
/-- a table that may be, on an open space -/
structure TT (L : List Spc) (k W N P : Nat) : Prop where
  w2 : 2 ≤ W
  w64 : W ≤ 64
  n : N < W
  p : P < W
  np : N ≠ P
  hk : k < L.length
  ho : (L.getD k (false, [])).1 = true
theorem TT.right {L : List Spc} {k W N P : Nat} (t : TT L k W N P) : rightv (W : Int) (N : Int) (P : Int) = true := by
  obtain ⟨h1, h2, h3, h4, h5, _, _⟩ := t
  exact rightv_iff.2 ⟨by omega, by omega, by omega, by omega, by omega, by omega, by omega⟩
/-- how many entries a space has -/
def ent (W n : Nat) : Nat := n / W
theorem ent_le {W n : Nat} (hW : 2 ≤ W) (hn : n ≤ 4194304) : ent W n ≤ 2097152 := by
  unfold ent
  have := Nat.div_le_div_left (a := n) hW (by omega)
  omega
theorem quo_ent (n W : Nat) : ((n : Nat) : Int).tdiv ((W : Nat) : Int) = ((ent W n : Nat) : Int) := by unfold ent; exact (Int.ofNat_tdiv n W).symm
theorem wrap_small {x : Nat} (h : x ≤ 1000000000000) : wrap64 ((x : Nat) : Int) = (x : Int) := by unfold wrap64; omega
attribute [irreducible] ent
theorem entries_ok (mb mm : Nat) (R : Nat → Nat) (L : List Spc) (a b : Nat) (h g : Int) (k W N P : Nat) (t : TT L k W N P) (w : World) (hm : MM w R mb mm L a b h g) : Calls Try.prog 85 #[tv (at0 mb) (k : Int) (W : Int) (N : Int) (P : Int)] w fun e w' => e = .returned (.int .i64 ((ent W (wds L k).length : Nat) : Int)) ∧ Below w.heap.size w w' := by
  have I1 := fun w => right_any mb (k : Int) (W : Int) (N : Int) (P : Int) w
  rw [t.right] at I1
  have I1 := Lib.hid I1
  have SZ := Lib.hid (fun w q => msize_ok mb mm R L a b h g w q k t.hk t.ho)
  have HM := Lib.hid hm
  have B0 := boxed5 w (at0 mb) (k : Int) (W : Int) (N : Int) (P : Int)
  have lw := hm.lens k t.hk
  have e1 := quo_ent (wds L k).length W
  have e2 := wrap_small (show ent W (wds L k).length ≤ 1000000000000 by have := ent_le t.w2 lw; omega)
  have w2 := t.w2
  have hW : ((W : Int) == 0) = false := by simp; omega
  clear hm t lw
  generalize (wds L k).length = n at *
  generalize ent W n = E at *
  go_enter Try.func85, Try.ntmps85
  go_wp2_with fail
  with_reducible refine (I1.out _).mono ?_
  rintro e w1 ⟨rfl, b1⟩
  dsimp only
  have B1 := B0.below b1
  obtain ⟨x0, x1, x2, x3, x4, xf, xl⟩ := tc_all B1
  go_wp2_with fail
  with_reducible refine (SZ.out _ ?_).mono ?_
  · exact (HM.out.below ((Below.refl _ _).alloc (Nat.le_refl _) _)).below b1
  rintro e w2 ⟨rfl, rfl⟩
  dsimp only
  go_wp2_with fail
  exact bodyPost_ret (v := .int .i64 (E : Int)) (by simp [results, Try.results85, go_sem, e2]) rfl ⟨rfl, (by repeat (first | exact Below.refl _ _ | (with_reducible assumption) | refine bAlloc ?_ _ | refine below_drewN ?_ _ | refine Below.drew ?_ | (refine bSet ?_ (by first | (dsimp only; omega) | (simp; done) | (simp; omega)) _) | refine bTrans ?_ (by assumption)))⟩
end Go.Proofs.Ytlaldnfaeoimfaa
