/-
  Package chain: isWord, Right, Entries, has, check, at. · Package chain: has, check, at, get, set. · Package chain: After, Push, Drop, Join on an open space.
-/
import Derived.Test.YtppmicepkjhfeaaGreatLibE
import Derived.LoopTactic
import Derived.Deep.QuietTactic
import Derived.BigQuiet
import Derived.WalkSmall
import Derived.Deep.RegionWith
import Derived.Deep.RegionHeld3
namespace Go.Proofs.YtppmicepkjhfeaaGreat
open Go.RowKit
set_option linter.unusedVariables false

/-- a table as the program has it -/
abbrev tv (m : Value) (s W N P : Int) : Value := .agg #[m, .int .i64 s, .int .i64 W, .int .i64 N, .int .i64 P]
/-- its cells -/
def tc (m : Value) (s W N P : Int) (j : Nat) : Value := if j = 0 then m else if j = 1 then .int .i64 s else if j = 2 then .int .i64 W else if j = 3 then .int .i64 N else .int .i64 P
theorem five {j : Nat} (h : j < 5) : j = 0 ∨ j = 1 ∨ j = 2 ∨ j = 3 ∨ j = 4 := by omega
theorem tc_new (m : Value) (s W N P : Int) (j : Nat) (hj : j < 5) : (#[m, Value.int .i64 s, .int .i64 W, .int .i64 N, .int .i64 P] : Array Value)[j]? = some (tc m s W N P j) := by
  rcases five hj with rfl | rfl | rfl | rfl | rfl <;> rfl
theorem tc_all {w : World} {g : Nat} {m : Value} {s W N P : Int} (r : Row w g 5 (tc m s W N P)) : w.cell? ⟨g, 0, none⟩ = some m ∧ w.cell? ⟨g, 1, none⟩ = some (.int .i64 s) ∧ w.cell? ⟨g, 2, none⟩ = some (.int .i64 W) ∧ w.cell? ⟨g, 3, none⟩ = some (.int .i64 N) ∧ w.cell? ⟨g, 4, none⟩ = some (.int .i64 P) ∧ (∀ j, w.frozen? ⟨g, j, none⟩ = false) ∧ g < w.heap.size :=
  ⟨r.cell 0 (by omega), r.cell 1 (by omega), r.cell 2 (by omega), r.cell 3 (by omega), r.cell 4 (by omega), r.free, r.lt⟩
/-- a chain as the program has it -/
abbrev cv (h t n : Int) : Value := .agg #[.int .i64 h, .int .i64 t, .int .i64 n]
def cc (h t n : Int) (j : Nat) : Value := if j = 0 then .int .i64 h else if j = 1 then .int .i64 t else .int .i64 n
theorem cc_new (h t n : Int) (j : Nat) (hj : j < 3) : (#[Value.int .i64 h, .int .i64 t, .int .i64 n] : Array Value)[j]? = some (cc h t n j) := by
  rcases (show j = 0 ∨ j = 1 ∨ j = 2 by omega) with rfl | rfl | rfl <;> rfl
theorem cc_all {w : World} {g : Nat} {h t n : Int} (r : Row w g 3 (cc h t n)) : w.cell? ⟨g, 0, none⟩ = some (.int .i64 h) ∧ w.cell? ⟨g, 1, none⟩ = some (.int .i64 t) ∧ w.cell? ⟨g, 2, none⟩ = some (.int .i64 n) ∧ (∀ j, w.frozen? ⟨g, j, none⟩ = false) ∧ g < w.heap.size :=
  ⟨r.cell 0 (by omega), r.cell 1 (by omega), r.cell 2 (by omega), r.free, r.lt⟩
attribute [irreducible] tc cc
/-- is it a word of an entry? -/
def isw (W x : Int) : Bool := decide (0 ≤ x ∧ x < W)
theorem isw_t {W x : Int} (h : 0 ≤ x) (k : x < W) : isw W x = true := by unfold isw; exact decide_eq_true ⟨h, k⟩
theorem isw_l {W x : Int} (h : ¬ 0 ≤ x) : isw W x = false := by unfold isw; exact decide_eq_false (fun q => h q.1)
theorem isw_h {W x : Int} (h : ¬ x < W) : isw W x = false := by unfold isw; exact decide_eq_false (fun q => h q.2)
theorem isw_iff {W x : Int} : isw W x = true ↔ 0 ≤ x ∧ x < W := by unfold isw; exact decide_eq_true_iff
attribute [irreducible] isw
theorem isword_any (m : Value) (s W N P x : Int) (w : World) : Calls Tryz.prog 135 #[tv m s W N P, .int .i64 x] w fun e w' => e = .returned (.bool (isw W x)) ∧ Below w.heap.size w w' := by
  by_cases h0 : 0 ≤ x
  · by_cases h1 : x < W
    · rw [isw_t h0 h1]
      go_enter Tryz.func135, Tryz.ntmps135
      go_wp2
      go_ret
      exact ⟨rfl, (by repeat (first | exact Below.refl _ _ | (with_reducible assumption) | refine bAlloc ?_ _ | refine below_drewN ?_ _ | refine Below.drew ?_ | (refine bSet ?_ (by first | (dsimp only; omega) | (simp; done) | (simp; omega)) _) | refine bTrans ?_ (by assumption)))⟩
    · rw [isw_h h1]
      have h1' : W ≤ x := by omega
      go_enter Tryz.func135, Tryz.ntmps135
      go_wp2
      go_ret
      exact ⟨rfl, (by repeat (first | exact Below.refl _ _ | (with_reducible assumption) | refine bAlloc ?_ _ | refine below_drewN ?_ _ | refine Below.drew ?_ | (refine bSet ?_ (by first | (dsimp only; omega) | (simp; done) | (simp; omega)) _) | refine bTrans ?_ (by assumption)))⟩
  · rw [isw_l h0]
    have h0' : x < 0 := by omega
    go_enter Tryz.func135, Tryz.ntmps135
    go_wp2
    go_ret
    exact ⟨rfl, (by repeat (first | exact Below.refl _ _ | (with_reducible assumption) | refine bAlloc ?_ _ | refine below_drewN ?_ _ | refine Below.drew ?_ | (refine bSet ?_ (by first | (dsimp only; omega) | (simp; done) | (simp; omega)) _) | refine bTrans ?_ (by assumption)))⟩

/-- may such a table be? -/
def rightv (W N P : Int) : Bool := decide (2 ≤ W ∧ W ≤ 64) && (isw W N && (isw W P && decide (N ≠ P)))
theorem rightv_iff {W N P : Int} : rightv W N P = true ↔ 2 ≤ W ∧ W ≤ 64 ∧ 0 ≤ N ∧ N < W ∧ 0 ≤ P ∧ P < W ∧ N ≠ P := by
  unfold rightv
  simp only [Bool.and_eq_true, decide_eq_true_eq, isw_iff]
  constructor
  · rintro ⟨⟨a, b⟩, ⟨c, d⟩, ⟨e, f⟩, g⟩; exact ⟨a, b, c, d, e, f, g⟩
  · rintro ⟨a, b, c, d, e, f, g⟩; exact ⟨⟨a, b⟩, ⟨c, d⟩, ⟨e, f⟩, g⟩
attribute [irreducible] rightv
theorem rightv_f {W N P : Int} (h : ¬ (2 ≤ W ∧ W ≤ 64 ∧ 0 ≤ N ∧ N < W ∧ 0 ≤ P ∧ P < W ∧ N ≠ P)) : rightv W N P = false := by
  cases q : rightv W N P
  · rfl
  · exact absurd (rightv_iff.1 q) h

theorem right_nil (s W N P : Int) (w : World) : Calls Tryz.prog 126 #[tv (.pointer none) s W N P] w fun e w' => e = .returned (.bool false) ∧ Below w.heap.size w w' := by
  go_enter Tryz.func126, Tryz.ntmps126
  go_wp2_with fail
  go_ret
  exact ⟨rfl, (by repeat (first | exact Below.refl _ _ | (with_reducible assumption) | refine bAlloc ?_ _ | refine below_drewN ?_ _ | refine Below.drew ?_ | (refine bSet ?_ (by first | (dsimp only; omega) | (simp; done) | (simp; omega)) _) | refine bTrans ?_ (by assumption)))⟩
theorem ptr_neq_nil (a : Addr) (w : World) : (binOp .neq 61 (.pointer (some a)) (.pointer none)).run Tryz.prog w = .ok (.bool true) w := by kernel_rfl
theorem ptr_eql_nil (a : Addr) (w : World) : (binOp .eql 61 (.pointer (some a)) (.pointer none)).run Tryz.prog w = .ok (.bool false) w := by kernel_rfl

theorem boxed5 (w : World) (m : Value) (s W N P : Int) : Row (w.alloc (.cells #[m, .int .i64 s, .int .i64 W, .int .i64 N, .int .i64 P] 126)) w.heap.size 5 (tc m s W N P) := Row.newAt w _ _ w.heap.size 5 _ rfl (tc_new m s W N P)
set_option maxRecDepth 100000 in
theorem right_any (mb : Nat) (s W N P : Int) (w : World) : Calls Tryz.prog 126 #[tv (at0 mb) s W N P] w fun e w' => e = .returned (.bool (rightv W N P)) ∧ Below w.heap.size w w' := by
  have I1 := Lib.hid (fun w => isword_any (at0 mb) s W N P N w)
  have I2 := Lib.hid (fun w => isword_any (at0 mb) s W N P P w)
  have q0 := fun w a => ptr_neq_nil a w
  have B0 := boxed5 w (at0 mb) s W N P
  by_cases c1 : 2 ≤ W
  · by_cases c2 : W ≤ 64
    · by_cases c3 : isw W N = true
      · by_cases c4 : isw W P = true
        · rw [c3] at I1
          rw [c4] at I2
          obtain ⟨d1, d2⟩ := isw_iff.1 c3
          obtain ⟨d3, d4⟩ := isw_iff.1 c4
          have e0 : rightv W N P = (N != P) := by
            by_cases e : N = P
            · rw [rightv_f (fun q => q.2.2.2.2.2.2 e)]; simp [e]
            · rw [rightv_iff.2 ⟨c1, c2, d1, d2, d3, d4, e⟩]; simp [e]
          rw [e0]
          clear e0 c3 c4 d1 d2 d3 d4
          go_enter Tryz.func126, Tryz.ntmps126
          go_wp2_with fail
          with_reducible refine (I1.out _).mono ?_
          rintro e w1 ⟨rfl, b1⟩
          dsimp only
          have B1 := B0.below b1
          obtain ⟨x0, x1, x2, x3, x4, xf, xl⟩ := tc_all B1
          go_wp2_with fail
          with_reducible refine (I2.out _).mono ?_
          rintro e w2 ⟨rfl, b2⟩
          dsimp only
          have B2 := B1.below b2
          clear x0 x1 x2 x3 x4 xf xl
          obtain ⟨x0, x1, x2, x3, x4, xf, xl⟩ := tc_all B2
          go_wp2_with fail
          go_ret
          exact ⟨rfl, (by repeat (first | exact Below.refl _ _ | (with_reducible assumption) | refine bAlloc ?_ _ | refine below_drewN ?_ _ | refine Below.drew ?_ | (refine bSet ?_ (by first | (dsimp only; omega) | (simp; done) | (simp; omega)) _) | refine bTrans ?_ (by assumption)))⟩
        · rw [rightv_f (fun q => c4 (isw_iff.2 ⟨q.2.2.2.2.1, q.2.2.2.2.2.1⟩))]
          rw [c3] at I1
          rw [Bool.eq_false_iff.2 c4] at I2
          clear c3 c4
          go_enter Tryz.func126, Tryz.ntmps126
          go_wp2_with fail
          with_reducible refine (I1.out _).mono ?_
          rintro e w1 ⟨rfl, b1⟩
          dsimp only
          have B1 := B0.below b1
          obtain ⟨x0, x1, x2, x3, x4, xf, xl⟩ := tc_all B1
          go_wp2_with fail
          with_reducible refine (I2.out _).mono ?_
          rintro e w2 ⟨rfl, b2⟩
          dsimp only
          go_wp2_with fail
          go_ret
          exact ⟨rfl, (by repeat (first | exact Below.refl _ _ | (with_reducible assumption) | refine bAlloc ?_ _ | refine below_drewN ?_ _ | refine Below.drew ?_ | (refine bSet ?_ (by first | (dsimp only; omega) | (simp; done) | (simp; omega)) _) | refine bTrans ?_ (by assumption)))⟩
      · rw [rightv_f (fun q => c3 (isw_iff.2 ⟨q.2.2.1, q.2.2.2.1⟩))]
        rw [Bool.eq_false_iff.2 c3] at I1
        clear c3
        go_enter Tryz.func126, Tryz.ntmps126
        go_wp2_with fail
        with_reducible refine (I1.out _).mono ?_
        rintro e w1 ⟨rfl, b1⟩
        dsimp only
        go_wp2_with fail
        go_ret
        exact ⟨rfl, (by repeat (first | exact Below.refl _ _ | (with_reducible assumption) | refine bAlloc ?_ _ | refine below_drewN ?_ _ | refine Below.drew ?_ | (refine bSet ?_ (by first | (dsimp only; omega) | (simp; done) | (simp; omega)) _) | refine bTrans ?_ (by assumption)))⟩
    · rw [rightv_f (fun q => c2 q.2.1)]
      have c2' : 64 < W := by omega
      go_enter Tryz.func126, Tryz.ntmps126
      go_wp2_with fail
      go_ret
      exact ⟨rfl, (by repeat (first | exact Below.refl _ _ | (with_reducible assumption) | refine bAlloc ?_ _ | refine below_drewN ?_ _ | refine Below.drew ?_ | (refine bSet ?_ (by first | (dsimp only; omega) | (simp; done) | (simp; omega)) _) | refine bTrans ?_ (by assumption)))⟩
  · rw [rightv_f (fun q => c1 q.1)]
    have c1' : W < 2 := by omega
    go_enter Tryz.func126, Tryz.ntmps126
    go_wp2_with fail
    go_ret
    exact ⟨rfl, (by repeat (first | exact Below.refl _ _ | (with_reducible assumption) | refine bAlloc ?_ _ | refine below_drewN ?_ _ | refine Below.drew ?_ | (refine bSet ?_ (by first | (dsimp only; omega) | (simp; done) | (simp; omega)) _) | refine bTrans ?_ (by assumption)))⟩

/-! ### how many entries -/
theorem entries_nil (s W N P : Int) (w : World) : Calls Tryz.prog 132 #[tv (.pointer none) s W N P] w fun e w' => e = .returned (.int .i64 0) ∧ Below w.heap.size w w' := by
  have I1 := Lib.hid (fun w => right_nil s W N P w)
  go_enter Tryz.func132, Tryz.ntmps132
  go_wp2_with fail
  with_reducible refine (I1.out _).mono ?_
  rintro e w1 ⟨rfl, b1⟩
  dsimp only
  go_wp2_with fail
  go_ret
  exact ⟨rfl, (by repeat (first | exact Below.refl _ _ | (with_reducible assumption) | refine bAlloc ?_ _ | refine below_drewN ?_ _ | refine Below.drew ?_ | (refine bSet ?_ (by first | (dsimp only; omega) | (simp; done) | (simp; omega)) _) | refine bTrans ?_ (by assumption)))⟩
theorem entries_no (mb : Nat) (s W N P : Int) (hr : rightv W N P = false) (w : World) : Calls Tryz.prog 132 #[tv (at0 mb) s W N P] w fun e w' => e = .returned (.int .i64 0) ∧ Below w.heap.size w w' := by
  have I1 := fun w => right_any mb s W N P w
  rw [hr] at I1
  have I1 := Lib.hid I1
  go_enter Tryz.func132, Tryz.ntmps132
  go_wp2_with fail
  with_reducible refine (I1.out _).mono ?_
  rintro e w1 ⟨rfl, b1⟩
  dsimp only
  go_wp2_with fail
  go_ret
  exact ⟨rfl, (by repeat (first | exact Below.refl _ _ | (with_reducible assumption) | refine bAlloc ?_ _ | refine below_drewN ?_ _ | refine Below.drew ?_ | (refine bSet ?_ (by first | (dsimp only; omega) | (simp; done) | (simp; omega)) _) | refine bTrans ?_ (by assumption)))⟩
/-- a table that may be, on an open space -/
structure TT (L : List Spc) (k W N P : Nat) : Prop where
  w2 : 2 ≤ W
  w64 : W ≤ 64
  n : N < W
  p : P < W
  np : N ≠ P
  hk : k < L.length
  ho : (L.getD k (false, [])).1 = true
theorem TT.right {L : List Spc} {k W N P : Nat} (t : TT L k W N P) : rightv (W : Int) (N : Int) (P : Int) = true := by
  obtain ⟨h1, h2, h3, h4, h5, _, _⟩ := t
  exact rightv_iff.2 ⟨by omega, by omega, by omega, by omega, by omega, by omega, by omega⟩
/-- how many entries a space has -/
def ent (W n : Nat) : Nat := n / W
theorem ent_le {W n : Nat} (hW : 2 ≤ W) (hn : n ≤ 4194304) : ent W n ≤ 2097152 := by
  unfold ent
  have := Nat.div_le_div_left (a := n) hW (by omega)
  omega
theorem quo_ent (n W : Nat) : ((n : Nat) : Int).tdiv ((W : Nat) : Int) = ((ent W n : Nat) : Int) := by unfold ent; exact (Int.ofNat_tdiv n W).symm
theorem wrap_small {x : Nat} (h : x ≤ 1000000000000) : wrap64 ((x : Nat) : Int) = (x : Int) := by unfold wrap64; omega
attribute [irreducible] ent
theorem entries_ok (mb mm : Nat) (R : Nat → Nat) (L : List Spc) (a b : Nat) (h g : Int) (k W N P : Nat) (t : TT L k W N P) (w : World) (hm : MM w R mb mm L a b h g) : Calls Tryz.prog 132 #[tv (at0 mb) (k : Int) (W : Int) (N : Int) (P : Int)] w fun e w' => e = .returned (.int .i64 ((ent W (wds L k).length : Nat) : Int)) ∧ Below w.heap.size w w' := by
  have I1 := fun w => right_any mb (k : Int) (W : Int) (N : Int) (P : Int) w
  rw [t.right] at I1
  have I1 := Lib.hid I1
  have SZ := Lib.hid (fun w q => msize_ok mb mm R L a b h g w q k t.hk t.ho)
  have HM := Lib.hid hm
  have B0 := boxed5 w (at0 mb) (k : Int) (W : Int) (N : Int) (P : Int)
  have lw := hm.lens k t.hk
  have e1 := quo_ent (wds L k).length W
  have e2 := wrap_small (show ent W (wds L k).length ≤ 1000000000000 by have := ent_le t.w2 lw; omega)
  have w2 := t.w2
  have hW : ((W : Int) == 0) = false := by simp; omega
  clear hm t lw
  generalize (wds L k).length = n at *
  generalize ent W n = E at *
  go_enter Tryz.func132, Tryz.ntmps132
  go_wp2_with fail
  with_reducible refine (I1.out _).mono ?_
  rintro e w1 ⟨rfl, b1⟩
  dsimp only
  have B1 := B0.below b1
  obtain ⟨x0, x1, x2, x3, x4, xf, xl⟩ := tc_all B1
  go_wp2_with fail
  with_reducible refine (SZ.out _ ?_).mono ?_
  · exact (HM.out.below ((Below.refl _ _).alloc (Nat.le_refl _) _)).below b1
  rintro e w2 ⟨rfl, rfl⟩
  dsimp only
  go_wp2_with fail
  exact bodyPost_ret (v := .int .i64 (E : Int)) (by simp [results, Tryz.results132, go_sem, e2]) rfl ⟨rfl, (by repeat (first | exact Below.refl _ _ | (with_reducible assumption) | refine bAlloc ?_ _ | refine below_drewN ?_ _ | refine Below.drew ?_ | (refine bSet ?_ (by first | (dsimp only; omega) | (simp; done) | (simp; omega)) _) | refine bTrans ?_ (by assumption)))⟩
end Go.Proofs.YtppmicepkjhfeaaGreat

namespace Go.Proofs.YtppmicepkjhfeaaGreat
open Go.RowKit
set_option linter.unusedVariables false

/-- is there an entry id? -/
def hase (E : Nat) (id : Int) : Bool := decide (1 ≤ id ∧ id ≤ (E : Int))
theorem hase_t {E : Nat} {id : Int} (h : 1 ≤ id) (k : id ≤ E) : hase E id = true := by unfold hase; exact decide_eq_true ⟨h, k⟩
theorem hase_f {E : Nat} {id : Int} (h : ¬ (1 ≤ id ∧ id ≤ (E : Int))) : hase E id = false := by unfold hase; exact decide_eq_false h
theorem hase_iff {E : Nat} {id : Int} : hase E id = true ↔ 1 ≤ id ∧ id ≤ (E : Int) := by unfold hase; exact decide_eq_true_iff
attribute [irreducible] hase
section
variable (mb mm : Nat) (R : Nat → Nat) (L : List Spc) (a b : Nat) (h g : Int) (k W N P : Nat) (t : TT L k W N P)
include t
theorem has_ok (id : Int) (w : World) (hm : MM w R mb mm L a b h g) : Calls Tryz.prog 127 #[tv (at0 mb) (k : Int) (W : Int) (N : Int) (P : Int), .int .i64 id] w fun e w' => e = .returned (.bool (hase (ent W (wds L k).length) id)) ∧ Below w.heap.size w w' := by
  have EN := Lib.hid (fun w q => entries_ok mb mm R L a b h g k W N P t w q)
  have HM := Lib.hid hm
  clear hm t
  generalize ent W (wds L k).length = E at *
  by_cases h1 : 1 ≤ id
  · by_cases h2 : id ≤ (E : Int)
    · rw [hase_t h1 h2]
      go_enter Tryz.func127, Tryz.ntmps127
      go_wp2_with fail
      with_reducible refine (EN.out _ (HM.out.alloc _)).mono ?_
      rintro e w1 ⟨rfl, b1⟩
      dsimp only
      go_wp2_with fail
      go_ret
      exact ⟨rfl, (by repeat (first | exact Below.refl _ _ | (with_reducible assumption) | refine bAlloc ?_ _ | refine below_drewN ?_ _ | refine Below.drew ?_ | (refine bSet ?_ (by first | (dsimp only; omega) | (simp; done) | (simp; omega)) _) | refine bTrans ?_ (by assumption)))⟩
    · rw [hase_f (fun q => h2 q.2)]
      have h2' : decide (id ≤ (E : Int)) = false := decide_eq_false h2
      clear h2
      go_enter Tryz.func127, Tryz.ntmps127
      go_wp2_with fail
      with_reducible refine (EN.out _ (HM.out.alloc _)).mono ?_
      rintro e w1 ⟨rfl, b1⟩
      dsimp only
      go_wp2_with fail
      go_ret
      exact ⟨rfl, (by repeat (first | exact Below.refl _ _ | (with_reducible assumption) | refine bAlloc ?_ _ | refine below_drewN ?_ _ | refine Below.drew ?_ | (refine bSet ?_ (by first | (dsimp only; omega) | (simp; done) | (simp; omega)) _) | refine bTrans ?_ (by assumption)))⟩
  · rw [hase_f (fun q => h1 q.1)]
    have h1' : id < 1 := by omega
    clear h1
    go_enter Tryz.func127, Tryz.ntmps127
    go_wp2_with fail
    go_ret
    exact ⟨rfl, (by repeat (first | exact Below.refl _ _ | (with_reducible assumption) | refine bAlloc ?_ _ | refine below_drewN ?_ _ | refine Below.drew ?_ | (refine bSet ?_ (by first | (dsimp only; omega) | (simp; done) | (simp; omega)) _) | refine bTrans ?_ (by assumption)))⟩
theorem check_ok (id : Int) (w : World) (hm : MM w R mb mm L a b h g) : Calls Tryz.prog 105 #[tv (at0 mb) (k : Int) (W : Int) (N : Int) (P : Int), .int .i64 id] w fun e w' => e = .returned (.int .i64 (if hase (ent W (wds L k).length) id = true then 0 else 2)) ∧ Below w.heap.size w w' := by
  have I1 := fun w => right_any mb (k : Int) (W : Int) (N : Int) (P : Int) w
  rw [t.right] at I1
  have RT := Lib.hid I1
  have EN0 := fun w q => has_ok mb mm R L a b h g k W N P t id w q
  have HM := Lib.hid hm
  have B0 := boxed5 w (at0 mb) (k : Int) (W : Int) (N : Int) (P : Int)
  clear hm t I1
  cases q : hase (ent W (wds L k).length) id
  · rw [q] at EN0
    have EN := Lib.hid EN0
    clear EN0 q
    rw [if_neg (by simp)]
    go_enter Tryz.func105, Tryz.ntmps105
    go_wp2_with fail
    with_reducible refine (RT.out _).mono ?_
    rintro e w1 ⟨rfl, b1⟩
    dsimp only
    have B1 := B0.below b1
    obtain ⟨x0, x1, x2, x3, x4, xf, xl⟩ := tc_all B1
    go_wp2_with fail
    with_reducible refine (EN.out _ ((HM.out.alloc _).below b1)).mono ?_
    rintro e w2 ⟨rfl, b2⟩
    dsimp only
    go_wp2_with fail
    go_ret
    exact ⟨rfl, (by repeat (first | exact Below.refl _ _ | (with_reducible assumption) | refine bAlloc ?_ _ | refine below_drewN ?_ _ | refine Below.drew ?_ | (refine bSet ?_ (by first | (dsimp only; omega) | (simp; done) | (simp; omega)) _) | refine bTrans ?_ (by assumption)))⟩
  · rw [q] at EN0
    have EN := Lib.hid EN0
    clear EN0 q
    rw [if_pos rfl]
    go_enter Tryz.func105, Tryz.ntmps105
    go_wp2_with fail
    with_reducible refine (RT.out _).mono ?_
    rintro e w1 ⟨rfl, b1⟩
    dsimp only
    have B1 := B0.below b1
    obtain ⟨x0, x1, x2, x3, x4, xf, xl⟩ := tc_all B1
    go_wp2_with fail
    with_reducible refine (EN.out _ ((HM.out.alloc _).below b1)).mono ?_
    rintro e w2 ⟨rfl, b2⟩
    dsimp only
    go_wp2_with fail
    go_ret
    exact ⟨rfl, (by repeat (first | exact Below.refl _ _ | (with_reducible assumption) | refine bAlloc ?_ _ | refine below_drewN ?_ _ | refine Below.drew ?_ | (refine bSet ?_ (by first | (dsimp only; omega) | (simp; done) | (simp; omega)) _) | refine bTrans ?_ (by assumption)))⟩
end
theorem check_no (mb : Nat) (s W N P : Int) (hr : rightv W N P = false) (id : Int) (w : World) : Calls Tryz.prog 105 #[tv (at0 mb) s W N P, .int .i64 id] w fun e w' => e = .returned (.int .i64 1) ∧ Below w.heap.size w w' := by
  have I1 := fun w => right_any mb s W N P w
  rw [hr] at I1
  have RT := Lib.hid I1
  clear I1
  go_enter Tryz.func105, Tryz.ntmps105
  go_wp2_with fail
  with_reducible refine (RT.out _).mono ?_
  rintro e w1 ⟨rfl, b1⟩
  dsimp only
  go_wp2_with fail
  go_ret
  exact ⟨rfl, (by repeat (first | exact Below.refl _ _ | (with_reducible assumption) | refine bAlloc ?_ _ | refine below_drewN ?_ _ | refine Below.drew ?_ | (refine bSet ?_ (by first | (dsimp only; omega) | (simp; done) | (simp; omega)) _) | refine bTrans ?_ (by assumption)))⟩

/-- where a word of an entry lies -/
def lk (W id n : Nat) : Nat := (id - 1) * W + n
theorem lk_lt {W id n len : Nat} (h1 : 1 ≤ id) (h2 : id ≤ ent W len) (hn : n < W) : lk W id n < len := by
  unfold lk ent at *
  have hle : id * W ≤ len := by
    have := Nat.mul_le_mul_right W h2
    exact Nat.le_trans this (Nat.div_mul_le_self len W)
  obtain ⟨j, rfl⟩ : ∃ j, id = j + 1 := ⟨id - 1, by omega⟩
  rw [Nat.add_mul] at hle
  rw [Nat.add_sub_cancel]
  omega
theorem lk_eq {W i j n m : Nat} (hi : 1 ≤ i) (hj : 1 ≤ j) (hn : n < W) (hm : m < W) (h : lk W i n = lk W j m) : i = j ∧ n = m := by
  unfold lk at h
  have e1 : ((i - 1) * W + n) % W = n := by rw [Nat.add_comm, Nat.add_mul_mod_self_right]; exact Nat.mod_eq_of_lt hn
  have e2 : ((j - 1) * W + m) % W = m := by rw [Nat.add_comm, Nat.add_mul_mod_self_right]; exact Nat.mod_eq_of_lt hm
  have d1 : ((i - 1) * W + n) / W = i - 1 := by rw [Nat.add_comm, Nat.add_mul_div_right _ _ (by omega), Nat.div_eq_of_lt hn]; omega
  have d2 : ((j - 1) * W + m) / W = j - 1 := by rw [Nat.add_comm, Nat.add_mul_div_right _ _ (by omega), Nat.div_eq_of_lt hm]; omega
  rw [h] at e1 d1
  exact ⟨by omega, by omega⟩
theorem lk_mod {W i n : Nat} (hn : n < W) : lk W i n % W = n := by unfold lk; rw [Nat.add_comm, Nat.add_mul_mod_self_right]; exact Nat.mod_eq_of_lt hn
theorem lk_int {W id n : Nat} (h1 : 1 ≤ id) : ((id : Int) - 1) * (W : Int) + (n : Int) = ((lk W id n : Nat) : Int) := by
  unfold lk
  obtain ⟨j, rfl⟩ : ∃ j, id = j + 1 := ⟨id - 1, by omega⟩
  rw [Nat.add_sub_cancel]
  simp
theorem lk_part {W id n : Nat} (h1 : 1 ≤ id) : ((id : Int) - 1) * (W : Int) = (((id - 1) * W : Nat) : Int) := by
  obtain ⟨j, rfl⟩ : ∃ j, id = j + 1 := ⟨id - 1, by omega⟩
  rw [Nat.add_sub_cancel]
  simp
attribute [irreducible] lk
theorem at_any (m : Value) (s : Int) (W : Nat) (N P : Int) (id n : Nat) (h1 : 1 ≤ id) (h2 : id ≤ 4194304) (hW : W ≤ 64) (hn : n ≤ 64) (w : World) : Calls Tryz.prog 128 #[tv m s (W : Int) N P, .int .i64 (id : Int), .int .i64 (n : Int)] w fun e w' => e = .returned (.int .i64 ((lk W id n : Nat) : Int)) ∧ Below w.heap.size w w' := by
  have hm : (id - 1) * W ≤ 4194304 * 64 := Nat.mul_le_mul (by omega) hW
  have e3 : wrap64 ((lk W id n : Nat) : Int) = (lk W id n : Nat) := wrap_small (by unfold lk; omega)
  have e1 := lk_part (W := W) (n := n) h1
  have e2 : (((id - 1) * W : Nat) : Int) + (n : Int) = ((lk W id n : Nat) : Int) := by unfold lk; omega
  have e4 : wrap64 (((id - 1) * W : Nat) : Int) = (((id - 1) * W : Nat) : Int) := wrap_small (by omega)
  have e5 : wrap64 ((id : Int) - 1) = (id : Int) - 1 := by unfold wrap64; omega
  clear hm
  generalize (id - 1) * W = y at *
  generalize lk W id n = z at *
  go_enter Tryz.func128, Tryz.ntmps128
  go_wp2_with fail
  exact bodyPost_ret (v := .int .i64 (z : Int)) (by simp [results, Tryz.results128, go_sem, e3, e4]) rfl ⟨rfl, (by repeat (first | exact Below.refl _ _ | (with_reducible assumption) | refine bAlloc ?_ _ | refine below_drewN ?_ _ | refine Below.drew ?_ | (refine bSet ?_ (by first | (dsimp only; omega) | (simp; done) | (simp; omega)) _) | refine bTrans ?_ (by assumption)))⟩

section
variable (mb mm : Nat) (R : Nat → Nat) (L : List Spc) (a b : Nat) (h g : Int) (k W N P : Nat) (t : TT L k W N P)
include t
theorem TT.hw {w : World} (hm : MM w R mb mm L a b h g) {id : Nat} (h2 : id ≤ ent W (wds L k).length) : id ≤ 2097152 := Nat.le_trans h2 (ent_le t.w2 (hm.lens k t.hk))
set_option maxRecDepth 100000 in
set_option maxHeartbeats 1000000 in
theorem get_ok (id n : Nat) (h1 : 1 ≤ id) (h2 : id ≤ ent W (wds L k).length) (hn : n < W) (hv : (wds L k).getD (lk W id n) 0 ≤ 4194304) (w : World) (hm : MM w R mb mm L a b h g) : Calls Tryz.prog 109 #[tv (at0 mb) (k : Int) (W : Int) (N : Int) (P : Int), .int .i64 (id : Int), .int .i64 (n : Int)] w fun e w' => e = .returned (.int .i64 (((wds L k).getD (lk W id n) 0 : Nat) : Int)) ∧ MM w' R mb mm L (addv a 1) b h g ∧ TR R R w w' := by
  have AT := Lib.hid (fun w => at_any (at0 mb) (k : Int) W (N : Int) (P : Int) id n h1 (by have := t.hw mb mm R L a b h g k W N P hm h2; omega) t.w64 (by have := t.w64; omega) w)
  have RD := Lib.hid (fun w q => read_at mb mm R L a b h g w q k (lk W id n) t.hk t.ho (lk_lt h1 h2 hn))
  have HM := Lib.hid (hm.alloc (.cells #[at0 mb, .int .i64 (k : Int), .int .i64 (W : Int), .int .i64 (N : Int), .int .i64 (P : Int)] 126))
  have HI := Lib.hid hm.hi
  have B0 := boxed5 w (at0 mb) (k : Int) (W : Int) (N : Int) (P : Int)
  have ew : wrap64 (((wds L k).getD (lk W id n) 0 : Nat) : Int) = (((wds L k).getD (lk W id n) 0 : Nat) : Int) := wrap_small (by omega)
  clear hm t h1 h2 hn hv
  generalize (wds L k).getD (lk W id n) 0 = x at *
  generalize lk W id n = z at *
  have T0 : TR R R w (w.alloc (.cells #[at0 mb, .int .i64 (k : Int), .int .i64 (W : Int), .int .i64 (N : Int), .int .i64 (P : Int)] 126)) := (TR.refl R w).alloc _
  go_enter Tryz.func109, Tryz.ntmps109
  go_upto_region 1 with fail
  generalize w.alloc (.cells #[at0 mb, .int .i64 (k : Int), .int .i64 (W : Int), .int .i64 (N : Int), .int .i64 (P : Int)] 126) = w0 at *
  have KP := Lib.hid (show ∀ w', TR R R w0 w' → w'.cell? ⟨w.heap.size, 0, none⟩ = some (at0 mb) ∧ w'.cell? ⟨w.heap.size, 1, none⟩ = some (.int .i64 (k : Int)) ∧ w'.cell? ⟨w.heap.size, 2, none⟩ = some (.int .i64 (W : Int)) ∧ w'.cell? ⟨w.heap.size, 3, none⟩ = some (.int .i64 (N : Int)) ∧ w'.cell? ⟨w.heap.size, 4, none⟩ = some (.int .i64 (P : Int)) from fun w' q => by
    obtain ⟨x0, x1, x2, x3, x4, _, _⟩ := tc_all (B0.tr q (by have := HI.out w.heap.size; omega))
    exact ⟨x0, x1, x2, x3, x4⟩)
  have TT0 : TR R R w0 w0 := TR.refl R w0
  have BB0 : Below w0.heap.size w0 w0 := Below.refl _ _
  obtain ⟨x0, x1, x2, x3, x4, xf, xl⟩ := tc_all B0
  clear B0
  go_region_held3 (fun w' => w'.cell? ⟨w.heap.size, 0, none⟩ = some (at0 mb) ∧ w'.cell? ⟨w.heap.size, 1, none⟩ = some (.int .i64 (k : Int)) ∧ w'.cell? ⟨w.heap.size, 2, none⟩ = some (.int .i64 (W : Int)) ∧ w'.cell? ⟨w.heap.size, 3, none⟩ = some (.int .i64 (N : Int)) ∧ w'.cell? ⟨w.heap.size, 4, none⟩ = some (.int .i64 (P : Int)))
      (first | (refine KP.out _ ?_; repeat (first | with_reducible assumption | with_reducible refine TR.drew ?_)))
      (first
        | (go_at_call 128; with_reducible refine (AT.out _).mono ?_
           rintro e w1 ⟨rfl, b1⟩
           have BB1 : Below w0.heap.size w0 w1 := bTrans (by repeat (first | with_reducible assumption | with_reducible refine Below.drew ?_)) b1
           have TT1 : TR R R w0 w1 := TR.of BB1)
        | (go_at_call 67; with_reducible refine (RD.out _ ?_).mono ?_
           · refine HM.out.below ?_
             repeat (first | with_reducible assumption | with_reducible refine Below.drew ?_)
           rintro e w2 ⟨rfl, M2, T2⟩
           have TT2 : TR R R w0 w2 := TR.trans (by repeat (first | with_reducible assumption | with_reducible refine TR.drew ?_)) T2))
  all_goals
    go_wp2_with fail
    exact bodyPost_ret (v := .int .i64 (x : Int)) (by simp [results, Tryz.results109, go_sem, ew]) rfl ⟨rfl, M2, T0.trans TT2⟩
set_option maxRecDepth 100000 in
set_option maxHeartbeats 1000000 in
theorem set_ok (id n x : Nat) (h1 : 1 ≤ id) (h2 : id ≤ ent W (wds L k).length) (hn : n < W) (hx : x ≤ 4194304) (w : World) (hm : MM w R mb mm L a b h g) : Calls Tryz.prog 106 #[tv (at0 mb) (k : Int) (W : Int) (N : Int) (P : Int), .int .i64 (id : Int), .int .i64 (n : Int), .int .i64 (x : Int)] w fun e w' => e = .returned (.tuple #[]) ∧ MM w' R mb mm (setw L k ((wds L k).set (lk W id n) x)) a (addv b 1) h g ∧ TR R R w w' := by
  have HS0 := fun w q => has_ok mb mm R L a b h g k W N P t (id : Int) w q
  rw [hase_t (by omega) (by omega)] at HS0
  have HS := Lib.hid HS0
  have AT := Lib.hid (fun w => at_any (at0 mb) (k : Int) W (N : Int) (P : Int) id n h1 (by have := t.hw mb mm R L a b h g k W N P hm h2; omega) t.w64 (by have := t.w64; omega) w)
  have WT := Lib.hid (fun w q => write_at mb mm R L a b h g w q k (lk W id n) x t.hk t.ho (lk_lt h1 h2 hn))
  have HM := Lib.hid (hm.alloc (.cells #[at0 mb, .int .i64 (k : Int), .int .i64 (W : Int), .int .i64 (N : Int), .int .i64 (P : Int)] 126))
  have HI := Lib.hid hm.hi
  have B0 := boxed5 w (at0 mb) (k : Int) (W : Int) (N : Int) (P : Int)
  have ew : IntKind.u64.wrap (x : Int) = (x : Int) := by rw [IntKind.wrap_u64]; omega
  clear hm t h1 h2 hn HS0 hx
  generalize (wds L k).set (lk W id n) x = ws at *
  generalize lk W id n = z at *
  have T0 : TR R R w (w.alloc (.cells #[at0 mb, .int .i64 (k : Int), .int .i64 (W : Int), .int .i64 (N : Int), .int .i64 (P : Int)] 126)) := (TR.refl R w).alloc _
  go_enter Tryz.func106, Tryz.ntmps106
  go_wp2_with fail
  generalize w.alloc (.cells #[at0 mb, .int .i64 (k : Int), .int .i64 (W : Int), .int .i64 (N : Int), .int .i64 (P : Int)] 126) = w0 at *
  with_reducible refine (HS.out _ HM.out).mono ?_
  rintro e wa ⟨rfl, ba⟩
  dsimp only
  have KP := Lib.hid (show ∀ w', TR R R w0 w' → w'.cell? ⟨w.heap.size, 0, none⟩ = some (at0 mb) ∧ w'.cell? ⟨w.heap.size, 1, none⟩ = some (.int .i64 (k : Int)) ∧ w'.cell? ⟨w.heap.size, 2, none⟩ = some (.int .i64 (W : Int)) ∧ w'.cell? ⟨w.heap.size, 3, none⟩ = some (.int .i64 (N : Int)) ∧ w'.cell? ⟨w.heap.size, 4, none⟩ = some (.int .i64 (P : Int)) from fun w' q => by
    obtain ⟨x0, x1, x2, x3, x4, _, _⟩ := tc_all (B0.tr q (by have := HI.out w.heap.size; omega))
    exact ⟨x0, x1, x2, x3, x4⟩)
  have BB0 : Below w0.heap.size w0 wa := ba
  have TT0 : TR R R w0 wa := TR.of ba
  obtain ⟨x0, x1, x2, x3, x4, xf, xl⟩ := tc_all (B0.below ba)
  clear B0
  go_upto_region 2 with fail
  go_region_held3 (fun w' => w'.cell? ⟨w.heap.size, 0, none⟩ = some (at0 mb) ∧ w'.cell? ⟨w.heap.size, 1, none⟩ = some (.int .i64 (k : Int)) ∧ w'.cell? ⟨w.heap.size, 2, none⟩ = some (.int .i64 (W : Int)) ∧ w'.cell? ⟨w.heap.size, 3, none⟩ = some (.int .i64 (N : Int)) ∧ w'.cell? ⟨w.heap.size, 4, none⟩ = some (.int .i64 (P : Int)))
      (first | (refine KP.out _ ?_; repeat (first | with_reducible assumption | with_reducible refine TR.drew ?_)))
      (first
        | (go_at_call 128; with_reducible refine (AT.out _).mono ?_
           rintro e w1 ⟨rfl, b1⟩
           have BB1 : Below w0.heap.size w0 w1 := bTrans (by repeat (first | with_reducible assumption | with_reducible refine Below.drew ?_)) b1
           have TT1 : TR R R w0 w1 := TR.of BB1)
        | (go_at_call 37; with_reducible refine (WT.out _ ?_).mono ?_
           · refine HM.out.below ?_
             repeat (first | with_reducible assumption | with_reducible refine Below.drew ?_)
           rintro e w2 ⟨rfl, M2, T2⟩
           have TT2 : TR R R w0 w2 := TR.trans (by repeat (first | with_reducible assumption | with_reducible refine TR.drew ?_)) T2))
  all_goals
    go_wp2_with fail
    exact bodyPost_end (v := .tuple #[]) (by simp [results, Tryz.results106, go_sem]) rfl ⟨rfl, M2, T0.trans TT2⟩
end
end Go.Proofs.YtppmicepkjhfeaaGreat

namespace Go.Proofs.YtppmicepkjhfeaaGreat
open Go.RowKit
set_option linter.unusedVariables false

theorem TT.setw {L : List Spc} {k W N P : Nat} (t : TT L k W N P) (ws : List Nat) : TT (setw L k ws) k W N P :=
  ⟨t.w2, t.w64, t.n, t.p, t.np, by rw [setw_len]; exact t.hk, by rw [setw_open t.hk]; exact t.ho⟩
/-- the cells of a chain that has turned -/
theorem Row.setC {w : World} {g : Nat} {f : Nat → Value} (r : Row w g 3 f) (h t n : Int) : Row (((w.setCell ⟨g, 0, none⟩ (.int .i64 h)).setCell ⟨g, 1, none⟩ (.int .i64 t)).setCell ⟨g, 2, none⟩ (.int .i64 n)) g 3 (cc h t n) :=
  (((r.set 0 (by omega) _).set 1 (by omega) _).set 2 (by omega) _).congr fun j hj => by
    unfold cc
    rcases (show j = 0 ∨ j = 1 ∨ j = 2 by omega) with rfl | rfl | rfl <;> rfl
theorem Row.setH {w : World} {g : Nat} {h t n : Int} (r : Row w g 3 (cc h t n)) (x : Int) : Row (w.setCell ⟨g, 0, none⟩ (.int .i64 x)) g 3 (cc x t n) :=
  (r.set 0 (by omega) _).congr fun j hj => by
    unfold cc
    rcases (show j = 0 ∨ j = 1 ∨ j = 2 by omega) with rfl | rfl | rfl <;> rfl
theorem Row.setT {w : World} {g : Nat} {h t n : Int} (r : Row w g 3 (cc h t n)) (x : Int) : Row (w.setCell ⟨g, 1, none⟩ (.int .i64 x)) g 3 (cc h x n) :=
  (r.set 1 (by omega) _).congr fun j hj => by
    unfold cc
    rcases (show j = 0 ∨ j = 1 ∨ j = 2 by omega) with rfl | rfl | rfl <;> rfl
theorem Row.setL {w : World} {g : Nat} {h t n : Int} (r : Row w g 3 (cc h t n)) (x : Int) : Row (w.setCell ⟨g, 2, none⟩ (.int .i64 x)) g 3 (cc h t x) :=
  (r.set 2 (by omega) _).congr fun j hj => by
    unfold cc
    rcases (show j = 0 ∨ j = 1 ∨ j = 2 by omega) with rfl | rfl | rfl <;> rfl
/-- the boxes of a call with a table and a chain -/
theorem boxes3 (w : World) (m : Value) (s W N P h t n : Int) :
    Row (((w.alloc (.cells #[m, .int .i64 s, .int .i64 W, .int .i64 N, .int .i64 P] 126)).alloc (.cells #[.int .i64 h, .int .i64 t, .int .i64 n] 111)).alloc (.cells #[.int .i64 0, .int .i64 0, .int .i64 0] 111)) w.heap.size 5 (tc m s W N P) ∧
    Row (((w.alloc (.cells #[m, .int .i64 s, .int .i64 W, .int .i64 N, .int .i64 P] 126)).alloc (.cells #[.int .i64 h, .int .i64 t, .int .i64 n] 111)).alloc (.cells #[.int .i64 0, .int .i64 0, .int .i64 0] 111)) (w.heap.size + 1) 3 (cc h t n) ∧
    Row (((w.alloc (.cells #[m, .int .i64 s, .int .i64 W, .int .i64 N, .int .i64 P] 126)).alloc (.cells #[.int .i64 h, .int .i64 t, .int .i64 n] 111)).alloc (.cells #[.int .i64 0, .int .i64 0, .int .i64 0] 111)) (w.heap.size + 1 + 1) 3 (cc 0 0 0) ∧
    Below w.heap.size w (((w.alloc (.cells #[m, .int .i64 s, .int .i64 W, .int .i64 N, .int .i64 P] 126)).alloc (.cells #[.int .i64 h, .int .i64 t, .int .i64 n] 111)).alloc (.cells #[.int .i64 0, .int .i64 0, .int .i64 0] 111)) :=
  ⟨((boxed5 w m s W N P).alloc _).alloc _, (Row.newAt _ _ _ (w.heap.size + 1) 3 _ (by simp) (cc_new h t n)).alloc _, Row.newAt _ _ _ (w.heap.size + 1 + 1) 3 _ (by simp) (cc_new 0 0 0), bAlloc (bAlloc (bAlloc (Below.refl _ _) _) _) _⟩

/-- the words behind a Push -/
def pushw (ws : List Nat) (W N P t n id : Nat) : List Nat :=
  if n = 0 then (ws.set (lk W id N) 0).set (lk W id P) t else ((ws.set (lk W id N) 0).set (lk W id P) t).set (lk W t N) id
def up2 (b : Nat) : Nat := addv (addv b 1) 1

section
variable (mb mm : Nat) (R : Nat → Nat) (L : List Spc) (a b : Nat) (h g : Int) (k W N P : Nat) (t : TT L k W N P)
include t
/-! ### After -/
theorem after_ok (id : Nat) (h1 : 1 ≤ id) (h2 : id ≤ ent W (wds L k).length) (hv : (wds L k).getD (lk W id N) 0 ≤ 4194304) (w : World) (hm : MM w R mb mm L a b h g) : Calls Tryz.prog 133 #[tv (at0 mb) (k : Int) (W : Int) (N : Int) (P : Int), .int .i64 (id : Int)] w fun e w' => e = .returned (.tuple #[.int .i64 (((wds L k).getD (lk W id N) 0 : Nat) : Int), .int .i64 0]) ∧ MM w' R mb mm L (addv a 1) b h g ∧ TR R R w w' := by
  have CK0 := fun w q => check_ok mb mm R L a b h g k W N P t (id : Int) w q
  rw [if_pos (hase_t (by omega) (by omega))] at CK0
  have CK := Lib.hid CK0
  have GT := Lib.hid (fun w q => get_ok mb mm R L a b h g k W N P t id N h1 h2 t.n hv w q)
  have HM := Lib.hid (hm.alloc (.cells #[at0 mb, .int .i64 (k : Int), .int .i64 (W : Int), .int .i64 (N : Int), .int .i64 (P : Int)] 126))
  have B0 := boxed5 w (at0 mb) (k : Int) (W : Int) (N : Int) (P : Int)
  have T0 : TR R R w (w.alloc (.cells #[at0 mb, .int .i64 (k : Int), .int .i64 (W : Int), .int .i64 (N : Int), .int .i64 (P : Int)] 126)) := (TR.refl R w).alloc _
  clear hm t h1 h2 hv CK0
  generalize (wds L k).getD (lk W id N) 0 = x at *
  go_enter Tryz.func133, Tryz.ntmps133
  go_wp2_with fail
  generalize w.alloc (.cells #[at0 mb, .int .i64 (k : Int), .int .i64 (W : Int), .int .i64 (N : Int), .int .i64 (P : Int)] 126) = w0 at *
  with_reducible refine (CK.out _ HM.out).mono ?_
  rintro e w1 ⟨rfl, b1⟩
  dsimp only
  obtain ⟨x0, x1, x2, x3, x4, xf, xl⟩ := tc_all (B0.below b1)
  go_wp2_with fail
  with_reducible refine (GT.out _ (HM.out.below b1)).mono ?_
  rintro e w2 ⟨rfl, M2, T2⟩
  dsimp only
  go_wp2_with fail
  exact bodyPost_ret (v := .tuple #[.int .i64 (x : Int), .int .i64 0]) (by simp [results, Tryz.results133, go_sem]) rfl ⟨rfl, M2, (T0.below' b1).trans T2⟩
theorem after_range (id : Int) (hE : hase (ent W (wds L k).length) id = false) (w : World) (hm : MM w R mb mm L a b h g) : Calls Tryz.prog 133 #[tv (at0 mb) (k : Int) (W : Int) (N : Int) (P : Int), .int .i64 id] w fun e w' => e = .returned (.tuple #[.int .i64 0, .int .i64 2]) ∧ Below w.heap.size w w' := by
  have CK0 := fun w q => check_ok mb mm R L a b h g k W N P t id w q
  rw [if_neg (by rw [hE]; simp)] at CK0
  have CK := Lib.hid CK0
  have HM := Lib.hid (hm.alloc (.cells #[at0 mb, .int .i64 (k : Int), .int .i64 (W : Int), .int .i64 (N : Int), .int .i64 (P : Int)] 126))
  clear hm t CK0 hE
  go_enter Tryz.func133, Tryz.ntmps133
  go_wp2_with fail
  with_reducible refine (CK.out _ HM.out).mono ?_
  rintro e w1 ⟨rfl, b1⟩
  dsimp only
  go_wp2_with fail
  exact bodyPost_ret (v := .tuple #[.int .i64 0, .int .i64 2]) (by simp [results, Tryz.results133, go_sem]) rfl ⟨rfl, (by repeat (first | exact Below.refl _ _ | (with_reducible assumption) | refine bAlloc ?_ _ | refine below_drewN ?_ _ | refine Below.drew ?_ | (refine bSet ?_ (by first | (dsimp only; omega) | (simp; done) | (simp; omega)) _) | refine bTrans ?_ (by assumption)))⟩

/-! ### Push -/
set_option maxRecDepth 100000 in
set_option maxHeartbeats 1000000 in
theorem push_first (hd tl id : Nat) (h1 : 1 ≤ id) (h2 : id ≤ ent W (wds L k).length) (htl : tl ≤ 4194304) (w : World) (hm : MM w R mb mm L a b h g) : Calls Tryz.prog 79 #[tv (at0 mb) (k : Int) (W : Int) (N : Int) (P : Int), cv (hd : Int) (tl : Int) 0, .int .i64 (id : Int)] w fun e w' => e = .returned (.tuple #[cv (id : Int) (id : Int) 1, .int .i64 0]) ∧ MM w' R mb mm (setw L k (pushw (wds L k) W N P tl 0 id)) a (up2 b) h g ∧ TR R R w w' := by
  have CK0 := fun w q => check_ok mb mm R L a b h g k W N P t (id : Int) w q
  rw [if_pos (hase_t (by omega) (by omega))] at CK0
  have CK := Lib.hid CK0
  have S10 := fun w q => set_ok mb mm R L a b h g k W N P t id N 0 h1 h2 t.n (by omega) w q
  rw [show ((0 : Nat) : Int) = 0 from rfl] at S10
  have S1 := Lib.hid S10
  have S20 := fun w q => set_ok mb mm R (setw L k ((wds L k).set (lk W id N) 0)) a (addv b 1) h g k W N P (t.setw _) id P tl h1 (by rw [setw_wds t.hk]; simpa using h2) t.p htl w q
  rw [setw_wds t.hk, setw_setw t.hk, show ((wds L k).set (lk W id N) 0).set (lk W id P) tl = pushw (wds L k) W N P tl 0 id by unfold pushw; rw [if_pos rfl], show addv (addv b 1) 1 = up2 b from rfl] at S20
  have S2 := Lib.hid S20
  obtain ⟨BT, BC, BR, B3⟩ := boxes3 w (at0 mb) (k : Int) (W : Int) (N : Int) (P : Int) (hd : Int) (tl : Int) 0
  have HM := Lib.hid (hm.below B3)
  have HI := Lib.hid hm.hi
  have T0 : TR R R w _ := TR.of B3
  clear hm t h1 h2 htl CK0 S10 S20 B3
  generalize setw L k (pushw (wds L k) W N P tl 0 id) = L2 at *
  generalize setw L k ((wds L k).set (lk W id N) 0) = L1 at *
  generalize up2 b = b2 at *
  generalize addv b 1 = b1' at *
  go_enter Tryz.func79, Tryz.ntmps79
  go_wp2_with fail
  generalize (((w.alloc (.cells #[at0 mb, .int .i64 (k : Int), .int .i64 (W : Int), .int .i64 (N : Int), .int .i64 (P : Int)] 126)).alloc (.cells #[.int .i64 (hd : Int), .int .i64 (tl : Int), .int .i64 0] 111)).alloc (.cells #[.int .i64 0, .int .i64 0, .int .i64 0] 111)) = w0 at *
  with_reducible refine (CK.out _ HM.out).mono ?_
  rintro e w1 ⟨rfl, b1⟩
  dsimp only
  obtain ⟨x0, x1, x2, x3, x4, xf, xl⟩ := tc_all (BT.below b1)
  go_wp2_with fail
  with_reducible refine (S1.out _ (HM.out.below b1)).mono ?_
  rintro e w2 ⟨rfl, M2, T2⟩
  dsimp only
  have Z0 : R w.heap.size = 0 := by have := HI.out w.heap.size; omega
  have Z1 : R (w.heap.size + 1) = 0 := by have := HI.out (w.heap.size + 1); omega
  have Z2 : R (w.heap.size + 1 + 1) = 0 := by have := HI.out (w.heap.size + 1 + 1); omega
  have BT2 := (BT.below b1).tr T2 Z0
  have BC2 := (BC.below b1).tr T2 Z1
  have BR2 := (BR.below b1).tr T2 Z2
  clear x0 x1 x2 x3 x4 xf xl BT BC BR
  obtain ⟨x0, x1, x2, x3, x4, xf, xl⟩ := tc_all BT2
  obtain ⟨y0, y1, y2, yf, yl⟩ := cc_all BC2
  go_wp2_with fail
  with_reducible refine (S2.out _ M2).mono ?_
  rintro e w3 ⟨rfl, M3, T3⟩
  dsimp only
  have BC3 := BC2.tr T3 Z1
  have BR3 := BR2.tr T3 Z2
  clear x0 x1 x2 x3 x4 xf xl y0 y1 y2 yf yl BT2 BC2 BR2
  obtain ⟨y0, y1, y2, yf, yl⟩ := cc_all BC3
  have BC4 := ((BC3.setH (id : Int)).setT (id : Int)).setL 1
  have BR4 := ((BR3.far (p := ⟨w.heap.size + 1, 0, none⟩) (.int .i64 (id : Int)) (by simp)).far (p := ⟨w.heap.size + 1, 1, none⟩) (.int .i64 (id : Int)) (by simp)).far (p := ⟨w.heap.size + 1, 2, none⟩) (.int .i64 1) (by simp)
  have T4 := Lib.hid ((((T0.below' b1).trans T2).trans T3).store (q := w.heap.size + 1) (by omega) 0 (.int .i64 (id : Int)) |>.store (q := w.heap.size + 1) (by omega) 1 (.int .i64 (id : Int)) |>.store (q := w.heap.size + 1) (by omega) 2 (.int .i64 1))
  have M4 := Lib.hid (((M3.store Z1 0 (.int .i64 (id : Int))).store Z1 1 (.int .i64 (id : Int))).store Z1 2 (.int .i64 1))
  go_upto_region 11 with fail
  generalize ((w3.setCell ⟨w.heap.size + 1, 0, none⟩ (.int .i64 (id : Int))).setCell ⟨w.heap.size + 1, 1, none⟩ (.int .i64 (id : Int))).setCell ⟨w.heap.size + 1, 2, none⟩ (.int .i64 1) = w4 at *
  clear y0 y1 y2 yf yl
  obtain ⟨y0, y1, y2, yf, yl⟩ := cc_all BC4
  obtain ⟨r0, r1, r2, rf, rl⟩ := cc_all BR4
  obtain ⟨u0, u1, u2, uf, ul⟩ := cc_all (BR4.setC (id : Int) (id : Int) 1)
  go_wp2_with fail
  exact bodyPost_ret (v := .tuple #[cv (id : Int) (id : Int) 1, .int .i64 0]) (by simp [results, Tryz.results79, go_sem, u0, u1, u2]) rfl ⟨rfl, ((M4.out.store Z2 0 _).store Z2 1 _).store Z2 2 _, ((T4.out.store (by omega) 0 _).store (by omega) 1 _).store (by omega) 2 _⟩
set_option maxRecDepth 100000 in
set_option maxHeartbeats 1000000 in
theorem push_next (hd tl n id : Nat) (hn0 : n ≠ 0) (hn : n ≤ 4194304) (ht1 : 1 ≤ tl) (ht2 : tl ≤ ent W (wds L k).length) (h1 : 1 ≤ id) (h2 : id ≤ ent W (wds L k).length) (htl : tl ≤ 4194304) (w : World) (hm : MM w R mb mm L a b h g) : Calls Tryz.prog 79 #[tv (at0 mb) (k : Int) (W : Int) (N : Int) (P : Int), cv (hd : Int) (tl : Int) (n : Int), .int .i64 (id : Int)] w fun e w' => e = .returned (.tuple #[cv (hd : Int) (id : Int) ((n : Int) + 1), .int .i64 0]) ∧ MM w' R mb mm (setw L k (pushw (wds L k) W N P tl n id)) a (addv (up2 b) 1) h g ∧ TR R R w w' := by
  have CK0 := fun w q => check_ok mb mm R L a b h g k W N P t (id : Int) w q
  rw [if_pos (hase_t (by omega) (by omega))] at CK0
  have CK := Lib.hid CK0
  have S10 := fun w q => set_ok mb mm R L a b h g k W N P t id N 0 h1 h2 t.n (by omega) w q
  rw [show ((0 : Nat) : Int) = 0 from rfl] at S10
  have S1 := Lib.hid S10
  have S20 := fun w q => set_ok mb mm R (setw L k ((wds L k).set (lk W id N) 0)) a (addv b 1) h g k W N P (t.setw _) id P tl h1 (by rw [setw_wds t.hk]; simpa using h2) t.p htl w q
  rw [setw_wds t.hk, setw_setw t.hk, show addv (addv b 1) 1 = up2 b from rfl] at S20
  have S2 := Lib.hid S20
  have S30 := fun w q => set_ok mb mm R (setw L k (((wds L k).set (lk W id N) 0).set (lk W id P) tl)) a (up2 b) h g k W N P (t.setw _) tl N id ht1 (by rw [setw_wds t.hk]; simpa using ht2) t.n (by have := t.hw mb mm R L a b h g k W N P hm h2; omega) w q
  rw [setw_wds t.hk, setw_setw t.hk, show (((wds L k).set (lk W id N) 0).set (lk W id P) tl).set (lk W tl N) id = pushw (wds L k) W N P tl n id by unfold pushw; rw [if_neg hn0]] at S30
  have S3 := Lib.hid S30
  have en0 : ((n : Int) == 0) = false := by simp [hn0]
  obtain ⟨BT, BC, BR, B3⟩ := boxes3 w (at0 mb) (k : Int) (W : Int) (N : Int) (P : Int) (hd : Int) (tl : Int) (n : Int)
  have HM := Lib.hid (hm.below B3)
  have HI := Lib.hid hm.hi
  have T0 : TR R R w _ := TR.of B3
  clear hm t h1 h2 htl CK0 S10 S20 S30 B3 ht1 ht2 hn0
  generalize setw L k (pushw (wds L k) W N P tl n id) = L3 at *
  generalize setw L k (((wds L k).set (lk W id N) 0).set (lk W id P) tl) = L2 at *
  generalize setw L k ((wds L k).set (lk W id N) 0) = L1 at *
  generalize addv (up2 b) 1 = b3 at *
  generalize up2 b = b2 at *
  generalize addv b 1 = b1' at *
  go_enter Tryz.func79, Tryz.ntmps79
  go_wp2_with fail
  generalize (((w.alloc (.cells #[at0 mb, .int .i64 (k : Int), .int .i64 (W : Int), .int .i64 (N : Int), .int .i64 (P : Int)] 126)).alloc (.cells #[.int .i64 (hd : Int), .int .i64 (tl : Int), .int .i64 (n : Int)] 111)).alloc (.cells #[.int .i64 0, .int .i64 0, .int .i64 0] 111)) = w0 at *
  with_reducible refine (CK.out _ HM.out).mono ?_
  rintro e w1 ⟨rfl, b1⟩
  dsimp only
  obtain ⟨x0, x1, x2, x3, x4, xf, xl⟩ := tc_all (BT.below b1)
  go_wp2_with fail
  with_reducible refine (S1.out _ (HM.out.below b1)).mono ?_
  rintro e w2 ⟨rfl, M2, T2⟩
  dsimp only
  have Z0 : R w.heap.size = 0 := by have := HI.out w.heap.size; omega
  have Z1 : R (w.heap.size + 1) = 0 := by have := HI.out (w.heap.size + 1); omega
  have Z2 : R (w.heap.size + 1 + 1) = 0 := by have := HI.out (w.heap.size + 1 + 1); omega
  have BT2 := (BT.below b1).tr T2 Z0
  have BC2 := (BC.below b1).tr T2 Z1
  have BR2 := (BR.below b1).tr T2 Z2
  clear x0 x1 x2 x3 x4 xf xl BT BC BR
  obtain ⟨x0, x1, x2, x3, x4, xf, xl⟩ := tc_all BT2
  obtain ⟨y0, y1, y2, yf, yl⟩ := cc_all BC2
  go_wp2_with fail
  with_reducible refine (S2.out _ M2).mono ?_
  rintro e w3 ⟨rfl, M3, T3⟩
  dsimp only
  have BT3 := BT2.tr T3 Z0
  have BC3 := BC2.tr T3 Z1
  have BR3 := BR2.tr T3 Z2
  clear x0 x1 x2 x3 x4 xf xl y0 y1 y2 yf yl BT2 BC2 BR2
  obtain ⟨x0, x1, x2, x3, x4, xf, xl⟩ := tc_all BT3
  obtain ⟨y0, y1, y2, yf, yl⟩ := cc_all BC3
  go_wp2_with fail
  with_reducible refine (S3.out _ M3).mono ?_
  rintro e w5 ⟨rfl, M5, T5⟩
  dsimp only
  have BC5 := BC3.tr T5 Z1
  have BR5 := BR3.tr T5 Z2
  clear x0 x1 x2 x3 x4 xf xl y0 y1 y2 yf yl BT3 BC3 BR3
  obtain ⟨y0, y1, y2, yf, yl⟩ := cc_all BC5
  have BC4 := (BC5.setT (id : Int)).setL ((n : Int) + 1)
  have BR4 := (BR5.far (p := ⟨w.heap.size + 1, 1, none⟩) (.int .i64 (id : Int)) (by simp)).far (p := ⟨w.heap.size + 1, 2, none⟩) (.int .i64 ((n : Int) + 1)) (by simp)
  have T4 := Lib.hid (((((T0.below' b1).trans T2).trans T3).trans T5).store (q := w.heap.size + 1) (by omega) 1 (.int .i64 (id : Int)) |>.store (q := w.heap.size + 1) (by omega) 2 (.int .i64 ((n : Int) + 1)))
  have M4 := Lib.hid ((M5.store Z1 1 (.int .i64 (id : Int))).store Z1 2 (.int .i64 ((n : Int) + 1)))
  go_upto_region 11 with fail
  generalize (w5.setCell ⟨w.heap.size + 1, 1, none⟩ (.int .i64 (id : Int))).setCell ⟨w.heap.size + 1, 2, none⟩ (.int .i64 ((n : Int) + 1)) = w4 at *
  obtain ⟨z0, z1, z2, zf, zl⟩ := cc_all BC4
  obtain ⟨r0, r1, r2, rf, rl⟩ := cc_all BR4
  obtain ⟨u0, u1, u2, uf, ul⟩ := cc_all (BR4.setC (hd : Int) (id : Int) ((n : Int) + 1))
  go_wp2_with fail
  exact bodyPost_ret (v := .tuple #[cv (hd : Int) (id : Int) ((n : Int) + 1), .int .i64 0]) (by simp [results, Tryz.results79, go_sem, u0, u1, u2]) rfl ⟨rfl, ((M4.out.store Z2 0 _).store Z2 1 _).store Z2 2 _, ((T4.out.store (by omega) 0 _).store (by omega) 1 _).store (by omega) 2 _⟩

theorem push_range (hd tl n id : Int) (hE : hase (ent W (wds L k).length) id = false) (w : World) (hm : MM w R mb mm L a b h g) : Calls Tryz.prog 79 #[tv (at0 mb) (k : Int) (W : Int) (N : Int) (P : Int), cv hd tl n, .int .i64 id] w fun e w' => e = .returned (.tuple #[cv hd tl n, .int .i64 2]) ∧ Below w.heap.size w w' := by
  have CK0 := fun w q => check_ok mb mm R L a b h g k W N P t id w q
  rw [if_neg (by rw [hE]; simp)] at CK0
  have CK := Lib.hid CK0
  obtain ⟨BT, BC, BR, B3⟩ := boxes3 w (at0 mb) (k : Int) (W : Int) (N : Int) (P : Int) hd tl n
  have HM := Lib.hid (hm.below B3)
  clear hm t CK0 hE BT
  go_enter Tryz.func79, Tryz.ntmps79
  go_wp2_with fail
  generalize (((w.alloc (.cells #[at0 mb, .int .i64 (k : Int), .int .i64 (W : Int), .int .i64 (N : Int), .int .i64 (P : Int)] 126)).alloc (.cells #[.int .i64 hd, .int .i64 tl, .int .i64 n] 111)).alloc (.cells #[.int .i64 0, .int .i64 0, .int .i64 0] 111)) = w0 at *
  with_reducible refine (CK.out _ HM.out).mono ?_
  rintro e w1 ⟨rfl, b1⟩
  dsimp only
  have BC1 := BC.below b1
  have BR1 := BR.below b1
  obtain ⟨y0, y1, y2, yf, yl⟩ := cc_all BC1
  obtain ⟨r0, r1, r2, rf, rl⟩ := cc_all BR1
  obtain ⟨u0, u1, u2, uf, ul⟩ := cc_all (BR1.setC hd tl n)
  have b0 : Below w.heap.size w w1 := bTrans B3 b1
  go_wp2_with fail
  exact bodyPost_ret (v := .tuple #[cv hd tl n, .int .i64 2]) (by simp [results, Tryz.results79, go_sem, u0, u1, u2]) rfl ⟨rfl, (by repeat (first | exact Below.refl _ _ | (with_reducible assumption) | refine bAlloc ?_ _ | refine below_drewN ?_ _ | refine Below.drew ?_ | (refine bSet ?_ (by first | (dsimp only; omega) | (simp; done) | (simp; omega)) _) | refine bTrans ?_ (by assumption)))⟩

theorem drop_range (hd tl n id : Int) (hE : hase (ent W (wds L k).length) id = false) (w : World) (hm : MM w R mb mm L a b h g) : Calls Tryz.prog 85 #[tv (at0 mb) (k : Int) (W : Int) (N : Int) (P : Int), cv hd tl n, .int .i64 id] w fun e w' => e = .returned (.tuple #[cv hd tl n, .int .i64 2]) ∧ Below w.heap.size w w' := by
  have CK0 := fun w q => check_ok mb mm R L a b h g k W N P t id w q
  rw [if_neg (by rw [hE]; simp)] at CK0
  have CK := Lib.hid CK0
  obtain ⟨BT, BC, BR, B3⟩ := boxes3 w (at0 mb) (k : Int) (W : Int) (N : Int) (P : Int) hd tl n
  have HM := Lib.hid (hm.below B3)
  clear hm t CK0 hE BT
  go_enter Tryz.func85, Tryz.ntmps85
  go_wp2_with fail
  generalize (((w.alloc (.cells #[at0 mb, .int .i64 (k : Int), .int .i64 (W : Int), .int .i64 (N : Int), .int .i64 (P : Int)] 126)).alloc (.cells #[.int .i64 hd, .int .i64 tl, .int .i64 n] 111)).alloc (.cells #[.int .i64 0, .int .i64 0, .int .i64 0] 111)) = w0 at *
  with_reducible refine (CK.out _ HM.out).mono ?_
  rintro e w1 ⟨rfl, b1⟩
  dsimp only
  have BC1 := BC.below b1
  have BR1 := BR.below b1
  obtain ⟨y0, y1, y2, yf, yl⟩ := cc_all BC1
  obtain ⟨r0, r1, r2, rf, rl⟩ := cc_all BR1
  obtain ⟨u0, u1, u2, uf, ul⟩ := cc_all (BR1.setC hd tl n)
  have b0 : Below w.heap.size w w1 := bTrans B3 b1
  go_wp2_with fail
  exact bodyPost_ret (v := .tuple #[cv hd tl n, .int .i64 2]) (by simp [results, Tryz.results85, go_sem, u0, u1, u2]) rfl ⟨rfl, (by repeat (first | exact Below.refl _ _ | (with_reducible assumption) | refine bAlloc ?_ _ | refine below_drewN ?_ _ | refine Below.drew ?_ | (refine bSet ?_ (by first | (dsimp only; omega) | (simp; done) | (simp; omega)) _) | refine bTrans ?_ (by assumption)))⟩
end

theorem push_no (mb : Nat) (s W N P : Int) (hr : rightv W N P = false) (hd tl n id : Int) (w : World) : Calls Tryz.prog 79 #[tv (at0 mb) s W N P, cv hd tl n, .int .i64 id] w fun e w' => e = .returned (.tuple #[cv hd tl n, .int .i64 1]) ∧ Below w.heap.size w w' := by
  have CK := Lib.hid (fun w => check_no mb s W N P hr id w)
  obtain ⟨BT, BC, BR, B3⟩ := boxes3 w (at0 mb) s W N P hd tl n
  clear hr BT
  go_enter Tryz.func79, Tryz.ntmps79
  go_wp2_with fail
  generalize (((w.alloc (.cells #[at0 mb, .int .i64 s, .int .i64 W, .int .i64 N, .int .i64 P] 126)).alloc (.cells #[.int .i64 hd, .int .i64 tl, .int .i64 n] 111)).alloc (.cells #[.int .i64 0, .int .i64 0, .int .i64 0] 111)) = w0 at *
  with_reducible refine (CK.out _).mono ?_
  rintro e w1 ⟨rfl, b1⟩
  dsimp only
  have BC1 := BC.below b1
  have BR1 := BR.below b1
  obtain ⟨y0, y1, y2, yf, yl⟩ := cc_all BC1
  obtain ⟨r0, r1, r2, rf, rl⟩ := cc_all BR1
  obtain ⟨u0, u1, u2, uf, ul⟩ := cc_all (BR1.setC hd tl n)
  have b0 : Below w.heap.size w w1 := bTrans B3 b1
  go_wp2_with fail
  exact bodyPost_ret (v := .tuple #[cv hd tl n, .int .i64 1]) (by simp [results, Tryz.results79, go_sem, u0, u1, u2]) rfl ⟨rfl, (by repeat (first | exact Below.refl _ _ | (with_reducible assumption) | refine bAlloc ?_ _ | refine below_drewN ?_ _ | refine Below.drew ?_ | (refine bSet ?_ (by first | (dsimp only; omega) | (simp; done) | (simp; omega)) _) | refine bTrans ?_ (by assumption)))⟩

theorem drop_no (mb : Nat) (s W N P : Int) (hr : rightv W N P = false) (hd tl n id : Int) (w : World) : Calls Tryz.prog 85 #[tv (at0 mb) s W N P, cv hd tl n, .int .i64 id] w fun e w' => e = .returned (.tuple #[cv hd tl n, .int .i64 1]) ∧ Below w.heap.size w w' := by
  have CK := Lib.hid (fun w => check_no mb s W N P hr id w)
  obtain ⟨BT, BC, BR, B3⟩ := boxes3 w (at0 mb) s W N P hd tl n
  clear hr BT
  go_enter Tryz.func85, Tryz.ntmps85
  go_wp2_with fail
  generalize (((w.alloc (.cells #[at0 mb, .int .i64 s, .int .i64 W, .int .i64 N, .int .i64 P] 126)).alloc (.cells #[.int .i64 hd, .int .i64 tl, .int .i64 n] 111)).alloc (.cells #[.int .i64 0, .int .i64 0, .int .i64 0] 111)) = w0 at *
  with_reducible refine (CK.out _).mono ?_
  rintro e w1 ⟨rfl, b1⟩
  dsimp only
  have BC1 := BC.below b1
  have BR1 := BR.below b1
  obtain ⟨y0, y1, y2, yf, yl⟩ := cc_all BC1
  obtain ⟨r0, r1, r2, rf, rl⟩ := cc_all BR1
  obtain ⟨u0, u1, u2, uf, ul⟩ := cc_all (BR1.setC hd tl n)
  have b0 : Below w.heap.size w w1 := bTrans B3 b1
  go_wp2_with fail
  exact bodyPost_ret (v := .tuple #[cv hd tl n, .int .i64 1]) (by simp [results, Tryz.results85, go_sem, u0, u1, u2]) rfl ⟨rfl, (by repeat (first | exact Below.refl _ _ | (with_reducible assumption) | refine bAlloc ?_ _ | refine below_drewN ?_ _ | refine Below.drew ?_ | (refine bSet ?_ (by first | (dsimp only; omega) | (simp; done) | (simp; omega)) _) | refine bTrans ?_ (by assumption)))⟩

theorem after_no (mb : Nat) (s W N P : Int) (hr : rightv W N P = false) (id : Int) (w : World) : Calls Tryz.prog 133 #[tv (at0 mb) s W N P, .int .i64 id] w fun e w' => e = .returned (.tuple #[.int .i64 0, .int .i64 1]) ∧ Below w.heap.size w w' := by
  have CK := Lib.hid (fun w => check_no mb s W N P hr id w)
  clear hr
  go_enter Tryz.func133, Tryz.ntmps133
  go_wp2_with fail
  with_reducible refine (CK.out _).mono ?_
  rintro e w1 ⟨rfl, b1⟩
  dsimp only
  go_wp2_with fail
  exact bodyPost_ret (v := .tuple #[.int .i64 0, .int .i64 1]) (by simp [results, Tryz.results133, go_sem]) rfl ⟨rfl, (by repeat (first | exact Below.refl _ _ | (with_reducible assumption) | refine bAlloc ?_ _ | refine below_drewN ?_ _ | refine Below.drew ?_ | (refine bSet ?_ (by first | (dsimp only; omega) | (simp; done) | (simp; omega)) _) | refine bTrans ?_ (by assumption)))⟩
end Go.Proofs.YtppmicepkjhfeaaGreat
