/-
  Package chain: has, check, at, get, set.
-/
import Derived.Test.YtlaldnfaeoimfaaChnA
import Derived.Deep.QuietTactic
import Derived.BigQuiet
import Derived.WalkSmall
import Derived.Deep.RegionWith
import Derived.Deep.RegionHeld3
namespace Go.Proofs.Ytlaldnfaeoimfaa
open Go.RowKit
set_option linter.unusedVariables false

/-- is there an entry id? -/
def hase (E : Nat) (id : Int) : Bool := decide (1 ≤ id ∧ id ≤ (E : Int))
theorem hase_t {E : Nat} {id : Int} (h : 1 ≤ id) (k : id ≤ E) : hase E id = true := by unfold hase; exact decide_eq_true ⟨h, k⟩
theorem hase_f {E : Nat} {id : Int} (h : ¬ (1 ≤ id ∧ id ≤ (E : Int))) : hase E id = false := by unfold hase; exact decide_eq_false h
theorem hase_iff {E : Nat} {id : Int} : hase E id = true ↔ 1 ≤ id ∧ id ≤ (E : Int) := by unfold hase; exact decide_eq_true_iff
attribute [irreducible] hase
section
variable (mb mm : Nat) (R : Nat → Nat) (L : List Spc) (a b : Nat) (h g : Int) (k W N P : Nat) (t : TT L k W N P)
include t
theorem has_ok (id : Int) (w : World) (hm : MM w R mb mm L a b h g) : Calls Try.prog 81 #[tv (at0 mb) (k : Int) (W : Int) (N : Int) (P : Int), .int .i64 id] w fun e w' => e = .returned (.bool (hase (ent W (wds L k).length) id)) ∧ Below w.heap.size w w' := by
  have EN := Lib.hid (fun w q => entries_ok mb mm R L a b h g k W N P t w q)
  have HM := Lib.hid hm
  clear hm t
  generalize ent W (wds L k).length = E at *
  by_cases h1 : 1 ≤ id
  · by_cases h2 : id ≤ (E : Int)
    · rw [hase_t h1 h2]
      go_enter Try.func81, Try.ntmps81
      go_wp2_with fail
      with_reducible refine (EN.out _ (HM.out.alloc _)).mono ?_
      rintro e w1 ⟨rfl, b1⟩
      dsimp only
      go_wp2_with fail
      go_ret
      exact ⟨rfl, (by repeat (first | exact Below.refl _ _ | (with_reducible assumption) | refine bAlloc ?_ _ | refine below_drewN ?_ _ | refine Below.drew ?_ | (refine bSet ?_ (by first | (dsimp only; omega) | (simp; done) | (simp; omega)) _) | refine bTrans ?_ (by assumption)))⟩
    · rw [hase_f (fun q => h2 q.2)]
      have h2' : decide (id ≤ (E : Int)) = false := decide_eq_false h2
      clear h2
      go_enter Try.func81, Try.ntmps81
      go_wp2_with fail
      with_reducible refine (EN.out _ (HM.out.alloc _)).mono ?_
      rintro e w1 ⟨rfl, b1⟩
      dsimp only
      go_wp2_with fail
      go_ret
      exact ⟨rfl, (by repeat (first | exact Below.refl _ _ | (with_reducible assumption) | refine bAlloc ?_ _ | refine below_drewN ?_ _ | refine Below.drew ?_ | (refine bSet ?_ (by first | (dsimp only; omega) | (simp; done) | (simp; omega)) _) | refine bTrans ?_ (by assumption)))⟩
  · rw [hase_f (fun q => h1 q.1)]
    have h1' : id < 1 := by omega
    clear h1
    go_enter Try.func81, Try.ntmps81
    go_wp2_with fail
    go_ret
    exact ⟨rfl, (by repeat (first | exact Below.refl _ _ | (with_reducible assumption) | refine bAlloc ?_ _ | refine below_drewN ?_ _ | refine Below.drew ?_ | (refine bSet ?_ (by first | (dsimp only; omega) | (simp; done) | (simp; omega)) _) | refine bTrans ?_ (by assumption)))⟩
theorem check_ok (id : Int) (w : World) (hm : MM w R mb mm L a b h g) : Calls Try.prog 56 #[tv (at0 mb) (k : Int) (W : Int) (N : Int) (P : Int), .int .i64 id] w fun e w' => e = .returned (.int .i64 (if hase (ent W (wds L k).length) id = true then 0 else 2)) ∧ Below w.heap.size w w' := by
  have I1 := fun w => right_any mb (k : Int) (W : Int) (N : Int) (P : Int) w
  rw [t.right] at I1
  have RT := Lib.hid I1
  have EN0 := fun w q => has_ok mb mm R L a b h g k W N P t id w q
  have HM := Lib.hid hm
  have B0 := boxed5 w (at0 mb) (k : Int) (W : Int) (N : Int) (P : Int)
  clear hm t I1
  cases q : hase (ent W (wds L k).length) id
  · rw [q] at EN0
    have EN := Lib.hid EN0
    clear EN0 q
    rw [if_neg (by simp)]
    go_enter Try.func56, Try.ntmps56
    go_wp2_with fail
    with_reducible refine (RT.out _).mono ?_
    rintro e w1 ⟨rfl, b1⟩
    dsimp only
    have B1 := B0.below b1
    obtain ⟨x0, x1, x2, x3, x4, xf, xl⟩ := tc_all B1
    go_wp2_with fail
    with_reducible refine (EN.out _ ((HM.out.alloc _).below b1)).mono ?_
    rintro e w2 ⟨rfl, b2⟩
    dsimp only
    go_wp2_with fail
    go_ret
    exact ⟨rfl, (by repeat (first | exact Below.refl _ _ | (with_reducible assumption) | refine bAlloc ?_ _ | refine below_drewN ?_ _ | refine Below.drew ?_ | (refine bSet ?_ (by first | (dsimp only; omega) | (simp; done) | (simp; omega)) _) | refine bTrans ?_ (by assumption)))⟩
  · rw [q] at EN0
    have EN := Lib.hid EN0
    clear EN0 q
    rw [if_pos rfl]
    go_enter Try.func56, Try.ntmps56
    go_wp2_with fail
    with_reducible refine (RT.out _).mono ?_
    rintro e w1 ⟨rfl, b1⟩
    dsimp only
    have B1 := B0.below b1
    obtain ⟨x0, x1, x2, x3, x4, xf, xl⟩ := tc_all B1
    go_wp2_with fail
    with_reducible refine (EN.out _ ((HM.out.alloc _).below b1)).mono ?_
    rintro e w2 ⟨rfl, b2⟩
    dsimp only
    go_wp2_with fail
    go_ret
    exact ⟨rfl, (by repeat (first | exact Below.refl _ _ | (with_reducible assumption) | refine bAlloc ?_ _ | refine below_drewN ?_ _ | refine Below.drew ?_ | (refine bSet ?_ (by first | (dsimp only; omega) | (simp; done) | (simp; omega)) _) | refine bTrans ?_ (by assumption)))⟩
end
theorem check_no (mb : Nat) (s W N P : Int) (hr : rightv W N P = false) (id : Int) (w : World) : Calls Try.prog 56 #[tv (at0 mb) s W N P, .int .i64 id] w fun e w' => e = .returned (.int .i64 1) ∧ Below w.heap.size w w' := by
  have I1 := fun w => right_any mb s W N P w
  rw [hr] at I1
  have RT := Lib.hid I1
  clear I1
  go_enter Try.func56, Try.ntmps56
  go_wp2_with fail
  with_reducible refine (RT.out _).mono ?_
  rintro e w1 ⟨rfl, b1⟩
  dsimp only
  go_wp2_with fail
  go_ret
  exact ⟨rfl, (by repeat (first | exact Below.refl _ _ | (with_reducible assumption) | refine bAlloc ?_ _ | refine below_drewN ?_ _ | refine Below.drew ?_ | (refine bSet ?_ (by first | (dsimp only; omega) | (simp; done) | (simp; omega)) _) | refine bTrans ?_ (by assumption)))⟩

/-- where a word of an entry lies -/
def lk (W id n : Nat) : Nat := (id - 1) * W + n
theorem lk_lt {W id n len : Nat} (h1 : 1 ≤ id) (h2 : id ≤ ent W len) (hn : n < W) : lk W id n < len := by
  unfold lk ent at *
  have hle : id * W ≤ len := by
    have := Nat.mul_le_mul_right W h2
    exact Nat.le_trans this (Nat.div_mul_le_self len W)
  obtain ⟨j, rfl⟩ : ∃ j, id = j + 1 := ⟨id - 1, by omega⟩
  rw [Nat.add_mul] at hle
  rw [Nat.add_sub_cancel]
  omega
theorem lk_eq {W i j n m : Nat} (hi : 1 ≤ i) (hj : 1 ≤ j) (hn : n < W) (hm : m < W) (h : lk W i n = lk W j m) : i = j ∧ n = m := by
  unfold lk at h
  have e1 : ((i - 1) * W + n) % W = n := by rw [Nat.add_comm, Nat.add_mul_mod_self_right]; exact Nat.mod_eq_of_lt hn
  have e2 : ((j - 1) * W + m) % W = m := by rw [Nat.add_comm, Nat.add_mul_mod_self_right]; exact Nat.mod_eq_of_lt hm
  have d1 : ((i - 1) * W + n) / W = i - 1 := by rw [Nat.add_comm, Nat.add_mul_div_right _ _ (by omega), Nat.div_eq_of_lt hn]; omega
  have d2 : ((j - 1) * W + m) / W = j - 1 := by rw [Nat.add_comm, Nat.add_mul_div_right _ _ (by omega), Nat.div_eq_of_lt hm]; omega
  rw [h] at e1 d1
  exact ⟨by omega, by omega⟩
theorem lk_mod {W i n : Nat} (hn : n < W) : lk W i n % W = n := by unfold lk; rw [Nat.add_comm, Nat.add_mul_mod_self_right]; exact Nat.mod_eq_of_lt hn
theorem lk_int {W id n : Nat} (h1 : 1 ≤ id) : ((id : Int) - 1) * (W : Int) + (n : Int) = ((lk W id n : Nat) : Int) := by
  unfold lk
  obtain ⟨j, rfl⟩ : ∃ j, id = j + 1 := ⟨id - 1, by omega⟩
  rw [Nat.add_sub_cancel]
  simp
theorem lk_part {W id n : Nat} (h1 : 1 ≤ id) : ((id : Int) - 1) * (W : Int) = (((id - 1) * W : Nat) : Int) := by
  obtain ⟨j, rfl⟩ : ∃ j, id = j + 1 := ⟨id - 1, by omega⟩
  rw [Nat.add_sub_cancel]
  simp
attribute [irreducible] lk
theorem at_any (m : Value) (s : Int) (W : Nat) (N P : Int) (id n : Nat) (h1 : 1 ≤ id) (h2 : id ≤ 4194304) (hW : W ≤ 64) (hn : n ≤ 64) (w : World) : Calls Try.prog 82 #[tv m s (W : Int) N P, .int .i64 (id : Int), .int .i64 (n : Int)] w fun e w' => e = .returned (.int .i64 ((lk W id n : Nat) : Int)) ∧ Below w.heap.size w w' := by
  have hm : (id - 1) * W ≤ 4194304 * 64 := Nat.mul_le_mul (by omega) hW
  have e3 : wrap64 ((lk W id n : Nat) : Int) = (lk W id n : Nat) := wrap_small (by unfold lk; omega)
  have e1 := lk_part (W := W) (n := n) h1
  have e2 : (((id - 1) * W : Nat) : Int) + (n : Int) = ((lk W id n : Nat) : Int) := by unfold lk; omega
  have e4 : wrap64 (((id - 1) * W : Nat) : Int) = (((id - 1) * W : Nat) : Int) := wrap_small (by omega)
  have e5 : wrap64 ((id : Int) - 1) = (id : Int) - 1 := by unfold wrap64; omega
  clear hm
  generalize (id - 1) * W = y at *
  generalize lk W id n = z at *
  go_enter Try.func82, Try.ntmps82
  go_wp2_with fail
  exact bodyPost_ret (v := .int .i64 (z : Int)) (by simp [results, Try.results82, go_sem, e3, e4]) rfl ⟨rfl, (by repeat (first | exact Below.refl _ _ | (with_reducible assumption) | refine bAlloc ?_ _ | refine below_drewN ?_ _ | refine Below.drew ?_ | (refine bSet ?_ (by first | (dsimp only; omega) | (simp; done) | (simp; omega)) _) | refine bTrans ?_ (by assumption)))⟩

section
variable (mb mm : Nat) (R : Nat → Nat) (L : List Spc) (a b : Nat) (h g : Int) (k W N P : Nat) (t : TT L k W N P)
include t
theorem TT.hw {w : World} (hm : MM w R mb mm L a b h g) {id : Nat} (h2 : id ≤ ent W (wds L k).length) : id ≤ 2097152 := Nat.le_trans h2 (ent_le t.w2 (hm.lens k t.hk))
set_option maxRecDepth 100000 in
set_option maxHeartbeats 1000000 in
theorem get_ok (id n : Nat) (h1 : 1 ≤ id) (h2 : id ≤ ent W (wds L k).length) (hn : n < W) (hv : (wds L k).getD (lk W id n) 0 ≤ 4194304) (w : World) (hm : MM w R mb mm L a b h g) : Calls Try.prog 57 #[tv (at0 mb) (k : Int) (W : Int) (N : Int) (P : Int), .int .i64 (id : Int), .int .i64 (n : Int)] w fun e w' => e = .returned (.int .i64 (((wds L k).getD (lk W id n) 0 : Nat) : Int)) ∧ MM w' R mb mm L (addv a 1) b h g ∧ TR R R w w' := by
  have AT := Lib.hid (fun w => at_any (at0 mb) (k : Int) W (N : Int) (P : Int) id n h1 (by have := t.hw mb mm R L a b h g k W N P hm h2; omega) t.w64 (by have := t.w64; omega) w)
  have RD := Lib.hid (fun w q => read_at mb mm R L a b h g w q k (lk W id n) t.hk t.ho (lk_lt h1 h2 hn))
  have HM := Lib.hid (hm.alloc (.cells #[at0 mb, .int .i64 (k : Int), .int .i64 (W : Int), .int .i64 (N : Int), .int .i64 (P : Int)] 75))
  have HI := Lib.hid hm.hi
  have B0 := boxed5 w (at0 mb) (k : Int) (W : Int) (N : Int) (P : Int)
  have ew : wrap64 (((wds L k).getD (lk W id n) 0 : Nat) : Int) = (((wds L k).getD (lk W id n) 0 : Nat) : Int) := wrap_small (by omega)
  clear hm t h1 h2 hn hv
  generalize (wds L k).getD (lk W id n) 0 = x at *
  generalize lk W id n = z at *
  have T0 : TR R R w (w.alloc (.cells #[at0 mb, .int .i64 (k : Int), .int .i64 (W : Int), .int .i64 (N : Int), .int .i64 (P : Int)] 75)) := (TR.refl R w).alloc _
  go_enter Try.func57, Try.ntmps57
  go_upto_region 1 with fail
  generalize w.alloc (.cells #[at0 mb, .int .i64 (k : Int), .int .i64 (W : Int), .int .i64 (N : Int), .int .i64 (P : Int)] 75) = w0 at *
  have KP := Lib.hid (show ∀ w', TR R R w0 w' → w'.cell? ⟨w.heap.size, 0, none⟩ = some (at0 mb) ∧ w'.cell? ⟨w.heap.size, 1, none⟩ = some (.int .i64 (k : Int)) ∧ w'.cell? ⟨w.heap.size, 2, none⟩ = some (.int .i64 (W : Int)) ∧ w'.cell? ⟨w.heap.size, 3, none⟩ = some (.int .i64 (N : Int)) ∧ w'.cell? ⟨w.heap.size, 4, none⟩ = some (.int .i64 (P : Int)) from fun w' q => by
    obtain ⟨x0, x1, x2, x3, x4, _, _⟩ := tc_all (B0.tr q (by have := HI.out w.heap.size; omega))
    exact ⟨x0, x1, x2, x3, x4⟩)
  have TT0 : TR R R w0 w0 := TR.refl R w0
  have BB0 : Below w0.heap.size w0 w0 := Below.refl _ _
  obtain ⟨x0, x1, x2, x3, x4, xf, xl⟩ := tc_all B0
  clear B0
  go_region_held3 (fun w' => w'.cell? ⟨w.heap.size, 0, none⟩ = some (at0 mb) ∧ w'.cell? ⟨w.heap.size, 1, none⟩ = some (.int .i64 (k : Int)) ∧ w'.cell? ⟨w.heap.size, 2, none⟩ = some (.int .i64 (W : Int)) ∧ w'.cell? ⟨w.heap.size, 3, none⟩ = some (.int .i64 (N : Int)) ∧ w'.cell? ⟨w.heap.size, 4, none⟩ = some (.int .i64 (P : Int)))
      (first | (refine KP.out _ ?_; repeat (first | with_reducible assumption | with_reducible refine TR.drew ?_)))
      (first
        | (go_at_call 82; with_reducible refine (AT.out _).mono ?_
           rintro e w1 ⟨rfl, b1⟩
           have BB1 : Below w0.heap.size w0 w1 := bTrans (by repeat (first | with_reducible assumption | with_reducible refine Below.drew ?_)) b1
           have TT1 : TR R R w0 w1 := TR.of BB1)
        | (go_at_call 36; with_reducible refine (RD.out _ ?_).mono ?_
           · refine HM.out.below ?_
             repeat (first | with_reducible assumption | with_reducible refine Below.drew ?_)
           rintro e w2 ⟨rfl, M2, T2⟩
           have TT2 : TR R R w0 w2 := TR.trans (by repeat (first | with_reducible assumption | with_reducible refine TR.drew ?_)) T2))
  all_goals
    go_wp2_with fail
    exact bodyPost_ret (v := .int .i64 (x : Int)) (by simp [results, Try.results57, go_sem, ew]) rfl ⟨rfl, M2, T0.trans TT2⟩
set_option maxRecDepth 100000 in
set_option maxHeartbeats 1000000 in
theorem set_ok (id n x : Nat) (h1 : 1 ≤ id) (h2 : id ≤ ent W (wds L k).length) (hn : n < W) (hx : x ≤ 4194304) (w : World) (hm : MM w R mb mm L a b h g) : Calls Try.prog 55 #[tv (at0 mb) (k : Int) (W : Int) (N : Int) (P : Int), .int .i64 (id : Int), .int .i64 (n : Int), .int .i64 (x : Int)] w fun e w' => e = .returned (.tuple #[]) ∧ MM w' R mb mm (setw L k ((wds L k).set (lk W id n) x)) a (addv b 1) h g ∧ TR R R w w' := by
  have HS0 := fun w q => has_ok mb mm R L a b h g k W N P t (id : Int) w q
  rw [hase_t (by omega) (by omega)] at HS0
  have HS := Lib.hid HS0
  have AT := Lib.hid (fun w => at_any (at0 mb) (k : Int) W (N : Int) (P : Int) id n h1 (by have := t.hw mb mm R L a b h g k W N P hm h2; omega) t.w64 (by have := t.w64; omega) w)
  have WT := Lib.hid (fun w q => write_at mb mm R L a b h g w q k (lk W id n) x t.hk t.ho (lk_lt h1 h2 hn))
  have HM := Lib.hid (hm.alloc (.cells #[at0 mb, .int .i64 (k : Int), .int .i64 (W : Int), .int .i64 (N : Int), .int .i64 (P : Int)] 75))
  have HI := Lib.hid hm.hi
  have B0 := boxed5 w (at0 mb) (k : Int) (W : Int) (N : Int) (P : Int)
  have ew : IntKind.u64.wrap (x : Int) = (x : Int) := by rw [IntKind.wrap_u64]; omega
  clear hm t h1 h2 hn HS0 hx
  generalize (wds L k).set (lk W id n) x = ws at *
  generalize lk W id n = z at *
  have T0 : TR R R w (w.alloc (.cells #[at0 mb, .int .i64 (k : Int), .int .i64 (W : Int), .int .i64 (N : Int), .int .i64 (P : Int)] 75)) := (TR.refl R w).alloc _
  go_enter Try.func55, Try.ntmps55
  go_wp2_with fail
  generalize w.alloc (.cells #[at0 mb, .int .i64 (k : Int), .int .i64 (W : Int), .int .i64 (N : Int), .int .i64 (P : Int)] 75) = w0 at *
  with_reducible refine (HS.out _ HM.out).mono ?_
  rintro e wa ⟨rfl, ba⟩
  dsimp only
  have KP := Lib.hid (show ∀ w', TR R R w0 w' → w'.cell? ⟨w.heap.size, 0, none⟩ = some (at0 mb) ∧ w'.cell? ⟨w.heap.size, 1, none⟩ = some (.int .i64 (k : Int)) ∧ w'.cell? ⟨w.heap.size, 2, none⟩ = some (.int .i64 (W : Int)) ∧ w'.cell? ⟨w.heap.size, 3, none⟩ = some (.int .i64 (N : Int)) ∧ w'.cell? ⟨w.heap.size, 4, none⟩ = some (.int .i64 (P : Int)) from fun w' q => by
    obtain ⟨x0, x1, x2, x3, x4, _, _⟩ := tc_all (B0.tr q (by have := HI.out w.heap.size; omega))
    exact ⟨x0, x1, x2, x3, x4⟩)
  have BB0 : Below w0.heap.size w0 wa := ba
  have TT0 : TR R R w0 wa := TR.of ba
  obtain ⟨x0, x1, x2, x3, x4, xf, xl⟩ := tc_all (B0.below ba)
  clear B0
  go_upto_region 2 with fail
  go_region_held3 (fun w' => w'.cell? ⟨w.heap.size, 0, none⟩ = some (at0 mb) ∧ w'.cell? ⟨w.heap.size, 1, none⟩ = some (.int .i64 (k : Int)) ∧ w'.cell? ⟨w.heap.size, 2, none⟩ = some (.int .i64 (W : Int)) ∧ w'.cell? ⟨w.heap.size, 3, none⟩ = some (.int .i64 (N : Int)) ∧ w'.cell? ⟨w.heap.size, 4, none⟩ = some (.int .i64 (P : Int)))
      (first | (refine KP.out _ ?_; repeat (first | with_reducible assumption | with_reducible refine TR.drew ?_)))
      (first
        | (go_at_call 82; with_reducible refine (AT.out _).mono ?_
           rintro e w1 ⟨rfl, b1⟩
           have BB1 : Below w0.heap.size w0 w1 := bTrans (by repeat (first | with_reducible assumption | with_reducible refine Below.drew ?_)) b1
           have TT1 : TR R R w0 w1 := TR.of BB1)
        | (go_at_call 28; with_reducible refine (WT.out _ ?_).mono ?_
           · refine HM.out.below ?_
             repeat (first | with_reducible assumption | with_reducible refine Below.drew ?_)
           rintro e w2 ⟨rfl, M2, T2⟩
           have TT2 : TR R R w0 w2 := TR.trans (by repeat (first | with_reducible assumption | with_reducible refine TR.drew ?_)) T2))
  all_goals
    go_wp2_with fail
    exact bodyPost_end (v := .tuple #[]) (by simp [results, Try.results55, go_sem]) rfl ⟨rfl, M2, T0.trans TT2⟩
end
end Go.Proofs.Ytlaldnfaeoimfaa
