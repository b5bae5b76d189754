/-
  header.Older, Forwarded; the chapter's examples.
-/
import Derived.Test.YtcfdjbjfnciifaaDoorHdrG
import Derived.Test.YtcfdjbjfnciifaaDoorHdrP
namespace Go.Proofs.YtcfdjbjfnciifaaDoor
open Go.RowKit
set_option linter.unusedVariables false

/-- Unpack of any word -/
theorem unpackh_no (x : Nat) (hx : x < 18446744073709551616) (h : isH x = false) (w : World) (F : FT w) :
    Calls Tryd.prog 10 #[.int .u64 (x : Int)] w fun e w' => e = .returned (.tuple #[hd 0 0 0 0 false, .int .i64 5]) ∧ Below w.heap.size w w' := by
  have k := isH_false hx rfl rfl
  rw [h] at k
  refine unpack_no x _ _ hx rfl rfl ?_ w F
  simp only [Bool.false_eq, Bool.and_eq_false_iff, decide_eq_false_iff_not] at k
  exact k
theorem unpackh_ok (x : Nat) (hx : x < 18446744073709551616) (h : isH x = true) (w : World) (F : FT w) :
    Calls Tryd.prog 10 #[.int .u64 (x : Int)] w fun e w' => e = .returned (.tuple #[hd (x % 4096 : Nat) (x / 4096 % 4096 : Nat) (x / 16777216 % 32 : Nat) (x / 536870912 % 8 : Nat) (decide (x / 4294967296 % 2 = 1)), .int .i64 0]) ∧ Below w.heap.size w w' := by
  have k := isH_false hx rfl rfl
  rw [h] at k
  have k := Bool.and_eq_true_iff.1 k.symm
  exact unpack_yes x _ _ _ _ _ _ hx (of_decide_eq_true k.1) (of_decide_eq_true k.2) (g0 x) (g1 x) (g2 x) (g3 x) (g4 x) (isone _) w F
theorem unpackh_hw (P R S A : Nat) (l : Bool) (hP : P < 4096) (hR : R < 4096) (hS : S < 32) (hA : A < 8) (w : World) (F : FT w) :
    Calls Tryd.prog 10 #[.int .u64 (hw P R S A l : Nat)] w fun e w' => e = .returned (.tuple #[hd P R S A l, .int .i64 0]) ∧ Below w.heap.size w w' := by
  obtain ⟨k, k0, k1, k2, k3, k4, k5⟩ := isH_hw (l := l) hP hR hS hA
  have h := unpackh_ok (hw P R S A l) (Nat.lt_trans k5 (by decide)) k w F
  rw [k0, k1, k2, k3, k4] at h
  have e : decide (bn l = 1) = l := by cases l <;> unfold bn <;> rfl
  rw [e] at h
  exact h

set_option maxRecDepth 100000 in
theorem older_no (x : Nat) (hx : x < 18446744073709551616) (h : isH x = false) (w : World) (F : FT w) :
    Calls Tryd.prog 11 #[.int .u64 (x : Int)] w fun e w' => e = .returned (.tuple #[.int .u64 0, .int .i64 5]) ∧ Below w.heap.size w w' := by
  have U := Lib.hid (fun w F => unpackh_no x hx h w F)
  have F0 := Lib.hid F
  clear hx h F
  go_enter Tryd.func11, Tryd.ntmps11
  go_wp2_with (go_at_call 10; (with_reducible refine (U.out _ F0.out).mono ?_); rintro e w1 ⟨rfl, hb1⟩)
  go_ret2
  exact ⟨rfl, (by repeat (first | exact Below.refl _ _ | (with_reducible assumption) | refine bAlloc ?_ _ | refine below_drewN ?_ _ | refine Below.drew ?_ | (refine bSet ?_ (by first | (dsimp only; omega) | (simp; done) | (simp; omega)) _) | refine bTrans ?_ (by assumption)))⟩

set_option maxRecDepth 100000 in
theorem older_walk (x P R S A B y : Nat) (l : Bool) (hA : A < 8) (hB : (A < 7 ∧ B = A + 1) ∨ (A = 7 ∧ B = 7))
    (U : ∀ w, FT w → Calls Tryd.prog 10 #[.int .u64 (x : Int)] w fun e w' => e = .returned (.tuple #[hd P R S A l, .int .i64 0]) ∧ Below w.heap.size w w')
    (PK : ∀ w, FT w → Calls Tryd.prog 8 #[hd P R S B l] w fun e w' => e = .returned (.tuple #[.int .u64 (y : Int), .int .i64 0]) ∧ Below w.heap.size w w') (w : World) (F : FT w) :
    Calls Tryd.prog 11 #[.int .u64 (x : Int)] w fun e w' => e = .returned (.tuple #[.int .u64 (y : Int), .int .i64 0]) ∧ Below w.heap.size w w' := by
  have HU := Lib.hid U
  have HP := Lib.hid PK
  have F0 := Lib.hid F
  clear U PK F
  obtain ⟨c, ec⟩ : ∃ c : Int, (A : Int) + 1 = c := ⟨_, rfl⟩
  have w1 : IntKind.i64.wrap c = c := by rw [IntKind.wrap_i64]; omega
  have w2 : wrap64 c = c := by unfold wrap64; omega
  have m : ∃ d : Int, min c 7 = d ∧ (B : Int) = d := by
    rcases hB with ⟨h7, rfl⟩ | ⟨rfl, rfl⟩
    · exact ⟨c, by omega, by omega⟩
    · exact ⟨7, by omega, by omega⟩
  obtain ⟨d, m, e⟩ := m
  rw [e] at HP
  clear hA hB e
  go_enter Tryd.func11, Tryd.ntmps11
  go_wp2_with (first
    | (go_at_call 10; (with_reducible refine (HU.out _ F0.out).mono ?_); rintro e w1 ⟨rfl, hb1⟩)
    | (go_at_call 8; (with_reducible refine (HP.out _ (F0.out.below (bAlloc hb1 _))).mono ?_); rintro e w2 ⟨rfl, hb2⟩))
  go_ret2
  exact ⟨rfl, (by repeat (first | exact Below.refl _ _ | (with_reducible assumption) | refine bAlloc ?_ _ | refine below_drewN ?_ _ | refine Below.drew ?_ | (refine bSet ?_ (by first | (dsimp only; omega) | (simp; done) | (simp; omega)) _) | refine bTrans ?_ (by assumption)))⟩
theorem older_hw (P R S A : Nat) (l : Bool) (hP : P < 4096) (hR : R < 4096) (hS : S < 32) (hA : A < 8) (w : World) (F : FT w) :
    Calls Tryd.prog 11 #[.int .u64 (hw P R S A l : Nat)] w fun e w' => e = .returned (.tuple #[.int .u64 (hw P R S (min (A + 1) 7) l : Nat), .int .i64 0]) ∧ Below w.heap.size w w' :=
  older_walk _ P R S A (min (A + 1) 7) _ l hA (by omega) (fun w F => unpackh_hw P R S A l hP hR hS hA w F) (fun w F => packh_ok P R S _ l hP hR hS (by omega) w F) w F

set_option maxRecDepth 100000 in
theorem forwarded_no (x k u : Nat) (hx : x < 18446744073709551616) (hk : getv x 62 2 = k) (hu : getv x 22 40 = u) (h : k ≠ 2 ∨ u ≠ 0) (w : World) (F : FR w) :
    Calls Tryd.prog 16 #[.int .u64 (x : Int)] w fun e w' => e = .returned (.tuple #[.int .i64 0, .bool false]) ∧ Below w.heap.size w w' := by
  have G1 := Lib.hid (fun w => getl x 62 2 k 62 2 (k : Int) rfl rfl rfl hx (by decide) (by decide) hk w)
  have G2 := Lib.hid (fun w => getl x 22 40 u 22 40 (u : Int) rfl rfl rfl hx (by decide) (by decide) hu w)
  obtain ⟨a0, a1⟩ := F.ft.kind
  have F0 := Lib.hid F
  clear hk hu hx F
  by_cases c : k = 2
  · subst c
    have two : ((2 : Nat) : Int) = 2 := rfl
    rw [two] at G1
    clear two
    have t := ne_nul (h.resolve_left (by simp))
    clear h
    go_enter Tryd.func16, Tryd.ntmps16
    go_wp2_with (go_at_call 21; (first
      | ((with_reducible refine (G1.out _).mono ?_); rintro e w1 ⟨rfl, hb1⟩; have k0 : w1.cell? ⟨7, 0, none⟩ = some (.int .i64 22) := (F0.out.below hb1).rest.1; have k1 : w1.cell? ⟨7, 1, none⟩ = some (.int .i64 40) := (F0.out.below hb1).rest.2)
      | ((with_reducible refine (G2.out _).mono ?_); rintro e w2 ⟨rfl, hb2⟩)))
    go_ret2
    exact ⟨rfl, bTrans hb1 hb2⟩
  · have t := ne_two c
    clear h c
    go_enter Tryd.func16, Tryd.ntmps16
    go_wp2_with (go_at_call 21; (with_reducible refine (G1.out _).mono ?_); rintro e w1 ⟨rfl, hb1⟩)
    go_ret2
    exact ⟨rfl, hb1⟩
set_option maxRecDepth 100000 in
theorem forwarded_yes (x n : Nat) (hx : x < 18446744073709551616) (hk : getv x 62 2 = 2) (hu : getv x 22 40 = 0) (hn : getv x 0 22 = n) (w : World) (F : FR w) :
    Calls Tryd.prog 16 #[.int .u64 (x : Int)] w fun e w' => e = .returned (.tuple #[.int .i64 (n : Int), .bool true]) ∧ Below w.heap.size w w' := by
  have b0 := getv_lt x 0 22
  have G1 := Lib.hid (fun w => getl x 62 2 2 62 2 2 rfl rfl rfl hx (by decide) (by decide) hk w)
  have G2 := Lib.hid (fun w => getl x 22 40 0 22 40 0 rfl rfl rfl hx (by decide) (by decide) hu w)
  have N0 := Lib.hid (fun w => numl x 0 22 n 0 22 rfl rfl hx (by decide) (by decide) hn (by omega) w)
  obtain ⟨a0, a1⟩ := F.ft.kind
  have F0 := Lib.hid F
  clear hk hu hx F hn b0
  go_enter Tryd.func16, Tryd.ntmps16
  go_wp2_with (first
    | (go_at_call 21; (first
      | ((with_reducible refine (G1.out _).mono ?_); rintro e w1 ⟨rfl, hb1⟩; have k0 : w1.cell? ⟨7, 0, none⟩ = some (.int .i64 22) := (F0.out.below hb1).rest.1; have k1 : w1.cell? ⟨7, 1, none⟩ = some (.int .i64 40) := (F0.out.below hb1).rest.2)
      | ((with_reducible refine (G2.out _).mono ?_); rintro e w2 ⟨rfl, hb2⟩; have k2 : w2.cell? ⟨8, 0, none⟩ = some (.int .i64 0) := ((F0.out.below hb1).below hb2).ft.index.1; have k3 : w2.cell? ⟨8, 1, none⟩ = some (.int .i64 22) := ((F0.out.below hb1).below hb2).ft.index.2)))
    | (go_at_call 22; (with_reducible refine (N0.out _).mono ?_); rintro e w3 ⟨rfl, hb3⟩))
  go_ret2
  exact ⟨rfl, bTrans (bTrans hb1 hb2) hb3⟩
theorem forwarded_any (x n : Nat) (hx : x < 18446744073709551616) (hn : n = if isF x then x % 4194304 else 0) (w : World) (F : FR w) :
    Calls Tryd.prog 16 #[.int .u64 (x : Int)] w fun e w' => e = .returned (.tuple #[.int .i64 (n : Int), .bool (isF x)]) ∧ Below w.heap.size w w' := by
  have k := isF_false hx rfl rfl
  cases h : isF x
  · rw [h] at k hn
    subst hn
    refine forwarded_no x _ _ hx rfl rfl ?_ w F
    simp only [Bool.false_eq, Bool.and_eq_false_iff, decide_eq_false_iff_not] at k
    exact k
  · rw [h] at k hn
    have k := Bool.and_eq_true_iff.1 k.symm
    exact forwarded_yes x n hx (of_decide_eq_true k.1) (of_decide_eq_true k.2) (by rw [g6]; exact hn.symm) w F

theorem one_two : hw 1 2 0 0 false = 4611686018427396097 := by unfold hw bn; rfl
theorem awake_pack (w : World) (F : FT w) : Calls Tryd.prog 8 #[hd 1 2 0 0 false] w fun e w' => e = .returned (.tuple #[.int .u64 4611686018427396097, .int .i64 0]) ∧ Below w.heap.size w w' := by
  have h := packh_ok 1 2 0 0 false (by decide) (by decide) (by decide) (by decide) w F
  rw [one_two] at h
  exact h
theorem awake_forw (w : World) (F : FT w) : Calls Tryd.prog 18 #[.int .i64 5] w fun e w' => e = .returned (.tuple #[.int .u64 9223372036854775813, .int .i64 0]) ∧ Below w.heap.size w w' :=
  forward_ok 5 (by decide) w F
set_option maxRecDepth 100000 in
theorem awake_any (w : World) (F : FT w) : Calls Tryd.prog 6 #[] w fun e w' => e = .returned (.bool true) ∧ Below w.heap.size w w' := by
  have F0 := Lib.hid F
  clear F
  go_enter Tryd.func6, Tryd.ntmps6
  go_wp2_with (first
    | (go_at_call 8; (with_reducible refine (awake_pack _ F0.out).mono ?_); rintro e w1 ⟨rfl, hb1⟩)
    | (go_at_call 18; (with_reducible refine (awake_forw _ (F0.out.below hb1)).mono ?_); rintro e w2 ⟨rfl, hb2⟩))
  go_ret
  exact ⟨rfl, bTrans hb1 hb2⟩

end Go.Proofs.YtcfdjbjfnciifaaDoor
