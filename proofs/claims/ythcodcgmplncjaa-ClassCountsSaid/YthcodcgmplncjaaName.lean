/-
  Contracts of class.Name, haymowref04.Name; the chapter's examples hold.
-/
import Derived.Test.YthcodcgmplncjaaOf
import Derived.Test.YthcodcgmplncjaaRefText
namespace Go.Proofs.Ythcodcgmplncjaa
open Go.RowKit
set_option linter.unusedVariables false

/-- the text of a number -/
def ntxt (n : Nat) : ByteArray := strOfNums (itext n)
theorem ntxt_len (n : Nat) : (ntxt n).size ≤ 20 := by
  unfold ntxt itext
  rw [strOfNums_size, if_neg (by omega)]
  unfold dtext
  exact Nat.le_trans (dtextF_len 19 _) (by omega)
theorem text_n (n : Nat) (hn : n ≤ 9223372036854775807) (w : World) : Calls Try.prog 18 #[.int .i64 (n : Nat)] w fun e w' => e = .returned (.string (ntxt n)) ∧ Below w.heap.size w w' := text_any n ⟨by omega, by omega⟩ w
theorem reftext_n (n : Nat) (hn : n ≤ 9223372036854775807) (w : World) : Calls Try.prog 19 #[.int .i64 (n : Nat)] w fun e w' => e = .returned (.string (ntxt n)) ∧ Below w.heap.size w w' := reftext_any n ⟨by omega, by omega⟩ w
/-- the name of a class -/
def bname (c : Int) : ByteArray :=
  if 0 ≤ c ∧ c ≤ 13 then (if blo c.toNat = bhi c.toNat then ntxt (blo c.toNat) else ntxt (blo c.toNat) ++ ⟨#[45]⟩ ++ ntxt (bhi c.toNat)) else ⟨#[]⟩
theorem bname_no {c : Int} (h : ¬ (0 ≤ c ∧ c ≤ 13)) : bname c = ⟨#[]⟩ := by unfold bname; rw [if_neg h]
theorem bname_one {c : Nat} (h : c ≤ 13) (e : blo c = bhi c) : bname c = ntxt (blo c) := by unfold bname; rw [if_pos (by omega), Int.toNat_natCast, if_pos e]
theorem bname_two {c : Nat} (h : c ≤ 13) (e : ¬ blo c = bhi c) : bname c = ntxt (blo c) ++ ⟨#[45]⟩ ++ ntxt (bhi c) := by unfold bname; rw [if_pos (by omega), Int.toNat_natCast, if_neg e]
unseal blo bhi in
theorem bname_3 : bname 3 = ⟨#[53, 45, 56]⟩ := by decide +kernel
attribute [irreducible] ntxt bname

set_option maxRecDepth 100000 in
theorem name_any (c : Int) (w : World) : Calls Try.prog 11 #[.int .i64 c] w fun e w' => e = .returned (.string (bname c)) ∧ Below w.heap.size w w' := by
  by_cases h : 0 ≤ c ∧ c ≤ 13
  · obtain ⟨n, rfl⟩ : ∃ n : Nat, c = n := ⟨c.toNat, by omega⟩
    have hc : n ≤ 13 := by omega
    have bs := b_small hc
    have B := Lib.hid (fun w => bounds_is n hc w)
    have T1 := Lib.hid (fun w => text_n (blo n) (by omega) w)
    have T2 := Lib.hid (fun w => text_n (bhi n) (by omega) w)
    have l1 := ntxt_len (blo n)
    have l2 := ntxt_len (bhi n)
    have N1 := Lib.hid (fun e => bname_one hc e)
    have N2 := Lib.hid (fun e => bname_two hc e)
    clear h
    generalize ntxt (blo n) = t at *
    generalize ntxt (bhi n) = u at *
    generalize blo n = lo at *
    generalize bhi n = hi at *
    by_cases e : lo = hi
    · subst e
      have E := Lib.hid (N1.out rfl)
      clear N1 N2
      go_enter Try.func11, Try.ntmps11
      go_wp2_with (first
        | (go_at_call 7; refine (B.out _).mono ?_; rintro e w1 ⟨rfl, rfl⟩)
        | (go_at_call 18; refine (T1.out _).mono ?_; rintro e w2 ⟨rfl, hb2⟩))
      go_ret
      exact ⟨by rw [E.out]; rfl, hb2⟩
    · have E := Lib.hid (N2.out e)
      have ne : ((lo : Int) == (hi : Int)) = false := by simp; omega
      clear N1 N2
      go_enter Try.func11, Try.ntmps11
      go_wp2_with (first
        | (go_at_call 7; refine (B.out _).mono ?_; rintro e w1 ⟨rfl, rfl⟩)
        | (go_at_call_of 18 (Value.int .i64 ((lo : Nat) : Int)); refine (T1.out _).mono ?_; rintro e w2 ⟨rfl, hb2⟩)
        | (go_at_call_of 18 (Value.int .i64 ((hi : Nat) : Int)); refine (T2.out _).mono ?_; rintro e w3 ⟨rfl, hb3⟩))
      go_ret
      exact ⟨by rw [E.out]; rfl, bTrans hb2 hb3⟩
  · have B := Lib.hid (fun w => bounds_no c h w)
    have E := Lib.hid (bname_no h)
    clear h
    go_enter Try.func11, Try.ntmps11
    go_wp2_with (go_at_call 7; refine (B.out _).mono ?_; rintro e w1 ⟨rfl, rfl⟩)
    go_ret
    exact ⟨by rw [E.out]; rfl, Below.refl _ _⟩

set_option maxRecDepth 100000 in
theorem refname_any (c : Int) (w : World) : Calls Try.prog 12 #[.int .i64 c] w fun e w' => e = .returned (.string (bname c)) ∧ Below w.heap.size w w' := by
  by_cases h : 0 ≤ c ∧ c ≤ 13
  · obtain ⟨n, rfl⟩ : ∃ n : Nat, c = n := ⟨c.toNat, by omega⟩
    have hc : n ≤ 13 := by omega
    have bs := b_small hc
    have B := Lib.hid (fun w => refbounds_is n hc w)
    have T1 := Lib.hid (fun w => reftext_n (blo n) (by omega) w)
    have T2 := Lib.hid (fun w => reftext_n (bhi n) (by omega) w)
    have l1 := ntxt_len (blo n)
    have l2 := ntxt_len (bhi n)
    have N1 := Lib.hid (fun e => bname_one hc e)
    have N2 := Lib.hid (fun e => bname_two hc e)
    clear h
    generalize ntxt (blo n) = t at *
    generalize ntxt (bhi n) = u at *
    generalize blo n = lo at *
    generalize bhi n = hi at *
    by_cases e : lo = hi
    · subst e
      have E := Lib.hid (N1.out rfl)
      clear N1 N2
      go_enter Try.func12, Try.ntmps12
      go_wp2_with (first
        | (go_at_call 8; refine (B.out _).mono ?_; rintro e w1 ⟨rfl, rfl⟩)
        | (go_at_call 19; refine (T1.out _).mono ?_; rintro e w2 ⟨rfl, hb2⟩))
      go_ret
      exact ⟨by rw [E.out]; rfl, hb2⟩
    · have E := Lib.hid (N2.out e)
      have ne : ((lo : Int) == (hi : Int)) = false := by simp; omega
      clear N1 N2
      go_enter Try.func12, Try.ntmps12
      go_wp2_with (first
        | (go_at_call 8; refine (B.out _).mono ?_; rintro e w1 ⟨rfl, rfl⟩)
        | (go_at_call_of 19 (Value.int .i64 ((lo : Nat) : Int)); refine (T1.out _).mono ?_; rintro e w2 ⟨rfl, hb2⟩)
        | (go_at_call_of 19 (Value.int .i64 ((hi : Nat) : Int)); refine (T2.out _).mono ?_; rintro e w3 ⟨rfl, hb3⟩))
      go_ret
      exact ⟨by rw [E.out]; rfl, bTrans hb2 hb3⟩
  · have B := Lib.hid (fun w => refbounds_no c h w)
    have E := Lib.hid (bname_no h)
    clear h
    go_enter Try.func12, Try.ntmps12
    go_wp2_with (go_at_call 8; refine (B.out _).mono ?_; rintro e w1 ⟨rfl, rfl⟩)
    go_ret
    exact ⟨by rw [E.out]; rfl, Below.refl _ _⟩

theorem awake_of (w : World) : Calls Try.prog 9 #[.int .i64 5] w fun e w' => e = .returned (.int .i64 3) ∧ w = w' := by
  have h := of_any 5 ⟨by decide, by decide⟩ w
  rw [show cls 5 = 3 from cls_of 5 3 (by omega) (fun _ => by decide) (fun _ => by decide)] at h
  exact h
theorem awake_name (w : World) : Calls Try.prog 11 #[.int .i64 3] w fun e w' => e = .returned (.string ⟨#[53, 45, 56]⟩) ∧ Below w.heap.size w w' := by
  have h := name_any 3 w
  rw [bname_3] at h
  exact h
set_option maxRecDepth 100000 in
theorem awake_any (w : World) : Calls Try.prog 6 #[] w fun e w' => e = .returned (.bool true) ∧ Below w.heap.size w w' := by
  go_enter Try.func6, Try.ntmps6
  go_wp2_with (first
    | (go_at_call 9; refine (awake_of _).mono ?_; rintro e w1 ⟨rfl, rfl⟩)
    | (go_at_call 11; refine (awake_name _).mono ?_; rintro e w2 ⟨rfl, hb2⟩))
  go_ret
  exact ⟨rfl, hb2⟩

end Go.Proofs.Ythcodcgmplncjaa
