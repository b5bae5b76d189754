/-
  haymowlaw03.DigitsNumbers: for any integer and any text the law returns true, and its arguments read afterwards as before.
-/
import Derived.Test.YthjobjfnakfliaaAwake03
import Derived.Test.YthjobjfnakfliaaRefRead
import Derived.Test.YthjobjfnakfliaaRefText
import Derived.Test.YthjobjfnakfliaaRows
import Derived.ProofKit
import Derived.OpenShut
import Derived.Lib.SmallJoins
namespace Go.Proofs.Ythjobjfnakfliaa.digitsNumbers
open Go.ChangeShapes Go.WideShapes Go.ChangeAt Go.RowKit Go.Joins
open Go.WideMaps Go.WideElems
open Go.ChangeMaps (open_string shut_string)
set_option linter.unusedVariables false

theorem own : ownKnob Try.prog.godebug = none := by kernel_rfl
theorem back_read (n : Int) (hn : Whole n) (w : World) : Calls Try.prog 8 #[.string (strOfNums (itext n))] w fun e w' => e = .returned (.tuple #[.int .i64 n, .int .i64 0]) ∧ Below w.heap.size w w' := by
  have h := read_any (strOfNums (itext n)) (by rw [strOfNums_size]; have := itext_len n; omega) w
  rw [readv_text hn.1 hn.2] at h
  exact h

set_option maxHeartbeats 1000000 in
set_option maxRecDepth 100000 in
theorem numbers_walk (n : Int) (s : ByteArray) (hn : Whole n) (ws : s.size ≤ maxLen) (w : World) : Calls Try.prog 3 #[.int .i64 n, .string s] w fun e w' => e = .returned (.bool true) ∧ Below w.heap.size w w' := by
  unfold maxLen at ws
  by_cases hs : s.size ≤ 200
  · have P := Lib.hid (fun w => read_any s (by omega) w)
    have Q := Lib.hid (fun w => refread_any s (by omega) w)
    have T := Lib.hid (fun w => text_any n hn w)
    have U := Lib.hid (fun w => reftext_any n hn w)
    have B := Lib.hid (fun w => back_read n hn w)
    have hs' : ¬ (200 : Int) < (s.size : Int) := by omega
    clear hn ws hs
    generalize strOfNums (itext n) = t at *
    generalize readv s = p at *
    obtain ⟨x, c⟩ := p
    go_enter Try.func3, Try.ntmps3
    go_wp2_with (first
      | (go_at_call 6; refine (awake_any _).mono ?_; rintro e w1 ⟨rfl, hb1⟩)
      | (go_at_call 7; refine (T.out _).mono ?_; rintro e w2 ⟨rfl, hb2⟩)
      | (go_at_call_of 8 (Value.string t); refine (B.out _).mono ?_; rintro e w3 ⟨rfl, hb3⟩)
      | (go_at_call_of 8 (Value.string s); refine (P.out _).mono ?_; rintro e w4 ⟨rfl, hb4⟩)
      | (go_at_call 9; refine (Q.out _).mono ?_; rintro e w5 ⟨rfl, hb5⟩)
      | (go_at_call 10; refine (U.out _).mono ?_; rintro e w6 ⟨rfl, hb6⟩))
    go_ret
    exact ⟨rfl, bTrans (bTrans (bTrans (bTrans (bTrans hb1 hb2) hb3) hb4) hb5) hb6⟩
  · have hs' : (200 : Int) < (s.size : Int) := by omega
    clear hn
    go_enter Try.func3, Try.ntmps3
    go_wp2_with (go_at_call 6; refine (awake_any _).mono ?_; rintro e w1 ⟨rfl, hb1⟩)
    go_ret
    exact ⟨rfl, hb1⟩

theorem whole_of_wf {n : Int} (h : (Lit.int .i64 n).wf = true) : Whole n := by
  simp [Lit.wf, IntKind.min, IntKind.max, IntKind.signed, IntKind.bits] at h
  exact ⟨by omega, by omega⟩

set_option maxRecDepth 100000 in
theorem lifted (os : Os) (started : os.Started) (H : Type) (enc : TypeId × Value → H) :
    ReturnsInHanded {} Try.checked os 3 .any (Rows.digitsNumbersSpec.pre6 enc Try.prog Try.f3 Rows.digitsNumbersRow.domain false) (Rows.digitsNumbersSpec.post enc Try.prog Try.f3 false true false false) := by
  refine returnsInHanded_of_change (C := Try.checked) own started (by kernel_rfl) Try.func3
    (ChangeSpec.witness6 (enc := enc) (C := Try.checked) false ⟨#[], #[.int .i64 0, .string ByteArray.empty], []⟩ 8 (by kernel_rfl) (by kernel_rfl) (by kernel_rfl) (by kernel_rfl)) ?_
  intro W base args ds gs before hval0 hW hcnd _
  have hval : ∀ (j : Nat) t v, Try.f3.params[j]? = some t → args[j]? = some v → Value.okWide Try.prog W .any base t v := hval0
  have hW' := hW
  obtain ⟨p, q, hA0, hV, rfl, hfz, hnd⟩ := hW
  have hA : DataW.TrodAll enc Try.prog W 0 (fun _ => true) true Try.f3.params.toList args.toList ds p := hA0
  rw [Try.params3] at hA hval
  obtain ⟨v0, v1, d0, d1, p0, p1, rfl, rfl, rfl, h0, h1⟩ := trodAll_two hA
  obtain ⟨rfl, rfl⟩ := trodVars_none hV
  obtain ⟨n, rfl, rfl, rfl, wn⟩ := open_int Try.underlying3 (hval 0 3 v0 rfl rfl) h0
  obtain ⟨s, rfl, rfl, rfl, ws⟩ := open_string Try.underlying9 (hval 1 9 v1 rfl rfl) h1
  clear hA0 hval0
  refine (numbers_walk n s (whole_of_wf wn) ws W).mono fun e W' ⟨he, bel⟩ => ?_
  subst he
  exact ⟨_, rfl, _, _, _, [], _, [], hW', trodAll_mk1 (shut_bool Try.underlying4 _), trodAll_mk2 (shut_int Try.underlying3 wn) (shut_string Try.underlying9 ws), rfl, bel.frame _, fun h => by cases h⟩

theorem proved : Rows.DigitsNumbersSaid :=
  OpenClaim.holds_of_wide 3 Try.f3 rfl rfl rfl rfl rfl rfl rfl ⟨rfl, rfl, rfl, rfl, rfl⟩ rfl rfl rfl rfl rfl (by kernel_rfl) Try.func3 (by kernel_rfl)
    (of_decide_eq_true (by kernel_rfl)) (by unfold Func.isWrapper; first | (rw [if_pos (by decide +kernel)]; kernel_rfl) | (rw [if_neg (by decide +kernel)]; exact ⟨rfl, rfl⟩))
    (fun os started H enc _ => lifted os started H enc)
#print axioms proved

end Go.Proofs.Ythjobjfnakfliaa.digitsNumbers
