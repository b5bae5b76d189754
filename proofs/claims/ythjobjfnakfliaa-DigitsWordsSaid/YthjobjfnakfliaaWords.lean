/-
  haymowlaw03.DigitsWords: for any word and any text the law returns true, and its arguments read afterwards as before.
-/
import Derived.Test.YthjobjfnakfliaaAwake03
import Derived.Test.YthjobjfnakfliaaReadHex2
import Derived.Test.YthjobjfnakfliaaRows
import Derived.ProofKit
import Derived.OpenShut
import Derived.Lib.SmallJoins
namespace Go.Proofs.Ythjobjfnakfliaa.digitsWords
open Go.ChangeShapes Go.WideShapes Go.ChangeAt Go.RowKit Go.Joins
open Go.WideMaps Go.WideElems
open Go.ChangeMaps (open_string shut_string)
set_option linter.unusedVariables false

theorem own : ownKnob Try.prog.godebug = none := by kernel_rfl
theorem hread_text {x : Nat} (hx : x < 18446744073709551616) : hread (strOfNums (htext x)) = some x := by
  have l : (strOfNums (htext x)).size = 16 := by rw [strOfNums_size]; unfold htext; exact htextF_len 16 x
  unfold hread
  rw [if_pos l, str_list]
  unfold htext
  exact hrun_text 16 x hx
theorem back_hex (x : Nat) (hx : x < 18446744073709551616) (w : World) : Calls Try.prog 17 #[.string (strOfNums (htext x))] w fun e w' => e = .returned (.tuple #[.int .u64 (x : Nat), .int .i64 0]) ∧ Below w.heap.size w w' := by
  have h := readhex_any (strOfNums (htext x)) (by rw [strOfNums_size]; unfold htext; rw [htextF_len]; decide) w
  rw [hread_text hx] at h
  exact h
theorem both_hex (s : ByteArray) (hs : s.size ≤ maxLen) : ∃ (v c : Int) (ok : Bool), ((c = 0 ∧ ok = true) ∨ (c = 5 ∧ ok = false)) ∧ (∀ w, Calls Try.prog 17 #[.string s] w fun e w' => e = .returned (.tuple #[.int .u64 v, .int .i64 c]) ∧ Below w.heap.size w w') ∧ (∀ w, Calls Try.prog 18 #[.string s] w fun e w' => e = .returned (.tuple #[.int .u64 v, .bool ok]) ∧ Below w.heap.size w w') := by
  have p := fun w => readhex_any s hs w
  have q := fun w => refreadhex_any s hs w
  cases r : hread s with
  | none => rw [r] at p q; exact ⟨0, 5, false, .inr ⟨rfl, rfl⟩, p, q⟩
  | some v => rw [r] at p q; exact ⟨v, 0, true, .inl ⟨rfl, rfl⟩, p, q⟩

set_option maxHeartbeats 1000000 in
set_option maxRecDepth 100000 in
theorem words_walk (x : Nat) (s : ByteArray) (hx : x < 18446744073709551616) (ws : s.size ≤ maxLen) (w : World) : Calls Try.prog 5 #[.int .u64 (x : Int), .string s] w fun e w' => e = .returned (.bool true) ∧ Below w.heap.size w w' := by
  obtain ⟨v, c, ok, hc, p, q⟩ := both_hex s ws
  have P := Lib.hid p
  have Q := Lib.hid q
  have T := Lib.hid (fun w => hex_any x hx w)
  have U := Lib.hid (fun w => refhex_any x hx w)
  have B := Lib.hid (fun w => back_hex x hx w)
  clear p q hx ws
  generalize strOfNums (htext x) = t at *
  rcases hc with ⟨rfl, rfl⟩ | ⟨rfl, rfl⟩
  all_goals
    go_enter Try.func5, Try.ntmps5
    go_wp2_with (first
      | (go_at_call 6; refine (awake_any _).mono ?_; rintro e w1 ⟨rfl, hb1⟩)
      | (go_at_call 16; refine (T.out _).mono ?_; rintro e w2 ⟨rfl, hb2⟩)
      | (go_at_call_of 17 (Value.string t); refine (B.out _).mono ?_; rintro e w3 ⟨rfl, hb3⟩)
      | (go_at_call_of 17 (Value.string s); refine (P.out _).mono ?_; rintro e w4 ⟨rfl, hb4⟩)
      | (go_at_call 18; refine (Q.out _).mono ?_; rintro e w5 ⟨rfl, hb5⟩)
      | (go_at_call 19; refine (U.out _).mono ?_; rintro e w6 ⟨rfl, hb6⟩))
    go_ret
    exact ⟨rfl, bTrans (bTrans (bTrans (bTrans (bTrans hb1 hb2) hb3) hb4) hb5) hb6⟩

theorem word_of_wf {x : Int} (h : (Lit.int .u64 x).wf = true) : ∃ y : Nat, x = (y : Int) ∧ y < 18446744073709551616 := by
  simp [Lit.wf, IntKind.min, IntKind.max, IntKind.signed, IntKind.bits] at h
  exact ⟨x.toNat, by omega, by omega⟩

set_option maxRecDepth 100000 in
theorem lifted (os : Os) (started : os.Started) (H : Type) (enc : TypeId × Value → H) :
    ReturnsInHanded {} Try.checked os 5 .any (Rows.digitsWordsSpec.pre6 enc Try.prog Try.f5 Rows.digitsWordsRow.domain false) (Rows.digitsWordsSpec.post enc Try.prog Try.f5 false true false false) := by
  refine returnsInHanded_of_change (C := Try.checked) own started (by kernel_rfl) Try.func5
    (ChangeSpec.witness6 (enc := enc) (C := Try.checked) false ⟨#[], #[.int .u64 0, .string ByteArray.empty], []⟩ 8 (by kernel_rfl) (by kernel_rfl) (by kernel_rfl) (by kernel_rfl)) ?_
  intro W base args ds gs before hval0 hW hcnd _
  have hval : ∀ (j : Nat) t v, Try.f5.params[j]? = some t → args[j]? = some v → Value.okWide Try.prog W .any base t v := hval0
  have hW' := hW
  obtain ⟨p, q, hA0, hV, rfl, hfz, hnd⟩ := hW
  have hA : DataW.TrodAll enc Try.prog W 0 (fun _ => true) true Try.f5.params.toList args.toList ds p := hA0
  rw [Try.params5] at hA hval
  obtain ⟨v0, v1, d0, d1, p0, p1, rfl, rfl, rfl, h0, h1⟩ := trodAll_two hA
  obtain ⟨rfl, rfl⟩ := trodVars_none hV
  obtain ⟨x, rfl, rfl, rfl, wx⟩ := open_int Try.underlying39 (hval 0 39 v0 rfl rfl) h0
  obtain ⟨s, rfl, rfl, rfl, ws⟩ := open_string Try.underlying9 (hval 1 9 v1 rfl rfl) h1
  clear hA0 hval0
  obtain ⟨x, rfl, hx⟩ := word_of_wf wx
  refine (words_walk x s hx ws W).mono fun e W' ⟨he, bel⟩ => ?_
  subst he
  exact ⟨_, rfl, _, _, _, [], _, [], hW', trodAll_mk1 (shut_bool Try.underlying4 _), trodAll_mk2 (shut_int Try.underlying39 wx) (shut_string Try.underlying9 ws), rfl, bel.frame _, fun h => by cases h⟩

theorem proved : Rows.DigitsWordsSaid :=
  OpenClaim.holds_of_wide 5 Try.f5 rfl rfl rfl rfl rfl rfl rfl ⟨rfl, rfl, rfl, rfl, rfl⟩ rfl rfl rfl rfl rfl (by kernel_rfl) Try.func5 (by kernel_rfl)
    (of_decide_eq_true (by kernel_rfl)) (by unfold Func.isWrapper; first | (rw [if_pos (by decide +kernel)]; kernel_rfl) | (rw [if_neg (by decide +kernel)]; exact ⟨rfl, rfl⟩))
    (fun os started H enc _ => lifted os started H enc)
#print axioms proved

end Go.Proofs.Ythjobjfnakfliaa.digitsWords
