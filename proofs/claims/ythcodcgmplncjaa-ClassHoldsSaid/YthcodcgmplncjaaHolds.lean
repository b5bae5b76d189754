/-
  haymowlaw04.ClassHolds: for any two numbers of 16 bits the law returns true, and its arguments read afterwards as before.
-/
import Derived.Test.YthcodcgmplncjaaName
import Derived.Test.YthcodcgmplncjaaRows
import Derived.ProofKit
import Derived.OpenShut
import Derived.Lib.SmallJoins
namespace Go.Proofs.Ythcodcgmplncjaa.classHolds
open Go.ChangeShapes Go.WideShapes Go.ChangeAt Go.RowKit Go.Joins
open Go.WideMaps Go.WideElems
set_option linter.unusedVariables false

theorem own : ownKnob Try.prog.godebug = none := by kernel_rfl
set_option maxHeartbeats 2000000 in
set_option maxRecDepth 100000 in
theorem holds_walk (n m : Nat) (hn : n < 65536) (hm : m < 65536) (w : World) : Calls Try.prog 4 #[.int .u16 (n : Nat), .int .u16 (m : Nat)] w fun e w' => e = .returned (.bool true) ∧ Below w.heap.size w w' := by
  have en : (n : Int) % 8192 = ((n % 8192 : Nat) : Int) := by omega
  have em : (m : Int) % 8192 = ((m % 8192 : Nat) : Int) := by omega
  have ln : n % 8192 < 8192 := by omega
  have lm : m % 8192 < 8192 := by omega
  generalize n % 8192 = a at *
  generalize m % 8192 = b at *
  obtain ⟨x, hx⟩ : ∃ x, 1 + (a : Int) = x := ⟨_, rfl⟩
  obtain ⟨y, hy⟩ : ∃ y, 1 + (b : Int) = y := ⟨_, rfl⟩
  have x1 : 1 ≤ x := by omega
  have x2 : x ≤ 8192 := by omega
  have y1 : 1 ≤ y := by omega
  have y2 : y ≤ 8192 := by omega
  have AA := Lib.hid (fun w => of_any x ⟨by omega, by omega⟩ w)
  have BB := Lib.hid (fun w => of_any y ⟨by omega, by omega⟩ w)
  have IN := Lib.hid (fun c (h : c ≤ 13) => within x1 x2 h)
  have MU := Lib.hid (fun (h : x ≤ y) => cls_mono h)
  have MD := Lib.hid (fun (h : y ≤ x) => cls_mono h)
  have la := cls_le x
  have lb := cls_le y
  clear ln lm
  generalize cls x = p at *
  generalize cls y = q at *
  go_enter Try.func4, Try.ntmps4
  go_wp2_with (go_at_call 6; refine (awake_any _).mono ?_; rintro e w1 ⟨rfl, hb1⟩)
  clear en em hx hy hn hm
  go_loop [7] (fun cv => ∃ c : Nat, c ≤ 14 ∧ cv = .int .i64 (c : Nat)) (fun cv => (14 - intOf cv).toNat)
  case atStart => exact ⟨0, by omega, rfl⟩
  case round =>
    obtain ⟨c, hc, rfl⟩ := hrel
    by_cases l : c < 14
    · have l2 : (c : Int) < 14 := by omega
      have BS := Lib.hid (fun w => bounds_is c (by omega) w)
      have iff := IN.out c (by omega)
      clear IN
      generalize blo c = lo at *
      generalize bhi c = hi at *
      by_cases c1 : (lo : Int) ≤ x
      · by_cases c2 : x ≤ (hi : Int)
        · obtain rfl : p = c := iff.1 ⟨c1, c2⟩
          clear iff
          go_wp2_with (first
            | (go_at_call 7; refine (BS.out _).mono ?_; rintro e w2 ⟨rfl, rfl⟩)
            | (go_at_call 9; refine (AA.out _).mono ?_; rintro e w3 ⟨rfl, rfl⟩))
          go_round
          case rel => exact ⟨p + 1, by omega, by go_num⟩
          case measure => simp [intOf]; omega
        · have ne : ((p : Int) == (c : Int)) = false := by
            simp; intro h; exact c2 (iff.2 (by omega)).2
          clear iff
          go_wp2_with (first
            | (go_at_call 7; refine (BS.out _).mono ?_; rintro e w2 ⟨rfl, rfl⟩)
            | (go_at_call 9; refine (AA.out _).mono ?_; rintro e w3 ⟨rfl, rfl⟩))
          go_round
          case rel => exact ⟨c + 1, by omega, by go_num⟩
          case measure => simp [intOf]; omega
      · have ne : ((p : Int) == (c : Int)) = false := by
          simp; intro h; exact c1 (iff.2 (by omega)).1
        clear iff
        go_wp2_with (first
          | (go_at_call 7; refine (BS.out _).mono ?_; rintro e w2 ⟨rfl, rfl⟩)
          | (go_at_call 9; refine (AA.out _).mono ?_; rintro e w3 ⟨rfl, rfl⟩))
        go_round
        case rel => exact ⟨c + 1, by omega, by go_num⟩
        case measure => simp [intOf]; omega
    · obtain rfl : c = 14 := by omega
      clear IN
      rcases Int.lt_trichotomy x y with h | h | h
      · have o1 : ¬ y < x := by omega
        have o3 : (p : Int) ≤ (q : Int) := by have := MU.out (by omega); omega
        go_wp2_with (first
          | (go_at_call_of 9 (Value.int .i64 x); refine (AA.out _).mono ?_; rintro e w3 ⟨rfl, rfl⟩)
          | (go_at_call_of 9 (Value.int .i64 y); refine (BB.out _).mono ?_; rintro e w3 ⟨rfl, rfl⟩))
        go_ret
        exact ⟨rfl, hb1⟩
      · subst h
        have o3 : p = q := by have := MU.out (by omega); have := MD.out (by omega); omega
        subst o3
        go_wp2_with (first
          | (go_at_call 9; refine (AA.out _).mono ?_; rintro e w3 ⟨rfl, rfl⟩))
        go_ret
        exact ⟨rfl, hb1⟩
      · have o1 : ¬ x < y := by omega
        have o3 : (q : Int) ≤ (p : Int) := by have := MD.out (by omega); omega
        go_wp2_with (first
          | (go_at_call_of 9 (Value.int .i64 x); refine (AA.out _).mono ?_; rintro e w3 ⟨rfl, rfl⟩)
          | (go_at_call_of 9 (Value.int .i64 y); refine (BB.out _).mono ?_; rintro e w3 ⟨rfl, rfl⟩))
        go_ret
        exact ⟨rfl, hb1⟩

theorem word_of_wf {x : Int} (h : (Lit.int .u16 x).wf = true) : ∃ y : Nat, x = (y : Int) ∧ y < 65536 := by
  simp [Lit.wf, IntKind.min, IntKind.max, IntKind.signed, IntKind.bits] at h
  exact ⟨x.toNat, by omega, by omega⟩

set_option maxRecDepth 100000 in
theorem lifted (os : Os) (started : os.Started) (H : Type) (enc : TypeId × Value → H) :
    ReturnsInHanded {} Try.checked os 4 .any (Rows.classHoldsSpec.pre6 enc Try.prog Try.f4 Rows.classHoldsRow.domain false) (Rows.classHoldsSpec.post enc Try.prog Try.f4 false true false false) := by
  refine returnsInHanded_of_change (C := Try.checked) own started (by kernel_rfl) Try.func4
    (ChangeSpec.witness6 (enc := enc) (C := Try.checked) false ⟨#[], #[.int .u16 0, .int .u16 0], []⟩ 8 (by kernel_rfl) (by kernel_rfl) (by kernel_rfl) (by kernel_rfl)) ?_
  intro W base args ds gs before hval0 hW hcnd _
  have hval : ∀ (j : Nat) t v, Try.f4.params[j]? = some t → args[j]? = some v → Value.okWide Try.prog W .any base t v := hval0
  have hW' := hW
  obtain ⟨p, q, hA0, hV, rfl, hfz, hnd⟩ := hW
  have hA : DataW.TrodAll enc Try.prog W 0 (fun _ => true) true Try.f4.params.toList args.toList ds p := hA0
  rw [Try.params4] at hA hval
  obtain ⟨v0, v1, d0, d1, p0, p1, rfl, rfl, rfl, h0, h1⟩ := trodAll_two hA
  obtain ⟨rfl, rfl⟩ := trodVars_none hV
  obtain ⟨n, rfl, rfl, rfl, wn⟩ := open_int Try.underlying28 (hval 0 28 v0 rfl rfl) h0
  obtain ⟨m, rfl, rfl, rfl, wm⟩ := open_int Try.underlying28 (hval 1 28 v1 rfl rfl) h1
  clear hA0 hval0
  obtain ⟨n, rfl, hn⟩ := word_of_wf wn
  obtain ⟨m, rfl, hm⟩ := word_of_wf wm
  refine (holds_walk n m hn hm W).mono fun e W' ⟨he, bel⟩ => ?_
  subst he
  exact ⟨_, rfl, _, _, _, [], _, [], hW', trodAll_mk1 (shut_bool Try.underlying4 _), trodAll_mk2 (shut_int Try.underlying28 wn) (shut_int Try.underlying28 wm), rfl, bel.frame _, fun h => by cases h⟩

theorem proved : Rows.ClassHoldsSaid :=
  OpenClaim.holds_of_wide 4 Try.f4 rfl rfl rfl rfl rfl rfl rfl ⟨rfl, rfl, rfl, rfl, rfl⟩ rfl rfl rfl rfl rfl (by kernel_rfl) Try.func4 (by kernel_rfl)
    (of_decide_eq_true (by kernel_rfl)) (by unfold Func.isWrapper; first | (rw [if_pos (by decide +kernel)]; kernel_rfl) | (rw [if_neg (by decide +kernel)]; exact ⟨rfl, rfl⟩))
    (fun os started H enc _ => lifted os started H enc)
#print axioms proved

end Go.Proofs.Ythcodcgmplncjaa.classHolds
