/-
  haymowlaw05.VarintZigs: for any integer and any word the law returns true, and its arguments read afterwards as before.
-/
import Derived.Test.YtkobdfenlkcehaaZig
import Derived.Test.YtkobdfenlkcehaaRows
import Derived.ProofKit
import Derived.OpenShut
import Derived.Lib.SmallJoins
namespace Go.Proofs.Ytkobdfenlkcehaa.varintZigs
open Go.ChangeShapes Go.WideShapes Go.ChangeAt Go.RowKit Go.Joins
open Go.WideMaps Go.WideElems
set_option linter.unusedVariables false

theorem own : ownKnob Try.prog.godebug = none := by kernel_rfl
set_option maxHeartbeats 1000000 in
set_option maxRecDepth 100000 in
theorem zigs_walk (n : Int) (x : Nat) (hn : Whole n) (hx : x < 18446744073709551616) (w : World) : Calls Try.prog 6 #[.int .i64 n, .int .u64 (x : Int)] w fun e w' => e = .returned (.bool true) ∧ Below w.heap.size w w' := by
  have zl := zig_lt hn.1 hn.2
  have za := fun w => zag_any (zig n) zl w
  rw [zag_zig] at za
  have zc := fun w => zig_any (zag x) (zag_whole hx) w
  rw [zig_zag] at zc
  have ZN := Lib.hid (fun w => zig_any n hn w)
  have ZA := Lib.hid za
  have ZB := Lib.hid (fun w => zag_any x hx w)
  have ZC := Lib.hid zc
  have SZ := Lib.hid (fun w => size_any (zig n) zl w)
  have odd := zig_odd n
  have one := zig_small n
  obtain ⟨h1, h2⟩ := hn
  clear za zc
  have em : ((zig n : Nat) : Int) % 2 = ((zig n % 2 : Nat) : Int) := by omega
  generalize (enc (zig n)).length = l at *
  generalize zig n = z at *
  generalize zag x = y at *
  generalize z % 2 = m at *
  by_cases c : n < 0
  · have t1 : ((m : Int) == 1) = true := by have := odd.2 c; simp; omega
    by_cases c2 : -64 ≤ n
    · have t2 : ((l : Int) == 1) = true := by have := one.2 ⟨c2, by omega⟩; simp; omega
      have t3 : n ≤ 63 := by omega
      clear odd one zl hx
      go_enter Try.func6, Try.ntmps6
      go_wp2_with (first
        | (go_at_call 7; refine (awake_any _).mono ?_; rintro e w1 ⟨rfl, hb1⟩)
        | (go_at_call_of 17 (Value.int .i64 n); refine (ZN.out _).mono ?_; rintro e w2 ⟨rfl, rfl⟩)
        | (go_at_call_of 17 (Value.int .i64 y); refine (ZC.out _).mono ?_; rintro e w2 ⟨rfl, rfl⟩)
        | (go_at_call_of 18 (Value.int .u64 ((z : Nat) : Int)); refine (ZA.out _).mono ?_; rintro e w2 ⟨rfl, rfl⟩)
        | (go_at_call_of 18 (Value.int .u64 ((x : Nat) : Int)); refine (ZB.out _).mono ?_; rintro e w2 ⟨rfl, rfl⟩)
        | (go_at_call 10; refine (SZ.out _).mono ?_; rintro e w2 ⟨rfl, rfl⟩))
      go_ret
      exact ⟨rfl, hb1⟩
    · have t2 : ((l : Int) == 1) = false := by have : ¬ l = 1 := fun h => c2 (one.1 h).1; simp; omega
      clear odd one zl hx
      go_enter Try.func6, Try.ntmps6
      go_wp2_with (first
        | (go_at_call 7; refine (awake_any _).mono ?_; rintro e w1 ⟨rfl, hb1⟩)
        | (go_at_call_of 17 (Value.int .i64 n); refine (ZN.out _).mono ?_; rintro e w2 ⟨rfl, rfl⟩)
        | (go_at_call_of 17 (Value.int .i64 y); refine (ZC.out _).mono ?_; rintro e w2 ⟨rfl, rfl⟩)
        | (go_at_call_of 18 (Value.int .u64 ((z : Nat) : Int)); refine (ZA.out _).mono ?_; rintro e w2 ⟨rfl, rfl⟩)
        | (go_at_call_of 18 (Value.int .u64 ((x : Nat) : Int)); refine (ZB.out _).mono ?_; rintro e w2 ⟨rfl, rfl⟩)
        | (go_at_call 10; refine (SZ.out _).mono ?_; rintro e w2 ⟨rfl, rfl⟩))
      go_ret
      exact ⟨rfl, hb1⟩
  · have t1 : ((m : Int) == 1) = false := by have : ¬ m = 1 := fun h => c (odd.1 h); simp; omega
    by_cases c2 : n ≤ 63
    · have t2 : ((l : Int) == 1) = true := by have := one.2 ⟨by omega, c2⟩; simp; omega
      have t3 : -64 ≤ n := by omega
      clear odd one zl hx
      go_enter Try.func6, Try.ntmps6
      go_wp2_with (first
        | (go_at_call 7; refine (awake_any _).mono ?_; rintro e w1 ⟨rfl, hb1⟩)
        | (go_at_call_of 17 (Value.int .i64 n); refine (ZN.out _).mono ?_; rintro e w2 ⟨rfl, rfl⟩)
        | (go_at_call_of 17 (Value.int .i64 y); refine (ZC.out _).mono ?_; rintro e w2 ⟨rfl, rfl⟩)
        | (go_at_call_of 18 (Value.int .u64 ((z : Nat) : Int)); refine (ZA.out _).mono ?_; rintro e w2 ⟨rfl, rfl⟩)
        | (go_at_call_of 18 (Value.int .u64 ((x : Nat) : Int)); refine (ZB.out _).mono ?_; rintro e w2 ⟨rfl, rfl⟩)
        | (go_at_call 10; refine (SZ.out _).mono ?_; rintro e w2 ⟨rfl, rfl⟩))
      go_ret
      exact ⟨rfl, hb1⟩
    · have t2 : ((l : Int) == 1) = false := by have : ¬ l = 1 := fun h => c2 (one.1 h).2; simp; omega
      have t3 : -64 ≤ n := by omega
      clear odd one zl hx
      go_enter Try.func6, Try.ntmps6
      go_wp2_with (first
        | (go_at_call 7; refine (awake_any _).mono ?_; rintro e w1 ⟨rfl, hb1⟩)
        | (go_at_call_of 17 (Value.int .i64 n); refine (ZN.out _).mono ?_; rintro e w2 ⟨rfl, rfl⟩)
        | (go_at_call_of 17 (Value.int .i64 y); refine (ZC.out _).mono ?_; rintro e w2 ⟨rfl, rfl⟩)
        | (go_at_call_of 18 (Value.int .u64 ((z : Nat) : Int)); refine (ZA.out _).mono ?_; rintro e w2 ⟨rfl, rfl⟩)
        | (go_at_call_of 18 (Value.int .u64 ((x : Nat) : Int)); refine (ZB.out _).mono ?_; rintro e w2 ⟨rfl, rfl⟩)
        | (go_at_call 10; refine (SZ.out _).mono ?_; rintro e w2 ⟨rfl, rfl⟩))
      go_ret
      exact ⟨by show Ending.returned (.bool (!decide (n ≤ 63))) = _; rw [decide_eq_false (by omega)]; rfl, hb1⟩

theorem whole_of_wf {n : Int} (h : (Lit.int .i64 n).wf = true) : Whole n := by
  simp [Lit.wf, IntKind.min, IntKind.max, IntKind.signed, IntKind.bits] at h
  exact ⟨by omega, by omega⟩
theorem word_of_wf {x : Int} (h : (Lit.int .u64 x).wf = true) : ∃ y : Nat, x = (y : Int) ∧ y < 18446744073709551616 := by
  simp [Lit.wf, IntKind.min, IntKind.max, IntKind.signed, IntKind.bits] at h
  exact ⟨x.toNat, by omega, by omega⟩

set_option maxRecDepth 100000 in
theorem lifted (os : Os) (started : os.Started) (H : Type) (enc : TypeId × Value → H) :
    ReturnsInHanded {} Try.checked os 6 .any (Rows.varintZigsSpec.pre6 enc Try.prog Try.f6 Rows.varintZigsRow.domain false) (Rows.varintZigsSpec.post enc Try.prog Try.f6 false true false false) := by
  refine returnsInHanded_of_change (C := Try.checked) own started (by kernel_rfl) Try.func6
    (ChangeSpec.witness6 (enc := enc) (C := Try.checked) false ⟨#[], #[.int .i64 0, .int .u64 0], []⟩ 8 (by kernel_rfl) (by kernel_rfl) (by kernel_rfl) (by kernel_rfl)) ?_
  intro W base args ds gs before hval0 hW hcnd _
  have hval : ∀ (j : Nat) t v, Try.f6.params[j]? = some t → args[j]? = some v → Value.okWide Try.prog W .any base t v := hval0
  have hW' := hW
  obtain ⟨p, q, hA0, hV, rfl, hfz, hnd⟩ := hW
  have hA : DataW.TrodAll enc Try.prog W 0 (fun _ => true) true Try.f6.params.toList args.toList ds p := hA0
  rw [Try.params6] at hA hval
  obtain ⟨v0, v1, d0, d1, p0, p1, rfl, rfl, rfl, h0, h1⟩ := trodAll_two hA
  obtain ⟨rfl, rfl⟩ := trodVars_none hV
  obtain ⟨n, rfl, rfl, rfl, wn⟩ := open_int Try.underlying3 (hval 0 3 v0 rfl rfl) h0
  obtain ⟨m, rfl, rfl, rfl, wm⟩ := open_int Try.underlying22 (hval 1 22 v1 rfl rfl) h1
  clear hA0 hval0
  obtain ⟨m, rfl, hm⟩ := word_of_wf wm
  refine (zigs_walk n m (whole_of_wf wn) hm W).mono fun e W' ⟨he, bel⟩ => ?_
  subst he
  exact ⟨_, rfl, _, _, _, [], _, [], hW', trodAll_mk1 (shut_bool Try.underlying4 _), trodAll_mk2 (shut_int Try.underlying3 wn) (shut_int Try.underlying22 wm), rfl, bel.frame _, fun h => by cases h⟩

theorem proved : Rows.VarintZigsSaid :=
  OpenClaim.holds_of_wide 6 Try.f6 rfl rfl rfl rfl rfl rfl rfl ⟨rfl, rfl, rfl, rfl, rfl⟩ rfl rfl rfl rfl rfl (by kernel_rfl) Try.func6 (by kernel_rfl)
    (of_decide_eq_true (by kernel_rfl)) (by unfold Func.isWrapper; first | (rw [if_pos (by decide +kernel)]; kernel_rfl) | (rw [if_neg (by decide +kernel)]; exact ⟨rfl, rfl⟩))
    (fun os started H enc _ => lifted os started H enc)
#print axioms proved

end Go.Proofs.Ytkobdfenlkcehaa.varintZigs
