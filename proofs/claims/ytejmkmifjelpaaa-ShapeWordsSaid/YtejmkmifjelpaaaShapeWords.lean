/-
  haymowlaw13.ShapeWords: for any shape and any two numbers the law returns true, and its arguments read afterwards as before.
-/
import Derived.Test.YtejmkmifjelpaaaShpO
import Derived.Test.YtejmkmifjelpaaaShpW
namespace Go.Proofs.Ytejmkmifjelpaaa.shapeWords
open Go.ChangeShapes Go.WideShapes Go.ChangeAt Go.RowKit Go.Joins
open Go.WideMaps Go.WideElems
set_option linter.unusedVariables false

/-- what Slot answers -/
theorem slot_is (p r x : Int) (ok : Bool) (P : Nat) (h : rt p r = ok) (hp : ok = true ∧ p = P ∨ ok = false ∧ P = 0) : ∃ (a e : Int) (b : Bool), (b = true ∧ x < 0 ∧ a = 0 ∧ e = 32 ∨ b = true ∧ ¬ x < 0 ∧ (P : Int) ≤ x ∧ a = 0 ∧ e = 32 ∨ b = false ∧ ¬ x < 0 ∧ ¬ (P : Int) ≤ x ∧ a = x + 1 ∧ e = 0) ∧
    ∀ w, Calls Try.prog 19 #[sh p r, .int .i64 x] w fun t w' => t = .returned (.tuple #[.int .i64 a, .int .i64 e]) ∧ Below w.heap.size w w' := by
  by_cases c1 : x < 0
  · exact ⟨0, 32, true, .inl ⟨rfl, c1, rfl, rfl⟩, fun w => slot_no p r x (.inr (.inl c1)) w⟩
  · by_cases c2 : (P : Int) ≤ x
    · refine ⟨0, 32, true, .inr (.inl ⟨rfl, c1, c2, rfl, rfl⟩), fun w => slot_no p r x ?_ w⟩
      rcases hp with ⟨_, rfl⟩ | ⟨rfl, _⟩
      · exact .inr (.inr c2)
      · exact .inl h
    · refine ⟨x + 1, 0, false, .inr (.inr ⟨rfl, c1, c2, rfl, rfl⟩), fun w => ?_⟩
      rcases hp with ⟨rfl, rfl⟩ | ⟨_, rfl⟩
      · have k := slot_ok (P : Int) r x h (by omega) (by omega) w
        rw [show 1 + x = x + 1 by omega] at k
        exact k
      · exact absurd (show ((0 : Nat) : Int) ≤ x by omega) c2
/-- what Cell answers -/
theorem cell_is (p r y : Int) (ok : Bool) (P R : Nat) (h : rt p r = ok) (hp : ok = true ∧ p = P ∧ r = R ∨ ok = false ∧ P = 0 ∧ R = 0) : ∃ (b f : Int) (c : Bool), (c = true ∧ y < 0 ∧ b = 0 ∧ f = 32 ∨ c = true ∧ ¬ y < 0 ∧ (R : Int) ≤ y ∧ b = 0 ∧ f = 32 ∨ c = false ∧ ¬ y < 0 ∧ ¬ (R : Int) ≤ y ∧ b = P + y + 1 ∧ f = 0) ∧
    ∀ w, Calls Try.prog 20 #[sh p r, .int .i64 y] w fun t w' => t = .returned (.tuple #[.int .i64 b, .int .i64 f]) ∧ Below w.heap.size w w' := by
  by_cases c1 : y < 0
  · exact ⟨0, 32, true, .inl ⟨rfl, c1, rfl, rfl⟩, fun w => cell_no p r y (.inr (.inl c1)) w⟩
  · by_cases c2 : (R : Int) ≤ y
    · refine ⟨0, 32, true, .inr (.inl ⟨rfl, c1, c2, rfl, rfl⟩), fun w => cell_no p r y ?_ w⟩
      rcases hp with ⟨_, _, rfl⟩ | ⟨rfl, _, _⟩
      · exact .inr (.inr c2)
      · exact .inl h
    · refine ⟨P + y + 1, 0, false, .inr (.inr ⟨rfl, c1, c2, rfl, rfl⟩), fun w => ?_⟩
      rcases hp with ⟨rfl, rfl, rfl⟩ | ⟨_, _, rfl⟩
      · have k := cell_ok (P : Int) (R : Int) y h (by omega) (by omega) w
        rw [show 1 + (P : Int) + y = P + y + 1 by omega] at k
        exact k
      · exact absurd (show ((0 : Nat) : Int) ≤ y by omega) c2
/-- for any shape and any two numbers -/
theorem words_any13 (p r x y : Int) (w : World) : Calls Try.prog 5 #[sh p r, .int .i64 x, .int .i64 y] w fun e w' => e = .returned (.bool true) ∧ Below w.heap.size w w' := by
  obtain ⟨ok, hok⟩ : ∃ ok, rt p r = ok := ⟨_, rfl⟩
  obtain ⟨P, R, hPR, hp⟩ : ∃ P R : Nat, P + R ≤ 8190 ∧ (ok = true ∧ p = P ∧ r = R ∨ ok = false ∧ P = 0 ∧ R = 0) := by
    cases ok with
    | true =>
      obtain ⟨P, R, n, e1, e2, hP, hR, _, _⟩ := rt_nat hok
      exact ⟨P, R, by omega, .inl ⟨rfl, e1, e2⟩⟩
    | false => exact ⟨0, 0, by omega, .inr ⟨rfl, rfl, rfl⟩⟩
  have hp1 : ok = true ∧ p = P ∨ ok = false ∧ P = 0 := by
    rcases hp with ⟨a, b, _⟩ | ⟨a, b, _⟩
    · exact .inl ⟨a, b⟩
    · exact .inr ⟨a, b⟩
  obtain ⟨a, e, bx, hx, SX⟩ := slot_is p r x ok P hok hp1
  obtain ⟨b, f, bY, hy, CY⟩ := cell_is p r y ok P R hok hp
  have RR := fun w => refright_any p r w
  rw [hok] at RR
  refine words_walk p r x y a e b f ok bx bY P R (P + R) rfl hPR hp hx hy RR SX CY ?_ ?_ w
  · intro i m hi hm w
    rcases hp1 with ⟨rfl, rfl⟩ | ⟨_, rfl⟩
    · have k := slot_ok (P : Int) r (i : Int) hok (by omega) (by omega) w
      rw [show 1 + (i : Int) = (m : Int) by omega] at k
      exact k
    · exact absurd hi (Nat.not_lt_zero i)
  · intro i m hi hm w
    rcases hp with ⟨rfl, rfl, rfl⟩ | ⟨_, _, rfl⟩
    · have k := cell_ok (P : Int) (R : Int) (i : Int) hok (by omega) (by omega) w
      rw [show 1 + (P : Int) + (i : Int) = (m : Int) by omega] at k
      exact k
    · exact absurd hi (Nat.not_lt_zero i)

set_option maxRecDepth 100000 in
theorem lifted (os : Os) (started : os.Started) (H : Type) (enc : TypeId × Value → H) :
    ReturnsInHanded {} Try.checked os 5 .any (Rows.shapeWordsSpec.pre6 enc Try.prog Try.f5 Rows.shapeWordsRow.domain false) (Rows.shapeWordsSpec.post enc Try.prog Try.f5 false true false false) := by
  refine returnsInHanded_of_change (C := Try.checked) own started (by kernel_rfl) Try.func5
    (ChangeSpec.witness6 (enc := enc) (C := Try.checked) false ⟨#[], #[.agg #[.int .i64 0, .int .i64 0], .int .i64 0, .int .i64 0], []⟩ 8 (by kernel_rfl) (by kernel_rfl) (by kernel_rfl) (by kernel_rfl)) ?_
  intro W base args ds gs before hval0 hW hcnd _
  have hval : ∀ (j : Nat) t v, Try.f5.params[j]? = some t → args[j]? = some v → Value.okWide Try.prog W .any base t v := hval0
  have hW' := hW
  obtain ⟨p, q, hA0, hV, rfl, hfz, hnd⟩ := hW
  have hA : DataW.TrodAll enc Try.prog W 0 (fun _ => true) true Try.f5.params.toList args.toList ds p := hA0
  rw [Try.params5] at hA hval
  obtain ⟨v0, v1, v2, d0, d1, d2, p0, p1, p2, rfl, rfl, rfl, h0, h1, h2⟩ := trodAll_three hA
  obtain ⟨rfl, rfl⟩ := trodVars_none hV
  have lt0 : ∀ z ∈ p0, z.block < W.heap.size := by obtain ⟨m, hm⟩ := h0; exact DataW.trod_lt m _ _ _ hm
  obtain ⟨x, y, rfl, wx, wy⟩ := sh_of_trod (hval 0 23 v0 rfl rfl) h0
  obtain ⟨s, rfl, rfl, rfl, ws⟩ := open_int Try.underlying3 (hval 1 3 v1 rfl rfl) h1
  obtain ⟨t, rfl, rfl, rfl, wt⟩ := open_int Try.underlying3 (hval 2 3 v2 rfl rfl) h2
  clear hA0 hval0
  refine (words_any13 x y s t W).mono fun e W' ⟨he, bel⟩ => ?_
  subst he
  exact ⟨_, rfl, _, _, _, [], _, [], hW', trodAll_mk1 (shut_bool Try.underlying4 _), trodAll_mk3 (Below.trod laidOut (by kernel_rfl) (of_decide_eq_true (by kernel_rfl)) h0 bel lt0) (shut_int Try.underlying3 ws) (shut_int Try.underlying3 wt), rfl, bel.frame _, fun h => by cases h⟩

theorem proved : Rows.ShapeWordsSaid :=
  OpenClaim.holds_of_wide 5 Try.f5 rfl rfl rfl rfl rfl rfl rfl ⟨rfl, rfl, rfl, rfl, rfl⟩ rfl rfl rfl rfl rfl (by kernel_rfl) Try.func5 (by kernel_rfl)
    (of_decide_eq_true (by kernel_rfl)) (by unfold Func.isWrapper; first | (rw [if_pos (by decide +kernel)]; kernel_rfl) | (rw [if_neg (by decide +kernel)]; exact ⟨rfl, rfl⟩))
    (fun os started H enc _ => lifted os started H enc)
#print axioms proved

end Go.Proofs.Ytejmkmifjelpaaa.shapeWords
