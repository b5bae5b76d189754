/-
  The contract of haymowref03.Read.
-/
import Derived.Test.YthjobjfnakfliaaRead
namespace Go.Proofs.Ythjobjfnakfliaa
open Go.RowKit
set_option linter.unusedVariables false

/-- the reference's own test of a text's head -/
def headGood (s t : ByteArray) : Prop := ∃ h : 0 < t.size, ¬ (t[0].toNat : Int) = 48 ∨ ¬ (1 : Int) < (s.size : Int)
theorem good_ok {s t : ByteArray} {neg : Bool} (sp : Split s t neg) (hh : headGood s t) (hd : ∀ i, isDig t i) : decP t ∧ ¬ (neg = true ∧ t.toList = [48]) := by
  obtain ⟨h0, h1⟩ := hh
  refine ⟨⟨⟨h0, ?_⟩, hd⟩, ?_⟩
  · rcases h1 with h | h
    · exact .inr h
    · left; have := sp.size; omega
  · rintro ⟨n, e⟩
    have k := (sp.minus n).2.1
    have z := head_at e h0
    rcases h1 with h | h
    · rw [z] at h; exact h rfl
    · omega
theorem bad_form {s t : ByteArray} {neg : Bool} (sp : Split s t neg) (h : ¬ headGood s t ∨ ∃ i, ¬ isDig t i) : ¬ decP t ∨ (neg = true ∧ t.toList = [48]) := by
  rcases h with h | ⟨i, h⟩
  · by_cases d : decP t
    · right
      obtain ⟨⟨h0, h1⟩, hd⟩ := d
      have e : (t[0].toNat : Int) = 48 := by
        by_cases e : (t[0].toNat : Int) = 48
        · exact e
        · exact absurd ⟨h0, .inl e⟩ h
      have l1 : (1 : Int) < (s.size : Int) := by
        by_cases l : (1 : Int) < (s.size : Int)
        · exact l
        · exact absurd ⟨h0, .inr l⟩ h
      have z : t.size = 1 := h1.resolve_right (fun k => k e)
      refine ⟨?_, one_is z e⟩
      cases n : neg with
      | true => rfl
      | false => have := (sp.plus n).1; subst this; omega
    · exact .inl d
  · exact .inl fun d => h (d.2 i)

set_option maxHeartbeats 1000000 in
set_option maxRecDepth 100000 in
theorem refread_head (s t : ByteArray) (neg : Bool) (sp : Split s t neg) (hs : s.size ≤ 100000) (h : ¬ headGood s t) (w : World) : Calls Try.prog 9 #[.string s] w fun e w' => e = .returned (.tuple #[.int .i64 0, .int .i64 5]) ∧ Below w.heap.size w w' := by
  cases neg
  · obtain ⟨rfl, h45⟩ := sp.plus rfl
    by_cases c : t.size = 0
    · have e1 : ¬ (0 : Int) < (t.size : Int) := by omega
      have e2 : ((t.size : Int) == 0) = true := by simp [c]
      clear h h45 sp c
      go_enter Try.func9, Try.ntmps9
      go_wp2_with fail
      go_ret2
      exact ⟨rfl, (by repeat (first | exact Below.refl _ _ | (with_reducible assumption) | refine bAlloc ?_ _ | refine below_drewN ?_ _ | refine Below.drew ?_ | (refine bSet ?_ (by first | (dsimp only; omega) | (simp; done) | (simp; omega)) _) | refine bTrans ?_ (by assumption)))⟩
    · have h0 : 0 < t.size := by omega
      have e1 : (0 : Int) < (t.size : Int) := by omega
      have e2 : ((t.size : Int) == 0) = false := beq_eq_false_iff_ne.2 (by omega)
      have e3 := h45 h0
      have e4 : (t[0].toNat : Int) = 48 := by
        by_cases e : (t[0].toNat : Int) = 48
        · exact e
        · exact absurd ⟨h0, .inl e⟩ h
      have e5 : (1 : Int) < (t.size : Int) := by
        by_cases l : (1 : Int) < (t.size : Int)
        · exact l
        · exact absurd ⟨h0, .inr l⟩ h
      clear h h45 sp c
      go_enter Try.func9, Try.ntmps9
      go_wp2_with fail
      go_ret2
      exact ⟨rfl, (by repeat (first | exact Below.refl _ _ | (with_reducible assumption) | refine bAlloc ?_ _ | refine below_drewN ?_ _ | refine Below.drew ?_ | (refine bSet ?_ (by first | (dsimp only; omega) | (simp; done) | (simp; omega)) _) | refine bTrans ?_ (by assumption)))⟩
  · obtain ⟨_, k, ex, h0, e45⟩ := sp.minus rfl
    have e1 : (0 : Int) < (s.size : Int) := by omega
    by_cases c : t.size = 0
    · have e2 : ((t.size : Int) == 0) = true := by simp [c]
      clear h sp c k
      go_enter Try.func9, Try.ntmps9
      go_wp2_with fail
      go_ret2
      exact ⟨rfl, (by repeat (first | exact Below.refl _ _ | (with_reducible assumption) | refine bAlloc ?_ _ | refine below_drewN ?_ _ | refine Below.drew ?_ | (refine bSet ?_ (by first | (dsimp only; omega) | (simp; done) | (simp; omega)) _) | refine bTrans ?_ (by assumption)))⟩
    · have t0 : 0 < t.size := by omega
      have e2 : ((t.size : Int) == 0) = false := beq_eq_false_iff_ne.2 (by omega)
      have e4 : (t[0].toNat : Int) = 48 := by
        by_cases e : (t[0].toNat : Int) = 48
        · exact e
        · exact absurd ⟨t0, .inl e⟩ h
      have e5 : (1 : Int) < (s.size : Int) := by omega
      clear h sp c k
      go_enter Try.func9, Try.ntmps9
      go_wp2_with fail
      go_ret2
      exact ⟨rfl, (by repeat (first | exact Below.refl _ _ | (with_reducible assumption) | refine bAlloc ?_ _ | refine below_drewN ?_ _ | refine Below.drew ?_ | (refine bSet ?_ (by first | (dsimp only; omega) | (simp; done) | (simp; omega)) _) | refine bTrans ?_ (by assumption)))⟩

theorem three_heads {s t : ByteArray} {neg : Bool} (sp : Split s t neg) (hh : headGood s t) :
    (neg = false ∧ t = s ∧ ∃ h : 0 < s.size, (0 : Int) < (s.size : Int) ∧ ((s.size : Int) == 0) = false ∧ ¬ (s[0].toNat : Int) = 45 ∧ (¬ (s[0].toNat : Int) = 48 ∨ ((s[0].toNat : Int) = 48 ∧ ¬ (1 : Int) < (s.size : Int)))) ∨
    (neg = true ∧ s.extract 1 s.size = t ∧ (0 : Int) < (s.size : Int) ∧ ((t.size : Int) == 0) = false ∧ ((t.size : Int) == (s.size : Int)) = false ∧ (∃ h : 0 < s.size, (s[0].toNat : Int) = 45) ∧ ∃ h : 0 < t.size, ¬ (t[0].toNat : Int) = 48) := by
  obtain ⟨h0, h1⟩ := hh
  cases neg
  · left
    obtain ⟨rfl, h45⟩ := sp.plus rfl
    refine ⟨rfl, rfl, h0, by omega, beq_eq_false_iff_ne.2 (by omega), h45 h0, ?_⟩
    by_cases c : (t[0].toNat : Int) = 48
    · exact .inr ⟨c, h1.resolve_left (fun k => k c)⟩
    · exact .inl c
  · right
    obtain ⟨_, k, ex, g0, e45⟩ := sp.minus rfl
    exact ⟨rfl, ex, by omega, beq_eq_false_iff_ne.2 (by omega), beq_eq_false_iff_ne.2 (by omega), ⟨g0, e45⟩, h0, h1.resolve_right (fun k => k (by omega))⟩

set_option maxHeartbeats 1000000 in
set_option maxRecDepth 100000 in
theorem refread_no (s t : ByteArray) (neg : Bool) (sp : Split s t neg) (hs : s.size ≤ 100000) (hh : headGood s t) (hb : ∃ i, ¬ isDig t i) (w : World) : Calls Try.prog 9 #[.string s] w fun e w' => e = .returned (.tuple #[.int .i64 0, .int .i64 5]) ∧ Below w.heap.size w w' := by
  obtain ⟨i0, b1, b2, b3⟩ : ∃ i, i < t.size ∧ ¬ isDig t i ∧ ∀ j, j < i → isDig t j := by
    rcases first_bad (isDig t) t.size with a | a
    · obtain ⟨i, hi⟩ := hb
      exact absurd (by
        by_cases c : i < t.size
        · exact a i c
        · exact fun d => absurd d c) hi
    · exact a
  have ht := sp.size
  have HA := Lib.hid b3
  have HB := Lib.hid b2
  have T3 := three_heads sp hh
  clear b3 b2 hb sp hh
  rcases T3 with ⟨hn, rfl, h0, e1, e2, e3, e4 | ⟨e4, e5⟩⟩ | ⟨hn, ex, e1, e2, e6, ⟨g0, e3⟩, h0, e4⟩
  all_goals
    clear hn
    go_enter Try.func9, Try.ntmps9
    go_wp2_with fail
    go_loop [5] (fun i => ∃ k : Nat, k ≤ i0 ∧ i = .int .i64 k) (fun i => t.size - (intOf i).toNat)
    case atStart => exact ⟨0, by omega, rfl⟩
    case round =>
      obtain ⟨k, hk, rfl⟩ := hrel
      have hlt : k < t.size := by omega
      by_cases hki : k < i0
      · obtain ⟨d0, d1⟩ := HA.out k hki hlt
        try (exfalso; omega)
        all_goals go_wp2
        all_goals go_round
        all_goals first | exact ⟨k + 1, by omega, by go_num⟩ | (simp [intOf]; omega)
      · obtain rfl : k = i0 := by omega
        have nb : (t[k].toNat : Int) < 48 ∨ 57 < (t[k].toNat : Int) := by
          have h := HB.out
          unfold isDig at h
          rcases Int.lt_or_le (t[k].toNat : Int) 48 with a | a
          · exact .inl a
          · rcases Int.lt_or_le 57 (t[k].toNat : Int) with b | b
            · exact .inr b
            · exact absurd (fun _ => ⟨a, b⟩) h
        rcases nb with nb | nb
        · go_wp2
          go_ret2
          exact ⟨rfl, (by repeat (first | exact Below.refl _ _ | (with_reducible assumption) | refine bAlloc ?_ _ | refine below_drewN ?_ _ | refine Below.drew ?_ | (refine bSet ?_ (by first | (dsimp only; omega) | (simp; done) | (simp; omega)) _) | refine bTrans ?_ (by assumption)))⟩
        · have nb2 : ¬ (t[k].toNat : Int) < 48 := by omega
          go_wp2
          go_ret2
          exact ⟨rfl, (by repeat (first | exact Below.refl _ _ | (with_reducible assumption) | refine bAlloc ?_ _ | refine below_drewN ?_ _ | refine Below.drew ?_ | (refine bSet ?_ (by first | (dsimp only; omega) | (simp; done) | (simp; omega)) _) | refine bTrans ?_ (by assumption)))⟩

/-- what a round of the sum finds -/
structure SInv (t : ByteArray) (k v : Nat) : Prop where
  le : k ≤ t.size
  eq : dval 0 t.toList = dval v (t.toList.drop k)
  lt : v < 10 ^ k
theorem SInv.next {t : ByteArray} {k v : Nat} (I : SInv t k v) (h : k < t.size) (h1 : (t[k].toNat : Int) ≤ 57) : SInv t (k + 1) (v * 10 + (t[k].toNat - 48)) := by
  refine ⟨by omega, ?_, ?_⟩
  · rw [I.eq, drop_cons h, dval_cons]
  · have := I.lt; rw [pow10_succ]; omega
theorem SInv.fin {t : ByteArray} {v : Nat} (I : SInv t t.size v) : dval 0 t.toList = v := by rw [I.eq, drop_end, dval_nil]
theorem SInv.small {t : ByteArray} {k v : Nat} (I : SInv t k v) (h : k < 19) : v < 1000000000000000000 := by
  have : 10 ^ k ≤ 10 ^ 18 := Nat.pow_le_pow_right (by omega) (by omega)
  have e : 10 ^ 18 = 1000000000000000000 := by decide
  have := I.lt
  omega
theorem SInv.small2 {t : ByteArray} {k v : Nat} (I : SInv t k v) (h : k ≤ 19) : v < 10000000000000000000 := by
  have : 10 ^ k ≤ 10 ^ 19 := Nat.pow_le_pow_right (by omega) (by omega)
  have e : 10 ^ 19 = 10000000000000000000 := by decide
  have := I.lt
  omega
theorem most_t : most true = 9223372036854775808 := by unfold most; rfl
theorem most_f : most false = 9223372036854775807 := by unfold most; rfl

set_option maxHeartbeats 2000000 in
set_option maxRecDepth 100000 in
theorem refread_run (s t : ByteArray) (neg : Bool) (sp : Split s t neg) (hs : s.size ≤ 100000) (hh : headGood s t) (hd : ∀ i, isDig t i) (w : World) : Calls Try.prog 9 #[.string s] w fun e w' => e = .returned (.tuple #[.int .i64 (readT neg t).1, .int .i64 (readT neg t).2]) ∧ Below w.heap.size w w' := by
  have ok := good_ok sp hh hd
  have RNG := Lib.hid (fun k => readT_range ok.1 ok.2 k)
  have OK := Lib.hid (fun v k l => @readT_ok neg t v ok.1 ok.2 k l)
  have LONG := Lib.hid (fun h0 h1 h2 => @dval_long t h0 h1 (hd 0) h2)
  have ht := sp.size
  have HA := Lib.hid hd
  have T3 := three_heads sp hh
  clear sp hh hd ok
  rcases T3 with ⟨rfl, rfl, h0, e1, e2, e3, e4 | ⟨e4, e5⟩⟩ | ⟨rfl, ex, e1, e2, e6, ⟨g0, e3⟩, h0, e4⟩
  all_goals
    go_enter Try.func9, Try.ntmps9
    go_wp2_with fail
    go_loop [5] (fun i => ∃ k : Nat, k ≤ t.size ∧ i = .int .i64 k) (fun i => t.size - (intOf i).toNat)
    case atStart => exact ⟨0, by omega, rfl⟩
    case round =>
      obtain ⟨k, hk, rfl⟩ := hrel
      by_cases hlt : k < t.size
      · obtain ⟨d0, d1⟩ := HA.out k hlt
        go_wp2
        go_round
        case rel => exact ⟨k + 1, by omega, by go_num⟩
        case measure => simp [intOf]; try omega
      · obtain rfl : k = t.size := by omega
        by_cases hl : 19 < t.size
        · have hl2 : (19 : Int) < (t.size : Int) := by omega
          have big : 10000000000000000000 ≤ dval 0 t.toList := by
            first
              | exact LONG.out h0 e4 hl
              | (exfalso; omega)
          have fin := RNG.out (by first | (rw [most_f]; omega) | (rw [most_t]; omega))
          have FIN := Lib.hid fin
          clear big fin hk
          go_wp2
          go_ret2
          exact ⟨pair_eq FIN.out rfl, (by repeat (first | exact Below.refl _ _ | (with_reducible assumption) | refine bAlloc ?_ _ | refine below_drewN ?_ _ | refine Below.drew ?_ | (refine bSet ?_ (by first | (dsimp only; omega) | (simp; done) | (simp; omega)) _) | refine bTrans ?_ (by assumption)))⟩
        · have hl2 : ¬ (19 : Int) < (t.size : Int) := by omega
          clear hk
          go_wp2
          go_loop [6, 7] (fun z i => ∃ k v : Nat, i = .int .i64 k ∧ z = .int .u64 (v : Nat) ∧ SInv t k v) (fun _ i => t.size - (intOf i).toNat)
          case atStart => exact ⟨0, 0, rfl, rfl, ⟨by omega, rfl, by simp⟩⟩
          case round =>
            obtain ⟨k, v, rfl, rfl, I⟩ := hrel
            by_cases hlt2 : k < t.size
            · obtain ⟨d0, d1⟩ := HA.out k hlt2
              have sm := I.small (by omega)
              have NX := Lib.hid (I.next hlt2 d1)
              have w1 : IntKind.u64.wrap ((v : Int) * 10) = (v : Int) * 10 := by rw [IntKind.wrap_u64]; omega
              have w2 : IntKind.u64.wrap (t[k].toNat : Int) = (t[k].toNat : Int) := by rw [IntKind.wrap_u64]; omega
              have w3 : IntKind.u64.wrap ((v : Int) * 10 + (t[k].toNat : Int)) = (v : Int) * 10 + (t[k].toNat : Int) := by clear w1 w2; rw [IntKind.wrap_u64]; omega
              have w4 : IntKind.u64.wrap ((v : Int) * 10 + (t[k].toNat : Int) - 48) = ((v * 10 + (t[k].toNat - 48) : Nat) : Int) := by clear w1 w2 w3; rw [IntKind.wrap_u64]; omega
              clear I
              go_wp2
              go_round
              case rel => exact ⟨k + 1, _, by go_num, rfl, NX.out⟩
              case measure => simp [intOf]; omega
            · obtain rfl : k = t.size := by have := I.le; omega
              have fn := I.fin
              have sm := I.small2 (by omega)
              first
                | (have mm := most_f
                   by_cases c : v ≤ 9223372036854775807
                   · have fin := OK.out v fn (by rw [most_f]; exact c)
                     have FIN := Lib.hid fin
                     have c1 : ¬ (9223372036854775807 : Int) < (v : Int) := by omega
                     have wv : IntKind.i64.wrap (v : Int) = (v : Int) := by simp [IntKind.wrap, IntKind.signed, IntKind.bits]; omega
                     clear I fin fn mm
                     go_wp2
                     go_ret2
                     exact ⟨pair_eq FIN.out rfl, (by repeat (first | exact Below.refl _ _ | (with_reducible assumption) | refine bAlloc ?_ _ | refine below_drewN ?_ _ | refine Below.drew ?_ | (refine bSet ?_ (by first | (dsimp only; omega) | (simp; done) | (simp; omega)) _) | refine bTrans ?_ (by assumption)))⟩
                   · have fin := RNG.out (by rw [most_f, fn]; omega)
                     have FIN := Lib.hid fin
                     have c1 : (9223372036854775807 : Int) < (v : Int) := by omega
                     clear I fin fn mm
                     go_wp2
                     go_ret2
                     exact ⟨pair_eq FIN.out rfl, (by repeat (first | exact Below.refl _ _ | (with_reducible assumption) | refine bAlloc ?_ _ | refine below_drewN ?_ _ | refine Below.drew ?_ | (refine bSet ?_ (by first | (dsimp only; omega) | (simp; done) | (simp; omega)) _) | refine bTrans ?_ (by assumption)))⟩)
                | (have mm := most_t
                   by_cases c : v ≤ 9223372036854775808
                   · have fin := OK.out v fn (by rw [most_t]; exact c)
                     have FIN := Lib.hid fin
                     have c1 : ¬ (9223372036854775808 : Int) < (v : Int) := by omega
                     have wv : IntKind.i64.wrap (IntKind.u64.wrap (-(v : Int))) = -(v : Int) := by rw [IntKind.wrap_u64]; simp [IntKind.wrap, IntKind.signed, IntKind.bits]; omega
                     clear I fin fn mm
                     go_wp2
                     go_ret2
                     exact ⟨pair_eq FIN.out rfl, (by repeat (first | exact Below.refl _ _ | (with_reducible assumption) | refine bAlloc ?_ _ | refine below_drewN ?_ _ | refine Below.drew ?_ | (refine bSet ?_ (by first | (dsimp only; omega) | (simp; done) | (simp; omega)) _) | refine bTrans ?_ (by assumption)))⟩
                   · have fin := RNG.out (by rw [most_t, fn]; omega)
                     have FIN := Lib.hid fin
                     have c1 : (9223372036854775808 : Int) < (v : Int) := by omega
                     clear I fin fn mm
                     go_wp2
                     go_ret2
                     exact ⟨pair_eq FIN.out rfl, (by repeat (first | exact Below.refl _ _ | (with_reducible assumption) | refine bAlloc ?_ _ | refine below_drewN ?_ _ | refine Below.drew ?_ | (refine bSet ?_ (by first | (dsimp only; omega) | (simp; done) | (simp; omega)) _) | refine bTrans ?_ (by assumption)))⟩)

theorem refread_any (s : ByteArray) (hs : s.size ≤ 100000) (w : World) : Calls Try.prog 9 #[.string s] w fun e w' => e = .returned (.tuple #[.int .i64 (readv s).1, .int .i64 (readv s).2]) ∧ Below w.heap.size w w' := by
  have sp := split_of s
  unfold readv
  by_cases hh : headGood s (digsOf s)
  · by_cases hb : ∃ i, ¬ isDig (digsOf s) i
    · rw [readT_form (bad_form sp (.inr hb))]
      exact refread_no s _ _ sp hs hh hb w
    · exact refread_run s _ _ sp hs hh (fun i => by
        by_cases c : isDig (digsOf s) i
        · exact c
        · exact absurd ⟨i, c⟩ hb) w
  · rw [readT_form (bad_form sp (.inl hh))]
    exact refread_head s _ _ sp hs hh w

end Go.Proofs.Ythjobjfnakfliaa
