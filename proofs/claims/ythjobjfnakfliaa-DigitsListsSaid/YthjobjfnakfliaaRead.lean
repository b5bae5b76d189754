/-
  The contract of digits.Read.
-/
import Derived.Test.YthjobjfnakfliaaDecimal
namespace Go.Proofs.Ythjobjfnakfliaa
open Go.RowKit
set_option linter.unusedVariables false

theorem Split.size {s t : ByteArray} {neg : Bool} (h : Split s t neg) : t.size ≤ s.size := by
  cases neg with
  | false => rw [(h.plus rfl).1]; omega
  | true => have := (h.minus rfl).2.1; omega
theorem pair_eq {e : Ending} {a b : Int} {p : Int × Int} (h : p = (a, b)) (k : e = .returned (.tuple #[.int .i64 a, .int .i64 b])) : e = .returned (.tuple #[.int .i64 p.1, .int .i64 p.2]) := by rw [h]; exact k

set_option maxHeartbeats 600000 in
set_option maxRecDepth 100000 in
theorem read_form (s t : ByteArray) (neg : Bool) (hs : s.size ≤ 100000) (ht : t.size ≤ 100000) (hc : ∀ w, Calls Try.prog 21 #[.string s, .string ⟨#[45]⟩] w fun e w' => e = .returned (.tuple #[.string t, .bool neg]) ∧ w' = w)
    (h : ¬ decP t ∨ (neg = true ∧ t.toList = [48])) (w : World) : Calls Try.prog 8 #[.string s] w fun e w' => e = .returned (.tuple #[.int .i64 0, .int .i64 5]) ∧ Below w.heap.size w w' := by
  have HC := Lib.hid hc
  clear hc
  by_cases hd : decP t
  · obtain ⟨hn, h2⟩ := h.resolve_left (fun k => k hd)
    subst hn
    have DH := Lib.hid (fun w => decimal_yes t w ht hd)
    have e1 : (t.toList == [48]) = true := by rw [h2]; rfl
    clear h hd
    go_enter Try.func8, Try.ntmps8
    go_wp2_with (first | (go_at_call 21; refine (HC.out _).mono ?_; rintro e w1 ⟨rfl, rfl⟩) | (go_at_call 22; refine (DH.out _).mono ?_; rintro e w1 ⟨rfl, rfl⟩))
    go_ret2
    exact ⟨rfl, (by repeat (first | exact Below.refl _ _ | (with_reducible assumption) | refine bAlloc ?_ _ | refine below_drewN ?_ _ | refine Below.drew ?_ | (refine bSet ?_ (by first | (dsimp only; omega) | (simp; done) | (simp; omega)) _) | refine bTrans ?_ (by assumption)))⟩
  · have DH := Lib.hid (fun w => decimal_false t ht hd w)
    clear h hd
    go_enter Try.func8, Try.ntmps8
    go_wp2_with (first | (go_at_call 21; refine (HC.out _).mono ?_; rintro e w1 ⟨rfl, rfl⟩) | (go_at_call 22; refine (DH.out _).mono ?_; rintro e w1 ⟨rfl, rfl⟩))
    go_ret2
    exact ⟨rfl, (by repeat (first | exact Below.refl _ _ | (with_reducible assumption) | refine bAlloc ?_ _ | refine below_drewN ?_ _ | refine Below.drew ?_ | (refine bSet ?_ (by first | (dsimp only; omega) | (simp; done) | (simp; omega)) _) | refine bTrans ?_ (by assumption)))⟩

/-- what a round finds -/
structure RInv (t : ByteArray) (M k v : Nat) : Prop where
  le : k ≤ t.size
  eq : dval 0 t.toList = dval v (t.toList.drop k)
  most : v ≤ M
theorem RInv.over {t : ByteArray} {M k v : Nat} (I : RInv t M k v) (h : k < t.size) (hc : M < v * 10 + (t[k].toNat - 48)) : M < dval 0 t.toList := by
  rw [I.eq, drop_cons h, dval_cons]
  exact Nat.lt_of_lt_of_le hc (dval_le _ _)
theorem RInv.next {t : ByteArray} {M k v : Nat} (I : RInv t M k v) (h : k < t.size) (hc : v * 10 + (t[k].toNat - 48) ≤ M) : RInv t M (k + 1) (v * 10 + (t[k].toNat - 48)) := by
  refine ⟨by omega, ?_, hc⟩
  rw [I.eq, drop_cons h, dval_cons]
theorem RInv.fin {t : ByteArray} {M v : Nat} (I : RInv t M t.size v) : dval 0 t.toList = v := by rw [I.eq, drop_end, dval_nil]

set_option maxHeartbeats 1000000 in
set_option maxRecDepth 100000 in
theorem read_run (s t : ByteArray) (neg : Bool) (hs : s.size ≤ 100000) (ht : t.size ≤ 100000) (hc : ∀ w, Calls Try.prog 21 #[.string s, .string ⟨#[45]⟩] w fun e w' => e = .returned (.tuple #[.string t, .bool neg]) ∧ w' = w)
    (hd : decP t) (h : ¬ (neg = true ∧ t.toList = [48])) (w : World) : Calls Try.prog 8 #[.string s] w fun e w' => e = .returned (.tuple #[.int .i64 (readT neg t).1, .int .i64 (readT neg t).2]) ∧ Below w.heap.size w w' := by
  have HC := Lib.hid hc
  have DH := Lib.hid (fun w => decimal_yes t w ht hd)
  have HA := Lib.hid hd.2
  have RNG := Lib.hid (fun k => readT_range hd h k)
  have OK := Lib.hid (fun v k l => @readT_ok neg t v hd h k l)
  have S1 : ∀ w, Calls Try.prog 20 #[.int .i64 9223372036854775807] w fun e w' => e = .returned (.int .u64 ((most false : Nat) : Int)) ∧ w = w' := fun w => by
    have k := size_any 9223372036854775807 ⟨by decide, by decide⟩ w
    unfold most; exact k
  have S2 : ∀ w, Calls Try.prog 20 #[.int .i64 (-9223372036854775808)] w fun e w' => e = .returned (.int .u64 ((most true : Nat) : Int)) ∧ w = w' := fun w => by
    have k := size_any (-9223372036854775808) ⟨by decide, by decide⟩ w
    unfold most; exact k
  have nz : neg = true → (t.toList == [48]) = false := fun n => by
    cases c : (t.toList == [48]) with
    | false => rfl
    | true => exact absurd ⟨n, by simpa using c⟩ h
  clear hc h
  have m9 : 9 ≤ most neg := by unfold most; cases neg <;> decide
  have m1 : most neg ≤ 9223372036854775808 := by unfold most; cases neg <;> decide
  have m2 : neg = false → most neg ≤ 9223372036854775807 := by intro n; subst n; unfold most; decide
  cases neg
  case false =>
    have m3 := m2 rfl
    clear nz m1 m2 S2
    generalize most false = M at *
    have S1 := Lib.hid S1
    go_enter Try.func8, Try.ntmps8
    go_wp2_with (first | (go_at_call 21; refine (HC.out _).mono ?_; rintro e w1 ⟨rfl, rfl⟩) | (go_at_call 22; refine (DH.out _).mono ?_; rintro e w1 ⟨rfl, rfl⟩) | (go_at_call 20; refine (S1.out _).mono ?_; rintro e w1 ⟨rfl, rfl⟩))
    go_loopw [7, 8, 9, 30] (fun z _ _ i wr => ∃ (k v : Nat), i = .int .i64 (k : Nat) ∧ z = .int .u64 (v : Nat) ∧ RInv t M k v ∧ Below w1.heap.size w1 wr) (fun _ _ _ i _ => t.size - (intOf i).toNat)
    case atStart => exact ⟨0, 0, rfl, rfl, ⟨by omega, rfl, by omega⟩, (by repeat (first | exact Below.refl _ _ | (with_reducible assumption) | refine bAlloc ?_ _ | refine below_drewN ?_ _ | refine Below.drew ?_ | (refine bSet ?_ (by first | (dsimp only; omega) | (simp; done) | (simp; omega)) _) | refine bTrans ?_ (by assumption)))⟩
    case round =>
      obtain ⟨k, v, rfl, rfl, I, bel⟩ := hrel
      have vM := I.most
      by_cases hlt : k < t.size
      · obtain ⟨d0, d1⟩ := HA.out k hlt
        have OV := Lib.hid (I.over hlt)
        have NX := Lib.hid (I.next hlt)
        clear I
        obtain ⟨d, hd⟩ : ∃ d, d = t[k].toNat - 48 := ⟨_, rfl⟩
        rw [← hd] at OV NX
        have w1 : IntKind.u8.wrap ((t[k].toNat : Int) - 48) = (d : Int) := by rw [IntKind.wrap_u8]; omega
        have d9 : d ≤ 9 := by omega
        have w2 : IntKind.u64.wrap (d : Int) = (d : Int) := by rw [IntKind.wrap_u64]; omega
        have w3 : IntKind.u64.wrap ((M : Int) - (d : Int)) = ((M - d : Nat) : Int) := by rw [IntKind.wrap_u64]; omega
        have w4 : ((M - d : Nat) : Int) / 10 = (((M - d) / 10 : Nat) : Int) := by omega
        have w5 : IntKind.u64.wrap (((M - d) / 10 : Nat) : Int) = (((M - d) / 10 : Nat) : Int) := by rw [IntKind.wrap_u64]; omega
        clear hd
        by_cases ov : (M - d) / 10 < v
        · have ov2 : (((M - d) / 10 : Nat) : Int) < (v : Int) := by omega
          have fin := RNG.out (OV.out (by omega))
          have FIN := Lib.hid fin
          clear fin
          generalize (M - d) / 10 = q at *
          generalize M - d = p at *
          go_wp2
          go_ret2
          exact ⟨pair_eq FIN.out rfl, (by repeat (first | exact Below.refl _ _ | (with_reducible assumption) | refine bAlloc ?_ _ | refine below_drewN ?_ _ | refine Below.drew ?_ | (refine bSet ?_ (by first | (dsimp only; omega) | (simp; done) | (simp; omega)) _) | refine bTrans ?_ (by assumption)))⟩
        · have ov2 : ¬ (((M - d) / 10 : Nat) : Int) < (v : Int) := by omega
          have nx := Lib.hid (NX.out (by omega))
          have w6 : IntKind.u64.wrap ((v : Int) * 10) = (v : Int) * 10 := by rw [IntKind.wrap_u64]; omega
          have w7 : IntKind.u64.wrap ((v : Int) * 10 + (d : Int)) = ((v * 10 + d : Nat) : Int) := by rw [IntKind.wrap_u64]; omega
          generalize (M - d) / 10 = q at *
          generalize M - d = p at *
          generalize v * 10 + d = u at *
          clear OV NX
          go_wp2
          go_roundw
          case rel => exact ⟨k + 1, u, by go_num, rfl, nx.out, (by repeat (first | exact Below.refl _ _ | (with_reducible assumption) | refine bAlloc ?_ _ | refine below_drewN ?_ _ | refine Below.drew ?_ | (refine bSet ?_ (by first | (dsimp only; omega) | (simp; done) | (simp; omega)) _) | refine bTrans ?_ (by assumption)))⟩
          case measure => simp [intOf]; omega
      · obtain rfl : k = t.size := by have := I.le; omega
        have fin := OK.out v I.fin vM
        have FIN := Lib.hid fin
        have wv : IntKind.i64.wrap (v : Int) = (v : Int) := by simp [IntKind.wrap, IntKind.signed, IntKind.bits]; omega
        clear I fin
        go_wp2
        go_ret2
        exact ⟨pair_eq FIN.out rfl, (by repeat (first | exact Below.refl _ _ | (with_reducible assumption) | refine bAlloc ?_ _ | refine below_drewN ?_ _ | refine Below.drew ?_ | (refine bSet ?_ (by first | (dsimp only; omega) | (simp; done) | (simp; omega)) _) | refine bTrans ?_ (by assumption)))⟩
  case true =>
    have nz1 := nz rfl
    have S1 := Lib.hid S1
    clear nz m2
    generalize most true = M at *
    have S2 := Lib.hid S2
    go_enter Try.func8, Try.ntmps8
    go_wp2_with (first | (go_at_call 21; refine (HC.out _).mono ?_; rintro e w1 ⟨rfl, rfl⟩) | (go_at_call 22; refine (DH.out _).mono ?_; rintro e w1 ⟨rfl, rfl⟩) | (go_at_call 20; (with_reducible refine (S1.out _).mono ?_); rintro e w1 ⟨rfl, rfl⟩) | (go_at_call 20; refine (S2.out _).mono ?_; rintro e w1 ⟨rfl, rfl⟩))
    go_loopw [7, 8, 9, 30] (fun z _ _ i wr => ∃ (k v : Nat), i = .int .i64 (k : Nat) ∧ z = .int .u64 (v : Nat) ∧ RInv t M k v ∧ Below w1.heap.size w1 wr) (fun _ _ _ i _ => t.size - (intOf i).toNat)
    case atStart => exact ⟨0, 0, rfl, rfl, ⟨by omega, rfl, by omega⟩, (by repeat (first | exact Below.refl _ _ | (with_reducible assumption) | refine bAlloc ?_ _ | refine below_drewN ?_ _ | refine Below.drew ?_ | (refine bSet ?_ (by first | (dsimp only; omega) | (simp; done) | (simp; omega)) _) | refine bTrans ?_ (by assumption)))⟩
    case round =>
      obtain ⟨k, v, rfl, rfl, I, bel⟩ := hrel
      have vM := I.most
      by_cases hlt : k < t.size
      · obtain ⟨d0, d1⟩ := HA.out k hlt
        have OV := Lib.hid (I.over hlt)
        have NX := Lib.hid (I.next hlt)
        clear I
        obtain ⟨d, hd⟩ : ∃ d, d = t[k].toNat - 48 := ⟨_, rfl⟩
        rw [← hd] at OV NX
        have w1 : IntKind.u8.wrap ((t[k].toNat : Int) - 48) = (d : Int) := by rw [IntKind.wrap_u8]; omega
        have d9 : d ≤ 9 := by omega
        have w2 : IntKind.u64.wrap (d : Int) = (d : Int) := by rw [IntKind.wrap_u64]; omega
        have w3 : IntKind.u64.wrap ((M : Int) - (d : Int)) = ((M - d : Nat) : Int) := by rw [IntKind.wrap_u64]; omega
        have w4 : ((M - d : Nat) : Int) / 10 = (((M - d) / 10 : Nat) : Int) := by omega
        have w5 : IntKind.u64.wrap (((M - d) / 10 : Nat) : Int) = (((M - d) / 10 : Nat) : Int) := by rw [IntKind.wrap_u64]; omega
        clear hd
        by_cases ov : (M - d) / 10 < v
        · have ov2 : (((M - d) / 10 : Nat) : Int) < (v : Int) := by omega
          have fin := RNG.out (OV.out (by omega))
          have FIN := Lib.hid fin
          clear fin
          generalize (M - d) / 10 = q at *
          generalize M - d = p at *
          go_wp2
          go_ret2
          exact ⟨pair_eq FIN.out rfl, (by repeat (first | exact Below.refl _ _ | (with_reducible assumption) | refine bAlloc ?_ _ | refine below_drewN ?_ _ | refine Below.drew ?_ | (refine bSet ?_ (by first | (dsimp only; omega) | (simp; done) | (simp; omega)) _) | refine bTrans ?_ (by assumption)))⟩
        · have ov2 : ¬ (((M - d) / 10 : Nat) : Int) < (v : Int) := by omega
          have nx := Lib.hid (NX.out (by omega))
          have w6 : IntKind.u64.wrap ((v : Int) * 10) = (v : Int) * 10 := by rw [IntKind.wrap_u64]; omega
          have w7 : IntKind.u64.wrap ((v : Int) * 10 + (d : Int)) = ((v * 10 + d : Nat) : Int) := by rw [IntKind.wrap_u64]; omega
          generalize (M - d) / 10 = q at *
          generalize M - d = p at *
          generalize v * 10 + d = u at *
          clear OV NX
          go_wp2
          go_roundw
          case rel => exact ⟨k + 1, u, by go_num, rfl, nx.out, (by repeat (first | exact Below.refl _ _ | (with_reducible assumption) | refine bAlloc ?_ _ | refine below_drewN ?_ _ | refine Below.drew ?_ | (refine bSet ?_ (by first | (dsimp only; omega) | (simp; done) | (simp; omega)) _) | refine bTrans ?_ (by assumption)))⟩
          case measure => simp [intOf]; omega
      · obtain rfl : k = t.size := by have := I.le; omega
        have fin := OK.out v I.fin vM
        have FIN := Lib.hid fin
        have wv : IntKind.i64.wrap (IntKind.u64.wrap (-(v : Int))) = -(v : Int) := by rw [IntKind.wrap_u64]; simp [IntKind.wrap, IntKind.signed, IntKind.bits]; omega
        clear I fin
        go_wp2
        go_ret2
        exact ⟨pair_eq FIN.out rfl, (by repeat (first | exact Below.refl _ _ | (with_reducible assumption) | refine bAlloc ?_ _ | refine below_drewN ?_ _ | refine Below.drew ?_ | (refine bSet ?_ (by first | (dsimp only; omega) | (simp; done) | (simp; omega)) _) | refine bTrans ?_ (by assumption)))⟩


theorem read_any (s : ByteArray) (hs : s.size ≤ 100000) (w : World) : Calls Try.prog 8 #[.string s] w fun e w' => e = .returned (.tuple #[.int .i64 (readv s).1, .int .i64 (readv s).2]) ∧ Below w.heap.size w w' := by
  have sp := split_of s
  have ht : (digsOf s).size ≤ 100000 := by have := sp.size; omega
  have hc := fun w => cutprefix_any s w
  unfold readv
  by_cases h : decP (digsOf s) ∧ ¬ (negOf s = true ∧ (digsOf s).toList = [48])
  · exact read_run s _ _ hs ht hc h.1 h.2 w
  · have h2 : ¬ decP (digsOf s) ∨ (negOf s = true ∧ (digsOf s).toList = [48]) := by
      by_cases d : decP (digsOf s)
      · right
        by_cases q : negOf s = true ∧ (digsOf s).toList = [48]
        · exact q
        · exact absurd ⟨d, q⟩ h
      · exact .inl d
    rw [readT_form h2]
    exact read_form s _ _ hs ht hc h2 w

end Go.Proofs.Ythjobjfnakfliaa
