/-
  Contracts of haymowref03.whole, haymowref03.Text.
-/
import Derived.Test.YthcodcgmplncjaaText
namespace Go.Proofs.Ythcodcgmplncjaa
open Go.RowKit
set_option linter.unusedVariables false

set_option maxHeartbeats 600000 in
set_option maxRecDepth 100000 in
theorem whole_any (a : Nat) (ha : a < 10 ^ 19) (w : World) : Calls Try.prog 23 #[.int .u64 (a : Nat)] w fun e w' => e = .returned (.string (strOfNums (dtext a))) ∧ Below w.heap.size w w' := by
  have LA := Lib.hid ha
  clear ha
  go_enter Try.func23, Try.ntmps23
  go_wp2
  go_loopw [0, 3, 4] (fun z t i wr => ∃ (k x f : Nat) (s : List Int), i = .int .i64 (k : Nat) ∧ z = .int .u64 (x : Nat) ∧ t = .string (strOfNums s) ∧ DInv a k x f s ∧ Below w.heap.size w wr) (fun _ _ i _ => (20 - intOf i).toNat)
  case atStart =>
    exact ⟨0, a, 19, [], rfl, rfl, rfl, DInv.start LA.out, (by repeat (first | exact Below.refl _ _ | (with_reducible assumption) | refine bAlloc ?_ _ | refine below_drewN ?_ _ | refine Below.drew ?_ | (refine bSet ?_ (by first | (dsimp only; omega) | (simp; done) | (simp; omega)) _) | refine bTrans ?_ (by assumption)))⟩
  case round =>
    obtain ⟨k, x, f, s, rfl, rfl, rfl, I, bel⟩ := hrel
    have hlen := I.len
    have hsl := I.sl
    by_cases go : x ≠ 0 ∨ k = 0
    · obtain ⟨f, rfl⟩ := I.fpos go
      have em : (x : Int) % 10 = ((x % 10 : Nat) : Int) := by omega
      have eq : (x : Int) / 10 = ((x / 10 : Nat) : Int) := by omega
      have NX := Lib.hid (I.next go)
      have xl := pow10_lt I.lt (by omega)
      have d9 : x % 10 ≤ 9 := by omega
      clear I
      generalize x % 10 = d at *
      generalize x / 10 = q at *
      have wd : IntKind.u64.wrap (48 + (d : Int)) = 48 + (d : Int) := by rw [IntKind.wrap_u64]; omega
      have wd2 : IntKind.u8.wrap (48 + (d : Int)) = 48 + (d : Int) := by rw [IntKind.wrap_u8]; omega
      have sz1 : ∀ v, (strOfNums [v]).size = 1 := fun v => strOfNums_size _
      have sz2 : (strOfNums s).size ≤ 19 := by rw [strOfNums_size]; omega
      have cv := fun v => conv_one wr v
      by_cases ck : k = 0
      · subst ck
        clear go
        go_wp2
        go_roundw
        case rel => exact ⟨0 + 1, q, f, (48 + (d : Int)) :: s, by go_num, rfl, by rw [str_cons], NX.out, (by repeat (first | exact Below.refl _ _ | (with_reducible assumption) | refine bAlloc ?_ _ | refine below_drewN ?_ _ | refine Below.drew ?_ | (refine bSet ?_ (by first | (dsimp only; omega) | (simp; done) | (simp; omega)) _) | refine bTrans ?_ (by assumption)))⟩
        case measure => simp [intOf]
      · have ckz : ((k : Int) == 0) = false := by simp [ck]
        have hz : x ≠ 0 := go.resolve_right ck
        have hz2 : (0 : Int) < (x : Int) := by omega
        clear go
        go_wp2
        go_roundw
        case rel => exact ⟨k + 1, q, f, (48 + (d : Int)) :: s, by go_num, rfl, by rw [str_cons], NX.out, (by repeat (first | exact Below.refl _ _ | (with_reducible assumption) | refine bAlloc ?_ _ | refine below_drewN ?_ _ | refine Below.drew ?_ | (refine bSet ?_ (by first | (dsimp only; omega) | (simp; done) | (simp; omega)) _) | refine bTrans ?_ (by assumption)))⟩
        case measure => simp [intOf]; omega
    · have hx : x = 0 := by omega
      have hk : k ≠ 0 := by omega
      subst hx
      have fin := I.last hk rfl
      have FIN := Lib.hid fin
      have ckz : ((k : Int) == 0) = false := by simp [hk]
      clear I fin go
      go_wp2
      go_ret
      exact ⟨by rw [FIN.out]; rfl, (by repeat (first | exact Below.refl _ _ | (with_reducible assumption) | refine bAlloc ?_ _ | refine below_drewN ?_ _ | refine Below.drew ?_ | (refine bSet ?_ (by first | (dsimp only; omega) | (simp; done) | (simp; omega)) _) | refine bTrans ?_ (by assumption)))⟩

theorem reftext_any (n : Int) (hn : Whole n) (w : World) : Calls Try.prog 19 #[.int .i64 n] w fun e w' => e = .returned (.string (strOfNums (itext n))) ∧ Below w.heap.size w w' := by
  obtain ⟨h1, h2⟩ := hn
  have WH := Lib.hid (fun w => whole_any n.natAbs (by omega) w)
  have sz : (strOfNums (dtext n.natAbs)).size ≤ 19 := by rw [strOfNums_size]; unfold dtext; exact dtextF_len 19 _
  by_cases c : n < 0
  · have e : IntKind.u64.wrap (-IntKind.u64.wrap n) = ((n.natAbs : Nat) : Int) := by rw [IntKind.wrap_u64, IntKind.wrap_u64]; omega
    have it : itext n = 45 :: dtext n.natAbs := by unfold itext; rw [if_pos c]
    have IT := Lib.hid it
    have e2 : (⟨#[45]⟩ : ByteArray) ++ strOfNums (dtext n.natAbs) = strOfNums (45 :: dtext n.natAbs) := by rw [← str_cons]; rfl
    have E2 := Lib.hid e2
    clear it e2
    generalize n.natAbs = a at *
    go_enter Try.func19, Try.ntmps19
    go_wp2_with (go_at_call 23; refine (WH.out _).mono ?_; rintro e w1 ⟨rfl, hb1⟩)
    go_ret
    exact ⟨by rw [IT.out, ← E2.out]; rfl, hb1⟩
  · have e : IntKind.u64.wrap n = ((n.natAbs : Nat) : Int) := by rw [IntKind.wrap_u64]; omega
    have it : itext n = dtext n.natAbs := by unfold itext; rw [if_neg c]
    have IT := Lib.hid it
    clear it
    generalize n.natAbs = a at *
    go_enter Try.func19, Try.ntmps19
    go_wp2_with (go_at_call 23; refine (WH.out _).mono ?_; rintro e w1 ⟨rfl, hb1⟩)
    go_ret
    exact ⟨by rw [IT.out]; rfl, hb1⟩

end Go.Proofs.Ythcodcgmplncjaa
