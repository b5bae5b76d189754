/-
  Contracts of digits.size, digits.Text, haymowref03.whole, haymowref03.Text.
-/
import Derived.Test.YthcodcgmplncjaaKit04
namespace Go.Proofs.Ythcodcgmplncjaa
open Go.RowKit
set_option linter.unusedVariables false

/-- what an int may be -/
def Whole (n : Int) : Prop := -9223372036854775808 ≤ n ∧ n ≤ 9223372036854775807
theorem size_any (n : Int) (hn : Whole n) (w : World) : Calls Try.prog 22 #[.int .i64 n] w fun e w' => e = .returned (.int .u64 (n.natAbs : Nat)) ∧ w = w' := by
  obtain ⟨h1, h2⟩ := hn
  by_cases c : n < 0
  · have e : IntKind.u64.wrap (-IntKind.u64.wrap n) = ((n.natAbs : Nat) : Int) := by rw [IntKind.wrap_u64, IntKind.wrap_u64]; omega
    go_enter Try.func22, Try.ntmps22
    go_wp2_with fail
    go_ret
    exact ⟨rfl, rfl⟩
  · have e : IntKind.u64.wrap n = ((n.natAbs : Nat) : Int) := by rw [IntKind.wrap_u64]; omega
    go_enter Try.func22, Try.ntmps22
    go_wp2_with fail
    go_ret
    exact ⟨rfl, rfl⟩

theorem pow10_lt {x f : Nat} (h : x < 10 ^ f) (hf : f ≤ 19) : x < 10000000000000000000 := by
  have : 10 ^ f ≤ 10 ^ 19 := Nat.pow_le_pow_right (by omega) hf
  have e : 10 ^ 19 = 10000000000000000000 := by decide
  omega
theorem slice20 (g m : Nat) (hm : m ≤ 20) (w : World) : (Instr.sliceAt 42 (.pointer (some ⟨g, 0, none⟩)) (some (.int .i64 (m : Nat))) none none).run Try.prog w = .ok (.slice (some (if 20 = m then ⟨g, 0, none⟩ else ⟨g, m, none⟩)) (20 - m) (20 - m)) w := by
  have hl : Try.prog.arrayLen 42 = 20 := by kernel_rfl
  rw [run_sliceAt_array_l w 42 _ (by kernel_rfl) .i64 m (by omega) (by rw [hl]; omega), hl]
  simp [go_sem, slicedAt, Addr.add]
  split
  · rfl
  · split
    · subst_vars; rfl
    · rfl
theorem slice20' (g m : Nat) (hm : m < 20) (w : World) : (Instr.sliceAt 42 (.pointer (some ⟨g, 0, none⟩)) (some (.int .i64 (m : Nat))) none none).run Try.prog w = .ok (.slice (some ⟨g, m, none⟩) (20 - m) (20 - m)) w := by
  rw [slice20 g m (by omega), if_neg (by omega)]
theorem conv20 (g m : Nat) (s : List Int) (W : World) (h : Row W g 20 (drow m s)) (hl : m + s.length = 20) : (convert 44 9 (.slice (some ⟨g, m, none⟩) (20 - m) (20 - m))).run Try.prog W = .ok (.string (strOfNums s)) W := by
  refine run_convert_bytes_arg W 44 5 Try.underlying44 Try.underlying5 g m (20 - m) (20 - m) s (by omega) (fun i hi => ?_) 9 Try.underlying9
  rw [h.cell (m + i) (by omega)]
  unfold drow
  rw [if_neg (by omega), show m + i - m = i by omega]

set_option maxHeartbeats 1000000 in
set_option maxRecDepth 100000 in
theorem text_any (n : Int) (hn : Whole n) (w : World) : Calls Try.prog 18 #[.int .i64 n] w fun e w' => e = .returned (.string (strOfNums (itext n))) ∧ Below w.heap.size w w' := by
  have SI := Lib.hid (fun w => size_any n hn w)
  have la : n.natAbs < 10 ^ 19 := by obtain ⟨h1, h2⟩ := hn; omega
  have LA := Lib.hid la
  have it1 : n < 0 → itext n = 45 :: dtext n.natAbs := fun h => by unfold itext; rw [if_pos h]
  have it2 : ¬ n < 0 → itext n = dtext n.natAbs := fun h => by unfold itext; rw [if_neg h]
  have IT1 := Lib.hid it1; have IT2 := Lib.hid it2
  clear hn la it1 it2
  generalize n.natAbs = a at *
  go_enter Try.func18, Try.ntmps18
  go_wp2_with (go_at_call 22; refine (SI.out _).mono ?_; rintro e w1 ⟨rfl, rfl⟩)
  go_loopw [4, 5] (fun p z wr => ∃ (k x f : Nat) (s : List Int), p = .int .i64 ((f + 1 : Nat) : Int) ∧ z = .int .u64 (x : Nat) ∧ DInv a k x f s ∧ Row wr w.heap.size 20 (drow (f + 1) s) ∧ Below w.heap.size w wr) (fun p _ _ => (intOf p).toNat)
  case atStart =>
    refine ⟨0, a, 19, [], rfl, rfl, DInv.start LA.out, ?_, (by repeat (first | exact Below.refl _ _ | (with_reducible assumption) | refine bAlloc ?_ _ | refine below_drewN ?_ _ | refine Below.drew ?_ | (refine bSet ?_ (by first | (dsimp only; omega) | (simp; done) | (simp; omega)) _) | refine bTrans ?_ (by assumption)))⟩
    refine Row.newAt _ _ _ _ 20 _ (by simp) fun j hj => ?_
    change (Array.replicate 20 (Value.int .u8 0))[j]? = _
    simp [hj, drow]
  case round =>
    obtain ⟨k, x, f, s, rfl, rfl, I, R, bel⟩ := hrel
    have hlen := I.len
    have hsl := I.sl
    by_cases go : x ≠ 0 ∨ k = 0
    · obtain ⟨f, rfl⟩ := I.fpos go
      have em : (x : Int) % 10 = ((x % 10 : Nat) : Int) := by omega
      have eq : (x : Int) / 10 = ((x / 10 : Nat) : Int) := by omega
      have NX := Lib.hid (I.next go)
      have xl := pow10_lt I.lt (by omega)
      have d9 : x % 10 ≤ 9 := by omega
      clear I
      generalize x % 10 = d at *
      generalize x / 10 = q at *
      have wd : IntKind.u8.wrap (d : Int) = (d : Int) := by rw [IntKind.wrap_u8]; omega
      have wd2 : IntKind.u8.wrap (48 + (d : Int)) = 48 + (d : Int) := by rw [IntKind.wrap_u8]; omega
      have x0 := R.cell (f + 1) (by omega); have x1 := R.free (f + 1); have x2 := R.lt
      have pf : ((f + 1 + 1 : Nat) : Int) - 1 = ((f + 1 : Nat) : Int) := by omega
      have RS := Lib.hid ((R.set (f + 1) (by omega) (.int .u8 (48 + (d : Int)))).congr (fun j _ => drow_cons (f + 1) s (48 + d) j))
      by_cases hz : x = 0
      · subst hz
        have hg3 : (((f + 1 + 1 : Nat) : Int) == 20) = true := by simp; have := go.resolve_left (fun h => h rfl); omega
        obtain rfl : d = 0 := by omega
        obtain rfl : q = 0 := by omega
        clear go em eq
        go_wp2
        go_roundw
        case rel => exact ⟨k + 1, 0, f, (48 + ((0 : Nat) : Int)) :: s, rfl, rfl, NX.out, RS.out, (by repeat (first | exact Below.refl _ _ | (with_reducible assumption) | refine bAlloc ?_ _ | refine below_drewN ?_ _ | refine Below.drew ?_ | (refine bSet ?_ (by first | (dsimp only; omega) | (simp; done) | (simp; omega)) _) | refine bTrans ?_ (by assumption)))⟩
        case measure => simp [intOf]; omega
      · have wq : IntKind.u64.wrap (q : Int) = (q : Int) := by rw [IntKind.wrap_u64]; omega
        clear go
        go_wp2
        go_roundw
        case rel => exact ⟨k + 1, q, f, (48 + (d : Int)) :: s, rfl, rfl, NX.out, RS.out, (by repeat (first | exact Below.refl _ _ | (with_reducible assumption) | refine bAlloc ?_ _ | refine below_drewN ?_ _ | refine Below.drew ?_ | (refine bSet ?_ (by first | (dsimp only; omega) | (simp; done) | (simp; omega)) _) | refine bTrans ?_ (by assumption)))⟩
        case measure => simp [intOf]; omega
    · have hx : x = 0 := by omega
      have hk : k ≠ 0 := by omega
      subst hx
      have fin := I.last hk rfl
      have FIN := Lib.hid fin
      have hg3 : (((f + 1 : Nat) : Int) == 20) = false := by simp; omega
      clear I fin go
      by_cases c : n < 0
      · have x0 := R.cell f (by omega); have x1 := R.free f; have x2 := R.lt
        have pf : ((f + 1 : Nat) : Int) - 1 = (f : Int) := by omega
        have sl := slice20' w.heap.size f (by omega)
        have cv := conv20 w.heap.size f (45 :: s) (wr.setCell ⟨w.heap.size, f, none⟩ (.int .u8 45)) ((R.set f (by omega) (.int .u8 45)).congr (fun j _ => drow_cons f s 45 j)) (by simp; omega)
        go_wp2
        go_ret
        exact ⟨by rw [IT1.out c, FIN.out]; rfl, (by repeat (first | exact Below.refl _ _ | (with_reducible assumption) | refine bAlloc ?_ _ | refine below_drewN ?_ _ | refine Below.drew ?_ | (refine bSet ?_ (by first | (dsimp only; omega) | (simp; done) | (simp; omega)) _) | refine bTrans ?_ (by assumption)))⟩
      · have hm20 : f + 1 < 20 := by omega
        have hml : f + 1 + s.length = 20 := by omega
        generalize f + 1 = m at *
        have sl := slice20' w.heap.size m hm20
        have cv := conv20 w.heap.size m s wr R hml
        go_wp2
        go_ret
        exact ⟨by rw [IT2.out c, FIN.out]; rfl, (by repeat (first | exact Below.refl _ _ | (with_reducible assumption) | refine bAlloc ?_ _ | refine below_drewN ?_ _ | refine Below.drew ?_ | (refine bSet ?_ (by first | (dsimp only; omega) | (simp; done) | (simp; omega)) _) | refine bTrans ?_ (by assumption)))⟩

end Go.Proofs.Ythcodcgmplncjaa
