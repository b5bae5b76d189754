/-
  The contract of wide.Text.
-/
import Derived.Test.YtfcplfbofobdpaaWide2
import Derived.Test.YtfcplfbofobdpaaRow
import Derived.Test.YtfcplfbofobdpaaDec
import Derived.LoopTactic
import Derived.KernelRfl
namespace Go.Proofs.Ytfcplfbofobdpaa
open Go.RowKit
set_option linter.unusedVariables false

theorem div10_any (a : Nat) (ha : N128 a) (w : World) : Calls Try.prog 20 #[wv a, .int .u64 10] w fun e w' => e = .returned (.tuple #[wv (a / 10), .int .u64 ((a % 10 : Nat) : Int), .int .i64 0]) ∧ Below w.heap.size w w' :=
  div_any a 10 ha (by unfold Word; omega) (by omega) w

/-- a number's two words in a block -/
def wrow (x j : Nat) : Value := if j = 0 then .int .u64 (hi x) else .int .u64 (lo x)
/-- the digits so far, right-aligned in 39 places -/
def drow (m : Nat) (s : List Int) (j : Nat) : Value := .int .u8 (if j < m then 0 else s.getD (j - m) 0)
theorem drow_cons (m : Nat) (s : List Int) (d : Int) (j : Nat) : (if j = m then .int .u8 d else drow (m + 1) s j) = drow m (d :: s) j := by
  by_cases h : j = m
  · subst h; rw [if_pos rfl]; unfold drow; rw [if_neg (by omega)]; simp
  · rw [if_neg h]; unfold drow
    by_cases h2 : j < m
    · rw [if_pos (by omega), if_pos h2]
    · rw [if_neg (by omega), if_neg h2, show j - m = (j - (m + 1)) + 1 by omega]; simp
theorem wrow_new (x : Nat) (j : Nat) (hj : j < 2) : (#[Value.int .u64 (hi x), .int .u64 (lo x)] : Array Value)[j]? = some (wrow x j) := by
  have h : j = 0 ∨ j = 1 := by omega
  rcases h with rfl | rfl <;> rfl
theorem wrow_set {w : World} {g x y : Nat} (h : Row w g 2 (wrow x)) : Row ((w.setCell ⟨g, 0, none⟩ (.int .u64 (hi y))).setCell ⟨g, 1, none⟩ (.int .u64 (lo y))) g 2 (wrow y) :=
  ((h.set 0 (by omega) _).set 1 (by omega) _).congr fun j hj => by
    have h : j = 0 ∨ j = 1 := by omega
    rcases h with rfl | rfl <;> rfl

theorem slice_at (g m : Nat) (hm : m < 39) (w : World) : (Instr.sliceAt 59 (.pointer (some ⟨g, 0, none⟩)) (some (.int .i64 (m : Nat))) none none).run Try.prog w = .ok (.slice (some ⟨g, m, none⟩) (39 - m) (39 - m)) w := by
  have hl : Try.prog.arrayLen 59 = 39 := by kernel_rfl
  rw [run_sliceAt_array_l w 59 _ (by kernel_rfl) .i64 m (by omega) (by rw [hl]; omega), hl]
  simp [go_sem, slicedAt, Addr.add]
  rw [if_neg (by omega)]
  split
  · subst_vars; rfl
  · rfl
theorem conv_digits (g m : Nat) (s : List Int) (W : World) (h : Row W g 39 (drow m s)) (hl : m + s.length = 39) : (convert 60 9 (.slice (some ⟨g, m, none⟩) (39 - m) (39 - m))).run Try.prog W = .ok (.string (strOfNums s)) W := by
  refine run_convert_bytes_arg W 60 5 Try.underlying60 Try.underlying5 g m (39 - m) (39 - m) s (by omega) (fun i hi => ?_) 9 Try.underlying9
  rw [h.cell (m + i) (by omega)]
  unfold drow
  rw [if_neg (by omega), show m + i - m = i by omega]

/-- what holds at the head of the loop -/
structure TInv (a : Nat) (w : World) (B G m x : Nat) (s : List Int) (wr : World) : Prop where
  n : N128 x
  lt : x < 10 ^ (m + 1)
  eq : dtext a = dtextF (m + 1) x ++ s
  len : m + 1 + s.length = 39
  box : Row wr B 2 (wrow x)
  row : Row wr G 39 (drow (m + 1) s)
  bel : Below w.heap.size w wr

set_option maxHeartbeats 1000000 in
set_option maxRecDepth 100000 in
theorem text_any (a : Nat) (ha : N128 a) (w : World) : Calls Try.prog 23 #[wv a] w fun e w' => e = .returned (.string (strOfNums (dtext a))) ∧ Below w.heap.size w w' := by
  have N0 := Lib.hid ha
  clear ha
  go_enter Try.func23, Try.ntmps23
  go_wp2
  go_loopw [4, 5, 6, 7] (fun i p q r wr => ∃ (m x : Nat) (s : List Int), i = .int .i64 ((m : Int) + 1) ∧ TInv a w w.heap.size (w.heap.size + 1) m x s wr) (fun i _ _ _ _ => (intOf i).toNat)
  case atStart =>
    refine ⟨38, a, [], rfl, N0.out, N128_10 N0.out, by simp [dtext], rfl, ?_, ?_, (by repeat (first | exact Below.refl _ _ | (with_reducible assumption) | refine bAlloc ?_ _ | refine below_drewN ?_ _ | refine Below.drew ?_ | (refine bSet ?_ (by first | (dsimp only; omega) | (simp; done) | (simp; omega)) _) | refine bTrans ?_ (by assumption)))⟩
    · refine Row.alloc ?_ _
      exact Row.new _ _ _ 2 _ (wrow_new a)
    · refine Row.newAt _ _ _ _ 39 _ (by simp) fun j hj => ?_
      change (Array.replicate 39 (Value.int .u8 0))[j]? = _
      simp [hj, drow]
  case round =>
    obtain ⟨m, x, s, rfl, I⟩ := hrel
    have x0 := I.box.cell 0 (by omega); have x1 := I.box.cell 1 (by omega)
    change wr.cell? ⟨w.heap.size, 0, none⟩ = some (.int .u64 (hi x)) at x0
    change wr.cell? ⟨w.heap.size, 1, none⟩ = some (.int .u64 (lo x)) at x1
    have DV := fun w => div10_any x I.n w
    have d9 : ((x % 10 : Nat) : Int) ≤ 9 := by omega
    have d0 : 0 ≤ ((x % 10 : Nat) : Int) := by omega
    have lenI := I.len
    have hm : m < 39 := by omega
    generalize hd : ((x % 10 : Nat) : Int) = d at *
    have HD := Lib.hid hd
    clear hd
    by_cases hx : x / 10 = 0
    · simp only [wv, hx, hi_0, lo_0] at DV
      have DH := Lib.hid DV
      clear DV
      have HX := Lib.hid hx
      clear hx lenI
      have sl := slice_at (w.heap.size + 1) m hm
      go_wp2_with (go_at_call 20; refine (DH.out _).mono ?_; rintro e w1 ⟨rfl, hb1⟩; have rb := I.box.below hb1; have rg := I.row.below hb1; have y0 := rb.cell 0 (by omega); have y1 := rb.cell 1 (by omega); have y2 := rb.free 0; have y3 := rb.free 1; have g0 := rg.cell m (by omega); have g1 := rg.free m; have l0 := rb.lt; have l1 := rg.lt; have cv := fun o => conv_digits (w.heap.size + 1) m ((48 + d) :: s) ((w1.setCell ⟨w.heap.size + 1, m, none⟩ (.int .u8 (48 + d))).alloc o) (((rg.set m (by omega) _).congr (fun j _ => drow_cons m s (48 + d) j)).alloc o) (by have := I.len; simp; omega))
      go_ret
      refine ⟨?_, ?_⟩
      · have e := I.eq
        rw [dtextF_last HX.out, HD.out] at e
        rw [e]
        rfl
      · have bz : Below w.heap.size w w1 := I.bel.trans (hb1.mono I.bel.size)
        exact (by repeat (first | exact Below.refl _ _ | (with_reducible assumption) | refine bAlloc ?_ _ | refine below_drewN ?_ _ | refine Below.drew ?_ | (refine bSet ?_ (by first | (dsimp only; omega) | (simp; done) | (simp; omega)) _) | refine bTrans ?_ (by assumption)))
    · obtain ⟨m, rfl⟩ : ∃ k, m = k + 1 := by
        cases m with
        | zero => exact absurd (Nat.lt_one_iff.1 (div10_lt I.lt)) hx
        | succ k => exact ⟨k, rfl⟩
      have hne : ¬ (hi (x / 10) = 0 ∧ lo (x / 10) = 0) := fun k => hx (hi_lo_inj (k.1.trans hi_0.symm) (k.2.trans lo_0.symm))
      have nx := N128_div I.n
      have lx := div10_lt I.lt
      have ex := I.eq
      rw [dtextF_more hx, HD.out, List.append_assoc] at ex
      have EX := Lib.hid ex
      have bx := I.box
      have RB : ∀ {w2 : World}, Row w2 w.heap.size 2 (wrow x) → Row ((w2.setCell ⟨w.heap.size, 0, none⟩ (.int .u64 (hi (x / 10)))).setCell ⟨w.heap.size, 1, none⟩ (.int .u64 (lo (x / 10)))) w.heap.size 2 (wrow (x / 10)) := fun h => wrow_set h
      generalize hh : hi (x / 10) = h' at *
      generalize hl : lo (x / 10) = l' at *
      simp only [wv, hh, hl] at DV
      have DH := Lib.hid DV
      have HH := Lib.hid hh
      have HL := Lib.hid hl
      clear DV hh hl ex lenI hx
      by_cases c : h' = 0
      all_goals
        first | (subst c; have c2 : ¬ l' = 0 := fun k => hne ⟨rfl, k⟩) | skip
        clear hne
        go_wp2_with (go_at_call 20; refine (DH.out _).mono ?_; rintro e w1 ⟨rfl, hb1⟩; have rb := I.box.below hb1; have rg := I.row.below hb1; have y0 := rb.cell 0 (by omega); have y1 := rb.cell 1 (by omega); have y2 := rb.free 0; have y3 := rb.free 1; have g0 := rg.cell (m + 1) (by omega); have g1 := rg.free (m + 1); have l0 := rb.lt; have l1 := rg.lt)
        have bz : Below w.heap.size w w1 := I.bel.trans (hb1.mono I.bel.size)
        have rg2 : Row (w1.setCell ⟨w.heap.size + 1, m + 1, none⟩ (.int .u8 (48 + d))) (w.heap.size + 1) 39 (drow (m + 1) ((48 + d) :: s)) := (rg.set (m + 1) (by omega) _).congr (fun j _ => drow_cons (m + 1) s (48 + d) j)
        have rb2 := RB (rb.far (p := ⟨w.heap.size + 1, m + 1, none⟩) (.int .u8 (48 + d)) (by simp))
        have len2 := I.len
        clear DH RB
        go_roundw
        case rel =>
          exact ⟨m, x / 10, (48 + d) :: s, by go_num, nx, lx, EX.out, by simp; omega, Row.alloc rb2 _, Row.alloc ((rg2.far _ (by simp)).far _ (by simp)) _, (by repeat (first | exact Below.refl _ _ | (with_reducible assumption) | refine bAlloc ?_ _ | refine below_drewN ?_ _ | refine Below.drew ?_ | (refine bSet ?_ (by first | (dsimp only; omega) | (simp; done) | (simp; omega)) _) | refine bTrans ?_ (by assumption)))⟩
        case measure => simp [intOf]; omega

end Go.Proofs.Ytfcplfbofobdpaa
