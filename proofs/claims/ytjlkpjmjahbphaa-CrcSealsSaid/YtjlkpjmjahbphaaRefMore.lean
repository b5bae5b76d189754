/-
  Contracts of haymowref06.More, Sum.
-/
import Derived.Test.YtjlkpjmjahbphaaRefList
import Derived.StillTailTactics
namespace Go.Proofs.Ytjlkpjmjahbphaa
open Go.RowKit
set_option linter.unusedVariables false

/-! ### the division -/
/-- the bits from i on, when i of them are divided: the sum so far laid over the next 64 -/
def rest (s : Nat) (L : List Nat) (i j : Nat) : Bool := bitAt L j != (decide (j < i + 64) && wbit (crcf s (bitAt L) i) (j - i))
theorem bitAt_out (L : List Nat) {j : Nat} (h : 8 * L.length ≤ j) : bitAt L j = false := by
  unfold bitAt
  rw [List.getD_eq_getElem?_getD, List.getElem?_eq_none (by omega)]; simp
theorem wbit_ext (s : Nat) (b : Bool) (k : Nat) (hk : k < 64) : wbit (ext s b) k = ((decide (k < 63) && wbit s (k + 1)) != ((wbit s 0 != b) && wbit mixv k)) := by
  unfold wbit; exact ext_bit s b k hk
theorem rest_top (s : Nat) (L : List Nat) (i : Nat) : rest s L i i = (wbit (crcf s (bitAt L) i) 0 != bitAt L i) := by
  unfold rest
  rw [decide_eq_true (by omega), Bool.true_and, Nat.sub_self]
  cases bitAt L i <;> cases wbit (crcf s (bitAt L) i) 0 <;> rfl
theorem rest_succ (s : Nat) (L : List Nat) (i j : Nat) (h : i + 1 ≤ j) : rest s L (i + 1) j = (rest s L i j != (rest s L i i && (decide (j < i + 1 + 64) && wbit mixv (j - (i + 1))))) := by
  rw [rest_top]
  unfold rest
  rw [crcf_succ]
  by_cases c : j < i + 1 + 64
  · obtain ⟨k, rfl⟩ : ∃ k, j = i + 1 + k := ⟨j - (i + 1), by omega⟩
    rw [wbit_ext _ _ _ (by omega), decide_eq_true c]
    have e1 : i + 1 + k - (i + 1) = k := by omega
    have e2 : i + 1 + k - i = k + 1 := by omega
    have e3 : decide (i + 1 + k < i + 64) = decide (k < 63) := by apply decide_eq_decide.2; omega
    rw [e1, e2, e3]
    generalize wbit (crcf s (bitAt L) i) 0 = a
    generalize wbit (crcf s (bitAt L) i) (k + 1) = b
    generalize bitAt L i = x
    generalize bitAt L (i + 1 + k) = y
    generalize decide (k < 63) = z
    generalize wbit mixv k = m
    revert a b x y z m; decide
  · rw [decide_eq_false c, decide_eq_false (by omega)]
    cases bitAt L j <;> simp
theorem rest_0 (s : Nat) (L : List Nat) (j : Nat) : rest s L 0 j = (bitAt L j != (decide (j < 64) && wbit s j)) := by
  unfold rest; rw [crcf_0, Nat.zero_add, Nat.sub_zero]
theorem rest_end (s : Nat) (L : List Nat) (j : Nat) (h : j < 64) : rest s L (8 * L.length) (8 * L.length + j) = wbit (crc s L) j := by
  unfold rest crc
  rw [bitAt_out L (by omega), decide_eq_true (by omega), Bool.true_and, show 8 * L.length + j - 8 * L.length = j by omega]
  simp
/-- the sum laid over the first k bits -/
def over (s : Nat) (L : List Nat) (k j : Nat) : Bool := bitAt L j != (decide (j < k) && wbit s j)
theorem over_0 (s : Nat) (L : List Nat) (j : Nat) : over s L 0 j = bitAt L j := by unfold over; simp
theorem over_succ (s : Nat) (L : List Nat) (k j : Nat) : (if j = k then (over s L k k != wbit s k) else over s L k j) = over s L (k + 1) j := by
  unfold over
  by_cases c : j = k
  · subst c; rw [if_pos rfl, decide_eq_true (show j < j + 1 by omega), decide_eq_false (show ¬ j < j by omega)]; simp
  · rw [if_neg c]
    have : decide (j < k) = decide (j < k + 1) := by apply decide_eq_decide.2; omega
    rw [this]
/-- the polynomial laid over k bits from place p on -/
def poly (A : Nat → Bool) (p k j : Nat) : Bool := A j != (decide (p ≤ j ∧ j < p + k) && wbit mixv (j - p))
theorem poly_0 (A : Nat → Bool) (p j : Nat) : poly A p 0 j = A j := by
  unfold poly; rw [decide_eq_false (by omega)]; simp
theorem poly_succ (A : Nat → Bool) (p k j : Nat) : (if j = p + k then (poly A p k (p + k) != wbit mixv k) else poly A p k j) = poly A p (k + 1) j := by
  unfold poly
  by_cases c : j = p + k
  · subst c
    rw [if_pos rfl, decide_eq_true (show p ≤ p + k ∧ p + k < p + (k + 1) by omega), decide_eq_false (by omega), Nat.add_sub_cancel_left]; simp
  · rw [if_neg c]
    have : decide (p ≤ j ∧ j < p + k) = decide (p ≤ j ∧ j < p + (k + 1)) := by apply decide_eq_decide.2; omega
    rw [this]
theorem bne_eq' (a b : Bool) : (a != b) = (a != b) := rfl
attribute [irreducible] rest over poly

theorem Row.of_owns {w : World} {B : Nat} {v : Value} {n : Nat} {f : Nat → Bool} (h : w.ownsRow B 4 1 v n (bcells f n)) (h0 : 0 < n) : ∃ g cap, v = .slice (some ⟨g, 0, none⟩) n cap ∧ n ≤ cap ∧ B ≤ g ∧ Row w g n (tv f) := by
  rcases h.2 with ⟨_, h1⟩ | ⟨g, cap, cur, rfl, hb, hg, hn, hm, hs, ht⟩
  · omega
  · refine ⟨g, cap, rfl, hn, hb, (Array.getElem?_eq_some_iff.1 hg).1, fun j hj => ?_, fun j => frozen_of_row w g j _ _ hg⟩
    rw [cell_of_row w g j _ _ _ hg]
    have e := bcells_get f n j hj
    rw [← ht, List.getElem?_take_of_lt (by omega)] at e
    simpa [tv] using e

theorem cut_bits (g n cap k : Nat) (h : k ≤ n) (hk : k < cap) (w : World) : (Instr.slice 39 (.slice (some ⟨g, 0, none⟩) n cap) (some (.int .i64 (k : Int))) none none).run Try.prog w = .ok (.slice (some ⟨g, k, none⟩) (n - k) (cap - k)) w := by
  rw [run_slice_l w 39 _ n cap (by kernel_rfl) .i64 (k : Int) (by omega) (by omega)]
  have : (sizeOf (Try.prog.elem 39)).run Try.prog w = .ok 1 w := by kernel_rfl
  rw [this]
  have c : ¬ cap = k := by omega
  simp [Result.andThen, sliced, c, add_at]
theorem cut_bits' (g n cap k : Nat) (h : k ≤ n) (hk : k < cap) (w : World) : (Instr.sliceAt 39 (.slice (some ⟨g, 0, none⟩) n cap) (some (.int .i64 (k : Int))) none none).run Try.prog w = .ok (.slice (some ⟨g, k, none⟩) (n - k) (cap - k)) w := by
  rw [run_sliceAt_slice w 39 _ _ _ _ (by kernel_rfl), cut_bits g n cap k h hk w]

set_option maxHeartbeats 2000000 in
set_option maxRecDepth 100000 in
theorem refmore_any (s : Nat) (v : Value) (L : List Nat) (hs : s < 18446744073709551616) (hL : Bytes L) (w : World) (hv : NL pb w v L) (hn : L.length ≤ 100000) :
    Calls Try.prog 12 #[.int .u64 (s : Int), v] w fun e w' => e = .returned (.int .u64 (crc s L : Nat)) ∧ Below w.heap.size w w' := by
  obtain ⟨i0, hi, hz0, hz1, hz2⟩ := info_parts infoT
  have BI := Lib.hid (bits_any v L hL w hv hn)
  have LI := Lib.hid (fun w => list_any s hs w)
  have LM := Lib.hid (fun w => list_any mixv mix_lt w)
  rw [show ((mixv : Nat) : Int) = 4823603603198064275 from rfl] at LM
  have ZE := Lib.hid (bcells_zeros (bitAt L) (8 * L.length) 64 (fun j a _ => bitAt_out L a))
  have FIN := Lib.hid (fun j h => rest_end s L j h)
  have BACK := Lib.hid (wordF_back (crc_lt hs L))
  obtain ⟨N, hN⟩ : ∃ N, 8 * L.length = N := ⟨_, rfl⟩
  have HNN := Lib.hid hN
  obtain ⟨a, cap, rfl⟩ := hv.slice
  have N6 : N ≤ 800000 := by omega
  rw [hN] at BI ZE FIN
  clear hN hs hL
  have sz0 : w.heap.size ≤ w.heap.size := Nat.le_refl _
  go_enter Try.func12, Try.ntmps12
  go_wp2_with fail
  refine BI.out.mono ?_
  rintro e w1 ⟨v1, rfl, own1, b1⟩
  obtain ⟨a1, c1, rfl⟩ := owns_slice own1
  obtain ⟨v2, w2, hr, own2, grow⟩ := run_append_own_zeros (P := Try.prog) w1 w.heap.size 39 3 39 4 i0 (.bool false) 1 .i64 .i64 Try.underlying39 Try.underlying3 hi hz0 hz1 hz2 rfl rfl _ N _ own1 64 (by omega) (by unfold maxLen; omega) (by omega) (by omega) b1.size
  have b2 : Below w.heap.size w w2 := b1.grown grow b1.size (fun j hj => (own1.lt j hj).1)
  rw [ZE.out] at own2
  obtain ⟨g, cp, rfl, hcp, hg, R2⟩ := Row.of_owns own2 (by omega)
  clear own1 own2 grow hi hz0 hz1 hz2
  dsimp only
  go_wp2_with (at_builtin; refine Lib.wpList_append_run _ rfl _ _ _ _ rfl _ _ rfl rfl _ _ hr ?_)
  refine (LI.out w2).mono ?_
  rintro e w3 ⟨g3, rfl, hg3, R3, b3⟩
  dsimp only
  go_wp2_with fail
  refine (LM.out w3).mono ?_
  rintro e w4 ⟨g4, rfl, hg4, R4, b4⟩
  have l2 := R2.lt
  have l3 := R3.lt
  have A4 : Row w4 g (N + 64) (tv (bitAt L)) := (R2.below b3).below b4
  have S4 : Row w4 g3 64 (tv (wbit s)) := R3.below b4
  have bw : Below w.heap.size w w4 := bTrans (bTrans b2 b3) b4
  have n3 : g3 ≠ g := by omega
  have n4 : g4 ≠ g := by omega
  have n34 : g4 ≠ g3 := by omega
  clear hr R2 R3 b1 b2 b3 b4 hg3 hg4 l2 l3
  dsimp only
  go_wp2_with fail
  go_loopw [8] (fun i wr => ∃ k : Nat, k ≤ 64 ∧ i = .int .i64 (k : Int) ∧ Row wr g (N + 64) (tv (over s L k)) ∧ Row wr g3 64 (tv (wbit s)) ∧ Row wr g4 64 (tv (wbit mixv)) ∧ Below w.heap.size w wr) (fun i _ => 64 - (intOf i).toNat)
  case atStart => exact ⟨0, by omega, rfl, A4.congr (fun j _ => by unfold tv; rw [over_0]), S4, R4, bw⟩
  case round =>
    obtain ⟨k, hk, rfl, RA, RS, RM, bel⟩ := hrel
    by_cases hlt : k < 64
    · have q0 := RA.cell k (by omega)
      have q1 := RA.free k
      have q2 := RS.cell k hlt
      have RA2 := Lib.hid ((RA.drew.set k (by omega) (.bool (over s L k k != wbit s k))).congr (f' := tv (over s L (k + 1))) (fun j _ => by unfold tv; rw [← over_succ s L k j]; split <;> rfl))
      have RS2 := Lib.hid (RS.drew.far (p := ⟨g, k, none⟩) (.bool (over s L k k != wbit s k)) (by dsimp only; omega))
      have RM2 := Lib.hid (RM.drew.far (p := ⟨g, k, none⟩) (.bool (over s L k k != wbit s k)) (by dsimp only; omega))
      have B2 := Lib.hid (bSet (Below.drew bel) (p := ⟨g, k, none⟩) hg (.bool (over s L k k != wbit s k)))
      unfold tv at q0 q2
      generalize over s L k k = x at *
      generalize wbit s k = y at *
      clear RA RS RM bel
      go_wp2_with fail
      go_region
      all_goals
        go_wp2_with fail
        go_roundw
        case rel => exact ⟨k + 1, by omega, by go_num, RA2.out, RS2.out, RM2.out, B2.out⟩
        case measure => simp [intOf]; try omega
    · obtain rfl : k = 64 := by omega
      have e64 : ((N + 64 : Nat) : Int) - 64 = (N : Int) := by omega
      have R0 := Lib.hid (RA.congr (f' := tv (rest s L 0)) (fun j _ => by unfold tv; rw [rest_0]; unfold over; rfl))
      have RMH := Lib.hid RM
      have BH := Lib.hid bel
      clear RA RS RM bel
      go_wp2_with fail
      go_loopw [10, 11] (fun i _ wx => ∃ (k : Nat) (A : Nat → Bool), k ≤ N ∧ i = .int .i64 (k : Int) ∧ Row wx g (N + 64) (tv A) ∧ (∀ j, k ≤ j → A j = rest s L k j) ∧ Row wx g4 64 (tv (wbit mixv)) ∧ Below w.heap.size w wx) (fun i _ _ => N - (intOf i).toNat)
      case atStart => exact ⟨0, _, by omega, rfl, R0.out, fun _ _ => rfl, RMH.out, BH.out⟩
      case round =>
        obtain ⟨k, A, hk, rfl, RA, HA, RM, bel⟩ := hrel
        by_cases hlt : k < N
        · have q0 := RA.cell k (by omega)
          have HAH := Lib.hid HA
          have RS := Lib.hid (rest_succ s L k)
          cases top : A k with
          | false =>
            unfold tv at q0
            rw [top] at q0
            have NX := Lib.hid (fun j (hj : k + 1 ≤ j) => show A j = rest s L (k + 1) j by
              rw [HA j (by omega), RS.out j hj, ← HA k (Nat.le_refl _), top, Bool.false_and, Bool.bne_false])
            clear HA
            go_wp2_with fail
            go_roundw
            case rel => exact ⟨k + 1, A, by omega, by go_num, RA, NX.out, RM, bel⟩
            case measure => simp [intOf]; try omega
          | true =>
            have NX := Lib.hid (fun j (hj : k + 1 ≤ j) => show poly A (k + 1) 64 j = rest s L (k + 1) j by
              rw [RS.out j hj, ← HA k (Nat.le_refl _), top, Bool.true_and, ← HA j (by omega)]
              unfold poly
              have : decide (k + 1 ≤ j ∧ j < k + 1 + 64) = decide (j < k + 1 + 64) := by apply decide_eq_decide.2; omega
              rw [this])
            unfold tv at q0
            rw [top] at q0
            have R0 := Lib.hid (RA.congr (f' := tv (poly A (k + 1) 0)) (fun j _ => by unfold tv; rw [poly_0]))
            have RMH := Lib.hid RM
            have BH := Lib.hid bel
            clear HA RA RM bel
            go_wp2_with fail
            go_loopw [11] (fun i wy => ∃ j : Nat, j ≤ 64 ∧ i = .int .i64 (j : Int) ∧ Row wy g (N + 64) (tv (poly A (k + 1) j)) ∧ Row wy g4 64 (tv (wbit mixv)) ∧ Below w.heap.size w wy) (fun i _ => 64 - (intOf i).toNat)
            case atStart => exact ⟨0, by omega, rfl, R0.out, RMH.out, BH.out⟩
            case round =>
              obtain ⟨j, hj, rfl, RA, RM, bel⟩ := hrel
              by_cases hlt2 : j < 64
              · have q0 := RA.cell (k + 1 + j) (by omega)
                have q1 := RA.free (k + 1 + j)
                have q2 := RM.cell j hlt2
                have RA2 := Lib.hid ((RA.drew.set (k + 1 + j) (by omega) (.bool (poly A (k + 1) j (k + 1 + j) != wbit mixv j))).congr (f' := tv (poly A (k + 1) (j + 1))) (fun i _ => by unfold tv; rw [← poly_succ A (k + 1) j i]; split <;> rfl))
                have RM2 := Lib.hid (RM.drew.far (p := ⟨g, k + 1 + j, none⟩) (.bool (poly A (k + 1) j (k + 1 + j) != wbit mixv j)) (by dsimp only; omega))
                have B2 := Lib.hid (bSet (Below.drew bel) (p := ⟨g, k + 1 + j, none⟩) hg (.bool (poly A (k + 1) j (k + 1 + j) != wbit mixv j)))
                unfold tv at q0 q2
                generalize poly A (k + 1) j (k + 1 + j) = x at *
                generalize wbit mixv j = y at *
                clear RA RM bel
                go_wp2_with fail
                go_region
                all_goals
                  go_wp2_with fail
                  go_roundw
                  case rel => exact ⟨j + 1, by omega, by go_num, RA2.out, RM2.out, B2.out⟩
                  case measure => simp [intOf]; try omega
              · obtain rfl : j = 64 := by omega
                go_wp2_with fail
                go_roundw
                case rel => exact ⟨k + 1, _, by omega, by go_num, RA, NX.out, RM, bel⟩
                case measure => simp [intOf]; try omega
        · obtain rfl : k = N := by omega
          have sc := cut_bits g (k + 64) cp k (by omega) (by omega)
          have sc' := cut_bits' g (k + 64) cp k (by omega) (by omega)
          rw [show k + 64 - k = 64 by omega] at sc sc'
          have WC := Lib.hid (fun w h => word_any g k (cp - k) (fun j => A (k + j)) w h)
          have WE : wordF (fun j => A (k + j)) 64 = crc s L := by
            rw [← BACK.out]
            exact wordF_congr 64 (fun j hj => by rw [HA (k + j) (by omega), FIN.out j hj])
          rw [WE] at WC
          have RC := Lib.hid (fun j (hj : j < 64) => RA.cell (k + j) (by omega))
          clear WE RA HA RM
          generalize cp - k = cq at *
          go_wp2_with (go_at_call 20; refine (WC.out _ (fun j hj => RC.out j hj)).mono ?_; rintro e w9 ⟨rfl, rfl⟩)
          go_ret
          exact ⟨rfl, bel⟩

set_option maxRecDepth 100000 in
theorem refsum_any (v : Value) (L : List Nat) (hL : Bytes L) (w : World) (hv : NL pb w v L) (hn : L.length ≤ 100000) :
    Calls Try.prog 9 #[v] w fun e w' => e = .returned (.int .u64 (crc 0 L : Nat)) ∧ Below w.heap.size w w' := by
  have M := Lib.hid (refmore_any 0 v L (by decide) hL w hv hn)
  obtain ⟨a, cap, rfl⟩ := hv.slice
  generalize crc 0 L = x at *
  clear hv hL
  go_enter Try.func9, Try.ntmps9
  go_wp2_with fail
  refine M.out.mono ?_
  rintro e w1 ⟨rfl, b1⟩
  dsimp only
  go_wp2_with fail
  go_ret
  exact ⟨rfl, b1⟩

end Go.Proofs.Ytjlkpjmjahbphaa
