/-
  The contract of haymowref06.Turn.
-/
import Derived.Test.YtjlkpjmjahbphaaRefSeal
namespace Go.Proofs.Ytjlkpjmjahbphaa
open Go.RowKit
set_option linter.unusedVariables false

theorem Row.of_bytes {w : World} {B : Nat} {v : Value} {n : Nat} {L : List Nat} (h : w.ownsRow B 5 1 v n (L.map pb)) (hl : L.length = n) (h0 : 0 < n) : ∃ g cap, v = .slice (some ⟨g, 0, none⟩) n cap ∧ n ≤ cap ∧ B ≤ g ∧ Row w g n (fun j => pb (L.getD j 0)) := by
  rcases h.2 with ⟨_, h1⟩ | ⟨g, cap, cur, rfl, hb, hg, hn, hm, hs, ht⟩
  · omega
  · refine ⟨g, cap, rfl, hn, hb, (Array.getElem?_eq_some_iff.1 hg).1, fun j hj => ?_, fun j => frozen_of_row w g j _ _ hg⟩
    rw [cell_of_row w g j _ _ _ hg]
    have e : (L.map pb)[j]? = some (pb (L.getD j 0)) := by simp [List.getD, show j < L.length by omega]
    rw [← ht, List.getElem?_take_of_lt (by omega)] at e
    simpa using e
theorem flip_at (M : List Nat) (k j : Nat) (hk : k / 8 < M.length) : (flip M k).getD j 0 = if j = k / 8 then M.getD (k / 8) 0 ^^^ (128 / 2 ^ (k % 8)) else M.getD j 0 := by
  unfold flip
  rw [List.getD_eq_getElem?_getD, List.getElem?_set]
  by_cases c : k / 8 = j
  · subst c; rw [if_pos rfl, if_pos hk, if_pos rfl]; rfl
  · rw [if_neg c, if_neg (by omega), List.getD_eq_getElem?_getD]
/-- What a call leaves: the same bytes but for turned bits. -/
def TurnedTo (L : List Nat) (p x : Nat) (w : World) (e : Ending) (w' : World) : Prop := ∃ M a cap, Turned L M (laid p x 64) ∧ e = .returned (.slice a L.length cap) ∧ NL pb w' (.slice a L.length cap) M ∧ Below w.heap.size w w'

set_option maxHeartbeats 2000000 in
set_option maxRecDepth 100000 in
theorem turn_any (v : Value) (L : List Nat) (p x : Nat) (hx : x < 18446744073709551616) (hp : p ≤ 1000000) (hL : Bytes L) (w : World) (hv : NL pb w v L) (hn : L.length ≤ 99000) :
    Calls Try.prog 16 #[v, .int .i64 (p : Int), .int .u64 (x : Int)] w (TurnedTo L p x w) := by
  obtain ⟨v1, w1, hr, own1, b1⟩ := copied w v L hv (by omega)
  have LI := Lib.hid (list_any x hx w1)
  have T0 := Lib.hid (Turned.start hL p x)
  have T1 := Lib.hid (fun M i h hk hb => Turned.one (L := L) (M := M) (p := p) (w := x) (i := i) h hk hb)
  have T2 := Lib.hid (fun M i h hb => Turned.skip (L := L) (M := M) (p := p) (w := x) (i := i) h hb)
  have T3 := Lib.hid (fun M i h hi hi2 => Turned.last (L := L) (M := M) (p := p) (w := x) (i := i) h hi hi2)
  obtain ⟨a, cap, rfl⟩ := hv.slice
  obtain ⟨n, hln⟩ : ∃ n, L.length = n := ⟨_, rfl⟩
  have HN := Lib.hid hln
  clear hv
  by_cases h0 : n = 0
  · rw [hln] at own1 hr hn T3 ⊢
    subst h0
    obtain ⟨a1, c1, rfl⟩ := owns_slice own1
    have OW := Lib.hid own1
    have FIN := Lib.hid (T3.out L 0 T0.out (.inr (by omega)) (by omega))
    have t1 : ¬ (p : Int) < 0 := by omega
    clear hln own1
    unfold TurnedTo
    rw [HN.out]
    go_enter Try.func16, Try.ntmps16
    go_wp2_with (at_builtin; refine Lib.wpList_append_run _ rfl _ _ _ _ rfl _ _ rfl rfl _ _ hr ?_)
    refine LI.out.mono ?_
    rintro e w2 ⟨g2, rfl, hg2, R2, b2⟩
    have nl := Lib.hid ((NL.of_owns (L := L) (by rw [HN.out]; exact OW.out)).below b2)
    dsimp only
    go_wp2_with fail
    go_loopw [9] (fun i wr => i = .int .i64 0 ∧ wr = w2) (fun _ _ => 0)
    case atStart => exact ⟨rfl, rfl⟩
    case round =>
      obtain ⟨rfl, rfl⟩ := hrel
      go_wp2_with fail
      go_ret
      exact ⟨L, a1, c1, FIN.out, rfl, nl.out, bTrans b1 b2⟩
  · rw [hln] at own1 hr hn T1 T3 ⊢
    obtain ⟨g, c1, rfl, hc1, hg, R1⟩ := Row.of_bytes own1 hln (by omega)
    clear hln own1
    unfold TurnedTo
    rw [HN.out]
    go_enter Try.func16, Try.ntmps16
    go_wp2_with (at_builtin; refine Lib.wpList_append_run _ rfl _ _ _ _ rfl _ _ rfl rfl _ _ hr ?_)
    refine LI.out.mono ?_
    rintro e w2 ⟨g2, rfl, hg2, R2, b2⟩
    have R12 := R1.below b2
    have l1 := R1.lt
    have bw : Below w.heap.size w w2 := bTrans b1 b2
    have n2 : g2 ≠ g := by omega
    clear hr R1 b1 b2 hg2 l1 LI
    dsimp only
    go_wp2_with fail
    go_loopw [9, 10] (fun i _ wr => ∃ (k : Nat) (M : List Nat), k ≤ 64 ∧ i = .int .i64 (k : Int) ∧ Turned L M (laid p x k) ∧ Row wr g n (fun j => pb (M.getD j 0)) ∧ Row wr g2 64 (tv (wbit x)) ∧ Below w.heap.size w wr) (fun i _ _ => 64 - (intOf i).toNat)
    case atStart => exact ⟨0, L, by omega, rfl, T0.out, R12, R2, bw⟩
    case round =>
      obtain ⟨k, M, hk, rfl, TU, RA, RB, bel⟩ := hrel
      have ML := TU.1
      rw [HN.out] at ML
      by_cases hlt : k < 64
      · by_cases hin : p + k < 8 * n
        · have q2 := RB.cell k hlt
          unfold tv at q2
          have tb : x.testBit (63 - k) = wbit x k := by unfold wbit; rfl
          obtain ⟨q, hq⟩ : ∃ q, p + k = q := ⟨_, rfl⟩
          have eq : (p : Int) + (k : Int) = (q : Int) := by omega
          have t1 : (q : Int) < 8 * (n : Int) := by omega
          cases hb : wbit x k with
          | false =>
            rw [hb] at q2 tb
            have NX := Lib.hid (T2.out M k TU tb)
            clear tb hb TU
            go_wp2_with fail
            go_roundw
            case rel => exact ⟨k + 1, M, by omega, by go_num, NX.out, RA, RB, bel⟩
            case measure => simp [intOf]; try omega
          | true =>
            rw [hb] at q2 tb
            have NX := T1.out M k TU hin tb
            rw [hq] at NX
            have NXH := Lib.hid NX
            have q8 : q / 8 < n := by omega
            have ed : (q : Int) / 8 = ((q / 8 : Nat) : Int) := by omega
            have em : (q : Int) % 8 = ((q % 8 : Nat) : Int) := by omega
            have c256 := TU.2.1.at (q / 8)
            have f256 : 128 / 2 ^ (q % 8) < 256 := Nat.lt_of_le_of_lt (Nat.div_le_self _ _) (by decide)
            have sh : (128 : Int) / 2 ^ (q % 8) = ((128 / 2 ^ (q % 8) : Nat) : Int) := shr_nat 128 (q % 8)
            have m8 : q % 8 < 8 := by omega
            have xr := u8_xor_nat (M.getD (q / 8) 0) (128 / 2 ^ (q % 8)) c256 f256
            have q0 := RA.cell (q / 8) q8
            have q1 := RA.free (q / 8)
            have RA2 := Lib.hid ((RA.set (q / 8) q8 (pb (M.getD (q / 8) 0 ^^^ (128 / 2 ^ (q % 8))))).congr (f' := fun j => pb ((flip M q).getD j 0)) (fun j _ => by rw [flip_at M q j (by omega)]; split <;> rfl))
            have RB2 := Lib.hid (RB.far (p := ⟨g, q / 8, none⟩) (pb (M.getD (q / 8) 0 ^^^ (128 / 2 ^ (q % 8)))) (by dsimp only; omega))
            have B2 := Lib.hid (bSet bel (p := ⟨g, q / 8, none⟩) hg (pb (M.getD (q / 8) 0 ^^^ (128 / 2 ^ (q % 8)))))
            unfold pb at q0 RA2 RB2 B2
            clear tb hb TU NX RA RB bel
            generalize M.getD (q / 8) 0 ^^^ (128 / 2 ^ (q % 8)) = z at *
            generalize M.getD (q / 8) 0 = y at *
            generalize 128 / 2 ^ (q % 8) = u at *
            generalize q % 8 = m at *
            generalize q / 8 = d at *
            go_wp2_with fail
            go_roundw
            case rel => exact ⟨k + 1, _, by omega, by go_num, NXH.out, RA2.out, RB2.out, B2.out⟩
            case measure => simp [intOf]; try omega
        · obtain ⟨q, hq⟩ : ∃ q, p + k = q := ⟨_, rfl⟩
          have eq : (p : Int) + (k : Int) = (q : Int) := by omega
          have t1 : ¬ (q : Int) < 8 * (n : Int) := by omega
          have FIN := Lib.hid (T3.out M k TU (.inr (by omega)) hk)
          have nl := Lib.hid (NL.of_row (cap := c1) RA ML hc1)
          clear TU RA RB
          go_wp2_with fail
          go_ret
          first | exact ⟨M, _, c1, FIN.out, rfl, nl.out, bel⟩ | exact ⟨M, FIN.out, _, c1, rfl, nl.out, bel⟩
      · obtain rfl : k = 64 := by omega
        have nl := Lib.hid (NL.of_row (cap := c1) RA ML hc1)
        have FIN := Lib.hid TU
        clear TU RA RB
        go_wp2_with fail
        go_ret
        first | exact ⟨M, _, c1, FIN.out, rfl, nl.out, bel⟩ | exact ⟨M, FIN.out, _, c1, rfl, nl.out, bel⟩

end Go.Proofs.Ytjlkpjmjahbphaa
