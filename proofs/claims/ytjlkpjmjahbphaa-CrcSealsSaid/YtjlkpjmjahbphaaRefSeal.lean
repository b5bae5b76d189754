/-
  Contracts of haymowref06.Seal, Turn.
-/
import Derived.Test.YtjlkpjmjahbphaaRefMore
namespace Go.Proofs.Ytjlkpjmjahbphaa
open Go.RowKit
set_option linter.unusedVariables false

/-- bytes that came in, nil or not, appended to a list of one's own -/
theorem run_append_bytes (w : World) (B : Nat) (v : Value) (n : Nat) (xs : List Value) (own : w.ownsRow B 5 1 v n xs) (u : Value) (L : List Nat) (hu : NL pb w u L) (hb : n + L.length ≤ 1000000) (hB : B ≤ w.heap.size) :
    ∃ v' w', (Builtin.append_ #[22, 22] 22 #[v, u]).run Try.prog w = .ok v' w' ∧ w'.ownsRow B 5 1 v' (n + L.length) (xs ++ L.map pb) ∧ w.grownBy w' v.ownBlock := by
  obtain ⟨i0, hi, hz0, hz1, hz2⟩ := info_parts infoB
  obtain ⟨a, cap, rfl⟩ := hu.slice
  rcases NL.cells hu with ⟨rfl, h0, rfl⟩ | ⟨ad, rfl, hc⟩
  · obtain rfl : L = [] := List.eq_nil_of_length_eq_zero h0
    refine ⟨v, w, run_append_owned_none (P := Try.prog) (w := w) B 22 22 5 i0 1 Try.underlying22 hi v n xs own, by simpa using own, ⟨rfl, rfl, rfl, Nat.le_refl _, fun _ _ _ => rfl⟩⟩
  · obtain ⟨v', w', hr, h2, h3, _⟩ := run_append_own (P := Try.prog) w B 22 22 5 i0 (.int .u8 0) 1 1 Try.underlying22 hi hz0 hz1 hz2 rfl (by decide) v n xs own ad L.length cap (L.map pb) (by simp) hc byte_one (by unfold maxLen; omega) (by omega) hB
    exact ⟨v', w', hr, h2, h3⟩
/-- a new copy of bytes -/
theorem copied (w : World) (u : Value) (L : List Nat) (hu : NL pb w u L) (hb : L.length ≤ 100000) :
    ∃ v' w', (Builtin.append_ #[22, 22] 22 #[.slice (some ⟨w.heap.size, 0, none⟩) 0 0, u]).run Try.prog (w.alloc (.cells #[] 5)) = .ok v' w' ∧ w'.ownsRow w.heap.size 5 1 v' L.length (L.map pb) ∧ Below w.heap.size w w' := by
  have own0 := World.ownsRow_made (base := w.heap.size) (e := 5) (size := 1) w #[] 0 (Nat.le_refl _) (by unfold maxLen; omega) (by simp)
  have bA := bAlloc (Below.refl w.heap.size w) (.cells #[] 5)
  obtain ⟨v', w', hr, h2, h3⟩ := run_append_bytes (w.alloc (.cells #[] 5)) w.heap.size _ 0 [] own0 u L (hu.below bA) (by omega) bA.size
  rw [Nat.zero_add, List.nil_append] at h2
  exact ⟨v', w', hr, h2, bA.grown h3 bA.size (fun j hj => (own0.lt j hj).1)⟩
theorem sbytes_take (s k : Nat) (h : k < 8) : (sbytes s).take (k + 1) = (sbytes s).take k ++ [sbyte s k] := by
  have l : k < (sbytes s).length := by rw [sbytes_len]; exact h
  rw [List.take_succ_eq_append_getElem l]
  have := sbytes_at s k h
  rw [List.getD_eq_getElem?_getD, List.getElem?_eq_getElem l] at this
  rw [← this]; rfl
theorem sbytes_all (s : Nat) : (sbytes s).take 8 = sbytes s := List.take_of_length_le (by rw [sbytes_len]; omega)
theorem sbyte_wrap2 (s k : Nat) : IntKind.u8.wrap ((s / 2 ^ (8 * (7 - k)) : Nat) : Int) = ((sbyte s k : Nat) : Int) := by
  unfold sbyte
  rw [IntKind.wrap_u8]
  generalize s / 2 ^ (8 * (7 - k)) = x
  omega

set_option maxHeartbeats 1000000 in
set_option maxRecDepth 100000 in
theorem refseal_any (v : Value) (L : List Nat) (hL : Bytes L) (w : World) (hv : NL pb w v L) (hn : L.length ≤ 99000) :
    Calls Try.prog 15 #[v] w (Grew w.heap.size (sealv L) w) := by
  obtain ⟨i0, hi, hz0, hz1, hz2⟩ := info_parts infoB
  have HI := Lib.hid (And.intro hi (And.intro hz0 (And.intro hz1 hz2)))
  obtain ⟨v1, w1, hr, own1, b1⟩ := copied w v L hv (by omega)
  have SU := Lib.hid (refsum_any v L hL w1 (hv.below b1) (by omega))
  have SV : L ++ sbytes (crc 0 L) = sealv L := by unfold sealv; rfl
  have lt := crc_lt (s := 0) (by decide) L
  generalize hs : crc 0 L = s at *
  have FIN := Lib.hid (show L ++ (sbytes s).take 8 = sealv L by rw [sbytes_all, SV])
  have TK := Lib.hid (sbytes_take s)
  obtain ⟨a, cap, rfl⟩ := hv.slice
  obtain ⟨a1, c1, rfl⟩ := owns_slice own1
  have OW := Lib.hid own1
  clear hv hL hi hz0 hz1 hz2 own1 SV hs
  go_enter Try.func15, Try.ntmps15
  go_wp2_with (at_builtin; refine Lib.wpList_append_run _ rfl _ _ _ _ rfl _ _ rfl rfl _ _ hr ?_)
  refine SU.out.mono ?_
  rintro e w2 ⟨rfl, b2⟩
  have bw : Below w.heap.size w w2 := bTrans b1 b2
  have OW2 := Lib.hid (owns_below OW.out b2)
  clear hr b1 b2 OW SU
  dsimp only
  go_wp2_with fail
  go_loopw [3, 5] (fun z i wr => ∃ k : Nat, k ≤ 8 ∧ i = .int .i64 ((7 : Int) - (k : Int)) ∧ wr.ownsRow w.heap.size 5 1 z (L ++ (sbytes s).take k).length ((L ++ (sbytes s).take k).map pb) ∧ Below w.heap.size w wr) (fun _ i _ => (intOf i + 1).toNat)
  case atStart => exact ⟨0, by omega, rfl, by rw [List.take_zero, List.append_nil]; exact OW2.out, bw⟩
  case round =>
    obtain ⟨k, hk, rfl, own, bel⟩ := hrel
    obtain ⟨va, vc, rfl⟩ := owns_slice own
    have ll : (L ++ (sbytes s).take k).length ≤ 99008 := by rw [List.length_append, List.length_take, sbytes_len]; omega
    have sz := bel.size
    by_cases hlt : k < 8
    · have e7 : (7 : Int) - (k : Int) = ((7 - k : Nat) : Int) := by omega
      have e8 : 8 * ((7 - k : Nat) : Int) = ((8 * (7 - k) : Nat) : Int) := by omega
      have l8 : 8 * (7 - k) ≤ 56 := by omega
      have l7 : 7 - k ≤ 7 := by omega
      have sh := shr_nat s (8 * (7 - k))
      have wb := sbyte_wrap2 s k
      have NX := Lib.hid (show L ++ (sbytes s).take (k + 1) = (L ++ (sbytes s).take k) ++ [sbyte s k] by rw [TK.out k hlt, List.append_assoc])
      obtain ⟨hi, hz0, hz1, hz2⟩ := HI.out
      have E7 := Lib.hid e7
      rw [e7]
      generalize s / 2 ^ (8 * (7 - k)) = y at *
      generalize sbyte s k = b at *
      generalize 8 * (7 - k) = m at *
      generalize L ++ (sbytes s).take k = M at *
      obtain ⟨q, hq⟩ : ∃ q, M.length = q := ⟨_, rfl⟩
      have HQ := Lib.hid hq
      rw [hq] at own ll ⊢
      clear hq
      go_wp2_with (at_builtin; refine wpList_append_own _ rfl _ _ 22 rfl w.heap.size 5 i0 (.int .u8 0) 1 1 Try.underlying22 hi hz0 hz1 hz2 rfl (by decide) _ _ _ rfl (own.alloc _) ⟨wr.heap.size, 0, none⟩ 1 1 [pb b] rfl rfl (fun j u hj => one_at _ _ _ j u hj) (fun u hu => by simp at hu; subst hu; rfl) (by unfold maxLen; omega) (by omega) (by simp; omega) ?_; intro v' w3 own3 grow3 _)
      have b3 : Below w.heap.size w w3 := (bel.alloc (by omega) _).grown grow3 (by simp; omega) (fun j hj => (own.lt j hj).1)
      go_roundw
      case rel =>
        refine ⟨k + 1, by omega, by first | (rw [← E7.out]; go_num; done) | (rw [← E7.out]; done) | (go_num; done), ?_, b3⟩
        rw [NX.out, List.length_append, List.map_append, HQ.out]
        exact own3
      case measure => simp [intOf]; try omega
    · obtain rfl : k = 8 := by omega
      rw [show (7 : Int) - ((8 : Nat) : Int) = -1 from rfl]
      rw [FIN.out] at own ⊢
      have OW3 := Lib.hid own
      clear own ll
      obtain ⟨q, hq⟩ : ∃ q, (sealv L).length = q := ⟨_, rfl⟩
      have HQ := Lib.hid hq
      rw [hq] at OW3 ⊢
      clear hq
      go_wp2_with fail
      go_ret
      exact ⟨_, rfl, by rw [HQ.out]; exact OW3.out, bel⟩

end Go.Proofs.Ytjlkpjmjahbphaa
