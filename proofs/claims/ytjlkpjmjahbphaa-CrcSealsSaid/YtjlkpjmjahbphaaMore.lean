/-
  Contracts of crc.extend, crc.More, crc.Sum, haymowlaw06.few.
-/
import Derived.Test.YtjlkpjmjahbphaaKit06
namespace Go.Proofs.Ytjlkpjmjahbphaa
open Go.RowKit
set_option linter.unusedVariables false

theorem xor_u64 (x m : Nat) (hx : x < 18446744073709551616) (hm : m < 18446744073709551616) : bits BinOp.xor IntKind.u64 (x : Int) (m : Int) = ((x ^^^ m : Nat) : Int) := u64_xor_nat x m hx hm
theorem top_bit {s : Nat} (hs : s < 18446744073709551616) : s / 9223372036854775808 = (s.testBit 63).toNat := by
  rw [Nat.testBit_eq_decide_div_mod_eq]
  have : s / 2 ^ 63 = 0 ∨ s / 2 ^ 63 = 1 := by omega
  rcases this with h | h
  · rw [h]; simp
  · rw [h]; simp
theorem ext_same {s : Nat} {b : Bool} (h : s.testBit 63 = b) : ext s b = s * 2 % 18446744073709551616 := by unfold ext; rw [h]; simp
theorem ext_other {s : Nat} {b : Bool} (h : s.testBit 63 ≠ b) : ext s b = (s * 2 % 18446744073709551616) ^^^ mixv := by
  unfold ext
  rw [if_pos (by simpa using h)]

set_option maxRecDepth 100000 in
theorem extend_any (s : Nat) (b : Bool) (hs : s < 18446744073709551616) (w : World) : Calls Try.prog 17 #[.int .u64 (s : Int), .int .u64 (b.toNat : Int)] w fun e w' => e = .returned (.int .u64 (ext s b : Nat)) ∧ w = w' := by
  have wr : IntKind.u64.wrap ((s : Int) * 2) = ((s * 2 % 18446744073709551616 : Nat) : Int) := by rw [IntKind.wrap_u64]; omega
  have tp : (s : Int) / 9223372036854775808 = (((s.testBit 63).toNat : Nat) : Int) := by rw [← top_bit hs]; omega
  have l : s * 2 % 18446744073709551616 < 18446744073709551616 := Nat.mod_lt _ (by decide)
  by_cases c : s.testBit 63 = b
  · have E := Lib.hid (ext_same c)
    have t : ((((s.testBit 63).toNat : Nat) : Int) != ((b.toNat : Nat) : Int)) = false := by rw [c]; simp
    clear c
    generalize s * 2 % 18446744073709551616 = d at *
    generalize (s.testBit 63).toNat = x at *
    generalize b.toNat = y at *
    go_enter Try.func17, Try.ntmps17
    go_wp2_with fail
    go_ret
    exact ⟨by rw [E.out]; rfl, rfl⟩
  · have E := Lib.hid (ext_other c)
    have t : ((((s.testBit 63).toNat : Nat) : Int) != ((b.toNat : Nat) : Int)) = true := by
      revert c; cases s.testBit 63 <;> cases b <;> simp
    have X := xor_u64 (s * 2 % 18446744073709551616) mixv l mix_lt
    rw [show ((mixv : Nat) : Int) = 4823603603198064275 from rfl] at X
    clear c
    generalize s * 2 % 18446744073709551616 = d at *
    generalize (s.testBit 63).toNat = x at *
    generalize b.toNat = y at *
    generalize d ^^^ mixv = z at *
    go_enter Try.func17, Try.ntmps17
    go_wp2_with fail
    go_ret
    exact ⟨by rw [E.out]; rfl, rfl⟩

/-- a byte's bit -/
theorem byte_bit {c k : Nat} (hk : k < 8) : ((c / 2 ^ (7 - k) % 2 : Nat) : Int) = ((c.testBit (7 - k)).toNat : Int) := by
  rw [Nat.testBit_eq_decide_div_mod_eq]
  have : c / 2 ^ (7 - k) % 2 < 2 := Nat.mod_lt _ (by decide)
  generalize c / 2 ^ (7 - k) % 2 = x at *
  have : x = 0 ∨ x = 1 := by omega
  rcases this with rfl | rfl <;> rfl
theorem bitAt_byte (L : List Nat) (i k : Nat) (hk : k < 8) : bitAt L (8 * i + k) = (L.getD i 0).testBit (7 - k) := by
  unfold bitAt
  rw [show (8 * i + k) / 8 = i by omega, show (8 * i + k) % 8 = k by omega]

set_option maxHeartbeats 1000000 in
set_option maxRecDepth 100000 in
theorem more_any (s : Nat) (v : Value) (L : List Nat) (hs : s < 18446744073709551616) (hL : Bytes L) (w : World) (hv : NL pb w v L) (hn : L.length ≤ 100000) :
    Calls Try.prog 11 #[.int .u64 (s : Int), v] w fun e w' => e = .returned (.int .u64 (crc s L : Nat)) ∧ w = w' := by
  obtain ⟨a, cap, rfl, hcap, _, hc⟩ := hv
  obtain ⟨n, hln⟩ : ∃ n, L.length = n := ⟨_, rfl⟩
  have FIN := Lib.hid (show crcf s (bitAt L) (8 * n) = crc s L by unfold crc; rw [hln])
  have ST := Lib.hid (crcf_0 s (bitAt L))
  have LT := Lib.hid (crcf_lt hs (bitAt L))
  have BY := Lib.hid (hL.at)
  rw [hln] at hc hn ⊢
  have HC := Lib.hid hc
  clear hln hc hs hL
  go_enter Try.func11, Try.ntmps11
  go_wp2_with fail
  go_loop [0, 6, 7, 10, 14] (fun z _ _ i _ => ∃ k : Nat, k ≤ n ∧ i = .int .i64 (k : Int) ∧ z = .int .u64 (crcf s (bitAt L) (8 * k) : Nat)) (fun _ _ _ i _ => n - (intOf i).toNat)
  case atStart => exact ⟨0, by omega, rfl, by rw [Nat.mul_zero, ST.out]⟩
  case round =>
    obtain ⟨k, hk, rfl, rfl⟩ := hrel
    by_cases hlt : k < n
    · obtain ⟨g, off, rfl, hg, hcs⟩ := HC.out.resolve_left (by omega)
      have q0 : w.cell? ⟨g, off + k, none⟩ = some (.int .u8 (L.getD k 0 : Nat)) := hcs k hlt
      have c256 := BY.out k
      have BB := Lib.hid (fun j hj => bitAt_byte L k j hj)
      have lt := LT.out
      clear hcs
      generalize L.getD k 0 = c at *
      generalize hF : crcf s (bitAt L) = F at *
      have SU := Lib.hid (fun m => show crcf s (bitAt L) (m + 1) = _ from crcf_succ s (bitAt L) m)
      rw [hF] at SU
      go_wp2_with fail
      go_loop [0, 7, 14] (fun z _ i => ∃ j : Nat, j ≤ 8 ∧ i = .int .i64 (j : Int) ∧ z = .int .u64 (F (8 * k + j) : Nat)) (fun _ _ i => 8 - (intOf i).toNat)
      case atStart => exact ⟨0, by omega, rfl, rfl⟩
      case round =>
        obtain ⟨j, hj, rfl, rfl⟩ := hrel
        by_cases h8 : j < 8
        · have e7 : (7 : Int) - (j : Int) = ((7 - j : Nat) : Int) := by omega
          have l7 : 7 - j < 8 := by omega
          have wq : IntKind.u64.wrap ((c : Int) / 2 ^ (7 - j)) = ((c / 2 ^ (7 - j) : Nat) : Int) := by
            have e : (c : Int) / 2 ^ (7 - j) = ((c / 2 ^ (7 - j) : Nat) : Int) := by simp
            have := Nat.div_le_self c (2 ^ (7 - j))
            rw [e, IntKind.wrap_u64]
            clear e
            generalize c / 2 ^ (7 - j) = x at *
            omega
          have tm : ((c / 2 ^ (7 - j) : Nat) : Int) % 2 = ((bitAt L (8 * k + j)).toNat : Int) := by
            rw [BB.out j h8, ← byte_bit h8]
            generalize c / 2 ^ (7 - j) = x at *
            omega
          have SX := Lib.hid (SU.out (8 * k + j))
          have EX := Lib.hid (fun w => extend_any (F (8 * k + j)) (bitAt L (8 * k + j)) (lt _) w)
          generalize bitAt L (8 * k + j) = b at *
          generalize c / 2 ^ (7 - j) = x at *
          generalize F (8 * k + j) = f at *
          go_wp2_with (go_at_call 17; refine (EX.out _).mono ?_; rintro e w1 ⟨rfl, rfl⟩)
          go_round
          case rel => exact ⟨j + 1, by omega, by go_num, by rw [← SX.out]; rfl⟩
          case measure => simp [intOf]; omega
        · obtain rfl : j = 8 := by omega
          go_wp2_with fail
          go_round
          case rel => exact ⟨k + 1, by omega, by go_num, by rw [show 8 * (k + 1) = 8 * k + 8 by omega]⟩
          case measure => simp [intOf]; omega
    · obtain rfl : k = n := by omega
      go_wp2
      go_ret
      exact ⟨by rw [FIN.out]; rfl, rfl⟩

/-! ### Sum -/
/-- the sum of the first k parts -/
def sumk (P : List (List Nat)) (k : Nat) : Nat := crc 0 (P.take k).flatten
theorem sumk_0 (P : List (List Nat)) : sumk P 0 = 0 := by unfold sumk; rw [List.take_zero]; exact crc_nil 0
theorem sumk_succ (P : List (List Nat)) (k : Nat) (h : k < P.length) : sumk P (k + 1) = crc (sumk P k) (P.getD k []) := by
  unfold sumk
  rw [List.take_succ_eq_append_getElem h, List.flatten_append, crc_append]
  simp [List.getD, List.getElem?_eq_getElem h]
theorem sumk_all (P : List (List Nat)) : sumk P P.length = crc 0 P.flatten := by unfold sumk; rw [List.take_length]
theorem sumk_lt (P : List (List Nat)) (k : Nat) : sumk P k < 18446744073709551616 := crc_lt (by decide) _
attribute [irreducible] sumk
/-- parts of bytes -/
def Parts (P : List (List Nat)) : Prop := P.length ≤ 1000 ∧ ∀ L ∈ P, Bytes L ∧ L.length ≤ 100000
theorem Parts.at {P : List (List Nat)} (h : Parts P) (k : Nat) : Bytes (P.getD k []) ∧ (P.getD k []).length ≤ 100000 := by
  rw [List.getD_eq_getElem?_getD]
  by_cases c : k < P.length
  · rw [List.getElem?_eq_getElem c]; exact h.2 _ (List.getElem_mem c)
  · rw [List.getElem?_eq_none (by omega)]; exact ⟨fun _ h => by simp at h, by simp⟩
theorem Parts.one {L : List Nat} (h : Bytes L) (hl : L.length ≤ 100000) : Parts [L] := ⟨by simp, fun M hM => by rw [List.mem_singleton] at hM; subst hM; exact ⟨h, hl⟩⟩
theorem Parts.two {L M : List Nat} (h : Bytes L) (hl : L.length ≤ 100000) (k : Bytes M) (kl : M.length ≤ 100000) : Parts [L, M] := ⟨by simp, fun X hX => by
  simp only [List.mem_cons, List.not_mem_nil, or_false] at hX
  rcases hX with rfl | rfl
  · exact ⟨h, hl⟩
  · exact ⟨k, kl⟩⟩

set_option maxHeartbeats 1000000 in
set_option maxRecDepth 100000 in
theorem sum_any (v : Value) (P : List (List Nat)) (hP : Parts P) (w : World) (hv : NLL w v P) :
    Calls Try.prog 10 #[v] w fun e w' => e = .returned (.int .u64 (crc 0 P.flatten : Nat)) ∧ w = w' := by
  obtain ⟨a, cap, rfl, hcap, hc⟩ := hv
  have hn := hP.1
  have PA := Lib.hid hP.at
  have SU := Lib.hid (sumk_succ P)
  have S0 := Lib.hid (sumk_0 P)
  have FIN := Lib.hid (sumk_all P)
  have LT := Lib.hid (sumk_lt P)
  obtain ⟨n, hln⟩ : ∃ n, P.length = n := ⟨_, rfl⟩
  rw [hln] at hc hn SU FIN ⊢
  have HC := Lib.hid hc
  clear hln hc hP
  go_enter Try.func10, Try.ntmps10
  go_wp2_with fail
  go_loop [3, 5, 8] (fun z _ i => ∃ k : Nat, k ≤ n ∧ i = .int .i64 (k : Int) ∧ z = .int .u64 (sumk P k : Nat)) (fun _ _ i => n - (intOf i).toNat)
  case atStart => exact ⟨0, by omega, rfl, by rw [S0.out]; rfl⟩
  case round =>
    obtain ⟨k, hk, rfl, rfl⟩ := hrel
    by_cases hlt : k < n
    · obtain ⟨g, off, rfl, hg, hcs⟩ := HC.out.resolve_left (by omega)
      obtain ⟨u, q0, nl⟩ := hcs k hlt
      obtain ⟨hB, hlen⟩ := PA.out k
      have SX := Lib.hid (SU.out k hlt)
      have MO := Lib.hid (more_any (sumk P k) u (P.getD k []) (LT.out k) hB w nl hlen)
      rw [← SX.out] at MO
      clear hcs nl hlen hB
      generalize hx : sumk P k = x at *
      generalize hy : sumk P (k + 1) = y at *
      have HY := Lib.hid hy
      clear hx hy SX
      go_wp2_with (go_at_call 11; refine MO.out.mono ?_; rintro e w1 ⟨rfl, rfl⟩)
      go_round
      case rel => exact ⟨k + 1, by omega, by go_num, by rw [HY.out]⟩
      case measure => simp [intOf]; omega
    · obtain rfl : k = n := by omega
      go_wp2
      go_ret
      exact ⟨by rw [← FIN.out]; rfl, rfl⟩

/-! ### few -/
/-- not more bytes than are looked at -/
def fewv (L : List Nat) : List Nat := L.take 300
theorem fewv_len (L : List Nat) : (fewv L).length = min L.length 300 := by unfold fewv; rw [List.length_take, Nat.min_comm]
theorem fewv_le (L : List Nat) : (fewv L).length ≤ 300 := by rw [fewv_len]; omega
theorem fewv_byte {L : List Nat} (h : Bytes L) : Bytes (fewv L) := h.take _
theorem fewv_min (L : List Nat) : L.take (min L.length 300) = fewv L := by
  unfold fewv
  by_cases c : L.length ≤ 300
  · rw [Nat.min_eq_left c, List.take_length, List.take_of_length_le c]
  · rw [Nat.min_eq_right (by omega)]

set_option maxRecDepth 100000 in
theorem few_any (v : Value) (L : List Nat) (w : World) (hv : NL pb w v L) (hm : L.length ≤ maxLen) :
    Calls Try.prog 8 #[v] w fun e w' => (∃ a cap, e = .returned (.slice a (fewv L).length cap) ∧ NL pb w (.slice a (fewv L).length cap) (fewv L)) ∧ w = w' := by
  obtain ⟨a, cap, rfl⟩ := hv.slice
  obtain ⟨_, hcap⟩ := hv.len
  have nl := hv.take (Nat.min_le_left L.length 300)
  rw [fewv_min, ← fewv_len] at nl
  have HN := Lib.hid nl
  have k1 := Nat.min_le_left L.length 300
  rw [← fewv_len] at k1
  have sc := slice_to a L.length cap (fewv L).length (by omega)
  have sd := slice_to' a L.length cap (fewv L).length (by omega)
  unfold maxLen at hm
  have hf := fewv_len L
  clear nl hv
  by_cases c : L.length ≤ 300
  · have e : (fewv L).length = L.length := by omega
    rw [e] at sc sd k1 HN ⊢
    clear hf e
    have c1 : (L.length : Int) ≤ 300 := by omega
    generalize L.length = n at *
    go_enter Try.func8, Try.ntmps8
    go_wp2_with fail
    go_ret
    exact ⟨⟨a, cap, rfl, HN.out⟩, rfl⟩
  · have e : (fewv L).length = 300 := by omega
    rw [e] at sc sd k1 HN ⊢
    clear hf e
    have c1 : ¬ (L.length : Int) ≤ 300 := by omega
    generalize L.length = n at *
    go_enter Try.func8, Try.ntmps8
    go_wp2_with fail
    go_ret
    exact ⟨⟨a, cap, rfl, HN.out⟩, rfl⟩

end Go.Proofs.Ytjlkpjmjahbphaa
