/-
  haymowlaw14.SemiTakes, walked.
-/
import Derived.Test.YtnpoiebhajjkbaaSmiL
import Derived.LoopTactic
import Derived.Deep.RegionLaw
namespace Go.Proofs.Ytnpoiebhajjkbaa
open Go.RowKit
set_option linter.unusedVariables false

/-- The list of integers, of whatever sign, that a slice holds. -/
def ZL (p : Int → Value) (w : World) (v : Value) (L : List Int) : Prop := ∃ a cap, v = .slice a L.length cap ∧ (L.length = 0 ∨ ∃ b off, a = some ⟨b, off, none⟩ ∧ b < w.heap.size ∧ ∀ i, i < L.length → w.cell? ⟨b, off + i, none⟩ = some (p (L.getD i 0)))
theorem ZL.below {p : Int → Value} {w w' : World} {v : Value} {L : List Int} (h : ZL p w v L) (hb : Below w.heap.size w w') : ZL p w' v L := by
  obtain ⟨a, cap, rfl, h⟩ := h
  refine ⟨a, cap, rfl, ?_⟩
  rcases h with h | ⟨b, off, rfl, hlt, hc⟩
  · exact .inl h
  · exact .inr ⟨b, off, rfl, Nat.lt_of_lt_of_le hlt hb.size, fun i hi => (hb.cell (p := ⟨b, off + i, none⟩) hlt).trans (hc i hi)⟩
theorem ZL.at {p : Int → Value} {w : World} {a : Option Addr} {n c : Nat} {L : List Int} (h : ZL p w (.slice a n c) L) {i : Nat} (hi : i < L.length) : ∃ b off, a = some ⟨b, off, none⟩ ∧ w.cell? ⟨b, off + i, none⟩ = some (p (L.getD i 0)) := by
  obtain ⟨a', c', e, h⟩ := h
  injection e with e1 e2 e3
  subst e1
  rcases h with h | ⟨b, off, rfl, _, hc⟩
  · omega
  · exact ⟨b, off, rfl, hc i hi⟩
abbrev pi8 (z : Int) : Value := .int .i8 z
theorem meas14 {i i1 n : Nat} (h : i + 1 = i1) (hn : i < n) : n - (intOf (.int .i64 (i1 : Int))).toNat < n - (intOf (.int .i64 (i : Int))).toNat := by
  subst h
  show n - (((i + 1 : Nat) : Int)).toNat < n - ((i : Int)).toNat
  rw [Int.toNat_natCast, Int.toNat_natCast]; omega
theorem up14 {i n : Nat} (h : i < n) (hn : n ≤ 1000) : (i : Int) + 1 = ((i + 1 : Nat) : Int) ∧ wrap64 ((i + 1 : Nat) : Int) = ((i + 1 : Nat) : Int) ∧ IntKind.i64.wrap ((i + 1 : Nat) : Int) = ((i + 1 : Nat) : Int) := ⟨by omega, by unfold wrap64; omega, by rw [IntKind.wrap_i64]; omega⟩
theorem lt14 {i n : Nat} (h : i < n) : (i : Int) < (n : Int) := by omega
theorem nlt14 {i n : Nat} (h : ¬ i < n) : ¬ (i : Int) < (n : Int) := by omega
theorem add14 (t k s : Nat) (h : t + k = s) (hs : s ≤ 100000) : (t : Int) + (k : Int) = (s : Int) ∧ wrap64 (s : Int) = (s : Int) ∧ IntKind.i64.wrap (s : Int) = (s : Int) := ⟨by omega, by unfold wrap64; omega, by rw [IntKind.wrap_i64]; omega⟩
/-- what SemiTakes holds: from place z on all words are 0 -/
def TZ (W0 : World) (R : Nat → Nat) (sb mb mm s z ct : Nat) (w : World) : Prop := ∃ ws : List Nat, ws.length = s ∧ (∀ j, z ≤ j → ws.getD j 0 = 0) ∧ SMI W0 R sb mb mm (one1 ws) 0 ct 0 0 false (s : Int) w
section
variable {W0 : World} {R : Nat → Nat} {sb mb mm s z ct : Nat} {w w' : World}
theorem TZ.below (h : TZ W0 R sb mb mm s z ct w) (k : Below w.heap.size w w') : TZ W0 R sb mb mm s z ct w' := by
  obtain ⟨ws, h1, h2, h3⟩ := h
  exact ⟨ws, h1, h2, h3.below k⟩
theorem TZ.o (h : TZ W0 R sb mb mm s z ct w) : Below W0.heap.size W0 w := by
  obtain ⟨ws, h1, h2, h3⟩ := h
  exact h3.o.b
theorem TZ.top (h : TZ W0 R sb mb mm s z ct w) : Calls Try.prog 11 #[at0 sb] w fun e w' => e = .returned (.int .i64 (ct : Int)) ∧ w = w' := by
  obtain ⟨ws, h1, h2, h3⟩ := h
  exact h3.top
theorem TZ.none (h : TZ W0 R sb mb mm s z ct w) {n : Int} (hn : n < 1) : Calls Try.prog 8 #[at0 sb, .int .i64 n] w fun e w' => e = .returned (.tuple #[.int .i64 0, .int .i64 1]) ∧ w = w' := by
  obtain ⟨ws, h1, h2, h3⟩ := h
  exact h3.none hn
theorem TZ.full (h : TZ W0 R sb mb mm s z ct w) {n : Int} (h1 : 1 ≤ n) (hc : ct ≤ s) (hn : (s : Int) - (ct : Int) < n) : Calls Try.prog 8 #[at0 sb, .int .i64 n] w fun e w' => e = .returned (.tuple #[.int .i64 0, .int .i64 3]) ∧ TZ W0 R sb mb mm s z ct w' := by
  obtain ⟨ws, l1, h2, h3⟩ := h
  exact (h3.full h1 (by rw [one1_wds, l1]; omega)).mono fun e v ⟨e1, q, _⟩ => ⟨e1, ws, l1, h2, q⟩
theorem TZ.take (h : TZ W0 R sb mb mm s z ct w) {n : Nat} (h1 : 1 ≤ n) (hn : ct + n ≤ s) : Calls Try.prog 8 #[at0 sb, .int .i64 (n : Int)] w fun e w' => e = .returned (.tuple #[.int .i64 (ct : Int), .int .i64 0]) ∧ TZ W0 R sb mb mm s z (ct + n) w' := by
  obtain ⟨ws, l1, h2, h3⟩ := h
  exact (h3.take h1 (by rw [one1_wds, l1]; exact hn)).mono fun e v ⟨e1, q, _⟩ => ⟨e1, ws, l1, h2, q⟩
theorem TZ.read (h : TZ W0 R sb mb mm s z ct w) (hz : z < ct) : Calls Try.prog 9 #[at0 sb, .int .i64 (z : Int)] w fun e w' => e = .returned (.tuple #[.int .u64 0, .int .i64 0]) ∧ TZ W0 R sb mb mm s z ct w' := by
  obtain ⟨ws, l1, h2, h3⟩ := h
  have C := h3.read (i := z) hz
  rw [one1_wds, h2 z (Nat.le_refl _)] at C
  exact C.mono fun e v ⟨e1, q, _⟩ => ⟨e1, ws, l1, h2, q⟩
theorem TZ.write (h : TZ W0 R sb mb mm s z ct w) (hz : z < ct) (hc : ct ≤ s) : Calls Try.prog 10 #[at0 sb, .int .i64 (z : Int), .int .u64 1] w fun e w' => e = .returned (.int .i64 0) ∧ TZ W0 R sb mb mm s (z + 1) ct w' := by
  obtain ⟨ws, l1, h2, h3⟩ := h
  have C := h3.write (i := z) 1 hz
  rw [one1_wds, one1_setw] at C
  exact C.mono fun e v ⟨e1, q, _⟩ => ⟨e1, ws.set z 1, by rw [List.length_set]; exact l1, fun j hj => by rw [List.getD, List.getElem?_set_ne (by omega)]; exact h2 j (by omega), q⟩
end
set_option maxRecDepth 100000 in
set_option maxHeartbeats 16000000 in
theorem takes_in (s : Nat) (hs : s < 256) (Z : List Int) (w : World) (vl : Value) (hZ : ZL pi8 w vl Z) (lZ : Z.length ≤ 60) (wZ : ∀ z ∈ Z, -128 ≤ z ∧ z ≤ 127) (raw : Int) :
    Calls Try.prog 3 #[.int .u8 (s : Int), vl, .int .i64 raw] w fun e w' => e = .returned (.bool true) ∧ Below w.heap.size w w' := by
  have AW := Lib.hid (fun w => awake14_any w)
  have MD := Lib.hid (fun w => made14_ok s (by omega) w)
  have NN := Lib.hid (fun w => snew_nil 1 w)
  have s1 : IntKind.i64.wrap (s : Int) = (s : Int) := by rw [IntKind.wrap_i64]; omega
  have q1 := fun w => semi_neq_none w
  have q2 := fun w => semi_eql_none w
  have HZ := Lib.hid hZ
  have HW := Lib.hid wZ
  obtain ⟨la, lc, rfl⟩ : ∃ a c, vl = .slice a Z.length c := by obtain ⟨a, c, e, _⟩ := hZ; exact ⟨a, c, e⟩
  obtain ⟨nf, hnf⟩ : ∃ nf, Z.length = nf := ⟨_, rfl⟩
  rw [hnf] at lZ ⊢
  have HNF := Lib.hid hnf
  have HLF := Lib.hid lZ
  have l1 : ¬ (60 : Int) < (nf : Int) := by omega
  have l2 : ¬ 60 < nf := by omega
  have HS := Lib.hid hs
  clear hZ hnf lZ wZ hs
  go_enter Try.func3, Try.ntmps3
  go_wp2_with fail
  with_reducible refine (AW.out _).mono ?_
  rintro e w1 ⟨rfl, b1⟩
  dsimp only
  go_wp2_with fail
  refine (MD.out _).mono ?_
  rintro e w2 ⟨mb, mm, R, sb, rfl, S0⟩
  dsimp only
  have L1 : TZ w R sb mb mm s 0 0 w2 := ⟨_, List.length_replicate, fun j _ => by simp only [List.getD, List.getElem?_replicate]; split <;> rfl, S0.since b1⟩
  clear S0 b1 AW MD
  go_wp2_with fail
  with_reducible refine (NN.out _).mono ?_
  rintro e w3 ⟨rfl, rfl⟩
  dsimp only
  clear NN
  go_wp2_with fail
  go_loopw [12, 13] (fun tv c wr => ∃ (j t : Nat), j ≤ nf ∧ c = .int .i64 (j : Int) ∧ tv = .int .i64 (t : Int) ∧ t ≤ s ∧ TZ w R sb mb mm s t t wr) (fun _ c _ => nf - (intOf c).toNat)
  case atStart => exact ⟨0, 0, Nat.zero_le _, rfl, rfl, Nat.zero_le _, L1⟩
  case round =>
    clear L1
    obtain ⟨j, t, hj, rfl, rfl, ht, S⟩ := hrel
    by_cases hlt : j < nf
    · have jlt := lt14 hlt
      have HT := Lib.hid hlt
      obtain ⟨lb, lo, rfl, o0⟩ := (HZ.out.below S.o).at (i := j) (by rw [HNF.out]; exact hlt)
      have hz := HW.out (Z.getD j 0) (by simp [List.getD, show j < Z.length by rw [HNF.out]; exact hlt])
      obtain ⟨e1, e2, e3⟩ := up14 hlt (Nat.le_trans HLF.out (by decide))
      generalize Z.getD j 0 = z at *
      have z1 : IntKind.i64.wrap z = z := by rw [IntKind.wrap_i64]; omega
      have z2 : wrap64 ((s : Int) - (t : Int)) = (s : Int) - (t : Int) := by have := HS.out; unfold wrap64; omega
      generalize hj1 : j + 1 = j1 at *
      by_cases c1 : z < 1
      · have C := Lib.hid (S.none c1)
        have S := Lib.hid S
        clear hz
        go_wp2_with fail
        with_reducible refine C.out.mono ?_
        rintro e w4 ⟨rfl, rfl⟩
        dsimp only
        clear C o0
        go_wp2_with fail
        go_roundw
        case rel => exact ⟨j1, t, by rw [← hj1]; exact HT.out, rfl, rfl, ht, S.out⟩
        case measure => exact meas14 hj1 HT.out
      · by_cases c2 : (s : Int) - (t : Int) < z
        · have C := Lib.hid (S.full (n := z) (by omega) ht c2)
          clear S hz
          go_wp2_with fail
          with_reducible refine C.out.mono ?_
          rintro e w4 ⟨rfl, S4⟩
          dsimp only
          have S4 := Lib.hid S4
          clear C o0
          go_wp2_with fail
          go_roundw
          case rel => exact ⟨j1, t, by rw [← hj1]; exact HT.out, rfl, rfl, ht, S4.out⟩
          case measure => exact meas14 hj1 HT.out
        · obtain ⟨n, rfl⟩ : ∃ n : Nat, z = (n : Int) := ⟨z.toNat, by omega⟩
          have n1 : 1 ≤ n := by omega
          have tn : t + n ≤ s := by omega
          have C := Lib.hid (S.take n1 tn)
          clear S
          obtain ⟨f1, f2, f3⟩ := add14 t n (t + n) rfl (by have := HS.out; omega)
          have HN := Lib.hid tn
          have n128 : n ≤ 1000 := by omega
          have HN8 := Lib.hid n128
          clear hz n1 tn n128
          generalize htn : t + n = tn at *
          have HTN := Lib.hid htn
          clear htn
          go_wp2_with fail
          with_reducible refine C.out.mono ?_
          rintro e w4 ⟨rfl, S4⟩
          dsimp only
          clear C o0
          go_wp2_with fail
          go_loopw [17] (fun c w9 => ∃ k : Nat, k ≤ n ∧ c = .int .i64 (k : Int) ∧ TZ w R sb mb mm s (t + k) tn w9) (fun c _ => n - (intOf c).toNat)
          case atStart => exact ⟨0, Nat.zero_le _, rfl, S4⟩
          case round =>
            clear S4
            obtain ⟨k, hk, rfl, S⟩ := hrel
            by_cases hlt2 : k < n
            · have klt := lt14 hlt2
              have HT2 := Lib.hid hlt2
              obtain ⟨g1, g2, g3⟩ := up14 hlt2 HN8.out
              have tk : t + k < tn := HTN.out ▸ Nat.add_lt_add_left hlt2 t
              obtain ⟨i1, i2, i3⟩ := add14 t k (t + k) rfl (Nat.le_trans (Nat.le_of_lt tk) (Nat.le_trans HN.out (Nat.le_trans (Nat.le_of_lt HS.out) (by decide))))
              have C := Lib.hid (S.read tk)
              have TK := Lib.hid tk
              clear S tk
              generalize hk1 : k + 1 = k1 at *
              have ek : t + k + 1 = t + k1 := by rw [← hk1]; rfl
              have EK := Lib.hid ek
              clear ek
              generalize t + k = tk at *
              go_wp2_with fail
              with_reducible refine C.out.mono ?_
              rintro e w5 ⟨rfl, S5⟩
              dsimp only
              have C2 := Lib.hid (S5.write TK.out HN.out)
              clear S5 C
              go_wp2_with fail
              with_reducible refine C2.out.mono ?_
              rintro e w6 ⟨rfl, S6⟩
              dsimp only
              rw [EK.out] at S6
              have S6 := Lib.hid S6
              clear C2
              go_wp2_with fail
              go_roundw
              case rel => exact ⟨k1, by rw [← hk1]; exact HT2.out, rfl, S6.out⟩
              case measure => exact meas14 hk1 HT2.out
            · obtain rfl : k = n := Nat.le_antisymm hk (Nat.le_of_not_lt hlt2)
              have klt := nlt14 hlt2
              rw [HTN.out] at S
              have S := Lib.hid S
              go_wp2_with fail
              go_roundw
              case rel => exact ⟨j1, tn, by rw [← hj1]; exact HT.out, rfl, rfl, HN.out, S.out⟩
              case measure => exact meas14 hj1 HT.out
    · obtain rfl : j = nf := by omega
      have jlt := nlt14 hlt
      have B9 := Lib.hid S.o
      by_cases c1 : 0 ≤ raw ∧ raw ≤ 4194304
      · obtain ⟨c1, c2⟩ := c1
        have C := Lib.hid S.top
        clear S
        go_wp2_with fail
        with_reducible refine C.out.mono ?_
        rintro e w4 ⟨rfl, rfl⟩
        dsimp only
        go_wp2_with fail
        go_ret
        exact ⟨rfl, B9.out⟩
      · have MN := Lib.hid (fun w => mnew_any w)
        have HS9 := Lib.hid S
        have HC1 := Lib.hid c1
        clear S
        by_cases c2 : 0 ≤ raw
        · have c3 : ¬ raw ≤ 4194304 := fun q => c1 ⟨c2, q⟩
          go_wp2_with fail
          with_reducible refine (MN.out _).mono ?_
          rintro e w4 ⟨mb2, mm2, R2, rfl, M2, lo2, b2⟩
          dsimp only
          obtain ⟨c, hc, C⟩ := snew_no mb2 raw HC1.out w4
          have C := Lib.hid C
          have S4 := HS9.out.below b2
          have T4 := Lib.hid S4.top
          have B4 := Lib.hid S4.o
          clear M2 lo2 b2 S4 c1
          go_wp2_with fail
          with_reducible refine C.out.mono ?_
          rintro e w5 ⟨rfl, rfl⟩
          dsimp only
          go_wp2_with fail
          with_reducible refine T4.out.mono ?_
          rintro e w5 ⟨rfl, rfl⟩
          dsimp only
          go_wp2_with fail
          go_ret
          exact ⟨by simp [hc], B4.out⟩
        · go_wp2_with fail
          with_reducible refine (MN.out _).mono ?_
          rintro e w4 ⟨mb2, mm2, R2, rfl, M2, lo2, b2⟩
          dsimp only
          obtain ⟨c, hc, C⟩ := snew_no mb2 raw HC1.out w4
          have C := Lib.hid C
          have S4 := HS9.out.below b2
          have T4 := Lib.hid S4.top
          have B4 := Lib.hid S4.o
          clear M2 lo2 b2 S4 c1
          go_wp2_with fail
          with_reducible refine C.out.mono ?_
          rintro e w5 ⟨rfl, rfl⟩
          dsimp only
          go_wp2_with fail
          with_reducible refine T4.out.mono ?_
          rintro e w5 ⟨rfl, rfl⟩
          dsimp only
          go_wp2_with fail
          go_ret
          exact ⟨by simp [hc], B4.out⟩
end Go.Proofs.Ytnpoiebhajjkbaa
