/-
  The contract of varint.Get.
-/
import Derived.Test.YtkobdfenlkcehaaKit05
namespace Go.Proofs.Ytkobdfenlkcehaa
open Go.RowKit
set_option linter.unusedVariables false

/-- what a reader answers -/
def gres (p : Nat × Nat × Nat) : Value := .tuple #[.int .u64 (p.1 : Int), .int .i64 (p.2.1 : Int), .int .i64 (p.2.2 : Int)]

theorem shl_group {g i : Nat} (h : g * 128 ^ i < 18446744073709551616) : IntKind.u64.wrap ((g : Int) * 2 ^ (7 * i)) = ((g * 128 ^ i : Nat) : Int) := by
  have e : (g : Int) * 2 ^ (7 * i) = ((g * 128 ^ i : Nat) : Int) := by rw [pow2_7]; simp
  rw [e, IntKind.wrap_u64]; omega
theorem or_group {w g i : Nat} (h : w < 128 ^ i) (hs : w + g * 128 ^ i < 18446744073709551616) : bits BinOp.or IntKind.u64 (w : Int) ((g * 128 ^ i : Nat) : Int) = ((w + g * 128 ^ i : Nat) : Int) := by
  rw [bits_or_u64_nat w _ (by omega) (by omega)]
  congr 1
  rw [pow2_7] at *
  rw [Nat.or_comm, Nat.mul_comm, ← Nat.two_pow_add_eq_or_of_lt h g, Nat.add_comm]

set_option maxHeartbeats 2000000 in
set_option maxRecDepth 100000 in
theorem get_any (v : Value) (b : List Nat) (hb : ∀ c ∈ b, c < 256) (w : World) (hv : NL pb w v b) (hn : b.length ≤ 1000000) :
    Calls Try.prog 11 #[v] w fun e w' => e = .returned (gres (getv b)) ∧ w = w' := by
  obtain ⟨a, cap, rfl, hcap, _, hc⟩ := hv
  have ST := Lib.hid (GInv.start b)
  have HB : ∀ i, b.getD i 0 < 256 := fun i => by
    rw [List.getD_eq_getElem?_getD]
    by_cases h : i < b.length
    · rw [List.getElem?_eq_getElem h]; exact hb _ (List.getElem_mem h)
    · rw [List.getElem?_eq_none (by omega)]; decide
  obtain ⟨n, hln⟩ : ∃ n, b.length = n := ⟨_, rfl⟩
  have HLN := Lib.hid hln
  have HBB := Lib.hid HB
  rw [hln] at hc hn ⊢
  have HC := Lib.hid hc
  clear hln hb HB hc
  go_enter Try.func11, Try.ntmps11
  go_wp2_with fail
  go_loop [5, 6, 7, 8, 11] (fun z _ _ _ i => ∃ k W : Nat, k ≤ n ∧ i = .int .i64 (k : Int) ∧ z = .int .u64 (W : Int) ∧ GInv b k W) (fun _ _ _ _ i => n - (intOf i).toNat)
  case atStart => exact ⟨0, 0, by omega, rfl, rfl, ST.out⟩
  case round =>
    obtain ⟨k, W, hk, rfl, rfl, I⟩ := hrel
    by_cases hlt : k < n
    · obtain ⟨g, off, rfl, hg, hcs⟩ := HC.out.resolve_left (by omega)
      have q0 : w.cell? ⟨g, off + k, none⟩ = some (.int .u8 (b.getD k 0 : Nat)) := hcs k hlt
      have hkb : k < b.length := by rw [HLN.out]; exact hlt
      have c256 := HBB.out k
      have ten := I.ten
      have F1 := Lib.hid (fun h => I.long hkb h)
      have F2 := Lib.hid (fun h h2 => I.more hkb h h2)
      have F3 := Lib.hid (fun h h2 h3 => I.form hkb h h2 h3)
      have F4 := Lib.hid (fun h h2 h3 => I.ok hkb h h2 h3)
      have F5 := Lib.hid (fun h => I.sum h)
      have low := I.low
      have s7 : 7 * (k : Int) = ((7 * k : Nat) : Int) := by omega
      have s71 : 7 * k ≤ 70 := by omega
      have SH : ∀ g : Nat, g * 128 ^ k < 18446744073709551616 → IntKind.u64.wrap ((g : Int) * 2 ^ (7 * k)) = ((g * 128 ^ k : Nat) : Int) := fun g h => shl_group h
      have OR : ∀ g : Nat, W + g * 128 ^ k < 18446744073709551616 → bits BinOp.or IntKind.u64 (W : Int) ((g * 128 ^ k : Nat) : Int) = ((W + g * 128 ^ k : Nat) : Int) := fun g h => or_group low h
      have em : ((b.getD k 0 : Nat) : Int) % 128 = ((b.getD k 0 % 128 : Nat) : Int) := by omega
      have e2 : ¬ 128 ≤ b.getD k 0 → b.getD k 0 % 128 = b.getD k 0 := fun h => by omega
      have lm : b.getD k 0 % 128 < 128 := by omega
      clear hcs hkb I low
      generalize b.getD k 0 = c at *
      generalize c % 128 = m at *
      have wm : IntKind.u64.wrap (m : Int) = (m : Int) := by rw [IntKind.wrap_u64]; omega
      by_cases k10 : k = 10
      · have t10 : ((k : Int) == 10) = true := by simp; omega
        have E := Lib.hid (F1.out (.inl k10))
        clear k10 SH OR F5
        go_wp2
        go_ret3
        exact ⟨by rw [E.out]; rfl, rfl⟩
      · have t10 : ((k : Int) == 10) = false := by simp; omega
        by_cases k9 : k = 9 ∧ 1 < m
        · have t9 : ((k : Int) == 9) = true := by simp; omega
          have g1 : (1 : Int) < (m : Int) := by omega
          have E := Lib.hid (F1.out (.inr k9))
          clear k9 SH OR F5 k10
          go_wp2
          go_ret3
          exact ⟨by rw [E.out]; rfl, rfl⟩
        · have no : ¬ (k = 10 ∨ (k = 9 ∧ 1 < m)) := by omega
          have sm := F5.out no
          have sh := SH m (by omega)
          have orr := OR m (by omega)
          have P2 := Lib.hid (F2.out no)
          have P3 := Lib.hid (F3.out no)
          have P4 := Lib.hid (F4.out no)
          have s1 := sm.2
          clear F1 F2 F3 F4 F5 SH OR sm
          generalize m * 128 ^ k = q at *
          generalize W + q = W' at *
          generalize 7 * k = s at *
          have t9 : ((k : Int) == 9) = false ∨ (((k : Int) == 9) = true ∧ ¬ (1 : Int) < (m : Int)) := by
            by_cases h : k = 9
            · right; exact ⟨by simp; omega, by omega⟩
            · left; simp; omega
          by_cases hc : 128 ≤ c
          · have NX := Lib.hid (P2.out hc)
            have t3 : (128 : Int) ≤ (c : Int) := by omega
            clear P2 P3 P4 hc no k9 k10
            rcases t9 with t9 | ⟨t9, t91⟩
            all_goals
              go_wp2
              go_round
              case rel => exact ⟨k + 1, _, by omega, by go_num, rfl, NX.out⟩
              case measure => simp [intOf]; omega
          · have t3 : ¬ (128 : Int) ≤ (c : Int) := by omega
            by_cases h0 : c = 0 ∧ 0 < k
            · have E := Lib.hid (P3.out hc h0)
              have t4 : ((c : Int) == 0) = true := by simp; omega
              have t5 : (0 : Int) < (k : Int) := by omega
              clear P2 P3 P4 hc no k9 k10 h0
              rcases t9 with t9 | ⟨t9, t91⟩
              all_goals
                go_wp2
                go_ret3
                exact ⟨by rw [E.out]; rfl, rfl⟩
            · have E := Lib.hid (P4.out hc h0)
              have t4 : ((c : Int) == 0) = false ∨ (((c : Int) == 0) = true ∧ ¬ (0 : Int) < (k : Int)) := by
                by_cases h : c = 0
                · right; exact ⟨by simp; omega, by omega⟩
                · left; simp; omega
              clear P2 P3 P4 hc no k9 k10 h0
              rcases t9 with t9 | ⟨t9, t91⟩
              all_goals
                rcases t4 with t4 | ⟨t4, t5⟩
                all_goals
                  go_wp2
                  go_ret3
                  exact ⟨by rw [E.out]; unfold gres; go_num, rfl⟩
    · obtain rfl : k = n := by omega
      have E := Lib.hid (GInv.short (w := W) (by rw [HLN.out]; exact I))
      clear I hlt
      go_wp2
      go_ret3
      exact ⟨by rw [E.out]; rfl, rfl⟩

end Go.Proofs.Ytkobdfenlkcehaa
