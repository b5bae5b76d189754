/-
  The contract of haymowref05.Get.
-/
import Derived.Test.YtkobdfenlkcehaaGet
namespace Go.Proofs.Ytkobdfenlkcehaa
open Go.RowKit
set_option linter.unusedVariables false

set_option maxHeartbeats 2000000 in
set_option maxRecDepth 100000 in
theorem refget_any (v : Value) (b : List Nat) (hb : ∀ c ∈ b, c < 256) (w : World) (hv : NL pb w v b) (hn : b.length ≤ 1000000) :
    Calls Try.prog 12 #[v] w fun e w' => e = .returned (gres (getv b)) ∧ w = w' := by
  obtain ⟨a, cap, rfl, hcap, _, hc⟩ := hv
  have ST := Lib.hid (GInv.start b)
  have HB : ∀ i, b.getD i 0 < 256 := fun i => by
    rw [List.getD_eq_getElem?_getD]
    by_cases h : i < b.length
    · rw [List.getElem?_eq_getElem h]; exact hb _ (List.getElem_mem h)
    · rw [List.getElem?_eq_none (by omega)]; decide
  obtain ⟨n, hln⟩ : ∃ n, b.length = n := ⟨_, rfl⟩
  have HLN := Lib.hid hln
  have HBB := Lib.hid HB
  rw [hln] at hc hn ⊢
  have HC := Lib.hid hc
  clear hln hb HB hc
  go_enter Try.func12, Try.ntmps12
  go_wp2_with fail
  go_loop [5] (fun i => ∃ k W : Nat, k ≤ n ∧ i = .int .i64 (k : Int) ∧ GInv b k W) (fun i => n - (intOf i).toNat)
  case atStart => exact ⟨0, 0, by omega, rfl, ST.out⟩
  case round =>
    obtain ⟨k, W, hk, rfl, I⟩ := hrel
    by_cases hlt : k < n
    · obtain ⟨g, off, rfl, hg, hcs⟩ := HC.out.resolve_left (by omega)
      have q0 : w.cell? ⟨g, off + k, none⟩ = some (.int .u8 (b.getD k 0 : Nat)) := hcs k hlt
      have HCS := Lib.hid hcs
      have hkb : k < b.length := by rw [HLN.out]; exact hlt
      have c256 := HBB.out k
      have ten := I.ten
      have F1 := Lib.hid (fun h => I.long hkb h)
      have F2 := Lib.hid (fun h h2 => I.more hkb h h2)
      have F3 := Lib.hid (fun h h2 h3 => I.form hkb h h2 h3)
      have F4 := Lib.hid (fun h h2 h3 => I.ok hkb h h2 h3)
      have F5 := Lib.hid (fun h => I.sum h)
      have F6 := Lib.hid (I.sumval hkb)
      have em : ((b.getD k 0 : Nat) : Int) % 128 = ((b.getD k 0 % 128 : Nat) : Int) := by omega
      have lm : b.getD k 0 % 128 < 128 := by omega
      clear hcs I
      generalize hcc : b.getD k 0 = c at *
      have HCCC := Lib.hid hcc
      clear hcc
      generalize c % 128 = m at *
      by_cases k10 : k = 10
      · have t10 : ((k : Int) == 10) = true := by simp; omega
        have E := Lib.hid (F1.out (.inl k10))
        clear k10 F1 F2 F3 F4 F5 F6
        go_wp2
        go_ret3
        exact ⟨by rw [E.out]; rfl, rfl⟩
      · have t10 : ((k : Int) == 10) = false := by simp; omega
        by_cases k9 : k = 9 ∧ 1 < m
        · have t9 : ((k : Int) == 9) = true := by simp; omega
          have g1 : (1 : Int) < (m : Int) := by omega
          have E := Lib.hid (F1.out (.inr k9))
          clear k9 k10 F1 F2 F3 F4 F5 F6
          go_wp2
          go_ret3
          exact ⟨by rw [E.out]; rfl, rfl⟩
        · have no : ¬ (k = 10 ∨ (k = 9 ∧ 1 < m)) := by omega
          have sm := F5.out no
          have P2 := Lib.hid (F2.out no)
          have P3 := Lib.hid (F3.out no)
          have P4 := Lib.hid (F4.out no)
          have s1 := sm.2
          clear F1 F2 F3 F4 F5 sm
          have t9 : ((k : Int) == 9) = false ∨ (((k : Int) == 9) = true ∧ ¬ (1 : Int) < (m : Int)) := by
            by_cases h : k = 9
            · right; exact ⟨by simp; omega, by omega⟩
            · left; simp; omega
          by_cases hc : 128 ≤ c
          · have NX := Lib.hid (P2.out hc)
            have t3 : (127 : Int) < (c : Int) := by omega
            clear P2 P3 P4 hc no k9 k10 F6 s1
            rcases t9 with t9 | ⟨t9, t91⟩
            all_goals
              go_wp2
              go_round
              case rel => exact ⟨k + 1, _, by omega, by go_num, NX.out⟩
              case measure => simp [intOf]; omega
          · have t3 : ¬ (127 : Int) < (c : Int) := by omega
            by_cases h0 : c = 0 ∧ 0 < k
            · have E := Lib.hid (P3.out hc h0)
              have t4 : ((c : Int) == 0) = true := by simp; omega
              have t5 : (0 : Int) < (k : Int) := by omega
              clear P2 P3 P4 hc no k9 k10 h0 F6 s1
              rcases t9 with t9 | ⟨t9, t91⟩
              all_goals
                go_wp2
                go_ret3
                exact ⟨by rw [E.out]; rfl, rfl⟩
            · have e := P4.out hc h0
              rw [F6.out, ← vfrom_zero] at e
              have E := Lib.hid e
              have VE := Lib.hid (vfrom_end b (k + 1))
              have VS := Lib.hid (fun j (h : j < k + 1) => vfrom_step (b := b) h (by omega))
              have VB : ∀ j, j ≤ k + 1 → vfrom b (k + 1) j < 18446744073709551616 := fun j h => by
                have := vfrom_le (b := b) (show k + 1 ≤ b.length by omega) j h
                rw [vfrom_zero, ← F6.out] at this
                omega
              have VBB := Lib.hid VB
              have t4 : ((c : Int) == 0) = false ∨ (((c : Int) == 0) = true ∧ ¬ (0 : Int) < (k : Int)) := by
                by_cases h : c = 0
                · right; exact ⟨by simp; omega, by omega⟩
                · left; simp; omega
              clear P2 P3 P4 hc no k9 k10 h0 e F6 s1 VB
              rcases t9 with t9 | ⟨t9, t91⟩
              all_goals
                rcases t4 with t4 | ⟨t4, t5⟩
                all_goals
                  go_wp2
                  go_loop [6, 7] (fun z i => ∃ j : Nat, j ≤ k + 1 ∧ i = .int .i64 ((j : Int) - 1) ∧ z = .int .u64 (vfrom b (k + 1) j : Nat)) (fun _ i => (intOf i + 1).toNat)
                  case atStart => exact ⟨k + 1, by omega, by go_num, by rw [VE.out]; rfl⟩
                  case round =>
                    obtain ⟨j, hj, rfl, rfl⟩ := hrel
                    cases j with
                    | zero =>
                      generalize vfrom b (k + 1) 0 = X at *
                      go_wp2
                      go_ret3
                      exact ⟨by rw [E.out]; unfold gres; go_num, rfl⟩
                    | succ j =>
                      have vs := VS.out j (by omega)
                      have vb := VBB.out j (by omega)
                      have c2 := HBB.out j
                      have p0 : w.cell? ⟨g, off + j, none⟩ = some (.int .u8 (b.getD j 0 : Nat)) := HCS.out j (by omega)
                      have jj : (((j + 1 : Nat) : Int) - 1) = (j : Int) := by omega
                      have em2 : ((b.getD j 0 : Nat) : Int) % 128 = ((b.getD j 0 % 128 : Nat) : Int) := by omega
                      have wc2 : IntKind.u64.wrap ((b.getD j 0 : Nat) : Int) = ((b.getD j 0 : Nat) : Int) := by rw [IntKind.wrap_u64]; omega
                      have w1 : IntKind.u64.wrap ((vfrom b (k + 1) (j + 1) : Int) * 128) = (vfrom b (k + 1) (j + 1) : Int) * 128 := by rw [IntKind.wrap_u64]; omega
                      have w2 : IntKind.u64.wrap ((vfrom b (k + 1) (j + 1) : Int) * 128 + ((b.getD j 0 % 128 : Nat) : Int)) = ((vfrom b (k + 1) j : Nat) : Int) := by rw [IntKind.wrap_u64]; omega
                      clear vs
                      generalize hX : vfrom b (k + 1) j = X at *
                      have HX := Lib.hid hX
                      clear hX
                      generalize vfrom b (k + 1) (j + 1) = Y at *
                      generalize b.getD j 0 % 128 = d at *
                      generalize b.getD j 0 = c3 at *
                      go_wp2
                      go_round
                      case rel => exact ⟨j, by omega, by go_num, by rw [HX.out]⟩
                      case measure => simp [intOf]; try omega
    · obtain rfl : k = n := by omega
      have E := Lib.hid (GInv.short (w := W) (by rw [HLN.out]; exact I))
      clear I hlt
      go_wp2
      go_ret3
      exact ⟨by rw [E.out]; rfl, rfl⟩

end Go.Proofs.Ytkobdfenlkcehaa
