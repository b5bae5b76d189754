/-
  Contracts of package haymowref02: Right, Get, Fits, Put.
-/
import Derived.Test.YtgpligkheipoaaaDoorRefBits
namespace Go.Proofs.YtgpligkheipoaaaDoor
open Go.RowKit
set_option linter.unusedVariables false

theorem bit_new (w : World) (f : Nat → Bool) (g : Nat) (hg : g = w.heap.size) : BRow (w.alloc (.cells (brow f) 55)) g f := by subst hg; exact BRow.new w f

theorem refright_any (a s : Int) (w : World) : Calls Tryd.prog 9 #[.int .i64 a, .int .i64 s] w fun e w' => e = .returned (.bool (rightB a s)) ∧ w = w' := by
  by_cases h1 : 1 ≤ s
  · by_cases h2 : s ≤ 64
    · by_cases h3 : 0 ≤ a
      · by_cases h4 : a ≤ 64 - s
        · have e : rightB a s = true := by unfold rightB; exact decide_eq_true (by omega)
          rw [e]
          clear e
          go_enter Tryd.func9, Tryd.ntmps9
          go_wp2_with fail
          go_ret
          exact ⟨rfl, rfl⟩
        · have e : rightB a s = false := by unfold rightB; exact decide_eq_false (by omega)
          have h5 : 64 - s < a := by omega
          rw [e]
          clear e
          go_enter Tryd.func9, Tryd.ntmps9
          go_wp2_with fail
          go_ret
          exact ⟨rfl, rfl⟩
      · have e : rightB a s = false := by unfold rightB; exact decide_eq_false (by omega)
        have h5 : a < 0 := by omega
        rw [e]
        clear e h3
        go_enter Tryd.func9, Tryd.ntmps9
        go_wp2_with fail
        go_ret
        exact ⟨rfl, rfl⟩
    · have e : rightB a s = false := by unfold rightB; exact decide_eq_false (by omega)
      have h5 : 64 < s := by omega
      rw [e]
      clear e h2
      go_enter Tryd.func9, Tryd.ntmps9
      go_wp2_with fail
      go_ret
      exact ⟨rfl, rfl⟩
  · have e : rightB a s = false := by unfold rightB; exact decide_eq_false (by omega)
    have h5 : s < 1 := by omega
    rw [e]
    clear e h1
    go_enter Tryd.func9, Tryd.ntmps9
    go_wp2_with fail
    go_ret
    exact ⟨rfl, rfl⟩

set_option maxRecDepth 100000 in
set_option maxHeartbeats 400000 in
theorem refget_any (x a s : Nat) (hx : x < 18446744073709551616) (h : a + s ≤ 64) (w : World) :
    Calls Tryd.prog 13 #[.int .u64 (x : Int), .int .i64 (a : Int), .int .i64 (s : Int)] w fun e w' => e = .returned (.int .u64 (getv x a s : Int)) ∧ Below w.heap.size w w' := by
  have HG := Lib.hid (getv_of_bits x a s h)
  go_enter Tryd.func13, Tryd.ntmps13
  go_wp2_with (first
    | (go_at_call 24; refine (bits_any x hx _).mono ?_; rintro e w1 ⟨rfl, hb1⟩)
    | (refine wpList_store_row rfl 55 (.tmp 7) (.tmp 11) rfl w1.heap.size (brow x.testBit) rfl rfl 55 _ (heap_alloc_last _ _) (info_brow _) (by rw [brow_size]; rfl) (brow_one _) ?_; rw [World.setRow_alloc_new]))
  simp only [zeros_lit]
  go_loopw [9] (fun i wr => ∃ k : Nat, k ≤ s ∧ i = .int .i64 (k : Int) ∧ BRow wr w1.heap.size x.testBit ∧ BRow wr (w1.heap.size + 1) (fun j => decide (j < k) && x.testBit (a + j)) ∧ Below w1.heap.size w1 wr) (fun i _ => s - (intOf i).toNat)
  case atStart =>
    refine ⟨0, by omega, rfl, (BRow.new _ _).alloc _, ?_, bAlloc (bAlloc (Below.refl _ _) _) _⟩
    exact (bit_new _ _ _ (by simp)).congr (fun j _ => by simp)
  case round =>
    obtain ⟨k, hk, rfl, ho, hr, hbel⟩ := hrel
    by_cases hlt : k < s
    · have hc := ho.cell (a + k) (by omega)
      have hc2 := hr.cell k (by omega)
      have hf := hr.free k
      go_wp2_with fail
      go_roundw
      case rel =>
        refine ⟨k + 1, by omega, by go_num, ho.far _ _ (by simp), ?_, bSet hbel (by simp) _⟩
        exact (hr.set k (by omega) _).congr (fun j hj => by
          by_cases e : j = k
          · subst e; simp
          · simp only [if_neg e, show (j < k + 1) = (j < k) from propext ⟨by omega, by omega⟩])
      case measure => simp [intOf]; try omega
    · obtain rfl : k = s := by omega
      go_wp2_with (first
        | refine wpList_load_row rfl 55 (.tmp 8) rfl (w1.heap.size + 1) rfl _ _ _ _ hr Tryd.underlying55 rfl (info_brow _) ?_
        | (go_at_call 25; refine (word_any _ _).mono ?_; rintro e w2 ⟨rfl, rfl⟩))
      go_ret
      exact ⟨by rw [HG.out]; rfl, bAlloc (bTrans hb1 hbel) _⟩

end Go.Proofs.YtgpligkheipoaaaDoor
