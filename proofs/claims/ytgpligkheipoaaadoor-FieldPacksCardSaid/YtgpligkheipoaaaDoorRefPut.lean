/-
  Contracts of package haymowref02: Fits, Put, Places.
-/
import Derived.Test.YtgpligkheipoaaaDoorRefGet
import Derived.OwnWalk
import Derived.Laws.AppendOwn
namespace Go.Proofs.YtgpligkheipoaaaDoor
open Go.RowKit
set_option linter.unusedVariables false

set_option maxRecDepth 100000 in
set_option maxHeartbeats 400000 in
theorem reffits_any (x s : Nat) (hx : x < 18446744073709551616) (hs : s ≤ 64) (w : World) :
    Calls Tryd.prog 15 #[.int .u64 (x : Int), .int .i64 (s : Int)] w fun e w' => e = .returned (.bool (fitsv x s)) ∧ Below w.heap.size w w' := by
  go_enter Tryd.func15, Tryd.ntmps15
  go_wp2_with (first
    | (go_at_call 24; refine (bits_any x hx _).mono ?_; rintro e w1 ⟨rfl, hb1⟩)
    | (refine wpList_store_row rfl 55 (.tmp 5) (.tmp 8) rfl w1.heap.size (brow x.testBit) rfl rfl 55 _ (heap_alloc_last _ _) (info_brow _) (by rw [brow_size]; rfl) (brow_one _) ?_; rw [World.setRow_alloc_new]))
  have ho := BRow.new w1 x.testBit
  go_loop [6] (fun i => ∃ k : Nat, s ≤ k ∧ k ≤ 64 ∧ i = .int .i64 (k : Int) ∧ ∀ j, s ≤ j → j < k → x.testBit j = false) (fun i => 64 - (intOf i).toNat)
  case atStart => exact ⟨s, Nat.le_refl _, hs, rfl, fun j _ _ => by omega⟩
  case round =>
    obtain ⟨k, hk1, hk2, rfl, hz⟩ := hrel
    have HZ := Lib.hid hz
    clear hz
    by_cases hlt : k < 64
    · have hc := ho.cell k hlt
      cases hb : x.testBit k
      · rw [hb] at hc
        have HB := Lib.hid hb
        clear hb
        go_wp2_with fail
        go_round
        case rel => exact ⟨k + 1, by omega, by omega, by go_num, fun j h1 h2 => by
          by_cases e : j = k
          · subst e; exact HB.out
          · exact HZ.out j h1 (by omega)⟩
        case measure => simp [intOf]; try omega
      · rw [hb] at hc
        have HF : fitsv x s = false := by unfold fitsv; exact decide_eq_false (fits_not hk1 hb)
        have HF' := Lib.hid HF
        clear hb HF
        go_wp2_with fail
        go_ret
        exact ⟨by rw [HF'.out]; rfl, bAlloc hb1 _⟩
    · obtain rfl : k = 64 := by omega
      have HF : fitsv x s = true := by unfold fitsv; exact decide_eq_true (fits_of_bits hx HZ.out)
      have HF' := Lib.hid HF
      clear HF
      go_wp2_with fail
      go_ret
      exact ⟨by rw [HF'.out]; rfl, bAlloc hb1 _⟩

set_option maxRecDepth 100000 in
set_option maxHeartbeats 400000 in
theorem refput_any (x a s n : Nat) (hx : x < 18446744073709551616) (hn : n < 18446744073709551616) (h : a + s ≤ 64) (w : World) :
    Calls Tryd.prog 16 #[.int .u64 (x : Int), .int .i64 (a : Int), .int .i64 (s : Int), .int .u64 (n : Int)] w fun e w' => e = .returned (.int .u64 (putv x a s n : Int)) ∧ Below w.heap.size w w' := by
  go_enter Tryd.func16, Tryd.ntmps16
  go_wp2_with fail
  refine (bits_any x hx _).mono ?_
  rintro e w1 ⟨rfl, hb1⟩
  dsimp only
  go_wp2_with fail
  refine (bits_any n hn _).mono ?_
  rintro e w2 ⟨rfl, hb2⟩
  dsimp only
  go_wp2_with (first
    | refine wpList_store_row rfl 55 (.tmp 9) (.tmp 13) rfl w2.heap.size (brow x.testBit) rfl rfl 55 _ (heap_alloc2_old _ _ _) (info_brow _) (by rw [brow_size]; rfl) (brow_one _) ?_
    | refine wpList_store_row rfl 55 (.tmp 10) (.tmp 15) rfl (w2.heap.size + 1) (brow n.testBit) rfl rfl 55 _ ((setRow_other _ _ _ _ (by omega)).trans (heap_alloc2_new _ _ _)) (info_brow _) (by rw [brow_size]; rfl) (brow_one _) ?_)
  simp only [zeros_lit]
  go_loopw [11] (fun i wr => ∃ k : Nat, k ≤ s ∧ i = .int .i64 (k : Int) ∧ BRow wr w2.heap.size (putf x a k n) ∧ BRow wr (w2.heap.size + 1) n.testBit ∧ Below w2.heap.size w2 wr) (fun i _ => s - (intOf i).toNat)
  case atStart =>
    refine ⟨0, by omega, rfl, ?_, ?_, below_setRow (below_setRow (bAlloc (bAlloc (Below.refl _ _) _) _) (by omega) _) (by omega) _⟩
    · have h1 : BRow (((w2.alloc (.cells (brow fun _ => false) 55)).alloc (.cells (brow fun _ => false) 55)).setRow w2.heap.size (brow x.testBit)) w2.heap.size x.testBit := setRow_heap _ _ _ _ _ _ (heap_alloc2_old w2 _ _)
      have h2 : BRow ((((w2.alloc (.cells (brow fun _ => false) 55)).alloc (.cells (brow fun _ => false) 55)).setRow w2.heap.size (brow x.testBit)).setRow (w2.heap.size + 1) (brow n.testBit)) w2.heap.size x.testBit := (setRow_other _ _ _ _ (by omega)).trans h1
      exact h2.congr (fun j _ => by unfold putf; rw [if_neg (by omega)])
    · exact setRow_heap _ _ _ _ _ _ ((setRow_other _ _ _ _ (by omega)).trans (heap_alloc2_new w2 _ _))
  case round =>
    obtain ⟨k, hk, rfl, ho, hr, hbel⟩ := hrel
    by_cases hlt : k < s
    · have hc := hr.cell k (by omega)
      have hc2 := ho.cell (a + k) (by omega)
      have hf := ho.free (a + k)
      go_wp2_with fail
      go_roundw
      case rel =>
        refine ⟨k + 1, by omega, by go_num, ?_, hr.far _ _ (by simp), bSet hbel (by simp) _⟩
        exact (ho.set (a + k) (by omega) _).congr (fun j hj => by
          unfold putf
          by_cases e : j = a + k
          · subst e; rw [if_pos rfl, if_pos (by omega), show a + k - a = k by omega]
          · rw [if_neg e]
            by_cases c : a ≤ j ∧ j < a + k
            · rw [if_pos c, if_pos (by omega)]
            · rw [if_neg c, if_neg (by omega)])
      case measure => simp [intOf]; try omega
    · obtain rfl : k = s := by omega
      go_wp2_with (first
        | refine wpList_load_row rfl 55 (.tmp 9) rfl w2.heap.size rfl _ _ _ _ ho Tryd.underlying55 rfl (info_brow _) ?_
        | (go_at_call 25; refine (word_any _ _).mono ?_; rintro e w3 ⟨rfl, rfl⟩))
      go_ret
      exact ⟨by unfold putv; rfl, bAlloc (bTrans (bTrans hb1 hb2) hbel) _⟩

end Go.Proofs.YtgpligkheipoaaaDoor
