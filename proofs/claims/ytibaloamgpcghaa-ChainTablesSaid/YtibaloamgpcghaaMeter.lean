/-
  Contracts of package meter: the words in use.
-/
import Derived.Test.YtibaloamgpcghaaWide
import Derived.Test.YtibaloamgpcghaaMtr
import Derived.LoopTactic
import Derived.Deep.QuietTactic
import Derived.BigQuiet
import Derived.WalkSmall
import Derived.Deep.RegionWith
import Derived.Deep.RegionHeld3
import Derived.Deep.DeepCutAuto
import Derived.Deep.CutBlock
namespace Go.Proofs.Ytibaloamgpcghaa
open Go.RowKit
set_option linter.unusedVariables false

/-- a place in memory as a value -/
abbrev at0 (m : Nat) : Value := .pointer (some ⟨m, 0, none⟩)

theorem new_any (w : World) : Calls Try.prog 21 #[] w fun e w' => e = .returned (at0 w.heap.size) ∧ w.alloc (.cells #[.int .i64 0, .int .i64 0, .int .u64 0, .int .u64 0, .int .u64 0, .int .u64 0] 83) = w' := by
  go_enter Try.func21, Try.ntmps21
  go_wp2
  go_ret
  exact ⟨rfl, rfl⟩

theorem exists_any (k : Int) (w : World) : Calls Try.prog 41 #[.int .i64 k] w fun e w' => e = .returned (.bool (decide (0 ≤ k ∧ k < 2))) ∧ w = w' := by
  by_cases h1 : 0 ≤ k
  · by_cases h2 : k < 2
    · rw [decide_eq_true (And.intro h1 h2)]
      go_enter Try.func41, Try.ntmps41
      go_wp2
      go_ret
      exact ⟨rfl, rfl⟩
    · rw [decide_eq_false (fun h => h2 h.2)]
      go_enter Try.func41, Try.ntmps41
      go_wp2
      go_ret
      exact ⟨rfl, rfl⟩
  · rw [decide_eq_false (fun h => h1 h.1)]
    go_enter Try.func41, Try.ntmps41
    go_wp2
    go_ret
    exact ⟨rfl, rfl⟩

theorem hold_nil (n : Int) (w : World) : Calls Try.prog 24 #[.pointer none, .int .i64 n] w fun e w' => e = .returned (.int .i64 1) ∧ w = w' := by
  go_enter Try.func24, Try.ntmps24
  go_wp2
  go_ret
  exact ⟨rfl, rfl⟩
/-! ### Hold, Free -/
theorem spacehold (m a b : Nat) (h g n : Int) (hf : Fit h g) (hn : n ≤ 9223372036854775807) (w : World) (r : MRow w m a b h g) : Calls Try.prog 37 #[at0 m, .int .i64 n] w fun e w' => e = .returned (.int .i64 (holde h n)) ∧ MRow w' m a b (holdh h n) (holdg h g n) ∧ Bar m w.heap.size w w' := by
  obtain ⟨f0, f1, f2⟩ := hf
  obtain ⟨c0, c1, c2, c3, c4, c5, cf⟩ := r.all
  by_cases h1 : n < 0
  · rw [show holde h n = 1 by unfold holde; rw [if_pos h1], show holdh h n = h by unfold holdh; rw [if_neg (by omega)], show holdg h g n = g by unfold holdg; rw [if_neg (by omega)]]
    clear hn
    go_enter Try.func37, Try.ntmps37
    go_wp2
    go_ret
    exact ⟨rfl, r, Bar.refl _ _ _⟩
  · have h1' : (0 : Int) ≤ n := by omega
    clear h1
    by_cases h2 : 281474976710656 - h < n
    · rw [show holde h n = 3 by unfold holde; rw [if_neg (by omega), if_pos h2], show holdh h n = h by unfold holdh; rw [if_neg (by omega)], show holdg h g n = g by unfold holdg; rw [if_neg (by omega)]]
      go_enter Try.func37, Try.ntmps37
      go_wp2
      go_ret
      exact ⟨rfl, r, Bar.refl _ _ _⟩
    · have h2' : n ≤ 281474976710656 - h := by omega
      rw [show holde h n = 0 by unfold holde; rw [if_neg (by omega), if_neg h2], show holdh h n = h + n by unfold holdh; rw [if_pos ⟨h1', h2'⟩]]
      have r1 := r.setH (h + n)
      obtain ⟨d0, d1, d2, d3, d4, d5, df⟩ := r1.all
      have b1 : Bar m w.heap.size w (w.setCell ⟨m, 0, none⟩ (.int .i64 (h + n))) := (Bar.refl _ _ _).set 0 _
      by_cases h3 : g < h + n
      · rw [show holdg h g n = h + n by unfold holdg; rw [if_pos ⟨h1', h2'⟩, if_pos h3]]
        go_enter Try.func37, Try.ntmps37
        go_wp2_with fail
        go_region
        go_wp2
        go_ret
        exact ⟨rfl, (r1.setG (h + n)).drew, (b1.set 1 _).drew⟩
      · rw [show holdg h g n = g by unfold holdg; rw [if_pos ⟨h1', h2'⟩, if_neg h3]]
        go_enter Try.func37, Try.ntmps37
        go_wp2_with fail
        go_region
        go_wp2
        go_ret
        exact ⟨rfl, (r1.setG g).drew, (b1.set 1 _).drew⟩

theorem hold_any (m a b : Nat) (h g n : Int) (hf : Fit h g) (hn : n ≤ 9223372036854775807) (w : World) (r : MRow w m a b h g) : Calls Try.prog 24 #[at0 m, .int .i64 n] w fun e w' => e = .returned (.int .i64 (holde h n)) ∧ MRow w' m a b (holdh h n) (holdg h g n) ∧ Bar m w.heap.size w w' := by
  have SH := Lib.hid (spacehold m a b h g n hf hn w r)
  obtain ⟨c0, c1, c2, c3, c4, c5, cf⟩ := r.all
  clear hf hn
  go_enter Try.func24, Try.ntmps24
  go_wp2_with (go_at_call 37; refine SH.out.mono ?_; rintro e w1 ⟨rfl, r1, b1⟩)
  go_ret
  exact ⟨rfl, r1, b1⟩

end Go.Proofs.Ytibaloamgpcghaa
