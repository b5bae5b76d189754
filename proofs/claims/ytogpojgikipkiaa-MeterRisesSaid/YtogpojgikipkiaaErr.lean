/-
  Hold and Free that answer an errno: the world is as it was.
-/
import Derived.Test.YtogpojgikipkiaaMeter
import Derived.Test.YtogpojgikipkiaaDuo
namespace Go.Proofs.Ytogpojgikipkiaa
open Go.RowKit
set_option linter.unusedVariables false

theorem spacehold_no (m a b : Nat) (h g n : Int) (hf : Fit h g) (hn : n ≤ 9223372036854775807) (hE : ¬ holde h n = 0) (w : World) (r : MRow w m a b h g) : Calls Try.prog 22 #[at0 m, .int .i64 n] w fun e w' => e = .returned (.int .i64 (holde h n)) ∧ w' = w := by
  obtain ⟨f0, f1, f2⟩ := hf
  obtain ⟨c0, c1, c2, c3, c4, c5, cf⟩ := r.all
  by_cases h1 : n < 0
  · rw [show holde h n = 1 by unfold holde; rw [if_pos h1]]
    clear hn hE
    go_enter Try.func22, Try.ntmps22
    go_wp2
    go_ret
    exact ⟨rfl, rfl⟩
  · have h1' : (0 : Int) ≤ n := by omega
    by_cases h2 : 281474976710656 - h < n
    · rw [show holde h n = 3 by unfold holde; rw [if_neg (by omega), if_pos h2]]
      clear h1 hE
      go_enter Try.func22, Try.ntmps22
      go_wp2
      go_ret
      exact ⟨rfl, rfl⟩
    · exact absurd (by unfold holde; rw [if_neg h1, if_neg h2]) hE
theorem hold_no (m a b : Nat) (h g n : Int) (hf : Fit h g) (hn : n ≤ 9223372036854775807) (hE : ¬ holde h n = 0) (w : World) (r : MRow w m a b h g) : Calls Try.prog 7 #[at0 m, .int .i64 n] w fun e w' => e = .returned (.int .i64 (holde h n)) ∧ w' = w := by
  have SH := Lib.hid (spacehold_no m a b h g n hf hn hE w r)
  obtain ⟨c0, c1, c2, c3, c4, c5, cf⟩ := r.all
  clear hf hn hE
  go_enter Try.func7, Try.ntmps7
  go_wp2_with (go_at_call 22; refine SH.out.mono ?_; rintro e w1 ⟨rfl, rfl⟩)
  go_ret
  exact ⟨rfl, rfl⟩
theorem spacefree_no (m a b : Nat) (h g n : Int) (hf : Fit h g) (hn : n ≤ 9223372036854775807) (hE : ¬ freee h n = 0) (w : World) (r : MRow w m a b h g) : Calls Try.prog 23 #[at0 m, .int .i64 n] w fun e w' => e = .returned (.int .i64 (freee h n)) ∧ w' = w := by
  obtain ⟨f0, f1, f2⟩ := hf
  obtain ⟨c0, c1, c2, c3, c4, c5, cf⟩ := r.all
  by_cases h1 : n < 0
  · rw [show freee h n = 1 by unfold freee; rw [if_pos h1]]
    clear hn hE
    go_enter Try.func23, Try.ntmps23
    go_wp2
    go_ret
    exact ⟨rfl, rfl⟩
  · have h1' : (0 : Int) ≤ n := by omega
    by_cases h2 : h < n
    · rw [show freee h n = 4 by unfold freee; rw [if_neg (by omega), if_pos h2]]
      clear h1 hE
      go_enter Try.func23, Try.ntmps23
      go_wp2
      go_ret
      exact ⟨rfl, rfl⟩
    · exact absurd (by unfold freee; rw [if_neg h1, if_neg h2]) hE
theorem free_no (m a b : Nat) (h g n : Int) (hf : Fit h g) (hn : n ≤ 9223372036854775807) (hE : ¬ freee h n = 0) (w : World) (r : MRow w m a b h g) : Calls Try.prog 9 #[at0 m, .int .i64 n] w fun e w' => e = .returned (.int .i64 (freee h n)) ∧ w' = w := by
  have SH := Lib.hid (spacefree_no m a b h g n hf hn hE w r)
  obtain ⟨c0, c1, c2, c3, c4, c5, cf⟩ := r.all
  clear hf hn hE
  go_enter Try.func9, Try.ntmps9
  go_wp2_with (go_at_call 23; refine SH.out.mono ?_; rintro e w1 ⟨rfl, rfl⟩)
  go_ret
  exact ⟨rfl, rfl⟩
theorem Duo.drewN {W : World} {m lb a b : Nat} {h g : Int} {l : Nat} {w : World} (A : Duo W m lb a b h g l w) (n : Nat) : Duo W m lb a b h g l (w.drewN n) := ⟨Row.drewN A.rm n, Row.drewN A.rl n, ⟨A.rb.os, A.rb.tape, A.rb.output, A.rb.size, A.rb.block⟩⟩

end Go.Proofs.Ytogpojgikipkiaa
