/-
  The library of all later seats, LibD: Meter, Count, Step, Nums.
-/
import Derived.Test.YtppmicepkjhfeaaGreatLibB
import Derived.Test.YtppmicepkjhfeaaGreatLibA
import Derived.Test.YtppmicepkjhfeaaGreatLibC
import Derived.LoopTactic
import Derived.Deep.QuietTactic
import Derived.BigQuiet
import Derived.WalkSmall
import Derived.Deep.RegionWith
import Derived.Deep.RegionHeld3
import Derived.Deep.DeepCutAuto
import Derived.Deep.CutBlock
import Derived.WalkKit
import Derived.Deep.AppendLies
import Derived.Deep.RegionLaw
import Derived.Lib.AppendZeros
/-! Meter: Contracts of package meter: the words in use. -/
namespace Go.Proofs.YtppmicepkjhfeaaGreat
open Go.RowKit
set_option linter.unusedVariables false

/-- a place in memory as a value -/
abbrev at0 (m : Nat) : Value := .pointer (some ⟨m, 0, none⟩)

theorem new_any (w : World) : Calls Tryz.prog 42 #[] w fun e w' => e = .returned (at0 w.heap.size) ∧ w.alloc (.cells #[.int .i64 0, .int .i64 0, .int .u64 0, .int .u64 0, .int .u64 0, .int .u64 0] 135) = w' := by
  go_enter Tryz.func42, Tryz.ntmps42
  go_wp2
  go_ret
  exact ⟨rfl, rfl⟩

theorem exists_any (k : Int) (w : World) : Calls Tryz.prog 98 #[.int .i64 k] w fun e w' => e = .returned (.bool (decide (0 ≤ k ∧ k < 2))) ∧ w = w' := by
  by_cases h1 : 0 ≤ k
  · by_cases h2 : k < 2
    · rw [decide_eq_true (And.intro h1 h2)]
      go_enter Tryz.func98, Tryz.ntmps98
      go_wp2
      go_ret
      exact ⟨rfl, rfl⟩
    · rw [decide_eq_false (fun h => h2 h.2)]
      go_enter Tryz.func98, Tryz.ntmps98
      go_wp2
      go_ret
      exact ⟨rfl, rfl⟩
  · rw [decide_eq_false (fun h => h1 h.1)]
    go_enter Tryz.func98, Tryz.ntmps98
    go_wp2
    go_ret
    exact ⟨rfl, rfl⟩

theorem hold_nil (n : Int) (w : World) : Calls Tryz.prog 97 #[.pointer none, .int .i64 n] w fun e w' => e = .returned (.int .i64 1) ∧ w = w' := by
  go_enter Tryz.func97, Tryz.ntmps97
  go_wp2
  go_ret
  exact ⟨rfl, rfl⟩
/-! ### Hold, Free -/
theorem spacehold (m a b : Nat) (h g n : Int) (hf : Fit h g) (hn : n ≤ 9223372036854775807) (w : World) (r : MRow w m a b h g) : Calls Tryz.prog 120 #[at0 m, .int .i64 n] w fun e w' => e = .returned (.int .i64 (holde h n)) ∧ MRow w' m a b (holdh h n) (holdg h g n) ∧ Bar m w.heap.size w w' := by
  obtain ⟨f0, f1, f2⟩ := hf
  obtain ⟨c0, c1, c2, c3, c4, c5, cf⟩ := r.all
  by_cases h1 : n < 0
  · rw [show holde h n = 1 by unfold holde; rw [if_pos h1], show holdh h n = h by unfold holdh; rw [if_neg (by omega)], show holdg h g n = g by unfold holdg; rw [if_neg (by omega)]]
    clear hn
    go_enter Tryz.func120, Tryz.ntmps120
    go_wp2
    go_ret
    exact ⟨rfl, r, Bar.refl _ _ _⟩
  · have h1' : (0 : Int) ≤ n := by omega
    clear h1
    by_cases h2 : 281474976710656 - h < n
    · rw [show holde h n = 3 by unfold holde; rw [if_neg (by omega), if_pos h2], show holdh h n = h by unfold holdh; rw [if_neg (by omega)], show holdg h g n = g by unfold holdg; rw [if_neg (by omega)]]
      go_enter Tryz.func120, Tryz.ntmps120
      go_wp2
      go_ret
      exact ⟨rfl, r, Bar.refl _ _ _⟩
    · have h2' : n ≤ 281474976710656 - h := by omega
      rw [show holde h n = 0 by unfold holde; rw [if_neg (by omega), if_neg h2], show holdh h n = h + n by unfold holdh; rw [if_pos ⟨h1', h2'⟩]]
      have r1 := r.setH (h + n)
      obtain ⟨d0, d1, d2, d3, d4, d5, df⟩ := r1.all
      have b1 : Bar m w.heap.size w (w.setCell ⟨m, 0, none⟩ (.int .i64 (h + n))) := (Bar.refl _ _ _).set 0 _
      by_cases h3 : g < h + n
      · rw [show holdg h g n = h + n by unfold holdg; rw [if_pos ⟨h1', h2'⟩, if_pos h3]]
        go_enter Tryz.func120, Tryz.ntmps120
        go_wp2_with fail
        go_region
        go_wp2
        go_ret
        exact ⟨rfl, (r1.setG (h + n)).drew, (b1.set 1 _).drew⟩
      · rw [show holdg h g n = g by unfold holdg; rw [if_pos ⟨h1', h2'⟩, if_neg h3]]
        go_enter Tryz.func120, Tryz.ntmps120
        go_wp2_with fail
        go_region
        go_wp2
        go_ret
        exact ⟨rfl, (r1.setG g).drew, (b1.set 1 _).drew⟩

theorem hold_any (m a b : Nat) (h g n : Int) (hf : Fit h g) (hn : n ≤ 9223372036854775807) (w : World) (r : MRow w m a b h g) : Calls Tryz.prog 97 #[at0 m, .int .i64 n] w fun e w' => e = .returned (.int .i64 (holde h n)) ∧ MRow w' m a b (holdh h n) (holdg h g n) ∧ Bar m w.heap.size w w' := by
  have SH := Lib.hid (spacehold m a b h g n hf hn w r)
  obtain ⟨c0, c1, c2, c3, c4, c5, cf⟩ := r.all
  clear hf hn
  go_enter Tryz.func97, Tryz.ntmps97
  go_wp2_with (go_at_call 120; refine SH.out.mono ?_; rintro e w1 ⟨rfl, r1, b1⟩)
  go_ret
  exact ⟨rfl, r1, b1⟩

end Go.Proofs.YtppmicepkjhfeaaGreat

/-! Count: Contracts of package meter: the counters. -/
namespace Go.Proofs.YtppmicepkjhfeaaGreat
open Go.RowKit
set_option linter.unusedVariables false

/-! ### Of -/
/-! ### Steps -/
end Go.Proofs.YtppmicepkjhfeaaGreat

/-! Step: Contracts of package meter: Step. -/
namespace Go.Proofs.YtppmicepkjhfeaaGreat
open Go.RowKit
set_option linter.unusedVariables false

theorem step_nil (k n : Int) (w : World) : Calls Tryz.prog 75 #[.pointer none, .int .i64 k, .int .i64 n] w fun e w' => e = .returned (.tuple #[]) ∧ w = w' := by
  go_enter Tryz.func75, Tryz.ntmps75
  go_wp2
  exact bodyPost_ret (v := .tuple #[]) (by simp [results, Tryz.results75, go_sem]) rfl ⟨rfl, rfl⟩
theorem step_far (m : Nat) (k n : Int) (hk : ¬ (0 ≤ k ∧ k < 2)) (w : World) : Calls Tryz.prog 75 #[at0 m, .int .i64 k, .int .i64 n] w fun e w' => e = .returned (.tuple #[]) ∧ w = w' := by
  have EX := Lib.hid (fun w => exists_any k w)
  rw [decide_eq_false hk] at EX
  clear hk
  go_enter Tryz.func75, Tryz.ntmps75
  go_wp2_with (go_at_call 98; refine (EX.out _).mono ?_; rintro e w1 ⟨rfl, rfl⟩)
  exact bodyPost_ret (v := .tuple #[]) (by simp [results, Tryz.results75, go_sem]) rfl ⟨rfl, rfl⟩
theorem step_low (m : Nat) (k n : Int) (hk : 0 ≤ k ∧ k < 2) (hn : n < 1) (w : World) : Calls Tryz.prog 75 #[at0 m, .int .i64 k, .int .i64 n] w fun e w' => e = .returned (.tuple #[]) ∧ w = w' := by
  have EX := Lib.hid (fun w => exists_any k w)
  rw [decide_eq_true hk] at EX
  clear hk
  go_enter Tryz.func75, Tryz.ntmps75
  go_wp2_with (go_at_call 98; refine (EX.out _).mono ?_; rintro e w1 ⟨rfl, rfl⟩)
  exact bodyPost_ret (v := .tuple #[]) (by simp [results, Tryz.results75, go_sem]) rfl ⟨rfl, rfl⟩
theorem of_nat (t : Nat) (ht : t ≤ 9223372036854775807) (w : World) : Calls Tryz.prog 100 #[.int .u64 (t : Int)] w fun e w' => e = .returned (wv t) ∧ Below w.heap.size w w' := by
  have e : wv t = .agg #[.int .u64 0, .int .u64 (t : Int)] := by simp only [wv]; rw [hi_of_lt (by omega), lo_of_lt (by omega)]
  rw [e]
  exact of_any _ w

set_option maxHeartbeats 2000000 in
set_option maxRecDepth 100000 in
theorem step_reads (m a b : Nat) (h g : Int) (t : Nat) (ha : N128 a) (h0 : 0 < t) (ht : t ≤ 9223372036854775807) (w : World) (r : MRow w m a b h g) : Calls Tryz.prog 75 #[at0 m, .int .i64 0, .int .i64 (t : Int)] w fun e w' => e = .returned (.tuple #[]) ∧ MRow w' m (addv a t) b h g ∧ Bar m w.heap.size w w' := by
  have EX := Lib.hid (fun w => exists_any 0 w)
  rw [decide_eq_true (by omega)] at EX
  have OF := Lib.hid (fun w => of_nat t ht w)
  have AD := Lib.hid (fun w => add_any a t ha (by unfold N128; omega) w)
  obtain ⟨c0, c1, c2, c3, c4, c5, cf⟩ := r.all
  have i0 : (0 : Int) < t := by omega
  have i1 : (t : Int) ≤ 9223372036854775807 := by omega
  have hm := r.lt
  have wt := wrapu t ht
  clear ha ht h0
  go_enter Tryz.func75, Tryz.ntmps75
  go_wp2_with (go_at_call 98; refine (EX.out _).mono ?_; rintro e w1 ⟨rfl, rfl⟩)
  go_region_with (first
    | (go_at_call 100; with_reducible refine (OF.out _).mono ?_; rintro e w1 ⟨rfl, b1⟩; have r1 := MRow.below (by first | exact r | exact r.drew) b1; obtain ⟨d0, d1, d2, d3, d4, d5, df⟩ := r1.all)
    | (go_at_call 99; with_reducible refine (AD.out _).mono ?_; rintro e w2 ⟨rfl, b2⟩; have r2 := MRow.below (by first | exact r1 | exact r1.drew) b2; obtain ⟨e0, e1, e2, e3, e4, e5, ef⟩ := r2.all))
  all_goals
    have q1 := Bar.then (Bar.of (m := m) (Below.refl w.heap.size w).drew) b1
    exact bodyPost_end (v := .tuple #[]) (by simp [results, Tryz.results75, go_sem]) rfl ⟨rfl, r2.setA (addv a t), ((q1.then b2).set 2 _).set 3 _⟩

set_option maxHeartbeats 2000000 in
set_option maxRecDepth 100000 in
theorem step_writes (m a b : Nat) (h g : Int) (t : Nat) (hb : N128 b) (h0 : 0 < t) (ht : t ≤ 9223372036854775807) (w : World) (r : MRow w m a b h g) : Calls Tryz.prog 75 #[at0 m, .int .i64 1, .int .i64 (t : Int)] w fun e w' => e = .returned (.tuple #[]) ∧ MRow w' m a (addv b t) h g ∧ Bar m w.heap.size w w' := by
  have EX := Lib.hid (fun w => exists_any 1 w)
  rw [decide_eq_true (by omega)] at EX
  have OF := Lib.hid (fun w => of_nat t ht w)
  have AD := Lib.hid (fun w => add_any b t hb (by unfold N128; omega) w)
  obtain ⟨c0, c1, c2, c3, c4, c5, cf⟩ := r.all
  have i0 : (0 : Int) < t := by omega
  have i1 : (t : Int) ≤ 9223372036854775807 := by omega
  have hm := r.lt
  have wt := wrapu t ht
  clear hb ht h0
  go_enter Tryz.func75, Tryz.ntmps75
  go_wp2_with (go_at_call 98; refine (EX.out _).mono ?_; rintro e w1 ⟨rfl, rfl⟩)
  go_region_with (first
    | (go_at_call 100; with_reducible refine (OF.out _).mono ?_; rintro e w1 ⟨rfl, b1⟩; have r1 := MRow.below (by first | exact r | exact r.drew) b1; obtain ⟨d0, d1, d2, d3, d4, d5, df⟩ := r1.all)
    | (go_at_call 99; with_reducible refine (AD.out _).mono ?_; rintro e w2 ⟨rfl, b2⟩; have r2 := MRow.below (by first | exact r1 | exact r1.drew) b2; obtain ⟨e0, e1, e2, e3, e4, e5, ef⟩ := r2.all))
  all_goals
    have q1 := Bar.then (Bar.of (m := m) (Below.refl w.heap.size w).drew) b1
    exact bodyPost_end (v := .tuple #[]) (by simp [results, Tryz.results75, go_sem]) rfl ⟨rfl, r2.setB (addv b t), ((q1.then b2).set 4 _).set 5 _⟩

theorem step_any (m a b : Nat) (h g k n : Int) (ha : N128 a) (hb : N128 b) (hn : n ≤ 9223372036854775807) (w : World) (r : MRow w m a b h g) : Calls Tryz.prog 75 #[at0 m, .int .i64 k, .int .i64 n] w fun e w' => e = .returned (.tuple #[]) ∧ MRow w' m (stepv 0 k n a) (stepv 1 k n b) h g ∧ Bar m w.heap.size w w' := by
  by_cases hk : 0 ≤ k ∧ k < 2
  · by_cases h1 : n < 1
    · rw [stepv_n a (by omega), stepv_n b (by omega)]
      exact (step_low m k n hk h1 w).mono fun e w' ⟨e1, e2⟩ => ⟨e1, e2 ▸ r, e2 ▸ Bar.refl _ _ _⟩
    · obtain ⟨t, rfl⟩ := Int.eq_ofNat_of_zero_le (show 0 ≤ n by omega)
      by_cases h0 : k = 0
      · subst h0
        rw [stepv_y a rfl (by omega), stepv_n b (by omega), Int.toNat_natCast]
        exact step_reads m a b h g t ha (by omega) (by omega) w r
      · obtain rfl : k = 1 := by omega
        rw [stepv_n a (by omega), stepv_y b rfl (by omega), Int.toNat_natCast]
        exact step_writes m a b h g t hb (by omega) (by omega) w r
  · rw [stepv_n a (by omega), stepv_n b (by omega)]
    exact (step_far m k n hk w).mono fun e w' ⟨e1, e2⟩ => ⟨e1, e2 ▸ r, e2 ▸ Bar.refl _ _ _⟩

end Go.Proofs.YtppmicepkjhfeaaGreat

/-! Nums: Heaps of numbers as plain lists: what container/heap's up and down keep. No program in sight. And what follows from it. -/
/-! ## Heaps of numbers as plain lists: what container/heap's up and down keep. No program in sight. -/
namespace Go.Proofs.YtppmicepkjhfeaaGreat
set_option linter.unusedVariables false

/-- the number at a place -/
def nq (Q : List Nat) (k : Nat) : Nat := Q.getD k 0
/-- two places exchanged -/
def swq (Q : List Nat) (i j : Nat) : List Nat := (Q.set i (nq Q j)).set j (nq Q i)
theorem swq_len (Q : List Nat) (i j : Nat) : (swq Q i j).length = Q.length := by unfold swq; simp
theorem nq_set (Q : List Nat) (i k x : Nat) (hi : i < Q.length) : nq (Q.set i x) k = if k = i then x else nq Q k := by
  unfold nq
  by_cases e : k = i
  · subst e; rw [if_pos rfl]; simp [List.getD, hi]
  · rw [if_neg e]; simp [List.getD, List.getElem?_set_ne (Ne.symm e)]
theorem nq_swq (Q : List Nat) (i j k : Nat) (hi : i < Q.length) (hj : j < Q.length) : nq (swq Q i j) k = if k = j then nq Q i else if k = i then nq Q j else nq Q k := by
  unfold swq
  rw [nq_set _ _ _ _ (by rw [List.length_set]; exact hj)]
  by_cases e : k = j
  · rw [if_pos e, if_pos e]
  · rw [if_neg e, if_neg e, nq_set _ _ _ _ hi]
theorem swq_perm (Q : List Nat) (i j : Nat) (hi : i < Q.length) (hj : j < Q.length) : (swq Q i j).Perm Q := by
  have h : ((Q.set i Q[j]).set j Q[i]).Perm Q := List.set_set_perm hi hj
  unfold swq nq
  simpa [List.getD, List.getElem?_eq_getElem hi, List.getElem?_eq_getElem hj] using h
theorem nq_app (Q P : List Nat) (k : Nat) (h : k < Q.length) : nq (Q ++ P) k = nq Q k := by
  unfold nq; simp [List.getD, List.getElem?_append_left h]
theorem nq_last (Q : List Nat) (x : Nat) : nq (Q ++ [x]) Q.length = x := by
  unfold nq; simp [List.getD]
theorem nq_take (Q : List Nat) (n k : Nat) (h : k < n) : nq (Q.take n) k = nq Q k := by
  unfold nq; simp [List.getD, List.getElem?_take_of_lt h]
theorem take_last (Q : List Nat) (n : Nat) (h : Q.length = n + 1) : Q.take n ++ [nq Q n] = Q := by
  have e := List.take_succ_eq_append_getElem (show n < Q.length by omega)
  rw [List.take_of_length_le (by omega)] at e
  unfold nq
  rw [List.getD_eq_getElem?_getD, List.getElem?_eq_getElem (show n < Q.length by omega)]
  exact e.symm
theorem nq_mem (Q : List Nat) (k : Nat) (h : k < Q.length) : nq Q k ∈ Q := by
  unfold nq; rw [List.getD_eq_getElem?_getD, List.getElem?_eq_getElem h]; exact List.getElem_mem h

/-- the first n numbers are a heap -/
def HeapN (Q : List Nat) (n : Nat) : Prop := ∀ k, 0 < k → k < n → nq Q ((k - 1) / 2) ≤ nq Q k
/-- .. but for place j, which may be too small for its parent -/
def UpI (Q : List Nat) (j : Nat) : Prop := (∀ k, 0 < k → k < Q.length → k ≠ j → nq Q ((k - 1) / 2) ≤ nq Q k) ∧ ∀ k, 0 < k → k < Q.length → (k - 1) / 2 = j → 0 < j → nq Q ((j - 1) / 2) ≤ nq Q k
/-- .. but for place i, which may be too great for its children -/
def DnI (Q : List Nat) (i n : Nat) : Prop := (∀ k, 0 < k → k < n → (k - 1) / 2 ≠ i → nq Q ((k - 1) / 2) ≤ nq Q k) ∧ ∀ k, 0 < k → k < n → (k - 1) / 2 = i → 0 < i → nq Q ((i - 1) / 2) ≤ nq Q k
theorem UpI.done {Q : List Nat} {j : Nat} (h : UpI Q j) (e : j = 0 ∨ nq Q ((j - 1) / 2) ≤ nq Q j) : HeapN Q Q.length := fun k h0 hk => by
  by_cases c : k = j
  · subst c
    exact e.resolve_left (by omega)
  · exact h.1 k h0 hk c
theorem UpI.step {Q : List Nat} {j : Nat} (h : UpI Q j) (hj : j < Q.length) (h0 : 0 < j) (lt : nq Q j < nq Q ((j - 1) / 2)) : UpI (swq Q ((j - 1) / 2) j) ((j - 1) / 2) := by
  obtain ⟨h1, h2⟩ := h
  have hp : (j - 1) / 2 < Q.length := by omega
  refine ⟨fun k k0 kl kp => ?_, fun k k0 kl kp p0 => ?_⟩
  · rw [swq_len] at kl
    rw [nq_swq _ _ _ _ hp hj, nq_swq _ _ _ _ hp hj]
    by_cases c : k = j
    · subst c
      rw [if_neg (by omega), if_pos rfl, if_pos rfl]; omega
    · rw [if_neg c, if_neg kp]
      have a := h1 k k0 kl c
      by_cases d : (k - 1) / 2 = j
      · rw [if_pos d]; exact h2 k k0 kl d h0
      · rw [if_neg d]
        by_cases f : (k - 1) / 2 = (j - 1) / 2
        · rw [if_pos f]; rw [f] at a; omega
        · rw [if_neg f]; exact a
  · rw [swq_len] at kl
    rw [nq_swq _ _ _ _ hp hj, nq_swq _ _ _ _ hp hj]
    rw [if_neg (by omega), if_neg (by omega)]
    have b := h1 ((j - 1) / 2) p0 hp (by omega)
    by_cases c : k = j
    · rw [if_pos c]; exact b
    · rw [if_neg c, if_neg (by omega)]
      have a := h1 k k0 kl c
      rw [kp] at a; omega
theorem DnI.none {Q : List Nat} {i n : Nat} (h : DnI Q i n) (e : n ≤ 2 * i + 1) : HeapN Q n := fun k h0 hk => h.1 k h0 hk (by omega)
theorem DnI.done {Q : List Nat} {i n : Nat} (h : DnI Q i n) (e : ∀ k, 0 < k → k < n → (k - 1) / 2 = i → nq Q i ≤ nq Q k) : HeapN Q n := fun k h0 hk => by
  by_cases c : (k - 1) / 2 = i
  · rw [c]; exact e k h0 hk c
  · exact h.1 k h0 hk c
theorem DnI.step {Q : List Nat} {i n j : Nat} (h : DnI Q i n) (hn : n ≤ Q.length) (hj : j < n) (j0 : 0 < j) (hi : (j - 1) / 2 = i) (lt : nq Q j < nq Q i) (mn : ∀ k, 0 < k → k < n → (k - 1) / 2 = i → nq Q j ≤ nq Q k) : DnI (swq Q i j) j n := by
  obtain ⟨h1, h2⟩ := h
  have il : i < Q.length := by omega
  have jl : j < Q.length := by omega
  refine ⟨fun k k0 kl kp => ?_, fun k k0 kl kp _ => ?_⟩
  · rw [nq_swq _ _ _ _ il jl, nq_swq _ _ _ _ il jl, if_neg kp]
    by_cases d : (k - 1) / 2 = i
    · rw [if_pos d]
      by_cases c : k = j
      · rw [if_pos c]; omega
      · rw [if_neg c, if_neg (by omega)]; exact mn k k0 kl d
    · rw [if_neg d, if_neg (by omega)]
      by_cases c : k = i
      · rw [if_pos c, c]; exact h2 j j0 hj hi (by omega)
      · rw [if_neg c]; exact h1 k k0 kl d
  · rw [nq_swq _ _ _ _ il jl, nq_swq _ _ _ _ il jl, hi, if_neg (by omega), if_pos rfl, if_neg (by omega), if_neg (by omega)]
    have a := h1 k k0 kl (by omega)
    rw [kp] at a; exact a
/-- the smaller one of two children -/
theorem child2 {Q : List Nat} {i n : Nat} (h1 : 2 * i + 2 < n) (lt : nq Q (2 * i + 2) < nq Q (2 * i + 1)) (k : Nat) (k0 : 0 < k) (kl : k < n) (e : (k - 1) / 2 = i) : nq Q (2 * i + 2) ≤ nq Q k := by
  have : k = 2 * i + 1 ∨ k = 2 * i + 2 := by omega
  rcases this with rfl | rfl <;> omega
theorem child1 {Q : List Nat} {i n : Nat} (h1 : 2 * i + 1 < n) (lt : 2 * i + 2 < n → nq Q (2 * i + 1) ≤ nq Q (2 * i + 2)) (k : Nat) (k0 : 0 < k) (kl : k < n) (e : (k - 1) / 2 = i) : nq Q (2 * i + 1) ≤ nq Q k := by
  have : k = 2 * i + 1 ∨ k = 2 * i + 2 := by omega
  rcases this with rfl | rfl
  · omega
  · exact lt kl
/-- the first number of a heap is the least one -/
theorem HeapN.least {Q : List Nat} {n : Nat} (h : HeapN Q n) : ∀ k, k < n → nq Q 0 ≤ nq Q k := by
  intro k
  induction k using Nat.strongRecOn with
  | _ k ih =>
    intro hk
    by_cases c : k = 0
    · rw [c]; omega
    · have a := ih ((k - 1) / 2) (by omega) (by omega)
      have b := h k (by omega) hk
      omega
theorem HeapN.more {Q : List Nat} (x : Nat) (h : HeapN Q Q.length) : UpI (Q ++ [x]) Q.length := by
  refine ⟨fun k k0 kl kn => ?_, fun k k0 kl kp p0 => ?_⟩
  · rw [List.length_append, List.length_singleton] at kl
    rw [nq_app _ _ _ (by omega), nq_app _ _ _ (by omega)]; exact h k k0 (by omega)
  · rw [List.length_append, List.length_singleton] at kl
    omega
theorem HeapN.first {Q : List Nat} {m : Nat} (h : HeapN Q Q.length) (hm : Q.length = m + 1) : DnI (swq Q 0 m) 0 m := by
  refine ⟨fun k k0 kl kp => ?_, fun k k0 kl kp p0 => by omega⟩
  rw [nq_swq _ _ _ _ (by omega) (by omega), nq_swq _ _ _ _ (by omega) (by omega), if_neg (by omega), if_neg kp, if_neg (by omega), if_neg (by omega)]
  exact h k k0 (by omega)
theorem HeapN.take {Q : List Nat} {m : Nat} (h : HeapN Q m) (hm : m ≤ Q.length) : HeapN (Q.take m) (Q.take m).length := fun k k0 kl => by
  rw [List.length_take] at kl
  rw [nq_take _ _ _ (by omega), nq_take _ _ _ (by omega)]
  exact h k k0 (by omega)
attribute [irreducible] nq swq
end Go.Proofs.YtppmicepkjhfeaaGreat
/-! ## Package mem's numbers: the methods that container/heap calls. -/
namespace Go.Proofs.YtppmicepkjhfeaaGreat
open Go.RowKit
set_option linter.unusedVariables false

theorem len_any (a : Option Addr) (n c : Nat) (hn : n ≤ 1000000) (w : World) : Calls Tryz.prog 156 #[.slice a n c] w fun e w' => e = .returned (.int .i64 (n : Int)) ∧ w' = w := by
  go_enter Tryz.func156, Tryz.ntmps156
  go_wp2
  go_ret
  exact ⟨rfl, rfl⟩
theorem meth_pop (a : Addr) (w : World) : (method 291 166 (.pointer (some a)) "Pop").run Tryz.prog w = .ok (160, .pointer (some a)) w := by kernel_rfl
theorem meth_load (a : Addr) (v : Value) (w : World) (h : w.cell? a = some v) : (loadVar 84 a).run Tryz.prog w = .ok v w := by
  simp [loadVar, h]
theorem meth_len (a : Addr) (v : Value) (w : World) (h : w.cell? a = some v) : (method 291 166 (.pointer (some a)) "Len").run Tryz.prog w = .ok (156, v) w := by
  have e : (method 291 166 (.pointer (some a)) "Len").run Tryz.prog w = ((loadVar 84 a) >>= fun v => pure (156, v)).run Tryz.prog w := by kernel_rfl
  rw [e]
  simp [meth_load a v w h]
theorem meth_less (a : Addr) (v : Value) (w : World) (h : w.cell? a = some v) : (method 291 166 (.pointer (some a)) "Less").run Tryz.prog w = .ok (157, v) w := by
  have e : (method 291 166 (.pointer (some a)) "Less").run Tryz.prog w = ((loadVar 84 a) >>= fun v => pure (157, v)).run Tryz.prog w := by kernel_rfl
  rw [e]
  simp [meth_load a v w h]
theorem meth_swap (a : Addr) (v : Value) (w : World) (h : w.cell? a = some v) : (method 291 166 (.pointer (some a)) "Swap").run Tryz.prog w = .ok (158, v) w := by
  have e : (method 291 166 (.pointer (some a)) "Swap").run Tryz.prog w = ((loadVar 84 a) >>= fun v => pure (158, v)).run Tryz.prog w := by kernel_rfl
  rw [e]
  simp [meth_load a v w h]

/-- numbers as values -/
def nqv (Q : List Nat) (j : Nat) : Value := .int .i64 ((nq Q j : Nat) : Int)
theorem bar_cell {m : Nat} {w w' : World} {p : Addr} {v : Value} (h : w.cell? p = some v) (k : Bar m w.heap.size w w') (hp : p.block ≠ m) : w'.cell? p = some v := by
  rw [World.cell?_of_block (w := w) (k.block p.block (World.block_lt_of_cell? w _ h) hp)]; exact h
theorem nqv_swap (Q : List Nat) (i j n : Nat) (hn : Q.length = n) (hi : i < n) (hj : j < n) (k : Nat) : (if k = j then nqv Q i else if k = i then nqv Q j else nqv Q k) = nqv (swq Q i j) k := by
  unfold nqv
  rw [nq_swq _ _ _ _ (by omega) (by omega)]
  split
  · rfl
  · split <;> rfl
theorem less_any (g n c : Nat) (Q : List Nat) (i j : Nat) (w : World) (r : Row w g n (nqv Q)) (hi : i < n) (hj : j < n) (hn : n ≤ 1000000) :
    Calls Tryz.prog 157 #[.slice (some ⟨g, 0, none⟩) n c, .int .i64 (i : Int), .int .i64 (j : Int)] w fun e w' => e = .returned (.bool (decide (nq Q i < nq Q j))) ∧ Below w.heap.size w w' := by
  have c0 := r.cell i hi
  have c1 := r.cell j hj
  unfold nqv at c0 c1
  have i0 : (0 : Int) ≤ (i : Int) := by omega
  have i1 : (i : Int) < (n : Int) := by omega
  have i2 : (0 : Int) ≤ (j : Int) := by omega
  have i3 : (j : Int) < (n : Int) := by omega
  clear r hi hj
  generalize nq Q i = x at *
  generalize nq Q j = y at *
  go_enter Tryz.func157, Tryz.ntmps157
  go_wp2_with fail
  go_quiet (fail)
  go_wp2_with fail
  go_ret
  exact ⟨rfl, (by repeat (first | exact Below.refl _ _ | (with_reducible assumption) | refine bAlloc ?_ _ | refine below_drewN ?_ _ | refine Below.drew ?_ | (refine bSet ?_ (by first | (dsimp only; omega) | (simp; done) | (simp; omega)) _) | refine bTrans ?_ (by assumption)))⟩
theorem Bar.mono {m B B' : Nat} {w w' : World} (h : Bar m B w w') (hB : B' ≤ B) : Bar m B' w w' := ⟨h.os, h.tape, h.output, h.size, fun k hk hm => h.block k (Nat.lt_of_lt_of_le hk hB) hm⟩
/-- Block g is a row of as many cells of the same type as before. -/
def Kin (g : Nat) (w w' : World) : Prop := ∀ t n, Cells w g t n → Cells w' g t n
theorem Kin.refl (g : Nat) (w : World) : Kin g w w := fun _ _ h => h
theorem Kin.trans {g : Nat} {a b c : World} (h : Kin g a b) (k : Kin g b c) : Kin g a c := fun t n q => k t n (h t n q)
theorem Kin.of {g : Nat} {w w' : World} (h : Below w.heap.size w w') : Kin g w w' := fun _ _ q => q.below h
theorem swap_any (g n c : Nat) (Q : List Nat) (i j : Nat) (w : World) (r : Row w g n (nqv Q)) (hQ : Q.length = n) (hi : i < n) (hj : j < n) (hn : n ≤ 1000000) :
    Calls Tryz.prog 158 #[.slice (some ⟨g, 0, none⟩) n c, .int .i64 (i : Int), .int .i64 (j : Int)] w fun e w' => e = .returned (.tuple #[]) ∧ Row w' g n (nqv (swq Q i j)) ∧ Bar g w.heap.size w w' ∧ Kin g w w' := by
  have c0 := r.cell i hi
  have c1 := r.cell j hj
  have R1 := Lib.hid ((r.set i hi (nqv Q j)).set j hj (nqv Q i))
  have B1 := Lib.hid (((Bar.refl g w.heap.size w).set i (nqv Q j)).set j (nqv Q i))
  have K1 := Lib.hid (show Kin g w ((w.setCell ⟨g, i, none⟩ (nqv Q j)).setCell ⟨g, j, none⟩ (nqv Q i)) from fun t n q => (q.set g i _).set g j _)
  have NS := Lib.hid (nqv_swap Q i j n hQ hi hj)
  have rf := r.free
  have rs := (r.set i hi (nqv Q j)).free
  have cs : (w.setCell ⟨g, i, none⟩ (.int .i64 ((nq Q j : Nat) : Int))).cell? ⟨g, j, none⟩ = some (.int .i64 ((nq Q j : Nat) : Int)) := by
    have h := (r.set i hi (nqv Q j)).cell j hj
    rw [show (if j = i then nqv Q j else nqv Q j) = nqv Q j by split <;> rfl] at h
    exact h
  have i0 : (0 : Int) ≤ (i : Int) := by omega
  have i1 : (i : Int) < (n : Int) := by omega
  have i2 : (0 : Int) ≤ (j : Int) := by omega
  have i3 : (j : Int) < (n : Int) := by omega
  clear hi hj r
  unfold nqv at c0 c1
  go_enter Tryz.func158, Tryz.ntmps158
  go_wp2_with fail
  go_region
  go_wp2_with fail
  exact bodyPost_end (v := .tuple #[]) (by simp [results, Tryz.results158, go_sem]) rfl ⟨rfl, (R1.out.congr fun k _ => NS.out k).drew, B1.out.drew, K1.out⟩

/-! ### a Mem's own cells -/
def mcl (mm : Nat) (sv qv : Value) (j : Nat) : Value := if j = 0 then .pointer (some ⟨mm, 0, none⟩) else if j = 1 then sv else qv
theorem three {j : Nat} (h : j < 3) : j = 0 ∨ j = 1 ∨ j = 2 := by omega
def WRw (w : World) (mb mm : Nat) (sv qv : Value) : Prop := Row w mb 3 (mcl mm sv qv)
theorem WRw.all {w : World} {mb mm : Nat} {sv qv : Value} (r : WRw w mb mm sv qv) : w.cell? ⟨mb, 0, none⟩ = some (.pointer (some ⟨mm, 0, none⟩)) ∧ w.cell? ⟨mb, 1, none⟩ = some sv ∧ w.cell? ⟨mb, 2, none⟩ = some qv ∧ (∀ j, w.frozen? ⟨mb, j, none⟩ = false) ∧ mb < w.heap.size :=
  ⟨r.cell 0 (by omega), r.cell 1 (by omega), r.cell 2 (by omega), r.free, r.lt⟩
theorem WRw.below {w w' : World} {mb mm : Nat} {sv qv : Value} (r : WRw w mb mm sv qv) (k : Below w.heap.size w w') : WRw w' mb mm sv qv := Row.below r k
theorem WRw.drew {w : World} {mb mm : Nat} {sv qv : Value} (r : WRw w mb mm sv qv) : WRw w.drew mb mm sv qv := Row.drew r
theorem WRw.bar {w w' : World} {mb mm m : Nat} {sv qv : Value} (r : WRw w mb mm sv qv) (k : Bar m w.heap.size w w') (h : mb ≠ m) : WRw w' mb mm sv qv := Row.bar r k h
theorem WRw.setS {w : World} {mb mm : Nat} {sv qv : Value} (r : WRw w mb mm sv qv) (x : Value) : WRw (w.setCell ⟨mb, 1, none⟩ x) mb mm x qv :=
  (Row.set r 1 (by omega) _).congr fun j hj => by rcases three hj with rfl | rfl | rfl <;> rfl
theorem WRw.setQ {w : World} {mb mm : Nat} {sv qv : Value} (r : WRw w mb mm sv qv) (x : Value) : WRw (w.setCell ⟨mb, 2, none⟩ x) mb mm sv x :=
  (Row.set r 2 (by omega) _).congr fun j hj => by rcases three hj with rfl | rfl | rfl <;> rfl
attribute [irreducible] nqv
end Go.Proofs.YtppmicepkjhfeaaGreat
/-! ## container/heap.down at package mem's numbers. -/
namespace Go.Proofs.YtppmicepkjhfeaaGreat
open Go.RowKit
set_option linter.unusedVariables false

set_option maxRecDepth 100000 in
set_option maxHeartbeats 2000000 in
theorem down_any (mb mm g l c : Nat) (sv : Value) (Q : List Nat) (n : Nat) (w : World) (hm : WRw w mb mm sv (.slice (some ⟨g, 0, none⟩) l c)) (hg : mb ≠ g) (r : Row w g l (nqv Q)) (hQ : Q.length = l) (hl : l ≤ 1000000) (hn : n ≤ l) (hu : DnI Q 0 n) (hl0 : 0 < l) :
    Calls Tryz.prog 136 #[.iface 166 (.pointer (some ⟨mb, 2, none⟩)), .int .i64 0, .int .i64 (n : Int)] w fun e w' => (∃ b, e = .returned (.bool b)) ∧ ∃ Q', Q'.length = l ∧ Row w' g l (nqv Q') ∧ HeapN Q' n ∧ Q'.Perm Q ∧ (∀ k, n ≤ k → nq Q' k = nq Q k) ∧ Bar g w.heap.size w w' ∧ Kin g w w' := by
  have HM := Lib.hid hm
  clear hm
  go_enter Tryz.func136, Tryz.ntmps136
  go_wp2_with fail
  go_loopw [7, 8, 9, 10] (fun q _ _ _ wr => ∃ (i : Nat) (Q' : List Nat), q = .int .i64 (i : Int) ∧ i < l ∧ Q'.length = l ∧ Row wr g l (nqv Q') ∧ DnI Q' i n ∧ Q'.Perm Q ∧ (∀ k, n ≤ k → nq Q' k = nq Q k) ∧ Bar g w.heap.size w wr ∧ Kin g w wr) (fun q _ _ _ _ => l - (intOf q).toNat)
  case atStart => exact ⟨0, Q, rfl, hl0, hQ, r, hu, List.Perm.refl _, (fun _ _ => rfl), Bar.refl _ _ _, Kin.refl _ _⟩
  case round =>
    clear hQ r hu hl0
    obtain ⟨i, Q', rfl, hi, hQ, r, hu, hp, ht, hb, hk⟩ := hrel
    have MR := HM.out.bar hb hg
    have HI := Lib.hid hi
    have HQ := Lib.hid hQ
    have HU := Lib.hid hu
    have HP := Lib.hid hp
    have HT := Lib.hid ht
    have HN := Lib.hid hn
    have HL := Lib.hid hl
    obtain ⟨x, hx⟩ : ∃ x, x = 2 * i := ⟨_, rfl⟩
    obtain ⟨c1, hc1⟩ : ∃ c1, c1 = 2 * i + 1 := ⟨_, rfl⟩
    obtain ⟨c2, hc2⟩ : ∃ c2, c2 = 2 * i + 2 := ⟨_, rfl⟩
    have HC1 := Lib.hid hc1
    have HC2 := Lib.hid hc2
    have e0 : 2 * (i : Int) = (x : Int) := by omega
    have e1 : (x : Int) + 1 = (c1 : Int) := by omega
    have e2 : (c1 : Int) + 1 = (c2 : Int) := by omega
    have w0 : wrap64 (x : Int) = (x : Int) := by unfold wrap64; omega
    have w1 : wrap64 (c1 : Int) = (c1 : Int) := by unfold wrap64; omega
    have w2 : wrap64 (c2 : Int) = (c2 : Int) := by unfold wrap64; omega
    have z1 : decide ((c1 : Int) < 0) = false := decide_eq_false (by omega)
    by_cases h1 : n ≤ c1
    · have HH := Lib.hid (DnI.none HU.out (by rw [HC1.out] at h1; exact h1))
      clear hi hQ hu hp ht hn hl hx hc1 hc2
      go_wp2_with fail
      exact bodyPost_ret (v := .bool (decide (0 < i))) (by simp [results, Tryz.results136, go_sem]) rfl ⟨⟨_, rfl⟩, Q', HQ.out, r, HH.out, HP.out, HT.out, hb, hk⟩
    · have h1' : c1 < n := by omega
      clear hi hQ hu hp ht hl hx hc1 hc2
      by_cases h2 : c2 < n
      · have LE1 := Lib.hid (fun w' r' => less_any g l c Q' c2 c1 w' r' (by have := HN.out; omega) (by have := HN.out; omega) HL.out)
        obtain ⟨m0, m1, m2, mf, ml⟩ := MR.all
        have ML0 := meth_less ⟨mb, 2, none⟩ _ wr m2
        go_wp2_with fail
        refine (LE1.out _ r).mono ?_
        rintro e wz ⟨rfl, bz⟩
        dsimp only
        have RZ := r.below bz
        have MZ := MR.below bz
        have BZ := hb.then bz
        have KZ := hk.trans (Kin.of bz)
        obtain ⟨q0, q1, q2, qf, ql⟩ := MZ.all
        have ML := meth_less ⟨mb, 2, none⟩ _ wz q2
        clear m0 m1 m2 mf ml ML0 MR
        by_cases h3 : nq Q' c2 < nq Q' c1
        · rw [decide_eq_true h3]
          have hjj : 0 < c2 ∧ c2 < n ∧ (c2 - 1) / 2 = i ∧ ∀ k, 0 < k → k < n → (k - 1) / 2 = i → nq Q' c2 ≤ nq Q' k := ⟨by have := HC2.out; omega, h2, by have := HC2.out; omega, fun k k0 kl ke => by
            have a := HC1.out; have b := HC2.out; subst a; subst b
            exact child2 h2 h3 k k0 kl ke⟩
          clear h3
          have HJ := Lib.hid hjj
          have jl : c2 < l := by have := HN.out; omega
          have LE2 := Lib.hid (fun w' r' => less_any g l c Q' c2 i w' r' jl HI.out HL.out)
          have SW := Lib.hid (fun w' r' => swap_any g l c Q' i c2 w' r' HQ.out HI.out jl HL.out)
          clear hjj jl
          go_wp2_with fail
          refine (LE2.out _ RZ).mono ?_
          rintro e wy ⟨rfl, by1⟩
          dsimp only
          have RY := RZ.below by1
          have MY := MZ.below by1
          have BY := BZ.then by1
          have KY := KZ.trans (Kin.of by1)
          obtain ⟨y0, y1, y2, yf, yl⟩ := MY.all
          have MS := meth_swap ⟨mb, 2, none⟩ _ wy y2
          clear q0 q1 q2 qf ql ML MZ
          by_cases hlt : nq Q' c2 < nq Q' i
          · rw [decide_eq_true hlt]
            have HLT := Lib.hid hlt
            clear hlt
            go_wp2_with fail
            refine (SW.out _ RY).mono ?_
            rintro e wx ⟨rfl, RX, bx, kx⟩
            dsimp only
            have BX := BY.trans (Bar.mono bx BY.size)
            have KX := KY.trans kx
            go_wp2_with fail
            go_roundw
            case rel =>
              obtain ⟨j0, j1, j2, j3⟩ := HJ.out
              have nl := HN.out
              have il := HI.out
              refine ⟨c2, swq Q' i c2, by first | rfl | rw [w1] | rw [w2], by omega, by rw [swq_len]; exact HQ.out, RX, DnI.step HU.out (by rw [HQ.out]; exact nl) j1 j0 j2 HLT.out j3, (swq_perm Q' i c2 (by rw [HQ.out]; exact il) (by rw [HQ.out]; omega)).trans HP.out, fun k hk => ?_, BX, KX⟩
              rw [nq_swq _ _ _ _ (by rw [HQ.out]; exact il) (by rw [HQ.out]; omega), if_neg (by omega), if_neg (by omega)]
              exact HT.out k hk
            case measure =>
              obtain ⟨j0, j1, j2, j3⟩ := HJ.out
              have nl := HN.out
              have il := HI.out
              (try rw [w1]); (try rw [w2])
              simp [intOf]; try omega
          · rw [decide_eq_false hlt]
            have HLT := Lib.hid hlt
            clear hlt
            go_wp2_with fail
            exact bodyPost_ret (v := .bool (decide (0 < i))) (by simp [results, Tryz.results136, go_sem]) rfl ⟨⟨_, rfl⟩, Q', HQ.out, RY, DnI.done HU.out (fun k k0 kl ke => by obtain ⟨j0, j1, j2, j3⟩ := HJ.out; have := j3 k k0 kl ke; have := HLT.out; omega), HP.out, HT.out, BY, KY⟩
        · rw [decide_eq_false h3]
          have hjj : 0 < c1 ∧ c1 < n ∧ (c1 - 1) / 2 = i ∧ ∀ k, 0 < k → k < n → (k - 1) / 2 = i → nq Q' c1 ≤ nq Q' k := ⟨by have := HC1.out; omega, h1', by have := HC1.out; omega, fun k k0 kl ke => by
            have a := HC1.out; have b := HC2.out; subst a; subst b
            exact child1 h1' (fun _ => by omega) k k0 kl ke⟩
          clear h3
          have HJ := Lib.hid hjj
          have jl : c1 < l := by have := HN.out; omega
          have LE2 := Lib.hid (fun w' r' => less_any g l c Q' c1 i w' r' jl HI.out HL.out)
          have SW := Lib.hid (fun w' r' => swap_any g l c Q' i c1 w' r' HQ.out HI.out jl HL.out)
          clear hjj jl
          go_wp2_with fail
          refine (LE2.out _ RZ).mono ?_
          rintro e wy ⟨rfl, by1⟩
          dsimp only
          have RY := RZ.below by1
          have MY := MZ.below by1
          have BY := BZ.then by1
          have KY := KZ.trans (Kin.of by1)
          obtain ⟨y0, y1, y2, yf, yl⟩ := MY.all
          have MS := meth_swap ⟨mb, 2, none⟩ _ wy y2
          clear q0 q1 q2 qf ql ML MZ
          by_cases hlt : nq Q' c1 < nq Q' i
          · rw [decide_eq_true hlt]
            have HLT := Lib.hid hlt
            clear hlt
            go_wp2_with fail
            refine (SW.out _ RY).mono ?_
            rintro e wx ⟨rfl, RX, bx, kx⟩
            dsimp only
            have BX := BY.trans (Bar.mono bx BY.size)
            have KX := KY.trans kx
            go_wp2_with fail
            go_roundw
            case rel =>
              obtain ⟨j0, j1, j2, j3⟩ := HJ.out
              have nl := HN.out
              have il := HI.out
              refine ⟨c1, swq Q' i c1, by first | rfl | rw [w1] | rw [w2], by omega, by rw [swq_len]; exact HQ.out, RX, DnI.step HU.out (by rw [HQ.out]; exact nl) j1 j0 j2 HLT.out j3, (swq_perm Q' i c1 (by rw [HQ.out]; exact il) (by rw [HQ.out]; omega)).trans HP.out, fun k hk => ?_, BX, KX⟩
              rw [nq_swq _ _ _ _ (by rw [HQ.out]; exact il) (by rw [HQ.out]; omega), if_neg (by omega), if_neg (by omega)]
              exact HT.out k hk
            case measure =>
              obtain ⟨j0, j1, j2, j3⟩ := HJ.out
              have nl := HN.out
              have il := HI.out
              (try rw [w1]); (try rw [w2])
              simp [intOf]; try omega
          · rw [decide_eq_false hlt]
            have HLT := Lib.hid hlt
            clear hlt
            go_wp2_with fail
            exact bodyPost_ret (v := .bool (decide (0 < i))) (by simp [results, Tryz.results136, go_sem]) rfl ⟨⟨_, rfl⟩, Q', HQ.out, RY, DnI.done HU.out (fun k k0 kl ke => by obtain ⟨j0, j1, j2, j3⟩ := HJ.out; have := j3 k k0 kl ke; have := HLT.out; omega), HP.out, HT.out, BY, KY⟩
      · have hjj : 0 < c1 ∧ c1 < n ∧ (c1 - 1) / 2 = i ∧ ∀ k, 0 < k → k < n → (k - 1) / 2 = i → nq Q' c1 ≤ nq Q' k := ⟨by have := HC1.out; omega, h1', by have := HC1.out; omega, fun k k0 kl ke => by
          have a := HC1.out; have b := HC2.out; subst a; subst b
          exact child1 h1' (fun q => absurd q h2) k k0 kl ke⟩
        have RZ := r
        have MZ := MR
        have BZ := hb
        have KZ := hk
        obtain ⟨q0, q1, q2, qf, ql⟩ := MZ.all
        have ML := meth_less ⟨mb, 2, none⟩ _ wr q2
        clear MR
        have HJ := Lib.hid hjj
        have jl : c1 < l := by have := HN.out; omega
        have LE2 := Lib.hid (fun w' r' => less_any g l c Q' c1 i w' r' jl HI.out HL.out)
        have SW := Lib.hid (fun w' r' => swap_any g l c Q' i c1 w' r' HQ.out HI.out jl HL.out)
        clear hjj jl
        go_wp2_with fail
        refine (LE2.out _ RZ).mono ?_
        rintro e wy ⟨rfl, by1⟩
        dsimp only
        have RY := RZ.below by1
        have MY := MZ.below by1
        have BY := BZ.then by1
        have KY := KZ.trans (Kin.of by1)
        obtain ⟨y0, y1, y2, yf, yl⟩ := MY.all
        have MS := meth_swap ⟨mb, 2, none⟩ _ wy y2
        clear q0 q1 q2 qf ql ML MZ
        by_cases hlt : nq Q' c1 < nq Q' i
        · rw [decide_eq_true hlt]
          have HLT := Lib.hid hlt
          clear hlt
          go_wp2_with fail
          refine (SW.out _ RY).mono ?_
          rintro e wx ⟨rfl, RX, bx, kx⟩
          dsimp only
          have BX := BY.trans (Bar.mono bx BY.size)
          have KX := KY.trans kx
          go_wp2_with fail
          go_roundw
          case rel =>
            obtain ⟨j0, j1, j2, j3⟩ := HJ.out
            have nl := HN.out
            have il := HI.out
            refine ⟨c1, swq Q' i c1, by first | rfl | rw [w1] | rw [w2], by omega, by rw [swq_len]; exact HQ.out, RX, DnI.step HU.out (by rw [HQ.out]; exact nl) j1 j0 j2 HLT.out j3, (swq_perm Q' i c1 (by rw [HQ.out]; exact il) (by rw [HQ.out]; omega)).trans HP.out, fun k hk => ?_, BX, KX⟩
            rw [nq_swq _ _ _ _ (by rw [HQ.out]; exact il) (by rw [HQ.out]; omega), if_neg (by omega), if_neg (by omega)]
            exact HT.out k hk
          case measure =>
            obtain ⟨j0, j1, j2, j3⟩ := HJ.out
            have nl := HN.out
            have il := HI.out
            (try rw [w1]); (try rw [w2])
            simp [intOf]; try omega
        · rw [decide_eq_false hlt]
          have HLT := Lib.hid hlt
          clear hlt
          go_wp2_with fail
          exact bodyPost_ret (v := .bool (decide (0 < i))) (by simp [results, Tryz.results136, go_sem]) rfl ⟨⟨_, rfl⟩, Q', HQ.out, RY, DnI.done HU.out (fun k k0 kl ke => by obtain ⟨j0, j1, j2, j3⟩ := HJ.out; have := j3 k k0 kl ke; have := HLT.out; omega), HP.out, HT.out, BY, KY⟩

end Go.Proofs.YtppmicepkjhfeaaGreat
/-! ## Package mem's numbers: Push, Pop; container/heap.Push, Pop. -/
namespace Go.Proofs.YtppmicepkjhfeaaGreat
open Go.RowKit
set_option linter.unusedVariables false

/-- A list of the call's own, in a block of B, or nil. -/
def ZQ (w : World) (B : Nat → Prop) (t : TypeId) (v : Value) (n : Nat) (f : Nat → Value) : Prop :=
  (v = .slice none 0 0 ∧ n = 0) ∨ ∃ g c, v = .slice (some ⟨g, 0, none⟩) n c ∧ n ≤ c ∧ c ≤ maxLen ∧ B g ∧ Row w g n f ∧ Cells w g t c
theorem push1 {P : Program} (W : World) (B : Nat → Prop) (t ts ty : TypeId) (i : TypeInfo) (z : Value) (bytes : Nat) (ht : P.underlying ts = some (.slice t)) (hi : P.info? t = some i) (hz : i.zero = some z) (h1 : i.size = 1) (hb : i.bytes = bytes) (hzs : z.cells.size = 1) (hbb : bytes ≤ 1000)
    (v : Value) (n : Nat) (f : Nat → Value) (h : ZQ W B t v n f) (b : Nat) (x : Value) (hx : W.cell? ⟨b, 0, none⟩ = some x) (hxo : x.oneCell' = true) (hn : n ≤ 1000000) :
    ∃ g c w', (Builtin.append_ #[ts, ts] ty #[v, .slice (some ⟨b, 0, none⟩) 1 1]).run P W = .ok (.slice (some ⟨g, 0, none⟩) (n + 1) c) w' ∧ n + 1 ≤ c ∧ c ≤ maxLen ∧ (B g ∨ W.heap.size ≤ g) ∧ Row w' g (n + 1) (fun j => if j < n then f j else x) ∧ Cells w' g t c ∧ Keeps B W w' := by
  have news : ∀ j u, ([x] : List Value)[j]? = some u → W.cell? ((⟨b, 0, none⟩ : Addr).add j) = some u := fun j u hu => by
    match j, hu with
    | 0, hu =>
      simp at hu
      subst hu
      rw [add_at]; exact hx
  have own : W.ownsRow 0 t 1 v n ((List.range (n * 1)).map f) := by
    rcases h with ⟨rfl, rfl⟩ | ⟨g, c, rfl, hc, hcm, _, r, ce⟩
    · exact ⟨by simp, .inl ⟨rfl, rfl⟩⟩
    · exact own_of_row (size := 1) (by rw [Nat.mul_one]; exact ce) (by rw [Nat.mul_one]; exact r) hc hcm (Nat.zero_le _)
  have hlm : (n + 1) * bytes ≤ 140737488355328 := by
    have : (n + 1) * bytes ≤ 1000001 * 1000 := Nat.mul_le_mul (by omega) hbb
    omega
  obtain ⟨g, c, w', hr, own', grow, lies, lt⟩ := run_append_lies (P := P) W ts ty 0 t i z 1 bytes ht hi hz h1 hb hzs (by decide) v n _ own ⟨b, 0, none⟩ 1 1 [x] rfl news (fun u hu => by simp at hu; subst hu; exact hxo) (by decide) (by unfold maxLen; omega) hlm (Nat.zero_le _) _ rfl
  obtain ⟨g', c', eg, hc', _, R, hm', ce'⟩ := Row.of_ownsG (f := fun j => if j < n then f j else x) own' (fun e => by cases e) (fun j hj => by
    by_cases q : j < n
    · rw [List.getElem?_append_left (by simpa using q), if_pos q]; simp [q]
    · have e : j = n := by omega
      subst e
      rw [List.getElem?_append_right (by simp), if_neg (by omega)]; simp)
  injection eg with eg1 eg2 eg3
  injection eg1 with eg1
  injection eg1 with eg1
  subst eg1; subst eg3
  rw [Nat.mul_one] at R ce'
  refine ⟨g, c, w', hr, hc', hm', ?_, R, ce', ⟨grow.os, grow.tape, grow.output, grow.size, fun k hk hB => grow.block k hk ?_⟩⟩
  · rcases h with ⟨rfl, rfl⟩ | ⟨g0, c0, rfl, _, _, hB, _, _⟩
    · rcases lies with e | e
      · cases e
      · exact .inr (by omega)
    · rcases lies with e | e
      · injection e with e; subst e; exact .inl hB
      · exact .inr (by omega)
  · rcases h with ⟨rfl, rfl⟩ | ⟨g0, c0, rfl, _, _, hB0, _, _⟩
    · intro e; cases e
    · intro e
      have : k = g0 := Option.some.inj e
      exact hB (this ▸ hB0)

set_option maxRecDepth 100000 in
theorem npop_any (mb mm g m c : Nat) (sv : Value) (Q : List Nat) (w : World) (hm : WRw w mb mm sv (.slice (some ⟨g, 0, none⟩) (m + 1) c)) (r : Row w g (m + 1) (nqv Q)) (hc : m + 1 ≤ c) (hcm : c ≤ maxLen) (hl : m + 1 ≤ 1000000) :
    Calls Tryz.prog 160 #[.pointer (some ⟨mb, 2, none⟩)] w fun e w' => e = .returned (.iface 3 (.int .i64 ((nq Q m : Nat) : Int))) ∧ w' = w.setCell ⟨mb, 2, none⟩ (.slice (some ⟨g, 0, none⟩) m c) := by
  obtain ⟨m0, m1, m2, mf, ml⟩ := hm.all
  have c0 := r.cell m (by omega)
  unfold nqv at c0
  obtain ⟨n, hn⟩ : ∃ n, n = m + 1 := ⟨_, rfl⟩
  rw [← hn] at m2 hc hl
  have i0 : (n : Int) - 1 = (m : Int) := by omega
  have i1 : wrap64 (m : Int) = (m : Int) := by unfold wrap64; omega
  have i2 : m < n := by omega
  have i3 : m ≤ c := by omega
  have i4 : (m : Int) ≤ (c : Int) := by omega
  have i5 : (m : Int) < (n : Int) := by omega
  unfold maxLen at hcm
  generalize nq Q m = x at *
  clear hn r hm
  go_enter Tryz.func160, Tryz.ntmps160
  go_wp2_with fail
  go_ret
  exact ⟨rfl, rfl⟩

theorem ZQ.below {w w' : World} {B : Nat → Prop} {t : TypeId} {v : Value} {n : Nat} {f : Nat → Value} (h : ZQ w B t v n f) (k : Below w.heap.size w w') : ZQ w' B t v n f := by
  rcases h with h | ⟨g, c, e, hc, hcm, hB, r, ce⟩
  · exact .inl h
  · exact .inr ⟨g, c, e, hc, hcm, hB, r.below k, ce.below k⟩
theorem Keeps.set {F : Nat → Prop} (w : World) (o i : Nat) (v : Value) (h : F o) : Keeps F w (w.setCell ⟨o, i, none⟩ v) :=
  ⟨rfl, rfl, rfl, by simp [World.setCell], fun k _ hk => Below.heap_setCell _ _ _ _ (fun e => hk (e ▸ h))⟩
theorem Keeps.bar {F : Nat → Prop} {g : Nat} {w w' : World} (h : Bar g w.heap.size w w') (hF : F g) : Keeps F w w' :=
  ⟨h.os, h.tape, h.output, h.size, fun k hk hn => h.block k hk (fun e => hn (e ▸ hF))⟩
theorem Row.less {w : World} {g n m : Nat} {f : Nat → Value} (h : Row w g n f) (hm : m ≤ n) : Row w g m f := ⟨h.lt, fun j hj => h.cell j (by omega), h.free⟩
theorem nqv_more (Q : List Nat) (x j : Nat) (hj : j < Q.length + 1) : (if j < Q.length then nqv Q j else .int .i64 (x : Int)) = nqv (Q ++ [x]) j := by
  unfold nqv
  by_cases h : j < Q.length
  · rw [if_pos h, nq_app _ _ _ h]
  · have e : j = Q.length := by omega
    subst e
    rw [if_neg h, nq_last]
theorem infoI : (Tryz.prog.info? 3).map (fun i => (i.zero, i.size, i.bytes)) = some (some (.int .i64 0), 1, 8) := by kernel_rfl
theorem run_as (x : Int) (w : World) : (Instr.typeAssert (.iface 3 (.int .i64 x)) 20 3 false).run Tryz.prog w = .ok (.int .i64 x) w := by kernel_rfl
set_option maxRecDepth 100000 in
set_option maxHeartbeats 1000000 in
theorem hpop_any (mb mm g m c : Nat) (sv : Value) (Q : List Nat) (w : World) (n : Nat) (hn : n = m + 1) (hm : WRw w mb mm sv (.slice (some ⟨g, 0, none⟩) n c)) (hg : mb ≠ g) (r : Row w g n (nqv Q)) (ce : Cells w g 3 c) (hQ : Q.length = n) (hc : n ≤ c) (hcm : c ≤ maxLen) (hl : n ≤ 900000) (hh : HeapN Q Q.length) :
    Calls Tryz.prog 129 #[.iface 166 (.pointer (some ⟨mb, 2, none⟩))] w fun e w' => e = .returned (.iface 3 (.int .i64 ((nq Q 0 : Nat) : Int))) ∧
      ∃ Q', Q'.length = m ∧ WRw w' mb mm sv (.slice (some ⟨g, 0, none⟩) m c) ∧ Row w' g m (nqv Q') ∧ Cells w' g 3 c ∧ HeapN Q' m ∧ (nq Q 0 :: Q').Perm Q ∧ Keeps (fun j => j = g ∨ j = mb) w w' := by
  have HN := Lib.hid hn
  have HL := Lib.hid hl
  have HC := Lib.hid hc
  have HCM := Lib.hid hcm
  have HG := Lib.hid hg
  obtain ⟨m0, m1, m2, mf, ml⟩ := hm.all
  have LE := Lib.hid (fun w' => len_any (some ⟨g, 0, none⟩) n c (by omega) w')
  have SW := Lib.hid (fun w' r' => swap_any g n c Q 0 m w' r' hQ (by omega) (by omega) (by omega))
  have S0 := HeapN.first hh (show Q.length = m + 1 by omega)
  have SL := swq_len Q 0 m
  have DN := Lib.hid (fun w' (h : WRw w' mb mm sv (.slice (some ⟨g, 0, none⟩) n c)) r' => down_any mb mm g n c sv (swq Q 0 m) m w' h hg r' (by rw [SL]; exact hQ) (by omega) (by omega) S0 (by omega))
  have PM := Lib.hid (swq_perm Q 0 m (by omega) (by omega))
  have NM := Lib.hid (show nq (swq Q 0 m) m = nq Q 0 by rw [nq_swq _ _ _ _ (by omega) (by omega), if_pos rfl])
  have ML := meth_len ⟨mb, 2, none⟩ _ w m2
  have MS := meth_swap ⟨mb, 2, none⟩ _ w m2
  have e0 : (n : Int) - 1 = (m : Int) := by omega
  have wk : wrap64 (m : Int) = (m : Int) := by unfold wrap64; omega
  have HM := Lib.hid hm
  have CE := Lib.hid ce
  clear hn hl hc hcm hQ S0 SL hh hm ce hg
  go_enter Tryz.func129, Tryz.ntmps129
  go_wp2_with fail
  with_reducible refine (LE.out _).mono ?_
  rintro e w1 ⟨rfl, rfl⟩
  dsimp only
  go_wp2_with fail
  refine (SW.out _ r).mono ?_
  rintro e w2 ⟨rfl, R2, B2, K2⟩
  dsimp only
  have M2 := HM.out.bar B2 HG.out
  go_wp2_with fail
  with_reducible refine (DN.out _ M2 R2).mono ?_
  rintro e w3 ⟨⟨b, rfl⟩, Q', ln', R3, H3, P3, T3, B3, K3⟩
  dsimp only
  have M3 := M2.bar B3 HG.out
  have B3' := B2.trans (Bar.mono B3 B2.size)
  have K3' := K2.trans K3
  have MP := meth_pop ⟨mb, 2, none⟩ w3
  have PO := Lib.hid (npop_any mb mm g m c sv Q' w3 (by rw [← HN.out]; exact M3) (by rw [← HN.out]; exact R3) (by rw [← HN.out]; exact HC.out) HCM.out (by rw [← HN.out]; have := HL.out; omega))
  rw [T3 m (Nat.le_refl _), NM.out] at PO
  clear m0 m1 m2 mf ml ML MS
  go_wp2_with fail
  with_reducible refine PO.out.mono ?_
  rintro e w4 ⟨rfl, rfl⟩
  dsimp only
  go_wp2_with fail
  go_ret
  have tk := take_last Q' m (by rw [ln']; exact HN.out)
  have lm : (Q'.take m).length = m := by rw [List.length_take, ln', HN.out]; omega
  rw [T3 m (Nat.le_refl _), NM.out] at tk
  refine ⟨rfl, Q'.take m, lm, M3.setQ _, ?_, (K3' _ _ CE.out).set mb 2 _, ?_, ?_, ?_⟩
  · refine (Row.far (Row.less R3 (by rw [HN.out]; omega)) _ HG.out).congr fun j hj => ?_
    unfold nqv; rw [nq_take _ _ _ hj]
  · have := HeapN.take H3 (by rw [ln', HN.out]; omega)
    rw [lm] at this; exact this
  · refine (List.perm_append_comm (l₁ := [nq Q 0]) (l₂ := Q'.take m)).trans ?_
    rw [tk]; exact P3.trans PM.out
  · exact (Keeps.bar B3' (F := fun j => j = g ∨ j = mb) (.inl rfl)).trans (Keeps.set _ mb 2 _ (.inr rfl)) (fun j _ h => h)

end Go.Proofs.YtppmicepkjhfeaaGreat

