/-
  Contracts of package haymowref02: the bits of a word, the word of bits.
-/
import Derived.Test.YtgpligkheipoaaaDoorKit02
import Derived.Test.YtgpligkheipoaaaDoorRow
import Derived.LoopTactic
import Derived.Deep.QuietTactic
import Derived.BigQuiet
import Derived.WalkSmall
import Derived.Laws.Rows
import Derived.Laws.CopyOwn
import Derived.Deep.WholeRow
import Derived.Deep.DeepCutAuto
import Derived.Deep.CutBlock
namespace Go.Proofs.YtgpligkheipoaaaDoor
open Go.RowKit
set_option linter.unusedVariables false

/-- 64 bits as the program has them -/
def brow (f : Nat → Bool) : Array Value := Array.ofFn (n := 64) fun i => .bool (f i)
theorem brow_size (f : Nat → Bool) : (brow f).size = 64 := by unfold brow; simp
theorem brow_get (f : Nat → Bool) (j : Nat) (h : j < 64) : (brow f)[j]? = some (.bool (f j)) := by unfold brow; simp [h]
theorem brow_one (f : Nat → Bool) : (brow f).all (·.oneCell') = true := by
  unfold brow; rw [Array.all_eq_true]; intro i h; simp [Value.oneCell']
theorem brow_set (f : Nat → Bool) (k : Nat) (hk : k < 64) (b : Bool) : (brow f).setIfInBounds k (.bool b) = brow (fun j => if j = k then b else f j) := by
  apply Array.ext_getElem?
  intro i
  rw [Array.getElem?_setIfInBounds]
  by_cases c : i < 64
  · rw [brow_get _ i c, brow_get _ i c]
    by_cases e : k = i
    · subst e; simp [brow_size, hk]
    · simp [e, show ¬ i = k by omega]
  · have h1 : (brow f)[i]? = none := Array.getElem?_eq_none (by rw [brow_size]; omega)
    have h2 : (brow (fun j => if j = k then b else f j))[i]? = none := Array.getElem?_eq_none (by rw [brow_size]; omega)
    rw [h1, h2, if_neg (by omega)]
theorem brow_congr {f g : Nat → Bool} (h : ∀ j, j < 64 → f j = g j) : brow f = brow g := by
  apply Array.ext_getElem?
  intro i
  by_cases c : i < 64
  · rw [brow_get _ i c, brow_get _ i c, h i c]
  · rw [Array.getElem?_eq_none (by rw [brow_size]; omega), Array.getElem?_eq_none (by rw [brow_size]; omega)]
attribute [irreducible] brow

/-- Block g holds 64 bits. -/
def BRow (w : World) (g : Nat) (f : Nat → Bool) : Prop := w.heap[g]? = some (.cells (brow f) 55 (0, 0))
theorem BRow.lt {w : World} {g : Nat} {f : Nat → Bool} (h : BRow w g f) : g < w.heap.size := (Array.getElem?_eq_some_iff.1 h).1
theorem BRow.cell {w : World} {g : Nat} {f : Nat → Bool} (h : BRow w g f) (j : Nat) (hj : j < 64) : w.cell? ⟨g, j, none⟩ = some (.bool (f j)) := by
  rw [cell_of_row w g j _ _ _ h]; exact brow_get f j hj
theorem BRow.free {w : World} {g : Nat} {f : Nat → Bool} (h : BRow w g f) (j : Nat) : w.frozen? ⟨g, j, none⟩ = false := frozen_of_row w g j _ _ h
theorem BRow.congr {w : World} {g : Nat} {f f' : Nat → Bool} (h : BRow w g f) (e : ∀ j, j < 64 → f j = f' j) : BRow w g f' := by
  unfold BRow; rw [← brow_congr e]; exact h
theorem BRow.below {w w' : World} {g : Nat} {f : Nat → Bool} (h : BRow w g f) (b : Below w.heap.size w w') : BRow w' g f := (b.block g h.lt).trans h
theorem BRow.alloc {w : World} {g : Nat} {f : Nat → Bool} (h : BRow w g f) (o : Obj) : BRow (w.alloc o) g f := h.below ((Below.refl _ _).alloc (Nat.le_refl _) o)
theorem BRow.drewN {w : World} {g : Nat} {f : Nat → Bool} (h : BRow w g f) (k : Nat) : BRow (w.drewN k) g f := h
theorem BRow.drew {w : World} {g : Nat} {f : Nat → Bool} (h : BRow w g f) : BRow w.drew g f := h
theorem BRow.new (w : World) (f : Nat → Bool) : BRow (w.alloc (.cells (brow f) 55)) w.heap.size f := heap_alloc_new w _
theorem BRow.set {w : World} {g : Nat} {f : Nat → Bool} (h : BRow w g f) (k : Nat) (hk : k < 64) (b : Bool) : BRow (w.setCell ⟨g, k, none⟩ (.bool b)) g (fun j => if j = k then b else f j) := by
  unfold BRow; rw [heap_setCell_same w g k _ _ _ h, brow_set f k hk b]
theorem BRow.far {w : World} {g : Nat} {f : Nat → Bool} (h : BRow w g f) (p : Addr) (v : Value) (hp : p.block ≠ g) : BRow (w.setCell p v) g f :=
  (heap_setCell_other w p g v (fun e => hp e.symm)).trans h
theorem info64 : (Tryd.prog.info? 55).map (·.size) = some 64 := by kernel_rfl
theorem info_brow (f : Nat → Bool) : (Tryd.prog.info? 55).map (·.size) = some (brow f).size := by rw [brow_size]; exact info64
theorem half_bool (q : Nat) : (((q : Nat) : Int) % 2 == 1) = decide (q % 2 = 1) := by rw [Bool.eq_iff_iff]; simp; omega
theorem zeros_lit : (#[.bool false, .bool false, .bool false, .bool false, .bool false, .bool false, .bool false, .bool false, .bool false, .bool false, .bool false, .bool false, .bool false, .bool false, .bool false, .bool false,
  .bool false, .bool false, .bool false, .bool false, .bool false, .bool false, .bool false, .bool false, .bool false, .bool false, .bool false, .bool false, .bool false, .bool false, .bool false, .bool false,
  .bool false, .bool false, .bool false, .bool false, .bool false, .bool false, .bool false, .bool false, .bool false, .bool false, .bool false, .bool false, .bool false, .bool false, .bool false, .bool false,
  .bool false, .bool false, .bool false, .bool false, .bool false, .bool false, .bool false, .bool false, .bool false, .bool false, .bool false, .bool false, .bool false, .bool false, .bool false, .bool false] : Array Value) = brow fun _ => false := by
  unfold brow; kernel_rfl

set_option maxRecDepth 100000 in
theorem bits_any (x : Nat) (hx : x < 18446744073709551616) (w : World) : Calls Tryd.prog 24 #[.int .u64 (x : Int)] w fun e w' => e = .returned (.agg (brow x.testBit)) ∧ Below w.heap.size w w' := by
  go_enter Tryd.func24, Tryd.ntmps24
  go_wp2_with fail
  simp only [zeros_lit]
  go_loopw [0, 4] (fun xv i wr => ∃ k : Nat, k ≤ 64 ∧ i = .int .i64 (k : Int) ∧ xv = .int .u64 ((x / 2 ^ k : Nat) : Int) ∧ BRow wr (w.heap.size + 1) (fun j => decide (j < k) && x.testBit j) ∧ BRow wr w.heap.size (fun _ => false) ∧ Below w.heap.size w wr) (fun _ i _ => 64 - (intOf i).toNat)
  case atStart =>
    refine ⟨0, by omega, rfl, by simp, ?_, (BRow.new _ _).alloc _, bAlloc (bAlloc (Below.refl _ _) _) _⟩
    have h := BRow.new (w.alloc (.cells (brow fun _ => false) 55)) (fun _ => false)
    rw [World.size_alloc] at h
    exact h.congr (fun j _ => by simp)
  case round =>
    obtain ⟨k, hk, rfl, rfl, ho, hr, hbel⟩ := hrel
    by_cases hlt : k < 64
    · have hb : (((x / 2 ^ k : Nat) : Int) % 2 == 1) = x.testBit k := by
        rw [testBit_step]; exact half_bool _
      have hs := Lib.hid (half_step x k)
      have hc := ho.cell k hlt
      have hf := ho.free k
      obtain ⟨q, hq⟩ : ∃ q, x / 2 ^ k = q := ⟨_, rfl⟩
      have hq1 : q < 18446744073709551616 := by rw [← hq]; exact Nat.lt_of_le_of_lt (Nat.div_le_self _ _) hx
      have HQ := Lib.hid hq
      rw [hq] at hb ⊢
      clear hq
      go_wp2
      go_roundw
      case rel =>
        refine ⟨k + 1, by omega, by go_num, by rw [← hs.out, HQ.out]; go_num, ?_, hr.far _ _ (by simp), bSet hbel (by simp) _⟩
        exact (ho.set k hlt _).congr (fun j hj => by
          by_cases e : j = k
          · subst e; simp
          · simp only [if_neg e, show (j < k + 1) = (j < k) from propext ⟨by omega, by omega⟩])
      case measure => simp [intOf]; try omega
    · obtain rfl : k = 64 := by omega
      have ho' : BRow wr (w.heap.size + 1) x.testBit := ho.congr (fun j hj => by simp [hj])
      clear ho
      go_wp2_with (first
        | refine wpList_load_row rfl 55 (.tmp 3) rfl (w.heap.size + 1) rfl _ _ _ _ ho' Tryd.underlying55 rfl (info_brow _) ?_
        | refine wpList_store_row rfl 55 (.tmp 2) (.tmp 16) rfl w.heap.size (brow x.testBit) rfl rfl _ _ hr (info_brow _) (by rw [brow_size, brow_size]) (brow_one _) ?_)
      refine bodyPost_ret (results_cell_row rfl _ _ w.heap.size 55 (brow x.testBit) (0, 0) _ rfl (setRow_heap wr w.heap.size _ _ _ _ hr) Tryd.underlying55 rfl (info_brow _)) rfl ⟨rfl, below_setRow hbel (Nat.le_refl _) _⟩

set_option maxRecDepth 100000 in
theorem word_any (f : Nat → Bool) (w : World) : Calls Tryd.prog 25 #[.agg (brow f)] w fun e w' => e = .returned (.int .u64 (wordOf f : Int)) ∧ w.alloc (.cells (brow f) 55) = w' := by
  have ho := BRow.new w f
  go_enter Tryd.func25, Tryd.ntmps25
  go_wp2_with fail
  go_loop [3, 4] (fun xv i => ∃ k : Nat, k ≤ 64 ∧ i = .int .i64 ((64 - k : Nat) - 1 : Int) ∧ xv = .int .u64 (wordFrom f (64 - k) k : Int)) (fun _ i => (intOf i + 1).toNat)
  case atStart => exact ⟨0, by omega, rfl, by rw [wordFrom_0]; rfl⟩
  case round =>
    obtain ⟨k, hk, rfl, rfl⟩ := hrel
    by_cases hlt : k < 64
    · obtain ⟨i, hi⟩ : ∃ i, 64 - k = i + 1 := ⟨63 - k, by omega⟩
      have hs := wordFrom_succ f i k
      have hl := wordFrom_lt f k (i + 1)
      have hlt2 : wordFrom f (i + 1) k < 9223372036854775808 := Nat.lt_of_lt_of_le hl (Nat.pow_le_pow_right (n := 2) (by decide) (show k ≤ 63 by omega))
      have hc := ho.cell i (by omega)
      have hi64 : i < 64 := by omega
      have HI := Lib.hid hi
      have HS := Lib.hid hs
      rw [hi, show (((i + 1 : Nat) : Int) - 1) = (i : Int) by omega]
      clear hi hs hl ho
      generalize wordFrom f (i + 1) k = q at *
      cases hb : f i
      all_goals
        rw [hb] at hc HS
        clear hb
        go_wp2
        go_round
        case rel =>
          have e2 := HI.out
          refine ⟨k + 1, by omega, by rw [show 64 - (k + 1) = i by omega], ?_⟩
          rw [show 64 - (k + 1) = i by omega, HS.out]; simp; omega
        case measure => simp [intOf]; try omega
    · obtain rfl : k = 64 := by omega
      rw [show 64 - 64 = 0 from rfl, show ((0 : Nat) : Int) - 1 = -1 from rfl]
      go_wp2
      go_ret
      exact ⟨by unfold wordOf; rfl, rfl⟩

end Go.Proofs.YtgpligkheipoaaaDoor
