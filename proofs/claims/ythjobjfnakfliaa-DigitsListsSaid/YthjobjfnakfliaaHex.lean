/-
  The contract of digits.Hex.
-/
import Derived.Test.YthjobjfnakfliaaKit03
namespace Go.Proofs.Ythjobjfnakfliaa
open Go.RowKit
set_option linter.unusedVariables false

def figs : ByteArray := ⟨#[48, 49, 50, 51, 52, 53, 54, 55, 56, 57, 97, 98, 99, 100, 101, 102]⟩
theorem figs_at (d : Nat) (h : d < figs.size) : (figs[d].toNat : Int) = hexd d := by
  have h2 : d < 16 := h
  have k : ∀ d : Fin 16, ((figs[d.val]'d.isLt).toNat : Int) = hexd d.val := by decide +kernel
  exact k ⟨d, h2⟩

theorem slice16 (g : Nat) (w : World) : (Instr.sliceAt 65 (.pointer (some ⟨g, 0, none⟩)) none none none).run Try.prog w = .ok (.slice (some ⟨g, 0, none⟩) 16 16) w := by
  have hl : Try.prog.arrayLen 65 = 16 := by kernel_rfl
  rw [run_sliceAt_array_all w 65 _ (by kernel_rfl), hl]
  simp [go_sem, slicedAt, Addr.add]
theorem conv16 (g : Nat) (s : List Int) (W : World) (h : Row W g 16 (drow 0 s)) (hl : s.length = 16) : (convert 49 9 (.slice (some ⟨g, 0, none⟩) 16 16)).run Try.prog W = .ok (.string (strOfNums s)) W := by
  refine run_convert_bytes_arg W 49 5 Try.underlying49 Try.underlying5 g 0 16 16 s (by omega) (fun i hi => ?_) 9 Try.underlying9
  rw [h.cell (0 + i) (by omega)]
  unfold drow
  simp

structure HInv (x : Nat) (w : World) (k y f : Nat) (s : List Int) (wr : World) : Prop where
  len : f + k = 16
  sl : s.length = k
  lt : y < 18446744073709551616
  eq : htext x = htextF f y ++ s
  row : Row wr w.heap.size 16 (drow f s)
  bel : Below w.heap.size w wr

set_option maxHeartbeats 600000 in
set_option maxRecDepth 100000 in
theorem hex_any (x : Nat) (hx : x < 18446744073709551616) (w : World) : Calls Try.prog 16 #[.int .u64 (x : Int)] w fun e w' => e = .returned (.string (strOfNums (htext x))) ∧ Below w.heap.size w w' := by
  have HX := Lib.hid hx
  clear hx
  go_enter Try.func16, Try.ntmps16
  go_wp2
  go_loopw [0, 4, 5] (fun z _ i wr => ∃ (k y f : Nat) (s : List Int), i = .int .i64 (k : Nat) ∧ z = .int .u64 (y : Nat) ∧ HInv x w k y f s wr) (fun _ _ i _ => (16 - intOf i).toNat)
  case atStart =>
    refine ⟨0, x, 16, [], rfl, rfl, rfl, rfl, HX.out, by simp [htext], ?_, (by repeat (first | exact Below.refl _ _ | (with_reducible assumption) | refine bAlloc ?_ _ | refine below_drewN ?_ _ | refine Below.drew ?_ | (refine bSet ?_ (by first | (dsimp only; omega) | (simp; done) | (simp; omega)) _) | refine bTrans ?_ (by assumption)))⟩
    refine Row.new _ _ _ 16 _ fun j hj => ?_
    change (Array.replicate 16 (Value.int .u8 0))[j]? = _
    simp [hj, drow]
  case round =>
    obtain ⟨k, y, f, s, rfl, rfl, I⟩ := hrel
    have lenI := I.len
    by_cases hk : k < 16
    · obtain ⟨f, rfl⟩ : ∃ g, f = g + 1 := ⟨f - 1, by omega⟩
      have em : (y : Int) % 16 = ((y % 16 : Nat) : Int) := by omega
      have eq : (y : Int) / 16 = ((y / 16 : Nat) : Int) := by omega
      have fk : 15 - (k : Int) = (f : Int) := by omega
      have dl : y % 16 < 16 := by omega
      have nx := htext_step I.eq
      have ly : y / 16 < 18446744073709551616 := by have := I.lt; omega
      have fa := figs_at (y % 16) dl
      generalize y % 16 = d at *
      generalize y / 16 = q at *
      have NX := Lib.hid nx
      have hf : f < 16 := by omega
      have R := I.row
      have x0 := R.cell f (by omega); have x1 := R.free f; have x2 := R.lt
      have bel := I.bel
      have sl := Lib.hid I.sl
      clear I nx
      go_wp2
      go_roundw
      case rel =>
        exact ⟨k + 1, q, f, hexd d :: s, by go_num, rfl, by omega, by simp [sl.out], ly, NX.out, (R.set f (by omega) _).congr (fun j _ => (congrArg (fun z => if j = f then Value.int .u8 z else drow (f + 1) s j) fa).trans (drow_cons f s (hexd d) j)), (by repeat (first | exact Below.refl _ _ | (with_reducible assumption) | refine bAlloc ?_ _ | refine below_drewN ?_ _ | refine Below.drew ?_ | (refine bSet ?_ (by first | (dsimp only; omega) | (simp; done) | (simp; omega)) _) | refine bTrans ?_ (by assumption)))⟩
      case measure => simp [intOf]; omega
    · obtain rfl : k = 16 := by omega
      obtain rfl : f = 0 := by omega
      have sl := slice16 w.heap.size
      have cv := conv16 w.heap.size s wr I.row I.sl
      have fin := I.eq
      have FIN := Lib.hid fin
      have bel := I.bel
      clear I fin
      go_wp2
      go_ret
      exact ⟨by rw [FIN.out]; rfl, (by repeat (first | exact Below.refl _ _ | (with_reducible assumption) | refine bAlloc ?_ _ | refine below_drewN ?_ _ | refine Below.drew ?_ | (refine bSet ?_ (by first | (dsimp only; omega) | (simp; done) | (simp; omega)) _) | refine bTrans ?_ (by assumption)))⟩

end Go.Proofs.Ythjobjfnakfliaa
