/-
  The contract of haymowref03.List.
-/
import Derived.Test.YthjobjfnakfliaaList
namespace Go.Proofs.Ythjobjfnakfliaa
open Go.RowKit
set_option linter.unusedVariables false
attribute [local irreducible] itext

theorem str_app (a b : List Int) : strOfNums a ++ strOfNums b = strOfNums (a ++ b) := by
  apply ByteArray.ext
  simp [strOfNums]
theorem str_app32 (a : List Int) : strOfNums a ++ (⟨#[32]⟩ : ByteArray) = strOfNums (a ++ [32]) := str_app a [32]

set_option maxHeartbeats 1000000 in
set_option maxRecDepth 100000 in
theorem reflist_any (v : Value) (zs : List Int) (w : World) (hv : ZList w v zs) (hn : zs.length ≤ 100) (hz : ∀ z ∈ zs, WholeN z) :
    Calls Try.prog 14 #[v] w fun e w' => e = .returned (.string (strOfNums (ltext zs))) ∧ Below w.heap.size w w' := by
  obtain ⟨a, cap, rfl, hc⟩ := hv
  obtain ⟨n, hln⟩ : ∃ n, zs.length = n := ⟨_, rfl⟩
  have HZ := Lib.hid hz
  have LT := Lib.hid (show ltext zs = ltake zs n by unfold ltext; rw [hln])
  have HLN := Lib.hid hln
  rw [hln] at hc hn ⊢
  clear hz hln
  go_enter Try.func14, Try.ntmps14
  go_wp2_with fail
  go_loopw [3, 4] (fun s i wr => ∃ k : Nat, k ≤ n ∧ i = .int .i64 (k : Int) ∧ s = .string (strOfNums (ltake zs k)) ∧ Below w.heap.size w wr) (fun _ i _ => n - (intOf i).toNat)
  case atStart => exact ⟨0, by omega, rfl, by unfold ltake; rfl, (by repeat (first | exact Below.refl _ _ | (with_reducible assumption) | refine bAlloc ?_ _ | refine below_drewN ?_ _ | refine Below.drew ?_ | (refine bSet ?_ (by first | (dsimp only; omega) | (simp; done) | (simp; omega)) _) | refine bTrans ?_ (by assumption)))⟩
  case round =>
    obtain ⟨k, hk, rfl, rfl, bel⟩ := hrel
    have ll := ltake_len zs k
    by_cases hlt : k < n
    · obtain ⟨g, off, rfl, hg, hcs⟩ := hc.resolve_left (by omega)
      have q0 : wr.cell? ⟨g, off + k, none⟩ = some (.int .i64 (zs.getD k 0)) := (bel.cell (p := ⟨g, off + k, none⟩) hg).trans (hcs k hlt)
      have hw : Whole (zs.getD k 0) := by
        have hk2 : k < zs.length := by rw [HLN.out]; exact hlt
        have h := HZ.out zs[k] (List.getElem_mem hk2)
        have e : zs.getD k 0 = zs[k] := by simp [List.getD, List.getElem?_eq_getElem hk2]
        rw [e]; exact h
      have TX := Lib.hid (fun w => reftext_any _ hw w)
      have il := itext_len (zs.getD k 0)
      have ls : ltake zs (k + 1) = (ltake zs k ++ (if k = 0 then [] else [32])) ++ itext (zs.getD k 0) := by unfold ltake; rw [ltake.eq_def]
      have LS := Lib.hid ls
      clear ls hc hcs hw
      generalize ltake zs k = t at *
      generalize zs.getD k 0 = z at *
      generalize itext z = m at *
      have z1 : (strOfNums t).size ≤ 2100 := by rw [strOfNums_size]; omega
      have z2 : (strOfNums m).size ≤ 20 := by rw [strOfNums_size]; omega
      by_cases h0 : k = 0
      · have h1 : ¬ (0 : Int) < (k : Int) := by omega
        have h2 : ¬ 0 < k := by omega
        have H0 := Lib.hid h0
        clear h0
        go_wp2_with (go_at_call 10; refine (TX.out _).mono ?_; rintro e w1 ⟨rfl, hb1⟩)
        have b1 : Below w.heap.size w w1 := bTrans bel hb1
        go_roundw
        case rel => exact ⟨k + 1, by omega, by go_num, by rw [LS.out, if_pos H0.out, List.append_nil, str_app], b1⟩
        case measure => simp [intOf]; try omega
      · have h1 : (0 : Int) < (k : Int) := by omega
        have z3 : (strOfNums t ++ (⟨#[32]⟩ : ByteArray)).size ≤ 2101 := by rw [str_app32, strOfNums_size]; simp; omega
        go_wp2_with (go_at_call 10; refine (TX.out _).mono ?_; rintro e w1 ⟨rfl, hb1⟩)
        have b1 : Below w.heap.size w w1 := bTrans bel hb1
        go_roundw
        case rel => exact ⟨k + 1, by omega, by go_num, by rw [LS.out, if_neg h0, str_app32, str_app], b1⟩
        case measure => simp [intOf]; try omega
    · obtain rfl : k = n := by omega
      go_wp2
      go_ret
      exact ⟨by rw [LT.out]; rfl, bel⟩

end Go.Proofs.Ythjobjfnakfliaa
