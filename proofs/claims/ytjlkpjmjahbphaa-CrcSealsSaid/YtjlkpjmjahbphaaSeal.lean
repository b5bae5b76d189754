/-
  Contracts of crc.seal, slices.Grow, slices.Concat, crc.Seal, bytes.Equal, bytes.Clone, crc.Open.
-/
import Derived.Test.YtjlkpjmjahbphaaMore
import Derived.Test.YtjlkpjmjahbphaaRow
import Derived.Laws.MakeOwn
namespace Go.Proofs.Ytjlkpjmjahbphaa
open Go.RowKit
set_option linter.unusedVariables false

theorem NL.of_row {w : World} {g n cap : Nat} {L : List Nat} (h : Row w g n (fun j => pb (L.getD j 0))) (hl : L.length = n) (hc : n ≤ cap) : NL pb w (.slice (some ⟨g, 0, none⟩) n cap) L := by
  subst hl
  exact ⟨_, _, rfl, hc, (fun h => nomatch h), .inr ⟨g, 0, rfl, h.lt, fun i hi => by rw [Nat.zero_add]; exact h.cell i hi⟩⟩
/-- the sum's bytes, the last k of them laid -/
def slaid (s k j : Nat) : Value := if 8 - k ≤ j then pb (sbyte s j) else pb 0
theorem slaid_0 (s j : Nat) (h : j < 8) : slaid s 0 j = .int .u8 0 := by unfold slaid; rw [if_neg (by omega)]; rfl
theorem slaid_8 (s j : Nat) (h : j < 8) : slaid s 8 j = pb ((sbytes s).getD j 0) := by unfold slaid; rw [if_pos (by omega), sbytes_at s j h]
theorem slaid_succ (s k j : Nat) (h : k < 8) : (if j = 7 - k then pb (sbyte s (7 - k)) else slaid s k j) = slaid s (k + 1) j := by
  unfold slaid
  by_cases c : j = 7 - k
  · subst c; rw [if_pos rfl, if_pos (by omega)]
  · rw [if_neg c]
    have : (8 - k ≤ j) = (8 - (k + 1) ≤ j) := propext ⟨fun _ => by omega, fun _ => by omega⟩
    simp only [this]
theorem sbyte_wrap (s k : Nat) (hk : k < 8) : IntKind.u8.wrap ((s / 2 ^ (8 * k) : Nat) : Int) = ((sbyte s (7 - k) : Nat) : Int) := by
  unfold sbyte
  rw [IntKind.wrap_u8, show 7 - (7 - k) = k by omega]
  generalize s / 2 ^ (8 * k) = x
  omega
theorem shift_8 (s k : Nat) : s / 2 ^ (8 * k) / 256 = s / 2 ^ (8 * (k + 1)) := by
  rw [Nat.div_div_eq_div_mul, show (256 : Nat) = 2 ^ 8 from rfl, ← Nat.pow_add]; rfl
attribute [irreducible] slaid

/-! ### new blocks of noughts -/
def made (v : Value) (n : Nat) : Array Value := (List.replicate n v).toArray
theorem made_get (v : Value) (n j : Nat) (h : j < n) : (made v n)[j]? = some v := by unfold made; simp [h]
theorem made_cells (v : Value) (n : Nat) (hv : v.cells = #[v]) : madeCells v.cells (n * 1) = made v n := by
  unfold madeCells made
  rw [hv]
  apply Array.ext
  · simp
  · intro i h1 h2
    simp [Nat.mod_one]
attribute [irreducible] made
theorem make_bytes8 (w : World) : (Instr.makeSlice 22 (.int .i64 8) (.int .i64 8)).run Try.prog w = .ok (.slice (some ⟨w.heap.size, 0, none⟩) 8 8) (w.alloc (.cells (made (.int .u8 0) 8) 5)) := by
  obtain ⟨i0, hi, hz0, hz1, hz2⟩ := info_parts infoB
  have := run_make (P := Try.prog) w 22 5 i0 (.int .u8 0) Try.underlying22 hi hz0 .i64 .i64 8 8 (by omega) (by omega) (by rw [hz2]; omega) (by omega)
  rw [hz1, show ((8 : Int).toNat) = 8 from rfl, made_cells _ _ rfl] at this
  exact this
theorem make_bools64 (w : World) : (Instr.makeSlice 39 (.int .i64 64) (.int .i64 64)).run Try.prog w = .ok (.slice (some ⟨w.heap.size, 0, none⟩) 64 64) (w.alloc (.cells (made (.bool false) 64) 4)) := by
  obtain ⟨i0, hi, hz0, hz1, hz2⟩ := info_parts infoT
  have := run_make (P := Try.prog) w 39 4 i0 (.bool false) Try.underlying39 hi hz0 .i64 .i64 64 64 (by omega) (by omega) (by rw [hz2]; omega) (by omega)
  rw [hz1, show ((64 : Int).toNat) = 64 from rfl, made_cells _ _ rfl] at this
  exact this

set_option maxHeartbeats 1000000 in
set_option maxRecDepth 100000 in
theorem seal_in (v : Value) (L : List Nat) (hL : Bytes L) (w : World) (hv : NL pb w v L) (hn : L.length ≤ 100000) :
    Calls Try.prog 22 #[v] w (GrewN 8 (sbytes (crc 0 L)) w) := by
  have SM := Lib.hid (sum_any (.slice (some ⟨w.heap.size, 0, none⟩) 1 1) [L] (Parts.one hL hn) (w.alloc (.cells #[v] 22)) (NLL.one hv 22))
  have e : [L].flatten = L := by simp
  rw [e] at SM
  have lt := crc_lt (s := 0) (by decide) L
  generalize crc 0 L = s at *
  obtain ⟨a, cap, rfl⟩ := hv.slice
  clear hv e hL
  have mk := make_bytes8
  go_enter Try.func22, Try.ntmps22
  go_wp2_with (go_at_call 10; refine SM.out.mono ?_; rintro e w1 ⟨rfl, rfl⟩)
  go_loopw [3, 5, 12] (fun z _ i wr => ∃ k : Nat, k ≤ 8 ∧ i = .int .i64 (k : Int) ∧ z = .int .u64 ((s / 2 ^ (8 * k) : Nat) : Int) ∧ Row wr (w.heap.size + 1) 8 (slaid s k) ∧ Below w.heap.size w wr) (fun _ _ i _ => 8 - (intOf i).toNat)
  case atStart => exact ⟨0, by omega, rfl, by simp, Row.newAt _ _ _ _ _ _ (by simp) (fun j hj => by rw [made_get _ _ _ hj, slaid_0 s j hj]), (by repeat (first | exact Below.refl _ _ | (with_reducible assumption) | refine bAlloc ?_ _ | refine below_drewN ?_ _ | refine Below.drew ?_ | (refine bSet ?_ (by first | (dsimp only; omega) | (simp; done) | (simp; omega)) _) | refine bTrans ?_ (by assumption)))⟩
  case round =>
    obtain ⟨k, hk, rfl, rfl, R, bel⟩ := hrel
    by_cases hlt : k < 8
    · have wb := sbyte_wrap s k hlt
      have sh := Lib.hid (shift_8 s k)
      have e7 : (7 : Int) - (k : Int) = ((7 - k : Nat) : Int) := by omega
      have eq : ((s / 2 ^ (8 * k) : Nat) : Int) / 256 = ((s / 2 ^ (8 * k) / 256 : Nat) : Int) := by omega
      have q0 := R.cell (7 - k) (by omega)
      have q1 := R.free (7 - k)
      have l7 : 7 - k < 8 := by omega
      have R2 := Lib.hid ((R.set (7 - k) l7 (pb (sbyte s (7 - k)))).congr (fun j _ => slaid_succ s k j hlt))
      have B2 := Lib.hid (bSet bel (p := ⟨w.heap.size + 1, 7 - k, none⟩) (by simp) (pb (sbyte s (7 - k))))
      unfold pb at R2 B2
      generalize sbyte s (7 - k) = b at *
      rw [sh.out] at eq
      generalize hx : s / 2 ^ (8 * k) = x at *
      generalize hy : s / 2 ^ (8 * (k + 1)) = y at *
      have HY := Lib.hid hy
      clear hx hy sh R bel
      go_wp2_with fail
      go_roundw
      case rel => exact ⟨k + 1, by omega, by go_num, by rw [HY.out], R2.out, B2.out⟩
      case measure => simp [intOf]; omega
    · obtain rfl : k = 8 := by omega
      have R2 := Lib.hid (NL.of_row (cap := 8) (R.congr (fun j hj => slaid_8 s j hj)) (sbytes_len s) (by omega))
      clear R
      go_wp2_with fail
      go_ret
      exact ⟨_, _, rfl, R2.out, bel⟩

end Go.Proofs.Ytjlkpjmjahbphaa
