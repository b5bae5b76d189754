/-
  clear and copy on a row of words, by what they do.
-/
import Derived.Test.YtgnpakpnocbhhaaMem1
import Derived.Test.YtgnpakpnocbhhaaZero08
import Derived.Laws.CopyRow
namespace Go.Proofs.Ytgnpakpnocbhhaa
open Go.RowKit
set_option linter.unusedVariables false

theorem row_splice (w : World) (g n c o : Nat) (t : TypeId) (f : Nat → Value) (vs : List Value) (cur : Array Value) (hg : w.heap[g]? = some (.cells cur t (0, 0))) (hs : cur.size = c) (r : Row w g n f) (hn : n ≤ c) (ho : o + vs.length ≤ n) :
    Row (w.setRow g (cur.toList.take o ++ vs ++ cur.toList.drop (o + vs.length)).toArray) g n (fun j => if o ≤ j ∧ j < o + vs.length then vs.getD (j - o) (.int .u64 0) else f j) ∧ Cells (w.setRow g (cur.toList.take o ++ vs ++ cur.toList.drop (o + vs.length)).toArray) g t c ∧ Bar g w.heap.size w (w.setRow g (cur.toList.take o ++ vs ++ cur.toList.drop (o + vs.length)).toArray) := by
  have hb := setRow_heap w g cur (cur.toList.take o ++ vs ++ cur.toList.drop (o + vs.length)).toArray t (0, 0) hg
  refine ⟨⟨by simpa using r.lt, fun j hj => ?_, fun j => frozen_of_row _ g j _ _ hb⟩, ⟨_, hb, ?_⟩, ⟨rfl, rfl, rfl, by simp, fun k _ hk => ?_⟩⟩
  · rw [cell_of_row _ g j _ _ _ hb]
    have e := r.cell j hj
    rw [cell_of_row w g j _ _ _ hg] at e
    have hjc : j < cur.size := by omega
    have ec : cur.toList[j]? = some (f j) := by simpa using e
    rw [List.getElem?_toArray, List.append_assoc]
    by_cases h1 : j < o
    · rw [List.getElem?_append_left (by simp; omega), List.getElem?_take_of_lt h1, if_neg (by omega)]; exact ec
    · rw [List.getElem?_append_right (by simp; omega)]
      have l1 : (cur.toList.take o).length = o := by simp; omega
      rw [l1]
      by_cases h2 : j < o + vs.length
      · rw [List.getElem?_append_left (by omega), if_pos (by omega)]
        simp [List.getD, List.getElem?_eq_getElem (show j - o < vs.length by omega)]
      · rw [List.getElem?_append_right (by omega), if_neg (by omega), List.getElem?_drop, show o + vs.length + (j - o - vs.length) = j by omega]; exact ec
  · simp; omega
  · unfold World.setRow
    simp only [Array.getElem?_modify]
    rw [if_neg (fun e => hk e.symm)]
theorem wset_getD (ws : List Nat) (d : Nat) (f : Nat → Nat) (t : Nat) (h : d + t ≤ ws.length) (j : Nat) : (wset ws d f t).getD j 0 = if d ≤ j ∧ j < d + t then f (j - d) else ws.getD j 0 := by
  induction t with
  | zero => rw [if_neg (by omega)]; rfl
  | succ t ih =>
    show ((wset ws d f t).set (d + t) (f t)).getD j 0 = _
    by_cases e : j = d + t
    · subst e
      rw [if_pos (by omega), show d + t - d = t by omega]
      simp [List.getD, wset_len, show d + t < ws.length by omega]
    · have : ((wset ws d f t).set (d + t) (f t)).getD j 0 = (wset ws d f t).getD j 0 := by
        simp [List.getD, List.getElem?_set_ne (Ne.symm e)]
      rw [this, ih (by omega)]
      by_cases q : d ≤ j ∧ j < d + t
      · rw [if_pos q, if_pos (by omega)]
      · rw [if_neg q, if_neg (by omega)]
theorem words_splice (w : World) (g c o t : Nat) (ws : List Nat) (F : Nat → Nat) (cur : Array Value) (hg : w.heap[g]? = some (.cells cur 28 (0, 0))) (hs : cur.size = c) (r : Row w g ws.length (fun j => pw (ws.getD j 0))) (hn : ws.length ≤ c) (ho : o + t ≤ ws.length) (vs : List Value) (hv : vs = (List.range t).map (fun j => pw (F j))) :
    ∃ w', w.setRow g (cur.toList.take o ++ vs ++ cur.toList.drop (o + vs.length)).toArray = w' ∧ Row w' g ws.length (fun j => pw ((wset ws o F t).getD j 0)) ∧ Cells w' g 28 c ∧ Bar g w.heap.size w w' := by
  subst hv
  have ln : ((List.range t).map (fun j => pw (F j))).length = t := by simp
  obtain ⟨R, C, B⟩ := row_splice w g ws.length c o 28 _ ((List.range t).map (fun j => pw (F j))) cur hg hs r hn (by rw [ln]; exact ho)
  refine ⟨_, rfl, R.congr fun j hj => ?_, C, B⟩
  rw [wset_getD ws o F t ho j, ln]
  by_cases q : o ≤ j ∧ j < o + t
  · rw [if_pos q, if_pos q]
    simp [List.getD, show j - o < t by omega]
  · rw [if_neg q, if_neg q]
theorem clear_run (w : World) (g c o t cc : Nat) (ty : TypeId) (ws : List Nat) (ce : Cells w g 28 c) (r : Row w g ws.length (fun j => pw (ws.getD j 0))) (hn : ws.length ≤ c) (ho : o + t ≤ ws.length) :
    ∃ w', (Builtin.clear_ #[75] ty #[.slice (some ⟨g, o, none⟩) t cc]).run Try.prog w = .ok (.tuple #[]) w' ∧ Row w' g ws.length (fun j => pw ((wset ws o (fun _ => 0) t).getD j 0)) ∧ Cells w' g 28 c ∧ Bar g w.heap.size w w' := by
  by_cases h0 : t = 0
  · subst h0
    exact ⟨w, by simp [Builtin.clear_, run_underlying Try.underlying75], r, ce, Bar.refl _ _ _⟩
  · obtain ⟨cur, hg, hs⟩ := ce
    have e : (Builtin.zeroCells #[Value.int .u64 0] t).toList = (List.range t).map (fun j => pw 0) := by
      simp [Builtin.zeroCells]
      intro j hj
      simp [Nat.mod_one, pw]
    have ln : ((List.range t).map (fun _ : Nat => pw 0)).length = t := by simp
    have st := run_storeCells_at Try.prog g o 28 ((List.range t).map (fun _ => pw 0)) 0 cur w hg (by rw [ln]; omega) (fun v hv => by simp at hv; rw [← hv.2]; rfl)
    obtain ⟨w', h1, R, C, B⟩ := words_splice w g c o t ws (fun _ => 0) cur hg hs r hn ho _ rfl
    refine ⟨w', ?_, R, C, B⟩
    rw [Nat.add_zero, h1] at st
    obtain ⟨m, rfl⟩ : ∃ m, t = m + 1 := ⟨t - 1, by omega⟩
    have hz : ∀ w, (zeroValue 28).run Try.prog w = .ok (.int .u64 0) w := fun w => by kernel_rfl
    simp [Builtin.clear_, run_underlying Try.underlying75, hz, Value.cells, e, st]
theorem copy_run (w : World) (g c o t cc sc : Nat) (gf i : Nat) (ty : TypeId) (ws : List Nat) (F : Nat → Nat) (ce : Cells w g 28 c) (r : Row w g ws.length (fun j => pw (ws.getD j 0))) (hn : ws.length ≤ c) (ho : o + t ≤ ws.length) (src : ∀ j, j < t → w.cell? ⟨gf, i + j, none⟩ = some (pw (F j))) :
    ∃ w', (Builtin.copy_ #[75, 75] ty #[.slice (some ⟨g, o, none⟩) t cc, .slice (some ⟨gf, i, none⟩) t sc]).run Try.prog w = .ok (goInt t) w' ∧ Row w' g ws.length (fun j => pw ((wset ws o F t).getD j 0)) ∧ Cells w' g 28 c ∧ Bar g w.heap.size w w' := by
  obtain ⟨cur, hg, hs⟩ := ce
  have ln : ((List.range t).map (fun j => pw (F j))).length = t := by simp
  have e := run_copy_row (P := Try.prog) w 75 75 ty 28 g o t cc ⟨gf, i, none⟩ t sc cur 28 ((List.range t).map (fun j => pw (F j))) Try.underlying75 (by kernel_rfl) hg (by rw [ln]; simp) (fun j v hv => by
    have hj : j < t := by
      rcases Nat.lt_or_ge j t with h | h
      · exact h
      · rw [List.getElem?_eq_none (by rw [ln]; exact h)] at hv; cases hv
    simp [hj] at hv
    subst hv
    rw [add_at]; exact src j hj) (by rw [ln]; omega) (fun v hv => by
    simp at hv
    obtain ⟨j, _, rfl⟩ := hv
    rfl)
  obtain ⟨w', h1, R, C, B⟩ := words_splice w g c o t ws F cur hg hs r hn ho _ rfl
  exact ⟨w', by rw [e, h1, ln], R, C, B⟩
end Go.Proofs.Ytgnpakpnocbhhaa
