/-
  What Grow makes of a space's words.
-/
import Derived.Test.YtibaloamgpcghaaIs
import Derived.Test.YtibaloamgpcghaaOpenMath
import Derived.Test.YtibaloamgpcghaaZeros
namespace Go.Proofs.Ytibaloamgpcghaa
open Go.RowKit
set_option linter.unusedVariables false

theorem Cells.ne {w : World} {a b n m : Nat} {s t : TypeId} (h : Cells w a s n) (k : Cells w b t m) (e : s ≠ t) : a ≠ b := by
  rintro rfl
  obtain ⟨c, h1, _⟩ := h
  obtain ⟨d, h2, _⟩ := k
  rw [h1] at h2
  injection h2 with h2
  injection h2 with _ h3 _
  exact e h3
theorem OH.putw {w : World} {B g k : Nat} {L : List Spc} {U : Nat → Value} (h : OH w B g k L U) {c : Nat} (hc : L.length ≤ c) (hk : k < L.length) {g7 c7 : Nat} {ws : List Nat} (hr : Row w g7 ws.length (fun j => pw (ws.getD j 0))) (h7 : ws.length ≤ c7) (hg : g7 ≠ g) (hB : B ≤ g7) :
    SB (w.setCell ⟨g, k * 2 + 1, none⟩ (.slice (some ⟨g7, 0, none⟩) ws.length c7)) B (.slice (some ⟨g, 0, none⟩) L.length c) (L.set k ((L.getD k (false, [])).1, ws)) := by
  refine ⟨g, c, fun i => if i = k then .slice (some ⟨g7, 0, none⟩) ws.length c7 else U i, by rw [List.length_set], by rw [List.length_set]; exact hc, h.lo, ?_, fun i hi => ?_⟩
  · rw [List.length_set]
    refine (h.row.set (k * 2 + 1) (by omega) _).congr fun j hj => ?_
    have e := scell_put L U (fun i => if i = k then .slice (some ⟨g7, 0, none⟩) ws.length c7 else U i) k ((L.getD k (false, [])).1, ws) hk (fun i hi => if_neg hi) j
    rw [if_pos rfl] at e
    rw [← e]
    by_cases e1 : j = k * 2 + 1
    · rw [if_pos e1, if_pos e1]
    · rw [if_neg e1, if_neg e1]
      by_cases e2 : j = k * 2
      · rw [if_pos e2, e2, scell_o]
      · rw [if_neg e2]
  · rw [List.length_set] at hi
    rw [getD_set L k i _ hk]
    show NB pw _ B (if i = k then .slice (some ⟨g7, 0, none⟩) ws.length c7 else U i) _
    by_cases e : i = k
    · rw [if_pos e, if_pos e]
      exact NB.of_row (hr.far _ (fun q => hg q.symm)) h7 hB
    · rw [if_neg e, if_neg e]
      obtain ⟨gi, ci, eu, h1, h2, h3, r⟩ := h.nb i hi e
      rw [eu]
      exact NB.of_row (r.far _ (fun q => h3 q.symm)) h1 h2
/-- the words of one space have been appended to -/
theorem OS.grew {w w' : World} {B g : Nat} {L : List Spc} {G C : Nat → Nat} (h : OS w B g L G C) {k : Nat} (hk : k < L.length) (hr : w.grownBy w' (some (G k))) : OH w' B g k L (uval L G C) := by
  have far : ∀ {x n : Nat} {f : Nat → Value}, Row w x n f → x ≠ G k → Row w' x n f := fun {x n f} r hx => by
    have hb : w'.heap[x]? = w.heap[x]? := hr.block x r.lt (fun e => hx (Option.some.inj e))
    exact ⟨Nat.lt_of_lt_of_le r.lt hr.size, fun j hj => by rw [World.cell?_of_block (w := w) hb]; exact r.cell j hj, fun j => by rw [World.frozen?_of_block (w := w) hb]; exact r.free j⟩
  exact ⟨h.lo, far h.row (fun e => h.ne k hk e.symm), fun i hi hik => ⟨G i, C i, uval_eq L G C i, h.cap i hi, h.blo i hi, h.ne i hi, far (h.wrow i hi) (fun e => hik (h.inj i k hi hk e))⟩⟩
theorem grown_words (w : World) (B g m c q : Nat) (ws : List Nat) (hm : ws.length = m) (ce : Cells w g 44 (c * 1)) (r : Row w g m (fun j => pw (ws.getD j 0))) (hc : m ≤ c) (hcm : c ≤ maxLen) (hB : B ≤ g) (hq : m + q ≤ 10000000) :
    ∃ g7 c7 w7, (Builtin.append_ #[40, 3] 40 #[.slice (some ⟨g, 0, none⟩) m c, .int .i64 (q : Int)]).run Try.prog w = .ok (.slice (some ⟨g7, 0, none⟩) (m + q) c7) w7 ∧ m + q ≤ c7 ∧ B ≤ g7 ∧ Row w7 g7 (m + q) (fun j => pw ((ws ++ List.replicate q 0).getD j 0)) ∧ (∃ n, Cells w7 g7 44 n) ∧ w.grownBy w7 (some g) := by
  obtain ⟨i0, hi, hz0, hz1, hz2⟩ := info_parts2 infoW
  by_cases h0 : q = 0
  · subst h0
    exact ⟨g, c, w, run_append_none_zeros (P := Try.prog) w 40 3 40 44 i0 _ .i64 .i64 Try.underlying40 Try.underlying3 hi hz0 ⟨g, 0, none⟩ m c hc, hc, hB, by simpa using r, ⟨_, ce⟩, ⟨rfl, rfl, rfl, Nat.le_refl _, fun _ _ _ => rfl⟩⟩
  · have own := own_of_row (size := 1) (n := m) (B := B) ce (by rw [Nat.mul_one]; exact r) hc hcm hB
    obtain ⟨v7, w7, hr, own7, grow7⟩ := run_append_own_zeros (P := Try.prog) w B 40 3 40 44 i0 (.int .u64 0) 8 .i64 .i64 Try.underlying40 Try.underlying3 hi hz0 hz1 hz2 rfl rfl _ m _ own q (by omega) (by unfold maxLen; omega) (by omega) (by omega) (by have := r.lt; omega)
    have nn : v7 ≠ .slice none 0 0 := fun e => by
      rcases own7.2 with ⟨_, h1⟩ | ⟨g9, c9, cur, h1, _⟩
      · omega
      · rw [e] at h1; cases h1
    obtain ⟨g7, c7, rfl, h1, h2, R, _, ce7⟩ := Row.of_ownsG (f := fun j => pw ((ws ++ List.replicate q 0).getD j 0)) own7 nn (fun j hj => by
      by_cases hjm : j < m
      · rw [List.getElem?_append_left (by simpa using hjm)]
        simp [hjm, List.getD, List.getElem?_append_left (show j < ws.length by omega)]
      · rw [List.getElem?_append_right (by simp; omega)]
        have e1 : j - m < q := by omega
        simp [List.getD, List.getElem?_append_right (show ws.length ≤ j by omega), hm, e1, pw])
    rw [Nat.mul_one] at R
    exact ⟨g7, c7, w7, hr, h1, h2, R, ⟨_, ce7⟩, grow7⟩

end Go.Proofs.Ytibaloamgpcghaa
