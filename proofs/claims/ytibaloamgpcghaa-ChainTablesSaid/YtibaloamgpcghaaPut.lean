/-
  Changes of a list of spaces in blocks of the call's own. No program in sight.
-/
import Derived.Test.YtibaloamgpcghaaSpc
namespace Go.Proofs.Ytibaloamgpcghaa
open Go.RowKit
set_option linter.unusedVariables false

/-- A list of words whose cells lie in a block from B on. -/
def NB (p : Nat → Value) (w : World) (B : Nat) (v : Value) (L : List Nat) : Prop := ∃ a cap, v = .slice a L.length cap ∧ L.length ≤ cap ∧ (a = none → cap = 0) ∧ (L.length = 0 ∨ ∃ b off, a = some ⟨b, off, none⟩ ∧ B ≤ b ∧ b < w.heap.size ∧ ∀ i, i < L.length → w.cell? ⟨b, off + i, none⟩ = some (p (L.getD i 0)))
theorem NB.nl {p : Nat → Value} {w : World} {B : Nat} {v : Value} {L : List Nat} (h : NB p w B v L) : NL p w v L := by
  obtain ⟨a, cap, rfl, hcap, hnil, h⟩ := h
  refine ⟨a, cap, rfl, hcap, hnil, ?_⟩
  rcases h with h | ⟨b, off, rfl, hb, hlt, hc⟩
  · exact .inl h
  · exact .inr ⟨b, off, rfl, hlt, hc⟩
theorem NB.nil (p : Nat → Value) (w : World) (B : Nat) : NB p w B (.slice none 0 0) [] := ⟨none, 0, rfl, Nat.le_refl _, fun _ => rfl, .inl rfl⟩
theorem NB.low {p : Nat → Value} {w : World} {B : Nat} {v : Value} {L : List Nat} (h : NB p w B v L) {q : Addr} (hq : q.block < B) (x : Value) : NB p (w.setCell q x) B v L := by
  obtain ⟨a, cap, rfl, hcap, hnil, h⟩ := h
  refine ⟨a, cap, rfl, hcap, hnil, ?_⟩
  rcases h with h | ⟨b, off, rfl, hb, hlt, hc⟩
  · exact .inl h
  · exact .inr ⟨b, off, rfl, hb, by simpa using hlt, fun i hi => (World.cell?_setCell_other w q ⟨b, off + i, none⟩ x (fun e => by rw [e] at hq; exact absurd hq (by simpa using hb))).trans (hc i hi)⟩
theorem NB.mono {p : Nat → Value} {w : World} {B B' : Nat} {v : Value} {L : List Nat} (h : NB p w B v L) (hB : B' ≤ B) : NB p w B' v L := by
  obtain ⟨a, cap, rfl, hcap, hnil, h⟩ := h
  refine ⟨a, cap, rfl, hcap, hnil, ?_⟩
  rcases h with h | ⟨b, off, rfl, hb, hlt, hc⟩
  · exact .inl h
  · exact .inr ⟨b, off, rfl, Nat.le_trans hB hb, hlt, hc⟩
theorem NB.below {p : Nat → Value} {w w' : World} {B : Nat} {v : Value} {L : List Nat} (h : NB p w B v L) (hb : Below w.heap.size w w') : NB p w' B v L := by
  obtain ⟨a, cap, rfl, hcap, hnil, h⟩ := h
  refine ⟨a, cap, rfl, hcap, hnil, ?_⟩
  rcases h with h | ⟨b, off, rfl, hB, hlt, hc⟩
  · exact .inl h
  · exact .inr ⟨b, off, rfl, hB, Nat.lt_of_lt_of_le hlt hb.size, fun i hi => (hb.cell (p := ⟨b, off + i, none⟩) hlt).trans (hc i hi)⟩
theorem NB.of_row {p : Nat → Value} {w : World} {g c B : Nat} {L : List Nat} (h : Row w g L.length (fun j => p (L.getD j 0))) (hc : L.length ≤ c) (hB : B ≤ g) : NB p w B (.slice (some ⟨g, 0, none⟩) L.length c) L :=
  ⟨_, c, rfl, hc, (fun e => nomatch e), .inr ⟨g, 0, rfl, hB, h.lt, fun i hi => by rw [Nat.zero_add]; exact h.cell i hi⟩⟩
/-- A list of spaces all of whose cells lie in blocks from B on. -/
def SB (w : World) (B : Nat) (v : Value) (L : List Spc) : Prop := ∃ g cap U, v = .slice (some ⟨g, 0, none⟩) L.length cap ∧ L.length ≤ cap ∧ B ≤ g ∧ Row w g (L.length * 2) (scell L U) ∧ ∀ i, i < L.length → NB pw w B (U i) (L.getD i (false, [])).2
theorem SB.sl {w : World} {B : Nat} {v : Value} {L : List Spc} (h : SB w B v L) : SL w v L := by
  obtain ⟨g, cap, U, rfl, hc, hg, r, hw⟩ := h
  exact ⟨_, cap, U, rfl, hc, (fun e => nomatch e), .inr ⟨g, 0, rfl, r.lt, fun j hj => by rw [Nat.zero_add]; exact r.cell j hj, fun i hi => (hw i hi).nl⟩⟩
theorem SB.low {w : World} {B : Nat} {v : Value} {L : List Spc} (h : SB w B v L) {q : Addr} (hq : q.block < B) (x : Value) : SB (w.setCell q x) B v L := by
  obtain ⟨g, cap, U, rfl, hc, hg, r, hw⟩ := h
  exact ⟨g, cap, U, rfl, hc, hg, r.far x (by omega), fun i hi => (hw i hi).low hq x⟩
theorem SB.below {w w' : World} {B : Nat} {v : Value} {L : List Spc} (h : SB w B v L) (k : Below w.heap.size w w') : SB w' B v L := by
  obtain ⟨g, cap, U, rfl, hc, hg, r, hw⟩ := h
  exact ⟨g, cap, U, rfl, hc, hg, r.below k, fun i hi => (hw i hi).below k⟩
theorem SB.low6 {w : World} {B : Nat} {v : Value} {L : List Spc} (h : SB w B v L) {s : Nat} (hs : s < B) (x1 x2 x3 x4 x5 x6 : Value) : SB ((((((w.setCell ⟨s, 1, none⟩ x1).setCell ⟨s, 2, none⟩ x2).setCell ⟨s, 3, none⟩ x3).setCell ⟨s, 4, none⟩ x4).setCell ⟨s, 5, none⟩ x5).setCell ⟨s, 6, none⟩ x6) B v L :=
  (((((h.low hs x1).low hs x2).low hs x3).low hs x4).low hs x5).low hs x6
theorem SB.low7 {w : World} {B : Nat} {v : Value} {L : List Spc} (h : SB w B v L) {s : Nat} (hs : s < B) (x0 x1 x2 x3 x4 x5 x6 : Value) : SB (((((((w.setCell ⟨s, 0, none⟩ x0).setCell ⟨s, 1, none⟩ x1).setCell ⟨s, 2, none⟩ x2).setCell ⟨s, 3, none⟩ x3).setCell ⟨s, 4, none⟩ x4).setCell ⟨s, 5, none⟩ x5).setCell ⟨s, 6, none⟩ x6) B v L :=
  ((((((h.low hs x0).low hs x1).low hs x2).low hs x3).low hs x4).low hs x5).low hs x6
theorem OS.low6 {w : World} {B g : Nat} {L : List Spc} {G C : Nat → Nat} (h : OS w B g L G C) {s : Nat} (hs : s < B) (x1 x2 x3 x4 x5 x6 : Value) : OS ((((((w.setCell ⟨s, 1, none⟩ x1).setCell ⟨s, 2, none⟩ x2).setCell ⟨s, 3, none⟩ x3).setCell ⟨s, 4, none⟩ x4).setCell ⟨s, 5, none⟩ x5).setCell ⟨s, 6, none⟩ x6) B g L G C :=
  (((((h.low hs x1).low hs x2).low hs x3).low hs x4).low hs x5).low hs x6
theorem SB.mono {w : World} {B B' : Nat} {v : Value} {L : List Spc} (h : SB w B v L) (hB : B' ≤ B) : SB w B' v L := by
  obtain ⟨g, cap, U, e, hc, hg, r, hw⟩ := h
  exact ⟨g, cap, U, e, hc, Nat.le_trans hB hg, r, fun i hi => (hw i hi).mono hB⟩
theorem OS.sb {w : World} {B g : Nat} {L : List Spc} {G C : Nat → Nat} (h : OS w B g L G C) {c : Nat} (hc : L.length ≤ c) : SB w B (.slice (some ⟨g, 0, none⟩) L.length c) L :=
  ⟨g, c, uval L G C, rfl, hc, h.lo, h.row, fun i hi => by rw [uval_eq]; exact NB.of_row (h.wrow i hi) (h.cap i hi) (h.blo i hi)⟩

theorem getD_set (L : List Spc) (k i : Nat) (x : Spc) (hk : k < L.length) : (L.set k x).getD i (false, []) = if i = k then x else L.getD i (false, []) := by
  by_cases e : i = k
  · subst e; rw [if_pos rfl]; simp [List.getD, hk]
  · rw [if_neg e]; simp [List.getD, List.getElem?_set_ne (Ne.symm e)]
theorem scell_put (L : List Spc) (U V : Nat → Value) (k : Nat) (x : Spc) (hk : k < L.length) (hV : ∀ i, i ≠ k → V i = U i) (j : Nat) : (if j = k * 2 + 1 then V k else if j = k * 2 then .bool x.1 else scell L U j) = scell (L.set k x) V j := by
  by_cases e : j = k * 2 + 1
  · rw [if_pos e, e, scell_w]
  · rw [if_neg e]
    by_cases e2 : j = k * 2
    · rw [if_pos e2, e2, scell_o, getD_set L k k x hk, if_pos rfl]
    · rw [if_neg e2]
      by_cases o : j % 2 = 0
      · rw [show j = j / 2 * 2 by omega, scell_o, scell_o, getD_set L k _ x hk, if_neg (by omega)]
      · rw [show j = j / 2 * 2 + 1 by omega, scell_w, scell_w, hV _ (by omega)]
/-- a space is put in the place of another one -/
theorem OS.put {w : World} {B g : Nat} {L : List Spc} {G C : Nat → Nat} (h : OS w B g L G C) {c : Nat} (hc : L.length ≤ c) {k : Nat} (hk : k < L.length) (o : Bool) {u : Value} {ws : List Nat} {H : Nat} (hu : NB pw w H u ws) (hg : g < H) (hB : B ≤ H) :
    SB ((w.setCell ⟨g, k * 2, none⟩ (.bool o)).setCell ⟨g, k * 2 + 1, none⟩ u) B (.slice (some ⟨g, 0, none⟩) L.length c) (L.set k (o, ws)) := by
  refine ⟨g, c, fun i => if i = k then u else uval L G C i, by rw [List.length_set], by rw [List.length_set]; exact hc, h.lo, ?_, fun i hi => ?_⟩
  · rw [List.length_set]
    refine ((h.row.set (k * 2) (by omega) _).set (k * 2 + 1) (by omega) _).congr fun j hj => ?_
    have e := scell_put L (uval L G C) (fun i => if i = k then u else uval L G C i) k (o, ws) hk (fun i hi => if_neg hi) j
    rw [if_pos rfl] at e
    exact e
  · rw [List.length_set] at hi
    rw [getD_set L k i (o, ws) hk]
    show NB pw _ B (if i = k then u else uval L G C i) _
    by_cases e : i = k
    · rw [if_pos e, if_pos e]
      exact ((hu.low (q := ⟨g, k * 2, none⟩) hg _).low (q := ⟨g, k * 2 + 1, none⟩) hg _).mono hB
    · rw [if_neg e, if_neg e, uval_eq]
      exact NB.of_row (((h.wrow i hi).far _ (fun q => h.ne i hi q.symm)).far _ (fun q => h.ne i hi q.symm)) (h.cap i hi) (h.blo i hi)
/-- a space's words are put in the place of its old ones -/
theorem OS.putw {w : World} {B g : Nat} {L : List Spc} {G C : Nat → Nat} (h : OS w B g L G C) {c : Nat} (hc : L.length ≤ c) {k : Nat} (hk : k < L.length) {u : Value} {ws : List Nat} {H : Nat} (hu : NB pw w H u ws) (hg : g < H) (hB : B ≤ H) :
    SB (w.setCell ⟨g, k * 2 + 1, none⟩ u) B (.slice (some ⟨g, 0, none⟩) L.length c) (L.set k ((L.getD k (false, [])).1, ws)) := by
  refine ⟨g, c, fun i => if i = k then u else uval L G C i, by rw [List.length_set], by rw [List.length_set]; exact hc, h.lo, ?_, fun i hi => ?_⟩
  · rw [List.length_set]
    refine (h.row.set (k * 2 + 1) (by omega) _).congr fun j hj => ?_
    have e := scell_put L (uval L G C) (fun i => if i = k then u else uval L G C i) k ((L.getD k (false, [])).1, ws) hk (fun i hi => if_neg hi) j
    rw [if_pos rfl] at e
    rw [← e]
    by_cases e1 : j = k * 2 + 1
    · rw [if_pos e1, if_pos e1]
    · rw [if_neg e1, if_neg e1]
      by_cases e2 : j = k * 2
      · rw [if_pos e2, e2, scell_o]
      · rw [if_neg e2]
  · rw [List.length_set] at hi
    rw [getD_set L k i _ hk]
    show NB pw _ B (if i = k then u else uval L G C i) _
    by_cases e : i = k
    · rw [if_pos e, if_pos e]
      exact (hu.low (q := ⟨g, k * 2 + 1, none⟩) hg _).mono hB
    · rw [if_neg e, if_neg e, uval_eq]
      exact NB.of_row ((h.wrow i hi).far _ (fun q => h.ne i hi q.symm)) (h.cap i hi) (h.blo i hi)
/-- one word is stored -/
theorem OS.word {w : World} {B g : Nat} {L : List Spc} {G C : Nat → Nat} (h : OS w B g L G C) {k : Nat} (hk : k < L.length) {i : Nat} (hi : i < (L.getD k (false, [])).2.length) (n : Nat) :
    OS (w.setCell ⟨G k, i, none⟩ (pw n)) B g (L.set k ((L.getD k (false, [])).1, (L.getD k (false, [])).2.set i n)) G C := by
  have ln : ∀ j, ((L.set k ((L.getD k (false, [])).1, (L.getD k (false, [])).2.set i n)).getD j (false, [])).2.length = (L.getD j (false, [])).2.length := fun j => by
    rw [getD_set L k j _ hk]
    by_cases e : j = k
    · rw [if_pos e, e]; simp
    · rw [if_neg e]
  refine ⟨h.lo, ?_, fun j hj => ?_, fun j hj => ?_, fun j hj => ?_, fun j hj => ?_, fun a b ha hb => ?_⟩
  · rw [List.length_set]
    refine (h.row.far _ (by exact h.ne k hk)).congr fun j hj => ?_
    have e := scell_put L (uval L G C) (uval (L.set k ((L.getD k (false, [])).1, (L.getD k (false, [])).2.set i n)) G C) k ((L.getD k (false, [])).1, (L.getD k (false, [])).2.set i n) hk (fun m hm => by rw [uval_eq, uval_eq, ln]) j
    rw [← e]
    by_cases e1 : j = k * 2 + 1
    · rw [if_pos e1, e1, scell_w, uval_eq, uval_eq, ln]
    · rw [if_neg e1]
      by_cases e2 : j = k * 2
      · rw [if_pos e2, e2, scell_o]
      · rw [if_neg e2]
  · rw [List.length_set] at hj; rw [ln]; exact h.cap j hj
  · rw [List.length_set] at hj; exact h.blo j hj
  · rw [List.length_set] at hj; exact h.ne j hj
  · rw [List.length_set] at hj
    rw [ln]
    by_cases e : j = k
    · subst e
      refine ((h.wrow j hj).set i hi _).congr fun q hq => ?_
      rw [getD_set L j j _ hj, if_pos rfl]
      by_cases e2 : q = i
      · subst e2
        rw [if_pos rfl]
        show pw n = pw (((L.getD j (false, [])).2.set q n).getD q 0)
        rw [List.getD_eq_getElem?_getD (l := (L.getD j (false, [])).2.set q n), List.getElem?_set_self hq]
        rfl
      · rw [if_neg e2]; simp [List.getD, List.getElem?_set_ne (Ne.symm e2)]
    · rw [getD_set L k j _ hk, if_neg e]
      exact (h.wrow j hj).far _ (fun q => e (h.inj j k hj hk q.symm))
  · rw [List.length_set] at ha hb; exact h.inj a b ha hb

end Go.Proofs.Ytibaloamgpcghaa
