/-
  A Large in plain words: what Add and the removal of an object leave. No walk.
-/
import Derived.Test.YtlaldnfaeoimfaaLrgA
namespace Go.Proofs.Ytlaldnfaeoimfaa
open Go.RowKit
set_option linter.unusedVariables false

section
variable {L : List Spc} {mad fre : Nat} {tk : Nat → Bool} {gn : Nat → Nat} {F M O : List Nat} {bg tot : Nat} {ob : Nat → List Nat}
/-- the spaces behind a removal -/
def rml (L : List Spc) (x fre g : Nat) : List Spc := setw (L.set (lw (wds L 0) 6 x 1) (false, [])) 0 ((wds L 0).set (lk 6 x 0) (2 * fre + 4194304 * (g + 1)))
theorem close_wds {s : Nat} (h1 : 1 ≤ s) (h2 : s < L.length) : wds (L.set s (false, [])) 0 = wds L 0 := by rw [wds_set L s 0 _ h2, if_neg (by omega)]
theorem close_open {s : Nat} (h1 : 1 ≤ s) (h2 : s < L.length) : (L.set s (false, [])).getD 0 (false, []) = L.getD 0 (false, []) := by rw [getD_set L _ _ _ h2, if_neg (by omega)]
theorem LQ.remove {x : Nat} (q : LQ L mad fre tk gn F M (x :: O) bg tot ob) (hk : 0 < L.length) : LQ (rml L x fre (gn x)) mad x (upd tk x false) (upd gn x (gn x + 1)) (x :: F) M O bg (tot - (ob x).length) ob ∧ (ob x).length ≤ tot := by
  obtain ⟨a, b, c⟩ := q.us x (.inr (by simp))
  have B := q.sp x (.inr (by simp))
  have s1 := B.s1
  have s2 := B.s2
  have e0 := close_wds s1 s2
  have e1 : wds (rml L x fre (gn x)) 0 = (wds L 0).set (lk 6 x 0) (2 * fre + 4194304 * (gn x + 1)) := by unfold rml; rw [setw_wds (by simp; exact hk)]
  have xe : x ≤ ent 6 (wds L 0).length := Nat.le_trans b q.me
  have pl := lk_lt (n := 0) a xe (by omega)
  have nd := List.nodup_cons.1 q.oN
  have inn : ∀ y, y ∈ M ∨ y ∈ O → y ∈ M ∨ y ∈ x :: O := fun y hy => hy.elim .inl (fun z => .inr (List.mem_cons_of_mem _ z))
  have ne : ∀ y, y ∈ M ∨ y ∈ O → y ≠ x := fun y hy e => by
    subst e
    rcases hy with h | h
    · exact q.dj y h (by simp)
    · exact nd.1 h
  have lwj : ∀ y j, y ∈ M ∨ y ∈ O → j < 6 → lw ((wds L 0).set (lk 6 x 0) (2 * fre + 4194304 * (gn x + 1))) 6 y j = lw (wds L 0) 6 y j := fun y j hy hj => by
    rw [lw_set a xe (by omega) (q.us y (inn y hy)).1 hj, if_neg (fun z => ne y hy z.1)]
  have tt := q.tt
  rw [sumw_cons] at tt
  have sp : ∀ y, y ∈ M ∨ y ∈ O → OB (rml L x fre (gn x)) y (ob y) := fun y hy => by
    have B2 := q.sp y (inn y hy)
    have ns : lw (wds L 0) 6 y 1 ≠ lw (wds L 0) 6 x 1 := fun e => ne y hy (q.ij y x (inn y hy) (.inr (by simp)) e)
    have t1 := B2.s1
    have e3 : lw (wds (rml L x fre (gn x)) 0) 6 y 1 = lw (wds L 0) 6 y 1 := by rw [e1, lwj y 1 hy (by omega)]
    have hk2 : 0 < (L.set (lw (wds L 0) 6 x 1) (false, [])).length := by simp; exact hk
    refine ⟨by rw [e3]; exact t1, by rw [e3]; unfold rml; rw [setw_len]; simp; exact B2.s2, ?_, ?_, by rw [e1, lwj y 2 hy (by omega)]; exact B2.sz⟩
    · rw [e3]; unfold rml; rw [setw_open hk2, getD_set L _ _ _ s2, if_neg ns]; exact B2.so
    · rw [e3]; unfold rml; rw [setw_other hk2 _ (by omega), wds_set L _ _ _ s2, if_neg ns]; exact B2.sw
  refine ⟨⟨by rw [e1]; exact q.r.give a b c pl, by rw [e1, List.length_set]; exact q.me, ?_, nd.2, fun i hi => ?_, fun y hy hz => q.dj y hy (List.mem_cons_of_mem _ hz), fun y hy => ?_, fun y h1 h2 h3 => ?_, fun y hy => by rw [e1, lwj y 3 (.inl hy) (by omega)]; exact q.km y hy, fun y hy => by rw [e1, lwj y 3 (.inr hy) (by omega)]; exact q.om y (List.mem_cons_of_mem _ hy), sp, fun y z hy hz => ?_, by omega⟩, by omega⟩
  · rw [e1]; exact set3_ch a xe q.cM 0 _ (by omega)
  · rw [e1, lwj _ 4 (.inr (getD_mem hi)) (by omega)]
    exact q.oX (i + 1) (by simpa using hi)
  · obtain ⟨u, v, t⟩ := q.us y (inn y hy)
    exact ⟨u, v, by rw [upd_ne _ _ (ne y hy)]; exact t⟩
  · by_cases e : y = x
    · rw [e, upd_at] at h3; cases h3
    · rw [upd_ne _ _ e] at h3
      rcases q.cv y h1 h2 h3 with h | h
      · exact .inl h
      · exact .inr ((List.mem_cons.1 h).resolve_left e)
  · rw [e1, lwj y 1 hy (by omega), lwj z 1 hz (by omega)]
    exact q.ij y z (inn y hy) (inn z hz)
/-- the words of the entries ahead of Add's push -/
def adw (ws : List Nat) (id s n : Nat) : List Nat := (ws.set (lk 6 id 1) s).set (lk 6 id 2) n
theorem adw_len (ws : List Nat) (id s n : Nat) : (adw ws id s n).length = ws.length := by unfold adw; simp
theorem adw_lw {ws : List Nat} {id s n x j : Nat} (h1 : 1 ≤ id) (h2 : id ≤ ent 6 ws.length) (hx : 1 ≤ x) (hj : j < 6) : lw (adw ws id s n) 6 x j = if x = id ∧ j = 2 then n else if x = id ∧ j = 1 then s else lw ws 6 x j := by
  unfold adw
  rw [lw_set h1 (by rw [List.length_set]; exact h2) (by omega) hx hj, lw_set h1 h2 (by omega) hx hj]
theorem LQ.add (q : LQ L mad fre tk gn F M O bg tot ob) (d : CH 6 4 5 (wds L 0) O) (hk : 0 < L.length) (h0 : (L.getD 0 (false, [])).1 = true) {n id rm rm' mad' fre' : Nat} {ws' : List Nat} {gn' : Nat → Nat} {F' : List Nat}
    (T : Tk 5 rm mad fre (wds L 0) tk gn F id rm' mad' fre' ws' gn' F') (r' : PR ws' 5 mad' fre' (upd tk id true) gn' F') (hl : (wds L 0).length ≤ ws'.length) (hme : mad' ≤ ent 6 ws'.length) (hw : mad' = mad ∨ id = mad + 1) :
    CH 6 4 5 (adw ws' id (firstc L) n) M ∧ LQ (setw (opened L n) 0 (mkw (adw ws' id (firstc L) n) M id bg)) mad' fre' (upd tk id true) gn' F' (M ++ [id]) O bg (tot + n) (upd ob id (List.replicate n 0)) ∧ CH 6 4 5 (wds (setw (opened L n) 0 (mkw (adw ws' id (firstc L) n) M id bg)) 0) O ∧ id ∉ M ∧ id ∉ O := by
  have fz : firstc L ≠ 0 := firstc_ne L 0 hk h0
  obtain ⟨ol, os⟩ := opened_le L n
  have i1 := T.i1
  have i2 : id ≤ ent 6 ws'.length := Nat.le_trans T.i2 hme
  have nin : ∀ y, y ∈ M ∨ y ∈ O → y ≠ id := fun y hy e => by
    obtain ⟨u, v, t⟩ := q.us y hy
    subst e
    rw [T.nt v] at t; cases t
  have nM : id ∉ M := fun h => nin id (.inl h) rfl
  have nO : id ∉ O := fun h => nin id (.inr h) rfl
  have eM : ent 6 (wds L 0).length ≤ ent 6 ws'.length := by unfold ent; exact Nat.div_le_div_right hl
  have i3 : id ≤ ent 6 (adw ws' id (firstc L) n).length := by rw [adw_len]; exact i2
  have old : ∀ y j, y ∈ M ∨ y ∈ O → j < 6 → lw (adw ws' id (firstc L) n) 6 y j = lw (wds L 0) 6 y j := fun y j hy hj => by
    obtain ⟨u, v, t⟩ := q.us y hy
    have ne := nin y hy
    rw [adw_lw i1 i2 u hj, if_neg (fun z => ne z.1), if_neg (fun z => ne z.1)]
    exact T.ws y j u v (by omega) ne
  have cM : CH 6 4 5 (adw ws' id (firstc L) n) M := q.cM.same2 (by rw [adw_len]; exact eM) fun y hy => ⟨old y 4 (.inl hy) (by omega), old y 5 (.inl hy) (by omega)⟩
  have cO : CH 6 4 5 (adw ws' id (firstc L) n) O := d.same2 (by rw [adw_len]; exact eM) fun y hy => ⟨old y 4 (.inr hy) (by omega), old y 5 (.inr hy) (by omega)⟩
  have f1 := mkw_chM (bg := bg) i1 i3 cM nM
  have f2 := mkw_chO (bg := bg) i1 i3 cM cO nO q.dj
  have hk2 : 0 < (opened L n).length := by omega
  have e1 := setw_wds hk2 (mkw (adw ws' id (firstc L) n) M id bg)
  have g1 : ∀ y j, y ∈ M ∨ y ∈ O → j < 4 → lw (mkw (adw ws' id (firstc L) n) M id bg) 6 y j = lw (wds L 0) 6 y j := fun y j hy hj => by
    rw [mkw_lw i1 i3 (q.us y hy).1 hj, if_neg (fun z => nin y hy z.1)]; exact old y j hy (by omega)
  have g2 : ∀ j, j < 4 → lw (mkw (adw ws' id (firstc L) n) M id bg) 6 id j = if j = 3 then bg else if j = 2 then n else if j = 1 then firstc L else lw ws' 6 id j := fun j hj => by
    rw [mkw_lw i1 i3 i1 hj, adw_lw i1 i2 i1 (by omega)]
    simp
  have spo : ∀ y, y ∈ M ∨ y ∈ O → OB (setw (opened L n) 0 (mkw (adw ws' id (firstc L) n) M id bg)) y (ob y) := fun y hy => by
    have B := q.sp y hy
    have s1 := B.s1
    have fs : firstc L ≠ lw (wds L 0) 6 y 1 := firstc_ne L _ B.s2 B.so
    refine ⟨by rw [e1, g1 y 1 hy (by omega)]; exact s1, by rw [e1, g1 y 1 hy (by omega), setw_len]; exact Nat.lt_of_lt_of_le B.s2 ol, ?_, ?_, by rw [e1, g1 y 2 hy (by omega)]; exact B.sz⟩
    · rw [e1, g1 y 1 hy (by omega), setw_open hk2, opened_at L n _ B.s2 fs]; exact B.so
    · rw [e1, g1 y 1 hy (by omega), setw_other hk2 _ (by omega), opened_wds L n _ B.s2 fs]; exact B.sw
  have spn : OB (setw (opened L n) 0 (mkw (adw ws' id (firstc L) n) M id bg)) id (List.replicate n 0) := by
    refine ⟨by rw [e1, g2 1 (by omega)]; simp; omega, by rw [e1, g2 1 (by omega), setw_len]; simpa using os, ?_, ?_, by rw [e1, g2 2 (by omega)]; simp⟩
    · rw [e1, g2 1 (by omega), setw_open hk2]; simp; rw [← List.getD_eq_getElem?_getD, opened_new]
    · rw [e1, g2 1 (by omega), if_neg (by omega), if_neg (by omega), if_pos rfl, setw_other hk2 _ fz, opened_wnew]
  have inn : ∀ y, y ∈ M ++ [id] ∨ y ∈ O ↔ (y ∈ M ∨ y ∈ O) ∨ y = id := fun y => by
    rw [List.mem_append, List.mem_singleton]
    exact ⟨fun h => h.elim (fun u => u.elim (fun v => .inl (.inl v)) .inr) (fun u => .inl (.inr u)), fun h => h.elim (fun u => u.elim (fun v => .inl (.inl v)) .inr) (fun u => .inl (.inr u))⟩
  have rr : PR (mkw (adw ws' id (firstc L) n) M id bg) 5 mad' fre' (upd tk id true) gn' F' := r'.same fun y u v => by
    show lw _ 6 y 0 = lw ws' 6 y 0
    rw [mkw_lw i1 i3 u (by omega), if_neg (by omega), adw_lw i1 i2 u (by omega), if_neg (by omega), if_neg (by omega)]
  refine ⟨cM, ⟨by rw [e1]; exact rr, by rw [e1, mkw_len, adw_len]; exact hme, by rw [e1]; exact f1, q.oN, fun i hi => by rw [e1]; exact f2.nx i hi, fun y hy hz => ?_, fun y hy => ?_, fun y u v t => ?_, fun y hy => ?_, fun y hy => by rw [e1, g1 y 3 (.inr hy) (by omega)]; exact q.om y hy, fun y hy => ?_, fun y z hy hz => ?_, ?_⟩, by rw [e1]; exact f2, nM, nO⟩
  · rcases List.mem_append.1 hy with h | h
    · exact q.dj y h hz
    · rw [List.mem_singleton.1 h] at hz; exact nO hz
  · rcases (inn y).1 hy with h | h
    · obtain ⟨u, v, t⟩ := q.us y h
      exact ⟨u, by have := T.md; omega, by rw [upd_ne _ _ (nin y h)]; exact t⟩
    · rw [h]; exact ⟨i1, T.i2, upd_at _ _ _⟩
  · by_cases e : y = id
    · exact (inn y).2 (.inr e)
    · rw [upd_ne _ _ e] at t
      by_cases le : y ≤ mad
      · exact (inn y).2 (.inl (q.cv y u le t))
      · have m := T.md
        have k := T.i2
        rcases hw with h | h
        · omega
        · omega
  · rcases List.mem_append.1 hy with h | h
    · rw [e1, g1 y 3 (.inl h) (by omega)]; exact q.km y h
    · rw [List.mem_singleton.1 h, e1, g2 3 (by omega), if_pos rfl]
  · by_cases e : y = id
    · rw [e, upd_at]; exact spn
    · rw [upd_ne _ _ e]; exact spo y (((inn y).1 hy).resolve_right e)
  · rw [e1]
    rcases (inn y).1 hy with h | h <;> rcases (inn z).1 hz with k | k
    · rw [g1 y 1 h (by omega), g1 z 1 k (by omega)]; exact q.ij y z h k
    · rw [g1 y 1 h (by omega), k, g2 1 (by omega), if_neg (by omega), if_neg (by omega), if_pos rfl]
      intro e; exact absurd e.symm (firstc_ne L _ (q.sp y h).s2 (q.sp y h).so)
    · rw [g1 z 1 k (by omega), h, g2 1 (by omega), if_neg (by omega), if_neg (by omega), if_pos rfl]
      intro e; exact absurd e (firstc_ne L _ (q.sp z k).s2 (q.sp z k).so)
    · intro _; rw [h, k]
  · rw [sumw_append, sumw_cons, sumw_nil, upd_at, List.length_replicate, sumw_congr (ob := ob) (ob' := upd ob id _) (l := M) (fun y hy => by rw [upd_ne _ _ (nin y (.inl hy))]), sumw_congr (ob := ob) (ob' := upd ob id _) (l := O) (fun y hy => by rw [upd_ne _ _ (nin y (.inr hy))]), q.tt]
    omega
/-- a word of an object has turned -/
theorem LQ.write (q : LQ L mad fre tk gn F M O bg tot ob) (d : CH 6 4 5 (wds L 0) O) (hk : 0 < L.length) {id : Nat} (hi : id ∈ M ∨ id ∈ O) (at' : Int) (x : Nat) :
    LQ (wrl L (lw (wds L 0) 6 id 1) at' x) mad fre tk gn F M O bg tot (if 0 ≤ at' ∧ at' < ((ob id).length : Int) then upd ob id ((ob id).set at'.toNat x) else ob) ∧ CH 6 4 5 (wds (wrl L (lw (wds L 0) 6 id 1) at' x) 0) O := by
  have B := q.sp id hi
  have s1 := B.s1
  have s2 := B.s2
  unfold wrl
  rw [B.sw]
  by_cases h0 : 0 ≤ at' ∧ at' < ((ob id).length : Int)
  · rw [if_pos h0, if_pos h0]
    have e0 : wds (setw L (lw (wds L 0) 6 id 1) ((ob id).set at'.toNat x)) 0 = wds L 0 := setw_other s2 _ (by omega)
    have ol : ∀ y, ((upd ob id ((ob id).set at'.toNat x)) y).length = (ob y).length := fun y => by
      unfold upd; split
      · rename_i e; rw [e, List.length_set]
      · rfl
    refine ⟨⟨by rw [e0]; exact q.r, by rw [e0]; exact q.me, by rw [e0]; exact q.cM, q.oN, by rw [e0]; exact q.oX, q.dj, q.us, q.cv, by rw [e0]; exact q.km, by rw [e0]; exact q.om, fun y hy => ?_, by rw [e0]; exact q.ij, ?_⟩, by rw [e0]; exact d⟩
    · have B2 := q.sp y hy
      refine ⟨by rw [e0]; exact B2.s1, by rw [e0, setw_len]; exact B2.s2, by rw [e0, setw_open s2]; exact B2.so, ?_, by rw [e0, ol]; exact B2.sz⟩
      rw [e0]
      by_cases e : y = id
      · rw [e, upd_at, setw_wds s2]
      · rw [upd_ne _ _ e, setw_other s2 _ (fun z => e (q.ij y id hy hi z))]; exact B2.sw
    · rw [sumw_congr (ob := ob) (fun y _ => ol y), sumw_congr (ob := ob) (fun y _ => ol y)]; exact q.tt
  · rw [if_neg h0, if_neg h0]; exact ⟨q, d⟩
end
end Go.Proofs.Ytlaldnfaeoimfaa
