/-
  LargePlays in plain words: the document's lists and the program's books tell the same. No walk.
-/
import Derived.Test.YtlaldnfaeoimfaaGreatDocD
import Derived.Test.YtlaldnfaeoimfaaGreatDocS
import Derived.Test.YtlaldnfaeoimfaaGreatLrgL
namespace Go.Proofs.YtlaldnfaeoimfaaGreat
open Go.RowKit
set_option linter.unusedVariables false

structure MQ (n mad : Nat) (tk : Nat → Bool) (F M O : List Nat) (ob : Nat → List Nat) (L : List Ent) (Fr : List Nat) (Ws : List (List Nat)) : Prop where
  len : L.length = mad
  t : ∀ i, i < mad → entt L i = tk (i + 1)
  g : ∀ i, entg L i ≤ 1000 * n
  wl : ∀ i, i < L.length → (entw L i).length = 5
  fr : F = Fr.reverse
  wn : Ws.length = mad
  wo : ∀ x, x ∈ M ∨ x ∈ O → Ws.getD (x - 1) [] = ob x
theorem entt_add (L : List Ent) (x : Ent) (i : Nat) : entt (L ++ [x]) i = if i < L.length then entt L i else if i = L.length then x.1 else false := by
  unfold entt; rw [getD_es]; split
  · rfl
  · split <;> rfl
theorem entg_add (L : List Ent) (x : Ent) (i : Nat) : entg (L ++ [x]) i = if i < L.length then entg L i else if i = L.length then x.2.1 else 0 := by
  unfold entg; rw [getD_es]; split
  · rfl
  · split <;> rfl
theorem entw_add (L : List Ent) (x : Ent) (i : Nat) : entw (L ++ [x]) i = if i < L.length then entw L i else if i = L.length then x.2.2 else [] := by
  unfold entw; rw [getD_es]; split
  · rfl
  · split <;> rfl
theorem gvF_eq (F l : List Nat) : gvF F l = l.reverse ++ F := by
  unfold gvF
  induction l generalizing F with
  | nil => rfl
  | cons x l ih => rw [List.foldl_cons, ih, List.reverse_cons, List.append_assoc]; rfl
theorem gvT_eq (tk : Nat → Bool) (l : List Nat) (x : Nat) : gvT tk l x = (tk x && !decide (x ∈ l)) := by
  unfold gvT
  induction l generalizing tk with
  | nil => simp
  | cons y l ih =>
    rw [List.foldl_cons, ih]
    by_cases e : x = y
    · subst e; rw [upd_at]; simp
    · rw [upd_ne _ _ e]
      have : decide (x ∈ y :: l) = decide (x ∈ l) := by simp [e]
      rw [this]
/-! ### the words of all -/
def psum (ob : Nat → List Nat) (l : List Nat) : Nat → Nat
  | 0 => 0
  | n + 1 => psum ob l n + if (n + 1) ∈ l then (ob (n + 1)).length else 0
theorem psum_cons (ob : Nat → List Nat) {x : Nat} {l : List Nat} (h : x ∉ l) (n : Nat) : psum ob (x :: l) n = psum ob l n + if 1 ≤ x ∧ x ≤ n then (ob x).length else 0 := by
  induction n with
  | zero => show 0 = 0 + _; rw [if_neg (by omega)]
  | succ n ih =>
    show psum ob (x :: l) n + (if (n + 1) ∈ x :: l then _ else _) = psum ob l n + (if (n + 1) ∈ l then _ else _) + _
    rw [ih]
    by_cases e : n + 1 = x
    · subst e
      have e1 : (if 1 ≤ n + 1 ∧ n + 1 ≤ n then (ob (n + 1)).length else 0) = 0 := if_neg (by omega)
      have e2 : (if 1 ≤ n + 1 ∧ n + 1 ≤ n + 1 then (ob (n + 1)).length else 0) = (ob (n + 1)).length := if_pos ⟨by omega, Nat.le_refl _⟩
      rw [e1, e2, if_pos (List.mem_cons_self), if_neg h]
    · have : (n + 1 ∈ x :: l) ↔ n + 1 ∈ l := by simp [e]
      have e2 : (1 ≤ x ∧ x ≤ n) ↔ (1 ≤ x ∧ x ≤ n + 1) := by omega
      simp only [this, e2]
      omega
theorem psum_sum (ob : Nat → List Nat) (l : List Nat) (n : Nat) (nd : l.Nodup) (h : ∀ x, x ∈ l → 1 ≤ x ∧ x ≤ n) : psum ob l n = sumw ob l := by
  induction l with
  | nil =>
    rw [sumw_nil]
    clear h nd
    induction n with
    | zero => rfl
    | succ n ih => show psum ob [] n + _ = 0; rw [ih, if_neg (by simp)]
  | cons x l ih =>
    have nd2 := List.nodup_cons.1 nd
    rw [psum_cons ob nd2.1, ih nd2.2 (fun y hy => h y (List.mem_cons_of_mem _ hy)), if_pos (h x List.mem_cons_self), sumw_cons]
    omega
section
variable {W0 : World} {R : Nat → Nat} {lb pb mb mm n rm mad : Nat} {tk : Nat → Bool} {gn : Nat → Nat} {F M O : List Nat} {td tot a b : Nat} {ob : Nat → List Nat} {w : World} {L : List Ent} {Fr : List Nat} {Ws : List (List Nat)}
theorem LGS.mr (s : LGS W0 R lb pb mb mm n rm mad tk gn F M O td tot a b ob w) : mad ≤ rm := by
  obtain ⟨⟨L, fre, g, bg, l, q, d, e1, e2⟩, _⟩ := s
  exact l.p.mr
theorem LGS.fle (s : LGS W0 R lb pb mb mm n rm mad tk gn F M O td tot a b ob w) : F.length ≤ mad := by
  obtain ⟨⟨L, fre, g, bg, l, q, d, e1, e2⟩, _⟩ := s
  exact nodup_le mad F q.r.nd (fun x hx => ⟨(q.r.fi x hx).1, (q.r.fi x hx).2.1⟩)
theorem LGS.up (s : LGS W0 R lb pb mb mm n rm mad tk gn F M O td tot a b ob w) (hn : n ≤ 999) : LGS W0 R lb pb mb mm (n + 1) rm mad tk gn F M O td tot a b ob w := by
  obtain ⟨⟨L, fre, g, bg, l, q, d, e1, e2⟩, o, lp, ll, gg, hd, hm, hr, ht, _⟩ := s
  exact ⟨⟨L, fre, g, bg, l, q, d, by omega, by omega⟩, o, lp, ll, fun x => Nat.le_trans (gg x) (Nat.mul_le_mul_right _ (Nat.le_succ n)), hd, Nat.le_succ_of_le hm, Nat.le_trans hr (Nat.add_le_add_right (Nat.mul_le_mul_left 2 (Nat.le_succ n)) 8), Nat.le_trans ht (Nat.mul_le_mul_left _ (Nat.le_succ n)), Nat.succ_le_succ hn⟩
theorem MQ.up (m : MQ n mad tk F M O ob L Fr Ws) : MQ (n + 1) mad tk F M O ob L Fr Ws := ⟨m.len, m.t, fun i => by have := m.g i; omega, m.wl, m.fr, m.wn, m.wo⟩
theorem MQ.start : MQ 0 0 (fun _ => false) [] [] [] (fun _ => []) [] [] [] := ⟨rfl, fun i h => by omega, fun i => by unfold entg; simp, fun i h => by simp at h, rfl, rfl, fun x h => by simp at h⟩
/-- is it a number of an object? -/
theorem MQ.yes (m : MQ n mad tk F M O ob L Fr Ws) (s : LGS W0 R lb pb mb mm n rm mad tk gn F M O td tot a b ob w) {id : Int} (h : isq L id = true) : ∃ k : Nat, id = ((k + 1 : Nat) : Int) ∧ k < mad ∧ entt L k = true ∧ (k + 1 ∈ M ∨ k + 1 ∈ O) := by
  obtain ⟨k, e, hk, ht⟩ := isq_of h
  rw [m.len] at hk
  exact ⟨k, e, hk, ht, s.cv (k + 1) (by omega) (by omega) (by rw [← m.t k hk]; exact ht)⟩
theorem MQ.no (m : MQ n mad tk F M O ob L Fr Ws) (s : LGS W0 R lb pb mb mm n rm mad tk gn F M O td tot a b ob w) {id : Int} (h : isq L id = false) : ¬ ∃ x : Nat, id = (x : Int) ∧ (x ∈ M ∨ x ∈ O) := by
  rintro ⟨x, rfl, hx⟩
  obtain ⟨h1, h2, h3⟩ := s.us x hx
  obtain ⟨k, rfl⟩ : ∃ k, x = k + 1 := ⟨x - 1, by omega⟩
  rw [isq_at15 (by rw [m.len]; omega), m.t k (by omega), h3] at h
  cases h
theorem MQ.lens (m : MQ n mad tk F M O ob L Fr Ws) (s : LGS W0 R lb pb mb mm n rm mad tk gn F M O td tot a b ob w) : L.length ≤ n ∧ Fr.length ≤ n ∧ Ws.length = L.length ∧ M.length ≤ n ∧ O.length ≤ n ∧ M.length + O.length ≤ n ∧ rm ≤ 2 * n + 8 ∧ L.length ≤ rm ∧ tot ≤ 4194304 * n := by
  have h1 := m.len
  have h2 := s.hm
  have h3 := s.fle
  rw [m.fr, List.length_reverse] at h3
  have h4 := s.cl
  have h5 := s.hr
  have h6 := s.mr
  have h7 := m.wn
  exact ⟨by omega, by omega, by omega, by omega, by omega, by omega, h5, by omega, s.ht⟩
theorem MQ.sum (m : MQ n mad tk F M O ob L Fr Ws) (s : LGS W0 R lb pb mb mm n rm mad tk gn F M O td tot a b ob w) : dsum L Ws Ws.length = tot := by
  have key : ∀ k, k ≤ mad → dsum L Ws k = psum ob (M ++ O) k := by
    intro k hk
    induction k with
    | zero => unfold dsum psum; rfl
    | succ k ih =>
      have ht := m.t k (by omega)
      show _ = psum ob (M ++ O) k + (if (k + 1) ∈ M ++ O then (ob (k + 1)).length else 0)
      cases e : tk (k + 1)
      · rw [dsum_f (by rw [ht, e]), ih (by omega), if_neg (fun q => by
          have := (s.us (k + 1) (List.mem_append.1 q)).2.2
          rw [e] at this; cases this)]
        rfl
      · have hm := s.cv (k + 1) (by omega) (by omega) e
        have wo := m.wo (k + 1) hm
        rw [Nat.add_sub_cancel] at wo
        rw [dsum_t (by rw [ht, e]), ih (by omega), if_pos (List.mem_append.2 hm), wo]
  rw [m.wn, key mad (Nat.le_refl _), psum_sum ob (M ++ O) mad s.nd (fun x hx => by
    obtain ⟨h1, h2, _⟩ := s.us x (List.mem_append.1 hx)
    exact ⟨h1, h2⟩), sumw_append, s.tt]
theorem MQ.swn (m : MQ n mad tk F M O ob L Fr Ws) : swn Ws O O.length = sumw ob O := by
  have key : ∀ k, k ≤ O.length → Go.Proofs.YtlaldnfaeoimfaaGreat.swn Ws O k = sumw ob (O.take k) := by
    intro k hk
    induction k with
    | zero => rw [List.take_zero, sumw_nil]; unfold Go.Proofs.YtlaldnfaeoimfaaGreat.swn; rfl
    | succ k ih =>
      have hk2 : k < O.length := by omega
      have e0 : O.getD k 0 = O[k] := by simp [List.getD, hk2]
      rw [swn_s, ih (by omega), List.take_succ_eq_append_getElem hk2, sumw_append, sumw_cons, sumw_nil, m.wo _ (.inr (getD_mem hk2)), e0]
      rfl
  rw [key _ (Nat.le_refl _), List.take_length]
theorem MQ.begin (m : MQ n mad tk F M O ob L Fr Ws) : MQ (n + 1) mad tk F [] (O ++ M) ob L Fr Ws :=
  ⟨m.len, m.t, fun i => by have := m.g i; omega, m.wl, m.fr, m.wn, fun x hx => m.wo x (by rcases hx with h | h; cases h; rcases List.mem_append.1 h with h | h; exact .inr h; exact .inl h)⟩
theorem MQ.mark (m : MQ n mad tk F M O ob L Fr Ws) {i : Nat} (hi : i < O.length) : MQ (n + 1) mad tk F (M ++ [O.getD i 0]) (O.eraseIdx i) ob L Fr Ws :=
  ⟨m.len, m.t, fun i => by have := m.g i; omega, m.wl, m.fr, m.wn, fun x hx => m.wo x (by
    rcases hx with h | h
    · rcases List.mem_append.1 h with h | h
      · exact .inl h
      · rw [List.mem_singleton.1 h]; exact .inr (getD_mem hi)
    · exact .inr (erase_mem h))⟩
theorem MQ.write (m : MQ n mad tk F M O ob L Fr Ws) (s : LGS W0 R lb pb mb mm n rm mad tk gn F M O td tot a b ob w) {k : Nat} (hk : k < mad) (hm : k + 1 ∈ M ∨ k + 1 ∈ O) (j x : Nat) : MQ (n + 1) mad tk F M O (upd ob (k + 1) ((ob (k + 1)).set j x)) L Fr (Ws.set k ((Ws.getD k []).set j x)) := by
  refine ⟨m.len, m.t, fun i => by have := m.g i; omega, m.wl, m.fr, by rw [List.length_set]; exact m.wn, fun y hy => ?_⟩
  have h1 := (s.us y hy).1
  rw [getD_ws Ws k (y - 1) _ (by rw [m.wn]; exact hk)]
  by_cases e : y = k + 1
  · subst e
    have wo := m.wo (k + 1) hm
    rw [Nat.add_sub_cancel] at wo
    rw [if_pos (Nat.add_sub_cancel ..), upd_at, wo]
  · rw [if_neg (by omega), upd_ne _ _ e, m.wo y hy]
theorem MQ.sweep (m : MQ n mad tk F M O ob L Fr Ws) (s : LGS W0 R lb pb mb mm n rm mad tk gn F M O td tot a b ob w) (hO : O.length ≤ 1000) : MQ (n + 1) mad (gvT tk O) (gvF F O) M [] ob (gvL L O O.length) (Fr ++ O) Ws := by
  have hV : ∀ k, k < O.length → 1 ≤ O.getD k 0 ∧ O.getD k 0 ≤ L.length := fun k hk => by
    obtain ⟨h1, h2, _⟩ := s.us _ (.inr (getD_mem hk))
    exact ⟨h1, by rw [m.len]; exact h2⟩
  refine ⟨by rw [gvL_len]; exact m.len, fun i hi => ?_, fun i => ?_, fun i hi => ?_, ?_, m.wn, fun x hx => m.wo x (hx.elim .inl (fun q => nomatch q))⟩
  · have e := gvL_t (L := L) hV (Nat.le_refl _) (i + 1) (by omega)
    rw [Nat.add_sub_cancel, List.take_length] at e
    rw [e, gvT_eq, m.t i hi]
  · have := gvL_g (L := L) hV (B := 1000 * n) m.g (Nat.le_refl _) i
    omega
  · rw [gvL_w hV (Nat.le_refl _)]
    rw [gvL_len] at hi
    exact m.wl i hi
  · rw [gvF_eq, m.fr, List.reverse_append]
theorem MQ.add_new (m : MQ n mad tk F M O ob L Fr Ws) (s : LGS W0 R lb pb mb mm n rm mad tk gn F M O td tot a b ob w) (e0 : F = []) (k : Nat) : Fr = [] ∧ MQ (n + 1) (mad + 1) (upd tk (mad + 1) true) [] (M ++ [mad + 1]) O (upd ob (mad + 1) (List.replicate k 0)) (L ++ [(true, 0, List.replicate 5 0)]) [] (adv Ws mad k) := by
  have f0 : Fr = [] := by have := m.fr; rw [e0] at this; simpa using this.symm
  have wn := m.wn
  refine ⟨f0, ⟨by simp [m.len], fun i hi => ?_, fun i => ?_, fun i hi => ?_, rfl, ?_, fun x hx => ?_⟩⟩
  · rw [entt_add, m.len]
    by_cases e : i < mad
    · rw [if_pos e, m.t i e, upd_ne _ _ (by omega)]
    · obtain rfl : i = mad := by omega
      rw [if_neg e, if_pos rfl, upd_at]
  · rw [entg_add]
    split
    · have := m.g i; omega
    · split
      · exact Nat.zero_le _
      · exact Nat.zero_le _
  · rw [entw_add]
    rw [List.length_append, List.length_singleton] at hi
    by_cases e : i < L.length
    · rw [if_pos e]; exact m.wl i e
    · rw [if_neg e, if_pos (by omega)]; rfl
  · unfold adv; rw [if_neg (by omega), List.length_set, List.length_append, List.length_singleton, wn]
  · unfold adv
    rw [if_neg (by omega), getD_ws _ _ _ _ (by rw [List.length_append, List.length_singleton]; omega)]
    by_cases e : x = mad + 1
    · rw [if_pos (by omega), e, upd_at]
    · have hx2 : x ∈ M ∨ x ∈ O := by
        rcases hx with h | h
        · rcases List.mem_append.1 h with h | h
          · exact .inl h
          · exact absurd (List.mem_singleton.1 h) e
        · exact .inr h
      obtain ⟨h1, h2, _⟩ := s.us x hx2
      rw [if_neg (by omega), getD_wsn, if_pos (by omega), upd_ne _ _ e, m.wo x hx2]
theorem MQ.add_re (m : MQ n mad tk F M O ob L Fr Ws) (s : LGS W0 R lb pb mb mm n rm mad tk gn F M O td tot a b ob w) {id : Nat} {F' : List Nat} (e0 : F = id :: F') (k : Nat) :
    ∃ k0, id = k0 + 1 ∧ k0 < mad ∧ Fr = F'.reverse ++ [id] ∧ MQ (n + 1) mad (upd tk id true) F' (M ++ [id]) O (upd ob id (List.replicate k 0)) (L.set k0 (true, entg L k0, List.replicate 5 0)) F'.reverse (adv Ws k0 k) := by
  have hid : 1 ≤ id ∧ id ≤ mad := by
    obtain ⟨⟨L, fre, g, bg, l, q, d, e1, e2⟩, _⟩ := s
    have := q.r.fi id (by rw [e0]; exact List.mem_cons_self)
    exact ⟨this.1, this.2.1⟩
  obtain ⟨k0, rfl⟩ : ∃ k0, id = k0 + 1 := ⟨id - 1, by omega⟩
  have k1 : k0 < mad := by omega
  have kl : k0 < L.length := by rw [m.len]; exact k1
  have wn := m.wn
  have f0 : Fr = F'.reverse ++ [k0 + 1] := by
    have := congrArg List.reverse m.fr
    rw [e0, List.reverse_reverse, List.reverse_cons] at this
    exact this.symm
  refine ⟨k0, rfl, k1, f0, ⟨by rw [List.length_set]; exact m.len, fun i hi => ?_, fun i => ?_, fun i hi => ?_, by rw [List.reverse_reverse], ?_, fun x hx => ?_⟩⟩
  · rw [entt_put _ _ _ _ kl]
    by_cases e : i = k0
    · rw [if_pos e, e, upd_at]
    · rw [if_neg e, upd_ne _ _ (by omega)]; exact m.t i hi
  · rw [entg_put _ _ _ _ kl]
    split
    · have := m.g k0
      show entg L k0 ≤ _
      omega
    · have := m.g i; omega
  · rw [entw_put _ _ _ _ kl]
    rw [List.length_set] at hi
    split
    · rfl
    · exact m.wl i hi
  · unfold adv; rw [if_pos (by omega), List.length_set, wn]
  · unfold adv
    rw [if_pos (by omega), getD_ws _ _ _ _ (by omega)]
    by_cases e : x = k0 + 1
    · rw [if_pos (by omega), e, upd_at]
    · have hx2 : x ∈ M ∨ x ∈ O := by
        rcases hx with h | h
        · rcases List.mem_append.1 h with h | h
          · exact .inl h
          · exact absurd (List.mem_singleton.1 h) e
        · exact .inr h
      have h1 := (s.us x hx2).1
      rw [if_neg (by omega), upd_ne _ _ e, m.wo x hx2]
end
end Go.Proofs.YtlaldnfaeoimfaaGreat
