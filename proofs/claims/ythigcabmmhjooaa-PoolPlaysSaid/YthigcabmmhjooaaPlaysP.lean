/-
  PoolPlays in plain words: the document's lists and the program's books tell the same. No walk.
-/
import Derived.Test.YthigcabmmhjooaaPoolM
import Derived.Test.YthigcabmmhjooaaEntB
namespace Go.Proofs.Ythigcabmmhjooaa
open Go.RowKit
set_option linter.unusedVariables false

structure MT (k W rm mad : Nat) (ws : List Nat) (h : Int) (tk : Nat → Bool) (gn : Nat → Nat) (F : List Nat) (cnt : Nat) (L : List Ent) (Fr : List Nat) : Prop where
  len : L.length = mad
  t : ∀ i, i < mad → entt L i = tk (i + 1)
  g : ∀ i, i < mad → entg L i = gn (i + 1)
  wl : ∀ i, i < mad → (entw L i).length = W
  ww : ∀ i j, i < mad → tk (i + 1) = true → j < W → (entw L i).getD j 0 = ws.getD (lk (W + 1) (i + 1) (j + 1)) 0
  fr : F = Fr.reverse
  ct : cntq L = cnt
  hh : h = ((rm * (W + 1) : Nat) : Int)
  kk : mad ≤ k
  rb : rm ≤ 8 + 2 * mad
  gb : ∀ x, gn x ≤ k
  fl : Fr.length ≤ k
theorem entt_set (L : List Ent) (k i : Nat) (x : Ent) (hk : k < L.length) : entt (L.set k x) i = if i = k then x.1 else entt L i := by
  unfold entt; rw [getD_ez L k i x hk]; split <;> rfl
theorem entg_set (L : List Ent) (k i : Nat) (x : Ent) (hk : k < L.length) : entg (L.set k x) i = if i = k then x.2.1 else entg L i := by
  unfold entg; rw [getD_ez L k i x hk]; split <;> rfl
theorem entw_set (L : List Ent) (k i : Nat) (x : Ent) (hk : k < L.length) : entw (L.set k x) i = if i = k then x.2.2 else entw L i := by
  unfold entw; rw [getD_ez L k i x hk]; split <;> rfl
theorem entt_snoc (L : List Ent) (x : Ent) (i : Nat) (hi : i < L.length + 1) : entt (L ++ [x]) i = if i = L.length then x.1 else entt L i := by
  unfold entt; rw [getD_es]; split
  · rw [if_neg (by omega)]
  · rw [if_pos (by omega), if_pos (by omega)]
theorem entg_snoc (L : List Ent) (x : Ent) (i : Nat) (hi : i < L.length + 1) : entg (L ++ [x]) i = if i = L.length then x.2.1 else entg L i := by
  unfold entg; rw [getD_es]; split
  · rw [if_neg (by omega)]
  · rw [if_pos (by omega), if_pos (by omega)]
theorem entw_snoc (L : List Ent) (x : Ent) (i : Nat) (hi : i < L.length + 1) : entw (L ++ [x]) i = if i = L.length then x.2.2 else entw L i := by
  unfold entw; rw [getD_es]; split
  · rw [if_neg (by omega)]
  · rw [if_pos (by omega), if_pos (by omega)]
theorem cnt_set (L : List Ent) (k : Nat) (x : Ent) (hk : k < L.length) : cntq (L.set k x) + (if entt L k = true then 1 else 0) = cntq L + (if x.1 = true then 1 else 0) := by
  have q := cntq_set L k x hk
  split <;> split at q <;> simp_all
theorem holdh_in {h n : Int} (h0 : 0 ≤ n) (h1 : n ≤ 281474976710656 - h) : holdh h n = h + n := by unfold holdh; exact if_pos ⟨h0, h1⟩
theorem roomh_eq {W rm mad : Nat} (hr : rm ≤ 1000) (hW : W ≤ 60) (hm : mad ≤ rm) : roomh ((rm * (W + 1) : Nat) : Int) W rm mad = ((room2 rm mad * (W + 1) : Nat) : Int) := by
  unfold roomh room2
  split
  · rfl
  · have hn : rm ≤ nroom rm ∧ nroom rm ≤ 2008 := by unfold nroom; omega
    obtain ⟨d, hd⟩ : ∃ d, nroom rm = rm + d := ⟨nroom rm - rm, by omega⟩
    rw [hd, Nat.add_sub_cancel_left, Nat.add_mul]
    have a1 : rm * (W + 1) ≤ 1000 * 61 := Nat.mul_le_mul hr (by omega)
    have a2 : d * (W + 1) ≤ 2008 * 61 := Nat.mul_le_mul (by omega) (by omega)
    generalize rm * (W + 1) = x at *
    generalize d * (W + 1) = y at *
    rw [holdh_in (by omega) (by omega)]
    omega
theorem MT.start (W : Nat) : MT 0 W 0 0 [] 0 (fun _ => false) (fun _ => 0) [] 0 [] [] :=
  ⟨rfl, fun i h => by omega, fun i h => by omega, fun i h => by omega, fun i j h => by omega, rfl, by unfold cntq; rfl, by simp, by omega, by omega, fun x => Nat.le_refl _, Nat.le_refl _⟩
section
variable {k W rm mad cnt : Nat} {ws : List Nat} {h : Int} {tk : Nat → Bool} {gn : Nat → Nat} {F : List Nat} {L : List Ent} {Fr : List Nat}
theorem MT.up (m : MT k W rm mad ws h tk gn F cnt L Fr) : MT (k + 1) W rm mad ws h tk gn F cnt L Fr :=
  ⟨m.len, m.t, m.g, m.wl, m.ww, m.fr, m.ct, m.hh, Nat.le_succ_of_le m.kk, m.rb, fun x => Nat.le_succ_of_le (m.gb x), Nat.le_succ_of_le m.fl⟩
theorem MT.cle (m : MT k W rm mad ws h tk gn F cnt L Fr) : cnt ≤ mad := by rw [← m.ct, ← m.len]; exact cntq_le L
theorem MT.isk (m : MT k W rm mad ws h tk gn F cnt L Fr) (id : Int) : isq L id = (pin mad id && tk id.toNat) := by
  unfold isq pin
  rw [m.len]
  by_cases q : 1 ≤ id ∧ id ≤ (mad : Int)
  · rw [decide_eq_true q, Bool.true_and, Bool.true_and, m.t (id.toNat - 1) (by omega), show id.toNat - 1 + 1 = id.toNat by omega]
  · rw [decide_eq_false q]; rfl
theorem MT.istk (m : MT k W rm mad ws h tk gn F cnt L Fr) {fre : Nat} (r : PR ws W mad fre tk gn F) (id : Int) : tkq ws W mad id = isq L id := by rw [m.isk, r.istk]
theorem MT.wrong (m : MT k W rm mad ws h tk gn F cnt L Fr) {fre : Nat} (r : PR ws W mad fre tk gn F) (id word : Int) : chq ws W mad id word = wrongq L W id word := by
  unfold chq wrongq; rw [m.istk r]
/-- the generation that the document's list tells of a number -/
def genq (L : List Ent) (id : Int) : Nat := if 1 ≤ id ∧ id ≤ (L.length : Int) then entg L (id.toNat - 1) else 0
theorem MT.gen (m : MT k W rm mad ws h tk gn F cnt L Fr) {fre : Nat} (r : PR ws W mad fre tk gn F) (id : Int) : gnq ws W mad id = genq L id := by
  rw [r.isgn]
  unfold genq
  rw [m.len]
  by_cases q : 1 ≤ id ∧ id ≤ (mad : Int)
  · rw [if_pos (pin_iff.2 q), if_pos q, m.g _ (by omega), show id.toNat - 1 + 1 = id.toNat by omega]
  · rw [if_neg (fun z => q (pin_iff.1 z)), if_neg q]
theorem MT.take_new (m : MT k W rm mad ws h tk gn F cnt L Fr) {fre rm' fre' : Nat} {ws' : List Nat} {gn' : Nat → Nat} {F' : List Nat} {h' : Int} (T : Tk W rm mad fre ws tk gn F (mad + 1) rm' (mad + 1) fre' ws' gn' F') (e0 : F = []) (e1 : rm' = room2 rm mad) (e2 : h' = roomh h W rm mad) (e3 : F' = []) (mr : mad ≤ rm) (hW : W ≤ 60) (hr : rm ≤ 1000) :
    Fr = [] ∧ MT (k + 1) W rm' (mad + 1) ws' h' (upd tk (mad + 1) true) gn' F' (cnt + 1) (L ++ [(true, 0, List.replicate W 0)]) [] := by
  have f0 : Fr = [] := by have := m.fr; rw [e0] at this; simpa using this.symm
  refine ⟨f0, ⟨by simp [m.len], fun i hi => ?_, fun i hi => ?_, fun i hi => ?_, fun i j hi ht hj => ?_, by rw [e3]; rfl, ?_, ?_, by have := m.kk; omega, ?_, T.gb _ (fun x => Nat.le_succ_of_le (m.gb x)), Nat.zero_le _⟩⟩
  · rw [entt_snoc _ _ _ (by rw [m.len]; omega), m.len]
    by_cases e : i = mad
    · rw [if_pos e, e, upd_at]
    · rw [if_neg e, upd_ne _ _ (by omega)]; exact m.t i (by omega)
  · rw [entg_snoc _ _ _ (by rw [m.len]; omega), m.len]
    by_cases e : i = mad
    · rw [if_pos e, e]; exact (T.gz (by omega)).symm
    · rw [if_neg e, T.gs _ (by omega)]; exact m.g i (by omega)
  · rw [entw_snoc _ _ _ (by rw [m.len]; omega), m.len]
    by_cases e : i = mad
    · rw [if_pos e]; simp
    · rw [if_neg e]; exact m.wl i (by omega)
  · rw [entw_snoc _ _ _ (by rw [m.len]; omega), m.len]
    by_cases e : i = mad
    · rw [if_pos e, e, T.zz j hj]
      simp [List.getD, hj]
    · rw [if_neg e, T.ws _ _ (by omega) (by omega) (by omega) (by omega)]
      rw [upd_ne _ _ (by omega)] at ht
      exact m.ww i j (by omega) ht hj
  · rw [cntq_snoc, m.ct]; rfl
  · rw [e2, e1, m.hh, roomh_eq hr hW mr]
  · rw [e1]; have := m.rb; unfold room2 nroom; split <;> omega
theorem MT.take_re (m : MT k W rm mad ws h tk gn F cnt L Fr) {fre fre' id rm' mad' : Nat} {ws' : List Nat} {gn' : Nat → Nat} {F' : List Nat} {h' : Int} (T : Tk W rm mad fre ws tk gn F id rm' mad' fre' ws' gn' F') (e0 : F = id :: F') (e1 : mad' = mad) (e2 : rm' = rm) (e3 : h' = h) (e4 : gn' = gn) :
    ∃ k0, id = k0 + 1 ∧ k0 < mad ∧ Fr = F'.reverse ++ [id] ∧ MT (k + 1) W rm' mad' ws' h' (upd tk id true) gn' F' (cnt + 1) (L.set k0 (true, entg L k0, List.replicate W 0)) F'.reverse := by
  subst e1 e2 e3 e4
  obtain ⟨k0, rfl⟩ : ∃ k0, id = k0 + 1 := ⟨id - 1, by have := T.i1; omega⟩
  have k1 : k0 < mad' := T.i2
  have kl : k0 < L.length := by rw [m.len]; exact k1
  have f0 : Fr = F'.reverse ++ [k0 + 1] := by
    have := congrArg List.reverse m.fr
    rw [e0, List.reverse_reverse, List.reverse_cons] at this
    exact this.symm
  have nt := T.nt T.i2
  refine ⟨k0, rfl, k1, f0, ⟨by rw [List.length_set]; exact m.len, fun i hi => ?_, fun i hi => ?_, fun i hi => ?_, fun i j hi ht hj => ?_, by rw [List.reverse_reverse], ?_, m.hh, Nat.le_succ_of_le m.kk, m.rb, fun x => Nat.le_succ_of_le (m.gb x), ?_⟩⟩
  · rw [entt_set _ _ _ _ kl]
    by_cases e : i = k0
    · rw [if_pos e, e, upd_at]
    · rw [if_neg e, upd_ne _ _ (by omega)]; exact m.t i hi
  · rw [entg_set _ _ _ _ kl]
    by_cases e : i = k0
    · rw [if_pos e, e]; exact m.g k0 k1
    · rw [if_neg e]; exact m.g i hi
  · rw [entw_set _ _ _ _ kl]
    by_cases e : i = k0
    · rw [if_pos e]; simp
    · rw [if_neg e]; exact m.wl i hi
  · rw [entw_set _ _ _ _ kl]
    by_cases e : i = k0
    · rw [if_pos e, e, T.zz j hj]
      simp [List.getD, hj]
    · rw [if_neg e, T.ws _ _ (by omega) (by omega) (by omega) (by omega)]
      rw [upd_ne _ _ (by omega)] at ht
      exact m.ww i j hi ht hj
  · have q := cnt_set L k0 (true, entg L k0, List.replicate W 0) kl
    rw [m.t k0 k1, nt, m.ct] at q
    simpa using q
  · have := m.fl
    rw [f0] at this
    simp at this ⊢
    omega
theorem MT.give (m : MT k W rm mad ws h tk gn F cnt L Fr) {k0 x : Nat} (k1 : k0 < mad) (ht : tk (k0 + 1) = true) (hl : lk (W + 1) (k0 + 1) 0 < ws.length) :
    1 ≤ cnt ∧ MT (k + 1) W rm mad (ws.set (lk (W + 1) (k0 + 1) 0) x) h (upd tk (k0 + 1) false) (upd gn (k0 + 1) (gn (k0 + 1) + 1)) ((k0 + 1) :: F) (cnt - 1) (L.set k0 (false, entg L k0 + 1, entw L k0)) (Fr ++ [k0 + 1]) := by
  have kl : k0 < L.length := by rw [m.len]; exact k1
  have q := cnt_set L k0 (false, entg L k0 + 1, entw L k0) kl
  rw [m.t k0 k1, ht, m.ct] at q
  simp at q
  refine ⟨by omega, ⟨by rw [List.length_set]; exact m.len, fun i hi => ?_, fun i hi => ?_, fun i hi => ?_, fun i j hi ht hj => ?_, by rw [m.fr]; simp, by omega, m.hh, Nat.le_succ_of_le m.kk, m.rb, fun x => ?_, ?_⟩⟩
  · rw [entt_set _ _ _ _ kl]
    by_cases e : i = k0
    · rw [if_pos e, e, upd_at]
    · rw [if_neg e, upd_ne _ _ (by omega)]; exact m.t i hi
  · rw [entg_set _ _ _ _ kl]
    by_cases e : i = k0
    · rw [if_pos e, e, upd_at]; show entg L k0 + 1 = _; rw [m.g k0 k1]
    · rw [if_neg e, upd_ne _ _ (by omega)]; exact m.g i hi
  · rw [entw_set _ _ _ _ kl]
    by_cases e : i = k0
    · rw [if_pos e]; exact m.wl k0 k1
    · rw [if_neg e]; exact m.wl i hi
  · by_cases e : i = k0
    · rw [e, upd_at] at ht; cases ht
    · rw [upd_ne _ _ (by omega)] at ht
      rw [entw_set _ _ _ _ kl, if_neg e, getD_setn _ _ _ _ hl, if_neg (fun z => e (by have := (lk_eq (by omega) (by omega) (by omega) (by omega) z).1; omega))]
      exact m.ww i j hi ht hj
  · unfold upd
    split
    · have := m.gb (k0 + 1); omega
    · exact Nat.le_succ_of_le (m.gb x)
  · have := m.fl
    simp
    omega
theorem MT.set (m : MT k W rm mad ws h tk gn F cnt L Fr) {k0 j v : Nat} (k1 : k0 < mad) (hj : j < W) (hl : lk (W + 1) (k0 + 1) (j + 1) < ws.length) :
    MT (k + 1) W rm mad (ws.set (lk (W + 1) (k0 + 1) (j + 1)) v) h tk gn F cnt (L.set k0 (entt L k0, entg L k0, (entw L k0).set j v)) Fr := by
  have kl : k0 < L.length := by rw [m.len]; exact k1
  have wl := m.wl k0 k1
  refine ⟨by rw [List.length_set]; exact m.len, fun i hi => ?_, fun i hi => ?_, fun i hi => ?_, fun i j' hi ht hj' => ?_, m.fr, ?_, m.hh, Nat.le_succ_of_le m.kk, m.rb, fun x => Nat.le_succ_of_le (m.gb x), Nat.le_succ_of_le m.fl⟩
  · rw [entt_set _ _ _ _ kl]
    by_cases e : i = k0
    · rw [if_pos e, e]; exact m.t k0 k1
    · rw [if_neg e]; exact m.t i hi
  · rw [entg_set _ _ _ _ kl]
    by_cases e : i = k0
    · rw [if_pos e, e]; exact m.g k0 k1
    · rw [if_neg e]; exact m.g i hi
  · rw [entw_set _ _ _ _ kl]
    by_cases e : i = k0
    · rw [if_pos e, List.length_set]; exact wl
    · rw [if_neg e]; exact m.wl i hi
  · rw [entw_set _ _ _ _ kl, getD_setn _ _ _ _ hl]
    by_cases e : i = k0
    · rw [if_pos e, getD_setn _ _ _ _ (by rw [wl]; exact hj)]
      by_cases e2 : j' = j
      · rw [if_pos e2, if_pos (by rw [e, e2])]
      · rw [if_neg e2, if_neg (fun z => e2 (by have := (lk_eq (by omega) (by omega) (by omega) (by omega) z).2; omega)), ← e]
        exact m.ww i j' hi ht hj'
    · rw [if_neg e, if_neg (fun z => e (by have := (lk_eq (by omega) (by omega) (by omega) (by omega) z).1; omega))]
      exact m.ww i j' hi ht hj'
  · have q := cnt_set L k0 (entt L k0, entg L k0, (entw L k0).set j v) kl
    rw [m.ct] at q
    simp at q
    omega
end
attribute [irreducible] genq
end Go.Proofs.Ythigcabmmhjooaa
