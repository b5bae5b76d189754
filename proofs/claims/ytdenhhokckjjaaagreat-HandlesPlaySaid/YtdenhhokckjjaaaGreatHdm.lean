/-
  The handles and the document's, side by side.
-/
import Derived.Test.YtdenhhokckjjaaaGreatHny
import Derived.Test.YtdenhhokckjjaaaGreatHns
import Derived.Test.YtdenhhokckjjaaaGreatHnm
import Derived.Test.YtdenhhokckjjaaaGreatHno
import Derived.Test.YtdenhhokckjjaaaGreatHng
namespace Go.Proofs.YtdenhhokckjjaaaGreat
open Go.RowKit
set_option linter.unusedVariables false

theorem entt_set18 (L : List Ent) (k i : Nat) (x : Ent) (hk : k < L.length) : entt (L.set k x) i = if i = k then x.1 else entt L i := by
  unfold entt; rw [getD_ez L k i x hk]; split <;> rfl
theorem entg_set18 (L : List Ent) (k i : Nat) (x : Ent) (hk : k < L.length) : entg (L.set k x) i = if i = k then x.2.1 else entg L i := by
  unfold entg; rw [getD_ez L k i x hk]; split <;> rfl
theorem entw_set18 (L : List Ent) (k i : Nat) (x : Ent) (hk : k < L.length) : entw (L.set k x) i = if i = k then x.2.2 else entw L i := by
  unfold entw; rw [getD_ez L k i x hk]; split <;> rfl
theorem entt_snoc18 (L : List Ent) (x : Ent) (i : Nat) (hi : i < L.length + 1) : entt (L ++ [x]) i = if i = L.length then x.1 else entt L i := by
  unfold entt; rw [getD_es]; split
  · rw [if_neg (by omega)]
  · rw [if_pos (by omega), if_pos (by omega)]
theorem entg_snoc18 (L : List Ent) (x : Ent) (i : Nat) (hi : i < L.length + 1) : entg (L ++ [x]) i = if i = L.length then x.2.1 else entg L i := by
  unfold entg; rw [getD_es]; split
  · rw [if_neg (by omega)]
  · rw [if_pos (by omega), if_pos (by omega)]
theorem entw_snoc18 (L : List Ent) (x : Ent) (i : Nat) (hi : i < L.length + 1) : entw (L ++ [x]) i = if i = L.length then x.2.2 else entw L i := by
  unfold entw; rw [getD_es]; split
  · rw [if_neg (by omega)]
  · rw [if_pos (by omega), if_pos (by omega)]
structure DM (n rm mad : Nat) (tk : Nat → Bool) (gn : Nat → Nat) (F : List Nat) (L : List Ent) (Fr : List Nat) : Prop where
  len : L.length = mad
  t : ∀ i, i < mad → entt L i = tk (i + 1)
  g : ∀ i, i < mad → entg L i = gn (i + 1)
  wl : ∀ i, i < mad → (entw L i).length ≤ 1000
  fr : F = Fr.reverse
  fl : Fr.length ≤ n
theorem DM.start : DM 0 0 0 (fun _ => false) (fun _ => 0) [] [] [] := ⟨rfl, fun i h => by omega, fun i h => by omega, fun i h => by omega, rfl, Nat.le_refl _⟩
theorem DM.up {n rm mad : Nat} {tk : Nat → Bool} {gn : Nat → Nat} {F : List Nat} {L : List Ent} {Fr : List Nat} (m : DM n rm mad tk gn F L Fr) : DM (n + 1) rm mad tk gn F L Fr := ⟨m.len, m.t, m.g, m.wl, m.fr, Nat.le_succ_of_le m.fl⟩
set_option maxRecDepth 100000 in
theorem DM.take {n rm mad rm' mad' id : Nat} {tk : Nat → Bool} {gn gn' : Nat → Nat} {F F' C : List Nat} {L : List Ent} {Fr : List Nat} (m : DM n rm mad tk gn F L Fr) (T : HT n rm mad tk gn F C id rm' mad' gn' F') (mr : mad ≤ rm) (hr : rm ≤ 1000) (hn : n ≤ 900) :
    ∃ i L' Fr', id = i + 1 ∧ i < L'.length ∧ entg L' i = gn' id ∧ DM (n + 1) rm' mad' (upd tk id true) gn' F' L' Fr' ∧ ∀ v f P w, ST w P v f L Fr → Calls Tryz.prog 29 #[estv 3 v f (rm : Int)] w fun e w' => ∃ v' f', e = .returned (.tuple #[estv 3 v' f' (rm' : Int), .int .i64 ((i + 1 : Nat) : Int)]) ∧ ST w' (fun j => w.heap.size ≤ j) v' f' L' Fr' ∧ Below w.heap.size w w' := by
  have lw : ∀ i, i < L.length → (entw L i).length ≤ 1000 := fun i hi => m.wl i (by rw [← m.len]; exact hi)
  rcases T.alt with ⟨f0, e1, e2, e3, e4, e5⟩ | ⟨f0, e2, e3, e5⟩
  · have fr0 : Fr = [] := by
      have := m.fr
      rw [f0] at this
      exact List.reverse_eq_nil_iff.1 this.symm
    subst e1 e2 e3 e4 e5
    refine ⟨mad, L ++ [(true, 0, List.replicate 3 0)], [], rfl, by rw [List.length_append, m.len]; simp, ?_, ⟨by rw [List.length_append, m.len]; rfl, fun i hi => ?_, fun i hi => ?_, fun i hi => ?_, rfl, Nat.zero_le _⟩, fun v f P w hv => ?_⟩
    · rw [entg_snoc18 _ _ _ (by rw [m.len]; omega), if_pos m.len.symm, upd_at]
    · rw [entt_snoc18 _ _ _ (by rw [m.len]; exact hi), m.len]
      by_cases e : i = mad
      · rw [if_pos e, e, upd_at]
      · rw [if_neg e, upd_ne _ _ (by omega)]; exact m.t i (by omega)
    · rw [entg_snoc18 _ _ _ (by rw [m.len]; exact hi), m.len]
      by_cases e : i = mad
      · rw [if_pos e, e, upd_at]
      · rw [if_neg e, upd_ne _ _ (by omega)]; exact m.g i (by omega)
    · rw [entw_snoc18 _ _ _ (by rw [m.len]; exact hi), m.len]
      by_cases e : i = mad
      · rw [if_pos e]; simp
      · rw [if_neg e]; exact m.wl i (by omega)
    · rw [fr0] at hv
      have K := etake_new 3 rm v f L P w hv (by rw [m.len]; exact mr) hr lw (by decide)
      rw [m.len] at K
      exact K
  · obtain ⟨k, rfl⟩ : ∃ k, id = k + 1 := ⟨id - 1, by have := T.i1; omega⟩
    subst e2 e3 e5
    have k1 : k < mad' := T.i2
    have kl : k < L.length := by rw [m.len]; exact k1
    have fr1 : Fr = F'.reverse ++ [k + 1] := by
      have := congrArg List.reverse m.fr
      rw [List.reverse_reverse, f0] at this
      rw [← this]; simp
    have lf : F'.length + 1 ≤ n := by have := m.fl; rw [fr1] at this; simpa using this
    refine ⟨k, L.set k (true, entg L k, List.replicate 3 0), F'.reverse, rfl, by rw [List.length_set]; exact kl, ?_, ⟨by rw [List.length_set]; exact m.len, fun i hi => ?_, fun i hi => ?_, fun i hi => ?_, by rw [List.reverse_reverse], by rw [List.length_reverse]; omega⟩, fun v f P w hv => ?_⟩
    · rw [entg_set18 _ _ _ _ kl, if_pos rfl]; exact m.g k k1
    · rw [entt_set18 _ _ _ _ kl]
      by_cases e : i = k
      · rw [if_pos e, e, upd_at]
      · rw [if_neg e, upd_ne _ _ (by omega)]; exact m.t i hi
    · rw [entg_set18 _ _ _ _ kl]
      by_cases e : i = k
      · rw [if_pos e, e]; exact m.g k k1
      · rw [if_neg e]; exact m.g i hi
    · rw [entw_set18 _ _ _ _ kl]
      by_cases e : i = k
      · rw [if_pos e]; simp
      · rw [if_neg e]; exact m.wl i hi
    · rw [fr1] at hv
      exact etake_re 3 rm' k v f L F'.reverse P w hv (by rw [m.len]; omega) (by rw [List.length_reverse]; omega) lw (by decide) kl
set_option maxRecDepth 100000 in
theorem DM.give {n rm mad x : Nat} {tk : Nat → Bool} {gn : Nat → Nat} {F : List Nat} {L : List Ent} {Fr : List Nat} (m : DM n rm mad tk gn F L Fr) (h1 : 1 ≤ x) (h2 : x ≤ mad) (ht : tk x = true) (hg : gn x ≤ 1000) (hm : mad ≤ 1000) (hn : n ≤ 900) :
    ∃ L' Fr', DM (n + 1) rm mad (upd tk x false) (upd gn x (gn x + 1)) (x :: F) L' Fr' ∧ ∀ (r : Int) v f P w, ST w P v f L Fr → Calls Tryz.prog 62 #[estv 3 v f r, .int .i64 (x : Int)] w fun e w' => ∃ v' f', e = .returned (.tuple #[estv 3 v' f' r, .int .i64 0]) ∧ ST w' (fun j => w.heap.size ≤ j) v' f' L' Fr' ∧ Below w.heap.size w w' := by
  have lw : ∀ i, i < L.length → (entw L i).length ≤ 1000 := fun i hi => m.wl i (by rw [← m.len]; exact hi)
  obtain ⟨k, rfl⟩ : ∃ k, x = k + 1 := ⟨x - 1, by omega⟩
  have kl : k < L.length := by rw [m.len]; exact h2
  refine ⟨L.set k (false, entg L k + 1, entw L k), Fr ++ [k + 1], ⟨by rw [List.length_set]; exact m.len, fun i hi => ?_, fun i hi => ?_, fun i hi => ?_, by rw [m.fr, List.reverse_append]; rfl, by rw [List.length_append, List.length_singleton]; have := m.fl; omega⟩, fun r v f P w hv => ?_⟩
  · rw [entt_set18 _ _ _ _ kl]
    by_cases e : i = k
    · rw [if_pos e, e, upd_at]
    · rw [if_neg e, upd_ne _ _ (by omega)]; exact m.t i hi
  · rw [entg_set18 _ _ _ _ kl]
    by_cases e : i = k
    · rw [if_pos e, e, upd_at]
      show entg L k + 1 = _
      rw [m.g k h2]
    · rw [if_neg e, upd_ne _ _ (by omega)]; exact m.g i hi
  · rw [entw_set18 _ _ _ _ kl]
    by_cases e : i = k
    · rw [if_pos e]; exact m.wl k h2
    · rw [if_neg e]; exact m.wl i hi
  · exact egive_ok 3 r k v f L Fr P w hv (by rw [m.len]; omega) (by have := m.fl; omega) lw kl (by rw [m.g k h2]; omega) (by
      unfold isq
      rw [decide_eq_true (show 1 ≤ ((k + 1 : Nat) : Int) ∧ ((k + 1 : Nat) : Int) ≤ (L.length : Int) by omega), show ((k + 1 : Nat) : Int).toNat - 1 = k by omega, m.t k h2, ht]; rfl)
end Go.Proofs.YtdenhhokckjjaaaGreat
