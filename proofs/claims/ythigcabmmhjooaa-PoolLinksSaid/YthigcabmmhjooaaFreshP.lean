/-
  haymowlaw10.PoolFresh in plain words: who is in use, what was taken ever; the law's two lists in memory beside the pool.
-/
import Derived.Test.YthigcabmmhjooaaPoolM
import Derived.Test.YthigcabmmhjooaaPairs
import Derived.Test.YthigcabmmhjooaaOps10
namespace Go.Proofs.Ythigcabmmhjooaa
open Go.RowKit
set_option linter.unusedVariables false

/-- those in use are in use; what was taken has an elder generation -/
structure FR (mad : Nat) (tk : Nat → Bool) (gn : Nat → Nat) (In Old : List (Nat × Nat)) : Prop where
  i1 : ∀ e, e ∈ In → 1 ≤ e.1 ∧ e.1 ≤ mad ∧ tk e.1 = true
  nd : (In.map Prod.fst).Nodup
  o1 : ∀ e, e ∈ Old → 1 ≤ e.1 ∧ e.1 ≤ mad ∧ (tk e.1 = true → e.2 ≤ gn e.1) ∧ (tk e.1 = false → e.2 < gn e.1)
theorem FR.start (tk : Nat → Bool) (gn : Nat → Nat) : FR 0 tk gn [] [] := ⟨fun e h => by simp at h, List.nodup_nil, fun e h => by simp at h⟩
section
variable {mad : Nat} {tk : Nat → Bool} {gn : Nat → Nat} {In Old : List (Nat × Nat)}
theorem FR.give (s : FR mad tk gn In Old) {k : Nat} (hk : k < In.length) : FR mad (upd tk (In.getD k (0, 0)).1 false) (upd gn (In.getD k (0, 0)).1 (gn (In.getD k (0, 0)).1 + 1)) (In.take k ++ In.drop (k + 1)) Old := by
  have ek : In.getD k (0, 0) = In[k] := by simp [List.getD, hk]
  rw [ek, ← List.eraseIdx_eq_take_drop_succ]
  have ne : ∀ e, e ∈ In.eraseIdx k → e.1 ≠ (In[k]).1 := fun e he q => by
    obtain ⟨j, hj1, hj2, rfl⟩ := List.mem_eraseIdx_iff_getElem.1 he
    have p := List.pairwise_iff_getElem.1 s.nd
    have l : (In.map Prod.fst).length = In.length := List.length_map ..
    rcases Nat.lt_trichotomy j k with z | z | z
    · exact p j k (by omega) (by omega) z (by simpa using q)
    · exact hj2 z
    · exact p k j (by omega) (by omega) z (by simpa using q.symm)
  have tk1 := (s.i1 _ (List.getElem_mem hk)).2.2
  refine ⟨fun e he => ?_, ?_, fun e he => ?_⟩
  · rw [upd_ne _ _ (ne e he)]
    exact s.i1 e (List.mem_of_mem_eraseIdx he)
  · exact s.nd.sublist ((List.eraseIdx_sublist In k).map Prod.fst)
  · obtain ⟨a, b, c, d⟩ := s.o1 e he
    refine ⟨a, b, ?_⟩
    by_cases q : e.1 = (In[k]).1
    · rw [q, upd_at, upd_at]
      rw [q] at c
      exact ⟨fun z => (by cases z), fun _ => Nat.lt_succ_of_le (c tk1)⟩
    · rw [upd_ne _ _ q, upd_ne _ _ q]; exact ⟨c, d⟩
theorem FR.take (s : FR mad tk gn In Old) {id mad' : Nat} {gn' : Nat → Nat} (h1 : 1 ≤ id) (h2 : id ≤ mad') (hm : mad ≤ mad') (nt : id ≤ mad → tk id = false) (gs : ∀ x, x ≤ mad → gn' x = gn x) :
    (∀ e, e ∈ In → e.1 ≠ id) ∧ (∀ e, e ∈ Old → e ≠ (id, gn' id)) ∧ FR mad' (upd tk id true) gn' (In ++ [(id, gn' id)]) (Old ++ [(id, gn' id)]) := by
  have a1 : ∀ e, e ∈ In → e.1 ≠ id := fun e he q => by
    obtain ⟨a, b, c⟩ := s.i1 e he
    rw [q] at b c
    rw [nt b] at c; cases c
  refine ⟨a1, fun e he q => ?_, ?_, ?_, ?_⟩
  · obtain ⟨a, b, c, d⟩ := s.o1 e he
    rw [q] at b d
    have := d (nt b)
    rw [← gs id b] at this
    exact absurd this (Nat.lt_irrefl _)
  · intro e he
    rcases List.mem_append.1 he with q | q
    · obtain ⟨a, b, c⟩ := s.i1 e q
      rw [upd_ne _ _ (a1 e q)]
      exact ⟨a, Nat.le_trans b hm, c⟩
    · rw [List.mem_singleton.1 q, upd_at]
      exact ⟨h1, h2, rfl⟩
  · rw [List.map_append, List.nodup_append]
    refine ⟨s.nd, by simp, fun x hx y hy => ?_⟩
    obtain ⟨e, he, rfl⟩ := List.mem_map.1 hx
    simp at hy
    rw [hy]; exact a1 e he
  · intro e he
    rcases List.mem_append.1 he with q | q
    · obtain ⟨a, b, c, d⟩ := s.o1 e q
      refine ⟨a, Nat.le_trans b hm, ?_⟩
      rw [gs _ b]
      by_cases z : e.1 = id
      · rw [z, upd_at]
        rw [z] at b d
        exact ⟨fun _ => Nat.le_of_lt (d (nt b)), fun w => (by cases w)⟩
      · rw [upd_ne _ _ z]; exact ⟨c, d⟩
    · rw [List.mem_singleton.1 q, upd_at]
      exact ⟨h1, h2, fun _ => Nat.le_refl _, fun w => (by cases w)⟩
end

/-! ### the two lists in memory -/
/-- the block of a list of the law's own -/
def BB (W0 : World) (R : Nat → Nat) (pb : Nat) (v : Value) (j : Nat) : Prop := v.ownBlock = some j ∧ rp R pb j = 0 ∧ W0.heap.size ≤ j
theorem own_at (g n c : Nat) : (Value.slice (some ⟨g, 0, none⟩) n c).ownBlock = some g := rfl
section
variable {W0 : World} {R R' : Nat → Nat} {pb mb mm : Nat} {W rm cnt mad fre : Nat} {ws : List Nat} {a b : Nat} {h : Int} {tk : Nat → Bool} {gn : Nat → Nat} {F : List Nat} {vi vo : Value} {In Old : List (Nat × Nat)} {w w' : World}
/-- a store into one of the two lists leaves the pool as it was -/
theorem PL.aside {G : Nat → Prop} (s : PL W0 R pb mb mm W rm cnt mad fre ws a b h tk gn F w) (k : Keeps G w w') (hG : ∀ j, G j → rp R pb j = 0 ∧ W0.heap.size ≤ j) : PL W0 R pb mb mm W rm cnt mad fre ws a b h tk gn F w' := by
  obtain ⟨⟨g, p⟩, r, lo, o⟩ := s
  refine ⟨⟨g, ⟨p.row.keeps k (fun q => rp_at R pb (hG pb q).1), p.z, p.m.aside k (fun j hj q => hj (rp_sub (hG j q).1)), p.w1, p.w60, p.hk, p.ho, p.len, p.mr, p.al⟩⟩, r, lo, ⟨o.lo, o.b.trans (k.below o.b.size (fun j hj => (hG j hj).2))⟩⟩
theorem PL.fresh (s : PL W0 R pb mb mm W rm cnt mad fre ws a b h tk gn F w) {j : Nat} (hj : w.heap.size ≤ j) : rp R pb j = 0 ∧ W0.heap.size ≤ j := by
  obtain ⟨⟨g, p⟩, r, lo, o⟩ := s
  refine ⟨?_, Nat.le_trans o.b.size hj⟩
  have h1 := p.row.lt
  unfold rp
  rw [if_neg (by omega)]
  exact Decidable.byContradiction fun q => by have := p.m.hi j q; omega
end
theorem room2_le {rm mad j : Nat} (hm : mad ≤ j) (hr : rm ≤ 2 * j + 8) : room2 rm mad ≤ 2 * (j + 1) + 8 := by unfold room2 nroom; split <;> omega
end Go.Proofs.Ythigcabmmhjooaa
