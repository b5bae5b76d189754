/-
  haymowlaw10.PoolFresh in plain words: who is in use, what was taken ever; the law's two lists in memory beside the pool.
-/
import Derived.Test.YtbjdpkfcmkincaaPoolM
import Derived.Test.YtbjdpkfcmkincaaPairs
import Derived.Test.YtbjdpkfcmkincaaOps10
namespace Go.Proofs.Ytbjdpkfcmkincaa
open Go.RowKit
set_option linter.unusedVariables false

/-- those in use are in use; what was taken has an elder generation -/
structure FR (mad : Nat) (tk : Nat → Bool) (gn : Nat → Nat) (In Old : List (Nat × Nat)) : Prop where
  i1 : ∀ e, e ∈ In → 1 ≤ e.1 ∧ e.1 ≤ mad ∧ tk e.1 = true
  nd : (In.map Prod.fst).Nodup
  o1 : ∀ e, e ∈ Old → 1 ≤ e.1 ∧ e.1 ≤ mad ∧ (tk e.1 = true → e.2 ≤ gn e.1) ∧ (tk e.1 = false → e.2 < gn e.1)
theorem FR.start (tk : Nat → Bool) (gn : Nat → Nat) : FR 0 tk gn [] [] := ⟨fun e h => by simp at h, List.nodup_nil, fun e h => by simp at h⟩
section
variable {mad : Nat} {tk : Nat → Bool} {gn : Nat → Nat} {In Old : List (Nat × Nat)}
theorem FR.give (s : FR mad tk gn In Old) {k : Nat} (hk : k < In.length) : FR mad (upd tk (In.getD k (0, 0)).1 false) (upd gn (In.getD k (0, 0)).1 (gn (In.getD k (0, 0)).1 + 1)) (In.take k ++ In.drop (k + 1)) Old := by
  have ek : In.getD k (0, 0) = In[k] := by simp [List.getD, hk]
  rw [ek, ← List.eraseIdx_eq_take_drop_succ]
  have ne : ∀ e, e ∈ In.eraseIdx k → e.1 ≠ (In[k]).1 := fun e he q => by
    obtain ⟨j, hj1, hj2, rfl⟩ := List.mem_eraseIdx_iff_getElem.1 he
    have p := List.pairwise_iff_getElem.1 s.nd
    have l : (In.map Prod.fst).length = In.length := List.length_map ..
    rcases Nat.lt_trichotomy j k with z | z | z
    · exact p j k (by omega) (by omega) z (by simpa using q)
    · exact hj2 z
    · exact p k j (by omega) (by omega) z (by simpa using q.symm)
  have tk1 := (s.i1 _ (List.getElem_mem hk)).2.2
  refine ⟨fun e he => ?_, ?_, fun e he => ?_⟩
  · rw [upd_ne _ _ (ne e he)]
    exact s.i1 e (List.mem_of_mem_eraseIdx he)
  · exact s.nd.sublist ((List.eraseIdx_sublist In k).map Prod.fst)
  · obtain ⟨a, b, c, d⟩ := s.o1 e he
    refine ⟨a, b, ?_⟩
    by_cases q : e.1 = (In[k]).1
    · rw [q, upd_at, upd_at]
      rw [q] at c
      exact ⟨fun z => (by cases z), fun _ => Nat.lt_succ_of_le (c tk1)⟩
    · rw [upd_ne _ _ q, upd_ne _ _ q]; exact ⟨c, d⟩
theorem FR.take (s : FR mad tk gn In Old) {id mad' : Nat} {gn' : Nat → Nat} (h1 : 1 ≤ id) (h2 : id ≤ mad') (hm : mad ≤ mad') (nt : id ≤ mad → tk id = false) (gs : ∀ x, x ≤ mad → gn' x = gn x) :
    (∀ e, e ∈ In → e.1 ≠ id) ∧ (∀ e, e ∈ Old → e ≠ (id, gn' id)) ∧ FR mad' (upd tk id true) gn' (In ++ [(id, gn' id)]) (Old ++ [(id, gn' id)]) := by
  have a1 : ∀ e, e ∈ In → e.1 ≠ id := fun e he q => by
    obtain ⟨a, b, c⟩ := s.i1 e he
    rw [q] at b c
    rw [nt b] at c; cases c
  refine ⟨a1, fun e he q => ?_, ?_, ?_, ?_⟩
  · obtain ⟨a, b, c, d⟩ := s.o1 e he
    rw [q] at b d
    have := d (nt b)
    rw [← gs id b] at this
    exact absurd this (Nat.lt_irrefl _)
  · intro e he
    rcases List.mem_append.1 he with q | q
    · obtain ⟨a, b, c⟩ := s.i1 e q
      rw [upd_ne _ _ (a1 e q)]
      exact ⟨a, Nat.le_trans b hm, c⟩
    · rw [List.mem_singleton.1 q, upd_at]
      exact ⟨h1, h2, rfl⟩
  · rw [List.map_append, List.nodup_append]
    refine ⟨s.nd, by simp, fun x hx y hy => ?_⟩
    obtain ⟨e, he, rfl⟩ := List.mem_map.1 hx
    simp at hy
    rw [hy]; exact a1 e he
  · intro e he
    rcases List.mem_append.1 he with q | q
    · obtain ⟨a, b, c, d⟩ := s.o1 e q
      refine ⟨a, Nat.le_trans b hm, ?_⟩
      rw [gs _ b]
      by_cases z : e.1 = id
      · rw [z, upd_at]
        rw [z] at b d
        exact ⟨fun _ => Nat.le_of_lt (d (nt b)), fun w => (by cases w)⟩
      · rw [upd_ne _ _ z]; exact ⟨c, d⟩
    · rw [List.mem_singleton.1 q, upd_at]
      exact ⟨h1, h2, fun _ => Nat.le_refl _, fun w => (by cases w)⟩
end

/-! ### the two lists in memory -/
/-- the block of a list of the law's own -/
def BB (W0 : World) (R : Nat → Nat) (pb : Nat) (v : Value) (j : Nat) : Prop := v.ownBlock = some j ∧ rp R pb j = 0 ∧ W0.heap.size ≤ j
structure LF (W0 : World) (R : Nat → Nat) (pb : Nat) (vi vo : Value) (In Old : List (Nat × Nat)) (w : World) : Prop where
  qi : QO w (BB W0 R pb vi) vi In
  qo : QO w (BB W0 R pb vo) vo Old
  ne : ∀ g, vi.ownBlock = some g → vo.ownBlock ≠ some g
theorem own_at (g n c : Nat) : (Value.slice (some ⟨g, 0, none⟩) n c).ownBlock = some g := rfl
theorem QO.block {w : World} {B : Nat → Prop} {v : Value} {E : List (Nat × Nat)} (h : QO w B v E) {g : Nat} (e : v.ownBlock = some g) : g < w.heap.size ∧ B g := by
  rcases h with ⟨rfl, _⟩ | ⟨g', c, rfl, _, _, hB, r, _⟩
  · cases e
  · injection e with e; subst e; exact ⟨r.lt, hB⟩
section
variable {W0 : World} {R R' : Nat → Nat} {pb mb mm : Nat} {W rm cnt mad fre : Nat} {ws : List Nat} {a b : Nat} {h : Int} {tk : Nat → Bool} {gn : Nat → Nat} {F : List Nat} {vi vo : Value} {In Old : List (Nat × Nat)} {w w' : World}
theorem LF.tr (s : LF W0 R pb vi vo In Old w) (t : TR (rp R pb) (rp R' pb) w w') : LF W0 R' pb vi vo In Old w' := by
  have q : ∀ v j, j < w.heap.size → BB W0 R pb v j → BB W0 R' pb v j := fun v j hj z => ⟨z.1, Decidable.byContradiction fun y => (t.old j hj y) z.2.1, z.2.2⟩
  exact ⟨s.qi.keeps t.keeps (fun j _ z y => y z.2.1) (q vi), s.qo.keeps t.keeps (fun j _ z y => y z.2.1) (q vo), s.ne⟩
theorem LF.below (s : LF W0 R pb vi vo In Old w) (k : Below w.heap.size w w') : LF W0 R pb vi vo In Old w' := s.tr (TR.of k)
theorem LF.plain (s : LF W0 R pb vi vo In Old w) (t : TR R R w w') : LF W0 R pb vi vo In Old w' := s.tr (t.wip pb)
/-- a store into one of the two lists leaves the pool as it was -/
theorem PL.aside {G : Nat → Prop} (s : PL W0 R pb mb mm W rm cnt mad fre ws a b h tk gn F w) (k : Keeps G w w') (hG : ∀ j, G j → rp R pb j = 0 ∧ W0.heap.size ≤ j) : PL W0 R pb mb mm W rm cnt mad fre ws a b h tk gn F w' := by
  obtain ⟨⟨g, p⟩, r, lo, o⟩ := s
  refine ⟨⟨g, ⟨p.row.keeps k (fun q => rp_at R pb (hG pb q).1), p.z, p.m.aside k (fun j hj q => hj (rp_sub (hG j q).1)), p.w1, p.w60, p.hk, p.ho, p.len, p.mr, p.al⟩⟩, r, lo, ⟨o.lo, o.b.trans (k.below o.b.size (fun j hj => (hG j hj).2))⟩⟩
theorem PL.fresh (s : PL W0 R pb mb mm W rm cnt mad fre ws a b h tk gn F w) {j : Nat} (hj : w.heap.size ≤ j) : rp R pb j = 0 ∧ W0.heap.size ≤ j := by
  obtain ⟨⟨g, p⟩, r, lo, o⟩ := s
  refine ⟨?_, Nat.le_trans o.b.size hj⟩
  have h1 := p.row.lt
  unfold rp
  rw [if_neg (by omega)]
  exact Decidable.byContradiction fun q => by have := p.m.hi j q; omega
/-- the first list is one pair longer -/
theorem LF.pushi (s : LF W0 R pb vi vo In Old w) (p : PL W0 R pb mb mm W rm cnt mad fre ws a b h tk gn F w) {g c x y : Nat} (q : QO w' (fun j => BB W0 R pb vi j ∨ w.heap.size ≤ j) (.slice (some ⟨g, 0, none⟩) (In.length + 1) c) (In ++ [(x, y)])) (k : Keeps (fun j => vi.ownBlock = some j) w w') (l : vi.ownBlock = some g ∨ w.heap.size ≤ g) :
    LF W0 R pb (.slice (some ⟨g, 0, none⟩) (In.length + 1) c) vo (In ++ [(x, y)]) Old w' ∧ PL W0 R pb mb mm W rm cnt mad fre ws a b h tk gn F w' := by
  refine ⟨⟨?_, s.qo.keeps k (fun j _ z e => s.ne j e z.1) (fun _ _ z => z), fun g' e => ?_⟩, p.aside k (fun j e => (s.qi.block e).2.2)⟩
  · have e := q.block (own_at g _ c)
    rcases q with ⟨h0, _⟩ | ⟨g1, c1, e1, h1, h2, h3, h4, h5⟩
    · cases h0
    · refine .inr ⟨g1, c1, e1, h1, h2, ?_, h4, h5⟩
      injection e1 with e1; injection e1 with e1; injection e1 with e1
      subst e1
      refine ⟨rfl, ?_⟩
      rcases h3 with z | z
      · exact z.2
      · exact p.fresh z
  · replace e : some g = some g' := e
    injection e with e; subst e
    rcases l with l | l
    · exact s.ne g l
    · intro z
      have := (s.qo.block z).1
      omega
/-- the second one is -/
theorem LF.pusho (s : LF W0 R pb vi vo In Old w) (p : PL W0 R pb mb mm W rm cnt mad fre ws a b h tk gn F w) {g c x y : Nat} (q : QO w' (fun j => BB W0 R pb vo j ∨ w.heap.size ≤ j) (.slice (some ⟨g, 0, none⟩) (Old.length + 1) c) (Old ++ [(x, y)])) (k : Keeps (fun j => vo.ownBlock = some j) w w') (l : vo.ownBlock = some g ∨ w.heap.size ≤ g) :
    LF W0 R pb vi (.slice (some ⟨g, 0, none⟩) (Old.length + 1) c) In (Old ++ [(x, y)]) w' ∧ PL W0 R pb mb mm W rm cnt mad fre ws a b h tk gn F w' := by
  have t : LF W0 R pb vo vi Old In w := ⟨s.qo, s.qi, fun g e z => s.ne g z e⟩
  obtain ⟨r, p'⟩ := t.pushi p q k l
  exact ⟨⟨r.qo, r.qi, fun g e z => r.ne g z e⟩, p'⟩
/-- the first list is another one, in a block of its own -/
theorem LF.other (s : LF W0 R pb vi vo In Old w) (p : PL W0 R pb mb mm W rm cnt mad fre ws a b h tk gn F w) (k : Below w.heap.size w w') {v : Value} {E : List (Nat × Nat)} (q : QO w' (fun j => w.heap.size ≤ j) v E) : LF W0 R pb v vo E Old w' := by
  refine ⟨?_, (s.below k).qo, fun g e z => ?_⟩
  · rcases q with q | ⟨g1, c1, e1, h1, h2, h3, h4, h5⟩
    · exact .inl q
    · exact .inr ⟨g1, c1, e1, h1, h2, ⟨by rw [e1]; rfl, p.fresh h3⟩, h4, h5⟩
  · have h1 := (q.block e).2
    have h2 := (s.qo.block z).1
    omega
end
/-- what the law's loop keeps -/
structure LP (W0 : World) (R : Nat → Nat) (pb mb mm : Nat) (j rm cnt mad fre : Nat) (ws : List Nat) (a b : Nat) (h : Int) (tk : Nat → Bool) (gn : Nat → Nat) (F : List Nat) (vi vo : Value) (In Old : List (Nat × Nat)) (w : World) : Prop where
  p : PL W0 R pb mb mm 2 rm cnt mad fre ws a b h tk gn F w
  l : LF W0 R pb vi vo In Old w
  f : FR mad tk gn In Old
  c : cnt = In.length
  m : mad ≤ j
  r : rm ≤ 2 * j + 8
  n : In.length ≤ j
  o : Old.length ≤ j
  g : ∀ x, gn x ≤ j
theorem room2_le {rm mad j : Nat} (hm : mad ≤ j) (hr : rm ≤ 2 * j + 8) : room2 rm mad ≤ 2 * (j + 1) + 8 := by unfold room2 nroom; split <;> omega
end Go.Proofs.Ytbjdpkfcmkincaa
