/-
  PoolPlays: the program's pool and the document's state beside each other; each call at both. No walk.
-/
import Derived.Test.YthigcabmmhjooaaPlaysP
import Derived.Test.YthigcabmmhjooaaEntE
import Derived.Test.YthigcabmmhjooaaEntF
import Derived.Test.YthigcabmmhjooaaEntG
import Derived.Test.YthigcabmmhjooaaEntH
namespace Go.Proofs.Ythigcabmmhjooaa
open Go.RowKit
set_option linter.unusedVariables false

/-- both, in blocks apart; D: the boxes of the law's own -/
structure Bo (W0 : World) (D R : Nat → Nat) (pb mb mm W k rm a b : Nat) (v f : Value) (L : List Ent) (Fr : List Nat) (w : World) : Prop where
  s : ∃ (mad cnt fre : Nat) (ws : List Nat) (h : Int) (tk : Nat → Bool) (gn : Nat → Nat) (F : List Nat), PL W0 R pb mb mm W rm cnt mad fre ws a b h tk gn F w ∧ MT k W rm mad ws h tk gn F cnt L Fr
  st : ST w (fun j => rp R pb j = 0 ∧ D j = 0) v f L Fr
  dl : ∀ j, D j ≠ 0 → j < w.heap.size
  dz : ∀ j, D j ≠ 0 → rp R pb j = 0
  ab : a + b ≤ 70 * k + 100000
theorem addv_few {x n : Nat} (hx : x ≤ 1000000) (hn : n ≤ 1000) : addv x n = x + n := addv_t (by unfold N128; omega)
theorem addv_two {x m n : Nat} (hx : x ≤ 900000) (hm : m ≤ 1000) (hn : n ≤ 1000) : addv (addv x m) n = x + m + n := by
  rw [addv_few (x := x) (by omega) hm, addv_few (by omega) hn]
section
variable {W0 : World} {D R R' : Nat → Nat} {pb mb mm W k rm rm' a b a' b' cnt mad fre : Nat} {ws : List Nat} {h : Int} {tk : Nat → Bool} {gn : Nat → Nat} {F : List Nat} {v f : Value} {L : List Ent} {Fr : List Nat} {w w' : World}
theorem PL.beyond (s : PL W0 R pb mb mm W rm cnt mad fre ws a b h tk gn F w) {j : Nat} (hj : w.heap.size ≤ j) : rp R pb j = 0 := by
  obtain ⟨⟨g, p⟩, r, lo, o⟩ := s
  refine Decidable.byContradiction fun q => ?_
  rcases rp_of q with e | e
  · have := p.row.lt; omega
  · have := p.m.hi j e; omega
theorem ST.after (st : ST w (fun j => rp R pb j = 0 ∧ D j = 0) v f L Fr) (t : TR (rp R pb) (rp R' pb) w w') : ST w' (fun j => rp R' pb j = 0 ∧ D j = 0) v f L Fr :=
  st.keeps t.keeps (fun j _ q z => z q.1) (fun j hj q => ⟨Decidable.byContradiction (fun z => t.old j hj z q.1), q.2⟩)
theorem dz_after (dl : ∀ j, D j ≠ 0 → j < w.heap.size) (dz : ∀ j, D j ≠ 0 → rp R pb j = 0) (t : TR (rp R pb) (rp R' pb) w w') : ∀ j, D j ≠ 0 → rp R' pb j = 0 :=
  fun j hj => Decidable.byContradiction (fun z => t.old j (dl j hj) z (dz j hj))
theorem Bo.below (S : Bo W0 D R pb mb mm W k rm a b v f L Fr w) (kb : Below w.heap.size w w') : Bo W0 D R pb mb mm W k rm a b v f L Fr w' := by
  obtain ⟨⟨mad, cnt, fre, ws, h, tk, gn, F, p, m⟩, st, dl, dz, ab⟩ := S
  exact ⟨⟨mad, cnt, fre, ws, h, tk, gn, F, p.below kb, m⟩, st.below kb, fun j hj => Nat.lt_of_lt_of_le (dl j hj) kb.size, dz, ab⟩
/-- a store into a box of the law's own -/
theorem PL.plain {q : Nat} (p : PL W0 R pb mb mm W rm cnt mad fre ws a b h tk gn F w) (hq : rp R pb q = 0) (hW : W0.heap.size ≤ q) (i : Nat) (x : Value) : PL W0 R pb mb mm W rm cnt mad fre ws a b h tk gn F (w.setCell ⟨q, i, none⟩ x) := by
  obtain ⟨⟨g, p⟩, r, lo, o⟩ := p
  have hpb : q ≠ pb := fun e => rp_at R pb (e ▸ hq)
  exact ⟨⟨g, p.row.far (p := ⟨q, i, none⟩) x hpb, p.z, p.m.store (rp_sub hq) i x, p.w1, p.w60, p.hk, p.ho, p.len, p.mr, p.al⟩, r, lo, ⟨o.lo, o.b.setCell (p := ⟨q, i, none⟩) hW x⟩⟩
theorem Bo.store (S : Bo W0 D R pb mb mm W k rm a b v f L Fr w) {q : Nat} (hq : D q ≠ 0) (hW : W0.heap.size ≤ q) (i : Nat) (x : Value) : Bo W0 D R pb mb mm W k rm a b v f L Fr (w.setCell ⟨q, i, none⟩ x) := by
  obtain ⟨⟨mad, cnt, fre, ws, h, tk, gn, F, p, m⟩, st, dl, dz, ab⟩ := S
  exact ⟨⟨mad, cnt, fre, ws, h, tk, gn, F, p.plain (dz q hq) hW i x, m⟩, st.keeps (Keeps.set (F := fun j => j = q) w q i x rfl) (fun j _ z e => hq (e ▸ z.2)) (fun _ _ z => z), fun j hj => by simpa using dl j hj, dz, ab⟩
theorem Bo.store4 (S : Bo W0 D R pb mb mm W k rm a b v f L Fr w) {q : Nat} (hq : D q ≠ 0) (hW : W0.heap.size ≤ q) (x0 x1 x2 x3 : Value) : Bo W0 D R pb mb mm W k rm a b v f L Fr ((((w.setCell ⟨q, 0, none⟩ x0).setCell ⟨q, 1, none⟩ x1).setCell ⟨q, 2, none⟩ x2).setCell ⟨q, 3, none⟩ x3) :=
  (((S.store hq hW 0 x0).store hq hW 1 x1).store hq hW 2 x2).store hq hW 3 x3
/-- more boxes of the law's own, new ones -/
theorem Bo.grow (S : Bo W0 D R pb mb mm W k rm a b v f L Fr w) {D' : Nat → Nat} (kb : Below w.heap.size w w') (h1 : ∀ j, j < w.heap.size → D' j = D j) (h2 : ∀ j, D' j ≠ 0 → j < w'.heap.size) : Bo W0 D' R pb mb mm W k rm a b v f L Fr w' := by
  obtain ⟨⟨mad, cnt, fre, ws, h, tk, gn, F, p, m⟩, st, dl, dz, ab⟩ := S
  refine ⟨⟨mad, cnt, fre, ws, h, tk, gn, F, p.below kb, m⟩, st.keeps (Keeps.of (F := fun _ => False) kb) (fun _ _ _ q => q) (fun j hj q => ⟨q.1, by rw [h1 j hj]; exact q.2⟩), h2, fun j hj => ?_, ab⟩
  by_cases c : j < w.heap.size
  · exact dz j (by rw [← h1 j c]; exact hj)
  · exact p.beyond (by omega)
theorem Bo.less (S : Bo W0 D R pb mb mm W k rm a b v f L Fr w) {D' : Nat → Nat} (h1 : ∀ j, D' j ≠ 0 → D j ≠ 0) : Bo W0 D' R pb mb mm W k rm a b v f L Fr w := by
  obtain ⟨s, st, dl, dz, ab⟩ := S
  exact ⟨s, st.mono (fun j q => ⟨q.1, Decidable.byContradiction fun z => h1 j z q.2⟩), fun j hj => dl j (h1 j hj), fun j hj => dz j (h1 j hj), ab⟩
theorem MT.lens (m : MT k W rm mad ws h tk gn F cnt L Fr) (hk : k ≤ 80) (hW : W ≤ 60) : L.length ≤ 80 ∧ rm ≤ 168 ∧ cnt ≤ 80 ∧ Fr.length ≤ 80 ∧ (∀ x, gn x ≤ 80) ∧ ∀ i, i < L.length → (entw L i).length ≤ 1000 :=
  ⟨by rw [m.len]; have := m.kk; omega, by have := m.rb; have := m.kk; omega, by have := m.cle; have := m.kk; omega, by have := m.fl; omega, fun x => by have := m.gb x; omega, fun i hi => by rw [m.wl i (by rw [← m.len]; exact hi)]; omega⟩
/-- what both leave behind a call -/
theorem bo_done (P1 : PL W0 R' pb mb mm W rm' cnt mad fre ws a' b' h tk gn F w) (M : MT k W rm' mad ws h tk gn F cnt L Fr) {v' f' : Value} (S2 : ST w' (fun j => w.heap.size ≤ j) v' f' L Fr) (B2 : Below w.heap.size w w') (dl : ∀ j, D j ≠ 0 → j < w.heap.size) (dz : ∀ j, D j ≠ 0 → rp R' pb j = 0) (ab : a' + b' ≤ 70 * k + 100000) : Bo W0 D R' pb mb mm W k rm' a' b' v' f' L Fr w' :=
  ⟨⟨mad, cnt, fre, ws, h, tk, gn, F, P1.below B2, M⟩, S2.mono (fun j hj => ⟨P1.beyond hj, Decidable.byContradiction fun z => by have := dl j z; omega⟩), fun j hj => Nat.lt_of_lt_of_le (dl j hj) B2.size, dz, ab⟩
theorem Bo.take (S : Bo W0 D R pb mb mm W k rm a b v f L Fr w) (hk : k ≤ 79) : ∃ (id rm' a' b' : Nat) (L' : List Ent) (Fr' : List Nat), (a ≤ a' ∧ b ≤ b' ∧ a' + b' ≤ a + b + (3 + W)) ∧ Calls Try.prog 24 #[at0 pb] w fun e w1 => ∃ R', e = .returned (.tuple #[.int .i64 (id : Int), .int .i64 0]) ∧ TR (rp R pb) (rp R' pb) w w1 ∧
    Calls Try.prog 31 #[estv (W : Int) v f (rm : Int)] w1 fun e w2 => ∃ v' f', e = .returned (.tuple #[estv (W : Int) v' f' (rm' : Int), .int .i64 (id : Int)]) ∧ Below w1.heap.size w1 w2 ∧ Bo W0 D R' pb mb mm W (k + 1) rm' a' b' v' f' L' Fr' w2 := by
  obtain ⟨⟨mad, cnt, fre, ws, h, tk, gn, F, p, m⟩, st, dl, dz, ab⟩ := S
  have w60 : W ≤ 60 := by obtain ⟨⟨g, q⟩, _⟩ := p; exact q.w60
  have mr : mad ≤ rm := by obtain ⟨⟨g, q⟩, _⟩ := p; exact q.mr
  obtain ⟨l1, l2, l3, l4, l5, l6⟩ := m.lens (by omega) w60
  have ml := m.len
  obtain ⟨id, rm', mad', fre', ws', gn', F', a', h', T, K, C⟩ := p.take (by omega) (by omega) (by omega) (fun x => by have := l5 x; omega)
  have eb : addv (addv b 1) W = b + 1 + W := addv_two (by omega) (by omega) (by omega)
  rcases K with ⟨e0, rfl, rfl, e1, e2, e3, e6⟩ | ⟨e0, e1, e2, e3, e6, e4⟩
  · obtain ⟨f0, M⟩ := m.take_new T e0 e1 e2 e3 mr w60 (by omega)
    refine ⟨mad + 1, rm', a', addv (addv b 1) W, L ++ [(true, 0, List.replicate W 0)], [], ⟨by omega, by omega, by omega⟩, C.mono ?_⟩
    rintro e w1 ⟨R', rfl, P1, T1⟩
    subst f0
    refine ⟨R', rfl, T1, (etake_new W rm v f L _ w1 (st.after T1) (by omega) (by omega) l6 (by omega)).mono ?_⟩
    rintro e w2 ⟨v', f', rfl, S2, B2⟩
    exact ⟨v', f', by rw [e1, ml], B2, bo_done P1 M S2 B2 (fun j hj => Nat.lt_of_lt_of_le (dl j hj) T1.keeps.size) (dz_after dl dz T1) (by omega)⟩
  · obtain ⟨k0, rfl, k1, f0, M⟩ := m.take_re T e0 e1 e2 e3 e4
    have ea : a' = a + 1 := by rw [e6, addv_few (by omega) (by omega)]
    refine ⟨k0 + 1, rm', a', addv (addv b 1) W, L.set k0 (true, entg L k0, List.replicate W 0), F'.reverse, ⟨by omega, by omega, by omega⟩, C.mono ?_⟩
    rintro e w1 ⟨R', rfl, P1, T1⟩
    rw [f0] at st l4
    refine ⟨R', rfl, T1, (etake_re W (rm : Int) k0 v f L F'.reverse _ w1 (st.after T1) (by omega) (by simp at l4 ⊢; omega) l6 (by omega) (by omega)).mono ?_⟩
    rintro e w2 ⟨v', f', rfl, S2, B2⟩
    exact ⟨v', f', by rw [e2], B2, bo_done P1 M S2 B2 (fun j hj => Nat.lt_of_lt_of_le (dl j hj) T1.keeps.size) (dz_after dl dz T1) (by omega)⟩
theorem rda_le (mad : Nat) (id : Int) (ha : a ≤ 1000000) : a ≤ rda mad id a ∧ rda mad id a ≤ a + 1 := by
  unfold rda
  split
  · rw [addv_few ha (by omega)]; omega
  · omega
/-- a call that leaves the pool as it is, some reads aside -/
theorem bo_same (st : ST w (fun j => rp R pb j = 0 ∧ D j = 0) v f L Fr) (P1 : PL W0 R pb mb mm W rm cnt mad fre ws a' b' h tk gn F w') (M : MT k W rm mad ws h tk gn F cnt L Fr) (T1 : TR (rp R pb) (rp R pb) w w') (dl : ∀ j, D j ≠ 0 → j < w.heap.size) (dz : ∀ j, D j ≠ 0 → rp R pb j = 0) (ab : a' + b' ≤ 70 * k + 100000) : Bo W0 D R pb mb mm W k rm a' b' v f L Fr w' :=
  ⟨⟨mad, cnt, fre, ws, h, tk, gn, F, P1, M⟩, st.after T1, fun j hj => Nat.lt_of_lt_of_le (dl j hj) T1.keeps.size, dz, ab⟩
theorem PL.again {a' : Nat} {g : Int} (p : PL W0 R pb mb mm W rm cnt mad fre ws a b h tk gn F w) (p' : PP w' R pb mb mm [(true, ws)] 0 W rm cnt mad fre a' b' h g) (t : TR R R w w') : PL W0 R pb mb mm W rm cnt mad fre ws a' b' h tk gn F w' := by
  obtain ⟨_, r, lo, o⟩ := p
  exact ⟨⟨g, p'⟩, r, lo, o.step t⟩
theorem Bo.give (S : Bo W0 D R pb mb mm W k rm a b v f L Fr w) (hk : k ≤ 79) (id : Int) : ∃ (c : Int) (a' b' : Nat) (L' : List Ent) (Fr' : List Nat), (a ≤ a' ∧ b ≤ b' ∧ a' + b' ≤ a + b + 3) ∧ Calls Try.prog 28 #[at0 pb, .int .i64 id] w fun e w1 => ∃ R', e = .returned (.int .i64 c) ∧ TR (rp R pb) (rp R' pb) w w1 ∧
    Calls Try.prog 32 #[estv (W : Int) v f (rm : Int), .int .i64 id] w1 fun e w2 => ∃ v' f', e = .returned (.tuple #[estv (W : Int) v' f' (rm : Int), .int .i64 c]) ∧ Below w1.heap.size w1 w2 ∧ Bo W0 D R' pb mb mm W (k + 1) rm a' b' v' f' L' Fr' w2 := by
  obtain ⟨⟨mad, cnt, fre, ws, h, tk, gn, F, p, m⟩, st, dl, dz, ab⟩ := S
  have w60 : W ≤ 60 := by obtain ⟨⟨g, q⟩, _⟩ := p; exact q.w60
  obtain ⟨l1, l2, l3, l4, l5, l6⟩ := m.lens (by omega) w60
  have ml := m.len
  have it := m.istk p.r id
  cases hq : isq L id
  · rw [hq] at it
    obtain ⟨r1, r2⟩ := rda_le (a := a) mad id (by omega)
    have p0 := p
    obtain ⟨⟨g, pp⟩, r, lo, o⟩ := p0
    refine ⟨4, rda mad id a, b, L, Fr, ⟨r1, Nat.le_refl _, by omega⟩, (pgive_no (L := [(true, ws)]) (k := 0) id it w pp).mono ?_⟩
    rintro e w1 ⟨rfl, p1, t1⟩
    have T1 := t1.wip pb
    have P1 := p.again p1 t1
    refine ⟨R, rfl, T1, (egive_no (W : Int) (rm : Int) id v f L Fr _ w1 (st.after T1) (by omega) hq).mono ?_⟩
    rintro e w2 ⟨rfl, B2⟩
    exact ⟨v, f, rfl, B2, (bo_same st P1 m.up T1 dl dz (by omega)).below B2⟩
  · obtain ⟨k0, rfl, k1, ht⟩ := isq_of hq
    rw [ml] at k1
    have ht' : tk (k0 + 1) = true := by rw [← m.t k0 k1]; exact ht
    obtain ⟨c1, M⟩ := m.give (x := 2 * fre + 4194304 * (gn (k0 + 1) + 1)) k1 ht' (p.place (by omega) (by omega) (Nat.zero_le _))
    have e1 : addv (addv a 1) 1 = a + 1 + 1 := addv_two (by omega) (by omega) (by omega)
    have e2 : addv b 1 = b + 1 := addv_few (by omega) (by omega)
    refine ⟨0, addv (addv a 1) 1, addv b 1, L.set k0 (false, entg L k0 + 1, entw L k0), Fr ++ [k0 + 1], ⟨by omega, by omega, by omega⟩, (p.give (id := k0 + 1) (by omega) (by omega) ht' (by have := l5 (k0 + 1); omega) c1 (by omega)).mono ?_⟩
    rintro e w1 ⟨rfl, P1, T1⟩
    refine ⟨R, rfl, T1, (egive_ok (W : Int) (rm : Int) k0 v f L Fr _ w1 (st.after T1) (by omega) (by omega) l6 (by omega) (by rw [m.g k0 k1]; have := l5 (k0 + 1); omega) hq).mono ?_⟩
    rintro e w2 ⟨v', f', rfl, S2, B2⟩
    exact ⟨v', f', rfl, B2, bo_done P1 M S2 B2 (fun j hj => Nat.lt_of_lt_of_le (dl j hj) T1.keeps.size) (dz_after dl dz T1) (by omega)⟩
theorem wrongq_yes {W : Nat} {id word : Int} (h : wrongq L W id word = 0) : ∃ k0 j : Nat, id = ((k0 + 1 : Nat) : Int) ∧ word = (j : Int) ∧ k0 < L.length ∧ entt L k0 = true ∧ j < W := by
  unfold wrongq at h
  cases hq : isq L id
  · rw [hq] at h; simp at h
  · rw [hq, if_pos rfl] at h
    obtain ⟨k0, e, k1, ht⟩ := isq_of hq
    by_cases z : 0 ≤ word ∧ word < (W : Int)
    · exact ⟨k0, word.toNat, e, by omega, k1, ht, by omega⟩
    · rw [if_neg z] at h; simp at h
theorem Bo.set (S : Bo W0 D R pb mb mm W k rm a b v f L Fr w) (hk : k ≤ 79) (id word : Int) (x : Nat) (hx : x < 18446744073709551616) : ∃ (c : Int) (a' b' : Nat) (L' : List Ent) (Fr' : List Nat), (a ≤ a' ∧ b ≤ b' ∧ a' + b' ≤ a + b + 2) ∧ Calls Try.prog 34 #[at0 pb, .int .i64 id, .int .i64 word, .int .u64 (x : Int)] w fun e w1 => ∃ R', e = .returned (.int .i64 c) ∧ TR (rp R pb) (rp R' pb) w w1 ∧
    Calls Try.prog 35 #[estv (W : Int) v f (rm : Int), .int .i64 id, .int .i64 word, .int .u64 (x : Int)] w1 fun e w2 => ∃ v' f', e = .returned (.tuple #[estv (W : Int) v' f' (rm : Int), .int .i64 c]) ∧ Below w1.heap.size w1 w2 ∧ Bo W0 D R' pb mb mm W (k + 1) rm a' b' v' f' L' Fr' w2 := by
  obtain ⟨⟨mad, cnt, fre, ws, h, tk, gn, F, p, m⟩, st, dl, dz, ab⟩ := S
  have w60 : W ≤ 60 := by obtain ⟨⟨g, q⟩, _⟩ := p; exact q.w60
  obtain ⟨l1, l2, l3, l4, l5, l6⟩ := m.lens (by omega) w60
  have ml := m.len
  have it := m.wrong p.r id word
  by_cases hq : wrongq L W id word = 0
  · obtain ⟨k0, j, rfl, rfl, k1, ht, hj⟩ := wrongq_yes hq
    rw [ml] at k1
    have ht' : tk (k0 + 1) = true := by rw [← m.t k0 k1]; exact ht
    have M := m.set (v := x) k1 hj (p.place (by omega) (by omega) (by omega))
    have e1 : addv a 1 = a + 1 := addv_few (by omega) (by omega)
    have e2 : addv b 1 = b + 1 := addv_few (by omega) (by omega)
    refine ⟨0, addv a 1, addv b 1, L.set k0 (entt L k0, entg L k0, (entw L k0).set j x), Fr, ⟨by omega, by omega, by omega⟩, (p.set (id := k0 + 1) hx (by omega) (by omega) ht' hj).mono ?_⟩
    rintro e w1 ⟨rfl, P1, t1⟩
    have T1 := t1.wip pb
    refine ⟨R, rfl, T1, (eset_ok W (rm : Int) k0 j x v f L Fr _ w1 (st.after T1) (by omega) (by omega) l6 (by omega) (by rw [m.wl k0 k1]; exact hj) hq).mono ?_⟩
    rintro e w2 ⟨v', f', rfl, S2, B2⟩
    exact ⟨v', f', rfl, B2, bo_done P1 M S2 B2 (fun j hj => Nat.lt_of_lt_of_le (dl j hj) T1.keeps.size) (dz_after dl dz T1) (by omega)⟩
  · obtain ⟨r1, r2⟩ := rda_le (a := a) mad id (by omega)
    obtain ⟨⟨g, pp⟩, r, lo, o⟩ := p
    have C := pset_no (L := [(true, ws)]) (k := 0) id word (x : Int) (by rw [one_wds, it]; exact hq) w pp
    rw [one_wds, it] at C
    refine ⟨wrongq L W id word, rda mad id a, b, L, Fr, ⟨r1, Nat.le_refl _, by omega⟩, C.mono ?_⟩
    rintro e w1 ⟨rfl, p1, t1⟩
    have T1 := t1.wip pb
    have P1 := PL.again ⟨⟨g, pp⟩, r, lo, o⟩ p1 t1
    refine ⟨R, rfl, T1, (eset_no W (rm : Int) id word (x : Int) v f L Fr _ w1 (st.after T1) (by omega) hq).mono ?_⟩
    rintro e w2 ⟨rfl, B2⟩
    exact ⟨v, f, rfl, B2, (bo_same st P1 m.up T1 dl dz (by omega)).below B2⟩
theorem Bo.get (S : Bo W0 D R pb mb mm W k rm a b v f L Fr w) (hk : k ≤ 80) (hab : a + b + 2 ≤ 70 * k + 100000) (id word : Int) : ∃ (x a' b' : Nat), (a ≤ a' ∧ b ≤ b' ∧ a' + b' ≤ a + b + 2) ∧ (¬ wrongq L W id word = 0 → x = 0) ∧ (wrongq L W id word = 0 → x = (entw L (id.toNat - 1)).getD word.toNat 0 ∧ (entw L (id.toNat - 1)).length = W) ∧ L.length ≤ 80 ∧ Calls Try.prog 18 #[at0 pb, .int .i64 id, .int .i64 word] w fun e w1 => e = .returned (.tuple #[.int .u64 (x : Int), .int .i64 (wrongq L W id word)]) ∧ TR (rp R pb) (rp R pb) w w1 ∧ Bo W0 D R pb mb mm W k rm a' b' v f L Fr w1 := by
  obtain ⟨⟨mad, cnt, fre, ws, h, tk, gn, F, p, m⟩, st, dl, dz, ab⟩ := S
  have w60 : W ≤ 60 := by obtain ⟨⟨g, q⟩, _⟩ := p; exact q.w60
  obtain ⟨l1, l2, l3, l4, l5, l6⟩ := m.lens (by omega) w60
  have ml := m.len
  have it := m.wrong p.r id word
  by_cases hq : wrongq L W id word = 0
  · obtain ⟨k0, j, rfl, rfl, k1, ht, hj⟩ := wrongq_yes hq
    rw [ml] at k1
    have ht' : tk (k0 + 1) = true := by rw [← m.t k0 k1]; exact ht
    have e1 : addv (addv a 1) 1 = a + 1 + 1 := addv_two (by omega) (by omega) (by omega)
    refine ⟨ws.getD (lk (W + 1) (k0 + 1) (j + 1)) 0, addv (addv a 1) 1, b, ⟨by omega, by omega, by omega⟩, fun z => absurd hq z, fun _ => ⟨?_, ?_⟩, l1, (p.get (id := k0 + 1) (by omega) (by omega) ht' hj).mono ?_⟩
    · rw [Int.toNat_natCast, Int.toNat_natCast, Nat.add_sub_cancel, m.ww k0 j k1 ht' hj]
    · rw [Int.toNat_natCast, Nat.add_sub_cancel]; exact m.wl k0 k1
    · rintro e w1 ⟨rfl, P1, t1⟩
      have T1 := t1.wip pb
      exact ⟨by rw [hq], T1, bo_same st P1 m T1 dl dz (by omega)⟩
  · obtain ⟨r1, r2⟩ := rda_le (a := a) mad id (by omega)
    obtain ⟨⟨g, pp⟩, r, lo, o⟩ := p
    have C := pget_no (L := [(true, ws)]) (k := 0) id word (by rw [one_wds, it]; exact hq) w pp
    rw [one_wds, it] at C
    refine ⟨0, rda mad id a, b, ⟨r1, Nat.le_refl _, by omega⟩, fun _ => rfl, fun z => absurd z hq, l1, C.mono ?_⟩
    rintro e w1 ⟨rfl, p1, t1⟩
    have T1 := t1.wip pb
    exact ⟨rfl, T1, bo_same st (PL.again ⟨⟨g, pp⟩, r, lo, o⟩ p1 t1) m T1 dl dz (by omega)⟩
/-- Gen, Taken: a step at the most -/
theorem Bo.gen (S : Bo W0 D R pb mb mm W k rm a b v f L Fr w) (hk : k ≤ 80) (hab : a + b + 1 ≤ 70 * k + 100000) (id : Int) : ∃ a', (a ≤ a' ∧ a' ≤ a + 1) ∧ ∀ w0, Below w.heap.size w w0 → Calls Try.prog 16 #[at0 pb, .int .i64 id] w0 fun e w1 => e = .returned (.int .i64 ((genq L id : Nat) : Int)) ∧ TR (rp R pb) (rp R pb) w0 w1 ∧ Bo W0 D R pb mb mm W k rm a' b v f L Fr w1 := by
  have S0 := S
  obtain ⟨⟨mad, cnt, fre, ws, h, tk, gn, F, p, m⟩, st, dl, dz, ab⟩ := S0
  obtain ⟨r1, r2⟩ := rda_le (a := a) mad id (by omega)
  have it := m.gen p.r id
  refine ⟨rda mad id a, ⟨r1, r2⟩, fun w0 kb => ?_⟩
  obtain ⟨⟨g, pp⟩, r, lo, o⟩ := p.below kb
  have C := pgen_any (L := [(true, ws)]) (k := 0) id w0 pp
  rw [one_wds, it] at C
  refine C.mono ?_
  rintro e w1 ⟨rfl, p1, t1⟩
  have T1 := t1.wip pb
  exact ⟨rfl, T1, bo_same (st.below kb) (PL.again ⟨⟨g, pp⟩, r, lo, o⟩ p1 t1) m T1 (fun j hj => Nat.lt_of_lt_of_le (dl j hj) kb.size) dz (by omega)⟩
theorem Bo.is (S : Bo W0 D R pb mb mm W k rm a b v f L Fr w) (hk : k ≤ 80) (hab : a + b + 1 ≤ 70 * k + 100000) (id : Int) : ∃ a', (a ≤ a' ∧ a' ≤ a + 1) ∧ ∀ w0, Below w.heap.size w w0 → Calls Try.prog 17 #[at0 pb, .int .i64 id] w0 fun e w1 => e = .returned (.bool (isq L id)) ∧ TR (rp R pb) (rp R pb) w0 w1 ∧ Bo W0 D R pb mb mm W k rm a' b v f L Fr w1 := by
  have S0 := S
  obtain ⟨⟨mad, cnt, fre, ws, h, tk, gn, F, p, m⟩, st, dl, dz, ab⟩ := S0
  obtain ⟨r1, r2⟩ := rda_le (a := a) mad id (by omega)
  have it := m.istk p.r id
  refine ⟨rda mad id a, ⟨r1, r2⟩, fun w0 kb => ?_⟩
  obtain ⟨⟨g, pp⟩, r, lo, o⟩ := p.below kb
  have C := ptaken_any (L := [(true, ws)]) (k := 0) id w0 pp
  rw [one_wds, it] at C
  refine C.mono ?_
  rintro e w1 ⟨rfl, p1, t1⟩
  have T1 := t1.wip pb
  exact ⟨rfl, T1, bo_same (st.below kb) (PL.again ⟨⟨g, pp⟩, r, lo, o⟩ p1 t1) m T1 (fun j hj => Nat.lt_of_lt_of_le (dl j hj) kb.size) dz (by omega)⟩
theorem Bo.up (S : Bo W0 D R pb mb mm W k rm a b v f L Fr w) : Bo W0 D R pb mb mm W (k + 1) rm a b v f L Fr w := by
  obtain ⟨⟨mad, cnt, fre, ws, h, tk, gn, F, p, m⟩, st, dl, dz, ab⟩ := S
  exact ⟨⟨mad, cnt, fre, ws, h, tk, gn, F, p, m.up⟩, st, dl, dz, by omega⟩
theorem Bo.lens (S : Bo W0 D R pb mb mm W k rm a b v f L Fr w) (hk : k ≤ 80) : L.length ≤ 80 ∧ rm ≤ 168 ∧ W ≤ 60 ∧ ∀ i, i < L.length → (entw L i).length = W := by
  obtain ⟨⟨mad, cnt, fre, ws, h, tk, gn, F, p, m⟩, st, dl, dz, ab⟩ := S
  have w60 : W ≤ 60 := by obtain ⟨⟨g, q⟩, _⟩ := p; exact q.w60
  obtain ⟨l1, l2, l3, l4, l5, l6⟩ := m.lens hk w60
  exact ⟨l1, l2, w60, fun i hi => m.wl i (by rw [← m.len]; exact hi)⟩
theorem Bo.gens (S : Bo W0 D R pb mb mm W k rm a b v f L Fr w) (hk : k ≤ 80) {i : Nat} (hi : i < L.length) : entg L i ≤ 80 := by
  obtain ⟨⟨mad, cnt, fre, ws, h, tk, gn, F, p, m⟩, st, dl, dz, ab⟩ := S
  rw [m.g i (by rw [← m.len]; exact hi)]
  exact Nat.le_trans (m.gb _) hk
theorem genq_in {L : List Ent} {i : Nat} (hi : i < L.length) : genq L ((i + 1 : Nat) : Int) = entg L i := by
  unfold genq
  rw [if_pos ⟨by omega, by omega⟩, Int.toNat_natCast, Nat.add_sub_cancel]
theorem genq_out {L : List Ent} {id : Int} (h : ¬ (1 ≤ id ∧ id ≤ (L.length : Int))) : genq L id = 0 := by
  unfold genq
  rw [if_neg h]
end
end Go.Proofs.Ythigcabmmhjooaa
