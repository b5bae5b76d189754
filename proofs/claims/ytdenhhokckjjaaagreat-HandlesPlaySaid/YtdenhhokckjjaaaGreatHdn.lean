/-
  The handles and the document's: each call at both.
-/
import Derived.Test.YtdenhhokckjjaaaGreatHdm
namespace Go.Proofs.YtdenhhokckjjaaaGreat
open Go.RowKit
set_option linter.unusedVariables false

theorem erase_map18 {α β : Type} (f : α → β) (l : List α) (i : Nat) : (l.map f).eraseIdx i = (l.eraseIdx i).map f := by
  rw [List.eraseIdx_eq_take_drop_succ, List.eraseIdx_eq_take_drop_succ, List.map_append, List.map_take, List.map_drop]
theorem map_getD18 {f : Nat → Nat × Nat} {l : List Nat} {i : Nat} (h : i < l.length) : (l.map f).getD i (0, 0) = f (l.getD i 0) := by simp [List.getD, h]
theorem mem_getD18 {l : List Nat} {i : Nat} (h : i < l.length) : l.getD i 0 ∈ l := by
  rw [List.getD, List.getElem?_eq_getElem h]; exact List.getElem_mem h
theorem nd_getD18 {l : List Nat} (nd : l.Nodup) {i j : Nat} (hi : i < l.length) (hj : j < l.length) (e : l.getD i 0 = l.getD j 0) : i = j := by
  rw [List.getD, List.getD, List.getElem?_eq_getElem hi, List.getElem?_eq_getElem hj] at e
  have p := List.pairwise_iff_getElem.1 nd
  rcases Nat.lt_trichotomy i j with q | q | q
  · exact absurd (Option.some.inj (by simpa using e)) (p i j hi hj q)
  · exact q
  · exact absurd (Option.some.inj (by simpa using e.symm)) (p j i hj hi q)
def PP18 (D : Nat → Prop) (R : Nat → Nat) (hb pb j : Nat) : Prop := rh R pb hb j = 0 ∧ ¬ D j
/-- the handles and the document's -/
def PB (W0 : World) (D : Nat → Prop) (R : Nat → Nat) (hb pb mb mm n rm c : Nat) (v f hl : Value) (H : List (Nat × Nat)) (w : World) : Prop :=
  ∃ (mad : Nat) (tk : Nat → Bool) (gn : Nat → Nat) (F C : List Nat) (V : Nat → Nat) (bz : Bool) (a b : Nat) (L : List Ent) (Fr : List Nat),
    HB W0 R hb pb mb mm n rm mad tk gn F C V bz a b w ∧ DM n rm mad tk gn F L Fr ∧ c = a + b ∧ H = C.map (fun x => (tkn x (gn x), V x)) ∧ ST w (PP18 D R hb pb) v f L Fr ∧ QO18 w (PP18 D R hb pb) hl H ∧ (∀ j, D j → j < w.heap.size) ∧ (∀ j, D j → rh R pb hb j = 0) ∧ (∀ j, D j → W0.heap.size ≤ j) ∧ bz = false
section
variable {W0 : World} {D : Nat → Prop} {R : Nat → Nat} {hb pb mb mm n rm c : Nat} {v f hl : Value} {H : List (Nat × Nat)} {w w' : World}
theorem HB.mr {mad : Nat} {tk : Nat → Bool} {gn : Nat → Nat} {F C : List Nat} {V : Nat → Nat} {bz : Bool} {a b : Nat} (s : HB W0 R hb pb mb mm n rm mad tk gn F C V bz a b w) : mad ≤ rm := by
  obtain ⟨⟨ws, fre, g, l, q, v⟩, _⟩ := s
  exact l.p.mr
/-- the program's call has turned its blocks; the document's lists are as they were -/
theorem lists_tr {R' : Nat → Nat} {L : List Ent} {Fr : List Nat} (st : ST w (PP18 D R hb pb) v f L Fr) (q : QO18 w (PP18 D R hb pb) hl H) (dz : ∀ j, D j → rh R pb hb j = 0) (dl : ∀ j, D j → j < w.heap.size) (t : TR (rh R pb hb) (rh R' pb hb) w w') :
    ST w' (PP18 D R' hb pb) v f L Fr ∧ QO18 w' (PP18 D R' hb pb) hl H ∧ (∀ j, D j → rh R' pb hb j = 0) ∧ (∀ j, D j → j < w'.heap.size) := by
  have up : ∀ j, j < w.heap.size → rh R pb hb j = 0 → rh R' pb hb j = 0 := fun j hj z => Decidable.byContradiction fun q => t.old j hj q z
  exact ⟨st.keeps t.keeps (fun j _ h q => q h.1) (fun j hj h => ⟨up j hj h.1, h.2⟩), q.keeps t.keeps (fun j _ h q => q h.1) (fun j hj h => ⟨up j hj h.1, h.2⟩), fun j h => up j (dl j h) (dz j h), fun j h => Nat.lt_of_lt_of_le (dl j h) t.keeps.size⟩
theorem PB.below (s : PB W0 D R hb pb mb mm n rm c v f hl H w) (k : Below w.heap.size w w') : PB W0 D R hb pb mb mm n rm c v f hl H w' := by
  obtain ⟨mad, tk, gn, F, C, V, bz, a, b, L, Fr, s, m, e, eh, st, q, dl, dz, dw⟩ := s
  obtain ⟨h1, h2, h3, h4⟩ := lists_tr st q dz dl (TR.of k)
  exact ⟨mad, tk, gn, F, C, V, bz, a, b, L, Fr, s.below k, m, e, eh, h1, h2, h4, h3, dw⟩
theorem PB.slices (s : PB W0 D R hb pb mb mm n rm c v f hl H w) : (∃ a n c, v = .slice a n c) ∧ (∃ a n c, f = .slice a n c) ∧ ∃ a c, hl = .slice a H.length c := by
  obtain ⟨mad, tk, gn, F, C, V, bz, a, b, L, Fr, s, m, e, eh, st, q, dl, dz, dw⟩ := s
  obtain ⟨x1, x2, h1⟩ := st.el.slice
  obtain ⟨y1, y2, h2⟩ := st.fl.slice
  exact ⟨⟨_, _, _, h1⟩, ⟨_, _, _, h2⟩, q.slice⟩
theorem PB.pq (s : PB W0 D R hb pb mb mm n rm c v f hl H w) : PQ18 w hl H := by
  obtain ⟨mad, tk, gn, F, C, V, bz, a, b, L, Fr, s, m, e, eh, st, q, dl, dz, dw⟩ := s
  exact q.pq
theorem PB.lens (s : PB W0 D R hb pb mb mm n rm c v f hl H w) : H.length ≤ n ∧ rm ≤ 2 * n + 8 ∧ n ≤ 900 := by
  obtain ⟨mad, tk, gn, F, C, V, bz, a, b, L, Fr, s, m, e, rfl, st, q, dl, dz, dw⟩ := s
  have := s.c.1
  have := s.hm
  exact ⟨by rw [List.length_map]; omega, s.hr, s.hn⟩
theorem PB.count (s : PB W0 D R hb pb mb mm n rm c v f hl H w) : Calls Tryz.prog 15 #[at0 hb] w fun e w' => e = .returned (.int .i64 (H.length : Int)) ∧ w = w' := by
  obtain ⟨mad, tk, gn, F, C, V, bz, a, b, L, Fr, s, m, e, rfl, st, q, dl, dz, dw⟩ := s
  rw [List.length_map]
  exact s.count
theorem PB.met (s : PB W0 D R hb pb mb mm n rm c v f hl H w) : w.cell? ⟨mb, 0, none⟩ = some (at0 mm) ∧ ∃ a b g, c = a + b ∧ MRow w mm a b ((4 * rm : Nat) : Int) g := by
  obtain ⟨mad, tk, gn, F, C, V, bz, a, b, L, Fr, s, m, e, rfl, st, q, dl, dz, dw⟩ := s
  obtain ⟨h1, g, h2⟩ := s.met
  exact ⟨h1, a, b, g, e, h2⟩
theorem PB.fresh (s : PB W0 D R hb pb mb mm n rm c v f hl H w) {j : Nat} (hj : w.heap.size ≤ j) : rh R pb hb j = 0 ∧ W0.heap.size ≤ j ∧ ¬ D j := by
  obtain ⟨mad, tk, gn, F, C, V, bz, a, b, L, Fr, s, m, e, rfl, st, q, dl, dz, dw⟩ := s
  exact ⟨(s.fresh hj).1, (s.fresh hj).2, fun h => by have := dl j h; omega⟩
theorem PB.low (s : PB W0 D R hb pb mb mm n rm c v f hl H w) {j : Nat} (h : rh R pb hb j ≠ 0) : W0.heap.size ≤ j := by
  obtain ⟨mad, tk, gn, F, C, V, bz, a, b, L, Fr, s, m, e, rfl, st, q, dl, dz, dw⟩ := s
  exact s.low h
/-- blocks of D are written -/
theorem PB.aside (s : PB W0 D R hb pb mb mm n rm c v f hl H w) {G : Nat → Prop} (k : Keeps G w w') (hG : ∀ j, G j → D j) : PB W0 D R hb pb mb mm n rm c v f hl H w' := by
  obtain ⟨mad, tk, gn, F, C, V, bz, a, b, L, Fr, s, m, e, eh, st, q, dl, dz, dw⟩ := s
  exact ⟨mad, tk, gn, F, C, V, bz, a, b, L, Fr, s.aside k (fun j h => ⟨dz j (hG j h), dw.1 j (hG j h)⟩), m, e, eh, st.keeps k (fun j _ h g => h.2 (hG j g)) (fun _ _ h => h), q.keeps k (fun j _ h g => h.2 (hG j g)) (fun _ _ h => h), fun j h => Nat.lt_of_lt_of_le (dl j h) k.size, dz, dw⟩
/-- more blocks of one's own -/
theorem PB.grow (s : PB W0 D R hb pb mb mm n rm c v f hl H w) {D' : Nat → Prop} (k : Below w.heap.size w w') (h1 : ∀ j, D' j → D j ∨ w.heap.size ≤ j) (h2 : ∀ j, D' j → j < w'.heap.size) : PB W0 D' R hb pb mb mm n rm c v f hl H w' := by
  obtain ⟨mad, tk, gn, F, C, V, bz, a, b, L, Fr, s, m, e, eh, st, q, dl, dz, dw⟩ := s
  exact ⟨mad, tk, gn, F, C, V, bz, a, b, L, Fr, s.below k, m, e, eh, st.keeps (Keeps.of (F := fun _ => False) k) (fun _ _ _ h => h) (fun j hj h => ⟨h.1, fun q => (h1 j q).elim h.2 (fun q => by omega)⟩), q.keeps (Keeps.of (F := fun _ => False) k) (fun _ _ _ h => h) (fun j hj h => ⟨h.1, fun q => (h1 j q).elim h.2 (fun q => by omega)⟩), h2, fun j h => (h1 j h).elim (dz j) (fun q => (s.fresh q).1), fun j h => (h1 j h).elim (dw.1 j) (fun q => (s.fresh q).2), dw.2⟩
theorem PB.less (s : PB W0 D R hb pb mb mm n rm c v f hl H w) {D' : Nat → Prop} (h1 : ∀ j, D' j → D j) : PB W0 D' R hb pb mb mm n rm c v f hl H w := by
  obtain ⟨mad, tk, gn, F, C, V, bz, a, b, L, Fr, s, m, e, eh, st, q, dl, dz, dw⟩ := s
  exact ⟨mad, tk, gn, F, C, V, bz, a, b, L, Fr, s, m, e, eh, st.mono (fun j h => ⟨h.1, fun q => h.2 (h1 j q)⟩), q.keeps (Keeps.refl (fun _ => False) w) (fun _ _ _ h => h) (fun j _ h => ⟨h.1, fun q => h.2 (h1 j q)⟩), fun j h => dl j (h1 j h), fun j h => dz j (h1 j h), fun j h => dw.1 j (h1 j h), dw.2⟩
/-- Add, at both -/
theorem PB.add (s : PB W0 D R hb pb mb mm n rm c v f hl H w) (h9 : n < 400) {r : Nat} (hr9 : r < 18446744073709551616) :
    ∃ t rm' : Nat, Calls Tryz.prog 8 #[at0 hb, .int .u64 (r : Int)] w fun e w1 => ∃ R' c', e = .returned (.tuple #[.int .i64 (t : Int), .int .i64 0]) ∧ c' ≤ c + 11 ∧ TR (rh R pb hb) (rh R' pb hb) w w1 ∧
      ∀ w2, Below w1.heap.size w1 w2 → Calls Tryz.prog 9 #[stv18 v f (rm : Int) hl, .int .u64 (r : Int)] w2 fun e w3 => ∃ v' f' hl', e = .returned (.tuple #[stv18 v' f' (rm' : Int) hl', .int .i64 (t : Int)]) ∧ Below w2.heap.size w2 w3 ∧ PB W0 D R' hb pb mb mm (n + 1) rm' c' v' f' hl' (H ++ [(t, r)]) w3 := by
  obtain ⟨mad, tk, gn, F, C, V, bz, a, b, L, Fr, s, m, e, eh, st, q, dl, dz, dw⟩ := s
  obtain ⟨id, rm', mad', gn', F', T, CL⟩ := s.add (Nat.lt_of_lt_of_le h9 (by decide)) hr9
  obtain ⟨i, L', Fr', ei, hi, hg, M', TK⟩ := m.take T s.mr (by have := s.hr; omega) (by omega)
  have sc := s.c
  have hm := s.hm
  have eq : H ++ [(tkn id (gn' id), r)] = (C ++ [id]).map (fun x => (tkn x (gn' x), upd V id r x)) := by
    have e1 : C.map (fun x => (tkn x (gn x), V x)) = C.map (fun x => (tkn x (gn' x), upd V id r x)) := List.map_congr_left fun x hx => by
      have hne : x ≠ id := fun e => T.nC (by rw [← e]; exact hx)
      show (tkn x (gn x), V x) = (tkn x (gn' x), upd V id r x)
      rw [T.gs x (sc.2.2.1 x hx).2.1, upd_ne _ _ hne]
    rw [List.map_append, eh, e1, List.map_singleton, upd_at]
  refine ⟨tkn id (gn' id), rm', CL.mono fun e1 w1 ⟨R', a', b', h1, h2, s', t⟩ => ⟨R', a' + b', h1, by omega, t, fun w2 k2 => ?_⟩⟩
  obtain ⟨z1, z2, z3, z4⟩ := lists_tr st q dz dl (t.below' k2)
  obtain ⟨va, vc, rfl⟩ := z1.el.slice
  obtain ⟨fa, fc, rfl⟩ := z1.fl.slice
  obtain ⟨ha, hc, rfl⟩ := z2.slice
  have s2 := s'.below k2
  have lH : H.length ≤ 400 := by rw [eh, List.length_map]; omega
  have g1 := s'.gg id
  refine (radd18 va _ vc fa _ fc ha _ hc (rm : Int) (rm' : Int) H i (gn' id) r L' Fr' w2 z2.pq (by omega) hi hg (by have := T.i2; have := s'.hm; omega) (by omega) (fun w' k => TK _ _ _ w' (z1.below k))).mono ?_
  rintro e3 w3 ⟨v', f', hl', h3, st3, q3, b3⟩
  rw [← ei] at h3 q3
  have s3 := s2.below b3
  have P3 : ∀ j, w2.heap.size ≤ j → PP18 D R' hb pb j := fun j hj => ⟨(s2.fresh hj).1, fun h => by have := z4 j h; omega⟩
  exact ⟨v', f', hl', h3, b3, mad', _, gn', F', C ++ [id], upd V id r, bz, a', b', L', Fr', s3, M', rfl, eq, st3.mono P3, q3.keeps (Keeps.refl (fun _ => False) w3) (fun _ _ _ h => h) (fun j _ h => P3 j h), fun j h => Nat.lt_of_lt_of_le (z4 j h) b3.size, z3, dw⟩
/-- which handle a token is of -/
theorem PB.find {mad : Nat} {tk : Nat → Bool} {gn : Nat → Nat} {F C : List Nat} {V : Nat → Nat} {bz : Bool} {a b : Nat} (s : HB W0 R hb pb mb mm n rm mad tk gn F C V bz a b w) (eh : H = C.map (fun x => (tkn x (gn x), V x))) (t : Int) :
    (∃ i, i < C.length ∧ i < H.length ∧ t = ((tkn (C.getD i 0) (gn (C.getD i 0)) : Nat) : Int) ∧ (((H.getD i (0, 0)).1 : Nat) : Int) = t ∧ (H.getD i (0, 0)).2 = V (C.getD i 0) ∧ ∀ j, j < i → (((H.getD j (0, 0)).1 : Nat) : Int) ≠ t) ∨ ((∀ x, x ∈ C → t ≠ ((tkn x (gn x) : Nat) : Int)) ∧ ∀ j, j < H.length → (((H.getD j (0, 0)).1 : Nat) : Int) ≠ t) := by
  have at' : ∀ i, i < C.length → H.getD i (0, 0) = (tkn (C.getD i 0) (gn (C.getD i 0)), V (C.getD i 0)) := fun i hi => by rw [eh]; exact map_getD18 (f := fun x => (tkn x (gn x), V x)) hi
  have lh : H.length = C.length := by rw [eh, List.length_map]
  by_cases h : ∃ i, i < C.length ∧ t = ((tkn (C.getD i 0) (gn (C.getD i 0)) : Nat) : Int)
  · obtain ⟨i, hi, e⟩ := h
    refine .inl ⟨i, hi, by rw [lh]; exact hi, e, by rw [at' i hi]; exact e.symm, by rw [at' i hi], fun j hj q => ?_⟩
    have hj' : j < C.length := by omega
    rw [at' j hj', e] at q
    have q' := (tkn_inj (s.rng (mem_getD18 hj')) (s.rng (mem_getD18 hi)) (Int.ofNat.inj q)).1
    have := nd_getD18 s.c.2.1 hj' hi q'
    omega
  · refine .inr ⟨fun x hx q => ?_, fun j hj q => ?_⟩
    · obtain ⟨i, hi, e⟩ := List.getElem_of_mem hx
      exact h ⟨i, hi, by rw [List.getD, List.getElem?_eq_getElem hi, e]; exact q⟩
    · rw [lh] at hj
      rw [at' j hj] at q
      exact h ⟨j, hj, q.symm⟩
/-- Drop, at both -/
theorem PB.drop (s : PB W0 D R hb pb mb mm n rm c v f hl H w) (h9 : n < 400) (t : Int) :
    ∃ cd : Int, Calls Tryz.prog 19 #[at0 hb, .int .i64 t] w fun e w1 => ∃ c', e = .returned (.int .i64 cd) ∧ c' ≤ c + 9 ∧ TR (rh R pb hb) (rh R pb hb) w w1 ∧
      ∀ w2, Below w1.heap.size w1 w2 → Calls Tryz.prog 30 #[stv18 v f (rm : Int) hl, .int .i64 t] w2 fun e w3 => ∃ v' f' hl' H', e = .returned (.tuple #[stv18 v' f' (rm : Int) hl', .int .i64 cd]) ∧ Below w2.heap.size w2 w3 ∧ PB W0 D R hb pb mb mm (n + 1) rm c' v' f' hl' H' w3 := by
  have s0 := s
  obtain ⟨mad, tk, gn, F, C, V, bz, a, b, L, Fr, s, m, e, eh, st, q, dl, dz, dw⟩ := s
  have lH := s0.lens.1
  rcases PB.find s eh t with ⟨i, hi, hiH, et, e1, e2, hno⟩ | ⟨hC, hno⟩
  · have CL := s.drop (Nat.lt_of_lt_of_le h9 (by decide)) hi
    have sc := s.c
    have xi := mem_getD18 hi
    have hx := sc.2.2.1 _ xi
    have g1 := s.gg (C.getD i 0)
    have hm := s.hm
    obtain ⟨L', Fr', M', GV⟩ := m.give hx.1 hx.2.1 hx.2.2 (by omega) (by omega) (by omega)
    have eq : H.eraseIdx i = (C.eraseIdx i).map (fun x => (tkn x (upd gn (C.getD i 0) (gn (C.getD i 0) + 1) x), V x)) := by
      rw [eh, erase_map18]
      refine List.map_congr_left fun x hx => ?_
      have hne : x ≠ C.getD i 0 := ((hmem_erase sc.2.1 hi x).1 hx).2
      show (tkn x (gn x), V x) = (tkn x (upd gn (C.getD i 0) (gn (C.getD i 0) + 1) x), V x)
      rw [upd_ne _ _ hne]
    rw [et]
    refine ⟨0, CL.mono fun e1' w1 ⟨a', b', h1, h2, s', t'⟩ => ⟨a' + b', h1, by omega, t', fun w2 k2 => ?_⟩⟩
    obtain ⟨z1, z2, z3, z4⟩ := lists_tr st q dz dl (t'.below' k2)
    obtain ⟨va, vc, rfl⟩ := z1.el.slice
    obtain ⟨fa, fc, rfl⟩ := z1.fl.slice
    obtain ⟨ha, hc, rfl⟩ := z2.slice
    have s2 := s'.below k2
    rw [et] at e1 hno
    refine (rdrop_ok18 va _ vc fa _ fc ha _ hc (rm : Int) H _ i L' Fr' w2 z2.pq (by omega) hiH e1 hno (fun w' k => by rw [tkn_ent (s.rng xi)]; exact GV _ _ _ _ _ (z1.below k))).mono ?_
    rintro e3 w3 ⟨v', f', hl', h3, st3, q3, b3⟩
    have P3 : ∀ j, w2.heap.size ≤ j → PP18 D R hb pb j := fun j hj => ⟨(s2.fresh hj).1, fun h => by have := z4 j h; omega⟩
    exact ⟨v', f', hl', _, h3, b3, mad, _, _, _, _, V, bz, a', b', L', Fr', s2.below b3, M', rfl, eq, st3.mono P3, q3.keeps (Keeps.refl (fun _ => False) w3) (fun _ _ _ h => h) (fun j _ h => P3 j h), fun j h => Nat.lt_of_lt_of_le (z4 j h) b3.size, z3, dw⟩
  · refine ⟨30, (s.drop_no hC).mono fun e1' w1 ⟨a', h1, h2, s', t'⟩ => ⟨a' + b, h1, by omega, t', fun w2 k2 => ?_⟩⟩
    obtain ⟨z1, z2, z3, z4⟩ := lists_tr st q dz dl (t'.below' k2)
    have z5 := z2
    obtain ⟨va, vc, rfl⟩ := z1.el.slice
    obtain ⟨fa, fc, rfl⟩ := z1.fl.slice
    obtain ⟨ha, hc, rfl⟩ := z2.slice
    refine (rdrop_no18 va _ vc fa _ fc ha _ hc (rm : Int) H t w2 z2.pq (by omega) hno).mono ?_
    rintro e3 w3 ⟨h3, b3⟩
    obtain ⟨y1, y2, y3, y4⟩ := lists_tr z1 z5 z3 z4 (TR.of b3)
    exact ⟨_, _, _, _, h3, b3, mad, tk, gn, F, C, V, bz, a', b, L, Fr, ((s'.below k2).below b3).up (by omega), m.up, rfl, eh, y1, y2, y4, y3, dw⟩
/-- Set, at both -/
theorem PB.set (s : PB W0 D R hb pb mb mm n rm c v f hl H w) (h9 : n < 400) (t : Int) {r : Nat} (hr9 : r < 18446744073709551616) :
    ∃ cd : Int, Calls Tryz.prog 32 #[at0 hb, .int .i64 t, .int .u64 (r : Int)] w fun e w1 => ∃ c', e = .returned (.int .i64 cd) ∧ c' ≤ c + 4 ∧ TR (rh R pb hb) (rh R pb hb) w w1 ∧
      ∀ w2, Below w1.heap.size w1 w2 → Calls Tryz.prog 33 #[stv18 v f (rm : Int) hl, .int .i64 t, .int .u64 (r : Int)] w2 fun e w3 => ∃ v' f' hl' H', e = .returned (.tuple #[stv18 v' f' (rm : Int) hl', .int .i64 cd]) ∧ Below w2.heap.size w2 w3 ∧ PB W0 D R hb pb mb mm (n + 1) rm c' v' f' hl' H' w3 := by
  have s0 := s
  obtain ⟨mad, tk, gn, F, C, V, bz, a, b, L, Fr, s, m, e, eh, st, q, dl, dz, dw⟩ := s
  have lH := s0.lens.1
  rcases PB.find s eh t with ⟨i, hi, hiH, et, e1, e2, hno⟩ | ⟨hC, hno⟩
  · have xi := mem_getD18 hi
    have CL := s.set xi hr9
    have sc := s.c
    have eq : H.set i ((H.getD i (0, 0)).1, r) = C.map (fun x => (tkn x (gn x), upd V (C.getD i 0) r x)) := by
      have hi1 : H.getD i (0, 0) = (tkn (C.getD i 0) (gn (C.getD i 0)), V (C.getD i 0)) := by rw [eh]; exact map_getD18 (f := fun x => (tkn x (gn x), V x)) hi
      rw [hi1, eh]
      refine List.ext_getElem (by simp) fun j h1 h2 => ?_
      rw [List.getElem_set, List.getElem_map, List.getElem_map]
      have hj : j < C.length := by simpa using h2
      have ej : C.getD j 0 = C[j] := by rw [List.getD, List.getElem?_eq_getElem hj]; rfl
      by_cases q : i = j
      · subst q
        rw [if_pos rfl, ← ej, upd_at]
      · rw [if_neg q, upd_ne _ _ (fun e => q (nd_getD18 sc.2.1 hi hj (by rw [ej, e])))]
    rw [et]
    refine ⟨0, CL.mono fun e1' w1 ⟨a', b', h1, h2, s', t'⟩ => ⟨a' + b', h1, by omega, t', fun w2 k2 => ?_⟩⟩
    obtain ⟨z1, z2, z3, z4⟩ := lists_tr st q dz dl (t'.below' k2)
    obtain ⟨va, vc, rfl⟩ := z1.el.slice
    obtain ⟨fa, fc, rfl⟩ := z1.fl.slice
    obtain ⟨ha, hc, rfl⟩ := z2.slice
    have s2 := s'.below k2
    rw [et] at e1 hno
    refine (rset_ok18 va _ vc fa _ fc ha _ hc (rm : Int) H _ r i w2 z2.pq (by omega) hiH e1 hno).mono ?_
    rintro e3 w3 ⟨hl', h3, q3, b3⟩
    obtain ⟨y1, y2, y3, y4⟩ := lists_tr z1 z2 z3 z4 (TR.of b3)
    have P3 : ∀ j, w2.heap.size ≤ j → PP18 D R hb pb j := fun j hj => ⟨(s2.fresh hj).1, fun h => by have := z4 j h; omega⟩
    exact ⟨_, _, hl', _, h3, b3, mad, tk, gn, F, C, _, bz, a', b', L, Fr, (s2.below b3).up (by omega), m.up, rfl, eq, y1, q3.keeps (Keeps.refl (fun _ => False) w3) (fun _ _ _ h => h) (fun j _ h => P3 j h), y4, y3, dw⟩
  · refine ⟨30, (s.set_no (r : Int) hC).mono fun e1' w1 ⟨a', h1, h2, s', t'⟩ => ⟨a' + b, h1, by omega, t', fun w2 k2 => ?_⟩⟩
    obtain ⟨z1, z2, z3, z4⟩ := lists_tr st q dz dl (t'.below' k2)
    have z5 := z2
    obtain ⟨va, vc, rfl⟩ := z1.el.slice
    obtain ⟨fa, fc, rfl⟩ := z1.fl.slice
    obtain ⟨ha, hc, rfl⟩ := z2.slice
    refine (rset_no18 va _ vc fa _ fc ha _ hc (rm : Int) H t (r : Int) w2 z2.pq (by omega) hno).mono ?_
    rintro e3 w3 ⟨h3, b3⟩
    obtain ⟨y1, y2, y3, y4⟩ := lists_tr z1 z5 z3 z4 (TR.of b3)
    exact ⟨_, _, _, _, h3, b3, mad, tk, gn, F, C, V, bz, a', b, L, Fr, ((s'.below k2).below b3).up (by omega), m.up, rfl, eh, y1, y2, y4, y3, dw⟩
/-- Get; where the document has the token -/
theorem PB.get (s : PB W0 D R hb pb mb mm n rm c v f hl H w) (t : Int) :
    ∃ (x : Nat) (cd : Int), Calls Tryz.prog 16 #[at0 hb, .int .i64 t] w fun e w1 => ∃ c', e = .returned (.tuple #[.int .u64 (x : Int), .int .i64 cd]) ∧ c' ≤ c + 4 ∧ TR (rh R pb hb) (rh R pb hb) w w1 ∧ PB W0 D R hb pb mb mm n rm c' v f hl H w1 ∧
      ∀ w2, Below w1.heap.size w1 w2 → Calls Tryz.prog 31 #[stv18 v f (rm : Int) hl, .int .i64 t] w2 fun e w3 => ∃ i, e = .returned (.int .i64 i) ∧ Below w2.heap.size w2 w3 ∧ (i = -1 ∧ x = 0 ∧ cd = 30 ∨ ∃ k : Nat, i = (k : Int) ∧ k < H.length ∧ x = (H.getD k (0, 0)).2 ∧ cd = 0) := by
  have s0 := s
  obtain ⟨mad, tk, gn, F, C, V, bz, a, b, L, Fr, s, m, e, eh, st, q, dl, dz, dw⟩ := s
  have lH := s0.lens
  rcases PB.find s eh t with ⟨i, hi, hiH, et, e1, e2, hno⟩ | ⟨hC, hno⟩
  · have CL := s.get (mem_getD18 hi)
    rw [← et] at CL
    refine ⟨V (C.getD i 0), 0, CL.mono fun e1' w1 ⟨a', h1, h2, s', t'⟩ => ?_⟩
    obtain ⟨z1, z2, z3, z4⟩ := lists_tr st q dz dl t'
    have P1 : PB W0 D R hb pb mb mm n rm (a' + b) v f hl H w1 := ⟨mad, tk, gn, F, C, V, bz, a', b, L, Fr, s', m, rfl, eh, z1, z2, z4, z3, dw⟩
    refine ⟨a' + b, h1, by omega, t', P1, fun w2 k2 => (rat18 v f (rm : Int) hl H t w2 (P1.below k2).pq (by omega)).mono ?_⟩
    rintro e3 w3 ⟨y, h3, hy, b3⟩
    exact ⟨y, h3, b3, .inr ⟨i, hy.ok hiH e1 hno, hiH, e2.symm, rfl⟩⟩
  · refine ⟨0, 30, (s.get_no hC).mono fun e1' w1 ⟨a', h1, h2, s', t'⟩ => ?_⟩
    obtain ⟨z1, z2, z3, z4⟩ := lists_tr st q dz dl t'
    have P1 : PB W0 D R hb pb mb mm n rm (a' + b) v f hl H w1 := ⟨mad, tk, gn, F, C, V, bz, a', b, L, Fr, s', m, rfl, eh, z1, z2, z4, z3, dw⟩
    refine ⟨a' + b, h1, by omega, t', P1, fun w2 k2 => (rat18 v f (rm : Int) hl H t w2 (P1.below k2).pq (by omega)).mono ?_⟩
    rintro e3 w3 ⟨y, h3, hy, b3⟩
    exact ⟨y, h3, b3, .inl ⟨hy.no hno, rfl, rfl⟩⟩
end
end Go.Proofs.YtdenhhokckjjaaaGreat
