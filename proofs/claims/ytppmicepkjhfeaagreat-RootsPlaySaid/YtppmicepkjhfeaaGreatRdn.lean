/-
  The document's handles beside the program's: the pool's state, the list; each call of the document's.
-/
import Derived.Test.YtppmicepkjhfeaaGreatRtc
import Derived.Test.YtppmicepkjhfeaaGreatHnM
import Derived.Test.YtppmicepkjhfeaaGreatHnO
import Derived.Test.YtppmicepkjhfeaaGreatHnG
namespace Go.Proofs.YtppmicepkjhfeaaGreat
open Go.RowKit
set_option linter.unusedVariables false

theorem entt_set18 (L : List Ent) (k i : Nat) (x : Ent) (hk : k < L.length) : entt (L.set k x) i = if i = k then x.1 else entt L i := by
  unfold entt; rw [getD_ez L k i x hk]; split <;> rfl
theorem entg_set18 (L : List Ent) (k i : Nat) (x : Ent) (hk : k < L.length) : entg (L.set k x) i = if i = k then x.2.1 else entg L i := by
  unfold entg; rw [getD_ez L k i x hk]; split <;> rfl
theorem entw_set18 (L : List Ent) (k i : Nat) (x : Ent) (hk : k < L.length) : entw (L.set k x) i = if i = k then x.2.2 else entw L i := by
  unfold entw; rw [getD_ez L k i x hk]; split <;> rfl
theorem entt_snoc18 (L : List Ent) (x : Ent) (i : Nat) (hi : i < L.length + 1) : entt (L ++ [x]) i = if i = L.length then x.1 else entt L i := by
  unfold entt; rw [getD_es]; split
  · rw [if_neg (by omega)]
  · rw [if_pos (by omega), if_pos (by omega)]
theorem entg_snoc18 (L : List Ent) (x : Ent) (i : Nat) (hi : i < L.length + 1) : entg (L ++ [x]) i = if i = L.length then x.2.1 else entg L i := by
  unfold entg; rw [getD_es]; split
  · rw [if_neg (by omega)]
  · rw [if_pos (by omega), if_pos (by omega)]
theorem entw_snoc18 (L : List Ent) (x : Ent) (i : Nat) (hi : i < L.length + 1) : entw (L ++ [x]) i = if i = L.length then x.2.2 else entw L i := by
  unfold entw; rw [getD_es]; split
  · rw [if_neg (by omega)]
  · rw [if_pos (by omega), if_pos (by omega)]
structure DM (n rm mad : Nat) (tk : Nat → Bool) (gn : Nat → Nat) (F : List Nat) (L : List Ent) (Fr : List Nat) : Prop where
  len : L.length = mad
  t : ∀ i, i < mad → entt L i = tk (i + 1)
  g : ∀ i, i < mad → entg L i = gn (i + 1)
  wl : ∀ i, i < mad → (entw L i).length ≤ 1000
  fr : F = Fr.reverse
  fl : Fr.length ≤ n
theorem DM.start : DM 0 0 0 (fun _ => false) (fun _ => 0) [] [] [] := ⟨rfl, fun i h => by omega, fun i h => by omega, fun i h => by omega, rfl, Nat.le_refl _⟩
theorem DM.up {n rm mad : Nat} {tk : Nat → Bool} {gn : Nat → Nat} {F : List Nat} {L : List Ent} {Fr : List Nat} (m : DM n rm mad tk gn F L Fr) : DM (n + 1) rm mad tk gn F L Fr := ⟨m.len, m.t, m.g, m.wl, m.fr, Nat.le_succ_of_le m.fl⟩
set_option maxRecDepth 100000 in
theorem DM.take {n rm mad rm' mad' id : Nat} {tk : Nat → Bool} {gn gn' : Nat → Nat} {F F' : List Nat} {L : List Ent} {Fr : List Nat} (m : DM n rm mad tk gn F L Fr) (i1 : 1 ≤ id) (i2 : id ≤ mad') (alt : F = [] ∧ id = mad + 1 ∧ mad' = mad + 1 ∧ rm' = room2 rm mad ∧ F' = [] ∧ gn' = upd gn (mad + 1) 0 ∨ F = id :: F' ∧ mad' = mad ∧ rm' = rm ∧ gn' = gn) (mr : mad ≤ rm) (hr : rm ≤ 1000) (hn : n ≤ 900) :
    ∃ i L' Fr', id = i + 1 ∧ i < L'.length ∧ entg L' i = gn' id ∧ DM (n + 1) rm' mad' (upd tk id true) gn' F' L' Fr' ∧ ∀ v f P w, ST w P v f L Fr → Calls Tryz.prog 48 #[estv 3 v f (rm : Int)] w fun e w' => ∃ v' f', e = .returned (.tuple #[estv 3 v' f' (rm' : Int), .int .i64 ((i + 1 : Nat) : Int)]) ∧ ST w' (fun j => w.heap.size ≤ j) v' f' L' Fr' ∧ Below w.heap.size w w' := by
  have lw : ∀ i, i < L.length → (entw L i).length ≤ 1000 := fun i hi => m.wl i (by rw [← m.len]; exact hi)
  rcases alt with ⟨f0, e1, e2, e3, e4, e5⟩ | ⟨f0, e2, e3, e5⟩
  · have fr0 : Fr = [] := by
      have := m.fr
      rw [f0] at this
      exact List.reverse_eq_nil_iff.1 this.symm
    subst e1 e2 e3 e4 e5
    refine ⟨mad, L ++ [(true, 0, List.replicate 3 0)], [], rfl, by rw [List.length_append, m.len]; simp, ?_, ⟨by rw [List.length_append, m.len]; rfl, fun i hi => ?_, fun i hi => ?_, fun i hi => ?_, rfl, Nat.zero_le _⟩, fun v f P w hv => ?_⟩
    · rw [entg_snoc18 _ _ _ (by rw [m.len]; omega), if_pos m.len.symm, upd_at]
    · rw [entt_snoc18 _ _ _ (by rw [m.len]; exact hi), m.len]
      by_cases e : i = mad
      · rw [if_pos e, e, upd_at]
      · rw [if_neg e, upd_ne _ _ (by omega)]; exact m.t i (by omega)
    · rw [entg_snoc18 _ _ _ (by rw [m.len]; exact hi), m.len]
      by_cases e : i = mad
      · rw [if_pos e, e, upd_at]
      · rw [if_neg e, upd_ne _ _ (by omega)]; exact m.g i (by omega)
    · rw [entw_snoc18 _ _ _ (by rw [m.len]; exact hi), m.len]
      by_cases e : i = mad
      · rw [if_pos e]; simp
      · rw [if_neg e]; exact m.wl i (by omega)
    · rw [fr0] at hv
      have K := etake_new 3 rm v f L P w hv (by rw [m.len]; exact mr) hr lw (by decide)
      rw [m.len] at K
      exact K
  · obtain ⟨k, rfl⟩ : ∃ k, id = k + 1 := ⟨id - 1, by omega⟩
    subst e2 e3 e5
    have k1 : k < mad' := i2
    have kl : k < L.length := by rw [m.len]; exact k1
    have fr1 : Fr = F'.reverse ++ [k + 1] := by
      have := congrArg List.reverse m.fr
      rw [List.reverse_reverse, f0] at this
      rw [← this]; simp
    have lf : F'.length + 1 ≤ n := by have := m.fl; rw [fr1] at this; simpa using this
    refine ⟨k, L.set k (true, entg L k, List.replicate 3 0), F'.reverse, rfl, by rw [List.length_set]; exact kl, ?_, ⟨by rw [List.length_set]; exact m.len, fun i hi => ?_, fun i hi => ?_, fun i hi => ?_, by rw [List.reverse_reverse], by rw [List.length_reverse]; omega⟩, fun v f P w hv => ?_⟩
    · rw [entg_set18 _ _ _ _ kl, if_pos rfl]; exact m.g k k1
    · rw [entt_set18 _ _ _ _ kl]
      by_cases e : i = k
      · rw [if_pos e, e, upd_at]
      · rw [if_neg e, upd_ne _ _ (by omega)]; exact m.t i hi
    · rw [entg_set18 _ _ _ _ kl]
      by_cases e : i = k
      · rw [if_pos e, e]; exact m.g k k1
      · rw [if_neg e]; exact m.g i hi
    · rw [entw_set18 _ _ _ _ kl]
      by_cases e : i = k
      · rw [if_pos e]; simp
      · rw [if_neg e]; exact m.wl i hi
    · rw [fr1] at hv
      exact etake_re 3 rm' k v f L F'.reverse P w hv (by rw [m.len]; omega) (by rw [List.length_reverse]; omega) lw (by decide) kl
set_option maxRecDepth 100000 in
theorem DM.give {n rm mad x : Nat} {tk : Nat → Bool} {gn : Nat → Nat} {F : List Nat} {L : List Ent} {Fr : List Nat} (m : DM n rm mad tk gn F L Fr) (h1 : 1 ≤ x) (h2 : x ≤ mad) (ht : tk x = true) (hg : gn x ≤ 1000) (hm : mad ≤ 1000) (hn : n ≤ 900) :
    ∃ L' Fr', DM (n + 1) rm mad (upd tk x false) (upd gn x (gn x + 1)) (x :: F) L' Fr' ∧ ∀ (r : Int) v f P w, ST w P v f L Fr → Calls Tryz.prog 51 #[estv 3 v f r, .int .i64 (x : Int)] w fun e w' => ∃ v' f', e = .returned (.tuple #[estv 3 v' f' r, .int .i64 0]) ∧ ST w' (fun j => w.heap.size ≤ j) v' f' L' Fr' ∧ Below w.heap.size w w' := by
  have lw : ∀ i, i < L.length → (entw L i).length ≤ 1000 := fun i hi => m.wl i (by rw [← m.len]; exact hi)
  obtain ⟨k, rfl⟩ : ∃ k, x = k + 1 := ⟨x - 1, by omega⟩
  have kl : k < L.length := by rw [m.len]; exact h2
  refine ⟨L.set k (false, entg L k + 1, entw L k), Fr ++ [k + 1], ⟨by rw [List.length_set]; exact m.len, fun i hi => ?_, fun i hi => ?_, fun i hi => ?_, by rw [m.fr, List.reverse_append]; rfl, by rw [List.length_append, List.length_singleton]; have := m.fl; omega⟩, fun r v f P w hv => ?_⟩
  · rw [entt_set18 _ _ _ _ kl]
    by_cases e : i = k
    · rw [if_pos e, e, upd_at]
    · rw [if_neg e, upd_ne _ _ (by omega)]; exact m.t i hi
  · rw [entg_set18 _ _ _ _ kl]
    by_cases e : i = k
    · rw [if_pos e, e, upd_at]
      show entg L k + 1 = _
      rw [m.g k h2]
    · rw [if_neg e, upd_ne _ _ (by omega)]; exact m.g i hi
  · rw [entw_set18 _ _ _ _ kl]
    by_cases e : i = k
    · rw [if_pos e]; exact m.wl k h2
    · rw [if_neg e]; exact m.wl i hi
  · exact egive_ok 3 r k v f L Fr P w hv (by rw [m.len]; omega) (by have := m.fl; omega) lw kl (by rw [m.g k h2]; omega) (by
      unfold isq
      rw [decide_eq_true (show 1 ≤ ((k + 1 : Nat) : Int) ∧ ((k + 1 : Nat) : Int) ≤ (L.length : Int) by omega), show ((k + 1 : Nat) : Int).toNat - 1 = k by omega, m.t k h2, ht]; rfl)
theorem erase_map18 {α β : Type} (f : α → β) (l : List α) (i : Nat) : (l.map f).eraseIdx i = (l.eraseIdx i).map f := by
  rw [List.eraseIdx_eq_take_drop_succ, List.eraseIdx_eq_take_drop_succ, List.map_append, List.map_take, List.map_drop]
theorem map_getD18 {f : Nat → Nat × Nat} {l : List Nat} {i : Nat} (h : i < l.length) : (l.map f).getD i (0, 0) = f (l.getD i 0) := by simp [List.getD, h]
theorem mem_getD18 {l : List Nat} {i : Nat} (h : i < l.length) : l.getD i 0 ∈ l := by
  rw [List.getD, List.getElem?_eq_getElem h]; exact List.getElem_mem h
theorem nd_getD18 {l : List Nat} (nd : l.Nodup) {i j : Nat} (hi : i < l.length) (hj : j < l.length) (e : l.getD i 0 = l.getD j 0) : i = j := by
  rw [List.getD, List.getD, List.getElem?_eq_getElem hi, List.getElem?_eq_getElem hj] at e
  have p := List.pairwise_iff_getElem.1 nd
  rcases Nat.lt_trichotomy i j with q | q | q
  · exact absurd (Option.some.inj (by simpa using e)) (p i j hi hj q)
  · exact q
  · exact absurd (Option.some.inj (by simpa using e.symm)) (p j i hj hi q)
/-- what a set of handles is in the document's words -/
def HS.list (s : HS) : List (Nat × Nat) := s.C.map (fun x => (s.t x, s.V x))
theorem HS.list_len (s : HS) : s.list.length = s.C.length := by unfold HS.list; rw [List.length_map]
/-- its chain -/
def SC (s : HS) : Prop := s.C.length ≤ s.mad ∧ s.C.Nodup ∧ (∀ x, x ∈ s.C → 1 ≤ x ∧ x ≤ s.mad ∧ s.tk x = true) ∧ (∀ x, 1 ≤ x → x ≤ s.mad → s.tk x = true → x ∈ s.C) ∧ s.mad ≤ s.rm ∧ s.mad ≤ 10000
theorem SC.rng {s : HS} (h : SC s) {x : Nat} (hx : x ∈ s.C) : 1 ≤ x ∧ x ≤ 1048576 := by
  have := h.2.2.1 x hx
  have := h.2.2.2.2.2
  omega
/-- the document's set, in blocks P -/
def DocS (n : Nat) (P : Nat → Prop) (s : HS) (v f hl : Value) (w : World) : Prop := ∃ L Fr, DM n s.rm s.mad s.tk s.gn s.F L Fr ∧ ST w P v f L Fr ∧ QO18 w P hl s.list
section
variable {w w' : World} {n : Nat} {P P' : Nat → Prop} {s : HS} {v f hl : Value}
theorem DocS.none (w : World) (P : Nat → Prop) (ps : Nat) : DocS 0 P (HS.none ps) (.slice none 0 0) (.slice none 0 0) (.slice none 0 0) w := ⟨[], [], DM.start, ST.nil w P, QO18.nil w P⟩
theorem DocS.keeps (d : DocS n P s v f hl w) {F : Nat → Prop} (k : Keeps F w w') (hm : ∀ j, j < w.heap.size → P j → ¬ F j) (hP : ∀ j, j < w.heap.size → P j → P' j) : DocS n P' s v f hl w' := by
  obtain ⟨L, Fr, m, st, q⟩ := d
  exact ⟨L, Fr, m, st.keeps k hm hP, q.keeps k hm hP⟩
theorem DocS.mono (d : DocS n P s v f hl w) (hP : ∀ j, P j → P' j) : DocS n P' s v f hl w := d.keeps (Keeps.refl (fun _ => False) w) (fun _ _ _ h => h) (fun j _ h => hP j h)
theorem DocS.below (d : DocS n P s v f hl w) (k : Below w.heap.size w w') : DocS n P s v f hl w' := d.keeps (Keeps.of (F := fun _ => False) k) (fun _ _ _ h => h) (fun _ _ h => h)
theorem DocS.up (d : DocS n P s v f hl w) : DocS (n + 1) P s v f hl w := by
  obtain ⟨L, Fr, m, st, q⟩ := d
  exact ⟨L, Fr, m.up, st, q⟩
theorem DocS.slices (d : DocS n P s v f hl w) : (∃ a n c, v = .slice a n c) ∧ (∃ a n c, f = .slice a n c) ∧ ∃ a c, hl = .slice a s.C.length c := by
  obtain ⟨L, Fr, m, st, q⟩ := d
  obtain ⟨x1, x2, h1⟩ := st.el.slice
  obtain ⟨y1, y2, h2⟩ := st.fl.slice
  obtain ⟨z1, z2, h3⟩ := q.slice
  rw [HS.list_len] at h3
  exact ⟨⟨_, _, _, h1⟩, ⟨_, _, _, h2⟩, z1, z2, h3⟩
theorem DocS.pq (d : DocS n P s v f hl w) : PQ18 w hl s.list := by
  obtain ⟨L, Fr, m, st, q⟩ := d
  exact q.pq
/-- which handle a token is of -/
theorem SC.find (sc : SC s) (t : Int) :
    (∃ i, i < s.C.length ∧ i < s.list.length ∧ t = ((s.t (s.C.getD i 0) : Nat) : Int) ∧ (((s.list.getD i (0, 0)).1 : Nat) : Int) = t ∧ (s.list.getD i (0, 0)).2 = s.V (s.C.getD i 0) ∧ ∀ j, j < i → (((s.list.getD j (0, 0)).1 : Nat) : Int) ≠ t) ∨ (s.no t ∧ ∀ j, j < s.list.length → (((s.list.getD j (0, 0)).1 : Nat) : Int) ≠ t) := by
  have at' : ∀ i, i < s.C.length → s.list.getD i (0, 0) = (s.t (s.C.getD i 0), s.V (s.C.getD i 0)) := fun i hi => map_getD18 (f := fun x => (s.t x, s.V x)) hi
  have lh := s.list_len
  by_cases h : ∃ i, i < s.C.length ∧ t = ((s.t (s.C.getD i 0) : Nat) : Int)
  · obtain ⟨i, hi, e⟩ := h
    refine .inl ⟨i, hi, by rw [lh]; exact hi, e, by rw [at' i hi]; exact e.symm, by rw [at' i hi], fun j hj q => ?_⟩
    have hj' : j < s.C.length := by omega
    rw [at' j hj', e] at q
    have q' := (tkn_inj (sc.rng (mem_getD18 hj')) (sc.rng (mem_getD18 hi)) (Int.ofNat.inj q)).1
    have := nd_getD18 sc.2.1 hj' hi q'
    omega
  · refine .inr ⟨fun x hx q => ?_, fun j hj q => ?_⟩
    · obtain ⟨i, hi, e⟩ := List.getElem_of_mem hx
      exact h ⟨i, hi, by rw [List.getD, List.getElem?_eq_getElem hi, e]; exact q⟩
    · rw [lh] at hj
      rw [at' j hj] at q
      exact h ⟨j, hj, q.symm⟩
theorem DocS.add (d : DocS n P s v f hl w) (sc : SC s) (hl' : HL s n) (h9 : n < 400) {id rm' mad' : Nat} {gn' : Nat → Nat} {F' : List Nat} (T : HT s id rm' mad' gn' F') (r : Nat) :
    Calls Tryz.prog 22 #[stv18 v f (s.rm : Int) hl, .int .u64 (r : Int)] w fun e w3 => ∃ v' f' hl', e = .returned (.tuple #[stv18 v' f' (rm' : Int) hl', .int .i64 ((tkn id (gn' id) : Nat) : Int)]) ∧ Below w.heap.size w w3 ∧ DocS (n + 1) (fun j => w.heap.size ≤ j) (s.add id rm' mad' gn' F' r) v' f' hl' w3 := by
  obtain ⟨⟨va, vn, vc, rfl⟩, ⟨fa, fn, fc, rfl⟩, ⟨ha, hc, rfl⟩⟩ := d.slices
  have d0 := d
  obtain ⟨L, Fr, m, st, q⟩ := d0
  have hr := hl'.hr
  have hm := hl'.hm
  have lc := sc.1
  obtain ⟨i, L', Fr', ei, hi, hg, M', TK⟩ := m.take T.i1 T.i2 T.alt sc.2.2.2.2.1 (by omega) (by omega)
  have eq : s.list ++ [(tkn id (gn' id), r)] = (s.add id rm' mad' gn' F' r).list := by
    have e1 : s.list = s.C.map (fun x => (tkn x (gn' x), upd s.V id r x)) := List.map_congr_left fun x hx => by
      have hne : x ≠ id := fun e => T.nC (by rw [← e]; exact hx)
      show (tkn x (s.gn x), s.V x) = (tkn x (gn' x), upd s.V id r x)
      rw [T.gs x (sc.2.2.1 x hx).2.1, upd_ne _ _ hne]
    show _ = (s.C ++ [id]).map (fun x => (tkn x (gn' x), upd s.V id r x))
    rw [List.map_append, e1, List.map_singleton, upd_at]
  have lH : s.list.length ≤ 400 := by rw [s.list_len]; omega
  have g1 := T.gb n hl'.gg id
  have i2 := T.i2
  have m1 := T.m1
  rw [← s.list_len] at q ⊢
  refine (radd18 va vn vc fa fn fc ha _ hc (s.rm : Int) (rm' : Int) s.list i (gn' id) r L' Fr' w (by rw [s.list_len]; rw [s.list_len] at q; exact q.pq) (by omega) hi hg (by omega) (by omega) (fun w' k => TK _ _ _ w' (st.below k))).mono ?_
  rintro e3 w3 ⟨v', f', hlv, h3, st3, q3, b3⟩
  rw [← ei] at h3 q3
  rw [eq] at q3
  exact ⟨v', f', hlv, h3, b3, L', Fr', M', st3, q3⟩
theorem DocS.drop (d : DocS n P s v f hl w) (sc : SC s) (hl' : HL s n) (h9 : n < 400) {i : Nat} (hi : i < s.C.length) (e1 : (((s.list.getD i (0, 0)).1 : Nat) : Int) = ((s.t (s.C.getD i 0) : Nat) : Int)) (hno : ∀ j, j < i → (((s.list.getD j (0, 0)).1 : Nat) : Int) ≠ ((s.t (s.C.getD i 0) : Nat) : Int)) :
    Calls Tryz.prog 24 #[stv18 v f (s.rm : Int) hl, .int .i64 ((s.t (s.C.getD i 0) : Nat) : Int)] w fun e w3 => ∃ v' f' hl', e = .returned (.tuple #[stv18 v' f' (s.rm : Int) hl', .int .i64 0]) ∧ Below w.heap.size w w3 ∧ DocS (n + 1) (fun j => w.heap.size ≤ j) (s.drop i) v' f' hl' w3 := by
  obtain ⟨⟨va, vn, vc, rfl⟩, ⟨fa, fn, fc, rfl⟩, ⟨ha, hc, rfl⟩⟩ := d.slices
  have d0 := d
  obtain ⟨L, Fr, m, st, q⟩ := d0
  have hm := hl'.hm
  have lc := sc.1
  have xi := mem_getD18 hi
  have hx := sc.2.2.1 _ xi
  have g1 := hl'.gg (s.C.getD i 0)
  obtain ⟨L', Fr', M', GV⟩ := m.give hx.1 hx.2.1 hx.2.2 (by omega) (by omega) (by omega)
  have eq : s.list.eraseIdx i = (s.drop i).list := by
    show (s.C.map _).eraseIdx i = (s.C.eraseIdx i).map (fun x => (tkn x (upd s.gn (s.C.getD i 0) (s.gn (s.C.getD i 0) + 1) x), s.V x))
    rw [erase_map18]
    refine List.map_congr_left fun x hx => ?_
    have hne : x ≠ s.C.getD i 0 := ((hmem_erase sc.2.1 hi x).1 hx).2
    show (tkn x (s.gn x), s.V x) = (tkn x (upd s.gn (s.C.getD i 0) (s.gn (s.C.getD i 0) + 1) x), s.V x)
    rw [upd_ne _ _ hne]
  refine (rdrop_ok18 va vn vc fa fn fc ha _ hc (s.rm : Int) s.list _ i L' Fr' w d.pq (by rw [s.list_len]; omega) (by rw [s.list_len]; exact hi) e1 hno (fun w' k => by rw [tkn_ent (sc.rng xi)]; exact GV _ _ _ _ _ (st.below k))).mono ?_
  rintro e3 w3 ⟨v', f', hlv, h3, st3, q3, b3⟩
  rw [eq] at q3
  exact ⟨v', f', hlv, h3, b3, L', Fr', M', st3, q3⟩
theorem DocS.drop_no (d : DocS n P s v f hl w) (sc : SC s) (hl' : HL s n) (h9 : n < 400) {t : Int} (hno : ∀ j, j < s.list.length → (((s.list.getD j (0, 0)).1 : Nat) : Int) ≠ t) :
    Calls Tryz.prog 24 #[stv18 v f (s.rm : Int) hl, .int .i64 t] w fun e w3 => e = .returned (.tuple #[stv18 v f (s.rm : Int) hl, .int .i64 30]) ∧ Below w.heap.size w w3 := by
  obtain ⟨⟨va, vn, vc, rfl⟩, ⟨fa, fn, fc, rfl⟩, ⟨ha, hc, rfl⟩⟩ := d.slices
  have hm := hl'.hm
  have lc := sc.1
  exact rdrop_no18 va vn vc fa fn fc ha _ hc (s.rm : Int) s.list t w d.pq (by rw [s.list_len]; omega) hno
theorem DocS.set (d : DocS n P s v f hl w) (sc : SC s) (hl' : HL s n) (h9 : n < 400) {i r : Nat} (hi : i < s.C.length) (e1 : (((s.list.getD i (0, 0)).1 : Nat) : Int) = ((s.t (s.C.getD i 0) : Nat) : Int)) (hno : ∀ j, j < i → (((s.list.getD j (0, 0)).1 : Nat) : Int) ≠ ((s.t (s.C.getD i 0) : Nat) : Int)) :
    Calls Tryz.prog 55 #[stv18 v f (s.rm : Int) hl, .int .i64 ((s.t (s.C.getD i 0) : Nat) : Int), .int .u64 (r : Int)] w fun e w3 => ∃ hl', e = .returned (.tuple #[stv18 v f (s.rm : Int) hl', .int .i64 0]) ∧ Below w.heap.size w w3 ∧ DocS n (fun j => P j ∨ w.heap.size ≤ j) (s.set (s.C.getD i 0) r) v f hl' w3 := by
  obtain ⟨⟨va, vn, vc, rfl⟩, ⟨fa, fn, fc, rfl⟩, ⟨ha, hc, rfl⟩⟩ := d.slices
  have d0 := d
  obtain ⟨L, Fr, m, st, q⟩ := d0
  have hm := hl'.hm
  have lc := sc.1
  have eq : s.list.set i ((s.list.getD i (0, 0)).1, r) = (s.set (s.C.getD i 0) r).list := by
    have hi1 : s.list.getD i (0, 0) = (s.t (s.C.getD i 0), s.V (s.C.getD i 0)) := map_getD18 (f := fun x => (s.t x, s.V x)) hi
    rw [hi1]
    show (s.C.map _).set i _ = s.C.map (fun x => (tkn x (s.gn x), upd s.V (s.C.getD i 0) r x))
    refine List.ext_getElem (by simp) fun j h1 h2 => ?_
    rw [List.getElem_set, List.getElem_map, List.getElem_map]
    have hj : j < s.C.length := by simpa using h2
    have ej : s.C.getD j 0 = s.C[j] := by rw [List.getD, List.getElem?_eq_getElem hj]; rfl
    by_cases q : i = j
    · subst q
      rw [if_pos rfl, ← ej, upd_at]
    · rw [if_neg q, upd_ne _ _ (fun e => q (nd_getD18 sc.2.1 hi hj (by rw [ej, e])))]
  refine (rset_ok18 va vn vc fa fn fc ha _ hc (s.rm : Int) s.list _ r i w d.pq (by rw [s.list_len]; omega) (by rw [s.list_len]; exact hi) e1 hno).mono ?_
  rintro e3 w3 ⟨hlv, h3, q3, b3⟩
  rw [eq] at q3
  exact ⟨hlv, h3, b3, L, Fr, m, (st.below b3).mono (fun j h => .inl h), q3.keeps (Keeps.refl (fun _ => False) w3) (fun _ _ _ h => h) (fun j _ h => .inr h)⟩
theorem DocS.set_no (d : DocS n P s v f hl w) (sc : SC s) (hl' : HL s n) (h9 : n < 400) {t : Int} (r : Nat) (hno : ∀ j, j < s.list.length → (((s.list.getD j (0, 0)).1 : Nat) : Int) ≠ t) :
    Calls Tryz.prog 55 #[stv18 v f (s.rm : Int) hl, .int .i64 t, .int .u64 (r : Int)] w fun e w3 => e = .returned (.tuple #[stv18 v f (s.rm : Int) hl, .int .i64 30]) ∧ Below w.heap.size w w3 := by
  obtain ⟨⟨va, vn, vc, rfl⟩, ⟨fa, fn, fc, rfl⟩, ⟨ha, hc, rfl⟩⟩ := d.slices
  have hm := hl'.hm
  have lc := sc.1
  exact rset_no18 va vn vc fa fn fc ha _ hc (s.rm : Int) s.list t (r : Int) w d.pq (by rw [s.list_len]; omega) hno
theorem DocS.at (d : DocS n P s v f hl w) (sc : SC s) (hl' : HL s n) (h9 : n < 400) (t : Int) :
    Calls Tryz.prog 50 #[stv18 v f (s.rm : Int) hl, .int .i64 t] w fun e w3 => ∃ x, e = .returned (.int .i64 x) ∧ At18 s.list t x ∧ Below w.heap.size w w3 := by
  have hm := hl'.hm
  have lc := sc.1
  exact rat18 v f (s.rm : Int) hl s.list t w d.pq (by rw [s.list_len]; omega)
theorem DocS.filled (d : DocS n P s v f hl w) (sc : SC s) (hl' : HL s n) (h9 : n < 400) :
    Calls Tryz.prog 64 #[stv18 v f (s.rm : Int) hl] w fun e w3 => ∃ u, e = .returned u ∧ NL pw w3 u (hfz s.list) ∧ Below w.heap.size w w3 := by
  obtain ⟨⟨va, vn, vc, rfl⟩, ⟨fa, fn, fc, rfl⟩, ⟨ha, hc, rfl⟩⟩ := d.slices
  have hm := hl'.hm
  have lc := sc.1
  exact rfilled18 (.slice va vn vc) (.slice fa fn fc) (s.rm : Int) ha _ hc s.list w d.pq (by rw [s.list_len]; omega)
theorem DocS.more (d : DocS n P s v f hl w) (sc : SC s) (hl' : HL s n) (h9 : n < 400) (u : Nat) {V : Nat → Nat} (hV : ∀ x, x ∈ s.C → V x = hupv u (s.V x)) :
    Calls Tryz.prog 65 #[stv18 v f (s.rm : Int) hl, .int .u64 (u : Int)] w fun e w3 => ∃ hl', e = .returned (stv18 v f (s.rm : Int) hl') ∧ Below w.heap.size w w3 ∧ DocS n (fun j => P j ∨ w.heap.size ≤ j) { s with V := V } v f hl' w3 := by
  obtain ⟨⟨va, vn, vc, rfl⟩, ⟨fa, fn, fc, rfl⟩, ⟨ha, hc, rfl⟩⟩ := d.slices
  have d0 := d
  obtain ⟨L, Fr, m, st, q⟩ := d0
  have hm := hl'.hm
  have lc := sc.1
  have eq : hups u s.list = HS.list { s with V := V } := by
    show (s.C.map (fun x => (s.t x, s.V x))).map (fun p => (p.1, hupv u p.2)) = s.C.map (fun x => (tkn x (s.gn x), V x))
    rw [List.map_map]
    exact List.map_congr_left fun x hx => by
      show (s.t x, hupv u (s.V x)) = _
      rw [hV x hx]
  refine (rmore18 va vn vc fa fn fc ha _ hc (s.rm : Int) s.list u w d.pq (by rw [s.list_len]; omega)).mono ?_
  rintro e3 w3 ⟨hlv, h3, q3, b3⟩
  rw [eq] at q3
  exact ⟨hlv, h3, b3, L, Fr, m, (st.below b3).mono (fun j h => .inl h), q3.keeps (Keeps.refl (fun _ => False) w3) (fun _ _ _ h => h) (fun j _ h => .inr h)⟩
end
end Go.Proofs.YtppmicepkjhfeaaGreat
