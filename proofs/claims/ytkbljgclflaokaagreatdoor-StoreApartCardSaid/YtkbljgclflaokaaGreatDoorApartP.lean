/-
  What StoreApart holds: lists of its own beside a Store, by roles; the objects that were made, their words.
-/
import Derived.Test.YtkbljgclflaokaaGreatDoorStoP
namespace Go.Proofs.YtkbljgclflaokaaGreatDoor
open Go.RowKit
set_option linter.unusedVariables false

/-! ### lists of one's own, by roles -/
/-- blocks of the law's own lists, by roles; X: those of the Store -/
structure AQ (W0 : World) (X : Nat → Nat) (stb : Nat) (Q : Nat → Nat) (w : World) : Prop where
  lt : ∀ j, Q j ≠ 0 → j < w.heap.size
  lo : ∀ j, Q j ≠ 0 → X j = 0 ∧ j ≠ stb ∧ W0.heap.size ≤ j
def updq (Q : Nat → Nat) (g r : Nat) (j : Nat) : Nat := if j = g then r else Q j
/-- a list in a block of role r -/
abbrev ZR (w : World) (Q : Nat → Nat) (r : Nat) (t : TypeId) (v : Value) (n : Nat) (f : Nat → Value) : Prop := ZQ w (fun j => Q j = r) t v n f
section
variable {W0 w w' : World} {X X' Q : Nat → Nat} {stb r s n : Nat} {t : TypeId} {v : Value} {f f' : Nat → Value}
theorem AQ.call (q : AQ W0 X stb Q w) (t : TR X X' w w') : AQ W0 X' stb Q w' :=
  ⟨fun j h => Nat.lt_of_lt_of_le (q.lt j h) t.keeps.size, fun j h => ⟨t.old0 (q.lt j h) (q.lo j h).1, (q.lo j h).2⟩⟩
theorem AQ.push (q : AQ W0 X stb Q w) {F : Nat → Prop} (k : Keeps F w w') {g : Nat} (hg : Q g = r ∨ w.heap.size ≤ g) (hr : r ≠ 0) (hl : g < w'.heap.size) (fr : ∀ j, w.heap.size ≤ j → X j = 0 ∧ j ≠ stb ∧ W0.heap.size ≤ j) : AQ W0 X stb (updq Q g r) w' := by
  refine ⟨fun j h => ?_, fun j h => ?_⟩
  · unfold updq at h
    split at h
    · rename_i e; rw [e]; exact hl
    · exact Nat.lt_of_lt_of_le (q.lt j h) k.size
  · unfold updq at h
    split at h
    · rename_i e
      rw [e]
      rcases hg with z | z
      · exact q.lo g (by rw [z]; exact hr)
      · exact fr g z
    · exact q.lo j h
theorem ZQ.congr {B : Nat → Prop} (z : ZQ w B t v n f) (h : ∀ j, j < n → f j = f' j) : ZQ w B t v n f' := by
  rcases z with z | ⟨g, c, e, h1, h2, h3, r, ce⟩
  · exact .inl z
  · exact .inr ⟨g, c, e, h1, h2, h3, r.congr h, ce⟩
theorem ZQ.sl {B : Nat → Prop} (z : ZQ w B t v n f) : ∃ a c, v = .slice a n c := by
  rcases z with ⟨e, h⟩ | ⟨g, c, e, _⟩
  · exact ⟨none, 0, by rw [e, h]⟩
  · exact ⟨_, c, e⟩
/-- an element -/
theorem ZQ.at {B : Nat → Prop} {a : Option Addr} {c : Nat} (z : ZQ w B t (.slice a n c) n f) {i : Nat} (hi : i < n) : ∃ g, a = some ⟨g, 0, none⟩ ∧ w.cell? ⟨g, i, none⟩ = some (f i) := by
  rcases z with ⟨e, h⟩ | ⟨g, c, e, _, _, _, r, _⟩
  · omega
  · injection e with e
    exact ⟨g, e, r.cell i hi⟩
theorem ZR.call (z : ZR w Q r t v n f) (q : AQ W0 X stb Q w) (tr : TR X X' w w') (hr : r ≠ 0) : ZR w' Q r t v n f :=
  ZQ.keeps z tr.keeps (fun j _ hB hF => hF (q.lo j (by rw [hB]; exact hr)).1) (fun _ _ h => h)
theorem ZR.aside (z : ZR w Q r t v n f) (k : Keeps (fun j => Q j = s) w w') (hne : r ≠ s) {g : Nat} (hg : Q g = s ∨ w.heap.size ≤ g) : ZR w' (updq Q g s) r t v n f :=
  ZQ.keeps z k (fun j _ hB hF => hne (hB.symm.trans hF)) (fun j hj hB => by
    show updq Q g s j = r
    unfold updq
    rw [if_neg]
    · exact hB
    · intro e
      subst e
      rcases hg with z | z
      · exact hne (hB.symm.trans z)
      · omega)
/-- one element, appended -/
theorem ZR.push (z : ZR w Q r t v n f) (ts : TypeId) (u : Value) (bytes : Nat) (ht : Tryz.prog.underlying ts = some (.slice t)) (hi : (Tryz.prog.info? t).map (fun i => (i.zero, i.size, i.bytes)) = some (some u, 1, bytes)) (hu : u.cells.size = 1) (hb : bytes ≤ 1000) (b : Nat) (x : Value) (hx : w.cell? ⟨b, 0, none⟩ = some x) (hxo : x.oneCell' = true) (hn : n ≤ 1000000) :
    ∃ g c w', (Builtin.append_ #[ts, ts] ts #[v, .slice (some ⟨b, 0, none⟩) 1 1]).run Tryz.prog w = .ok (.slice (some ⟨g, 0, none⟩) (n + 1) c) w' ∧ ZR w' (updq Q g r) r t (.slice (some ⟨g, 0, none⟩) (n + 1) c) (n + 1) (fun j => if j < n then f j else x) ∧ (Q g = r ∨ w.heap.size ≤ g) ∧ g < w'.heap.size ∧ Keeps (fun j => Q j = r) w w' := by
  obtain ⟨i0, h0, h1, h2, h3⟩ := info_parts hi
  obtain ⟨g, c, w', hr, hc, hcm, hg, R, ce, kk⟩ := push1 (P := Tryz.prog) w (fun j => Q j = r) t ts ts i0 u bytes ht h0 h1 h2 h3 hu hb v n f z b x hx hxo hn
  exact ⟨g, c, w', hr, .inr ⟨g, c, rfl, hc, hcm, by show updq Q g r g = r; unfold updq; rw [if_pos rfl], R, ce⟩, hg, R.lt, kk⟩
end
theorem info_ref : (Tryz.prog.info? 34).map (fun i => (i.zero, i.size, i.bytes)) = some (some (.int .u64 0), 1, 8) := by kernel_rfl
theorem info_u64 : (Tryz.prog.info? 24).map (fun i => (i.zero, i.size, i.bytes)) = some (some (.int .u64 0), 1, 8) := by kernel_rfl
theorem info_sl : (Tryz.prog.info? 38).map (fun i => (i.zero, i.size, i.bytes)) = some (some (.slice none 0 0), 1, 24) := by kernel_rfl
theorem snoc_at {xs : List Nat} {x j : Nat} (hj : j < xs.length + 1) : (xs ++ [x]).getD j 0 = if j < xs.length then xs.getD j 0 else x := by
  rw [getD_append']
  split
  · rfl
  · rw [show j - xs.length = 0 by omega]; rfl

/-- the law's lists: the references, the numbers of words, the old words of m objects, those of the next -/
structure LL (W0 : World) (X : Nat → Nat) (stb : Nat) (Q : Nat → Nat) (v1 v2 v3 vl : Value) (xs ns : List Nat) (m : Nat) (U : Nat → Value) (D : Nat → List Nat) (K : List Nat) (w : World) : Prop where
  q : AQ W0 X stb Q w
  l1 : ZR w Q 1 34 v1 xs.length (fun j => pw (xs.getD j 0))
  l2 : ZR w Q 2 3 v2 ns.length (fun j => pe (ns.getD j 0))
  l3 : ZR w Q 3 38 v3 m U
  l4 : ∀ i, i < m → ZR w Q (4 + i) 24 (U i) (D i).length (fun j => pw ((D i).getD j 0))
  l5 : ZR w Q (4 + m) 24 vl K.length (fun j => pw (K.getD j 0))
section
variable {W0 w w' : World} {X X' Q : Nat → Nat} {stb : Nat} {v1 v2 v3 vl : Value} {xs ns : List Nat} {m : Nat} {U : Nat → Value} {D : Nat → List Nat} {K : List Nat}
theorem LL.nil (W0 : World) (X : Nat → Nat) (stb : Nat) (w : World) : LL W0 X stb (fun _ => 0) (.slice none 0 0) (.slice none 0 0) (.slice none 0 0) (.slice none 0 0) [] [] 0 (fun _ => .slice none 0 0) (fun _ => []) [] w :=
  ⟨⟨fun j h => absurd rfl h, fun j h => absurd rfl h⟩, .inl ⟨rfl, rfl⟩, .inl ⟨rfl, rfl⟩, .inl ⟨rfl, rfl⟩, fun i hi => by omega, .inl ⟨rfl, rfl⟩⟩
theorem LL.call (h : LL W0 X stb Q v1 v2 v3 vl xs ns m U D K w) (t : TR X X' w w') : LL W0 X' stb Q v1 v2 v3 vl xs ns m U D K w' :=
  ⟨h.q.call t, ZR.call h.l1 h.q t (by omega), ZR.call h.l2 h.q t (by omega), ZR.call h.l3 h.q t (by omega), fun i hi => ZR.call (h.l4 i hi) h.q t (by omega), ZR.call h.l5 h.q t (by omega)⟩
theorem LL.below (h : LL W0 X stb Q v1 v2 v3 vl xs ns m U D K w) (k : Below w.heap.size w w') : LL W0 X stb Q v1 v2 v3 vl xs ns m U D K w' := h.call (TR.of k)
theorem LL.push1 (h : LL W0 X stb Q v1 v2 v3 vl xs ns m U D K w) (fr : ∀ j, w.heap.size ≤ j → X j = 0 ∧ j ≠ stb ∧ W0.heap.size ≤ j) (b x : Nat) (hx : w.cell? ⟨b, 0, none⟩ = some (pw x)) (hn : xs.length ≤ 1000) :
    ∃ g c w' Q', (Builtin.append_ #[30, 30] 30 #[v1, .slice (some ⟨b, 0, none⟩) 1 1]).run Tryz.prog w = .ok (.slice (some ⟨g, 0, none⟩) (xs.length + 1) c) w' ∧ LL W0 X stb Q' (.slice (some ⟨g, 0, none⟩) (xs.length + 1) c) v2 v3 vl (xs ++ [x]) ns m U D K w' ∧ Keeps (fun j => Q j = 1) w w' := by
  obtain ⟨g, c, w', hr, z, hg, hl, kk⟩ := ZR.push h.l1 30 _ 8 Tryz.underlying30 info_ref rfl (by omega) b (pw x) hx rfl (by omega)
  refine ⟨g, c, w', updq Q g 1, hr, ⟨h.q.push kk hg (by omega) hl fr, ?_, ZR.aside h.l2 kk (by omega) hg, ZR.aside h.l3 kk (by omega) hg, fun i hi => ZR.aside (h.l4 i hi) kk (by omega) hg, ZR.aside h.l5 kk (by omega) hg⟩, kk⟩
  rw [List.length_append, List.length_singleton]
  exact ZQ.congr z fun j hj => by
    rw [snoc_at hj]
    split <;> rfl
theorem LL.push2 (h : LL W0 X stb Q v1 v2 v3 vl xs ns m U D K w) (fr : ∀ j, w.heap.size ≤ j → X j = 0 ∧ j ≠ stb ∧ W0.heap.size ≤ j) (b x : Nat) (hx : w.cell? ⟨b, 0, none⟩ = some (pe x)) (hn : ns.length ≤ 1000) :
    ∃ g c w' Q', (Builtin.append_ #[31, 31] 31 #[v2, .slice (some ⟨b, 0, none⟩) 1 1]).run Tryz.prog w = .ok (.slice (some ⟨g, 0, none⟩) (ns.length + 1) c) w' ∧ LL W0 X stb Q' v1 (.slice (some ⟨g, 0, none⟩) (ns.length + 1) c) v3 vl xs (ns ++ [x]) m U D K w' ∧ Keeps (fun j => Q j = 2) w w' := by
  obtain ⟨g, c, w', hr, z, hg, hl, kk⟩ := ZR.push h.l2 31 _ 8 Tryz.underlying31 info1 rfl (by omega) b (pe x) hx rfl (by omega)
  refine ⟨g, c, w', updq Q g 2, hr, ⟨h.q.push kk hg (by omega) hl fr, ZR.aside h.l1 kk (by omega) hg, ?_, ZR.aside h.l3 kk (by omega) hg, fun i hi => ZR.aside (h.l4 i hi) kk (by omega) hg, ZR.aside h.l5 kk (by omega) hg⟩, kk⟩
  rw [List.length_append, List.length_singleton]
  exact ZQ.congr z fun j hj => by
    rw [snoc_at hj]
    split <;> rfl
theorem LL.pushl (h : LL W0 X stb Q v1 v2 v3 vl xs ns m U D K w) (fr : ∀ j, w.heap.size ≤ j → X j = 0 ∧ j ≠ stb ∧ W0.heap.size ≤ j) (b x : Nat) (hx : w.cell? ⟨b, 0, none⟩ = some (pw x)) (hn : K.length ≤ 1000) :
    ∃ g c w' Q', (Builtin.append_ #[38, 38] 38 #[vl, .slice (some ⟨b, 0, none⟩) 1 1]).run Tryz.prog w = .ok (.slice (some ⟨g, 0, none⟩) (K.length + 1) c) w' ∧ LL W0 X stb Q' v1 v2 v3 (.slice (some ⟨g, 0, none⟩) (K.length + 1) c) xs ns m U D (K ++ [x]) w' ∧ Keeps (fun j => Q j = 4 + m) w w' := by
  obtain ⟨g, c, w', hr, z, hg, hl, kk⟩ := ZR.push h.l5 38 _ 8 Tryz.underlying38 info_u64 rfl (by omega) b (pw x) hx rfl (by omega)
  refine ⟨g, c, w', updq Q g (4 + m), hr, ⟨h.q.push kk hg (by omega) hl fr, ZR.aside h.l1 kk (by omega) hg, ZR.aside h.l2 kk (by omega) hg, ZR.aside h.l3 kk (by omega) hg, fun i hi => ZR.aside (h.l4 i hi) kk (by omega) hg, ?_⟩, kk⟩
  rw [List.length_append, List.length_singleton]
  exact ZQ.congr z fun j hj => by
    rw [snoc_at hj]
    split <;> rfl
/-- the words of an object are complete -/
theorem LL.push3 (h : LL W0 X stb Q v1 v2 v3 vl xs ns m U D K w) (fr : ∀ j, w.heap.size ≤ j → X j = 0 ∧ j ≠ stb ∧ W0.heap.size ≤ j) (b : Nat) (hx : w.cell? ⟨b, 0, none⟩ = some vl) (hn : m ≤ 1000) :
    ∃ g c w' Q' U', (Builtin.append_ #[37, 37] 37 #[v3, .slice (some ⟨b, 0, none⟩) 1 1]).run Tryz.prog w = .ok (.slice (some ⟨g, 0, none⟩) (m + 1) c) w' ∧ LL W0 X stb Q' v1 v2 (.slice (some ⟨g, 0, none⟩) (m + 1) c) (.slice none 0 0) xs ns (m + 1) U' (upd D m K) [] w' ∧ Keeps (fun j => Q j = 3) w w' := by
  have ho : vl.oneCell' = true := by
    obtain ⟨a, c, e⟩ := ZQ.sl h.l5
    rw [e]; rfl
  obtain ⟨g, c, w', hr, z, hg, hl, kk⟩ := ZR.push h.l3 37 _ 24 Tryz.underlying37 info_sl rfl (by omega) b vl hx ho (by omega)
  refine ⟨g, c, w', updq Q g 3, _, hr, ⟨h.q.push kk hg (by omega) hl fr, ZR.aside h.l1 kk (by omega) hg, ZR.aside h.l2 kk (by omega) hg, z, fun i hi => ?_, .inl ⟨rfl, rfl⟩⟩, kk⟩
  by_cases e : i < m
  · show ZR w' _ (4 + i) _ (if i < m then U i else vl) _ _
    rw [if_pos e, upd_ne _ _ (by omega)]
    exact ZR.aside (h.l4 i e) kk (by omega) hg
  · obtain rfl : i = m := by omega
    show ZR w' _ (4 + i) _ (if i < i then U i else vl) _ _
    rw [if_neg (by omega), upd_at]
    exact ZR.aside h.l5 kk (by omega) hg
end

/-! ### the objects -/
/-- two words that lie apart -/
def APT (x d y j : Nat) : Prop := kd x = kd y → (kd x = 1 → nr x + d ≠ nr y + j) ∧ (kd x = 2 → nr x = nr y → d ≠ j)
/-- a Store with objects xs of so many words ns; G their words -/
def SA (W0 : World) (X : Nat → Nat) (stb : Nat) (xs ns : List Nat) (G : Nat → Nat → Nat) (i : Nat) (w : World) : Prop :=
  ∃ R sb lb pb mb mm L n ws ct rm mad F M O tot a b h g ob, SO W0 R stb sb lb pb mb mm 6 L n ws ct rm mad F M O tot a b h g ob w ∧ X = rs R sb pb lb ∧ ws.length = 400 ∧ ct ≤ 6 * i ∧ n ≤ i ∧ xs.length = ns.length ∧
    (∀ j d, j < xs.length → d < ns.getD j 0 → InW ct M O ob (xs.getD j 0) d ∧ gw ws ob (xs.getD j 0) d = G j d) ∧
    (∀ j d j' d', j < xs.length → j' < xs.length → d < ns.getD j 0 → d' < ns.getD j' 0 → j ≠ j' → APT (xs.getD j 0) d (xs.getD j' 0) d')
section
variable {W0 w w' : World} {X X' : Nat → Nat} {stb : Nat} {xs ns : List Nat} {G : Nat → Nat → Nat} {i : Nat}
theorem SA.below (s : SA W0 X stb xs ns G i w) (k : Below w.heap.size w w') : SA W0 X stb xs ns G i w' := by
  obtain ⟨R, sb, lb, pb, mb, mm, L, n, ws, ct, rm, mad, F, M, O, tot, a, b, h, g, ob, s, q⟩ := s
  exact ⟨R, sb, lb, pb, mb, mm, L, n, ws, ct, rm, mad, F, M, O, tot, a, b, h, g, ob, s.below k, q⟩
theorem SA.fresh (s : SA W0 X stb xs ns G i w) (j : Nat) (hj : w.heap.size ≤ j) : X j = 0 ∧ j ≠ stb ∧ W0.heap.size ≤ j := by
  obtain ⟨R, sb, lb, pb, mb, mm, L, n, ws, ct, rm, mad, F, M, O, tot, a, b, h, g, ob, s, rfl, q⟩ := s
  obtain ⟨z, e⟩ := s.s.fresh hj
  exact ⟨z, e, Nat.le_trans s.o.b.size hj⟩
theorem SA.own (s : SA W0 X stb xs ns G i w) : Below W0.heap.size W0 w := by
  obtain ⟨R, sb, lb, pb, mb, mm, L, n, ws, ct, rm, mad, F, M, O, tot, a, b, h, g, ob, s, q⟩ := s
  exact s.o.b
theorem SA.ll (s : SA W0 X stb xs ns G i w) : xs.length = ns.length := by
  obtain ⟨R, sb, lb, pb, mb, mm, L, n, ws, ct, rm, mad, F, M, O, tot, a, b, h, g, ob, s, _, _, _, _, e, _⟩ := s
  exact e
/-- blocks that are none of the Store's have turned -/
theorem SA.aside (s : SA W0 X stb xs ns G i w) {F : Nat → Prop} (k : Keeps F w w') (hF : ∀ j, F j → X j = 0 ∧ j ≠ stb ∧ W0.heap.size ≤ j) : SA W0 X stb xs ns G i w' := by
  obtain ⟨R, sb, lb, pb, mb, mm, L, n, ws, ct, rm, mad, F', M, O, tot, a, b, h, g, ob, ⟨ss, o, ls, ft⟩, rfl, q⟩ := s
  obtain ⟨⟨ps, cs, os, fre, tk, gn, bg, p, qq⟩, z1, z2, z3, z4, z5, z6, z7⟩ := ss
  refine ⟨R, sb, lb, pb, mb, mm, L, n, ws, ct, rm, mad, F', M, O, tot, a, b, h, g, ob, ⟨⟨⟨ps, cs, os, fre, tk, gn, bg, ⟨p.row.keeps k (fun z => (hF stb z).2.1 rfl), p.z, p.n1, p.n2, p.n3, p.n4, p.n5, ⟨p.s.row.keeps k (fun z => rp_at _ _ (hF sb z).1), p.s.z, p.s.m.aside k (fun j hj z => hj (rp_sub (rp_sub (rp_sub (hF j z).1)))), p.s.hk, p.s.ho, p.s.ht, p.s.old, p.s.non⟩,
    ⟨p.l.row.keeps k (fun z => rp_at _ _ (rp_sub (hF lb z).1)), p.l.z, p.l.ne, ⟨p.l.p.row.keeps k (fun z => rp_at _ _ (rp_sub (rp_sub (hF pb z).1))), p.l.p.z, p.l.p.m.aside k (fun j hj z => hj (rp_sub (rp_sub (rp_sub (hF j z).1)))), p.l.p.w1, p.l.p.w60, p.l.p.hk, p.l.p.ho, p.l.p.len, p.l.p.mr, p.l.p.al⟩⟩, p.kc, p.ko⟩, qq⟩, z1, z2, z3, z4, z5, z6, z7⟩, ⟨o.lo, o.b.trans (k.below o.b.size (fun j hj => (hF j hj).2.2))⟩, ls, ft⟩, rfl, q⟩
theorem SA.word (s : SA W0 X stb xs ns G i w) {j d : Nat} (hj : j < xs.length) (hd : d < ns.getD j 0) : Calls Tryz.prog 8 #[at0 stb, .int .u64 ((xs.getD j 0 : Nat) : Int), .int .i64 (d : Int)] w fun e w' => e = .returned (.tuple #[.int .u64 ((G j d : Nat) : Int), .int .i64 0]) ∧ SA W0 X stb xs ns G i w' ∧ TR X X w w' := by
  obtain ⟨R, sb, lb, pb, mb, mm, L, n, ws, ct, rm, mad, F, M, O, tot, a, b, h, g, ob, s, rfl, e1, e2, e3, e4, e5, e6⟩ := s
  obtain ⟨iw, ig⟩ := e5 j d hj hd
  rw [← ig]
  exact (s.s.word iw).mono fun e w' ⟨a', e', s', u1, u2, t⟩ => ⟨e', ⟨R, sb, lb, pb, mb, mm, L, n, ws, ct, rm, mad, F, M, O, tot, a', b, h, g, ob, s.step s' t, rfl, e1, e2, e3, e4, e5, e6⟩, t⟩
theorem SA.set (s : SA W0 X stb xs ns G i w) {j d : Nat} (hj : j < xs.length) (hd : d < ns.getD j 0) (v : Nat) : Calls Tryz.prog 9 #[at0 stb, .int .u64 ((xs.getD j 0 : Nat) : Int), .int .i64 (d : Int), .int .u64 (v : Int)] w fun e w' => e = .returned (.int .i64 0) ∧ SA W0 X stb xs ns (fun p k => if p = j ∧ k = d then v else G p k) i w' ∧ TR X X w w' := by
  obtain ⟨R, sb, lb, pb, mb, mm, L, n, ws, ct, rm, mad, F, M, O, tot, a, b, h, g, ob, s, rfl, e1, e2, e3, e4, e5, e6⟩ := s
  obtain ⟨iw, ig⟩ := e5 j d hj hd
  have hl : (wsv ws (xs.getD j 0) d v).length = 400 := by unfold wsv; split <;> simp [e1]
  refine (s.s.set v iw).mono fun e w' ⟨a', b', L', e', s', u1, u2, u3, u4, kp, t⟩ => ⟨e', ⟨R, sb, lb, pb, mb, mm, L', n, _, ct, rm, mad, F, M, O, tot, a', b', h, g, _, s.step s' t, rfl, hl, e2, e3, e4, fun p k hp hk => ⟨(e5 p k hp hk).1.set _ _ _, ?_⟩, e6⟩, t⟩
  show gw (wsv ws (xs.getD j 0) d v) (obv ob (xs.getD j 0) d v) (xs.getD p 0) k = if p = j ∧ k = d then v else G p k
  by_cases e : p = j ∧ k = d
  · rw [if_pos e, e.1, e.2]
    exact gw_set_at iw (s.s.ns.1) v
  · rw [if_neg e, ← (e5 p k hp hk).2]
    refine gw_set_ne ?_ (e5 p k hp hk).1 iw v
    by_cases ep : p = j
    · subst ep
      exact fun _ => ⟨fun _ => by omega, fun _ _ => by omega⟩
    · exact e6 p k j d hp hj hk hd ep
theorem SA.start {W0 : World} {R : Nat → Nat} {stb sb lb pb mb mm : Nat} {L : List Spc} {g : Int} {w : World} (s : SO W0 R stb sb lb pb mb mm 6 L 0 (List.replicate 400 0) 0 0 0 [] [] [] 0 0 0 ((400 : Nat) : Int) g (fun _ => []) w) : SA W0 (rs R sb pb lb) stb [] [] (fun _ _ => 0) 0 w :=
  ⟨R, sb, lb, pb, mb, mm, L, 0, _, 0, 0, 0, [], [], [], 0, 0, 0, _, g, _, s, rfl, List.length_replicate, by omega, by omega, rfl, fun j d hj => by simp at hj, fun j d j' d' hj => by simp at hj⟩
theorem SA.make (s : SA W0 X stb xs ns G i w) (hi : i < 20) {P Q : Nat} (hP : P < 8) (hQ : Q < 8) : Calls Tryz.prog 7 #[at0 stb, sh P Q, .int .i64 (i : Int)] w fun e w' => ∃ x X' G', e = .returned (.tuple #[.int .u64 (x : Nat), .int .i64 0]) ∧ SA W0 X' stb (xs ++ [x]) (ns ++ [1 + P + Q]) G' (i + 1) w' ∧ TR X X' w w' := by
  obtain ⟨R, sb, lb, pb, mb, mm, L, n, ws, ct, rm, mad, F, M, O, tot, a, b, h, g, ob, s, rfl, e1, e2, e3, e4, e5, e6⟩ := s
  have ln : ∀ x, (xs ++ [x]).length = xs.length + 1 := fun x => by simp
  have getx : ∀ x j, j < xs.length → (xs ++ [x]).getD j 0 = xs.getD j 0 := fun x j hj => by rw [snoc_at (by omega), if_pos hj]
  have getn : ∀ y j, j < xs.length → (ns ++ [y]).getD j 0 = ns.getD j 0 := fun y j hj => by rw [snoc_at (by omega), if_pos (by omega)]
  have lastx : ∀ x, (xs ++ [x]).getD xs.length 0 = x := fun x => by rw [snoc_at (by omega), if_neg (by omega)]
  have lastn : ∀ y, (ns ++ [y]).getD xs.length 0 = y := fun y => by rw [snoc_at (by omega), if_neg (by omega)]
  by_cases hk : 1 + P + Q ≤ 6
  · obtain ⟨x1, x2, x3⟩ := sref (i := ct) (by omega)
    refine (s.s.make_s (P := P) (Q := Q) (S := i) (by omega) (by omega) (by omega) hk (by omega) (fun v t => s.fx t)).mono fun e w' ⟨a', b', L', e', s', u, kp, t⟩ => ⟨_, _, fun j d => if j < xs.length then G j d else gw (ws.set ct (hw P Q i 0 false)) ob (2 * ct + 1) d, e', ⟨R, sb, lb, pb, mb, mm, L', n, _, _, rm, mad, F, M, O, tot, a', b', h, g, ob, s.step s' t, rfl, by rw [List.length_set]; exact e1, by omega, by omega, by simp [e4], fun j d hj hd => ?_, fun j d j' d' hj hj' hd hd' ne => ?_⟩, t⟩
    · have I := IsO.small (ct := ct) (ws := ws) (M := M) (O := O) (ob := ob) (P := P) (Q := Q) (S := i) (by omega) (by omega) (by omega) (by omega) (by omega)
      by_cases c : j < xs.length
      · rw [getx _ _ c]
        rw [getn _ _ c] at hd
        obtain ⟨iw, ig⟩ := e5 j d c hd
        exact ⟨iw.more _, by rw [gw_more iw]; exact ig.trans (if_pos c).symm⟩
      · obtain rfl : j = xs.length := by rw [ln] at hj; omega
        rw [lastx]
        rw [lastn] at hd
        exact ⟨I.iw d hd, (if_neg c).symm⟩
    · rw [ln] at hj hj'
      by_cases c : j < xs.length <;> by_cases c' : j' < xs.length
      · rw [getx _ _ c, getx _ _ c']
        rw [getn _ _ c] at hd
        rw [getn _ _ c'] at hd'
        exact e6 j d j' d' c c' hd hd' ne
      · obtain rfl : j' = xs.length := by omega
        rw [getx _ _ c, lastx]
        rw [getn _ _ c] at hd
        obtain ⟨iw, _⟩ := e5 j d c hd
        refine fun ek => ⟨fun k1 => ?_, fun k2 => by omega⟩
        rcases iw.2 with z | z
        · rw [x3]; omega
        · omega
      · obtain rfl : j = xs.length := by omega
        rw [getx _ _ c', lastx]
        rw [getn _ _ c'] at hd'
        obtain ⟨iw, _⟩ := e5 j' d' c' hd'
        refine fun ek => ⟨fun k1 => ?_, fun k2 => by omega⟩
        rcases iw.2 with z | z
        · rw [x3]; omega
        · omega
      · omega
  · obtain ⟨i1, i2, i3, i4, C⟩ := s.s.make_l (by omega) (P := P) (Q := Q) (S := i) (by omega) (by omega) (by omega) (by omega) (fun v t => s.fx t)
    have im : nid F mad ≤ 1048576 := by
      have h1 := s.s.hm
      have h2 : nmd F mad ≤ mad + 1 := by unfold nmd; split <;> omega
      omega
    obtain ⟨x1, x2, x3⟩ := lref i1 im
    refine C.mono fun e w' ⟨R', a', b', g', L', e', s', u, kp, t⟩ => ⟨_, _, fun j d => if j < xs.length then G j d else gw ws (upd ob (nid F mad) (hw P Q i 0 true :: List.replicate (P + Q) 0)) (2 * nid F mad) d, e', ⟨R', sb, lb, pb, mb, mm, L', n + 1, _, _, _, _, _, _, O, _, a', b', _, g', _, s.step s' t, rfl, e1, by omega, by omega, by simp [e4], fun j d hj hd => ?_, fun j d j' d' hj hj' hd hd' ne => ?_⟩, t⟩
    · have I := IsO.large (ct := ct) (ws := ws) (M := M) (O := O) (ob := ob) (P := P) (Q := Q) (S := i) (by omega) (by omega) (by omega) i1 im
      by_cases c : j < xs.length
      · rw [getx _ _ c]
        rw [getn _ _ c] at hd
        obtain ⟨iw, ig⟩ := e5 j d c hd
        exact ⟨iw.moreL i3 i4 _, by rw [gw_moreL iw i3 i4]; exact ig.trans (if_pos c).symm⟩
      · obtain rfl : j = xs.length := by rw [ln] at hj; omega
        rw [lastx]
        rw [lastn] at hd
        exact ⟨I.iw d hd, (if_neg c).symm⟩
    · have nin : ∀ y d, InW ct M O ob y d → kd y = 2 → nr y ≠ nid F mad := fun y d iw hy e => by
        rcases iw.2 with z | z
        · omega
        · rcases z.2.1 with q | q
          · exact i3 (e ▸ q)
          · exact i4 (e ▸ q)
      rw [ln] at hj hj'
      by_cases c : j < xs.length <;> by_cases c' : j' < xs.length
      · rw [getx _ _ c, getx _ _ c']
        rw [getn _ _ c] at hd
        rw [getn _ _ c'] at hd'
        exact e6 j d j' d' c c' hd hd' ne
      · obtain rfl : j' = xs.length := by omega
        rw [getx _ _ c, lastx]
        rw [getn _ _ c] at hd
        obtain ⟨iw, _⟩ := e5 j d c hd
        exact fun ek => ⟨fun k1 => by omega, fun k2 e => absurd (e.trans x3) (nin _ _ iw k2)⟩
      · obtain rfl : j = xs.length := by omega
        rw [getx _ _ c', lastx]
        rw [getn _ _ c'] at hd'
        obtain ⟨iw, _⟩ := e5 j' d' c' hd'
        exact fun ek => ⟨fun k1 => by omega, fun k2 e => absurd (e.symm.trans x3) (nin _ _ iw (ek ▸ k2))⟩
      · omega
end
end Go.Proofs.YtkbljgclflaokaaGreatDoor
