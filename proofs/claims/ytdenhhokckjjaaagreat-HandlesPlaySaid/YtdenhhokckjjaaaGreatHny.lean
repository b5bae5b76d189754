/-
  haymowlaw18.told: the tokens that Tokens tells, collected.
-/
import Derived.Test.YtdenhhokckjjaaaGreatHnx
import Derived.Test.YtdenhhokckjjaaaGreatHnv
import Derived.Test.YtdenhhokckjjaaaGreatHnl
import Derived.OwnWalkIn
namespace Go.Proofs.YtdenhhokckjjaaaGreat
open Go.RowKit Go.Shelf
set_option linter.unusedVariables false

attribute [local go_sem] Oper.semAt_some
section
variable {W0 : World} {R : Nat → Nat} {hb pb mb mm n rm mad : Nat} {tk : Nat → Bool} {gn : Nat → Nat} {F C : List Nat} {V : Nat → Nat} {bz : Bool} {a b : Nat} {w w' : World}
theorem HB.rng (s : HB W0 R hb pb mb mm n rm mad tk gn F C V bz a b w) {x : Nat} (h : x ∈ C) : 1 ≤ x ∧ x ≤ 1048576 := by
  obtain ⟨⟨ws, fre, g, l, q, v⟩, _⟩ := s
  exact q.rng h
theorem HB.token (s : HB W0 R hb pb mb mm n rm mad tk gn F C V bz a b w) {x : Nat} (hx : x ∈ C) : Calls Tryz.prog 28 #[at0 hb, .int .i64 ((((tkn x (gn x) : Nat) : Int)).tmod 1048576 + 1)] w fun e w' => ∃ a', e = .returned (.int .i64 ((tkn x (gn x) : Nat) : Int)) ∧ HB W0 R hb pb mb mm n rm mad tk gn F C V bz a' b w' ∧ TR R R w w' := by
  have g9 := s.g9 x
  rw [tkn_ent (s.rng hx)]
  obtain ⟨⟨ws, fre, g, l, q, v⟩, o, lp, lh, gg, hm, hr, hn⟩ := s
  exact (htoken_any x (gn x) (q.rng hx).1 (q.rng hx).2 (by rw [hone_wds]; exact (q.tkt hx).2) g9 w l).mono fun e w' ⟨a', e1, la, l', t⟩ => ⟨a', e1, ⟨⟨ws, fre, g, l', q, v⟩, o.step t, lp, lh, gg, hm, hr, hn⟩, t⟩
theorem HB.list (s : HB W0 R hb pb mb mm n rm mad tk gn F C V bz a b w) : Calls Tryz.prog 71 #[at0 hb] w fun e w' => ∃ a' v, e = .returned v ∧ HB W0 R hb pb mb mm n rm mad tk gn F C V bz a' b w' ∧ IO w' (fun j => w.heap.size ≤ j) v (C.map fun x => tkn x (gn x)) ∧ TR R R w w' := by
  have g9 := s.g9
  have lC : C.length ≤ 900 := by have := s.c.1; have := s.hm; have := s.hn; omega
  obtain ⟨⟨ws, fre, g, l, q, v⟩, o, lp, lh, gg, hm, hr, hn⟩ := s
  exact (hlist_ok (by rw [hone_wds]; exact q) g9 lC w l).mono fun e w' ⟨a', v', e1, la, l', io, t⟩ => ⟨a', v', e1, ⟨⟨ws, fre, g, l', q, v⟩, o.step t, lp, lh, gg, hm, hr, hn⟩, io, t⟩
end
/-- at the head of a round of told: Bo the list's box, Bb the iterator's, w the world ahead of the call -/
structure TO (W0 w : World) (R : Nat → Nat) (hb pb mb mm n rm mad : Nat) (tk : Nat → Bool) (gn : Nat → Nat) (F C : List Nat) (V : Nat → Nat) (bz : Bool) (b Bo Bb B2 B3 D S : Nat) (pre : List Nat) (A : World) : Prop where
  m : ∃ a, HB W0 R hb pb mb mm n rm mad tk gn F C V bz a b A
  bo : ∃ v, Boxed A Bo 29 v ∧ IO A (fun j => S ≤ j) v pre
  bb : A.cell? ⟨Bb, 0, none⟩ = some (at0 hb)
  hS : D + 2 ≤ A.heap.size
  hs : D + 2 ≤ S
  b2 : ∃ v, Boxed A B2 29 v
  b3 : ∃ v, Boxed A B3 4 v
  t : Keeps (fun j => R j ≠ 0) w A
/-- what the walk of told holds of its blocks -/
structure TOZ (w : World) (R : Nat → Nat) (Bo Bb B2 B3 D : Nat) : Prop where
  z : ∀ j, w.heap.size ≤ j → R j = 0
  ho : w.heap.size ≤ Bo
  hb : w.heap.size ≤ Bb
  h2 : w.heap.size ≤ B2
  h3 : w.heap.size ≤ B3
  d0 : Bo < D
  d1 : Bb < D
  d2 : B2 < D
  d3 : B3 < D
  ne : Bo ≠ Bb
  n2 : Bo ≠ B2
  n3 : Bo ≠ B3
section
variable {W0 w A A' : World} {R : Nat → Nat} {hb pb mb mm n rm mad : Nat} {tk : Nat → Bool} {gn : Nat → Nat} {F C : List Nat} {V : Nat → Nat} {bz : Bool} {b Bo Bb B2 B3 D S : Nat} {pre : List Nat}
/-- the Mem has turned -/
theorem TO.step (z : TOZ w R Bo Bb B2 B3 D) (s : TO W0 w R hb pb mb mm n rm mad tk gn F C V bz b Bo Bb B2 B3 D S pre A) (t : TR R R A A') (m : ∃ a, HB W0 R hb pb mb mm n rm mad tk gn F C V bz a b A') : TO W0 w R hb pb mb mm n rm mad tk gn F C V bz b Bo Bb B2 B3 D S pre A' := by
  obtain ⟨v, bo, io⟩ := s.bo
  obtain ⟨v2, b2⟩ := s.b2
  obtain ⟨v3, b3⟩ := s.b3
  have hs := s.hs
  have hw := z.ho
  have hd := z.d0
  exact ⟨m, ⟨v, Boxed.keeps bo t.keeps (fun q => q (z.z _ z.ho)), io.keeps t.keeps (fun j _ hj q => q (z.z j (by omega))) (fun _ _ q => q)⟩, (World.cell?_of_block (w := A) (t.keeps.block Bb (World.block_lt_of_cell? A _ s.bb) (fun q => q (z.z _ z.hb)))).trans s.bb, Nat.le_trans s.hS t.keeps.size, hs, ⟨v2, Boxed.keeps b2 t.keeps (fun q => q (z.z _ z.h2))⟩, ⟨v3, Boxed.keeps b3 t.keeps (fun q => q (z.z _ z.h3))⟩, s.t.trans t.keeps (fun _ _ q => q)⟩
theorem TO.drew (z : TOZ w R Bo Bb B2 B3 D) (s : TO W0 w R hb pb mb mm n rm mad tk gn F C V bz b Bo Bb B2 B3 D S pre A) : TO W0 w R hb pb mb mm n rm mad tk gn F C V bz b Bo Bb B2 B3 D S pre A.drew := by
  obtain ⟨a, m⟩ := s.m
  exact s.step z (TR.of (Below.refl _ _).drew) ⟨a, m.drew⟩
theorem TO.put (z : TOZ w R Bo Bb B2 B3 D) (zr : ∀ j, w.heap.size ≤ j → rh R pb hb j = 0) (z0 : W0.heap.size ≤ w.heap.size) (s : TO W0 w R hb pb mb mm n rm mad tk gn F C V bz b Bo Bb B2 B3 D S pre A) {l : Nat} (o' : Obj) (hl : l = D ∨ l = D + 1) : TO W0 w R hb pb mb mm n rm mad tk gn F C V bz b Bo Bb B2 B3 D S pre (A.putObj l o') := by
  have k := putObj_keeps A l o'
  obtain ⟨a, m⟩ := s.m
  obtain ⟨v, bo, io⟩ := s.bo
  obtain ⟨v2, b2⟩ := s.b2
  obtain ⟨v3, b3⟩ := s.b3
  have h0 := z.ho
  have h1 := z.d0
  have h2 := z.d1
  have h3 := z.d2
  have h4 := z.d3
  have hs := s.hs
  exact ⟨⟨a, m.aside k (fun j e => ⟨zr j (by omega), by omega⟩)⟩, ⟨v, Boxed.keeps bo k (fun e => by omega), io.keeps k (fun j _ hj e => by omega) (fun _ _ q => q)⟩, (World.cell?_of_block (w := A) (k.block Bb (World.block_lt_of_cell? A _ s.bb) (fun e => by omega))).trans s.bb, Nat.le_trans s.hS k.size, hs, ⟨v2, Boxed.keeps b2 k (fun e => by omega)⟩, ⟨v3, Boxed.keeps b3 k (fun e => by omega)⟩,
    ⟨k.os.trans s.t.os, k.tape.trans s.t.tape, k.output.trans s.t.output, Nat.le_trans s.t.size k.size, fun j hj hf => (k.block j (Nat.lt_of_lt_of_le hj s.t.size) (fun e => by omega)).trans (s.t.block j hj hf)⟩⟩
/-- a token is appended to the list: what the store leaves -/
theorem TO.push (z : TOZ w R Bo Bb B2 B3 D) (zr : ∀ j, w.heap.size ≤ j → rh R pb hb j = 0) (z0 : W0.heap.size ≤ w.heap.size) (s : TO W0 w R hb pb mb mm n rm mad tk gn F C V bz b Bo Bb B2 B3 D S pre A) (hn : pre.length ≤ 1000) (hSA : S ≤ A.heap.size) (x : Nat) {v : Value} (hv : A.cell? ⟨Bo, 0, none⟩ = some v) :
    ∃ g' c w3, (Builtin.append_ #[29, 29] 29 #[v, .slice (some ⟨A.heap.size, 0, none⟩) 1 1]).run Tryz.prog (A.alloc (.cells #[.int .i64 (x : Int)] 3)) = .ok (.slice (some ⟨g', 0, none⟩) (pre.length + 1) c) w3 ∧ (∃ u, w3.cell? ⟨Bo, 0, none⟩ = some u) ∧ w3.frozen? ⟨Bo, 0, none⟩ = false ∧
      TO W0 w R hb pb mb mm n rm mad tk gn F C V bz b Bo Bb B2 B3 D S (pre ++ [x]) (w3.setCell ⟨Bo, 0, none⟩ (.slice (some ⟨g', 0, none⟩) (pre.length + 1) c)) ∧ Keeps (fun j => S ≤ j ∨ j = Bo) A (w3.setCell ⟨Bo, 0, none⟩ (.slice (some ⟨g', 0, none⟩) (pre.length + 1) c)) := by
  have BA := bAlloc (Below.refl A.heap.size A) (.cells #[.int .i64 (x : Int)] 3)
  obtain ⟨a0, m0⟩ := s.m
  have s1 := s.step z (TR.of BA) ⟨a0, m0.below BA⟩
  obtain ⟨v', bo, io⟩ := s.bo
  have ev : v' = v := by
    have e := bo.cell
    rw [hv] at e
    exact (Option.some.inj e).symm
  rw [ev] at bo io
  have io1 := io.keeps (Keeps.ofB BA) (fun j hj _ q => by omega) (fun _ _ q => q)
  obtain ⟨g', c, w3, hr, io3, k3, lies⟩ := io1.push A.heap.size x (by rw [World.cell?_alloc_new]; rfl) hn
  have s1z := BA.size
  have own : ∀ j, v.ownBlock = some j → S ≤ j := fun j e => (io1.block e).2
  have gD : S ≤ g' := by
    rcases lies with q | q
    · exact own g' q
    · omega
  obtain ⟨a', m⟩ := s1.m
  have hs := s.hs
  have h1 := z.d0
  have h2 := z.d1
  have h3 := z.d2
  have h4 := z.d3
  have h5 := z.ne
  have h6 := z.n2
  have h7 := z.n3
  have h8 := z.ho
  have bo3 := Boxed.keeps (bo.alloc (.cells #[.int .i64 (x : Int)] 3)) k3 (fun q => by have := own _ q; omega)
  have kall : Keeps (fun j => v.ownBlock = some j ∨ j = Bo) (A.alloc (.cells #[.int .i64 (x : Int)] 3)) (w3.setCell ⟨Bo, 0, none⟩ (.slice (some ⟨g', 0, none⟩) (pre.length + 1) c)) := (k3.mono (fun j _ q => .inl q)).trans (Keeps.set (F := fun j => v.ownBlock = some j ∨ j = Bo) w3 Bo 0 _ (.inr rfl)) (fun _ _ q => q)
  have kz : ∀ j, (v.ownBlock = some j ∨ j = Bo) → w.heap.size ≤ j := fun j q => by
    rcases q with q | q
    · have := own j q; omega
    · rw [q]; exact z.ho
  have ko : ∀ j, j < D → j ≠ Bo → ¬ (v.ownBlock = some j ∨ j = Bo) := fun j hj hn q => by
    rcases q with q | q
    · have := own _ q; omega
    · exact hn q
  obtain ⟨v2, b2⟩ := s1.b2
  obtain ⟨v3, b3⟩ := s1.b3
  have kA : Keeps (fun j => S ≤ j ∨ j = Bo) A (w3.setCell ⟨Bo, 0, none⟩ (.slice (some ⟨g', 0, none⟩) (pre.length + 1) c)) := (Keeps.of (F := fun j => S ≤ j ∨ j = Bo) BA).trans (kall.mono (F' := fun j => S ≤ j ∨ j = Bo) (fun j _ q => q.elim (fun e => .inl (own j e)) .inr)) (fun _ _ q => q)
  refine ⟨g', c, w3, hr, ⟨v, bo3.cell⟩, bo3.frozen, ⟨⟨a', m.aside kall (fun j q => ⟨zr j (kz j q), Nat.le_trans z0 (kz j q)⟩)⟩, ⟨.slice (some ⟨g', 0, none⟩) (pre.length + 1) c, bo3.set _, ?_⟩, (World.cell?_of_block (w := A.alloc (.cells #[.int .i64 (x : Int)] 3)) (kall.block Bb (World.block_lt_of_cell? _ _ s1.bb) (ko Bb h2 (fun e => h5 e.symm)))).trans s1.bb, Nat.le_trans s1.hS kall.size, hs, ⟨v2, Boxed.keeps b2 kall (ko _ h3 (fun e => h6 e.symm))⟩, ⟨v3, Boxed.keeps b3 kall (ko _ h4 (fun e => h7 e.symm))⟩, ?_⟩, kA⟩
  · exact (io3.keeps (Keeps.set (F := fun j => j = Bo) w3 Bo 0 _ rfl) (fun j _ hj e => by rcases hj with q | q <;> omega) (fun j _ q => q.elim id (fun q => by omega)))
  · exact ⟨kA.os.trans s.t.os, kA.tape.trans s.t.tape, kA.output.trans s.t.output, Nat.le_trans s.t.size kA.size, fun j hj hf => (kA.block j (Nat.lt_of_lt_of_le hj s.t.size) (fun e => by rcases e with e | e <;> omega)).trans (s.t.block j hj hf)⟩
end
section
variable {W0 : World} {R : Nat → Nat} {hb pb mb mm n rm mad : Nat} {tk : Nat → Bool} {gn : Nat → Nat} {F C : List Nat} {V : Nat → Nat} {bz : Bool} {a b : Nat}
theorem pre_mapped {f : Nat → Nat} {l pre : List Nat} {t : Nat} (h : pre ++ [t] <+: l.map f) : ∃ x, x ∈ l ∧ t = f x := by
  obtain ⟨r, hr⟩ := h
  have : t ∈ l.map f := by rw [← hr]; simp
  obtain ⟨x, hx, e⟩ := List.mem_map.1 this
  exact ⟨x, hx, e.symm⟩
theorem pre_len {l pre : List Nat} {t : Nat} (h : pre ++ [t] <+: l) : pre.length < l.length := by
  obtain ⟨r, rfl⟩ := h
  simp
theorem wpListIn_append_run18 {F : Fence} {n : Nat} {P : Program} (w : World) {ops : Array Oper} {rest : List Oper} {o : Oper} {a : Act} {Q : Exit → Act → World → Prop} (hg : o.guard = none) (s x : Operand) (t : TypeId) (hop : o.op = Op.call { callee := Callee.builtin Builtin.append, args := #[s, x], argTypes := #[t, t] })
    (v u : Value) (hs : a.eval s = v) (hx : a.eval x = u) (v' : Value) (w' : World) (hrun : (Builtin.append_ #[t, t] o.type #[v, u]).run P w = .ok v' w') (hK : wpListIn F n P ops Q rest (a.put o.dst v') w') :
    wpListIn F n P ops Q (o :: rest) a w := by
  refine wpListIn_plain hg fun K hK' => ?_
  unfold Oper.wpIn
  refine ⟨?_, ?_⟩
  · simp [Oper.about, hop, resolve, Target.leads, Sem.run_pure]
  · rw [Oper.semAt_plain F _ _ (by rw [hop]; intro c hc'; cases hc')]
    simp [execOp, hop, resolve, invoke, builtin, hs, hx, hrun, Result.andThen]
    exact hK' _ _ hK
theorem len_le100 {k : Nat} (h : k < 61) : ¬ (100 : Int) < (k : Int) := by omega
set_option maxRecDepth 100000 in
set_option maxHeartbeats 8000000 in
theorem told18_ok (w : World) (s : HB W0 R hb pb mb mm n rm mad tk gn F C V bz a b w) (hC : C.length ≤ 60) :
    Calls Tryz.prog 17 #[at0 hb] w fun e w' => ∃ v, e = .returned (.tuple #[v, .bool true]) ∧ NL pe w' v (C.map fun x => tkn x (gn x)) ∧ Keeps (fun j => R j ≠ 0) w w' := by
  obtain ⟨T, hT⟩ : ∃ T, C.map (fun x => tkn x (gn x)) = T := ⟨_, rfl⟩
  rw [hT]
  have TKS := Lib.hid (fun w => htokens_any hb w)
  have HC := Lib.hid hC
  have HS := Lib.hid s
  clear hC
  have hnil : ∀ (w : World) (c : Array Value), (binOp BinOp.eql 114 (Value.func (Fn.func 70) #[] c) Value.nilFunc).run Tryz.prog w = .ok (.bool false) w := fun _ _ => by kernel_rfl
  refine (callsIn_wide (n := 4)).1 ?_
  refine callsIn_of_wp_marks Tryz.func17 rfl trivial ?_ rfl
  simp only [Tryz.ntmps17, List.size_toArray, List.length_cons, List.length_nil, Nat.reduceAdd, Nat.reduceSub, Array.replicate_succ, Array.replicate_zero, List.push_toArray, List.append_toArray, List.nil_append, List.cons_append]
  gi_wp2_with (refine ⟨trivial, ?_⟩; gi_at_call 43; refine (callsIn_wide.2 (TKS.out _)).mono ?_; rintro e w1 ⟨rfl, rfl⟩)
  clear hnil
  obtain ⟨B2, hB2⟩ : ∃ B, w.heap.size = B := ⟨_, rfl⟩
  have z0 : ∀ j, w.heap.size ≤ j → rh R pb hb j = 0 := fun j hj => (s.fresh hj).1
  have zR : ∀ j, w.heap.size ≤ j → R j = 0 := fun j hj => rh_sub (z0 j hj)
  have zw : W0.heap.size ≤ w.heap.size := s.o.b.size
  have bw := bAlloc (bAlloc (bAlloc (bAlloc (Below.refl w.heap.size w) (.cells #[.slice none 0 0] 29)) (.cells #[.bool false] 4)) (.cells #[at0 hb] 25)) (.cells #[.slice none 0 0] 29)
  have sX : ((((w.alloc (.cells #[.slice none 0 0] 29)).alloc (.cells #[.bool false] 4)).alloc (.cells #[at0 hb] 25)).alloc (.cells #[.slice none 0 0] 29)).heap.size = w.heap.size + 1 + 1 + 1 + 1 := by simp
  have e2 : Boxed ((((w.alloc (.cells #[.slice none 0 0] 29)).alloc (.cells #[.bool false] 4)).alloc (.cells #[at0 hb] 25)).alloc (.cells #[.slice none 0 0] 29)) w.heap.size 29 (.slice none 0 0) := (((Boxed.new w 29 (.slice none 0 0)).alloc _).alloc _).alloc _
  have e3 : Boxed ((((w.alloc (.cells #[.slice none 0 0] 29)).alloc (.cells #[.bool false] 4)).alloc (.cells #[at0 hb] 25)).alloc (.cells #[.slice none 0 0] 29)) (w.heap.size + 1) 4 (.bool false) := ((boxed_at _ _ _ _ (by simp) : Boxed ((w.alloc (.cells #[.slice none 0 0] 29)).alloc (.cells #[.bool false] 4)) (w.heap.size + 1) 4 (.bool false)).alloc _).alloc _
  have eb : Boxed ((((w.alloc (.cells #[.slice none 0 0] 29)).alloc (.cells #[.bool false] 4)).alloc (.cells #[at0 hb] 25)).alloc (.cells #[.slice none 0 0] 29)) (w.heap.size + 1 + 1) 25 (at0 hb) := (boxed_at _ _ _ _ (by simp) : Boxed (((w.alloc (.cells #[.slice none 0 0] 29)).alloc (.cells #[.bool false] 4)).alloc (.cells #[at0 hb] 25)) (w.heap.size + 1 + 1) 25 (at0 hb)).alloc _
  have eo : Boxed ((((w.alloc (.cells #[.slice none 0 0] 29)).alloc (.cells #[.bool false] 4)).alloc (.cells #[at0 hb] 25)).alloc (.cells #[.slice none 0 0] 29)) (w.heap.size + 1 + 1 + 1) 29 (.slice none 0 0) := boxed_at _ _ _ _ (by simp)
  have s1 := s.below bw
  generalize (((w.alloc (.cells #[.slice none 0 0] 29)).alloc (.cells #[.bool false] 4)).alloc (.cells #[at0 hb] 25)).alloc (.cells #[.slice none 0 0] 29) = X1 at *
  have Z : TOZ w R (B2 + 1 + 1 + 1) (B2 + 1 + 1) B2 (B2 + 1) X1.heap.size := by rw [sX]; rw [← hB2]; exact ⟨zR, by omega, by omega, by omega, by omega, by omega, by omega, by omega, by omega, by omega, by omega, by omega⟩
  rw [hB2] at e2 e3 eb eo ⊢
  have ST : ∀ W', Below X1.heap.size X1 W' → X1.heap.size + 2 ≤ W'.heap.size → TO W0 w R hb pb mb mm n rm mad tk gn F C V bz b (B2 + 1 + 1 + 1) (B2 + 1 + 1) B2 (B2 + 1) X1.heap.size (X1.heap.size + 2) [] W' ∧ Boxed W' (B2 + 1 + 1 + 1) 29 (.slice none 0 0) := fun W' k hk => by
    have kk := Keeps.ofB k
    have o := Boxed.keeps eo kk (fun q => by have := eo.lt; omega)
    exact ⟨⟨⟨a, s1.below k⟩, ⟨_, o, IO.nil _ _⟩, (Boxed.keeps eb kk (fun q => by have := eb.lt; omega)).cell, hk, Nat.le_refl _, ⟨_, Boxed.keeps e2 kk (fun q => by have := e2.lt; omega)⟩, ⟨_, Boxed.keeps e3 kk (fun q => by have := e3.lt; omega)⟩, Keeps.of (bw.trans (k.mono bw.size))⟩, o⟩
  have TKN := Lib.hid (fun a A (m : HB W0 R hb pb mb mm n rm mad tk gn F C V bz a b A) {x} (hx : x ∈ C) => m.token hx)
  have LST := Lib.hid (fun a A (m : HB W0 R hb pb mb mm n rm mad tk gn F C V bz a b A) => m.list)
  have Rlt : ∀ a A (m : HB W0 R hb pb mb mm n rm mad tk gn F C V bz a b A) j, R j ≠ 0 → j < A.heap.size := fun a A m j hj => m.dist.2.2.2.2.2 j hj
  obtain ⟨U, hU⟩ : ∃ U : Nat → Prop, U = fun j => j = B2 + 1 + 1 + 1 ∨ j = X1.heap.size ∨ j = X1.heap.size + 1 := ⟨_, rfl⟩
  have uB : U (B2 + 1 + 1 + 1) := by rw [hU]; exact .inl rfl
  have uD : U (X1.heap.size + 1) := by rw [hU]; exact .inr (.inr rfl)
  have ul : ∀ j, U j → j < X1.heap.size + 2 := by rw [hU, sX, ← hB2]; intro j hj; omega
  obtain ⟨J, hJ⟩ : ∃ J : Nat → List Nat → World → Prop, J = fun S pre A => TO W0 w R hb pb mb mm n rm mad tk gn F C V bz b (B2 + 1 + 1 + 1) (B2 + 1 + 1) B2 (B2 + 1) X1.heap.size (max S (X1.heap.size + 2)) pre A := ⟨_, rfl⟩
  have JD : ∀ S pre A, J S pre A → J S pre A.drew := by rw [hJ]; exact fun S pre A h => h.drew Z
  have JB : ∀ S pre A, J S pre A → A.cell? ⟨B2 + 1 + 1, 0, none⟩ = some (at0 hb) := by rw [hJ]; exact fun S pre A h => h.bb
  have JC : ∀ S, Clo X1.heap.size (J S) := by rw [hJ]; exact fun S pre W l o o' h hl _ _ => h.put Z z0 zw o' hl
  have Rz : R X1.heap.size = 0 ∧ R (X1.heap.size + 1) = 0 := ⟨zR _ (by omega), zR _ (by omega)⟩
  have JL : ∀ A, (TO W0 w R hb pb mb mm n rm mad tk gn F C V bz b (B2 + 1 + 1 + 1) (B2 + 1 + 1) B2 (B2 + 1) X1.heap.size (X1.heap.size + 2) [] A ∧ Boxed A (B2 + 1 + 1 + 1) 29 (.slice none 0 0)) → Calls Tryz.prog 71 #[at0 hb] A fun e B => ∃ v, e = .returned v ∧ (∀ S, J S [] B) ∧ KeepR X1.heap.size A B ∧ IO B (fun j => A.heap.size ≤ j) v (C.map fun x => tkn x (gn x)) := by
    rw [hJ]
    intro A ⟨h, o⟩
    obtain ⟨a0, m⟩ := h.m
    refine (LST.out a0 A m).mono ?_
    rintro e B ⟨a', v, rfl, m', io, t⟩
    have h' := h.step Z t ⟨a', m'⟩
    exact ⟨v, rfl, fun S => ⟨h'.m, ⟨_, Boxed.keeps o t.keeps (fun q => q (zR _ (by omega))), IO.nil _ _⟩, h'.bb, h'.hS, by omega, h'.b2, h'.b3, h'.t⟩, KeepR.keeps t.keeps (fun q => q Rz.1) (fun q => q Rz.2), io⟩
  have JT : ∀ S (pre : List Nat) (t : Nat) A, J S pre A → pre ++ [t] <+: (C.map fun x => tkn x (gn x)) → Calls Tryz.prog 28 #[at0 hb, .int .i64 ((t : Int).tmod 1048576 + 1)] A fun e B => e = .returned (.int .i64 (t : Int)) ∧ J S pre B ∧ KeepR X1.heap.size A B ∧ Keeps (fun j => R j ≠ 0) A B := by
    rw [hJ]
    intro S pre t A h hp
    obtain ⟨x, hx, rfl⟩ := pre_mapped hp
    obtain ⟨a0, m⟩ := h.m
    refine (TKN.out a0 A m hx).mono ?_
    rintro e B ⟨a', rfl, m', t⟩
    exact ⟨rfl, h.step Z t ⟨a', m'⟩, KeepR.keeps t.keeps (fun q => q Rz.1) (fun q => q Rz.2), t.keeps⟩
  have JP : ∀ S (pre : List Nat) (x : Nat) A, J S pre A → S ≤ A.heap.size → pre.length < 61 → ∃ (va : Option Addr) (vc : Nat), A.cell? ⟨B2 + 1 + 1 + 1, 0, none⟩ = some (.slice va pre.length vc) ∧ ∃ g' c w3, (Builtin.append_ #[29, 29] 29 #[.slice va pre.length vc, .slice (some ⟨A.heap.size, 0, none⟩) 1 1]).run Tryz.prog (A.alloc (.cells #[.int .i64 (x : Int)] 3)) = .ok (.slice (some ⟨g', 0, none⟩) (pre.length + 1) c) w3 ∧ (∃ u, w3.cell? ⟨B2 + 1 + 1 + 1, 0, none⟩ = some u) ∧ w3.frozen? ⟨B2 + 1 + 1 + 1, 0, none⟩ = false ∧
      J S (pre ++ [x]) (w3.setCell ⟨B2 + 1 + 1 + 1, 0, none⟩ (.slice (some ⟨g', 0, none⟩) (pre.length + 1) c)) ∧ Keeps (fun j => S ≤ j ∨ U j) A (w3.setCell ⟨B2 + 1 + 1 + 1, 0, none⟩ (.slice (some ⟨g', 0, none⟩) (pre.length + 1) c)) ∧ KeepR X1.heap.size A (w3.setCell ⟨B2 + 1 + 1 + 1, 0, none⟩ (.slice (some ⟨g', 0, none⟩) (pre.length + 1) c)) := by
    rw [hJ]
    intro S pre x A h hSA hl
    obtain ⟨v, bo, io⟩ := h.bo
    obtain ⟨va, vc, ev⟩ := io.slice
    rw [ev] at bo
    obtain ⟨g', c, w3, hr, h1, h2, h3, h4⟩ := h.push Z z0 zw (by omega) (Nat.max_le.2 ⟨hSA, h.hS⟩) x bo.cell
    exact ⟨va, vc, bo.cell, g', c, w3, hr, h1, h2, h3, h4.mono (fun j _ q => q.elim (fun q => .inl (by omega)) (fun q => .inr (q ▸ uB))), KeepR.keeps h4 (by omega) (by omega)⟩
  have JF : ∀ S A, J S (C.map fun x => tkn x (gn x)) A → A.heap[X1.heap.size]? = some (.deferred (some [])) → ∃ (va : Option Addr) (vc : Nat), A.cell? ⟨B2 + 1 + 1 + 1, 0, none⟩ = some (.slice va (C.map fun x => tkn x (gn x)).length vc) ∧ (∃ u, A.cell? ⟨B2, 0, none⟩ = some u) ∧ A.frozen? ⟨B2, 0, none⟩ = false ∧ (∃ u, A.cell? ⟨B2 + 1, 0, none⟩ = some u) ∧ A.frozen? ⟨B2 + 1, 0, none⟩ = false ∧
      ((A.setCell ⟨B2, 0, none⟩ (.slice va (C.map fun x => tkn x (gn x)).length vc)).setCell ⟨B2 + 1, 0, none⟩ (.bool true)).heap[X1.heap.size]? = some (.deferred (some [])) ∧
      (((A.setCell ⟨B2, 0, none⟩ (.slice va (C.map fun x => tkn x (gn x)).length vc)).setCell ⟨B2 + 1, 0, none⟩ (.bool true)).putObj X1.heap.size (.deferred none)).cell? ⟨B2, 0, none⟩ = some (.slice va (C.map fun x => tkn x (gn x)).length vc) ∧
      (((A.setCell ⟨B2, 0, none⟩ (.slice va (C.map fun x => tkn x (gn x)).length vc)).setCell ⟨B2 + 1, 0, none⟩ (.bool true)).putObj X1.heap.size (.deferred none)).cell? ⟨B2 + 1, 0, none⟩ = some (.bool true) ∧
      NL pe (((A.setCell ⟨B2, 0, none⟩ (.slice va (C.map fun x => tkn x (gn x)).length vc)).setCell ⟨B2 + 1, 0, none⟩ (.bool true)).putObj X1.heap.size (.deferred none)) (.slice va (C.map fun x => tkn x (gn x)).length vc) (C.map fun x => tkn x (gn x)) ∧
      Keeps (fun j => R j ≠ 0) w (((A.setCell ⟨B2, 0, none⟩ (.slice va (C.map fun x => tkn x (gn x)).length vc)).setCell ⟨B2 + 1, 0, none⟩ (.bool true)).putObj X1.heap.size (.deferred none)) := by
    rw [hJ]
    intro S A h hd
    obtain ⟨v, bo, io⟩ := h.bo
    obtain ⟨va, vc, rfl⟩ := io.slice
    obtain ⟨v2, b2⟩ := h.b2
    obtain ⟨v3, b3⟩ := h.b3
    refine ⟨va, vc, ?_⟩
    generalize (.slice va (C.map fun x => tkn x (gn x)).length vc : Value) = v at *
    have k1 : Keeps (fun j => j = B2 ∨ j = B2 + 1) A (A.setCell ⟨B2, 0, none⟩ v) := Keeps.set _ _ _ _ (.inl rfl)
    have k2 : Keeps (fun j => j = B2 ∨ j = B2 + 1) (A.setCell ⟨B2, 0, none⟩ v) ((A.setCell ⟨B2, 0, none⟩ v).setCell ⟨B2 + 1, 0, none⟩ (.bool true)) := Keeps.set _ _ _ _ (.inr rfl)
    have k3 := putObj_keeps ((A.setCell ⟨B2, 0, none⟩ v).setCell ⟨B2 + 1, 0, none⟩ (.bool true)) X1.heap.size (.deferred none)
    have k12 := k1.trans k2 (fun _ _ q => q)
    have dlt := (Array.getElem?_eq_some_iff.1 hd).1
    have d1 : ¬ (X1.heap.size = B2 ∨ X1.heap.size = B2 + 1) := by omega
    have b2' : Boxed (A.setCell ⟨B2, 0, none⟩ v) B2 29 v := b2.set v
    have b3' : Boxed ((A.setCell ⟨B2, 0, none⟩ v).setCell ⟨B2 + 1, 0, none⟩ (.bool true)) (B2 + 1) 4 (.bool true) := (Boxed.keeps b3 (Keeps.set (F := fun j => j = B2) A B2 0 v rfl) (by omega)).set _
    have b2'' := Boxed.keeps b2' (Keeps.set (F := fun j => j = B2 + 1) (A.setCell ⟨B2, 0, none⟩ v) (B2 + 1) 0 (.bool true) rfl) (by omega)
    have io1 := io.keeps k12 (fun j _ hj q => by omega) (fun _ _ q => q)
    have io2 := io1.keeps k3 (fun j _ hj q => by omega) (fun _ _ q => q)
    refine ⟨bo.cell, ⟨_, b2.cell⟩, b2.frozen, ⟨_, b3.cell⟩, b3.frozen, (k12.block _ dlt d1).trans hd, (Boxed.keeps b2'' k3 (by omega)).cell, (Boxed.keeps b3' k3 (by omega)).cell, io2.nl, ?_⟩
    exact ⟨k3.os.trans (k12.os.trans h.t.os), k3.tape.trans (k12.tape.trans h.t.tape), k3.output.trans (k12.output.trans h.t.output), Nat.le_trans h.t.size (Nat.le_trans k12.size k3.size), fun j hj hf => ((k3.block j (Nat.lt_of_lt_of_le hj (Nat.le_trans h.t.size k12.size)) (by omega)).trans (k12.block j (Nat.lt_of_lt_of_le hj h.t.size) (by omega))).trans (h.t.block j hj hf)⟩
  have TL : (C.map fun x => tkn x (gn x)).length ≤ 60 := by rw [List.length_map]; exact HC.out
  have JF := Lib.hid JF
  have JP := Lib.hid JP
  have HJ := Lib.hid hJ
  have TL := Lib.hid TL
  rw [hT] at JL JT JF TL
  have d4 : B2 + 1 + 1 + 1 ≠ X1.heap.size := by omega
  have ST' := Lib.hid (fun W' k hk => ST W' k hk)
  clear e2 e3 eb eo s1 z0 zw bw hB2 sX HS s LST TKN TKS ST HC hT hJ hU
  refine wpIn_rangeS rfl (by decide) (gf := 70) (lb := #[at0 (B2 + 1 + 1)]) rfl trivial (enters_of Tryz.func70 (by kernel_rfl) rfl)
    (htokens_s (4 - 1) (by decide) hb X1.heap.size (B2 + 1 + 1) T (Nat.le_trans TL.out (by decide)) R U (fun S A B => Keeps (fun j => S ≤ j ∨ U j) A B)
      (fun A => TO W0 w R hb pb mb mm n rm mad tk gn F C V bz b (B2 + 1 + 1 + 1) (B2 + 1 + 1) B2 (B2 + 1) X1.heap.size (X1.heap.size + 2) [] A ∧ Boxed A (B2 + 1 + 1 + 1) 29 (.slice none 0 0)) J J
      (fun S A B j o k h1 h2 h => (k.block j (Array.getElem?_eq_some_iff.1 h).1 (fun q => q.elim (fun q => Nat.not_le_of_lt h1 q) h2)).trans h) (fun S A B k => k.size)
      (fun A h j hj => Nat.lt_of_lt_of_le (ul j hj) h.1.hS) (fun A h j hj => h.1.m.elim fun a' m => Rlt a' A m j hj)
      JL JT JD (fun A h => h.1.bb) JB)
    (fun _ => rfl) (fun _ _ _ => False) (fun h k => h.trans k (fun _ _ q => q)) (fun S W o o' _ _ => (putObj_keeps W (X1.heap.size + 1) o').mono (fun j _ e => .inr (e ▸ uD))) JC JC ?hF (fun c p X l o o' s _ _ _ => s.elim) ST'.out
    (fun x => { tmps := #[at0 hb, undef, .pointer (some ⟨B2, 0, none⟩), .pointer (some ⟨B2 + 1, 0, none⟩), .func (.func 70) #[] #[at0 (B2 + 1 + 1)], .pointer (some ⟨B2 + 1 + 1 + 1, 0, none⟩), .int .i64 (x : Int), at0 hb, .func (.func 70) #[] #[at0 (B2 + 1 + 1)], .func (.func 70) #[] #[at0 (B2 + 1 + 1)], .bool false, .func (.func 70) #[] #[at0 (B2 + 1 + 1)], .int .i64 (x : Int), undef, undef, undef, undef, undef, undef, undef, undef, undef], defers := [] }) ?assign ?body ?done ?stop
  case hF =>
    rintro p X l o o' ⟨e, S, h⟩ hl ho hc
    exact ⟨e, S, JC S T X l o o' h hl ho hc⟩
  case assign =>
    intro l x W K hK
    gi_wp2
    exact hK
  case body =>
    intro lp S pre x X hsz hS i hp
    have lp' : pre.length < T.length := pre_len hp
    obtain ⟨va, vc, c0, g', c, w3, hr, ⟨u3, c3⟩, f3, j3, k3, r3⟩ := JP.out S pre x X i hS (Nat.lt_of_lt_of_le lp' (Nat.le_trans TL.out (by decide)))
    have nlt := len_le100 (k := pre.length) (Nat.lt_of_lt_of_le lp' (Nat.le_trans TL.out (by decide)))
    have HR := Lib.hid hr
    have END := Lib.hid (And.intro (And.intro r3 k3) j3)
    generalize pre.length = pl at *
    generalize pl + 1 = pl1 at *
    clear i hp lp' hr j3 k3 r3 JL JT JD JB JC
    gi_wp2_with (gi_at_builtin; refine wpListIn_append_run18 _ rfl _ _ 29 rfl _ _ rfl rfl _ _ HR.out ?_)
    exact END.out
  case done =>
    rintro D xs X hD ⟨rfl, S, hF⟩ hK
    rw [hD] at hK ⊢
    obtain ⟨va, vc, c0, ⟨u2, c2⟩, f2, ⟨u3, c3⟩, f3, h1, h2, h3, h4, h5⟩ := JF.out S X hF hK
    have FIN := Lib.hid (And.intro h4 h5)
    have K1 := Lib.hid h1
    have C2 := Lib.hid h2
    have C3 := Lib.hid h3
    clear h1 h2 h3 h4 h5 hF hK JL JT JD JB JC JF JP
    generalize xs.length = nx at *
    gi_wp2
    refine ⟨by simp, .inl ⟨_, _, rfl, run_takeDeferred K1.out, ?_⟩⟩
    refine ⟨_, ?_, _, rfl, FIN.out.1, FIN.out.2⟩
    have q2 := C2.out
    have q3 := C3.out
    simp [results, Tryz.results17, go_sem, q2, q3]
  case stop =>
    intro D c pre X hD h
    exact h.elim
end
end Go.Proofs.YtdenhhokckjjaaaGreat
