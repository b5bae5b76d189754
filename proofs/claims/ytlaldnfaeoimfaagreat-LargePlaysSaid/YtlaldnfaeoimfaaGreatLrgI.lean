/-
  Package large: All, the iterator over the objects: a range over the iterator of package chain inside an iterator.
-/
import Derived.Test.YtlaldnfaeoimfaaGreatLrgL
import Derived.Test.YtlaldnfaeoimfaaGreatChnI
import Derived.Test.YtlaldnfaeoimfaaGreatRangU
namespace Go.Proofs.YtlaldnfaeoimfaaGreat
open Go.RowKit Go.Shelf
set_option linter.unusedVariables false

attribute [local go_sem] Oper.semAt_some
/-- the iterator's own steps: what has no role stays, the records of its own loops aside -/
structure StU (D2 : Nat) (R : Nat → Nat) (A B : World) : Prop where
  os : B.os = A.os
  tape : B.tape = A.tape
  output : B.output = A.output
  size : A.heap.size ≤ B.heap.size
  blk : ∀ (k : Nat) (o : Obj), A.heap[k]? = some o → R k = 0 → (k < D2 ∨ o.isCells = true) → B.heap[k]? = some o
/-- what a round leaves as the iterator needs it: what lies below n₀; the cells that hold no integers; the records of its own loops -/
structure KpC (n₀ : Nat) (A B : World) : Prop where
  b : Below n₀ A B
  cel : ∀ (k : Nat) (cs : Array Value) (ty : TypeId), A.heap[k]? = some (.cells cs ty) → ty ≠ 3 → ty ≠ 30 → B.heap[k]? = some (.cells cs ty)
structure KpU (D2 n₀ : Nat) (A B : World) : Prop where
  c : KpC n₀ A B
  oth : ∀ (k : Nat) (o : Obj), D2 ≤ k → A.heap[k]? = some o → o.isCells = false → B.heap[k]? = some o
section
variable {D2 n₀ : Nat} {R : Nat → Nat} {A B C : World}
theorem StU.of (t : TR R R A B) : StU D2 R A B :=
  ⟨t.keeps.os, t.keeps.tape, t.keeps.output, t.keeps.size, fun k o h hr _ => (t.keeps.block k (Array.getElem?_eq_some_iff.1 h).1 (fun q => q hr)).trans h⟩
theorem KpC.trans (h : KpC n₀ A B) (k : KpC n₀ B C) : KpC n₀ A C := ⟨h.b.trans k.b, fun j cs ty a b c => k.cel j cs ty (h.cel j cs ty a b c) b c⟩
theorem KpC.put (W : World) (l : Nat) (o o' : Obj) (hl : n₀ ≤ l) (h : W.heap[l]? = some o) (hc : o.isCells = false) : KpC n₀ W (W.putObj l o') :=
  ⟨belowT_b hl W l o o' (Nat.le_refl _) h hc, fun k cs ty a _ _ => (World.putObj_heap_other (fun e => by subst e; rw [h] at a; cases a; cases hc)).trans a⟩
theorem yieldAt_round {m m' : Nat} {P : Program} {l l₀ : Nat} {args : Array Value} {W : World} {Q : Ending → World → Prop} (h : YieldAt Fence.wide m P l args W Q) : YieldAt (Fence.wide.inRound l₀) m' P l args W Q := by
  obtain ⟨fn, tmps, assign, body, hy, _, hR⟩ := h
  exact ⟨fn, tmps, assign, body, hy, trivial, fun c cs _ => hR c cs (room_wide _)⟩
theorem ownFrom_stu {β : Type} {D : Nat} {I : β → World → Prop} (hD : D2 ≤ D) (h : ∀ s A B, I s A → StU D2 R A B → I s B) : OwnFrom D I := fun s X Y row hs hg hr =>
  h s X Y hs ⟨hg.os, hg.tape, hg.output, hg.size, fun k o hk _ hc => (hg.block k (Array.getElem?_eq_some_iff.1 hk).1 (fun e => by
    obtain ⟨h1, o', h2, h3⟩ := hr k e.symm
    rw [hk] at h2
    cases h2
    rcases hc with hc | hc
    · omega
    · rw [hc] at h3; cases h3)).trans hk⟩
end
section
variable {R : Nat → Nat} {lb pb mb mm : Nat} {L : List Spc} {rm cnt mad fre a b : Nat} {h g : Int} {M O : List Nat} {tot bg tl : Nat} {w w' : World}
/-- the Large's own cells and the pool's -/
def LMK (lb pb mb : Nat) (cnt mad fre : Nat) (M O : List Nat) (tot bg tl : Nat) (w : World) : Prop :=
  Row w lb 11 (lac (at0 mb) (at0 pb) (hdv M : Nat) (tlv M : Nat) (M.length : Nat) (hdv O : Nat) (tlv O : Nat) (O.length : Nat) (tot : Int) (bg : Int) (tl : Int)) ∧ Row w pb 6 (pc (at0 mb) ((0 : Nat) : Int) ((5 : Nat) : Int) (cnt : Int) (mad : Int) (fre : Int))
theorem LM.lmk (l : LM w R lb pb mb mm L rm cnt mad fre a b h g M O tot bg tl) : LMK lb pb mb cnt mad fre M O tot bg tl w := ⟨l.row, l.p.row⟩
theorem LMK.lm {a' : Nat} (k : LMK lb pb mb cnt mad fre M O tot bg tl w') (l : LM w R lb pb mb mm L rm cnt mad fre a b h g M O tot bg tl) (m : MM w' R mb mm L a' b h g) : LM w' R lb pb mb mm L rm cnt mad fre a' b h g M O tot bg tl :=
  ⟨k.1, l.z, l.ne, k.2, l.p.z, m, l.p.w1, l.p.w60, l.p.hk, l.p.ho, l.p.len, l.p.mr, l.p.al⟩
theorem row_block {w w' : World} {g n : Nat} {f : Nat → Value} (r : Row w g n f) (hb : w'.heap[g]? = w.heap[g]?) (hs : w.heap.size ≤ w'.heap.size) : Row w' g n f :=
  ⟨Nat.lt_of_lt_of_le r.lt hs, fun j hj => (World.cell?_of_block (w := w) (w' := w') (a := ⟨g, j, none⟩) hb).trans (r.cell j hj), fun j => by
    have q := r.free j
    simp only [World.frozen?] at q ⊢
    rw [hb]; exact q⟩
end
theorem lall_in (n : Nat) (lb : Nat) (w : World) : CallsIn Fence.wide n Tryz.prog 40 #[at0 lb] w fun e w' => e = .returned (.func (.func 66) #[] #[.pointer (some ⟨w.heap.size, 0, none⟩)]) ∧ w.alloc (.cells #[at0 lb] 26) = w' := by
  refine callsIn_of_wp Tryz.func40 rfl trivial ?_ rfl
  simp only [Tryz.ntmps40, List.size_toArray, List.length_cons, List.length_nil, Nat.reduceAdd, Nat.reduceSub, Array.replicate_succ, Array.replicate_zero, List.push_toArray, List.append_toArray, List.nil_append, List.cons_append]
  gi_wp2
  go_ret
  exact ⟨rfl, rfl⟩
section
variable {R : Nat → Nat} {lb pb mb mm : Nat} {L : List Spc} {rm cnt mad fre a b : Nat} {h g : Int} {M O : List Nat} {tot bg tl : Nat}
theorem LMK.keep {A B : World} (k : LMK lb pb mb cnt mad fre M O tot bg tl A) (h1 : B.heap[lb]? = A.heap[lb]?) (h2 : B.heap[pb]? = A.heap[pb]?) (hs : A.heap.size ≤ B.heap.size) : LMK lb pb mb cnt mad fre M O tot bg tl B :=
  ⟨row_block k.1 h1 hs, row_block k.2 h2 hs⟩
theorem StU.put {D2 : Nat} (X : World) (l : Nat) (o o' : Obj) (hl : D2 ≤ l) (hk : X.heap[l]? = some o) (hc : o.isCells = false) : StU D2 R X (X.putObj l o') := by
  have q := grownBy_putObj' X l o'
  refine ⟨q.os, q.tape, q.output, q.size, fun k p h1 _ h2 => (World.putObj_heap_other (fun e => ?_)).trans h1⟩
  subst e
  rw [hk] at h1
  cases h1
  rcases h2 with h2 | h2
  · omega
  · rw [hc] at h2; cases h2
theorem StU.trans {D2 : Nat} {A B C : World} (h : StU D2 R A B) (k : StU D2 R B C) : StU D2 R A C :=
  ⟨k.os.trans h.os, k.tape.trans h.tape, k.output.trans h.output, Nat.le_trans h.size k.size, fun j o h1 h2 h3 => k.blk j o (h.blk j o h1 h2 h3) h2 h3⟩
/-- what the inner loop holds: what the outer round wants, the Large's own cells, the two boxes, the records of deferred calls -/
structure IIn (R : Nat → Nat) (lb pb mb : Nat) (cnt mad fre : Nat) (M O : List Nat) (tot bg tl : Nat) (D2 n₀ lp Bl By : Nat) (J : List Nat → World → Prop) (done ds ys : List Nat) (X : World) : Prop where
  j : J (done ++ ys) X
  k : LMK lb pb mb cnt mad fre M O tot bg tl X
  bl : Boxed X Bl 26 (at0 lb)
  by' : Boxed X By 126 (.func (.yield lp) #[] #[])
  d : ∀ d, d ∈ ds → D2 ≤ d ∧ X.heap[d]? = some (.deferred (some []))
/-- where these lie -/
structure IAt (R : Nat → Nat) (lb pb D2 n₀ Bl By : Nat) : Prop where
  r : ∀ j, R j ≠ 0 → j < n₀
  h1 : lb < n₀
  h2 : pb < n₀
  h3 : Bl < n₀
  h4 : n₀ ≤ D2
  h5 : n₀ ≤ By
  z1 : R lb = 0
  z2 : R pb = 0
  z3 : R Bl = 0
section
variable {D2 n₀ lp Bl By : Nat} {J J' : List Nat → World → Prop} {done ds ys zs : List Nat} {A B : World}
theorem IIn.tr (i : IIn R lb pb mb cnt mad fre M O tot bg tl D2 n₀ lp Bl By J done ds ys A) (at' : IAt R lb pb D2 n₀ Bl By) (hJ : ∀ s A B, J s A → StU D2 R A B → J s B) (t : TR R R A B) : IIn R lb pb mb cnt mad fre M O tot bg tl D2 n₀ lp Bl By J done ds ys B := by
  have bk : ∀ k, k < A.heap.size → R k = 0 → B.heap[k]? = A.heap[k]? := fun k h1 h2 => t.keeps.block k h1 (fun q => q h2)
  have hz : ∀ k, n₀ ≤ k → R k = 0 := fun k hk => Decidable.byContradiction fun q => by have := at'.r k q; omega
  refine ⟨hJ _ _ _ i.j (StU.of t), i.k.keep (bk _ i.k.1.lt at'.z1) (bk _ i.k.2.lt at'.z2) t.keeps.size, (bk _ i.bl.lt at'.z3).trans i.bl, (bk _ i.by'.lt (hz _ at'.h5)).trans i.by', fun d hd => ?_⟩
  obtain ⟨h1, h2⟩ := i.d d hd
  exact ⟨h1, (bk d (Array.getElem?_eq_some_iff.1 h2).1 (hz d (by have := at'.h4; omega))).trans h2⟩
theorem IIn.own {D : Nat} (at' : IAt R lb pb D2 n₀ Bl By) (hJ : ∀ s A B, J s A → StU D2 R A B → J s B) (h1 : D2 ≤ D) (h2 : By < D) (h3 : ∀ d, d ∈ ds → d < D) : OwnFrom D (IIn R lb pb mb cnt mad fre M O tot bg tl D2 n₀ lp Bl By J done ds) := fun s X Y row hs hg hr => by
  have hx := at'.h1; have hx2 := at'.h2; have hx3 := at'.h3; have hx4 := at'.h4
  have bk : ∀ k, k < X.heap.size → k < D → Y.heap[k]? = X.heap[k]? := fun k a b => hg.block k a (fun e => by have := (hr k e.symm).1; omega)
  refine ⟨ownFrom_stu (D := D) (I := fun ys W => J (done ++ ys) W) h1 (fun s A B x st => hJ _ A B x st) s X Y row hs.j hg hr, hs.k.keep (bk _ hs.k.1.lt (by omega)) (bk _ hs.k.2.lt (by omega)) hg.size, (bk _ hs.bl.lt (by omega)).trans hs.bl, (bk _ hs.by'.lt h2).trans hs.by', fun d hd => ?_⟩
  obtain ⟨e1, e2⟩ := hs.d d hd
  exact ⟨e1, (bk d (Array.getElem?_eq_some_iff.1 e2).1 (h3 d hd)).trans e2⟩
theorem IIn.round (i : IIn R lb pb mb cnt mad fre M O tot bg tl D2 n₀ lp Bl By J done ds ys A) (at' : IAt R lb pb D2 n₀ Bl By) (k : KpU D2 n₀ A B) (hj : J' (done ++ zs) B) : IIn R lb pb mb cnt mad fre M O tot bg tl D2 n₀ lp Bl By J' done ds zs B :=
  ⟨hj, i.k.keep (k.c.b.block _ at'.h1) (k.c.b.block _ at'.h2) k.c.b.size, (k.c.b.block _ at'.h3).trans i.bl, k.c.cel _ _ _ i.by' (by decide) (by decide), fun d hd => ⟨(i.d d hd).1, k.oth d _ (i.d d hd).1 (i.d d hd).2 rfl⟩⟩
end
/-- the iterator of a chain of the Large's, as the loop wants it -/
theorem chain_seq (n : Nat) (hn : 1 ≤ n) (Bc Bt D2 n₀ Bl By : Nat) (at' : IAt R lb pb D2 n₀ Bl By) (tt : TT L 0 6 4 5) (K : List Nat) (c : CH 6 4 5 (wds L 0) K) (hBt : n₀ ≤ Bt) (W5 : World)
    (ht : W5.heap[Bt]? = some (.cells #[at0 mb, .int .i64 ((0 : Nat) : Int), .int .i64 ((6 : Nat) : Int), .int .i64 ((4 : Nat) : Int), .int .i64 ((5 : Nat) : Int)] 111))
    (rc : Row W5 Bc 3 (cc (hdv K : Int) (tlv K : Int) (K.length : Int))) (hm : MM W5 R mb mm L a b h g) :
    SeqT Fence.wide n Tryz.prog 89 #[.pointer (some ⟨Bc, 0, none⟩), .pointer (some ⟨Bt, 0, none⟩)] (fun x : Nat => #[pe x]) (TR R R) (KpC n₀)
      (fun xs B => xs = K ∧ MM B R mb mm L (rdn a (K.length - 1)) b h g) (fun xs B => xs <+: K ∧ xs ≠ [] ∧ MM B R mb mm L (rdn a (xs.length - 1)) b h g) (fun pre x => pre ++ [x] <+: K) W5 := by
  have hz : R Bt = 0 := Decidable.byContradiction fun q => by have := at'.r Bt q; omega
  refine fun lp J Jx W1 hW hJ _ hY h0 => all1_gen mb mm R L a b h g 0 6 4 5 tt n hn lp Bc Bt K c (tlv K) J Jx hJ (KpC n₀)
    (fun A => A.heap[Bt]? = some (.cells #[at0 mb, .int .i64 ((0 : Nat) : Int), .int .i64 ((6 : Nat) : Int), .int .i64 ((4 : Nat) : Int), .int .i64 ((5 : Nat) : Int)] 111))
    (fun A hA => ?_) (fun A B hA t => (t.keeps.block Bt (Array.getElem?_eq_some_iff.1 hA).1 (fun q => q hz)).trans hA) (fun A B k hA => k.cel _ _ _ hA (by decide) (by decide)) (fun A B a' k m => m.belowN k.b at'.r) hY W1 ((hW.block Bt (Array.getElem?_eq_some_iff.1 ht).1).trans ht) (rc.below hW) (hm.below hW) h0
  refine ⟨(Array.getElem?_eq_some_iff.1 hA).1, fun j hj => ?_, fun j => by simp [World.frozen?, hA]⟩
  rw [← tc_new (at0 mb) ((0 : Nat) : Int) ((6 : Nat) : Int) ((4 : Nat) : Int) ((5 : Nat) : Int) j hj]
  simp [World.cell?, hA]
end
end Go.Proofs.YtlaldnfaeoimfaaGreat
