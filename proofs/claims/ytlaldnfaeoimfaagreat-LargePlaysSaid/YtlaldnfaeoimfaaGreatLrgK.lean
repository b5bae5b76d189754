/-
  haymowlaw15.told: all objects, in order.
-/
import Derived.Test.YtlaldnfaeoimfaaGreatLrgJ
namespace Go.Proofs.YtlaldnfaeoimfaaGreat
open Go.RowKit Go.Shelf
set_option linter.unusedVariables false

attribute [local go_sem] Oper.semAt_some
section
variable {D2 n₀ : Nat} {R : Nat → Nat} {A B C : World}
theorem KpU.trans (h : KpU D2 n₀ A B) (k : KpU D2 n₀ B C) : KpU D2 n₀ A C := ⟨h.c.trans k.c, fun j o a b c => k.oth j o a (h.oth j o a b c) c⟩
theorem KpU.put (W : World) (l : Nat) (o o' : Obj) (hl : n₀ ≤ l) (h2 : l < D2) (h : W.heap[l]? = some o) (hc : o.isCells = false) : KpU D2 n₀ W (W.putObj l o') :=
  ⟨KpC.put W l o o' hl h hc, fun k p h1 h3 _ => (World.putObj_heap_other (by omega)).trans h3⟩
theorem owns_stu {base : Nat} {e : TypeId} {size : Nat} {v : Value} {k : Nat} {xs : List Value} (h : A.ownsRow base e size v k xs) (st : StU D2 R A B) (hR : ∀ j, base ≤ j → R j = 0) : B.ownsRow base e size v k xs := by
  refine ⟨h.1, ?_⟩
  rcases h.2 with h | ⟨g, cap, cur, rfl, hb0, hg, r⟩
  · exact .inl h
  · exact .inr ⟨g, cap, cur, rfl, hb0, st.blk g _ hg (hR g hb0) (.inr rfl), r⟩
theorem TR.stu {w : World} (t : TR R R w A) (st : StU D2 R A B) (hw : w.heap.size ≤ D2) : TR R R w B :=
  ⟨⟨st.os.trans t.keeps.os, st.tape.trans t.keeps.tape, st.output.trans t.keeps.output, Nat.le_trans t.keeps.size st.size, fun k hk hf => by
    have e := t.keeps.block k hk hf
    have e2 : A.heap[k]? = some (A.heap[k]'(Nat.lt_of_lt_of_le hk t.keeps.size)) := Array.getElem?_eq_getElem _
    exact (st.blk k _ e2 (Decidable.byContradiction fun q => hf q) (.inl (by omega))).trans (e2.symm.trans e)⟩, t.old⟩
end
section
variable {R : Nat → Nat} {lb pb mb mm : Nat} {L : List Spc} {rm cnt mad fre a b : Nat} {h g : Int} {M O : List Nat} {tot bg tl : Nat}
theorem LM.belowN {X Y : World} {n₀ : Nat} (l : LM X R lb pb mb mm L rm cnt mad fre a b h g M O tot bg tl) (k : Below n₀ X Y) (hR : ∀ j, R j ≠ 0 → j < n₀) (h1 : lb < n₀) (h2 : pb < n₀) : LM Y R lb pb mb mm L rm cnt mad fre a b h g M O tot bg tl :=
  ⟨l.row.belowN k h1, l.z, l.ne, l.p.row.belowN k h2, l.p.z, l.p.m.belowN k hR, l.p.w1, l.p.w60, l.p.hk, l.p.ho, l.p.len, l.p.mr, l.p.al⟩
/-- large.All's iterator, as the loop of told wants it -/
theorem lall_seq (n : Nat) (hn : 3 ≤ n) (Bl D2 n₀ : Nat) (cM : CH 6 4 5 (wds L 0) M) (cO : CH 6 4 5 (wds L 0) O)
    (hR : ∀ j, R j ≠ 0 → j < n₀) (h1 : lb < n₀) (h2 : pb < n₀) (h3 : Bl < n₀) (h4 : n₀ ≤ D2) (hz : R Bl = 0) (W0 : World) (bL : Boxed W0 Bl 26 (at0 lb)) (l0 : LM W0 R lb pb mb mm L rm cnt mad fre a b h g M O tot bg tl) :
    SeqU Fence.wide n Tryz.prog 66 #[.pointer (some ⟨Bl, 0, none⟩)] (fun x : Nat => #[pe x]) (StU D2 R) (KpU D2 n₀)
      (fun xs X => xs = M ++ O ∧ ∃ a', LM X R lb pb mb mm L rm cnt mad fre a' b h g M O tot bg tl ∧ a' ≤ a + M.length + O.length)
      (fun xs X => xs <+: M ++ O ∧ ∃ a', LM X R lb pb mb mm L rm cnt mad fre a' b h g M O tot bg tl ∧ a' ≤ a + M.length + O.length) (fun pre x => pre ++ [x] <+: M ++ O) W0 D2 :=
  fun lp J Jx W hW hsz hJ hJx hY h0 => lall1_in n hn lp Bl D2 n₀ cM cO J Jx hJ hJx hR h1 h2 h3 h4 hz (n - 1) hY W hsz ((hW.block _ bL.lt).trans bL) (l0.below hW) h0
theorem big200 {n : Nat} (h : n ≤ 200) : ¬ (200 : Int) < (n : Int) := by omega
/-- what told hands back -/
def Tlf (R : Nat → Nat) (lb pb mb mm : Nat) (L : List Spc) (rm cnt mad fre a b : Nat) (h g : Int) (M O : List Nat) (tot bg tl : Nat) (w : World) (e : Ending) (w' : World) : Prop :=
  ∃ v, e = .returned (.tuple #[v, .bool true]) ∧ w'.ownsRow w.heap.size 3 1 v (M ++ O).length ((M ++ O).map pe) ∧ (∃ a', LM w' R lb pb mb mm L rm cnt mad fre a' b h g M O tot bg tl ∧ a' ≤ a + M.length + O.length) ∧ TR R R w w'
/-- what an append into a box of one's own leaves as it was: all cells that hold no integers -/
theorem cel_append {X W1 : World} {base : Nat} {v : Value} {k Bo : Nat} {xs : List Value} {o : Obj} {u : Value} (hrow : X.ownsRow base 3 1 v k xs) (hg : World.grownBy (X.alloc o) W1 v.ownBlock) (hv : Boxed (X.alloc o) Bo 30 u) (u' : Value) :
    ∀ (j : Nat) (cs : Array Value) (ty : TypeId), X.heap[j]? = some (.cells cs ty) → ty ≠ 3 → ty ≠ 30 → (W1.setCell ⟨Bo, 0, none⟩ u').heap[j]? = some (.cells cs ty) := fun j cs ty h n1 n2 => by
  have lt := (Array.getElem?_eq_some_iff.1 h).1
  have hA : (X.alloc o).heap[j]? = some (.cells cs ty) := (Below.heap_alloc X o j lt).trans h
  have nr : some j ≠ v.ownBlock := by
    rcases hrow.2 with ⟨rfl, _⟩ | ⟨g, cap, cur, rfl, hb0, hg2, r⟩
    · simp [Value.ownBlock]
    · simp only [Value.ownBlock]
      intro e
      injection e with e
      subst e
      rw [h] at hg2
      injection hg2 with e2
      injection e2 with e3 e4
      exact n1 e4
  have nb : j ≠ Bo := fun e => by
    subst e
    rw [show (X.alloc o).heap[j]? = _ from hv] at hA
    injection hA with e2
    injection e2 with e3 e4
    exact n2 e4.symm
  have h1 : W1.heap[j]? = some (.cells cs ty) := (hg.block j (Array.getElem?_eq_some_iff.1 hA).1 (by first | exact nr | exact nr.symm)).trans hA
  exact ((grownBy_setCell' W1 Bo u').block j (Array.getElem?_eq_some_iff.1 h1).1 (fun e => by injection e with e; exact nb (by first | exact e | exact e.symm))).trans h1
set_option maxRecDepth 100000 in
set_option maxHeartbeats 4000000 in
theorem ltold_in (n : Nat) (hn : 5 ≤ n) (cM : CH 6 4 5 (wds L 0) M) (cO : CH 6 4 5 (wds L 0) O) (hl : M.length + O.length ≤ 200) (w : World) (l : LM w R lb pb mb mm L rm cnt mad fre a b h g M O tot bg tl) :
    CallsIn Fence.wide n Tryz.prog 16 #[at0 lb] w (Tlf R lb pb mb mm L rm cnt mad fre a b h g M O tot bg tl w) := by
  have h1 : 1 ≤ n := by omega
  obtain ⟨i0, hi, hz0, hz1, hz2⟩ := info_parts infoI
  have hnil : ∀ (w : World) (c : Array Value), (binOp BinOp.eql 103 (Value.func (Fn.func 66) #[] c) Value.nilFunc).run Tryz.prog w = .ok (.bool false) w := fun _ _ => by kernel_rfl
  have hi0 := l.p.m.hi
  have hb1 := l.row.lt
  have hb2 := l.p.row.lt
  refine callsIn_of_wp_marks Tryz.func16 rfl trivial ?_ rfl
  simp only [Tryz.ntmps16, List.size_toArray, List.length_cons, List.length_nil, Nat.reduceAdd, Nat.reduceSub, Array.replicate_succ, Array.replicate_zero, List.push_toArray, List.append_toArray, List.nil_append, List.cons_append]
  gi_wp2_with (refine ⟨trivial, ?_⟩; gi_at_call 40; refine (lall_in _ lb _).mono ?_; rintro e w' ⟨rfl, rfl⟩)
  obtain ⟨B, hB⟩ : ∃ B, B = w.heap.size := ⟨_, rfl⟩
  obtain ⟨W0, hW0⟩ : ∃ W0, W0 = ((((w.alloc (.cells #[.slice none 0 0] 30)).alloc (.cells #[.bool false] 4)).alloc (.cells #[at0 lb] 26)).alloc (.cells #[.slice none 0 0] 30)) := ⟨_, rfl⟩
  have sz : W0.heap.size = B + 1 + 1 + 1 + 1 := by rw [hW0, hB]; simp
  have bw : Below w.heap.size w W0 := by rw [hW0]; exact bAlloc (bAlloc (bAlloc (bAlloc (Below.refl _ _) _) _) _) _
  have bO : Boxed W0 (B + 1 + 1 + 1) 30 (.slice none 0 0) := by rw [hW0, hB]; exact boxed_at _ _ _ _ (by simp)
  have bL : Boxed W0 (B + 1 + 1) 26 (at0 lb) := by rw [hW0, hB]; exact (boxed_at _ _ _ _ (by simp)).alloc _
  have bE : Boxed W0 (B + 1) 4 (.bool false) := by rw [hW0, hB]; exact ((boxed_at _ _ _ _ (by simp)).alloc _).alloc _
  have bR : Boxed W0 B 30 (.slice none 0 0) := by rw [hW0, hB]; exact (((boxed_at _ _ _ _ rfl).alloc _).alloc _).alloc _
  have l0 := l.below bw
  have T0 : TR R R w W0 := TR.of bw
  have HB := Lib.hid (show ∀ X : World, X = w → X.heap.size = B from fun X e => by rw [e, hB])
  have hi5 : ∀ j, R j ≠ 0 → j < B := fun j hj => by rw [hB]; exact hi0 j hj
  have zR : ∀ j, B ≤ j → R j = 0 := fun j hj => Decidable.byContradiction fun q => by have := hi5 j q; omega
  rw [← hB] at hb1 hb2
  rw [← hW0]
  rw [← hB] at *
  clear hW0 hi0 l bw
  have ln : (M ++ O).length ≤ 200 := by rw [List.length_append]; exact hl
  obtain ⟨Bo, hBo⟩ : ∃ Bo, Bo = B + 1 + 1 + 1 := ⟨_, rfl⟩
  have g1 : Bo + 1 = W0.heap.size := by rw [sz, hBo]
  have G1 := Lib.hid g1
  have HO := Lib.hid hBo
  have SQ := Lib.hid (lall_seq (n - 1) (by omega) (B + 1 + 1) (W0.heap.size + 2) Bo cM cO (fun j hj => by have := hi5 j hj; omega) (by omega) (by omega) (by omega) (by omega) (zR _ (by omega)) W0 bL l0)
  rw [← hBo] at bO ⊢
  have KB := Lib.hid (fun (X : World) (l : Nat) (o o' : Obj) (hl : l = W0.heap.size ∨ l = W0.heap.size + 1) (ho : X.heap[l]? = some o) (hc : o.isCells = false) => KpU.put (D2 := W0.heap.size + 2) (n₀ := Bo) X l o o' (by omega) (by omega) ho hc)
  have SB := Lib.hid (fun (X Y : World) (st : StU (W0.heap.size + 2) R X Y) (k : Nat) (o : Obj) (hk : k = W0.heap.size ∨ k = W0.heap.size + 1) (ho : X.heap[k]? = some o) (_ : o.isCells = false) => st.blk k o ho (zR k (by omega)) (.inl (by omega)))
  have PB := Lib.hid (fun (X : World) (l : Nat) (o o' : Obj) (a' : Nat) (q : LM X R lb pb mb mm L rm cnt mad fre a' b h g M O tot bg tl) (hl : l = W0.heap.size ∨ l = W0.heap.size + 1) (ho : X.heap[l]? = some o) (hc : o.isCells = false) => q.belowN (belowT_b (n₀ := B) (B := B) (Nat.le_refl _) X l o o' (by omega) ho hc) hi5 hb1 hb2)
  have HW := Lib.hid (show w.heap.size ≤ W0.heap.size by have := HB.out w rfl; omega)
  have IS := Lib.hid (show ∀ (s : List Nat) (X Y : World), (Bx X Bo (Bo + 1) s ∧ (Boxed X B 30 (.slice none 0 0) ∧ Boxed X (B + 1) 4 (.bool false)) ∧ TR R R w X) → StU (W0.heap.size + 2) R X Y → (Bx Y Bo (Bo + 1) s ∧ (Boxed Y B 30 (.slice none 0 0) ∧ Boxed Y (B + 1) 4 (.bool false)) ∧ TR R R w Y) from fun s X Y hs st => by
    obtain ⟨⟨v, hv, hr⟩, ⟨h2, h3⟩, h4⟩ := hs
    exact ⟨⟨v, st.blk _ _ hv (zR _ (by omega)) (.inr rfl), owns_stu hr st (fun j hj => zR j (by omega))⟩, ⟨st.blk _ _ h2 (zR _ (by omega)) (.inr rfl), st.blk _ _ h3 (zR _ (by omega)) (.inr rfl)⟩, h4.stu st (by have := HW.out; omega)⟩)
  have HI := Lib.hid hi5
  have I0 := Lib.hid (show Bx W0 Bo (Bo + 1) [] ∧ (Boxed W0 B 30 (.slice none 0 0) ∧ Boxed W0 (B + 1) 4 (.bool false)) ∧ TR R R w W0 from ⟨⟨_, bO, World.ownsRow_nil _ _ _ _⟩, ⟨bR, bE⟩, T0⟩)
  clear g1 hBo bO bL bE bR T0 l0 sz zR hi5
  refine wpIn_rangeV (S := fun xs X => xs = M ++ O ∧ ∃ a', LM X R lb pb mb mm L rm cnt mad fre a' b h g M O tot bg tl ∧ a' ≤ a + M.length + O.length) rfl h1 (gf := 66) (lb := #[.pointer (some ⟨B + 1 + 1, 0, none⟩)]) rfl trivial (enters_of Tryz.func66 (by kernel_rfl) rfl)
    SQ.out (fun k1 k2 => k1.trans k2) KB.out SB.out
    (fun xs X l o o' q hl ho hc => ⟨q.1, q.2.elim fun a' q2 => ⟨a', PB.out X l o o' a' q2.1 hl ho hc, q2.2⟩⟩)
    (fun xs X l o o' q hl ho hc => ⟨q.1, q.2.elim fun a' q2 => ⟨a', PB.out X l o o' a' q2.1 hl ho hc, q2.2⟩⟩)
    (Below.refl _ _) (fun _ => rfl)
    (fun pre X => Bx X Bo (Bo + 1) pre ∧ (Boxed X B 30 (.slice none 0 0) ∧ Boxed X (B + 1) 4 (.bool false)) ∧ TR R R w X)
    (fun c pre X => False)
    (OwnFrom.and (Go.Own.from (Bx.own Bo (Bo + 1)) _) (OwnFrom.and (OwnFrom.and (Go.Own.from (boxed_own B 30 (fun _ : List Nat => .slice none 0 0)) _) (Go.Own.from (boxed_own (B + 1) 4 (fun _ : List Nat => .bool false)) _)) (ownFrom_tr HW.out)))
    (fun c => fun _ _ _ _ hs _ _ => hs)
    IS.out (fun c s X Y hs st => hs)
    I0.out
    (fun x => { tmps := #[at0 lb, undef, .pointer (some ⟨B, 0, none⟩), .pointer (some ⟨B + 1, 0, none⟩), .func (.func 66) #[] #[.pointer (some ⟨B + 1 + 1, 0, none⟩)], .pointer (some ⟨Bo, 0, none⟩), .int .i64 (x : Int), at0 lb, .func (.func 66) #[] #[.pointer (some ⟨B + 1 + 1, 0, none⟩)], .func (.func 66) #[] #[.pointer (some ⟨B + 1 + 1, 0, none⟩)], .bool false, .func (.func 66) #[] #[.pointer (some ⟨B + 1 + 1, 0, none⟩)], .int .i64 (x : Int), undef, undef, undef, undef, undef, undef, undef, undef, undef], defers := [] }) ?assign ?body ?done ?stop
  case assign =>
    intro l x W K hK
    gi_wp2
    exact hK
  case body =>
    rintro lp pre x X ⟨⟨v, hv, hrow⟩, ⟨hb, he⟩, hT⟩ hok
    obtain ⟨g, cap, rfl⟩ := owns_slice hrow
    have hc := hv.cell
    have hBB : B + 1 < Bo := by have := HO.out; omega
    have hsz : Bo ≤ X.heap.size := by have := hv.lt; omega
    have hsz6 : Bo + 1 ≤ X.heap.size := by have := hv.lt; omega
    have hlm : pre.length + 1 ≤ 200 := by
      have e2 := hok.length_le
      rw [List.length_append] at e2
      simp only [List.length_singleton] at e2
      omega
    have hbig := big200 (show pre.length ≤ 200 by omega)
    gi_wp2_with (gi_at_builtin; refine wpListIn_append_own _ rfl _ _ 30 rfl (Bo + 1) 3 i0 (.int .i64 0) 1 8 Tryz.underlying30 hi hz0 hz1 hz2 rfl (by decide) _ _ _ rfl (hrow.alloc _) ⟨X.heap.size, 0, none⟩ 1 1 [.int .i64 (x : Int)] rfl rfl (cell_one_new _ _ _) (by simp [Value.oneCell']) (by unfold maxLen; omega) (by omega) (by simp; omega) ?_; intro v' w1 hown' hgrow _; obtain ⟨g', cap', rfl⟩ := ownsRow_succ hown'; obtain ⟨hv1, hv2, hr2, hk2, hb2⟩ := hv.appended (by decide) (owns_base hrow (n := Bo) (by omega)) hsz (by omega) (owns_base hown' (by omega)) hgrow; have hc1 := hv1.cell; have hf1 := hv1.frozen; have hb1 := (hb.alloc _).kept hgrow (owns_apart hrow (by omega)); have he1 := (he.alloc _).kept hgrow (owns_apart hrow (by omega)); have hr3 := hown'.kept (grownBy_setCell' w1 (Bo) (.slice (some ⟨g', 0, none⟩) (pre.length + 1) cap')) (.inr (hv1.not_row (by decide) hown').symm); have hb3 := hb1.kept (grownBy_setCell' w1 (Bo) (.slice (some ⟨g', 0, none⟩) (pre.length + 1) cap')) (by intro e; injection e with e; omega); have he3 := he1.kept (grownBy_setCell' w1 (Bo) (.slice (some ⟨g', 0, none⟩) (pre.length + 1) cap')) (by intro e; injection e with e; omega); have hcel := cel_append hrow hgrow (hv.alloc _) (.slice (some ⟨g', 0, none⟩) (pre.length + 1) cap'); clear hgrow hown')
    exact ⟨⟨hk2.from _, ⟨hb2, hcel⟩, fun k o _ h1 h2 => hk2.same k o h1 h2⟩, ⟨_, hv2, by simpa using hr3⟩, ⟨hb3, he3⟩, hT.belowN hb2 (by have := HB.out w rfl; omega)⟩
  case done =>
    rintro D xs X hD ⟨exs, a', lX, ha⟩ ⟨⟨v, hv, hrow⟩, ⟨hb, he⟩, hT⟩ hK
    rw [exs] at hrow
    clear exs xs
    obtain ⟨gq, cap, rfl⟩ := owns_slice hrow
    have hc := hv.cell
    have hc2 := hb.cell
    have hc3 := he.cell
    have hf2 := hb.frozen
    have hf3 := he.frozen
    have eW := HB.out w rfl
    have eO := HO.out
    have eG := G1.out
    have k1 : Below B X (X.setCell ⟨B, 0, none⟩ (.slice gq (M ++ O).length cap)) := (Below.refl B X).setCell (p := ⟨B, 0, none⟩) (Nat.le_refl _) _
    have k2 : Below B X ((X.setCell ⟨B, 0, none⟩ (.slice gq (M ++ O).length cap)).setCell ⟨B + 1, 0, none⟩ (.bool true)) := k1.setCell (p := ⟨B + 1, 0, none⟩) (Nat.le_succ _) _
    have kk : Keeps (fun j => j = B ∨ j = B + 1) X ((X.setCell ⟨B, 0, none⟩ (.slice gq (M ++ O).length cap)).setCell ⟨B + 1, 0, none⟩ (.bool true)) :=
      (Keeps.set X B 0 (.slice gq (M ++ O).length cap) (F := fun j => j = B ∨ j = B + 1) (.inl rfl)).trans (Keeps.set _ (B + 1) 0 (.bool true) (F := fun j => j = B ∨ j = B + 1) (.inr rfl)) (fun _ _ h => h)
    have hK2 : ((X.setCell ⟨B, 0, none⟩ (.slice gq (M ++ O).length cap)).setCell ⟨B + 1, 0, none⟩ (.bool true)).heap[D]? = some (.deferred (some [])) := (kk.block D (Array.getElem?_eq_some_iff.1 hK).1 (by omega)).trans hK
    have r2 := owns_keeps hrow kk (fun j hj => by omega)
    have r3 := owns_base (ownsRow_putObj r2 (.deferred none) hK2 rfl) (n := w.heap.size) (by omega)
    have k3 : Below B X (((X.setCell ⟨B, 0, none⟩ (.slice gq (M ++ O).length cap)).setCell ⟨B + 1, 0, none⟩ (.bool true)).putObj D (.deferred none)) := k2.trans (belowT_b (n₀ := B) (B := B) (Nat.le_refl _) _ D _ _ (by omega) hK2 rfl)
    have FIN := Lib.hid (show Tlf R lb pb mb mm L rm cnt mad fre a b h g M O tot bg tl w (.returned (.tuple #[.slice gq (M ++ O).length cap, .bool true])) (((X.setCell ⟨B, 0, none⟩ (.slice gq (M ++ O).length cap)).setCell ⟨B + 1, 0, none⟩ (.bool true)).putObj D (.deferred none)) from
      ⟨_, rfl, r3, ⟨a', lX.belowN k3 HI.out hb1 hb2, ha⟩, hT.belowN k3 (by omega)⟩)
    have c1 : (((X.setCell ⟨B, 0, none⟩ (.slice gq (M ++ O).length cap)).setCell ⟨B + 1, 0, none⟩ (.bool true)).putObj D (.deferred none)).cell? ⟨B, 0, none⟩ = some (.slice gq (M ++ O).length cap) := by
      rw [World.cell?_of_block (w := (X.setCell ⟨B, 0, none⟩ (.slice gq (M ++ O).length cap)).setCell ⟨B + 1, 0, none⟩ (.bool true)) (World.putObj_heap_other (by show B ≠ D; omega))]
      exact ((hb.set (.slice gq (M ++ O).length cap)).other (by omega) _).cell
    have c2 : (((X.setCell ⟨B, 0, none⟩ (.slice gq (M ++ O).length cap)).setCell ⟨B + 1, 0, none⟩ (.bool true)).putObj D (.deferred none)).cell? ⟨B + 1, 0, none⟩ = some (.bool true) := by
      rw [World.cell?_of_block (w := (X.setCell ⟨B, 0, none⟩ (.slice gq (M ++ O).length cap)).setCell ⟨B + 1, 0, none⟩ (.bool true)) (World.putObj_heap_other (by show B + 1 ≠ D; omega))]
      exact ((he.other (by omega) _).set _).cell
    clear k1 k2 k3 kk r2 r3 hrow lX ha hT eW eO eG hv
    generalize (M ++ O).length = len at *
    gi_wp2
    refine ⟨by simp, .inl ⟨_, _, rfl, run_takeDeferred hK2, ?_⟩⟩
    exact ⟨_, by simp [results, Tryz.results16, go_sem, c1, c2], FIN.out⟩
  case stop =>
    rintro D c pre X hD _ q _
    exact q.elim
end
section
variable {W0 : World} {R : Nat → Nat} {lb pb mb mm : Nat} {n rm mad : Nat} {tk : Nat → Bool} {gn : Nat → Nat} {F M O : List Nat} {td tot a b : Nat} {ob : Nat → List Nat} {w w' : World}
theorem LGS.told (s : LGS W0 R lb pb mb mm n rm mad tk gn F M O td tot a b ob w) (hl : M.length + O.length ≤ 200) :
    Calls Tryz.prog 16 #[at0 lb] w fun e w' => ∃ v a', e = .returned (.tuple #[v, .bool true]) ∧ w'.ownsRow w.heap.size 3 1 v (M ++ O).length ((M ++ O).map pe) ∧ LGS W0 R lb pb mb mm n rm mad tk gn F M O td tot a' b ob w' ∧ a' ≤ a + M.length + O.length ∧ TR R R w w' := by
  have s0 := s
  obtain ⟨⟨L, fre, g, bg, l, q, d, e1, e2⟩, o, lp, ll, gg, hd, hm, hr, ht, hn⟩ := s
  refine ((callsIn_wide (n := 5)).1 (ltold_in 5 (Nat.le_refl _) q.cM d hl w l)).mono ?_
  rintro e w' ⟨v, rfl, own, ⟨a', l', ha⟩, t⟩
  exact ⟨v, a', rfl, own, s0.reads l' q d e1 e2 t, ha, t⟩
theorem large_neq_nil (a : Addr) (w : World) : (binOp .neq 26 (.pointer (some a)) (.pointer none)).run Tryz.prog w = .ok (.bool true) w := by kernel_rfl
theorem large_none (w : World) : (binOp .neq 26 (.pointer none) (.pointer none)).run Tryz.prog w = .ok (.bool false) w := by kernel_rfl
theorem made15_ok (w : World) : Calls Tryz.prog 6 #[] w fun e w' => ∃ mb mm R pb lb, e = .returned (.tuple #[at0 mb, at0 lb, .bool true]) ∧ LGS w R lb pb mb mm 0 0 0 (fun _ => false) (fun _ => 0) [] [] [] 0 0 0 0 (fun _ => []) w' := by
  have NW := Lib.hid (fun w => mnew_any w)
  have LN := Lib.hid (fun mb mm R w m => lnew_ok mb mm R w m)
  have q0 := fun w a => ptr_eql_nil a w
  have q1 := fun w a => large_neq_nil a w
  go_enter Tryz.func6, Tryz.ntmps6
  go_wp2_with fail
  with_reducible refine (NW.out _).mono ?_
  rintro e w1 ⟨mb, mm, R, rfl, M1, lo1, b1⟩
  dsimp only
  go_wp2_with fail
  with_reducible refine (LN.out mb mm R _ M1).mono ?_
  rintro e w2 ⟨R2, pb, lb, rfl, L2, hp, hl, T2⟩
  dsimp only
  have O1 : Own w R w1 := ⟨lo1, b1⟩
  have S2 := Lib.hid (LGS.start O1 hp hl T2 L2)
  clear O1 M1 T2 L2 hp hl lo1 b1
  go_wp2_with fail
  exact bodyPost_ret (v := .tuple #[at0 mb, at0 lb, .bool true]) (by simp [results, Tryz.results6, go_sem]) rfl ⟨mb, mm, R2, pb, lb, rfl, S2.out⟩
theorem LGS.since {w0 : World} (s : LGS W0 R lb pb mb mm n rm mad tk gn F M O td tot a b ob w) (k : Below w0.heap.size w0 W0) : LGS w0 R lb pb mb mm n rm mad tk gn F M O td tot a b ob w := by
  obtain ⟨x, o, lp, ll, gg, hd, hm, hr, ht, hn⟩ := s
  exact ⟨x, ⟨fun j hj => Nat.le_trans k.size (o.lo j hj), k.trans (o.b.mono k.size)⟩, Nat.le_trans k.size lp, Nat.le_trans k.size ll, gg, hd, hm, hr, ht, hn⟩
end
end Go.Proofs.YtlaldnfaeoimfaaGreat
