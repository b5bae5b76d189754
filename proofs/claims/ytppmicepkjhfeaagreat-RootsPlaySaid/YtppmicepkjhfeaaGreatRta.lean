/-
  Roots in memory: a stack of frames and two sets of handles in one Mem, each in a space of its own; what one call leaves of the others.
-/
import Derived.Test.YtppmicepkjhfeaaGreatFrA
import Derived.Test.YtppmicepkjhfeaaGreatHnA
namespace Go.Proofs.YtppmicepkjhfeaaGreat
open Go.RowKit
set_option linter.unusedVariables false

/-- handles in plain words: their space, its room, the entries ever made, which are in use, of which generation, those that are free, the chain, what each holds, whether they are being turned -/
structure HS where
  ps : Nat
  rm : Nat
  mad : Nat
  tk : Nat → Bool
  gn : Nat → Nat
  F : List Nat
  C : List Nat
  V : Nat → Nat
  bz : Bool
/-- the token of an entry's user -/
abbrev HS.t (s : HS) (x : Nat) : Nat := tkn x (s.gn x)
/-- handles in memory -/
structure HK (w : World) (R : Nat → Nat) (hb pb mb mm : Nat) (L : List Spc) (s : HS) (a b : Nat) (h g : Int) : Prop where
  l : ∃ fre, HM w R hb pb mb mm s.ps L s.rm s.C.length s.mad fre a b h g s.C s.bz ∧ HQ (wds L s.ps) s.mad fre s.tk s.gn s.F s.C
  v : ∀ y, y ∈ s.C → lw (wds L s.ps) 4 y 1 = s.V y
/-- a place in the list of spaces is as it was -/
abbrev Sm (L L' : List Spc) (i : Nat) : Prop := i < L'.length ∧ L'.getD i (false, []) = L.getD i (false, [])
theorem Sm.wds {L L' : List Spc} {i : Nat} (h : Sm L L' i) : wds L' i = Go.Proofs.YtppmicepkjhfeaaGreat.wds L i := by unfold Go.Proofs.YtppmicepkjhfeaaGreat.wds; rw [h.2]
theorem sm_setw {L : List Spc} {k i : Nat} (hi : i < L.length) (ws : List Nat) (h : i ≠ k) : Sm L (setw L k ws) i := by
  refine ⟨by rw [setw_len]; exact hi, ?_⟩
  unfold setw
  simp [List.getD, List.getElem?_set_ne (Ne.symm h)]
section
variable {w w' : World} {R R' Q Q' : Nat → Nat} {fb hb pb mb mm fs : Nat} {L L' : List Spc} {S : List (List Nat)} {bz : Bool} {s : HS} {a b a' b' : Nat} {h g h' g' : Int}
/-- another's call leaves the stack -/
theorem FR.other (p : FR w R fb mb mm fs L S bz a b h g) (t : TR Q Q' w w') (q1 : Q fb = 0) (hs : ∀ j, Q' j = 0 → R' j = 0) (m : MM w' R' mb mm L' a' b' h' g') (e : Sm L L' fs) : FR w' R' fb mb mm fs L' S bz a' b' h' g' :=
  ⟨p.row.tr t q1, hs _ (t.z p.row.lt q1), m, e.1, by rw [e.2]; exact p.ho, by rw [e.wds]; exact p.im, by rw [e.wds]; exact p.wl, p.sl⟩
theorem PP.other {W rm cnt mad fre : Nat} {ps : Nat} (p : PP w R pb mb mm L ps W rm cnt mad fre a b h g) (t : TR Q Q' w w') (q1 : Q pb = 0) (hs : ∀ j, Q' j = 0 → R' j = 0) (m : MM w' R' mb mm L' a' b' h' g') (e : Sm L L' ps) : PP w' R' pb mb mm L' ps W rm cnt mad fre a' b' h' g' :=
  ⟨p.row.tr t q1, hs _ (t.z p.row.lt q1), m, p.w1, p.w60, e.1, by rw [e.2]; exact p.ho, by rw [e.wds]; exact p.len, p.mr, by rw [e.wds]; exact p.al⟩
/-- another's call leaves the handles -/
theorem HK.other (k : HK w R hb pb mb mm L s a b h g) (t : TR Q Q' w w') (q1 : Q hb = 0) (q2 : Q pb = 0) (hs : ∀ j, Q' j = 0 → R' j = 0) (m : MM w' R' mb mm L' a' b' h' g') (e : Sm L L' s.ps) : HK w' R' hb pb mb mm L' s a' b' h' g' := by
  obtain ⟨⟨fre, l, q⟩, v⟩ := k
  exact ⟨⟨fre, ⟨l.row.tr t q1, hs _ (t.z l.row.lt q1), l.ne, l.p.other t q2 hs m e⟩, by rw [e.wds]; exact q⟩, by rw [e.wds]; exact v⟩
theorem HK.at (k : HK w R hb pb mb mm L s a b h g) : R hb = 0 ∧ R pb = 0 ∧ hb ≠ pb ∧ hb < w.heap.size ∧ pb < w.heap.size := by
  obtain ⟨⟨fre, l, q⟩, v⟩ := k
  exact ⟨l.z, l.p.z, l.ne, l.row.lt, l.p.row.lt⟩
theorem HK.m (k : HK w R hb pb mb mm L s a b h g) : MM w R mb mm L a b h g := by
  obtain ⟨⟨fre, l, q⟩, v⟩ := k
  exact l.p.m
theorem HK.sp (k : HK w R hb pb mb mm L s a b h g) : s.ps < L.length ∧ (L.getD s.ps (false, [])).1 = true := by
  obtain ⟨⟨fre, l, q⟩, v⟩ := k
  exact ⟨l.p.hk, l.p.ho⟩
theorem HK.c (k : HK w R hb pb mb mm L s a b h g) : s.C.length ≤ s.mad ∧ s.C.Nodup ∧ (∀ x, x ∈ s.C → 1 ≤ x ∧ x ≤ s.mad ∧ s.tk x = true) ∧ (∀ x, 1 ≤ x → x ≤ s.mad → s.tk x = true → x ∈ s.C) ∧ s.mad ≤ s.rm ∧ s.mad ≤ 10000 := by
  obtain ⟨⟨fre, l, q⟩, v⟩ := k
  exact ⟨q.len.1, q.ch.nd, q.us, q.cv, l.p.mr, q.len.2⟩
theorem HK.rng (k : HK w R hb pb mb mm L s a b h g) {x : Nat} (hx : x ∈ s.C) : 1 ≤ x ∧ x ≤ 1048576 := by
  have := k.c.2.2.1 x hx
  have := k.c.2.2.2.2.2
  omega
theorem HK.vb (k : HK w R hb pb mb mm L s a b h g) {x : Nat} (hx : x ∈ s.C) : s.V x < 18446744073709551616 := by
  obtain ⟨⟨fre, l, q⟩, v⟩ := k
  rw [← v x hx]
  exact l.p.al _
end

/-! ### all of it -/
/-- the blocks: the Roots', the stack's, the pools' and the handles', the Mem's -/
structure BK where
  rb : Nat
  fb : Nat
  gp : Nat
  gb : Nat
  hp : Nat
  hb : Nat
  mb : Nat
  mm : Nat
/-- its own blocks -/
def BK.own (B : BK) (j : Nat) : Prop := j = B.rb ∨ j = B.fb ∨ j = B.gp ∨ j = B.gb ∨ j = B.hp ∨ j = B.hb
instance (B : BK) (j : Nat) : Decidable (B.own j) := by unfold BK.own; infer_instance
def BK.apart (B : BK) : Prop := B.rb ≠ B.fb ∧ B.rb ≠ B.gp ∧ B.rb ≠ B.gb ∧ B.rb ≠ B.hp ∧ B.rb ≠ B.hb ∧ B.fb ≠ B.gp ∧ B.fb ≠ B.gb ∧ B.fb ≠ B.hp ∧ B.fb ≠ B.hb ∧ B.gp ≠ B.gb ∧ B.gp ≠ B.hp ∧ B.gp ≠ B.hb ∧ B.gb ≠ B.hp ∧ B.gb ≠ B.hb ∧ B.hp ≠ B.hb
/-- the roles -/
def rr (B : BK) (R : Nat → Nat) (j : Nat) : Nat := if B.own j then 1 else R j
theorem rr_own {B : BK} {R : Nat → Nat} {j : Nat} (h : B.own j) : rr B R j ≠ 0 := by unfold rr; rw [if_pos h]; decide
theorem rr_of {B : BK} {R : Nat → Nat} {j : Nat} (h : rr B R j ≠ 0) : B.own j ∨ R j ≠ 0 := by
  unfold rr at h
  split at h
  · exact .inl ‹_›
  · exact .inr h
theorem rr_sub {B : BK} {R : Nat → Nat} {j : Nat} (h : rr B R j = 0) : R j = 0 := by
  unfold rr at h
  split at h
  · cases h
  · exact h
theorem rr_no {B : BK} {R : Nat → Nat} {j : Nat} (h : rr B R j = 0) : ¬ B.own j := fun q => rr_own q h
theorem rh_of {R : Nat → Nat} {pb hb j : Nat} (h : rh R pb hb j ≠ 0) : j = hb ∨ j = pb ∨ R j ≠ 0 := by
  rcases rp_of h with e | e
  · exact .inl e
  · rcases rp_of e with e | e
    · exact .inr (.inl e)
    · exact .inr (.inr e)
theorem rh_sub {R : Nat → Nat} {pb hb j : Nat} (h : rh R pb hb j = 0) : R j = 0 := rp_sub (rp_sub h)
theorem rh_zero {R : Nat → Nat} {pb hb j : Nat} (h : R j = 0) (h1 : j ≠ pb) (h2 : j ≠ hb) : rh R pb hb j = 0 := by
  unfold rh rp; rw [if_neg h2, if_neg h1]; exact h
theorem rp_zero {R : Nat → Nat} {pb j : Nat} (h : R j = 0) (h1 : j ≠ pb) : rp R pb j = 0 := by
  unfold rp; rw [if_neg h1]; exact h
/-- a part's call, told of the whole -/
theorem TR.up {B : BK} {Q Q' R R' : Nat → Nat} {w w' : World} (t : TR Q Q' w w') (h1 : ∀ j, Q j ≠ 0 → rr B R j ≠ 0) (h2 : ∀ j, R' j ≠ 0 → Q' j ≠ 0) : TR (rr B R) (rr B R') w w' :=
  ⟨t.keeps.mono (fun j _ q => h1 j q), fun j hj q => by
    rcases rr_of q with e | e
    · exact rr_own e
    · exact h1 j (t.old j hj (h2 j e))⟩
def rtc (f g h : Value) (j : Nat) : Value := if j = 0 then f else if j = 1 then g else h
theorem rtc_new (f g h : Value) (j : Nat) (hj : j < 3) : (#[f, g, h] : Array Value)[j]? = some (rtc f g h j) := by
  have e : j = 0 ∨ j = 1 ∨ j = 2 := by omega
  rcases e with rfl | rfl | rfl <;> rfl
theorem rtc_all {w : World} {q : Nat} {f g h : Value} (r : Row w q 3 (rtc f g h)) : w.cell? ⟨q, 0, none⟩ = some f ∧ w.cell? ⟨q, 1, none⟩ = some g ∧ w.cell? ⟨q, 2, none⟩ = some h ∧ q < w.heap.size := ⟨r.cell 0 (by omega), r.cell 1 (by omega), r.cell 2 (by omega), r.lt⟩
attribute [irreducible] rtc
/-- Roots in memory: the stack S in the space fs, the global handles G, the weak ones H -/
structure RS (w : World) (R : Nat → Nat) (B : BK) (fs : Nat) (L : List Spc) (S : List (List Nat)) (bz : Bool) (G H : HS) (a b : Nat) (h g : Int) : Prop where
  row : Row w B.rb 3 (rtc (at0 B.fb) (at0 B.gb) (at0 B.hb))
  z : R B.rb = 0
  f : FR w R B.fb B.mb B.mm fs L S bz a b h g
  kg : HK w R B.gb B.gp B.mb B.mm L G a b h g
  kh : HK w R B.hb B.hp B.mb B.mm L H a b h g
  nd : B.apart
  d1 : fs ≠ G.ps
  d2 : fs ≠ H.ps
  d3 : G.ps ≠ H.ps
section
variable {w w' : World} {R R' : Nat → Nat} {B : BK} {fs : Nat} {L L' : List Spc} {S S' : List (List Nat)} {bz bz' : Bool} {G G' H H' : HS} {a b a' b' : Nat} {h g h' g' : Int}
theorem RS.m (p : RS w R B fs L S bz G H a b h g) : MM w R B.mb B.mm L a b h g := p.f.m
theorem RS.hi (p : RS w R B fs L S bz G H a b h g) {j : Nat} (q : rr B R j ≠ 0) : j < w.heap.size := by
  rcases rr_of q with e | e
  · have h1 := p.row.lt
    have h2 := p.f.row.lt
    have h3 := p.kg.at
    have h4 := p.kh.at
    unfold BK.own at e
    omega
  · exact p.m.hi j e
theorem RS.fresh (p : RS w R B fs L S bz G H a b h g) {j : Nat} (hj : w.heap.size ≤ j) : rr B R j = 0 := Decidable.byContradiction fun q => by have := p.hi q; omega
/-- a call of the stack's -/
theorem RS.frame (p : RS w R B fs L S bz G H a b h g) {ws : List Nat} (q : FR w' R' B.fb B.mb B.mm fs (setw L fs ws) S' bz' a' b' h' g') (t : TR (rp R B.fb) (rp R' B.fb) w w') : RS w' R' B fs (setw L fs ws) S' bz' G H a' b' h' g' ∧ TR (rr B R) (rr B R') w w' := by
  have nd := p.nd
  unfold BK.apart at nd
  obtain ⟨g1, g2, g3, g4, g5⟩ := p.kg.at
  obtain ⟨h1, h2, h3, h4, h5⟩ := p.kh.at
  have z := p.z
  have hs : ∀ j, rp R' B.fb j = 0 → R' j = 0 := fun j => rp_sub
  have zr : rp R B.fb B.rb = 0 := rp_zero z (by omega)
  have d1 := p.d1; have d2 := p.d2
  refine ⟨⟨p.row.tr t zr, hs _ (t.z p.row.lt zr), q, p.kg.other t (rp_zero g1 (by omega)) (rp_zero g2 (by omega)) hs q.m (sm_setw p.kg.sp.1 _ (by omega)), p.kh.other t (rp_zero h1 (by omega)) (rp_zero h2 (by omega)) hs q.m (sm_setw p.kh.sp.1 _ (by omega)), p.nd, p.d1, p.d2, p.d3⟩, t.up (fun j e => ?_) (fun j e q => e (rp_sub q))⟩
  rcases rp_of e with e | e
  · exact rr_own (by unfold BK.own; omega)
  · exact fun q => e (rr_sub q)
/-- the stack's call, that leaves the spaces -/
theorem RS.frame0 (p : RS w R B fs L S bz G H a b h g) (q : FR w' R' B.fb B.mb B.mm fs L S' bz' a' b' h' g') (t : TR (rp R B.fb) (rp R' B.fb) w w') : RS w' R' B fs L S' bz' G H a' b' h' g' ∧ TR (rr B R) (rr B R') w w' := by
  have e : setw L fs (wds L fs) = L := setw_same p.f.hk
  rw [← e] at q
  have K := p.frame q t
  rw [e] at K
  exact K
/-- a call of the global handles' -/
theorem RS.glob (p : RS w R B fs L S bz G H a b h g) {ws : List Nat} (q : HK w' R' B.gb B.gp B.mb B.mm (setw L G.ps ws) G' a' b' h' g') (e : G'.ps = G.ps) (t : TR (rh R B.gp B.gb) (rh R' B.gp B.gb) w w') : RS w' R' B fs (setw L G.ps ws) S bz G' H a' b' h' g' ∧ TR (rr B R) (rr B R') w w' := by
  have nd := p.nd
  unfold BK.apart at nd
  have f1 := p.f.z
  obtain ⟨h1, h2, h3, h4, h5⟩ := p.kh.at
  have z := p.z
  have hs : ∀ j, rh R' B.gp B.gb j = 0 → R' j = 0 := fun j => rh_sub
  have zr : rh R B.gp B.gb B.rb = 0 := rh_zero z (by omega) (by omega)
  have d1 := p.d1; have d3 := p.d3
  refine ⟨⟨p.row.tr t zr, hs _ (t.z p.row.lt zr), p.f.other t (rh_zero f1 (by omega) (by omega)) hs q.m (sm_setw p.f.hk _ (by omega)), q, p.kh.other t (rh_zero h1 (by omega) (by omega)) (rh_zero h2 (by omega) (by omega)) hs q.m (sm_setw p.kh.sp.1 _ (by omega)), p.nd, by rw [e]; exact p.d1, p.d2, by rw [e]; exact p.d3⟩, t.up (fun j e => ?_) (fun j e q => e (rh_sub q))⟩
  rcases rh_of e with e | e | e
  · exact rr_own (by unfold BK.own; omega)
  · exact rr_own (by unfold BK.own; omega)
  · exact fun q => e (rr_sub q)
theorem RS.glob0 (p : RS w R B fs L S bz G H a b h g) (q : HK w' R' B.gb B.gp B.mb B.mm L G' a' b' h' g') (e : G'.ps = G.ps) (t : TR (rh R B.gp B.gb) (rh R' B.gp B.gb) w w') : RS w' R' B fs L S bz G' H a' b' h' g' ∧ TR (rr B R) (rr B R') w w' := by
  have e0 : setw L G.ps (wds L G.ps) = L := setw_same p.kg.sp.1
  rw [← e0] at q
  have K := p.glob q e t
  rw [e0] at K
  exact K
/-- a call of the weak handles' -/
theorem RS.weak (p : RS w R B fs L S bz G H a b h g) {ws : List Nat} (q : HK w' R' B.hb B.hp B.mb B.mm (setw L H.ps ws) H' a' b' h' g') (e : H'.ps = H.ps) (t : TR (rh R B.hp B.hb) (rh R' B.hp B.hb) w w') : RS w' R' B fs (setw L H.ps ws) S bz G H' a' b' h' g' ∧ TR (rr B R) (rr B R') w w' := by
  have nd := p.nd
  unfold BK.apart at nd
  have f1 := p.f.z
  obtain ⟨g1, g2, g3, g4, g5⟩ := p.kg.at
  have z := p.z
  have hs : ∀ j, rh R' B.hp B.hb j = 0 → R' j = 0 := fun j => rh_sub
  have zr : rh R B.hp B.hb B.rb = 0 := rh_zero z (by omega) (by omega)
  have d2 := p.d2; have d3 := p.d3
  refine ⟨⟨p.row.tr t zr, hs _ (t.z p.row.lt zr), p.f.other t (rh_zero f1 (by omega) (by omega)) hs q.m (sm_setw p.f.hk _ (by omega)), p.kg.other t (rh_zero g1 (by omega) (by omega)) (rh_zero g2 (by omega) (by omega)) hs q.m (sm_setw p.kg.sp.1 _ (by omega)), q, p.nd, p.d1, by rw [e]; exact p.d2, by rw [e]; exact p.d3⟩, t.up (fun j e => ?_) (fun j e q => e (rh_sub q))⟩
  rcases rh_of e with e | e | e
  · exact rr_own (by unfold BK.own; omega)
  · exact rr_own (by unfold BK.own; omega)
  · exact fun q => e (rr_sub q)
theorem RS.weak0 (p : RS w R B fs L S bz G H a b h g) (q : HK w' R' B.hb B.hp B.mb B.mm L H' a' b' h' g') (e : H'.ps = H.ps) (t : TR (rh R B.hp B.hb) (rh R' B.hp B.hb) w w') : RS w' R' B fs L S bz G H' a' b' h' g' ∧ TR (rr B R) (rr B R') w w' := by
  have e0 : setw L H.ps (wds L H.ps) = L := setw_same p.kh.sp.1
  rw [← e0] at q
  have K := p.weak q e t
  rw [e0] at K
  exact K
/-- whoever keeps its blocks leaves it -/
theorem RS.aside (p : RS w R B fs L S bz G H a b h g) {F : Nat → Prop} (k : Keeps F w w') (hF : ∀ j, F j → rr B R j = 0) : RS w' R B fs L S bz G H a b h g := by
  have no : ∀ j, B.own j → ¬ F j := fun j q e => rr_own q (hF j e)
  have m := p.m.aside k (fun j hj q => hj (rr_sub (hF j q)))
  obtain ⟨⟨fg, lg, qg⟩, vg⟩ := p.kg
  obtain ⟨⟨fh, lh, qh⟩, vh⟩ := p.kh
  refine ⟨p.row.keeps k (no _ (by unfold BK.own; omega)), p.z, ⟨p.f.row.keeps k (no _ (by unfold BK.own; omega)), p.f.z, m, p.f.hk, p.f.ho, p.f.im, p.f.wl, p.f.sl⟩, ⟨⟨fg, ⟨lg.row.keeps k (no _ (by unfold BK.own; omega)), lg.z, lg.ne, ⟨lg.p.row.keeps k (no _ (by unfold BK.own; omega)), lg.p.z, m, lg.p.w1, lg.p.w60, lg.p.hk, lg.p.ho, lg.p.len, lg.p.mr, lg.p.al⟩⟩, qg⟩, vg⟩, ⟨⟨fh, ⟨lh.row.keeps k (no _ (by unfold BK.own; omega)), lh.z, lh.ne, ⟨lh.p.row.keeps k (no _ (by unfold BK.own; omega)), lh.p.z, m, lh.p.w1, lh.p.w60, lh.p.hk, lh.p.ho, lh.p.len, lh.p.mr, lh.p.al⟩⟩, qh⟩, vh⟩, p.nd, p.d1, p.d2, p.d3⟩
theorem RS.below (p : RS w R B fs L S bz G H a b h g) (k : Below w.heap.size w w') : RS w' R B fs L S bz G H a b h g := p.aside (Keeps.of (F := fun _ => False) k) (fun _ q => q.elim)
theorem RS.cells (p : RS w R B fs L S bz G H a b h g) : w.cell? ⟨B.rb, 0, none⟩ = some (at0 B.fb) ∧ w.cell? ⟨B.rb, 1, none⟩ = some (at0 B.gb) ∧ w.cell? ⟨B.rb, 2, none⟩ = some (at0 B.hb) ∧ B.rb < w.heap.size := rtc_all p.row
end
end Go.Proofs.YtppmicepkjhfeaaGreat
