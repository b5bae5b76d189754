/-
  What haymowlaw18.HandlesPlay holds; its token.
-/
import Derived.Test.YtdenhhokckjjaaaGreatHdo
import Derived.Test.YtdenhhokckjjaaaGreatHny
import Derived.Test.YtdenhhokckjjaaaGreatLibG
import Derived.Deep.DeepCutAuto
import Derived.Deep.RegionLaw
import Derived.Deep.RegionHeld3
import Derived.Deep.CutRange
import Derived.BigQuiet
namespace Go.Proofs.YtdenhhokckjjaaaGreat
open Go.RowKit
set_option linter.unusedVariables false

theorem few18 {n : Nat} (h : n ≤ 1000000000) : N128 n := by unfold N128; omega
theorem addv_few18 {x n : Nat} (hx : x + n ≤ 1000000000) : addv x n = x + n := addv_t (by unfold N128; omega)
theorem subv_few18 {x s m : Nat} (h : x ≤ s + m) (hm : m ≤ 1000000) : subv x s ≤ m := by
  unfold subv
  omega
theorem cmp_most18 {x m : Nat} (hx : x ≤ m) (hm : m ≤ 1000000) (w : World) : Calls Tryz.prog 12 #[wv x, .agg #[.int .u64 0, .int .u64 (m : Int)]] w fun e w' => ∃ c : Int, e = .returned (.int .i64 c) ∧ ¬ 0 < c ∧ decide (0 < c) = false ∧ Below w.heap.size w w' := by
  have C := refcmp_any x m (few18 (by omega)) (few18 (by omega)) w
  have e : wv m = .agg #[.int .u64 0, .int .u64 (m : Int)] := by
    unfold wv
    rw [hi_of_lt (by omega), lo_of_lt (by omega)]
  rw [e] at C
  refine C.mono ?_
  rintro e w' ⟨rfl, b⟩
  have hc : ¬ 0 < cmpv x m := by
    unfold cmpv
    split
    · decide
    · rw [if_pos (by omega)]; decide
  exact ⟨_, rfl, hc, decide_eq_false hc, b⟩
section
variable {mm a b : Nat} {w w' : World} {h g : Int}
theorem met_held18 (mr : MRow w mm a b h g) : ∀ w', Below w.heap.size w w' → Calls Tryz.prog 14 #[at0 mm] w' fun y w'' => y = .returned (.int .i64 h) ∧ w' = w'' :=
  fun w' k => held_any mm a b _ g w' (mr.below k)
theorem met_steps18 (mr : MRow w mm a b h g) (hab : a + b ≤ 1000000000) : ∀ w', Below w.heap.size w w' → Calls Tryz.prog 7 #[at0 mm] w' fun y w'' => y = .returned (wv (a + b)) ∧ Below w'.heap.size w' w'' := fun w' k => by
  have C := steps_any mm a b _ g (few18 (by omega)) (few18 (by omega)) w' (mr.below k)
  rw [addv_few18 hab] at C
  exact C
theorem met_since18 {s : Nat} (mr : MRow w mm a b h g) (hab : a + b ≤ 1000000000) (hs : s ≤ 1000000000) : ∀ w', Below w.heap.size w w' → Calls Tryz.prog 13 #[at0 mm, wv s] w' fun y w'' => y = .returned (wv (subv (a + b) s)) ∧ Below w'.heap.size w' w'' := fun w' k => by
  have C := since_any mm a b _ g (few18 (by omega)) (few18 (by omega)) s (few18 hs) w' (mr.below k)
  rw [addv_few18 hab] at C
  exact C
end
/-! ### token -/
set_option maxRecDepth 100000 in
theorem token18_any (v : Value) (T : List Nat) (k a : Int) (b : Bool) (u : Nat) (w : World) (hv : NL pe w v T) (hl : T.length ≤ 1000) :
    Calls Tryz.prog 11 #[v, ov18 k a b u] w fun e w' => ∃ t, e = .returned (.int .i64 t) ∧ Below w.heap.size w w' := by
  obtain ⟨va, vc, rfl, _, _, hva⟩ := hv
  have OR : Row (w.alloc (.cells #[.int .i64 k, .int .i64 a, .bool b, .int .u64 (u : Int)] 46)) w.heap.size 4 (o4 k a b u) := Row.newAt w _ _ w.heap.size 4 _ rfl (o4_new18 k a b u)
  have B1 := bAlloc (Below.refl w.heap.size w) (.cells #[.int .i64 k, .int .i64 a, .bool b, .int .u64 (u : Int)] 46)
  obtain ⟨n, hn⟩ : ∃ n, T.length = n := ⟨_, rfl⟩
  rw [hn] at hva hl ⊢
  cases b with
  | true =>
    go_enter Tryz.func11, Tryz.ntmps11
    go_upto_region 1 with fail
    generalize w.alloc (.cells #[.int .i64 k, .int .i64 a, .bool true, .int .u64 (u : Int)] 46) = w1 at *
    obtain ⟨o0, o1, o2, o3, ol⟩ := o4_all OR
    go_wp2_with fail
    go_ret
    first | exact ⟨_, rfl, B1⟩ | exact ⟨⟨_, rfl⟩, B1⟩
  | false =>
    by_cases h0 : 0 ≤ a
    · by_cases h1 : a < (n : Int)
      · obtain ⟨g, off, rfl, hg, hc⟩ := hva.resolve_left (by omega)
        obtain ⟨i, rfl⟩ : ∃ i : Nat, a = (i : Int) := ⟨a.toNat, by omega⟩
        have q1 := hc i (by omega)
        have q2 : (w.alloc (.cells #[.int .i64 k, .int .i64 (i : Int), .bool false, .int .u64 (u : Int)] 46)).cell? ⟨g, off + i, none⟩ = some (.int .i64 ((T.getD i 0 : Nat) : Int)) := (B1.cell (p := ⟨g, off + i, none⟩) hg).trans q1
        have d0 := decide_eq_true h0
        have d1 := decide_eq_true h1
        clear hc q1 hva hn
        go_enter Tryz.func11, Tryz.ntmps11
        go_upto_region 1 with fail
        generalize w.alloc (.cells #[.int .i64 k, .int .i64 (i : Int), .bool false, .int .u64 (u : Int)] 46) = w1 at *
        obtain ⟨o0, o1, o2, o3, ol⟩ := o4_all OR
        go_wp2_with fail
        go_ret
        first | exact ⟨_, rfl, B1⟩ | exact ⟨⟨_, rfl⟩, B1⟩
      · have d0 := decide_eq_true h0
        have d1 := decide_eq_false h1
        go_enter Tryz.func11, Tryz.ntmps11
        go_upto_region 1 with fail
        generalize w.alloc (.cells #[.int .i64 k, .int .i64 a, .bool false, .int .u64 (u : Int)] 46) = w1 at *
        obtain ⟨o0, o1, o2, o3, ol⟩ := o4_all OR
        go_wp2_with fail
        go_ret
        first | exact ⟨_, rfl, B1⟩ | exact ⟨⟨_, rfl⟩, B1⟩
    · have d0 := decide_eq_false h0
      go_enter Tryz.func11, Tryz.ntmps11
      go_upto_region 1 with fail
      generalize w.alloc (.cells #[.int .i64 k, .int .i64 a, .bool false, .int .u64 (u : Int)] 46) = w1 at *
      obtain ⟨o0, o1, o2, o3, ol⟩ := o4_all OR
      go_wp2_with fail
      go_ret
      first | exact ⟨_, rfl, B1⟩ | exact ⟨⟨_, rfl⟩, B1⟩
section
variable {W0 : World} {D : Nat → Prop} {R R' : Nat → Nat} {hb pb mb mm n rm c : Nat} {v f hl : Value} {H : List (Nat × Nat)} {w w' : World}
/-- Get of the k-th handle -/
theorem PB.geti (s : PB W0 D R hb pb mb mm n rm c v f hl H w) {k : Nat} (hk : k < H.length) :
    Calls Tryz.prog 16 #[at0 hb, .int .i64 (((H.getD k (0, 0)).1 : Nat) : Int)] w fun e w1 => ∃ c', e = .returned (.tuple #[.int .u64 (((H.getD k (0, 0)).2 : Nat) : Int), .int .i64 0]) ∧ TR (rh R pb hb) (rh R pb hb) w w1 ∧ PB W0 D R hb pb mb mm n rm c' v f hl H w1 := by
  obtain ⟨mad, tk, gn, F, C, V, bz, a, b, L, Fr, s, m, e, eh, st, q, dl, dz, dw⟩ := s
  have hk' : k < C.length := by rw [eh, List.length_map] at hk; exact hk
  have at' : H.getD k (0, 0) = (tkn (C.getD k 0) (gn (C.getD k 0)), V (C.getD k 0)) := by rw [eh]; exact map_getD18 (f := fun x => (tkn x (gn x), V x)) hk'
  rw [at']
  refine (s.get (mem_getD18 hk')).mono fun e1' w1 ⟨a', h1, h2, s', t'⟩ => ?_
  obtain ⟨z1, z2, z3, z4⟩ := lists_tr st q dz dl t'
  exact ⟨a' + b, h1, t', mad, tk, gn, F, C, V, bz, a', b, L, Fr, s', m, rfl, eh, z1, z2, z4, z3, dw⟩
theorem PB.told (s : PB W0 D R hb pb mb mm n rm c v f hl H w) (hl' : H.length ≤ 60) :
    Calls Tryz.prog 17 #[at0 hb] w fun e w1 => ∃ v, e = .returned (.tuple #[v, .bool true]) ∧ NL pe w1 v (H.map Prod.fst) ∧ Keeps (fun j => rh R pb hb j ≠ 0) w w1 := by
  obtain ⟨mad, tk, gn, F, C, V, bz, a, b, L, Fr, s, m, e, eh, st, q, dl, dz, dw⟩ := s
  have e1 : H.map Prod.fst = C.map fun x => tkn x (gn x) := by rw [eh, List.map_map]; rfl
  rw [e1]
  exact (told18_ok w s (by rw [eh, List.length_map] at hl'; exact hl')).mono fun e w1 ⟨v, h1, h2, h3⟩ => ⟨v, h1, h2, h3.mono (fun j _ q z => q (rh_sub z))⟩
theorem PB.bel (s : PB W0 D R hb pb mb mm n rm c v f hl H w) : Below W0.heap.size W0 w := by
  obtain ⟨mad, tk, gn, F, C, V, bz, a, b, L, Fr, s, m, e, eh, st, q, dl, dz, dw⟩ := s
  exact s.o.b
theorem PB.dz (s : PB W0 D R hb pb mb mm n rm c v f hl H w) {j : Nat} (h : D j) : rh R pb hb j = 0 ∧ W0.heap.size ≤ j ∧ j < w.heap.size := by
  obtain ⟨mad, tk, gn, F, C, V, bz, a, b, L, Fr, s, m, e, eh, st, q, dl, dz, dw⟩ := s
  exact ⟨dz j h, dw.1 j h, dl j h⟩
/-- a list of one's own beside them -/
theorem io_tr18 {vt : Value} {T : List Nat} (i : IO w (PP18 D R hb pb) vt T) (t : TR (rh R pb hb) (rh R' pb hb) w w') : IO w' (PP18 D R' hb pb) vt T :=
  i.keeps t.keeps (fun j _ h q => q h.1) (fun j hj h => ⟨Decidable.byContradiction fun q => t.old j hj q h.1, h.2⟩)
theorem PB.start (s : HB W0 R hb pb mb mm 0 0 0 (fun _ => false) (fun _ => 0) [] [] (fun _ => 0) false 0 0 w) : PB W0 (fun _ => False) R hb pb mb mm 0 0 0 (.slice none 0 0) (.slice none 0 0) (.slice none 0 0) [] w :=
  ⟨0, _, _, [], [], _, false, 0, 0, [], [], s, DM.start, rfl, rfl, ST.nil _ _, QO18.nil _ _, fun j h => h.elim, fun j h => h.elim, fun j h => h.elim, rfl⟩
end
/-! ### at the head of a round -/
/-- the document's box, a list's own block -/
def DV18 (S6 : Nat) (vt : Value) (j : Nat) : Prop := j = S6 ∨ vt.ownBlock = some j
/-- both, the document's box, a list of one's own -/
def LS18 (W0 : World) (R : Nat → Nat) (hb pb mb mm S6 n rm c : Nat) (v f hl : Value) (H : List (Nat × Nat)) (vt : Value) (T : List Nat) (w : World) : Prop :=
  PB W0 (DV18 S6 vt) R hb pb mb mm n rm c v f hl H w ∧ SRow5 w S6 3 v f (rm : Int) hl ∧ IO w (fun j => rh R pb hb j = 0 ∧ j ≠ S6) vt T
def LI18 (W0 : World) (hb mb mm S6 n : Nat) (vt : Value) (w : World) : Prop :=
  ∃ (pb : Nat) (R : Nat → Nat) (rm c : Nat) (v f hl : Value) (H : List (Nat × Nat)) (T : List Nat), LS18 W0 R hb pb mb mm S6 n rm c v f hl H vt T w ∧ T.length ≤ n ∧ c ≤ n * 1000000
section
variable {W0 : World} {R R' : Nat → Nat} {hb pb mb mm n rm c S6 : Nat} {v f hl vt : Value} {H : List (Nat × Nat)} {T : List Nat} {w w' : World}
theorem LS18.below (s : LS18 W0 R hb pb mb mm S6 n rm c v f hl H vt T w) (k : Below w.heap.size w w') : LS18 W0 R hb pb mb mm S6 n rm c v f hl H vt T w' :=
  ⟨s.1.below k, s.2.1.below k, s.2.2.keeps (Keeps.of (F := fun _ => False) k) (fun _ _ _ h => h) (fun _ _ h => h)⟩
theorem LS18.box (s : LS18 W0 R hb pb mb mm S6 n rm c v f hl H vt T w) : rh R pb hb S6 = 0 ∧ W0.heap.size ≤ S6 ∧ S6 < w.heap.size := s.1.dz (.inl rfl)
theorem LS18.own (s : LS18 W0 R hb pb mb mm S6 n rm c v f hl H vt T w) {j : Nat} (h : vt.ownBlock = some j) : j < w.heap.size ∧ j ≠ S6 ∧ rh R pb hb j = 0 := ⟨(s.2.2.block h).1, (s.2.2.block h).2.2, (s.2.2.block h).2.1⟩
/-- the document's box is written -/
theorem LS18.put {v' f' hl' : Value} {rm' n' c' : Nat} {H' : List (Nat × Nat)} (s : PB W0 (DV18 S6 vt) R' hb pb mb mm n' rm' c' v' f' hl' H' w') (r : SRow5 w' S6 3 v f (rm : Int) hl) (i : IO w' (fun j => rh R' pb hb j = 0 ∧ j ≠ S6) vt T) :
    LS18 W0 R' hb pb mb mm S6 n' rm' c' v' f' hl' H' vt T (((((w'.setCell ⟨S6, 0, none⟩ (.int .i64 3)).setCell ⟨S6, 1, none⟩ v').setCell ⟨S6, 2, none⟩ f').setCell ⟨S6, 3, none⟩ (.int .i64 (rm' : Int))).setCell ⟨S6, 4, none⟩ hl') :=
  ⟨s.aside (keeps518 w' S6 _ v' f' _ hl') (fun j e => .inl e), s5_setA r 3 v' f' (rm' : Int) hl', i.keeps (keeps518 w' S6 _ v' f' _ hl') (fun j _ h e => h.2 e) (fun _ _ h => h)⟩
set_option maxRecDepth 100000 in
/-- a number is appended to the list -/
theorem LS18.push (s : LS18 W0 R hb pb mb mm S6 n rm c v f hl H vt T w) (hn : T.length ≤ 1000) (x : Nat) :
    ∃ g cp w3, (Builtin.append_ #[29, 29] 29 #[vt, .slice (some ⟨w.heap.size, 0, none⟩) 1 1]).run Tryz.prog (w.alloc (.cells #[.int .i64 (x : Int)] 3)) = .ok (.slice (some ⟨g, 0, none⟩) (T.length + 1) cp) w3 ∧ LS18 W0 R hb pb mb mm S6 n rm c v f hl H (.slice (some ⟨g, 0, none⟩) (T.length + 1) cp) (T ++ [x]) w3 ∧ Keeps (fun j => vt.ownBlock = some j) w w3 := by
  have BA := bAlloc (Below.refl w.heap.size w) (.cells #[.int .i64 (x : Int)] 3)
  have s1 := s.below BA
  obtain ⟨g, cp, w3, hr, io3, k3, lies⟩ := s1.2.2.push w.heap.size x (by rw [World.cell?_alloc_new]; rfl) hn
  have zA := BA.size
  have own : ∀ j, vt.ownBlock = some j → j ≠ S6 ∧ rh R pb hb j = 0 := fun j e => (s.own e).2
  have b6 := s.box
  have gz : rh R pb hb g = 0 ∧ g ≠ S6 ∧ W0.heap.size ≤ g := by
    rcases lies with e | e
    · exact ⟨(own g e).2, (own g e).1, (s.1.dz (.inr e)).2.1⟩
    · have := s.1.fresh (j := g) (by omega)
      exact ⟨this.1, by omega, this.2.1⟩
  have lg := (io3.block (g := g) rfl).1
  have p3 := s1.1.aside k3 (fun j e => .inr e)
  refine ⟨g, cp, w3, hr, ⟨?_, s1.2.1.keeps k3 (fun e => (own _ e).1 rfl), io3.to (fun j e q => ?_)⟩, (Keeps.of (F := fun j => vt.ownBlock = some j) BA).trans k3 (fun _ _ q => q)⟩
  · obtain ⟨mad, tk, gn, F, C, V, bz, a, b, L, Fr, s', m, e, eh, st, q, dl, dz, dw⟩ := p3
    have hD : ∀ j, DV18 S6 (.slice (some ⟨g, 0, none⟩) (T.length + 1) cp) j → j = S6 ∨ j = g := fun j h => h.elim .inl (fun h => .inr (by injection h with h; exact h.symm))
    have neg : ∀ j, j < w.heap.size → PP18 (DV18 S6 vt) R hb pb j → PP18 (DV18 S6 (.slice (some ⟨g, 0, none⟩) (T.length + 1) cp)) R hb pb j := fun j hj h => ⟨h.1, fun q => by
      rcases hD j q with e | e
      · exact h.2 (.inl e)
      · rcases lies with l | l
        · exact h.2 (.inr (e ▸ l))
        · omega⟩
    obtain ⟨mad0, tk0, gn0, F0, C0, V0, bz0, a0, b0, L0, Fr0, s0, m0, e0, eh0, st0, q0, dl0, dz0, dw0⟩ := s.1
    have KW : Keeps (fun j => vt.ownBlock = some j) w w3 := (Keeps.of (F := fun j => vt.ownBlock = some j) BA).trans k3 (fun _ _ q => q)
    exact ⟨mad0, tk0, gn0, F0, C0, V0, bz0, a0, b0, L0, Fr0, s0.aside KW (fun j h => ⟨(own j h).2, (s.1.dz (.inr h)).2.1⟩), m0, e0, eh0, st0.keeps KW (fun j _ h z => h.2 (.inr z)) neg, q0.keeps KW (fun j _ h z => h.2 (.inr z)) neg, fun j h => by
      rcases hD j h with e | e
      · rw [e]; exact Nat.lt_of_lt_of_le b6.2.2 KW.size
      · rw [e]; exact lg, fun j h => by
      rcases hD j h with e | e
      · rw [e]; exact b6.1
      · rw [e]; exact gz.1, fun j h => by
      rcases hD j h with e | e
      · rw [e]; exact b6.2.1
      · rw [e]; exact gz.2.2, dw0.2⟩
  · injection e with e
    subst e
    exact ⟨gz.1, gz.2.1⟩
/-- in the midst of a round: q the box of the steps ahead of it -/
def LM18 (W0 : World) (hb mb mm S6 n q c0 : Nat) (vt vm : Value) (w : World) : Prop :=
  ∃ (pb : Nat) (R : Nat → Nat) (rm c : Nat) (v f hl : Value) (H : List (Nat × Nat)) (T : List Nat) (most : Nat), vm = .int .u64 (most : Int) ∧ LS18 W0 R hb pb mb mm S6 n rm c v f hl H vt T w ∧ T.length ≤ n ∧ WRow w q c0 ∧ c ≤ c0 + most ∧ most ≤ 1000000
end
end Go.Proofs.YtdenhhokckjjaaaGreat
