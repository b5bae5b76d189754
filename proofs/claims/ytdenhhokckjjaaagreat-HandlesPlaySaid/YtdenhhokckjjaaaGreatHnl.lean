/-
  What the laws of layer 18 hold of handles of their own; haymowlaw18.made, awake.
-/
import Derived.Test.YtdenhhokckjjaaaGreatHnc
namespace Go.Proofs.YtdenhhokckjjaaaGreat
open Go.RowKit
set_option linter.unusedVariables false

abbrev hone (ws : List Nat) : List Spc := [(true, ws)]
theorem hone_wds (ws : List Nat) : wds (hone ws) 0 = ws := rfl
theorem hone_setw (ws us : List Nat) : setw (hone ws) 0 us = hone us := by unfold setw; rfl
theorem hroom {rm mad : Nat} (mr : mad ≤ rm) (hr : rm ≤ 100000) : roomh ((4 * rm : Nat) : Int) 3 rm mad = ((4 * room2 rm mad : Nat) : Int) := by
  unfold roomh room2
  by_cases c : mad < rm
  · rw [if_pos c, if_pos c]
  · rw [if_neg c, if_neg c]
    have e : rm ≤ nroom rm := by unfold nroom; omega
    have e2 : nroom rm ≤ 200008 := by unfold nroom; omega
    unfold holdh
    rw [if_pos (by omega)]
    omega
/-- handles of the law's own, behind n calls: the entries C in order, what each holds (V) -/
structure HB (W0 : World) (R : Nat → Nat) (hb pb mb mm n rm mad : Nat) (tk : Nat → Bool) (gn : Nat → Nat) (F C : List Nat) (V : Nat → Nat) (bz : Bool) (a b : Nat) (w : World) : Prop where
  x : ∃ ws fre g, HM w R hb pb mb mm 0 (hone ws) rm C.length mad fre a b ((4 * rm : Nat) : Int) g C bz ∧ HQ ws mad fre tk gn F C ∧ ∀ y, y ∈ C → lw ws 4 y 1 = V y
  o : Own W0 R w
  lp : W0.heap.size ≤ pb
  lh : W0.heap.size ≤ hb
  gg : ∀ x, gn x ≤ n
  hm : mad ≤ n
  hr : rm ≤ 2 * n + 8
  hn : n ≤ 900
section
variable {W0 : World} {R : Nat → Nat} {hb pb mb mm n rm mad : Nat} {tk : Nat → Bool} {gn : Nat → Nat} {F C : List Nat} {V : Nat → Nat} {bz : Bool} {a b : Nat} {w w' : World}
theorem HB.below (s : HB W0 R hb pb mb mm n rm mad tk gn F C V bz a b w) (k : Below w.heap.size w w') : HB W0 R hb pb mb mm n rm mad tk gn F C V bz a b w' := by
  obtain ⟨⟨ws, fre, g, l, q, v⟩, o, lp, lh, gg, hm, hr, hn⟩ := s
  exact ⟨⟨ws, fre, g, l.below k, q, v⟩, o.below k, lp, lh, gg, hm, hr, hn⟩
theorem HB.drew (s : HB W0 R hb pb mb mm n rm mad tk gn F C V bz a b w) : HB W0 R hb pb mb mm n rm mad tk gn F C V bz a b w.drew := s.below (Below.refl _ _).drew
theorem HB.since {w1 : World} (k : Below W0.heap.size W0 w1) (s : HB w1 R hb pb mb mm n rm mad tk gn F C V bz a b w) : HB W0 R hb pb mb mm n rm mad tk gn F C V bz a b w :=
  ⟨s.x, ⟨fun j hj => Nat.le_trans k.size (s.o.lo j hj), k.trans (s.o.b.mono k.size)⟩, Nat.le_trans k.size s.lp, Nat.le_trans k.size s.lh, s.gg, s.hm, s.hr, s.hn⟩
theorem HB.up (s : HB W0 R hb pb mb mm n rm mad tk gn F C V bz a b w) (h : n < 900) : HB W0 R hb pb mb mm (n + 1) rm mad tk gn F C V bz a b w :=
  ⟨s.x, s.o, s.lp, s.lh, fun x => Nat.le_succ_of_le (s.gg x), Nat.le_succ_of_le s.hm, by have := s.hr; omega, h⟩
theorem HB.g9 (s : HB W0 R hb pb mb mm n rm mad tk gn F C V bz a b w) (x : Nat) : gn x ≤ 1000000000 := by have := s.gg x; have := s.hn; omega
theorem HB.c (s : HB W0 R hb pb mb mm n rm mad tk gn F C V bz a b w) : C.length ≤ mad ∧ C.Nodup ∧ (∀ x, x ∈ C → 1 ≤ x ∧ x ≤ mad ∧ tk x = true) ∧ ∀ x, 1 ≤ x → x ≤ mad → tk x = true → x ∈ C := by
  obtain ⟨⟨ws, fre, g, l, q, v⟩, _⟩ := s
  exact ⟨q.len.1, q.ch.nd, q.us, q.cv⟩
theorem HB.vb (s : HB W0 R hb pb mb mm n rm mad tk gn F C V bz a b w) {x : Nat} (h : x ∈ C) : V x < 18446744073709551616 := by
  obtain ⟨⟨ws, fre, g, l, q, v⟩, _⟩ := s
  rw [← v x h]
  exact l.p.al _
theorem HB.dist (s : HB W0 R hb pb mb mm n rm mad tk gn F C V bz a b w) : R hb = 0 ∧ R pb = 0 ∧ hb ≠ pb ∧ hb < w.heap.size ∧ pb < w.heap.size ∧ ∀ j, R j ≠ 0 → j < w.heap.size := by
  obtain ⟨⟨ws, fre, g, l, q, v⟩, _⟩ := s
  exact ⟨l.z, l.p.z, l.ne, l.row.lt, l.p.row.lt, l.p.m.hi⟩
theorem rh_of {R : Nat → Nat} {pb hb j : Nat} (h : rh R pb hb j ≠ 0) : j = hb ∨ j = pb ∨ R j ≠ 0 := by
  rcases rp_of h with e | e
  · exact .inl e
  · rcases rp_of e with e | e
    · exact .inr (.inl e)
    · exact .inr (.inr e)
theorem rh_at1 (R : Nat → Nat) (pb hb : Nat) : rh R pb hb hb ≠ 0 := rp_at _ _
theorem rh_at2 (R : Nat → Nat) (pb hb : Nat) : rh R pb hb pb ≠ 0 := by
  unfold rh rp
  split
  · decide
  · rw [if_pos rfl]; decide
theorem rh_sub {R : Nat → Nat} {pb hb j : Nat} (h : rh R pb hb j = 0) : R j = 0 := rp_sub (rp_sub h)
theorem HB.aside (s : HB W0 R hb pb mb mm n rm mad tk gn F C V bz a b w) {G : Nat → Prop} (k : Keeps G w w') (hG : ∀ j, G j → rh R pb hb j = 0 ∧ W0.heap.size ≤ j) : HB W0 R hb pb mb mm n rm mad tk gn F C V bz a b w' := by
  obtain ⟨⟨ws, fre, g, l, q, v⟩, o, lp, lh, gg, hm, hr, hn⟩ := s
  exact ⟨⟨ws, fre, g, ⟨l.row.keeps k (fun q => rh_at1 R pb hb (hG hb q).1), l.z, l.ne, ⟨l.p.row.keeps k (fun q => rh_at2 R pb hb (hG pb q).1), l.p.z, l.p.m.aside k (fun j hj q => hj (rh_sub (hG j q).1)), l.p.w1, l.p.w60, l.p.hk, l.p.ho, l.p.len, l.p.mr, l.p.al⟩⟩, q, v⟩, ⟨o.lo, o.b.trans (k.below o.b.size (fun j hj => (hG j hj).2))⟩, lp, lh, gg, hm, hr, hn⟩
theorem HB.hi (s : HB W0 R hb pb mb mm n rm mad tk gn F C V bz a b w) {j : Nat} (h : rh R pb hb j ≠ 0) : j < w.heap.size := by
  obtain ⟨_, _, _, h1, h2, h3⟩ := s.dist
  rcases rh_of h with e | e | e
  · rw [e]; exact h1
  · rw [e]; exact h2
  · exact h3 j e
theorem HB.fresh (s : HB W0 R hb pb mb mm n rm mad tk gn F C V bz a b w) {j : Nat} (hj : w.heap.size ≤ j) : rh R pb hb j = 0 ∧ W0.heap.size ≤ j :=
  ⟨Decidable.byContradiction fun q => by have := s.hi q; omega, Nat.le_trans s.o.b.size hj⟩
theorem HB.low (s : HB W0 R hb pb mb mm n rm mad tk gn F C V bz a b w) {j : Nat} (h : rh R pb hb j ≠ 0) : W0.heap.size ≤ j := by
  rcases rh_of h with e | e | e
  · rw [e]; exact s.lh
  · rw [e]; exact s.lp
  · exact s.o.lo j e
theorem own_rh {R' : Nat → Nat} (o : Own W0 R w) (lp : W0.heap.size ≤ pb) (lh : W0.heap.size ≤ hb) (z : R hb = 0) (zp : R pb = 0) (z' : R' hb = 0) (zp' : R' pb = 0) (hh : hb < w.heap.size) (hp : pb < w.heap.size) (ne : hb ≠ pb) (t : TR (rh R pb hb) (rh R' pb hb) w w') : Own W0 R' w' := by
  refine ⟨fun j hj => ?_, o.b.trans (t.keeps.below o.b.size fun j q => ?_)⟩
  · by_cases c : j < w.heap.size
    · by_cases c1 : rh R pb hb j = 0
      · have : rh R' pb hb j ≠ 0 := fun e => hj (rh_sub e)
        exact absurd c1 (t.old j c this)
      · rcases rh_of c1 with e | e | e
        · rw [e] at hj; exact absurd z' hj
        · rw [e] at hj; exact absurd zp' hj
        · exact o.lo j e
    · exact Nat.le_trans o.b.size (Nat.le_of_not_lt c)
  · rcases rh_of q with e | e | e
    · rw [e]; exact lh
    · rw [e]; exact lp
    · exact o.lo j e
theorem HB.count (s : HB W0 R hb pb mb mm n rm mad tk gn F C V bz a b w) : Calls Tryz.prog 15 #[at0 hb] w fun e w' => e = .returned (.int .i64 (C.length : Int)) ∧ w = w' := by
  obtain ⟨⟨ws, fre, g, l, q, v⟩, _⟩ := s
  exact hcount_any w l
/-- the Mem's meter -/
theorem HB.met (s : HB W0 R hb pb mb mm n rm mad tk gn F C V bz a b w) : w.cell? ⟨mb, 0, none⟩ = some (at0 mm) ∧ ∃ g, MRow w mm a b ((4 * rm : Nat) : Int) g := by
  obtain ⟨⟨ws, fre, g, l, q, v⟩, _⟩ := s
  exact ⟨l.p.m.all.1, g, l.p.m.all.2⟩
theorem HB.get (s : HB W0 R hb pb mb mm n rm mad tk gn F C V bz a b w) {x : Nat} (hx : x ∈ C) : Calls Tryz.prog 16 #[at0 hb, .int .i64 ((tkn x (gn x) : Nat) : Int)] w fun e w' => ∃ a', e = .returned (.tuple #[.int .u64 ((V x : Nat) : Int), .int .i64 0]) ∧ a' ≤ a + 4 ∧ HB W0 R hb pb mb mm n rm mad tk gn F C V bz a' b w' ∧ TR (rh R pb hb) (rh R pb hb) w w' := by
  have g9 := s.g9 x
  obtain ⟨⟨ws, fre, g, l, q, v⟩, o, lp, lh, gg, hm, hr, hn⟩ := s
  have C := hget_ok (by rw [hone_wds]; exact q) x hx g9 w l
  rw [hone_wds, v x hx] at C
  exact C.mono fun e w' ⟨a', e1, la, l', t⟩ => ⟨a', e1, la, ⟨⟨ws, fre, g, l', q, v⟩, o.step t, lp, lh, gg, hm, hr, hn⟩, t.wh pb hb⟩
theorem HB.get_no (s : HB W0 R hb pb mb mm n rm mad tk gn F C V bz a b w) {t : Int} (hno : ∀ x, x ∈ C → t ≠ ((tkn x (gn x) : Nat) : Int)) : Calls Tryz.prog 16 #[at0 hb, .int .i64 t] w fun e w' => ∃ a', e = .returned (.tuple #[.int .u64 0, .int .i64 30]) ∧ a' ≤ a + 2 ∧ HB W0 R hb pb mb mm n rm mad tk gn F C V bz a' b w' ∧ TR (rh R pb hb) (rh R pb hb) w w' := by
  have g9 := s.g9
  obtain ⟨⟨ws, fre, g, l, q, v⟩, o, lp, lh, gg, hm, hr, hn⟩ := s
  exact (hget_no (by rw [hone_wds]; exact q) t hno g9 w l).mono fun e w' ⟨a', e1, la, l', t⟩ => ⟨a', e1, la, ⟨⟨ws, fre, g, l', q, v⟩, o.step t, lp, lh, gg, hm, hr, hn⟩, t.wh pb hb⟩
theorem HB.set (s : HB W0 R hb pb mb mm n rm mad tk gn F C V bz a b w) {x r : Nat} (hx : x ∈ C) (hr9 : r < 18446744073709551616) : Calls Tryz.prog 32 #[at0 hb, .int .i64 ((tkn x (gn x) : Nat) : Int), .int .u64 (r : Int)] w fun e w' => ∃ a' b', e = .returned (.int .i64 0) ∧ a' + b' ≤ a + b + 4 ∧ HB W0 R hb pb mb mm n rm mad tk gn F C (upd V x r) bz a' b' w' ∧ TR (rh R pb hb) (rh R pb hb) w w' := by
  have g9 := s.g9 x
  obtain ⟨⟨ws, fre, g, l, q, v⟩, o, lp, lh, gg, hm, hr, hn⟩ := s
  have C := hset_ok (by rw [hone_wds]; exact q) x r hr9 hx g9 w l
  rw [hone_wds, hone_setw] at C
  obtain ⟨q', v'⟩ := q.set (v := r) hx
  exact C.mono fun e w' ⟨a', b', e1, la, l', t⟩ => ⟨a', b', e1, la, ⟨⟨_, fre, g, l', q', fun y hy => by rw [v' y hy]; unfold upd; split; rfl; exact v y hy⟩, o.step t, lp, lh, gg, hm, hr, hn⟩, t.wh pb hb⟩
theorem HB.set_no (s : HB W0 R hb pb mb mm n rm mad tk gn F C V bz a b w) {t : Int} (r : Int) (hno : ∀ x, x ∈ C → t ≠ ((tkn x (gn x) : Nat) : Int)) : Calls Tryz.prog 32 #[at0 hb, .int .i64 t, .int .u64 r] w fun e w' => ∃ a', e = .returned (.int .i64 30) ∧ a' ≤ a + 2 ∧ HB W0 R hb pb mb mm n rm mad tk gn F C V bz a' b w' ∧ TR (rh R pb hb) (rh R pb hb) w w' := by
  have g9 := s.g9
  obtain ⟨⟨ws, fre, g, l, q, v⟩, o, lp, lh, gg, hm, hr, hn⟩ := s
  exact (hset_no (by rw [hone_wds]; exact q) t r hno g9 w l).mono fun e w' ⟨a', e1, la, l', t⟩ => ⟨a', e1, la, ⟨⟨ws, fre, g, l', q, v⟩, o.step t, lp, lh, gg, hm, hr, hn⟩, t.wh pb hb⟩
theorem HB.drop_no (s : HB W0 R hb pb mb mm n rm mad tk gn F C V bz a b w) {t : Int} (hno : ∀ x, x ∈ C → t ≠ ((tkn x (gn x) : Nat) : Int)) : Calls Tryz.prog 19 #[at0 hb, .int .i64 t] w fun e w' => ∃ a', e = .returned (.int .i64 30) ∧ a' ≤ a + 2 ∧ HB W0 R hb pb mb mm n rm mad tk gn F C V bz a' b w' ∧ TR (rh R pb hb) (rh R pb hb) w w' := by
  have g9 := s.g9
  obtain ⟨⟨ws, fre, g, l, q, v⟩, o, lp, lh, gg, hm, hr, hn⟩ := s
  exact (hdrop_no (by rw [hone_wds]; exact q) t hno g9 w l).mono fun e w' ⟨a', e1, la, l', t⟩ => ⟨a', e1, la, ⟨⟨ws, fre, g, l', q, v⟩, o.step t, lp, lh, gg, hm, hr, hn⟩, t.wh pb hb⟩
theorem HB.drop (s : HB W0 R hb pb mb mm n rm mad tk gn F C V bz a b w) (h9 : n < 900) {i : Nat} (hi : i < C.length) : Calls Tryz.prog 19 #[at0 hb, .int .i64 ((tkn (C.getD i 0) (gn (C.getD i 0)) : Nat) : Int)] w fun e w' => ∃ a' b', e = .returned (.int .i64 0) ∧ a' + b' ≤ a + b + 9 ∧ HB W0 R hb pb mb mm (n + 1) rm mad (upd tk (C.getD i 0) false) (upd gn (C.getD i 0) (gn (C.getD i 0) + 1)) (C.getD i 0 :: F) (C.eraseIdx i) V bz a' b' w' ∧ TR (rh R pb hb) (rh R pb hb) w w' := by
  have g9 := s.gg (C.getD i 0)
  obtain ⟨⟨ws, fre, g, l, q, v⟩, o, lp, lh, gg, hm, hr, hn⟩ := s
  have cl := q.len
  have CC := hdrop_ok (by rw [hone_wds]; exact q) i hi (by omega) (by omega) (by omega) w l
  rw [hone_wds, hone_setw] at CC
  obtain ⟨_, q', v'⟩ := q.drop hi
  refine CC.mono fun e w' ⟨a', b', e1, la, l', t⟩ => ⟨a', b', e1, la, ⟨⟨_, _, g, ?_, q', fun y hy => by rw [v' y hy]; exact v y ((hmem_erase q.ch.nd hi y).1 hy).1⟩, own_rh o lp lh l.z l.p.z l'.z l'.p.z l.row.lt l.p.row.lt l.ne t, lp, lh, fun x => ?_, by omega, by omega, h9⟩, t⟩
  · rw [erase_len hi]; exact l'
  · unfold upd; split
    · omega
    · exact Nat.le_succ_of_le (gg x)
/-- what Add takes -/
structure HT (n rm mad : Nat) (tk : Nat → Bool) (gn : Nat → Nat) (F C : List Nat) (id rm' mad' : Nat) (gn' : Nat → Nat) (F' : List Nat) : Prop where
  i1 : 1 ≤ id
  i2 : id ≤ mad'
  m1 : mad ≤ mad'
  nt : id ≤ mad → tk id = false
  nC : id ∉ C
  gs : ∀ x, x ≤ mad → gn' x = gn x
  alt : (F = [] ∧ id = mad + 1 ∧ mad' = mad + 1 ∧ rm' = room2 rm mad ∧ F' = [] ∧ gn' = upd gn (mad + 1) 0 ∨ F = id :: F' ∧ mad' = mad ∧ rm' = rm ∧ gn' = gn)
theorem HB.add (s : HB W0 R hb pb mb mm n rm mad tk gn F C V bz a b w) (h9 : n < 900) {r : Nat} (hr9 : r < 18446744073709551616) :
    ∃ id rm' mad' gn' F', HT n rm mad tk gn F C id rm' mad' gn' F' ∧ Calls Tryz.prog 8 #[at0 hb, .int .u64 (r : Int)] w fun e w' => ∃ R' a' b', e = .returned (.tuple #[.int .i64 ((tkn id (gn' id) : Nat) : Int), .int .i64 0]) ∧ a' + b' ≤ a + b + 11 ∧ HB W0 R' hb pb mb mm (n + 1) rm' mad' (upd tk id true) gn' F' (C ++ [id]) (upd V id r) bz a' b' w' ∧ TR (rh R pb hb) (rh R' pb hb) w w' := by
  have g9 := s.g9
  obtain ⟨⟨ws, fre, g, l, q, v⟩, o, lp, lh, gg, hm, hr, hn⟩ := s
  have cl := q.len
  have mr := l.p.mr
  obtain ⟨id, rm', mad', fre', ws', gn', F', h', T, alt, q', nC, old, new, len', mr', CC⟩ := hadd_ok (hb := hb) (pb := pb) (mb := mb) (mm := mm) (ps := 0) (L := hone ws) (rm := rm) (cnt := C.length) (a := a) (b := b) (h := ((4 * rm : Nat) : Int)) (g := g) (C := C) (bz := bz) (R := R) (by rw [hone_wds]; exact q) r hr9 (by omega) (by omega) (by omega) g9 l.p.hk l.p.len mr
  refine ⟨id, rm', mad', gn', F', ⟨T.i1, T.i2, T.md.1, T.nt, nC, T.gs, alt.elim (fun z => .inl ⟨z.1, z.2.1, z.2.2.1, z.2.2.2.1, z.2.2.2.2.2.1, z.2.2.2.2.2.2⟩) (fun z => .inr ⟨z.1, z.2.1, z.2.2.1, z.2.2.2.2⟩)⟩, (CC w l).mono fun e w' ⟨R', a', b', g', e1, la, l', t⟩ => ⟨R', a', b', e1, la, ?_, t⟩⟩
  have eh : h' = ((4 * rm' : Nat) : Int) := by
    rcases alt with ⟨_, _, _, e2, e3, _⟩ | ⟨_, _, e2, e3, _⟩
    · rw [e3, e2]; exact hroom mr (by omega)
    · rw [e3, e2]
  have er : rm' ≤ 2 * (n + 1) + 8 := by
    rcases alt with ⟨_, _, _, e2, _⟩ | ⟨_, _, e2, _⟩
    · rw [e2]; unfold room2 nroom; split <;> omega
    · omega
  rw [hone_setw, eh] at l'
  refine ⟨⟨_, fre', g', ?_, q', fun y hy => ?_⟩, own_rh o lp lh l.z l.p.z l'.z l'.p.z l.row.lt l.p.row.lt l.ne t, lp, lh, fun x => Nat.le_succ_of_le (T.gb n gg x), by have := T.md.2; omega, er, h9⟩
  · rw [List.length_append, List.length_singleton]; exact l'
  · rcases List.mem_append.1 hy with z | z
    · rw [old y z, hone_wds, upd_ne _ _ (show y ≠ id from fun e => nC (e ▸ z)), v y z]
    · rw [List.mem_singleton.1 z, new, upd_at]
end
theorem handles_neq_nil (a : Addr) (w : World) : (binOp .neq 25 (.pointer (some a)) (.pointer none)).run Tryz.prog w = .ok (.bool true) w := by kernel_rfl
theorem handles_neq_none (w : World) : (binOp .neq 25 (.pointer none) (.pointer none)).run Tryz.prog w = .ok (.bool false) w := by kernel_rfl
theorem opened_none18 (n : Nat) : opened [] n = hone (List.replicate n 0) := by unfold opened; rw [show firstc [] = 0 from firstc_eq [] 0 (fun j hj => by omega) (.inl rfl)]; rfl
theorem firstc_nil18 : firstc [] = 0 := firstc_eq [] 0 (fun j hj => by omega) (.inl rfl)
theorem hnew_one (mb mm : Nat) (R : Nat → Nat) (w : World) (m : MM w R mb mm [] 0 0 0 0) : Calls Tryz.prog 21 #[at0 mb] w fun e w' => ∃ R' hb pb, e = .returned (.tuple #[at0 hb, .int .i64 0]) ∧ (∃ g, HM w' R' hb pb mb mm 0 (hone []) 0 0 0 0 0 0 0 g [] false) ∧ w.heap.size ≤ pb ∧ w.heap.size ≤ hb ∧ TR R R' w w' := by
  have C := hnew_at mb mm R [] 0 0 0 0 (by unfold countv; omega) w m
  rw [firstc_nil18, opened_none18] at C
  exact C.mono fun e v ⟨R', pb, hb, g, e1, p, l, l2, t⟩ => ⟨R', hb, pb, e1, ⟨_, p⟩, l, l2, t⟩
set_option maxRecDepth 100000 in
theorem made18_ok (w : World) : Calls Tryz.prog 5 #[] w fun e w' => ∃ mb mm R hb pb, e = .returned (.tuple #[at0 mb, at0 hb, .bool true]) ∧ HB w R hb pb mb mm 0 0 0 (fun _ => false) (fun _ => 0) [] [] (fun _ => 0) false 0 0 w' := by
  have NW := Lib.hid (fun w => mnew_any w)
  have PN := Lib.hid (fun mb mm R w m => hnew_one mb mm R w m)
  have q0 := fun w a => ptr_nil a w
  have q1 := fun w a => handles_neq_nil a w
  go_enter Tryz.func5, Tryz.ntmps5
  go_wp2_with fail
  with_reducible refine (NW.out _).mono ?_
  rintro e w1 ⟨mb, mm, R, rfl, M1, lo1, b1⟩
  dsimp only
  go_wp2_with fail
  with_reducible refine (PN.out mb mm R _ M1).mono ?_
  rintro e w2 ⟨R2, hb, pb, rfl, ⟨g, P2⟩, lp, lh, T2⟩
  dsimp only
  have O1 : Own w R w1 := ⟨lo1, b1⟩
  have S2 := Lib.hid (show HB w R2 hb pb mb mm 0 0 0 (fun _ => false) (fun _ => 0) [] [] (fun _ => 0) false 0 0 w2 from ⟨⟨[], 0, g, P2, HQ.start _ _, fun y hy => by simp at hy⟩, O1.step T2, Nat.le_trans b1.size lp, Nat.le_trans b1.size lh, fun _ => Nat.le_refl _, Nat.le_refl _, by omega, by omega⟩)
  clear O1 M1 T2 P2
  go_wp2_with fail
  exact bodyPost_ret (v := .tuple #[at0 mb, at0 hb, .bool true]) (by simp [results, Tryz.results5, go_sem]) rfl ⟨mb, mm, R2, hb, rfl, pb, S2.out⟩
theorem tkn10 : tkn 1 0 = 0 ∧ tkn 2 0 = 1 ∧ tkn 1 1 = 1048576 := by unfold tkn; decide
set_option maxRecDepth 100000 in
set_option maxHeartbeats 4000000 in
theorem awake18_any (w : World) : Calls Tryz.prog 4 #[] w fun e w' => e = .returned (.bool true) ∧ Below w.heap.size w w' := by
  obtain ⟨n0, n1, n2⟩ := tkn10
  have MD := Lib.hid (fun w => made18_ok w)
  go_enter Tryz.func4, Tryz.ntmps4
  go_wp2_with fail
  refine (MD.out _).mono ?_
  rintro e w1 ⟨mb, mm, R, hb, pb, rfl, S1⟩
  dsimp only
  obtain ⟨id1, rm1, mad1, gn1, F1, T1, C1⟩ := S1.add (r := 3) (by omega) (by omega)
  obtain ⟨_, rfl, rfl, rfl, rfl, rfl⟩ := T1.alt.resolve_right (fun q => nomatch q.1)
  rw [show ((3 : Nat) : Int) = 3 from rfl, upd_at, n0, List.nil_append] at C1
  have C1 := Lib.hid C1
  clear S1 T1
  go_wp2_with fail
  refine C1.out.mono ?_
  rintro e w2 ⟨R2, a2, b2, rfl, _, S2, _⟩
  dsimp only
  obtain ⟨id2, rm2, mad2, gn2, F2, T2, C2⟩ := S2.add (r := 5) (by omega) (by omega)
  obtain ⟨_, rfl, rfl, rfl, rfl, rfl⟩ := T2.alt.resolve_right (fun q => nomatch q.1)
  rw [show ((5 : Nat) : Int) = 5 from rfl, upd_at, n1] at C2
  have C2 := Lib.hid C2
  clear S2 T2 C1
  go_wp2_with fail
  refine C2.out.mono ?_
  rintro e w3 ⟨R3, a3, b3, rfl, _, S3, _⟩
  dsimp only
  have C3 := S3.drop (by omega) (i := 0) (by decide)
  have e10 : List.getD (([0 + 1] ++ [0 + 1 + 1] : List Nat)) 0 0 = 1 := rfl
  rw [e10, show upd (upd (fun _ : Nat => (0 : Nat)) (0 + 1) 0) (0 + 1 + 1) 0 1 = 0 from rfl, n0] at C3
  have C3 := Lib.hid C3
  clear S3 C2
  go_wp2_with fail
  refine C3.out.mono ?_
  rintro e w4 ⟨a4, b4, rfl, _, S4, _⟩
  dsimp only
  obtain ⟨id5, rm5, mad5, gn5, F5, T5, C5⟩ := S4.add (r := 7) (by omega) (by omega)
  obtain ⟨e5, rfl, rfl, rfl⟩ := T5.alt.resolve_left (fun q => nomatch q.1)
  obtain ⟨rfl, rfl⟩ := List.cons.inj e5
  rw [show ((7 : Nat) : Int) = 7 from rfl, upd_at, n2] at C5
  have C5 := Lib.hid C5
  clear S4 T5 C3 e5
  go_wp2_with fail
  refine C5.out.mono ?_
  rintro e w5 ⟨R5, a5, b5, rfl, _, S5, _⟩
  dsimp only
  have C6 := Lib.hid (show Calls Tryz.prog 16 #[at0 hb, .int .i64 0] w5 _ from S5.get_no (t := 0) (fun x hx => by
    rcases (show x = 2 ∨ x = 1 by simpa using hx) with rfl | rfl
    · rw [show upd (upd (upd (fun _ : Nat => (0 : Nat)) (0 + 1) 0) (0 + 1 + 1) 0) 1 (0 + 1) 2 = 0 from rfl, n1]; decide
    · rw [upd_at, n2]; decide))
  have B5 := Lib.hid S5.o.b
  clear S5 C5
  go_wp2_with fail
  refine C6.out.mono ?_
  rintro e w6 ⟨a6, rfl, _, S6, _⟩
  dsimp only
  have B6 := Lib.hid S6.o.b
  clear S6 C6 B5
  go_wp2_with fail
  go_ret
  exact ⟨rfl, B6.out⟩
end Go.Proofs.YtdenhhokckjjaaaGreat
