/-
  Handles and Roots of a law's own behind n calls: every call as a step of all of it.
-/
import Derived.Test.YtppmicepkjhfeaaGreatRtb
namespace Go.Proofs.YtppmicepkjhfeaaGreat
open Go.RowKit
set_option linter.unusedVariables false

/-! ### handles, in any space -/
abbrev HS.set (s : HS) (x v : Nat) : HS := { s with V := upd s.V x v }
abbrev HS.drop (s : HS) (i : Nat) : HS := { s with tk := upd s.tk (s.C.getD i 0) false, gn := upd s.gn (s.C.getD i 0) (s.gn (s.C.getD i 0) + 1), F := s.C.getD i 0 :: s.F, C := s.C.eraseIdx i }
abbrev HS.add (s : HS) (id rm' mad' : Nat) (gn' : Nat → Nat) (F' : List Nat) (r : Nat) : HS := { s with rm := rm', mad := mad', tk := upd s.tk id true, gn := gn', F := F', C := s.C ++ [id], V := upd s.V id r }
abbrev HS.none (ps : Nat) : HS := ⟨ps, 0, 0, fun _ => false, fun _ => 0, [], [], fun _ => 0, false⟩
/-- nobody has the token t -/
abbrev HS.no (s : HS) (t : Int) : Prop := ∀ x, x ∈ s.C → t ≠ ((s.t x : Nat) : Int)
/-- what Add takes -/
structure HT (s : HS) (id rm' mad' : Nat) (gn' : Nat → Nat) (F' : List Nat) : Prop where
  i1 : 1 ≤ id
  i2 : id ≤ mad'
  m1 : s.mad ≤ mad' ∧ mad' ≤ s.mad + 1
  nt : id ≤ s.mad → s.tk id = false
  nC : id ∉ s.C
  gs : ∀ x, x ≤ s.mad → gn' x = s.gn x
  gb : ∀ n, (∀ x, s.gn x ≤ n) → ∀ x, gn' x ≤ n
  alt : (s.F = [] ∧ id = s.mad + 1 ∧ mad' = s.mad + 1 ∧ rm' = room2 s.rm s.mad ∧ F' = [] ∧ gn' = upd s.gn (s.mad + 1) 0 ∨ s.F = id :: F' ∧ mad' = s.mad ∧ rm' = s.rm ∧ gn' = s.gn)
/-- how many calls there were -/
structure HL (s : HS) (n : Nat) : Prop where
  gg : ∀ x, s.gn x ≤ n
  hm : s.mad ≤ n
  hr : s.rm ≤ 2 * n + 8
theorem HL.up {s : HS} {n : Nat} (h : HL s n) : HL s (n + 1) := ⟨fun x => Nat.le_succ_of_le (h.gg x), Nat.le_succ_of_le h.hm, by have := h.hr; omega⟩
theorem HL.drop {s : HS} {n : Nat} (h : HL s n) (i : Nat) : HL (s.drop i) (n + 1) := ⟨fun x => by
  show upd s.gn (s.C.getD i 0) (s.gn (s.C.getD i 0) + 1) x ≤ n + 1
  have := h.gg x; have := h.gg (s.C.getD i 0)
  unfold upd; split <;> omega, Nat.le_succ_of_le h.hm, by have := h.hr; show s.rm ≤ _; omega⟩
theorem HL.add {s : HS} {n id rm' mad' : Nat} {gn' : Nat → Nat} {F' : List Nat} (h : HL s n) (T : HT s id rm' mad' gn' F') (r : Nat) : HL (s.add id rm' mad' gn' F' r) (n + 1) := by
  refine ⟨fun x => Nat.le_succ_of_le (T.gb n h.gg x), ?_, ?_⟩
  · show mad' ≤ n + 1
    have := T.m1; have := h.hm; omega
  · show rm' ≤ 2 * (n + 1) + 8
    have := h.hm; have := h.hr
    rcases T.alt with ⟨_, _, _, e, _⟩ | ⟨_, _, e, _⟩
    · rw [e]; unfold room2 nroom; split <;> omega
    · omega
section
variable {R : Nat → Nat} {hb pb mb mm : Nat} {L : List Spc} {s : HS} {a b : Nat} {h g : Int} {w : World}
theorem HK.get (k : HK w R hb pb mb mm L s a b h g) {x : Nat} (hx : x ∈ s.C) (g9 : s.gn x ≤ 1000000000) : Calls Tryz.prog 33 #[at0 hb, .int .i64 ((s.t x : Nat) : Int)] w fun e w' => ∃ a', e = .returned (.tuple #[.int .u64 ((s.V x : Nat) : Int), .int .i64 0]) ∧ HK w' R hb pb mb mm L s a' b h g ∧ TR (rh R pb hb) (rh R pb hb) w w' := by
  obtain ⟨⟨fre, l, q⟩, v⟩ := k
  have C := hget_ok q x hx g9 w l
  rw [v x hx] at C
  exact C.mono fun e w' ⟨a', e1, la, l', t⟩ => ⟨a', e1, ⟨⟨fre, l', q⟩, v⟩, t.wh pb hb⟩
theorem HK.get_no (k : HK w R hb pb mb mm L s a b h g) {t : Int} (hno : s.no t) (g9 : ∀ x, s.gn x ≤ 1000000000) : Calls Tryz.prog 33 #[at0 hb, .int .i64 t] w fun e w' => ∃ a', e = .returned (.tuple #[.int .u64 0, .int .i64 30]) ∧ HK w' R hb pb mb mm L s a' b h g ∧ TR (rh R pb hb) (rh R pb hb) w w' := by
  obtain ⟨⟨fre, l, q⟩, v⟩ := k
  exact (hget_no q t hno g9 w l).mono fun e w' ⟨a', e1, la, l', t⟩ => ⟨a', e1, ⟨⟨fre, l', q⟩, v⟩, t.wh pb hb⟩
theorem HK.set (k : HK w R hb pb mb mm L s a b h g) {x r : Nat} (hx : x ∈ s.C) (hr9 : r < 18446744073709551616) (g9 : s.gn x ≤ 1000000000) : Calls Tryz.prog 41 #[at0 hb, .int .i64 ((s.t x : Nat) : Int), .int .u64 (r : Int)] w fun e w' => ∃ a' b' ws, e = .returned (.int .i64 0) ∧ HK w' R hb pb mb mm (setw L s.ps ws) (s.set x r) a' b' h g ∧ TR (rh R pb hb) (rh R pb hb) w w' := by
  obtain ⟨⟨fre, l, q⟩, v⟩ := k
  have C := hset_ok q x r hr9 hx g9 w l
  obtain ⟨q', v'⟩ := q.set (v := r) hx
  have hk := l.p.hk
  refine C.mono fun e w' ⟨a', b', e1, la, l', t⟩ => ⟨a', b', _, e1, ⟨⟨fre, l', ?_⟩, fun y hy => ?_⟩, t.wh pb hb⟩
  · show HQ (wds (setw L s.ps _) s.ps) _ _ _ _ _ _
    rw [setw_wds hk]; exact q'
  · show lw (wds (setw L s.ps _) s.ps) 4 y 1 = upd s.V x r y
    rw [setw_wds hk, v' y hy]
    unfold upd; split
    · rfl
    · exact v y hy
theorem HK.set_no (k : HK w R hb pb mb mm L s a b h g) {t : Int} (r : Int) (hno : s.no t) (g9 : ∀ x, s.gn x ≤ 1000000000) : Calls Tryz.prog 41 #[at0 hb, .int .i64 t, .int .u64 r] w fun e w' => ∃ a', e = .returned (.int .i64 30) ∧ HK w' R hb pb mb mm L s a' b h g ∧ TR (rh R pb hb) (rh R pb hb) w w' := by
  obtain ⟨⟨fre, l, q⟩, v⟩ := k
  exact (hset_no q t r hno g9 w l).mono fun e w' ⟨a', e1, la, l', t⟩ => ⟨a', e1, ⟨⟨fre, l', q⟩, v⟩, t.wh pb hb⟩
theorem HK.drop_no (k : HK w R hb pb mb mm L s a b h g) {t : Int} (hno : s.no t) (g9 : ∀ x, s.gn x ≤ 1000000000) : Calls Tryz.prog 49 #[at0 hb, .int .i64 t] w fun e w' => ∃ a', e = .returned (.int .i64 30) ∧ HK w' R hb pb mb mm L s a' b h g ∧ TR (rh R pb hb) (rh R pb hb) w w' := by
  obtain ⟨⟨fre, l, q⟩, v⟩ := k
  exact (hdrop_no q t hno g9 w l).mono fun e w' ⟨a', e1, la, l', t⟩ => ⟨a', e1, ⟨⟨fre, l', q⟩, v⟩, t.wh pb hb⟩
theorem HK.drop (k : HK w R hb pb mb mm L s a b h g) {i : Nat} (hi : i < s.C.length) (g9 : s.gn (s.C.getD i 0) < 1000000000) : Calls Tryz.prog 49 #[at0 hb, .int .i64 ((s.t (s.C.getD i 0) : Nat) : Int)] w fun e w' => ∃ a' b' ws, e = .returned (.int .i64 0) ∧ HK w' R hb pb mb mm (setw L s.ps ws) (s.drop i) a' b' h g ∧ TR (rh R pb hb) (rh R pb hb) w w' := by
  obtain ⟨⟨fre, l, q⟩, v⟩ := k
  have cl := q.len
  have CC := hdrop_ok q i hi g9 (by omega) (by omega) w l
  obtain ⟨_, q', v'⟩ := q.drop hi
  have hk := l.p.hk
  refine CC.mono fun e w' ⟨a', b', e1, la, l', t⟩ => ⟨a', b', (dropw (wds L s.ps) 4 2 3 (nxv s.C i) (pvv s.C i)).set (lk 4 (s.C.getD i 0) 0) (2 * fre + 4194304 * (s.gn (s.C.getD i 0) + 1)), e1, ⟨⟨s.C.getD i 0, ?_, ?_⟩, fun y hy => ?_⟩, t⟩
  · show HM _ _ _ _ _ _ _ _ _ (s.C.eraseIdx i).length _ _ _ _ _ _ _ _
    rw [erase_len hi]; exact l'
  · show HQ (wds (setw L s.ps _) s.ps) _ _ _ _ _ _
    rw [setw_wds hk]; exact q'
  · show lw (wds (setw L s.ps _) s.ps) 4 y 1 = s.V y
    rw [setw_wds hk, v' y hy]
    exact v y ((hmem_erase q.ch.nd hi y).1 hy).1
theorem HK.add (k : HK w R hb pb mb mm L s a b h g) {r : Nat} (hr9 : r < 18446744073709551616) (hm : s.mad < 10000) (hb' : s.rm ≤ 10000) (hg : ∀ x, s.gn x ≤ 1000000000) :
    ∃ id rm' mad' gn' F', HT s id rm' mad' gn' F' ∧ Calls Tryz.prog 39 #[at0 hb, .int .u64 (r : Int)] w fun e w' => ∃ R' a' b' h' g' ws, e = .returned (.tuple #[.int .i64 ((tkn id (gn' id) : Nat) : Int), .int .i64 0]) ∧ HK w' R' hb pb mb mm (setw L s.ps ws) (s.add id rm' mad' gn' F' r) a' b' h' g' ∧ TR (rh R pb hb) (rh R' pb hb) w w' := by
  obtain ⟨⟨fre, l, q⟩, v⟩ := k
  have cl := q.len
  have hk := l.p.hk
  obtain ⟨id, rm', mad', fre', ws', gn', F', h', T, alt, q', nC, old, new, len', mr', CC⟩ := hadd_ok (hb := hb) (pb := pb) (mb := mb) (mm := mm) (L := L) (cnt := s.C.length) (a := a) (b := b) (h := h) (g := g) (bz := s.bz) (R := R) q r hr9 hm hb' (by omega) hg hk l.p.len l.p.mr
  refine ⟨id, rm', mad', gn', F', ⟨T.i1, T.i2, T.md, T.nt, nC, T.gs, T.gb, alt.elim (fun z => .inl ⟨z.1, z.2.1, z.2.2.1, z.2.2.2.1, z.2.2.2.2.2.1, z.2.2.2.2.2.2⟩) (fun z => .inr ⟨z.1, z.2.1, z.2.2.1, z.2.2.2.2⟩)⟩, (CC w l).mono fun e w' ⟨R', a', b', g', e1, la, l', t⟩ => ⟨R', a', b', h', g', pushw (ws'.set (lk 4 id 1) r) 4 2 3 (tlv s.C) s.C.length id, e1, ⟨⟨fre', ?_, ?_⟩, fun y hy => ?_⟩, t⟩⟩
  · show HM _ _ _ _ _ _ _ _ _ (s.C ++ [id]).length _ _ _ _ _ _ _ _
    rw [List.length_append, List.length_singleton]; exact l'
  · show HQ (wds (setw L s.ps _) s.ps) _ _ _ _ _ _
    rw [setw_wds hk]; exact q'
  · show lw (wds (setw L s.ps _) s.ps) 4 y 1 = upd s.V id r y
    rw [setw_wds hk]
    rcases List.mem_append.1 hy with z | z
    · rw [old y z, upd_ne _ _ (show y ≠ id from fun e => nC (e ▸ z)), v y z]
    · rw [List.mem_singleton.1 z, new, upd_at]
end

/-! ### Roots of a law's own -/
/-- Roots behind n calls -/
structure RL (W0 : World) (R : Nat → Nat) (B : BK) (n : Nat) (S : List (List Nat)) (bz : Bool) (G H : HS) (w : World) : Prop where
  x : ∃ fs L a b h g, RS w R B fs L S bz G H a b h g
  lo : ∀ j, rr B R j ≠ 0 → W0.heap.size ≤ j
  o : Below W0.heap.size W0 w
  sz : fwn S ≤ 258 * n
  hg : HL G n
  hh : HL H n
  hn : n ≤ 400
section
variable {W0 : World} {R R' : Nat → Nat} {B : BK} {n n' : Nat} {S S' T : List (List Nat)} {x : List Nat} {bz bz' : Bool} {G G' H H' : HS} {w w' : World}
theorem RL.below (s : RL W0 R B n S bz G H w) (k : Below w.heap.size w w') : RL W0 R B n S bz G H w' := by
  obtain ⟨⟨fs, L, a, b, h, g, p⟩, lo, o, sz, hg, hh, hn⟩ := s
  exact ⟨⟨fs, L, a, b, h, g, p.below k⟩, lo, o.trans (k.mono o.size), sz, hg, hh, hn⟩
theorem RL.drew (s : RL W0 R B n S bz G H w) : RL W0 R B n S bz G H w.drew := s.below (Below.refl _ _).drew
theorem RL.since {w1 : World} (k : Below W0.heap.size W0 w1) (s : RL w1 R B n S bz G H w) : RL W0 R B n S bz G H w :=
  ⟨s.x, fun j hj => Nat.le_trans k.size (s.lo j hj), k.trans (s.o.mono k.size), s.sz, s.hg, s.hh, s.hn⟩
theorem RL.up (s : RL W0 R B n S bz G H w) (h : n < 400) : RL W0 R B (n + 1) S bz G H w := ⟨s.x, s.lo, s.o, by have := s.sz; omega, s.hg.up, s.hh.up, h⟩
theorem RL.hi (s : RL W0 R B n S bz G H w) {j : Nat} (h : rr B R j ≠ 0) : j < w.heap.size := by
  obtain ⟨⟨fs, L, a, b, hh, g, p⟩, _⟩ := s
  exact p.hi h
theorem RL.fresh (s : RL W0 R B n S bz G H w) {j : Nat} (hj : w.heap.size ≤ j) : rr B R j = 0 ∧ W0.heap.size ≤ j :=
  ⟨Decidable.byContradiction fun q => by have := s.hi q; omega, Nat.le_trans s.o.size hj⟩
theorem RL.aside (s : RL W0 R B n S bz G H w) {F : Nat → Prop} (k : Keeps F w w') (hF : ∀ j, F j → rr B R j = 0 ∧ W0.heap.size ≤ j) : RL W0 R B n S bz G H w' := by
  obtain ⟨⟨fs, L, a, b, h, g, p⟩, lo, o, sz, hg, hh, hn⟩ := s
  exact ⟨⟨fs, L, a, b, h, g, p.aside k (fun j q => (hF j q).1)⟩, lo, o.trans (k.below o.size (fun j q => (hF j q).2)), sz, hg, hh, hn⟩
/-- a step of all of it -/
theorem RL.step (s : RL W0 R B n S bz G H w) {fs : Nat} {L : List Spc} {a b : Nat} {h g : Int} (p : RS w' R' B fs L S' bz' G' H' a b h g) (t : TR (rr B R) (rr B R') w w') (sz : fwn S' ≤ 258 * n') (hg : HL G' n') (hh : HL H' n') (hn : n' ≤ 400) : RL W0 R' B n' S' bz' G' H' w' :=
  ⟨⟨fs, L, a, b, h, g, p⟩, t.lo s.o.size s.lo, s.o.trans (t.below s.o.size s.lo), sz, hg, hh, hn⟩
theorem RL.cells (s : RL W0 R B n S bz G H w) : w.cell? ⟨B.rb, 0, none⟩ = some (at0 B.fb) ∧ w.cell? ⟨B.rb, 1, none⟩ = some (at0 B.gb) ∧ w.cell? ⟨B.rb, 2, none⟩ = some (at0 B.hb) ∧ B.rb < w.heap.size := by
  obtain ⟨⟨fs, L, a, b, h, g, p⟩, _⟩ := s
  exact p.cells
theorem RL.g9 (s : RL W0 R B n S bz G H w) : (∀ x, G.gn x ≤ 1000000000) ∧ (∀ x, H.gn x ≤ 1000000000) ∧ G.mad < 10000 ∧ H.mad < 10000 ∧ G.rm ≤ 10000 ∧ H.rm ≤ 10000 ∧ fwn S ≤ 103200 := by
  have := s.hn
  have := s.sz
  exact ⟨fun x => by have := s.hg.gg x; omega, fun x => by have := s.hh.gg x; omega, by have := s.hg.hm; omega, by have := s.hh.hm; omega, by have := s.hg.hr; omega, by have := s.hh.hr; omega, by omega⟩
theorem RL.gc (s : RL W0 R B n S bz G H w) : G.C.length ≤ G.mad ∧ G.C.Nodup ∧ (∀ x, x ∈ G.C → 1 ≤ x ∧ x ≤ G.mad ∧ G.tk x = true) ∧ (∀ x, 1 ≤ x → x ≤ G.mad → G.tk x = true → x ∈ G.C) ∧ G.mad ≤ G.rm ∧ G.mad ≤ 10000 := by
  obtain ⟨⟨fs, L, a, b, h, g, p⟩, _⟩ := s
  exact p.kg.c
theorem RL.hc (s : RL W0 R B n S bz G H w) : H.C.length ≤ H.mad ∧ H.C.Nodup ∧ (∀ x, x ∈ H.C → 1 ≤ x ∧ x ≤ H.mad ∧ H.tk x = true) ∧ (∀ x, 1 ≤ x → x ≤ H.mad → H.tk x = true → x ∈ H.C) ∧ H.mad ≤ H.rm ∧ H.mad ≤ 10000 := by
  obtain ⟨⟨fs, L, a, b, h, g, p⟩, _⟩ := s
  exact p.kh.c
theorem RL.sl (s : RL W0 R B n S bz G H w) : ∀ x, x ∈ S → x.length ≤ 256 := by
  obtain ⟨⟨fs, L, a, b, h, g, p⟩, _⟩ := s
  exact p.f.sl
theorem RL.depth (s : RL W0 R B n S bz G H w) : Calls Tryz.prog 12 #[at0 B.fb] w fun e w' => e = .returned (.int .i64 (S.length : Int)) ∧ w = w' := by
  obtain ⟨⟨fs, L, a, b, h, g, p⟩, _⟩ := s
  exact fdepth_any w p.f
theorem RL.globals (s : RL W0 R B n S bz G H w) : Calls Tryz.prog 10 #[at0 B.rb] w fun e w' => e = .returned (.int .i64 (G.C.length : Int)) ∧ w = w' := by
  obtain ⟨⟨fs, L, a, b, h, g, p⟩, _⟩ := s
  exact rglobals_any w p
theorem RL.weaks (s : RL W0 R B n S bz G H w) : Calls Tryz.prog 11 #[at0 B.rb] w fun e w' => e = .returned (.int .i64 (H.C.length : Int)) ∧ w = w' := by
  obtain ⟨⟨fs, L, a, b, h, g, p⟩, _⟩ := s
  exact rweaks_any w p
theorem RL.charge (s : RL W0 R B n S bz G H w) : Calls Tryz.prog 8 #[at0 B.rb] w fun e w' => e = .returned (.int .i64 ((fwn S + 4 * G.C.length + 4 * H.C.length : Nat) : Int)) ∧ Below w.heap.size w w' := by
  obtain ⟨⟨fs, L, a, b, h, g, p⟩, _⟩ := s
  exact rcharge_any w p
theorem RL.push_no (s : RL W0 R B n S bz G H w) {k : Int} (hk : k < 0 ∨ 256 < k) : Calls Tryz.prog 14 #[at0 B.fb, .int .i64 k] w fun e w' => e = .returned (.int .i64 1) ∧ w = w' := by
  obtain ⟨⟨fs, L, a, b, h, g, p⟩, _⟩ := s
  exact fpush_arg k hk w p.f
theorem RL.push (s : RL W0 R B n S bz G H w) (hn : n < 400) {k : Nat} (hk : k ≤ 256) : Calls Tryz.prog 14 #[at0 B.fb, .int .i64 (k : Int)] w fun e w' => ∃ R', e = .returned (.int .i64 0) ∧ RL W0 R' B (n + 1) (List.replicate k 0 :: S) bz G H w' ∧ TR (rr B R) (rr B R') w w' := by
  obtain ⟨⟨fs, L, a, b, h, g, p⟩, lo, o, sz, hg, hh, hn'⟩ := id s
  refine (fpush_ok k hk (by omega) w p.f).mono ?_
  rintro x v ⟨R', q, b', rfl, rr, l, P, t⟩
  obtain ⟨P', t'⟩ := p.frame P t
  exact ⟨R', rfl, s.step P' t' (by rw [fwn_cons, List.length_replicate]; omega) hg.up hh.up hn, t'⟩
theorem RL.pop_no (s : RL W0 R B n [] bz G H w) : Calls Tryz.prog 47 #[at0 B.fb] w fun e w' => e = .returned (.int .i64 33) ∧ w = w' := by
  obtain ⟨⟨fs, L, a, b, h, g, p⟩, _⟩ := s
  exact fpop_nil w p.f
theorem RL.pop (s : RL W0 R B n (x :: T) bz G H w) : Calls Tryz.prog 47 #[at0 B.fb] w fun e w' => e = .returned (.int .i64 0) ∧ RL W0 R B n T bz G H w' ∧ TR (rr B R) (rr B R) w w' := by
  obtain ⟨⟨fs, L, a, b, h, g, p⟩, lo, o, sz, hg, hh, hn'⟩ := id s
  refine (fpop_ok w p.f).mono ?_
  rintro y v ⟨a', rfl, l, P, t⟩
  obtain ⟨P', t'⟩ := p.frame0 P t
  exact ⟨rfl, s.step P' t' (by rw [fwn_cons] at sz; omega) hg hh hn', t'⟩
/-- what a call leaves that changes nothing -/
abbrev RSame (W0 : World) (R : Nat → Nat) (B : BK) (n : Nat) (S : List (List Nat)) (bz : Bool) (G H : HS) (w w' : World) : Prop := RL W0 R B n S bz G H w' ∧ TR (rr B R) (rr B R) w w'
theorem slot_name {k : Int} (h : 0 ≤ k) : -1 - k < 0 := by omega
theorem RL.get_f (s : RL W0 R B n (x :: T) bz G H w) {k : Nat} (hk : k < x.length) : Calls Tryz.prog 13 #[at0 B.rb, .int .i64 (-1 - (k : Int))] w fun e w' => ∃ u v, e = .returned (.tuple #[u, v]) ∧ (u = .int .u64 ((x.getD k 0 : Nat) : Int) ∧ v = .int .i64 0 ∧ RSame W0 R B n (x :: T) bz G H w w') := by
  have lx := s.sl x (by simp)
  refine rget_f (fb := B.fb) (-1 - (k : Int)) (k : Int) (by omega) (by omega) (by omega) w s.cells.1 _ (fun w1 k1 => ?_)
  have s1 := s.below k1
  obtain ⟨⟨fs, L, a, b, h, g, p⟩, lo, o, sz, hg, hh, hn'⟩ := id s1
  refine (fget_ok k hk w1 p.f).mono ?_
  rintro e v ⟨a', rfl, l, P, t⟩
  obtain ⟨P', t'⟩ := p.frame0 P (t.wip B.fb)
  exact ⟨_, _, rfl, ⟨rfl, rfl, s1.step P' t' sz hg hh hn', (TR.of k1).trans t'⟩, P'.cells.1⟩
theorem RL.get_fno (s : RL W0 R B n S bz G H w) {k c : Int} (h0 : 0 ≤ k) (h1 : k ≤ 9223372036854775807) (hc : fck S k = c) (hc0 : ¬ c = 0) : Calls Tryz.prog 13 #[at0 B.rb, .int .i64 (-1 - k)] w fun e w' => ∃ u v, e = .returned (.tuple #[u, v]) ∧ (u = .int .u64 0 ∧ v = .int .i64 c ∧ RSame W0 R B n S bz G H w w') := by
  refine rget_f (fb := B.fb) (-1 - k) k (by omega) (by omega) (by omega) w s.cells.1 _ (fun w1 k1 => ?_)
  have s1 := s.below k1
  obtain ⟨⟨fs, L, a, b, h, g, p⟩, lo, o, sz, hg, hh, hn'⟩ := id s1
  refine (fget_no k c hc hc0 w1 p.f).mono ?_
  rintro e v ⟨rfl, b1⟩
  have s2 := s1.below b1
  exact ⟨_, _, rfl, ⟨rfl, rfl, s2, (TR.of k1).trans (TR.of b1)⟩, s2.cells.1⟩
theorem RL.get_g (s : RL W0 R B n S bz G H w) {y : Nat} (hy : y ∈ G.C) : Calls Tryz.prog 13 #[at0 B.rb, .int .i64 ((G.t y : Nat) : Int)] w fun e w' => ∃ u v, e = .returned (.tuple #[u, v]) ∧ (u = .int .u64 ((G.V y : Nat) : Int) ∧ v = .int .i64 0 ∧ RSame W0 R B n S bz G H w w') := by
  refine rget_g (gb := B.gb) _ (by omega) w s.cells.2.1 _ ?_
  obtain ⟨⟨fs, L, a, b, h, g, p⟩, lo, o, sz, hg, hh, hn'⟩ := id s
  refine (p.kg.get hy (s.g9.1 y)).mono ?_
  rintro e v ⟨a', rfl, P, t⟩
  obtain ⟨P', t'⟩ := p.glob0 P rfl t
  exact ⟨_, _, rfl, rfl, rfl, s.step P' t' sz hg hh hn', t'⟩
theorem RL.get_gno (s : RL W0 R B n S bz G H w) {t : Int} (h0 : ¬ t < 0) (hno : G.no t) : Calls Tryz.prog 13 #[at0 B.rb, .int .i64 t] w fun e w' => ∃ u v, e = .returned (.tuple #[u, v]) ∧ (u = .int .u64 0 ∧ v = .int .i64 30 ∧ RSame W0 R B n S bz G H w w') := by
  refine rget_g (gb := B.gb) _ h0 w s.cells.2.1 _ ?_
  obtain ⟨⟨fs, L, a, b, h, g, p⟩, lo, o, sz, hg, hh, hn'⟩ := id s
  refine (p.kg.get_no hno s.g9.1).mono ?_
  rintro e v ⟨a', rfl, P, t⟩
  obtain ⟨P', t'⟩ := p.glob0 P rfl t
  exact ⟨_, _, rfl, rfl, rfl, s.step P' t' sz hg hh hn', t'⟩
theorem RL.set_f (s : RL W0 R B n (x :: T) bz G H w) {k : Nat} (hk : k < x.length) (r : Nat) : Calls Tryz.prog 16 #[at0 B.rb, .int .i64 (-1 - (k : Int)), .int .u64 (r : Int)] w fun e w' => ∃ c, e = .returned (.int .i64 c) ∧ (c = 0 ∧ RL W0 R B n (x.set k r :: T) bz G H w' ∧ TR (rr B R) (rr B R) w w') := by
  have lx := s.sl x (by simp)
  refine rset_f (fb := B.fb) (-1 - (k : Int)) (k : Int) _ (by omega) (by omega) (by omega) w s.cells.1 _ (fun w1 k1 => ?_)
  have s1 := s.below k1
  obtain ⟨⟨fs, L, a, b, h, g, p⟩, lo, o, sz, hg, hh, hn'⟩ := id s1
  refine (fset_ok k r hk w1 p.f).mono ?_
  rintro e v ⟨a', rfl, l, P, t⟩
  obtain ⟨P', t'⟩ := p.frame P (t.wip B.fb)
  exact ⟨_, rfl, ⟨rfl, s1.step P' t' (by rw [fwn_cons, List.length_set] at *; exact sz) hg hh hn', (TR.of k1).trans t'⟩, P'.cells.1⟩
theorem RL.set_fno (s : RL W0 R B n S bz G H w) {k c : Int} (r : Nat) (h0 : 0 ≤ k) (h1 : k ≤ 9223372036854775807) (hc : fck S k = c) (hc0 : ¬ c = 0) : Calls Tryz.prog 16 #[at0 B.rb, .int .i64 (-1 - k), .int .u64 (r : Int)] w fun e w' => ∃ d, e = .returned (.int .i64 d) ∧ (d = c ∧ RSame W0 R B n S bz G H w w') := by
  refine rset_f (fb := B.fb) (-1 - k) k _ (by omega) (by omega) (by omega) w s.cells.1 _ (fun w1 k1 => ?_)
  have s1 := s.below k1
  obtain ⟨⟨fs, L, a, b, h, g, p⟩, lo, o, sz, hg, hh, hn'⟩ := id s1
  refine (fset_no k c r hc hc0 w1 p.f).mono ?_
  rintro e v ⟨rfl, b1⟩
  have s2 := s1.below b1
  exact ⟨_, rfl, ⟨rfl, s2, (TR.of k1).trans (TR.of b1)⟩, s2.cells.1⟩
theorem RL.set_g (s : RL W0 R B n S bz G H w) {y r : Nat} (hy : y ∈ G.C) (hr9 : r < 18446744073709551616) : Calls Tryz.prog 16 #[at0 B.rb, .int .i64 ((G.t y : Nat) : Int), .int .u64 (r : Int)] w fun e w' => ∃ c, e = .returned (.int .i64 c) ∧ (c = 0 ∧ RL W0 R B n S bz (G.set y r) H w' ∧ TR (rr B R) (rr B R) w w') := by
  refine rset_g (gb := B.gb) _ _ (by omega) w s.cells.2.1 _ ?_
  obtain ⟨⟨fs, L, a, b, h, g, p⟩, lo, o, sz, hg, hh, hn'⟩ := id s
  refine (p.kg.set hy hr9 (s.g9.1 y)).mono ?_
  rintro e v ⟨a', b', ws, rfl, P, t⟩
  obtain ⟨P', t'⟩ := p.glob P rfl t
  exact ⟨_, rfl, rfl, s.step P' t' sz ⟨hg.gg, hg.hm, hg.hr⟩ hh hn', t'⟩
theorem RL.set_gno (s : RL W0 R B n S bz G H w) {t : Int} (r : Nat) (h0 : ¬ t < 0) (hno : G.no t) : Calls Tryz.prog 16 #[at0 B.rb, .int .i64 t, .int .u64 (r : Int)] w fun e w' => ∃ c, e = .returned (.int .i64 c) ∧ (c = 30 ∧ RSame W0 R B n S bz G H w w') := by
  refine rset_g (gb := B.gb) _ _ h0 w s.cells.2.1 _ ?_
  obtain ⟨⟨fs, L, a, b, h, g, p⟩, lo, o, sz, hg, hh, hn'⟩ := id s
  refine (p.kg.set_no r hno s.g9.1).mono ?_
  rintro e v ⟨a', rfl, P, t⟩
  obtain ⟨P', t'⟩ := p.glob0 P rfl t
  exact ⟨_, rfl, rfl, s.step P' t' sz hg hh hn', t'⟩
theorem RL.add (s : RL W0 R B n S bz G H w) (hn : n < 400) : ∃ id rm' mad' gn' F', HT G id rm' mad' gn' F' ∧ Calls Tryz.prog 15 #[at0 B.rb] w fun e w' => ∃ u v, e = .returned (.tuple #[u, v]) ∧ (u = .int .i64 ((tkn id (gn' id) : Nat) : Int) ∧ v = .int .i64 0 ∧ ∃ R', RL W0 R' B (n + 1) S bz (G.add id rm' mad' gn' F' 0) H w' ∧ TR (rr B R) (rr B R') w w') := by
  obtain ⟨⟨fs, L, a, b, h, g, p⟩, lo, o, sz, hg, hh, hn'⟩ := id s
  obtain ⟨id, rm', mad', gn', F', T, C⟩ := p.kg.add (r := 0) (by decide) s.g9.2.2.1 s.g9.2.2.2.2.1 s.g9.1
  refine ⟨id, rm', mad', gn', F', T, radd_p (gb := B.gb) w s.cells.2.1 _ (C.mono ?_)⟩
  rintro e v ⟨R', a', b', h', g', ws, rfl, P, t⟩
  obtain ⟨P', t'⟩ := p.glob P rfl t
  exact ⟨_, _, rfl, rfl, rfl, R', s.step P' t' (by omega) (hg.add T 0) hh.up hn, t'⟩
theorem RL.addw (s : RL W0 R B n S bz G H w) (hn : n < 400) {r : Nat} (hr9 : r < 18446744073709551616) : ∃ id rm' mad' gn' F', HT H id rm' mad' gn' F' ∧ Calls Tryz.prog 52 #[at0 B.rb, .int .u64 (r : Int)] w fun e w' => ∃ u v, e = .returned (.tuple #[u, v]) ∧ (u = .int .i64 ((tkn id (gn' id) : Nat) : Int) ∧ v = .int .i64 0 ∧ ∃ R', RL W0 R' B (n + 1) S bz G (H.add id rm' mad' gn' F' r) w' ∧ TR (rr B R) (rr B R') w w') := by
  obtain ⟨⟨fs, L, a, b, h, g, p⟩, lo, o, sz, hg, hh, hn'⟩ := id s
  obtain ⟨id, rm', mad', gn', F', T, C⟩ := p.kh.add (r := r) hr9 s.g9.2.2.2.1 s.g9.2.2.2.2.2.1 s.g9.2.1
  refine ⟨id, rm', mad', gn', F', T, raddw_p (hb := B.hb) _ w s.cells.2.2.1 _ (C.mono ?_)⟩
  rintro e v ⟨R', a', b', h', g', ws, rfl, P, t⟩
  obtain ⟨P', t'⟩ := p.weak P rfl t
  exact ⟨_, _, rfl, rfl, rfl, R', s.step P' t' (by omega) hg.up (hh.add T r) hn, t'⟩
theorem RL.drop (s : RL W0 R B n S bz G H w) (hn : n < 400) {i : Nat} (hi : i < G.C.length) : Calls Tryz.prog 23 #[at0 B.rb, .int .i64 ((G.t (G.C.getD i 0) : Nat) : Int)] w fun e w' => ∃ c, e = .returned (.int .i64 c) ∧ (c = 0 ∧ RL W0 R B (n + 1) S bz (G.drop i) H w' ∧ TR (rr B R) (rr B R) w w') := by
  obtain ⟨⟨fs, L, a, b, h, g, p⟩, lo, o, sz, hg, hh, hn'⟩ := id s
  refine rdrop_p (gb := B.gb) _ w s.cells.2.1 _ ((p.kg.drop hi (by have := hg.gg (G.C.getD i 0); omega)).mono ?_)
  rintro e v ⟨a', b', ws, rfl, P, t⟩
  obtain ⟨P', t'⟩ := p.glob P rfl t
  exact ⟨_, rfl, rfl, s.step P' t' (by omega) (hg.drop i) hh.up hn, t'⟩
theorem RL.drop_no (s : RL W0 R B n S bz G H w) {t : Int} (hno : G.no t) : Calls Tryz.prog 23 #[at0 B.rb, .int .i64 t] w fun e w' => ∃ c, e = .returned (.int .i64 c) ∧ (c = 30 ∧ RSame W0 R B n S bz G H w w') := by
  obtain ⟨⟨fs, L, a, b, h, g, p⟩, lo, o, sz, hg, hh, hn'⟩ := id s
  refine rdrop_p (gb := B.gb) _ w s.cells.2.1 _ ((p.kg.drop_no hno s.g9.1).mono ?_)
  rintro e v ⟨a', rfl, P, t⟩
  obtain ⟨P', t'⟩ := p.glob0 P rfl t
  exact ⟨_, rfl, rfl, s.step P' t' sz hg hh hn', t'⟩
theorem RL.dropw (s : RL W0 R B n S bz G H w) (hn : n < 400) {i : Nat} (hi : i < H.C.length) : Calls Tryz.prog 53 #[at0 B.rb, .int .i64 ((H.t (H.C.getD i 0) : Nat) : Int)] w fun e w' => ∃ c, e = .returned (.int .i64 c) ∧ (c = 0 ∧ RL W0 R B (n + 1) S bz G (H.drop i) w' ∧ TR (rr B R) (rr B R) w w') := by
  obtain ⟨⟨fs, L, a, b, h, g, p⟩, lo, o, sz, hg, hh, hn'⟩ := id s
  refine rdropw_p (hb := B.hb) _ w s.cells.2.2.1 _ ((p.kh.drop hi (by have := hh.gg (H.C.getD i 0); omega)).mono ?_)
  rintro e v ⟨a', b', ws, rfl, P, t⟩
  obtain ⟨P', t'⟩ := p.weak P rfl t
  exact ⟨_, rfl, rfl, s.step P' t' (by omega) hg.up (hh.drop i) hn, t'⟩
theorem RL.dropw_no (s : RL W0 R B n S bz G H w) {t : Int} (hno : H.no t) : Calls Tryz.prog 53 #[at0 B.rb, .int .i64 t] w fun e w' => ∃ c, e = .returned (.int .i64 c) ∧ (c = 30 ∧ RSame W0 R B n S bz G H w w') := by
  obtain ⟨⟨fs, L, a, b, h, g, p⟩, lo, o, sz, hg, hh, hn'⟩ := id s
  refine rdropw_p (hb := B.hb) _ w s.cells.2.2.1 _ ((p.kh.drop_no hno s.g9.2.1).mono ?_)
  rintro e v ⟨a', rfl, P, t⟩
  obtain ⟨P', t'⟩ := p.weak0 P rfl t
  exact ⟨_, rfl, rfl, s.step P' t' sz hg hh hn', t'⟩
theorem RL.weak (s : RL W0 R B n S bz G H w) {y : Nat} (hy : y ∈ H.C) : Calls Tryz.prog 54 #[at0 B.rb, .int .i64 ((H.t y : Nat) : Int)] w fun e w' => ∃ u v, e = .returned (.tuple #[u, v]) ∧ (u = .int .u64 ((H.V y : Nat) : Int) ∧ v = .int .i64 0 ∧ RSame W0 R B n S bz G H w w') := by
  obtain ⟨⟨fs, L, a, b, h, g, p⟩, lo, o, sz, hg, hh, hn'⟩ := id s
  refine rweak_p (hb := B.hb) _ w s.cells.2.2.1 _ ((p.kh.get hy (s.g9.2.1 y)).mono ?_)
  rintro e v ⟨a', rfl, P, t⟩
  obtain ⟨P', t'⟩ := p.weak0 P rfl t
  exact ⟨_, _, rfl, rfl, rfl, s.step P' t' sz hg hh hn', t'⟩
theorem RL.weak_no (s : RL W0 R B n S bz G H w) {t : Int} (hno : H.no t) : Calls Tryz.prog 54 #[at0 B.rb, .int .i64 t] w fun e w' => ∃ u v, e = .returned (.tuple #[u, v]) ∧ (u = .int .u64 0 ∧ v = .int .i64 30 ∧ RSame W0 R B n S bz G H w w') := by
  obtain ⟨⟨fs, L, a, b, h, g, p⟩, lo, o, sz, hg, hh, hn'⟩ := id s
  refine rweak_p (hb := B.hb) _ w s.cells.2.2.1 _ ((p.kh.get_no hno s.g9.2.1).mono ?_)
  rintro e v ⟨a', rfl, P, t⟩
  obtain ⟨P', t'⟩ := p.weak0 P rfl t
  exact ⟨_, _, rfl, rfl, rfl, s.step P' t' sz hg hh hn', t'⟩
end
end Go.Proofs.YtppmicepkjhfeaaGreat
