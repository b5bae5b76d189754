/-
  What haymowlaw10.PoolPlays holds. No walk.
-/
import Derived.Test.YthigcabmmhjooaaPlaysH
import Derived.Deep.DeepCutAuto
import Derived.Deep.RegionLaw
import Derived.Deep.RegionHeld3
import Derived.BigQuiet
namespace Go.Proofs.Ythigcabmmhjooaa
open Go.RowKit
set_option linter.unusedVariables false

/-- what the law holds: both, and the box of the document's state -/
structure LB (W0 : World) (R : Nat → Nat) (pb mb mm W k rm a b : Nat) (v f : Value) (L : List Ent) (Fr : List Nat) (B : Nat) (w : World) : Prop where
  s : Bo W0 (one1 B) R pb mb mm W k rm a b v f L Fr w
  r : ERow w B (W : Int) v f (rm : Int)
  lo : W0.heap.size ≤ B
theorem one1_of {q j : Nat} (h : one1 q j ≠ 0) : j = q := by
  unfold one1 at h
  split at h
  · assumption
  · exact absurd rfl h
theorem one1_at (q : Nat) : one1 q q ≠ 0 := by unfold one1; rw [if_pos rfl]; decide
section
variable {W0 : World} {R R' : Nat → Nat} {pb mb mm W k rm a b : Nat} {v f : Value} {L : List Ent} {Fr : List Nat} {B : Nat} {w w' : World}
theorem LB.below (S : LB W0 R pb mb mm W k rm a b v f L Fr B w) (kb : Below w.heap.size w w') : LB W0 R pb mb mm W k rm a b v f L Fr B w' := ⟨S.s.below kb, S.r.below kb, S.lo⟩
theorem LB.drew (S : LB W0 R pb mb mm W k rm a b v f L Fr B w) : LB W0 R pb mb mm W k rm a b v f L Fr B w.drew := S.below (Below.refl _ _).drew
theorem LB.bel (S : LB W0 R pb mb mm W k rm a b v f L Fr B w) : Below W0.heap.size W0 w := by
  obtain ⟨⟨mad, cnt, fre, ws, h, tk, gn, F, p, m⟩, st, dl, dz, ab⟩ := S.s
  exact p.o.b
/-- behind do: its state is laid into the box -/
theorem LB.put {k' rm' a' b' : Nat} {v' f' : Value} {L' : List Ent} {Fr' : List Nat} (S : LB W0 R pb mb mm W k rm a b v f L Fr B w) (S' : Bo W0 (one1 B) R' pb mb mm W k' rm' a' b' v' f' L' Fr' w') (t : TR (rp R pb) (rp R' pb) w w') : ERow w' B (W : Int) v f (rm : Int) ∧ LB W0 R' pb mb mm W k' rm' a' b' v' f' L' Fr' B ((((w'.setCell ⟨B, 0, none⟩ (.int .i64 (W : Int))).setCell ⟨B, 1, none⟩ v').setCell ⟨B, 2, none⟩ f').setCell ⟨B, 3, none⟩ (.int .i64 (rm' : Int))) := by
  have r' := S.r.tr t (S.s.dz B (one1_at B))
  exact ⟨r', S'.store4 (one1_at B) S.lo _ _ _ _, er_set r' _ _ _ _, S.lo⟩
/-- a block of the law's own, apart -/
theorem LB.apart {q : Nat} {g : Nat → Value} {n : Nat} (S : LB W0 R pb mb mm W k rm a b v f L Fr B w) (h : Row w q n g) (z : rp R pb q = 0) (t : TR (rp R pb) (rp R' pb) w w') : Row w' q n g := h.tr t z
end
theorem i_up {j nf : Nat} (h : j < nf) (hn : nf ≤ 80) : (j : Int) < (nf : Int) ∧ (j : Int) + 1 = ((j + 1 : Nat) : Int) ∧ wrap64 ((j + 1 : Nat) : Int) = ((j + 1 : Nat) : Int) ∧ (0 : Int) ≤ (j : Int) ∧ j ≤ 79 := ⟨by omega, by omega, wrap_small (by omega), by omega, by omega⟩
theorem rem_w (x : Nat) : ∃ W : Nat, 1 ≤ W ∧ W ≤ 60 ∧ (1 : Int) + (x : Int) % 6 = (W : Int) := ⟨1 + x % 6, by omega, by omega, by omega⟩
theorem PL.earlier {W0 w1 w : World} {R : Nat → Nat} {pb mb mm W rm cnt mad fre a b : Nat} {ws : List Nat} {h : Int} {tk : Nat → Bool} {gn : Nat → Nat} {F : List Nat} (s : PL w1 R pb mb mm W rm cnt mad fre ws a b h tk gn F w) (k : Below W0.heap.size W0 w1) : PL W0 R pb mb mm W rm cnt mad fre ws a b h tk gn F w :=
  ⟨s.p, s.r, Nat.le_trans k.size s.lo, ⟨fun j hj => Nat.le_trans k.size (s.o.lo j hj), k.trans (s.o.b.mono k.size)⟩⟩
theorem lb_start {W0 w : World} {R : Nat → Nat} {pb mb mm W : Nat} (s : PL W0 R pb mb mm W 0 0 0 0 [] 0 0 0 (fun _ => false) (fun _ => 0) [] w) :
    LB W0 R pb mb mm W 0 0 0 0 (.slice none 0 0) (.slice none 0 0) [] [] w.heap.size (w.alloc (.cells #[.int .i64 (W : Int), .slice none 0 0, .slice none 0 0, .int .i64 0] 32)) := by
  have kb : Below w.heap.size w (w.alloc (.cells #[.int .i64 (W : Int), .slice none 0 0, .slice none 0 0, .int .i64 0] 32)) := bAlloc (Below.refl _ _) _
  exact ⟨⟨⟨_, _, _, _, _, _, _, _, s.below kb, MT.start W⟩, ST.nil _ _, fun j hj => by rw [one1_of hj]; simp, fun j hj => s.beyond (by rw [one1_of hj]; exact Nat.le_refl _), by omega⟩, (e4_box w (W : Int) 0 (.slice none 0 0) (.slice none 0 0)).1, s.o.b.size⟩
theorem Bo.beyond {W0 : World} {D R : Nat → Nat} {pb mb mm W k rm a b : Nat} {v f : Value} {L : List Ent} {Fr : List Nat} {w : World} (S : Bo W0 D R pb mb mm W k rm a b v f L Fr w) {j : Nat} (hj : w.heap.size ≤ j) : rp R pb j = 0 := by
  obtain ⟨⟨mad, cnt, fre, ws, h, tk, gn, F, p, m⟩, st, dl, dz, ab⟩ := S
  exact p.beyond hj
theorem LB.blt {W0 : World} {R : Nat → Nat} {pb mb mm W k rm a b : Nat} {v f : Value} {L : List Ent} {Fr : List Nat} {B : Nat} {w : World} (S : LB W0 R pb mb mm W k rm a b v f L Fr B w) : B < w.heap.size := S.r.lt
theorem held_eq {rm W : Nat} (hr : rm ≤ 168) (hW : W ≤ 60) : ∃ W1 H : Nat, rm * (W + 1) = H ∧ (W : Int) + 1 = (W1 : Int) ∧ wrap64 (W1 : Int) = (W1 : Int) ∧ (rm : Int) * (W1 : Int) = (H : Int) ∧ wrap64 (H : Int) = (H : Int) ∧ IntKind.i64.wrap (W1 : Int) = (W1 : Int) ∧ IntKind.i64.wrap (H : Int) = (H : Int) := by
  have h : rm * (W + 1) ≤ 168 * 61 := Nat.mul_le_mul hr (by omega)
  exact ⟨W + 1, rm * (W + 1), rfl, by omega, wrap_small (by omega), by rw [Int.natCast_mul], wrap_small (by omega), by rw [IntKind.wrap_i64]; omega, by rw [IntKind.wrap_i64]; omega⟩
/-- the cells that the law's comparison reads -/
theorem LB.keep {W0 : World} {R : Nat → Nat} {pb mb mm W k rm a b : Nat} {v f : Value} {L : List Ent} {Fr : List Nat} {B : Nat} {w : World} (S : LB W0 R pb mb mm W k rm a b v f L Fr B w) {q s : Nat} (Q : WRow w q s) (w' : World) (kb : Below w.heap.size w w') :
    w'.cell? ⟨mb, 0, none⟩ = some (.pointer (some ⟨mm, 0, none⟩)) ∧ w'.cell? ⟨B, 0, none⟩ = some (.int .i64 (W : Int)) ∧ w'.cell? ⟨B, 1, none⟩ = some v ∧ w'.cell? ⟨B, 2, none⟩ = some f ∧ w'.cell? ⟨B, 3, none⟩ = some (.int .i64 (rm : Int)) ∧ w'.cell? ⟨q, 0, none⟩ = some (.int .u64 (hi s)) ∧ w'.cell? ⟨q, 1, none⟩ = some (.int .u64 (Go.Proofs.Ythigcabmmhjooaa.lo s)) := by
  obtain ⟨g, fre, c0, _, _⟩ := (S.s.below kb).read
  obtain ⟨s0, s1, s2, s3, sf, sl⟩ := er_all (S.r.below kb)
  obtain ⟨q0, q1, qf⟩ := WRow.all (WRow.below Q kb)
  exact ⟨c0, s0, s1, s2, s3, q0, q1⟩
theorem meas_i {j nf j1 : Nat} (h : j + 1 = j1) (hj : j < nf) : nf - (intOf (.int .i64 (j1 : Int))).toNat < nf - (intOf (.int .i64 (j : Int))).toNat := by
  simp [intOf]; omega
theorem isq_in {L : List Ent} {i : Nat} (hi : i < L.length) : isq L ((i + 1 : Nat) : Int) = entt L i := by
  unfold isq
  rw [decide_eq_true ⟨by omega, by omega⟩, Int.toNat_natCast, Nat.add_sub_cancel, Bool.true_and]
section
variable {W0 : World} {R : Nat → Nat} {pb mb mm W k rm a b : Nat} {v f : Value} {L : List Ent} {Fr : List Nat} {B : Nat} {w : World}
theorem LB.gen (S : LB W0 R pb mb mm W k rm a b v f L Fr B w) (hk : k ≤ 80) (hab : a + b + 1 ≤ 100000) {i : Nat} (hi : i < L.length) : ∃ a', (a ≤ a' ∧ a' ≤ a + 1) ∧ ∀ w0, Below w.heap.size w w0 → Calls Try.prog 16 #[at0 pb, .int .i64 ((i + 1 : Nat) : Int)] w0 fun e w1 => e = .returned (.int .i64 ((entg L i : Nat) : Int)) ∧ LB W0 R pb mb mm W k rm a' b v f L Fr B w1 := by
  obtain ⟨a', ha, C⟩ := S.s.gen hk (by omega) ((i + 1 : Nat) : Int)
  refine ⟨a', ha, fun w0 kb => (C w0 kb).mono ?_⟩
  rintro e w1 ⟨rfl, t, s⟩
  exact ⟨by rw [genq_in hi], s, (S.r.below kb).tr t (S.s.dz B (one1_at B)), S.lo⟩
theorem LB.is (S : LB W0 R pb mb mm W k rm a b v f L Fr B w) (hk : k ≤ 80) (hab : a + b + 1 ≤ 100000) {i : Nat} (hi : i < L.length) : ∃ a', (a ≤ a' ∧ a' ≤ a + 1) ∧ ∀ w0, Below w.heap.size w w0 → Calls Try.prog 17 #[at0 pb, .int .i64 ((i + 1 : Nat) : Int)] w0 fun e w1 => e = .returned (.bool (entt L i)) ∧ LB W0 R pb mb mm W k rm a' b v f L Fr B w1 := by
  obtain ⟨a', ha, C⟩ := S.s.is hk (by omega) ((i + 1 : Nat) : Int)
  refine ⟨a', ha, fun w0 kb => (C w0 kb).mono ?_⟩
  rintro e w1 ⟨rfl, t, s⟩
  exact ⟨by rw [isq_in hi], s, (S.r.below kb).tr t (S.s.dz B (one1_at B)), S.lo⟩
theorem LB.get (S : LB W0 R pb mb mm W k rm a b v f L Fr B w) (hk : k ≤ 80) (hab : a + b + 2 ≤ 100000) {i j : Nat} (hi : i < L.length) (ht : entt L i = true) (hj : j < W) : ∃ a' b', (a' + b' ≤ a + b + 2) ∧ Calls Try.prog 18 #[at0 pb, .int .i64 ((i + 1 : Nat) : Int), .int .i64 (j : Int)] w fun e w1 => e = .returned (.tuple #[.int .u64 (((entw L i).getD j 0 : Nat) : Int), .int .i64 0]) ∧ LB W0 R pb mb mm W k rm a' b' v f L Fr B w1 := by
  have hq : wrongq L W ((i + 1 : Nat) : Int) (j : Int) = 0 := by
    unfold wrongq
    rw [isq_in hi, ht, if_pos rfl, if_pos ⟨by omega, by omega⟩]
  obtain ⟨x, a', b', hb, _, hx, _, C⟩ := S.s.get hk (by omega) ((i + 1 : Nat) : Int) (j : Int)
  obtain ⟨hx, _⟩ := hx hq
  rw [Int.toNat_natCast, Int.toNat_natCast, Nat.add_sub_cancel] at hx
  rw [hq, hx] at C
  refine ⟨a', b', hb.2.2, C.mono ?_⟩
  rintro e w1 ⟨rfl, t, s⟩
  exact ⟨rfl, s, S.r.tr t (S.s.dz B (one1_at B)), S.lo⟩
/-- the cells of the state and of one entry -/
theorem LB.look {va : Option Addr} {nL vc : Nat} (S : LB W0 R pb mb mm W k rm a b (.slice va nL vc) f L Fr B w) {i : Nat} (hi : i < nL) : ∃ bl off, va = some ⟨bl, off, none⟩ ∧ L.length = nL ∧ ∃ u, (WL pw w (fun j => rp R pb j = 0 ∧ one1 B j = 0) u (entw L i)) ∧ ∀ w', Below w.heap.size w w' → w'.cell? ⟨B, 1, none⟩ = some (.slice (some ⟨bl, off, none⟩) nL vc) ∧ w'.cell? ⟨bl, off + i * 3, none⟩ = some (.bool (entt L i)) ∧ w'.cell? ⟨bl, off + i * 3 + 1, none⟩ = some (.int .i64 ((entg L i : Nat) : Int)) ∧ w'.cell? ⟨bl, off + i * 3 + 2, none⟩ = some u := by
  obtain ⟨hl, bl, off, u, rfl, hb, c0, c1, c2, wl⟩ := S.s.st.el.at hi
  refine ⟨bl, off, rfl, hl, u, wl, fun w' kb => ⟨(er_all (S.r.below kb)).2.1, ?_, ?_, ?_⟩⟩
  · exact (kb.cell (p := ⟨bl, off + i * 3, none⟩) hb).trans c0
  · exact (kb.cell (p := ⟨bl, off + i * 3 + 1, none⟩) hb).trans c1
  · exact (kb.cell (p := ⟨bl, off + i * 3 + 2, none⟩) hb).trans c2
end
theorem id_up {i nL : Nat} (h : i < nL) (hn : nL ≤ 80) : ((i + 1 : Nat) : Int) ≤ (nL : Int) ∧ ((i + 1 : Nat) : Int) - 1 = (i : Int) ∧ wrap64 (i : Int) = (i : Int) ∧ (0 : Int) ≤ (i : Int) ∧ (i : Int) < (nL : Int) ∧ ((i + 1 : Nat) : Int) + 1 = ((i + 2 : Nat) : Int) ∧ wrap64 ((i + 2 : Nat) : Int) = ((i + 2 : Nat) : Int) ∧ IntKind.i64.wrap (i : Int) = (i : Int) := ⟨by omega, by omega, wrap_small (by omega), by omega, by omega, by omega, wrap_small (by omega), by rw [IntKind.wrap_i64]; omega⟩
theorem meas_id {i nL i1 i2 : Nat} (h1 : i + 1 = i1) (h2 : i + 2 = i2) (h : i < nL) : (nL + 1) - (intOf (.int .i64 (i2 : Int))).toNat < (nL + 1) - (intOf (.int .i64 (i1 : Int))).toNat := by
  simp [intOf]; omega
theorem k_up {k W : Nat} (h : k < W) (hn : W ≤ 60) : (k : Int) < (W : Int) ∧ (k : Int) + 1 = ((k + 1 : Nat) : Int) ∧ wrap64 ((k + 1 : Nat) : Int) = ((k + 1 : Nat) : Int) ∧ (0 : Int) ≤ (k : Int) := ⟨by omega, by omega, wrap_small (by omega), by omega⟩
section
variable {W0 : World} {R : Nat → Nat} {pb mb mm W k rm a b : Nat} {f : Value} {L : List Ent} {Fr : List Nat} {B : Nat} {w : World} {bl off nL vc : Nat}
theorem LB.look2 (S : LB W0 R pb mb mm W k rm a b (.slice (some ⟨bl, off, none⟩) nL vc) f L Fr B w) {i : Nat} (hi : i < nL) (w' : World) (kb : Below w.heap.size w w') : w'.cell? ⟨B, 1, none⟩ = some (.slice (some ⟨bl, off, none⟩) nL vc) ∧ w'.cell? ⟨bl, off + i * 3, none⟩ = some (.bool (entt L i)) ∧ w'.cell? ⟨bl, off + i * 3 + 1, none⟩ = some (.int .i64 ((entg L i : Nat) : Int)) := by
  obtain ⟨b', o', e, _, u, _, K⟩ := S.look hi
  injection e with e
  injection e with e1 e2
  subst e1 e2
  exact ⟨(K w' kb).1, (K w' kb).2.1, (K w' kb).2.2.1⟩
theorem LB.word (S : LB W0 R pb mb mm W k rm a b (.slice (some ⟨bl, off, none⟩) nL vc) f L Fr B w) {i : Nat} (hi : i < nL) {j : Nat} (hj : j < W) (hl : (entw L i).length = W) : ∃ ub uo uc, ∀ w', Below w.heap.size w w' → w'.cell? ⟨bl, off + i * 3 + 2, none⟩ = some (.slice (some ⟨ub, uo, none⟩) W uc) ∧ w'.cell? ⟨ub, uo + j, none⟩ = some (.int .u64 (((entw L i).getD j 0 : Nat) : Int)) := by
  obtain ⟨b', o', e, _, u, wl, K⟩ := S.look hi
  injection e with e
  injection e with e1 e2
  subst e1 e2
  obtain ⟨ua, uc, rfl, hcap, hnil, hu⟩ := wl
  obtain ⟨ub, uo, rfl, _, hul, hc⟩ := hu.resolve_left (by omega)
  refine ⟨ub, uo, uc, fun w' kb => ⟨by rw [← hl]; exact (K w' kb).2.2.2, ?_⟩⟩
  exact (kb.cell (p := ⟨ub, uo + j, none⟩) hul).trans (hc j (by omega))
end
theorem ab_0 {a b i : Nat} (h : a + b ≤ 5600 + 200 * i) (hi : i < 80) : a + b + 1 ≤ 100000 := by omega
theorem ab_1 {a b a1 i : Nat} (h : a + b ≤ 5600 + 200 * i) (h1 : a ≤ a1 ∧ a1 ≤ a + 1) (hi : i < 80) : a1 + b + 1 ≤ 100000 := by omega
theorem ab_2 {a b a1 a2 i : Nat} (h : a + b ≤ 5600 + 200 * i) (h1 : a ≤ a1 ∧ a1 ≤ a + 1) (h2 : a1 ≤ a2 ∧ a2 ≤ a1 + 1) : a2 + b ≤ 5602 + 200 * i := by omega
theorem ab_3 {a b i i1 kk W : Nat} (h : a + b ≤ 5602 + 200 * i + 2 * kk) (hk : kk ≤ W) (hW : W ≤ 60) (h1 : i + 1 = i1) : a + b ≤ 5600 + 200 * i1 := by omega
theorem ab_4 {a b i kk W : Nat} (h : a + b ≤ 5602 + 200 * i + 2 * kk) (hk : kk < W) (hW : W ≤ 60) (hi : i < 80) : a + b + 2 ≤ 100000 := by omega
theorem ab_5 {a b a' b' i kk k1 : Nat} (h : a + b ≤ 5602 + 200 * i + 2 * kk) (h1 : a' + b' ≤ a + b + 2) (hk : kk + 1 = k1) : a' + b' ≤ 5602 + 200 * i + 2 * k1 := by omega
theorem ab_6 {a b i i1 : Nat} (h : a + b ≤ 5602 + 200 * i) (h1 : i + 1 = i1) : a + b ≤ 5600 + 200 * i1 := by omega
theorem not_up (i : Nat) : ¬ ((i + 1 : Nat) : Int) ≤ (i : Int) := by omega
theorem ab_7 {a b j : Nat} (h : a + b ≤ 70 * j) (hj : j ≤ 80) : a + b ≤ 5600 := by omega
theorem ab_8 {a b a' b' j m : Nat} (h : a + b ≤ 70 * j) (h1 : a' + b' ≤ a + b + m) (hm : m ≤ 63) : a' + b' ≤ 70 * (j + 1) := by omega
theorem ab_9 {a b a' b' m : Nat} (h1 : a' + b' ≤ a + b + m) : a' + b' - (a + b) ≤ m := by omega
end Go.Proofs.Ythigcabmmhjooaa
