/-
  haymowlaw10.do of all else: what is known of a number.
-/
import Derived.Test.YthigcabmmhjooaaPlaysB
import Derived.Deep.DeepCutAuto
import Derived.Deep.RegionLaw
import Derived.Deep.RegionHeld3
import Derived.BigQuiet
namespace Go.Proofs.Ythigcabmmhjooaa
open Go.RowKit
set_option linter.unusedVariables false

theorem DB.drew {B : Nat} {o : Op10} {W r : Int} {v f : Value} {w : World} (h : DB B o W r v f w) : DB B o W r v f w.drew := h.below (Below.refl _ _).drew
/-- at a number's look: the boxes and both -/
structure DG (W0 : World) (D R : Nat → Nat) (pb mb mm W k rm a b : Nat) (v f : Value) (L : List Ent) (Fr : List Nat) (w0 : World) (o : Op10) (w : World) : Prop where
  d : DB w0.heap.size o (W : Int) (rm : Int) v f w
  s : Bo W0 (dbx D w0.heap.size) R pb mb mm W k rm a b v f L Fr w
  t : TR (rp R pb) (rp R pb) w0 w
section
variable {W0 : World} {D R : Nat → Nat} {pb mb mm W k rm a b a' : Nat} {v f : Value} {L : List Ent} {Fr : List Nat} {w0 w w' : World} {o : Op10}
theorem DG.below (g : DG W0 D R pb mb mm W k rm a b v f L Fr w0 o w) (kb : Below w.heap.size w w') : DG W0 D R pb mb mm W k rm a b v f L Fr w0 o w' := ⟨g.d.below kb, g.s.below kb, g.t.below' kb⟩
theorem DG.drew (g : DG W0 D R pb mb mm W k rm a b v f L Fr w0 o w) : DG W0 D R pb mb mm W k rm a b v f L Fr w0 o w.drew := g.below (Below.refl _ _).drew
theorem DG.keep (g : DG W0 D R pb mb mm W k rm a b v f L Fr w0 o w) : w.cell? ⟨w0.heap.size, 0, none⟩ = some (.int .i64 (W : Int)) ∧ w.cell? ⟨w0.heap.size, 1, none⟩ = some v ∧ w.cell? ⟨w0.heap.size, 2, none⟩ = some f ∧ w.cell? ⟨w0.heap.size, 3, none⟩ = some (.int .i64 (rm : Int)) ∧ w.cell? ⟨w0.heap.size + 1, 1, none⟩ = some (.int .i64 o.a) := by
  obtain ⟨s0, s1, s2, s3, sf, sl⟩ := er_all g.d.s
  obtain ⟨o0, o1, o2, o3, ol⟩ := o4_all g.d.o
  exact ⟨s0, s1, s2, s3, o1⟩
theorem DG.gen (g : DG W0 D R pb mb mm W k rm a b v f L Fr w0 o w) (hk : k ≤ 80) (hab : a + b + 1 ≤ 70 * k + 100000) (id : Int) : ∃ a', (a ≤ a' ∧ a' ≤ a + 1) ∧ ∀ w1, Below w.heap.size w w1 → Calls Try.prog 16 #[at0 pb, .int .i64 id] w1 fun e w2 => e = .returned (.int .i64 ((genq L id : Nat) : Int)) ∧ DG W0 D R pb mb mm W k rm a' b v f L Fr w0 o w2 := by
  obtain ⟨a', ha, C⟩ := g.s.gen hk hab id
  refine ⟨a', ha, fun w1 kb => (C w1 kb).mono ?_⟩
  rintro e w2 ⟨rfl, t, s⟩
  exact ⟨rfl, (g.d.below kb).tr t (g.s.boxes), s, (g.t.below' kb).trans t⟩
theorem DG.is (g : DG W0 D R pb mb mm W k rm a b v f L Fr w0 o w) (hk : k ≤ 80) (hab : a + b + 1 ≤ 70 * k + 100000) (id : Int) : ∃ a', (a ≤ a' ∧ a' ≤ a + 1) ∧ ∀ w1, Below w.heap.size w w1 → Calls Try.prog 17 #[at0 pb, .int .i64 id] w1 fun e w2 => e = .returned (.bool (isq L id)) ∧ DG W0 D R pb mb mm W k rm a' b v f L Fr w0 o w2 := by
  obtain ⟨a', ha, C⟩ := g.s.is hk hab id
  refine ⟨a', ha, fun w1 kb => (C w1 kb).mono ?_⟩
  rintro e w2 ⟨rfl, t, s⟩
  exact ⟨rfl, (g.d.below kb).tr t (g.s.boxes), s, (g.t.below' kb).trans t⟩
def one1 (q j : Nat) : Nat := if j = q then 1 else 0
theorem TR.one4 {w w' : World} {q : Nat} (t : TR (one1 q) (one1 q) w w') (x0 x1 x2 x3 : Value) : TR (one1 q) (one1 q) w ((((w'.setCell ⟨q, 0, none⟩ x0).setCell ⟨q, 1, none⟩ x1).setCell ⟨q, 2, none⟩ x2).setCell ⟨q, 3, none⟩ x3) := by
  have h : one1 q q ≠ 0 := by unfold one1; rw [if_pos rfl]; decide
  have st : ∀ (u : World) (i : Nat) (x : Value), TR (one1 q) (one1 q) u (u.setCell ⟨q, i, none⟩ x) := fun u i x => ⟨Keeps.set u q i x h, fun _ _ z => z⟩
  exact (((t.trans (st _ 0 x0)).trans (st _ 1 x1)).trans (st _ 2 x2)).trans (st _ 3 x3)
theorem DG.cells (g : DG W0 D R pb mb mm W k rm a b v f L Fr w0 o w) (w' : World) (t : TR (one1 (w0.heap.size + 1 + 1)) (one1 (w0.heap.size + 1 + 1)) w w') : w'.cell? ⟨w0.heap.size, 0, none⟩ = some (.int .i64 (W : Int)) ∧ w'.cell? ⟨w0.heap.size, 1, none⟩ = some v ∧ w'.cell? ⟨w0.heap.size, 2, none⟩ = some f ∧ w'.cell? ⟨w0.heap.size, 3, none⟩ = some (.int .i64 (rm : Int)) ∧ w'.cell? ⟨w0.heap.size + 1, 1, none⟩ = some (.int .i64 o.a) := by
  obtain ⟨s0, s1, s2, s3, sf, sl⟩ := er_all (g.d.s.tr t (by unfold one1; rw [if_neg (by omega)]))
  obtain ⟨o0, o1, o2, o3, ol⟩ := o4_all (g.d.o.tr t (by unfold one1; rw [if_neg (by omega)]))
  exact ⟨s0, s1, s2, s3, o1⟩
/-- the last call is the document's own -/
theorem DG.ref (g : DG W0 D R pb mb mm W k rm a b v f L Fr w0 o w) (hk : k ≤ 80) (id : Int) : ∀ w1, Below w.heap.size w w1 → Calls Try.prog 36 #[estv (W : Int) v f (rm : Int), .int .i64 id] w1 fun e w2 => e = .returned (.bool (isq L id)) ∧ DG W0 D R pb mb mm W k rm a b v f L Fr w0 o w2 := by
  intro w1 kb
  obtain ⟨l1, _⟩ := g.s.lens hk
  refine (isq_any (W : Int) (rm : Int) id v f L Fr _ w1 (g.s.st.below kb) (by omega)).mono ?_
  rintro e w2 ⟨rfl, b2⟩
  exact ⟨rfl, (g.below kb).below b2⟩
end
theorem look_sum {a b a1 a2 : Nat} (h1 : a ≤ a1 ∧ a1 ≤ a + 1) (h2 : a1 ≤ a2 ∧ a2 ≤ a1 + 1) : a2 + b ≤ a + b + 2 := by omega
theorem look_ab {k a b a1 : Nat} (h : a + b ≤ 70 * k + 100000) (h1 : a ≤ a1 ∧ a1 ≤ a + 1) : a1 + b + 1 ≤ 70 * (k + 1) + 100000 := by omega
set_option maxRecDepth 100000 in
set_option maxHeartbeats 4000000 in
theorem do_look (W0 : World) (D R : Nat → Nat) (pb mb mm W k rm a b : Nat) (v f : Value) (L : List Ent) (Fr : List Nat) (w : World) (kd oa ob : Int) (ow : Nat) (k0 : (kd == 0) = false) (k1 : (kd == 1) = false) (k2 : (kd == 2) = false) (k3 : (kd == 3) = false) (S : Bo W0 D R pb mb mm W k rm a b v f L Fr w) (hk : k ≤ 79) :
    Calls Try.prog 9 #[at0 pb, estv (W : Int) v f (rm : Int), opv ⟨kd, oa, ob, ow⟩] w (DoE W0 D R pb mb mm W k a b w) := by
  obtain ⟨w1, hw1, d1, S1, B1⟩ := S.enter ⟨kd, oa, ob, ow⟩
  have lo := S.low
  obtain ⟨l1, _, w60, _⟩ := S.lens (by omega)
  obtain ⟨va, vc, rfl⟩ := S.st.el.slice
  obtain ⟨fa, fc, rfl⟩ := S.st.fl.slice
  have ab := S.ab
  have G1 : DG W0 D R pb mb mm W (k + 1) rm a b (.slice va L.length vc) (.slice fa Fr.length fc) L Fr w ⟨kd, oa, ob, ow⟩ w1 := ⟨d1, S1.up, TR.of B1⟩
  obtain ⟨s0, s1, s2, s3, sf, sl⟩ := er_all d1.s
  obtain ⟨o0, o1, o2, o3, ol⟩ := o4_all d1.o
  dsimp only at o0 o1 o2 o3 hw1
  obtain ⟨a1, ha1, C1⟩ := G1.gen (by omega) (by omega) oa
  have HG1 := Lib.hid C1
  have HA1 := Lib.hid ha1
  have HAB := Lib.hid ab
  have HK := Lib.hid hk
  have GG := Lib.hid G1
  obtain ⟨g, hg⟩ : ∃ g, genq L oa = g := ⟨_, rfl⟩
  have HGQ := Lib.hid hg
  rw [hg] at HG1
  have LB0 : Below w1.heap.size w1 w1 := Below.refl _ _
  have TB0 : TR (one1 (w.heap.size + 1 + 1)) (one1 (w.heap.size + 1 + 1)) w1 w1 := TR.refl _ _
  have KP := Lib.hid G1.cells
  dsimp only at KP
  clear C1 ha1 ab hg S1 B1 d1 S hk G1
  go_enter Try.func9, Try.ntmps9
  go_upto_region 1 with fail
  rw [← hw1]
  clear hw1
  by_cases hin : 1 ≤ oa ∧ oa ≤ (L.length : Int)
  · obtain ⟨k5, rfl⟩ : ∃ k5 : Nat, oa = ((k5 + 1 : Nat) : Int) := ⟨oa.toNat - 1, by omega⟩
    obtain ⟨h1, h2⟩ := hin
    have h5 : k5 < L.length := by omega
    obtain ⟨_, bl, off, u, rfl, hbl, c0, c1, c2, wl⟩ := GG.out.s.st.el.at h5
    have eg := HGQ.out
    rw [genq_in h5] at eg
    rw [eg] at c1
    have i0 : (0 : Int) ≤ (k5 : Int) := by omega
    have i1 : (k5 : Int) < (L.length : Int) := by omega
    have m1 : ((k5 + 1 : Nat) : Int) - 1 = (k5 : Int) := by omega
    have m2 : wrap64 (k5 : Int) = (k5 : Int) := wrap_small (by omega)
    have hd1 : decide ((1 : Int) ≤ ((k5 + 1 : Nat) : Int)) = true := decide_eq_true h1
    have hd2 : decide (((k5 + 1 : Nat) : Int) ≤ (L.length : Int)) = true := decide_eq_true h2
    clear h1 h2 h5 wl c0 c2 eg hbl
    obtain ⟨k6, hk6⟩ : ∃ k6, k5 + 1 = k6 := ⟨_, rfl⟩
    rw [hk6] at m1 o1 hd1 hd2
    simp only [hk6] at *
    clear hk6
    go_upto_region 26 with fail
    go_region_held3 (fun w' => w'.cell? ⟨w.heap.size, 0, none⟩ = some (.int .i64 (W : Int)) ∧ w'.cell? ⟨w.heap.size, 1, none⟩ = some (.slice (some ⟨bl, off, none⟩) L.length vc) ∧ w'.cell? ⟨w.heap.size, 2, none⟩ = some (.slice fa Fr.length fc) ∧ w'.cell? ⟨w.heap.size, 3, none⟩ = some (.int .i64 (rm : Int)) ∧ w'.cell? ⟨w.heap.size + 1, 1, none⟩ = some (.int .i64 (k6 : Int)))
      (first
        | (refine KP.out _ ?_; (repeat (first | with_reducible assumption | with_reducible refine TR.one4 ?_ _ _ _ _ | with_reducible refine TR.drew ?_)); done)
        | (refine KP2.out _ ?_; (repeat (first | with_reducible assumption | with_reducible refine TR.one4 ?_ _ _ _ _ | with_reducible refine TR.drew ?_)); done)
        | (refine KP3.out _ ?_; (repeat (first | with_reducible assumption | with_reducible refine TR.one4 ?_ _ _ _ _ | with_reducible refine TR.drew ?_)); done)
        | (refine KP4.out _ ?_; (repeat (first | with_reducible assumption | with_reducible refine TR.one4 ?_ _ _ _ _ | with_reducible refine TR.drew ?_)); done))
      (first
        | (go_at_call 16; with_reducible refine (HG1.out _ ?_).mono ?_
           · repeat (first | with_reducible assumption | with_reducible refine Below.drew ?_)
           rintro e w2 ⟨rfl, G2⟩
           obtain ⟨a2, ha2, C2⟩ := G2.is (Nat.succ_le_succ HK.out) (look_ab HAB.out HA1.out) (k6 : Int)
           have HG2 := Lib.hid C2
           have KP2 := Lib.hid G2.cells
           have HA2 := Lib.hid ha2
           have LB2 : Below w2.heap.size w2 w2 := Below.refl _ _
           have TB2 : TR (one1 (w.heap.size + 1 + 1)) (one1 (w.heap.size + 1 + 1)) w2 w2 := TR.refl _ _
           clear C2 ha2 G2
           dsimp only at KP2)
        | (go_at_call 17; with_reducible refine (HG2.out _ ?_).mono ?_
           · repeat (first | with_reducible assumption | with_reducible refine Below.drew ?_)
           rintro e w3 ⟨rfl, G3⟩
           have HG3 := Lib.hid (G3.ref (Nat.succ_le_succ HK.out) (k6 : Int))
           have KP3 := Lib.hid G3.cells
           have LB3 : Below w3.heap.size w3 w3 := Below.refl _ _
           have TB3 : TR (one1 (w.heap.size + 1 + 1)) (one1 (w.heap.size + 1 + 1)) w3 w3 := TR.refl _ _
           clear G3
           dsimp only at KP3)
        | (go_at_call 36; with_reducible refine (HG3.out _ ?_).mono ?_
           · repeat (first | with_reducible assumption | with_reducible refine Below.drew ?_)
           rintro e w4 ⟨rfl, G4⟩
           have KP4 := Lib.hid G4.cells
           have TB4 : TR (one1 (w.heap.size + 1 + 1)) (one1 (w.heap.size + 1 + 1)) w4 w4 := TR.refl _ _
           obtain ⟨z0, z1, z2, z3, zf, zl⟩ := er_all G4.d.z
           dsimp only at KP4))
    all_goals
      have Z5 := er_set G4.d.z (W : Int) (.slice (some ⟨bl, off, none⟩) L.length vc) (.slice fa Fr.length fc) (rm : Int)
      have S5 := G4.s.store4 (q := w.heap.size + 1 + 1) (dbx_in (by omega) (by omega)) (by omega) (.int .i64 (W : Int)) (.slice (some ⟨bl, off, none⟩) L.length vc) (.slice fa Fr.length fc) (.int .i64 (rm : Int))
      have T5 := G4.t.put4 (q := w.heap.size + 1 + 1) (by omega) (.int .i64 (W : Int)) (.slice (some ⟨bl, off, none⟩) L.length vc) (.slice fa Fr.length fc) (.int .i64 (rm : Int))
      obtain ⟨y0, y1, y2, y3, yf, yl⟩ := er_all Z5
      have FIN : DoE W0 D R pb mb mm W k a b w (.returned (.tuple #[estv (W : Int) (.slice (some ⟨bl, off, none⟩) L.length vc) (.slice fa Fr.length fc) (rm : Int), .int .u64 2, .bool true])) _ := ⟨R, rm, a2, b, _, _, L, Fr, 2, rfl, S5.out, T5, Nat.le_trans HA1.out.1 HA2.out.1, Nat.le_refl _, look_sum HA1.out HA2.out, by omega⟩
      have FIN := Lib.hid FIN
      clear Z5 S5 T5 G4 KP KP2 KP3 KP4 TB0 TB2 TB3 TB4 HG1 HG2 HG3 HA1 HA2 LB0 LB2 LB3
      go_wp2_with fail
      exact bodyPost_ret (v := .tuple #[estv (W : Int) (.slice (some ⟨bl, off, none⟩) L.length vc) (.slice fa Fr.length fc) (rm : Int), .int .u64 2, .bool true]) (by simp [results, Try.results9, go_sem, y0, y1, y2, y3]) rfl FIN.out
  · have eg := HGQ.out
    rw [genq_out hin] at eg
    subst eg
    by_cases h1 : 1 ≤ oa
    · have h2 : ¬ oa ≤ (L.length : Int) := fun q => hin ⟨h1, q⟩
      have hd1 : decide ((1 : Int) ≤ oa) = true := decide_eq_true h1
      have hd2 : decide (oa ≤ (L.length : Int)) = false := decide_eq_false h2
      clear hin
      go_upto_region 26 with fail
      go_region_held3 (fun w' => w'.cell? ⟨w.heap.size, 0, none⟩ = some (.int .i64 (W : Int)) ∧ w'.cell? ⟨w.heap.size, 1, none⟩ = some (.slice va L.length vc) ∧ w'.cell? ⟨w.heap.size, 2, none⟩ = some (.slice fa Fr.length fc) ∧ w'.cell? ⟨w.heap.size, 3, none⟩ = some (.int .i64 (rm : Int)) ∧ w'.cell? ⟨w.heap.size + 1, 1, none⟩ = some (.int .i64 oa))
        (first
          | (refine KP.out _ ?_; (repeat (first | with_reducible assumption | with_reducible refine TR.one4 ?_ _ _ _ _ | with_reducible refine TR.drew ?_)); done)
          | (refine KP2.out _ ?_; (repeat (first | with_reducible assumption | with_reducible refine TR.one4 ?_ _ _ _ _ | with_reducible refine TR.drew ?_)); done)
          | (refine KP3.out _ ?_; (repeat (first | with_reducible assumption | with_reducible refine TR.one4 ?_ _ _ _ _ | with_reducible refine TR.drew ?_)); done)
          | (refine KP4.out _ ?_; (repeat (first | with_reducible assumption | with_reducible refine TR.one4 ?_ _ _ _ _ | with_reducible refine TR.drew ?_)); done))
        (first
          | (go_at_call 16; with_reducible refine (HG1.out _ ?_).mono ?_
             · repeat (first | with_reducible assumption | with_reducible refine Below.drew ?_)
             rintro e w2 ⟨rfl, G2⟩
             obtain ⟨a2, ha2, C2⟩ := G2.is (Nat.succ_le_succ HK.out) (look_ab HAB.out HA1.out) oa
             have HG2 := Lib.hid C2
             have KP2 := Lib.hid G2.cells
             have HA2 := Lib.hid ha2
             have LB2 : Below w2.heap.size w2 w2 := Below.refl _ _
             have TB2 : TR (one1 (w.heap.size + 1 + 1)) (one1 (w.heap.size + 1 + 1)) w2 w2 := TR.refl _ _
             clear C2 ha2 G2
             dsimp only at KP2)
          | (go_at_call 17; with_reducible refine (HG2.out _ ?_).mono ?_
             · repeat (first | with_reducible assumption | with_reducible refine Below.drew ?_)
             rintro e w3 ⟨rfl, G3⟩
             have HG3 := Lib.hid (G3.ref (Nat.succ_le_succ HK.out) oa)
             have KP3 := Lib.hid G3.cells
             have LB3 : Below w3.heap.size w3 w3 := Below.refl _ _
             have TB3 : TR (one1 (w.heap.size + 1 + 1)) (one1 (w.heap.size + 1 + 1)) w3 w3 := TR.refl _ _
             clear G3
             dsimp only at KP3)
          | (go_at_call 36; with_reducible refine (HG3.out _ ?_).mono ?_
             · repeat (first | with_reducible assumption | with_reducible refine Below.drew ?_)
             rintro e w4 ⟨rfl, G4⟩
             have KP4 := Lib.hid G4.cells
             have TB4 : TR (one1 (w.heap.size + 1 + 1)) (one1 (w.heap.size + 1 + 1)) w4 w4 := TR.refl _ _
             obtain ⟨z0, z1, z2, z3, zf, zl⟩ := er_all G4.d.z
             dsimp only at KP4))
      all_goals
        have Z5 := er_set G4.d.z (W : Int) (.slice va L.length vc) (.slice fa Fr.length fc) (rm : Int)
        have S5 := G4.s.store4 (q := w.heap.size + 1 + 1) (dbx_in (by omega) (by omega)) (by omega) (.int .i64 (W : Int)) (.slice va L.length vc) (.slice fa Fr.length fc) (.int .i64 (rm : Int))
        have T5 := G4.t.put4 (q := w.heap.size + 1 + 1) (by omega) (.int .i64 (W : Int)) (.slice va L.length vc) (.slice fa Fr.length fc) (.int .i64 (rm : Int))
        obtain ⟨y0, y1, y2, y3, yf, yl⟩ := er_all Z5
        have FIN : DoE W0 D R pb mb mm W k a b w (.returned (.tuple #[estv (W : Int) (.slice va L.length vc) (.slice fa Fr.length fc) (rm : Int), .int .u64 2, .bool true])) _ := ⟨R, rm, a2, b, _, _, L, Fr, 2, rfl, S5.out, T5, Nat.le_trans HA1.out.1 HA2.out.1, Nat.le_refl _, look_sum HA1.out HA2.out, by omega⟩
        have FIN := Lib.hid FIN
        clear Z5 S5 T5 G4 KP KP2 KP3 KP4 TB0 TB2 TB3 TB4 HG1 HG2 HG3 HA1 HA2 LB0 LB2 LB3
        go_wp2_with fail
        exact bodyPost_ret (v := .tuple #[estv (W : Int) (.slice va L.length vc) (.slice fa Fr.length fc) (rm : Int), .int .u64 2, .bool true]) (by simp [results, Try.results9, go_sem, y0, y1, y2, y3]) rfl FIN.out
    · have hd1 : decide ((1 : Int) ≤ oa) = false := decide_eq_false h1
      clear hin
      go_upto_region 26 with fail
      go_region_held3 (fun w' => w'.cell? ⟨w.heap.size, 0, none⟩ = some (.int .i64 (W : Int)) ∧ w'.cell? ⟨w.heap.size, 1, none⟩ = some (.slice va L.length vc) ∧ w'.cell? ⟨w.heap.size, 2, none⟩ = some (.slice fa Fr.length fc) ∧ w'.cell? ⟨w.heap.size, 3, none⟩ = some (.int .i64 (rm : Int)) ∧ w'.cell? ⟨w.heap.size + 1, 1, none⟩ = some (.int .i64 oa))
        (first
          | (refine KP.out _ ?_; (repeat (first | with_reducible assumption | with_reducible refine TR.one4 ?_ _ _ _ _ | with_reducible refine TR.drew ?_)); done)
          | (refine KP2.out _ ?_; (repeat (first | with_reducible assumption | with_reducible refine TR.one4 ?_ _ _ _ _ | with_reducible refine TR.drew ?_)); done)
          | (refine KP3.out _ ?_; (repeat (first | with_reducible assumption | with_reducible refine TR.one4 ?_ _ _ _ _ | with_reducible refine TR.drew ?_)); done)
          | (refine KP4.out _ ?_; (repeat (first | with_reducible assumption | with_reducible refine TR.one4 ?_ _ _ _ _ | with_reducible refine TR.drew ?_)); done))
        (first
          | (go_at_call 16; with_reducible refine (HG1.out _ ?_).mono ?_
             · repeat (first | with_reducible assumption | with_reducible refine Below.drew ?_)
             rintro e w2 ⟨rfl, G2⟩
             obtain ⟨a2, ha2, C2⟩ := G2.is (Nat.succ_le_succ HK.out) (look_ab HAB.out HA1.out) oa
             have HG2 := Lib.hid C2
             have KP2 := Lib.hid G2.cells
             have HA2 := Lib.hid ha2
             have LB2 : Below w2.heap.size w2 w2 := Below.refl _ _
             have TB2 : TR (one1 (w.heap.size + 1 + 1)) (one1 (w.heap.size + 1 + 1)) w2 w2 := TR.refl _ _
             clear C2 ha2 G2
             dsimp only at KP2)
          | (go_at_call 17; with_reducible refine (HG2.out _ ?_).mono ?_
             · repeat (first | with_reducible assumption | with_reducible refine Below.drew ?_)
             rintro e w3 ⟨rfl, G3⟩
             have HG3 := Lib.hid (G3.ref (Nat.succ_le_succ HK.out) oa)
             have KP3 := Lib.hid G3.cells
             have LB3 : Below w3.heap.size w3 w3 := Below.refl _ _
             have TB3 : TR (one1 (w.heap.size + 1 + 1)) (one1 (w.heap.size + 1 + 1)) w3 w3 := TR.refl _ _
             clear G3
             dsimp only at KP3)
          | (go_at_call 36; with_reducible refine (HG3.out _ ?_).mono ?_
             · repeat (first | with_reducible assumption | with_reducible refine Below.drew ?_)
             rintro e w4 ⟨rfl, G4⟩
             have KP4 := Lib.hid G4.cells
             have TB4 : TR (one1 (w.heap.size + 1 + 1)) (one1 (w.heap.size + 1 + 1)) w4 w4 := TR.refl _ _
             obtain ⟨z0, z1, z2, z3, zf, zl⟩ := er_all G4.d.z
             dsimp only at KP4))
      all_goals
        have Z5 := er_set G4.d.z (W : Int) (.slice va L.length vc) (.slice fa Fr.length fc) (rm : Int)
        have S5 := G4.s.store4 (q := w.heap.size + 1 + 1) (dbx_in (by omega) (by omega)) (by omega) (.int .i64 (W : Int)) (.slice va L.length vc) (.slice fa Fr.length fc) (.int .i64 (rm : Int))
        have T5 := G4.t.put4 (q := w.heap.size + 1 + 1) (by omega) (.int .i64 (W : Int)) (.slice va L.length vc) (.slice fa Fr.length fc) (.int .i64 (rm : Int))
        obtain ⟨y0, y1, y2, y3, yf, yl⟩ := er_all Z5
        have FIN : DoE W0 D R pb mb mm W k a b w (.returned (.tuple #[estv (W : Int) (.slice va L.length vc) (.slice fa Fr.length fc) (rm : Int), .int .u64 2, .bool true])) _ := ⟨R, rm, a2, b, _, _, L, Fr, 2, rfl, S5.out, T5, Nat.le_trans HA1.out.1 HA2.out.1, Nat.le_refl _, look_sum HA1.out HA2.out, by omega⟩
        have FIN := Lib.hid FIN
        clear Z5 S5 T5 G4 KP KP2 KP3 KP4 TB0 TB2 TB3 TB4 HG1 HG2 HG3 HA1 HA2 LB0 LB2 LB3
        go_wp2_with fail
        exact bodyPost_ret (v := .tuple #[estv (W : Int) (.slice va L.length vc) (.slice fa Fr.length fc) (rm : Int), .int .u64 2, .bool true]) (by simp [results, Try.results9, go_sem, y0, y1, y2, y3]) rfl FIN.out
end Go.Proofs.Ythigcabmmhjooaa
