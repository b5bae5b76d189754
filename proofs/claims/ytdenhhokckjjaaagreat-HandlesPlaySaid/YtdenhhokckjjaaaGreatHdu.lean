/-
  haymowlaw18.do: Turn, at both; every call.
-/
import Derived.Test.YtdenhhokckjjaaaGreatHdt
import Derived.Test.YtdenhhokckjjaaaGreatHdg
import Derived.Deep.RegionHeld3
namespace Go.Proofs.YtdenhhokckjjaaaGreat
open Go.RowKit
set_option linter.unusedVariables false

theorem turn_nums18 {z : Nat} (h : z ≤ 900) : ∃ t : Nat, 6 * z = t ∧ (6 : Int) * (z : Int) = (t : Int) ∧ IntKind.i64.wrap (t : Int) = (t : Int) ∧ IntKind.u64.wrap (t : Int) = (t : Int) ∧ wrap64 (t : Int) = (t : Int) ∧ t ≤ 1000000 :=
  ⟨6 * z, rfl, by omega, by rw [IntKind.wrap_i64]; omega, by rw [IntKind.wrap_u64]; omega, by unfold wrap64; omega, by omega⟩
section
variable {W0 : World} {D : Nat → Prop} {R R' : Nat → Nat} {hb pb mb mm n rm c B : Nat} {v f hl : Value} {H : List (Nat × Nat)} {w w' : World}
set_option maxRecDepth 100000 in
set_option maxHeartbeats 8000000 in
theorem do18_turn (ok a : Int) (b : Bool) (u : Nat) (h1 : ¬ ok = 1) (h2 : ¬ ok = 2) (h3 : ¬ ok = 3) (t : Int) (h9 : n < 400) (s : PB W0 D R hb pb mb mm n rm c v f hl H w) :
    Calls Tryz.prog 10 #[at0 hb, stv18 v f (rm : Int) hl, ov18 ok a b u, .int .i64 t] w (DoR18 W0 D R hb pb mb mm n c w) := by
  obtain ⟨⟨va, vn, vc, rfl⟩, ⟨fa, fn, fc, rfl⟩, ⟨ha, hc, rfl⟩⟩ := s.slices
  obtain ⟨w1, hw1, X1, s1, B1⟩ := s.enter ok a b u
  have lH := s.lens.1
  have PN := Lib.hid (s1.turn h9 (ob := w.heap.size + 1) (.inr ⟨by omega, by omega⟩) X1.o)
  have TN := Lib.hid (fun w => hTurn_nil (hb := hb) w)
  have MO := Lib.hid (fun w' (q : PQ18 w' (.slice ha H.length hc) H) => rmore18 va vn vc fa fn fc ha H.length hc (rm : Int) H u w' q (by omega))
  have FI := Lib.hid (fun w' (q : PQ18 w' (.slice ha H.length hc) H) => rfilled18 (.slice va vn vc) (.slice fa fn fc) (rm : Int) ha H.length hc H w' q (by omega))
  have SA := Lib.hid (fun u' v' w' (hu : NL pw w' u' (hfz H)) (hv : NL pw w' v' (hfz H)) => ysame_true u' v' (hfz H) w' hu hv (by have := hfz_len H; omega))
  obtain ⟨tz, htz, f1, f2, f3, f4, f5⟩ := turn_nums18 (z := H.length) (by omega)
  have lB1 := s1.boxes (j := w.heap.size) (Nat.le_refl _) (by omega)
  have lB3 := s1.boxes (j := w.heap.size + 1 + 1) (by omega) (by omega)
  have w1s : w.heap.size + 3 ≤ w1.heap.size := by have := X1.z.lt; omega
  have FIN := Lib.hid (show ∀ (c' : Nat) (w2 wE : World) (hl' : Value), c' ≤ c + 5 * H.length → Keeps (fun j => rh R pb hb j ≠ 0 ∨ j = w.heap.size + 1) w1 w2 → Below w2.heap.size w2 wE → PB W0 (D318 D w.heap.size) R hb pb mb mm (n + 1) rm c' (.slice va vn vc) (.slice fa fn fc) hl' (hups u H) wE →
      DoR18 W0 D R hb pb mb mm n c w (.returned (.tuple #[stv18 (.slice va vn vc) (.slice fa fn fc) (rm : Int) hl', .int .u64 (tz : Int), .bool true])) (((((wE.setCell ⟨w.heap.size + 1 + 1, 0, none⟩ (.int .i64 3)).setCell ⟨w.heap.size + 1 + 1, 1, none⟩ (.slice va vn vc)).setCell ⟨w.heap.size + 1 + 1, 2, none⟩ (.slice fa fn fc)).setCell ⟨w.heap.size + 1 + 1, 3, none⟩ (.int .i64 (rm : Int))).setCell ⟨w.heap.size + 1 + 1, 4, none⟩ hl') from
    fun c' w2 wE hl' l2 k2 kE p => ⟨R, rm, c', _, _, hl', hups u H, tz, rfl, (p.put (q := w.heap.size + 1 + 1) (by omega) (by omega) _ _ _ _ _).out, by
      have T2 : TR (rh R pb hb) (rh R pb hb) w w2 := ⟨(Keeps.of (F := fun j => rh R pb hb j ≠ 0) B1).trans k2 (fun j hj q => q.elim id (fun q => by omega)), fun _ _ q => q⟩
      exact (T2.below' kE).put518 (by omega) _ _ _ _ _, by omega, f5⟩)
  have k1 : (ok == 1) = false := by simp [h1]
  have k2 : (ok == 2) = false := by simp [h2]
  have k3 : (ok == 3) = false := by simp [h3]
  have hmf : ∀ (fn : Fn) (first cap : Array Value) (w : World), (Instr.makeFunc fn first cap).run Tryz.prog w = .ok (.func fn first cap) w := fun _ _ _ _ => rfl
  clear s lH htz
  generalize H.length = nh at *
  go_enter Tryz.func10, Tryz.ntmps10
  go_upto_region 1 with fail
  replace hw1 : w1 = ((w.alloc (.cells #[.int .i64 3, .slice va vn vc, .slice fa fn fc, .int .i64 (rm : Int), .slice ha nh hc] 34)).alloc (.cells #[.int .i64 ok, .int .i64 a, .bool b, .int .u64 (u : Int)] 46)).alloc (.cells #[.int .i64 0, .slice none 0 0, .slice none 0 0, .int .i64 0, .slice none 0 0] 34) := hw1
  rw [← hw1]
  clear hw1
  obtain ⟨o0, o1, o2, o3, ol⟩ := o4_all X1.o
  go_upto_region 19 with (go_at_call 34; with_reducible refine PN.out.mono ?_; rintro e w2 ⟨c', uv, rfl, l2, K2, O2, m2, N2, Q2, RB⟩)
  have S2 := X1.s.keeps K2 (fun q => q.elim (fun q => q lB1) (fun q => by omega))
  have Z2 := X1.z.keeps K2 (fun q => q.elim (fun q => q lB3) (fun q => by omega))
  have ml := World.block_lt_of_cell? w2 _ m2
  have L2 := Lib.hid l2
  have K2h := Lib.hid K2
  have RBh := Lib.hid RB
  clear l2 K2 RB PN X1 o0 o1 o2 o3 ol s1
  go_upto_region 20 with (go_at_call 34; with_reducible refine (TN.out _).mono ?_; rintro e w3 ⟨rfl, b3⟩)
  have SH := Lib.hid (fun W (k : Below w3.heap.size w3 W) => s5_all ((S2.below b3).below k))
  have ZH := Lib.hid (fun W (k : Below w3.heap.size w3 W) => (Z2.below b3).below k)
  have OH := Lib.hid (fun W (k : Below w3.heap.size w3 W) => (o4_all ((O2.below b3).below k)).2.2.2.1)
  have MH := Lib.hid (fun W (k : Below w3.heap.size w3 W) => ((b3.trans (k.mono b3.size)).cell (p := ⟨w1.heap.size, 0, none⟩) ml).trans m2)
  have QH := Lib.hid (Q2.below b3)
  have NH := Lib.hid (N2.below b3)
  have FH := Lib.hid (fun wE hl' (k : Below w3.heap.size w3 wE) (q : QO18 wE (fun j => w2.heap.size ≤ j) hl' (hups u H)) => FIN.out c' w2 wE hl' L2.out K2h.out (b3.trans (k.mono b3.size)) (RBh.out hl' wE (b3.trans (k.mono b3.size)) q))
  have KS := Lib.hid (show ∀ W, Below w3.heap.size w3 W → (W.cell? ⟨w.heap.size, 0, none⟩ = some (.int .i64 3) ∧ W.cell? ⟨w.heap.size, 1, none⟩ = some (.slice va vn vc) ∧ W.cell? ⟨w.heap.size, 2, none⟩ = some (.slice fa fn fc) ∧ W.cell? ⟨w.heap.size, 3, none⟩ = some (.int .i64 (rm : Int)) ∧ W.cell? ⟨w.heap.size, 4, none⟩ = some (.slice ha nh hc) ∧ W.cell? ⟨w.heap.size + 1, 3, none⟩ = some (.int .u64 (u : Int)) ∧ W.cell? ⟨w1.heap.size, 0, none⟩ = some uv) from fun W k => by
    obtain ⟨s0, s1, s2, s3, s4, sf, sl⟩ := SH.out W k
    exact ⟨s0, s1, s2, s3, s4, OH.out W k, MH.out W k⟩)
  have KS2 := Lib.hid (show ∀ W x4, Below w3.heap.size w3 W → ((((((W.setCell ⟨w.heap.size + 1 + 1, 0, none⟩ (.int .i64 3)).setCell ⟨w.heap.size + 1 + 1, 1, none⟩ (.slice va vn vc)).setCell ⟨w.heap.size + 1 + 1, 2, none⟩ (.slice fa fn fc)).setCell ⟨w.heap.size + 1 + 1, 3, none⟩ (.int .i64 (rm : Int))).setCell ⟨w.heap.size + 1 + 1, 4, none⟩ x4).cell? ⟨w.heap.size, 0, none⟩ = some (.int .i64 3) ∧ (((((W.setCell ⟨w.heap.size + 1 + 1, 0, none⟩ (.int .i64 3)).setCell ⟨w.heap.size + 1 + 1, 1, none⟩ (.slice va vn vc)).setCell ⟨w.heap.size + 1 + 1, 2, none⟩ (.slice fa fn fc)).setCell ⟨w.heap.size + 1 + 1, 3, none⟩ (.int .i64 (rm : Int))).setCell ⟨w.heap.size + 1 + 1, 4, none⟩ x4).cell? ⟨w.heap.size, 1, none⟩ = some (.slice va vn vc) ∧ (((((W.setCell ⟨w.heap.size + 1 + 1, 0, none⟩ (.int .i64 3)).setCell ⟨w.heap.size + 1 + 1, 1, none⟩ (.slice va vn vc)).setCell ⟨w.heap.size + 1 + 1, 2, none⟩ (.slice fa fn fc)).setCell ⟨w.heap.size + 1 + 1, 3, none⟩ (.int .i64 (rm : Int))).setCell ⟨w.heap.size + 1 + 1, 4, none⟩ x4).cell? ⟨w.heap.size, 2, none⟩ = some (.slice fa fn fc) ∧ (((((W.setCell ⟨w.heap.size + 1 + 1, 0, none⟩ (.int .i64 3)).setCell ⟨w.heap.size + 1 + 1, 1, none⟩ (.slice va vn vc)).setCell ⟨w.heap.size + 1 + 1, 2, none⟩ (.slice fa fn fc)).setCell ⟨w.heap.size + 1 + 1, 3, none⟩ (.int .i64 (rm : Int))).setCell ⟨w.heap.size + 1 + 1, 4, none⟩ x4).cell? ⟨w.heap.size, 3, none⟩ = some (.int .i64 (rm : Int)) ∧ (((((W.setCell ⟨w.heap.size + 1 + 1, 0, none⟩ (.int .i64 3)).setCell ⟨w.heap.size + 1 + 1, 1, none⟩ (.slice va vn vc)).setCell ⟨w.heap.size + 1 + 1, 2, none⟩ (.slice fa fn fc)).setCell ⟨w.heap.size + 1 + 1, 3, none⟩ (.int .i64 (rm : Int))).setCell ⟨w.heap.size + 1 + 1, 4, none⟩ x4).cell? ⟨w.heap.size, 4, none⟩ = some (.slice ha nh hc) ∧ (((((W.setCell ⟨w.heap.size + 1 + 1, 0, none⟩ (.int .i64 3)).setCell ⟨w.heap.size + 1 + 1, 1, none⟩ (.slice va vn vc)).setCell ⟨w.heap.size + 1 + 1, 2, none⟩ (.slice fa fn fc)).setCell ⟨w.heap.size + 1 + 1, 3, none⟩ (.int .i64 (rm : Int))).setCell ⟨w.heap.size + 1 + 1, 4, none⟩ x4).cell? ⟨w.heap.size + 1, 3, none⟩ = some (.int .u64 (u : Int)) ∧ (((((W.setCell ⟨w.heap.size + 1 + 1, 0, none⟩ (.int .i64 3)).setCell ⟨w.heap.size + 1 + 1, 1, none⟩ (.slice va vn vc)).setCell ⟨w.heap.size + 1 + 1, 2, none⟩ (.slice fa fn fc)).setCell ⟨w.heap.size + 1 + 1, 3, none⟩ (.int .i64 (rm : Int))).setCell ⟨w.heap.size + 1 + 1, 4, none⟩ x4).cell? ⟨w1.heap.size, 0, none⟩ = some uv) from fun W x4 k => by
    obtain ⟨s0, s1, s2, s3, s4, sf, sl⟩ := SH.out W k
    have o3 := OH.out W k
    have m3 := MH.out W k
    have K := keeps518 W (w.heap.size + 1 + 1) (.int .i64 3) (.slice va vn vc) (.slice fa fn fc) (.int .i64 (rm : Int)) x4
    have cc : ∀ (j i : Nat) (y : Value), j ≠ w.heap.size + 1 + 1 → W.cell? ⟨j, i, none⟩ = some y → (((((W.setCell ⟨w.heap.size + 1 + 1, 0, none⟩ (.int .i64 3)).setCell ⟨w.heap.size + 1 + 1, 1, none⟩ (.slice va vn vc)).setCell ⟨w.heap.size + 1 + 1, 2, none⟩ (.slice fa fn fc)).setCell ⟨w.heap.size + 1 + 1, 3, none⟩ (.int .i64 (rm : Int))).setCell ⟨w.heap.size + 1 + 1, 4, none⟩ x4).cell? ⟨j, i, none⟩ = some y := fun j i y hj h => (World.cell?_of_block (w := W) (K.block j (World.block_lt_of_cell? W _ h) hj)).trans h
    exact ⟨cc _ _ _ (by omega) s0, cc _ _ _ (by omega) s1, cc _ _ _ (by omega) s2, cc _ _ _ (by omega) s3, cc _ _ _ (by omega) s4, cc _ _ _ (by omega) o3, cc _ _ _ (by omega) m3⟩)
  have lz := b3.size
  have LZ := Lib.hid lz
  have nM : ¬ w.heap.size + 1 + 1 = w1.heap.size := by omega
  clear S2 Z2 m2 N2 Q2 O2 b3 ml TN FIN L2 K2h RBh SH OH MH lz lB1 lB3
  have BB0 : Below w3.heap.size w3 w3 := Below.refl _ _
  generalize hbx : w.heap.size = bx at *
  generalize hmx : w1.heap.size = mx at *
  go_region_held3 (fun W => W.cell? ⟨bx, 0, none⟩ = some (.int .i64 3) ∧ W.cell? ⟨bx, 1, none⟩ = some (.slice va vn vc) ∧ W.cell? ⟨bx, 2, none⟩ = some (.slice fa fn fc) ∧ W.cell? ⟨bx, 3, none⟩ = some (.int .i64 (rm : Int)) ∧ W.cell? ⟨bx, 4, none⟩ = some (.slice ha nh hc) ∧ W.cell? ⟨bx + 1, 3, none⟩ = some (.int .u64 (u : Int)) ∧ W.cell? ⟨mx, 0, none⟩ = some uv)
    (first
      | (refine KS.out _ ?_
         · repeat (first | with_reducible assumption | with_reducible refine Below.drew ?_)
         done)
      | (refine KS2.out _ _ ?_
         · repeat (first | with_reducible assumption | with_reducible refine Below.drew ?_)
         done)
      | (go_keep; done))
    (first
      | (go_at_call 36; with_reducible refine (MO.out _ (QH.out.below ?_)).mono ?_
         · repeat (first | with_reducible assumption | with_reducible refine Below.drew ?_)
         rintro e wm ⟨hm, rfl, Qm, bm⟩
         have BBm : Below w3.heap.size w3 wm := bTrans (by repeat (first | with_reducible assumption | with_reducible refine Below.drew ?_)) bm
         obtain ⟨ma, mc, rfl⟩ := Qm.slice)
      | (go_at_call 38; with_reducible refine (FI.out _ (QH.out.below ?_)).mono ?_
         · repeat (first | with_reducible assumption | with_reducible refine Below.drew ?_)
         rintro e wf ⟨vf, rfl, Nf, bf⟩
         have BBf : Below w3.heap.size w3 wf := bTrans (by repeat (first | with_reducible assumption | with_reducible refine Below.drew ?_)) bf)
      | (go_at_call 37; with_reducible refine (SA.out _ _ _ (NH.out.below ?_) (Nf.below ?_)).mono ?_
         · repeat (first | with_reducible assumption | with_reducible refine Below.drew ?_)
         · repeat (first | with_reducible exact Below.refl _ _ | with_reducible refine Below.drew ?_ | with_reducible refine bTrans ?_ bm)
         rintro e ws ⟨rfl, bs⟩
         have BBs : Below w3.heap.size w3 ws := bTrans (by repeat (first | with_reducible assumption | with_reducible refine Below.drew ?_)) bs
         have ZR := ZH.out _ BBs
         obtain ⟨z0, z1, z2, z3, z4, zf, zl⟩ := s5_all ZR))
  all_goals
    have Y1 := Qm.keeps (B' := fun j => w2.heap.size ≤ j) (Keeps.of (F := fun _ => False) bf) (fun _ _ _ h => h) (fun j _ h => Nat.le_trans LZ.out h)
    have Y2 := Y1.keeps (B' := fun j => w2.heap.size ≤ j) (Keeps.of (F := fun _ => False) bs) (fun _ _ _ h => h) (fun _ _ h => h)
    have DH := Lib.hid (FH.out ws _ BBs Y2)
    obtain ⟨y0, y1, y2, y3, y4, yf, yl⟩ := s5_all (s5_setA ZR 3 (.slice va vn vc) (.slice fa fn fc) (rm : Int) (.slice ma (hups u H).length mc))
    clear Y1 Y2 Qm Nf bm bf bs BBm BBf BBs BB0 FH QH NH FI MO SA KS KS2 ZH z0 z1 z2 z3 z4 zf zl
    go_wp2_with fail
    exact bodyPost_ret (v := .tuple #[stv18 (.slice va vn vc) (.slice fa fn fc) (rm : Int) (.slice ma (hups u H).length mc), .int .u64 (tz : Int), .bool true]) (by simp [results, Tryz.results10, go_sem, y0, y1, y2, y3, y4]) rfl DH.out
/-- every call that is no Add, told by both -/
theorem do18_any (ok a : Int) (b : Bool) (u : Nat) (hu : u < 18446744073709551616) (t : Int) (h9 : n < 400) (s : PB W0 D R hb pb mb mm n rm c v f hl H w) :
    Calls Tryz.prog 10 #[at0 hb, stv18 v f (rm : Int) hl, ov18 ok a b u, .int .i64 t] w (DoR18 W0 D R hb pb mb mm n c w) := by
  by_cases k1 : ok = 1
  · subst k1; exact do18_drop a b u t h9 s
  · by_cases k2 : ok = 2
    · subst k2; exact do18_get a b u t h9 s
    · by_cases k3 : ok = 3
      · subst k3; exact do18_set a b u hu t h9 s
      · exact do18_turn ok a b u k1 k2 k3 t h9 s
end
end Go.Proofs.YtdenhhokckjjaaaGreat
