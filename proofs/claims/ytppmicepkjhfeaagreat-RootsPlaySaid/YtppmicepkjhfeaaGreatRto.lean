/-
  haymowlaw19.turn: Turn and TurnWeak at both.
-/
import Derived.Test.YtppmicepkjhfeaaGreatRtn
import Derived.Deep.RegionHeld3
namespace Go.Proofs.YtppmicepkjhfeaaGreat
open Go.RowKit
set_option linter.unusedVariables false

theorem keeps_cell' {W W' : World} {q j i : Nat} {y : Value} (K : Keeps (fun j => j = q) W W') (hj : j ≠ q) (h : W.cell? ⟨j, i, none⟩ = some y) : W'.cell? ⟨j, i, none⟩ = some y := (World.cell?_of_block (w := W) (K.block j (World.block_lt_of_cell? W _ h) hj)).trans h
theorem nb19' (b : Nat) : ¬ b = b + 1 + 1 := by omega
theorem nb19r (b : Nat) : ¬ b + 1 + 1 = b := by omega
theorem nb19o (b : Nat) : ¬ b + 1 = b + 1 + 1 := by omega
section
variable {W0 : World} {D : Nat → Prop} {R R' : Nat → Nat} {B : BK} {n : Nat} {S S' T : List (List Nat)} {xs : List Nat} {G G' H H' : HS} {x x' : V19} {w w' w1 w2 w3 : World}
theorem yfl_le (S : List (List Nat)) : (yfl S).length ≤ fwn S := yfl_len S
/-- behind Turn: what the document's functions tell -/
theorem turn_docs (p : P19 W0 D R B n S G H x w) (h9 : n < 400) (d : DB' n (PR19 B R D) S G H x w2) {V : Nat → Nat} {u : Nat} (hV : ∀ y, y ∈ G.C → V y = hupv u (G.V y)) (s2 : RL W0 R B n (S.map (fun x => x.map (yup u))) false (G.with V) H w2) (hD : ∀ j, D j → j < w2.heap.size) :
    (∀ W, Below w2.heap.size w2 W → Calls Tryz.prog 60 #[x.val G.rm H.rm, .int .u64 (u : Int)] W fun e W' => ∃ Fa Fn Fc la ln lc, e = .returned (V19.val { x with F := .slice Fa Fn Fc, gl := .slice la ln lc } G.rm H.rm) ∧ P19 W0 D R B n (S.map (fun x => x.map (yup u))) (G.with V) H { x with F := .slice Fa Fn Fc, gl := .slice la ln lc } W' ∧ Below W.heap.size W W') ∧
    (∀ W, Below w2.heap.size w2 W → Calls Tryz.prog 62 #[x.val G.rm H.rm] W fun e W' => ∃ v, e = .returned v ∧ NL pw W' v (yfl S ++ hfz G.list) ∧ Below W.heap.size W W') := by
  have sc := p.sc
  obtain ⟨⟨Fa, Fc, e1⟩, ⟨gva, gvn, gvc, e2⟩, ⟨gfa, gfn, gfc, e3⟩, ⟨gla, glc, e4⟩, ⟨hva, hvn, hvc, e5⟩, ⟨hfa, hfn, hfc, e6⟩, ⟨hla, hlc, e7⟩⟩ := p.slices
  obtain ⟨xF, xgv, xgf, xgl, xhv, xhf, xhl⟩ := x
  dsimp only at e1 e2 e3 e4 e5 e6 e7
  subst e1 e2 e3 e4 e5 e6 e7
  have lx := p.s.sl
  have ly : (yfl S).length ≤ 103200 := Nat.le_trans (yfl_le S) sc.2.2.2.2.2.1
  have lh : (hfz G.list).length ≤ 400 := by have := hfz_len G.list; rw [HS.list_len] at this; omega
  refine ⟨fun W k => ?_, fun W k => ?_⟩
  · have dW := d.below k
    have sW := s2.below k
    refine (rmore19 (Fa := Fa) (Fn := S.length) (Fc := Fc) (gva := gva) (gvn := gvn) (gvc := gvc) (gfa := gfa) (gfn := gfn) (gfc := gfc) (gla := gla) (gln := G.C.length) (glc := glc) (hva := hva) (hvn := hvn) (hvc := hvc) (hfa := hfa) (hfn := hfn) (hfc := hfc) (hla := hla) (hln := H.C.length) (hlc := hlc) (gr := (G.rm : Int)) (hr := (H.rm : Int)) u W (fun F' w' => YW w' (fun j => PR19 B R D j ∧ j < W.heap.size ∨ W.heap.size + 2 ≤ j) F' (S.map (fun x : List Nat => x.map (yup u))).reverse)
      (fun F' wa wb q kk => q.keeps kk (fun j _ h z => by rcases h with h | h <;> have := z.1 <;> have := z.2 <;> omega) (fun _ _ h => h)) (fun F' wa wb q kb => q.below kb)
      (fun l' w' => DocS n (fun j => PR19 B R D j ∧ j < W.heap.size ∨ W.heap.size + 2 ≤ j) (G.with V) (.slice gva gvn gvc) (.slice gfa gfn gfc) l' w')
      (fun F' wa wb q kk => q.keeps kk (fun j _ h z => by rcases h with h | h <;> have := z.1 <;> have := z.2 <;> omega) (fun _ _ h => h))
      (fun w' k' ls => ?_) (fun w' k' ls => ?_)).mono ?_
    · refine (ymore_any _ u _ S.reverse w' (dW.y.below k') (by rw [List.length_reverse]; omega) (fun x hx => by have := lx x (List.mem_reverse.1 hx); omega)).mono ?_
      rintro e w'' ⟨v', rfl, y', b'⟩
      obtain ⟨a', c', rfl⟩ := y'.slice
      refine ⟨a', _, c', rfl, ?_, b'⟩
      rw [← List.map_reverse]
      exact y'.mono (fun j q => .inr (by omega))
    · have gg : DocS n (fun j => PR19 B R D j ∧ j < W.heap.size) G (.slice gva gvn gvc) (.slice gfa gfn gfc) (.slice gla G.C.length glc) w' := dW.g.keeps (Keeps.of (F := fun _ => False) k') (fun _ _ _ h => h) (fun j hj h => ⟨h, hj⟩)
      refine (gg.more sc.1 sc.2.2.1 h9 u hV).mono ?_
      rintro e w'' ⟨l', rfl, b', q'⟩
      obtain ⟨a', c', rfl⟩ := q'.slices.2.2
      exact ⟨a', _, c', rfl, q'.mono (fun j q => q.elim .inl (fun q => .inr (by omega))), b'⟩
    · rintro e w3 ⟨Fa', Fn', Fc', la, ln, lc, rfl, y3, q3, b3⟩
      have up : ∀ j, (PR19 B R D j ∧ j < W.heap.size ∨ W.heap.size + 2 ≤ j) → PR19 B R D j := fun j q => q.elim (fun q => q.1) (fun q => ⟨(sW.fresh (by omega)).1, fun h => by have := hD j h; have := k.size; omega⟩)
      exact ⟨Fa', Fn', Fc', la, ln, lc, rfl, ⟨sW.below b3, ⟨y3.mono up, q3.mono up, dW.h.below b3⟩, p.bg, p.bh, fun j h => by have := hD j h; have := k.size; have := b3.size; omega, p.dz, p.dw⟩, b3⟩
  · have dW := d.below k
    refine (rfilled19 (Fa := Fa) (Fn := S.length) (Fc := Fc) (gva := gva) (gvn := gvn) (gvc := gvc) (gfa := gfa) (gfn := gfn) (gfc := gfc) (gla := gla) (gln := G.C.length) (glc := glc) (hva := hva) (hvn := hvn) (hvc := hvc) (hfa := hfa) (hfn := hfn) (hfc := hfc) (hla := hla) (hln := H.C.length) (hlc := hlc) (gr := (G.rm : Int)) (hr := (H.rm : Int)) (yfl S) (hfz G.list) (by omega) W (fun w' k' => ?_) (fun w' k' => ?_)).mono (fun e w3 h => h)
    · have C := yfilled_own _ _ S.reverse w' (dW.y.below k') (by rw [List.reverse_reverse]; omega)
      rw [List.reverse_reverse] at C
      exact C
    · exact (dW.g.below k').filled sc.1 sc.2.2.1 h9
set_option maxRecDepth 100000 in
set_option maxHeartbeats 8000000 in
theorem turn_all (m : Int) (u : Nat) (h9 : n < 400) (p : P19 W0 D R B n S G H x w) :
    Calls Tryz.prog 27 #[at0 B.rb, x.val G.rm H.rm, ov19 9 m u] w (DoR19 W0 D R B n w) := by
  obtain ⟨⟨Fa, Fc, e1⟩, ⟨gva, gvn, gvc, e2⟩, ⟨gfa, gfn, gfc, e3⟩, ⟨gla, glc, e4⟩, ⟨hva, hvn, hvc, e5⟩, ⟨hfa, hfn, hfc, e6⟩, ⟨hla, hlc, e7⟩⟩ := p.slices
  obtain ⟨xF, xgv, xgf, xgl, xhv, xhf, xhl⟩ := x
  dsimp only at e1 e2 e3 e4 e5 e6 e7
  subst e1 e2 e3 e4 e5 e6 e7
  obtain ⟨w1, hw1, X1, p1, B1⟩ := p.enter 9 m u
  have hD1 : D319 D w.heap.size (w.heap.size + 1) := .inr ⟨by omega, by omega⟩
  have PN := Lib.hid (p1.turn h9 hD1 X1.o)
  have P1 := Lib.hid p1
  have SA := Lib.hid (fun u' v' w' (hu : NL pw w' u' (yfl S ++ hfz G.list)) (hv : NL pw w' v' (yfl S ++ hfz G.list)) => ysame_true u' v' (yfl S ++ hfz G.list) w' hu hv (by
    have h1 := yfl_le S
    have h2 := p1.sc.2.2.2.2.2.1
    have h3 := hfz_len G.list
    have h4 := p1.sc.2.2.2.2.2.2.1
    rw [HS.list_len] at h3
    rw [List.length_append]; omega))
  have hmf : ∀ (fn : Fn) (first cap : Array Value) (w : World), (Instr.makeFunc fn first cap).run Tryz.prog w = .ok (.func fn first cap) w := fun _ _ _ _ => rfl
  have w1s : w.heap.size + 3 ≤ w1.heap.size := by have := X1.z.lt; omega
  go_enter Tryz.func27, Tryz.ntmps27
  go_upto_region 1 with fail
  replace hw1 : w1 = ((w.alloc (.cells #[.slice Fa S.length Fc, .int .i64 3, .slice gva gvn gvc, .slice gfa gfn gfc, .int .i64 (G.rm : Int), .slice gla G.C.length glc, .int .i64 3, .slice hva hvn hvc, .slice hfa hfn hfc, .int .i64 (H.rm : Int), .slice hla H.C.length hlc] 36)).alloc (.cells #[.int .i64 9, .int .i64 m, .int .u64 (u : Int)] 42)).alloc (.cells #[.slice none 0 0, .int .i64 0, .slice none 0 0, .slice none 0 0, .int .i64 0, .slice none 0 0, .int .i64 0, .slice none 0 0, .slice none 0 0, .int .i64 0, .slice none 0 0] 36) := hw1
  rw [← hw1]
  clear hw1
  obtain ⟨o0, o1, o2, ol⟩ := o3d_all X1.o
  clear p p1
  go_upto_region 5 with (go_at_call 59; with_reducible refine PN.out.mono ?_; rintro e w2 ⟨rfl, V, uv, hV, s2, K2, O2, m2, N2, d2⟩)
  have nb : ∀ j, w.heap.size ≤ j → j < w.heap.size + 3 → j ≠ w.heap.size + 1 → ¬ (rr B R j ≠ 0 ∨ j = w.heap.size + 1) := fun j h1 h2 h3 q => q.elim (fun q => q (P1.out.boxes h1 h2)) h3
  have S2 := X1.s.keeps K2 (nb _ (Nat.le_refl _) (by omega) (by omega))
  have Z2 := X1.z.keeps K2 (nb _ (by omega) (by omega) (by omega))
  have ml := World.block_lt_of_cell? w2 _ m2
  have dl2 : ∀ j, D319 D w.heap.size j → j < w2.heap.size := fun j h => Nat.lt_of_lt_of_le (P1.out.dl j h) K2.size
  obtain ⟨MO0, FI0⟩ := turn_docs P1.out h9 d2 hV s2 dl2
  dsimp only [V19.val] at MO0 FI0
  have MO := Lib.hid MO0
  have FI := Lib.hid FI0
  have TT := Lib.hid (show TR (rr B R) (rr B R) w w2 from ⟨(Keeps.of (F := fun j => rr B R j ≠ 0) B1).trans K2 (fun j hj q => q.elim id (fun q => by omega)), fun _ _ h => h⟩)
  have SH := Lib.hid S2
  have ZH := Lib.hid Z2
  have OH := Lib.hid O2
  have MH := Lib.hid m2
  have ML := Lib.hid ml
  have N2h := Lib.hid N2.nl
  have nM : w1.heap.size ≠ w.heap.size + 1 + 1 := by omega
  have KS := Lib.hid (show ∀ W, Below w2.heap.size w2 W → W.cell? ⟨w.heap.size, 0, none⟩ = some (.slice Fa S.length Fc) ∧ W.cell? ⟨w.heap.size, 1, none⟩ = some (.int .i64 3) ∧ W.cell? ⟨w.heap.size, 2, none⟩ = some (.slice gva gvn gvc) ∧ W.cell? ⟨w.heap.size, 3, none⟩ = some (.slice gfa gfn gfc) ∧ W.cell? ⟨w.heap.size, 4, none⟩ = some (.int .i64 (G.rm : Int)) ∧ W.cell? ⟨w.heap.size, 5, none⟩ = some (.slice gla G.C.length glc) ∧ W.cell? ⟨w.heap.size, 6, none⟩ = some (.int .i64 3) ∧ W.cell? ⟨w.heap.size, 7, none⟩ = some (.slice hva hvn hvc) ∧ W.cell? ⟨w.heap.size, 8, none⟩ = some (.slice hfa hfn hfc) ∧ W.cell? ⟨w.heap.size, 9, none⟩ = some (.int .i64 (H.rm : Int)) ∧ W.cell? ⟨w.heap.size, 10, none⟩ = some (.slice hla H.C.length hlc) ∧ W.cell? ⟨w.heap.size + 1, 2, none⟩ = some (.int .u64 (u : Int)) ∧ W.cell? ⟨w1.heap.size, 0, none⟩ = some uv from fun W k' => by
    obtain ⟨v0, v1, v2, v3, v4, v5, v6, v7, v8, v9, v10, vf, vl⟩ := c11_all (SH.out.below k')
    exact ⟨v0, v1, v2, v3, v4, v5, v6, v7, v8, v9, v10, (o3d_all (OH.out.below k')).2.2.1, (k'.cell (p := ⟨w1.heap.size, 0, none⟩) ML.out).trans MH.out⟩)
  have KS2 := Lib.hid (show ∀ W z0 z1 z2 z3 z4 z5 z6 z7 z8 z9 z10, Below w2.heap.size w2 W → (fun V' => V'.cell? ⟨w.heap.size, 0, none⟩ = some (.slice Fa S.length Fc) ∧ V'.cell? ⟨w.heap.size, 1, none⟩ = some (.int .i64 3) ∧ V'.cell? ⟨w.heap.size, 2, none⟩ = some (.slice gva gvn gvc) ∧ V'.cell? ⟨w.heap.size, 3, none⟩ = some (.slice gfa gfn gfc) ∧ V'.cell? ⟨w.heap.size, 4, none⟩ = some (.int .i64 (G.rm : Int)) ∧ V'.cell? ⟨w.heap.size, 5, none⟩ = some (.slice gla G.C.length glc) ∧ V'.cell? ⟨w.heap.size, 6, none⟩ = some (.int .i64 3) ∧ V'.cell? ⟨w.heap.size, 7, none⟩ = some (.slice hva hvn hvc) ∧ V'.cell? ⟨w.heap.size, 8, none⟩ = some (.slice hfa hfn hfc) ∧ V'.cell? ⟨w.heap.size, 9, none⟩ = some (.int .i64 (H.rm : Int)) ∧ V'.cell? ⟨w.heap.size, 10, none⟩ = some (.slice hla H.C.length hlc) ∧ V'.cell? ⟨w.heap.size + 1, 2, none⟩ = some (.int .u64 (u : Int)) ∧ V'.cell? ⟨w1.heap.size, 0, none⟩ = some uv) (((((((((((W.setCell ⟨(w.heap.size + 1 + 1), 0, none⟩ z0).setCell ⟨(w.heap.size + 1 + 1), 1, none⟩ z1).setCell ⟨(w.heap.size + 1 + 1), 2, none⟩ z2).setCell ⟨(w.heap.size + 1 + 1), 3, none⟩ z3).setCell ⟨(w.heap.size + 1 + 1), 4, none⟩ z4).setCell ⟨(w.heap.size + 1 + 1), 5, none⟩ z5).setCell ⟨(w.heap.size + 1 + 1), 6, none⟩ z6).setCell ⟨(w.heap.size + 1 + 1), 7, none⟩ z7).setCell ⟨(w.heap.size + 1 + 1), 8, none⟩ z8).setCell ⟨(w.heap.size + 1 + 1), 9, none⟩ z9).setCell ⟨(w.heap.size + 1 + 1), 10, none⟩ z10) from fun W z0 z1 z2 z3 z4 z5 z6 z7 z8 z9 z10 k' => by
    have K := keeps11 W (w.heap.size + 1 + 1) z0 z1 z2 z3 z4 z5 z6 z7 z8 z9 z10
    obtain ⟨v0, v1, v2, v3, v4, v5, v6, v7, v8, v9, v10, vf, vl⟩ := c11_all ((SH.out.below k').keeps K (nb19' _))
    exact ⟨v0, v1, v2, v3, v4, v5, v6, v7, v8, v9, v10, keeps_cell' K (nb19o _) (o3d_all (OH.out.below k')).2.2.1, keeps_cell' K nM ((k'.cell (p := ⟨w1.heap.size, 0, none⟩) ML.out).trans MH.out)⟩)
  have KS3 := Lib.hid (show ∀ W z0 z1 z2 z3 z4 z5 z6 z7 z8 z9 z10, Below w2.heap.size w2 W → (fun V' => V'.cell? ⟨w.heap.size, 0, none⟩ = some (.slice Fa S.length Fc) ∧ V'.cell? ⟨w.heap.size, 1, none⟩ = some (.int .i64 3) ∧ V'.cell? ⟨w.heap.size, 2, none⟩ = some (.slice gva gvn gvc) ∧ V'.cell? ⟨w.heap.size, 3, none⟩ = some (.slice gfa gfn gfc) ∧ V'.cell? ⟨w.heap.size, 4, none⟩ = some (.int .i64 (G.rm : Int)) ∧ V'.cell? ⟨w.heap.size, 5, none⟩ = some (.slice gla G.C.length glc) ∧ V'.cell? ⟨w.heap.size, 6, none⟩ = some (.int .i64 3) ∧ V'.cell? ⟨w.heap.size, 7, none⟩ = some (.slice hva hvn hvc) ∧ V'.cell? ⟨w.heap.size, 8, none⟩ = some (.slice hfa hfn hfc) ∧ V'.cell? ⟨w.heap.size, 9, none⟩ = some (.int .i64 (H.rm : Int)) ∧ V'.cell? ⟨w.heap.size, 10, none⟩ = some (.slice hla H.C.length hlc) ∧ V'.cell? ⟨w.heap.size + 1, 2, none⟩ = some (.int .u64 (u : Int)) ∧ V'.cell? ⟨w1.heap.size, 0, none⟩ = some uv) (((((((((((W.setCell ⟨(w.heap.size + 1 + 1), 0, none⟩ z0).setCell ⟨(w.heap.size + 1 + 1), 1, none⟩ z1).setCell ⟨(w.heap.size + 1 + 1), 2, none⟩ z2).setCell ⟨(w.heap.size + 1 + 1), 3, none⟩ z3).setCell ⟨(w.heap.size + 1 + 1), 4, none⟩ z4).setCell ⟨(w.heap.size + 1 + 1), 5, none⟩ z5).setCell ⟨(w.heap.size + 1 + 1), 6, none⟩ z6).setCell ⟨(w.heap.size + 1 + 1), 7, none⟩ z7).setCell ⟨(w.heap.size + 1 + 1), 8, none⟩ z8).setCell ⟨(w.heap.size + 1 + 1), 9, none⟩ z9).setCell ⟨(w.heap.size + 1 + 1), 10, none⟩ z10).drew from fun W z0 z1 z2 z3 z4 z5 z6 z7 z8 z9 z10 k' => by
    have h := KS2.out W z0 z1 z2 z3 z4 z5 z6 z7 z8 z9 z10 k'
    simp only [World.cell?_drew]
    exact h)
  clear o0 o1 o2 ol X1 B1 P1 PN hV s2 K2 O2 m2 N2 d2 nb S2 Z2 ml dl2 MO0 FI0 hmf w1s hD1
  have BB0 : Below w2.heap.size w2 w2 := Below.refl _ _
  go_region_held3 (fun W => W.cell? ⟨w.heap.size, 0, none⟩ = some (.slice Fa S.length Fc) ∧ W.cell? ⟨w.heap.size, 1, none⟩ = some (.int .i64 3) ∧ W.cell? ⟨w.heap.size, 2, none⟩ = some (.slice gva gvn gvc) ∧ W.cell? ⟨w.heap.size, 3, none⟩ = some (.slice gfa gfn gfc) ∧ W.cell? ⟨w.heap.size, 4, none⟩ = some (.int .i64 (G.rm : Int)) ∧ W.cell? ⟨w.heap.size, 5, none⟩ = some (.slice gla G.C.length glc) ∧ W.cell? ⟨w.heap.size, 6, none⟩ = some (.int .i64 3) ∧ W.cell? ⟨w.heap.size, 7, none⟩ = some (.slice hva hvn hvc) ∧ W.cell? ⟨w.heap.size, 8, none⟩ = some (.slice hfa hfn hfc) ∧ W.cell? ⟨w.heap.size, 9, none⟩ = some (.int .i64 (H.rm : Int)) ∧ W.cell? ⟨w.heap.size, 10, none⟩ = some (.slice hla H.C.length hlc) ∧ W.cell? ⟨w.heap.size + 1, 2, none⟩ = some (.int .u64 (u : Int)) ∧ W.cell? ⟨w1.heap.size, 0, none⟩ = some uv)
    (first
      | (with_reducible refine KS.out _ ?_
         · repeat (first | with_reducible assumption | with_reducible refine Below.drew ?_)
         done)
      | (with_reducible refine KS2.out _ _ _ _ _ _ _ _ _ _ _ _ ?_
         · repeat (first | with_reducible assumption | with_reducible refine Below.drew ?_)
         done)
      | (with_reducible refine KS3.out _ _ _ _ _ _ _ _ _ _ _ _ ?_
         · repeat (first | with_reducible assumption | with_reducible refine Below.drew ?_)
         done)
      | (go_keep; done))
    (first
      | (go_at_call 60; with_reducible refine (MO.out _ ?_).mono ?_
         · repeat (first | with_reducible assumption | with_reducible refine Below.drew ?_)
         rintro e wm ⟨Fa', Fn', Fc', la, ln, lc, rfl, Pm, bm⟩
         have BBm : Below w2.heap.size w2 wm := bTrans (by repeat (first | with_reducible assumption | with_reducible refine Below.drew ?_)) bm)
      | (go_at_call 62; with_reducible refine (FI.out _ ?_).mono ?_
         · repeat (first | with_reducible assumption | with_reducible refine Below.drew ?_)
         rintro e wf ⟨vf, rfl, Nf, bf⟩
         have BBf : Below w2.heap.size w2 wf := bTrans (by repeat (first | with_reducible assumption | with_reducible refine Below.drew ?_)) bf)
      | (go_at_call 61; with_reducible refine (SA.out _ _ _ (N2h.out.below ?_) (Nf.below ?_)).mono ?_
         · repeat (first | with_reducible assumption | with_reducible refine Below.drew ?_)
         · repeat (first | with_reducible exact Below.refl _ _ | with_reducible refine Below.drew ?_ | with_reducible refine bTrans ?_ bm)
         rintro e ws ⟨rfl, bs⟩
         have BBs : Below w2.heap.size w2 ws := bTrans (by repeat (first | with_reducible assumption | with_reducible refine Below.drew ?_)) bs
         have ZR := ZH.out.below BBs
         obtain ⟨z0, z1, z2, z3, z4, z5, z6, z7, z8, z9, z10, zf, zl⟩ := c11_all ZR))
  all_goals
    have Ps := (Lib.hid ((Pm.below bf).below bs)).out.up h9
    have TTs := Lib.hid (TT.out.below' BBs)
    obtain ⟨y0, y1, y2, y3, y4, y5, y6, y7, y8, y9, y10, yf, yl⟩ := c11_all (ZR.put11 (.slice Fa' Fn' Fc') (.int .i64 3) (.slice gva gvn gvc) (.slice gfa gfn gfc) (.int .i64 (G.rm : Int)) (.slice la ln lc) (.int .i64 3) (.slice hva hvn hvc) (.slice hfa hfn hfc) (.int .i64 (H.rm : Int)) (.slice hla H.C.length hlc))
    have FIN := Lib.hid (Ps.fin TTs.out (keeps11 ws (w.heap.size + 1 + 1) (.slice Fa' Fn' Fc') (.int .i64 3) (.slice gva gvn gvc) (.slice gfa gfn gfc) (.int .i64 (G.rm : Int)) (.slice la ln lc) (.int .i64 3) (.slice hva hvn hvc) (.slice hfa hfn hfc) (.int .i64 (H.rm : Int)) (.slice hla H.C.length hlc)))
    clear Ps TTs ZR Pm Nf bm bf bs BBm BBf BBs BB0 KS KS2 KS3 MO FI SA SH ZH OH MH ML N2h TT
    go_wp2_with fail
    exact bodyPost_ret (v := .tuple #[dv19 (.slice Fa' Fn' Fc') (.slice gva gvn gvc) (.slice gfa gfn gfc) (G.rm : Int) (.slice la ln lc) (.slice hva hvn hvc) (.slice hfa hfn hfc) (H.rm : Int) (.slice hla H.C.length hlc), .bool true]) (by simp [results, Tryz.results27, go_sem, y0, y1, y2, y3, y4, y5, y6, y7, y8, y9, y10]) rfl FIN.out
/-- behind TurnWeak: what the document's functions tell -/
theorem turnw_docs (p : P19 W0 D R B n S G H x w) (h9 : n < 400) (d : DB' n (PR19 B R D) S G H x w2) {V : Nat → Nat} {u : Nat} (hV : ∀ y, y ∈ H.C → V y = hupv u (H.V y)) (s2 : RL W0 R B n S false G (H.with V) w2) (hD : ∀ j, D j → j < w2.heap.size) :
    (∀ W, Below w2.heap.size w2 W → Calls Tryz.prog 65 #[stv18 x.hv x.hf (H.rm : Int) x.hl, .int .u64 (u : Int)] W fun e W' => ∃ la ln lc, e = .returned (stv18 x.hv x.hf (H.rm : Int) (.slice la ln lc)) ∧ P19 W0 D R B n S G (H.with V) { x with hl := .slice la ln lc } W' ∧ Below W.heap.size W W') ∧
    (∀ W, Below w2.heap.size w2 W → Calls Tryz.prog 64 #[stv18 x.hv x.hf (H.rm : Int) x.hl] W fun e W' => ∃ v, e = .returned v ∧ YU W' (fun j => W.heap.size ≤ j) v (hfz H.list) ∧ Below W.heap.size W W') := by
  have sc := p.sc
  refine ⟨fun W k => ?_, fun W k => ?_⟩
  · have dW := d.below k
    have sW := s2.below k
    refine (dW.h.more sc.2.1 sc.2.2.2.1 h9 u hV).mono ?_
    rintro e w3 ⟨l', rfl, b', q'⟩
    have q4 := q'
    obtain ⟨a', c', rfl⟩ := q'.slices.2.2
    exact ⟨a', _, c', rfl, ⟨sW.below b', ⟨dW.y.below b', dW.g.below b', q4.mono (fun j q => q.elim id (fun q => ⟨(sW.fresh q).1, fun h => by have := hD j h; have := k.size; omega⟩))⟩, p.bg, p.bh, fun j h => by have := hD j h; have := k.size; have := b'.size; omega, p.dz, p.dw⟩, b'⟩
  · exact (d.below k).h.filledw sc.2.1 sc.2.2.2.1 h9
set_option maxRecDepth 100000 in
set_option maxHeartbeats 8000000 in
theorem turn_weak (kd m : Int) (u : Nat) (hk : ¬ kd = 9) (h9 : n < 400) (p : P19 W0 D R B n S G H x w) :
    Calls Tryz.prog 27 #[at0 B.rb, x.val G.rm H.rm, ov19 kd m u] w (DoR19 W0 D R B n w) := by
  have hk2 : (kd == 9) = false := by simpa using hk
  obtain ⟨⟨Fa, Fc, e1⟩, ⟨gva, gvn, gvc, e2⟩, ⟨gfa, gfn, gfc, e3⟩, ⟨gla, glc, e4⟩, ⟨hva, hvn, hvc, e5⟩, ⟨hfa, hfn, hfc, e6⟩, ⟨hla, hlc, e7⟩⟩ := p.slices
  obtain ⟨xF, xgv, xgf, xgl, xhv, xhf, xhl⟩ := x
  dsimp only at e1 e2 e3 e4 e5 e6 e7
  subst e1 e2 e3 e4 e5 e6 e7
  obtain ⟨w1, hw1, X1, p1, B1⟩ := p.enter kd m u
  have hD1 : D319 D w.heap.size (w.heap.size + 1) := .inr ⟨by omega, by omega⟩
  have PN := Lib.hid (p1.turnw h9 hD1 X1.o)
  have P1 := Lib.hid p1
  have SA := Lib.hid (fun u' v' w' (hu : NL pw w' u' (hfz H.list)) (hv : NL pw w' v' (hfz H.list)) => ysame_true u' v' (hfz H.list) w' hu hv (by
    have h3 := hfz_len H.list
    have h4 := p1.sc.2.2.2.2.2.2.2
    rw [HS.list_len] at h3
    omega))
  have hmf : ∀ (fn : Fn) (first cap : Array Value) (w : World), (Instr.makeFunc fn first cap).run Tryz.prog w = .ok (.func fn first cap) w := fun _ _ _ _ => rfl
  have w1s : w.heap.size + 3 ≤ w1.heap.size := by have := X1.z.lt; omega
  go_enter Tryz.func27, Tryz.ntmps27
  go_upto_region 1 with fail
  replace hw1 : w1 = ((w.alloc (.cells #[.slice Fa S.length Fc, .int .i64 3, .slice gva gvn gvc, .slice gfa gfn gfc, .int .i64 (G.rm : Int), .slice gla G.C.length glc, .int .i64 3, .slice hva hvn hvc, .slice hfa hfn hfc, .int .i64 (H.rm : Int), .slice hla H.C.length hlc] 36)).alloc (.cells #[.int .i64 kd, .int .i64 m, .int .u64 (u : Int)] 42)).alloc (.cells #[.slice none 0 0, .int .i64 0, .slice none 0 0, .slice none 0 0, .int .i64 0, .slice none 0 0, .int .i64 0, .slice none 0 0, .slice none 0 0, .int .i64 0, .slice none 0 0] 36) := hw1
  rw [← hw1]
  clear hw1
  obtain ⟨o0, o1, o2, ol⟩ := o3d_all X1.o
  clear p p1
  go_upto_region 7 with (go_at_call 63; with_reducible refine PN.out.mono ?_; rintro e w2 ⟨rfl, V, uv, hV, s2, K2, O2, m2, N2, d2⟩)
  have nb : ∀ j, w.heap.size ≤ j → j < w.heap.size + 3 → j ≠ w.heap.size + 1 → ¬ (rr B R j ≠ 0 ∨ j = w.heap.size + 1) := fun j h1 h2 h3 q => q.elim (fun q => q (P1.out.boxes h1 h2)) h3
  have S2 := X1.s.keeps K2 (nb _ (Nat.le_refl _) (by omega) (by omega))
  have Z2 := X1.z.keeps K2 (nb _ (by omega) (by omega) (by omega))
  have ml := World.block_lt_of_cell? w2 _ m2
  have dl2 : ∀ j, D319 D w.heap.size j → j < w2.heap.size := fun j h => Nat.lt_of_lt_of_le (P1.out.dl j h) K2.size
  obtain ⟨MO0, FI0⟩ := turnw_docs P1.out h9 d2 hV s2 dl2
  dsimp only at MO0 FI0
  have MO := Lib.hid MO0
  have FI := Lib.hid FI0
  have TT2 := Lib.hid (show TR (rr B R) (rr B R) w w2 from ⟨(Keeps.of (F := fun j => rr B R j ≠ 0) B1).trans K2 (fun j hj q => q.elim id (fun q => by omega)), fun _ _ h => h⟩)
  have nM : w1.heap.size ≠ w.heap.size + 1 + 1 := by omega
  have nM0 : w1.heap.size ≠ w.heap.size := by omega
  have w1sz : w.heap.size < w1.heap.size := by omega
  have w2sz : w1.heap.size ≤ w2.heap.size := K2.size
  clear o0 o1 o2 ol X1 B1 P1 PN hV s2 K2 d2 nb dl2 MO0 FI0 hmf w1s hD1
  obtain ⟨q0, q1, q2, q3, q4, q5, q6, q7, q8, q9, q10, qf, ql⟩ := c11_all S2
  go_upto_region 8 with (go_at_call 64; with_reducible refine (FI.out _ (Below.refl _ _)).mono ?_; rintro e w3 ⟨vf, rfl, N3, b3⟩)
  have S3 := S2.below b3
  have Z3 := Z2.below b3
  have O3 := O2.below b3
  have m3 := (b3.cell (p := ⟨w1.heap.size, 0, none⟩) ml).trans m2
  have ml3 := World.block_lt_of_cell? w3 _ m3
  have NU3 := N2.below b3
  clear q0 q1 q2 q3 q4 q5 q6 q7 q8 q9 q10 qf ql
  clear S2 Z2 O2 m2 ml N2 FI
  obtain ⟨q0, q1, q2, q3, q4, q5, q6, q7, q8, q9, q10, qf, ql⟩ := c11_all S3
  obtain ⟨o0, o1, o2, ol⟩ := o3d_all O3
  go_upto_region 9 with (go_at_call 65; with_reducible refine (MO.out _ b3).mono ?_; rintro e w4 ⟨la, ln, lc, rfl, P4, b4⟩; have S4 := S3.below b4; obtain ⟨v0, v1, v2, v3, v4, v5, v6, v7, v8, v9, v10, vf, vl⟩ := c11_all S4)
  have Z4 := Z3.below b4
  have k5 := keeps11H w4 w.heap.size (.int .i64 3) (.slice hva hvn hvc) (.slice hfa hfn hfc) (.int .i64 (H.rm : Int)) (.slice la ln lc)
  have S5 := S4.put11H (.int .i64 3) (.slice hva hvn hvc) (.slice hfa hfn hfc) (.int .i64 (H.rm : Int)) (.slice la ln lc)
  have Z5 := Z4.keeps k5 (nb19r _)
  have m5 := keeps_cell' k5 nM0 ((b4.cell (p := ⟨w1.heap.size, 0, none⟩) ml3).trans m3)
  have P5 := Lib.hid ((P4.put k5 (Nat.le_refl _) (by omega)).up h9)
  have NU5 := Lib.hid (((NU3.below b4).keeps k5 (fun j _ q e => by subst e; omega) (fun _ _ q => q)).nl)
  have NF5 := Lib.hid (((N3.below b4).keeps k5 (fun j _ q e => by subst e; omega) (fun _ _ q => q)).nl)
  have TT := Lib.hid (((TT2.out.below' b3).below' b4).own11 (q := w.heap.size) (Nat.le_refl _) k5)
  clear q0 q1 q2 q3 q4 q5 q6 q7 q8 q9 q10 qf ql
  clear v0 v1 v2 v3 v4 v5 v6 v7 v8 v9 v10 vf vl
  clear S3 Z3 O3 m3 ml3 NU3 S4 Z4 P4 b3 b4 N3 k5 nM0 MO o0 o1 o2 ol TT2 w1sz w2sz
  generalize (((((w4.setCell ⟨w.heap.size, 6, none⟩ (.int .i64 3)).setCell ⟨w.heap.size, 7, none⟩ (.slice hva hvn hvc)).setCell ⟨w.heap.size, 8, none⟩ (.slice hfa hfn hfc)).setCell ⟨w.heap.size, 9, none⟩ (.int .i64 (H.rm : Int))).setCell ⟨w.heap.size, 10, none⟩ (.slice la ln lc)) = w5 at *
  have ml := Lib.hid (World.block_lt_of_cell? w5 _ m5)
  have MH := Lib.hid m5
  have SH := Lib.hid S5
  have ZH := Lib.hid Z5
  have KS := Lib.hid (show ∀ W, Below w5.heap.size w5 W → W.cell? ⟨w.heap.size, 0, none⟩ = some (.slice Fa S.length Fc) ∧ W.cell? ⟨w.heap.size, 1, none⟩ = some (.int .i64 3) ∧ W.cell? ⟨w.heap.size, 2, none⟩ = some (.slice gva gvn gvc) ∧ W.cell? ⟨w.heap.size, 3, none⟩ = some (.slice gfa gfn gfc) ∧ W.cell? ⟨w.heap.size, 4, none⟩ = some (.int .i64 (G.rm : Int)) ∧ W.cell? ⟨w.heap.size, 5, none⟩ = some (.slice gla G.C.length glc) ∧ W.cell? ⟨w.heap.size, 6, none⟩ = some (.int .i64 3) ∧ W.cell? ⟨w.heap.size, 7, none⟩ = some (.slice hva hvn hvc) ∧ W.cell? ⟨w.heap.size, 8, none⟩ = some (.slice hfa hfn hfc) ∧ W.cell? ⟨w.heap.size, 9, none⟩ = some (.int .i64 (H.rm : Int)) ∧ W.cell? ⟨w.heap.size, 10, none⟩ = some (.slice la ln lc) ∧ W.cell? ⟨w1.heap.size, 0, none⟩ = some uv from fun W k' => by
    obtain ⟨v0, v1, v2, v3, v4, v5, v6, v7, v8, v9, v10, vf, vl⟩ := c11_all (SH.out.below k')
    exact ⟨v0, v1, v2, v3, v4, v5, v6, v7, v8, v9, v10, (k'.cell (p := ⟨w1.heap.size, 0, none⟩) ml.out).trans MH.out⟩)
  have KS2 := Lib.hid (show ∀ W z0 z1 z2 z3 z4 z5 z6 z7 z8 z9 z10, Below w5.heap.size w5 W → (fun V' => V'.cell? ⟨w.heap.size, 0, none⟩ = some (.slice Fa S.length Fc) ∧ V'.cell? ⟨w.heap.size, 1, none⟩ = some (.int .i64 3) ∧ V'.cell? ⟨w.heap.size, 2, none⟩ = some (.slice gva gvn gvc) ∧ V'.cell? ⟨w.heap.size, 3, none⟩ = some (.slice gfa gfn gfc) ∧ V'.cell? ⟨w.heap.size, 4, none⟩ = some (.int .i64 (G.rm : Int)) ∧ V'.cell? ⟨w.heap.size, 5, none⟩ = some (.slice gla G.C.length glc) ∧ V'.cell? ⟨w.heap.size, 6, none⟩ = some (.int .i64 3) ∧ V'.cell? ⟨w.heap.size, 7, none⟩ = some (.slice hva hvn hvc) ∧ V'.cell? ⟨w.heap.size, 8, none⟩ = some (.slice hfa hfn hfc) ∧ V'.cell? ⟨w.heap.size, 9, none⟩ = some (.int .i64 (H.rm : Int)) ∧ V'.cell? ⟨w.heap.size, 10, none⟩ = some (.slice la ln lc) ∧ V'.cell? ⟨w1.heap.size, 0, none⟩ = some uv) (((((((((((W.setCell ⟨(w.heap.size + 1 + 1), 0, none⟩ z0).setCell ⟨(w.heap.size + 1 + 1), 1, none⟩ z1).setCell ⟨(w.heap.size + 1 + 1), 2, none⟩ z2).setCell ⟨(w.heap.size + 1 + 1), 3, none⟩ z3).setCell ⟨(w.heap.size + 1 + 1), 4, none⟩ z4).setCell ⟨(w.heap.size + 1 + 1), 5, none⟩ z5).setCell ⟨(w.heap.size + 1 + 1), 6, none⟩ z6).setCell ⟨(w.heap.size + 1 + 1), 7, none⟩ z7).setCell ⟨(w.heap.size + 1 + 1), 8, none⟩ z8).setCell ⟨(w.heap.size + 1 + 1), 9, none⟩ z9).setCell ⟨(w.heap.size + 1 + 1), 10, none⟩ z10) from fun W z0 z1 z2 z3 z4 z5 z6 z7 z8 z9 z10 k' => by
    have K := keeps11 W (w.heap.size + 1 + 1) z0 z1 z2 z3 z4 z5 z6 z7 z8 z9 z10
    obtain ⟨v0, v1, v2, v3, v4, v5, v6, v7, v8, v9, v10, vf, vl⟩ := c11_all ((SH.out.below k').keeps K (nb19' _))
    exact ⟨v0, v1, v2, v3, v4, v5, v6, v7, v8, v9, v10, keeps_cell' K nM ((k'.cell (p := ⟨w1.heap.size, 0, none⟩) ml.out).trans MH.out)⟩)
  have KS3 := Lib.hid (show ∀ W z0 z1 z2 z3 z4 z5 z6 z7 z8 z9 z10, Below w5.heap.size w5 W → (fun V' => V'.cell? ⟨w.heap.size, 0, none⟩ = some (.slice Fa S.length Fc) ∧ V'.cell? ⟨w.heap.size, 1, none⟩ = some (.int .i64 3) ∧ V'.cell? ⟨w.heap.size, 2, none⟩ = some (.slice gva gvn gvc) ∧ V'.cell? ⟨w.heap.size, 3, none⟩ = some (.slice gfa gfn gfc) ∧ V'.cell? ⟨w.heap.size, 4, none⟩ = some (.int .i64 (G.rm : Int)) ∧ V'.cell? ⟨w.heap.size, 5, none⟩ = some (.slice gla G.C.length glc) ∧ V'.cell? ⟨w.heap.size, 6, none⟩ = some (.int .i64 3) ∧ V'.cell? ⟨w.heap.size, 7, none⟩ = some (.slice hva hvn hvc) ∧ V'.cell? ⟨w.heap.size, 8, none⟩ = some (.slice hfa hfn hfc) ∧ V'.cell? ⟨w.heap.size, 9, none⟩ = some (.int .i64 (H.rm : Int)) ∧ V'.cell? ⟨w.heap.size, 10, none⟩ = some (.slice la ln lc) ∧ V'.cell? ⟨w1.heap.size, 0, none⟩ = some uv) (((((((((((W.setCell ⟨(w.heap.size + 1 + 1), 0, none⟩ z0).setCell ⟨(w.heap.size + 1 + 1), 1, none⟩ z1).setCell ⟨(w.heap.size + 1 + 1), 2, none⟩ z2).setCell ⟨(w.heap.size + 1 + 1), 3, none⟩ z3).setCell ⟨(w.heap.size + 1 + 1), 4, none⟩ z4).setCell ⟨(w.heap.size + 1 + 1), 5, none⟩ z5).setCell ⟨(w.heap.size + 1 + 1), 6, none⟩ z6).setCell ⟨(w.heap.size + 1 + 1), 7, none⟩ z7).setCell ⟨(w.heap.size + 1 + 1), 8, none⟩ z8).setCell ⟨(w.heap.size + 1 + 1), 9, none⟩ z9).setCell ⟨(w.heap.size + 1 + 1), 10, none⟩ z10).drew from fun W z0 z1 z2 z3 z4 z5 z6 z7 z8 z9 z10 k' => by
    have h := KS2.out W z0 z1 z2 z3 z4 z5 z6 z7 z8 z9 z10 k'
    simp only [World.cell?_drew]
    exact h)
  obtain ⟨q0, q1, q2, q3, q4, q5, q6, q7, q8, q9, q10, qf, ql⟩ := c11_all S5
  clear S5 Z5
  have BB0 : Below w5.heap.size w5 w5 := Below.refl _ _
  go_region_held3 (fun W => W.cell? ⟨w.heap.size, 0, none⟩ = some (.slice Fa S.length Fc) ∧ W.cell? ⟨w.heap.size, 1, none⟩ = some (.int .i64 3) ∧ W.cell? ⟨w.heap.size, 2, none⟩ = some (.slice gva gvn gvc) ∧ W.cell? ⟨w.heap.size, 3, none⟩ = some (.slice gfa gfn gfc) ∧ W.cell? ⟨w.heap.size, 4, none⟩ = some (.int .i64 (G.rm : Int)) ∧ W.cell? ⟨w.heap.size, 5, none⟩ = some (.slice gla G.C.length glc) ∧ W.cell? ⟨w.heap.size, 6, none⟩ = some (.int .i64 3) ∧ W.cell? ⟨w.heap.size, 7, none⟩ = some (.slice hva hvn hvc) ∧ W.cell? ⟨w.heap.size, 8, none⟩ = some (.slice hfa hfn hfc) ∧ W.cell? ⟨w.heap.size, 9, none⟩ = some (.int .i64 (H.rm : Int)) ∧ W.cell? ⟨w.heap.size, 10, none⟩ = some (.slice la ln lc) ∧ W.cell? ⟨w1.heap.size, 0, none⟩ = some uv)
    (first
      | (with_reducible refine KS.out _ ?_
         · repeat (first | with_reducible assumption | with_reducible refine Below.drew ?_)
         done)
      | (with_reducible refine KS2.out _ _ _ _ _ _ _ _ _ _ _ _ ?_
         · repeat (first | with_reducible assumption | with_reducible refine Below.drew ?_)
         done)
      | (with_reducible refine KS3.out _ _ _ _ _ _ _ _ _ _ _ _ ?_
         · repeat (first | with_reducible assumption | with_reducible refine Below.drew ?_)
         done)
      | (go_keep; done))
    (first
      | (go_at_call 61; with_reducible refine (SA.out _ _ _ (NU5.out.below ?_) (NF5.out.below ?_)).mono ?_
         · repeat (first | with_reducible assumption | with_reducible refine Below.drew ?_)
         · repeat (first | with_reducible assumption | with_reducible refine Below.drew ?_)
         rintro e ws ⟨rfl, bs⟩
         have BBs : Below w5.heap.size w5 ws := bTrans (by repeat (first | with_reducible assumption | with_reducible refine Below.drew ?_)) bs
         have ZR := ZH.out.below BBs
         obtain ⟨z0, z1, z2, z3, z4, z5, z6, z7, z8, z9, z10, zf, zl⟩ := c11_all ZR))
  all_goals
    have Ps := P5.out.below BBs
    have TTs := Lib.hid (TT.out.below' BBs)
    obtain ⟨y0, y1, y2, y3, y4, y5, y6, y7, y8, y9, y10, yf, yl⟩ := c11_all (ZR.put11 (.slice Fa S.length Fc) (.int .i64 3) (.slice gva gvn gvc) (.slice gfa gfn gfc) (.int .i64 (G.rm : Int)) (.slice gla G.C.length glc) (.int .i64 3) (.slice hva hvn hvc) (.slice hfa hfn hfc) (.int .i64 (H.rm : Int)) (.slice la ln lc))
    have FIN := Lib.hid (Ps.fin TTs.out (keeps11 ws (w.heap.size + 1 + 1) (.slice Fa S.length Fc) (.int .i64 3) (.slice gva gvn gvc) (.slice gfa gfn gfc) (.int .i64 (G.rm : Int)) (.slice gla G.C.length glc) (.int .i64 3) (.slice hva hvn hvc) (.slice hfa hfn hfc) (.int .i64 (H.rm : Int)) (.slice la ln lc)))
    clear Ps TTs ZR bs BBs BB0 KS KS2 KS3 SA SH ZH MH ml NU5 NF5 TT P5
    go_wp2_with fail
    exact bodyPost_ret (v := .tuple #[dv19 (.slice Fa S.length Fc) (.slice gva gvn gvc) (.slice gfa gfn gfc) (G.rm : Int) (.slice gla G.C.length glc) (.slice hva hvn hvc) (.slice hfa hfn hfc) (H.rm : Int) (.slice la ln lc), .bool true]) (by simp [results, Tryz.results27, go_sem, y0, y1, y2, y3, y4, y5, y6, y7, y8, y9, y10]) rfl FIN.out
end
end Go.Proofs.YtppmicepkjhfeaaGreat
