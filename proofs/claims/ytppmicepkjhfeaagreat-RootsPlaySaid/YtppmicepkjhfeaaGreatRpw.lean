/-
  What haymowlaw19.RootsPlay holds; any one call at both; its walk.
-/
import Derived.Test.YtppmicepkjhfeaaGreatRdx
import Derived.Test.YtppmicepkjhfeaaGreatRdy
import Derived.Test.YtppmicepkjhfeaaGreatOps19
import Derived.Test.YtppmicepkjhfeaaGreatRtd
import Derived.Deep.DeepCutAuto
import Derived.Deep.RegionLaw
import Derived.Deep.RegionHeld3
import Derived.Deep.CutRange
import Derived.BigQuiet
namespace Go.Proofs.YtppmicepkjhfeaaGreat
open Go.RowKit
set_option linter.unusedVariables false

theorem at3_all19 {o : Op19} {w : World} {b p : Nat} (h : o.at3 w b p) : w.cell? ⟨b, p, none⟩ = some (.int .i64 o.k) ∧ w.cell? ⟨b, p + 1, none⟩ = some (.int .i64 o.n) ∧ w.cell? ⟨b, p + 2, none⟩ = some (.int .u64 (o.w : Int)) := h
theorem nq19 (k : Nat) : ((k : Int) != (k : Int)) = false := by simp
section
variable {W0 : World} {D : Nat → Prop} {R R' : Nat → Nat} {B : BK} {n n' S6 gs hs : Nat} {S S' T : List (List Nat)} {G G' H H' : HS} {x x' : V19} {w w' w1 : World}
/-- any one call -/
theorem do19_any (k m : Int) (u : Nat) (hm : -9223372036854775808 ≤ m) (hu : u < 18446744073709551616) (h9 : n < 400) (p : P19 W0 D R B n S G H x w) :
    Calls Tryz.prog 7 #[at0 B.rb, x.val G.rm H.rm, ov19 k m u] w (DoR19 W0 D R B n w) := by
  by_cases k0 : k = 0
  · subst k0; exact do_push m u h9 p
  by_cases k1 : k = 1
  · subst k1; exact do_pop m u h9 p
  by_cases k2 : k = 2
  · subst k2; exact do_add m u h9 p
  by_cases k3 : k = 3
  · subst k3; exact do_drop m u h9 p
  by_cases k4 : k = 4
  · subst k4; exact do_addw m u hu h9 p
  by_cases k5 : k = 5
  · subst k5; exact do_dropw m u h9 p
  by_cases k6 : k = 6
  · subst k6; exact do_weak m u h9 p
  by_cases k7 : k = 7
  · subst k7; exact do_set m u hm hu h9 p
  by_cases k9 : k = 9
  · subst k9; exact do_turn m u h9 p
  by_cases k10 : k = 10
  · subst k10; exact do_turnw m u h9 p
  exact do_get k m u k0 k1 k2 k3 k4 k5 k6 k7 k9 k10 hm h9 p
/-- both, and the document's box -/
structure LS19 (W0 : World) (R : Nat → Nat) (B : BK) (n S6 : Nat) (S : List (List Nat)) (G H : HS) (x : V19) (w : World) : Prop where
  p : P19 W0 (fun j => j = S6) R B n S G H x w
  r : Row w S6 11 (d11 x.F x.gv x.gf (G.rm : Int) x.gl x.hv x.hf (H.rm : Int) x.hl)
theorem LS19.below (s : LS19 W0 R B n S6 S G H x w) (k : Below w.heap.size w w') : LS19 W0 R B n S6 S G H x w' := ⟨s.p.below k, s.r.below k⟩
theorem LS19.z (s : LS19 W0 R B n S6 S G H x w) : rr B R S6 = 0 := s.p.dz _ rfl
theorem LS19.tr (s : LS19 W0 R B n S6 S G H x w) (s' : RL W0 R B n S false G H w') (t : TR (rr B R) (rr B R) w w') : LS19 W0 R B n S6 S G H x w' := ⟨s.p.same s' t, s.r.tr t s.z⟩
/-- the document's box is written -/
theorem LS19.put {F gv gf gl hv hf hl : Value} {f : Nat → Value} (p : P19 W0 (fun j => j = S6) R B n S G H ⟨F, gv, gf, gl, hv, hf, hl⟩ w') (r : Row w' S6 11 f) : LS19 W0 R B n S6 S G H ⟨F, gv, gf, gl, hv, hf, hl⟩ (((((((((((w'.setCell ⟨S6, 0, none⟩ F).setCell ⟨S6, 1, none⟩ (.int .i64 3)).setCell ⟨S6, 2, none⟩ gv).setCell ⟨S6, 3, none⟩ gf).setCell ⟨S6, 4, none⟩ (.int .i64 (G.rm : Int))).setCell ⟨S6, 5, none⟩ gl).setCell ⟨S6, 6, none⟩ (.int .i64 3)).setCell ⟨S6, 7, none⟩ hv).setCell ⟨S6, 8, none⟩ hf).setCell ⟨S6, 9, none⟩ (.int .i64 (H.rm : Int))).setCell ⟨S6, 10, none⟩ hl) :=
  ⟨p.aside (keeps11 w' S6 F (.int .i64 3) gv gf (.int .i64 (G.rm : Int)) gl (.int .i64 3) hv hf (.int .i64 (H.rm : Int)) hl) (fun j e => e), r.put11 F (.int .i64 3) gv gf (.int .i64 (G.rm : Int)) gl (.int .i64 3) hv hf (.int .i64 (H.rm : Int)) hl⟩
def LI19 (W0 : World) (B : BK) (S6 n : Nat) (w : World) : Prop := ∃ R S G H x, LS19 W0 R B n S6 S G H x w
theorem LS19.start (s : RL W0 R B 0 [] false (HS.none gs) (HS.none hs) w) : LS19 W0 R B 0 w.heap.size [] (HS.none gs) (HS.none hs) ⟨.slice none 0 0, .slice none 0 0, .slice none 0 0, .slice none 0 0, .slice none 0 0, .slice none 0 0, .slice none 0 0⟩ (w.alloc (.cells #[.slice none 0 0, .int .i64 3, .slice none 0 0, .slice none 0 0, .int .i64 0, .slice none 0 0, .int .i64 3, .slice none 0 0, .slice none 0 0, .int .i64 0, .slice none 0 0] 36)) := by
  have b := bAlloc (Below.refl w.heap.size w) (.cells #[.slice none 0 0, .int .i64 3, .slice none 0 0, .slice none 0 0, .int .i64 0, .slice none 0 0, .int .i64 3, .slice none 0 0, .slice none 0 0, .int .i64 0, .slice none 0 0] 36)
  exact ⟨⟨s.below b, ⟨YW.nil _ _, DocS.none _ _ _, DocS.none _ _ _⟩, rfl, rfl, fun j e => by subst e; simp, fun j e => (s.fresh (by omega)).1, fun j e => (s.fresh (by omega)).2⟩, bx19_row w _ _ _ _ _ _ _ _ _⟩
/-- the cells that the law reads -/
theorem LS19.cells (s : LS19 W0 R B n S6 S G H x w) : w.cell? ⟨S6, 0, none⟩ = some x.F ∧ w.cell? ⟨S6, 1, none⟩ = some (.int .i64 3) ∧ w.cell? ⟨S6, 2, none⟩ = some x.gv ∧ w.cell? ⟨S6, 3, none⟩ = some x.gf ∧ w.cell? ⟨S6, 4, none⟩ = some (.int .i64 (G.rm : Int)) ∧ w.cell? ⟨S6, 5, none⟩ = some x.gl ∧ w.cell? ⟨S6, 6, none⟩ = some (.int .i64 3) ∧ w.cell? ⟨S6, 7, none⟩ = some x.hv ∧ w.cell? ⟨S6, 8, none⟩ = some x.hf ∧ w.cell? ⟨S6, 9, none⟩ = some (.int .i64 (H.rm : Int)) ∧ w.cell? ⟨S6, 10, none⟩ = some x.hl ∧ w.cell? ⟨B.rb, 0, none⟩ = some (at0 B.fb) := by
  obtain ⟨h0, h1, h2, h3, h4, h5, h6, h7, h8, h9, h10, _, _⟩ := c11_all s.r
  exact ⟨h0, h1, h2, h3, h4, h5, h6, h7, h8, h9, h10, s.p.s.cells.1⟩
theorem list_at19 (G : HS) {i : Nat} (hi : i < G.C.length) : G.list.getD i (0, 0) = (G.t (G.C.getD i 0), G.V (G.C.getD i 0)) := map_getD18 (f := fun x => (G.t x, G.V x)) hi
/-- a handle of the document's list -/
theorem LS19.at {F gv gf hv hf hl : Value} {a : Option Addr} {m c : Nat} (s : LS19 W0 R B n S6 S G H ⟨F, gv, gf, .slice a m c, hv, hf, hl⟩ w) {k : Nat} (hk : k < G.C.length) : ∃ b off, a = some ⟨b, off, none⟩ ∧ ∀ w' : World, LS19 W0 R B n S6 S G H ⟨F, gv, gf, .slice a m c, hv, hf, hl⟩ w' → w'.cell? ⟨b, off + k * 2, none⟩ = some (.int .i64 ((G.t (G.C.getD k 0) : Nat) : Int)) ∧ w'.cell? ⟨b, off + k * 2 + 1, none⟩ = some (.int .u64 ((G.V (G.C.getD k 0) : Nat) : Int)) := by
  obtain ⟨b, off, rfl, _, _, _⟩ := PQ18.at (k := k) s.p.d.g.pq (by rw [HS.list_len]; exact hk)
  refine ⟨b, off, rfl, fun w' s' => ?_⟩
  obtain ⟨b', off', e, _, c0, c1⟩ := PQ18.at (k := k) s'.p.d.g.pq (by rw [HS.list_len]; exact hk)
  injection e with e
  injection e with e1 e2
  subst e1 e2
  rw [list_at19 G hk] at c0 c1
  exact ⟨c0, c1⟩
end
set_option maxRecDepth 100000 in
set_option maxHeartbeats 16000000 in
theorem play_in19 (F : List Op19) (w : World) (vl : Value) (hF : OL19 w vl F) (lF : F.length ≤ 60) :
    Calls Tryz.prog 3 #[vl] w fun e w' => e = .returned (.bool true) ∧ Below w.heap.size w w' := by
  have AW := Lib.hid (fun w => awake19_any w)
  have MD := Lib.hid (fun w => made19_ok w)
  have NW := Lib.hid (fun w => rnew19 w)
  have HF := Lib.hid hF
  obtain ⟨la, lc, rfl⟩ : ∃ a c, vl = .slice a F.length c := by obtain ⟨a, c, e, _⟩ := hF; exact ⟨a, c, e⟩
  obtain ⟨nf, hnf⟩ : ∃ nf, F.length = nf := ⟨_, rfl⟩
  rw [hnf] at lF ⊢
  have HNF := Lib.hid hnf
  have HLF := Lib.hid lF
  have sm : ¬ (60 : Int) < (nf : Int) := by omega
  clear hF hnf lF
  go_enter Tryz.func3, Tryz.ntmps3
  go_wp2_with fail
  with_reducible refine (AW.out _).mono ?_
  rintro e w1 ⟨rfl, b1⟩
  dsimp only
  go_wp2_with fail
  refine (MD.out _).mono ?_
  rintro e w2 ⟨R, B, gs, hs, rfl, S0⟩
  dsimp only
  go_upto_region 9 with (go_at_call 6; with_reducible refine (NW.out _).mono ?_; rintro e w3 ⟨rfl, b3⟩)
  have S1 := Lib.hid (show LI19 w B w3.heap.size 0 (w3.alloc (.cells #[.slice none 0 0, .int .i64 3, .slice none 0 0, .slice none 0 0, .int .i64 0, .slice none 0 0, .int .i64 3, .slice none 0 0, .slice none 0 0, .int .i64 0, .slice none 0 0] 36)) from ⟨R, _, _, _, _, LS19.start ((S0.since b1).below b3)⟩)
  generalize w3.alloc (.cells #[.slice none 0 0, .int .i64 3, .slice none 0 0, .slice none 0 0, .int .i64 0, .slice none 0 0, .int .i64 3, .slice none 0 0, .slice none 0 0, .int .i64 0, .slice none 0 0] 36) = w4 at *
  generalize w3.heap.size = S6 at *
  clear MD b1 S0 AW NW b3
  go_wp2_with fail
  go_loopw [4, 6] (fun ok i wr => ∃ j : Nat, j ≤ nf ∧ ok = .bool true ∧ i = .int .i64 (j : Int) ∧ LI19 w B S6 j wr) (fun _ i _ => nf - (intOf i).toNat)
  case atStart => exact ⟨0, Nat.zero_le _, rfl, rfl, S1.out⟩
  case round =>
    clear S1
    obtain ⟨j, hj, rfl, rfl, R, S, G, H, x, L⟩ := hrel
    have p := L.p
    obtain ⟨⟨Fa, Fc, e1⟩, ⟨gva, gvn, gvc, e2⟩, ⟨gfa, gfn, gfc, e3⟩, ⟨gla, glc, e4⟩, ⟨hva, hvn, hvc, e5⟩, ⟨hfa, hfn, hfc, e6⟩, ⟨hla, hlc, e7⟩⟩ := p.slices
    obtain ⟨xF, xgv, xgf, xgl, xhv, xhf, xhl⟩ := x
    dsimp only at e1 e2 e3 e4 e5 e6 e7
    subst e1 e2 e3 e4 e5 e6 e7
    clear p
    by_cases hlt : j < nf
    · have bel := L.p.s.o
      obtain ⟨lq, lo, rfl, ho, _⟩ := HF.out.at (k := j) (by rw [HNF.out]; exact hlt)
      have OC := Lib.hid (show ∀ w', Below w.heap.size w w' → (F.getD j Op19.none).at3 w' lq (lo + j * 3) from fun w' q => by
        obtain ⟨b', o', e, _, hc⟩ := (HF.out.below q).at (k := j) (by rw [HNF.out]; exact hlt)
        obtain ⟨rfl, rfl⟩ : b' = lq ∧ o' = lo := by injection e with e; injection e with e1 e2; exact ⟨e1.symm, e2.symm⟩
        exact hc)
      obtain ⟨jlt, e1, e2, e3, e4, e5⟩ := up18 hlt (Nat.le_trans HLF.out (by decide))
      have HT := Lib.hid hlt
      have J60 := Lib.hid (show j < 60 from Nat.lt_of_lt_of_le hlt HLF.out)
      have OK := Lib.hid ho
      generalize F.getD j Op19.none = o at *
      obtain ⟨j1, hj1⟩ : ∃ j1, j + 1 = j1 := ⟨_, rfl⟩
      rw [hj1] at e1 e2 e3
      have HJ1 := Lib.hid hj1
      obtain ⟨kd, om, ou⟩ := o
      have LH := Lib.hid L
      have DO0 := fun W (k : Below wr.heap.size wr W) => do19_any kd om ou OK.out.n.1 (Int.ofNat_lt.1 OK.out.w) (Nat.lt_trans J60.out (by decide)) (L.p.below k)
      unfold V19.val at DO0
      dsimp only at DO0
      have DO := Lib.hid DO0
      clear DO0 ho hlt hj hj1
      obtain ⟨q0, q1, q2, q3, q4, q5, q6, q7, q8, q9, q10, qf, ql⟩ := c11_all L.r
      obtain ⟨o0, o1, o2⟩ := at3_all19 (OC.out _ bel)
      dsimp only at o0 o1 o2
      have BB0 : Below wr.heap.size wr wr := Below.refl _ _
      clear L OC OK bel
      go_upto_region 12 with fail
      first
      | (go_region_with
          (go_at_call 7
           with_reducible refine (DO.out _ ?_).mono ?_
           · repeat (first | with_reducible assumption | with_reducible refine Below.drew ?_)
           rintro e w7 ⟨R', S', G', H', ⟨xF', xgv', xgf', xgl', xhv', xhf', xhl'⟩, rfl, P7, T7⟩
           obtain ⟨⟨Fa', Fc', e1⟩, ⟨gva', gvn', gvc', e2⟩, ⟨gfa', gfn', gfc', e3⟩, ⟨gla', glc', e4⟩, ⟨hva', hvn', hvc', e5⟩, ⟨hfa', hfn', hfc', e6⟩, ⟨hla', hlc', e7⟩⟩ := P7.slices
           dsimp only at e1 e2 e3 e4 e5 e6 e7
           subst e1 e2 e3 e4 e5 e6 e7
           have row7 := ((LH.out.below (by repeat (first | with_reducible assumption | with_reducible refine Below.drew ?_))).r).tr T7 LH.out.z
           obtain ⟨v0, v1, v2, v3, v4, v5, v6, v7, v8, v9, v10, vf, vl⟩ := c11_all row7))
      | fail "reg12"
      all_goals
        have S8 := LS19.put P7 row7
        clear q0 q1 q2 q3 q4 q5 q6 q7 q8 q9 q10 qf ql
        clear v0 v1 v2 v3 v4 v5 v6 v7 v8 v9 v10 vf vl
        clear P7 row7 T7 BB0 DO LH o0 o1 o2
        try go_simp
        generalize ((((((((((w7.setCell ⟨S6, 0, none⟩ (.slice Fa' S'.length Fc')).setCell ⟨S6, 1, none⟩ (.int .i64 3)).setCell ⟨S6, 2, none⟩ (.slice gva' gvn' gvc')).setCell ⟨S6, 3, none⟩ (.slice gfa' gfn' gfc')).setCell ⟨S6, 4, none⟩ (.int .i64 (G'.rm : Int))).setCell ⟨S6, 5, none⟩ (.slice gla' G'.C.length glc')).setCell ⟨S6, 6, none⟩ (.int .i64 3)).setCell ⟨S6, 7, none⟩ (.slice hva' hvn' hvc')).setCell ⟨S6, 8, none⟩ (.slice hfa' hfn' hfc')).setCell ⟨S6, 9, none⟩ (.int .i64 (H'.rm : Int))).setCell ⟨S6, 10, none⟩ (.slice hla' H'.C.length hlc') = w8 at *
        have sc := S8.p.sc
        obtain ⟨ch, hch⟩ : ∃ ch, fwn S' + 4 * G'.C.length + 4 * H'.C.length = ch := ⟨_, rfl⟩
        have CR := Lib.hid (fun W (k : Below w8.heap.size w8 W) => rcharge19 (F := .slice Fa' S'.length Fc') (gv := .slice gva' gvn' gvc') (gf := .slice gfa' gfn' gfc') (gr := (G'.rm : Int)) (hv := .slice hva' hvn' hvc') (hf := .slice hfa' hfn' hfc') (hr := (H'.rm : Int)) _ S' gla' hla' G'.C.length glc' H'.C.length hlc' W (S8.below k).p.d.y (Nat.le_trans sc.2.2.2.2.2.1 (by decide)) (Nat.le_trans sc.2.2.2.2.2.2.1 (by decide)) (Nat.le_trans sc.2.2.2.2.2.2.2 (by decide)))
        have CH := Lib.hid (fun W (k : Below w8.heap.size w8 W) => (S8.below k).p.s.charge)
        have CG := Lib.hid (fun W (k : Below w8.heap.size w8 W) => (S8.below k).p.s.globals)
        have CW := Lib.hid (fun W (k : Below w8.heap.size w8 W) => (S8.below k).p.s.weaks)
        have CD := Lib.hid (fun W (k : Below w8.heap.size w8 W) => (S8.below k).p.s.depth)
        rw [hch] at CR CH
        have KP := Lib.hid (show ∀ W, Below w8.heap.size w8 W → (W.cell? ⟨S6, 0, none⟩ = some (.slice Fa' S'.length Fc') ∧ W.cell? ⟨S6, 1, none⟩ = some (.int .i64 3) ∧ W.cell? ⟨S6, 2, none⟩ = some (.slice gva' gvn' gvc') ∧ W.cell? ⟨S6, 3, none⟩ = some (.slice gfa' gfn' gfc') ∧ W.cell? ⟨S6, 4, none⟩ = some (.int .i64 (G'.rm : Int)) ∧ W.cell? ⟨S6, 5, none⟩ = some (.slice gla' G'.C.length glc') ∧ W.cell? ⟨S6, 6, none⟩ = some (.int .i64 3) ∧ W.cell? ⟨S6, 7, none⟩ = some (.slice hva' hvn' hvc') ∧ W.cell? ⟨S6, 8, none⟩ = some (.slice hfa' hfn' hfc') ∧ W.cell? ⟨S6, 9, none⟩ = some (.int .i64 (H'.rm : Int)) ∧ W.cell? ⟨S6, 10, none⟩ = some (.slice hla' H'.C.length hlc') ∧ W.cell? ⟨B.rb, 0, none⟩ = some (at0 B.fb)) from fun W k => (S8.below k).cells)
        have QF := Lib.hid (show ∀ W, Below w8.heap.size w8 W → LI19 w B S6 j1 W from fun W k => by rw [← HJ1.out]; exact ⟨R', S', G', H', _, S8.below k⟩)
        have n0 := nq19 ch
        have n1 := nq19 G'.C.length
        have n2 := nq19 H'.C.length
        have n3 := nq19 S'.length
        have BB0 : Below w8.heap.size w8 w8 := Below.refl _ _
        obtain ⟨k0, k1, k2, k3, k4, k5, k6, k7, k8, k9, k10, k11⟩ := KP.out _ BB0
        clear S8 sc hch
        go_upto_region 13 with fail
        first
        | (
          go_region_held3 (fun W => W.cell? ⟨S6, 0, none⟩ = some (.slice Fa' S'.length Fc') ∧ W.cell? ⟨S6, 1, none⟩ = some (.int .i64 3) ∧ W.cell? ⟨S6, 2, none⟩ = some (.slice gva' gvn' gvc') ∧ W.cell? ⟨S6, 3, none⟩ = some (.slice gfa' gfn' gfc') ∧ W.cell? ⟨S6, 4, none⟩ = some (.int .i64 (G'.rm : Int)) ∧ W.cell? ⟨S6, 5, none⟩ = some (.slice gla' G'.C.length glc') ∧ W.cell? ⟨S6, 6, none⟩ = some (.int .i64 3) ∧ W.cell? ⟨S6, 7, none⟩ = some (.slice hva' hvn' hvc') ∧ W.cell? ⟨S6, 8, none⟩ = some (.slice hfa' hfn' hfc') ∧ W.cell? ⟨S6, 9, none⟩ = some (.int .i64 (H'.rm : Int)) ∧ W.cell? ⟨S6, 10, none⟩ = some (.slice hla' H'.C.length hlc') ∧ W.cell? ⟨B.rb, 0, none⟩ = some (at0 B.fb))
            (first | (refine KP.out _ ?_; repeat (first | with_reducible assumption | with_reducible refine Below.drew ?_)))
            (first
            | (go_at_call 8; with_reducible refine (CH.out _ ?_).mono ?_
               · repeat (first | with_reducible assumption | with_reducible refine Below.drew ?_)
               rintro y wa ⟨rfl, ba⟩
               have BB1 : Below w8.heap.size w8 wa := bTrans (by repeat (first | with_reducible assumption | with_reducible refine Below.drew ?_)) ba)
            | (go_at_call 9; with_reducible refine (CR.out _ ?_).mono ?_
               · repeat (first | with_reducible assumption | with_reducible refine Below.drew ?_)
               rintro y wb ⟨rfl, bb⟩
               have BB2 : Below w8.heap.size w8 wb := bTrans (by repeat (first | with_reducible assumption | with_reducible refine Below.drew ?_)) bb)
            | (go_at_call 10; with_reducible refine (CG.out _ ?_).mono ?_
               · repeat (first | with_reducible assumption | with_reducible refine Below.drew ?_)
               rintro y wd ⟨rfl, rfl⟩)
            | (go_at_call 11; with_reducible refine (CW.out _ ?_).mono ?_
               · repeat (first | with_reducible assumption | with_reducible refine Below.drew ?_)
               rintro y we ⟨rfl, rfl⟩)
            | (go_at_call 12; with_reducible refine (CD.out _ ?_).mono ?_
               · repeat (first | with_reducible assumption | with_reducible refine Below.drew ?_)
               rintro y wf ⟨rfl, rfl⟩)))
        | fail "held"
        all_goals
          clear KP CR CH CG CW CD k0 k1 k2 k3 k4 k5 k6 k7 k8 k9 k10 k11
          go_wp2_with fail
          go_roundw
          case rel => exact ⟨j1, by rw [← HJ1.out]; exact HT.out, rfl, by first | rfl | rw [e2], QF.out _ (by repeat (first | with_reducible assumption | with_reducible refine Below.drew ?_))⟩
          case measure => first | exact meas18 HJ1.out HT.out | (rw [e2]; exact meas18 HJ1.out HT.out)
    · obtain rfl : j = nf := Nat.le_antisymm hj (Nat.le_of_not_lt hlt)
      have jlt : ¬ (j : Int) < (j : Int) := Int.lt_irrefl _
      have lG := L.p.sc.2.2.2.2.2.2.1
      have L0 := Lib.hid L
      clear L hlt hj HF HLF HNF
      go_wp2_with fail
      go_loopw [7] (fun i wr => ∃ k : Nat, k ≤ G.C.length ∧ i = .int .i64 (k : Int) ∧ LS19 w R B j S6 S G H ⟨.slice Fa S.length Fc, .slice gva gvn gvc, .slice gfa gfn gfc, .slice gla G.C.length glc, .slice hva hvn hvc, .slice hfa hfn hfc, .slice hla H.C.length hlc⟩ wr) (fun i _ => G.C.length - (intOf i).toNat)
      case atStart => exact ⟨0, Nat.zero_le _, rfl, L0.out⟩
      case round =>
        clear L0
        obtain ⟨k, hk, rfl, L⟩ := hrel
        obtain ⟨q0, q1, q2, q3, q4, q5, q6, q7, q8, q9, q10, qf, ql⟩ := c11_all L.r
        by_cases hkn : k < G.C.length
        · obtain ⟨g, off, rfl, AT⟩ := L.at hkn
          obtain ⟨c0, c1⟩ := AT _ L
          have ATh := Lib.hid AT
          have GT := Lib.hid (L.p.s.get_g (mem_getD18 hkn))
          obtain ⟨klt, e1, e2, e3, e4, e5⟩ := up18 hkn (Nat.le_trans lG (by decide))
          obtain ⟨tok, htok⟩ : ∃ tok, G.t (G.C.getD k 0) = tok := ⟨_, rfl⟩
          obtain ⟨tgt, htgt⟩ : ∃ tgt, G.V (G.C.getD k 0) = tgt := ⟨_, rfl⟩
          rw [htok] at c0
          rw [htgt] at c1
          rw [htok, htgt] at GT
          have HT1 := Lib.hid htok
          have HT2 := Lib.hid htgt
          obtain ⟨k1, hk1⟩ : ∃ k1, k + 1 = k1 := ⟨_, rfl⟩
          rw [hk1] at e1 e2 e3
          have HK1 := Lib.hid hk1
          have HKN := Lib.hid hkn
          have LH := Lib.hid L
          clear hk hkn hk1 L AT c1 htok htgt
          go_upto_region 19 with (go_at_call 13; refine GT.out.mono ?_; rintro e w5 ⟨_, _, rfl, rfl, rfl, s5, t5⟩)
          have L5 := LH.out.tr s5 t5
          obtain ⟨d0, d1⟩ := ATh.out _ L5
          rw [HT2.out] at d1
          clear q0 q1 q2 q3 q4 q5 q6 q7 q8 q9 q10 qf ql
          obtain ⟨q0, q1, q2, q3, q4, q5, q6, q7, q8, q9, q10, qf, ql⟩ := c11_all L5.r
          have n0 := nq19 tgt
          have FIN := Lib.hid L5
          clear L5 LH GT ATh s5 t5 c0 d0
          go_wp2_with fail
          go_roundw
          case rel => exact ⟨k1, by rw [← HK1.out]; exact HKN.out, by first | rfl | rw [e2] | trivial, FIN.out⟩
          case measure => first | exact meas18 HK1.out HKN.out | (rw [e2]; exact meas18 HK1.out HKN.out)
        · obtain rfl : k = G.C.length := Nat.le_antisymm hk (Nat.le_of_not_lt hkn)
          have klt : ¬ (G.C.length : Int) < (G.C.length : Int) := Int.lt_irrefl _
          have BL := Lib.hid L.p.s.o
          clear L hk hkn
          go_wp2_with fail
          go_ret
          exact ⟨rfl, BL.out⟩
end Go.Proofs.YtppmicepkjhfeaaGreat
