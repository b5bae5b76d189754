/-
  Package mem: number, Open.
-/
import Derived.Test.YtgnpakpnocbhhaaMem8
namespace Go.Proofs.Ytgnpakpnocbhhaa
open Go.RowKit
set_option linter.unusedVariables false

theorem infoU : (Try.prog.info? 75).map (fun i => (i.zero, i.size, i.bytes)) = some (some (.slice none 0 0), 1, 24) := by kernel_rfl
set_option maxRecDepth 100000 in
set_option maxHeartbeats 1000000 in
theorem number_pop (mb mm : Nat) (R : Nat → Nat) (sv qv : Value) (U : Nat → Value) (Q : List Nat) (L : List Spc) (a b : Nat) (h g : Int) (w : World) (m : MO w R mb mm sv qv U Q L a b h g) (hQ : 0 < Q.length) :
    Calls Try.prog 36 #[at0 mb] w fun e w' => ∃ qv' Q', e = .returned (.int .i64 ((nq Q 0 : Nat) : Int)) ∧ MH w' R mb mm sv qv' U Q' L (nq Q 0) a b h g ∧ TR R R w w' := by
  rcases m.cl with ⟨_, e⟩ | ⟨gq, c, rfl, hc, hcm, hg, qr, qce⟩
  · omega
  obtain ⟨n, hn⟩ : ∃ n, Q.length = n := ⟨_, rfl⟩
  obtain ⟨p, hp⟩ : ∃ p, n = p + 1 := ⟨n - 1, by omega⟩
  have gne : mb ≠ gq := fun e => by have := m.r1; have : R gq = 4 := hg; subst e; omega
  have lc := m.lc
  have ln := m.ln
  have hh := m.hp
  have PO := Lib.hid (hpop_any mb mm gq p c sv Q w n hp (by rw [← hn]; exact m.row) gne (by rw [← hn]; exact qr) qce hn (by omega) hcm (by omega) hh)
  have PP := Lib.hid (fun w1 Q' => MH.of_pop (w1 := w1) (gq := gq) (c := c) (n := p) (Q' := Q') m hQ hg)
  have HC := Lib.hid (show p ≤ c by omega)
  have HCM := Lib.hid hcm
  obtain ⟨m0, m1, m2, mf, ml⟩ := m.row.all
  rw [hn] at m2
  have i0 : 0 < n := by omega
  have RA := fun w => run_as ((nq Q 0 : Nat) : Int) w
  clear m qr qce hc hcm hg lc ln hh hn hp hQ gne
  generalize nq Q 0 = x at *
  go_enter Try.func36, Try.ntmps36
  go_wp2_with fail
  with_reducible refine PO.out.mono ?_
  rintro e w1 ⟨rfl, Q', ln', row1, qr1, ce1, h1, p1, K1⟩
  dsimp only
  go_wp2_with fail
  go_ret
  obtain ⟨M, T⟩ := PP.out w1 Q' ln' HC.out HCM.out row1 qr1 ce1 h1 p1 K1
  exact ⟨_, _, rfl, M, T⟩
set_option maxRecDepth 100000 in
set_option maxHeartbeats 1000000 in
theorem number_app (mb mm : Nat) (R : Nat → Nat) (sv qv : Value) (U : Nat → Value) (Q : List Nat) (L : List Spc) (a b : Nat) (h g : Int) (w : World) (m : MO w R mb mm sv qv U Q L a b h g) (hQ : Q.length = 0) (hl : L.length < 262144) :
    Calls Try.prog 36 #[at0 mb] w fun e w' => ∃ R' sv' U', e = .returned (.int .i64 ((L.length : Nat) : Int)) ∧ MH w' R' mb mm sv' qv U' Q (L ++ [(false, [])]) L.length a b h g ∧ TR R R' w w' := by
  obtain ⟨i0, hi, hz0, hz1, hz2⟩ := info_parts2 infoU
  obtain ⟨m0, m1, m2, mf, ml⟩ := m.row.all
  obtain ⟨qa, qc, rfl⟩ := m.cl.slice
  rw [hQ] at m2
  have BA := bAlloc (Below.refl w.heap.size w) (.cells #[.slice none 0 0] 75)
  obtain ⟨gs, c, w1, hr, hc, hcm, hg, sr, sce, K⟩ := push1 (P := Try.prog) (w.alloc (.cells #[.slice none 0 0] 75)) (fun j => R j = 3) 75 56 56 i0 _ 24 Try.underlying56 hi hz0 hz1 hz2 rfl (by decide) sv L.length U (m.sp.below BA) w.heap.size (.slice none 0 0) (by rw [World.cell?_alloc_new]; rfl) rfl (by omega)
  have M1 : WRw w1 mb mm sv (.slice qa Q.length qc) := Row.keeps (m.row.below BA) K (by show ¬ R mb = 3; have := m.r1; omega)
  obtain ⟨t0, t1, t2, tf, tl⟩ := M1.all
  obtain ⟨w2, hw2⟩ : ∃ w2, w2 = w1.setCell ⟨mb, 1, none⟩ (.slice (some ⟨gs, 0, none⟩) (L.length + 1) c) := ⟨_, rfl⟩
  obtain ⟨MH1, TR1⟩ := MH.of_app m hQ hl BA hg hc hcm sr sce K hw2
  have HM := Lib.hid MH1
  have HT := Lib.hid TR1
  have row2 := MH1.row
  obtain ⟨y0, y1, y2, yf, yl⟩ := row2.all
  have HW := Lib.hid hw2
  have HH := Lib.hid hr
  obtain ⟨n1, hn1⟩ : ∃ n1, L.length + 1 = n1 := ⟨_, rfl⟩
  rw [hn1] at y1 HH HW hc
  have e0 : (n1 : Int) - 1 = (L.length : Int) := by omega
  have wk : wrap64 (L.length : Int) = (L.length : Int) := by unfold wrap64; omega
  clear m hi hz0 hz1 hz2 BA hr hc hcm hg sr sce K M1 MH1 TR1 row2 hw2 hn1 hl
  go_enter Try.func36, Try.ntmps36
  go_wp2_with (at_builtin; refine Lib.wpList_append_run _ rfl _ _ _ _ rfl _ _ rfl rfl _ _ HH.out ?_)
  go_ret
  rw [← HW.out]
  exact ⟨_, _, _, by first | rfl | (rw [wk]; rfl), HM.out, HT.out⟩
theorem number_any (mb mm : Nat) (R : Nat → Nat) (sv qv : Value) (U : Nat → Value) (Q : List Nat) (L : List Spc) (a b : Nat) (h g : Int) (w : World) (m : MO w R mb mm sv qv U Q L a b h g) (hl : countv L < 262144) :
    Calls Try.prog 36 #[at0 mb] w fun e w' => ∃ k L' R' sv' qv' U' Q', e = .returned (.int .i64 ((k : Nat) : Int)) ∧ firstc L = k ∧ (∀ n, L'.set k (true, List.replicate n 0) = opened L n) ∧ MH w' R' mb mm sv' qv' U' Q' L' k a b h g ∧ TR R R' w w' := by
  by_cases hQ : Q.length = 0
  · have f := m.full hQ
    refine (number_app mb mm R sv qv U Q L a b h g w m hQ (by have := m.ln; omega)).mono fun e w' ⟨R', sv', U', he, M, T⟩ => ?_
    exact ⟨_, _, _, _, _, _, _, he, f, fun n => opened_app f n, M, T⟩
  · obtain ⟨hk, _, f⟩ := m.first (show 0 < Q.length by omega)
    refine (number_pop mb mm R sv qv U Q L a b h g w m (by omega)).mono fun e w' ⟨qv', Q', he, M, T⟩ => ?_
    exact ⟨_, _, _, _, _, _, _, he, f, fun n => opened_pop hk f n, M, T⟩

theorem mopen_neg (mb : Nat) (n : Int) (hn : n < 0) (w : World) :
    Calls Try.prog 13 #[at0 mb, .int .i64 n] w fun e w' => e = .returned (.tuple #[.int .i64 0, .int .i64 1]) ∧ w' = w := by
  go_enter Try.func13, Try.ntmps13
  go_wp2_with fail
  exact bodyPost_ret (v := .tuple #[.int .i64 0, .int .i64 1]) (by simp [results, Try.results13, go_sem]) rfl ⟨rfl, rfl⟩
theorem mopen_long (mb : Nat) (n : Int) (hn : 4194304 < n) (w : World) :
    Calls Try.prog 13 #[at0 mb, .int .i64 n] w fun e w' => e = .returned (.tuple #[.int .i64 0, .int .i64 7]) ∧ w' = w := by
  have n0 : decide (n < 0) = false := decide_eq_false (by omega)
  go_enter Try.func13, Try.ntmps13
  go_wp2_with fail
  exact bodyPost_ret (v := .tuple #[.int .i64 0, .int .i64 7]) (by simp [results, Try.results13, go_sem]) rfl ⟨rfl, rfl⟩
set_option maxRecDepth 100000 in
set_option maxHeartbeats 1000000 in
theorem mopen_ok (mb mm : Nat) (R : Nat → Nat) (L : List Spc) (a b : Nat) (h g : Int) (w : World) (hm : MM w R mb mm L a b h g) (n : Nat) (hn : n ≤ 4194304) (hl : countv L < 262144) :
    Calls Try.prog 13 #[at0 mb, .int .i64 (n : Int)] w fun e w' => ∃ R', e = .returned (.tuple #[.int .i64 ((firstc L : Nat) : Int), .int .i64 0]) ∧ MM w' R' mb mm (opened L n) a b (holdh h (n : Int)) (holdg h g (n : Int)) ∧ TR R R' w w' := by
  have SP := Lib.hid (mspaces_any mb mm R L a b h g w hm)
  obtain ⟨sv, qv, U, Q, m⟩ := hm
  have NU := Lib.hid (fun w' (bw : Below w.heap.size w w') => number_any mb mm R sv qv U Q L a b h g w' (m.below bw) hl)
  have FIT := m.fit
  have HO := Lib.hid (fun w' r => hold_any mm a b h g (n : Int) FIT (by omega) w' r)
  have FE := Lib.hid (FIT.hold (n := (n : Int)))
  have NA := Lib.hid m.na
  have NB := Lib.hid m.nb
  have HN := Lib.hid hn
  have MK := make_words n (by omega)
  have cl : ((countv L : Nat) : Int) ≠ 262144 := by omega
  have cl2 : (((countv L : Nat) : Int) == 262144) = false := by simp; omega
  have n1 : decide (4194304 < (n : Int)) = false := decide_eq_false (by omega)
  have n0 : decide ((n : Int) < 0) = false := decide_eq_false (by omega)
  clear m hl FIT hn cl
  generalize countv L = ct at *
  generalize holdh h (n : Int) = h' at *
  generalize holdg h g (n : Int) = g' at *
  generalize holde h (n : Int) = er at *
  go_enter Try.func13, Try.ntmps13
  go_wp2_with fail
  with_reducible refine SP.out.mono ?_
  rintro e w1 ⟨rfl, b1⟩
  dsimp only
  go_wp2_with fail
  with_reducible refine (NU.out _ b1).mono ?_
  rintro e w2 ⟨k, L', R', sv', qv', U', Q', rfl, fk, op, M, T⟩
  dsimp only
  obtain ⟨m0, m1, m2, mf, ml⟩ := M.row.all
  rcases M.sp with ⟨_, e⟩ | ⟨sg, sc, rfl, hsc, hscm, hsg, sr, sce⟩
  · exact absurd M.hk (by omega)
  have BA := bAlloc (Below.refl w2.heap.size w2) (.cells (zrow n).toArray 28)
  have hk := M.hk
  have c0 := sr.cell k hk
  have c1 := (sr.below BA).cell k hk
  have f0 := sr.free k
  have f1 := (sr.below BA).free k
  have i0 : (0 : Int) ≤ (k : Int) := by omega
  have i1 : (k : Int) < (L'.length : Int) := by omega
  obtain ⟨w3, hw3⟩ : ∃ w3, w3 = (w2.alloc (.cells (zrow n).toArray 28)).setCell ⟨sg, k, none⟩ (.slice (some ⟨w2.heap.size, 0, none⟩) n n) := ⟨_, rfl⟩
  obtain ⟨M3, T3⟩ := M.put HN.out rfl rfl hsg sr hsc hscm sce hw3
  have HM3 := Lib.hid M3
  have HT3 := Lib.hid T3
  have HW := Lib.hid hw3
  have HF := Lib.hid fk
  have HOP := Lib.hid (op n)
  have TT := Lib.hid ((TR.of b1 : TR R R w w1).trans T)
  clear M hsc hscm hsg sr sce BA hk hw3 M3 T3 fk op T b1 SP NU
  go_upto_region 8 with fail
  go_region
  all_goals
    rw [← HW.out]
    clear c0 c1 f0 f1 m0 m1 m2 mf ml
    have M4 := HM3.out
    first
      | (have M5 := M4
         have T5 := TT.out.trans HT3.out
         obtain ⟨m0, m1, m2, mf, ml⟩ := M5.row.all
         go_wp2_with fail
         with_reducible refine (HO.out _ M5.met).mono ?_
         rintro e w4 ⟨rfl, R4, B4⟩
         dsimp only
         go_wp2_with fail
         exact bodyPost_ret (v := .tuple #[.int .i64 (k : Int), .int .i64 0]) (by simp [results, Try.results13, go_sem]) rfl ⟨_, by rw [HF.out], by rw [← HOP.out]; exact ⟨_, _, _, _, M5.meter B4 R4 NA.out NB.out FE.out⟩, T5.trans (TR.bar B4 (by rw [M5.r2]; decide))⟩)
      | (have M5 := M4.drew
         have T5 := (TT.out.trans HT3.out).drew
         obtain ⟨m0, m1, m2, mf, ml⟩ := M5.row.all
         go_wp2_with fail
         with_reducible refine (HO.out _ M5.met).mono ?_
         rintro e w4 ⟨rfl, R4, B4⟩
         dsimp only
         go_wp2_with fail
         exact bodyPost_ret (v := .tuple #[.int .i64 (k : Int), .int .i64 0]) (by simp [results, Try.results13, go_sem]) rfl ⟨_, by rw [HF.out], by rw [← HOP.out]; exact ⟨_, _, _, _, M5.meter B4 R4 NA.out NB.out FE.out⟩, T5.trans (TR.bar B4 (by rw [M5.r2]; decide))⟩)
end Go.Proofs.Ytgnpakpnocbhhaa
