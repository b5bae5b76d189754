/-
  haymowlaw01.WideBack: for any two numbers and any word the law returns true, and its arguments read afterwards as before.
-/
import Derived.Test.YtfcplfbofobdpaaKit01
import Derived.Deep.RegionHeld3
namespace Go.Proofs.Ytfcplfbofobdpaa.wideBack
open Go.ChangeShapes Go.WideShapes Go.ChangeAt Go.RowKit Go.Joins
set_option linter.unusedVariables false

theorem back_sub {a b : Nat} (h : N128 (a + b)) : N128 (a + b) ∧ subv (a + b) b = a ∧ subok (a + b) b = true ∧ ltv (a + b) a = false := by
  refine ⟨h, ?_, ?_, ?_⟩
  · unfold subv; omega
  · unfold subok; exact decide_eq_true (by omega)
  · unfold ltv; exact decide_eq_false (by omega)
theorem back_div {a n : Nat} (ha : N128 a) (h : 0 < n) : N128 (a / n) ∧ N128 (a / n * n) ∧ N128 (a / n * n + a % n) ∧ a / n * n + a % n = a := by
  have e := Nat.div_add_mod a n
  rw [Nat.mul_comm] at e
  have d := Nat.div_le_self a n
  unfold N128 at *
  refine ⟨by omega, by omega, by omega, e⟩

set_option maxHeartbeats 2000000 in
set_option maxRecDepth 100000 in
theorem back_walk (a b n : Nat) (ha : N128 a) (hb : N128 b) (hn : Word n) (w : World) : Calls Try.prog 5 #[wv a, wv b, .int .u64 n] w fun e w' => e = .returned (.bool true) ∧ Below w.heap.size w w' := by
  have RA0 : Row ((w.alloc (.cells #[.int .u64 (hi a), .int .u64 (lo a)] 24)).alloc (.cells #[.int .u64 (hi b), .int .u64 (lo b)] 24)) w.heap.size 2 (wrow a) := (Row.new w _ _ 2 _ (wrow_new a)).alloc _
  have RB0 := two_new w (.cells #[.int .u64 (hi a), .int .u64 (lo a)] 24) b
  have ADD := fun w => add_any a b ha hb w
  by_cases hz : n = 0
  · subst hz
    rw [show ((0 : Nat) : Int) = 0 from rfl]
    by_cases h : N128 (a + b)
    · obtain ⟨hs, s1, s2, s3⟩ := back_sub h
      have SUB := fun w => sub_any (a + b) b hs hb w
      have LES := fun w => less_any (a + b) a w
      rw [addv_t h, addok_t h] at ADD
      rw [s1, s2] at SUB
      rw [s3] at LES
      have AD := Lib.hid ADD; have SU := Lib.hid SUB; have LE := Lib.hid LES
      clear ADD SUB LES s1 s2 s3 h ha hb hs hn
      go_enter Try.func5, Try.ntmps5
      go_wp2_with (first
        | (go_at_call 8; refine (awake_any _).mono ?_; rintro e w1 ⟨rfl, hb1⟩; have RA1 := RA0.below hb1; have RB1 := RB0.below hb1; obtain ⟨a10, a11, a12⟩ := RA1.two; obtain ⟨b10, b11, b12⟩ := RB1.two)
        | (go_at_call 9; refine (AD.out _).mono ?_; rintro e w2 ⟨rfl, hb2⟩; have RA2 := RA1.below hb2; have RB2 := RB1.below hb2; obtain ⟨a20, a21, a22⟩ := RA2.two; obtain ⟨b20, b21, b22⟩ := RB2.two; have RX2 := Row.new w2 _ 24 2 _ (wrow_new (a + b)))
        | (go_at_call 11; refine (SU.out _).mono ?_; rintro e w3 ⟨rfl, hb3⟩; have RA3 := (RA2.alloc _).below hb3; have RX3 := RX2.below hb3; obtain ⟨a30, a31, a32⟩ := RA3.two; obtain ⟨x30, x31, x32⟩ := RX3.two)
        | (go_at_call 15; refine (LE.out _).mono ?_; rintro e w4 ⟨rfl, hb4⟩))
      go_ret
      refine ⟨rfl, ?_⟩
      have c1 : Below w.heap.size w w1 := bTrans (by repeat (first | exact Below.refl _ _ | (with_reducible assumption) | refine bAlloc ?_ _ | refine below_drewN ?_ _ | refine Below.drew ?_ | (refine bSet ?_ (by first | (dsimp only; omega) | (simp; done) | (simp; omega)) _) | refine bTrans ?_ (by assumption))) hb1
      exact bTrans (bAlloc (bTrans (bAlloc (bTrans c1 hb2) _) hb3) _) hb4
    · rw [addv_f h, addok_f h] at ADD
      simp only [wv, hi_most, lo_most] at ADD
      have AD := Lib.hid ADD
      clear ADD h ha hb hn
      go_enter Try.func5, Try.ntmps5
      go_wp2_with (first
        | (go_at_call 8; refine (awake_any _).mono ?_; rintro e w1 ⟨rfl, hb1⟩; have RA1 := RA0.below hb1; have RB1 := RB0.below hb1; obtain ⟨a10, a11, a12⟩ := RA1.two; obtain ⟨b10, b11, b12⟩ := RB1.two)
        | (go_at_call 9; refine (AD.out _).mono ?_; rintro e w2 ⟨rfl, hb2⟩))
      go_ret
      refine ⟨rfl, ?_⟩
      have c1 : Below w.heap.size w w1 := bTrans (by repeat (first | exact Below.refl _ _ | (with_reducible assumption) | refine bAlloc ?_ _ | refine below_drewN ?_ _ | refine Below.drew ?_ | (refine bSet ?_ (by first | (dsimp only; omega) | (simp; done) | (simp; omega)) _) | refine bTrans ?_ (by assumption))) hb1
      exact bAlloc (bTrans c1 hb2) _
  · obtain ⟨g1, g2, g3, g4⟩ := back_div ha (show 0 < n by omega)
    have DIV := fun w => div_any a n ha hn (by omega) w
    have MUL := fun w => mul_any (a / n) n g1 hn w
    have AD2 := fun w => add_any (a / n * n) (a % n) g2 (by unfold N128 at *; have := Nat.mod_le a n; omega) w
    have rlt : a % n < n := Nat.mod_lt _ (by omega)
    have rb : a % n < 18446744073709551616 := by unfold Word at hn; omega
    rw [mulv_t g2, mulok_t g2] at MUL
    rw [addv_t g3, addok_t g3, g4] at AD2
    simp only [wv, hi_of_lt rb, lo_of_lt rb] at AD2
    have r0 : 0 ≤ ((a % n : Nat) : Int) := by omega
    have r1 : ((a % n : Nat) : Int) < (n : Int) := by omega
    generalize ((a % n : Nat) : Int) = r at *
    have zn : ((n : Int) == 0) = false := by simp [hz]
    have DI := Lib.hid DIV; have MU := Lib.hid MUL; have A2 := Lib.hid AD2
    have RQ := fun w => Row.new w _ 24 2 _ (wrow_new (a / n))
    have RM := fun w => Row.new w _ 24 2 _ (wrow_new (a / n * n))
    clear DIV MUL AD2 rlt rb g1 g2 g3 g4 hz hn
    by_cases h : N128 (a + b)
    · obtain ⟨hs, s1, s2, s3⟩ := back_sub h
      have SUB := fun w => sub_any (a + b) b hs hb w
      have LES := fun w => less_any (a + b) a w
      rw [addv_t h, addok_t h] at ADD
      rw [s1, s2] at SUB
      rw [s3] at LES
      have AD := Lib.hid ADD; have SU := Lib.hid SUB; have LE := Lib.hid LES
      clear ADD SUB LES s1 s2 s3 h ha hb hs
      go_enter Try.func5, Try.ntmps5
      go_upto_region 12 with (first
        | (go_at_call 8; refine (awake_any _).mono ?_; rintro e w1 ⟨rfl, hb1⟩; have RA1 := RA0.below hb1; have RB1 := RB0.below hb1; obtain ⟨a10, a11, a12⟩ := RA1.two; obtain ⟨b10, b11, b12⟩ := RB1.two)
        | (go_at_call 9; refine (AD.out _).mono ?_; rintro e w2 ⟨rfl, hb2⟩; have RA2 := RA1.below hb2; have RB2 := RB1.below hb2; obtain ⟨a20, a21, a22⟩ := RA2.two; obtain ⟨b20, b21, b22⟩ := RB2.two; have RX2 := Row.new w2 _ 24 2 _ (wrow_new (a + b)))
        | (go_at_call 11; refine (SU.out _).mono ?_; rintro e w3 ⟨rfl, hb3⟩; have RA3 := (RA2.alloc _).below hb3; have RX3 := RX2.below hb3; obtain ⟨a30, a31, a32⟩ := RA3.two; obtain ⟨x30, x31, x32⟩ := RX3.two)
        | (go_at_call 15; refine (LE.out _).mono ?_; rintro e w4 ⟨rfl, hb4⟩; have RA4 := (RA3.alloc _).below hb4; obtain ⟨a40, a41, a42⟩ := RA4.two)
        | (go_at_call 20; refine (DI.out _).mono ?_; rintro e w5 ⟨rfl, hb5⟩; have RA5 := RA4.below hb5; obtain ⟨a50, a51, a52⟩ := RA5.two; have RQ5 := RQ w5)
        | (go_at_call 18; refine (MU.out _).mono ?_; rintro e w6 ⟨rfl, hb6⟩; have RA6 := (RA5.alloc _).below hb6; obtain ⟨a60, a61, a62⟩ := RA6.two; have RM6 := RM w6))
      go_region_held3 (fun w' => w'.cell? ⟨w6.heap.size, 0, none⟩ = some (.int .u64 (hi (a / n * n))) ∧ w'.cell? ⟨w6.heap.size, 1, none⟩ = some (.int .u64 (lo (a / n * n)))) (first | (simp [go_sem, World.cell?_alloc_past]; done) | (simp (disch := (first | assumption | (dsimp only; omega))) only [cell_far, World.cell?_alloc_past, m70, m71, and_self]))
        (first | (go_at_call 22; refine (of_ex _ _).mono ?_; rintro e w1 ⟨rfl, rfl⟩) | (go_at_call 9; refine (A2.out _).mono ?_; rintro e w7 ⟨rfl, hb7⟩; have RA7 : Row w7 w.heap.size 2 (wrow a) := Row.below (by repeat (first | exact RA6 | refine Row.alloc ?_ _ | refine Row.drewN ?_ _ | refine Row.drew ?_)) hb7; obtain ⟨a70, a71, a72⟩ := RA7.two; have RM7 : Row w7 w6.heap.size 2 (wrow (a / n * n)) := Row.below (by repeat (first | exact RM6 | refine Row.alloc ?_ _ | refine Row.drewN ?_ _ | refine Row.drew ?_)) hb7; obtain ⟨m70, m71, m72⟩ := RM7.two; obtain ⟨q1, q2⟩ := bcell hb7))
      all_goals
        go_wp2_with fail
        go_ret
        refine ⟨rfl, ?_⟩
        have c1 : Below w.heap.size w w1 := bTrans (by repeat (first | exact Below.refl _ _ | (with_reducible assumption) | refine bAlloc ?_ _ | refine below_drewN ?_ _ | refine Below.drew ?_ | (refine bSet ?_ (by first | (dsimp only; omega) | (simp; done) | (simp; omega)) _) | refine bTrans ?_ (by assumption))) hb1
        have c4 := bTrans (bAlloc (bTrans (bAlloc (bTrans c1 hb2) _) hb3) _) hb4
        have c6 := bTrans (bAlloc (bTrans c4 hb5) _) hb6
        have c7 : Below w.heap.size w w7 := bTrans (by repeat (first | exact Below.refl _ _ | (with_reducible assumption) | refine bAlloc ?_ _ | refine below_drewN ?_ _ | refine Below.drew ?_ | (refine bSet ?_ (by first | (dsimp only; omega) | (simp; done) | (simp; omega)) _) | refine bTrans ?_ (by assumption))) hb7
        exact (by repeat (first | exact Below.refl _ _ | (with_reducible assumption) | refine bAlloc ?_ _ | refine below_drewN ?_ _ | refine Below.drew ?_ | (refine bSet ?_ (by first | (dsimp only; omega) | (simp; done) | (simp; omega)) _) | refine bTrans ?_ (by assumption)))
    · rw [addv_f h, addok_f h] at ADD
      simp only [wv, hi_most, lo_most] at ADD
      have AD := Lib.hid ADD
      clear ADD h ha hb
      go_enter Try.func5, Try.ntmps5
      go_upto_region 12 with (first
        | (go_at_call 8; refine (awake_any _).mono ?_; rintro e w1 ⟨rfl, hb1⟩; have RA1 := RA0.below hb1; have RB1 := RB0.below hb1; obtain ⟨a10, a11, a12⟩ := RA1.two; obtain ⟨b10, b11, b12⟩ := RB1.two)
        | (go_at_call 9; refine (AD.out _).mono ?_; rintro e w2 ⟨rfl, hb2⟩; have RA2 := RA1.below hb2; obtain ⟨a20, a21, a22⟩ := RA2.two)
        | (go_at_call 20; refine (DI.out _).mono ?_; rintro e w5 ⟨rfl, hb5⟩; have RA5 := (RA2.alloc _).below hb5; obtain ⟨a50, a51, a52⟩ := RA5.two; have RQ5 := RQ w5)
        | (go_at_call 18; refine (MU.out _).mono ?_; rintro e w6 ⟨rfl, hb6⟩; have RA6 := (RA5.alloc _).below hb6; obtain ⟨a60, a61, a62⟩ := RA6.two; have RM6 := RM w6))
      go_region_held3 (fun w' => w'.cell? ⟨w6.heap.size, 0, none⟩ = some (.int .u64 (hi (a / n * n))) ∧ w'.cell? ⟨w6.heap.size, 1, none⟩ = some (.int .u64 (lo (a / n * n)))) (first | (simp [go_sem, World.cell?_alloc_past]; done) | (simp (disch := (first | assumption | (dsimp only; omega))) only [cell_far, World.cell?_alloc_past, m70, m71, and_self]))
        (first | (go_at_call 22; refine (of_ex _ _).mono ?_; rintro e w1 ⟨rfl, rfl⟩) | (go_at_call 9; refine (A2.out _).mono ?_; rintro e w7 ⟨rfl, hb7⟩; have RA7 : Row w7 w.heap.size 2 (wrow a) := Row.below (by repeat (first | exact RA6 | refine Row.alloc ?_ _ | refine Row.drewN ?_ _ | refine Row.drew ?_)) hb7; obtain ⟨a70, a71, a72⟩ := RA7.two; have RM7 : Row w7 w6.heap.size 2 (wrow (a / n * n)) := Row.below (by repeat (first | exact RM6 | refine Row.alloc ?_ _ | refine Row.drewN ?_ _ | refine Row.drew ?_)) hb7; obtain ⟨m70, m71, m72⟩ := RM7.two; obtain ⟨q1, q2⟩ := bcell hb7))
      all_goals
        go_wp2_with fail
        go_ret
        refine ⟨rfl, ?_⟩
        have c1 : Below w.heap.size w w1 := bTrans (by repeat (first | exact Below.refl _ _ | (with_reducible assumption) | refine bAlloc ?_ _ | refine below_drewN ?_ _ | refine Below.drew ?_ | (refine bSet ?_ (by first | (dsimp only; omega) | (simp; done) | (simp; omega)) _) | refine bTrans ?_ (by assumption))) hb1
        have c6 := bTrans (bAlloc (bTrans (bAlloc (bTrans c1 hb2) _) hb5) _) hb6
        have c7 : Below w.heap.size w w7 := bTrans (by repeat (first | exact Below.refl _ _ | (with_reducible assumption) | refine bAlloc ?_ _ | refine below_drewN ?_ _ | refine Below.drew ?_ | (refine bSet ?_ (by first | (dsimp only; omega) | (simp; done) | (simp; omega)) _) | refine bTrans ?_ (by assumption))) hb7
        exact (by repeat (first | exact Below.refl _ _ | (with_reducible assumption) | refine bAlloc ?_ _ | refine below_drewN ?_ _ | refine Below.drew ?_ | (refine bSet ?_ (by first | (dsimp only; omega) | (simp; done) | (simp; omega)) _) | refine bTrans ?_ (by assumption)))

set_option maxRecDepth 100000 in
theorem lifted (os : Os) (started : os.Started) (H : Type) (enc : TypeId × Value → H) :
    ReturnsInHanded {} Try.checked os 5 .any (Rows.wideBackSpec.pre6 enc Try.prog Try.f5 Rows.wideBackRow.domain false) (Rows.wideBackSpec.post enc Try.prog Try.f5 false true false false) := by
  refine returnsInHanded_of_change (C := Try.checked) own started (by kernel_rfl) Try.func5
    (ChangeSpec.witness6 (enc := enc) (C := Try.checked) false ⟨#[], #[.agg #[.int .u64 0, .int .u64 0], .agg #[.int .u64 0, .int .u64 0], .int .u64 0], []⟩ 8 (by kernel_rfl) (by kernel_rfl) (by kernel_rfl) (by kernel_rfl)) ?_
  intro W base args ds gs before hval0 hW hcnd _
  have hval : ∀ (j : Nat) t v, Try.f5.params[j]? = some t → args[j]? = some v → Value.okWide Try.prog W .any base t v := hval0
  have hW' := hW
  obtain ⟨p, q, hA0, hV, rfl, hfz, hnd⟩ := hW
  have hA : DataW.TrodAll enc Try.prog W 0 (fun _ => true) true Try.f5.params.toList args.toList ds p := hA0
  rw [Try.params5] at hA hval
  obtain ⟨v0, v1, v2, d0, d1, d2, p0, p1, p2, rfl, rfl, rfl, h0, h1, h2⟩ := trodAll_three hA
  obtain ⟨rfl, rfl⟩ := trodVars_none hV
  obtain ⟨a0, a1, y0, y1, m, rfl, rfl, rfl, hy0, hy1⟩ := open_agg2 Try.underlying24 (by kernel_rfl) cellsW (hval 0 24 v0 rfl rfl) h0
  obtain ⟨xh, e0, rfl, wxh⟩ := DataW.trod_int Try.underlying22 hy0
  obtain ⟨xl, e1, rfl, wxl⟩ := DataW.trod_int Try.underlying22 hy1
  simp at e0 e1
  subst e0 e1
  obtain ⟨b0, b1, z0, z1, m', rfl, rfl, rfl, hz0, hz1⟩ := open_agg2 Try.underlying24 (by kernel_rfl) cellsW (hval 1 24 v1 rfl rfl) h1
  obtain ⟨yh, e0, rfl, wyh⟩ := DataW.trod_int Try.underlying22 hz0
  obtain ⟨yl, e1, rfl, wyl⟩ := DataW.trod_int Try.underlying22 hz1
  simp at e0 e1
  subst e0 e1
  obtain ⟨n, rfl, rfl, rfl, wn⟩ := open_int Try.underlying22 (hval 2 22 v2 rfl rfl) h2
  clear hA0 hval0
  obtain ⟨n0, n1⟩ := word_of_wf wn
  obtain ⟨n, rfl⟩ := Int.eq_ofNat_of_zero_le n0
  obtain ⟨x, hx, exh, exl⟩ := of_words (word_of_wf wxh) (word_of_wf wxl)
  obtain ⟨y, hy, eyh, eyl⟩ := of_words (word_of_wf wyh) (word_of_wf wyl)
  have wk := back_walk x y n hx hy ⟨n0, n1⟩ W
  simp only [wv, ← exh, ← exl, ← eyh, ← eyl] at wk
  refine wk.mono fun e W' ⟨he, bel⟩ => ?_
  subst he
  exact ⟨_, rfl, _, _, _, [], _, [], hW', trodAll_mk1 (shut_bool Try.underlying4 _), trodAll_mk3 (wide_reads enc W' _ _ _ wxh wxl) (wide_reads enc W' _ _ _ wyh wyl) (shut_int Try.underlying22 wn), rfl, bel.frame _, fun h => by cases h⟩

theorem proved : Rows.WideBackSaid :=
  OpenClaim.holds_of_wide 5 Try.f5 rfl rfl rfl rfl rfl rfl rfl ⟨rfl, rfl, rfl, rfl, rfl⟩ rfl rfl rfl rfl rfl (by kernel_rfl) Try.func5 (by kernel_rfl)
    (of_decide_eq_true (by kernel_rfl)) (by unfold Func.isWrapper; first | (rw [if_pos (by decide +kernel)]; kernel_rfl) | (rw [if_neg (by decide +kernel)]; exact ⟨rfl, rfl⟩))
    (fun os started H enc _ => lifted os started H enc)
#print axioms proved

end Go.Proofs.Ytfcplfbofobdpaa.wideBack
