/-
  haymowlaw01.WideSums: for any two numbers the law returns true, and its arguments read afterwards as before.
-/
import Derived.Test.YtfcplfbofobdpaaKit01
import Derived.Test.YtfcplfbofobdpaaRef01c
namespace Go.Proofs.Ytfcplfbofobdpaa.wideSums
open Go.ChangeShapes Go.WideShapes Go.ChangeAt Go.RowKit Go.Joins
set_option linter.unusedVariables false

theorem refsub_any (a b : Nat) (ha : N128 a) (hb : N128 b) (w : World) : Calls Try.prog 12 #[wv a, wv b] w fun e w' => e = .returned (.tuple #[wv (subv a b), .bool (subok a b)]) ∧ Below w.heap.size w w' := by
  rcases Nat.lt_or_ge a b with h | h
  · exact refsub_no a b ha hb h w
  · exact refsub_yes a b ha hb h w
theorem lt_cmp (a b : Nat) : (ltv a b == decide (cmpv a b < 0)) = true := by
  unfold ltv cmpv
  by_cases h : a < b
  · simp [h]
  · by_cases h2 : a = b <;> simp [h, h2]
set_option maxHeartbeats 2000000 in
set_option maxRecDepth 100000 in
theorem sums_walk (a b : Nat) (ha : N128 a) (hb : N128 b) (w : World) : Calls Try.prog 3 #[wv a, wv b] w fun e w' => e = .returned (.bool true) ∧ Below w.heap.size w w' := by
  have lc := lt_cmp a b
  have NA := Lib.hid ha
  have NB := Lib.hid hb
  clear ha hb
  have RA0 : Row ((w.alloc (.cells #[.int .u64 (hi a), .int .u64 (lo a)] 24)).alloc (.cells #[.int .u64 (hi b), .int .u64 (lo b)] 24)) w.heap.size 2 (wrow a) := (Row.new w _ _ 2 _ (wrow_new a)).alloc _
  have RB0 := two_new w (.cells #[.int .u64 (hi a), .int .u64 (lo a)] 24) b
  go_enter Try.func3, Try.ntmps3
  go_wp2_with (first
    | (go_at_call 8; refine (awake_any _).mono ?_; rintro e w1 ⟨rfl, hb1⟩; have RA1 := RA0.below hb1; have RB1 := RB0.below hb1; obtain ⟨a10, a11, a12⟩ := RA1.two; obtain ⟨b10, b11, b12⟩ := RB1.two)
    | (go_at_call 9; refine (add_any a b NA.out NB.out _).mono ?_; rintro e w2 ⟨rfl, hb2⟩; have RA2 := RA1.below hb2; have RB2 := RB1.below hb2; obtain ⟨a20, a21, a22⟩ := RA2.two; obtain ⟨b20, b21, b22⟩ := RB2.two; have RX2 := Row.new w2 _ 24 2 _ (wrow_new (addv a b)))
    | (go_at_call 10; refine (refadd_any a b NA.out NB.out _).mono ?_; rintro e w3 ⟨rfl, hb3⟩; have RA3 := (RA2.alloc _).below hb3; have RB3 := (RB2.alloc _).below hb3; have RX3 := RX2.below hb3; have lx3 := RX3.lt; obtain ⟨a30, a31, a32⟩ := RA3.two; obtain ⟨b30, b31, b32⟩ := RB3.two; have RY3 := Row.new w3 _ 24 2 _ (wrow_new (addv a b)))
    | (go_at_call 11; refine (sub_any a b NA.out NB.out _).mono ?_; rintro e w4 ⟨rfl, hb4⟩; have RA4 := (RA3.alloc _).below hb4; have RB4 := (RB3.alloc _).below hb4; have RX4 := (RX3.alloc _).below hb4; have RY4 := RY3.below hb4; have lx4 := RX4.lt; have ly4 := RY4.lt; obtain ⟨a40, a41, a42⟩ := RA4.two; obtain ⟨b40, b41, b42⟩ := RB4.two; have RZ4 := Row.new w4 _ 24 2 _ (wrow_new (subv a b)))
    | (go_at_call 12; refine (refsub_any a b NA.out NB.out _).mono ?_; rintro e w5 ⟨rfl, hb5⟩; have RA5 := (RA4.alloc _).below hb5; have RB5 := (RB4.alloc _).below hb5; have RX5 := (RX4.alloc _).below hb5; have RY5 := (RY4.alloc _).below hb5; have RZ5 := RZ4.below hb5; have lx5 := RX5.lt; have ly5 := RY5.lt; have lz5 := RZ5.lt; obtain ⟨a50, a51, a52⟩ := RA5.two; obtain ⟨b50, b51, b52⟩ := RB5.two; have RW5 := Row.new w5 _ 24 2 _ (wrow_new (subv a b)))
    | (go_at_call 13; refine (refcmp_any a b NA.out NB.out _).mono ?_; rintro e w6 ⟨rfl, hb6⟩; have RA6 := (RA5.alloc _).below hb6; have RB6 := (RB5.alloc _).below hb6; have RX6 := (RX5.alloc _).below hb6; have RY6 := (RY5.alloc _).below hb6; have RZ6 := (RZ5.alloc _).below hb6; have RW6 := RW5.below hb6; obtain ⟨a60, a61, a62⟩ := RA6.two; obtain ⟨b60, b61, b62⟩ := RB6.two; obtain ⟨x60, x61, x62⟩ := RX6.two; obtain ⟨y60, y61, y62⟩ := RY6.two; obtain ⟨z60, z61, z62⟩ := RZ6.two; obtain ⟨v60, v61, v62⟩ := RW6.two)
    | (go_at_call 14; refine (cmp_any a b _).mono ?_; rintro e w7 ⟨rfl, hb7⟩; have RA7 := RA6.below hb7; have RB7 := RB6.below hb7; obtain ⟨a70, a71, a72⟩ := RA7.two; obtain ⟨b70, b71, b72⟩ := RB7.two)
    | (go_at_call 15; refine (less_any a b _).mono ?_; rintro e w8 ⟨rfl, hb8⟩)
    | (go_at_call 16; refine (most_any _).mono ?_; rintro e w9 ⟨rfl, rfl⟩)
    | (go_at_call 17; refine (refmost_any _).mono ?_; rintro e w9 ⟨rfl, rfl⟩))
  go_ret
  refine ⟨rfl, ?_⟩
  have c1 : Below w.heap.size w w1 := bTrans (by repeat (first | exact Below.refl _ _ | (with_reducible assumption) | refine bAlloc ?_ _ | refine below_drewN ?_ _ | refine Below.drew ?_ | (refine bSet ?_ (by first | (dsimp only; omega) | (simp; done) | (simp; omega)) _) | refine bTrans ?_ (by assumption))) hb1
  have c2 := bTrans c1 hb2
  have c3 := bTrans (bAlloc c2 _) hb3
  have c4 := bTrans (bAlloc c3 _) hb4
  have c5 := bTrans (bAlloc c4 _) hb5
  have c6 := bTrans (bAlloc c5 _) hb6
  have c7 := bTrans c6 hb7
  have c8 := bTrans c7 hb8
  exact (by repeat (first | exact Below.refl _ _ | (with_reducible assumption) | refine bAlloc ?_ _ | refine below_drewN ?_ _ | refine Below.drew ?_ | (refine bSet ?_ (by first | (dsimp only; omega) | (simp; done) | (simp; omega)) _) | refine bTrans ?_ (by assumption)))

set_option maxRecDepth 100000 in
theorem lifted (os : Os) (started : os.Started) (H : Type) (enc : TypeId × Value → H) :
    ReturnsInHanded {} Try.checked os 3 .any (Rows.wideSumsSpec.pre6 enc Try.prog Try.f3 Rows.wideSumsRow.domain false) (Rows.wideSumsSpec.post enc Try.prog Try.f3 false true false false) := by
  refine returnsInHanded_of_change (C := Try.checked) own started (by kernel_rfl) Try.func3
    (ChangeSpec.witness6 (enc := enc) (C := Try.checked) false ⟨#[], #[.agg #[.int .u64 0, .int .u64 0], .agg #[.int .u64 0, .int .u64 0]], []⟩ 8 (by kernel_rfl) (by kernel_rfl) (by kernel_rfl) (by kernel_rfl)) ?_
  intro W base args ds gs before hval0 hW hcnd _
  have hval : ∀ (j : Nat) t v, Try.f3.params[j]? = some t → args[j]? = some v → Value.okWide Try.prog W .any base t v := hval0
  have hW' := hW
  obtain ⟨p, q, hA0, hV, rfl, hfz, hnd⟩ := hW
  have hA : DataW.TrodAll enc Try.prog W 0 (fun _ => true) true Try.f3.params.toList args.toList ds p := hA0
  rw [Try.params3] at hA hval
  obtain ⟨v0, v1, d0, d1, p0, p1, rfl, rfl, rfl, h0, h1⟩ := trodAll_two hA
  obtain ⟨rfl, rfl⟩ := trodVars_none hV
  obtain ⟨a0, a1, y0, y1, m, rfl, rfl, rfl, hy0, hy1⟩ := open_agg2 Try.underlying24 (by kernel_rfl) cellsW (hval 0 24 v0 rfl rfl) h0
  obtain ⟨xh, e0, rfl, wxh⟩ := DataW.trod_int Try.underlying22 hy0
  obtain ⟨xl, e1, rfl, wxl⟩ := DataW.trod_int Try.underlying22 hy1
  simp at e0 e1
  subst e0 e1
  obtain ⟨b0, b1, z0, z1, m', rfl, rfl, rfl, hz0, hz1⟩ := open_agg2 Try.underlying24 (by kernel_rfl) cellsW (hval 1 24 v1 rfl rfl) h1
  obtain ⟨yh, e0, rfl, wyh⟩ := DataW.trod_int Try.underlying22 hz0
  obtain ⟨yl, e1, rfl, wyl⟩ := DataW.trod_int Try.underlying22 hz1
  simp at e0 e1
  subst e0 e1
  clear hA0 hval0
  obtain ⟨x, hx, exh, exl⟩ := of_words (word_of_wf wxh) (word_of_wf wxl)
  obtain ⟨y, hy, eyh, eyl⟩ := of_words (word_of_wf wyh) (word_of_wf wyl)
  have wk := sums_walk x y hx hy W
  simp only [wv, ← exh, ← exl, ← eyh, ← eyl] at wk
  refine wk.mono fun e W' ⟨he, bel⟩ => ?_
  subst he
  exact ⟨_, rfl, _, _, _, [], _, [], hW', trodAll_mk1 (shut_bool Try.underlying4 _), trodAll_mk2 (wide_reads enc W' _ _ _ wxh wxl) (wide_reads enc W' _ _ _ wyh wyl), rfl, bel.frame _, fun h => by cases h⟩

theorem proved : Rows.WideSumsSaid :=
  OpenClaim.holds_of_wide 3 Try.f3 rfl rfl rfl rfl rfl rfl rfl ⟨rfl, rfl, rfl, rfl, rfl⟩ rfl rfl rfl rfl rfl (by kernel_rfl) Try.func3 (by kernel_rfl)
    (of_decide_eq_true (by kernel_rfl)) (by unfold Func.isWrapper; first | (rw [if_pos (by decide +kernel)]; kernel_rfl) | (rw [if_neg (by decide +kernel)]; exact ⟨rfl, rfl⟩))
    (fun os started H enc _ => lifted os started H enc)
#print axioms proved

end Go.Proofs.Ytfcplfbofobdpaa.wideSums
