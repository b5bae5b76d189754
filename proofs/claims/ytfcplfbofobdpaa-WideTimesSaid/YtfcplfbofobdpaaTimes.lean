/-
  haymowlaw01.WideTimes: for any number and any word the law returns true, and its arguments read afterwards as before.
-/
import Derived.Test.YtfcplfbofobdpaaKit01
import Derived.Test.YtfcplfbofobdpaaRefMul
import Derived.Test.YtfcplfbofobdpaaRefDiv
namespace Go.Proofs.Ytfcplfbofobdpaa.wideTimes
open Go.ChangeShapes Go.WideShapes Go.ChangeAt Go.RowKit Go.Joins
set_option linter.unusedVariables false

set_option maxHeartbeats 2000000 in
set_option maxRecDepth 100000 in
theorem times_walk (a n : Nat) (ha : N128 a) (hn : Word n) (w : World) : Calls Try.prog 4 #[wv a, .int .u64 n] w fun e w' => e = .returned (.bool true) ∧ Below w.heap.size w w' := by
  have MU := Lib.hid (fun w => mul_any a n ha hn w)
  have RM := Lib.hid (fun w => refmul_any a n ha hn w)
  have RA0 := Row.new w (#[.int .u64 (hi a), .int .u64 (lo a)]) 24 2 _ (wrow_new a)
  by_cases hz : n = 0
  · subst hz
    rw [show ((0 : Nat) : Int) = 0 from rfl] at *
    have DI := Lib.hid (fun w => div_zero a w)
    clear ha hn
    go_enter Try.func4, Try.ntmps4
    go_wp2_with (first
      | (go_at_call 8; refine (awake_any _).mono ?_; rintro e w1 ⟨rfl, hb1⟩; have RA1 := RA0.below hb1; obtain ⟨a10, a11, a12⟩ := RA1.two)
      | (go_at_call 18; refine (MU.out _).mono ?_; rintro e w2 ⟨rfl, hb2⟩; have RA2 := RA1.below hb2; obtain ⟨a20, a21, a22⟩ := RA2.two; have RX2 := Row.new w2 _ 24 2 _ (wrow_new (mulv a 0)))
      | (go_at_call 19; refine (RM.out _).mono ?_; rintro e w3 ⟨rfl, hb3⟩; have RA3 := (RA2.alloc _).below hb3; have RX3 := RX2.below hb3; obtain ⟨a30, a31, a32⟩ := RA3.two; have lx3 := RX3.lt; have RY3 := Row.new w3 _ 24 2 _ (wrow_new (mulv a 0)))
      | (go_at_call 20; refine (DI.out _).mono ?_; rintro e w4 ⟨rfl, hb4⟩; have RX4 := (RX3.alloc _).below hb4; have RY4 := RY3.below hb4; obtain ⟨x40, x41, x42⟩ := RX4.two; obtain ⟨y40, y41, y42⟩ := RY4.two))
    go_ret
    refine ⟨rfl, ?_⟩
    have c1 : Below w.heap.size w w1 := bTrans (by repeat (first | exact Below.refl _ _ | (with_reducible assumption) | refine bAlloc ?_ _ | refine below_drewN ?_ _ | refine Below.drew ?_ | (refine bSet ?_ (by first | (dsimp only; omega) | (simp; done) | (simp; omega)) _) | refine bTrans ?_ (by assumption))) hb1
    exact bAlloc (bTrans (bAlloc (bTrans (bAlloc (bTrans c1 hb2) _) hb3) _) hb4) _
  · have DI := Lib.hid (fun w => div_any a n ha hn (by omega) w)
    have RD := Lib.hid (fun w => refdiv_any a n ha hn (by omega) w)
    have zn : ((n : Int) == 0) = false := by simp [hz]
    have XR := fun w => Row.new w _ 24 2 _ (wrow_new (mulv a n))
    have QR := fun w => Row.new w _ 24 2 _ (wrow_new (a / n))
    generalize ((a % n : Nat) : Int) = r at *
    generalize (n : Int) = N at *
    clear ha hn hz
    go_enter Try.func4, Try.ntmps4
    go_wp2_with (first
      | (go_at_call 8; refine (awake_any _).mono ?_; rintro e w1 ⟨rfl, hb1⟩; have RA1 := RA0.below hb1; obtain ⟨a10, a11, a12⟩ := RA1.two)
      | (go_at_call 18; refine (MU.out _).mono ?_; rintro e w2 ⟨rfl, hb2⟩; have RA2 := RA1.below hb2; obtain ⟨a20, a21, a22⟩ := RA2.two; have RX2 := XR w2)
      | (go_at_call 19; refine (RM.out _).mono ?_; rintro e w3 ⟨rfl, hb3⟩; have RA3 := (RA2.alloc _).below hb3; have RX3 := RX2.below hb3; obtain ⟨a30, a31, a32⟩ := RA3.two; have lx3 := RX3.lt; have RY3 := XR w3)
      | (go_at_call 20; refine (DI.out _).mono ?_; rintro e w4 ⟨rfl, hb4⟩; have RA4 := (RA3.alloc _).below hb4; have RX4 := (RX3.alloc _).below hb4; have RY4 := RY3.below hb4; obtain ⟨a40, a41, a42⟩ := RA4.two; obtain ⟨x40, x41, x42⟩ := RX4.two; obtain ⟨y40, y41, y42⟩ := RY4.two; have RQ4 := QR w4)
      | (go_at_call 21; refine (RD.out _).mono ?_; rintro e w5 ⟨rfl, hb5⟩; have RQ5 := RQ4.below hb5; obtain ⟨q50, q51, q52⟩ := RQ5.two))
    go_ret
    refine ⟨rfl, ?_⟩
    have c1 : Below w.heap.size w w1 := bTrans (by repeat (first | exact Below.refl _ _ | (with_reducible assumption) | refine bAlloc ?_ _ | refine below_drewN ?_ _ | refine Below.drew ?_ | (refine bSet ?_ (by first | (dsimp only; omega) | (simp; done) | (simp; omega)) _) | refine bTrans ?_ (by assumption))) hb1
    exact bAlloc (bTrans (bAlloc (bTrans (bAlloc (bTrans (bAlloc (bTrans c1 hb2) _) hb3) _) hb4) _) hb5) _

set_option maxRecDepth 100000 in
theorem lifted (os : Os) (started : os.Started) (H : Type) (enc : TypeId × Value → H) :
    ReturnsInHanded {} Try.checked os 4 .any (Rows.wideTimesSpec.pre6 enc Try.prog Try.f4 Rows.wideTimesRow.domain false) (Rows.wideTimesSpec.post enc Try.prog Try.f4 false true false false) := by
  refine returnsInHanded_of_change (C := Try.checked) own started (by kernel_rfl) Try.func4
    (ChangeSpec.witness6 (enc := enc) (C := Try.checked) false ⟨#[], #[.agg #[.int .u64 0, .int .u64 0], .int .u64 0], []⟩ 8 (by kernel_rfl) (by kernel_rfl) (by kernel_rfl) (by kernel_rfl)) ?_
  intro W base args ds gs before hval0 hW hcnd _
  have hval : ∀ (j : Nat) t v, Try.f4.params[j]? = some t → args[j]? = some v → Value.okWide Try.prog W .any base t v := hval0
  have hW' := hW
  obtain ⟨p, q, hA0, hV, rfl, hfz, hnd⟩ := hW
  have hA : DataW.TrodAll enc Try.prog W 0 (fun _ => true) true Try.f4.params.toList args.toList ds p := hA0
  rw [Try.params4] at hA hval
  obtain ⟨v0, v1, d0, d1, p0, p1, rfl, rfl, rfl, h0, h1⟩ := trodAll_two hA
  obtain ⟨rfl, rfl⟩ := trodVars_none hV
  obtain ⟨a0, a1, y0, y1, m, rfl, rfl, rfl, hy0, hy1⟩ := open_agg2 Try.underlying24 (by kernel_rfl) cellsW (hval 0 24 v0 rfl rfl) h0
  obtain ⟨xh, e0, rfl, wxh⟩ := DataW.trod_int Try.underlying22 hy0
  obtain ⟨xl, e1, rfl, wxl⟩ := DataW.trod_int Try.underlying22 hy1
  simp at e0 e1
  subst e0 e1
  obtain ⟨n, rfl, rfl, rfl, wn⟩ := open_int Try.underlying22 (hval 1 22 v1 rfl rfl) h1
  clear hA0 hval0
  obtain ⟨n0, n1⟩ := word_of_wf wn
  obtain ⟨n, rfl⟩ := Int.eq_ofNat_of_zero_le n0
  obtain ⟨x, hx, exh, exl⟩ := of_words (word_of_wf wxh) (word_of_wf wxl)
  have wk := times_walk x n hx ⟨n0, n1⟩ W
  simp only [wv, ← exh, ← exl] at wk
  refine wk.mono fun e W' ⟨he, bel⟩ => ?_
  subst he
  exact ⟨_, rfl, _, _, _, [], _, [], hW', trodAll_mk1 (shut_bool Try.underlying4 _), trodAll_mk2 (wide_reads enc W' _ _ _ wxh wxl) (shut_int Try.underlying22 wn), rfl, bel.frame _, fun h => by cases h⟩

theorem proved : Rows.WideTimesSaid :=
  OpenClaim.holds_of_wide 4 Try.f4 rfl rfl rfl rfl rfl rfl rfl ⟨rfl, rfl, rfl, rfl, rfl⟩ rfl rfl rfl rfl rfl (by kernel_rfl) Try.func4 (by kernel_rfl)
    (of_decide_eq_true (by kernel_rfl)) (by unfold Func.isWrapper; first | (rw [if_pos (by decide +kernel)]; kernel_rfl) | (rw [if_neg (by decide +kernel)]; exact ⟨rfl, rfl⟩))
    (fun os started H enc _ => lifted os started H enc)
#print axioms proved

end Go.Proofs.Ytfcplfbofobdpaa.wideTimes
