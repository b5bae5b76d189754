/-
  haymowlaw05.VarintReads: for any bytes the law returns true, and its argument read afterwards as before.
-/
import Derived.Test.YtkobdfenlkcehaaZig
import Derived.Test.YtkobdfenlkcehaaSplit
import Derived.Test.YtkobdfenlkcehaaOpen
import Derived.Test.YtkobdfenlkcehaaRows
import Derived.Deep.RegionWith
namespace Go.Proofs.Ytkobdfenlkcehaa.varintReads
open Go.ChangeShapes Go.WideShapes Go.ChangeAt Go.RowKit Go.Joins
open Go.WideMaps Go.WideElems
set_option linter.unusedVariables false

theorem own : ownKnob Try.prog.godebug = none := by kernel_rfl
theorem laidOut : laidOutB Try.prog = true := by kernel_rfl

/-- what All leaves: the bytes that were split, as a text; the argument as a text, as before -/
theorem all_back (v u : Value) (b : List Nat) (hb : ∀ c ∈ b, c < 256) (hn : b.length ≤ 400) (h0 : (splitv b).2 = 0) (w : World) (hv : NL pw w v (splitv b).1) (hu : NL pb w u b) (W : World) (bel : Below w.heap.size w W) :
    Calls Try.prog 16 #[v] W fun e w' => ∃ a n cap, e = .returned (.slice a n cap) ∧ ((convert 23 9 (.slice a n cap)).run Try.prog w' = .ok (.string (bstr b)) w' ∧ (convert 23 9 u).run Try.prog w' = .ok (.string (bstr b)) w') ∧ Below W.heap.size W w' := by
  obtain ⟨e1, e2⟩ := splitv_back hb h0
  have ln := splitv_len b
  refine (all_any v (splitv b).1 e2 W (hv.below bel) (by omega)).mono ?_
  rintro e w' ⟨x, rfl, own, bw⟩
  rw [e1] at own
  obtain ⟨a, cap, rfl⟩ := owns_slice own
  obtain ⟨ua, uc, rfl⟩ := hu.slice
  exact ⟨a, _, cap, rfl, ⟨conv_list (NL.of_owns own), conv_list ((hu.below bel).below bw)⟩, bw⟩

set_option maxHeartbeats 2000000 in
set_option maxRecDepth 100000 in
theorem reads_walk (v : Value) (b : List Nat) (hb : ∀ c ∈ b, c < 256) (w : World) (hv : NL pb w v b) (hn : b.length ≤ 400) :
    Calls Try.prog 4 #[v] w fun e w' => e = .returned (.bool true) ∧ Below w.heap.size w w' := by
  obtain ⟨va, vc, rfl⟩ := hv.slice
  have ln := splitv_len b
  have GA := fun w h => get_any (.slice va b.length vc) b hb w h (by omega)
  have GR := fun w h => refget_any (.slice va b.length vc) b hb w h (by omega)
  have SA := Lib.hid (fun w h => split_any (.slice va b.length vc) b hb w h (by omega))
  have SR := Lib.hid (fun w h => refsplit_any (.slice va b.length vc) b hb w h (by omega))
  have AB := Lib.hid (fun v h0 => all_back v (.slice va b.length vc) b hb hn h0)
  obtain ⟨n, hln⟩ : ∃ n, b.length = n := ⟨_, rfl⟩
  obtain ⟨⟨x, k, c⟩, hp⟩ : ∃ p, getv b = p := ⟨_, rfl⟩
  rw [hp, hln] at GA GR
  simp only [gres] at GA GR
  rw [hln] at SA SR AB hn hv ⊢
  have GH := Lib.hid GA; have RH := Lib.hid GR
  have n1 : ¬ (400 : Int) < (n : Int) := by omega
  have ql : (splitv b).1.length ≤ 1000000 := by omega
  have cs : NL pb w (.slice va n vc) b → ∀ W, Below w.heap.size w W → (convert 23 9 (.slice va n vc)).run Try.prog W = .ok (.string (bstr b)) W := fun h W bw => conv_list (h.below bw)
  have CS := Lib.hid (cs hv)
  clear GA GR hp hln hn hb ln cs
  generalize hq : splitv b = q at *
  obtain ⟨L, f⟩ := q
  dsimp only at ql
  clear hq
  generalize bstr b = T at *
  go_enter Try.func4, Try.ntmps4
  go_wp2_with (first
    | (go_at_call 7; refine (awake_any _).mono ?_; rintro e w1 ⟨rfl, hb1⟩; have v1 := hv.below hb1)
    | (go_at_call 11; refine (GH.out _ v1).mono ?_; rintro e w2 ⟨rfl, rfl⟩)
    | (go_at_call 12; refine (RH.out _ v1).mono ?_; rintro e w3 ⟨rfl, rfl⟩))
  refine (SA.out w1 v1).mono ?_
  rintro e w4 ⟨l, rfl, l4, hb4⟩
  have v4 := v1.below hb4
  dsimp only at l4 ⊢
  obtain ⟨la, lc, rfl⟩ := l4.slice
  go_wp2_with fail
  refine (SR.out w4 v4).mono ?_
  rintro e w5 ⟨m, rfl, m5, hb5⟩
  have v5 := v4.below hb5
  have l5 := l4.below hb5
  dsimp only at m5 ⊢
  obtain ⟨ma, mc, rfl⟩ := m5.slice
  go_wp2_with fail
  with_reducible refine (same_true _ _ L w5 l5 m5 ql).mono ?_
  rintro e w6 ⟨rfl, hb6⟩
  have l6 := l5.below hb6
  have v6 := v5.below hb6
  have bel : Below w.heap.size w w6 := bTrans (bTrans (bTrans hb1 hb4) hb5) hb6
  by_cases f0 : f = 0
  · subst f0
    have AL := Lib.hid (fun W h => AB.out _ rfl w6 l6 v6 W h)
    have cd := CS.out w6.drew bel.drew
    dsimp only
    go_wp2_with fail
    go_region_with (first
      | (go_at_call 16; (with_reducible refine (AL.out _ ?_).mono ?_); exact (by repeat (first | exact Below.refl _ _ | (with_reducible assumption) | refine bAlloc ?_ _ | refine below_drewN ?_ _ | refine Below.drew ?_ | (refine bSet ?_ (by first | (dsimp only; omega) | (simp; done) | (simp; omega)) _) | refine bTrans ?_ (by assumption))); rintro e w9 ⟨a9, n9, c9, rfl, ⟨cv9, cb9⟩, hb9⟩))
    all_goals
      go_wp2_with fail
      go_ret
      exact ⟨rfl, (by repeat (first | exact Below.refl _ _ | (with_reducible assumption) | refine bAlloc ?_ _ | refine below_drewN ?_ _ | refine Below.drew ?_ | (refine bSet ?_ (by first | (dsimp only; omega) | (simp; done) | (simp; omega)) _) | refine bTrans ?_ (by assumption)))⟩
  · have t1 : ((f : Int) == 0) = false := by simp; omega
    dsimp only
    go_wp2_with fail
    go_quiet (fail)
    go_wp2_with fail
    go_ret
    exact ⟨rfl, (by repeat (first | exact Below.refl _ _ | (with_reducible assumption) | refine bAlloc ?_ _ | refine below_drewN ?_ _ | refine Below.drew ?_ | (refine bSet ?_ (by first | (dsimp only; omega) | (simp; done) | (simp; omega)) _) | refine bTrans ?_ (by assumption)))⟩

set_option maxRecDepth 100000 in
theorem reads_long (a : Option Addr) (n cap : Nat) (w : World) (hn : n ≤ maxLen) (h : 400 < n) :
    Calls Try.prog 4 #[.slice a n cap] w fun e w' => e = .returned (.bool true) ∧ Below w.heap.size w w' := by
  unfold maxLen at hn
  have n1 : (400 : Int) < (n : Int) := by omega
  clear h
  go_enter Try.func4, Try.ntmps4
  go_wp2_with (go_at_call 7; refine (awake_any _).mono ?_; rintro e w1 ⟨rfl, hb1⟩)
  go_ret
  exact ⟨rfl, hb1⟩

set_option maxRecDepth 100000 in
theorem lifted (os : Os) (started : os.Started) (H : Type) (enc : TypeId × Value → H) :
    ReturnsInHanded {} Try.checked os 4 .any (Rows.varintReadsSpec.pre6 enc Try.prog Try.f4 Rows.varintReadsRow.domain false) (Rows.varintReadsSpec.post enc Try.prog Try.f4 false true false false) := by
  refine returnsInHanded_of_change (C := Try.checked) own started (by kernel_rfl) Try.func4
    (ChangeSpec.witness6 (enc := enc) (C := Try.checked) false ⟨#[], #[.slice none 0 0], []⟩ 8 (by kernel_rfl) (by kernel_rfl) (by kernel_rfl) (by kernel_rfl)) ?_
  intro W base args ds gs before hval0 hW hcnd _
  have hval : ∀ (j : Nat) t v, Try.f4.params[j]? = some t → args[j]? = some v → Value.okWide Try.prog W .any base t v := hval0
  have hW' := hW
  obtain ⟨p, q, hA0, hV, rfl, hfz, hnd⟩ := hW
  have hA : DataW.TrodAll enc Try.prog W 0 (fun _ => true) true Try.f4.params.toList args.toList ds p := hA0
  rw [Try.params4] at hA hval
  obtain ⟨v0, d0, rfl, rfl, h0⟩ := trodAll_one hA
  obtain ⟨rfl, rfl⟩ := trodVars_none hV
  obtain ⟨a0, len0, cap0, rfl⟩ := okWide_slice Try.underlying23 (hval 0 23 v0 rfl rfl)
  have k0 := h0
  have lt0 : ∀ x ∈ p, x.block < W.heap.size := by obtain ⟨m, hm⟩ := k0; exact DataW.trod_lt m _ _ _ hm
  obtain ⟨m0, L0, e0, nl0, by0⟩ := open_bytes h0
  clear hA0 hval0
  have wk : Calls Try.prog 4 #[.slice a0 len0 cap0] W fun e w' => e = .returned (.bool true) ∧ Below W.heap.size W w' := by
    by_cases c : len0 ≤ 400
    · exact reads_walk _ L0 by0 W nl0 (by omega)
    · exact reads_long _ _ _ W m0 (by omega)
  refine wk.mono fun e W' ⟨he, bel⟩ => ?_
  subst he
  exact ⟨_, rfl, _, _, _, [], _, [], hW', trodAll_mk1 (shut_bool Try.underlying4 _), trodAll_mk1 (Below.trod laidOut (by kernel_rfl) (of_decide_eq_true (by kernel_rfl)) k0 bel lt0), rfl, bel.frame _, fun h => by cases h⟩

theorem proved : Rows.VarintReadsSaid :=
  OpenClaim.holds_of_wide 4 Try.f4 rfl rfl rfl rfl rfl rfl rfl ⟨rfl, rfl, rfl, rfl, rfl⟩ rfl rfl rfl rfl rfl (by kernel_rfl) Try.func4 (by kernel_rfl)
    (of_decide_eq_true (by kernel_rfl)) (by unfold Func.isWrapper; first | (rw [if_pos (by decide +kernel)]; kernel_rfl) | (rw [if_neg (by decide +kernel)]; exact ⟨rfl, rfl⟩))
    (fun os started H enc _ => lifted os started H enc)
#print axioms proved

end Go.Proofs.Ytkobdfenlkcehaa.varintReads
