/-
  haymowlaw14.SemiTurns: for any words, any pieces and any further room the law returns true, and its arguments read afterwards as before.
-/
import Derived.Test.YtnpoiebhajjkbaaKitR
import Derived.Test.YtnpoiebhajjkbaaTurnsW
import Derived.Deep.Slices
namespace Go.Proofs.Ytnpoiebhajjkbaa.semiTurns
open Go.ChangeShapes Go.WideShapes Go.ChangeAt Go.RowKit Go.Joins
open Go.WideMaps Go.WideElems
set_option linter.unusedVariables false

theorem cells8 : Try.prog.cellsOf 44 = 2 := by kernel_rfl
theorem cell8 : Try.prog.cellsOf 5 = 1 := by kernel_rfl
theorem add_none8 (b o i : Nat) : (⟨b, o, none⟩ : Addr).add i = ⟨b, o + i, none⟩ := by unfold Addr.add; split <;> simp_all
theorem list_of8 {α : Type} (P : Nat → α → Prop) : ∀ n, (∀ i, i < n → ∃ x, P i x) → ∃ L : List α, L.length = n ∧ ∀ i x, L[i]? = some x → P i x
  | 0, _ => ⟨[], rfl, fun i x h => by simp at h⟩
  | n + 1, h => by
    obtain ⟨L, hl, hp⟩ := list_of8 P n (fun i hi => h i (by omega))
    obtain ⟨x, hx⟩ := h n (by omega)
    refine ⟨L ++ [x], by simp [hl], fun i y hy => ?_⟩
    by_cases c : i < n
    · rw [List.getElem?_append_left (by omega)] at hy; exact hp i y hy
    · have e : i = n := by
        have := (List.getElem?_eq_some_iff.1 hy).1
        simp at this; omega
      subst e
      rw [List.getElem?_append_right (by omega), hl] at hy
      simp at hy
      subst hy; exact hx
section
variable {H : Type} {enc : TypeId × Value → H} {W : World} {base : Nat} {spare : Nat → Bool} {held : Bool}
theorem pair_of_cells {fuel : Nat} {cs : List Value} {y : DataW H × List MemPlace} (h : DataW.trod enc Try.prog W base spare held fuel 44 cs = some y) :
    ∃ a s : Nat, cs = [.int .u8 (a : Int), .int .u8 (s : Int)] ∧ a < 256 ∧ s < 256 := by
  obtain ⟨xs, m, _, _, hcl, hl, hel⟩ := DataW.trod_array Try.underlying44 h
  have one : ∀ j, j < 2 → ∃ z : Nat, cs[j]? = some (.int .u8 (z : Int)) ∧ z < 256 := by
    intro j hj
    have e := hel j hj
    rw [cell8, Nat.mul_one] at e
    have hjx : j < xs.length := by omega
    rw [List.getElem?_eq_getElem hjx] at e
    obtain ⟨z, ez, _, wz⟩ := DataW.trod_int Try.underlying5 e
    obtain ⟨z0, z1⟩ := byte_wfR wz
    obtain ⟨y, rfl⟩ := Int.eq_ofNat_of_zero_le z0
    refine ⟨y, ?_, by omega⟩
    have h2 := congrArg (fun l => l[0]?) ez
    simp only [List.getElem?_take, List.getElem?_drop] at h2
    simpa using h2
  obtain ⟨x, hx, bx⟩ := one 0 (by omega)
  obtain ⟨y, hy, by'⟩ := one 1 (by omega)
  have hlen : cs.length = 2 := by
    first
      | (rw [cell8] at hcl; omega)
      | (rw [cells8] at hcl; omega)
      | omega
  refine ⟨x, y, List.ext_getElem? fun j => ?_, bx, by'⟩
  match j with
  | 0 => rw [hx]; rfl
  | 1 => rw [hy]; rfl
  | j + 2 => rw [List.getElem?_eq_none (by omega), List.getElem?_eq_none (by simp)]
theorem pairs_in {a : Option Addr} {n cap : Nat} {d : DataW H} {p : List MemPlace} (h : DataW.Trod enc Try.prog W base spare held 42 (.slice a n cap) d p) :
    n ≤ maxLen ∧ (n ≤ 1000000 → ∃ F : List (Nat × Nat), F.length = n ∧ P8 W (.slice a n cap) F ∧ ∀ f ∈ F, f.1 < 256 ∧ f.2 < 256) := by
  obtain ⟨fuel, hf⟩ := h
  rcases Go.Deep.open_slice Try.underlying42 hf with ⟨hcs, _⟩ | ⟨x, l, c, m, q, D, Pl, hcs, _, hl, hc, hm, _, hi⟩
  · simp [Value.cells] at hcs
    obtain ⟨rfl, rfl, rfl⟩ := hcs
    exact ⟨by unfold maxLen; omega, fun _ => ⟨[], rfl, ⟨none, 0, rfl, .inl rfl⟩, by simp⟩⟩
  · simp [Value.cells] at hcs
    obtain ⟨rfl, rfl, rfl⟩ := hcs
    refine ⟨by omega, fun hn => ?_⟩
    have hnm : n ≤ m := by rw [hm]; split <;> omega
    by_cases c0 : n = 0
    · subst c0; exact ⟨[], rfl, ⟨some x, cap, rfl, .inl rfl⟩, by simp⟩
    obtain ⟨b, off, spot⟩ := x
    have hspot : spot = none := by
      obtain ⟨cs', hc1, hc2⟩ := hi 0 (by omega)
      obtain ⟨s, t, rfl, _, _⟩ := pair_of_cells hc2
      rw [cells8] at hc1
      obtain ⟨_, _, hat⟩ := World.cells?_some hc1
      have h0 := hat 0 (by omega)
      have h1 := World.cell?_spot h0
      simpa [Addr.add] using h1
    subst hspot
    have key : ∀ i, i < n → ∃ y : Nat × Nat, (W.cell? ⟨b, off + i * 2, none⟩ = some (.int .u8 (y.1 : Int)) ∧ W.cell? ⟨b, off + i * 2 + 1, none⟩ = some (.int .u8 (y.2 : Int))) ∧ y.1 < 256 ∧ y.2 < 256 := fun i hin => by
      obtain ⟨cs', hc1, hc2⟩ := hi i (by omega)
      obtain ⟨s, t, rfl, bs, bt⟩ := pair_of_cells hc2
      rw [cells8] at hc1
      obtain ⟨_, _, hat⟩ := World.cells?_some hc1
      have h0 := hat 0 (by omega)
      have h1 := hat 1 (by omega)
      simp only [add_none8] at h0 h1
      exact ⟨(s, t), ⟨by simpa using h0, by simpa using h1⟩, bs, bt⟩
    obtain ⟨F, hF, hp⟩ := list_of8 _ n key
    obtain ⟨y, hc1, _⟩ := key 0 (by omega)
    refine ⟨F, hF, ⟨some ⟨b, off, none⟩, cap, by rw [hF], .inr ⟨b, off, rfl, World.block_lt_of_cell? W _ hc1.1, fun i hi => ?_⟩⟩, fun f hf => ?_⟩
    · have e : F[i]? = some (F.getD i (0, 0)) := by simp [List.getD, hi]
      exact (hp i _ e).1
    · obtain ⟨i, hi, rfl⟩ := List.getElem_of_mem hf
      exact (hp i _ (List.getElem?_eq_getElem hi)).2
end
set_option maxRecDepth 100000 in
theorem long_l (la pa : Option Addr) (n lc np pc : Nat) (m : Int) (h : ¬ (n ≤ 60 ∧ np ≤ 20)) (w : World) : Calls Try.prog 4 #[.slice la n lc, .slice pa np pc, .int .u8 m] w fun e w' => e = .returned (.bool true) ∧ Below w.heap.size w w' := by
  have AW := Lib.hid (fun w => awake14_any w)
  by_cases c1 : n ≤ 60
  · have l1 : ¬ (60 : Int) < (n : Int) := by omega
    have l2 : ¬ 60 < n := by omega
    have l3 : (20 : Int) < (np : Int) := by omega
    have l4 : 20 < np := by omega
    clear h c1
    go_enter Try.func4, Try.ntmps4
    go_wp2_with fail
    with_reducible refine (AW.out _).mono ?_
    rintro e w1 ⟨rfl, b1⟩
    dsimp only
    go_wp2_with fail
    go_ret
    exact ⟨rfl, b1⟩
  · have l1 : (60 : Int) < (n : Int) := by omega
    have l2 : 60 < n := by omega
    clear h c1
    go_enter Try.func4, Try.ntmps4
    go_wp2_with fail
    with_reducible refine (AW.out _).mono ?_
    rintro e w1 ⟨rfl, b1⟩
    dsimp only
    go_wp2_with fail
    go_ret
    exact ⟨rfl, b1⟩
set_option maxRecDepth 100000 in
theorem lifted (os : Os) (started : os.Started) (H : Type) (enc : TypeId × Value → H) :
    ReturnsInHanded {} Try.checked os 4 .any (Rows.semiTurnsSpec.pre6 enc Try.prog Try.f4 Rows.semiTurnsRow.domain false) (Rows.semiTurnsSpec.post enc Try.prog Try.f4 false true false false) := by
  refine returnsInHanded_of_change (C := Try.checked) ownR started (by kernel_rfl) Try.func4
    (ChangeSpec.witness6 (enc := enc) (C := Try.checked) false ⟨#[], #[.slice none 0 0, .slice none 0 0, .int .u8 0], []⟩ 8 (by kernel_rfl) (by kernel_rfl) (by kernel_rfl) (by kernel_rfl)) ?_
  intro W base args ds gs before hval0 hW hcnd _
  have hval : ∀ (j : Nat) t v, Try.f4.params[j]? = some t → args[j]? = some v → Value.okWide Try.prog W .any base t v := hval0
  have hW' := hW
  obtain ⟨pp, qq, hA0, hV, rfl, hfz, hnd⟩ := hW
  have hA : DataW.TrodAll enc Try.prog W 0 (fun _ => true) true Try.f4.params.toList args.toList ds pp := hA0
  rw [Try.params4] at hA hval
  obtain ⟨v0, v1, v2, d0, d1, d2, p0, p1, p2, rfl, rfl, rfl, h0, h1, h2⟩ := trodAll_three hA
  obtain ⟨rfl, rfl⟩ := trodVars_none hV
  obtain ⟨a0, len0, cap0, rfl⟩ := okWide_slice Try.underlying41 (hval 0 41 v0 rfl rfl)
  obtain ⟨a1, len1, cap1, rfl⟩ := okWide_slice Try.underlying42 (hval 1 42 v1 rfl rfl)
  obtain ⟨x, rfl, rfl, rfl, wx⟩ := open_int Try.underlying5 (hval 2 5 v2 rfl rfl) h2
  obtain ⟨x0, x1⟩ := byte_wfR wx
  obtain ⟨s, rfl⟩ := Int.eq_ofNat_of_zero_le x0
  have k0 := h0
  have lt0 : ∀ z ∈ p0, z.block < W.heap.size := by obtain ⟨m, hm⟩ := k0; exact DataW.trod_lt m _ _ _ hm
  have k1 := h1
  have lt1 : ∀ z ∈ p1, z.block < W.heap.size := by obtain ⟨m, hm⟩ := k1; exact DataW.trod_lt m _ _ _ hm
  obtain ⟨m0, L, hL, hl, _⟩ := open_wordsR h0
  obtain ⟨m1, hF⟩ := pairs_in h1
  clear hA0 hval0
  have wk : Calls Try.prog 4 #[.slice a0 len0 cap0, .slice a1 len1 cap1, .int .u8 (s : Int)] W fun e w' => e = .returned (.bool true) ∧ Below W.heap.size W w' := by
    by_cases c1 : len0 ≤ 60 ∧ len1 ≤ 20
    · obtain ⟨F, lF, hp, bF⟩ := hF (by omega)
      exact turns_in L F s (by omega) W _ _ hl (by omega) hp (by omega) bF
    · exact long_l a0 a1 len0 cap0 len1 cap1 _ c1 W
  refine wk.mono fun e W' ⟨he, bel⟩ => ?_
  subst he
  exact ⟨_, rfl, _, _, _, [], _, [], hW', trodAll_mk1 (shut_bool Try.underlying4 _), trodAll_mk3 (Below.trod laidOutR (by kernel_rfl) (of_decide_eq_true (by kernel_rfl)) k0 bel lt0) (Below.trod laidOutR (by kernel_rfl) (of_decide_eq_true (by kernel_rfl)) k1 bel lt1) (shut_int Try.underlying5 wx), rfl, bel.frame _, fun h => by cases h⟩

theorem proved : Rows.SemiTurnsSaid :=
  OpenClaim.holds_of_wide 4 Try.f4 rfl rfl rfl rfl rfl rfl rfl ⟨rfl, rfl, rfl, rfl, rfl⟩ rfl rfl rfl rfl rfl (by kernel_rfl) Try.func4 (by kernel_rfl)
    (of_decide_eq_true (by kernel_rfl)) (by unfold Func.isWrapper; first | (rw [if_pos (by decide +kernel)]; kernel_rfl) | (rw [if_neg (by decide +kernel)]; exact ⟨rfl, rfl⟩))
    (fun os started H enc _ => lifted os started H enc)
#print axioms proved

end Go.Proofs.Ytnpoiebhajjkbaa.semiTurns
