/-
  haymowlaw09.ChainTables: for any byte, any array of three integers and any integer the law returns true, and its arguments read afterwards as before.
-/
import Derived.Test.YtibaloamgpcghaaKit09
import Derived.Test.YtibaloamgpcghaaTabLo
import Derived.Test.YtibaloamgpcghaaTabHi
import Derived.Test.YtibaloamgpcghaaTabIn
namespace Go.Proofs.Ytibaloamgpcghaa.chainTables
open Go.ChangeShapes Go.WideShapes Go.ChangeAt Go.RowKit Go.Joins
open Go.WideMaps Go.WideElems
set_option linter.unusedVariables false

theorem walked (sz : Nat) (hs : sz < 256) (W N P id : Int) (w : World) : Calls Try.prog 3 #[.int .u8 (sz : Int), .agg #[.int .i64 W, .int .i64 N, .int .i64 P], .int .i64 id] w fun e w' => e = .returned (.bool true) ∧ Below w.heap.size w w' := by
  cases hr : rightv W N P
  · exact tab_no sz hs W N P id hr w
  · obtain ⟨h1, h2, h3, h4, h5, h6, h7⟩ := rightv_iff.1 hr
    obtain ⟨W, rfl⟩ := Int.eq_ofNat_of_zero_le (show 0 ≤ W by omega)
    obtain ⟨N, rfl⟩ := Int.eq_ofNat_of_zero_le h3
    obtain ⟨P, rfl⟩ := Int.eq_ofNat_of_zero_le h5
    have t : TT (osp sz) 0 W N P := ⟨by omega, by omega, by omega, by omega, by omega, by unfold osp; simp, rfl⟩
    by_cases hlo : id < 1
    · exact tab_low sz hs W N P t id hlo w
    · by_cases hhi : ((ent W sz : Nat) : Int) < id
      · exact tab_high sz hs W N P t id hlo hhi w
      · obtain ⟨id, rfl⟩ := Int.eq_ofNat_of_zero_le (show 0 ≤ id by omega)
        exact tab_in sz hs W N P t id (by omega) (by omega) w

set_option maxRecDepth 100000 in
theorem lifted (os : Os) (started : os.Started) (H : Type) (enc : TypeId × Value → H) :
    ReturnsInHanded {} Try.checked os 3 .any (Rows.chainTablesSpec.pre6 enc Try.prog Try.f3 Rows.chainTablesRow.domain false) (Rows.chainTablesSpec.post enc Try.prog Try.f3 false true false false) := by
  refine returnsInHanded_of_change (C := Try.checked) own started (by kernel_rfl) Try.func3
    (ChangeSpec.witness6 (enc := enc) (C := Try.checked) false ⟨#[], #[.int .u8 0, .agg #[.int .i64 0, .int .i64 0, .int .i64 0], .int .i64 0], []⟩ 8 (by kernel_rfl) (by kernel_rfl) (by kernel_rfl) (by kernel_rfl)) ?_
  intro W base args ds gs before hval0 hW hcnd _
  have hval : ∀ (j : Nat) t v, Try.f3.params[j]? = some t → args[j]? = some v → Value.okWide Try.prog W .any base t v := hval0
  have hW' := hW
  obtain ⟨pp, qq, hA0, hV, rfl, hfz, hnd⟩ := hW
  have hA : DataW.TrodAll enc Try.prog W 0 (fun _ => true) true Try.f3.params.toList args.toList ds pp := hA0
  rw [Try.params3] at hA hval
  obtain ⟨v0, v1, v2, d0, d1, d2, p0, p1, p2, rfl, rfl, rfl, h0, h1, h2⟩ := trodAll_three hA
  obtain ⟨rfl, rfl⟩ := trodVars_none hV
  obtain ⟨s, rfl, rfl, rfl, ws⟩ := open_int Try.underlying5 (hval 0 5 v0 rfl rfl) h0
  obtain ⟨id, rfl, rfl, rfl, wid⟩ := open_int Try.underlying3 (hval 2 3 v2 rfl rfl) h2
  have k1 := h1
  have lt1 : ∀ x ∈ p1, x.block < W.heap.size := by obtain ⟨m, hm⟩ := k1; exact DataW.trod_lt m _ _ _ hm
  obtain ⟨x, y, z, rfl⟩ := open_three (hval 1 22 v1 rfl rfl) h1
  clear hA0 hval0
  obtain ⟨s0, s1⟩ := byte_wf ws
  obtain ⟨s, rfl⟩ := Int.eq_ofNat_of_zero_le s0
  refine (walked s (by omega) x y z id W).mono fun e W' ⟨he, bel⟩ => ?_
  subst he
  exact ⟨_, rfl, _, _, _, [], _, [], hW', trodAll_mk1 (shut_bool Try.underlying4 _), trodAll_mk3 (shut_int Try.underlying5 ws) (Below.trod laidOut (by kernel_rfl) (of_decide_eq_true (by kernel_rfl)) k1 bel lt1) (shut_int Try.underlying3 wid), rfl, bel.frame _, fun h => by cases h⟩

theorem proved : Rows.ChainTablesSaid :=
  OpenClaim.holds_of_wide 3 Try.f3 rfl rfl rfl rfl rfl rfl rfl ⟨rfl, rfl, rfl, rfl, rfl⟩ rfl rfl rfl rfl rfl (by kernel_rfl) Try.func3 (by kernel_rfl)
    (of_decide_eq_true (by kernel_rfl)) (by unfold Func.isWrapper; first | (rw [if_pos (by decide +kernel)]; kernel_rfl) | (rw [if_neg (by decide +kernel)]; exact ⟨rfl, rfl⟩))
    (fun os started H enc _ => lifted os started H enc)
#print axioms proved

end Go.Proofs.Ytibaloamgpcghaa.chainTables
