/-
  haymowlaw19.RootsApart: for any two bytes, any two words and any integer the law returns true, and its arguments read afterwards as before.
-/
import Derived.Test.YtppmicepkjhfeaaKitR
import Derived.Test.YtppmicepkjhfeaaApW19
namespace Go.Proofs.Ytppmicepkjhfeaa.rootsApart
open Go.ChangeShapes Go.WideShapes Go.ChangeAt Go.RowKit Go.Joins
open Go.WideMaps Go.WideElems
set_option linter.unusedVariables false

theorem cells2b : Try.prog.cellsOf 22 = 2 := by kernel_rfl
theorem cells1b : Try.prog.cellsOf 5 = 1 := by kernel_rfl
set_option maxRecDepth 100000 in
/-- an array of two bytes that came in -/
theorem open_twob {H : Type} {enc : TypeId × Value → H} {W : World} {base : Nat} {sp : Nat → Bool} {v : Value} {d : DataW H} {p : List MemPlace}
    (hv : Value.okWide Try.prog W .any base 22 v) (h : DataW.Trod enc Try.prog W 0 sp true 22 v d p) : ∃ x y : Nat, v = .agg #[.int .u8 (x : Int), .int .u8 (y : Int)] ∧ x < 256 ∧ y < 256 := by
  obtain ⟨cs, rfl, hsz, _⟩ : ∃ cs, v = .agg cs ∧ cs.size = Try.prog.cellsOf 22 ∧ Row.okWide Try.prog W .any base 22 cs := by
    simpa [Value.okWide, Try.underlying22] using hv
  rw [cells2b] at hsz
  obtain ⟨fuel, hf⟩ := h
  obtain ⟨xs, m, _, _, _, hl, hel⟩ := DataW.trod_array Try.underlying22 hf
  have one : ∀ j, j < 2 → ∃ z : Nat, cs[j]? = some (.int .u8 (z : Int)) ∧ z < 256 := by
    intro j hj
    have e := hel j hj
    rw [cells1b, Nat.mul_one] at e
    have hjx : j < xs.length := by omega
    rw [List.getElem?_eq_getElem hjx] at e
    obtain ⟨z, ez, _, wz⟩ := DataW.trod_int Try.underlying5 e
    obtain ⟨z0, z1⟩ := byte_wfR wz
    obtain ⟨y, rfl⟩ := Int.eq_ofNat_of_zero_le z0
    refine ⟨y, ?_, by omega⟩
    have hc : (((Value.agg cs).cells.toList).drop j).take 1 = [Value.int .u8 (y : Int)] := ez
    have h2 := congrArg (fun l => l[0]?) hc
    simp only [List.getElem?_take, List.getElem?_drop] at h2
    simpa [Value.cells] using h2
  obtain ⟨x, hx, bx⟩ := one 0 (by omega)
  obtain ⟨y, hy, by'⟩ := one 1 (by omega)
  refine ⟨x, y, congrArg Value.agg (Array.ext_getElem? fun j => ?_), bx, by'⟩
  match j with
  | 0 => rw [hx]; rfl
  | 1 => rw [hy]; rfl
  | j + 2 => rw [Array.getElem?_eq_none (by omega), Array.getElem?_eq_none (by simp)]

theorem cells2w : Try.prog.cellsOf 24 = 2 := by kernel_rfl
theorem cells1w : Try.prog.cellsOf 23 = 1 := by kernel_rfl
set_option maxRecDepth 100000 in
/-- an array of two bytes that came in -/
theorem open_twow {H : Type} {enc : TypeId × Value → H} {W : World} {base : Nat} {sp : Nat → Bool} {v : Value} {d : DataW H} {p : List MemPlace}
    (hv : Value.okWide Try.prog W .any base 24 v) (h : DataW.Trod enc Try.prog W 0 sp true 24 v d p) : ∃ x y : Nat, v = .agg #[.int .u64 (x : Int), .int .u64 (y : Int)] ∧ x < 18446744073709551616 ∧ y < 18446744073709551616 := by
  obtain ⟨cs, rfl, hsz, _⟩ : ∃ cs, v = .agg cs ∧ cs.size = Try.prog.cellsOf 24 ∧ Row.okWide Try.prog W .any base 24 cs := by
    simpa [Value.okWide, Try.underlying24] using hv
  rw [cells2w] at hsz
  obtain ⟨fuel, hf⟩ := h
  obtain ⟨xs, m, _, _, _, hl, hel⟩ := DataW.trod_array Try.underlying24 hf
  have one : ∀ j, j < 2 → ∃ z : Nat, cs[j]? = some (.int .u64 (z : Int)) ∧ z < 18446744073709551616 := by
    intro j hj
    have e := hel j hj
    rw [cells1w, Nat.mul_one] at e
    have hjx : j < xs.length := by omega
    rw [List.getElem?_eq_getElem hjx] at e
    obtain ⟨z, ez, _, wz⟩ := DataW.trod_int Try.underlying23 e
    obtain ⟨z0, z1⟩ := word_wfR wz
    obtain ⟨y, rfl⟩ := Int.eq_ofNat_of_zero_le z0
    refine ⟨y, ?_, by omega⟩
    have hc : (((Value.agg cs).cells.toList).drop j).take 1 = [Value.int .u64 (y : Int)] := ez
    have h2 := congrArg (fun l => l[0]?) hc
    simp only [List.getElem?_take, List.getElem?_drop] at h2
    simpa [Value.cells] using h2
  obtain ⟨x, hx, bx⟩ := one 0 (by omega)
  obtain ⟨y, hy, by'⟩ := one 1 (by omega)
  refine ⟨x, y, congrArg Value.agg (Array.ext_getElem? fun j => ?_), bx, by'⟩
  match j with
  | 0 => rw [hx]; rfl
  | 1 => rw [hy]; rfl
  | j + 2 => rw [Array.getElem?_eq_none (by omega), Array.getElem?_eq_none (by simp)]

theorem whole_wf {n : Int} (h : (Lit.int .i64 n).wf = true) : -9223372036854775808 ≤ n ∧ n ≤ 9223372036854775807 := by
  simp [Lit.wf, IntKind.min, IntKind.max, IntKind.signed, IntKind.bits] at h
  omega
set_option maxRecDepth 100000 in
theorem lifted (os : Os) (started : os.Started) (H : Type) (enc : TypeId × Value → H) :
    ReturnsInHanded {} Try.checked os 3 .any (Rows.rootsApartSpec.pre6 enc Try.prog Try.f3 Rows.rootsApartRow.domain false) (Rows.rootsApartSpec.post enc Try.prog Try.f3 false true false false) := by
  refine returnsInHanded_of_change (C := Try.checked) ownR started (by kernel_rfl) Try.func3
    (ChangeSpec.witness6 (enc := enc) (C := Try.checked) false ⟨#[], #[.agg #[.int .u8 0, .int .u8 0], .agg #[.int .u64 0, .int .u64 0], .int .i64 0], []⟩ 8 (by kernel_rfl) (by kernel_rfl) (by kernel_rfl) (by kernel_rfl)) ?_
  intro W base args ds gs before hval0 hW hcnd _
  have hval : ∀ (j : Nat) t v, Try.f3.params[j]? = some t → args[j]? = some v → Value.okWide Try.prog W .any base t v := hval0
  have hW' := hW
  obtain ⟨pp, qq, hA0, hV, rfl, hfz, hnd⟩ := hW
  have hA : DataW.TrodAll enc Try.prog W 0 (fun _ => true) true Try.f3.params.toList args.toList ds pp := hA0
  rw [Try.params3] at hA hval
  obtain ⟨v0, v1, v2, d0, d1, d2, p0, p1, p2, rfl, rfl, rfl, h0, h1, h2⟩ := trodAll_three hA
  obtain ⟨rfl, rfl⟩ := trodVars_none hV
  have k0 := h0
  have k1 := h1
  have lt0 : ∀ x ∈ p0, x.block < W.heap.size := by obtain ⟨m, hm⟩ := k0; exact DataW.trod_lt m _ _ _ hm
  have lt1 : ∀ x ∈ p1, x.block < W.heap.size := by obtain ⟨m, hm⟩ := k1; exact DataW.trod_lt m _ _ _ hm
  obtain ⟨x0, x1, rfl, hx0, hx1⟩ := open_twob (hval 0 22 v0 rfl rfl) h0
  obtain ⟨y0, y1, rfl, hy0, hy1⟩ := open_twow (hval 1 24 v1 rfl rfl) h1
  obtain ⟨raw, rfl, rfl, rfl, wx⟩ := open_int Try.underlying3 (hval 2 3 v2 rfl rfl) h2
  clear hA0 hval0
  refine (apart_in x0 x1 y0 y1 hx0 hx1 hy0 hy1 raw (whole_wf wx) W).mono fun e W' ⟨he, bel⟩ => ?_
  subst he
  exact ⟨_, rfl, _, _, _, [], _, [], hW', trodAll_mk1 (shut_bool Try.underlying4 _), trodAll_mk3 (Below.trod laidOutR (by kernel_rfl) (of_decide_eq_true (by kernel_rfl)) k0 bel lt0) (Below.trod laidOutR (by kernel_rfl) (of_decide_eq_true (by kernel_rfl)) k1 bel lt1) (shut_int Try.underlying3 wx), rfl, bel.frame _, fun h => by cases h⟩

theorem proved : Rows.RootsApartSaid :=
  OpenClaim.holds_of_wide 3 Try.f3 rfl rfl rfl rfl rfl rfl rfl ⟨rfl, rfl, rfl, rfl, rfl⟩ rfl rfl rfl rfl rfl (by kernel_rfl) Try.func3 (by kernel_rfl)
    (of_decide_eq_true (by kernel_rfl)) (by unfold Func.isWrapper; first | (rw [if_pos (by decide +kernel)]; kernel_rfl) | (rw [if_neg (by decide +kernel)]; exact ⟨rfl, rfl⟩))
    (fun os started H enc _ => lifted os started H enc)
#print axioms proved

end Go.Proofs.Ytppmicepkjhfeaa.rootsApart
