/-
  haymowlaw16.StoreApart: for any shapes, any three bytes and any word the law returns true, and its arguments read afterwards as before, if package header's variables read as their initialisers lay them; the card ties that to the program's text.
-/
import Derived.Test.YtkbljgclflaokaaGreatDoorKit16
import Derived.Test.YtkbljgclflaokaaGreatDoorApartW
import Derived.Test.YtkbljgclflaokaaGreatDoorCards
import Derived.Test.YtkbljgclflaokaaGreatDoorTie
import Derived.SevenTiedAt
import Derived.Deep.Slices
namespace Go.Proofs.YtkbljgclflaokaaGreatDoor.storeApart
open Go.ChangeShapes Go.WideShapes Go.ChangeAt Go.RowKit Go.Joins
open Go.WideMaps Go.WideElems
set_option linter.unusedVariables false
set_option maxRecDepth 100000

set_option maxRecDepth 100000 in
theorem long_a (la : Option Addr) (nf lc : Nat) (h : ¬ nf ≤ 20) (x0 x1 x2 u : Int) (w : World) (ft : FT w) : Calls Tryz.prog 3 #[.slice la nf lc, .agg #[.int .u8 x0, .int .u8 x1, .int .u8 x2], .int .u64 u] w fun e w' => e = .returned (.bool true) ∧ Below w.heap.size w w' := by
  have BA := bAlloc (Below.refl w.heap.size w) (.cells #[.int .u8 x0, .int .u8 x1, .int .u8 x2] 23)
  have FA := ft.below BA
  have AW := Lib.hid (awake16_any _ FA)
  have l1 : (20 : Int) < (nf : Int) := by omega
  have l2 : 20 < nf := by omega
  have q0 := fun w a => store_eql_nil a w
  have q1 := fun w a => store_neq_nil a w
  have BH := Lib.hid BA
  clear h FA BA
  go_enter Tryz.func3, Tryz.ntmps3
  go_wp2_with fail
  with_reducible refine AW.out.mono ?_
  rintro e w1 ⟨rfl, b1⟩
  dsimp only
  have B1 := Lib.hid (bTrans BH.out b1)
  have NW := Lib.hid (show Calls Tryz.prog 6 #[.int .i64 6, .int .i64 400] w1 _ from so_new 6 400 (by omega) (by omega) (by omega) w1 w1 (ft.below B1.out) (Below.refl _ _))
  clear ft b1 AW
  go_wp2_with fail
  with_reducible refine NW.out.mono ?_
  rintro e w2 ⟨R, stb, sb, lb, pb, mb, mm, L, g, rfl, s2, ls, lo2⟩
  dsimp only
  have S2 := Lib.hid s2.o.b
  clear s2 ls lo2 NW
  go_wp2_with fail
  go_ret
  exact ⟨rfl, bTrans B1.out S2.out⟩
theorem cells3 : Tryz.prog.cellsOf 23 = 3 := by kernel_rfl
theorem cells1 : Tryz.prog.cellsOf 5 = 1 := by kernel_rfl
/-- an array of three bytes that came in -/
theorem open_three {H : Type} {enc : TypeId × Value → H} {W : World} {base : Nat} {sp : Nat → Bool} {v : Value} {d : DataW H} {p : List MemPlace}
    (hv : Value.okWide Tryz.prog W .any base 23 v) (h : DataW.Trod enc Tryz.prog W 0 sp true 23 v d p) : ∃ x y z : Nat, v = .agg #[.int .u8 (x : Int), .int .u8 (y : Int), .int .u8 (z : Int)] ∧ x < 256 ∧ y < 256 ∧ z < 256 := by
  obtain ⟨cs, rfl, hsz, _⟩ : ∃ cs, v = .agg cs ∧ cs.size = Tryz.prog.cellsOf 23 ∧ Row.okWide Tryz.prog W .any base 23 cs := by
    simpa [Value.okWide, Tryz.underlying23] using hv
  rw [cells3] at hsz
  obtain ⟨fuel, hf⟩ := h
  obtain ⟨xs, m, _, _, _, hl, hel⟩ := DataW.trod_array Tryz.underlying23 hf
  have one : ∀ j, j < 3 → ∃ z : Nat, cs[j]? = some (.int .u8 (z : Int)) ∧ z < 256 := by
    intro j hj
    have e := hel j hj
    rw [cells1, Nat.mul_one] at e
    have hjx : j < xs.length := by omega
    rw [List.getElem?_eq_getElem hjx] at e
    obtain ⟨z, ez, _, wz⟩ := DataW.trod_int Tryz.underlying5 e
    obtain ⟨z0, z1⟩ := byte_wfR wz
    obtain ⟨y, rfl⟩ := Int.eq_ofNat_of_zero_le z0
    refine ⟨y, ?_, by omega⟩
    have hc : (((Value.agg cs).cells.toList).drop j).take 1 = [Value.int .u8 (y : Int)] := ez
    have h2 := congrArg (fun l => l[0]?) hc
    simp only [List.getElem?_take, List.getElem?_drop] at h2
    simpa [Value.cells] using h2
  obtain ⟨x, hx, bx⟩ := one 0 (by omega)
  obtain ⟨y, hy, by'⟩ := one 1 (by omega)
  obtain ⟨z, hz, bz⟩ := one 2 (by omega)
  refine ⟨x, y, z, congrArg Value.agg (Array.ext_getElem? fun j => ?_), bx, by', bz⟩
  match j with
  | 0 => rw [hx]; rfl
  | 1 => rw [hy]; rfl
  | 2 => rw [hz]; rfl
  | j + 3 => rw [Array.getElem?_eq_none (by omega), Array.getElem?_eq_none (by simp)]
theorem list_of16 {α : Type} (P : Nat → α → Prop) : ∀ n, (∀ i, i < n → ∃ x, P i x) → ∃ L : List α, L.length = n ∧ ∀ i x, L[i]? = some x → P i x
  | 0, _ => ⟨[], rfl, fun i x h => by simp at h⟩
  | n + 1, h => by
    obtain ⟨L, hl, hp⟩ := list_of16 P n (fun i hi => h i (by omega))
    obtain ⟨x, hx⟩ := h n (by omega)
    refine ⟨L ++ [x], by simp [hl], fun i y hy => ?_⟩
    by_cases c : i < n
    · rw [List.getElem?_append_left (by omega)] at hy; exact hp i y hy
    · have e : i = n := by
        have := (List.getElem?_eq_some_iff.1 hy).1
        simp at this; omega
      subst e
      rw [List.getElem?_append_right (by omega), hl] at hy
      simp at hy
      subst hy; exact hx
section
variable {H : Type} {enc : TypeId × Value → H} {W : World} {base : Nat} {spare : Nat → Bool} {held : Bool}
theorem add_none16 (b o i : Nat) : (⟨b, o, none⟩ : Addr).add i = ⟨b, o + i, none⟩ := by unfold Addr.add; split <;> simp_all
theorem sh_of_cells {fuel : Nat} {cs : List Value} {y : DataW H × List MemPlace} (h : DataW.trod enc Tryz.prog W base spare held fuel 33 cs = some y) :
    ∃ a s : Int, cs = [.int .i64 a, .int .i64 s] := by
  obtain ⟨y0, y1, n, hx, hl, h0, h1⟩ := trod_struct2 Tryz.underlying33 h
  rw [cellsP16] at hl
  match cs, hl with
  | [c0, c1], _ =>
    obtain ⟨a, e0, _, wa⟩ := DataW.trod_int Tryz.underlying3 h0
    obtain ⟨s, e1, _, ws⟩ := DataW.trod_int Tryz.underlying3 h1
    simp only [cellsI16] at e0 e1
    simp at e0 e1
    exact ⟨a, s, by rw [e0, e1]⟩
theorem shapes_in {a : Option Addr} {n cap : Nat} {d : DataW H} {p : List MemPlace} (h : DataW.Trod enc Tryz.prog W base spare held 22 (.slice a n cap) d p) :
    n ≤ 1000000 → ∃ F : List (Int × Int), F.length = n ∧ SHL W (.slice a n cap) F := by
  obtain ⟨fuel, hf⟩ := h
  rcases Go.Deep.open_slice Tryz.underlying22 hf with ⟨hcs, _⟩ | ⟨x, l, c, m, q, D, Pl, hcs, _, hl, hc, hm, _, hi⟩
  · simp [Value.cells] at hcs
    obtain ⟨rfl, rfl, rfl⟩ := hcs
    exact fun _ => ⟨[], rfl, none, 0, rfl, by simp, .inl rfl⟩
  · simp [Value.cells] at hcs
    obtain ⟨rfl, rfl, rfl⟩ := hcs
    refine fun hn => ?_
    have hnm : n ≤ m := by rw [hm]; split <;> omega
    by_cases c0 : n = 0
    · subst c0; exact ⟨[], rfl, some x, cap, rfl, by simp, .inl rfl⟩
    obtain ⟨b, off, spot⟩ := x
    have hspot : spot = none := by
      obtain ⟨cs', hc1, hc2⟩ := hi 0 (by omega)
      obtain ⟨s, t, rfl⟩ := sh_of_cells hc2
      rw [cellsP16] at hc1
      obtain ⟨_, _, hat⟩ := World.cells?_some hc1
      have h0 := hat 0 (by omega)
      have h1 := World.cell?_spot h0
      simpa [Addr.add] using h1
    subst hspot
    have key : ∀ i, i < n → ∃ y : Int × Int, W.cell? ⟨b, off + i * 2, none⟩ = some (.int .i64 y.1) ∧ W.cell? ⟨b, off + i * 2 + 1, none⟩ = some (.int .i64 y.2) := fun i hin => by
      obtain ⟨cs', hc1, hc2⟩ := hi i (by omega)
      obtain ⟨s, t, rfl⟩ := sh_of_cells hc2
      rw [cellsP16] at hc1
      obtain ⟨_, _, hat⟩ := World.cells?_some hc1
      have h0 := hat 0 (by omega)
      have h1 := hat 1 (by omega)
      simp only [add_none16] at h0 h1
      exact ⟨(s, t), by simpa using h0, by simpa using h1⟩
    obtain ⟨F, hF, hp⟩ := list_of16 _ n key
    obtain ⟨y, hc1, _⟩ := key 0 (by omega)
    exact ⟨F, hF, some ⟨b, off, none⟩, cap, by rw [hF], by omega, .inr ⟨b, off, rfl, World.block_lt_of_cell? W _ hc1, fun i x hx => hp i x hx⟩⟩
end

set_option maxRecDepth 100000 in
theorem lifted (os : Os) (started : os.Started) (H : Type) (enc : TypeId × Value → H) :
    ReturnsInHanded {} Tryz.checked os 3 .any (fun w args => (Rows.storeApartSpec.pre enc Tryz.prog Tryz.f3 [] false w args ∧ laidMetH Tryz.prog laid7 w) ∧ sizedMet enc Tryz.prog Tryz.f3 (OpenSpec.ofChange Rows.storeApartSpec) false w args)
      (Rows.storeApartSpec.post enc Tryz.prog Tryz.f3 false true false false) := by
  refine returnsInHanded_of_change_and (C := Tryz.checked) (X := fun w _ => laidMetH Tryz.prog laid7 w) (fun _ _ _ hh h => h.of_heap hh) ownR started (by kernel_rfl) Tryz.func3
    (ChangeSpec.witness_shaped (enc := enc) (C := Tryz.checked) (os := os) (X := fun w _ => laidMetH Tryz.prog laid7 w) false (World.doorLaid Tryz.prog 400 os) #[.slice none 0 0, .agg #[.int .u8 0, .int .u8 0, .int .u8 0], .int .u64 0] 8 rfl (World.shaped_of_RefB (by kernel_rfl) (by kernel_rfl)) (by kernel_rfl) (by kernel_rfl) (by kernel_rfl) (door_met7 os _)) ?_
  intro W base args ds gs before hval0 hW _ _ hL _
  have hval : ∀ (j : Nat) t v, Tryz.f3.params[j]? = some t → args[j]? = some v → Value.okWide Tryz.prog W .any base t v := hval0
  have hW' := hW
  obtain ⟨pp, qq, hA0, hV, rfl, hfz, hnd⟩ := hW
  have hA : DataW.TrodAll enc Tryz.prog W 0 (fun _ => true) true Tryz.f3.params.toList args.toList ds pp := hA0
  rw [Tryz.params3] at hA hval
  obtain ⟨v0, v1, v2, d0, d1, d2, p0, p1, p2, rfl, rfl, rfl, h0, h1, h2⟩ := trodAll_three hA
  obtain ⟨rfl, rfl⟩ := trodVars_none hV
  have k0 := h0
  have k1 := h1
  have lt0 : ∀ z ∈ p0, z.block < W.heap.size := by obtain ⟨m, hm⟩ := h0; exact DataW.trod_lt m _ _ _ hm
  have lt1 : ∀ z ∈ p1, z.block < W.heap.size := by obtain ⟨m, hm⟩ := h1; exact DataW.trod_lt m _ _ _ hm
  obtain ⟨a0, n0, cap0, rfl⟩ := okWide_slice Tryz.underlying22 (hval 0 22 v0 rfl rfl)
  obtain ⟨x, y, z, rfl, bx, by', bz⟩ := open_three (hval 1 23 v1 rfl rfl) h1
  obtain ⟨u0, rfl, rfl, rfl, wu⟩ := open_int Tryz.underlying24 (hval 2 24 v2 rfl rfl) h2
  obtain ⟨w0, w1⟩ := word_wfR wu
  obtain ⟨u, rfl⟩ := Int.eq_ofNat_of_zero_le w0
  clear hA0 hval0
  have wk : Calls Tryz.prog 3 #[.slice a0 n0 cap0, .agg #[.int .u8 (x : Int), .int .u8 (y : Int), .int .u8 (z : Int)], .int .u64 (u : Int)] W fun e W' => e = .returned (.bool true) ∧ Below W.heap.size W W' := by
    by_cases c : n0 ≤ 20
    · obtain ⟨F, hF, hS⟩ := shapes_in k0 (by omega)
      subst hF
      exact apart_walk F c a0 cap0 x y z u bx by' W hS (ft_of7 hL)
    · exact long_a a0 n0 cap0 c _ _ _ _ W (ft_of7 hL)
  refine wk.mono fun e W' ⟨he, bel⟩ => ?_
  subst he
  exact ⟨_, rfl, _, _, _, [], _, [], hW', trodAll_mk1 (shut_bool Tryz.underlying4 _), trodAll_mk3 (Below.trod laidOutR (by kernel_rfl) (of_decide_eq_true (by kernel_rfl)) k0 bel lt0) (Below.trod laidOutR (by kernel_rfl) (of_decide_eq_true (by kernel_rfl)) k1 bel lt1) (shut_int Tryz.underlying24 wu), rfl, bel.frame _, fun h => by cases h⟩

theorem row : Rows.StoreApartSaid :=
  OpenClaim.holds_of_wide 3 Tryz.f3 rfl rfl rfl rfl rfl rfl rfl ⟨rfl, rfl, rfl, rfl, rfl⟩ rfl rfl rfl rfl rfl (by kernel_rfl) Tryz.func3 (by kernel_rfl)
    (of_decide_eq_true (by kernel_rfl)) (by unfold Func.isWrapper; first | (rw [if_pos (by decide +kernel)]; kernel_rfl) | (rw [if_neg (by decide +kernel)]; exact ⟨rfl, rfl⟩))
    (fun os started H enc _ => lifted os started H enc)

theorem proved : Rows.StoreApartCardSaid :=
  Claim7.holds_tied_plain_at .later [] [.data, .data, .data, .data, .data, .data, .data] true _ _
    row (fun _ h => by cases h) (by kernel_rfl) (fun _ h => by cases h) storeApart_row_tie rfl ⟨rfl, rfl⟩ (by kernel_rfl) rfl
    (fun f fn hf hfn => by
      obtain rfl : f = 3 := Option.some.inj ((show Tryz.prog.funcNamed "haymow/haymowlaw16.StoreApart" = some 3 by kernel_rfl).symm.trans hf) |>.symm
      obtain rfl : fn = Tryz.f3 := (Option.some.inj (Tryz.func3.symm.trans hfn)).symm
      exact ⟨by kernel_rfl, fun j t ht => by
        rw [Tryz.params3] at ht
        rcases j with _ | _ | _ | j
        · obtain rfl : t = 22 := by simpa using ht.symm
          exact (show Tryz.prog.wantsStandIn 22 = false by kernel_rfl)
        · obtain rfl : t = 23 := by simpa using ht.symm
          exact (show Tryz.prog.wantsStandIn 23 = false by kernel_rfl)
        · obtain rfl : t = 24 := by simpa using ht.symm
          exact (show Tryz.prog.wantsStandIn 24 = false by kernel_rfl)
        · simp at ht⟩)
    (by kernel_rfl)
#print axioms proved

end Go.Proofs.YtkbljgclflaokaaGreatDoor.storeApart
