/-
  header.Unpack of a header's word.
-/
import Derived.Test.YtkbljgclflaokaaGreatDoorHdrF
namespace Go.Proofs.YtkbljgclflaokaaGreatDoor
open Go.RowKit
set_option linter.unusedVariables false

/-- what lies in memory while Unpack reads: the variables, the result's own block -/
structure UU (W w : World) : Prop where
  ft0 : FT W
  row0 : ∃ p r s a l, Row w W.heap.size 5 (hrow p r s a l)
  bel : Below W.heap.size W w
theorem UU.ft {W w : World} (h : UU W w) : FT w := h.ft0.below h.bel
theorem UU.below {W w w' : World} (h : UU W w) (b : Below w.heap.size w w') : UU W w' := ⟨h.ft0, by obtain ⟨p, r, s, a, l, k⟩ := h.row0; exact ⟨p, r, s, a, l, k.below b⟩, bTrans h.bel b⟩
theorem UU.drew {W w : World} (h : UU W w) : UU W w.drew := ⟨h.ft0, by obtain ⟨p, r, s, a, l, k⟩ := h.row0; exact ⟨p, r, s, a, l, k.drew⟩, h.bel.drew⟩
abbrev set5 (w : World) (g : Nat) (p r s a : Int) (l : Bool) : World := ((((w.setCell ⟨g, 0, none⟩ (.int .i64 p)).setCell ⟨g, 1, none⟩ (.int .i64 r)).setCell ⟨g, 2, none⟩ (.int .i64 s)).setCell ⟨g, 3, none⟩ (.int .i64 a)).setCell ⟨g, 4, none⟩ (.bool l)
theorem UU.five {W w : World} (h : UU W w) (p r s a : Int) (l : Bool) : UU W (set5 w W.heap.size p r s a l) :=
  ⟨h.ft0, by obtain ⟨p', r', s', a', l', k⟩ := h.row0; exact ⟨p, r, s, a, l, k.five p r s a l⟩, below_five h.bel _ _ _ _ _⟩
theorem UU.hcells {W w : World} (h : UU W w) (p r s a : Int) (l : Bool) : (set5 w W.heap.size p r s a l).cell? ⟨W.heap.size, 0, none⟩ = some (.int .i64 p) ∧ (set5 w W.heap.size p r s a l).cell? ⟨W.heap.size, 1, none⟩ = some (.int .i64 r) ∧ (set5 w W.heap.size p r s a l).cell? ⟨W.heap.size, 2, none⟩ = some (.int .i64 s) ∧ (set5 w W.heap.size p r s a l).cell? ⟨W.heap.size, 3, none⟩ = some (.int .i64 a) ∧ (set5 w W.heap.size p r s a l).cell? ⟨W.heap.size, 4, none⟩ = some (.bool l) := by
  obtain ⟨p', r', s', a', l', k⟩ := h.row0
  exact (k.five p r s a l).hcells
theorem UU.end {W w : World} (h : UU W w) (p r s a : Int) (l : Bool) : Below W.heap.size W (set5 w W.heap.size p r s a l) := (h.five p r s a l).bel
theorem UU.keep {W w : World} (h : UU W w) :
    w.cell? ⟨0, 0, none⟩ = some (.int .i64 0) ∧ w.cell? ⟨0, 1, none⟩ = some (.int .i64 12) ∧
    w.cell? ⟨1, 0, none⟩ = some (.int .i64 12) ∧ w.cell? ⟨1, 1, none⟩ = some (.int .i64 12) ∧
    w.cell? ⟨2, 0, none⟩ = some (.int .i64 24) ∧ w.cell? ⟨2, 1, none⟩ = some (.int .i64 5) ∧
    w.cell? ⟨3, 0, none⟩ = some (.int .i64 29) ∧ w.cell? ⟨3, 1, none⟩ = some (.int .i64 3) ∧
    w.cell? ⟨4, 0, none⟩ = some (.int .i64 32) ∧ w.cell? ⟨4, 1, none⟩ = some (.int .i64 1) :=
  ⟨h.ft.ptr.1, h.ft.ptr.2, h.ft.raw.1, h.ft.raw.2, h.ft.site.1, h.ft.site.2, h.ft.age.1, h.ft.age.2, h.ft.large.1, h.ft.large.2⟩

set_option maxHeartbeats 1000000 in
set_option maxRecDepth 100000 in
theorem unpack_yes (x P R S A L : Nat) (l : Bool) (hx : x < 18446744073709551616) (hk : getv x 62 2 = 1) (hu : getv x 33 29 = 0)
    (h0 : getv x 0 12 = P) (h1 : getv x 12 12 = R) (h2 : getv x 24 5 = S) (h3 : getv x 29 3 = A) (h4 : getv x 32 1 = L) (hl : ((L : Int) == 1) = l) (w : World) (F : FT w) :
    Calls Tryz.prog 39 #[.int .u64 (x : Int)] w fun e w' => e = .returned (.tuple #[hd P R S A l, .int .i64 0]) ∧ Below w.heap.size w w' := by
  have b0 := getv_lt x 0 12
  have b1 := getv_lt x 12 12
  have b2 := getv_lt x 24 5
  have b3 := getv_lt x 29 3
  have b4 := getv_lt x 32 1
  have G1 := Lib.hid (fun w => getl x 62 2 1 62 2 1 rfl rfl rfl hx (by decide) (by decide) hk w)
  have G2 := Lib.hid (fun w => getl x 33 29 0 33 29 0 rfl rfl rfl hx (by decide) (by decide) hu w)
  have N0 := Lib.hid (fun w => numl x 0 12 P 0 12 rfl rfl hx (by decide) (by decide) h0 (by omega) w)
  have N1 := Lib.hid (fun w => numl x 12 12 R 12 12 rfl rfl hx (by decide) (by decide) h1 (by omega) w)
  have N2 := Lib.hid (fun w => numl x 24 5 S 24 5 rfl rfl hx (by decide) (by decide) h2 (by omega) w)
  have N3 := Lib.hid (fun w => numl x 29 3 A 29 3 rfl rfl hx (by decide) (by decide) h3 (by omega) w)
  have N4 := Lib.hid (fun w => numl x 32 1 L 32 1 rfl rfl hx (by decide) (by decide) h4 (by omega) w)
  have U0 : UU w (w.alloc (hc 0 0 0 0 false)) := ⟨F, ⟨0, 0, 0, 0, false, hrow_alloc w 0 0 0 0 false⟩, bAlloc (Below.refl _ _) _⟩
  have X2 : (w.alloc (hc 0 0 0 0 false)).cell? ⟨5, 0, none⟩ = some (.int .i64 62) := (F.alloc _).kind.1
  have X3 : (w.alloc (hc 0 0 0 0 false)).cell? ⟨5, 1, none⟩ = some (.int .i64 2) := (F.alloc _).kind.2
  clear b0 b1 b2 b3 b4 hk hu h0 h1 h2 h3 h4 hx F
  go_enter Tryz.func39, Tryz.ntmps39
  go_wp2_with (go_at_call 65; (first
    | ((with_reducible refine (G1.out _).mono ?_); rintro e w1 ⟨rfl, hb1⟩; have U1 := U0.below hb1; have k0 : w1.cell? ⟨6, 0, none⟩ = some (.int .i64 33) := U1.ft.unused.1; have k1 : w1.cell? ⟨6, 1, none⟩ = some (.int .i64 29) := U1.ft.unused.2)
    | ((with_reducible refine (G2.out _).mono ?_); rintro e w2 ⟨rfl, hb2⟩; have U2 := U1.below hb2; obtain ⟨c0, c1, c2, c3, c4, c5, c6, c7, c8, c9⟩ := U2.keep; clear k0 k1 X2 X3 hb1 hb2 U0 U1)))
  first
  | (
    go_region_held3 (fun w' => w'.cell? ⟨0, 0, none⟩ = some (.int .i64 0) ∧ w'.cell? ⟨0, 1, none⟩ = some (.int .i64 12) ∧
        w'.cell? ⟨1, 0, none⟩ = some (.int .i64 12) ∧ w'.cell? ⟨1, 1, none⟩ = some (.int .i64 12) ∧
        w'.cell? ⟨2, 0, none⟩ = some (.int .i64 24) ∧ w'.cell? ⟨2, 1, none⟩ = some (.int .i64 5) ∧
        w'.cell? ⟨3, 0, none⟩ = some (.int .i64 29) ∧ w'.cell? ⟨3, 1, none⟩ = some (.int .i64 3) ∧
        w'.cell? ⟨4, 0, none⟩ = some (.int .i64 32) ∧ w'.cell? ⟨4, 1, none⟩ = some (.int .i64 1))
      (first | (refine UU.keep (W := w) ?_; (repeat (first | (with_reducible assumption) | refine UU.five ?_ _ _ _ _ _ | refine UU.drew ?_)); done))
      (first | (go_at_call 66; (first | (with_reducible refine (N0.out _).mono ?_) | (with_reducible refine (N1.out _).mono ?_) | (with_reducible refine (N2.out _).mono ?_) | (with_reducible refine (N3.out _).mono ?_) | (with_reducible refine (N4.out _).mono ?_)); rintro e v ⟨rfl, hb⟩; have U : UU w v := UU.below (by repeat (first | (with_reducible assumption) | refine UU.drew ?_)) hb; obtain ⟨_, _, _, _, _, RR⟩ := U.row0; have fz := RR.free; obtain ⟨z0, z1, z2, z3, z4⟩ := RR.hcells))
    )
  | fail "held"
  all_goals
    go_wp2_with fail
    obtain ⟨x0, x1, x2, x3, x4⟩ := U.hcells P R S A l
    exact bodyPost_ret (v := .tuple #[hd P R S A l, .int .i64 0]) (by simp [results, Tryz.results39, go_sem, x0, x1, x2, x3, x4]) rfl ⟨rfl, U.end _ _ _ _ _⟩

end Go.Proofs.YtkbljgclflaokaaGreatDoor
