/-
  Package store: Make's walk.
-/
import Derived.Test.YtkbljgclflaokaaGreatDoorStoM
namespace Go.Proofs.YtkbljgclflaokaaGreatDoor
open Go.RowKit
set_option linter.unusedVariables false

/-- what Make has in memory ahead of take: the shape's box, the Store's cells -/
structure MK (w0 : World) (mb sb lb stb sml : Nat) (p r : Int) (w : World) : Prop where
  sh : Row w w0.heap.size 2 (srow p r)
  st : Row w stb 4 (stc (at0 mb) (at0 sb) (at0 lb) (sml : Int))
  b : Below w0.heap.size w0 w
section
variable {w0 w w' : World} {mb sb lb stb sml : Nat} {p r : Int}
theorem MK.below (k : MK w0 mb sb lb stb sml p r w) (c : Below w.heap.size w w') : MK w0 mb sb lb stb sml p r w' := ⟨k.sh.below c, k.st.below c, bTrans k.b c⟩
theorem MK.drew (k : MK w0 mb sb lb stb sml p r w) : MK w0 mb sb lb stb sml p r w.drew := k.below (Below.refl _ _).drew
theorem MK.alloc (k : MK w0 mb sb lb stb sml p r w) (o : Obj) : MK w0 mb sb lb stb sml p r (w.alloc o) := k.below (bAlloc (Below.refl _ _) o)
theorem MK.start (st : Row w0 stb 4 (stc (at0 mb) (at0 sb) (at0 lb) (sml : Int))) (p r : Int) : MK w0 mb sb lb stb sml p r (w0.alloc (ssc p r)) :=
  ⟨srow_alloc w0 p r, st.below (bAlloc (Below.refl _ _) _), bAlloc (Below.refl _ _) _⟩
theorem MK.k3 (k : MK w0 mb sb lb stb sml p r w) : w.cell? ⟨w0.heap.size, 0, none⟩ = some (.int .i64 p) ∧ w.cell? ⟨w0.heap.size, 1, none⟩ = some (.int .i64 r) ∧ w.cell? ⟨stb, 2, none⟩ = some (at0 lb) ∧ w.cell? ⟨stb, 3, none⟩ = some (.int .i64 (sml : Int)) := by
  obtain ⟨a, b⟩ := k.sh.scells
  obtain ⟨c0, c1, c2, c3⟩ := stc_all k.st
  exact ⟨a, b, c2, c3⟩
/-- and behind the header's making -/
structure MKH (w0 : World) (mb sb lb stb sml : Nat) (p r s : Int) (lg : Bool) (g : Nat) (w : World) : Prop where
  k : MK w0 mb sb lb stb sml p r w
  h : Row w g 5 (hrow p r s 0 lg)
theorem MKH.below {s : Int} {lg : Bool} {g : Nat} (k : MKH w0 mb sb lb stb sml p r s lg g w) (c : Below w.heap.size w w') : MKH w0 mb sb lb stb sml p r s lg g w' := ⟨k.k.below c, k.h.below c⟩
theorem MKH.drew {s : Int} {lg : Bool} {g : Nat} (k : MKH w0 mb sb lb stb sml p r s lg g w) : MKH w0 mb sb lb stb sml p r s lg g w.drew := k.below (Below.refl _ _).drew
theorem MKH.k5 {s : Int} {lg : Bool} {g : Nat} (k : MKH w0 mb sb lb stb sml p r s lg g w) : w.cell? ⟨w0.heap.size, 0, none⟩ = some (.int .i64 p) ∧ w.cell? ⟨w0.heap.size, 1, none⟩ = some (.int .i64 r) ∧ w.cell? ⟨stb, 1, none⟩ = some (at0 sb) ∧ w.cell? ⟨stb, 2, none⟩ = some (at0 lb) ∧ w.cell? ⟨g, 4, none⟩ = some (.bool lg) := by
  obtain ⟨a, b⟩ := k.k.sh.scells
  obtain ⟨c0, c1, c2, c3⟩ := stc_all k.k.st
  exact ⟨a, b, c1, c2, k.h.hcells.2.2.2.2⟩
theorem MK.sets {g : Nat} (k : MK w0 mb sb lb stb sml p r w) (hg : w0.heap.size < g) (hs : stb < w0.heap.size) (v0 v1 v2 v3 v4 : Value) :
    MK w0 mb sb lb stb sml p r (((((w.setCell ⟨g, 0, none⟩ v0).setCell ⟨g, 1, none⟩ v1).setCell ⟨g, 2, none⟩ v2).setCell ⟨g, 3, none⟩ v3).setCell ⟨g, 4, none⟩ v4) :=
  ⟨((((k.sh.far _ (by dsimp only; omega)).far _ (by dsimp only; omega)).far _ (by dsimp only; omega)).far _ (by dsimp only; omega)).far _ (by dsimp only; omega), ((((k.st.far _ (by dsimp only; omega)).far _ (by dsimp only; omega)).far _ (by dsimp only; omega)).far _ (by dsimp only; omega)).far _ (by dsimp only; omega),
    bSet (bSet (bSet (bSet (bSet k.b (by dsimp only; omega) _) (by dsimp only; omega) _) (by dsimp only; omega) _) (by dsimp only; omega) _) (by dsimp only; omega) _⟩
theorem MKH.b0 {s : Int} {lg : Bool} {g : Nat} (k : MKH w0 mb sb lb stb sml p r s lg g w) : Below w0.heap.size w0 w := k.k.b
theorem MKH.k5t {s : Int} {lg : Bool} {g : Nat} {X X' : Nat → Nat} (k : MKH w0 mb sb lb stb sml p r s lg g w) (hg : w0.heap.size ≤ g) (hX : X stb = 0) (hX2 : ∀ q, w0.heap.size ≤ q → X q = 0) (t : TR X X' w w') : w'.cell? ⟨w0.heap.size, 0, none⟩ = some (.int .i64 p) ∧ w'.cell? ⟨w0.heap.size, 1, none⟩ = some (.int .i64 r) ∧ w'.cell? ⟨stb, 1, none⟩ = some (at0 sb) ∧ w'.cell? ⟨stb, 2, none⟩ = some (at0 lb) ∧ w'.cell? ⟨g, 4, none⟩ = some (.bool lg) := by
  obtain ⟨a, b⟩ := (k.k.sh.tr t (hX2 _ (Nat.le_refl _))).scells
  obtain ⟨c0, c1, c2, c3⟩ := stc_all (k.k.st.tr t hX)
  exact ⟨a, b, c1, c2, (k.h.tr t (hX2 _ hg)).hcells.2.2.2.2⟩
/-- the five stores of a header, in a block of Make's own -/
theorem MK.five {g : Nat} {f : Nat → Value} (k : MK w0 mb sb lb stb sml p r w) (hg : w0.heap.size < g) (hs : stb < w0.heap.size) (h : Row w g 5 f) (s : Int) (lg : Bool) :
    MKH w0 mb sb lb stb sml p r s lg g (((((w.setCell ⟨g, 0, none⟩ (.int .i64 p)).setCell ⟨g, 1, none⟩ (.int .i64 r)).setCell ⟨g, 2, none⟩ (.int .i64 s)).setCell ⟨g, 3, none⟩ (.int .i64 0)).setCell ⟨g, 4, none⟩ (.bool lg)) :=
  ⟨k.sets hg hs _ _ _ _ _, h.five p r s 0 lg⟩
end
theorem zero5 (j : Nat) (hj : j < 5) : (#[Value.int .i64 0, .int .i64 0, .int .i64 0, .int .i64 0, .bool false] : Array Value)[j]? = some (hrow 0 0 0 0 false j) := hrow_new 0 0 0 0 false j hj

section
variable {mb sb lb stb sml : Nat}
set_option maxRecDepth 100000 in
set_option maxHeartbeats 2000000 in
/-- Make, whatever Pack, take and SetWord answer -/
theorem stmake_any (Z : Ending → World → Prop) (Y : World → Prop) (X : Nat → Nat) (p r site c x d y : Int) (lg : Bool) (hlg : decide ((sml : Int) < (swd p r : Int)) = lg) (w : World) (st : Row w stb 4 (stc (at0 mb) (at0 sb) (at0 lb) (sml : Int))) (hX : X stb = 0) (hX2 : ∀ q, w.heap.size ≤ q → X q = 0)
    (PK : ∀ w', Below w.heap.size w w' → Calls Tryz.prog 25 #[hd p r site 0 lg] w' fun e w'' => e = .returned (.tuple #[.int .u64 y, .int .i64 c]) ∧ Below w'.heap.size w' w'')
    (H : (c != 0) = true ∧ (∀ w', Below w.heap.size w w' → Z (.returned (.tuple #[.int .u64 0, .int .i64 c])) w') ∨
      c = 0 ∧ (∀ w', Below w.heap.size w w' → Calls Tryz.prog 26 #[.agg #[at0 sb, at0 lb], .int .i64 (swd p r : Nat), .bool lg] w' fun e w'' => e = .returned (.tuple #[.int .u64 x, .int .i64 d]) ∧ (∃ X', TR X X' w' w'') ∧ Y w'') ∧
        ((d != 0) = true ∧ (∀ w', Y w' → Z (.returned (.tuple #[.int .u64 0, .int .i64 d])) w') ∨
          d = 0 ∧ ∀ w', Y w' → Calls Tryz.prog 9 #[at0 stb, .int .u64 x, .int .i64 0, .int .u64 y] w' fun e w'' => (∃ v, e = .returned (.int .i64 v)) ∧ Z (.returned (.tuple #[.int .u64 x, .int .i64 0])) w'')) :
    Calls Tryz.prog 7 #[at0 stb, sh p r, .int .i64 site] w Z := by
  have LGH := Lib.hid (fun w => shlarge_any p r (sml : Int) lg hlg w)
  have WDH := Lib.hid (fun w => shwords_any p r w)
  have PKH := Lib.hid PK
  have HH := Lib.hid H
  have K0 := MK.start st p r
  have HS := Lib.hid st.lt
  have HX := Lib.hid (And.intro hX hX2)
  clear hlg PK st H hX hX2
  generalize swd p r = k at *
  go_enter Tryz.func7, Tryz.ntmps7
  go_upto_region 1 with fail
  generalize hW : w.alloc (ssc p r) = W at *
  have HW := Lib.hid (show w.heap.size < W.heap.size by rw [← hW]; simp)
  clear hW
  obtain ⟨x0, x1, x2, x3⟩ := K0.k3
  go_cut [8] from 12 to 20 (fun v wx => ∃ g, v = at0 g ∧ w.heap.size ≤ g ∧ MKH w mb sb lb stb sml p r site lg g wx)
  case first =>
    go_region_held3 (fun w' => w'.cell? ⟨w.heap.size, 0, none⟩ = some (.int .i64 p) ∧ w'.cell? ⟨w.heap.size, 1, none⟩ = some (.int .i64 r) ∧ w'.cell? ⟨stb, 2, none⟩ = some (at0 lb) ∧ w'.cell? ⟨stb, 3, none⟩ = some (.int .i64 (sml : Int)))
      (first | (refine MK.k3 (w0 := w) (mb := mb) (sb := sb) ?_; (repeat (first | (with_reducible assumption) | refine MK.drew ?_ | refine MK.alloc ?_ _ | refine MK.sets ?_ HW.out HS.out _ _ _ _ _)); done))
      (first | (go_at_call 24; with_reducible refine (LGH.out _).mono ?_
                rintro e w1 ⟨rfl, b1⟩
                have K1 : MK w mb sb lb stb sml p r w1 := MK.below (by repeat (first | (with_reducible assumption) | refine MK.drew ?_ | refine MK.alloc ?_ _)) b1
                try (refine lay (p := Row w1 W.heap.size 5 (hrow 0 0 0 0 false)) ?_ (fun RN1 => ?_)
                     · refine Row.below ?_ b1
                       (try refine Row.drew ?_)
                       exact Row.newAt _ _ _ _ 5 _ rfl zero5)
                try (have fz := RN1.free)
                try (obtain ⟨z0, z1, z2, z3, z4⟩ := RN1.hcells)))
    all_goals
      go_wp2_with fail
      go_meet
      first
        | exact ⟨_, rfl, K1.b.size, K1.alloc _, Row.newAt _ _ _ _ 5 _ rfl (hrow_new p r site 0 lg)⟩
        | exact ⟨_, rfl, Nat.le_of_lt HW.out, K1.five HW.out HS.out RN1 site lg⟩
  case rest =>
    obtain ⟨g, rfl, hg, H5⟩ := hcut
    clear x0 x1 x2 x3 K0
    obtain ⟨y0, y1, y2, y3, y4⟩ := H5.h.hcells
    go_wp2_with fail
    with_reducible refine (PKH.out _ H5.k.b).mono ?_
    rintro e w2 ⟨rfl, b2⟩
    dsimp only
    have H6 := H5.below b2
    clear y0 y1 y2 y3 y4 H5 b2
    rcases HH.out with ⟨hc, hz⟩ | ⟨hc, hT, hD⟩
    · have HZ := Lib.hid (hz _ H6.k.b)
      clear hz
      go_wp2_with fail
      exact HZ.out
    · have HT := Lib.hid hT
      have HD := Lib.hid hD
      clear hT hD
      subst hc
      have q0 : ((0 : Int) != 0) = false := rfl
      obtain ⟨x0, x1, x2, x3, x4⟩ := H6.k5
      go_upto_region 5 with fail
      go_region_held3 (fun w' => w'.cell? ⟨w.heap.size, 0, none⟩ = some (.int .i64 p) ∧ w'.cell? ⟨w.heap.size, 1, none⟩ = some (.int .i64 r) ∧ w'.cell? ⟨stb, 1, none⟩ = some (at0 sb) ∧ w'.cell? ⟨stb, 2, none⟩ = some (at0 lb) ∧ w'.cell? ⟨g, 4, none⟩ = some (.bool lg))
        (first | (refine MKH.k5 (w0 := w) (mb := mb) (sml := sml) (s := site) ?_; (repeat (first | (with_reducible assumption) | refine MKH.drew ?_)); done) | (exact q4))
        (first
          | (go_at_call 27; with_reducible refine (WDH.out _).mono ?_
             rintro e w3 ⟨rfl, b3⟩
             have H7 : MKH w mb sb lb stb sml p r site lg g w3 := MKH.below (by repeat (first | (with_reducible assumption) | refine MKH.drew ?_)) b3)
          | (go_at_call 26; with_reducible refine (HT.out _ ?_).mono ?_
             · refine MKH.b0 (mb := mb) (sb := sb) (lb := lb) (stb := stb) (sml := sml) (p := p) (r := r) (s := site) (lg := lg) (g := g) ?_
               repeat (first | (with_reducible assumption) | refine MKH.drew ?_)
             rintro e w4 ⟨rfl, ⟨X', t4⟩, hy⟩
             have q4 := MKH.k5t (w0 := w) (mb := mb) (sml := sml) (s := site) (by repeat (first | (with_reducible assumption) | refine MKH.drew ?_)) hg HX.out.1 HX.out.2 t4))
      all_goals
        rcases HD.out with ⟨hd0, hz⟩ | ⟨hd0, hS⟩
        · have HZ := Lib.hid (hz _ hy)
          clear hz
          go_wp2_with fail
          exact HZ.out
        · subst hd0
          have SH := Lib.hid (hS _ hy)
          clear hS
          go_wp2_with fail
          with_reducible refine SH.out.mono ?_
          rintro e w5 ⟨⟨v, rfl⟩, hz⟩
          dsimp only
          have HZ := Lib.hid hz
          clear hz
          go_wp2_with fail
          exact HZ.out
end
end Go.Proofs.YtkbljgclflaokaaGreatDoor
