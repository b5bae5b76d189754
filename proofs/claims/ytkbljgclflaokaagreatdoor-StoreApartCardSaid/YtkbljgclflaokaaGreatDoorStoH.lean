/-
  Package store: Header, place, field, Pointer, SetPointer, Raw, SetRaw of objects that there are.
-/
import Derived.Test.YtkbljgclflaokaaGreatDoorStoS
import Derived.Test.YtkbljgclflaokaaGreatDoorShpG
namespace Go.Proofs.YtkbljgclflaokaaGreatDoor
open Go.RowKit
set_option linter.unusedVariables false

section
variable {R : Nat → Nat} {stb sb lb pb mb mm sml : Nat} {E : Nat → Prop} {L : List Spc} {n : Nat} {ws : List Nat} {ct : Nat} {tn : Bool} {wo : List Nat} {ot rm mad : Nat} {F M O : List Nat} {td tot a b : Nat} {h g : Int} {ob : Nat → List Nat}
set_option maxRecDepth 100000 in
theorem sthead_ok {x P Q S A : Nat} {l : Bool} (hi : InW ct M O ob x 0) (hv : gw ws ob x 0 = hw P Q S A l) (hP : P < 4096) (hQ : Q < 4096) (hS : S < 32) (hA : A < 8) (w : World) (s : SS w R stb sb lb pb mb mm sml E L n ws ct tn wo ot rm mad F M O td tot a b h g ob) (hF : ∀ v, TR (rs R sb pb lb) (rs R sb pb lb) w v → FT v) :
    Calls Tryz.prog 13 #[at0 stb, .int .u64 (x : Int)] w fun e w' => ∃ a', e = .returned (.tuple #[hd P Q S A l, .int .i64 0]) ∧ SS w' R stb sb lb pb mb mm sml E L n ws ct tn wo ot rm mad F M O td tot a' b h g ob ∧ a' ≤ a + 3 ∧ addv a 1 ≤ a' ∧ TR (rs R sb pb lb) (rs R sb pb lb) w w' := by
  have BA := bAlloc (Below.refl w.heap.size w) (hc 0 0 0 0 false)
  have WD0 := (s.below BA).word hi
  rw [hv, show ((0 : Nat) : Int) = 0 from rfl] at WD0
  have WD := Lib.hid WD0
  have UP := Lib.hid (fun w F => unpack_hw P Q S A l hP hQ hS hA w F)
  obtain ⟨z0, z1⟩ := s.fresh (Nat.le_refl _)
  have FRH := Lib.hid (fun w1 (t : TR (rs R sb pb lb) (rs R sb pb lb) (w.alloc (hc 0 0 0 0 false)) w1) => And.intro (hF _ ((TR.of BA).trans t)) ((hrow_alloc w 0 0 0 0 false).tr t z0))
  have ZZ := Lib.hid (And.intro z0 z1)
  have TB := Lib.hid (show TR (rs R sb pb lb) (rs R sb pb lb) w (w.alloc (hc 0 0 0 0 false)) from TR.of BA)
  clear WD0 hv hi hP hQ hS hA hF s BA z0 z1
  generalize hw P Q S A l = y at *
  go_enter Tryz.func13, Tryz.ntmps13
  go_wp2_with fail
  with_reducible refine WD.out.mono ?_
  rintro e w1 ⟨a1, rfl, s1, u1, u2, t1⟩
  dsimp only
  obtain ⟨F1, R1⟩ := FRH.out w1 t1
  go_wp2_with fail
  with_reducible refine (UP.out w1 F1).mono ?_
  rintro e w2 ⟨rfl, b2⟩
  dsimp only
  have R2 := R1.below b2
  have f2 := R2.free
  obtain ⟨y0, y1, y2, y3, y4⟩ := R2.hcells
  obtain ⟨x0, x1, x2, x3, x4⟩ := (R2.five P Q S A l).hcells
  have S2 := Lib.hid (s1.below b2)
  have T2 := Lib.hid ((TB.out.trans t1).below' b2)
  have UU := Lib.hid (And.intro u1 u2)
  clear F1 R1 s1 u1 u2 t1 b2 R2
  go_wp2_with fail
  obtain ⟨z0, z1⟩ := ZZ.out
  exact bodyPost_ret (v := .tuple #[hd P Q S A l, .int .i64 0]) (by simp [results, Tryz.results13, go_sem, x0, x1, x2, x3, x4]) rfl
    ⟨a1, rfl, ((((S2.out.store z0 z1 _ _).store z0 z1 _ _).store z0 z1 _ _).store z0 z1 _ _).store z0 z1 _ _, UU.out.1, UU.out.2, ((((T2.out.store (Nat.le_refl _) _ _).store (Nat.le_refl _) _ _).store (Nat.le_refl _) _ _).store (Nat.le_refl _) _ _).store (Nat.le_refl _) _ _⟩
/-- a function as a value -/
abbrev fnv (f : Nat) : Value := .func (.func f) #[] #[]
set_option maxRecDepth 100000 in
/-- where a field lies: Slot -/
theorem stplace_slot {x P Q S A : Nat} {l : Bool} (k d c : Int) (OF : ∀ w, Calls Tryz.prog 41 #[sh P Q, .int .i64 k] w fun e w' => e = .returned (.tuple #[.int .i64 d, .int .i64 c]) ∧ Below w.heap.size w w')
    (hi : InW ct M O ob x 0) (hv : gw ws ob x 0 = hw P Q S A l) (hP : P < 4096) (hQ : Q < 4096) (hS : S < 32) (hA : A < 8) (w : World) (s : SS w R stb sb lb pb mb mm sml E L n ws ct tn wo ot rm mad F M O td tot a b h g ob) (hF : ∀ v, TR (rs R sb pb lb) (rs R sb pb lb) w v → FT v) :
    Calls Tryz.prog 42 #[at0 stb, .int .u64 (x : Int), .int .i64 k, fnv 41] w fun e w' => ∃ a', e = .returned (.tuple #[.int .i64 d, .int .i64 c]) ∧ SS w' R stb sb lb pb mb mm sml E L n ws ct tn wo ot rm mad F M O td tot a' b h g ob ∧ a' ≤ a + 3 ∧ addv a 1 ≤ a' ∧ TR (rs R sb pb lb) (rs R sb pb lb) w w' := by
  have HD := Lib.hid (sthead_ok hi hv hP hQ hS hA w s hF)
  have OFH := Lib.hid OF
  clear OF hi hv hP hQ hS hA s hF
  go_enter Tryz.func42, Tryz.ntmps42
  go_wp2_with fail
  with_reducible refine HD.out.mono ?_
  rintro e w1 ⟨a1, rfl, s1, u1, u2, t1⟩
  dsimp only
  have R1 := hrow_alloc w1 P Q S A l
  obtain ⟨y0, y1, y2, y3, y4⟩ := R1.hcells
  have BA := bAlloc (Below.refl w1.heap.size w1) (hc P Q S A l)
  go_wp2_with (go_at_call 41; with_reducible refine (OFH.out _).mono ?_; rintro e w2 ⟨rfl, b2⟩)
  have B2 := bTrans BA b2
  exact bodyPost_ret (v := .tuple #[.int .i64 d, .int .i64 c]) (by simp [results, Tryz.results42, go_sem]) rfl ⟨a1, rfl, s1.below B2, u1, u2, t1.below' B2⟩
set_option maxRecDepth 100000 in
/-- where a field lies: Cell -/
theorem stplace_cell {x P Q S A : Nat} {l : Bool} (k d c : Int) (OF : ∀ w, Calls Tryz.prog 43 #[sh P Q, .int .i64 k] w fun e w' => e = .returned (.tuple #[.int .i64 d, .int .i64 c]) ∧ Below w.heap.size w w')
    (hi : InW ct M O ob x 0) (hv : gw ws ob x 0 = hw P Q S A l) (hP : P < 4096) (hQ : Q < 4096) (hS : S < 32) (hA : A < 8) (w : World) (s : SS w R stb sb lb pb mb mm sml E L n ws ct tn wo ot rm mad F M O td tot a b h g ob) (hF : ∀ v, TR (rs R sb pb lb) (rs R sb pb lb) w v → FT v) :
    Calls Tryz.prog 42 #[at0 stb, .int .u64 (x : Int), .int .i64 k, fnv 43] w fun e w' => ∃ a', e = .returned (.tuple #[.int .i64 d, .int .i64 c]) ∧ SS w' R stb sb lb pb mb mm sml E L n ws ct tn wo ot rm mad F M O td tot a' b h g ob ∧ a' ≤ a + 3 ∧ addv a 1 ≤ a' ∧ TR (rs R sb pb lb) (rs R sb pb lb) w w' := by
  have HD := Lib.hid (sthead_ok hi hv hP hQ hS hA w s hF)
  have OFH := Lib.hid OF
  clear OF hi hv hP hQ hS hA s hF
  go_enter Tryz.func42, Tryz.ntmps42
  go_wp2_with fail
  with_reducible refine HD.out.mono ?_
  rintro e w1 ⟨a1, rfl, s1, u1, u2, t1⟩
  dsimp only
  have R1 := hrow_alloc w1 P Q S A l
  obtain ⟨y0, y1, y2, y3, y4⟩ := R1.hcells
  have BA := bAlloc (Below.refl w1.heap.size w1) (hc P Q S A l)
  go_wp2_with (go_at_call 43; with_reducible refine (OFH.out _).mono ?_; rintro e w2 ⟨rfl, b2⟩)
  have B2 := bTrans BA b2
  exact bodyPost_ret (v := .tuple #[.int .i64 d, .int .i64 c]) (by simp [results, Tryz.results42, go_sem]) rfl ⟨a1, rfl, s1.below B2, u1, u2, t1.below' B2⟩
end
end Go.Proofs.YtkbljgclflaokaaGreatDoor
