/-
  haymowlaw17.do: Turn, at both.
-/
import Derived.Test.YtgicgaogoeihpaaTkb
import Derived.Deep.RegionLaw
namespace Go.Proofs.Ytgicgaogoeihpaa
open Go.RowKit
set_option linter.unusedVariables false

theorem fwn_map (u : Nat) (S : List (List Nat)) : fwn (S.map (fun x => x.map (yup u))) = fwn S := by
  induction S with
  | nil => rfl
  | cons x t ih => rw [List.map_cons, fwn_cons, fwn_cons, ih, List.length_map]
section
variable {W0 : World} {R R' : Nat → Nat} {fb mb mm n rm rm' : Nat} {S S' T : List (List Nat)} {x : List Nat} {a b a' b' : Nat} {v v' : Value} {w w' w1 : World}
abbrev obx (o : Op17) : Obj := .cells #[.int .i64 o.k, .int .i64 o.n, .int .u64 (o.w : Int)] 41
abbrev mbx : Obj := .cells #[.slice none 0 0] 44
theorem turn17 (q : B17 W0 R fb mb mm n rm S a b v w) (hn : n ≤ 998) (o : Op17) :
    Calls Try.prog 27 #[at0 fb, .func (.func 28) #[] #[at0 (w.heap.size + 1), at0 w.heap.size]] ((w.alloc (obx o)).alloc mbx) fun e w' => ∃ a' b' u,
      e = .returned (.tuple #[]) ∧ FB W0 R fb mb mm (n + 1) rm (S.map (fun x => x.map (yup o.w))) false a' b' w' ∧ a' + b' ≤ a + b + 2 * fwn S ∧ TR (rp R fb) (rp R fb) w w' ∧ w'.cell? ⟨w.heap.size + 1, 0, none⟩ = some u ∧ NL pw w' u (yfl S) ∧ DX17 w R fb o w' ∧ w.heap.size + 1 < w'.heap.size := by
  have X1 := DX17.start q o
  have B1 := obox w o
  have B2 : Below (w.alloc (obx o)).heap.size (w.alloc (obx o)) ((w.alloc (obx o)).alloc mbx) := bAlloc (Below.refl _ _) _
  have sM : (w.alloc (obx o)).heap.size = w.heap.size + 1 := World.size_alloc _ _
  have s2 : ((w.alloc (obx o)).alloc mbx).heap.size = w.heap.size + 2 := by rw [World.size_alloc, sM]
  have RM : Row ((w.alloc (obx o)).alloc mbx) (w.heap.size + 1) 1 (fun _ => .slice none 0 0) := Row.newAt _ _ _ _ 1 _ sM.symm (fone_at _)
  have BB : Below w.heap.size w ((w.alloc (obx o)).alloc mbx) := B1.trans (B2.mono B1.size)
  have X2 := X1.below B2
  have q2 := q.below BB
  have lens := q.lens
  have zM : rp R fb (w.heap.size + 1) = 0 := q.s.beyond (by omega)
  have zO : rp R fb w.heap.size = 0 := q.s.beyond (Nat.le_refl _)
  have lf := q.s.row
  obtain ⟨⟨ws, g, p, e⟩, own, lo, sz, hr, _⟩ := q2.s
  obtain ⟨x0, x1, x2, x3, x4, x5, xf, xl⟩ := frc_all p.row
  have I0 : TX R fb mb mm rm (w.heap.size + 1) w.heap.size o (a + b) S [] 0 (fun j => if j = w.heap.size + 1 ∨ j = w.heap.size then 1 else rp R fb j) (((w.alloc (obx o)).alloc mbx).setCell ⟨fb, 5, none⟩ (.bool true)) := by
    refine ⟨⟨ws, g, a, b, p.busy true, e, Nat.le_refl _⟩, ⟨_, RM.far _ (by show fb ≠ _; omega), YU.nil _ _⟩, X2.o.far _ (by show fb ≠ _; omega), Nat.le_refl _, fun j hj => ?_, ?_, zM, ?_, zO, by omega, fun j hj => ?_⟩
    · show (if j = w.heap.size + 1 ∨ j = w.heap.size then 1 else rp R fb j) ≠ 0
      split
      · decide
      · exact hj
    · show (if w.heap.size + 1 = w.heap.size + 1 ∨ _ then 1 else _) ≠ 0
      rw [if_pos (.inl rfl)]; decide
    · show (if w.heap.size = w.heap.size + 1 ∨ w.heap.size = w.heap.size then 1 else _) ≠ 0
      rw [if_pos (.inr rfl)]; decide
    · rw [World.size_setCell, s2]
      replace hj : (if j = w.heap.size + 1 ∨ j = w.heap.size then 1 else rp R fb j) ≠ 0 := hj
      by_cases c : j = w.heap.size + 1 ∨ j = w.heap.size
      · omega
      · rw [if_neg c] at hj
        have := q.s.hi j hj
        omega
  refine (fTurn_any tk17 S [] 0 (by omega) _ _ I0 x5 (xf 5)).mono ?_
  rintro y wz ⟨n', R', w1, rfl, l1, I1, T1, rfl⟩
  rw [tall17, List.nil_append] at I1
  obtain ⟨ws1, g1, a1, b1, p1, e1, l2⟩ := I1.p
  obtain ⟨u, r1, y1⟩ := I1.mv
  have k1 := T1.keeps.size
  have TT : TR (rp R fb) (rp R fb) w (w1.setCell ⟨fb, 5, none⟩ (.bool false)) := ⟨((Keeps.of (F := fun j => rp R fb j ≠ 0) BB).trans T1.keeps (fun j hj q => by
      replace q : (if j = w.heap.size + 1 ∨ j = w.heap.size then 1 else rp R fb j) ≠ 0 := q
      rw [if_neg (by omega)] at q
      exact q)).trans (Keeps.set (F := fun j => rp R fb j ≠ 0) w1 fb 5 _ (rp_at R fb)) (fun _ _ q => q), fun _ _ q => q⟩
  refine ⟨a1, b1, u, rfl, ⟨⟨ws1, g1, p1.busy false, e1⟩, own_fb q.s.o q.s.lo p.z p.z lf TT, lo, by rw [fwn_map]; omega, by omega, by omega⟩, by omega, TT, (r1.far _ (by show fb ≠ _; omega)).cell 0 (by omega), (y1.keeps (Keeps.set (F := fun j => j = fb) w1 fb 5 _ rfl) (fun j _ q => rp_nil q.2.1) (fun _ _ q => q)).nl, ⟨I1.o.far _ (by show fb ≠ _; omega), zO⟩, by rw [World.size_setCell]; omega⟩
end
end Go.Proofs.Ytgicgaogoeihpaa
