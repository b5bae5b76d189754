/-
  haymowlaw08.meters.
-/
import Derived.Test.YtgnpakpnocbhhaaMem10
namespace Go.Proofs.Ytgnpakpnocbhhaa
open Go.RowKit
set_option linter.unusedVariables false

/-- a Mem's cells, its meter, a state beside it -/
structure Met (W : World) (mb mm sb : Nat) (sv qv : Value) (a b : Nat) (h g : Int) (w : World) : Prop where
  m : WRw w mb mm sv qv
  r : MRow w mm a b h g
  s : SRow w sb a b h g
  b : Below W.heap.size W w
theorem Met.below {W : World} {mb mm sb : Nat} {sv qv : Value} {a b : Nat} {h g : Int} {w w' : World} (A : Met W mb mm sb sv qv a b h g w) (k : Below w.heap.size w w') : Met W mb mm sb sv qv a b h g w' := ⟨A.m.below k, A.r.below k, A.s.below k, A.b.trans (k.mono A.b.size)⟩
theorem Met.drew {W : World} {mb mm sb : Nat} {sv qv : Value} {a b : Nat} {h g : Int} {w : World} (A : Met W mb mm sb sv qv a b h g w) : Met W mb mm sb sv qv a b h g w.drew := ⟨A.m.drew, A.r.drew, A.s.drew, A.b.drew⟩
theorem Met.keep {W : World} {mb mm sb : Nat} {sv qv : Value} {a b : Nat} {h g : Int} {w : World} (A : Met W mb mm sb sv qv a b h g w) :
    w.cell? ⟨mb, 0, none⟩ = some (.pointer (some ⟨mm, 0, none⟩)) ∧ w.cell? ⟨sb, 0, none⟩ = some (.int .u64 (hi a)) ∧ w.cell? ⟨sb, 1, none⟩ = some (.int .u64 (lo a)) ∧ w.cell? ⟨sb, 2, none⟩ = some (.int .u64 (hi b)) ∧ w.cell? ⟨sb, 3, none⟩ = some (.int .u64 (lo b)) ∧ w.cell? ⟨sb, 4, none⟩ = some (.int .i64 h) ∧ w.cell? ⟨sb, 5, none⟩ = some (.int .i64 g) :=
  ⟨A.m.all.1, A.s.all.1, A.s.all.2.1, A.s.all.2.2.1, A.s.all.2.2.2.1, A.s.all.2.2.2.2.1, A.s.all.2.2.2.2.2.1⟩
set_option maxRecDepth 100000 in
set_option maxHeartbeats 4000000 in
theorem meters_true (mb mm : Nat) (R : Nat → Nat) (L : List Spc) (a b : Nat) (h g : Int) (w : World) (hm : MM w R mb mm L a b h g) :
    Calls Try.prog 12 #[at0 mb, sv a b h g] w fun e w' => e = .returned (.bool true) ∧ Below w.heap.size w w' := by
  obtain ⟨svv, qv, U, Q, m⟩ := hm
  have BA := bAlloc (Below.refl w.heap.size w) (.cells #[.int .u64 (hi a), .int .u64 (lo a), .int .u64 (hi b), .int .u64 (lo b), .int .i64 h, .int .i64 g] 33)
  have A0 : Met w mb mm w.heap.size svv qv a b h g (w.alloc (.cells #[.int .u64 (hi a), .int .u64 (lo a), .int .u64 (hi b), .int .u64 (lo b), .int .i64 h, .int .i64 g] 33)) := ⟨m.row.below BA, m.met.below BA, Row.newAt w _ _ _ 6 _ rfl (sc_new a b h g), BA⟩
  have HE := Lib.hid (fun w' r => held_any mm a b h g w' r)
  have HI := Lib.hid (fun w' r => high_any mm a b h g w' r)
  have O0 := Lib.hid (fun w' r => of_reads mm a b h g w' r)
  have O1 := Lib.hid (fun w' r => of_writes mm a b h g w' r)
  clear m BA
  go_enter Try.func12, Try.ntmps12
  go_upto_region 1 with fail
  obtain ⟨sb, hsb⟩ : ∃ sb, sb = w.heap.size := ⟨_, rfl⟩
  rw [← hsb] at A0 ⊢
  generalize w.alloc (.cells #[.int .u64 (hi a), .int .u64 (lo a), .int .u64 (hi b), .int .u64 (lo b), .int .i64 h, .int .i64 g] 33) = w1 at *
  clear hsb
  obtain ⟨k0, k1, k2, k3, k4, k5, k6⟩ := A0.keep
  first
  | (
    go_region_held3 (fun w' => w'.cell? ⟨mb, 0, none⟩ = some (.pointer (some ⟨mm, 0, none⟩)) ∧ w'.cell? ⟨sb, 0, none⟩ = some (.int .u64 (hi a)) ∧ w'.cell? ⟨sb, 1, none⟩ = some (.int .u64 (lo a)) ∧ w'.cell? ⟨sb, 2, none⟩ = some (.int .u64 (hi b)) ∧ w'.cell? ⟨sb, 3, none⟩ = some (.int .u64 (lo b)) ∧ w'.cell? ⟨sb, 4, none⟩ = some (.int .i64 h) ∧ w'.cell? ⟨sb, 5, none⟩ = some (.int .i64 g))
      (first | (refine Met.keep (W := w) (mb := mb) (mm := mm) (sv := svv) (qv := qv) (a := a) (b := b) (h := h) (g := g) ?_; repeat (first | assumption | refine Met.drew ?_)))
      (first
        | (go_at_call 21; with_reducible refine (HE.out _ ?_).mono ?_
           · refine Met.r (W := w) (mb := mb) (sb := sb) (sv := svv) (qv := qv) ?_
             repeat (first | assumption | refine Met.drew ?_)
           rintro e w2 ⟨rfl, rfl⟩)
        | (go_at_call 22; with_reducible refine (HI.out _ ?_).mono ?_
           · refine Met.r (W := w) (mb := mb) (sb := sb) (sv := svv) (qv := qv) ?_
             repeat (first | assumption | refine Met.drew ?_)
           rintro e w2 ⟨rfl, rfl⟩)
        | (go_at_call 35; with_reducible refine (O0.out _ ?_).mono ?_
           · refine Met.r (W := w) (mb := mb) (sb := sb) (sv := svv) (qv := qv) ?_
             repeat (first | assumption | refine Met.drew ?_)
           rintro e w2 ⟨rfl, b2⟩
           have A2 : Met w mb mm sb svv qv a b h g w2 := Met.below (by repeat (first | assumption | refine Met.drew ?_)) b2)
        | (go_at_call 35; with_reducible refine (O1.out _ ?_).mono ?_
           · refine Met.r (W := w) (mb := mb) (sb := sb) (sv := svv) (qv := qv) ?_
             repeat (first | assumption | refine Met.drew ?_)
           rintro e w3 ⟨rfl, b3⟩
           have A3 : Met w mb mm sb svv qv a b h g w3 := Met.below (by repeat (first | assumption | refine Met.drew ?_)) b3))
    )
  | fail "held"
  all_goals
    go_wp2_with fail
    go_ret
    exact ⟨rfl, by first | exact A3.b | exact A3.b.drew⟩
end Go.Proofs.Ytgnpakpnocbhhaa
