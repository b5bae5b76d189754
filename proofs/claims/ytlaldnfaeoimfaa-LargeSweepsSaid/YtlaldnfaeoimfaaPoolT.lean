/-
  Package pool: Table.
-/
import Derived.Test.YtlaldnfaeoimfaaPoolE
namespace Go.Proofs.Ytlaldnfaeoimfaa
open Go.RowKit
set_option linter.unusedVariables false

set_option maxRecDepth 100000 in
set_option maxHeartbeats 1000000 in
theorem ptable_any {R : Nat → Nat} {pb mb mm : Nat} {L : List Spc} {k W rm cnt mad fre a b : Nat} {h g : Int} (n p : Nat) (hn : n ≤ 1000) (hp : p ≤ 1000) (w : World) (P : PP w R pb mb mm L k W rm cnt mad fre a b h g) :
    Calls Try.prog 53 #[at0 pb, .int .i64 (n : Int), .int .i64 (p : Int)] w fun e w' => e = .returned (tv (at0 mb) (k : Int) ((W + 1 : Nat) : Int) ((n + 1 : Nat) : Int) ((p + 1 : Nat) : Int)) ∧ Below w.heap.size w w' := by
  have BA := bAlloc (Below.refl w.heap.size w) (.cells #[.pointer none, .int .i64 0, .int .i64 0, .int .i64 0, .int .i64 0] 75)
  have RA := boxed5 w (.pointer none) 0 0 0 0
  have P0 := P.below BA
  have BN := Lib.hid (fun w => behind_any n hn w)
  have BP := Lib.hid (fun w => behind_any p hp w)
  have WI := Lib.hid (fun w r => pwidth_any (m := at0 mb) (k := (k : Int)) (c := (cnt : Int)) (d := (mad : Int)) (f := (fre : Int)) (W := W) pb w P.w60 r)
  have nb : pb ≠ w.heap.size := by have := P.row.lt; omega
  clear P hn hp
  generalize (W + 1 : Nat) = V at *
  generalize (n + 1 : Nat) = n1 at *
  generalize (p + 1 : Nat) = p1 at *
  go_enter Try.func53, Try.ntmps53
  go_upto_region 1 with fail
  generalize w.alloc (.cells #[.pointer none, .int .i64 0, .int .i64 0, .int .i64 0, .int .i64 0] 75) = w0 at *
  have KP := Lib.hid (fun w' (t : TR R R w0 w') => P0.keep t)
  have RW := Lib.hid (fun w' (t : TR R R w0 w') => P0.row.tr t P0.z)
  have RR : Row ((((((w0.setCell ⟨w.heap.size, 0, none⟩ (at0 mb)).setCell ⟨w.heap.size, 1, none⟩ (.int .i64 (k : Int))).setCell ⟨w.heap.size, 2, none⟩ (.int .i64 (V : Int))).setCell ⟨w.heap.size, 3, none⟩ (.int .i64 (n1 : Int))).setCell ⟨w.heap.size, 4, none⟩ (.int .i64 (p1 : Int))).drew) w.heap.size 5 (tc (at0 mb) (k : Int) (V : Int) (n1 : Int) (p1 : Int)) :=
    Row.drew ((((((RA.set 0 (by omega) _).set 1 (by omega) _).set 2 (by omega) _).set 3 (by omega) _).set 4 (by omega) _).congr fun j hj => by
      unfold tc
      rcases five hj with rfl | rfl | rfl | rfl | rfl <;> rfl)
  obtain ⟨u0, u1, u2, u3, u4, uf, ul⟩ := tc_all RR
  have BB := Lib.hid (((((BA.setCell (p := ⟨w.heap.size, 0, none⟩) (Nat.le_refl _) (at0 mb)).setCell (p := ⟨w.heap.size, 1, none⟩) (Nat.le_refl _) (.int .i64 (k : Int))).setCell (p := ⟨w.heap.size, 2, none⟩) (Nat.le_refl _) (.int .i64 (V : Int))).setCell (p := ⟨w.heap.size, 3, none⟩) (Nat.le_refl _) (.int .i64 (n1 : Int))).setCell (p := ⟨w.heap.size, 4, none⟩) (Nat.le_refl _) (.int .i64 (p1 : Int))).drew
  have nb' : w.heap.size ≠ pb := fun e => nb e.symm
  obtain ⟨k0, k1, _⟩ := pc_all (((((P0.row.far (p := ⟨w.heap.size, 0, none⟩) (at0 mb) nb').far (p := ⟨w.heap.size, 1, none⟩) (.int .i64 (k : Int)) nb').far (p := ⟨w.heap.size, 2, none⟩) (.int .i64 (V : Int)) nb').far (p := ⟨w.heap.size, 3, none⟩) (.int .i64 (n1 : Int)) nb').far (p := ⟨w.heap.size, 4, none⟩) (.int .i64 (p1 : Int)) nb').drew
  have TT0 : TR R R w0 w0 := TR.refl R w0
  obtain ⟨y0, y1, y2, y3, y4, yf, yl⟩ := tc_all RA
  obtain ⟨x0, x1, x2, x3, x4, x5, xf, xl⟩ := pc_all P0.row
  clear P0 RR BA RA
  go_region_held3 (fun w' => w'.cell? ⟨pb, 0, none⟩ = some (at0 mb) ∧ w'.cell? ⟨pb, 1, none⟩ = some (.int .i64 (k : Int)))
      (first | (with_reducible exact ⟨k0, k1⟩) | (refine KP.out _ ?_; repeat (first | with_reducible assumption | with_reducible refine TR.drew ?_)))
      (first
        | (go_at_call 68; with_reducible refine (WI.out _ (RW.out _ ?_)).mono ?_
           · repeat (first | with_reducible assumption | with_reducible refine TR.drew ?_)
           rintro e w2 ⟨rfl, rfl⟩)
        | (go_at_call 79; with_reducible refine (BN.out _).mono ?_
           rintro e w2 ⟨rfl, rfl⟩)
        | (go_at_call 79; with_reducible refine (BP.out _).mono ?_
           rintro e w2 ⟨rfl, rfl⟩))
  all_goals
    go_wp2_with fail
    exact bodyPost_ret (v := tv (at0 mb) (k : Int) (V : Int) (n1 : Int) (p1 : Int)) (by simp [results, Try.results53, go_sem, u0, u1, u2, u3, u4]) rfl ⟨rfl, BB.out⟩
end Go.Proofs.Ytlaldnfaeoimfaa
