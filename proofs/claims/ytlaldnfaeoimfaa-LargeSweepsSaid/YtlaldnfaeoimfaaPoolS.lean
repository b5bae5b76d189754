/-
  Package pool: Set of an entry that is in use.
-/
import Derived.Test.YtlaldnfaeoimfaaPoolB
namespace Go.Proofs.Ytlaldnfaeoimfaa
open Go.RowKit
set_option linter.unusedVariables false

section
variable {R : Nat → Nat} {pb mb mm : Nat} {L : List Spc} {k W rm cnt mad fre a b : Nat} {h g : Int}
set_option maxRecDepth 100000 in
theorem pset_no (id word x : Int) (hc : ¬ chq (wds L k) W mad id word = 0) (w : World) (p : PP w R pb mb mm L k W rm cnt mad fre a b h g) : Calls Try.prog 25 #[at0 pb, .int .i64 id, .int .i64 word, .int .u64 x] w fun e w' => e = .returned (.int .i64 (chq (wds L k) W mad id word)) ∧ PP w' R pb mb mm L k W rm cnt mad fre (rda mad id a) b h g ∧ TR R R w w' := by
  have CK := Lib.hid (pcheck_any id word w p)
  have e1 := chq_no hc
  clear p hc
  generalize chq (wds L k) W mad id word = c at *
  go_enter Try.func25, Try.ntmps25
  go_wp2_with fail
  with_reducible refine CK.out.mono ?_
  rintro e w1 ⟨rfl, P1, T1⟩
  dsimp only
  go_wp2_with fail
  go_ret
  exact ⟨rfl, P1, T1⟩
set_option maxRecDepth 100000 in
set_option maxHeartbeats 1000000 in
theorem pset_ok (id j x : Nat) (hx : x < 18446744073709551616) (hc : chq (wds L k) W mad (id : Int) (j : Int) = 0) (w : World) (p : PP w R pb mb mm L k W rm cnt mad fre a b h g) : Calls Try.prog 25 #[at0 pb, .int .i64 (id : Int), .int .i64 (j : Int), .int .u64 (x : Int)] w fun e w' => e = .returned (.int .i64 0) ∧ PP w' R pb mb mm (setw L k ((wds L k).set (lk (W + 1) id (j + 1)) x)) k W rm cnt mad fre (addv a 1) (addv b 1) h g ∧ TR R R w w' := by
  have AL := Lib.hid (all_set p.al (lk (W + 1) id (j + 1)) hx)
  clear hx
  obtain ⟨h1, h2, h3, h4, h5⟩ := chq_yes hc
  have CK0 := pcheck_any (id : Int) (j : Int) w p
  rw [hc, show rda mad (id : Int) a = addv a 1 by unfold rda; rw [if_pos (pin_iff.2 ⟨h1, h2⟩)]] at CK0
  have CK := Lib.hid CK0
  have AT := Lib.hid (fun w' r => pat_any (m := at0 mb) (k := (k : Int)) (c := (cnt : Int)) (d := (mad : Int)) (f := (fre : Int)) (W := W) pb w' p.w60 r id (by omega) (by have := p.mad_le; omega))
  have WT := Lib.hid (fun w q => write_at mb mm R L (addv a 1) b h g w q k (lk (W + 1) id (j + 1)) x p.hk p.ho (p.place (by omega) (by omega) (by omega)))
  have pl := p.place (id := id) (n := j + 1) (by omega) (by omega) (by omega)
  have ml := p.m.lens k p.hk
  have e1 := lk_word (W + 1) id j
  have e2 : wrap64 ((lk (W + 1) id (j + 1) : Nat) : Int) = ((lk (W + 1) id (j + 1) : Nat) : Int) := wrap_small (by omega)
  have e3 : wrap64 (((lk (W + 1) id 0 : Nat) : Int) + 1) = ((lk (W + 1) id 0 : Nat) : Int) + 1 := by unfold wrap64; omega
  have e4 : IntKind.i64.wrap (((lk (W + 1) id 0 : Nat) : Int) + 1) = ((lk (W + 1) id 0 : Nat) : Int) + 1 := by rw [IntKind.wrap_i64]; omega
  have e5 : IntKind.i64.wrap ((lk (W + 1) id (j + 1) : Nat) : Int) = ((lk (W + 1) id (j + 1) : Nat) : Int) := by rw [IntKind.wrap_i64]; omega
  have LE := Lib.hid (show ((wds L k).set (lk (W + 1) id (j + 1)) x).length = (wds L k).length from List.length_set)
  clear p hc h1 h2 h3 h4 h5 CK0 pl ml
  generalize (wds L k).set (lk (W + 1) id (j + 1)) x = ws at *
  generalize lk (W + 1) id 0 = z at *
  generalize lk (W + 1) id (j + 1) = y at *
  go_enter Try.func25, Try.ntmps25
  go_wp2_with fail
  with_reducible refine CK.out.mono ?_
  rintro e w0 ⟨rfl, P0, T0⟩
  dsimp only
  have KP := Lib.hid (fun w' (t : TR R R w0 w') => P0.keep t)
  have RW := Lib.hid (fun w' (t : TR R R w0 w') => P0.row.tr t P0.z)
  have HM := Lib.hid P0.m
  have HP := Lib.hid P0
  have TT0 : TR R R w0 w0 := TR.refl R w0
  have BB0 : Below w0.heap.size w0 w0 := Below.refl _ _
  obtain ⟨x0, x1, x2, x3, x4, x5, xf, xl⟩ := pc_all P0.row
  clear P0 CK
  go_upto_region 4 with fail
  go_region_held3 (fun w' => w'.cell? ⟨pb, 0, none⟩ = some (at0 mb) ∧ w'.cell? ⟨pb, 1, none⟩ = some (.int .i64 (k : Int)))
      (first | (refine KP.out _ ?_; repeat (first | with_reducible assumption | with_reducible refine TR.drew ?_)))
      (first
        | (go_at_call 49; with_reducible refine (AT.out _ (RW.out _ ?_)).mono ?_
           · repeat (first | with_reducible assumption | with_reducible refine TR.drew ?_)
           rintro e w1 ⟨rfl, rfl⟩)
        | (go_at_call 28; with_reducible refine (WT.out _ ?_).mono ?_
           · refine HM.out.below ?_
             repeat (first | with_reducible assumption | with_reducible refine Below.drew ?_)
           rintro e w2 ⟨rfl, M2, T2⟩
           have TT2 : TR R R w0 w2 := TR.trans (by repeat (first | with_reducible assumption | with_reducible refine TR.drew ?_)) T2))
  all_goals
    go_wp2_with fail
    exact bodyPost_ret (v := .int .i64 0) (by simp [results, Try.results25, go_sem]) rfl ⟨rfl, HP.out.write M2 TT2 LE.out AL.out, T0.trans TT2⟩
end
end Go.Proofs.Ytlaldnfaeoimfaa
