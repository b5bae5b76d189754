/-
  Package pool: retake, makeRoom, Take.
-/
import Derived.Test.YtlaldnfaeoimfaaPoolC
import Derived.BigQuiet
namespace Go.Proofs.Ytlaldnfaeoimfaa
open Go.RowKit
set_option linter.unusedVariables false

theorem next_le (x : Nat) : x / 2 % 2097152 < 2097152 := Nat.mod_lt _ (by decide)
section
variable {R : Nat → Nat} {pb mb mm : Nat} {L : List Spc} {k W rm cnt mad fre a b : Nat} {h g : Int}
set_option maxRecDepth 100000 in
set_option maxHeartbeats 1000000 in
theorem pretake_ok (x : Nat) (hx : (wds L k).getD (lk (W + 1) fre 0) 0 = x) (hf1 : 1 ≤ fre) (hf2 : fre ≤ mad) (hg : x / 4194304 ≤ 1000000000) (hc : cnt ≤ 1000000) (w : World) (p : PP w R pb mb mm L k W rm cnt mad fre a b h g) : Calls Try.prog 42 #[at0 pb] w fun e w' => e = .returned (.int .i64 (fre : Int)) ∧ PP w' R pb mb mm (setw L k (usew (wds L k) W fre (x / 4194304))) k W rm (cnt + 1) mad (x / 2 % 2097152) (addv a 1) (addv (addv b 1) W) h g ∧ TR (rp R pb) (rp R pb) w w' := by
  have hx2 : x < 18446744073709551616 := by rw [← hx]; exact p.al _
  have NX := Lib.hid (fun w => nextof_any x hx2 w)
  have GN := Lib.hid (fun w => genof_any x hx2 w)
  clear hx2
  have ST := Lib.hid (pstate_ok fre hf1 hf2 w p)
  rw [hx] at ST
  have PU := Lib.hid (fun w q => puse_ok (R := R) (pb := pb) (mb := mb) (mm := mm) (L := L) (k := k) (W := W) (rm := rm) (cnt := cnt) (mad := mad) (fre := x / 2 % 2097152) (a := addv a 1) (b := b) (h := h) (g := g) fre (x / 4194304) hg hf1 hf2 hc w q)
  obtain ⟨x0, x1, x2, x3, x4, x5, xf, xl⟩ := pc_all p.row
  clear p hx hf1 hf2 hg hc
  generalize usew (wds L k) W fre (x / 4194304) = ws at *
  generalize (x / 2 % 2097152 : Nat) = nx at *
  generalize (x / 4194304 : Nat) = gn at *
  generalize (cnt + 1 : Nat) = c1 at *
  go_enter Try.func42, Try.ntmps42
  go_wp2_with fail
  with_reducible refine ST.out.mono ?_
  rintro e w1 ⟨rfl, P1, T1⟩
  dsimp only
  clear x0 x1 x2 x3 x4 x5 xf xl
  obtain ⟨x0, x1, x2, x3, x4, x5, xf, xl⟩ := pc_all P1.row
  go_wp2_with fail
  with_reducible refine (NX.out _).mono ?_
  rintro e w2 ⟨rfl, rfl⟩
  dsimp only
  have P2 := P1.set5 nx
  have T2 := (T1.wip pb).wips 5 (.int .i64 (nx : Int))
  go_upto_region 4 with fail
  clear x0 x1 x2 x3 x4 x5 xf xl P1 T1
  generalize w1.setCell ⟨pb, 5, none⟩ (.int .i64 (nx : Int)) = w2 at *
  go_wp2_with fail
  with_reducible refine (GN.out _).mono ?_
  rintro e w3 ⟨rfl, rfl⟩
  dsimp only
  go_wp2_with fail
  with_reducible refine (PU.out _ P2).mono ?_
  rintro e w4 ⟨rfl, P4, T4⟩
  dsimp only
  go_wp2_with fail
  go_ret
  exact ⟨rfl, P4, T2.trans T4⟩

/-- how many entries a space has behind makeRoom -/
def nroom (rm : Nat) : Nat := max 8 (2 * rm)
def room2 (rm mad : Nat) : Nat := if mad < rm then rm else nroom rm
theorem PP.rmle {w : World} (p : PP w R pb mb mm L k W rm cnt mad fre a b h g) : rm ≤ 2097152 := by
  have e := p.m.lens k p.hk
  rw [p.len] at e
  have := Nat.mul_le_mul_left rm (show 2 ≤ W + 1 by have := p.w1; omega)
  omega
theorem quo_rm (rm W : Nat) : ((rm * (W + 1) : Nat) : Int).tdiv ((W + 1 : Nat) : Int) = (rm : Int) := by
  rw [← Int.ofNat_tdiv, Nat.mul_div_cancel _ (by omega)]
theorem vnz (W : Nat) : (((W + 1 : Nat) : Int) == 0) = false := by simp; omega
set_option maxRecDepth 100000 in
set_option maxHeartbeats 1000000 in
theorem pmr_yes (hr : mad < rm) (w : World) (p : PP w R pb mb mm L k W rm cnt mad fre a b h g) : Calls Try.prog 43 #[at0 pb] w fun e w' => e = .returned (.bool true) ∧ Below w.heap.size w w' := by
  have NV := fun n => p.m.below (below_drewN (Below.refl w.heap.size w) n)
  have SZ0 := fun w q => msize_ok mb mm R L a b h g w q k p.hk p.ho
  rw [p.len] at SZ0
  have SZ := Lib.hid SZ0
  have WI := Lib.hid (fun w r => pwidth_any (m := at0 mb) (k := (k : Int)) (c := (cnt : Int)) (d := (mad : Int)) (f := (fre : Int)) (W := W) pb w p.w60 r)
  have q1 := quo_rm rm W
  have q2 := vnz W
  have q5 : 2 ≤ W + 1 := Nat.succ_le_succ p.w1
  have q6 : ¬ W + 1 = 0 := Nat.succ_ne_zero W
  have q3 : wrap64 (rm : Int) = (rm : Int) := wrap_small (by have := p.rmle; omega)
  have q4 : (mad : Int) < (rm : Int) := by omega
  obtain ⟨x0, x1, x2, x3, x4, x5, xf, xl⟩ := pc_all p.row
  have HR := Lib.hid p.row
  clear p SZ0
  generalize (W + 1 : Nat) = V at *
  generalize (rm * V : Nat) = ln at *
  go_enter Try.func43, Try.ntmps43
  go_wp2_with fail
  go_quiet ((go_at_call 67; exact Calls.quiet_of_same (SZ.out _ (NV _))))
  have B1 := below_drewN (Below.refl w.heap.size w) nq
  have R1 := HR.out.below B1
  generalize w.drewN nq = w1 at *
  clear x0 x1 x2 x3 x4 x5 xf xl NV
  obtain ⟨x0, x1, x2, x3, x4, x5, xf, xl⟩ := pc_all R1
  go_wp2_with fail
  with_reducible refine (WI.out _ R1).mono ?_
  rintro e w2 ⟨rfl, rfl⟩
  dsimp only
  go_wp2_with fail
  exact bodyPost_ret (v := .bool true) (by simp [results, Try.results43, go_sem]) rfl ⟨rfl, B1⟩

theorem PP.grow {w w' : World} {R' : Nat → Nat} {h' g' : Int} (p : PP w R pb mb mm L k W rm cnt mad fre a b h g) {rm' : Nat} (hr : rm ≤ rm') (m : MM w' R' mb mm (setw L k (wds L k ++ List.replicate ((rm' - rm) * (W + 1)) 0)) a b h' g') (t : TR R R' w w') : PP w' R' pb mb mm (setw L k (wds L k ++ List.replicate ((rm' - rm) * (W + 1)) 0)) k W rm' cnt mad fre a b h' g' :=
  ⟨p.row.tr t p.z, Decidable.byContradiction fun q => (t.old _ p.row.lt q) p.z, m, p.w1, p.w60, by rw [setw_len]; exact p.hk, by rw [setw_open p.hk]; exact p.ho,
    by rw [setw_wds p.hk, List.length_append, List.length_replicate, p.len, ← Nat.add_mul, Nat.add_sub_cancel' hr], Nat.le_trans p.mr hr, by
    rw [setw_wds p.hk]
    intro j
    by_cases hj : j < (wds L k).length
    · have := p.al j
      simpa [List.getD, List.getElem?_append_left hj] using this
    · simp only [List.getD, List.getElem?_append_right (Nat.le_of_not_lt hj), List.getElem?_replicate]
      split <;> simp⟩
theorem room_facts {rm W : Nat} (hr : rm ≤ 10000) (hW : W ≤ 60) : (2 : Int) * (rm : Int) = ((2 * rm : Nat) : Int) ∧ IntKind.i64.wrap ((2 * rm : Nat) : Int) = ((2 * rm : Nat) : Int) ∧ max (8 : Int) ((2 * rm : Nat) : Int) = ((nroom rm : Nat) : Int) ∧ ((nroom rm : Nat) : Int) * ((W + 1 : Nat) : Int) = ((nroom rm * (W + 1) : Nat) : Int) ∧ IntKind.i64.wrap ((nroom rm * (W + 1) : Nat) : Int) = ((nroom rm * (W + 1) : Nat) : Int) ∧ nroom rm * (W + 1) ≤ 4194304 ∧ rm ≤ nroom rm := by
  have e : nroom rm * (W + 1) ≤ 20000 * 61 := Nat.mul_le_mul (by unfold nroom; omega) (by omega)
  have e2 : max (8 : Int) ((2 * rm : Nat) : Int) = ((nroom rm : Nat) : Int) := by unfold nroom; omega
  have e3 : rm ≤ nroom rm := by unfold nroom; omega
  refine ⟨by omega, by rw [IntKind.wrap_i64]; omega, e2, by norm_cast, ?_, by omega, e3⟩
  generalize nroom rm * (W + 1) = z at *
  rw [IntKind.wrap_i64]; omega
set_option maxRecDepth 100000 in
set_option maxHeartbeats 1000000 in
theorem pmr_no (hr : mad = rm) (hb : rm ≤ 10000) (w : World) (p : PP w R pb mb mm L k W rm cnt mad fre a b h g) : Calls Try.prog 43 #[at0 pb] w fun e w' => ∃ R', e = .returned (.bool true) ∧ PP w' R' pb mb mm (setw L k (wds L k ++ List.replicate ((nroom rm - rm) * (W + 1)) 0)) k W (nroom rm) cnt mad fre a b (holdh h (((nroom rm - rm) * (W + 1) : Nat) : Int)) (holdg h g (((nroom rm - rm) * (W + 1) : Nat) : Int)) ∧ TR R R' w w' := by
  obtain ⟨f1, f2, f3, f4, f5, f6, f7⟩ := room_facts hb p.w60
  have NV := fun n => p.m.below (below_drewN (Below.refl w.heap.size w) n)
  have SZ0 := fun w q => msize_ok mb mm R L a b h g w q k p.hk p.ho
  rw [p.len] at SZ0
  have SZ := Lib.hid SZ0
  have WI := Lib.hid (fun w r => pwidth_any (m := at0 mb) (k := (k : Int)) (c := (cnt : Int)) (d := (mad : Int)) (f := (fre : Int)) (W := W) pb w p.w60 r)
  have GR := Lib.hid (fun w q => mgrow_ok mb mm R L a b h g w q k (nroom rm * (W + 1)) ((nroom rm - rm) * (W + 1)) p.hk p.ho (by rw [p.len, ← Nat.add_mul, Nat.add_sub_cancel' f7]) f6)
  have q1 := quo_rm rm W
  have q2 := vnz W
  have q5 : 2 ≤ W + 1 := Nat.succ_le_succ p.w1
  have q6 : ¬ W + 1 = 0 := Nat.succ_ne_zero W
  have q3 : wrap64 (rm : Int) = (rm : Int) := wrap_small (by omega)
  have q4 : ¬ (mad : Int) < (rm : Int) := by omega
  obtain ⟨x0, x1, x2, x3, x4, x5, xf, xl⟩ := pc_all p.row
  have HP := Lib.hid p
  have HF := Lib.hid f7
  clear p SZ0 f6 f7 hb hr
  have HV := Lib.hid (fun w' R' h' g' m t => HP.out.grow (w' := w') (R' := R') (h' := h') (g' := g') HF.out m t)
  unfold setw at HV
  generalize (nroom rm - rm) * (W + 1) = q at *
  generalize nroom rm = nr at *
  generalize (W + 1 : Nat) = V at *
  generalize (rm * V : Nat) = ln at *
  generalize (nr * V : Nat) = nn at *
  generalize (2 * rm : Nat) = r2 at *
  go_enter Try.func43, Try.ntmps43
  go_wp2_with fail
  go_quiet ((go_at_call 67; exact Calls.quiet_of_same (SZ.out _ (NV _))))
  have B1 := below_drewN (Below.refl w.heap.size w) nq
  have P1 := HP.out.below B1
  generalize w.drewN nq = w1 at *
  clear x0 x1 x2 x3 x4 x5 xf xl NV
  obtain ⟨x0, x1, x2, x3, x4, x5, xf, xl⟩ := pc_all P1.row
  go_wp2_with fail
  with_reducible refine (WI.out _ P1.row).mono ?_
  rintro e w2 ⟨rfl, rfl⟩
  dsimp only
  have KP := Lib.hid (fun R' w' (t : TR R R' w1 w') => P1.keep t)
  have RW := Lib.hid (fun w' (t : TR R R w1 w') => P1.row.tr t P1.z)
  have HM := Lib.hid P1.m
  have TT0 : TR R R w1 w1 := TR.refl R w1
  have BB0 : Below w1.heap.size w1 w1 := Below.refl _ _
  clear P1
  go_upto_region 5 with fail
  go_region_held3 (fun w' => w'.cell? ⟨pb, 0, none⟩ = some (at0 mb) ∧ w'.cell? ⟨pb, 1, none⟩ = some (.int .i64 (k : Int)))
      (first | (refine KP.out R _ ?_; (repeat (first | with_reducible assumption | with_reducible refine TR.drew ?_)); done) | (refine KP.out R' _ ?_; (repeat (first | with_reducible assumption | with_reducible refine TR.drew ?_)); done))
      (first
        | (go_at_call 68; with_reducible refine (WI.out _ (RW.out _ ?_)).mono ?_
           · repeat (first | with_reducible assumption | with_reducible refine TR.drew ?_)
           rintro e w2 ⟨rfl, rfl⟩)
        | (go_at_call 69; with_reducible refine (GR.out _ ?_).mono ?_
           · refine HM.out.below ?_
             repeat (first | with_reducible assumption | with_reducible refine Below.drew ?_)
           rintro e w3 ⟨R', rfl, M3, T3⟩
           have TT3 : TR R R' w1 w3 := TR.trans (by repeat (first | with_reducible assumption | with_reducible refine TR.drew ?_)) T3))
  all_goals
    have T5 : TR R R' w w3 := (TR.of B1).trans TT3
    have P5 := HV.out w3 R' _ _ M3 T5
    go_wp2_with fail
    exact bodyPost_ret (v := .bool true) (by simp [results, Try.results43, go_sem]) rfl ⟨R', rfl, by unfold setw; exact P5, T5⟩
end
end Go.Proofs.Ytlaldnfaeoimfaa
