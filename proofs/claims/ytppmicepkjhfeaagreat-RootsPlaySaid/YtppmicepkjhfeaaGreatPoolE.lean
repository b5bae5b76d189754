/-
  Package pool: use, retake, makeRoom, Take, Give. · Package pool: retake, makeRoom, Take. · Package pool: Take, Give, New, Table. · Package pool: Table.
-/
import Derived.Test.YtppmicepkjhfeaaGreatPoolB
import Derived.Test.YtppmicepkjhfeaaGreatLibE
import Derived.Test.YtppmicepkjhfeaaGreatLibG
import Derived.Lib.MinMax
import Derived.BigQuiet
namespace Go.Proofs.YtppmicepkjhfeaaGreat
open Go.RowKit
set_option linter.unusedVariables false

section
variable {R : Nat → Nat} {pb mb mm : Nat} {L : List Spc} {k W rm cnt mad fre a b : Nat} {h g : Int} {w : World}
theorem PP.set3 (p : PP w R pb mb mm L k W rm cnt mad fre a b h g) (x : Nat) : PP (w.setCell ⟨pb, 3, none⟩ (.int .i64 (x : Int))) R pb mb mm L k W rm x mad fre a b h g := ⟨p.row.pc3 x, p.z, p.m.store p.z 3 _, p.w1, p.w60, p.hk, p.ho, p.len, p.mr, p.al⟩
theorem PP.set4 (p : PP w R pb mb mm L k W rm cnt mad fre a b h g) (x : Nat) (hx : x ≤ rm) : PP (w.setCell ⟨pb, 4, none⟩ (.int .i64 (x : Int))) R pb mb mm L k W rm cnt x fre a b h g := ⟨p.row.pc4 x, p.z, p.m.store p.z 4 _, p.w1, p.w60, p.hk, p.ho, p.len, hx, p.al⟩
theorem PP.set5 (p : PP w R pb mb mm L k W rm cnt mad fre a b h g) (x : Nat) : PP (w.setCell ⟨pb, 5, none⟩ (.int .i64 (x : Int))) R pb mb mm L k W rm cnt mad x a b h g := ⟨p.row.pc5 x, p.z, p.m.store p.z 5 _, p.w1, p.w60, p.hk, p.ho, p.len, p.mr, p.al⟩
end

theorem zero_at (mb mm : Nat) (R : Nat → Nat) (L : List Spc) (a b : Nat) (h g : Int) (w : World) (hm : MM w R mb mm L a b h g) (k i t : Nat) (hk : k < L.length) (ho : (L.getD k (false, [])).1 = true) (hi : i + t ≤ (wds L k).length) (ht : 1 ≤ t) :
    Calls Tryz.prog 38 #[at0 mb, .int .i64 (k : Int), .int .i64 (i : Int), .int .i64 (t : Int)] w fun e w' => e = .returned (.int .i64 0) ∧ MM w' R mb mm (setw L k (wset (wds L k) i (fun _ => 0) t)) a (addv b t) h g ∧ TR R R w w' := by
  have H := mzero_ok mb mm R L a b h g w hm k i t hk hi (isv_t hk ho) (by
    unfold wrongv
    rw [if_neg (by rw [isv_t hk ho]; simp), Int.toNat_natCast, if_neg (by omega)])
  rw [stepv_y b rfl (by omega), stepv_n a (by omega), Int.toNat_natCast] at H
  unfold setw
  exact H
/-- the words of a space behind use -/
def usew (ws : List Nat) (W id gen : Nat) : List Nat := wset (ws.set (lk (W + 1) id 0) (1 + 4194304 * gen)) (lk (W + 1) id 1) (fun _ => 0) W
theorem usew_len (ws : List Nat) (W id gen : Nat) : (usew ws W id gen).length = ws.length := by unfold usew; rw [wset_len, List.length_set]
theorem lk_one (V id : Nat) : ((lk V id 0 : Nat) : Int) + 1 = ((lk V id 1 : Nat) : Int) := by unfold lk; omega
theorem lk_sum (V id n : Nat) : lk V id n = lk V id 0 + n := by unfold lk; omega
theorem lk_room {W id mad rm len : Nat} (h1 : 1 ≤ id) (h2 : id ≤ mad) (h3 : mad ≤ rm) (hl : len = rm * (W + 1)) : lk (W + 1) id 1 + W ≤ len := by
  have e := lk_lt (W := W + 1) (n := W) (len := len) h1 (by unfold ent; rw [hl, Nat.mul_div_cancel _ (by omega)]; omega) (by omega)
  rw [lk_sum] at e ⊢
  omega
theorem gen_lt {g : Nat} (h : g ≤ 1000000000) : 1 + 4194304 * g < 18446744073709551616 := by omega
theorem all_wset {ws : List Nat} (h : ∀ j, ws.getD j 0 < 18446744073709551616) (d t : Nat) : ∀ j, (wset ws d (fun _ => 0) t).getD j 0 < 18446744073709551616 := by
  induction t with
  | zero => exact h
  | succ t ih => exact all_set ih _ (x := 0) (by decide)
theorem usew_all {ws : List Nat} (h : ∀ j, ws.getD j 0 < 18446744073709551616) {g : Nat} (hg : g ≤ 1000000000) (W id : Nat) : ∀ j, (usew ws W id g).getD j 0 < 18446744073709551616 := all_wset (all_set h _ (gen_lt hg)) _ _
theorem count_up {c : Nat} (h : c ≤ 1000000) : wrap64 ((c : Int) + 1) = ((c + 1 : Nat) : Int) := wrap_small (x := c + 1) (by omega)
theorem place_le {z : Nat} (h : z ≤ 4194304) : wrap64 (z : Int) = (z : Int) ∧ IntKind.i64.wrap (z : Int) = (z : Int) := ⟨wrap_small (by omega), by rw [IntKind.wrap_i64]; omega⟩

section
variable {R : Nat → Nat} {pb mb mm : Nat} {L : List Spc} {k W rm cnt mad fre a b : Nat} {h g : Int}
/-- the cells that use's drawn region loads -/
theorem PP.keep3 {w : World} (p : PP w R pb mb mm L k W rm cnt mad fre a b h g) {w' : World} (t : TR R R w w') : w'.cell? ⟨pb, 0, none⟩ = some (at0 mb) ∧ w'.cell? ⟨pb, 1, none⟩ = some (.int .i64 (k : Int)) ∧ w'.cell? ⟨pb, 2, none⟩ = some (.int .i64 (W : Int)) := by
  obtain ⟨x0, x1, x2, _⟩ := pc_all (p.row.tr t p.z)
  exact ⟨x0, x1, x2⟩
set_option maxRecDepth 100000 in
set_option maxHeartbeats 1000000 in
theorem puse_ok (id gen : Nat) (hg : gen ≤ 1000000000) (h1 : 1 ≤ id) (h2 : id ≤ mad) (hc : cnt ≤ 1000000) (w : World) (p : PP w R pb mb mm L k W rm cnt mad fre a b h g) : Calls Tryz.prog 103 #[at0 pb, .int .i64 (id : Int), .int .i64 (gen : Int)] w fun e w' => e = .returned (.tuple #[]) ∧ PP w' R pb mb mm (setw L k (usew (wds L k) W id gen)) k W rm (cnt + 1) mad fre a (addv (addv b 1) W) h g ∧ TR (rp R pb) (rp R pb) w w' := by
  have SO := Lib.hid (show ∀ w, Calls Tryz.prog 111 #[.int .i64 (gen : Int), .int .i64 0] w fun e w' => e = .returned (.int .u64 ((4194304 * gen : Nat) : Int)) ∧ w = w' from fun w => by
    have q := stateof_any gen 0 hg (by omega) w
    rw [show 2 * 0 + 4194304 * gen = 4194304 * gen by omega] at q
    exact q)
  have SS := Lib.hid (psetstate_ok id (1 + 4194304 * gen) (gen_lt hg) h1 h2 w p)
  have eo := or_taken hg
  have e1 := lk_one (W + 1) id
  obtain ⟨e2, e3⟩ := place_le (Nat.le_trans (Nat.le_trans (Nat.le_add_right _ W) (lk_room h1 h2 p.mr p.len)) (p.m.lens k p.hk))
  have e4 := count_up hc
  have AT := Lib.hid (fun w' r => pat_any (m := at0 mb) (k := (k : Int)) (c := (cnt : Int)) (d := (mad : Int)) (f := (fre : Int)) (W := W) pb w' p.w60 r id h1 (by have := p.mad_le; omega))
  have ws1 : wds (setw L k ((wds L k).set (lk (W + 1) id 0) (1 + 4194304 * gen))) k = (wds L k).set (lk (W + 1) id 0) (1 + 4194304 * gen) := setw_wds p.hk _
  have ZR := Lib.hid (fun w' q => zero_at mb mm R (setw L k ((wds L k).set (lk (W + 1) id 0) (1 + 4194304 * gen))) a (addv b 1) h g w' q k (lk (W + 1) id 1) W (by rw [setw_len]; exact p.hk) (by rw [setw_open p.hk]; exact p.ho) (by rw [ws1, List.length_set]; exact lk_room h1 h2 p.mr p.len) p.w1)
  have ez : setw (setw L k ((wds L k).set (lk (W + 1) id 0) (1 + 4194304 * gen))) k (wset (wds (setw L k ((wds L k).set (lk (W + 1) id 0) (1 + 4194304 * gen))) k) (lk (W + 1) id 1) (fun _ => 0) W) = setw L k (usew (wds L k) W id gen) := by rw [ws1, setw_setw p.hk]; rfl
  rw [ez] at ZR
  have HP := Lib.hid p
  have AL := Lib.hid (usew_all p.al hg W id)
  clear p ez ws1 hg h1 h2 hc
  generalize setw L k ((wds L k).set (lk (W + 1) id 0) (1 + 4194304 * gen)) = L1 at *
  generalize (1 + 4194304 * gen : Nat) = x at *
  generalize (4194304 * gen : Nat) = y at *
  generalize lk (W + 1) id 0 = z at *
  generalize lk (W + 1) id 1 = z1 at *
  generalize (cnt + 1 : Nat) = c1 at *
  go_enter Tryz.func103, Tryz.ntmps103
  go_wp2_with fail
  with_reducible refine (SO.out _).mono ?_
  rintro e w1 ⟨rfl, rfl⟩
  dsimp only
  go_wp2_with fail
  with_reducible refine SS.out.mono ?_
  rintro e w1 ⟨rfl, P1, T1⟩
  dsimp only
  have KP := Lib.hid (fun w' (t : TR R R w1 w') => P1.keep3 t)
  have RW := Lib.hid (fun w' (t : TR R R w1 w') => P1.row.tr t P1.z)
  have HM := Lib.hid P1.m
  have TT0 : TR R R w1 w1 := TR.refl R w1
  have BB0 : Below w1.heap.size w1 w1 := Below.refl _ _
  obtain ⟨x0, x1, x2, x3, x4, x5, xf, xl⟩ := pc_all P1.row
  clear P1 SS
  go_upto_region 1 with fail
  go_region_held3 (fun w' => w'.cell? ⟨pb, 0, none⟩ = some (at0 mb) ∧ w'.cell? ⟨pb, 1, none⟩ = some (.int .i64 (k : Int)) ∧ w'.cell? ⟨pb, 2, none⟩ = some (.int .i64 (W : Int)))
      (first | (refine KP.out _ ?_; repeat (first | with_reducible assumption | with_reducible refine TR.drew ?_)))
      (first
        | (go_at_call 96; with_reducible refine (AT.out _ (RW.out _ ?_)).mono ?_
           · repeat (first | with_reducible assumption | with_reducible refine TR.drew ?_)
           rintro e w2 ⟨rfl, rfl⟩)
        | (go_at_call 38; with_reducible refine (ZR.out _ ?_).mono ?_
           · refine HM.out.below ?_
             repeat (first | with_reducible assumption | with_reducible refine Below.drew ?_)
           rintro e w3 ⟨rfl, M3, T3⟩
           have TT3 : TR R R w1 w3 := TR.trans (by repeat (first | with_reducible assumption | with_reducible refine TR.drew ?_)) T3))
  all_goals
    have P3 : PP w3 R pb mb mm (setw L k (usew (wds L k) W id gen)) k W rm cnt mad fre a (addv (addv b 1) W) h g := HP.out.write M3 (T1.trans TT3) (usew_len _ _ _ _) AL.out
    have P4 := P3.set3 c1
    have T4 := ((T1.trans TT3).wip pb).wips 3 (.int .i64 (c1 : Int))
    clear x0 x1 x2 x3 x4 x5 xf xl
    obtain ⟨x0, x1, x2, x3, x4, x5, xf, xl⟩ := pc_all P3.row
    go_wp2_with fail
    exact bodyPost_end (v := .tuple #[]) (by simp [results, Tryz.results103, go_sem]) rfl ⟨rfl, P4, T4⟩
end
end Go.Proofs.YtppmicepkjhfeaaGreat

namespace Go.Proofs.YtppmicepkjhfeaaGreat
open Go.RowKit
set_option linter.unusedVariables false

theorem next_le (x : Nat) : x / 2 % 2097152 < 2097152 := Nat.mod_lt _ (by decide)
section
variable {R : Nat → Nat} {pb mb mm : Nat} {L : List Spc} {k W rm cnt mad fre a b : Nat} {h g : Int}
set_option maxRecDepth 100000 in
set_option maxHeartbeats 1000000 in
theorem pretake_ok (x : Nat) (hx : (wds L k).getD (lk (W + 1) fre 0) 0 = x) (hf1 : 1 ≤ fre) (hf2 : fre ≤ mad) (hg : x / 4194304 ≤ 1000000000) (hc : cnt ≤ 1000000) (w : World) (p : PP w R pb mb mm L k W rm cnt mad fre a b h g) : Calls Tryz.prog 101 #[at0 pb] w fun e w' => e = .returned (.int .i64 (fre : Int)) ∧ PP w' R pb mb mm (setw L k (usew (wds L k) W fre (x / 4194304))) k W rm (cnt + 1) mad (x / 2 % 2097152) (addv a 1) (addv (addv b 1) W) h g ∧ TR (rp R pb) (rp R pb) w w' := by
  have hx2 : x < 18446744073709551616 := by rw [← hx]; exact p.al _
  have NX := Lib.hid (fun w => nextof_any x hx2 w)
  have GN := Lib.hid (fun w => genof_any x hx2 w)
  clear hx2
  have ST := Lib.hid (pstate_ok fre hf1 hf2 w p)
  rw [hx] at ST
  have PU := Lib.hid (fun w q => puse_ok (R := R) (pb := pb) (mb := mb) (mm := mm) (L := L) (k := k) (W := W) (rm := rm) (cnt := cnt) (mad := mad) (fre := x / 2 % 2097152) (a := addv a 1) (b := b) (h := h) (g := g) fre (x / 4194304) hg hf1 hf2 hc w q)
  obtain ⟨x0, x1, x2, x3, x4, x5, xf, xl⟩ := pc_all p.row
  clear p hx hf1 hf2 hg hc
  generalize usew (wds L k) W fre (x / 4194304) = ws at *
  generalize (x / 2 % 2097152 : Nat) = nx at *
  generalize (x / 4194304 : Nat) = gn at *
  generalize (cnt + 1 : Nat) = c1 at *
  go_enter Tryz.func101, Tryz.ntmps101
  go_wp2_with fail
  with_reducible refine ST.out.mono ?_
  rintro e w1 ⟨rfl, P1, T1⟩
  dsimp only
  clear x0 x1 x2 x3 x4 x5 xf xl
  obtain ⟨x0, x1, x2, x3, x4, x5, xf, xl⟩ := pc_all P1.row
  go_wp2_with fail
  with_reducible refine (NX.out _).mono ?_
  rintro e w2 ⟨rfl, rfl⟩
  dsimp only
  have P2 := P1.set5 nx
  have T2 := (T1.wip pb).wips 5 (.int .i64 (nx : Int))
  go_upto_region 4 with fail
  clear x0 x1 x2 x3 x4 x5 xf xl P1 T1
  generalize w1.setCell ⟨pb, 5, none⟩ (.int .i64 (nx : Int)) = w2 at *
  go_wp2_with fail
  with_reducible refine (GN.out _).mono ?_
  rintro e w3 ⟨rfl, rfl⟩
  dsimp only
  go_wp2_with fail
  with_reducible refine (PU.out _ P2).mono ?_
  rintro e w4 ⟨rfl, P4, T4⟩
  dsimp only
  go_wp2_with fail
  go_ret
  exact ⟨rfl, P4, T2.trans T4⟩

/-- how many entries a space has behind makeRoom -/
def nroom (rm : Nat) : Nat := max 8 (2 * rm)
def room2 (rm mad : Nat) : Nat := if mad < rm then rm else nroom rm
theorem PP.rmle {w : World} (p : PP w R pb mb mm L k W rm cnt mad fre a b h g) : rm ≤ 2097152 := by
  have e := p.m.lens k p.hk
  rw [p.len] at e
  have := Nat.mul_le_mul_left rm (show 2 ≤ W + 1 by have := p.w1; omega)
  omega
theorem quo_rm (rm W : Nat) : ((rm * (W + 1) : Nat) : Int).tdiv ((W + 1 : Nat) : Int) = (rm : Int) := by
  rw [← Int.ofNat_tdiv, Nat.mul_div_cancel _ (by omega)]
theorem vnz (W : Nat) : (((W + 1 : Nat) : Int) == 0) = false := by simp; omega
set_option maxRecDepth 100000 in
set_option maxHeartbeats 1000000 in
theorem pmr_yes (hr : mad < rm) (w : World) (p : PP w R pb mb mm L k W rm cnt mad fre a b h g) : Calls Tryz.prog 102 #[at0 pb] w fun e w' => e = .returned (.bool true) ∧ Below w.heap.size w w' := by
  have NV := fun n => p.m.below (below_drewN (Below.refl w.heap.size w) n)
  have SZ0 := fun w q => msize_ok mb mm R L a b h g w q k p.hk p.ho
  rw [p.len] at SZ0
  have SZ := Lib.hid SZ0
  have WI := Lib.hid (fun w r => pwidth_any (m := at0 mb) (k := (k : Int)) (c := (cnt : Int)) (d := (mad : Int)) (f := (fre : Int)) (W := W) pb w p.w60 r)
  have q1 := quo_rm rm W
  have q2 := vnz W
  have q5 : 2 ≤ W + 1 := Nat.succ_le_succ p.w1
  have q6 : ¬ W + 1 = 0 := Nat.succ_ne_zero W
  have q3 : wrap64 (rm : Int) = (rm : Int) := wrap_small (by have := p.rmle; omega)
  have q4 : (mad : Int) < (rm : Int) := by omega
  obtain ⟨x0, x1, x2, x3, x4, x5, xf, xl⟩ := pc_all p.row
  have HR := Lib.hid p.row
  clear p SZ0
  generalize (W + 1 : Nat) = V at *
  generalize (rm * V : Nat) = ln at *
  go_enter Tryz.func102, Tryz.ntmps102
  go_wp2_with fail
  go_quiet ((go_at_call 71; exact Calls.quiet_of_same (SZ.out _ (NV _))))
  have B1 := below_drewN (Below.refl w.heap.size w) nq
  have R1 := HR.out.below B1
  generalize w.drewN nq = w1 at *
  clear x0 x1 x2 x3 x4 x5 xf xl NV
  obtain ⟨x0, x1, x2, x3, x4, x5, xf, xl⟩ := pc_all R1
  go_wp2_with fail
  with_reducible refine (WI.out _ R1).mono ?_
  rintro e w2 ⟨rfl, rfl⟩
  dsimp only
  go_wp2_with fail
  exact bodyPost_ret (v := .bool true) (by simp [results, Tryz.results102, go_sem]) rfl ⟨rfl, B1⟩

theorem PP.grow {w w' : World} {R' : Nat → Nat} {h' g' : Int} (p : PP w R pb mb mm L k W rm cnt mad fre a b h g) {rm' : Nat} (hr : rm ≤ rm') (m : MM w' R' mb mm (setw L k (wds L k ++ List.replicate ((rm' - rm) * (W + 1)) 0)) a b h' g') (t : TR R R' w w') : PP w' R' pb mb mm (setw L k (wds L k ++ List.replicate ((rm' - rm) * (W + 1)) 0)) k W rm' cnt mad fre a b h' g' :=
  ⟨p.row.tr t p.z, Decidable.byContradiction fun q => (t.old _ p.row.lt q) p.z, m, p.w1, p.w60, by rw [setw_len]; exact p.hk, by rw [setw_open p.hk]; exact p.ho,
    by rw [setw_wds p.hk, List.length_append, List.length_replicate, p.len, ← Nat.add_mul, Nat.add_sub_cancel' hr], Nat.le_trans p.mr hr, by
    rw [setw_wds p.hk]
    intro j
    by_cases hj : j < (wds L k).length
    · have := p.al j
      simpa [List.getD, List.getElem?_append_left hj] using this
    · simp only [List.getD, List.getElem?_append_right (Nat.le_of_not_lt hj), List.getElem?_replicate]
      split <;> simp⟩
theorem room_facts {rm W : Nat} (hr : rm ≤ 10000) (hW : W ≤ 60) : (2 : Int) * (rm : Int) = ((2 * rm : Nat) : Int) ∧ IntKind.i64.wrap ((2 * rm : Nat) : Int) = ((2 * rm : Nat) : Int) ∧ max (8 : Int) ((2 * rm : Nat) : Int) = ((nroom rm : Nat) : Int) ∧ ((nroom rm : Nat) : Int) * ((W + 1 : Nat) : Int) = ((nroom rm * (W + 1) : Nat) : Int) ∧ IntKind.i64.wrap ((nroom rm * (W + 1) : Nat) : Int) = ((nroom rm * (W + 1) : Nat) : Int) ∧ nroom rm * (W + 1) ≤ 4194304 ∧ rm ≤ nroom rm := by
  have e : nroom rm * (W + 1) ≤ 20000 * 61 := Nat.mul_le_mul (by unfold nroom; omega) (by omega)
  have e2 : max (8 : Int) ((2 * rm : Nat) : Int) = ((nroom rm : Nat) : Int) := by unfold nroom; omega
  have e3 : rm ≤ nroom rm := by unfold nroom; omega
  refine ⟨by omega, by rw [IntKind.wrap_i64]; omega, e2, by norm_cast, ?_, by omega, e3⟩
  generalize nroom rm * (W + 1) = z at *
  rw [IntKind.wrap_i64]; omega
set_option maxRecDepth 100000 in
set_option maxHeartbeats 1000000 in
theorem pmr_no (hr : mad = rm) (hb : rm ≤ 10000) (w : World) (p : PP w R pb mb mm L k W rm cnt mad fre a b h g) : Calls Tryz.prog 102 #[at0 pb] w fun e w' => ∃ R', e = .returned (.bool true) ∧ PP w' R' pb mb mm (setw L k (wds L k ++ List.replicate ((nroom rm - rm) * (W + 1)) 0)) k W (nroom rm) cnt mad fre a b (holdh h (((nroom rm - rm) * (W + 1) : Nat) : Int)) (holdg h g (((nroom rm - rm) * (W + 1) : Nat) : Int)) ∧ TR R R' w w' := by
  obtain ⟨f1, f2, f3, f4, f5, f6, f7⟩ := room_facts hb p.w60
  have NV := fun n => p.m.below (below_drewN (Below.refl w.heap.size w) n)
  have SZ0 := fun w q => msize_ok mb mm R L a b h g w q k p.hk p.ho
  rw [p.len] at SZ0
  have SZ := Lib.hid SZ0
  have WI := Lib.hid (fun w r => pwidth_any (m := at0 mb) (k := (k : Int)) (c := (cnt : Int)) (d := (mad : Int)) (f := (fre : Int)) (W := W) pb w p.w60 r)
  have GR := Lib.hid (fun w q => mgrow_ok mb mm R L a b h g w q k (nroom rm * (W + 1)) ((nroom rm - rm) * (W + 1)) p.hk p.ho (by rw [p.len, ← Nat.add_mul, Nat.add_sub_cancel' f7]) f6)
  have q1 := quo_rm rm W
  have q2 := vnz W
  have q5 : 2 ≤ W + 1 := Nat.succ_le_succ p.w1
  have q6 : ¬ W + 1 = 0 := Nat.succ_ne_zero W
  have q3 : wrap64 (rm : Int) = (rm : Int) := wrap_small (by omega)
  have q4 : ¬ (mad : Int) < (rm : Int) := by omega
  obtain ⟨x0, x1, x2, x3, x4, x5, xf, xl⟩ := pc_all p.row
  have HP := Lib.hid p
  have HF := Lib.hid f7
  clear p SZ0 f6 f7 hb hr
  have HV := Lib.hid (fun w' R' h' g' m t => HP.out.grow (w' := w') (R' := R') (h' := h') (g' := g') HF.out m t)
  unfold setw at HV
  generalize (nroom rm - rm) * (W + 1) = q at *
  generalize nroom rm = nr at *
  generalize (W + 1 : Nat) = V at *
  generalize (rm * V : Nat) = ln at *
  generalize (nr * V : Nat) = nn at *
  generalize (2 * rm : Nat) = r2 at *
  go_enter Tryz.func102, Tryz.ntmps102
  go_wp2_with fail
  go_quiet ((go_at_call 71; exact Calls.quiet_of_same (SZ.out _ (NV _))))
  have B1 := below_drewN (Below.refl w.heap.size w) nq
  have P1 := HP.out.below B1
  generalize w.drewN nq = w1 at *
  clear x0 x1 x2 x3 x4 x5 xf xl NV
  obtain ⟨x0, x1, x2, x3, x4, x5, xf, xl⟩ := pc_all P1.row
  go_wp2_with fail
  with_reducible refine (WI.out _ P1.row).mono ?_
  rintro e w2 ⟨rfl, rfl⟩
  dsimp only
  have KP := Lib.hid (fun R' w' (t : TR R R' w1 w') => P1.keep t)
  have RW := Lib.hid (fun w' (t : TR R R w1 w') => P1.row.tr t P1.z)
  have HM := Lib.hid P1.m
  have TT0 : TR R R w1 w1 := TR.refl R w1
  have BB0 : Below w1.heap.size w1 w1 := Below.refl _ _
  clear P1
  go_upto_region 5 with fail
  go_region_held3 (fun w' => w'.cell? ⟨pb, 0, none⟩ = some (at0 mb) ∧ w'.cell? ⟨pb, 1, none⟩ = some (.int .i64 (k : Int)))
      (first | (refine KP.out R _ ?_; (repeat (first | with_reducible assumption | with_reducible refine TR.drew ?_)); done) | (refine KP.out R' _ ?_; (repeat (first | with_reducible assumption | with_reducible refine TR.drew ?_)); done))
      (first
        | (go_at_call 119; with_reducible refine (WI.out _ (RW.out _ ?_)).mono ?_
           · repeat (first | with_reducible assumption | with_reducible refine TR.drew ?_)
           rintro e w2 ⟨rfl, rfl⟩)
        | (go_at_call 72; with_reducible refine (GR.out _ ?_).mono ?_
           · refine HM.out.below ?_
             repeat (first | with_reducible assumption | with_reducible refine Below.drew ?_)
           rintro e w3 ⟨R', rfl, M3, T3⟩
           have TT3 : TR R R' w1 w3 := TR.trans (by repeat (first | with_reducible assumption | with_reducible refine TR.drew ?_)) T3))
  all_goals
    have T5 : TR R R' w w3 := (TR.of B1).trans TT3
    have P5 := HV.out w3 R' _ _ M3 T5
    go_wp2_with fail
    exact bodyPost_ret (v := .bool true) (by simp [results, Tryz.results102, go_sem]) rfl ⟨R', rfl, by unfold setw; exact P5, T5⟩
end
end Go.Proofs.YtppmicepkjhfeaaGreat

namespace Go.Proofs.YtppmicepkjhfeaaGreat
open Go.RowKit
set_option linter.unusedVariables false

section
variable {R : Nat → Nat} {pb mb mm : Nat} {L : List Spc} {k W rm cnt mad fre a b : Nat} {h g : Int}
theorem pos_ne {f : Nat} (h : 1 ≤ f) : ((f : Int) != 0) = true := by simp; omega
theorem ptake_re (x : Nat) (hx : (wds L k).getD (lk (W + 1) fre 0) 0 = x) (hf1 : 1 ≤ fre) (hf2 : fre ≤ mad) (hg : x / 4194304 ≤ 1000000000) (hc : cnt ≤ 1000000) (w : World) (p : PP w R pb mb mm L k W rm cnt mad fre a b h g) : Calls Tryz.prog 76 #[at0 pb] w fun e w' => e = .returned (.tuple #[.int .i64 (fre : Int), .int .i64 0]) ∧ PP w' R pb mb mm (setw L k (usew (wds L k) W fre (x / 4194304))) k W rm (cnt + 1) mad (x / 2 % 2097152) (addv a 1) (addv (addv b 1) W) h g ∧ TR (rp R pb) (rp R pb) w w' := by
  have RT := Lib.hid (pretake_ok x hx hf1 hf2 hg hc w p)
  have e1 := pos_ne hf1
  obtain ⟨x0, x1, x2, x3, x4, x5, xf, xl⟩ := pc_all p.row
  clear p hx hf1 hf2 hg hc
  generalize usew (wds L k) W fre (x / 4194304) = ws at *
  generalize (x / 2 % 2097152 : Nat) = nx at *
  generalize (cnt + 1 : Nat) = c1 at *
  go_enter Tryz.func76, Tryz.ntmps76
  go_wp2_with fail
  with_reducible refine RT.out.mono ?_
  rintro e w1 ⟨rfl, P1, T1⟩
  dsimp only
  go_wp2_with fail
  exact bodyPost_ret (v := .tuple #[.int .i64 (fre : Int), .int .i64 0]) (by simp [results, Tryz.results76, go_sem]) rfl ⟨rfl, P1, T1⟩
theorem mad_facts {m : Nat} (h : m ≤ 10000) : ((m : Int) == 1048576) = false ∧ wrap64 ((m : Int) + 1) = ((m + 1 : Nat) : Int) := ⟨by simp; omega, wrap_small (x := m + 1) (by omega)⟩
/-- Take's second half: the next number -/
theorem ptake_go (rm' : Nat) (L' : List Spc) (h' g' : Int) (hm : mad ≤ 10000) (hmr : mad < rm') (hc : cnt ≤ 1000000) (w : World) (p : PP w R pb mb mm L k W rm cnt mad 0 a b h g)
    (MR : Calls Tryz.prog 102 #[at0 pb] w fun e w' => ∃ R', e = .returned (.bool true) ∧ PP w' R' pb mb mm L' k W rm' cnt mad 0 a b h' g' ∧ TR R R' w w') :
    Calls Tryz.prog 76 #[at0 pb] w fun e w' => ∃ R', e = .returned (.tuple #[.int .i64 ((mad + 1 : Nat) : Int), .int .i64 0]) ∧ PP w' R' pb mb mm (setw L' k (usew (wds L' k) W (mad + 1) 0)) k W rm' (cnt + 1) (mad + 1) 0 a (addv (addv b 1) W) h' g' ∧ TR (rp R pb) (rp R' pb) w w' := by
  have PU := (fun R' w q => puse_ok (R := R') (pb := pb) (mb := mb) (mm := mm) (L := L') (k := k) (W := W) (rm := rm') (cnt := cnt) (mad := mad + 1) (fre := 0) (a := a) (b := b) (h := h') (g := g') (mad + 1) 0 (by omega) (by omega) (Nat.le_refl _) hc w q)
  rw [show ((0 : Nat) : Int) = 0 from rfl] at PU
  have PU := Lib.hid PU
  have MR := Lib.hid MR
  obtain ⟨e1, e2⟩ := mad_facts hm
  obtain ⟨x0, x1, x2, x3, x4, x5, xf, xl⟩ := pc_all p.row
  have HL := Lib.hid (show mad + 1 ≤ rm' from hmr)
  clear p hm hc hmr
  generalize usew (wds L' k) W (mad + 1) 0 = ws at *
  generalize (cnt + 1 : Nat) = c1 at *
  generalize (mad + 1 : Nat) = m1 at *
  go_enter Tryz.func76, Tryz.ntmps76
  go_wp2_with fail
  with_reducible refine MR.out.mono ?_
  rintro e w1 ⟨R', rfl, P1, T1⟩
  dsimp only
  clear x0 x1 x2 x3 x4 x5 xf xl
  obtain ⟨x0, x1, x2, x3, x4, x5, xf, xl⟩ := pc_all P1.row
  have P2 := P1.set4 m1 HL.out
  have T2 := (T1.wip pb).wips 4 (.int .i64 (m1 : Int))
  go_upto_region 6 with fail
  clear x0 x1 x2 x3 x4 x5 xf xl P1 T1
  generalize w1.setCell ⟨pb, 4, none⟩ (.int .i64 (m1 : Int)) = w2 at *
  obtain ⟨x0, x1, x2, x3, x4, x5, xf, xl⟩ := pc_all P2.row
  go_wp2_with fail
  with_reducible refine (PU.out R' _ P2).mono ?_
  rintro e w3 ⟨rfl, P3, T3⟩
  dsimp only
  clear x0 x1 x2 x3 x4 x5 xf xl
  obtain ⟨x0, x1, x2, x3, x4, x5, xf, xl⟩ := pc_all P3.row
  go_wp2_with fail
  exact bodyPost_ret (v := .tuple #[.int .i64 (m1 : Int), .int .i64 0]) (by simp [results, Tryz.results76, go_sem]) rfl ⟨R', rfl, P3, T2.trans T3⟩
/-- the words behind Take's room; what is held then -/
def roomw (ws : List Nat) (W rm mad : Nat) : List Nat := ws ++ List.replicate ((room2 rm mad - rm) * (W + 1)) 0
def roomh (h : Int) (W rm mad : Nat) : Int := if mad < rm then h else holdh h (((nroom rm - rm) * (W + 1) : Nat) : Int)
theorem ptake_new (hm : mad ≤ 10000) (hb : rm ≤ 10000) (hc : cnt ≤ 1000000) (w : World) (p : PP w R pb mb mm L k W rm cnt mad 0 a b h g) :
    Calls Tryz.prog 76 #[at0 pb] w fun e w' => ∃ R' g', e = .returned (.tuple #[.int .i64 ((mad + 1 : Nat) : Int), .int .i64 0]) ∧ PP w' R' pb mb mm (setw L k (usew (roomw (wds L k) W rm mad) W (mad + 1) 0)) k W (room2 rm mad) (cnt + 1) (mad + 1) 0 a (addv (addv b 1) W) (roomh h W rm mad) g' ∧ TR (rp R pb) (rp R' pb) w w' := by
  unfold roomw room2 roomh
  by_cases hr : mad < rm
  · rw [if_pos hr, if_pos hr, Nat.sub_self, Nat.zero_mul, List.replicate_zero, List.append_nil]
    exact (ptake_go rm L h g hm hr hc w p ((pmr_yes hr w p).mono fun e w' ⟨he, hb⟩ => ⟨R, he, p.below hb, TR.of hb⟩)).mono fun e w' ⟨R', q⟩ => ⟨R', g, q⟩
  · rw [if_neg hr, if_neg hr]
    have er : mad = rm := by have := p.mr; omega
    have hn : mad < nroom rm := by unfold nroom; omega
    have S2 : setw (setw L k (wds L k ++ List.replicate ((nroom rm - rm) * (W + 1)) 0)) k (usew (wds (setw L k (wds L k ++ List.replicate ((nroom rm - rm) * (W + 1)) 0)) k) W (mad + 1) 0) = setw L k (usew (wds L k ++ List.replicate ((nroom rm - rm) * (W + 1)) 0) W (mad + 1) 0) := by rw [setw_wds p.hk, setw_setw p.hk]
    rw [← S2]
    exact (ptake_go (nroom rm) _ _ _ hm hn hc w p (pmr_no er hb w p)).mono fun e w' ⟨R', q⟩ => ⟨R', _, q⟩

/-! ### Give -/
theorem give_facts {gn fre cnt : Nat} (hg : gn < 1000000000) (hc1 : 1 ≤ cnt) (hc : cnt ≤ 1000000) : wrap64 ((gn : Int) + 1) = ((gn + 1 : Nat) : Int) ∧ IntKind.i64.wrap ((gn : Int) + 1) = ((gn + 1 : Nat) : Int) ∧ wrap64 ((cnt : Int) - 1) = ((cnt - 1 : Nat) : Int) :=
  ⟨wrap_small (x := gn + 1) (by omega), by rw [IntKind.wrap_i64]; omega, by unfold wrap64; omega⟩
theorem state_lt {n g : Nat} (hn : n ≤ 2097151) (hg : g ≤ 1000000000) : 2 * n + 4194304 * g < 18446744073709551616 := by omega
theorem pgive_no (id : Int) (ht : tkq (wds L k) W mad id = false) (w : World) (p : PP w R pb mb mm L k W rm cnt mad fre a b h g) : Calls Tryz.prog 86 #[at0 pb, .int .i64 id] w fun e w' => e = .returned (.int .i64 4) ∧ PP w' R pb mb mm L k W rm cnt mad fre (rda mad id a) b h g ∧ TR R R w w' := by
  have TK0 := ptaken_any id w p
  rw [ht] at TK0
  have TK := Lib.hid TK0
  clear TK0 p ht
  go_enter Tryz.func86, Tryz.ntmps86
  go_wp2_with fail
  with_reducible refine TK.out.mono ?_
  rintro e w1 ⟨rfl, P1, T1⟩
  dsimp only
  go_wp2_with fail
  go_ret
  exact ⟨rfl, P1, T1⟩
set_option maxRecDepth 100000 in
set_option maxHeartbeats 1000000 in
theorem pgive_ok (id : Nat) (gn : Nat) (ht : tkq (wds L k) W mad (id : Int) = true) (hgn : gnq (wds L k) W mad (id : Int) = gn) (hg : gn < 1000000000) (hf : fre ≤ 2097151) (hc1 : 1 ≤ cnt) (hc : cnt ≤ 1000000) (w : World) (p : PP w R pb mb mm L k W rm cnt mad fre a b h g) :
    Calls Tryz.prog 86 #[at0 pb, .int .i64 (id : Int)] w fun e w' => e = .returned (.int .i64 0) ∧ PP w' R pb mb mm (setw L k ((wds L k).set (lk (W + 1) id 0) (2 * fre + 4194304 * (gn + 1)))) k W rm (cnt - 1) mad id (addv (addv a 1) 1) (addv b 1) h g ∧ TR (rp R pb) (rp R pb) w w' := by
  have TK0 := ptaken_any (id : Int) w p
  have hp : pin mad (id : Int) = true := by
    unfold tkq at ht
    exact (Bool.and_eq_true _ _ ▸ ht).1
  obtain ⟨h1, h2⟩ := pin_iff.1 hp
  have ra : ∀ a, rda mad (id : Int) a = addv a 1 := fun a => by unfold rda; rw [if_pos hp]
  rw [ht, ra] at TK0
  have TK := Lib.hid TK0
  have GN0 := fun w q => pgen_any (R := R) (pb := pb) (mb := mb) (mm := mm) (L := L) (k := k) (W := W) (rm := rm) (cnt := cnt) (mad := mad) (fre := fre) (a := addv a 1) (b := b) (h := h) (g := g) (id : Int) w q
  rw [hgn, ra] at GN0
  have GN := Lib.hid GN0
  obtain ⟨e1, e2, e3⟩ := give_facts (fre := fre) hg hc1 hc
  have SO := Lib.hid (fun w => stateof_any (gn + 1) fre (by omega) hf w)
  have SS := Lib.hid (fun w q => psetstate_ok (R := R) (pb := pb) (mb := mb) (mm := mm) (L := L) (k := k) (W := W) (rm := rm) (cnt := cnt) (mad := mad) (fre := fre) (a := addv (addv a 1) 1) (b := b) (h := h) (g := g) id (2 * fre + 4194304 * (gn + 1)) (state_lt hf hg) (by omega) (by omega) w q)
  clear TK0 p ht hp h1 h2 ra GN0 hgn hg hf hc1 hc
  generalize (2 * fre + 4194304 * (gn + 1) : Nat) = x at *
  generalize (gn + 1 : Nat) = g1 at *
  generalize (cnt - 1 : Nat) = c1 at *
  go_enter Tryz.func86, Tryz.ntmps86
  go_wp2_with fail
  with_reducible refine TK.out.mono ?_
  rintro e w1 ⟨rfl, P1, T1⟩
  dsimp only
  have KP := Lib.hid (fun w' (t : TR R R w1 w') => (pc_all (P1.row.tr t P1.z)).2.2.2.2.2.1)
  have HP := Lib.hid (fun w' (t : Below w1.heap.size w1 w') => P1.below t)
  have TT0 : TR R R w1 w1 := TR.refl R w1
  have BB0 : Below w1.heap.size w1 w1 := Below.refl _ _
  obtain ⟨x0, x1, x2, x3, x4, x5, xf, xl⟩ := pc_all P1.row
  clear P1 TK
  go_upto_region 3 with fail
  go_region_held3 (fun w' => w'.cell? ⟨pb, 5, none⟩ = some (.int .i64 (fre : Int)))
      (first | (refine KP.out _ ?_; repeat (first | with_reducible assumption | with_reducible refine TR.drew ?_)))
      (first
        | (go_at_call 107; with_reducible refine (GN.out _ (HP.out _ ?_)).mono ?_
           · repeat (first | with_reducible assumption | with_reducible refine Below.drew ?_)
           rintro e w2 ⟨rfl, P2, T2⟩
           have TT2 : TR R R w1 w2 := TR.trans (by repeat (first | with_reducible assumption | with_reducible refine TR.drew ?_)) T2)
        | (go_at_call 111; with_reducible refine (SO.out _).mono ?_
           rintro e w9 ⟨rfl, rfl⟩)
        | (go_at_call 110; with_reducible refine (SS.out _ P2).mono ?_
           rintro e w3 ⟨rfl, P3, T3⟩
           have TT3 : TR R R w1 w3 := TR.trans TT2 T3))
  all_goals
    clear x0 x1 x2 x3 x4 x5 xf xl
    have P4 := (P3.set5 id).set3 c1
    have T4 := (((T1.trans TT3).wip pb).wips 5 (.int .i64 (id : Int))).wips 3 (.int .i64 (c1 : Int))
    obtain ⟨x0, x1, x2, x3, x4, x5, xf, xl⟩ := pc_all P3.row
    go_wp2_with fail
    exact bodyPost_ret (v := .int .i64 0) (by simp [results, Tryz.results86, go_sem]) rfl ⟨rfl, P4, T4⟩
end

/-! ### New, Table -/
theorem pnew_nil (n : Int) (w : World) : Calls Tryz.prog 82 #[.pointer none, .int .i64 n] w fun e w' => e = .returned (.tuple #[.pointer none, .int .i64 1]) ∧ w = w' := by
  have q0 : ∀ w : World, (binOp .eql 61 (.pointer none) (.pointer none)).run Tryz.prog w = .ok (.bool true) w := fun w => by kernel_rfl
  go_enter Tryz.func82, Tryz.ntmps82
  go_wp2_with fail
  exact bodyPost_ret (v := .tuple #[.pointer none, .int .i64 1]) (by simp [results, Tryz.results82, go_sem]) rfl ⟨rfl, rfl⟩
theorem pnew_no (mb : Nat) (n : Int) (hn : ¬ (1 ≤ n ∧ n ≤ 60)) (w : World) : Calls Tryz.prog 82 #[at0 mb, .int .i64 n] w fun e w' => e = .returned (.tuple #[.pointer none, .int .i64 1]) ∧ w = w' := by
  have q0 := fun w a => ptr_eql_nil a w
  by_cases h1 : n < 1
  · clear hn
    go_enter Tryz.func82, Tryz.ntmps82
    go_wp2_with fail
    exact bodyPost_ret (v := .tuple #[.pointer none, .int .i64 1]) (by simp [results, Tryz.results82, go_sem]) rfl ⟨rfl, rfl⟩
  · have h2 : 60 < n := by omega
    clear hn
    go_enter Tryz.func82, Tryz.ntmps82
    go_wp2_with fail
    exact bodyPost_ret (v := .tuple #[.pointer none, .int .i64 1]) (by simp [results, Tryz.results82, go_sem]) rfl ⟨rfl, rfl⟩
/-- the spaces of a Mem that holds one pool, no number created -/
abbrev psp0 : List Spc := [(true, [])]
set_option maxRecDepth 100000 in
theorem pnew_ok (mb mm : Nat) (R : Nat → Nat) (W : Nat) (h1 : 1 ≤ W) (h2 : W ≤ 60) (w : World) (m : MM w R mb mm [] 0 0 0 0) : Calls Tryz.prog 82 #[at0 mb, .int .i64 (W : Int)] w fun e w' => ∃ R' pb, e = .returned (.tuple #[at0 pb, .int .i64 0]) ∧ PP w' R' pb mb mm psp0 0 W 0 0 0 0 0 0 0 0 ∧ w.heap.size ≤ pb ∧ TR R R' w w' := by
  have F0 : firstc [] = 0 := firstc_eq [] 0 (fun j hj => by omega) (.inl rfl)
  have OP := mopen_ok mb mm R [] 0 0 0 0 w m 0 (by omega) (by unfold countv; omega)
  rw [F0, show opened [] 0 = psp0 by unfold opened; rw [F0]; rfl, show holdh 0 ((0 : Nat) : Int) = 0 by unfold holdh; simp, show holdg 0 0 ((0 : Nat) : Int) = 0 by unfold holdg; simp] at OP
  rw [show ((0 : Nat) : Int) = 0 from rfl] at OP
  have OPH := Lib.hid OP
  have q0 := fun w a => ptr_eql_nil a w
  have c1 : ¬ (W : Int) < 1 := by omega
  have c2 : ¬ 60 < (W : Int) := by omega
  have c1' : ¬ W < 1 := by omega
  have c2' : ¬ 60 < W := by omega
  have H1 := Lib.hid h1
  have H2 := Lib.hid h2
  clear OP m h1 h2
  go_enter Tryz.func82, Tryz.ntmps82
  go_wp2_with fail
  with_reducible refine OPH.out.mono ?_
  rintro e w1 ⟨R', rfl, M1, T1⟩
  dsimp only
  have z1 : R' w1.heap.size = 0 := Decidable.byContradiction fun q => by have := M1.hi _ q; omega
  have RW := Row.newAt w1 (#[at0 mb, .int .i64 0, .int .i64 (W : Int), .int .i64 0, .int .i64 0, .int .i64 0] : Array Value) 144 w1.heap.size 6 _ rfl (pc_new (at0 mb) 0 (W : Int) 0 0 0)
  have P2 := Lib.hid (show PP (w1.alloc (.cells #[at0 mb, .int .i64 0, .int .i64 (W : Int), .int .i64 0, .int .i64 0, .int .i64 0] 144)) R' w1.heap.size mb mm psp0 0 W 0 0 0 0 0 0 0 0 from
    ⟨RW, z1, M1.alloc _, H1.out, H2.out, by decide, rfl, by simp [wds], Nat.le_refl _, fun j => by simp [wds]⟩)
  have T2 := Lib.hid (T1.alloc (.cells #[at0 mb, .int .i64 0, .int .i64 (W : Int), .int .i64 0, .int .i64 0, .int .i64 0] 144))
  have LE := Lib.hid T1.keeps.size
  clear RW M1 T1 z1
  go_wp2_with fail
  exact bodyPost_ret (v := .tuple #[at0 w1.heap.size, .int .i64 0]) (by simp [results, Tryz.results82, go_sem]) rfl ⟨R', w1.heap.size, rfl, P2.out, LE.out, T2.out⟩
end Go.Proofs.YtppmicepkjhfeaaGreat

namespace Go.Proofs.YtppmicepkjhfeaaGreat
open Go.RowKit
set_option linter.unusedVariables false

set_option maxRecDepth 100000 in
set_option maxHeartbeats 1000000 in
theorem ptable_any {R : Nat → Nat} {pb mb mm : Nat} {L : List Spc} {k W rm cnt mad fre a b : Nat} {h g : Int} (n p : Nat) (hn : n ≤ 1000) (hp : p ≤ 1000) (w : World) (P : PP w R pb mb mm L k W rm cnt mad fre a b h g) :
    Calls Tryz.prog 104 #[at0 pb, .int .i64 (n : Int), .int .i64 (p : Int)] w fun e w' => e = .returned (tv (at0 mb) (k : Int) ((W + 1 : Nat) : Int) ((n + 1 : Nat) : Int) ((p + 1 : Nat) : Int)) ∧ Below w.heap.size w w' := by
  have BA := bAlloc (Below.refl w.heap.size w) (.cells #[.pointer none, .int .i64 0, .int .i64 0, .int .i64 0, .int .i64 0] 126)
  have RA := boxed5 w (.pointer none) 0 0 0 0
  have P0 := P.below BA
  have BN := Lib.hid (fun w => behind_any n hn w)
  have BP := Lib.hid (fun w => behind_any p hp w)
  have WI := Lib.hid (fun w r => pwidth_any (m := at0 mb) (k := (k : Int)) (c := (cnt : Int)) (d := (mad : Int)) (f := (fre : Int)) (W := W) pb w P.w60 r)
  have nb : pb ≠ w.heap.size := by have := P.row.lt; omega
  clear P hn hp
  generalize (W + 1 : Nat) = V at *
  generalize (n + 1 : Nat) = n1 at *
  generalize (p + 1 : Nat) = p1 at *
  go_enter Tryz.func104, Tryz.ntmps104
  go_upto_region 1 with fail
  generalize w.alloc (.cells #[.pointer none, .int .i64 0, .int .i64 0, .int .i64 0, .int .i64 0] 126) = w0 at *
  have KP := Lib.hid (fun w' (t : TR R R w0 w') => P0.keep t)
  have RW := Lib.hid (fun w' (t : TR R R w0 w') => P0.row.tr t P0.z)
  have RR : Row ((((((w0.setCell ⟨w.heap.size, 0, none⟩ (at0 mb)).setCell ⟨w.heap.size, 1, none⟩ (.int .i64 (k : Int))).setCell ⟨w.heap.size, 2, none⟩ (.int .i64 (V : Int))).setCell ⟨w.heap.size, 3, none⟩ (.int .i64 (n1 : Int))).setCell ⟨w.heap.size, 4, none⟩ (.int .i64 (p1 : Int))).drew) w.heap.size 5 (tc (at0 mb) (k : Int) (V : Int) (n1 : Int) (p1 : Int)) :=
    Row.drew ((((((RA.set 0 (by omega) _).set 1 (by omega) _).set 2 (by omega) _).set 3 (by omega) _).set 4 (by omega) _).congr fun j hj => by
      unfold tc
      rcases five hj with rfl | rfl | rfl | rfl | rfl <;> rfl)
  obtain ⟨u0, u1, u2, u3, u4, uf, ul⟩ := tc_all RR
  have BB := Lib.hid (((((BA.setCell (p := ⟨w.heap.size, 0, none⟩) (Nat.le_refl _) (at0 mb)).setCell (p := ⟨w.heap.size, 1, none⟩) (Nat.le_refl _) (.int .i64 (k : Int))).setCell (p := ⟨w.heap.size, 2, none⟩) (Nat.le_refl _) (.int .i64 (V : Int))).setCell (p := ⟨w.heap.size, 3, none⟩) (Nat.le_refl _) (.int .i64 (n1 : Int))).setCell (p := ⟨w.heap.size, 4, none⟩) (Nat.le_refl _) (.int .i64 (p1 : Int))).drew
  have nb' : w.heap.size ≠ pb := fun e => nb e.symm
  obtain ⟨k0, k1, _⟩ := pc_all (((((P0.row.far (p := ⟨w.heap.size, 0, none⟩) (at0 mb) nb').far (p := ⟨w.heap.size, 1, none⟩) (.int .i64 (k : Int)) nb').far (p := ⟨w.heap.size, 2, none⟩) (.int .i64 (V : Int)) nb').far (p := ⟨w.heap.size, 3, none⟩) (.int .i64 (n1 : Int)) nb').far (p := ⟨w.heap.size, 4, none⟩) (.int .i64 (p1 : Int)) nb').drew
  have TT0 : TR R R w0 w0 := TR.refl R w0
  obtain ⟨y0, y1, y2, y3, y4, yf, yl⟩ := tc_all RA
  obtain ⟨x0, x1, x2, x3, x4, x5, xf, xl⟩ := pc_all P0.row
  clear P0 RR BA RA
  go_region_held3 (fun w' => w'.cell? ⟨pb, 0, none⟩ = some (at0 mb) ∧ w'.cell? ⟨pb, 1, none⟩ = some (.int .i64 (k : Int)))
      (first | (with_reducible exact ⟨k0, k1⟩) | (refine KP.out _ ?_; repeat (first | with_reducible assumption | with_reducible refine TR.drew ?_)))
      (first
        | (go_at_call 119; with_reducible refine (WI.out _ (RW.out _ ?_)).mono ?_
           · repeat (first | with_reducible assumption | with_reducible refine TR.drew ?_)
           rintro e w2 ⟨rfl, rfl⟩)
        | (go_at_call 125; with_reducible refine (BN.out _).mono ?_
           rintro e w2 ⟨rfl, rfl⟩)
        | (go_at_call 125; with_reducible refine (BP.out _).mono ?_
           rintro e w2 ⟨rfl, rfl⟩))
  all_goals
    go_wp2_with fail
    exact bodyPost_ret (v := tv (at0 mb) (k : Int) (V : Int) (n1 : Int) (p1 : Int)) (by simp [results, Tryz.results104, go_sem, u0, u1, u2, u3, u4]) rfl ⟨rfl, BB.out⟩
end Go.Proofs.YtppmicepkjhfeaaGreat
