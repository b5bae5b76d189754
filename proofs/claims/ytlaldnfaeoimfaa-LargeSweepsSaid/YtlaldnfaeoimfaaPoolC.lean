/-
  Package pool: use, retake, makeRoom, Take, Give.
-/
import Derived.Test.YtlaldnfaeoimfaaPoolB
import Derived.Test.YtlaldnfaeoimfaaLibE
import Derived.Test.YtlaldnfaeoimfaaRp
import Derived.Lib.MinMax
namespace Go.Proofs.Ytlaldnfaeoimfaa
open Go.RowKit
set_option linter.unusedVariables false

section
variable {R : Nat → Nat} {pb mb mm : Nat} {L : List Spc} {k W rm cnt mad fre a b : Nat} {h g : Int} {w : World}
theorem PP.set3 (p : PP w R pb mb mm L k W rm cnt mad fre a b h g) (x : Nat) : PP (w.setCell ⟨pb, 3, none⟩ (.int .i64 (x : Int))) R pb mb mm L k W rm x mad fre a b h g := ⟨p.row.pc3 x, p.z, p.m.store p.z 3 _, p.w1, p.w60, p.hk, p.ho, p.len, p.mr, p.al⟩
theorem PP.set4 (p : PP w R pb mb mm L k W rm cnt mad fre a b h g) (x : Nat) (hx : x ≤ rm) : PP (w.setCell ⟨pb, 4, none⟩ (.int .i64 (x : Int))) R pb mb mm L k W rm cnt x fre a b h g := ⟨p.row.pc4 x, p.z, p.m.store p.z 4 _, p.w1, p.w60, p.hk, p.ho, p.len, hx, p.al⟩
theorem PP.set5 (p : PP w R pb mb mm L k W rm cnt mad fre a b h g) (x : Nat) : PP (w.setCell ⟨pb, 5, none⟩ (.int .i64 (x : Int))) R pb mb mm L k W rm cnt mad x a b h g := ⟨p.row.pc5 x, p.z, p.m.store p.z 5 _, p.w1, p.w60, p.hk, p.ho, p.len, p.mr, p.al⟩
end

theorem zero_at (mb mm : Nat) (R : Nat → Nat) (L : List Spc) (a b : Nat) (h g : Int) (w : World) (hm : MM w R mb mm L a b h g) (k i t : Nat) (hk : k < L.length) (ho : (L.getD k (false, [])).1 = true) (hi : i + t ≤ (wds L k).length) (ht : 1 ≤ t) :
    Calls Try.prog 72 #[at0 mb, .int .i64 (k : Int), .int .i64 (i : Int), .int .i64 (t : Int)] w fun e w' => e = .returned (.int .i64 0) ∧ MM w' R mb mm (setw L k (wset (wds L k) i (fun _ => 0) t)) a (addv b t) h g ∧ TR R R w w' := by
  have H := mzero_ok mb mm R L a b h g w hm k i t hk hi (isv_t hk ho) (by
    unfold wrongv
    rw [if_neg (by rw [isv_t hk ho]; simp), Int.toNat_natCast, if_neg (by omega)])
  rw [stepv_y b rfl (by omega), stepv_n a (by omega), Int.toNat_natCast] at H
  unfold setw
  exact H
/-- the words of a space behind use -/
def usew (ws : List Nat) (W id gen : Nat) : List Nat := wset (ws.set (lk (W + 1) id 0) (1 + 4194304 * gen)) (lk (W + 1) id 1) (fun _ => 0) W
theorem usew_len (ws : List Nat) (W id gen : Nat) : (usew ws W id gen).length = ws.length := by unfold usew; rw [wset_len, List.length_set]
theorem lk_one (V id : Nat) : ((lk V id 0 : Nat) : Int) + 1 = ((lk V id 1 : Nat) : Int) := by unfold lk; omega
theorem lk_sum (V id n : Nat) : lk V id n = lk V id 0 + n := by unfold lk; omega
theorem lk_room {W id mad rm len : Nat} (h1 : 1 ≤ id) (h2 : id ≤ mad) (h3 : mad ≤ rm) (hl : len = rm * (W + 1)) : lk (W + 1) id 1 + W ≤ len := by
  have e := lk_lt (W := W + 1) (n := W) (len := len) h1 (by unfold ent; rw [hl, Nat.mul_div_cancel _ (by omega)]; omega) (by omega)
  rw [lk_sum] at e ⊢
  omega
theorem gen_lt {g : Nat} (h : g ≤ 1000000000) : 1 + 4194304 * g < 18446744073709551616 := by omega
theorem all_wset {ws : List Nat} (h : ∀ j, ws.getD j 0 < 18446744073709551616) (d t : Nat) : ∀ j, (wset ws d (fun _ => 0) t).getD j 0 < 18446744073709551616 := by
  induction t with
  | zero => exact h
  | succ t ih => exact all_set ih _ (x := 0) (by decide)
theorem usew_all {ws : List Nat} (h : ∀ j, ws.getD j 0 < 18446744073709551616) {g : Nat} (hg : g ≤ 1000000000) (W id : Nat) : ∀ j, (usew ws W id g).getD j 0 < 18446744073709551616 := all_wset (all_set h _ (gen_lt hg)) _ _
theorem count_up {c : Nat} (h : c ≤ 1000000) : wrap64 ((c : Int) + 1) = ((c + 1 : Nat) : Int) := wrap_small (x := c + 1) (by omega)
theorem place_le {z : Nat} (h : z ≤ 4194304) : wrap64 (z : Int) = (z : Int) ∧ IntKind.i64.wrap (z : Int) = (z : Int) := ⟨wrap_small (by omega), by rw [IntKind.wrap_i64]; omega⟩

section
variable {R : Nat → Nat} {pb mb mm : Nat} {L : List Spc} {k W rm cnt mad fre a b : Nat} {h g : Int}
/-- the cells that use's drawn region loads -/
theorem PP.keep3 {w : World} (p : PP w R pb mb mm L k W rm cnt mad fre a b h g) {w' : World} (t : TR R R w w') : w'.cell? ⟨pb, 0, none⟩ = some (at0 mb) ∧ w'.cell? ⟨pb, 1, none⟩ = some (.int .i64 (k : Int)) ∧ w'.cell? ⟨pb, 2, none⟩ = some (.int .i64 (W : Int)) := by
  obtain ⟨x0, x1, x2, _⟩ := pc_all (p.row.tr t p.z)
  exact ⟨x0, x1, x2⟩
set_option maxRecDepth 100000 in
set_option maxHeartbeats 1000000 in
theorem puse_ok (id gen : Nat) (hg : gen ≤ 1000000000) (h1 : 1 ≤ id) (h2 : id ≤ mad) (hc : cnt ≤ 1000000) (w : World) (p : PP w R pb mb mm L k W rm cnt mad fre a b h g) : Calls Try.prog 44 #[at0 pb, .int .i64 (id : Int), .int .i64 (gen : Int)] w fun e w' => e = .returned (.tuple #[]) ∧ PP w' R pb mb mm (setw L k (usew (wds L k) W id gen)) k W rm (cnt + 1) mad fre a (addv (addv b 1) W) h g ∧ TR (rp R pb) (rp R pb) w w' := by
  have SO := Lib.hid (show ∀ w, Calls Try.prog 71 #[.int .i64 (gen : Int), .int .i64 0] w fun e w' => e = .returned (.int .u64 ((4194304 * gen : Nat) : Int)) ∧ w = w' from fun w => by
    have q := stateof_any gen 0 hg (by omega) w
    rw [show 2 * 0 + 4194304 * gen = 4194304 * gen by omega] at q
    exact q)
  have SS := Lib.hid (psetstate_ok id (1 + 4194304 * gen) (gen_lt hg) h1 h2 w p)
  have eo := or_taken hg
  have e1 := lk_one (W + 1) id
  obtain ⟨e2, e3⟩ := place_le (Nat.le_trans (Nat.le_trans (Nat.le_add_right _ W) (lk_room h1 h2 p.mr p.len)) (p.m.lens k p.hk))
  have e4 := count_up hc
  have AT := Lib.hid (fun w' r => pat_any (m := at0 mb) (k := (k : Int)) (c := (cnt : Int)) (d := (mad : Int)) (f := (fre : Int)) (W := W) pb w' p.w60 r id h1 (by have := p.mad_le; omega))
  have ws1 : wds (setw L k ((wds L k).set (lk (W + 1) id 0) (1 + 4194304 * gen))) k = (wds L k).set (lk (W + 1) id 0) (1 + 4194304 * gen) := setw_wds p.hk _
  have ZR := Lib.hid (fun w' q => zero_at mb mm R (setw L k ((wds L k).set (lk (W + 1) id 0) (1 + 4194304 * gen))) a (addv b 1) h g w' q k (lk (W + 1) id 1) W (by rw [setw_len]; exact p.hk) (by rw [setw_open p.hk]; exact p.ho) (by rw [ws1, List.length_set]; exact lk_room h1 h2 p.mr p.len) p.w1)
  have ez : setw (setw L k ((wds L k).set (lk (W + 1) id 0) (1 + 4194304 * gen))) k (wset (wds (setw L k ((wds L k).set (lk (W + 1) id 0) (1 + 4194304 * gen))) k) (lk (W + 1) id 1) (fun _ => 0) W) = setw L k (usew (wds L k) W id gen) := by rw [ws1, setw_setw p.hk]; rfl
  rw [ez] at ZR
  have HP := Lib.hid p
  have AL := Lib.hid (usew_all p.al hg W id)
  clear p ez ws1 hg h1 h2 hc
  generalize setw L k ((wds L k).set (lk (W + 1) id 0) (1 + 4194304 * gen)) = L1 at *
  generalize (1 + 4194304 * gen : Nat) = x at *
  generalize (4194304 * gen : Nat) = y at *
  generalize lk (W + 1) id 0 = z at *
  generalize lk (W + 1) id 1 = z1 at *
  generalize (cnt + 1 : Nat) = c1 at *
  go_enter Try.func44, Try.ntmps44
  go_wp2_with fail
  with_reducible refine (SO.out _).mono ?_
  rintro e w1 ⟨rfl, rfl⟩
  dsimp only
  go_wp2_with fail
  with_reducible refine SS.out.mono ?_
  rintro e w1 ⟨rfl, P1, T1⟩
  dsimp only
  have KP := Lib.hid (fun w' (t : TR R R w1 w') => P1.keep3 t)
  have RW := Lib.hid (fun w' (t : TR R R w1 w') => P1.row.tr t P1.z)
  have HM := Lib.hid P1.m
  have TT0 : TR R R w1 w1 := TR.refl R w1
  have BB0 : Below w1.heap.size w1 w1 := Below.refl _ _
  obtain ⟨x0, x1, x2, x3, x4, x5, xf, xl⟩ := pc_all P1.row
  clear P1 SS
  go_upto_region 1 with fail
  go_region_held3 (fun w' => w'.cell? ⟨pb, 0, none⟩ = some (at0 mb) ∧ w'.cell? ⟨pb, 1, none⟩ = some (.int .i64 (k : Int)) ∧ w'.cell? ⟨pb, 2, none⟩ = some (.int .i64 (W : Int)))
      (first | (refine KP.out _ ?_; repeat (first | with_reducible assumption | with_reducible refine TR.drew ?_)))
      (first
        | (go_at_call 49; with_reducible refine (AT.out _ (RW.out _ ?_)).mono ?_
           · repeat (first | with_reducible assumption | with_reducible refine TR.drew ?_)
           rintro e w2 ⟨rfl, rfl⟩)
        | (go_at_call 72; with_reducible refine (ZR.out _ ?_).mono ?_
           · refine HM.out.below ?_
             repeat (first | with_reducible assumption | with_reducible refine Below.drew ?_)
           rintro e w3 ⟨rfl, M3, T3⟩
           have TT3 : TR R R w1 w3 := TR.trans (by repeat (first | with_reducible assumption | with_reducible refine TR.drew ?_)) T3))
  all_goals
    have P3 : PP w3 R pb mb mm (setw L k (usew (wds L k) W id gen)) k W rm cnt mad fre a (addv (addv b 1) W) h g := HP.out.write M3 (T1.trans TT3) (usew_len _ _ _ _) AL.out
    have P4 := P3.set3 c1
    have T4 := ((T1.trans TT3).wip pb).wips 3 (.int .i64 (c1 : Int))
    clear x0 x1 x2 x3 x4 x5 xf xl
    obtain ⟨x0, x1, x2, x3, x4, x5, xf, xl⟩ := pc_all P3.row
    go_wp2_with fail
    exact bodyPost_end (v := .tuple #[]) (by simp [results, Try.results44, go_sem]) rfl ⟨rfl, P4, T4⟩
end
end Go.Proofs.Ytlaldnfaeoimfaa
