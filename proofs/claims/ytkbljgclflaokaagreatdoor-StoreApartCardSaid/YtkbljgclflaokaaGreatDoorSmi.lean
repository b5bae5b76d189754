/-
  A Semi in memory, in plain numbers; contracts of package semi.
-/
import Derived.Test.YtkbljgclflaokaaGreatDoorLibG
import Derived.Deep.RegionHeld3
import Derived.BigQuiet
import Derived.WalkSmall
import Derived.Deep.QuietTactic
namespace Go.Proofs.YtkbljgclflaokaaGreatDoor
open Go.RowKit
set_option linter.unusedVariables false

/-- a Semi's cells: the Mem, the present half, the old half, is it turning? -/
def smc (m : Value) (cs ct os ot : Int) (tn : Bool) (j : Nat) : Value := if j = 0 then m else if j = 1 then .int .i64 cs else if j = 2 then .int .i64 ct else if j = 3 then .int .i64 os else if j = 4 then .int .i64 ot else .bool tn
theorem smc_all {w : World} {g : Nat} {m : Value} {cs ct os ot : Int} {tn : Bool} (r : Row w g 6 (smc m cs ct os ot tn)) : w.cell? ⟨g, 0, none⟩ = some m ∧ w.cell? ⟨g, 1, none⟩ = some (.int .i64 cs) ∧ w.cell? ⟨g, 2, none⟩ = some (.int .i64 ct) ∧ w.cell? ⟨g, 3, none⟩ = some (.int .i64 os) ∧ w.cell? ⟨g, 4, none⟩ = some (.int .i64 ot) ∧ w.cell? ⟨g, 5, none⟩ = some (.bool tn) ∧ (∀ j, w.frozen? ⟨g, j, none⟩ = false) ∧ g < w.heap.size :=
  ⟨r.cell 0 (by omega), r.cell 1 (by omega), r.cell 2 (by omega), r.cell 3 (by omega), r.cell 4 (by omega), r.cell 5 (by omega), r.free, r.lt⟩
theorem sixk {j : Nat} (h : j < 6) : j = 0 ∨ j = 1 ∨ j = 2 ∨ j = 3 ∨ j = 4 ∨ j = 5 := by omega
theorem smc_new (m : Value) (cs ct os ot : Int) (tn : Bool) (j : Nat) (hj : j < 6) : (#[m, Value.int .i64 cs, .int .i64 ct, .int .i64 os, .int .i64 ot, .bool tn] : Array Value)[j]? = some (smc m cs ct os ot tn j) := by
  rcases sixk hj with rfl | rfl | rfl | rfl | rfl | rfl <;> rfl
theorem Row.smt {w : World} {g : Nat} {m : Value} {cs ct os ot : Int} {tn : Bool} (r : Row w g 6 (smc m cs ct os ot tn)) (x : Int) : Row (w.setCell ⟨g, 2, none⟩ (.int .i64 x)) g 6 (smc m cs x os ot tn) := (r.set 2 (by omega) _).congr fun j hj => by
  rcases sixk hj with rfl | rfl | rfl | rfl | rfl | rfl <;> rfl
/-- the stores of Flip: the old half, the present one, turning -/
theorem Row.smf {w : World} {g : Nat} {m : Value} {cs ct os ot : Int} {tn : Bool} (r : Row w g 6 (smc m cs ct os ot tn)) (a b c d : Int) (t : Bool) : Row (((((w.setCell ⟨g, 3, none⟩ (.int .i64 a)).setCell ⟨g, 4, none⟩ (.int .i64 b)).setCell ⟨g, 1, none⟩ (.int .i64 c)).setCell ⟨g, 2, none⟩ (.int .i64 d)).setCell ⟨g, 5, none⟩ (.bool t)) g 6 (smc m c d a b t) :=
  (((((r.set 3 (by omega) _).set 4 (by omega) _).set 1 (by omega) _).set 2 (by omega) _).set 5 (by omega) _).congr fun j hj => by
    rcases sixk hj with rfl | rfl | rfl | rfl | rfl | rfl <;> rfl
/-- the stores of End: the old half, turning -/
theorem Row.sme {w : World} {g : Nat} {m : Value} {cs ct os ot : Int} {tn : Bool} (r : Row w g 6 (smc m cs ct os ot tn)) (a b : Int) (t : Bool) : Row (((w.setCell ⟨g, 3, none⟩ (.int .i64 a)).setCell ⟨g, 4, none⟩ (.int .i64 b)).setCell ⟨g, 5, none⟩ (.bool t)) g 6 (smc m cs ct a b t) :=
  (((r.set 3 (by omega) _).set 4 (by omega) _).set 5 (by omega) _).congr fun j hj => by
    rcases sixk hj with rfl | rfl | rfl | rfl | rfl | rfl <;> rfl
attribute [irreducible] smc
/-- A Semi in memory: its own cells (block sb), the Mem, the present space cs (ct words of it taken), the old one os (ot words). -/
structure SE (w : World) (R : Nat → Nat) (sb mb mm : Nat) (L : List Spc) (cs ct os ot : Nat) (tn : Bool) (a b : Nat) (h g : Int) : Prop where
  row : Row w sb 6 (smc (at0 mb) (cs : Int) (ct : Int) (os : Int) (ot : Int) tn)
  z : R sb = 0
  m : MM w R mb mm L a b h g
  hk : cs < L.length
  ho : (L.getD cs (false, [])).1 = true
  ht : ct ≤ (wds L cs).length
  old : tn = true → os < L.length ∧ (L.getD os (false, [])).1 = true ∧ os ≠ cs ∧ ot ≤ (wds L os).length
  non : tn = false → ot = 0
section
variable {w w' : World} {R R' : Nat → Nat} {sb mb mm : Nat} {L : List Spc} {cs ct os ot a b a' b' : Nat} {tn : Bool} {h g h' g' : Int}
theorem SE.step (p : SE w R sb mb mm L cs ct os ot tn a b h g) (m : MM w' R mb mm L a' b' h' g') (t : TR R R w w') : SE w' R sb mb mm L cs ct os ot tn a' b' h' g' := ⟨p.row.tr t p.z, p.z, m, p.hk, p.ho, p.ht, p.old, p.non⟩
theorem SE.below (p : SE w R sb mb mm L cs ct os ot tn a b h g) (k' : Below w.heap.size w w') : SE w' R sb mb mm L cs ct os ot tn a b h g := p.step (p.m.below k') (TR.of k')
theorem SE.drew (p : SE w R sb mb mm L cs ct os ot tn a b h g) : SE w.drew R sb mb mm L cs ct os ot tn a b h g := p.below (Below.refl _ _).drew
/-- words of one space have turned -/
theorem SE.write (p : SE w R sb mb mm L cs ct os ot tn a b h g) {k : Nat} (hk : k < L.length) {ws : List Nat} (m : MM w' R mb mm (setw L k ws) a' b' h' g') (t : TR R R w w') (hl : ws.length = (wds L k).length) : SE w' R sb mb mm (setw L k ws) cs ct os ot tn a' b' h' g' := by
  have len : ∀ i, (wds (setw L k ws) i).length = (wds L i).length := fun i => by
    by_cases e : i = k
    · rw [e, setw_wds hk, hl]
    · rw [setw_other hk ws e]
  exact ⟨p.row.tr t p.z, p.z, m, by rw [setw_len]; exact p.hk, by rw [setw_open hk]; exact p.ho, by rw [len]; exact p.ht, fun q => by
    obtain ⟨h1, h2, h3, h4⟩ := p.old q
    exact ⟨by rw [setw_len]; exact h1, by rw [setw_open hk]; exact h2, h3, by rw [len]; exact h4⟩, p.non⟩
theorem SE.len (p : SE w R sb mb mm L cs ct os ot tn a b h g) : (wds L cs).length ≤ 4194304 := p.m.lens cs p.hk
theorem SE.take (p : SE w R sb mb mm L cs ct os ot tn a b h g) {x : Nat} (hx : x ≤ (wds L cs).length) : SE (w.setCell ⟨sb, 2, none⟩ (.int .i64 (x : Int))) R sb mb mm L cs x os ot tn a b h g := ⟨p.row.smt x, p.z, p.m.store p.z 2 _, p.hk, p.ho, hx, p.old, p.non⟩
theorem SE.cells (p : SE w R sb mb mm L cs ct os ot tn a b h g) : w.cell? ⟨sb, 0, none⟩ = some (at0 mb) ∧ w.cell? ⟨sb, 1, none⟩ = some (.int .i64 (cs : Int)) ∧ w.cell? ⟨sb, 2, none⟩ = some (.int .i64 (ct : Int)) ∧ w.cell? ⟨sb, 3, none⟩ = some (.int .i64 (os : Int)) ∧ w.cell? ⟨sb, 4, none⟩ = some (.int .i64 (ot : Int)) ∧ w.cell? ⟨sb, 5, none⟩ = some (.bool tn) := by
  obtain ⟨x0, x1, x2, x3, x4, x5, _⟩ := smc_all p.row
  exact ⟨x0, x1, x2, x3, x4, x5⟩
end

/-- a half, as the program has it -/
abbrev hv (s t : Nat) : Value := .agg #[.int .i64 (s : Int), .int .i64 (t : Int)]
theorem shas_any (s t : Nat) (a n : Int) (ht : t ≤ 100000000) (ha : a ≤ 9223372036854775807) (w : World) : Calls Tryz.prog 78 #[hv s t, .int .i64 a, .int .i64 n] w fun e w' => e = .returned (.bool (hasv t a n)) ∧ Below w.heap.size w w' := by
  unfold hasv
  by_cases h0 : 0 ≤ a
  · by_cases h1 : 0 ≤ n
    · have ew : wrap64 ((t : Int) - a) = (t : Int) - a := by unfold wrap64; omega
      have ed : decide (0 ≤ a ∧ 0 ≤ n ∧ n ≤ (t : Int) - a) = decide (n ≤ (t : Int) - a) := by simp [h0, h1]
      rw [ed]
      clear ed ha ht
      go_enter Tryz.func78, Tryz.ntmps78
      go_wp2_with fail
      go_ret
      exact ⟨rfl, (by repeat (first | exact Below.refl _ _ | (with_reducible assumption) | refine bAlloc ?_ _ | refine below_drewN ?_ _ | refine Below.drew ?_ | (refine bSet ?_ (by first | (dsimp only; omega) | (simp; done) | (simp; omega)) _) | refine bTrans ?_ (by assumption)))⟩
    · rw [decide_eq_false (fun q => h1 q.2.1)]
      clear ha ht
      go_enter Tryz.func78, Tryz.ntmps78
      go_wp2_with fail
      go_ret
      exact ⟨rfl, (by repeat (first | exact Below.refl _ _ | (with_reducible assumption) | refine bAlloc ?_ _ | refine below_drewN ?_ _ | refine Below.drew ?_ | (refine bSet ?_ (by first | (dsimp only; omega) | (simp; done) | (simp; omega)) _) | refine bTrans ?_ (by assumption)))⟩
  · rw [decide_eq_false (fun q => h0 q.1)]
    clear ha ht
    go_enter Tryz.func78, Tryz.ntmps78
    go_wp2_with fail
    go_ret
    exact ⟨rfl, (by repeat (first | exact Below.refl _ _ | (with_reducible assumption) | refine bAlloc ?_ _ | refine below_drewN ?_ _ | refine Below.drew ?_ | (refine bSet ?_ (by first | (dsimp only; omega) | (simp; done) | (simp; omega)) _) | refine bTrans ?_ (by assumption)))⟩
section
variable {R : Nat → Nat} {sb mb mm : Nat} {L : List Spc} {cs ct os ot a b : Nat} {tn : Bool} {h g : Int}
theorem stop_any (w : World) (p : SE w R sb mb mm L cs ct os ot tn a b h g) : Calls Tryz.prog 57 #[at0 sb] w fun e w' => e = .returned (.int .i64 (ct : Int)) ∧ w = w' := by
  obtain ⟨x0, x1, x2, x3, x4, x5⟩ := p.cells
  clear p
  go_enter Tryz.func57, Tryz.ntmps57
  go_wp2_with fail
  go_ret
  exact ⟨rfl, rfl⟩
set_option maxRecDepth 100000 in
theorem ssize_any (w : World) (p : SE w R sb mb mm L cs ct os ot tn a b h g) : Calls Tryz.prog 96 #[at0 sb] w fun e w' => e = .returned (.int .i64 ((wds L cs).length : Nat)) ∧ Below w.heap.size w w' := by
  have NV := fun n => p.m.below (below_drewN (Below.refl w.heap.size w) n)
  have SZ := Lib.hid (fun w q => msize_ok mb mm R L a b h g w q cs p.hk p.ho)
  obtain ⟨x0, x1, x2, x3, x4, x5⟩ := p.cells
  clear p
  generalize (wds L cs).length = n at *
  go_enter Tryz.func96, Tryz.ntmps96
  go_wp2_with fail
  go_quiet ((go_at_call 104; exact Calls.quiet_of_same (SZ.out _ (NV _))))
  have B1 := below_drewN (Below.refl w.heap.size w) nq
  generalize w.drewN nq = w1 at *
  clear x0 x1 x2 x3 x4 x5 NV
  go_wp2_with fail
  go_ret
  exact ⟨rfl, B1⟩
set_option maxRecDepth 100000 in
theorem sroom_any (w : World) (p : SE w R sb mb mm L cs ct os ot tn a b h g) : Calls Tryz.prog 77 #[at0 sb] w fun e w' => e = .returned (.int .i64 (((wds L cs).length - ct : Nat) : Int)) ∧ Below w.heap.size w w' := by
  have SZ := Lib.hid (ssize_any w p)
  have TP := Lib.hid (fun w' (k : Below w.heap.size w w') => stop_any w' (p.below k))
  have ew : wrap64 (((wds L cs).length : Nat) - (ct : Int)) = (((wds L cs).length - ct : Nat) : Int) := by
    have := p.len; have := p.ht
    unfold wrap64; omega
  have HE := Lib.hid ew
  clear p ew
  generalize (wds L cs).length = n at *
  go_enter Tryz.func77, Tryz.ntmps77
  go_wp2_with fail
  with_reducible refine SZ.out.mono ?_
  rintro e w1 ⟨rfl, b1⟩
  dsimp only
  go_wp2_with fail
  with_reducible refine (TP.out _ b1).mono ?_
  rintro e w2 ⟨rfl, rfl⟩
  dsimp only
  go_wp2_with fail
  go_ret
  exact ⟨by first | rfl | (rw [HE.out]; rfl), (by repeat (first | exact Below.refl _ _ | (with_reducible assumption) | refine bAlloc ?_ _ | refine below_drewN ?_ _ | refine Below.drew ?_ | (refine bSet ?_ (by first | (dsimp only; omega) | (simp; done) | (simp; omega)) _) | refine bTrans ?_ (by assumption)))⟩

/-! ### Take -/
theorem stake_no (n : Int) (hn : n < 1) (w : World) (p : SE w R sb mb mm L cs ct os ot tn a b h g) : Calls Tryz.prog 51 #[at0 sb, .int .i64 n] w fun e w' => e = .returned (.tuple #[.int .i64 0, .int .i64 1]) ∧ w = w' := by
  clear p
  go_enter Tryz.func51, Tryz.ntmps51
  go_wp2_with fail
  exact bodyPost_ret (v := .tuple #[.int .i64 0, .int .i64 1]) (by simp [results, Tryz.results51, go_sem]) rfl ⟨rfl, rfl⟩
set_option maxRecDepth 100000 in
theorem stake_full (n : Int) (h1 : 1 ≤ n) (hn : (((wds L cs).length - ct : Nat) : Int) < n) (w : World) (p : SE w R sb mb mm L cs ct os ot tn a b h g) : Calls Tryz.prog 51 #[at0 sb, .int .i64 n] w fun e w' => e = .returned (.tuple #[.int .i64 0, .int .i64 3]) ∧ Below w.heap.size w w' := by
  have RM := Lib.hid (sroom_any w p)
  have c1 : ¬ n < 1 := by omega
  clear p h1
  generalize (wds L cs).length - ct = r at *
  go_enter Tryz.func51, Tryz.ntmps51
  go_wp2_with fail
  with_reducible refine RM.out.mono ?_
  rintro e w1 ⟨rfl, b1⟩
  dsimp only
  go_wp2_with fail
  exact bodyPost_ret (v := .tuple #[.int .i64 0, .int .i64 3]) (by simp [results, Tryz.results51, go_sem]) rfl ⟨rfl, b1⟩
set_option maxRecDepth 100000 in
theorem stake_ok (n : Nat) (h1 : 1 ≤ n) (hn : ct + n ≤ (wds L cs).length) (w : World) (p : SE w R sb mb mm L cs ct os ot tn a b h g) : Calls Tryz.prog 51 #[at0 sb, .int .i64 (n : Int)] w fun e w' => e = .returned (.tuple #[.int .i64 (ct : Int), .int .i64 0]) ∧ SE w' R sb mb mm L cs (ct + n) os ot tn a b h g ∧ TR (rp R sb) (rp R sb) w w' := by
  have RM := Lib.hid (sroom_any w p)
  have c1 : ¬ (n : Int) < 1 := by omega
  have c1' : ¬ n < 1 := by omega
  have c2 : ¬ (((wds L cs).length - ct : Nat) : Int) < (n : Int) := by omega
  have c2' : ¬ (wds L cs).length - ct < n := by omega
  have e1 : wrap64 ((ct : Int) + (n : Int)) = ((ct + n : Nat) : Int) := by have := p.len; unfold wrap64; omega
  have HN := Lib.hid hn
  have HP := Lib.hid p
  clear p h1 hn
  go_enter Tryz.func51, Tryz.ntmps51
  go_wp2_with fail
  with_reducible refine RM.out.mono ?_
  rintro e w1 ⟨rfl, b1⟩
  dsimp only
  have P1 := Lib.hid (HP.out.below b1)
  have T1 := Lib.hid (show TR (rp R sb) (rp R sb) w w1 from TR.of b1)
  obtain ⟨x0, x1, x2, x3, x4, x5, xf, xl⟩ := smc_all P1.out.row
  go_wp2_with fail
  exact bodyPost_ret (v := .tuple #[.int .i64 (ct : Int), .int .i64 0]) (by simp [results, Tryz.results51, go_sem]) rfl ⟨rfl, P1.out.take HN.out, T1.out.wips 2 _⟩
end
end Go.Proofs.YtkbljgclflaokaaGreatDoor
