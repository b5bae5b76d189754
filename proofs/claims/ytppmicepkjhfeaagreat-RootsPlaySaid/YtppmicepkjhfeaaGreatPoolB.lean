/-
  Package pool: the functions that touch no Mem: stateOf, nextOf, genOf, width, at, has, behindState, Count, Made, Space. · Package pool: state, setState, Taken, Gen, check, Get, Set. · Package pool: Get and Set of an entry that is in use. · Package pool: Set of an entry that is in use.
-/
import Derived.Test.YtppmicepkjhfeaaGreatChn2
import Derived.WalkSmall
import Derived.Deep.QuietTactic
import Derived.Deep.RegionHeld3
import Derived.BigQuiet
namespace Go.Proofs.YtppmicepkjhfeaaGreat
open Go.RowKit
set_option linter.unusedVariables false

/-- a Pool's cells -/
def pc (m : Value) (k W c d f : Int) (j : Nat) : Value := if j = 0 then m else if j = 1 then .int .i64 k else if j = 2 then .int .i64 W else if j = 3 then .int .i64 c else if j = 4 then .int .i64 d else .int .i64 f
theorem pc_all {w : World} {g : Nat} {m : Value} {k W c d f : Int} (r : Row w g 6 (pc m k W c d f)) : w.cell? ⟨g, 0, none⟩ = some m ∧ w.cell? ⟨g, 1, none⟩ = some (.int .i64 k) ∧ w.cell? ⟨g, 2, none⟩ = some (.int .i64 W) ∧ w.cell? ⟨g, 3, none⟩ = some (.int .i64 c) ∧ w.cell? ⟨g, 4, none⟩ = some (.int .i64 d) ∧ w.cell? ⟨g, 5, none⟩ = some (.int .i64 f) ∧ (∀ j, w.frozen? ⟨g, j, none⟩ = false) ∧ g < w.heap.size :=
  ⟨r.cell 0 (by omega), r.cell 1 (by omega), r.cell 2 (by omega), r.cell 3 (by omega), r.cell 4 (by omega), r.cell 5 (by omega), r.free, r.lt⟩
theorem sixj {j : Nat} (h : j < 6) : j = 0 ∨ j = 1 ∨ j = 2 ∨ j = 3 ∨ j = 4 ∨ j = 5 := by omega
theorem pc_new (m : Value) (k W c d f : Int) (j : Nat) (hj : j < 6) : (#[m, Value.int .i64 k, .int .i64 W, .int .i64 c, .int .i64 d, .int .i64 f] : Array Value)[j]? = some (pc m k W c d f j) := by
  rcases sixj hj with rfl | rfl | rfl | rfl | rfl | rfl <;> rfl
theorem Row.pc3 {w : World} {g : Nat} {m : Value} {k W c d f : Int} (r : Row w g 6 (pc m k W c d f)) (x : Int) : Row (w.setCell ⟨g, 3, none⟩ (.int .i64 x)) g 6 (pc m k W x d f) := (r.set 3 (by omega) _).congr fun j hj => by
  rcases sixj hj with rfl | rfl | rfl | rfl | rfl | rfl <;> rfl
theorem Row.pc4 {w : World} {g : Nat} {m : Value} {k W c d f : Int} (r : Row w g 6 (pc m k W c d f)) (x : Int) : Row (w.setCell ⟨g, 4, none⟩ (.int .i64 x)) g 6 (pc m k W c x f) := (r.set 4 (by omega) _).congr fun j hj => by
  rcases sixj hj with rfl | rfl | rfl | rfl | rfl | rfl <;> rfl
theorem Row.pc5 {w : World} {g : Nat} {m : Value} {k W c d f : Int} (r : Row w g 6 (pc m k W c d f)) (x : Int) : Row (w.setCell ⟨g, 5, none⟩ (.int .i64 x)) g 6 (pc m k W c d x) := (r.set 5 (by omega) _).congr fun j hj => by
  rcases sixj hj with rfl | rfl | rfl | rfl | rfl | rfl <;> rfl
attribute [irreducible] pc
/-! ### the state of an entry -/
theorem gen_shl {g : Nat} (h : g ≤ 1000000000) : IntKind.u64.wrap ((g : Int) * 4194304) = ((4194304 * g : Nat) : Int) := by rw [IntKind.wrap_u64]; omega
theorem nxt_shl {n : Nat} (h : n ≤ 2097151) : IntKind.u64.wrap ((n : Int) * 2) = ((2 * n : Nat) : Int) := by rw [IntKind.wrap_u64]; omega
theorem or_state {g n : Nat} (hg : g ≤ 1000000000) (hn : n ≤ 2097151) : bits BinOp.or .u64 ((4194304 * g : Nat) : Int) ((2 * n : Nat) : Int) = ((2 * n + 4194304 * g : Nat) : Int) := by
  rw [bits_or_u64_nat _ _ (by omega) (by omega), ← Nat.two_pow_add_eq_or_of_lt (i := 22) (show 2 * n < 2 ^ 22 by omega) g]
  norm_cast
  omega
theorem or_taken {g : Nat} (hg : g ≤ 1000000000) : bits BinOp.or .u64 ((4194304 * g : Nat) : Int) 1 = ((1 + 4194304 * g : Nat) : Int) := by
  have e : (4194304 * g ||| 1 : Nat) = 2 ^ 1 * (2097152 * g) + 1 := by
    rw [Nat.two_pow_add_eq_or_of_lt (i := 1) (by omega) (2097152 * g)]
    congr 1
    omega
  rw [show (1 : Int) = ((1 : Nat) : Int) from rfl, bits_or_u64_nat _ _ (by omega) (by omega), e]
  omega
theorem and_next (x : Nat) (h : x < 18446744073709551616) : bits BinOp.and .u64 ((x : Nat) : Int) 2097151 = ((x % 2097152 : Nat) : Int) := by
  rw [show (2097151 : Int) = ((2097151 : Nat) : Int) from rfl, bits_and_u64_nat _ _ h (by omega)]
  have := Nat.and_two_pow_sub_one_eq_mod x 21
  rw [show (2097151 : Nat) = 2 ^ 21 - 1 from rfl, this]
theorem and_taken (x : Nat) (h : x < 18446744073709551616) : bits BinOp.and .u64 ((x : Nat) : Int) 1 = ((x % 2 : Nat) : Int) := by
  rw [show (1 : Int) = ((1 : Nat) : Int) from rfl, bits_and_u64_nat _ _ h (by omega), Nat.and_one_is_mod]

theorem stateof_any (g n : Nat) (hg : g ≤ 1000000000) (hn : n ≤ 2097151) (w : World) : Calls Tryz.prog 111 #[.int .i64 (g : Int), .int .i64 (n : Int)] w fun e w' => e = .returned (.int .u64 ((2 * n + 4194304 * g : Nat) : Int)) ∧ w = w' := by
  have e1 : IntKind.u64.wrap (g : Int) = (g : Int) := by rw [IntKind.wrap_u64]; omega
  have e2 : IntKind.u64.wrap (n : Int) = (n : Int) := by rw [IntKind.wrap_u64]; omega
  have e3 := gen_shl hg
  have e4 := nxt_shl hn
  have e5 := or_state hg hn
  generalize (2 * n + 4194304 * g : Nat) = z at *
  generalize (4194304 * g : Nat) = x at *
  generalize (2 * n : Nat) = y at *
  go_enter Tryz.func111, Tryz.ntmps111
  go_wp2_with fail
  go_ret
  exact ⟨rfl, rfl⟩
theorem nextof_any (x : Nat) (h : x < 18446744073709551616) (w : World) : Calls Tryz.prog 123 #[.int .u64 (x : Int)] w fun e w' => e = .returned (.int .i64 ((x / 2 % 2097152 : Nat) : Int)) ∧ w = w' := by
  have e1 : (x : Int) / 2 = ((x / 2 : Nat) : Int) := by omega
  have e3 := and_next (x / 2) (by omega)
  have e4 : wrap64 ((x / 2 % 2097152 : Nat) : Int) = ((x / 2 % 2097152 : Nat) : Int) := wrap_small (by omega)
  have e5 : IntKind.i64.wrap ((x / 2 % 2097152 : Nat) : Int) = ((x / 2 % 2097152 : Nat) : Int) := by rw [IntKind.wrap_i64]; omega
  generalize (x / 2 % 2097152 : Nat) = z at *
  generalize (x / 2 : Nat) = y at *
  go_enter Tryz.func123, Tryz.ntmps123
  go_wp2_with fail
  go_ret
  exact ⟨rfl, rfl⟩
theorem genof_any (x : Nat) (h : x < 18446744073709551616) (w : World) : Calls Tryz.prog 124 #[.int .u64 (x : Int)] w fun e w' => e = .returned (.int .i64 ((x / 4194304 : Nat) : Int)) ∧ w = w' := by
  have e1 : (x : Int) / 4194304 = ((x / 4194304 : Nat) : Int) := by omega
  have e4 : wrap64 ((x / 4194304 : Nat) : Int) = ((x / 4194304 : Nat) : Int) := by unfold wrap64; omega
  have e5 : IntKind.i64.wrap ((x / 4194304 : Nat) : Int) = ((x / 4194304 : Nat) : Int) := by rw [IntKind.wrap_i64]; omega
  generalize (x / 4194304 : Nat) = z at *
  go_enter Tryz.func124, Tryz.ntmps124
  go_wp2_with fail
  go_ret
  exact ⟨rfl, rfl⟩

/-! ### fields, places -/
section
variable {m : Value} {k c d f : Int} {W : Nat} (pb : Nat)
theorem pwidth_any (w : World) (hW : W ≤ 60) (r : Row w pb 6 (pc m k (W : Int) c d f)) : Calls Tryz.prog 119 #[at0 pb] w fun e w' => e = .returned (.int .i64 ((W + 1 : Nat) : Int)) ∧ w = w' := by
  obtain ⟨x0, x1, x2, x3, x4, x5, xf, xl⟩ := pc_all r
  have e1 : (W : Int) + 1 = ((W + 1 : Nat) : Int) := by omega
  have e2 : wrap64 ((W + 1 : Nat) : Int) = ((W + 1 : Nat) : Int) := wrap_small (by omega)
  generalize (W + 1 : Nat) = z at *
  go_enter Tryz.func119, Tryz.ntmps119
  go_wp2_with fail
  go_ret
  exact ⟨rfl, rfl⟩
theorem pat_any (w : World) (hW : W ≤ 60) (r : Row w pb 6 (pc m k (W : Int) c d f)) (id : Nat) (h1 : 1 ≤ id) (h2 : id ≤ 4194304) : Calls Tryz.prog 96 #[at0 pb, .int .i64 (id : Int)] w fun e w' => e = .returned (.int .i64 ((lk (W + 1) id 0 : Nat) : Int)) ∧ w = w' := by
  have WD := Lib.hid (pwidth_any pb w hW r)
  have hm : (id - 1) * (W + 1) ≤ 4194304 * 61 := Nat.mul_le_mul (by omega) (by omega)
  have e0 : lk (W + 1) id 0 = (id - 1) * (W + 1) := by unfold lk; omega
  have e1 : ((id : Int) - 1) * (((W + 1 : Nat)) : Int) = ((lk (W + 1) id 0 : Nat) : Int) := by rw [e0]; exact lk_part (n := 0) h1
  have e3 : wrap64 ((lk (W + 1) id 0 : Nat) : Int) = (lk (W + 1) id 0 : Nat) := wrap_small (by omega)
  have e5 : wrap64 ((id : Int) - 1) = (id : Int) - 1 := by unfold wrap64; omega
  clear hm e0 r hW
  generalize lk (W + 1) id 0 = z at *
  generalize (W + 1 : Nat) = y at *
  go_enter Tryz.func96, Tryz.ntmps96
  go_wp2_with fail
  with_reducible refine WD.out.mono ?_
  rintro e w1 ⟨rfl, rfl⟩
  dsimp only
  go_wp2_with fail
  exact bodyPost_ret (v := .int .i64 (z : Int)) (by simp [results, Tryz.results96, go_sem, e3]) rfl ⟨rfl, rfl⟩
/-- is there such an entry? -/
def pin (d : Nat) (id : Int) : Bool := decide (1 ≤ id ∧ id ≤ (d : Int))
theorem pin_t {d : Nat} {id : Int} (h : 1 ≤ id) (h2 : id ≤ (d : Int)) : pin d id = true := by unfold pin; exact decide_eq_true ⟨h, h2⟩
theorem pin_f {d : Nat} {id : Int} (h : ¬ (1 ≤ id ∧ id ≤ (d : Int))) : pin d id = false := by unfold pin; exact decide_eq_false h
attribute [irreducible] pin
theorem phas_any {d : Nat} (w : World) (r : Row w pb 6 (pc m k (W : Int) c (d : Int) f)) (id : Int) : Calls Tryz.prog 117 #[at0 pb, .int .i64 id] w fun e w' => e = .returned (.bool (pin d id)) ∧ w = w' := by
  obtain ⟨x0, x1, x2, x3, x4, x5, xf, xl⟩ := pc_all r
  by_cases h1 : 1 ≤ id
  · by_cases h2 : id ≤ (d : Int)
    · rw [pin_t h1 h2]
      go_enter Tryz.func117, Tryz.ntmps117
      go_wp2_with fail
      go_ret
      exact ⟨rfl, rfl⟩
    · rw [pin_f (fun q => h2 q.2)]
      go_enter Tryz.func117, Tryz.ntmps117
      go_wp2_with fail
      go_ret
      exact ⟨rfl, rfl⟩
  · rw [pin_f (fun q => h1 q.1)]
    go_enter Tryz.func117, Tryz.ntmps117
    go_wp2_with fail
    go_ret
    exact ⟨rfl, rfl⟩
end
theorem behind_any (x : Nat) (hx : x ≤ 1000) (w : World) : Calls Tryz.prog 125 #[.int .i64 (x : Int)] w fun e w' => e = .returned (.int .i64 ((x + 1 : Nat) : Int)) ∧ w = w' := by
  have e1 : (x : Int) + 1 = ((x + 1 : Nat) : Int) := by omega
  have e2 : wrap64 ((x + 1 : Nat) : Int) = ((x + 1 : Nat) : Int) := wrap_small (by omega)
  have e3 : ((x : Int) == 9223372036854775807) = false := by simp; omega
  generalize (x + 1 : Nat) = z at *
  go_enter Tryz.func125, Tryz.ntmps125
  go_wp2_with fail
  go_ret
  exact ⟨rfl, rfl⟩
end Go.Proofs.YtppmicepkjhfeaaGreat

namespace Go.Proofs.YtppmicepkjhfeaaGreat
open Go.RowKit
set_option linter.unusedVariables false

/-- A Pool in memory, in plain numbers: its own cells (block pb), the Mem, its space. -/
structure PP (w : World) (R : Nat → Nat) (pb mb mm : Nat) (L : List Spc) (k W rm cnt mad fre : Nat) (a b : Nat) (h g : Int) : Prop where
  row : Row w pb 6 (pc (at0 mb) (k : Int) (W : Int) (cnt : Int) (mad : Int) (fre : Int))
  z : R pb = 0
  m : MM w R mb mm L a b h g
  w1 : 1 ≤ W
  w60 : W ≤ 60
  hk : k < L.length
  ho : (L.getD k (false, [])).1 = true
  len : (wds L k).length = rm * (W + 1)
  mr : mad ≤ rm
  al : ∀ j, (wds L k).getD j 0 < 18446744073709551616
section
variable {w w' : World} {R : Nat → Nat} {pb mb mm : Nat} {L : List Spc} {k W rm cnt mad fre a b a' b' : Nat} {h g h' g' : Int}
theorem PP.step (p : PP w R pb mb mm L k W rm cnt mad fre a b h g) (m : MM w' R mb mm L a' b' h' g') (t : TR R R w w') : PP w' R pb mb mm L k W rm cnt mad fre a' b' h' g' := ⟨p.row.tr t p.z, p.z, m, p.w1, p.w60, p.hk, p.ho, p.len, p.mr, p.al⟩
theorem PP.below (p : PP w R pb mb mm L k W rm cnt mad fre a b h g) (k' : Below w.heap.size w w') : PP w' R pb mb mm L k W rm cnt mad fre a b h g := p.step (p.m.below k') (TR.of k')
theorem PP.drew (p : PP w R pb mb mm L k W rm cnt mad fre a b h g) : PP w.drew R pb mb mm L k W rm cnt mad fre a b h g := p.below (Below.refl _ _).drew
theorem PP.write (p : PP w R pb mb mm L k W rm cnt mad fre a b h g) {ws : List Nat} (m : MM w' R mb mm (setw L k ws) a' b' h' g') (t : TR R R w w') (hl : ws.length = (wds L k).length) (al : ∀ j, ws.getD j 0 < 18446744073709551616) : PP w' R pb mb mm (setw L k ws) k W rm cnt mad fre a' b' h' g' :=
  ⟨p.row.tr t p.z, p.z, m, p.w1, p.w60, by rw [setw_len]; exact p.hk, by rw [setw_open p.hk]; exact p.ho, by rw [setw_wds p.hk, hl]; exact p.len, p.mr, by rw [setw_wds p.hk]; exact al⟩
theorem PP.entl (p : PP w R pb mb mm L k W rm cnt mad fre a b h g) : mad ≤ ent (W + 1) (wds L k).length := by unfold ent; rw [p.len, Nat.mul_div_cancel _ (by omega)]; exact p.mr
theorem PP.mad_le (p : PP w R pb mb mm L k W rm cnt mad fre a b h g) : mad ≤ 2097152 := Nat.le_trans p.entl (ent_le (by have := p.w1; omega) (p.m.lens k p.hk))
theorem PP.place (p : PP w R pb mb mm L k W rm cnt mad fre a b h g) {id n : Nat} (h1 : 1 ≤ id) (h2 : id ≤ mad) (hn : n ≤ W) : lk (W + 1) id n < (wds L k).length := lk_lt h1 (Nat.le_trans h2 p.entl) (by omega)
theorem all_set {ws : List Nat} (h : ∀ j, ws.getD j 0 < 18446744073709551616) (i : Nat) {x : Nat} (hx : x < 18446744073709551616) : ∀ j, (ws.set i x).getD j 0 < 18446744073709551616 := fun j => by
  by_cases hi : i < ws.length
  · rw [getD_setn ws i j x hi]
    split
    · exact hx
    · exact h j
  · rw [List.set_eq_of_length_le (by omega)]; exact h j
end

section
variable {R : Nat → Nat} {pb mb mm : Nat} {L : List Spc} {k W rm cnt mad fre a b : Nat} {h g : Int}
/-- the cells that the drawn regions load -/
theorem PP.keep {w : World} (p : PP w R pb mb mm L k W rm cnt mad fre a b h g) {w' : World} {R' : Nat → Nat} (t : TR R R' w w') : w'.cell? ⟨pb, 0, none⟩ = some (at0 mb) ∧ w'.cell? ⟨pb, 1, none⟩ = some (.int .i64 (k : Int)) := by
  obtain ⟨x0, x1, _⟩ := pc_all (p.row.tr t p.z)
  exact ⟨x0, x1⟩
set_option maxRecDepth 100000 in
set_option maxHeartbeats 1000000 in
theorem pstate_ok (id : Nat) (h1 : 1 ≤ id) (h2 : id ≤ mad) (w : World) (p : PP w R pb mb mm L k W rm cnt mad fre a b h g) : Calls Tryz.prog 118 #[at0 pb, .int .i64 (id : Int)] w fun e w' => e = .returned (.int .u64 (((wds L k).getD (lk (W + 1) id 0) 0 : Nat) : Int)) ∧ PP w' R pb mb mm L k W rm cnt mad fre (addv a 1) b h g ∧ TR R R w w' := by
  have AT := Lib.hid (fun w' (t : TR R R w w') => pat_any pb w' p.w60 (p.row.tr t p.z) id h1 (by have := p.mad_le; omega))
  have RD := Lib.hid (fun w q => read_at mb mm R L a b h g w q k (lk (W + 1) id 0) p.hk p.ho (p.place h1 h2 (by omega)))
  have HM := Lib.hid p.m
  have HP := Lib.hid p
  have KP := Lib.hid (fun w' (t : TR R R w w') => p.keep t)
  have TT0 : TR R R w w := TR.refl R w
  have BB0 : Below w.heap.size w w := Below.refl _ _
  obtain ⟨x0, x1, x2, x3, x4, x5, xf, xl⟩ := pc_all p.row
  clear p h1 h2
  generalize (wds L k).getD (lk (W + 1) id 0) 0 = x at *
  generalize lk (W + 1) id 0 = z at *
  go_enter Tryz.func118, Tryz.ntmps118
  go_upto_region 1 with fail
  go_region_held3 (fun w' => w'.cell? ⟨pb, 0, none⟩ = some (at0 mb) ∧ w'.cell? ⟨pb, 1, none⟩ = some (.int .i64 (k : Int)))
      (first | (refine KP.out _ ?_; repeat (first | with_reducible assumption | with_reducible refine TR.drew ?_)))
      (first
        | (go_at_call 96; with_reducible refine (AT.out _ ?_).mono ?_
           · repeat (first | with_reducible assumption | with_reducible refine TR.drew ?_)
           rintro e w1 ⟨rfl, rfl⟩)
        | (go_at_call 67; with_reducible refine (RD.out _ ?_).mono ?_
           · refine HM.out.below ?_
             repeat (first | with_reducible assumption | with_reducible refine Below.drew ?_)
           rintro e w2 ⟨rfl, M2, T2⟩
           have TT2 : TR R R w w2 := TR.trans (by repeat (first | with_reducible assumption | with_reducible refine TR.drew ?_)) T2))
  all_goals
    go_wp2_with fail
    exact bodyPost_ret (v := .int .u64 (x : Int)) (by simp [results, Tryz.results118, go_sem]) rfl ⟨rfl, HP.out.step M2 TT2, TT2⟩
set_option maxRecDepth 100000 in
set_option maxHeartbeats 1000000 in
theorem psetstate_ok (id x : Nat) (hx : x < 18446744073709551616) (h1 : 1 ≤ id) (h2 : id ≤ mad) (w : World) (p : PP w R pb mb mm L k W rm cnt mad fre a b h g) : Calls Tryz.prog 110 #[at0 pb, .int .i64 (id : Int), .int .u64 (x : Int)] w fun e w' => e = .returned (.tuple #[]) ∧ PP w' R pb mb mm (setw L k ((wds L k).set (lk (W + 1) id 0) x)) k W rm cnt mad fre a (addv b 1) h g ∧ TR R R w w' := by
  have AT := Lib.hid (fun w' (t : TR R R w w') => pat_any pb w' p.w60 (p.row.tr t p.z) id h1 (by have := p.mad_le; omega))
  have WT := Lib.hid (fun w q => write_at mb mm R L a b h g w q k (lk (W + 1) id 0) x p.hk p.ho (p.place h1 h2 (by omega)))
  have HM := Lib.hid p.m
  have HP := Lib.hid p
  have KP := Lib.hid (fun w' (t : TR R R w w') => p.keep t)
  have AL := Lib.hid (all_set p.al (lk (W + 1) id 0) hx)
  have LE := Lib.hid (show ((wds L k).set (lk (W + 1) id 0) x).length = (wds L k).length from List.length_set)
  have TT0 : TR R R w w := TR.refl R w
  have BB0 : Below w.heap.size w w := Below.refl _ _
  obtain ⟨x0, x1, x2, x3, x4, x5, xf, xl⟩ := pc_all p.row
  clear p h1 h2
  generalize (wds L k).set (lk (W + 1) id 0) x = ws at *
  generalize lk (W + 1) id 0 = z at *
  go_enter Tryz.func110, Tryz.ntmps110
  go_upto_region 0 with fail
  go_region_held3 (fun w' => w'.cell? ⟨pb, 0, none⟩ = some (at0 mb) ∧ w'.cell? ⟨pb, 1, none⟩ = some (.int .i64 (k : Int)))
      (first | (refine KP.out _ ?_; repeat (first | with_reducible assumption | with_reducible refine TR.drew ?_)))
      (first
        | (go_at_call 96; with_reducible refine (AT.out _ ?_).mono ?_
           · repeat (first | with_reducible assumption | with_reducible refine TR.drew ?_)
           rintro e w1 ⟨rfl, rfl⟩)
        | (go_at_call 37; with_reducible refine (WT.out _ ?_).mono ?_
           · refine HM.out.below ?_
             repeat (first | with_reducible assumption | with_reducible refine Below.drew ?_)
           rintro e w2 ⟨rfl, M2, T2⟩
           have TT2 : TR R R w w2 := TR.trans (by repeat (first | with_reducible assumption | with_reducible refine TR.drew ?_)) T2))
  all_goals
    go_wp2_with fail
    exact bodyPost_end (v := .tuple #[]) (by simp [results, Tryz.results110, go_sem]) rfl ⟨rfl, HP.out.write M2 TT2 LE.out AL.out, TT2⟩

/-! ### Taken, Gen -/
/-- the state of an entry; is it in use; how often was it returned -/
def stq (ws : List Nat) (W : Nat) (id : Int) : Nat := ws.getD (lk (W + 1) id.toNat 0) 0
def tkv (x : Nat) : Bool := x % 2 != 0
def tkq (ws : List Nat) (W mad : Nat) (id : Int) : Bool := pin mad id && tkv (stq ws W id)
def gnq (ws : List Nat) (W mad : Nat) (id : Int) : Nat := if pin mad id = true then stq ws W id / 4194304 else 0
/-- the steps that a look at a state is -/
def rda (mad : Nat) (id : Int) (a : Nat) : Nat := if pin mad id = true then addv a 1 else a
theorem tkv_int (x : Nat) : (((x % 2 : Nat) : Int) != 0) = tkv x := by
  unfold tkv
  rcases (show x % 2 = 0 ∨ x % 2 = 1 by omega) with e | e <;> rw [e] <;> rfl
attribute [irreducible] tkv
theorem pin_iff {d : Nat} {id : Int} : pin d id = true ↔ 1 ≤ id ∧ id ≤ (d : Int) := by unfold pin; exact decide_eq_true_iff
theorem ptaken_any (id : Int) (w : World) (p : PP w R pb mb mm L k W rm cnt mad fre a b h g) : Calls Tryz.prog 94 #[at0 pb, .int .i64 id] w fun e w' => e = .returned (.bool (tkq (wds L k) W mad id)) ∧ PP w' R pb mb mm L k W rm cnt mad fre (rda mad id a) b h g ∧ TR R R w w' := by
  have HS0 := phas_any pb w p.row id
  unfold tkq rda stq
  cases hp : pin mad id
  · rw [hp] at HS0
    have HS := Lib.hid HS0
    have HP := Lib.hid p
    clear HS0 p hp
    rw [if_neg (by simp), Bool.false_and]
    go_enter Tryz.func94, Tryz.ntmps94
    go_wp2_with fail
    with_reducible refine HS.out.mono ?_
    rintro e w1 ⟨rfl, rfl⟩
    dsimp only
    go_wp2_with fail
    go_ret
    exact ⟨rfl, HP.out, TR.refl _ _⟩
  · rw [hp] at HS0
    obtain ⟨q1, q2⟩ := pin_iff.1 hp
    obtain ⟨id, rfl⟩ := Int.eq_ofNat_of_zero_le (show 0 ≤ id by omega)
    have HS := Lib.hid HS0
    have ST := Lib.hid (pstate_ok id (by omega) (by omega) w p)
    have e1 := and_taken _ (p.al (lk (W + 1) id 0))
    have e2 := tkv_int ((wds L k).getD (lk (W + 1) id 0) 0)
    rw [Int.toNat_natCast, if_pos rfl, Bool.true_and]
    clear HS0 p hp q1 q2
    generalize (wds L k).getD (lk (W + 1) id 0) 0 = x at *
    have e3 : ((x : Int) % 2 != 0) = tkv x := by rw [← e2]; norm_cast
    go_enter Tryz.func94, Tryz.ntmps94
    go_wp2_with fail
    with_reducible refine HS.out.mono ?_
    rintro e w1 ⟨rfl, rfl⟩
    dsimp only
    go_wp2_with fail
    with_reducible refine ST.out.mono ?_
    rintro e w2 ⟨rfl, P2, T2⟩
    dsimp only
    go_wp2_with fail
    exact bodyPost_ret (v := .bool (tkv x)) (by simp [results, Tryz.results94, go_sem]) rfl ⟨rfl, P2, T2⟩
theorem pgen_any (id : Int) (w : World) (p : PP w R pb mb mm L k W rm cnt mad fre a b h g) : Calls Tryz.prog 107 #[at0 pb, .int .i64 id] w fun e w' => e = .returned (.int .i64 ((gnq (wds L k) W mad id : Nat) : Int)) ∧ PP w' R pb mb mm L k W rm cnt mad fre (rda mad id a) b h g ∧ TR R R w w' := by
  have HS0 := phas_any pb w p.row id
  unfold gnq rda stq
  cases hp : pin mad id
  · rw [hp] at HS0
    have HS := Lib.hid HS0
    have HP := Lib.hid p
    clear HS0 p hp
    rw [if_neg (by simp), if_neg (by simp)]
    go_enter Tryz.func107, Tryz.ntmps107
    go_wp2_with fail
    with_reducible refine HS.out.mono ?_
    rintro e w1 ⟨rfl, rfl⟩
    dsimp only
    go_wp2_with fail
    go_ret
    exact ⟨rfl, HP.out, TR.refl _ _⟩
  · rw [hp] at HS0
    obtain ⟨q1, q2⟩ := pin_iff.1 hp
    obtain ⟨id, rfl⟩ := Int.eq_ofNat_of_zero_le (show 0 ≤ id by omega)
    have HS := Lib.hid HS0
    have ST := Lib.hid (pstate_ok id (by omega) (by omega) w p)
    have GN := Lib.hid (fun w => genof_any _ (p.al (lk (W + 1) id 0)) w)
    rw [Int.toNat_natCast, if_pos rfl, if_pos rfl]
    clear HS0 p hp q1 q2
    generalize (wds L k).getD (lk (W + 1) id 0) 0 = x at *
    go_enter Tryz.func107, Tryz.ntmps107
    go_wp2_with fail
    with_reducible refine HS.out.mono ?_
    rintro e w1 ⟨rfl, rfl⟩
    dsimp only
    go_wp2_with fail
    with_reducible refine ST.out.mono ?_
    rintro e w2 ⟨rfl, P2, T2⟩
    dsimp only
    go_wp2_with fail
    with_reducible refine (GN.out _).mono ?_
    rintro e w3 ⟨rfl, rfl⟩
    dsimp only
    go_wp2_with fail
    go_ret
    exact ⟨rfl, P2, T2⟩

/-! ### check, Get, Set -/
/-- what is wrong with a call for a word -/
def chq (ws : List Nat) (W mad : Nat) (id word : Int) : Int := if tkq ws W mad id = true then (if 0 ≤ word ∧ word < (W : Int) then 0 else 32) else 4
theorem pcheck_any (id word : Int) (w : World) (p : PP w R pb mb mm L k W rm cnt mad fre a b h g) : Calls Tryz.prog 95 #[at0 pb, .int .i64 id, .int .i64 word] w fun e w' => e = .returned (.int .i64 (chq (wds L k) W mad id word)) ∧ PP w' R pb mb mm L k W rm cnt mad fre (rda mad id a) b h g ∧ TR R R w w' := by
  have TK0 := ptaken_any id w p
  unfold chq
  cases ht : tkq (wds L k) W mad id
  · rw [ht] at TK0
    have TK := Lib.hid TK0
    clear TK0 p ht
    rw [if_neg (by simp)]
    go_enter Tryz.func95, Tryz.ntmps95
    go_wp2_with fail
    with_reducible refine TK.out.mono ?_
    rintro e w1 ⟨rfl, P1, T1⟩
    dsimp only
    go_wp2_with fail
    go_ret
    exact ⟨rfl, P1, T1⟩
  · rw [ht] at TK0
    have TK := Lib.hid TK0
    clear TK0 p ht
    rw [if_pos rfl]
    by_cases h0 : 0 ≤ word
    · have h0' : ¬ word < 0 := by omega
      by_cases h1 : word < (W : Int)
      · rw [if_pos ⟨h0, h1⟩]
        have h1' : ¬ (W : Int) ≤ word := by omega
        go_enter Tryz.func95, Tryz.ntmps95
        go_wp2_with fail
        with_reducible refine TK.out.mono ?_
        rintro e w1 ⟨rfl, P1, T1⟩
        dsimp only
        obtain ⟨x0, x1, x2, x3, x4, x5, xf, xl⟩ := pc_all P1.row
        go_wp2_with fail
        go_ret
        exact ⟨rfl, P1, T1⟩
      · rw [if_neg (fun q => h1 q.2)]
        have h1' : (W : Int) ≤ word := by omega
        go_enter Tryz.func95, Tryz.ntmps95
        go_wp2_with fail
        with_reducible refine TK.out.mono ?_
        rintro e w1 ⟨rfl, P1, T1⟩
        dsimp only
        obtain ⟨x0, x1, x2, x3, x4, x5, xf, xl⟩ := pc_all P1.row
        go_wp2_with fail
        go_ret
        exact ⟨rfl, P1, T1⟩
    · rw [if_neg (fun q => h0 q.1)]
      have h0' : word < 0 := by omega
      go_enter Tryz.func95, Tryz.ntmps95
      go_wp2_with fail
      with_reducible refine TK.out.mono ?_
      rintro e w1 ⟨rfl, P1, T1⟩
      dsimp only
      go_wp2_with fail
      go_ret
      exact ⟨rfl, P1, T1⟩
theorem chq_no {ws : List Nat} {W mad : Nat} {id word : Int} (h : ¬ chq ws W mad id word = 0) : ((chq ws W mad id word) != 0) = true := by simpa using h
theorem chq_yes {ws : List Nat} {W mad : Nat} {id word : Int} (h : chq ws W mad id word = 0) : 1 ≤ id ∧ id ≤ (mad : Int) ∧ 0 ≤ word ∧ word < (W : Int) ∧ tkv (stq ws W id) = true := by
  unfold chq tkq at h
  split at h
  · rename_i q
    split at h
    · rename_i q2
      rw [Bool.and_eq_true] at q
      obtain ⟨r1, r2⟩ := pin_iff.1 q.1
      exact ⟨r1, r2, q2.1, q2.2, q.2⟩
    · omega
  · omega
/-- what is read of a word of an entry -/
def wdq (ws : List Nat) (W : Nat) (id word : Int) : Nat := ws.getD (lk (W + 1) id.toNat (word.toNat + 1)) 0
theorem lk_word (V id j : Nat) : ((lk V id 0 : Nat) : Int) + 1 + (j : Int) = ((lk V id (j + 1) : Nat) : Int) := by unfold lk; omega
set_option maxRecDepth 100000 in
theorem pget_no (id word : Int) (hc : ¬ chq (wds L k) W mad id word = 0) (w : World) (p : PP w R pb mb mm L k W rm cnt mad fre a b h g) : Calls Tryz.prog 70 #[at0 pb, .int .i64 id, .int .i64 word] w fun e w' => e = .returned (.tuple #[.int .u64 0, .int .i64 (chq (wds L k) W mad id word)]) ∧ PP w' R pb mb mm L k W rm cnt mad fre (rda mad id a) b h g ∧ TR R R w w' := by
  have CK := Lib.hid (pcheck_any id word w p)
  have e1 := chq_no hc
  clear p hc
  generalize chq (wds L k) W mad id word = c at *
  go_enter Tryz.func70, Tryz.ntmps70
  go_wp2_with fail
  with_reducible refine CK.out.mono ?_
  rintro e w1 ⟨rfl, P1, T1⟩
  dsimp only
  go_wp2_with fail
  exact bodyPost_ret (v := .tuple #[.int .u64 0, .int .i64 c]) (by simp [results, Tryz.results70, go_sem]) rfl ⟨rfl, P1, T1⟩
end
end Go.Proofs.YtppmicepkjhfeaaGreat

namespace Go.Proofs.YtppmicepkjhfeaaGreat
open Go.RowKit
set_option linter.unusedVariables false

section
variable {R : Nat → Nat} {pb mb mm : Nat} {L : List Spc} {k W rm cnt mad fre a b : Nat} {h g : Int}
set_option maxRecDepth 100000 in
set_option maxHeartbeats 1000000 in
theorem pget_ok (id j : Nat) (hc : chq (wds L k) W mad (id : Int) (j : Int) = 0) (w : World) (p : PP w R pb mb mm L k W rm cnt mad fre a b h g) : Calls Tryz.prog 70 #[at0 pb, .int .i64 (id : Int), .int .i64 (j : Int)] w fun e w' => e = .returned (.tuple #[.int .u64 (((wds L k).getD (lk (W + 1) id (j + 1)) 0 : Nat) : Int), .int .i64 0]) ∧ PP w' R pb mb mm L k W rm cnt mad fre (addv (addv a 1) 1) b h g ∧ TR R R w w' := by
  obtain ⟨h1, h2, h3, h4, h5⟩ := chq_yes hc
  have CK0 := pcheck_any (id : Int) (j : Int) w p
  rw [hc, show rda mad (id : Int) a = addv a 1 by unfold rda; rw [if_pos (pin_iff.2 ⟨h1, h2⟩)]] at CK0
  have CK := Lib.hid CK0
  have AT := Lib.hid (fun w' r => pat_any (m := at0 mb) (k := (k : Int)) (c := (cnt : Int)) (d := (mad : Int)) (f := (fre : Int)) (W := W) pb w' p.w60 r id (by omega) (by have := p.mad_le; omega))
  have RD := Lib.hid (fun w q => read_at mb mm R L (addv a 1) b h g w q k (lk (W + 1) id (j + 1)) p.hk p.ho (p.place (by omega) (by omega) (by omega)))
  have pl := p.place (id := id) (n := j + 1) (by omega) (by omega) (by omega)
  have ml := p.m.lens k p.hk
  have e1 := lk_word (W + 1) id j
  have e2 : wrap64 ((lk (W + 1) id (j + 1) : Nat) : Int) = ((lk (W + 1) id (j + 1) : Nat) : Int) := wrap_small (by omega)
  have e3 : wrap64 (((lk (W + 1) id 0 : Nat) : Int) + 1) = ((lk (W + 1) id 0 : Nat) : Int) + 1 := by unfold wrap64; omega
  have e4 : IntKind.i64.wrap (((lk (W + 1) id 0 : Nat) : Int) + 1) = ((lk (W + 1) id 0 : Nat) : Int) + 1 := by rw [IntKind.wrap_i64]; omega
  have e5 : IntKind.i64.wrap ((lk (W + 1) id (j + 1) : Nat) : Int) = ((lk (W + 1) id (j + 1) : Nat) : Int) := by rw [IntKind.wrap_i64]; omega
  clear p hc h1 h2 h3 h4 h5 CK0 pl ml
  generalize (wds L k).getD (lk (W + 1) id (j + 1)) 0 = x at *
  generalize lk (W + 1) id 0 = z at *
  generalize lk (W + 1) id (j + 1) = y at *
  go_enter Tryz.func70, Tryz.ntmps70
  go_wp2_with fail
  with_reducible refine CK.out.mono ?_
  rintro e w0 ⟨rfl, P0, T0⟩
  dsimp only
  have KP := Lib.hid (fun w' (t : TR R R w0 w') => P0.keep t)
  have RW := Lib.hid (fun w' (t : TR R R w0 w') => P0.row.tr t P0.z)
  have HM := Lib.hid P0.m
  have HP := Lib.hid P0
  have TT0 : TR R R w0 w0 := TR.refl R w0
  have BB0 : Below w0.heap.size w0 w0 := Below.refl _ _
  obtain ⟨x0, x1, x2, x3, x4, x5, xf, xl⟩ := pc_all P0.row
  clear P0 CK
  go_upto_region 4 with fail
  go_region_held3 (fun w' => w'.cell? ⟨pb, 0, none⟩ = some (at0 mb) ∧ w'.cell? ⟨pb, 1, none⟩ = some (.int .i64 (k : Int)))
      (first | (refine KP.out _ ?_; repeat (first | with_reducible assumption | with_reducible refine TR.drew ?_)))
      (first
        | (go_at_call 96; with_reducible refine (AT.out _ (RW.out _ ?_)).mono ?_
           · repeat (first | with_reducible assumption | with_reducible refine TR.drew ?_)
           rintro e w1 ⟨rfl, rfl⟩)
        | (go_at_call 67; with_reducible refine (RD.out _ ?_).mono ?_
           · refine HM.out.below ?_
             repeat (first | with_reducible assumption | with_reducible refine Below.drew ?_)
           rintro e w2 ⟨rfl, M2, T2⟩
           have TT2 : TR R R w0 w2 := TR.trans (by repeat (first | with_reducible assumption | with_reducible refine TR.drew ?_)) T2))
  all_goals
    go_wp2_with fail
    exact bodyPost_ret (v := .tuple #[.int .u64 (x : Int), .int .i64 0]) (by simp [results, Tryz.results70, go_sem]) rfl ⟨rfl, HP.out.step M2 TT2, T0.trans TT2⟩
end
end Go.Proofs.YtppmicepkjhfeaaGreat

namespace Go.Proofs.YtppmicepkjhfeaaGreat
open Go.RowKit
set_option linter.unusedVariables false

section
variable {R : Nat → Nat} {pb mb mm : Nat} {L : List Spc} {k W rm cnt mad fre a b : Nat} {h g : Int}
set_option maxRecDepth 100000 in
theorem pset_no (id word x : Int) (hc : ¬ chq (wds L k) W mad id word = 0) (w : World) (p : PP w R pb mb mm L k W rm cnt mad fre a b h g) : Calls Tryz.prog 77 #[at0 pb, .int .i64 id, .int .i64 word, .int .u64 x] w fun e w' => e = .returned (.int .i64 (chq (wds L k) W mad id word)) ∧ PP w' R pb mb mm L k W rm cnt mad fre (rda mad id a) b h g ∧ TR R R w w' := by
  have CK := Lib.hid (pcheck_any id word w p)
  have e1 := chq_no hc
  clear p hc
  generalize chq (wds L k) W mad id word = c at *
  go_enter Tryz.func77, Tryz.ntmps77
  go_wp2_with fail
  with_reducible refine CK.out.mono ?_
  rintro e w1 ⟨rfl, P1, T1⟩
  dsimp only
  go_wp2_with fail
  go_ret
  exact ⟨rfl, P1, T1⟩
set_option maxRecDepth 100000 in
set_option maxHeartbeats 1000000 in
theorem pset_ok (id j x : Nat) (hx : x < 18446744073709551616) (hc : chq (wds L k) W mad (id : Int) (j : Int) = 0) (w : World) (p : PP w R pb mb mm L k W rm cnt mad fre a b h g) : Calls Tryz.prog 77 #[at0 pb, .int .i64 (id : Int), .int .i64 (j : Int), .int .u64 (x : Int)] w fun e w' => e = .returned (.int .i64 0) ∧ PP w' R pb mb mm (setw L k ((wds L k).set (lk (W + 1) id (j + 1)) x)) k W rm cnt mad fre (addv a 1) (addv b 1) h g ∧ TR R R w w' := by
  have AL := Lib.hid (all_set p.al (lk (W + 1) id (j + 1)) hx)
  clear hx
  obtain ⟨h1, h2, h3, h4, h5⟩ := chq_yes hc
  have CK0 := pcheck_any (id : Int) (j : Int) w p
  rw [hc, show rda mad (id : Int) a = addv a 1 by unfold rda; rw [if_pos (pin_iff.2 ⟨h1, h2⟩)]] at CK0
  have CK := Lib.hid CK0
  have AT := Lib.hid (fun w' r => pat_any (m := at0 mb) (k := (k : Int)) (c := (cnt : Int)) (d := (mad : Int)) (f := (fre : Int)) (W := W) pb w' p.w60 r id (by omega) (by have := p.mad_le; omega))
  have WT := Lib.hid (fun w q => write_at mb mm R L (addv a 1) b h g w q k (lk (W + 1) id (j + 1)) x p.hk p.ho (p.place (by omega) (by omega) (by omega)))
  have pl := p.place (id := id) (n := j + 1) (by omega) (by omega) (by omega)
  have ml := p.m.lens k p.hk
  have e1 := lk_word (W + 1) id j
  have e2 : wrap64 ((lk (W + 1) id (j + 1) : Nat) : Int) = ((lk (W + 1) id (j + 1) : Nat) : Int) := wrap_small (by omega)
  have e3 : wrap64 (((lk (W + 1) id 0 : Nat) : Int) + 1) = ((lk (W + 1) id 0 : Nat) : Int) + 1 := by unfold wrap64; omega
  have e4 : IntKind.i64.wrap (((lk (W + 1) id 0 : Nat) : Int) + 1) = ((lk (W + 1) id 0 : Nat) : Int) + 1 := by rw [IntKind.wrap_i64]; omega
  have e5 : IntKind.i64.wrap ((lk (W + 1) id (j + 1) : Nat) : Int) = ((lk (W + 1) id (j + 1) : Nat) : Int) := by rw [IntKind.wrap_i64]; omega
  have LE := Lib.hid (show ((wds L k).set (lk (W + 1) id (j + 1)) x).length = (wds L k).length from List.length_set)
  clear p hc h1 h2 h3 h4 h5 CK0 pl ml
  generalize (wds L k).set (lk (W + 1) id (j + 1)) x = ws at *
  generalize lk (W + 1) id 0 = z at *
  generalize lk (W + 1) id (j + 1) = y at *
  go_enter Tryz.func77, Tryz.ntmps77
  go_wp2_with fail
  with_reducible refine CK.out.mono ?_
  rintro e w0 ⟨rfl, P0, T0⟩
  dsimp only
  have KP := Lib.hid (fun w' (t : TR R R w0 w') => P0.keep t)
  have RW := Lib.hid (fun w' (t : TR R R w0 w') => P0.row.tr t P0.z)
  have HM := Lib.hid P0.m
  have HP := Lib.hid P0
  have TT0 : TR R R w0 w0 := TR.refl R w0
  have BB0 : Below w0.heap.size w0 w0 := Below.refl _ _
  obtain ⟨x0, x1, x2, x3, x4, x5, xf, xl⟩ := pc_all P0.row
  clear P0 CK
  go_upto_region 4 with fail
  go_region_held3 (fun w' => w'.cell? ⟨pb, 0, none⟩ = some (at0 mb) ∧ w'.cell? ⟨pb, 1, none⟩ = some (.int .i64 (k : Int)))
      (first | (refine KP.out _ ?_; repeat (first | with_reducible assumption | with_reducible refine TR.drew ?_)))
      (first
        | (go_at_call 96; with_reducible refine (AT.out _ (RW.out _ ?_)).mono ?_
           · repeat (first | with_reducible assumption | with_reducible refine TR.drew ?_)
           rintro e w1 ⟨rfl, rfl⟩)
        | (go_at_call 37; with_reducible refine (WT.out _ ?_).mono ?_
           · refine HM.out.below ?_
             repeat (first | with_reducible assumption | with_reducible refine Below.drew ?_)
           rintro e w2 ⟨rfl, M2, T2⟩
           have TT2 : TR R R w0 w2 := TR.trans (by repeat (first | with_reducible assumption | with_reducible refine TR.drew ?_)) T2))
  all_goals
    go_wp2_with fail
    exact bodyPost_ret (v := .int .i64 0) (by simp [results, Tryz.results77, go_sem]) rfl ⟨rfl, HP.out.write M2 TT2 LE.out AL.out, T0.trans TT2⟩
end
end Go.Proofs.YtppmicepkjhfeaaGreat
