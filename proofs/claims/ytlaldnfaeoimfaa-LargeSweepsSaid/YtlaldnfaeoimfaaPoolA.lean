/-
  Package pool: the functions that touch no Mem: stateOf, nextOf, genOf, width, at, has, behindState, Count, Made, Space.
-/
import Derived.Test.YtlaldnfaeoimfaaChn
import Derived.WalkSmall
import Derived.Deep.QuietTactic
namespace Go.Proofs.Ytlaldnfaeoimfaa
open Go.RowKit
set_option linter.unusedVariables false

/-- a Pool's cells -/
def pc (m : Value) (k W c d f : Int) (j : Nat) : Value := if j = 0 then m else if j = 1 then .int .i64 k else if j = 2 then .int .i64 W else if j = 3 then .int .i64 c else if j = 4 then .int .i64 d else .int .i64 f
theorem pc_all {w : World} {g : Nat} {m : Value} {k W c d f : Int} (r : Row w g 6 (pc m k W c d f)) : w.cell? ⟨g, 0, none⟩ = some m ∧ w.cell? ⟨g, 1, none⟩ = some (.int .i64 k) ∧ w.cell? ⟨g, 2, none⟩ = some (.int .i64 W) ∧ w.cell? ⟨g, 3, none⟩ = some (.int .i64 c) ∧ w.cell? ⟨g, 4, none⟩ = some (.int .i64 d) ∧ w.cell? ⟨g, 5, none⟩ = some (.int .i64 f) ∧ (∀ j, w.frozen? ⟨g, j, none⟩ = false) ∧ g < w.heap.size :=
  ⟨r.cell 0 (by omega), r.cell 1 (by omega), r.cell 2 (by omega), r.cell 3 (by omega), r.cell 4 (by omega), r.cell 5 (by omega), r.free, r.lt⟩
theorem sixj {j : Nat} (h : j < 6) : j = 0 ∨ j = 1 ∨ j = 2 ∨ j = 3 ∨ j = 4 ∨ j = 5 := by omega
theorem pc_new (m : Value) (k W c d f : Int) (j : Nat) (hj : j < 6) : (#[m, Value.int .i64 k, .int .i64 W, .int .i64 c, .int .i64 d, .int .i64 f] : Array Value)[j]? = some (pc m k W c d f j) := by
  rcases sixj hj with rfl | rfl | rfl | rfl | rfl | rfl <;> rfl
theorem Row.pc3 {w : World} {g : Nat} {m : Value} {k W c d f : Int} (r : Row w g 6 (pc m k W c d f)) (x : Int) : Row (w.setCell ⟨g, 3, none⟩ (.int .i64 x)) g 6 (pc m k W x d f) := (r.set 3 (by omega) _).congr fun j hj => by
  rcases sixj hj with rfl | rfl | rfl | rfl | rfl | rfl <;> rfl
theorem Row.pc4 {w : World} {g : Nat} {m : Value} {k W c d f : Int} (r : Row w g 6 (pc m k W c d f)) (x : Int) : Row (w.setCell ⟨g, 4, none⟩ (.int .i64 x)) g 6 (pc m k W c x f) := (r.set 4 (by omega) _).congr fun j hj => by
  rcases sixj hj with rfl | rfl | rfl | rfl | rfl | rfl <;> rfl
theorem Row.pc5 {w : World} {g : Nat} {m : Value} {k W c d f : Int} (r : Row w g 6 (pc m k W c d f)) (x : Int) : Row (w.setCell ⟨g, 5, none⟩ (.int .i64 x)) g 6 (pc m k W c d x) := (r.set 5 (by omega) _).congr fun j hj => by
  rcases sixj hj with rfl | rfl | rfl | rfl | rfl | rfl <;> rfl
attribute [irreducible] pc
/-! ### the state of an entry -/
theorem gen_shl {g : Nat} (h : g ≤ 1000000000) : IntKind.u64.wrap ((g : Int) * 4194304) = ((4194304 * g : Nat) : Int) := by rw [IntKind.wrap_u64]; omega
theorem nxt_shl {n : Nat} (h : n ≤ 2097151) : IntKind.u64.wrap ((n : Int) * 2) = ((2 * n : Nat) : Int) := by rw [IntKind.wrap_u64]; omega
theorem or_state {g n : Nat} (hg : g ≤ 1000000000) (hn : n ≤ 2097151) : bits BinOp.or .u64 ((4194304 * g : Nat) : Int) ((2 * n : Nat) : Int) = ((2 * n + 4194304 * g : Nat) : Int) := by
  rw [bits_or_u64_nat _ _ (by omega) (by omega), ← Nat.two_pow_add_eq_or_of_lt (i := 22) (show 2 * n < 2 ^ 22 by omega) g]
  norm_cast
  omega
theorem or_taken {g : Nat} (hg : g ≤ 1000000000) : bits BinOp.or .u64 ((4194304 * g : Nat) : Int) 1 = ((1 + 4194304 * g : Nat) : Int) := by
  have e : (4194304 * g ||| 1 : Nat) = 2 ^ 1 * (2097152 * g) + 1 := by
    rw [Nat.two_pow_add_eq_or_of_lt (i := 1) (by omega) (2097152 * g)]
    congr 1
    omega
  rw [show (1 : Int) = ((1 : Nat) : Int) from rfl, bits_or_u64_nat _ _ (by omega) (by omega), e]
  omega
theorem and_next (x : Nat) (h : x < 18446744073709551616) : bits BinOp.and .u64 ((x : Nat) : Int) 2097151 = ((x % 2097152 : Nat) : Int) := by
  rw [show (2097151 : Int) = ((2097151 : Nat) : Int) from rfl, bits_and_u64_nat _ _ h (by omega)]
  have := Nat.and_two_pow_sub_one_eq_mod x 21
  rw [show (2097151 : Nat) = 2 ^ 21 - 1 from rfl, this]
theorem and_taken (x : Nat) (h : x < 18446744073709551616) : bits BinOp.and .u64 ((x : Nat) : Int) 1 = ((x % 2 : Nat) : Int) := by
  rw [show (1 : Int) = ((1 : Nat) : Int) from rfl, bits_and_u64_nat _ _ h (by omega), Nat.and_one_is_mod]

theorem stateof_any (g n : Nat) (hg : g ≤ 1000000000) (hn : n ≤ 2097151) (w : World) : Calls Try.prog 71 #[.int .i64 (g : Int), .int .i64 (n : Int)] w fun e w' => e = .returned (.int .u64 ((2 * n + 4194304 * g : Nat) : Int)) ∧ w = w' := by
  have e1 : IntKind.u64.wrap (g : Int) = (g : Int) := by rw [IntKind.wrap_u64]; omega
  have e2 : IntKind.u64.wrap (n : Int) = (n : Int) := by rw [IntKind.wrap_u64]; omega
  have e3 := gen_shl hg
  have e4 := nxt_shl hn
  have e5 := or_state hg hn
  generalize (2 * n + 4194304 * g : Nat) = z at *
  generalize (4194304 * g : Nat) = x at *
  generalize (2 * n : Nat) = y at *
  go_enter Try.func71, Try.ntmps71
  go_wp2_with fail
  go_ret
  exact ⟨rfl, rfl⟩
theorem nextof_any (x : Nat) (h : x < 18446744073709551616) (w : World) : Calls Try.prog 65 #[.int .u64 (x : Int)] w fun e w' => e = .returned (.int .i64 ((x / 2 % 2097152 : Nat) : Int)) ∧ w = w' := by
  have e1 : (x : Int) / 2 = ((x / 2 : Nat) : Int) := by omega
  have e3 := and_next (x / 2) (by omega)
  have e4 : wrap64 ((x / 2 % 2097152 : Nat) : Int) = ((x / 2 % 2097152 : Nat) : Int) := wrap_small (by omega)
  have e5 : IntKind.i64.wrap ((x / 2 % 2097152 : Nat) : Int) = ((x / 2 % 2097152 : Nat) : Int) := by rw [IntKind.wrap_i64]; omega
  generalize (x / 2 % 2097152 : Nat) = z at *
  generalize (x / 2 : Nat) = y at *
  go_enter Try.func65, Try.ntmps65
  go_wp2_with fail
  go_ret
  exact ⟨rfl, rfl⟩
theorem genof_any (x : Nat) (h : x < 18446744073709551616) (w : World) : Calls Try.prog 66 #[.int .u64 (x : Int)] w fun e w' => e = .returned (.int .i64 ((x / 4194304 : Nat) : Int)) ∧ w = w' := by
  have e1 : (x : Int) / 4194304 = ((x / 4194304 : Nat) : Int) := by omega
  have e4 : wrap64 ((x / 4194304 : Nat) : Int) = ((x / 4194304 : Nat) : Int) := by unfold wrap64; omega
  have e5 : IntKind.i64.wrap ((x / 4194304 : Nat) : Int) = ((x / 4194304 : Nat) : Int) := by rw [IntKind.wrap_i64]; omega
  generalize (x / 4194304 : Nat) = z at *
  go_enter Try.func66, Try.ntmps66
  go_wp2_with fail
  go_ret
  exact ⟨rfl, rfl⟩

/-! ### fields, places -/
section
variable {m : Value} {k c d f : Int} {W : Nat} (pb : Nat)
theorem pwidth_any (w : World) (hW : W ≤ 60) (r : Row w pb 6 (pc m k (W : Int) c d f)) : Calls Try.prog 68 #[at0 pb] w fun e w' => e = .returned (.int .i64 ((W + 1 : Nat) : Int)) ∧ w = w' := by
  obtain ⟨x0, x1, x2, x3, x4, x5, xf, xl⟩ := pc_all r
  have e1 : (W : Int) + 1 = ((W + 1 : Nat) : Int) := by omega
  have e2 : wrap64 ((W + 1 : Nat) : Int) = ((W + 1 : Nat) : Int) := wrap_small (by omega)
  generalize (W + 1 : Nat) = z at *
  go_enter Try.func68, Try.ntmps68
  go_wp2_with fail
  go_ret
  exact ⟨rfl, rfl⟩
theorem pat_any (w : World) (hW : W ≤ 60) (r : Row w pb 6 (pc m k (W : Int) c d f)) (id : Nat) (h1 : 1 ≤ id) (h2 : id ≤ 4194304) : Calls Try.prog 49 #[at0 pb, .int .i64 (id : Int)] w fun e w' => e = .returned (.int .i64 ((lk (W + 1) id 0 : Nat) : Int)) ∧ w = w' := by
  have WD := Lib.hid (pwidth_any pb w hW r)
  have hm : (id - 1) * (W + 1) ≤ 4194304 * 61 := Nat.mul_le_mul (by omega) (by omega)
  have e0 : lk (W + 1) id 0 = (id - 1) * (W + 1) := by unfold lk; omega
  have e1 : ((id : Int) - 1) * (((W + 1 : Nat)) : Int) = ((lk (W + 1) id 0 : Nat) : Int) := by rw [e0]; exact lk_part (n := 0) h1
  have e3 : wrap64 ((lk (W + 1) id 0 : Nat) : Int) = (lk (W + 1) id 0 : Nat) := wrap_small (by omega)
  have e5 : wrap64 ((id : Int) - 1) = (id : Int) - 1 := by unfold wrap64; omega
  clear hm e0 r hW
  generalize lk (W + 1) id 0 = z at *
  generalize (W + 1 : Nat) = y at *
  go_enter Try.func49, Try.ntmps49
  go_wp2_with fail
  with_reducible refine WD.out.mono ?_
  rintro e w1 ⟨rfl, rfl⟩
  dsimp only
  go_wp2_with fail
  exact bodyPost_ret (v := .int .i64 (z : Int)) (by simp [results, Try.results49, go_sem, e3]) rfl ⟨rfl, rfl⟩
/-- is there such an entry? -/
def pin (d : Nat) (id : Int) : Bool := decide (1 ≤ id ∧ id ≤ (d : Int))
theorem pin_t {d : Nat} {id : Int} (h : 1 ≤ id) (h2 : id ≤ (d : Int)) : pin d id = true := by unfold pin; exact decide_eq_true ⟨h, h2⟩
theorem pin_f {d : Nat} {id : Int} (h : ¬ (1 ≤ id ∧ id ≤ (d : Int))) : pin d id = false := by unfold pin; exact decide_eq_false h
attribute [irreducible] pin
theorem phas_any {d : Nat} (w : World) (r : Row w pb 6 (pc m k (W : Int) c (d : Int) f)) (id : Int) : Calls Try.prog 87 #[at0 pb, .int .i64 id] w fun e w' => e = .returned (.bool (pin d id)) ∧ w = w' := by
  obtain ⟨x0, x1, x2, x3, x4, x5, xf, xl⟩ := pc_all r
  by_cases h1 : 1 ≤ id
  · by_cases h2 : id ≤ (d : Int)
    · rw [pin_t h1 h2]
      go_enter Try.func87, Try.ntmps87
      go_wp2_with fail
      go_ret
      exact ⟨rfl, rfl⟩
    · rw [pin_f (fun q => h2 q.2)]
      go_enter Try.func87, Try.ntmps87
      go_wp2_with fail
      go_ret
      exact ⟨rfl, rfl⟩
  · rw [pin_f (fun q => h1 q.1)]
    go_enter Try.func87, Try.ntmps87
    go_wp2_with fail
    go_ret
    exact ⟨rfl, rfl⟩
end
theorem behind_any (x : Nat) (hx : x ≤ 1000) (w : World) : Calls Try.prog 79 #[.int .i64 (x : Int)] w fun e w' => e = .returned (.int .i64 ((x + 1 : Nat) : Int)) ∧ w = w' := by
  have e1 : (x : Int) + 1 = ((x + 1 : Nat) : Int) := by omega
  have e2 : wrap64 ((x + 1 : Nat) : Int) = ((x + 1 : Nat) : Int) := wrap_small (by omega)
  have e3 : ((x : Int) == 9223372036854775807) = false := by simp; omega
  generalize (x + 1 : Nat) = z at *
  go_enter Try.func79, Try.ntmps79
  go_wp2_with fail
  go_ret
  exact ⟨rfl, rfl⟩
end Go.Proofs.Ytlaldnfaeoimfaa
