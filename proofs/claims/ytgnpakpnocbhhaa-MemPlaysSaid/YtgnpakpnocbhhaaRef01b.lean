/-
  Contracts of package haymowref01: the sum, the difference.
-/
import Derived.Test.YtgnpakpnocbhhaaRef01
import Derived.LoopTactic
import Derived.Deep.QuietTactic
import Derived.BigQuiet
import Derived.WalkSmall
import Derived.Deep.RegionWith
import Derived.Deep.RegionHeld3
import Derived.Deep.DeepCutAuto
import Derived.Deep.CutBlock
namespace Go.Proofs.Ytgnpakpnocbhhaa
open Go.RowKit
set_option linter.unusedVariables false


/-- what the sum's parts hold after k rounds -/
def outs (s k j : Nat) : Value := .int .u64 (if j < k then dig s j else 0)
theorem outs_lt {s k j : Nat} (h : j < k) : outs s k j = fd s j := by unfold outs fd; rw [if_pos h]
theorem outs_ge {s k j : Nat} (h : ¬ j < k) : outs s k j = .int .u64 0 := by unfold outs; rw [if_neg h]
theorem outs_succ (s k j : Nat) : (if j = k then fd s k else outs s k j) = outs s (k + 1) j := by
  by_cases h : j = k
  · subst h; rw [if_pos rfl, outs_lt (by omega)]
  · rw [if_neg h]; unfold outs
    by_cases h2 : j < k
    · rw [if_pos h2, if_pos (by omega)]
    · rw [if_neg h2, if_neg (by omega)]

theorem dig_top {s : Nat} (h : s < 1461501637330902918203684832716283019655932542976) : dig s 5 = 0 := by unfold dig; simp; omega

set_option maxHeartbeats 2000000 in
set_option maxRecDepth 100000 in
theorem refadd_any (a b : Nat) (ha : N128 a) (hb : N128 b) (w : World) : Calls Try.prog 57 #[wv a, wv b] w fun e w' => e = .returned (.tuple #[wv (addv a b), .bool (addok a b)]) ∧ Below w.heap.size w w' := by
  obtain ⟨a1, a2⟩ := word_hi ha; obtain ⟨b1, b2⟩ := word_lo a
  obtain ⟨c1, c2⟩ := word_hi hb; obtain ⟨d1, d2⟩ := word_lo b
  rw [addv_cap, addok_cap]
  go_enter Try.func57, Try.ntmps57
  go_upto_region 1 with fail
  go_cut [6, 7] from 12 to 15 (fun x y wx => Two (((w.alloc (.cells #[.int .u64 (hi a), .int .u64 (lo a)] 30)).alloc (.cells #[.int .u64 (hi b), .int .u64 (lo b)] 30)).alloc (.cells #[.int .u64 0, .int .u64 0] 30)) a b x y wx)
  case first =>
    go_region_held3 (fun w' => w'.cell? ⟨w.heap.size, 0, none⟩ = some (.int .u64 (hi a)) ∧ w'.cell? ⟨w.heap.size, 1, none⟩ = some (.int .u64 (lo a)) ∧ w'.cell? ⟨w.heap.size + 1, 0, none⟩ = some (.int .u64 (hi b)) ∧ w'.cell? ⟨w.heap.size + 1, 1, none⟩ = some (.int .u64 (lo b))) (simp [go_sem, World.cell?_alloc_past])
      (first | (go_at_call_of 59 (Value.int IntKind.u64 (hi a)); refine (parts_any a ha _).mono ?_; rintro e w1 ⟨rfl, rfl⟩) | (go_at_call_of 59 (Value.int IntKind.u64 (hi b)); refine (parts_any b hb _).mono ?_; rintro e w1 ⟨rfl, rfl⟩))
    all_goals
      go_wp2_with fail
      go_meet
      refine ⟨_, _, rfl, rfl, by simp, by simp, ?_, ?_, (by repeat (first | exact Below.refl _ _ | (with_reducible assumption) | refine bAlloc ?_ _ | refine below_drewN ?_ _ | refine Below.drew ?_ | (refine bSet ?_ (by first | (dsimp only; omega) | (simp; done) | (simp; omega)) _) | refine bTrans ?_ (by assumption)))⟩
      all_goals (repeat (first | (refine Row.newAt _ _ _ _ 6 _ ?_ (fd_row a ha); simp; done) | (refine Row.newAt _ _ _ _ 6 _ ?_ (fd_row b hb); simp; done) | refine Row.alloc ?_ _ | refine Row.drewN ?_ _ | refine Row.drew ?_))
  case rest =>
    obtain ⟨g1, g2, rfl, rfl, hg1, hg2, r1, r2, bl⟩ := hcut
    have bw : Below w.heap.size w wc := bTrans (by repeat (first | exact Below.refl _ _ | (with_reducible assumption) | refine bAlloc ?_ _ | refine below_drewN ?_ _ | refine Below.drew ?_ | (refine bSet ?_ (by first | (dsimp only; omega) | (simp; done) | (simp; omega)) _) | refine bTrans ?_ (by assumption))) bl
    have r0 : Row wc (w.heap.size + 2) 2 (fun _ => .int .u64 0) := (Row.newAt _ _ _ (w.heap.size + 2) 2 (fun _ => .int .u64 0) (by simp) (fun j hj => by
      have h : j = 0 ∨ j = 1 := by omega
      rcases h with rfl | rfl <;> rfl)).below bl
    clear bl hg1 hg2
    go_wp2
    go_loopw [9, 10, 11] (fun u i n wr => ∃ k : Nat, k ≤ 5 ∧ i = .int .i64 k ∧ u = .int .u64 (car a b k) ∧ Row wr wc.heap.size 6 (outs (a + b) k) ∧ Below wc.heap.size wc wr) (fun _ i _ _ => (5 - intOf i).toNat)
    case atStart =>
      refine ⟨0, by omega, rfl, by rw [car_0], Row.newAt _ _ _ _ 6 _ rfl (fun j hj => ?_), (by repeat (first | exact Below.refl _ _ | (with_reducible assumption) | refine bAlloc ?_ _ | refine below_drewN ?_ _ | refine Below.drew ?_ | (refine bSet ?_ (by first | (dsimp only; omega) | (simp; done) | (simp; omega)) _) | refine bTrans ?_ (by assumption)))⟩
      have h : j = 0 ∨ j = 1 ∨ j = 2 ∨ j = 3 ∨ j = 4 ∨ j = 5 := by omega
      rcases h with rfl | rfl | rfl | rfl | rfl | rfl <;> rfl
    case round =>
      obtain ⟨k, hk, rfl, rfl, ro, br⟩ := hrel
      by_cases hk5 : k < 5
      · have q1 := (r1.below br).cell k (by omega)
        have q2 := (r2.below br).cell k (by omega)
        have q3 := ro.cell k (by omega)
        have q4 := ro.free k
        unfold fd at q1 q2
        rw [outs_ge (by omega)] at q3
        obtain ⟨x0, x1⟩ := dig_b a k; obtain ⟨y0, y1⟩ := dig_b b k; obtain ⟨z0, z1⟩ := car_b a b k
        go_wp2
        go_quiet (fail)
        go_wp2
        go_roundw
        case rel =>
          rw [car_dig, car_succ]
          exact ⟨k + 1, by omega, by go_num, rfl, ((ro.drewN _).set k (by omega) (fd (a + b) k)).congr (fun j _ => outs_succ _ _ _), (by repeat (first | exact Below.refl _ _ | (with_reducible assumption) | refine bAlloc ?_ _ | refine below_drewN ?_ _ | refine Below.drew ?_ | (refine bSet ?_ (by first | (dsimp only; omega) | (simp; done) | (simp; omega)) _) | refine bTrans ?_ (by assumption)))⟩
        case measure => simp [intOf]; try omega
      · obtain rfl : k = 5 := by omega
        have q0 := ro.cell 0 (by omega); have q1 := ro.cell 1 (by omega); have q2 := ro.cell 2 (by omega); have q3 := ro.cell 3 (by omega); have q4 := ro.cell 4 (by omega); have q5 := ro.cell 5 (by omega)
        have e5 : outs (a + b) 5 5 = .int .u64 (dig (a + b) 5) := by
          rw [outs_ge (by omega)]
          congr 1
          unfold N128 at ha hb
          exact (dig_top (by omega)).symm
        rw [outs_lt (by omega)] at q0 q1 q2 q3 q4
        rw [e5] at q5
        unfold fd at q0 q1 q2 q3 q4
        have r0' := r0.below br
        go_wp2_with (go_at_call 60; refine (whole_any (a + b) (by unfold N128 at ha hb; omega) _).mono ?_; rintro e w1 ⟨rfl, hb1⟩; have r9 := r0'.below hb1; have z0 := r9.cell 0 (by omega); have z1 := r9.cell 1 (by omega); have z2 := r9.free 0; have z3 := r9.free 1)
        exact bodyPost_ret (v := .tuple #[wv (capv (a + b)), .bool (okv (a + b))]) (by simp [results, Try.results57, go_sem, z0, z1]) rfl ⟨rfl, by
          have hz := r9.lt
          have bz := (bw.trans (br.mono bw.size)).trans (hb1.mono (Nat.le_trans bw.size br.size))
          exact bSet (bSet bz (by first | (dsimp only; omega) | (simp; done) | (simp; omega)) _) (by first | (dsimp only; omega) | (simp; done) | (simp; omega)) _⟩

/-! ### the difference -/
def brw (a b k : Nat) : Int := if a % 4294967296 ^ k < b % 4294967296 ^ k then 1 else 0
theorem brw_b (a b k : Nat) : 0 ≤ brw a b k ∧ brw a b k ≤ 1 := by unfold brw; split <;> omega
theorem brw_0 (a b : Nat) : brw a b 0 = 0 := by unfold brw; simp [Nat.mod_one]
theorem sub_split {a b P : Nat} (hP : 0 < P) (h : b ≤ a) : (((a - b) / P : Nat) : Int) = ((a / P : Nat) : Int) - ((b / P : Nat) : Int) - (if a % P < b % P then 1 else 0) := by
  have ea := Nat.div_add_mod a P; have eb := Nat.div_add_mod b P
  have ma := Nat.mod_lt a hP; have mb := Nat.mod_lt b hP
  have hq : b / P ≤ a / P := Nat.div_le_div_right h
  by_cases c : a % P < b % P
  · rw [if_pos c]
    have hne : b / P ≠ a / P := fun e => by rw [e] at eb; omega
    have hlt : b / P + 1 ≤ a / P := by omega
    have e : a - b = (a % P + P - b % P) + P * (a / P - b / P - 1) := by
      have : P * (a / P - b / P - 1) + P + P * (b / P) = P * (a / P) := by
        rw [show P * (a / P - b / P - 1) + P + P * (b / P) = P * ((a / P - b / P - 1) + 1 + b / P) by rw [Nat.mul_add, Nat.mul_add, Nat.mul_one]]
        congr 1; omega
      omega
    rw [e, Nat.add_mul_div_left _ _ hP, Nat.div_eq_of_lt (by omega)]
    omega
  · rw [if_neg c]
    have e : a - b = (a % P - b % P) + P * (a / P - b / P) := by
      have : P * (a / P - b / P) + P * (b / P) = P * (a / P) := by rw [← Nat.mul_add]; congr 1; omega
      omega
    rw [e, Nat.add_mul_div_left _ _ hP, Nat.div_eq_of_lt (by omega)]
    omega
theorem brw_dig {a b : Nat} (h : b ≤ a) (k : Nat) : (dig a k + 4294967296 - dig b k - brw a b k) % 4294967296 = dig (a - b) k := by
  have e := sub_split (pow_pos32 k) h
  have hq : b / 4294967296 ^ k ≤ a / 4294967296 ^ k := Nat.div_le_div_right h
  unfold dig brw
  generalize a / 4294967296 ^ k = x at *
  generalize b / 4294967296 ^ k = y at *
  generalize (a - b) / 4294967296 ^ k = z at *
  generalize (if a % 4294967296 ^ k < b % 4294967296 ^ k then (1 : Int) else 0) = t at *
  omega
theorem brw_succ (a b k : Nat) : 1 - (dig a k + 4294967296 - dig b k - brw a b k) / 4294967296 = brw a b (k + 1) := by
  have hP := pow_pos32 k
  have ma := Nat.mod_lt a hP; have mb := Nat.mod_lt b hP
  unfold dig brw
  rw [Nat.pow_succ, mod_split a, mod_split b]
  have xa := Nat.mod_lt (a / 4294967296 ^ k) (show 0 < 4294967296 by omega)
  have xb := Nat.mod_lt (b / 4294967296 ^ k) (show 0 < 4294967296 by omega)
  generalize a / 4294967296 ^ k % 4294967296 = x at *
  generalize b / 4294967296 ^ k % 4294967296 = y at *
  generalize a % 4294967296 ^ k = r at *
  generalize b % 4294967296 ^ k = s at *
  generalize 4294967296 ^ k = P at *
  rcases Nat.lt_trichotomy x y with c | c | c
  · have m : P * x + P ≤ P * y := by rw [← Nat.mul_succ]; exact Nat.mul_le_mul_left P c
    rw [if_pos (show r + P * x < s + P * y by omega)]
    split <;> omega
  · subst c
    by_cases d : r < s
    · rw [if_pos d, if_pos (by omega)]; omega
    · rw [if_neg d, if_neg (by omega)]; omega
  · have m : P * y + P ≤ P * x := by rw [← Nat.mul_succ]; exact Nat.mul_le_mul_left P c
    rw [if_neg (show ¬ r + P * x < s + P * y by omega)]
    split <;> omega
attribute [irreducible] brw

end Go.Proofs.Ytgnpakpnocbhhaa
