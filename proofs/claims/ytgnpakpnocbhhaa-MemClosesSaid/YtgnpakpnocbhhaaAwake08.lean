/-
  haymowlaw08.awake. And what follows from it.
-/
import Derived.Test.YtgnpakpnocbhhaaOut
/-! ## haymowlaw08.awake. -/
namespace Go.Proofs.Ytgnpakpnocbhhaa
open Go.RowKit
set_option linter.unusedVariables false

/-- all of a Mem's blocks are the call's own -/
structure Own (W : World) (R : Nat → Nat) (w : World) : Prop where
  lo : ∀ j, R j ≠ 0 → W.heap.size ≤ j
  b : Below W.heap.size W w
theorem Own.step {W w w' : World} {R R' : Nat → Nat} (o : Own W R w) (t : TR R R' w w') : Own W R' w' := ⟨t.lo o.b.size o.lo, o.b.trans (t.below o.b.size o.lo)⟩
theorem Own.below {W w w' : World} {R : Nat → Nat} (o : Own W R w) (k : Below w.heap.size w w') : Own W R w' := ⟨o.lo, o.b.trans (k.mono o.b.size)⟩
theorem Own.new {W w w' : World} {R : Nat → Nat} (b : Below W.heap.size W w) (lo : ∀ j, R j ≠ 0 → w.heap.size ≤ j) (k : Below w.heap.size w w') : Own W R w' := ⟨fun j hj => Nat.le_trans b.size (lo j hj), b.trans (k.mono b.size)⟩
theorem MM.all {w : World} {R : Nat → Nat} {mb mm : Nat} {L : List Spc} {a b : Nat} {h g : Int} (m : MM w R mb mm L a b h g) : w.cell? ⟨mb, 0, none⟩ = some (.pointer (some ⟨mm, 0, none⟩)) ∧ MRow w mm a b h g := by
  obtain ⟨sv, qv, U, Q, m⟩ := m
  exact ⟨m.row.all.1, m.met⟩
theorem ptr_nil (a : Addr) (w : World) : (binOp .eql 25 (.pointer (some a)) (.pointer none)).run Try.prog w = .ok (.bool false) w := by kernel_rfl
set_option maxRecDepth 100000 in
set_option maxHeartbeats 1000000 in
theorem awake_any (w : World) : Calls Try.prog 6 #[] w fun e w' => e = .returned (.bool true) ∧ Below w.heap.size w w' := by
  have H1 := fun mb mm R w' (q : MM w' R mb mm [] 0 0 0 0) => mopen_ok mb mm R [] 0 0 0 0 w' q 3 (by omega) (by unfold countv; omega)
  have F0 : firstc [] = 0 := firstc_eq [] 0 (fun j hj => by omega) (.inl rfl)
  rw [F0, show opened [] 3 = [(true, [0, 0, 0])] by unfold opened; rw [F0]; rfl, show holdh 0 ((3 : Nat) : Int) = 3 by unfold holdh; simp, show holdg 0 0 ((3 : Nat) : Int) = 3 by unfold holdg; simp] at H1
  have H2 := fun mb mm R w' (q : MM w' R mb mm [(true, [0, 0, 0])] 0 0 3 3) => mwrite_ok mb mm R [(true, [0, 0, 0])] 0 0 3 3 w' q 0 1 77 (by decide) (by decide) (by decide) (by decide)
  rw [show List.set [((true, [0, 0, 0]) : Spc)] 0 ((List.getD [((true, [0, 0, 0]) : Spc)] 0 (false, [])).1, (wds [(true, [0, 0, 0])] 0).set 1 77) = [(true, [0, 77, 0])] by rfl, show stepv 0 1 1 0 = 0 by unfold stepv; simp, show stepv 1 1 1 0 = 1 by unfold stepv addv; simp] at H2
  have H3 := fun mb mm R w' (q : MM w' R mb mm [(true, [0, 77, 0])] 0 1 3 3) => mgrow_ok mb mm R [(true, [0, 77, 0])] 0 1 3 3 w' q 0 5 2 (by decide) (by decide) (by decide) (by omega)
  rw [show List.set [((true, [0, 77, 0]) : Spc)] 0 ((List.getD [((true, [0, 77, 0]) : Spc)] 0 (false, [])).1, wds [(true, [0, 77, 0])] 0 ++ List.replicate 2 0) = [(true, [0, 77, 0, 0, 0])] by rfl, show holdh 3 ((2 : Nat) : Int) = 5 by unfold holdh; simp, show holdg 3 3 ((2 : Nat) : Int) = 5 by unfold holdg; simp] at H3
  have H4 := fun mb mm R w' (q : MM w' R mb mm [(true, [0, 77, 0, 0, 0])] 0 1 5 5) => mread_ok mb mm R [(true, [0, 77, 0, 0, 0])] 0 1 5 5 w' q 0 1 (by decide) (by decide) (by decide) (by decide)
  rw [show wat [(true, [0, 77, 0, 0, 0])] 0 1 = 77 by unfold wat; rfl, show stepv 0 0 1 0 = 1 by unfold stepv addv; simp, show stepv 1 0 1 1 = 1 by unfold stepv; simp] at H4
  have N1 : N128 1 := by unfold N128; omega
  have ST := fun m w r => steps_any m 1 1 5 5 N1 N1 w r
  have e2 : wv (addv 1 1) = .agg #[.int .u64 0, .int .u64 2] := by
    rw [show addv 1 1 = 2 by unfold addv; simp]
    simp only [wv]; rw [hi_of_lt (by omega), lo_of_lt (by omega)]; rfl
  rw [e2] at ST
  have H1' := Lib.hid H1; have H2' := Lib.hid H2; have H3' := Lib.hid H3; have H4' := Lib.hid H4; have ST' := Lib.hid ST
  have PN := fun a w => ptr_nil a w
  clear H1 H2 H3 H4 ST e2 N1 F0
  go_enter Try.func6, Try.ntmps6
  go_wp2_with fail
  refine (mnew_any w).mono ?_
  rintro e w1 ⟨mb, mm, R1, rfl, M1, lo1, b1⟩
  have O1 := Own.new (Below.refl _ w) lo1 b1
  dsimp only
  go_wp2_with fail
  refine (H1'.out mb mm R1 _ M1).mono ?_
  rintro e w2 ⟨R2, rfl, M2, T2⟩
  have O2 := O1.step T2
  clear M1 T2 O1 b1 lo1
  dsimp only
  go_wp2_with fail
  refine (H2'.out mb mm R2 _ M2).mono ?_
  rintro e w3 ⟨rfl, M3, T3⟩
  have O3 := O2.step T3
  clear M2 T3 O2
  dsimp only
  go_wp2_with fail
  refine (H3'.out mb mm R2 _ M3).mono ?_
  rintro e w4 ⟨R4, rfl, M4, T4⟩
  have O4 := O3.step T4
  clear M3 T4 O3
  dsimp only
  go_wp2_with fail
  refine (H4'.out mb mm R4 _ M4).mono ?_
  rintro e w5 ⟨rfl, M5, T5⟩
  have O5 := O4.step T5
  clear M4 T5 O4
  obtain ⟨c0, met⟩ := M5.all
  dsimp only
  go_wp2_with fail
  refine (ST'.out mm _ met).mono ?_
  rintro e w6 ⟨rfl, b6⟩
  have M6 := M5.below b6
  have O6 := O5.below b6
  clear M5 O5 b6 c0 met
  obtain ⟨c0, met⟩ := M6.all
  dsimp only
  go_wp2_with fail
  refine (held_any mm 1 1 5 5 _ met).mono ?_
  rintro e w7 ⟨rfl, rfl⟩
  dsimp only
  go_wp2_with fail
  go_ret
  exact ⟨rfl, O6.b⟩
end Go.Proofs.Ytgnpakpnocbhhaa
/-! ## What MemCloses counts: the words of a list of spaces, numbers turned round. No walk. -/
namespace Go.Proofs.Ytgnpakpnocbhhaa
open Go.RowKit
set_option linter.unusedVariables false

/-- the words of all spaces -/
def hsum : List Spc → Nat
  | [] => 0
  | x :: l => x.2.length + hsum l
theorem hsum_set (L : List Spc) (k : Nat) (x : Spc) (hk : k < L.length) : hsum (L.set k x) + (L.getD k (false, [])).2.length = hsum L + x.2.length := by
  induction L generalizing k with
  | nil => simp at hk
  | cons y l ih =>
    cases k with
    | zero => simp only [List.set_cons_zero, List.getD_cons_zero, hsum]; omega
    | succ k =>
      have e := ih k (by simpa using hk)
      simp only [List.set_cons_succ, List.getD_cons_succ, hsum]; omega
theorem hsum_snoc (L : List Spc) (x : Spc) : hsum (L ++ [x]) = hsum L + x.2.length := by
  induction L with
  | nil => simp [hsum]
  | cons y l ih => simp only [List.cons_append, hsum, ih]; omega
theorem hsum_zero (L : List Spc) (h : ∀ j, j < L.length → (L.getD j (false, [])).2 = []) : hsum L = 0 := by
  induction L with
  | nil => rfl
  | cons y l ih =>
    have h0 : y.2 = [] := h 0 (by simp)
    have e := ih (fun j hj => h (j + 1) (by simpa using hj))
    simp only [hsum, h0, e]; rfl
theorem hsum_at (L : List Spc) (k : Nat) (hk : k < L.length) : (L.getD k (false, [])).2.length ≤ hsum L := by
  induction L generalizing k with
  | nil => simp at hk
  | cons y l ih =>
    cases k with
    | zero => simp only [List.getD_cons_zero, hsum]; omega
    | succ k =>
      have e := ih k (by simpa using hk)
      simp only [List.getD_cons_succ, hsum]; omega
theorem countv_all (L : List Spc) (h : ∀ j, j < L.length → (L.getD j (false, [])).1 = true) : countv L = L.length := by
  induction L with
  | nil => unfold countv; rfl
  | cons y l ih =>
    have h0 : y.1 = true := h 0 (by simp)
    have e := ih (fun j hj => h (j + 1) (by simpa using hj))
    unfold countv; rw [h0, e]; simp; omega
theorem countv_none (L : List Spc) (h : ∀ j, j < L.length → (L.getD j (false, [])).1 = false) : countv L = 0 := by
  induction L with
  | nil => unfold countv; rfl
  | cons y l ih =>
    have h0 : y.1 = false := h 0 (by simp)
    have e := ih (fun j hj => h (j + 1) (by simpa using hj))
    unfold countv; rw [h0, e]; simp
theorem firstc_all (L : List Spc) (h : ∀ j, j < L.length → (L.getD j (false, [])).1 = true) : firstc L = L.length := firstc_eq L _ h (.inl rfl)
theorem firstc_none (L : List Spc) (h : ∀ j, j < L.length → (L.getD j (false, [])).1 = false) : firstc L = 0 := by
  by_cases h0 : L.length = 0
  · rw [firstc_eq L 0 (fun j hj => by omega) (.inl h0.symm)]
  · exact firstc_eq L 0 (fun j hj => by omega) (.inr ⟨by omega, h 0 (by omega)⟩)
theorem opened_all (L : List Spc) (h : ∀ j, j < L.length → (L.getD j (false, [])).1 = true) (n : Nat) : opened L n = L ++ [(true, List.replicate n 0)] := by
  unfold opened; rw [firstc_all L h, if_neg (by omega)]
theorem getD_snoc (L : List Spc) (x : Spc) (j : Nat) (hj : j < L.length + 1) : (L ++ [x]).getD j (false, []) = if j < L.length then L.getD j (false, []) else x := by
  by_cases h : j < L.length
  · rw [if_pos h]; simp [List.getD, List.getElem?_append_left h]
  · have e : j = L.length := by omega
    subst e
    rw [if_neg h]; simp [List.getD]
/-- a closed space of a Mem has no words -/
theorem MM.empty {w : World} {R : Nat → Nat} {mb mm : Nat} {L : List Spc} {a b : Nat} {h g : Int} (m : MM w R mb mm L a b h g) {k : Nat} (hk : k < L.length) (ho : (L.getD k (false, [])).1 = false) : (L.getD k (false, [])).2 = [] := by
  obtain ⟨sv, qv, U, Q, m⟩ := m
  rw [(m.wd_closed hk ho).1]
/-- numbers turned round -/
theorem turn_inj {n t k s : Nat} (hn : 0 < n) (ht : t < n) (hk : k < n) (e : (t + s) % n = (k + s) % n) : t = k := by
  have a := Nat.div_add_mod (t + s) n
  have b := Nat.div_add_mod (k + s) n
  rw [e] at a
  have la := Nat.mod_lt (k + s) hn
  generalize (t + s) / n = p at *
  generalize (k + s) / n = q at *
  generalize (k + s) % n = r at *
  rcases Nat.lt_trichotomy p q with h | h | h
  · have : n * (p + 1) ≤ n * q := Nat.mul_le_mul_left n h
    rw [Nat.mul_add] at this; omega
  · subst h; omega
  · have : n * (q + 1) ≤ n * p := Nat.mul_le_mul_left n h
    rw [Nat.mul_add] at this; omega
theorem turn_sur {n s j : Nat} (hj : j < n) : ∃ t, t < n ∧ (t + s) % n = j := by
  have hn : 0 < n := by omega
  have ls := Nat.mod_lt s hn
  refine ⟨(j + (n - s % n)) % n, Nat.mod_lt _ hn, ?_⟩
  rw [Nat.add_mod, Nat.mod_mod, ← Nat.add_mod]
  have a := Nat.div_add_mod s n
  have e : j + (n - s % n) + s = j + n * (s / n + 1) := by rw [Nat.mul_add]; omega
  rw [e, Nat.add_mul_mod_self_left, Nat.mod_eq_of_lt hj]
attribute [irreducible] hsum
end Go.Proofs.Ytgnpakpnocbhhaa
