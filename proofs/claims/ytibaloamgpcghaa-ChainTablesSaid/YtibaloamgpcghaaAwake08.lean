/-
  haymowlaw08.awake. And what follows from it.
-/
import Derived.Test.YtibaloamgpcghaaOut
/-! ## haymowlaw08.awake. -/
namespace Go.Proofs.Ytibaloamgpcghaa
open Go.RowKit
set_option linter.unusedVariables false

/-- all of a Mem's blocks are the call's own -/
structure Own (W : World) (R : Nat → Nat) (w : World) : Prop where
  lo : ∀ j, R j ≠ 0 → W.heap.size ≤ j
  b : Below W.heap.size W w
theorem Own.step {W w w' : World} {R R' : Nat → Nat} (o : Own W R w) (t : TR R R' w w') : Own W R' w' := ⟨t.lo o.b.size o.lo, o.b.trans (t.below o.b.size o.lo)⟩
theorem Own.below {W w w' : World} {R : Nat → Nat} (o : Own W R w) (k : Below w.heap.size w w') : Own W R w' := ⟨o.lo, o.b.trans (k.mono o.b.size)⟩
theorem Own.new {W w w' : World} {R : Nat → Nat} (b : Below W.heap.size W w) (lo : ∀ j, R j ≠ 0 → w.heap.size ≤ j) (k : Below w.heap.size w w') : Own W R w' := ⟨fun j hj => Nat.le_trans b.size (lo j hj), b.trans (k.mono b.size)⟩
theorem MM.all {w : World} {R : Nat → Nat} {mb mm : Nat} {L : List Spc} {a b : Nat} {h g : Int} (m : MM w R mb mm L a b h g) : w.cell? ⟨mb, 0, none⟩ = some (.pointer (some ⟨mm, 0, none⟩)) ∧ MRow w mm a b h g := by
  obtain ⟨sv, qv, U, Q, m⟩ := m
  exact ⟨m.row.all.1, m.met⟩
theorem ptr_nil (a : Addr) (w : World) : (binOp .eql 24 (.pointer (some a)) (.pointer none)).run Try.prog w = .ok (.bool false) w := by kernel_rfl
end Go.Proofs.Ytibaloamgpcghaa
/-! ## What MemCloses counts: the words of a list of spaces, numbers turned round. No walk. -/
namespace Go.Proofs.Ytibaloamgpcghaa
open Go.RowKit
set_option linter.unusedVariables false

/-- the words of all spaces -/
def hsum : List Spc → Nat
  | [] => 0
  | x :: l => x.2.length + hsum l
theorem hsum_set (L : List Spc) (k : Nat) (x : Spc) (hk : k < L.length) : hsum (L.set k x) + (L.getD k (false, [])).2.length = hsum L + x.2.length := by
  induction L generalizing k with
  | nil => simp at hk
  | cons y l ih =>
    cases k with
    | zero => simp only [List.set_cons_zero, List.getD_cons_zero, hsum]; omega
    | succ k =>
      have e := ih k (by simpa using hk)
      simp only [List.set_cons_succ, List.getD_cons_succ, hsum]; omega
theorem hsum_snoc (L : List Spc) (x : Spc) : hsum (L ++ [x]) = hsum L + x.2.length := by
  induction L with
  | nil => simp [hsum]
  | cons y l ih => simp only [List.cons_append, hsum, ih]; omega
theorem hsum_zero (L : List Spc) (h : ∀ j, j < L.length → (L.getD j (false, [])).2 = []) : hsum L = 0 := by
  induction L with
  | nil => rfl
  | cons y l ih =>
    have h0 : y.2 = [] := h 0 (by simp)
    have e := ih (fun j hj => h (j + 1) (by simpa using hj))
    simp only [hsum, h0, e]; rfl
theorem hsum_at (L : List Spc) (k : Nat) (hk : k < L.length) : (L.getD k (false, [])).2.length ≤ hsum L := by
  induction L generalizing k with
  | nil => simp at hk
  | cons y l ih =>
    cases k with
    | zero => simp only [List.getD_cons_zero, hsum]; omega
    | succ k =>
      have e := ih k (by simpa using hk)
      simp only [List.getD_cons_succ, hsum]; omega
theorem countv_all (L : List Spc) (h : ∀ j, j < L.length → (L.getD j (false, [])).1 = true) : countv L = L.length := by
  induction L with
  | nil => unfold countv; rfl
  | cons y l ih =>
    have h0 : y.1 = true := h 0 (by simp)
    have e := ih (fun j hj => h (j + 1) (by simpa using hj))
    unfold countv; rw [h0, e]; simp; omega
theorem countv_none (L : List Spc) (h : ∀ j, j < L.length → (L.getD j (false, [])).1 = false) : countv L = 0 := by
  induction L with
  | nil => unfold countv; rfl
  | cons y l ih =>
    have h0 : y.1 = false := h 0 (by simp)
    have e := ih (fun j hj => h (j + 1) (by simpa using hj))
    unfold countv; rw [h0, e]; simp
theorem firstc_all (L : List Spc) (h : ∀ j, j < L.length → (L.getD j (false, [])).1 = true) : firstc L = L.length := firstc_eq L _ h (.inl rfl)
theorem firstc_none (L : List Spc) (h : ∀ j, j < L.length → (L.getD j (false, [])).1 = false) : firstc L = 0 := by
  by_cases h0 : L.length = 0
  · rw [firstc_eq L 0 (fun j hj => by omega) (.inl h0.symm)]
  · exact firstc_eq L 0 (fun j hj => by omega) (.inr ⟨by omega, h 0 (by omega)⟩)
theorem opened_all (L : List Spc) (h : ∀ j, j < L.length → (L.getD j (false, [])).1 = true) (n : Nat) : opened L n = L ++ [(true, List.replicate n 0)] := by
  unfold opened; rw [firstc_all L h, if_neg (by omega)]
theorem getD_snoc (L : List Spc) (x : Spc) (j : Nat) (hj : j < L.length + 1) : (L ++ [x]).getD j (false, []) = if j < L.length then L.getD j (false, []) else x := by
  by_cases h : j < L.length
  · rw [if_pos h]; simp [List.getD, List.getElem?_append_left h]
  · have e : j = L.length := by omega
    subst e
    rw [if_neg h]; simp [List.getD]
/-- a closed space of a Mem has no words -/
theorem MM.empty {w : World} {R : Nat → Nat} {mb mm : Nat} {L : List Spc} {a b : Nat} {h g : Int} (m : MM w R mb mm L a b h g) {k : Nat} (hk : k < L.length) (ho : (L.getD k (false, [])).1 = false) : (L.getD k (false, [])).2 = [] := by
  obtain ⟨sv, qv, U, Q, m⟩ := m
  rw [(m.wd_closed hk ho).1]
/-- numbers turned round -/
theorem turn_inj {n t k s : Nat} (hn : 0 < n) (ht : t < n) (hk : k < n) (e : (t + s) % n = (k + s) % n) : t = k := by
  have a := Nat.div_add_mod (t + s) n
  have b := Nat.div_add_mod (k + s) n
  rw [e] at a
  have la := Nat.mod_lt (k + s) hn
  generalize (t + s) / n = p at *
  generalize (k + s) / n = q at *
  generalize (k + s) % n = r at *
  rcases Nat.lt_trichotomy p q with h | h | h
  · have : n * (p + 1) ≤ n * q := Nat.mul_le_mul_left n h
    rw [Nat.mul_add] at this; omega
  · subst h; omega
  · have : n * (q + 1) ≤ n * p := Nat.mul_le_mul_left n h
    rw [Nat.mul_add] at this; omega
theorem turn_sur {n s j : Nat} (hj : j < n) : ∃ t, t < n ∧ (t + s) % n = j := by
  have hn : 0 < n := by omega
  have ls := Nat.mod_lt s hn
  refine ⟨(j + (n - s % n)) % n, Nat.mod_lt _ hn, ?_⟩
  rw [Nat.add_mod, Nat.mod_mod, ← Nat.add_mod]
  have a := Nat.div_add_mod s n
  have e : j + (n - s % n) + s = j + n * (s / n + 1) := by rw [Nat.mul_add]; omega
  rw [e, Nat.add_mul_mod_self_left, Nat.mod_eq_of_lt hj]
attribute [irreducible] hsum
end Go.Proofs.Ytibaloamgpcghaa
