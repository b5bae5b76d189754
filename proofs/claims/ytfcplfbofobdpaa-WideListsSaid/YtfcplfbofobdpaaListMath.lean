/-
  Plain lists: a list turned round has the same sum. No program in sight.
-/
import Derived.Test.YtfcplfbofobdpaaSum
import Derived.OwnWalk
namespace Go.Proofs.Ytfcplfbofobdpaa
open Go.RowKit

/-- the list that begins at place t -/
def tnr (xs : List Nat) (t : Nat) : List Nat := (List.range xs.length).map fun i => xs.getD ((i + t) % xs.length) 0
theorem tnr_len (xs : List Nat) (t : Nat) : (tnr xs t).length = xs.length := by simp [tnr]
theorem tnr_get (xs : List Nat) (t k : Nat) (h : k < xs.length) : (tnr xs t).getD k 0 = xs.getD ((k + t) % xs.length) 0 := by
  simp [tnr, List.getD, List.getElem?_map, List.getElem?_range h]
theorem sum_shift (g : Nat → Nat) : ∀ n, ((List.range n).map fun i => g ((i + 1) % n)).sum = ((List.range n).map g).sum
  | 0 => rfl
  | m + 1 => by
    have e : ((List.range m).map fun i => g ((i + 1) % (m + 1))) = (List.range m).map fun i => g (i + 1) := by
      apply List.map_congr_left
      intro i hi
      rw [Nat.mod_eq_of_lt (by have := List.mem_range.1 hi; omega)]
    conv => lhs; rw [List.range_succ, List.map_append, List.sum_append, e]
    conv => rhs; rw [List.range_succ_eq_map, List.map_cons, List.sum_cons, List.map_map]
    simp [Function.comp_def, Nat.mod_self, Nat.add_comm]
theorem sum_turn (g : Nat → Nat) (n : Nat) : ∀ t, ((List.range n).map fun i => g ((i + t) % n)).sum = ((List.range n).map fun i => g (i % n)).sum
  | 0 => rfl
  | t + 1 => by
    rw [← sum_turn g n t, ← sum_shift (fun j => g ((j + t) % n)) n]
    congr 1
    apply List.map_congr_left
    intro i _
    show g _ = g _
    congr 1
    rw [Nat.mod_add_mod]
    congr 1; omega
theorem tnr_sum (xs : List Nat) (t : Nat) : (tnr xs t).sum = xs.sum := by
  unfold tnr
  rw [sum_turn (fun i => xs.getD i 0) xs.length t]
  congr 1
  apply List.ext_getElem
  · simp
  · intro i h1 h2
    have h : i < xs.length := by simpa using h1
    simp [Nat.mod_eq_of_lt h, List.getElem?_eq_getElem h]
/-- no overflow: the sum of all -/
theorem sumv_sum (xs : List Nat) (h : N128 xs.sum) : sumv xs = xs.sum := by
  unfold sumv
  have key : ∀ (l : List Nat) (v : Nat), N128 (v + l.sum) → l.foldl addv v = v + l.sum := fun l => by
    induction l with
    | nil => intro v _; simp
    | cons a l ih =>
      intro v hv
      rw [List.sum_cons] at hv
      have h1 : N128 (v + a) := by unfold N128 at *; omega
      rw [List.foldl_cons, addv_t h1, ih _ (by unfold N128 at *; omega), List.sum_cons]
      omega
  have := key xs 0 (by simpa using h)
  simpa using this
theorem sum_bound (xs : List Nat) (hx : ∀ x ∈ xs, x < 18446744073709551616) : xs.sum ≤ xs.length * 18446744073709551615 := by
  induction xs with
  | nil => simp
  | cons a l ih =>
    have h1 := hx a (by simp)
    have h2 := ih fun x h => hx x (by simp [h])
    rw [List.sum_cons, List.length_cons, Nat.add_mul]
    omega
theorem sumv_turn (xs : List Nat) (t : Nat) (hl : xs.length ≤ 200) (hx : ∀ x ∈ xs, x < 18446744073709551616) : sumv (tnr xs t) = sumv xs := by
  have b := sum_bound xs hx
  have h : N128 xs.sum := by
    unfold N128
    have := Nat.mul_le_mul_right 18446744073709551615 hl
    omega
  rw [sumv_sum xs h, sumv_sum _ (by rw [tnr_sum]; exact h), tnr_sum]

theorem own_below {w w' : World} {base : Nat} {e : TypeId} {size : Nat} {v : Value} {n : Nat} {xs : List Value} (h : w.ownsRow base e size v n xs) (b : Below w.heap.size w w') : w'.ownsRow base e size v n xs :=
  h.kept (row := none) ⟨b.os, b.tape, b.output, b.size, fun k hk _ => b.block k hk⟩ (by cases v.ownBlock <;> simp)
/-- the numbers as cells -/
def ucells (xs : List Nat) : List Value := xs.map fun x : Nat => Value.int .u64 (x : Int)
theorem ucells_snoc {xs : List Nat} {k : Nat} (h : k < xs.length) : ucells (xs.take (k + 1)) = ucells (xs.take k) ++ [Value.int .u64 ((xs.getD k 0 : Nat) : Int)] := by
  unfold ucells
  rw [List.take_succ_eq_append_getElem h, List.map_append]
  simp [List.getD, List.getElem?_eq_getElem h]

end Go.Proofs.Ytfcplfbofobdpaa
