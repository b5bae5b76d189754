/-
  The library of all later seats, LibA: Row, NL, Math01, Mtr, Spc, Put, Foot, OpenMath, Zeros.
-/
import Derived.WalkKit
import Derived.RowKit3
import Derived.Below
import Derived.Lib.Hide
import Derived.WalkSmall
import Derived.Deep.Draws
import Derived.Laws.AppendOwn
import Derived.Laws.AppendOwnNone
import Derived.Laws.Rows
import Derived.Lib.SliceRun
import Derived.Deep.AppendLies
import Derived.Lib.AppendZerosOnto
/-! Row: A block of memory known cell by cell. No program in sight. -/
namespace Go.Proofs.YtppmicepkjhfeaaGreat
open Go.RowKit

/-- Block g holds f 0 .. f (n-1), none of it frozen. -/
structure Row (w : World) (g n : Nat) (f : Nat → Value) : Prop where
  lt : g < w.heap.size
  cell : ∀ j, j < n → w.cell? ⟨g, j, none⟩ = some (f j)
  free : ∀ j, w.frozen? ⟨g, j, none⟩ = false
theorem Row.below {w w' : World} {g n : Nat} {f : Nat → Value} (h : Row w g n f) (b : Below w.heap.size w w') : Row w' g n f :=
  ⟨Nat.lt_of_lt_of_le h.lt b.size, fun j hj => by rw [b.cell (p := ⟨g, j, none⟩) h.lt]; exact h.cell j hj, fun j => by rw [b.frozen (p := ⟨g, j, none⟩) h.lt]; exact h.free j⟩
theorem Row.alloc {w : World} {g n : Nat} {f : Nat → Value} (h : Row w g n f) (o : Obj) : Row (w.alloc o) g n f := h.below ((Below.refl _ _).alloc (Nat.le_refl _) o)
theorem Row.drewN {w : World} {g n : Nat} {f : Nat → Value} (h : Row w g n f) (k : Nat) : Row (w.drewN k) g n f := ⟨h.lt, h.cell, h.free⟩
theorem Row.drew {w : World} {g n : Nat} {f : Nat → Value} (h : Row w g n f) : Row w.drew g n f := ⟨h.lt, h.cell, h.free⟩
theorem Row.far {w : World} {g n : Nat} {f : Nat → Value} (h : Row w g n f) {p : Addr} (v : Value) (hp : p.block ≠ g) : Row (w.setCell p v) g n f :=
  ⟨by simpa using h.lt, fun j hj => by rw [World.cell?_setCell_other w p ⟨g, j, none⟩ v (fun e => hp (by rw [e]))]; exact h.cell j hj, fun j => by rw [World.frozen?_setCell]; exact h.free j⟩
theorem Row.set {w : World} {g n : Nat} {f : Nat → Value} (h : Row w g n f) (k : Nat) (hk : k < n) (v : Value) : Row (w.setCell ⟨g, k, none⟩ v) g n (fun j => if j = k then v else f j) := by
  refine ⟨by simpa using h.lt, fun j hj => ?_, fun j => by rw [World.frozen?_setCell]; exact h.free j⟩
  by_cases e : j = k
  · subst e; rw [World.cell?_setCell_same w _ v (h.cell j hj)]; simp
  · rw [World.cell?_setCell_other w ⟨g, k, none⟩ ⟨g, j, none⟩ v (by simp)]; simp [e, h.cell j hj]
theorem Row.congr {w : World} {g n : Nat} {f f' : Nat → Value} (h : Row w g n f) (e : ∀ j, j < n → f j = f' j) : Row w g n f' :=
  ⟨h.lt, fun j hj => by rw [← e j hj]; exact h.cell j hj, h.free⟩
/-- a new block -/
theorem Row.new (w : World) (C : Array Value) (t : TypeId) (n : Nat) (f : Nat → Value) (h : ∀ j, j < n → C[j]? = some (f j)) : Row (w.alloc (.cells C t)) w.heap.size n f :=
  ⟨by simp, fun j hj => by rw [World.cell?_alloc_new]; exact h j hj, fun j => by simp⟩
theorem Row.newAt (w : World) (C : Array Value) (t : TypeId) (g n : Nat) (f : Nat → Value) (hg : g = w.heap.size) (h : ∀ j, j < n → C[j]? = some (f j)) : Row (w.alloc (.cells C t)) g n f := by
  subst hg; exact Row.new w C t n f h

end Go.Proofs.YtppmicepkjhfeaaGreat

/-! NL: Lists of words in memory, in a slice of any kind; small laws on worlds. No program in sight. -/
namespace Go.Proofs.YtppmicepkjhfeaaGreat
open Go.RowKit
set_option linter.unusedVariables false

theorem add_at (b off j : Nat) : (⟨b, off, none⟩ : Addr).add j = ⟨b, off + j, none⟩ := by unfold Addr.add; split <;> simp_all
/-- a word -/
def pw (n : Nat) : Value := .int .u64 (n : Int)
/-- The list that a slice holds in a world, its elements as p says. -/
def NL (p : Nat → Value) (w : World) (v : Value) (L : List Nat) : Prop := ∃ a cap, v = .slice a L.length cap ∧ L.length ≤ cap ∧ (a = none → cap = 0) ∧ (L.length = 0 ∨ ∃ b off, a = some ⟨b, off, none⟩ ∧ b < w.heap.size ∧ ∀ i, i < L.length → w.cell? ⟨b, off + i, none⟩ = some (p (L.getD i 0)))
theorem NL.below {p : Nat → Value} {w w' : World} {v : Value} {L : List Nat} (h : NL p w v L) (hb : Below w.heap.size w w') : NL p w' v L := by
  obtain ⟨a, cap, rfl, hcap, hnil, h⟩ := h
  refine ⟨a, cap, rfl, hcap, hnil, ?_⟩
  rcases h with h | ⟨b, off, rfl, hlt, hc⟩
  · exact .inl h
  · exact .inr ⟨b, off, rfl, Nat.lt_of_lt_of_le hlt hb.size, fun i hi => (hb.cell (p := ⟨b, off + i, none⟩) hlt).trans (hc i hi)⟩
theorem NL.nil (p : Nat → Value) (w : World) : NL p w (.slice none 0 0) [] := ⟨none, 0, rfl, Nat.le_refl _, fun _ => rfl, .inl rfl⟩
theorem NL.slice {p : Nat → Value} {w : World} {v : Value} {L : List Nat} (h : NL p w v L) : ∃ a cap, v = .slice a L.length cap := by
  obtain ⟨a, cap, e, _⟩ := h
  exact ⟨a, cap, e⟩
theorem NL.of_row {p : Nat → Value} {w : World} {g c : Nat} {L : List Nat} (h : Row w g L.length (fun j => p (L.getD j 0))) (hc : L.length ≤ c) : NL p w (.slice (some ⟨g, 0, none⟩) L.length c) L :=
  ⟨_, c, rfl, hc, (fun e => nomatch e), .inr ⟨g, 0, rfl, h.lt, fun i hi => by rw [Nat.zero_add]; exact h.cell i hi⟩⟩
/-- a list's cells, as an append of it asks for them -/
theorem NL.cells {p : Nat → Value} {w : World} {a : Option Addr} {n cap : Nat} {L : List Nat} (h : NL p w (.slice a n cap) L) : a = none ∧ n = 0 ∧ cap = 0 ∨ ∃ ad, a = some ad ∧ ∀ j u, (L.map p)[j]? = some u → w.cell? (ad.add j) = some u := by
  obtain ⟨a', c', e, hcap, hnil, h⟩ := h
  injection e with e1 e2 e3
  subst e1; subst e2; subst e3
  rcases h with h0 | ⟨b, off, rfl, hb, hc⟩
  · cases a with
    | none => exact .inl ⟨rfl, h0, hnil rfl⟩
    | some x =>
      refine .inr ⟨x, rfl, fun j u hj => ?_⟩
      rw [List.getElem?_eq_none (by simp; omega)] at hj; cases hj
  · refine .inr ⟨_, rfl, fun j u hj => ?_⟩
    have hjn : j < L.length := by
      rcases Nat.lt_or_ge j L.length with h | h
      · exact h
      · rw [List.getElem?_eq_none (by simp; omega)] at hj; cases hj
    rw [add_at, hc j hjn]
    simp [List.getElem?_eq_getElem hjn] at hj
    subst hj
    simp [List.getD, List.getElem?_eq_getElem hjn]
/-- Block g is a row of n cells of type t. -/
def Cells (w : World) (g : Nat) (t : TypeId) (n : Nat) : Prop := ∃ cur, w.heap[g]? = some (.cells cur t (0, 0)) ∧ cur.size = n
theorem Cells.below {w w' : World} {g n : Nat} {t : TypeId} (h : Cells w g t n) (b : Below w.heap.size w w') : Cells w' g t n := by
  obtain ⟨cur, hg, hs⟩ := h
  exact ⟨cur, (b.block g (Array.getElem?_eq_some_iff.1 hg).1).trans hg, hs⟩
theorem Cells.set {w : World} {g n : Nat} {t : TypeId} (h : Cells w g t n) (b i : Nat) (v : Value) : Cells (w.setCell ⟨b, i, none⟩ v) g t n := by
  obtain ⟨cur, hg, hs⟩ := h
  by_cases e : g = b
  · subst e
    exact ⟨_, heap_setCell_same w g i cur t v hg, by simpa using hs⟩
  · exact ⟨cur, (heap_setCell_other w ⟨b, i, none⟩ g v e).trans hg, hs⟩
theorem Cells.drew {w : World} {g n : Nat} {t : TypeId} (h : Cells w g t n) : Cells w.drew g t n := h
/-- a row that is known cell by cell, as an append asks for it -/
theorem own_of_row {w : World} {g n c size B : Nat} {t : TypeId} {f : Nat → Value} (h : Cells w g t (c * size)) (r : Row w g (n * size) f) (hn : n ≤ c) (hm : c ≤ maxLen) (hB : B ≤ g) : w.ownsRow B t size (.slice (some ⟨g, 0, none⟩) n c) n ((List.range (n * size)).map f) := by
  obtain ⟨cur, hg, hs⟩ := h
  have hle : n * size ≤ c * size := Nat.mul_le_mul_right _ hn
  refine ⟨by simp, .inr ⟨g, c, cur, rfl, hB, hg, hn, hm, hs, ?_⟩⟩
  refine List.ext_getElem? fun j => ?_
  by_cases hj : j < n * size
  · have e := r.cell j hj
    rw [cell_of_row w g j _ _ _ hg] at e
    rw [List.getElem?_take_of_lt hj]
    simpa [hj] using e
  · rw [List.getElem?_eq_none (by simp; omega), List.getElem?_eq_none (by simp; omega)]
/-- a row of one's own, cell by cell -/
theorem Row.of_ownsG {w : World} {B : Nat} {t : TypeId} {size : Nat} {v : Value} {n : Nat} {xs : List Value} {f : Nat → Value} (h : w.ownsRow B t size v n xs) (hv : v ≠ .slice none 0 0) (hf : ∀ j, j < n * size → xs[j]? = some (f j)) : ∃ g cap, v = .slice (some ⟨g, 0, none⟩) n cap ∧ n ≤ cap ∧ B ≤ g ∧ Row w g (n * size) f ∧ cap ≤ maxLen ∧ Cells w g t (cap * size) := by
  rcases h.2 with ⟨h0, _⟩ | ⟨g, cap, cur, rfl, hb, hg, hn, hm, hs, ht⟩
  · exact absurd h0 hv
  · refine ⟨g, cap, rfl, hn, hb, ⟨(Array.getElem?_eq_some_iff.1 hg).1, fun j hj => ?_, fun j => frozen_of_row w g j _ _ hg⟩, hm, cur, hg, hs⟩
    rw [cell_of_row w g j _ _ _ hg]
    have e := hf j hj
    rw [← ht, List.getElem?_take_of_lt hj] at e
    simpa using e
theorem info_parts2 {P : Program} {t : TypeId} {z : Value} {s b : Nat} (h : (P.info? t).map (fun i => (i.zero, i.size, i.bytes)) = some (some z, s, b)) : ∃ i, P.info? t = some i ∧ i.zero = some z ∧ i.size = s ∧ i.bytes = b := by
  cases hi : P.info? t with
  | none => rw [hi] at h; cases h
  | some i =>
    rw [hi] at h
    simp at h
    exact ⟨i, rfl, h.1, h.2.1, h.2.2⟩

end Go.Proofs.YtppmicepkjhfeaaGreat

/-! Math01: Plain numbers of 128 bits as two words: no program in sight. -/
namespace Go.Proofs.YtppmicepkjhfeaaGreat
open Go.RowKit

/-- A word of 64 bits. -/
def Word (x : Int) : Prop := 0 ≤ x ∧ x < 18446744073709551616
/-- The upper and the lower word of a number. -/
def hi (n : Nat) : Int := ((n / 18446744073709551616 : Nat) : Int)
def lo (n : Nat) : Int := ((n % 18446744073709551616 : Nat) : Int)
def N128 (n : Nat) : Prop := n < 340282366920938463463374607431768211456
def most : Nat := 340282366920938463463374607431768211455

theorem word_lo (n : Nat) : Word (lo n) := by unfold Word lo; omega
theorem word_hi {n : Nat} (h : N128 n) : Word (hi n) := by unfold Word hi N128 at *; omega
theorem of_words {h l : Int} (a : Word h) (b : Word l) : ∃ n : Nat, N128 n ∧ h = hi n ∧ l = lo n := by
  obtain ⟨a1, a2⟩ := a; obtain ⟨b1, b2⟩ := b
  refine ⟨(h * 18446744073709551616 + l).toNat, ?_, ?_, ?_⟩ <;> simp only [N128, hi, lo] <;> omega
theorem N128_most : N128 most := by unfold N128 most; omega
theorem N128_0 : N128 0 := by unfold N128; omega
theorem val (n : Nat) : (n : Int) = hi n * 18446744073709551616 + lo n := by unfold hi lo; omega
theorem hi_lo_inj {a b : Nat} (h : hi a = hi b) (l : lo a = lo b) : a = b := by unfold hi lo at *; omega
theorem hi_of_lt {n : Nat} (h : n < 18446744073709551616) : hi n = 0 := by unfold hi; omega
theorem lo_of_lt {n : Nat} (h : n < 18446744073709551616) : lo n = n := by unfold lo; omega
theorem hi_0 : hi 0 = 0 := by unfold hi; rfl
theorem lo_0 : lo 0 = 0 := by unfold lo; rfl
theorem hi_most : hi most = 18446744073709551615 := by unfold hi most; rfl
theorem lo_most : lo most = 18446744073709551615 := by unfold lo most; rfl

/-! ### the sum -/
def addok (a b : Nat) : Bool := decide (a + b < 340282366920938463463374607431768211456)
def addv (a b : Nat) : Nat := if a + b < 340282366920938463463374607431768211456 then a + b else most
theorem addok_t {a b : Nat} (h : N128 (a + b)) : addok a b = true := by unfold addok; exact decide_eq_true h
theorem addok_f {a b : Nat} (h : ¬ N128 (a + b)) : addok a b = false := by unfold addok; exact decide_eq_false h
theorem addv_t {a b : Nat} (h : N128 (a + b)) : addv a b = a + b := by unfold addv; exact if_pos h
theorem addv_f {a b : Nat} (h : ¬ N128 (a + b)) : addv a b = most := by unfold addv; exact if_neg h
theorem N128_addv (a b : Nat) : N128 (addv a b) := by
  by_cases h : N128 (a + b)
  · rw [addv_t h]; exact h
  · rw [addv_f h]; exact N128_most
theorem add_lo (a b : Nat) : (lo a + lo b) % 18446744073709551616 = lo (a + b) := by unfold lo; omega
theorem add_hi {a b : Nat} (h : N128 (a + b)) : (hi a + hi b + (lo a + lo b) / 18446744073709551616) % 18446744073709551616 = hi (a + b) := by unfold hi lo N128 at *; omega
theorem add_c {a b : Nat} (h : N128 (a + b)) : (hi a + hi b + (lo a + lo b) / 18446744073709551616) / 18446744073709551616 = 0 := by unfold hi lo N128 at *; omega
theorem add_c1 {a b : Nat} (ha : N128 a) (hb : N128 b) (h : ¬ N128 (a + b)) : (hi a + hi b + (lo a + lo b) / 18446744073709551616) / 18446744073709551616 = 1 := by unfold hi lo N128 at *; omega
theorem add_k (a b : Nat) : 0 ≤ (lo a + lo b) / 18446744073709551616 ∧ (lo a + lo b) / 18446744073709551616 ≤ 1 := by unfold lo; omega

/-! ### the difference -/
/-- a borrow -/
def bor (x y : Int) : Int := if x < y then 1 else 0
theorem bor_b (x y : Int) : 0 ≤ bor x y ∧ bor x y ≤ 1 := by unfold bor; split <;> omega
def subok (a b : Nat) : Bool := decide (b ≤ a)
def subv (a b : Nat) : Nat := a - b
theorem sub_lo {a b : Nat} (h : b ≤ a) : (lo a - lo b) % 18446744073709551616 = lo (a - b) := by unfold lo; omega
theorem sub_hi {a b : Nat} (ha : N128 a) (h : b ≤ a) : (hi a - hi b - bor (lo a) (lo b)) % 18446744073709551616 = hi (a - b) := by
  unfold hi lo bor N128 at *; split <;> omega
theorem sub_c {a b : Nat} (h : b ≤ a) : bor (hi a) (hi b + bor (lo a) (lo b)) = 0 := by
  have e : ¬ hi a < hi b + bor (lo a) (lo b) := by unfold hi lo bor; split <;> omega
  rw [show bor (hi a) (hi b + bor (lo a) (lo b)) = if hi a < hi b + bor (lo a) (lo b) then 1 else 0 from rfl, if_neg e]
theorem sub_c1 {a b : Nat} (h : a < b) : bor (hi a) (hi b + bor (lo a) (lo b)) = 1 := by
  have e : hi a < hi b + bor (lo a) (lo b) := by unfold hi lo bor; split <;> omega
  rw [show bor (hi a) (hi b + bor (lo a) (lo b)) = if hi a < hi b + bor (lo a) (lo b) then 1 else 0 from rfl, if_pos e]

/-! ### the product, the quotient -/
def mulok (a n : Nat) : Bool := decide (a * n < 340282366920938463463374607431768211456)
def mulv (a n : Nat) : Nat := if a * n < 340282366920938463463374607431768211456 then a * n else most
theorem mulok_t {a n : Nat} (h : N128 (a * n)) : mulok a n = true := by unfold mulok; exact decide_eq_true h
theorem mulok_f {a n : Nat} (h : ¬ N128 (a * n)) : mulok a n = false := by unfold mulok; exact decide_eq_false h
theorem mulv_t {a n : Nat} (h : N128 (a * n)) : mulv a n = a * n := by unfold mulv; exact if_pos h
theorem mulv_f {a n : Nat} (h : ¬ N128 (a * n)) : mulv a n = most := by unfold mulv; exact if_neg h
theorem N128_mulv (a n : Nat) : N128 (mulv a n) := by
  by_cases h : N128 (a * n)
  · rw [mulv_t h]; exact h
  · rw [mulv_f h]; exact N128_most
theorem mul_parts (a n : Nat) : ((a * n : Nat) : Int) = hi a * n * 18446744073709551616 + lo a * n := by
  rw [Int.natCast_mul, val a, Int.add_mul, Int.mul_assoc, Int.mul_comm 18446744073709551616, ← Int.mul_assoc]
theorem prod_word {x y : Int} (hx : Word x) (hy : Word y) : 0 ≤ x * y ∧ x * y ≤ 340282366920938463426481119284349108225 := by
  obtain ⟨a, b⟩ := hx; obtain ⟨c, d⟩ := hy
  refine ⟨Int.mul_nonneg a c, ?_⟩
  have h1 := Int.mul_le_mul_of_nonneg_right (show x ≤ 18446744073709551615 by omega) c
  have h2 := Int.mul_le_mul_of_nonneg_left (show y ≤ 18446744073709551615 by omega) (show (0 : Int) ≤ 18446744073709551615 by omega)
  omega
theorem mul_lo (a n : Nat) : lo (a * n) = lo a * n % 18446744073709551616 := by
  have h := mul_parts a n
  unfold lo at *
  generalize hP : ((a % 18446744073709551616 : Nat) : Int) * n = P at *
  generalize hi a * n = Q at *
  generalize a * n = c at *
  omega
theorem mul_hi {a n : Nat} (hn : Word n) (h : N128 (a * n)) : hi (a * n) = (hi a * n % 18446744073709551616 + lo a * n / 18446744073709551616) % 18446744073709551616 := by
  have e := mul_parts a n
  have b := prod_word (word_lo a) hn
  generalize lo a * n = P at *
  generalize hi a * n = Q at *
  generalize a * n = c at *
  unfold hi N128 at *
  omega
theorem mul_fit {a n : Nat} (ha : N128 a) (hn : Word n) : N128 (a * n) ↔ hi a * n / 18446744073709551616 = 0 ∧ (hi a * n % 18446744073709551616 + lo a * n / 18446744073709551616) / 18446744073709551616 = 0 := by
  have e := mul_parts a n
  have b := prod_word (word_lo a) hn
  have b2 := prod_word (word_hi ha) hn
  generalize lo a * n = P at *
  generalize hi a * n = Q at *
  generalize a * n = c at *
  unfold N128 at *
  omega
theorem mul_k {a n : Nat} (ha : N128 a) (hn : Word n) : 0 ≤ hi a * n / 18446744073709551616 ∧ 0 ≤ lo a * n / 18446744073709551616 ∧ lo a * n / 18446744073709551616 < 18446744073709551616 := by
  have b := prod_word (word_lo a) hn
  have b2 := prod_word (word_hi ha) hn
  generalize lo a * n = P at *
  generalize hi a * n = Q at *
  omega

theorem div_parts (a n : Nat) (hn : 0 < n) : hi (a / n) = hi a / n ∧ lo (a / n) = (hi a % n * 18446744073709551616 + lo a) / n ∧ ((a % n : Nat) : Int) = (hi a % n * 18446744073709551616 + lo a) % n := by
  have hp : (0 : Int) < n := by omega
  have e0 : (a : Int) = (hi a % n * 18446744073709551616 + lo a) + n * (hi a / n * 18446744073709551616) := by
    have d := Int.mul_ediv_add_emod (hi a) n
    have v := val a
    rw [← Int.mul_assoc]
    generalize hi a / n = q at *
    generalize hi a % n = r at *
    generalize hi a = H at *
    rw [v, ← d, Int.add_mul]
    omega
  have m0 := Int.emod_nonneg (hi a) (show (n : Int) ≠ 0 by omega)
  have m1 := Int.emod_lt_of_pos (hi a) hp
  have lw := word_lo a
  have h1 : (hi a % n * 18446744073709551616 + lo a) / n < 18446744073709551616 := by
    refine Int.ediv_lt_of_lt_mul hp ?_
    have := Int.mul_le_mul_of_nonneg_right (show hi a % n + 1 ≤ n by omega) (show (0 : Int) ≤ 18446744073709551616 by omega)
    unfold Word at lw
    rw [Int.mul_comm 18446744073709551616]
    omega
  have h0 : 0 ≤ (hi a % n * 18446744073709551616 + lo a) / n := Int.ediv_nonneg (by unfold Word at lw; omega) (by omega)
  have q : ((a / n : Nat) : Int) = (hi a % n * 18446744073709551616 + lo a) / n + hi a / n * 18446744073709551616 := by
    rw [Int.natCast_ediv, e0, Int.add_mul_ediv_left _ _ (by omega)]
  refine ⟨?_, ?_, ?_⟩
  · unfold hi at q ⊢; unfold hi at h0 h1; generalize a / n = c at *; omega
  · unfold lo at q h0 h1 ⊢; generalize a / n = c at *; omega
  · rw [Int.natCast_emod, e0, Int.add_mul_emod_self_left]

/-! ### the order -/
def cmpv (a b : Nat) : Int := if a < b then -1 else if a = b then 0 else 1
theorem lt_hi {a b : Nat} (h : hi a < hi b) : a < b := by unfold hi at h; omega
theorem lt_lo {a b : Nat} (e : hi a = hi b) : (lo a < lo b) ↔ a < b := by unfold hi lo at *; omega
def ltv (a b : Nat) : Bool := decide (a < b)
/-- the order of two pairs of words -/
def ltw (ah al bh bl : Int) : Bool := if ah = bh then decide (al < bl) else decide (ah < bh)
theorem ltw_eq (ah al bl : Int) : ltw ah al ah bl = decide (al < bl) := by unfold ltw; exact if_pos rfl
theorem ltw_ne {ah al bh bl : Int} (h : ¬ ah = bh) : ltw ah al bh bl = decide (ah < bh) := by unfold ltw; exact if_neg h
theorem ltw_v (a b : Nat) : ltw (hi a) (lo a) (hi b) (lo b) = ltv a b := by
  by_cases h : hi a = hi b
  · rw [h, ltw_eq]; unfold ltv; exact decide_eq_decide.2 (lt_lo h)
  · rw [ltw_ne h]; unfold ltv hi at *; exact decide_eq_decide.2 (by omega)
def cmpw (ah al bh bl : Int) : Int := if ah = bh ∧ al = bl then 0 else if ltw ah al bh bl then -1 else 1
theorem cmpw_v (a b : Nat) : cmpw (hi a) (lo a) (hi b) (lo b) = cmpv a b := by
  unfold cmpw cmpv; rw [ltw_v]; unfold ltv
  by_cases h : a = b
  · subst h; simp
  · have e : ¬ (hi a = hi b ∧ lo a = lo b) := fun k => h (hi_lo_inj k.1 k.2)
    rw [if_neg e]; simp [h]

/-! ### digits of 32 bits -/
def dig (a j : Nat) : Int := ((a / 4294967296 ^ j % 4294967296 : Nat) : Int)
theorem dig_b (a j : Nat) : 0 ≤ dig a j ∧ dig a j < 4294967296 := by unfold dig; omega
theorem dig0 (a : Nat) : dig a 0 = lo a % 4294967296 := by unfold dig lo; simp
theorem dig1 (a : Nat) : dig a 1 = lo a / 4294967296 := by unfold dig lo; simp; omega
theorem dig2 (a : Nat) : dig a 2 = hi a % 4294967296 := by unfold dig hi; simp
theorem dig3 {a : Nat} (h : N128 a) : dig a 3 = hi a / 4294967296 := by unfold dig hi N128 at *; simp; omega
theorem dig4 {a : Nat} (h : N128 a) : dig a 4 = 0 := by unfold dig N128 at *; simp; omega
theorem dig5 {a : Nat} (h : N128 a) : dig a 5 = 0 := by unfold dig N128 at *; simp; omega
theorem dig_split (a j : Nat) : a / 4294967296 ^ j = a / 4294967296 ^ (j + 1) * 4294967296 + a / 4294967296 ^ j % 4294967296 := by
  rw [Nat.pow_succ, ← Nat.div_div_eq_div_mul]; omega
theorem dig_lt {a b j : Nat} (h : a / 4294967296 ^ (j + 1) = b / 4294967296 ^ (j + 1)) (l : dig a j < dig b j) : a < b := by
  have x := dig_split a j; have y := dig_split b j
  unfold dig at l
  have : a / 4294967296 ^ j < b / 4294967296 ^ j := by omega
  rcases Nat.lt_or_ge a b with c | c
  · exact c
  · exact absurd (Nat.div_le_div_right (c := 4294967296 ^ j) c) (by omega)
theorem dig_eq {a b j : Nat} (h : a / 4294967296 ^ (j + 1) = b / 4294967296 ^ (j + 1)) (l : dig a j = dig b j) : a / 4294967296 ^ j = b / 4294967296 ^ j := by
  have x := dig_split a j; have y := dig_split b j
  unfold dig at l
  omega
theorem whole_hi {a : Nat} (h : N128 a) : dig a 3 * 4294967296 + dig a 2 = hi a := by rw [dig3 h, dig2]; omega
theorem whole_lo (a : Nat) : dig a 1 * 4294967296 + dig a 0 = lo a := by rw [dig1, dig0]; omega
/-- a number, or the greatest one and false -/
def capv (s : Nat) : Nat := if s < 340282366920938463463374607431768211456 then s else most
def okv (s : Nat) : Bool := decide (s < 340282366920938463463374607431768211456)
theorem addv_cap (a b : Nat) : addv a b = capv (a + b) := rfl
theorem addok_cap (a b : Nat) : addok a b = okv (a + b) := rfl
theorem mulv_cap (a b : Nat) : mulv a b = capv (a * b) := rfl
theorem mulok_cap (a b : Nat) : mulok a b = okv (a * b) := rfl
theorem capv_t {s : Nat} (h : N128 s) : capv s = s := if_pos h
theorem capv_f {s : Nat} (h : ¬ N128 s) : capv s = most := if_neg h
theorem okv_t {s : Nat} (h : N128 s) : okv s = true := decide_eq_true h
theorem okv_f {s : Nat} (h : ¬ N128 s) : okv s = false := decide_eq_false h
theorem big_dig {s : Nat} (h : ¬ N128 s) (b : s < 4294967296 ^ 6) : dig s 4 ≠ 0 ∨ dig s 5 ≠ 0 := by
  unfold dig N128 at *
  simp at *
  omega
/-! ### the sum, digit by digit -/
def car (a b k : Nat) : Int := (((a % 4294967296 ^ k + b % 4294967296 ^ k) / 4294967296 ^ k : Nat) : Int)
theorem add_split (a b P : Nat) (hP : 0 < P) : (a + b) / P = a / P + b / P + (a % P + b % P) / P := by
  have ea := Nat.div_add_mod a P; have eb := Nat.div_add_mod b P
  have : a + b = (a % P + b % P) + P * (a / P + b / P) := by rw [Nat.mul_add]; omega
  rw [this, Nat.add_mul_div_left _ _ hP]; omega
theorem mod_split (a P : Nat) : a % (P * 4294967296) = a % P + P * (a / P % 4294967296) := Nat.mod_mul
theorem pow_pos32 (k : Nat) : 0 < 4294967296 ^ k := Nat.pow_pos (by omega)
theorem car_b (a b k : Nat) : 0 ≤ car a b k ∧ car a b k ≤ 1 := by
  unfold car
  have hp := pow_pos32 k
  have h1 := Nat.mod_lt a hp; have h2 := Nat.mod_lt b hp
  have : (a % 4294967296 ^ k + b % 4294967296 ^ k) / 4294967296 ^ k < 2 := Nat.div_lt_of_lt_mul (by omega)
  generalize (a % 4294967296 ^ k + b % 4294967296 ^ k) / 4294967296 ^ k = z at *
  omega
theorem car_0 (a b : Nat) : car a b 0 = 0 := by unfold car; simp [Nat.mod_one]
theorem car_dig (a b k : Nat) : (dig a k + dig b k + car a b k) % 4294967296 = dig (a + b) k := by
  unfold dig car
  rw [add_split a b _ (pow_pos32 k)]
  generalize a / 4294967296 ^ k = x
  generalize b / 4294967296 ^ k = y
  generalize (a % 4294967296 ^ k + b % 4294967296 ^ k) / 4294967296 ^ k = z
  omega
theorem car_succ (a b k : Nat) : (dig a k + dig b k + car a b k) / 4294967296 = car a b (k + 1) := by
  unfold dig car
  rw [Nat.pow_succ, mod_split a, mod_split b]
  have hp := pow_pos32 k
  generalize 4294967296 ^ k = P at *
  have : (a % P + P * (a / P % 4294967296) + (b % P + P * (b / P % 4294967296))) = (a % P + b % P) + P * (a / P % 4294967296 + b / P % 4294967296) := by rw [Nat.mul_add]; omega
  rw [this, ← Nat.div_div_eq_div_mul, Nat.add_mul_div_left _ _ hp]
  generalize a / P % 4294967296 = x
  generalize b / P % 4294967296 = y
  generalize (a % P + b % P) / P = z
  omega
theorem cmpv_lt {a b : Nat} (h : a < b) : cmpv a b = -1 := by unfold cmpv; exact if_pos h
theorem cmpv_gt {a b : Nat} (h : b < a) : cmpv a b = 1 := by unfold cmpv; rw [if_neg (by omega), if_neg (by omega)]
theorem cmpv_eq (a : Nat) : cmpv a a = 0 := by unfold cmpv; simp

attribute [irreducible] hi lo dig car most bor
end Go.Proofs.YtppmicepkjhfeaaGreat

/-! Mtr: A meter in plain numbers; its cells in memory; a world that has turned in one block alone. No program in sight. -/
namespace Go.Proofs.YtppmicepkjhfeaaGreat
open Go.RowKit
set_option linter.unusedVariables false

/-- a fact laid in the midst of a walk -/
theorem lay {p q : Prop} (h : p) (k : p → q) : q := k h

/-! ### what a call makes of a meter -/
/-- the counter of kind q behind a Step of kind k -/
def stepv (q k n : Int) (x : Nat) : Nat := if k = q ∧ 0 < n then addv x n.toNat else x
def holdOk (h n : Int) : Prop := 0 ≤ n ∧ n ≤ 281474976710656 - h
def holdh (h n : Int) : Int := if 0 ≤ n ∧ n ≤ 281474976710656 - h then h + n else h
def holdg (h g n : Int) : Int := if 0 ≤ n ∧ n ≤ 281474976710656 - h then (if g < h + n then h + n else g) else g
def holde (h n : Int) : Int := if n < 0 then 1 else if 281474976710656 - h < n then 3 else 0
def freeh (h n : Int) : Int := if 0 ≤ n ∧ n ≤ h then h - n else h
def freee (h n : Int) : Int := if n < 0 then 1 else if h < n then 4 else 0
theorem stepv_y {q k n : Int} (x : Nat) (h : k = q) (p : 0 < n) : stepv q k n x = addv x n.toNat := by unfold stepv; exact if_pos ⟨h, p⟩
theorem stepv_n {q k n : Int} (x : Nat) (h : ¬ (k = q ∧ 0 < n)) : stepv q k n x = x := by unfold stepv; exact if_neg h
theorem stepv_N {q k n : Int} {x : Nat} (h : N128 x) : N128 (stepv q k n x) := by
  unfold stepv; split
  · exact N128_addv _ _
  · exact h
theorem addv_ge {a b : Nat} (ha : N128 a) : a ≤ addv a b := by
  by_cases h : N128 (a + b)
  · rw [addv_t h]; omega
  · rw [addv_f h]; unfold N128 most at *; omega
theorem stepv_ge {q k n : Int} {x : Nat} (h : N128 x) : x ≤ stepv q k n x := by
  unfold stepv; split
  · exact addv_ge h
  · omega
theorem addv_mono {a b c d : Nat} (hc : a ≤ c) (hd : b ≤ d) (h1 : N128 a) : addv a b ≤ addv c d := by
  by_cases h : N128 (c + d)
  · have h' : N128 (a + b) := by unfold N128 at *; omega
    rw [addv_t h, addv_t h']; omega
  · rw [addv_f h]
    have := N128_addv a b
    unfold N128 most at *; omega
theorem cmpv_up {a b : Nat} (h : b ≤ a) : 0 ≤ cmpv a b := by
  unfold cmpv; rw [if_neg (by omega)]; split <;> omega
/-- what is right of the words in use, always -/
def Fit (h g : Int) : Prop := 0 ≤ h ∧ h ≤ g ∧ g ≤ 281474976710656
theorem Fit.hold {h g n : Int} (f : Fit h g) : Fit (holdh h n) (holdg h g n) := by
  unfold Fit at *; unfold holdh holdg
  split
  · split <;> omega
  · omega
theorem Fit.free {h g n : Int} (f : Fit h g) : Fit (freeh h n) g := by
  unfold Fit at *; unfold freeh; split <;> omega
theorem holdg_ge {h g n : Int} : g ≤ holdg h g n := by
  unfold holdg; split
  · split <;> omega
  · omega

/-! ### its cells -/
/-- those of a meter: in use, the greatest number, reads, writes -/
def mc (a b : Nat) (h g : Int) (j : Nat) : Value := if j = 0 then .int .i64 h else if j = 1 then .int .i64 g else if j = 2 then .int .u64 (hi a) else if j = 3 then .int .u64 (lo a) else if j = 4 then .int .u64 (hi b) else .int .u64 (lo b)
/-- those of a state: reads, writes, in use, the greatest number -/
def sc (a b : Nat) (h g : Int) (j : Nat) : Value := if j = 0 then .int .u64 (hi a) else if j = 1 then .int .u64 (lo a) else if j = 2 then .int .u64 (hi b) else if j = 3 then .int .u64 (lo b) else if j = 4 then .int .i64 h else .int .i64 g
/-- those of a wide number -/
def wc2 (a : Nat) (j : Nat) : Value := if j = 0 then .int .u64 (hi a) else .int .u64 (lo a)
theorem six {j : Nat} (h : j < 6) : j = 0 ∨ j = 1 ∨ j = 2 ∨ j = 3 ∨ j = 4 ∨ j = 5 := by omega
theorem mc_new (a b : Nat) (h g : Int) (j : Nat) (hj : j < 6) : (#[Value.int .i64 h, .int .i64 g, .int .u64 (hi a), .int .u64 (lo a), .int .u64 (hi b), .int .u64 (lo b)] : Array Value)[j]? = some (mc a b h g j) := by
  rcases six hj with rfl | rfl | rfl | rfl | rfl | rfl <;> rfl
theorem sc_new (a b : Nat) (h g : Int) (j : Nat) (hj : j < 6) : (#[Value.int .u64 (hi a), .int .u64 (lo a), .int .u64 (hi b), .int .u64 (lo b), .int .i64 h, .int .i64 g] : Array Value)[j]? = some (sc a b h g j) := by
  rcases six hj with rfl | rfl | rfl | rfl | rfl | rfl <;> rfl
theorem wc2_new (a : Nat) (j : Nat) (hj : j < 2) : (#[Value.int .u64 (hi a), .int .u64 (lo a)] : Array Value)[j]? = some (wc2 a j) := by
  have h : j = 0 ∨ j = 1 := by omega
  rcases h with rfl | rfl <;> rfl
/-- a meter, a state, a number in a block -/
def MRow (w : World) (m : Nat) (a b : Nat) (h g : Int) : Prop := Row w m 6 (mc a b h g)
def SRow (w : World) (s : Nat) (a b : Nat) (h g : Int) : Prop := Row w s 6 (sc a b h g)
def WRow (w : World) (v : Nat) (a : Nat) : Prop := Row w v 2 (wc2 a)
theorem MRow.all {w : World} {m a b : Nat} {h g : Int} (r : MRow w m a b h g) : w.cell? ⟨m, 0, none⟩ = some (.int .i64 h) ∧ w.cell? ⟨m, 1, none⟩ = some (.int .i64 g) ∧ w.cell? ⟨m, 2, none⟩ = some (.int .u64 (hi a)) ∧ w.cell? ⟨m, 3, none⟩ = some (.int .u64 (lo a)) ∧ w.cell? ⟨m, 4, none⟩ = some (.int .u64 (hi b)) ∧ w.cell? ⟨m, 5, none⟩ = some (.int .u64 (lo b)) ∧ (∀ j, w.frozen? ⟨m, j, none⟩ = false) :=
  ⟨r.cell 0 (by omega), r.cell 1 (by omega), r.cell 2 (by omega), r.cell 3 (by omega), r.cell 4 (by omega), r.cell 5 (by omega), r.free⟩
theorem SRow.all {w : World} {m a b : Nat} {h g : Int} (r : SRow w m a b h g) : w.cell? ⟨m, 0, none⟩ = some (.int .u64 (hi a)) ∧ w.cell? ⟨m, 1, none⟩ = some (.int .u64 (lo a)) ∧ w.cell? ⟨m, 2, none⟩ = some (.int .u64 (hi b)) ∧ w.cell? ⟨m, 3, none⟩ = some (.int .u64 (lo b)) ∧ w.cell? ⟨m, 4, none⟩ = some (.int .i64 h) ∧ w.cell? ⟨m, 5, none⟩ = some (.int .i64 g) ∧ (∀ j, w.frozen? ⟨m, j, none⟩ = false) :=
  ⟨r.cell 0 (by omega), r.cell 1 (by omega), r.cell 2 (by omega), r.cell 3 (by omega), r.cell 4 (by omega), r.cell 5 (by omega), r.free⟩
theorem WRow.all {w : World} {v a : Nat} (r : WRow w v a) : w.cell? ⟨v, 0, none⟩ = some (.int .u64 (hi a)) ∧ w.cell? ⟨v, 1, none⟩ = some (.int .u64 (lo a)) ∧ (∀ j, w.frozen? ⟨v, j, none⟩ = false) :=
  ⟨r.cell 0 (by omega), r.cell 1 (by omega), r.free⟩
theorem WRow.c0 {w : World} {v a : Nat} (r : WRow w v a) : w.cell? ⟨v, 0, none⟩ = some (.int .u64 (hi a)) := r.cell 0 (by omega)
theorem WRow.c1 {w : World} {v a : Nat} (r : WRow w v a) : w.cell? ⟨v, 1, none⟩ = some (.int .u64 (lo a)) := r.cell 1 (by omega)
theorem WRow.alloc {w : World} {v a : Nat} (r : WRow w v a) (o : Obj) : WRow (w.alloc o) v a := Row.alloc r o
theorem WRow.far2 {w : World} {v a b : Nat} (r : WRow w v a) (h : v < b) (x y : Value) : WRow ((w.setCell ⟨b, 0, none⟩ x).setCell ⟨b, 1, none⟩ y) v a := Row.far (Row.far r x (by simp; omega)) y (by simp; omega)
theorem WRow.f0 {w : World} {v a b : Nat} (r : WRow w v a) (h : v < b) (x y : Value) : ((w.setCell ⟨b, 0, none⟩ x).setCell ⟨b, 1, none⟩ y).cell? ⟨v, 0, none⟩ = some (.int .u64 (hi a)) := (r.far2 h x y).c0
theorem WRow.f1 {w : World} {v a b : Nat} (r : WRow w v a) (h : v < b) (x y : Value) : ((w.setCell ⟨b, 0, none⟩ x).setCell ⟨b, 1, none⟩ y).cell? ⟨v, 1, none⟩ = some (.int .u64 (lo a)) := (r.far2 h x y).c1
theorem MRow.alloc {w : World} {m a b : Nat} {h g : Int} (r : MRow w m a b h g) (o : Obj) : MRow (w.alloc o) m a b h g := Row.alloc r o
theorem SRow.alloc {w : World} {m a b : Nat} {h g : Int} (r : SRow w m a b h g) (o : Obj) : SRow (w.alloc o) m a b h g := Row.alloc r o
theorem MRow.setH {w : World} {m a b : Nat} {h g : Int} (r : MRow w m a b h g) (x : Int) : MRow (w.setCell ⟨m, 0, none⟩ (.int .i64 x)) m a b x g :=
  (Row.set r 0 (by omega) _).congr fun j hj => by rcases six hj with rfl | rfl | rfl | rfl | rfl | rfl <;> rfl
theorem MRow.setG {w : World} {m a b : Nat} {h g : Int} (r : MRow w m a b h g) (x : Int) : MRow (w.setCell ⟨m, 1, none⟩ (.int .i64 x)) m a b h x :=
  (Row.set r 1 (by omega) _).congr fun j hj => by rcases six hj with rfl | rfl | rfl | rfl | rfl | rfl <;> rfl
theorem MRow.setA {w : World} {m a b : Nat} {h g : Int} (r : MRow w m a b h g) (x : Nat) : MRow ((w.setCell ⟨m, 2, none⟩ (.int .u64 (hi x))).setCell ⟨m, 3, none⟩ (.int .u64 (lo x))) m x b h g :=
  (Row.set (Row.set r 2 (by omega) _) 3 (by omega) _).congr fun j hj => by rcases six hj with rfl | rfl | rfl | rfl | rfl | rfl <;> rfl
theorem MRow.setB {w : World} {m a b : Nat} {h g : Int} (r : MRow w m a b h g) (x : Nat) : MRow ((w.setCell ⟨m, 4, none⟩ (.int .u64 (hi x))).setCell ⟨m, 5, none⟩ (.int .u64 (lo x))) m a x h g :=
  (Row.set (Row.set r 4 (by omega) _) 5 (by omega) _).congr fun j hj => by rcases six hj with rfl | rfl | rfl | rfl | rfl | rfl <;> rfl
theorem SRow.setA {w : World} {m a b : Nat} {h g : Int} (r : SRow w m a b h g) (x : Nat) : SRow ((w.setCell ⟨m, 0, none⟩ (.int .u64 (hi x))).setCell ⟨m, 1, none⟩ (.int .u64 (lo x))) m x b h g :=
  (Row.set (Row.set r 0 (by omega) _) 1 (by omega) _).congr fun j hj => by rcases six hj with rfl | rfl | rfl | rfl | rfl | rfl <;> rfl
theorem SRow.setB {w : World} {m a b : Nat} {h g : Int} (r : SRow w m a b h g) (x : Nat) : SRow ((w.setCell ⟨m, 2, none⟩ (.int .u64 (hi x))).setCell ⟨m, 3, none⟩ (.int .u64 (lo x))) m a x h g :=
  (Row.set (Row.set r 2 (by omega) _) 3 (by omega) _).congr fun j hj => by rcases six hj with rfl | rfl | rfl | rfl | rfl | rfl <;> rfl
theorem Row.setS {w : World} {m : Nat} {f : Nat → Value} (r : Row w m 6 f) (x y : Nat) (p q : Int) : SRow ((((((w.setCell ⟨m, 0, none⟩ (.int .u64 (hi x))).setCell ⟨m, 1, none⟩ (.int .u64 (lo x))).setCell ⟨m, 2, none⟩ (.int .u64 (hi y))).setCell ⟨m, 3, none⟩ (.int .u64 (lo y))).setCell ⟨m, 4, none⟩ (.int .i64 p)).setCell ⟨m, 5, none⟩ (.int .i64 q)) m x y p q :=
  (Row.set (Row.set (Row.set (Row.set (Row.set (Row.set r 0 (by omega) _) 1 (by omega) _) 2 (by omega) _) 3 (by omega) _) 4 (by omega) _) 5 (by omega) _).congr fun j hj => by rcases six hj with rfl | rfl | rfl | rfl | rfl | rfl <;> rfl

theorem Row.setW {w : World} {v : Nat} {f : Nat → Value} (r : Row w v 2 f) (x : Nat) : WRow ((w.setCell ⟨v, 0, none⟩ (.int .u64 (hi x))).setCell ⟨v, 1, none⟩ (.int .u64 (lo x))) v x :=
  (Row.set (Row.set r 0 (by omega) _) 1 (by omega) _).congr fun j hj => by
    have h : j = 0 ∨ j = 1 := by omega
    rcases h with rfl | rfl <;> rfl
theorem Row.zz {w : World} {v : Nat} {z : Value} (r : Row w v 2 (fun _ => z)) : w.cell? ⟨v, 0, none⟩ = some z ∧ w.cell? ⟨v, 1, none⟩ = some z ∧ w.frozen? ⟨v, 0, none⟩ = false ∧ w.frozen? ⟨v, 1, none⟩ = false ∧ v < w.heap.size := ⟨r.cell 0 (by omega), r.cell 1 (by omega), r.free 0, r.free 1, r.lt⟩
theorem Row.fr {w : World} {v n : Nat} {f : Nat → Value} (r : Row w v n f) (j : Nat) : w.frozen? ⟨v, j, none⟩ = false := r.free j
theorem Row.zzz {w : World} {v : Nat} (r : Row w v 6 (fun j => if j < 4 then .int .u64 0 else .int .i64 0)) : w.cell? ⟨v, 0, none⟩ = some (.int .u64 0) ∧ w.cell? ⟨v, 1, none⟩ = some (.int .u64 0) ∧ w.cell? ⟨v, 2, none⟩ = some (.int .u64 0) ∧ w.cell? ⟨v, 3, none⟩ = some (.int .u64 0) ∧ w.cell? ⟨v, 4, none⟩ = some (.int .i64 0) ∧ w.cell? ⟨v, 5, none⟩ = some (.int .i64 0) ∧ (∀ j, w.frozen? ⟨v, j, none⟩ = false) :=
  ⟨r.cell 0 (by omega), r.cell 1 (by omega), r.cell 2 (by omega), r.cell 3 (by omega), r.cell 4 (by omega), r.cell 5 (by omega), r.free⟩
theorem zero2 (j : Nat) (hj : j < 2) : (#[Value.int .u64 0, .int .u64 0] : Array Value)[j]? = some (.int .u64 0) := by
  have h : j = 0 ∨ j = 1 := by omega
  rcases h with rfl | rfl <;> rfl
theorem zero6 (j : Nat) (hj : j < 6) : (#[Value.int .u64 0, .int .u64 0, .int .u64 0, .int .u64 0, .int .i64 0, .int .i64 0] : Array Value)[j]? = some (if j < 4 then .int .u64 0 else .int .i64 0) := by
  rcases six hj with rfl | rfl | rfl | rfl | rfl | rfl <;> rfl

/-! ### a world that has turned in one block alone -/
/-- Below block number B the world w' is as w was, block m aside. -/
structure Bar (m B : Nat) (w w' : World) : Prop where
  os : w'.os = w.os
  tape : w'.tape = w.tape
  output : w'.output = w.output
  size : w.heap.size ≤ w'.heap.size
  block : ∀ k, k < B → k ≠ m → w'.heap[k]? = w.heap[k]?
theorem Bar.refl (m B : Nat) (w : World) : Bar m B w w := ⟨rfl, rfl, rfl, Nat.le_refl _, fun _ _ _ => rfl⟩
theorem Bar.of {m B : Nat} {w w' : World} (h : Below B w w') : Bar m B w w' := ⟨h.os, h.tape, h.output, h.size, fun k hk _ => h.block k hk⟩
theorem Bar.trans {m B : Nat} {a b c : World} (h : Bar m B a b) (k : Bar m B b c) : Bar m B a c :=
  ⟨k.os.trans h.os, k.tape.trans h.tape, k.output.trans h.output, Nat.le_trans h.size k.size, fun i hi hm => (k.block i hi hm).trans (h.block i hi hm)⟩
theorem Bar.set {m B : Nat} {a w : World} (h : Bar m B a w) (o : Nat) (v : Value) : Bar m B a (w.setCell ⟨m, o, none⟩ v) :=
  h.trans ⟨rfl, rfl, rfl, by simp [World.setCell], fun k _ hm => Below.heap_setCell _ _ _ _ hm⟩
theorem Bar.then {m : Nat} {a b c : World} (h : Bar m a.heap.size a b) (k : Below b.heap.size b c) : Bar m a.heap.size a c := h.trans (Bar.of (k.mono h.size))
theorem Bar.drew {m B : Nat} {a w : World} (h : Bar m B a w) : Bar m B a w.drew := ⟨h.os, h.tape, h.output, h.size, h.block⟩
theorem Bar.below {m B : Nat} {w w' : World} (h : Bar m w.heap.size w w') (hm : B ≤ m) (hB : B ≤ w.heap.size) : Below B w w' :=
  ⟨h.os, h.tape, h.output, h.size, fun k hk => h.block k (by omega) (by omega)⟩
theorem Row.bar {w w' : World} {g n m : Nat} {f : Nat → Value} (h : Row w g n f) (b : Bar m w.heap.size w w') (hg : g ≠ m) : Row w' g n f :=
  ⟨Nat.lt_of_lt_of_le h.lt b.size, fun j hj => by rw [World.cell?_of_block (w := w) (b.block g h.lt hg)]; exact h.cell j hj, fun j => by rw [World.frozen?_of_block (w := w) (b.block g h.lt hg)]; exact h.free j⟩
theorem MRow.below {w w' : World} {m a b : Nat} {h g : Int} (r : MRow w m a b h g) (k : Below w.heap.size w w') : MRow w' m a b h g := Row.below r k
theorem MRow.drew {w : World} {m a b : Nat} {h g : Int} (r : MRow w m a b h g) : MRow w.drew m a b h g := Row.drew r
theorem SRow.drew {w : World} {m a b : Nat} {h g : Int} (r : SRow w m a b h g) : SRow w.drew m a b h g := Row.drew r
theorem WRow.drew {w : World} {v a : Nat} (r : WRow w v a) : WRow w.drew v a := Row.drew r
theorem SRow.below {w w' : World} {m a b : Nat} {h g : Int} (r : SRow w m a b h g) (k : Below w.heap.size w w') : SRow w' m a b h g := Row.below r k
theorem WRow.below {w w' : World} {v a : Nat} (r : WRow w v a) (k : Below w.heap.size w w') : WRow w' v a := Row.below r k

theorem Row.far6 {w : World} {g n : Nat} {f : Nat → Value} (r : Row w g n f) {v : Nat} (hv : v ≠ g) (x0 x1 x2 x3 x4 x5 : Value) : Row ((((((w.setCell ⟨v, 0, none⟩ x0).setCell ⟨v, 1, none⟩ x1).setCell ⟨v, 2, none⟩ x2).setCell ⟨v, 3, none⟩ x3).setCell ⟨v, 4, none⟩ x4).setCell ⟨v, 5, none⟩ x5) g n f :=
  Row.far (Row.far (Row.far (Row.far (Row.far (Row.far r x0 hv) x1 hv) x2 hv) x3 hv) x4 hv) x5 hv
/-- a meter, a state, a number and a second number stand in blocks of the call's own -/
structure All (W : World) (m sb vb lb a b : Nat) (h g : Int) (s l : Nat) (w : World) : Prop where
  rm : MRow w m a b h g
  rs : SRow w sb a b h g
  rv : WRow w vb s
  rl : WRow w lb l
  rb : Below W.heap.size W w
theorem All.below {W : World} {m sb vb lb a b : Nat} {h g : Int} {s l : Nat} {w w' : World} (A : All W m sb vb lb a b h g s l w) (k : Below w.heap.size w w') : All W m sb vb lb a b h g s l w' :=
  ⟨A.rm.below k, A.rs.below k, A.rv.below k, A.rl.below k, A.rb.trans (k.mono A.rb.size)⟩
theorem All.drew {W : World} {m sb vb lb a b : Nat} {h g : Int} {s l : Nat} {w : World} (A : All W m sb vb lb a b h g s l w) : All W m sb vb lb a b h g s l w.drew := ⟨A.rm.drew, A.rs.drew, A.rv.drew, A.rl.drew, A.rb.drew⟩
theorem All.keep {W : World} {m sb vb lb a b : Nat} {h g : Int} {s l : Nat} {w : World} (A : All W m sb vb lb a b h g s l w) :
    w.cell? ⟨sb, 0, none⟩ = some (.int .u64 (hi a)) ∧ w.cell? ⟨sb, 1, none⟩ = some (.int .u64 (lo a)) ∧ w.cell? ⟨sb, 2, none⟩ = some (.int .u64 (hi b)) ∧ w.cell? ⟨sb, 3, none⟩ = some (.int .u64 (lo b)) ∧ w.cell? ⟨sb, 4, none⟩ = some (.int .i64 h) ∧ w.cell? ⟨sb, 5, none⟩ = some (.int .i64 g) ∧
    w.cell? ⟨vb, 0, none⟩ = some (.int .u64 (hi s)) ∧ w.cell? ⟨vb, 1, none⟩ = some (.int .u64 (lo s)) ∧ w.cell? ⟨lb, 0, none⟩ = some (.int .u64 (hi l)) ∧ w.cell? ⟨lb, 1, none⟩ = some (.int .u64 (lo l)) :=
  ⟨A.rs.all.1, A.rs.all.2.1, A.rs.all.2.2.1, A.rs.all.2.2.2.1, A.rs.all.2.2.2.2.1, A.rs.all.2.2.2.2.2.1, A.rv.c0, A.rv.c1, A.rl.c0, A.rl.c1⟩
/-- the same without the second number -/
structure Thr (W : World) (m sb vb a b : Nat) (h g : Int) (s : Nat) (w : World) : Prop where
  rm : MRow w m a b h g
  rs : SRow w sb a b h g
  rv : WRow w vb s
  rb : Below W.heap.size W w
theorem Thr.below {W : World} {m sb vb a b : Nat} {h g : Int} {s : Nat} {w w' : World} (A : Thr W m sb vb a b h g s w) (k : Below w.heap.size w w') : Thr W m sb vb a b h g s w' :=
  ⟨A.rm.below k, A.rs.below k, A.rv.below k, A.rb.trans (k.mono A.rb.size)⟩
theorem Thr.drew {W : World} {m sb vb a b : Nat} {h g : Int} {s : Nat} {w : World} (A : Thr W m sb vb a b h g s w) : Thr W m sb vb a b h g s w.drew := ⟨A.rm.drew, A.rs.drew, A.rv.drew, A.rb.drew⟩
theorem Thr.alloc {W : World} {m sb vb a b : Nat} {h g : Int} {s : Nat} {w : World} (A : Thr W m sb vb a b h g s w) (o : Obj) : Thr W m sb vb a b h g s (w.alloc o) := A.below ((Below.refl _ _).alloc (Nat.le_refl _) o)
theorem Thr.set2 {W : World} {m sb vb a b : Nat} {h g : Int} {s n : Nat} {w : World} (A : Thr W m sb vb a b h g s w) (h1 : m < n) (h2 : sb < n) (h3 : vb < n) (h4 : W.heap.size ≤ n) (x y : Value) : Thr W m sb vb a b h g s ((w.setCell ⟨n, 0, none⟩ x).setCell ⟨n, 1, none⟩ y) :=
  ⟨Row.far (Row.far A.rm x (Nat.ne_of_gt h1)) y (Nat.ne_of_gt h1), Row.far (Row.far A.rs x (Nat.ne_of_gt h2)) y (Nat.ne_of_gt h2), Row.far (Row.far A.rv x (Nat.ne_of_gt h3)) y (Nat.ne_of_gt h3), (A.rb.setCell h4 x).setCell h4 y⟩
theorem Thr.keep {W : World} {m sb vb a b : Nat} {h g : Int} {s : Nat} {w : World} (A : Thr W m sb vb a b h g s w) :
    w.cell? ⟨sb, 0, none⟩ = some (.int .u64 (hi a)) ∧ w.cell? ⟨sb, 1, none⟩ = some (.int .u64 (lo a)) ∧ w.cell? ⟨sb, 2, none⟩ = some (.int .u64 (hi b)) ∧ w.cell? ⟨sb, 3, none⟩ = some (.int .u64 (lo b)) ∧ w.cell? ⟨sb, 4, none⟩ = some (.int .i64 h) ∧ w.cell? ⟨sb, 5, none⟩ = some (.int .i64 g) ∧
    w.cell? ⟨vb, 0, none⟩ = some (.int .u64 (hi s)) ∧ w.cell? ⟨vb, 1, none⟩ = some (.int .u64 (lo s)) :=
  ⟨A.rs.all.1, A.rs.all.2.1, A.rs.all.2.2.1, A.rs.all.2.2.2.1, A.rs.all.2.2.2.2.1, A.rs.all.2.2.2.2.2.1, A.rv.c0, A.rv.c1⟩
theorem Thr.lt {W : World} {m sb vb a b : Nat} {h g : Int} {s : Nat} {w : World} (A : Thr W m sb vb a b h g s w) : m < w.heap.size ∧ sb < w.heap.size ∧ vb < w.heap.size ∧ W.heap.size ≤ w.heap.size := ⟨Row.lt A.rm, Row.lt A.rs, Row.lt A.rv, A.rb.size⟩
theorem Thr.and {W : World} {m sb vb lb a b : Nat} {h g : Int} {s l : Nat} {w : World} (A : Thr W m sb vb a b h g s w) (r : WRow w lb l) : All W m sb vb lb a b h g s l w := ⟨A.rm, A.rs, A.rv, r, A.rb⟩
/-- two cells of what was there when the call began -/
theorem pairKeep {W w : World} {g i j : Nat} {x y : Value} (c0 : W.cell? ⟨g, i, none⟩ = some x) (c1 : W.cell? ⟨g, j, none⟩ = some y) (hg : g < W.heap.size) (h : Below W.heap.size W w) : w.cell? ⟨g, i, none⟩ = some x ∧ w.cell? ⟨g, j, none⟩ = some y :=
  ⟨(h.cell (p := ⟨g, i, none⟩) hg).trans c0, (h.cell (p := ⟨g, j, none⟩) hg).trans c1⟩
theorem bTwo {a w : World} (h : Below a.heap.size a w) {v : Nat} (hv : a.heap.size ≤ v) (i j : Nat) (x y : Value) : Below a.heap.size a ((w.setCell ⟨v, i, none⟩ x).setCell ⟨v, j, none⟩ y) := (h.setCell hv x).setCell hv y
theorem bSix {a w : World} (h : Below a.heap.size a w) {v : Nat} (hv : a.heap.size ≤ v) (x0 x1 x2 x3 x4 x5 : Value) : Below a.heap.size a ((((((w.setCell ⟨v, 0, none⟩ x0).setCell ⟨v, 1, none⟩ x1).setCell ⟨v, 2, none⟩ x2).setCell ⟨v, 3, none⟩ x3).setCell ⟨v, 4, none⟩ x4).setCell ⟨v, 5, none⟩ x5) := (((((h.setCell hv x0).setCell hv x1).setCell hv x2).setCell hv x3).setCell hv x4).setCell hv x5

attribute [irreducible] stepv holdh holdg holde freeh freee mc sc wc2
end Go.Proofs.YtppmicepkjhfeaaGreat

/-! Spc: Spaces in memory: lists of pairs of a bool and a list of words. -/
namespace Go.Proofs.YtppmicepkjhfeaaGreat
open Go.RowKit
set_option linter.unusedVariables false

/-- a space: is it open? its words -/
abbrev Spc := Bool × List Nat
/-- the cells of a list of spaces whose words lie as U says -/
def scell (L : List Spc) (U : Nat → Value) (j : Nat) : Value := if j % 2 = 0 then .bool (L.getD (j / 2) (false, [])).1 else U (j / 2)
theorem scell_o (L : List Spc) (U : Nat → Value) (i : Nat) : scell L U (i * 2) = .bool (L.getD i (false, [])).1 := by
  unfold scell; rw [if_pos (by omega), show i * 2 / 2 = i by omega]
theorem scell_w (L : List Spc) (U : Nat → Value) (i : Nat) : scell L U (i * 2 + 1) = U i := by
  unfold scell; rw [if_neg (by omega), show (i * 2 + 1) / 2 = i by omega]
/-- The list of spaces that a slice holds in a world. -/
def SL (w : World) (v : Value) (L : List Spc) : Prop := ∃ a cap U, v = .slice a L.length cap ∧ L.length ≤ cap ∧ (a = none → cap = 0) ∧ (L.length = 0 ∨ ∃ b off, a = some ⟨b, off, none⟩ ∧ b < w.heap.size ∧ (∀ j, j < L.length * 2 → w.cell? ⟨b, off + j, none⟩ = some (scell L U j)) ∧ ∀ i, i < L.length → NL pw w (U i) (L.getD i (false, [])).2)
theorem SL.below {w w' : World} {v : Value} {L : List Spc} (h : SL w v L) (hb : Below w.heap.size w w') : SL w' v L := by
  obtain ⟨a, cap, U, rfl, hcap, hnil, h⟩ := h
  refine ⟨a, cap, U, rfl, hcap, hnil, ?_⟩
  rcases h with h | ⟨b, off, rfl, hlt, hc, hw⟩
  · exact .inl h
  · exact .inr ⟨b, off, rfl, Nat.lt_of_lt_of_le hlt hb.size, fun j hj => (hb.cell (p := ⟨b, off + j, none⟩) hlt).trans (hc j hj), fun i hi => (hw i hi).below hb⟩
theorem SL.slice {w : World} {v : Value} {L : List Spc} (h : SL w v L) : ∃ a cap, v = .slice a L.length cap := by
  obtain ⟨a, cap, U, e, _⟩ := h
  exact ⟨a, cap, e⟩
theorem SL.nil (w : World) : SL w (.slice none 0 0) [] := ⟨none, 0, fun _ => .slice none 0 0, rfl, Nat.le_refl _, fun _ => rfl, .inl rfl⟩
/-- one space of a list -/
theorem SL.at {w : World} {a : Option Addr} {n cap : Nat} {L : List Spc} (h : SL w (.slice a n cap) L) {i : Nat} (hi : i < n) :
    L.length = n ∧ ∃ b off u, a = some ⟨b, off, none⟩ ∧ b < w.heap.size ∧ w.cell? ⟨b, off + i * 2, none⟩ = some (.bool (L.getD i (false, [])).1) ∧ w.cell? ⟨b, off + i * 2 + 1, none⟩ = some u ∧ NL pw w u (L.getD i (false, [])).2 := by
  obtain ⟨a', c', U, e, hcap, hnil, h⟩ := h
  injection e with e1 e2 e3
  subst e1; subst e2; subst e3
  obtain ⟨b, off, rfl, hlt, hc, hw⟩ := h.resolve_left (by omega)
  have h0 := hc (i * 2) (by omega)
  have h1 := hc (i * 2 + 1) (by omega)
  rw [scell_o] at h0
  rw [scell_w] at h1
  exact ⟨rfl, b, off, U i, rfl, hlt, h0, by rw [Nat.add_assoc]; exact h1, hw i hi⟩
/-- the slices that the words of a list lie in -/
def uval (L : List Spc) (G C : Nat → Nat) (i : Nat) : Value := .slice (some ⟨G i, 0, none⟩) (L.getD i (false, [])).2.length (C i)
/-- A list of spaces in blocks of the call's own, each in one of its own. -/
structure OS (w : World) (B g : Nat) (L : List Spc) (G C : Nat → Nat) : Prop where
  lo : B ≤ g
  row : Row w g (L.length * 2) (scell L (uval L G C))
  cap : ∀ i, i < L.length → (L.getD i (false, [])).2.length ≤ C i
  blo : ∀ i, i < L.length → B ≤ G i
  ne : ∀ i, i < L.length → G i ≠ g
  wrow : ∀ i, i < L.length → Row w (G i) (L.getD i (false, [])).2.length (fun j => pw ((L.getD i (false, [])).2.getD j 0))
  inj : ∀ i j, i < L.length → j < L.length → G i = G j → i = j
theorem OS.below {w w' : World} {B g : Nat} {L : List Spc} {G C : Nat → Nat} (h : OS w B g L G C) (k : Below w.heap.size w w') : OS w' B g L G C :=
  ⟨h.lo, h.row.below k, h.cap, h.blo, h.ne, fun i hi => (h.wrow i hi).below k, h.inj⟩
theorem OS.drew {w : World} {B g : Nat} {L : List Spc} {G C : Nat → Nat} (h : OS w B g L G C) : OS w.drew B g L G C := ⟨h.lo, h.row.drew, h.cap, h.blo, h.ne, fun i hi => (h.wrow i hi).drew, h.inj⟩
theorem OS.sl {w : World} {B g : Nat} {L : List Spc} {G C : Nat → Nat} (h : OS w B g L G C) {c : Nat} (hc : L.length ≤ c) : SL w (.slice (some ⟨g, 0, none⟩) L.length c) L := by
  refine ⟨_, c, uval L G C, rfl, hc, (fun e => nomatch e), .inr ⟨g, 0, rfl, h.row.lt, fun j hj => by rw [Nat.zero_add]; exact h.row.cell j hj, fun i hi => ?_⟩⟩
  exact NL.of_row (h.wrow i hi) (h.cap i hi)
theorem OS.low {w : World} {B g : Nat} {L : List Spc} {G C : Nat → Nat} (h : OS w B g L G C) {p : Addr} (hp : p.block < B) (x : Value) : OS (w.setCell p x) B g L G C :=
  ⟨h.lo, h.row.far x (by have := h.lo; omega), h.cap, h.blo, h.ne, fun i hi => (h.wrow i hi).far x (by have := h.blo i hi; omega), h.inj⟩
theorem OS.mono {w : World} {B B' g : Nat} {L : List Spc} {G C : Nat → Nat} (h : OS w B g L G C) (hB : B' ≤ B) : OS w B' g L G C :=
  ⟨Nat.le_trans hB h.lo, h.row, h.cap, fun i hi => Nat.le_trans hB (h.blo i hi), h.ne, h.wrow, h.inj⟩
theorem OS.low7 {w : World} {B g : Nat} {L : List Spc} {G C : Nat → Nat} (h : OS w B g L G C) {s : Nat} (hs : s < B) (x0 x1 x2 x3 x4 x5 x6 : Value) : OS (((((((w.setCell ⟨s, 0, none⟩ x0).setCell ⟨s, 1, none⟩ x1).setCell ⟨s, 2, none⟩ x2).setCell ⟨s, 3, none⟩ x3).setCell ⟨s, 4, none⟩ x4).setCell ⟨s, 5, none⟩ x5).setCell ⟨s, 6, none⟩ x6) B g L G C :=
  ((((((h.low hs x0).low hs x1).low hs x2).low hs x3).low hs x4).low hs x5).low hs x6
theorem uval_eq (L : List Spc) (G C : Nat → Nat) (i : Nat) : uval L G C i = .slice (some ⟨G i, 0, none⟩) (L.getD i (false, [])).2.length (C i) := rfl

/-! ### a state: the spaces, what was counted -/
def st7 (v : Value) (a b : Nat) (h g : Int) (j : Nat) : Value := if j = 0 then v else if j = 1 then .int .u64 (hi a) else if j = 2 then .int .u64 (lo a) else if j = 3 then .int .u64 (hi b) else if j = 4 then .int .u64 (lo b) else if j = 5 then .int .i64 h else .int .i64 g
theorem seven {j : Nat} (h : j < 7) : j = 0 ∨ j = 1 ∨ j = 2 ∨ j = 3 ∨ j = 4 ∨ j = 5 ∨ j = 6 := by omega
theorem bSev {a w : World} (h : Below a.heap.size a w) {v : Nat} (hv : a.heap.size ≤ v) (x0 x1 x2 x3 x4 x5 x6 : Value) : Below a.heap.size a (((((((w.setCell ⟨v, 0, none⟩ x0).setCell ⟨v, 1, none⟩ x1).setCell ⟨v, 2, none⟩ x2).setCell ⟨v, 3, none⟩ x3).setCell ⟨v, 4, none⟩ x4).setCell ⟨v, 5, none⟩ x5).setCell ⟨v, 6, none⟩ x6) := ((((((h.setCell hv x0).setCell hv x1).setCell hv x2).setCell hv x3).setCell hv x4).setCell hv x5).setCell hv x6
theorem b16 {a w : World} (h : Below a.heap.size a w) {v : Nat} (hv : a.heap.size ≤ v) (x1 x2 x3 x4 x5 x6 : Value) : Below a.heap.size a ((((((w.setCell ⟨v, 1, none⟩ x1).setCell ⟨v, 2, none⟩ x2).setCell ⟨v, 3, none⟩ x3).setCell ⟨v, 4, none⟩ x4).setCell ⟨v, 5, none⟩ x5).setCell ⟨v, 6, none⟩ x6) := (((((h.setCell hv x1).setCell hv x2).setCell hv x3).setCell hv x4).setCell hv x5).setCell hv x6
theorem st7_new (v : Value) (a b : Nat) (h g : Int) (j : Nat) (hj : j < 7) : (#[v, .int .u64 (hi a), .int .u64 (lo a), .int .u64 (hi b), .int .u64 (lo b), .int .i64 h, .int .i64 g] : Array Value)[j]? = some (st7 v a b h g j) := by
  rcases seven hj with rfl | rfl | rfl | rfl | rfl | rfl | rfl <;> rfl
theorem st7_zero (j : Nat) (hj : j < 7) : (#[.slice none 0 0, .int .u64 0, .int .u64 0, .int .u64 0, .int .u64 0, .int .i64 0, .int .i64 0] : Array Value)[j]? = some (st7 (.slice none 0 0) 0 0 0 0 j) := by
  have h := st7_new (.slice none 0 0) 0 0 0 0 j hj
  rw [hi_0, lo_0] at h
  exact h
def PRow (w : World) (s : Nat) (v : Value) (a b : Nat) (h g : Int) : Prop := Row w s 7 (st7 v a b h g)
theorem PRow.all {w : World} {s a b : Nat} {v : Value} {h g : Int} (r : PRow w s v a b h g) : w.cell? ⟨s, 0, none⟩ = some v ∧ w.cell? ⟨s, 1, none⟩ = some (.int .u64 (hi a)) ∧ w.cell? ⟨s, 2, none⟩ = some (.int .u64 (lo a)) ∧ w.cell? ⟨s, 3, none⟩ = some (.int .u64 (hi b)) ∧ w.cell? ⟨s, 4, none⟩ = some (.int .u64 (lo b)) ∧ w.cell? ⟨s, 5, none⟩ = some (.int .i64 h) ∧ w.cell? ⟨s, 6, none⟩ = some (.int .i64 g) ∧ (∀ j, w.frozen? ⟨s, j, none⟩ = false) ∧ s < w.heap.size :=
  ⟨r.cell 0 (by omega), r.cell 1 (by omega), r.cell 2 (by omega), r.cell 3 (by omega), r.cell 4 (by omega), r.cell 5 (by omega), r.cell 6 (by omega), r.free, r.lt⟩
theorem PRow.below {w w' : World} {s a b : Nat} {v : Value} {h g : Int} (r : PRow w s v a b h g) (k : Below w.heap.size w w') : PRow w' s v a b h g := Row.below r k
theorem PRow.drew {w : World} {s a b : Nat} {v : Value} {h g : Int} (r : PRow w s v a b h g) : PRow w.drew s v a b h g := Row.drew r
theorem PRow.alloc {w : World} {s a b : Nat} {v : Value} {h g : Int} (r : PRow w s v a b h g) (o : Obj) : PRow (w.alloc o) s v a b h g := Row.alloc r o
theorem PRow.far {w : World} {s a b : Nat} {v : Value} {h g : Int} (r : PRow w s v a b h g) {p : Addr} (x : Value) (hp : p.block ≠ s) : PRow (w.setCell p x) s v a b h g := Row.far r x hp
theorem PRow.far16 {w : World} {s a b : Nat} {v : Value} {h g : Int} (r : PRow w s v a b h g) {t : Nat} (ht : t ≠ s) (x1 x2 x3 x4 x5 x6 : Value) : PRow ((((((w.setCell ⟨t, 1, none⟩ x1).setCell ⟨t, 2, none⟩ x2).setCell ⟨t, 3, none⟩ x3).setCell ⟨t, 4, none⟩ x4).setCell ⟨t, 5, none⟩ x5).setCell ⟨t, 6, none⟩ x6) s v a b h g :=
  (((((r.far x1 ht).far x2 ht).far x3 ht).far x4 ht).far x5 ht).far x6 ht
theorem PRow.far7 {w : World} {s a b : Nat} {v : Value} {h g : Int} (r : PRow w s v a b h g) {t : Nat} (ht : t ≠ s) (x0 x1 x2 x3 x4 x5 x6 : Value) : PRow (((((((w.setCell ⟨t, 0, none⟩ x0).setCell ⟨t, 1, none⟩ x1).setCell ⟨t, 2, none⟩ x2).setCell ⟨t, 3, none⟩ x3).setCell ⟨t, 4, none⟩ x4).setCell ⟨t, 5, none⟩ x5).setCell ⟨t, 6, none⟩ x6) s v a b h g :=
  ((((((r.far x0 ht).far x1 ht).far x2 ht).far x3 ht).far x4 ht).far x5 ht).far x6 ht
theorem PRow.setV {w : World} {s a b : Nat} {v : Value} {h g : Int} (r : PRow w s v a b h g) (u : Value) : PRow (w.setCell ⟨s, 0, none⟩ u) s u a b h g :=
  (Row.set r 0 (by omega) _).congr fun j hj => by rcases seven hj with rfl | rfl | rfl | rfl | rfl | rfl | rfl <;> rfl
theorem PRow.setM {w : World} {s a b : Nat} {v : Value} {h g : Int} (r : PRow w s v a b h g) (x y : Nat) (p q : Int) : PRow ((((((w.setCell ⟨s, 1, none⟩ (.int .u64 (hi x))).setCell ⟨s, 2, none⟩ (.int .u64 (lo x))).setCell ⟨s, 3, none⟩ (.int .u64 (hi y))).setCell ⟨s, 4, none⟩ (.int .u64 (lo y))).setCell ⟨s, 5, none⟩ (.int .i64 p)).setCell ⟨s, 6, none⟩ (.int .i64 q)) s v x y p q :=
  (Row.set (Row.set (Row.set (Row.set (Row.set (Row.set r 1 (by omega) _) 2 (by omega) _) 3 (by omega) _) 4 (by omega) _) 5 (by omega) _) 6 (by omega) _).congr fun j hj => by rcases seven hj with rfl | rfl | rfl | rfl | rfl | rfl | rfl <;> rfl
theorem Row.setP {w : World} {s : Nat} {f : Nat → Value} (r : Row w s 7 f) (v : Value) (x y : Nat) (p q : Int) : PRow (((((((w.setCell ⟨s, 0, none⟩ v).setCell ⟨s, 1, none⟩ (.int .u64 (hi x))).setCell ⟨s, 2, none⟩ (.int .u64 (lo x))).setCell ⟨s, 3, none⟩ (.int .u64 (hi y))).setCell ⟨s, 4, none⟩ (.int .u64 (lo y))).setCell ⟨s, 5, none⟩ (.int .i64 p)).setCell ⟨s, 6, none⟩ (.int .i64 q)) s v x y p q :=
  (Row.set (Row.set (Row.set (Row.set (Row.set (Row.set (Row.set r 0 (by omega) _) 1 (by omega) _) 2 (by omega) _) 3 (by omega) _) 4 (by omega) _) 5 (by omega) _) 6 (by omega) _).congr fun j hj => by rcases seven hj with rfl | rfl | rfl | rfl | rfl | rfl | rfl <;> rfl

attribute [irreducible] scell uval st7
end Go.Proofs.YtppmicepkjhfeaaGreat

/-! Put: Changes of a list of spaces in blocks of the call's own. No program in sight. -/
namespace Go.Proofs.YtppmicepkjhfeaaGreat
open Go.RowKit
set_option linter.unusedVariables false

/-- A list of words whose cells lie in a block from B on. -/
def NB (p : Nat → Value) (w : World) (B : Nat) (v : Value) (L : List Nat) : Prop := ∃ a cap, v = .slice a L.length cap ∧ L.length ≤ cap ∧ (a = none → cap = 0) ∧ (L.length = 0 ∨ ∃ b off, a = some ⟨b, off, none⟩ ∧ B ≤ b ∧ b < w.heap.size ∧ ∀ i, i < L.length → w.cell? ⟨b, off + i, none⟩ = some (p (L.getD i 0)))
theorem NB.nl {p : Nat → Value} {w : World} {B : Nat} {v : Value} {L : List Nat} (h : NB p w B v L) : NL p w v L := by
  obtain ⟨a, cap, rfl, hcap, hnil, h⟩ := h
  refine ⟨a, cap, rfl, hcap, hnil, ?_⟩
  rcases h with h | ⟨b, off, rfl, hb, hlt, hc⟩
  · exact .inl h
  · exact .inr ⟨b, off, rfl, hlt, hc⟩
theorem NB.nil (p : Nat → Value) (w : World) (B : Nat) : NB p w B (.slice none 0 0) [] := ⟨none, 0, rfl, Nat.le_refl _, fun _ => rfl, .inl rfl⟩
theorem NB.low {p : Nat → Value} {w : World} {B : Nat} {v : Value} {L : List Nat} (h : NB p w B v L) {q : Addr} (hq : q.block < B) (x : Value) : NB p (w.setCell q x) B v L := by
  obtain ⟨a, cap, rfl, hcap, hnil, h⟩ := h
  refine ⟨a, cap, rfl, hcap, hnil, ?_⟩
  rcases h with h | ⟨b, off, rfl, hb, hlt, hc⟩
  · exact .inl h
  · exact .inr ⟨b, off, rfl, hb, by simpa using hlt, fun i hi => (World.cell?_setCell_other w q ⟨b, off + i, none⟩ x (fun e => by rw [e] at hq; exact absurd hq (by simpa using hb))).trans (hc i hi)⟩
theorem NB.mono {p : Nat → Value} {w : World} {B B' : Nat} {v : Value} {L : List Nat} (h : NB p w B v L) (hB : B' ≤ B) : NB p w B' v L := by
  obtain ⟨a, cap, rfl, hcap, hnil, h⟩ := h
  refine ⟨a, cap, rfl, hcap, hnil, ?_⟩
  rcases h with h | ⟨b, off, rfl, hb, hlt, hc⟩
  · exact .inl h
  · exact .inr ⟨b, off, rfl, Nat.le_trans hB hb, hlt, hc⟩
theorem NB.below {p : Nat → Value} {w w' : World} {B : Nat} {v : Value} {L : List Nat} (h : NB p w B v L) (hb : Below w.heap.size w w') : NB p w' B v L := by
  obtain ⟨a, cap, rfl, hcap, hnil, h⟩ := h
  refine ⟨a, cap, rfl, hcap, hnil, ?_⟩
  rcases h with h | ⟨b, off, rfl, hB, hlt, hc⟩
  · exact .inl h
  · exact .inr ⟨b, off, rfl, hB, Nat.lt_of_lt_of_le hlt hb.size, fun i hi => (hb.cell (p := ⟨b, off + i, none⟩) hlt).trans (hc i hi)⟩
theorem NB.of_row {p : Nat → Value} {w : World} {g c B : Nat} {L : List Nat} (h : Row w g L.length (fun j => p (L.getD j 0))) (hc : L.length ≤ c) (hB : B ≤ g) : NB p w B (.slice (some ⟨g, 0, none⟩) L.length c) L :=
  ⟨_, c, rfl, hc, (fun e => nomatch e), .inr ⟨g, 0, rfl, hB, h.lt, fun i hi => by rw [Nat.zero_add]; exact h.cell i hi⟩⟩
/-- A list of spaces all of whose cells lie in blocks from B on. -/
def SB (w : World) (B : Nat) (v : Value) (L : List Spc) : Prop := ∃ g cap U, v = .slice (some ⟨g, 0, none⟩) L.length cap ∧ L.length ≤ cap ∧ B ≤ g ∧ Row w g (L.length * 2) (scell L U) ∧ ∀ i, i < L.length → NB pw w B (U i) (L.getD i (false, [])).2
theorem SB.sl {w : World} {B : Nat} {v : Value} {L : List Spc} (h : SB w B v L) : SL w v L := by
  obtain ⟨g, cap, U, rfl, hc, hg, r, hw⟩ := h
  exact ⟨_, cap, U, rfl, hc, (fun e => nomatch e), .inr ⟨g, 0, rfl, r.lt, fun j hj => by rw [Nat.zero_add]; exact r.cell j hj, fun i hi => (hw i hi).nl⟩⟩
theorem SB.low {w : World} {B : Nat} {v : Value} {L : List Spc} (h : SB w B v L) {q : Addr} (hq : q.block < B) (x : Value) : SB (w.setCell q x) B v L := by
  obtain ⟨g, cap, U, rfl, hc, hg, r, hw⟩ := h
  exact ⟨g, cap, U, rfl, hc, hg, r.far x (by omega), fun i hi => (hw i hi).low hq x⟩
theorem SB.below {w w' : World} {B : Nat} {v : Value} {L : List Spc} (h : SB w B v L) (k : Below w.heap.size w w') : SB w' B v L := by
  obtain ⟨g, cap, U, rfl, hc, hg, r, hw⟩ := h
  exact ⟨g, cap, U, rfl, hc, hg, r.below k, fun i hi => (hw i hi).below k⟩
theorem SB.low6 {w : World} {B : Nat} {v : Value} {L : List Spc} (h : SB w B v L) {s : Nat} (hs : s < B) (x1 x2 x3 x4 x5 x6 : Value) : SB ((((((w.setCell ⟨s, 1, none⟩ x1).setCell ⟨s, 2, none⟩ x2).setCell ⟨s, 3, none⟩ x3).setCell ⟨s, 4, none⟩ x4).setCell ⟨s, 5, none⟩ x5).setCell ⟨s, 6, none⟩ x6) B v L :=
  (((((h.low hs x1).low hs x2).low hs x3).low hs x4).low hs x5).low hs x6
theorem SB.low7 {w : World} {B : Nat} {v : Value} {L : List Spc} (h : SB w B v L) {s : Nat} (hs : s < B) (x0 x1 x2 x3 x4 x5 x6 : Value) : SB (((((((w.setCell ⟨s, 0, none⟩ x0).setCell ⟨s, 1, none⟩ x1).setCell ⟨s, 2, none⟩ x2).setCell ⟨s, 3, none⟩ x3).setCell ⟨s, 4, none⟩ x4).setCell ⟨s, 5, none⟩ x5).setCell ⟨s, 6, none⟩ x6) B v L :=
  ((((((h.low hs x0).low hs x1).low hs x2).low hs x3).low hs x4).low hs x5).low hs x6
theorem OS.low6 {w : World} {B g : Nat} {L : List Spc} {G C : Nat → Nat} (h : OS w B g L G C) {s : Nat} (hs : s < B) (x1 x2 x3 x4 x5 x6 : Value) : OS ((((((w.setCell ⟨s, 1, none⟩ x1).setCell ⟨s, 2, none⟩ x2).setCell ⟨s, 3, none⟩ x3).setCell ⟨s, 4, none⟩ x4).setCell ⟨s, 5, none⟩ x5).setCell ⟨s, 6, none⟩ x6) B g L G C :=
  (((((h.low hs x1).low hs x2).low hs x3).low hs x4).low hs x5).low hs x6
theorem SB.mono {w : World} {B B' : Nat} {v : Value} {L : List Spc} (h : SB w B v L) (hB : B' ≤ B) : SB w B' v L := by
  obtain ⟨g, cap, U, e, hc, hg, r, hw⟩ := h
  exact ⟨g, cap, U, e, hc, Nat.le_trans hB hg, r, fun i hi => (hw i hi).mono hB⟩
theorem OS.sb {w : World} {B g : Nat} {L : List Spc} {G C : Nat → Nat} (h : OS w B g L G C) {c : Nat} (hc : L.length ≤ c) : SB w B (.slice (some ⟨g, 0, none⟩) L.length c) L :=
  ⟨g, c, uval L G C, rfl, hc, h.lo, h.row, fun i hi => by rw [uval_eq]; exact NB.of_row (h.wrow i hi) (h.cap i hi) (h.blo i hi)⟩

theorem getD_set (L : List Spc) (k i : Nat) (x : Spc) (hk : k < L.length) : (L.set k x).getD i (false, []) = if i = k then x else L.getD i (false, []) := by
  by_cases e : i = k
  · subst e; rw [if_pos rfl]; simp [List.getD, hk]
  · rw [if_neg e]; simp [List.getD, List.getElem?_set_ne (Ne.symm e)]
theorem scell_put (L : List Spc) (U V : Nat → Value) (k : Nat) (x : Spc) (hk : k < L.length) (hV : ∀ i, i ≠ k → V i = U i) (j : Nat) : (if j = k * 2 + 1 then V k else if j = k * 2 then .bool x.1 else scell L U j) = scell (L.set k x) V j := by
  by_cases e : j = k * 2 + 1
  · rw [if_pos e, e, scell_w]
  · rw [if_neg e]
    by_cases e2 : j = k * 2
    · rw [if_pos e2, e2, scell_o, getD_set L k k x hk, if_pos rfl]
    · rw [if_neg e2]
      by_cases o : j % 2 = 0
      · rw [show j = j / 2 * 2 by omega, scell_o, scell_o, getD_set L k _ x hk, if_neg (by omega)]
      · rw [show j = j / 2 * 2 + 1 by omega, scell_w, scell_w, hV _ (by omega)]
/-- a space is put in the place of another one -/
theorem OS.put {w : World} {B g : Nat} {L : List Spc} {G C : Nat → Nat} (h : OS w B g L G C) {c : Nat} (hc : L.length ≤ c) {k : Nat} (hk : k < L.length) (o : Bool) {u : Value} {ws : List Nat} {H : Nat} (hu : NB pw w H u ws) (hg : g < H) (hB : B ≤ H) :
    SB ((w.setCell ⟨g, k * 2, none⟩ (.bool o)).setCell ⟨g, k * 2 + 1, none⟩ u) B (.slice (some ⟨g, 0, none⟩) L.length c) (L.set k (o, ws)) := by
  refine ⟨g, c, fun i => if i = k then u else uval L G C i, by rw [List.length_set], by rw [List.length_set]; exact hc, h.lo, ?_, fun i hi => ?_⟩
  · rw [List.length_set]
    refine ((h.row.set (k * 2) (by omega) _).set (k * 2 + 1) (by omega) _).congr fun j hj => ?_
    have e := scell_put L (uval L G C) (fun i => if i = k then u else uval L G C i) k (o, ws) hk (fun i hi => if_neg hi) j
    rw [if_pos rfl] at e
    exact e
  · rw [List.length_set] at hi
    rw [getD_set L k i (o, ws) hk]
    show NB pw _ B (if i = k then u else uval L G C i) _
    by_cases e : i = k
    · rw [if_pos e, if_pos e]
      exact ((hu.low (q := ⟨g, k * 2, none⟩) hg _).low (q := ⟨g, k * 2 + 1, none⟩) hg _).mono hB
    · rw [if_neg e, if_neg e, uval_eq]
      exact NB.of_row (((h.wrow i hi).far _ (fun q => h.ne i hi q.symm)).far _ (fun q => h.ne i hi q.symm)) (h.cap i hi) (h.blo i hi)
/-- a space's words are put in the place of its old ones -/
theorem OS.putw {w : World} {B g : Nat} {L : List Spc} {G C : Nat → Nat} (h : OS w B g L G C) {c : Nat} (hc : L.length ≤ c) {k : Nat} (hk : k < L.length) {u : Value} {ws : List Nat} {H : Nat} (hu : NB pw w H u ws) (hg : g < H) (hB : B ≤ H) :
    SB (w.setCell ⟨g, k * 2 + 1, none⟩ u) B (.slice (some ⟨g, 0, none⟩) L.length c) (L.set k ((L.getD k (false, [])).1, ws)) := by
  refine ⟨g, c, fun i => if i = k then u else uval L G C i, by rw [List.length_set], by rw [List.length_set]; exact hc, h.lo, ?_, fun i hi => ?_⟩
  · rw [List.length_set]
    refine (h.row.set (k * 2 + 1) (by omega) _).congr fun j hj => ?_
    have e := scell_put L (uval L G C) (fun i => if i = k then u else uval L G C i) k ((L.getD k (false, [])).1, ws) hk (fun i hi => if_neg hi) j
    rw [if_pos rfl] at e
    rw [← e]
    by_cases e1 : j = k * 2 + 1
    · rw [if_pos e1, if_pos e1]
    · rw [if_neg e1, if_neg e1]
      by_cases e2 : j = k * 2
      · rw [if_pos e2, e2, scell_o]
      · rw [if_neg e2]
  · rw [List.length_set] at hi
    rw [getD_set L k i _ hk]
    show NB pw _ B (if i = k then u else uval L G C i) _
    by_cases e : i = k
    · rw [if_pos e, if_pos e]
      exact (hu.low (q := ⟨g, k * 2 + 1, none⟩) hg _).mono hB
    · rw [if_neg e, if_neg e, uval_eq]
      exact NB.of_row ((h.wrow i hi).far _ (fun q => h.ne i hi q.symm)) (h.cap i hi) (h.blo i hi)
/-- one word is stored -/
theorem OS.word {w : World} {B g : Nat} {L : List Spc} {G C : Nat → Nat} (h : OS w B g L G C) {k : Nat} (hk : k < L.length) {i : Nat} (hi : i < (L.getD k (false, [])).2.length) (n : Nat) :
    OS (w.setCell ⟨G k, i, none⟩ (pw n)) B g (L.set k ((L.getD k (false, [])).1, (L.getD k (false, [])).2.set i n)) G C := by
  have ln : ∀ j, ((L.set k ((L.getD k (false, [])).1, (L.getD k (false, [])).2.set i n)).getD j (false, [])).2.length = (L.getD j (false, [])).2.length := fun j => by
    rw [getD_set L k j _ hk]
    by_cases e : j = k
    · rw [if_pos e, e]; simp
    · rw [if_neg e]
  refine ⟨h.lo, ?_, fun j hj => ?_, fun j hj => ?_, fun j hj => ?_, fun j hj => ?_, fun a b ha hb => ?_⟩
  · rw [List.length_set]
    refine (h.row.far _ (by exact h.ne k hk)).congr fun j hj => ?_
    have e := scell_put L (uval L G C) (uval (L.set k ((L.getD k (false, [])).1, (L.getD k (false, [])).2.set i n)) G C) k ((L.getD k (false, [])).1, (L.getD k (false, [])).2.set i n) hk (fun m hm => by rw [uval_eq, uval_eq, ln]) j
    rw [← e]
    by_cases e1 : j = k * 2 + 1
    · rw [if_pos e1, e1, scell_w, uval_eq, uval_eq, ln]
    · rw [if_neg e1]
      by_cases e2 : j = k * 2
      · rw [if_pos e2, e2, scell_o]
      · rw [if_neg e2]
  · rw [List.length_set] at hj; rw [ln]; exact h.cap j hj
  · rw [List.length_set] at hj; exact h.blo j hj
  · rw [List.length_set] at hj; exact h.ne j hj
  · rw [List.length_set] at hj
    rw [ln]
    by_cases e : j = k
    · subst e
      refine ((h.wrow j hj).set i hi _).congr fun q hq => ?_
      rw [getD_set L j j _ hj, if_pos rfl]
      by_cases e2 : q = i
      · subst e2
        rw [if_pos rfl]
        show pw n = pw (((L.getD j (false, [])).2.set q n).getD q 0)
        rw [List.getD_eq_getElem?_getD (l := (L.getD j (false, [])).2.set q n), List.getElem?_set_self hq]
        rfl
      · rw [if_neg e2]; simp [List.getD, List.getElem?_set_ne (Ne.symm e2)]
    · rw [getD_set L k j _ hk, if_neg e]
      exact (h.wrow j hj).far _ (fun q => e (h.inj j k hj hk q.symm))
  · rw [List.length_set] at ha hb; exact h.inj a b ha hb

end Go.Proofs.YtppmicepkjhfeaaGreat

/-! Foot: Two sides in one memory: the blocks of the one (its foot), and lists of spaces that lie beside them. No program in sight. -/
namespace Go.Proofs.YtppmicepkjhfeaaGreat
open Go.RowKit
set_option linter.unusedVariables false

/-- What was there is as it was, the blocks of F aside. -/
structure Keeps (F : Nat → Prop) (w w' : World) : Prop where
  os : w'.os = w.os
  tape : w'.tape = w.tape
  output : w'.output = w.output
  size : w.heap.size ≤ w'.heap.size
  block : ∀ k, k < w.heap.size → ¬ F k → w'.heap[k]? = w.heap[k]?
theorem Keeps.refl (F : Nat → Prop) (w : World) : Keeps F w w := ⟨rfl, rfl, rfl, Nat.le_refl _, fun _ _ _ => rfl⟩
theorem Keeps.of {F : Nat → Prop} {w w' : World} (h : Below w.heap.size w w') : Keeps F w w' := ⟨h.os, h.tape, h.output, h.size, fun k hk _ => h.block k hk⟩
/-- the second one's foot may be greater by blocks that are new -/
theorem Keeps.trans {F F' : Nat → Prop} {a b c : World} (h : Keeps F a b) (k : Keeps F' b c) (hF : ∀ j, j < a.heap.size → F' j → F j) : Keeps F a c :=
  ⟨k.os.trans h.os, k.tape.trans h.tape, k.output.trans h.output, Nat.le_trans h.size k.size, fun j hj hf => (k.block j (Nat.lt_of_lt_of_le hj h.size) (fun q => hf (hF j hj q))).trans (h.block j hj hf)⟩
theorem Keeps.below {F : Nat → Prop} {w w' : World} {B : Nat} (h : Keeps F w w') (hB : B ≤ w.heap.size) (hF : ∀ j, F j → B ≤ j) : Below B w w' :=
  ⟨h.os, h.tape, h.output, h.size, fun k hk => h.block k (by omega) (fun q => by have := hF k q; omega)⟩
theorem Row.keeps {F : Nat → Prop} {w w' : World} {g n : Nat} {f : Nat → Value} (r : Row w g n f) (h : Keeps F w w') (hg : ¬ F g) : Row w' g n f :=
  ⟨Nat.lt_of_lt_of_le r.lt h.size, fun j hj => by rw [World.cell?_of_block (w := w) (h.block g r.lt hg)]; exact r.cell j hj, fun j => by rw [World.frozen?_of_block (w := w) (h.block g r.lt hg)]; exact r.free j⟩
theorem PRow.keeps {F : Nat → Prop} {w w' : World} {s a b : Nat} {v : Value} {h g : Int} (r : PRow w s v a b h g) (k : Keeps F w w') (hs : ¬ F s) : PRow w' s v a b h g := Row.keeps r k hs

/-- A list of words beside the blocks of F. -/
def NF (w : World) (F : Nat → Prop) (v : Value) (L : List Nat) : Prop := ∃ a cap, v = .slice a L.length cap ∧ L.length ≤ cap ∧ (a = none → cap = 0) ∧ (L.length = 0 ∨ ∃ b off, a = some ⟨b, off, none⟩ ∧ ¬ F b ∧ b < w.heap.size ∧ ∀ i, i < L.length → w.cell? ⟨b, off + i, none⟩ = some (pw (L.getD i 0)))
theorem NF.nl {w : World} {F : Nat → Prop} {v : Value} {L : List Nat} (h : NF w F v L) : NL pw w v L := by
  obtain ⟨a, cap, rfl, hcap, hnil, h⟩ := h
  refine ⟨a, cap, rfl, hcap, hnil, ?_⟩
  rcases h with h | ⟨b, off, rfl, _, hlt, hc⟩
  · exact .inl h
  · exact .inr ⟨b, off, rfl, hlt, hc⟩
theorem NF.keeps {w w' : World} {F F' : Nat → Prop} {v : Value} {L : List Nat} (h : NF w F v L) (k : Keeps F w w') (hF : ∀ j, j < w.heap.size → F' j → F j) : NF w' F' v L := by
  obtain ⟨a, cap, rfl, hcap, hnil, h⟩ := h
  refine ⟨a, cap, rfl, hcap, hnil, ?_⟩
  rcases h with h | ⟨b, off, rfl, hb, hlt, hc⟩
  · exact .inl h
  · exact .inr ⟨b, off, rfl, fun q => hb (hF b hlt q), Nat.lt_of_lt_of_le hlt k.size, fun i hi => (World.cell?_of_block (w := w) (w' := w') (a := ⟨b, off + i, none⟩) (k.block b hlt hb)).trans (hc i hi)⟩
theorem NB.nf {w : World} {F : Nat → Prop} {B : Nat} {v : Value} {L : List Nat} (h : NB pw w B v L) (hF : ∀ j, F j → j < B) : NF w F v L := by
  obtain ⟨a, cap, rfl, hcap, hnil, h⟩ := h
  refine ⟨a, cap, rfl, hcap, hnil, ?_⟩
  rcases h with h | ⟨b, off, rfl, hb, hlt, hc⟩
  · exact .inl h
  · exact .inr ⟨b, off, rfl, fun q => by have := hF b q; omega, hlt, hc⟩
/-- A list of spaces beside the blocks of F. -/
def SF (w : World) (F : Nat → Prop) (v : Value) (L : List Spc) : Prop := ∃ a cap U, v = .slice a L.length cap ∧ L.length ≤ cap ∧ (a = none → cap = 0) ∧ (L.length = 0 ∨ ∃ b off, a = some ⟨b, off, none⟩ ∧ ¬ F b ∧ b < w.heap.size ∧ (∀ j, j < L.length * 2 → w.cell? ⟨b, off + j, none⟩ = some (scell L U j)) ∧ ∀ i, i < L.length → NF w F (U i) (L.getD i (false, [])).2)
theorem SF.nil (w : World) (F : Nat → Prop) : SF w F (.slice none 0 0) [] := ⟨none, 0, fun _ => .slice none 0 0, rfl, Nat.le_refl _, fun _ => rfl, .inl rfl⟩
theorem SF.sl {w : World} {F : Nat → Prop} {v : Value} {L : List Spc} (h : SF w F v L) : SL w v L := by
  obtain ⟨a, cap, U, rfl, hcap, hnil, h⟩ := h
  refine ⟨a, cap, U, rfl, hcap, hnil, ?_⟩
  rcases h with h | ⟨b, off, rfl, _, hlt, hc, hw⟩
  · exact .inl h
  · exact .inr ⟨b, off, rfl, hlt, hc, fun i hi => (hw i hi).nl⟩
theorem SF.keeps {w w' : World} {F F' : Nat → Prop} {v : Value} {L : List Spc} (h : SF w F v L) (k : Keeps F w w') (hF : ∀ j, j < w.heap.size → F' j → F j) : SF w' F' v L := by
  obtain ⟨a, cap, U, rfl, hcap, hnil, h⟩ := h
  refine ⟨a, cap, U, rfl, hcap, hnil, ?_⟩
  rcases h with h | ⟨b, off, rfl, hb, hlt, hc, hw⟩
  · exact .inl h
  · exact .inr ⟨b, off, rfl, fun q => hb (hF b hlt q), Nat.lt_of_lt_of_le hlt k.size, fun j hj => (World.cell?_of_block (w := w) (w' := w') (a := ⟨b, off + j, none⟩) (k.block b hlt hb)).trans (hc j hj), fun i hi => (hw i hi).keeps k hF⟩
theorem SF.below {w w' : World} {F : Nat → Prop} {v : Value} {L : List Spc} (h : SF w F v L) (k : Below w.heap.size w w') : SF w' F v L := h.keeps (Keeps.of k) (fun _ _ q => q)
theorem SB.sf {w : World} {F : Nat → Prop} {B : Nat} {v : Value} {L : List Spc} (h : SB w B v L) (hF : ∀ j, F j → j < B) : SF w F v L := by
  obtain ⟨g, cap, U, rfl, hc, hg, r, hw⟩ := h
  exact ⟨_, cap, U, rfl, hc, (fun e => nomatch e), .inr ⟨g, 0, rfl, fun q => by have := hF g q; omega, r.lt, fun j hj => by rw [Nat.zero_add]; exact r.cell j hj, fun i hi => (hw i hi).nf hF⟩⟩

end Go.Proofs.YtppmicepkjhfeaaGreat

/-! OpenMath: What Open makes of a list of spaces. No program in sight. -/
namespace Go.Proofs.YtppmicepkjhfeaaGreat
open Go.RowKit
set_option linter.unusedVariables false

/-- the first number that is free -/
def firstc : List Spc → Nat
  | [] => 0
  | x :: l => if x.1 then firstc l + 1 else 0
theorem firstc_eq (L : List Spc) (k : Nat) (h : ∀ j, j < k → (L.getD j (false, [])).1 = true) (hk : k = L.length ∨ k < L.length ∧ (L.getD k (false, [])).1 = false) : firstc L = k := by
  induction L generalizing k with
  | nil =>
    rcases hk with e | ⟨e, _⟩
    · rw [e]; rfl
    · simp at e
  | cons x l ih =>
    cases k with
    | zero =>
      rcases hk with e | ⟨_, e⟩
      · simp at e
      · have : x.1 = false := e
        show (if x.1 then firstc l + 1 else 0) = 0
        rw [this]; rfl
    | succ k =>
      have h0 : x.1 = true := h 0 (by omega)
      show (if x.1 then firstc l + 1 else 0) = k + 1
      rw [h0, if_pos rfl, ih k (fun j hj => h (j + 1) (by omega)) (by simpa using hk)]
/-- a list behind an Open of n words -/
def opened (L : List Spc) (n : Nat) : List Spc := if firstc L < L.length then L.set (firstc L) (true, List.replicate n 0) else L ++ [(true, List.replicate n 0)]
theorem Row.belowB {w w' : World} {g n B : Nat} {f : Nat → Value} (h : Row w g n f) (b : Below B w w') (hg : g < B) : Row w' g n f :=
  ⟨Nat.lt_of_lt_of_le h.lt b.size, fun j hj => by rw [b.cell (p := ⟨g, j, none⟩) hg]; exact h.cell j hj, fun j => by rw [b.frozen (p := ⟨g, j, none⟩) hg]; exact h.free j⟩
theorem PRow.belowB {w w' : World} {s a b B : Nat} {v : Value} {h g : Int} (r : PRow w s v a b h g) (k : Below B w w') (hs : s < B) : PRow w' s v a b h g := Row.belowB r k hs
/-- A list of spaces in a block of the call's own, place k aside each with its words in a block of its own. -/
structure OH (w : World) (B g k : Nat) (L : List Spc) (U : Nat → Value) : Prop where
  lo : B ≤ g
  row : Row w g (L.length * 2) (scell L U)
  nb : ∀ i, i < L.length → i ≠ k → ∃ gi ci, U i = .slice (some ⟨gi, 0, none⟩) (L.getD i (false, [])).2.length ci ∧ (L.getD i (false, [])).2.length ≤ ci ∧ B ≤ gi ∧ gi ≠ g ∧ Row w gi (L.getD i (false, [])).2.length (fun j => pw ((L.getD i (false, [])).2.getD j 0))
theorem OS.oh {w : World} {B g : Nat} {L : List Spc} {G C : Nat → Nat} (h : OS w B g L G C) (k : Nat) : OH w B g k L (uval L G C) :=
  ⟨h.lo, h.row, fun i hi _ => ⟨G i, C i, uval_eq L G C i, h.cap i hi, h.blo i hi, h.ne i hi, h.wrow i hi⟩⟩
theorem OH.below {w w' : World} {B g k : Nat} {L : List Spc} {U : Nat → Value} (h : OH w B g k L U) (b : Below w.heap.size w w') : OH w' B g k L U :=
  ⟨h.lo, h.row.below b, fun i hi hk => by
    obtain ⟨gi, ci, e, h1, h2, h3, r⟩ := h.nb i hi hk
    exact ⟨gi, ci, e, h1, h2, h3, r.below b⟩⟩
theorem OH.drew {w : World} {B g k : Nat} {L : List Spc} {U : Nat → Value} (h : OH w B g k L U) : OH w.drew B g k L U :=
  ⟨h.lo, h.row.drew, fun i hi hk => by
    obtain ⟨gi, ci, e, h1, h2, h3, r⟩ := h.nb i hi hk
    exact ⟨gi, ci, e, h1, h2, h3, r.drew⟩⟩
theorem OH.low {w : World} {B g k : Nat} {L : List Spc} {U : Nat → Value} (h : OH w B g k L U) {p : Addr} (hp : p.block < B) (x : Value) : OH (w.setCell p x) B g k L U :=
  ⟨h.lo, h.row.far x (by have := h.lo; omega), fun i hi hk => by
    obtain ⟨gi, ci, e, h1, h2, h3, r⟩ := h.nb i hi hk
    exact ⟨gi, ci, e, h1, h2, h3, r.far x (by omega)⟩⟩
/-- the space at place k is laid -/
theorem OH.put {w : World} {B g k : Nat} {L : List Spc} {U : Nat → Value} (h : OH w B g k L U) {c : Nat} (hc : L.length ≤ c) (hk : k < L.length) (o : Bool) {u : Value} {ws : List Nat} {H : Nat} (hu : NB pw w H u ws) (hg : g < H) (hB : B ≤ H) :
    SB ((w.setCell ⟨g, k * 2, none⟩ (.bool o)).setCell ⟨g, k * 2 + 1, none⟩ u) B (.slice (some ⟨g, 0, none⟩) L.length c) (L.set k (o, ws)) := by
  refine ⟨g, c, fun i => if i = k then u else U i, by rw [List.length_set], by rw [List.length_set]; exact hc, h.lo, ?_, fun i hi => ?_⟩
  · rw [List.length_set]
    refine ((h.row.set (k * 2) (by omega) _).set (k * 2 + 1) (by omega) _).congr fun j hj => ?_
    have e := scell_put L U (fun i => if i = k then u else U i) k (o, ws) hk (fun i hi => if_neg hi) j
    rw [if_pos rfl] at e
    exact e
  · rw [List.length_set] at hi
    rw [getD_set L k i (o, ws) hk]
    show NB pw _ B (if i = k then u else U i) _
    by_cases e : i = k
    · rw [if_pos e, if_pos e]
      exact ((hu.low (q := ⟨g, k * 2, none⟩) hg _).low (q := ⟨g, k * 2 + 1, none⟩) hg _).mono hB
    · rw [if_neg e, if_neg e]
      obtain ⟨gi, ci, eu, h1, h2, h3, r⟩ := h.nb i hi e
      rw [eu]
      exact NB.of_row ((r.far _ (fun q => h3 q.symm)).far _ (fun q => h3 q.symm)) h1 h2
/-- a closed space behind the last one -/
theorem OS.more {w w' : World} {B g g' : Nat} {L : List Spc} {G C : Nat → Nat} (h : OS w B g L G C) (row : Row w' g' ((L.length + 1) * 2) (scell (L ++ [(false, [])]) (fun i => if i < L.length then uval L G C i else .slice none 0 0))) (hg : g' = g ∨ w.heap.size ≤ g') (hr : w.grownBy w' (some g)) :
    OH w' B g' L.length (L ++ [(false, [])]) (fun i => if i < L.length then uval L G C i else .slice none 0 0) := by
  have lo : B ≤ g' := by
    rcases hg with e | e
    · rw [e]; exact h.lo
    · have := h.lo; have := h.row.lt; omega
  refine ⟨lo, by rw [List.length_append]; exact row, fun i hi hk => ?_⟩
  have hil : i < L.length := by rw [List.length_append] at hi; simp at hi; omega
  have gd : (L ++ [(false, [])]).getD i (false, []) = L.getD i (false, []) := by simp [List.getD, List.getElem?_append_left hil]
  rw [gd]
  refine ⟨G i, C i, by rw [if_pos hil, uval_eq], h.cap i hil, h.blo i hil, ?_, ?_⟩
  · rcases hg with e | e
    · rw [e]; exact h.ne i hil
    · have := (h.wrow i hil).lt; omega
  · have r := h.wrow i hil
    have hb : w'.heap[G i]? = w.heap[G i]? := hr.block (G i) r.lt (fun e => h.ne i hil (Option.some.inj e))
    exact ⟨Nat.lt_of_lt_of_le r.lt hr.size, fun j hj => by rw [World.cell?_of_block (w := w) hb]; exact r.cell j hj, fun j => by rw [World.frozen?_of_block (w := w) hb]; exact r.free j⟩
theorem NB.drew {p : Nat → Value} {w : World} {B : Nat} {v : Value} {L : List Nat} (h : NB p w B v L) : NB p w.drew B v L := h
theorem SB.drew {w : World} {B : Nat} {v : Value} {L : List Spc} (h : SB w B v L) : SB w.drew B v L := by
  obtain ⟨g, cap, U, e, hc, hg, r, hw⟩ := h
  exact ⟨g, cap, U, e, hc, hg, r.drew, fun i hi => (hw i hi).drew⟩
theorem scell_snoc (L : List Spc) (U : Nat → Value) (x : Spc) (u : Value) : (List.range (L.length * 2)).map (scell L U) ++ [.bool x.1, u] = (List.range ((L.length + 1) * 2)).map (scell (L ++ [x]) (fun i => if i < L.length then U i else u)) := by
  refine List.ext_getElem? fun j => ?_
  by_cases h : j < L.length * 2
  · rw [List.getElem?_append_left (by simpa using h)]
    simp only [List.getElem?_map, List.getElem?_range h, List.getElem?_range (show j < (L.length + 1) * 2 by omega), Option.map_some]
    congr 1
    by_cases o : j % 2 = 0
    · rw [show j = j / 2 * 2 by omega, scell_o, scell_o]
      simp [List.getD, List.getElem?_append_left (show j / 2 < L.length by omega)]
    · rw [show j = j / 2 * 2 + 1 by omega, scell_w, scell_w, if_pos (by omega)]
  · by_cases h0 : j = L.length * 2
    · subst h0
      rw [List.getElem?_append_right (by simp)]
      simp only [List.length_map, List.length_range, Nat.sub_self, List.getElem?_map, List.getElem?_range (show L.length * 2 < (L.length + 1) * 2 by omega), Option.map_some]
      rw [scell_o]
      simp [List.getD]
    · by_cases h1 : j = L.length * 2 + 1
      · subst h1
        rw [List.getElem?_append_right (by simp)]
        simp only [List.length_map, List.length_range, List.getElem?_map, List.getElem?_range (show L.length * 2 + 1 < (L.length + 1) * 2 by omega), Option.map_some]
        rw [scell_w, if_neg (by omega)]
        simp
      · rw [List.getElem?_eq_none (by simp; omega), List.getElem?_eq_none (by simp; omega)]

attribute [irreducible] firstc opened
end Go.Proofs.YtppmicepkjhfeaaGreat

/-! Zeros: append(l, make([]T, k)...) to a list of one's own. No program in sight. -/
namespace Go.Proofs.YtppmicepkjhfeaaGreat
open Go.RowKit
set_option linter.unusedVariables false

/-! ### append of noughts -/
theorem zeroCells_one (z : Value) (k : Nat) : (Builtin.zeroCells #[z] k).toList = List.replicate k z := by
  simp [Builtin.zeroCells]
  apply List.ext_getElem
  · simp
  · intro i h1 h2
    simp [Nat.mod_one]
/-- append(l, make([]T, k)...) to a list of one's own, the elements of one cell: k noughts behind. -/
theorem run_append_own_zeros {P : Program} (w : World) (base : Nat) (t tn ty e : TypeId) (i : TypeInfo) (z : Value) (bytes : Nat) (kq kn : IntKind) (ht : P.underlying t = some (.slice e)) (htn : P.underlying tn = some (.int kn)) (hi : P.info? e = some i) (hz : i.zero = some z)
    (hsize : i.size = 1) (hby : i.bytes = bytes) (hzs : z.cells = #[z]) (h1 : z.oneCell' = true)
    (v : Value) (n : Nat) (xs : List Value) (hown : w.ownsRow base e 1 v n xs) (k : Nat) (hk : 0 < k)
    (h63 : n + k ≤ maxLen) (hbytes : (n + k) * bytes ≤ 140737488355328) (hkb : k * bytes ≤ 140737488355328) (hbase : base ≤ w.heap.size) :
    ∃ v' w', (Builtin.append_ #[t, tn] ty #[v, .int kq (k : Int)]).run P w = .ok v' w' ∧ w'.ownsRow base e 1 v' (n + k) (xs ++ List.replicate k z) ∧ w.grownBy w' v.ownBlock := by
  subst hby
  have hsmall : n + k ≤ 9223372036854775807 := by simp only [maxLen] at h63; omega
  have hlen : (xs ++ List.replicate k z).length = (n + k) * 1 := by rw [List.length_append, hown.1, List.length_replicate, Nat.mul_one, Nat.mul_one]
  have grown : ∀ (old : Nat), old < n + k → ∀ (row : Option Nat),
      (w.drew.alloc (.cells (xs.toArray ++ Builtin.zeroCells z.cells k ++ Builtin.zeroCells z.cells (grownCap w (n + k) old e - (n + k))) e)).ownsRow base e 1
        (.slice (some ⟨w.heap.size, 0, none⟩) (n + k) (grownCap w (n + k) old e)) (n + k) (xs ++ List.replicate k z) ∧
      w.grownBy (w.drew.alloc (.cells (xs.toArray ++ Builtin.zeroCells z.cells k ++ Builtin.zeroCells z.cells (grownCap w (n + k) old e - (n + k))) e)) row := by
    intro old ho row
    have hge := grownCap_ge w (n + k) old e
    have hcm : grownCap w (n + k) old e ≤ maxLen := grownCap_le_maxLen w (n + k) old e h63
    have hx := hown.1
    refine ⟨⟨hlen, .inr ⟨w.heap.size, _, _, rfl, hbase, heap_alloc_new w.drew _, hge, hcm, ?_, ?_⟩⟩, ⟨rfl, rfl, rfl, by simp, fun q hq _ => heap_alloc_old w.drew _ hq⟩⟩
    · simp only [Array.size_append, List.size_toArray, size_zeroCells, hzs, hx]
      simp; omega
    · simp only [Array.toList_append, List.append_assoc]
      rw [hzs, zeroCells_one, ← List.append_assoc, ← hlen]
      exact List.take_left
  rcases hown.2 with ⟨rfl, rfl⟩ | ⟨g, cap, cur, rfl, hbg, hg, hnc, hcm, hcs, htake⟩
  · have hx : xs = [] := List.eq_nil_of_length_eq_zero (by simpa using hown.1)
    subst hx
    have hr := Lib.run_append_nil_zeros (P := P) w t tn ty e i z kq kn ht htn hi hz k hk (by omega) (by omega) (by omega)
    have hgr := grown 0 (by omega) (Value.ownBlock (.slice none 0 0))
    simp only [Nat.zero_add, List.nil_append, Array.empty_append] at hgr ⊢
    exact ⟨_, _, hr, hgr.1, hgr.2⟩
  · by_cases hroom : n + k ≤ cap
    · have hw : IntKind.i64.wrap (k : Int) = k := by rw [IntKind.wrap_i64]; omega
      have hneg : ¬ ((k : Int) < 0) := by omega
      have h48i : ¬ (281474976710656 < (k : Int) * (i.bytes : Int)) := by rw [← Int.natCast_mul]; omega
      have hk0 : k ≠ 0 := by omega
      have hst := run_storeCells_at P g n e (List.replicate k z) 0 cur w hg (by rw [List.length_replicate]; omega) (fun u hu => by rw [List.eq_of_mem_replicate hu]; exact h1)
      simp only [Nat.add_zero] at hst
      have hr : (Builtin.append_ #[t, tn] ty #[.slice (some ⟨g, 0, none⟩) n cap, .int kq (k : Int)]).run P w = .ok (.slice (some ⟨g, 0, none⟩) (n + k) cap) (w.setRow g (cur.toList.take n ++ List.replicate k z ++ cur.toList.drop (n + (List.replicate k z).length)).toArray) := by
        simp [Builtin.append_, run_underlying ht, run_underlying htn, sizeOf, typeInfo, zeroValue, hi, hz, asInt, asIntOf, hw, hneg, h48i, hk0, hsize, hroom, hzs, zeroCells_one, Addr.add_lit, hst]
      refine ⟨_, _, hr, ⟨hlen, .inr ⟨g, cap, _, rfl, hbg, setRow_heap w g cur _ e _ hg, hroom, hcm, ?_, ?_⟩⟩, ⟨rfl, rfl, rfl, by simp, fun j _ hj => setRow_other w g j _ (fun e => hj (by simp [Value.ownBlock, e]))⟩⟩
      · simp only [List.size_toArray, List.length_append, List.length_take, List.length_drop, Array.length_toList, List.length_replicate]
        omega
      · rw [Nat.mul_one] at htake
        rw [htake, ← hlen]
        exact List.take_left
    · have hold : (Builtin.firstCells i.size n (.slice (some ⟨g, 0, none⟩) n cap)).run P w.drew = .ok xs.toArray w.drew :=
        run_firstCells_some w.drew i.size n ⟨g, 0, none⟩ n cap xs (by rw [hsize]; exact hown.1) (fun j u hj => by simpa using hown.cells (g := g) rfl j u hj)
      have hr := Lib.run_append_grow_zeros (P := P) w t tn ty e i z kq kn ht htn hi hz (some ⟨g, 0, none⟩) n cap xs hold k hk (by omega) (by omega) (by omega) (by omega) (growslice_fits (by omega) hbytes)
      have hgr := grown cap (by omega) (Value.ownBlock (.slice (some ⟨g, 0, none⟩) n cap))
      exact ⟨_, _, hr, hgr.1, hgr.2⟩
theorem run_append_none_zeros {P : Program} (w : World) (t tn ty e : TypeId) (i : TypeInfo) (z : Value) (kq kn : IntKind) (ht : P.underlying t = some (.slice e)) (htn : P.underlying tn = some (.int kn)) (hi : P.info? e = some i) (hz : i.zero = some z) (a : Addr) (n cap : Nat) (hn : n ≤ cap) :
    (Builtin.append_ #[t, tn] ty #[.slice (some a) n cap, .int kq 0]).run P w = .ok (.slice (some a) n cap) w := by
  have hw : IntKind.i64.wrap 0 = 0 := by rw [IntKind.wrap_i64]; omega
  simp [Builtin.append_, run_underlying ht, run_underlying htn, sizeOf, typeInfo, zeroValue, hi, hz, asInt, asIntOf, hw, hn, storeCells]

end Go.Proofs.YtppmicepkjhfeaaGreat

