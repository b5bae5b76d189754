/-
  Spaces in memory: lists of pairs of a bool and a list of words.
-/
import Derived.Test.YtibaloamgpcghaaNL
import Derived.Test.YtibaloamgpcghaaMtr
namespace Go.Proofs.Ytibaloamgpcghaa
open Go.RowKit
set_option linter.unusedVariables false

/-- a space: is it open? its words -/
abbrev Spc := Bool × List Nat
/-- the cells of a list of spaces whose words lie as U says -/
def scell (L : List Spc) (U : Nat → Value) (j : Nat) : Value := if j % 2 = 0 then .bool (L.getD (j / 2) (false, [])).1 else U (j / 2)
theorem scell_o (L : List Spc) (U : Nat → Value) (i : Nat) : scell L U (i * 2) = .bool (L.getD i (false, [])).1 := by
  unfold scell; rw [if_pos (by omega), show i * 2 / 2 = i by omega]
theorem scell_w (L : List Spc) (U : Nat → Value) (i : Nat) : scell L U (i * 2 + 1) = U i := by
  unfold scell; rw [if_neg (by omega), show (i * 2 + 1) / 2 = i by omega]
/-- The list of spaces that a slice holds in a world. -/
def SL (w : World) (v : Value) (L : List Spc) : Prop := ∃ a cap U, v = .slice a L.length cap ∧ L.length ≤ cap ∧ (a = none → cap = 0) ∧ (L.length = 0 ∨ ∃ b off, a = some ⟨b, off, none⟩ ∧ b < w.heap.size ∧ (∀ j, j < L.length * 2 → w.cell? ⟨b, off + j, none⟩ = some (scell L U j)) ∧ ∀ i, i < L.length → NL pw w (U i) (L.getD i (false, [])).2)
theorem SL.below {w w' : World} {v : Value} {L : List Spc} (h : SL w v L) (hb : Below w.heap.size w w') : SL w' v L := by
  obtain ⟨a, cap, U, rfl, hcap, hnil, h⟩ := h
  refine ⟨a, cap, U, rfl, hcap, hnil, ?_⟩
  rcases h with h | ⟨b, off, rfl, hlt, hc, hw⟩
  · exact .inl h
  · exact .inr ⟨b, off, rfl, Nat.lt_of_lt_of_le hlt hb.size, fun j hj => (hb.cell (p := ⟨b, off + j, none⟩) hlt).trans (hc j hj), fun i hi => (hw i hi).below hb⟩
theorem SL.slice {w : World} {v : Value} {L : List Spc} (h : SL w v L) : ∃ a cap, v = .slice a L.length cap := by
  obtain ⟨a, cap, U, e, _⟩ := h
  exact ⟨a, cap, e⟩
theorem SL.nil (w : World) : SL w (.slice none 0 0) [] := ⟨none, 0, fun _ => .slice none 0 0, rfl, Nat.le_refl _, fun _ => rfl, .inl rfl⟩
/-- one space of a list -/
theorem SL.at {w : World} {a : Option Addr} {n cap : Nat} {L : List Spc} (h : SL w (.slice a n cap) L) {i : Nat} (hi : i < n) :
    L.length = n ∧ ∃ b off u, a = some ⟨b, off, none⟩ ∧ b < w.heap.size ∧ w.cell? ⟨b, off + i * 2, none⟩ = some (.bool (L.getD i (false, [])).1) ∧ w.cell? ⟨b, off + i * 2 + 1, none⟩ = some u ∧ NL pw w u (L.getD i (false, [])).2 := by
  obtain ⟨a', c', U, e, hcap, hnil, h⟩ := h
  injection e with e1 e2 e3
  subst e1; subst e2; subst e3
  obtain ⟨b, off, rfl, hlt, hc, hw⟩ := h.resolve_left (by omega)
  have h0 := hc (i * 2) (by omega)
  have h1 := hc (i * 2 + 1) (by omega)
  rw [scell_o] at h0
  rw [scell_w] at h1
  exact ⟨rfl, b, off, U i, rfl, hlt, h0, by rw [Nat.add_assoc]; exact h1, hw i hi⟩
/-- the slices that the words of a list lie in -/
def uval (L : List Spc) (G C : Nat → Nat) (i : Nat) : Value := .slice (some ⟨G i, 0, none⟩) (L.getD i (false, [])).2.length (C i)
/-- A list of spaces in blocks of the call's own, each in one of its own. -/
structure OS (w : World) (B g : Nat) (L : List Spc) (G C : Nat → Nat) : Prop where
  lo : B ≤ g
  row : Row w g (L.length * 2) (scell L (uval L G C))
  cap : ∀ i, i < L.length → (L.getD i (false, [])).2.length ≤ C i
  blo : ∀ i, i < L.length → B ≤ G i
  ne : ∀ i, i < L.length → G i ≠ g
  wrow : ∀ i, i < L.length → Row w (G i) (L.getD i (false, [])).2.length (fun j => pw ((L.getD i (false, [])).2.getD j 0))
  inj : ∀ i j, i < L.length → j < L.length → G i = G j → i = j
theorem OS.below {w w' : World} {B g : Nat} {L : List Spc} {G C : Nat → Nat} (h : OS w B g L G C) (k : Below w.heap.size w w') : OS w' B g L G C :=
  ⟨h.lo, h.row.below k, h.cap, h.blo, h.ne, fun i hi => (h.wrow i hi).below k, h.inj⟩
theorem OS.drew {w : World} {B g : Nat} {L : List Spc} {G C : Nat → Nat} (h : OS w B g L G C) : OS w.drew B g L G C := ⟨h.lo, h.row.drew, h.cap, h.blo, h.ne, fun i hi => (h.wrow i hi).drew, h.inj⟩
theorem OS.sl {w : World} {B g : Nat} {L : List Spc} {G C : Nat → Nat} (h : OS w B g L G C) {c : Nat} (hc : L.length ≤ c) : SL w (.slice (some ⟨g, 0, none⟩) L.length c) L := by
  refine ⟨_, c, uval L G C, rfl, hc, (fun e => nomatch e), .inr ⟨g, 0, rfl, h.row.lt, fun j hj => by rw [Nat.zero_add]; exact h.row.cell j hj, fun i hi => ?_⟩⟩
  exact NL.of_row (h.wrow i hi) (h.cap i hi)
theorem OS.low {w : World} {B g : Nat} {L : List Spc} {G C : Nat → Nat} (h : OS w B g L G C) {p : Addr} (hp : p.block < B) (x : Value) : OS (w.setCell p x) B g L G C :=
  ⟨h.lo, h.row.far x (by have := h.lo; omega), h.cap, h.blo, h.ne, fun i hi => (h.wrow i hi).far x (by have := h.blo i hi; omega), h.inj⟩
theorem OS.mono {w : World} {B B' g : Nat} {L : List Spc} {G C : Nat → Nat} (h : OS w B g L G C) (hB : B' ≤ B) : OS w B' g L G C :=
  ⟨Nat.le_trans hB h.lo, h.row, h.cap, fun i hi => Nat.le_trans hB (h.blo i hi), h.ne, h.wrow, h.inj⟩
theorem OS.low7 {w : World} {B g : Nat} {L : List Spc} {G C : Nat → Nat} (h : OS w B g L G C) {s : Nat} (hs : s < B) (x0 x1 x2 x3 x4 x5 x6 : Value) : OS (((((((w.setCell ⟨s, 0, none⟩ x0).setCell ⟨s, 1, none⟩ x1).setCell ⟨s, 2, none⟩ x2).setCell ⟨s, 3, none⟩ x3).setCell ⟨s, 4, none⟩ x4).setCell ⟨s, 5, none⟩ x5).setCell ⟨s, 6, none⟩ x6) B g L G C :=
  ((((((h.low hs x0).low hs x1).low hs x2).low hs x3).low hs x4).low hs x5).low hs x6
theorem uval_eq (L : List Spc) (G C : Nat → Nat) (i : Nat) : uval L G C i = .slice (some ⟨G i, 0, none⟩) (L.getD i (false, [])).2.length (C i) := rfl

/-! ### a state: the spaces, what was counted -/
def st7 (v : Value) (a b : Nat) (h g : Int) (j : Nat) : Value := if j = 0 then v else if j = 1 then .int .u64 (hi a) else if j = 2 then .int .u64 (lo a) else if j = 3 then .int .u64 (hi b) else if j = 4 then .int .u64 (lo b) else if j = 5 then .int .i64 h else .int .i64 g
theorem seven {j : Nat} (h : j < 7) : j = 0 ∨ j = 1 ∨ j = 2 ∨ j = 3 ∨ j = 4 ∨ j = 5 ∨ j = 6 := by omega
theorem bSev {a w : World} (h : Below a.heap.size a w) {v : Nat} (hv : a.heap.size ≤ v) (x0 x1 x2 x3 x4 x5 x6 : Value) : Below a.heap.size a (((((((w.setCell ⟨v, 0, none⟩ x0).setCell ⟨v, 1, none⟩ x1).setCell ⟨v, 2, none⟩ x2).setCell ⟨v, 3, none⟩ x3).setCell ⟨v, 4, none⟩ x4).setCell ⟨v, 5, none⟩ x5).setCell ⟨v, 6, none⟩ x6) := ((((((h.setCell hv x0).setCell hv x1).setCell hv x2).setCell hv x3).setCell hv x4).setCell hv x5).setCell hv x6
theorem b16 {a w : World} (h : Below a.heap.size a w) {v : Nat} (hv : a.heap.size ≤ v) (x1 x2 x3 x4 x5 x6 : Value) : Below a.heap.size a ((((((w.setCell ⟨v, 1, none⟩ x1).setCell ⟨v, 2, none⟩ x2).setCell ⟨v, 3, none⟩ x3).setCell ⟨v, 4, none⟩ x4).setCell ⟨v, 5, none⟩ x5).setCell ⟨v, 6, none⟩ x6) := (((((h.setCell hv x1).setCell hv x2).setCell hv x3).setCell hv x4).setCell hv x5).setCell hv x6
theorem st7_new (v : Value) (a b : Nat) (h g : Int) (j : Nat) (hj : j < 7) : (#[v, .int .u64 (hi a), .int .u64 (lo a), .int .u64 (hi b), .int .u64 (lo b), .int .i64 h, .int .i64 g] : Array Value)[j]? = some (st7 v a b h g j) := by
  rcases seven hj with rfl | rfl | rfl | rfl | rfl | rfl | rfl <;> rfl
theorem st7_zero (j : Nat) (hj : j < 7) : (#[.slice none 0 0, .int .u64 0, .int .u64 0, .int .u64 0, .int .u64 0, .int .i64 0, .int .i64 0] : Array Value)[j]? = some (st7 (.slice none 0 0) 0 0 0 0 j) := by
  have h := st7_new (.slice none 0 0) 0 0 0 0 j hj
  rw [hi_0, lo_0] at h
  exact h
def PRow (w : World) (s : Nat) (v : Value) (a b : Nat) (h g : Int) : Prop := Row w s 7 (st7 v a b h g)
theorem PRow.all {w : World} {s a b : Nat} {v : Value} {h g : Int} (r : PRow w s v a b h g) : w.cell? ⟨s, 0, none⟩ = some v ∧ w.cell? ⟨s, 1, none⟩ = some (.int .u64 (hi a)) ∧ w.cell? ⟨s, 2, none⟩ = some (.int .u64 (lo a)) ∧ w.cell? ⟨s, 3, none⟩ = some (.int .u64 (hi b)) ∧ w.cell? ⟨s, 4, none⟩ = some (.int .u64 (lo b)) ∧ w.cell? ⟨s, 5, none⟩ = some (.int .i64 h) ∧ w.cell? ⟨s, 6, none⟩ = some (.int .i64 g) ∧ (∀ j, w.frozen? ⟨s, j, none⟩ = false) ∧ s < w.heap.size :=
  ⟨r.cell 0 (by omega), r.cell 1 (by omega), r.cell 2 (by omega), r.cell 3 (by omega), r.cell 4 (by omega), r.cell 5 (by omega), r.cell 6 (by omega), r.free, r.lt⟩
theorem PRow.below {w w' : World} {s a b : Nat} {v : Value} {h g : Int} (r : PRow w s v a b h g) (k : Below w.heap.size w w') : PRow w' s v a b h g := Row.below r k
theorem PRow.drew {w : World} {s a b : Nat} {v : Value} {h g : Int} (r : PRow w s v a b h g) : PRow w.drew s v a b h g := Row.drew r
theorem PRow.alloc {w : World} {s a b : Nat} {v : Value} {h g : Int} (r : PRow w s v a b h g) (o : Obj) : PRow (w.alloc o) s v a b h g := Row.alloc r o
theorem PRow.far {w : World} {s a b : Nat} {v : Value} {h g : Int} (r : PRow w s v a b h g) {p : Addr} (x : Value) (hp : p.block ≠ s) : PRow (w.setCell p x) s v a b h g := Row.far r x hp
theorem PRow.far16 {w : World} {s a b : Nat} {v : Value} {h g : Int} (r : PRow w s v a b h g) {t : Nat} (ht : t ≠ s) (x1 x2 x3 x4 x5 x6 : Value) : PRow ((((((w.setCell ⟨t, 1, none⟩ x1).setCell ⟨t, 2, none⟩ x2).setCell ⟨t, 3, none⟩ x3).setCell ⟨t, 4, none⟩ x4).setCell ⟨t, 5, none⟩ x5).setCell ⟨t, 6, none⟩ x6) s v a b h g :=
  (((((r.far x1 ht).far x2 ht).far x3 ht).far x4 ht).far x5 ht).far x6 ht
theorem PRow.far7 {w : World} {s a b : Nat} {v : Value} {h g : Int} (r : PRow w s v a b h g) {t : Nat} (ht : t ≠ s) (x0 x1 x2 x3 x4 x5 x6 : Value) : PRow (((((((w.setCell ⟨t, 0, none⟩ x0).setCell ⟨t, 1, none⟩ x1).setCell ⟨t, 2, none⟩ x2).setCell ⟨t, 3, none⟩ x3).setCell ⟨t, 4, none⟩ x4).setCell ⟨t, 5, none⟩ x5).setCell ⟨t, 6, none⟩ x6) s v a b h g :=
  ((((((r.far x0 ht).far x1 ht).far x2 ht).far x3 ht).far x4 ht).far x5 ht).far x6 ht
theorem PRow.setV {w : World} {s a b : Nat} {v : Value} {h g : Int} (r : PRow w s v a b h g) (u : Value) : PRow (w.setCell ⟨s, 0, none⟩ u) s u a b h g :=
  (Row.set r 0 (by omega) _).congr fun j hj => by rcases seven hj with rfl | rfl | rfl | rfl | rfl | rfl | rfl <;> rfl
theorem PRow.setM {w : World} {s a b : Nat} {v : Value} {h g : Int} (r : PRow w s v a b h g) (x y : Nat) (p q : Int) : PRow ((((((w.setCell ⟨s, 1, none⟩ (.int .u64 (hi x))).setCell ⟨s, 2, none⟩ (.int .u64 (lo x))).setCell ⟨s, 3, none⟩ (.int .u64 (hi y))).setCell ⟨s, 4, none⟩ (.int .u64 (lo y))).setCell ⟨s, 5, none⟩ (.int .i64 p)).setCell ⟨s, 6, none⟩ (.int .i64 q)) s v x y p q :=
  (Row.set (Row.set (Row.set (Row.set (Row.set (Row.set r 1 (by omega) _) 2 (by omega) _) 3 (by omega) _) 4 (by omega) _) 5 (by omega) _) 6 (by omega) _).congr fun j hj => by rcases seven hj with rfl | rfl | rfl | rfl | rfl | rfl | rfl <;> rfl
theorem Row.setP {w : World} {s : Nat} {f : Nat → Value} (r : Row w s 7 f) (v : Value) (x y : Nat) (p q : Int) : PRow (((((((w.setCell ⟨s, 0, none⟩ v).setCell ⟨s, 1, none⟩ (.int .u64 (hi x))).setCell ⟨s, 2, none⟩ (.int .u64 (lo x))).setCell ⟨s, 3, none⟩ (.int .u64 (hi y))).setCell ⟨s, 4, none⟩ (.int .u64 (lo y))).setCell ⟨s, 5, none⟩ (.int .i64 p)).setCell ⟨s, 6, none⟩ (.int .i64 q)) s v x y p q :=
  (Row.set (Row.set (Row.set (Row.set (Row.set (Row.set (Row.set r 0 (by omega) _) 1 (by omega) _) 2 (by omega) _) 3 (by omega) _) 4 (by omega) _) 5 (by omega) _) 6 (by omega) _).congr fun j hj => by rcases seven hj with rfl | rfl | rfl | rfl | rfl | rfl | rfl <;> rfl

attribute [irreducible] scell uval st7
end Go.Proofs.Ytibaloamgpcghaa
