/-
  A meter in plain numbers; its cells in memory; a world that has turned in one block alone. No program in sight.
-/
import Derived.Test.YtibaloamgpcghaaMath01
import Derived.Test.YtibaloamgpcghaaRow
namespace Go.Proofs.Ytibaloamgpcghaa
open Go.RowKit
set_option linter.unusedVariables false

/-- a fact laid in the midst of a walk -/
theorem lay {p q : Prop} (h : p) (k : p → q) : q := k h

/-! ### what a call makes of a meter -/
/-- the counter of kind q behind a Step of kind k -/
def stepv (q k n : Int) (x : Nat) : Nat := if k = q ∧ 0 < n then addv x n.toNat else x
def holdOk (h n : Int) : Prop := 0 ≤ n ∧ n ≤ 281474976710656 - h
def holdh (h n : Int) : Int := if 0 ≤ n ∧ n ≤ 281474976710656 - h then h + n else h
def holdg (h g n : Int) : Int := if 0 ≤ n ∧ n ≤ 281474976710656 - h then (if g < h + n then h + n else g) else g
def holde (h n : Int) : Int := if n < 0 then 1 else if 281474976710656 - h < n then 3 else 0
def freeh (h n : Int) : Int := if 0 ≤ n ∧ n ≤ h then h - n else h
def freee (h n : Int) : Int := if n < 0 then 1 else if h < n then 4 else 0
theorem stepv_y {q k n : Int} (x : Nat) (h : k = q) (p : 0 < n) : stepv q k n x = addv x n.toNat := by unfold stepv; exact if_pos ⟨h, p⟩
theorem stepv_n {q k n : Int} (x : Nat) (h : ¬ (k = q ∧ 0 < n)) : stepv q k n x = x := by unfold stepv; exact if_neg h
theorem stepv_N {q k n : Int} {x : Nat} (h : N128 x) : N128 (stepv q k n x) := by
  unfold stepv; split
  · exact N128_addv _ _
  · exact h
theorem addv_ge {a b : Nat} (ha : N128 a) : a ≤ addv a b := by
  by_cases h : N128 (a + b)
  · rw [addv_t h]; omega
  · rw [addv_f h]; unfold N128 most at *; omega
theorem stepv_ge {q k n : Int} {x : Nat} (h : N128 x) : x ≤ stepv q k n x := by
  unfold stepv; split
  · exact addv_ge h
  · omega
theorem addv_mono {a b c d : Nat} (hc : a ≤ c) (hd : b ≤ d) (h1 : N128 a) : addv a b ≤ addv c d := by
  by_cases h : N128 (c + d)
  · have h' : N128 (a + b) := by unfold N128 at *; omega
    rw [addv_t h, addv_t h']; omega
  · rw [addv_f h]
    have := N128_addv a b
    unfold N128 most at *; omega
theorem cmpv_up {a b : Nat} (h : b ≤ a) : 0 ≤ cmpv a b := by
  unfold cmpv; rw [if_neg (by omega)]; split <;> omega
/-- what is right of the words in use, always -/
def Fit (h g : Int) : Prop := 0 ≤ h ∧ h ≤ g ∧ g ≤ 281474976710656
theorem Fit.hold {h g n : Int} (f : Fit h g) : Fit (holdh h n) (holdg h g n) := by
  unfold Fit at *; unfold holdh holdg
  split
  · split <;> omega
  · omega
theorem Fit.free {h g n : Int} (f : Fit h g) : Fit (freeh h n) g := by
  unfold Fit at *; unfold freeh; split <;> omega
theorem holdg_ge {h g n : Int} : g ≤ holdg h g n := by
  unfold holdg; split
  · split <;> omega
  · omega

/-! ### its cells -/
/-- those of a meter: in use, the greatest number, reads, writes -/
def mc (a b : Nat) (h g : Int) (j : Nat) : Value := if j = 0 then .int .i64 h else if j = 1 then .int .i64 g else if j = 2 then .int .u64 (hi a) else if j = 3 then .int .u64 (lo a) else if j = 4 then .int .u64 (hi b) else .int .u64 (lo b)
/-- those of a state: reads, writes, in use, the greatest number -/
def sc (a b : Nat) (h g : Int) (j : Nat) : Value := if j = 0 then .int .u64 (hi a) else if j = 1 then .int .u64 (lo a) else if j = 2 then .int .u64 (hi b) else if j = 3 then .int .u64 (lo b) else if j = 4 then .int .i64 h else .int .i64 g
/-- those of a wide number -/
def wc2 (a : Nat) (j : Nat) : Value := if j = 0 then .int .u64 (hi a) else .int .u64 (lo a)
theorem six {j : Nat} (h : j < 6) : j = 0 ∨ j = 1 ∨ j = 2 ∨ j = 3 ∨ j = 4 ∨ j = 5 := by omega
theorem mc_new (a b : Nat) (h g : Int) (j : Nat) (hj : j < 6) : (#[Value.int .i64 h, .int .i64 g, .int .u64 (hi a), .int .u64 (lo a), .int .u64 (hi b), .int .u64 (lo b)] : Array Value)[j]? = some (mc a b h g j) := by
  rcases six hj with rfl | rfl | rfl | rfl | rfl | rfl <;> rfl
theorem sc_new (a b : Nat) (h g : Int) (j : Nat) (hj : j < 6) : (#[Value.int .u64 (hi a), .int .u64 (lo a), .int .u64 (hi b), .int .u64 (lo b), .int .i64 h, .int .i64 g] : Array Value)[j]? = some (sc a b h g j) := by
  rcases six hj with rfl | rfl | rfl | rfl | rfl | rfl <;> rfl
theorem wc2_new (a : Nat) (j : Nat) (hj : j < 2) : (#[Value.int .u64 (hi a), .int .u64 (lo a)] : Array Value)[j]? = some (wc2 a j) := by
  have h : j = 0 ∨ j = 1 := by omega
  rcases h with rfl | rfl <;> rfl
/-- a meter, a state, a number in a block -/
def MRow (w : World) (m : Nat) (a b : Nat) (h g : Int) : Prop := Row w m 6 (mc a b h g)
def SRow (w : World) (s : Nat) (a b : Nat) (h g : Int) : Prop := Row w s 6 (sc a b h g)
def WRow (w : World) (v : Nat) (a : Nat) : Prop := Row w v 2 (wc2 a)
theorem MRow.all {w : World} {m a b : Nat} {h g : Int} (r : MRow w m a b h g) : w.cell? ⟨m, 0, none⟩ = some (.int .i64 h) ∧ w.cell? ⟨m, 1, none⟩ = some (.int .i64 g) ∧ w.cell? ⟨m, 2, none⟩ = some (.int .u64 (hi a)) ∧ w.cell? ⟨m, 3, none⟩ = some (.int .u64 (lo a)) ∧ w.cell? ⟨m, 4, none⟩ = some (.int .u64 (hi b)) ∧ w.cell? ⟨m, 5, none⟩ = some (.int .u64 (lo b)) ∧ (∀ j, w.frozen? ⟨m, j, none⟩ = false) :=
  ⟨r.cell 0 (by omega), r.cell 1 (by omega), r.cell 2 (by omega), r.cell 3 (by omega), r.cell 4 (by omega), r.cell 5 (by omega), r.free⟩
theorem SRow.all {w : World} {m a b : Nat} {h g : Int} (r : SRow w m a b h g) : w.cell? ⟨m, 0, none⟩ = some (.int .u64 (hi a)) ∧ w.cell? ⟨m, 1, none⟩ = some (.int .u64 (lo a)) ∧ w.cell? ⟨m, 2, none⟩ = some (.int .u64 (hi b)) ∧ w.cell? ⟨m, 3, none⟩ = some (.int .u64 (lo b)) ∧ w.cell? ⟨m, 4, none⟩ = some (.int .i64 h) ∧ w.cell? ⟨m, 5, none⟩ = some (.int .i64 g) ∧ (∀ j, w.frozen? ⟨m, j, none⟩ = false) :=
  ⟨r.cell 0 (by omega), r.cell 1 (by omega), r.cell 2 (by omega), r.cell 3 (by omega), r.cell 4 (by omega), r.cell 5 (by omega), r.free⟩
theorem WRow.all {w : World} {v a : Nat} (r : WRow w v a) : w.cell? ⟨v, 0, none⟩ = some (.int .u64 (hi a)) ∧ w.cell? ⟨v, 1, none⟩ = some (.int .u64 (lo a)) ∧ (∀ j, w.frozen? ⟨v, j, none⟩ = false) :=
  ⟨r.cell 0 (by omega), r.cell 1 (by omega), r.free⟩
theorem WRow.c0 {w : World} {v a : Nat} (r : WRow w v a) : w.cell? ⟨v, 0, none⟩ = some (.int .u64 (hi a)) := r.cell 0 (by omega)
theorem WRow.c1 {w : World} {v a : Nat} (r : WRow w v a) : w.cell? ⟨v, 1, none⟩ = some (.int .u64 (lo a)) := r.cell 1 (by omega)
theorem WRow.alloc {w : World} {v a : Nat} (r : WRow w v a) (o : Obj) : WRow (w.alloc o) v a := Row.alloc r o
theorem WRow.far2 {w : World} {v a b : Nat} (r : WRow w v a) (h : v < b) (x y : Value) : WRow ((w.setCell ⟨b, 0, none⟩ x).setCell ⟨b, 1, none⟩ y) v a := Row.far (Row.far r x (by simp; omega)) y (by simp; omega)
theorem WRow.f0 {w : World} {v a b : Nat} (r : WRow w v a) (h : v < b) (x y : Value) : ((w.setCell ⟨b, 0, none⟩ x).setCell ⟨b, 1, none⟩ y).cell? ⟨v, 0, none⟩ = some (.int .u64 (hi a)) := (r.far2 h x y).c0
theorem WRow.f1 {w : World} {v a b : Nat} (r : WRow w v a) (h : v < b) (x y : Value) : ((w.setCell ⟨b, 0, none⟩ x).setCell ⟨b, 1, none⟩ y).cell? ⟨v, 1, none⟩ = some (.int .u64 (lo a)) := (r.far2 h x y).c1
theorem MRow.alloc {w : World} {m a b : Nat} {h g : Int} (r : MRow w m a b h g) (o : Obj) : MRow (w.alloc o) m a b h g := Row.alloc r o
theorem SRow.alloc {w : World} {m a b : Nat} {h g : Int} (r : SRow w m a b h g) (o : Obj) : SRow (w.alloc o) m a b h g := Row.alloc r o
theorem MRow.setH {w : World} {m a b : Nat} {h g : Int} (r : MRow w m a b h g) (x : Int) : MRow (w.setCell ⟨m, 0, none⟩ (.int .i64 x)) m a b x g :=
  (Row.set r 0 (by omega) _).congr fun j hj => by rcases six hj with rfl | rfl | rfl | rfl | rfl | rfl <;> rfl
theorem MRow.setG {w : World} {m a b : Nat} {h g : Int} (r : MRow w m a b h g) (x : Int) : MRow (w.setCell ⟨m, 1, none⟩ (.int .i64 x)) m a b h x :=
  (Row.set r 1 (by omega) _).congr fun j hj => by rcases six hj with rfl | rfl | rfl | rfl | rfl | rfl <;> rfl
theorem MRow.setA {w : World} {m a b : Nat} {h g : Int} (r : MRow w m a b h g) (x : Nat) : MRow ((w.setCell ⟨m, 2, none⟩ (.int .u64 (hi x))).setCell ⟨m, 3, none⟩ (.int .u64 (lo x))) m x b h g :=
  (Row.set (Row.set r 2 (by omega) _) 3 (by omega) _).congr fun j hj => by rcases six hj with rfl | rfl | rfl | rfl | rfl | rfl <;> rfl
theorem MRow.setB {w : World} {m a b : Nat} {h g : Int} (r : MRow w m a b h g) (x : Nat) : MRow ((w.setCell ⟨m, 4, none⟩ (.int .u64 (hi x))).setCell ⟨m, 5, none⟩ (.int .u64 (lo x))) m a x h g :=
  (Row.set (Row.set r 4 (by omega) _) 5 (by omega) _).congr fun j hj => by rcases six hj with rfl | rfl | rfl | rfl | rfl | rfl <;> rfl
theorem SRow.setA {w : World} {m a b : Nat} {h g : Int} (r : SRow w m a b h g) (x : Nat) : SRow ((w.setCell ⟨m, 0, none⟩ (.int .u64 (hi x))).setCell ⟨m, 1, none⟩ (.int .u64 (lo x))) m x b h g :=
  (Row.set (Row.set r 0 (by omega) _) 1 (by omega) _).congr fun j hj => by rcases six hj with rfl | rfl | rfl | rfl | rfl | rfl <;> rfl
theorem SRow.setB {w : World} {m a b : Nat} {h g : Int} (r : SRow w m a b h g) (x : Nat) : SRow ((w.setCell ⟨m, 2, none⟩ (.int .u64 (hi x))).setCell ⟨m, 3, none⟩ (.int .u64 (lo x))) m a x h g :=
  (Row.set (Row.set r 2 (by omega) _) 3 (by omega) _).congr fun j hj => by rcases six hj with rfl | rfl | rfl | rfl | rfl | rfl <;> rfl
theorem Row.setS {w : World} {m : Nat} {f : Nat → Value} (r : Row w m 6 f) (x y : Nat) (p q : Int) : SRow ((((((w.setCell ⟨m, 0, none⟩ (.int .u64 (hi x))).setCell ⟨m, 1, none⟩ (.int .u64 (lo x))).setCell ⟨m, 2, none⟩ (.int .u64 (hi y))).setCell ⟨m, 3, none⟩ (.int .u64 (lo y))).setCell ⟨m, 4, none⟩ (.int .i64 p)).setCell ⟨m, 5, none⟩ (.int .i64 q)) m x y p q :=
  (Row.set (Row.set (Row.set (Row.set (Row.set (Row.set r 0 (by omega) _) 1 (by omega) _) 2 (by omega) _) 3 (by omega) _) 4 (by omega) _) 5 (by omega) _).congr fun j hj => by rcases six hj with rfl | rfl | rfl | rfl | rfl | rfl <;> rfl

theorem Row.setW {w : World} {v : Nat} {f : Nat → Value} (r : Row w v 2 f) (x : Nat) : WRow ((w.setCell ⟨v, 0, none⟩ (.int .u64 (hi x))).setCell ⟨v, 1, none⟩ (.int .u64 (lo x))) v x :=
  (Row.set (Row.set r 0 (by omega) _) 1 (by omega) _).congr fun j hj => by
    have h : j = 0 ∨ j = 1 := by omega
    rcases h with rfl | rfl <;> rfl
theorem Row.zz {w : World} {v : Nat} {z : Value} (r : Row w v 2 (fun _ => z)) : w.cell? ⟨v, 0, none⟩ = some z ∧ w.cell? ⟨v, 1, none⟩ = some z ∧ w.frozen? ⟨v, 0, none⟩ = false ∧ w.frozen? ⟨v, 1, none⟩ = false ∧ v < w.heap.size := ⟨r.cell 0 (by omega), r.cell 1 (by omega), r.free 0, r.free 1, r.lt⟩
theorem Row.fr {w : World} {v n : Nat} {f : Nat → Value} (r : Row w v n f) (j : Nat) : w.frozen? ⟨v, j, none⟩ = false := r.free j
theorem Row.zzz {w : World} {v : Nat} (r : Row w v 6 (fun j => if j < 4 then .int .u64 0 else .int .i64 0)) : w.cell? ⟨v, 0, none⟩ = some (.int .u64 0) ∧ w.cell? ⟨v, 1, none⟩ = some (.int .u64 0) ∧ w.cell? ⟨v, 2, none⟩ = some (.int .u64 0) ∧ w.cell? ⟨v, 3, none⟩ = some (.int .u64 0) ∧ w.cell? ⟨v, 4, none⟩ = some (.int .i64 0) ∧ w.cell? ⟨v, 5, none⟩ = some (.int .i64 0) ∧ (∀ j, w.frozen? ⟨v, j, none⟩ = false) :=
  ⟨r.cell 0 (by omega), r.cell 1 (by omega), r.cell 2 (by omega), r.cell 3 (by omega), r.cell 4 (by omega), r.cell 5 (by omega), r.free⟩
theorem zero2 (j : Nat) (hj : j < 2) : (#[Value.int .u64 0, .int .u64 0] : Array Value)[j]? = some (.int .u64 0) := by
  have h : j = 0 ∨ j = 1 := by omega
  rcases h with rfl | rfl <;> rfl
theorem zero6 (j : Nat) (hj : j < 6) : (#[Value.int .u64 0, .int .u64 0, .int .u64 0, .int .u64 0, .int .i64 0, .int .i64 0] : Array Value)[j]? = some (if j < 4 then .int .u64 0 else .int .i64 0) := by
  rcases six hj with rfl | rfl | rfl | rfl | rfl | rfl <;> rfl

/-! ### a world that has turned in one block alone -/
/-- Below block number B the world w' is as w was, block m aside. -/
structure Bar (m B : Nat) (w w' : World) : Prop where
  os : w'.os = w.os
  tape : w'.tape = w.tape
  output : w'.output = w.output
  size : w.heap.size ≤ w'.heap.size
  block : ∀ k, k < B → k ≠ m → w'.heap[k]? = w.heap[k]?
theorem Bar.refl (m B : Nat) (w : World) : Bar m B w w := ⟨rfl, rfl, rfl, Nat.le_refl _, fun _ _ _ => rfl⟩
theorem Bar.of {m B : Nat} {w w' : World} (h : Below B w w') : Bar m B w w' := ⟨h.os, h.tape, h.output, h.size, fun k hk _ => h.block k hk⟩
theorem Bar.trans {m B : Nat} {a b c : World} (h : Bar m B a b) (k : Bar m B b c) : Bar m B a c :=
  ⟨k.os.trans h.os, k.tape.trans h.tape, k.output.trans h.output, Nat.le_trans h.size k.size, fun i hi hm => (k.block i hi hm).trans (h.block i hi hm)⟩
theorem Bar.set {m B : Nat} {a w : World} (h : Bar m B a w) (o : Nat) (v : Value) : Bar m B a (w.setCell ⟨m, o, none⟩ v) :=
  h.trans ⟨rfl, rfl, rfl, by simp [World.setCell], fun k _ hm => Below.heap_setCell _ _ _ _ hm⟩
theorem Bar.then {m : Nat} {a b c : World} (h : Bar m a.heap.size a b) (k : Below b.heap.size b c) : Bar m a.heap.size a c := h.trans (Bar.of (k.mono h.size))
theorem Bar.drew {m B : Nat} {a w : World} (h : Bar m B a w) : Bar m B a w.drew := ⟨h.os, h.tape, h.output, h.size, h.block⟩
theorem Bar.below {m B : Nat} {w w' : World} (h : Bar m w.heap.size w w') (hm : B ≤ m) (hB : B ≤ w.heap.size) : Below B w w' :=
  ⟨h.os, h.tape, h.output, h.size, fun k hk => h.block k (by omega) (by omega)⟩
theorem Row.bar {w w' : World} {g n m : Nat} {f : Nat → Value} (h : Row w g n f) (b : Bar m w.heap.size w w') (hg : g ≠ m) : Row w' g n f :=
  ⟨Nat.lt_of_lt_of_le h.lt b.size, fun j hj => by rw [World.cell?_of_block (w := w) (b.block g h.lt hg)]; exact h.cell j hj, fun j => by rw [World.frozen?_of_block (w := w) (b.block g h.lt hg)]; exact h.free j⟩
theorem MRow.below {w w' : World} {m a b : Nat} {h g : Int} (r : MRow w m a b h g) (k : Below w.heap.size w w') : MRow w' m a b h g := Row.below r k
theorem MRow.drew {w : World} {m a b : Nat} {h g : Int} (r : MRow w m a b h g) : MRow w.drew m a b h g := Row.drew r
theorem SRow.drew {w : World} {m a b : Nat} {h g : Int} (r : SRow w m a b h g) : SRow w.drew m a b h g := Row.drew r
theorem WRow.drew {w : World} {v a : Nat} (r : WRow w v a) : WRow w.drew v a := Row.drew r
theorem SRow.below {w w' : World} {m a b : Nat} {h g : Int} (r : SRow w m a b h g) (k : Below w.heap.size w w') : SRow w' m a b h g := Row.below r k
theorem WRow.below {w w' : World} {v a : Nat} (r : WRow w v a) (k : Below w.heap.size w w') : WRow w' v a := Row.below r k

theorem Row.far6 {w : World} {g n : Nat} {f : Nat → Value} (r : Row w g n f) {v : Nat} (hv : v ≠ g) (x0 x1 x2 x3 x4 x5 : Value) : Row ((((((w.setCell ⟨v, 0, none⟩ x0).setCell ⟨v, 1, none⟩ x1).setCell ⟨v, 2, none⟩ x2).setCell ⟨v, 3, none⟩ x3).setCell ⟨v, 4, none⟩ x4).setCell ⟨v, 5, none⟩ x5) g n f :=
  Row.far (Row.far (Row.far (Row.far (Row.far (Row.far r x0 hv) x1 hv) x2 hv) x3 hv) x4 hv) x5 hv
/-- a meter, a state, a number and a second number stand in blocks of the call's own -/
structure All (W : World) (m sb vb lb a b : Nat) (h g : Int) (s l : Nat) (w : World) : Prop where
  rm : MRow w m a b h g
  rs : SRow w sb a b h g
  rv : WRow w vb s
  rl : WRow w lb l
  rb : Below W.heap.size W w
theorem All.below {W : World} {m sb vb lb a b : Nat} {h g : Int} {s l : Nat} {w w' : World} (A : All W m sb vb lb a b h g s l w) (k : Below w.heap.size w w') : All W m sb vb lb a b h g s l w' :=
  ⟨A.rm.below k, A.rs.below k, A.rv.below k, A.rl.below k, A.rb.trans (k.mono A.rb.size)⟩
theorem All.drew {W : World} {m sb vb lb a b : Nat} {h g : Int} {s l : Nat} {w : World} (A : All W m sb vb lb a b h g s l w) : All W m sb vb lb a b h g s l w.drew := ⟨A.rm.drew, A.rs.drew, A.rv.drew, A.rl.drew, A.rb.drew⟩
theorem All.keep {W : World} {m sb vb lb a b : Nat} {h g : Int} {s l : Nat} {w : World} (A : All W m sb vb lb a b h g s l w) :
    w.cell? ⟨sb, 0, none⟩ = some (.int .u64 (hi a)) ∧ w.cell? ⟨sb, 1, none⟩ = some (.int .u64 (lo a)) ∧ w.cell? ⟨sb, 2, none⟩ = some (.int .u64 (hi b)) ∧ w.cell? ⟨sb, 3, none⟩ = some (.int .u64 (lo b)) ∧ w.cell? ⟨sb, 4, none⟩ = some (.int .i64 h) ∧ w.cell? ⟨sb, 5, none⟩ = some (.int .i64 g) ∧
    w.cell? ⟨vb, 0, none⟩ = some (.int .u64 (hi s)) ∧ w.cell? ⟨vb, 1, none⟩ = some (.int .u64 (lo s)) ∧ w.cell? ⟨lb, 0, none⟩ = some (.int .u64 (hi l)) ∧ w.cell? ⟨lb, 1, none⟩ = some (.int .u64 (lo l)) :=
  ⟨A.rs.all.1, A.rs.all.2.1, A.rs.all.2.2.1, A.rs.all.2.2.2.1, A.rs.all.2.2.2.2.1, A.rs.all.2.2.2.2.2.1, A.rv.c0, A.rv.c1, A.rl.c0, A.rl.c1⟩
/-- the same without the second number -/
structure Thr (W : World) (m sb vb a b : Nat) (h g : Int) (s : Nat) (w : World) : Prop where
  rm : MRow w m a b h g
  rs : SRow w sb a b h g
  rv : WRow w vb s
  rb : Below W.heap.size W w
theorem Thr.below {W : World} {m sb vb a b : Nat} {h g : Int} {s : Nat} {w w' : World} (A : Thr W m sb vb a b h g s w) (k : Below w.heap.size w w') : Thr W m sb vb a b h g s w' :=
  ⟨A.rm.below k, A.rs.below k, A.rv.below k, A.rb.trans (k.mono A.rb.size)⟩
theorem Thr.drew {W : World} {m sb vb a b : Nat} {h g : Int} {s : Nat} {w : World} (A : Thr W m sb vb a b h g s w) : Thr W m sb vb a b h g s w.drew := ⟨A.rm.drew, A.rs.drew, A.rv.drew, A.rb.drew⟩
theorem Thr.alloc {W : World} {m sb vb a b : Nat} {h g : Int} {s : Nat} {w : World} (A : Thr W m sb vb a b h g s w) (o : Obj) : Thr W m sb vb a b h g s (w.alloc o) := A.below ((Below.refl _ _).alloc (Nat.le_refl _) o)
theorem Thr.set2 {W : World} {m sb vb a b : Nat} {h g : Int} {s n : Nat} {w : World} (A : Thr W m sb vb a b h g s w) (h1 : m < n) (h2 : sb < n) (h3 : vb < n) (h4 : W.heap.size ≤ n) (x y : Value) : Thr W m sb vb a b h g s ((w.setCell ⟨n, 0, none⟩ x).setCell ⟨n, 1, none⟩ y) :=
  ⟨Row.far (Row.far A.rm x (Nat.ne_of_gt h1)) y (Nat.ne_of_gt h1), Row.far (Row.far A.rs x (Nat.ne_of_gt h2)) y (Nat.ne_of_gt h2), Row.far (Row.far A.rv x (Nat.ne_of_gt h3)) y (Nat.ne_of_gt h3), (A.rb.setCell h4 x).setCell h4 y⟩
theorem Thr.keep {W : World} {m sb vb a b : Nat} {h g : Int} {s : Nat} {w : World} (A : Thr W m sb vb a b h g s w) :
    w.cell? ⟨sb, 0, none⟩ = some (.int .u64 (hi a)) ∧ w.cell? ⟨sb, 1, none⟩ = some (.int .u64 (lo a)) ∧ w.cell? ⟨sb, 2, none⟩ = some (.int .u64 (hi b)) ∧ w.cell? ⟨sb, 3, none⟩ = some (.int .u64 (lo b)) ∧ w.cell? ⟨sb, 4, none⟩ = some (.int .i64 h) ∧ w.cell? ⟨sb, 5, none⟩ = some (.int .i64 g) ∧
    w.cell? ⟨vb, 0, none⟩ = some (.int .u64 (hi s)) ∧ w.cell? ⟨vb, 1, none⟩ = some (.int .u64 (lo s)) :=
  ⟨A.rs.all.1, A.rs.all.2.1, A.rs.all.2.2.1, A.rs.all.2.2.2.1, A.rs.all.2.2.2.2.1, A.rs.all.2.2.2.2.2.1, A.rv.c0, A.rv.c1⟩
theorem Thr.lt {W : World} {m sb vb a b : Nat} {h g : Int} {s : Nat} {w : World} (A : Thr W m sb vb a b h g s w) : m < w.heap.size ∧ sb < w.heap.size ∧ vb < w.heap.size ∧ W.heap.size ≤ w.heap.size := ⟨Row.lt A.rm, Row.lt A.rs, Row.lt A.rv, A.rb.size⟩
theorem Thr.and {W : World} {m sb vb lb a b : Nat} {h g : Int} {s l : Nat} {w : World} (A : Thr W m sb vb a b h g s w) (r : WRow w lb l) : All W m sb vb lb a b h g s l w := ⟨A.rm, A.rs, A.rv, r, A.rb⟩
/-- two cells of what was there when the call began -/
theorem pairKeep {W w : World} {g i j : Nat} {x y : Value} (c0 : W.cell? ⟨g, i, none⟩ = some x) (c1 : W.cell? ⟨g, j, none⟩ = some y) (hg : g < W.heap.size) (h : Below W.heap.size W w) : w.cell? ⟨g, i, none⟩ = some x ∧ w.cell? ⟨g, j, none⟩ = some y :=
  ⟨(h.cell (p := ⟨g, i, none⟩) hg).trans c0, (h.cell (p := ⟨g, j, none⟩) hg).trans c1⟩
theorem bTwo {a w : World} (h : Below a.heap.size a w) {v : Nat} (hv : a.heap.size ≤ v) (i j : Nat) (x y : Value) : Below a.heap.size a ((w.setCell ⟨v, i, none⟩ x).setCell ⟨v, j, none⟩ y) := (h.setCell hv x).setCell hv y
theorem bSix {a w : World} (h : Below a.heap.size a w) {v : Nat} (hv : a.heap.size ≤ v) (x0 x1 x2 x3 x4 x5 : Value) : Below a.heap.size a ((((((w.setCell ⟨v, 0, none⟩ x0).setCell ⟨v, 1, none⟩ x1).setCell ⟨v, 2, none⟩ x2).setCell ⟨v, 3, none⟩ x3).setCell ⟨v, 4, none⟩ x4).setCell ⟨v, 5, none⟩ x5) := (((((h.setCell hv x0).setCell hv x1).setCell hv x2).setCell hv x3).setCell hv x4).setCell hv x5

attribute [irreducible] stepv holdh holdg holde freeh freee mc sc wc2
end Go.Proofs.Ytibaloamgpcghaa
