/-
  A Mem in a caller's hands: one space's words turned, reads and writes where the place is known, stores aside.
-/
import Derived.Test.YtibaloamgpcghaaMemB
namespace Go.Proofs.Ytibaloamgpcghaa
open Go.RowKit
set_option linter.unusedVariables false

theorem MM.lens {w : World} {R : Nat → Nat} {mb mm : Nat} {L : List Spc} {a b : Nat} {h g : Int} (m : MM w R mb mm L a b h g) (k : Nat) (hk : k < L.length) : (wds L k).length ≤ 4194304 := by
  obtain ⟨sv, qv, U, Q, m⟩ := m
  exact m.lw k hk
theorem MM.hi {w : World} {R : Nat → Nat} {mb mm : Nat} {L : List Spc} {a b : Nat} {h g : Int} (m : MM w R mb mm L a b h g) : ∀ j, R j ≠ 0 → j < w.heap.size := by
  obtain ⟨sv, qv, U, Q, m⟩ := m
  exact m.hi
theorem MM.ns {w : World} {R : Nat → Nat} {mb mm : Nat} {L : List Spc} {a b : Nat} {h g : Int} (m : MM w R mb mm L a b h g) : N128 a ∧ N128 b := by
  obtain ⟨sv, qv, U, Q, m⟩ := m
  exact ⟨m.na, m.nb⟩
/-- stores aside leave a Mem as it was -/
theorem MM.aside {F : Nat → Prop} {w w' : World} {R : Nat → Nat} {mb mm : Nat} {L : List Spc} {a b : Nat} {h g : Int} (m : MM w R mb mm L a b h g) (k : Keeps F w w') (hF : ∀ j, R j ≠ 0 → ¬ F j) : MM w' R mb mm L a b h g := by
  obtain ⟨sv, qv, U, Q, m⟩ := m
  have nz : ∀ j n, n ≠ 0 → R j = n → ¬ F j := fun j n hn e => hF j (by omega)
  exact ⟨sv, qv, U, Q, fun j hj => Nat.lt_of_lt_of_le (m.hi j hj) k.size, m.r1, m.r2, Row.keeps m.row k (nz mb 1 (by omega) m.r1), Row.keeps m.met k (nz mm 2 (by omega) m.r2), m.sp.keeps k (fun j _ h3 => nz j 3 (by omega) h3) (fun _ _ h => h), m.cl.keeps k (fun j _ h4 => nz j 4 (by omega) h4) (fun _ _ h => h), fun i hi => (m.wd i hi).keeps k (fun j _ h5 => nz j _ (by omega) h5) (fun _ _ h => h), m.hp, m.cq, m.ln, m.lc, m.lw, m.na, m.nb, m.fit⟩
theorem MM.store {w : World} {R : Nat → Nat} {mb mm : Nat} {L : List Spc} {a b : Nat} {h g : Int} (m : MM w R mb mm L a b h g) {q : Nat} (hq : R q = 0) (i : Nat) (v : Value) : MM (w.setCell ⟨q, i, none⟩ v) R mb mm L a b h g :=
  m.aside (F := fun j => j = q) (Keeps.set w q i v rfl) (fun j hj e => hj (e ▸ hq))
theorem MM.alloc {w : World} {R : Nat → Nat} {mb mm : Nat} {L : List Spc} {a b : Nat} {h g : Int} (m : MM w R mb mm L a b h g) (o : Obj) : MM (w.alloc o) R mb mm L a b h g := m.below ((Below.refl _ _).alloc (Nat.le_refl _) o)
theorem MM.drew {w : World} {R : Nat → Nat} {mb mm : Nat} {L : List Spc} {a b : Nat} {h g : Int} (m : MM w R mb mm L a b h g) : MM w.drew R mb mm L a b h g := m.below (Below.refl _ _).drew
theorem TR.below' {R R' : Nat → Nat} {w w1 w2 : World} (t : TR R R' w w1) (b : Below w1.heap.size w1 w2) : TR R R' w w2 := t.trans (TR.of b)
theorem TR.alloc {R R' : Nat → Nat} {w w1 : World} (t : TR R R' w w1) (o : Obj) : TR R R' w (w1.alloc o) := t.below' ((Below.refl _ _).alloc (Nat.le_refl _) o)
theorem TR.store {R R' : Nat → Nat} {w w1 : World} (t : TR R R' w w1) {q : Nat} (hq : w.heap.size ≤ q) (i : Nat) (v : Value) : TR R R' w (w1.setCell ⟨q, i, none⟩ v) :=
  ⟨t.keeps.trans (F' := fun j => j = q) (Keeps.set w1 q i v rfl) (fun j hj e => by omega), t.old⟩
/-- a block that has no role stays -/
theorem Row.tr {R R' : Nat → Nat} {w w' : World} {g n : Nat} {f : Nat → Value} (r : Row w g n f) (t : TR R R' w w') (hg : R g = 0) : Row w' g n f := r.keeps t.keeps (fun q => q hg)

/-! ### the words of one space -/
def setw (L : List Spc) (k : Nat) (ws : List Nat) : List Spc := L.set k ((L.getD k (false, [])).1, ws)
theorem setw_len (L : List Spc) (k : Nat) (ws : List Nat) : (setw L k ws).length = L.length := by unfold setw; simp
theorem setw_wds {L : List Spc} {k : Nat} (hk : k < L.length) (ws : List Nat) : wds (setw L k ws) k = ws := by unfold setw; rw [wds_set L k k _ hk, if_pos rfl]
theorem setw_other {L : List Spc} {k i : Nat} (hk : k < L.length) (ws : List Nat) (h : i ≠ k) : wds (setw L k ws) i = wds L i := by unfold setw; rw [wds_set L k i _ hk, if_neg h]
theorem setw_open {L : List Spc} {k : Nat} (hk : k < L.length) (ws : List Nat) (i : Nat) : ((setw L k ws).getD i (false, [])).1 = (L.getD i (false, [])).1 := by
  unfold setw; rw [getD_set L k i _ hk]
  split
  · rename_i e; rw [e]
  · rfl
theorem setw_setw {L : List Spc} {k : Nat} (hk : k < L.length) (u v : List Nat) : setw (setw L k u) k v = setw L k v := by
  have e := setw_open hk u k
  unfold setw at *
  rw [e, List.set_set]
theorem setw_same {L : List Spc} {k : Nat} (hk : k < L.length) : setw L k (wds L k) = L := by
  unfold setw wds
  have e : ((L.getD k (false, [])).1, (L.getD k (false, [])).2) = L[k] := by simp [List.getD, hk]
  rw [e]; exact List.set_getElem_self hk
attribute [irreducible] setw
theorem wrongv_in {L : List Spc} {k i : Nat} (hk : k < L.length) (ho : (L.getD k (false, [])).1 = true) (hi : i < (wds L k).length) : wrongv L (k : Int) (i : Int) 1 = 0 := by
  unfold wrongv
  rw [if_neg (by rw [isv_t hk ho]; simp), Int.toNat_natCast, if_neg (by omega)]
theorem read_at (mb mm : Nat) (R : Nat → Nat) (L : List Spc) (a b : Nat) (h g : Int) (w : World) (hm : MM w R mb mm L a b h g) (k i : Nat) (hk : k < L.length) (ho : (L.getD k (false, [])).1 = true) (hi : i < (wds L k).length) :
    Calls Try.prog 40 #[at0 mb, .int .i64 (k : Int), .int .i64 (i : Int)] w fun e w' => e = .returned (.tuple #[.int .u64 (((wds L k).getD i 0 : Nat) : Int), .int .i64 0]) ∧ MM w' R mb mm L (addv a 1) b h g ∧ TR R R w w' := by
  have H := mread_ok mb mm R L a b h g w hm k i hk hi (isv_t hk ho) (wrongv_in hk ho hi)
  rw [stepv_y a rfl (by omega), stepv_n b (by omega), ← wat_nat] at H
  exact H
theorem write_at (mb mm : Nat) (R : Nat → Nat) (L : List Spc) (a b : Nat) (h g : Int) (w : World) (hm : MM w R mb mm L a b h g) (k i x : Nat) (hk : k < L.length) (ho : (L.getD k (false, [])).1 = true) (hi : i < (wds L k).length) :
    Calls Try.prog 15 #[at0 mb, .int .i64 (k : Int), .int .i64 (i : Int), .int .u64 (x : Int)] w fun e w' => e = .returned (.int .i64 0) ∧ MM w' R mb mm (setw L k ((wds L k).set i x)) a (addv b 1) h g ∧ TR R R w w' := by
  have H := mwrite_ok mb mm R L a b h g w hm k i x hk hi (isv_t hk ho) (wrongv_in hk ho hi)
  rw [stepv_y b rfl (by omega), stepv_n a (by omega)] at H
  unfold setw
  exact H
end Go.Proofs.Ytibaloamgpcghaa
