/-
  haymowlaw08.meters. And what follows from it.
-/
import Derived.Test.YtibaloamgpcghaaMemC
import Derived.Test.YtibaloamgpcghaaCopyOk08
/-! ## haymowlaw08.meters. -/
namespace Go.Proofs.Ytibaloamgpcghaa
open Go.RowKit
set_option linter.unusedVariables false

/-- a Mem's cells, its meter, a state beside it -/
structure Met (W : World) (mb mm sb : Nat) (sv qv : Value) (a b : Nat) (h g : Int) (w : World) : Prop where
  m : WRw w mb mm sv qv
  r : MRow w mm a b h g
  s : SRow w sb a b h g
  b : Below W.heap.size W w
theorem Met.below {W : World} {mb mm sb : Nat} {sv qv : Value} {a b : Nat} {h g : Int} {w w' : World} (A : Met W mb mm sb sv qv a b h g w) (k : Below w.heap.size w w') : Met W mb mm sb sv qv a b h g w' := ⟨A.m.below k, A.r.below k, A.s.below k, A.b.trans (k.mono A.b.size)⟩
theorem Met.drew {W : World} {mb mm sb : Nat} {sv qv : Value} {a b : Nat} {h g : Int} {w : World} (A : Met W mb mm sb sv qv a b h g w) : Met W mb mm sb sv qv a b h g w.drew := ⟨A.m.drew, A.r.drew, A.s.drew, A.b.drew⟩
theorem Met.keep {W : World} {mb mm sb : Nat} {sv qv : Value} {a b : Nat} {h g : Int} {w : World} (A : Met W mb mm sb sv qv a b h g w) :
    w.cell? ⟨mb, 0, none⟩ = some (.pointer (some ⟨mm, 0, none⟩)) ∧ w.cell? ⟨sb, 0, none⟩ = some (.int .u64 (hi a)) ∧ w.cell? ⟨sb, 1, none⟩ = some (.int .u64 (lo a)) ∧ w.cell? ⟨sb, 2, none⟩ = some (.int .u64 (hi b)) ∧ w.cell? ⟨sb, 3, none⟩ = some (.int .u64 (lo b)) ∧ w.cell? ⟨sb, 4, none⟩ = some (.int .i64 h) ∧ w.cell? ⟨sb, 5, none⟩ = some (.int .i64 g) :=
  ⟨A.m.all.1, A.s.all.1, A.s.all.2.1, A.s.all.2.2.1, A.s.all.2.2.2.1, A.s.all.2.2.2.2.1, A.s.all.2.2.2.2.2.1⟩
end Go.Proofs.Ytibaloamgpcghaa
/-! ## What each call of package mem makes of a Mem in plain numbers: the same at the program and at the document. -/
namespace Go.Proofs.Ytibaloamgpcghaa
open Go.RowKit
set_option linter.unusedVariables false

/-- what a call leaves: the spaces, the counters, a number, a code -/
structure Out where
  L : List Spc
  a : Nat
  b : Nat
  h : Int
  g : Int
  i : Int
  c : Int
def openv (L : List Spc) (a b : Nat) (h g n : Int) : Out := if n < 0 then ⟨L, a, b, h, g, 0, 1⟩ else if 4194304 < n then ⟨L, a, b, h, g, 0, 7⟩ else ⟨opened L n.toNat, a, b, holdh h n, holdg h g n, (firstc L : Nat), 0⟩
def closev (L : List Spc) (a b : Nat) (h g id : Int) : Out := if isv L id = true then ⟨L.set id.toNat (false, []), a, b, freeh h ((wds L id.toNat).length : Nat), g, 0, 0⟩ else ⟨L, a, b, h, g, 0, 10⟩
def growv (L : List Spc) (a b : Nat) (h g id n : Int) : Out := if isv L id = true then (if n < ((wds L id.toNat).length : Int) then ⟨L, a, b, h, g, 0, 1⟩ else if 4194304 < n then ⟨L, a, b, h, g, 0, 7⟩ else ⟨L.set id.toNat ((L.getD id.toNat (false, [])).1, wds L id.toNat ++ List.replicate (n - ((wds L id.toNat).length : Int)).toNat 0), a, b, holdh h (n - ((wds L id.toNat).length : Int)), holdg h g (n - ((wds L id.toNat).length : Int)), 0, 0⟩) else ⟨L, a, b, h, g, 0, 10⟩
def readv (L : List Spc) (a b : Nat) (h g id at' : Int) : Out := if wrongv L id at' 1 = 0 then ⟨L, stepv 0 0 1 a, stepv 1 0 1 b, h, g, (wat L id.toNat at'.toNat : Nat), 0⟩ else ⟨L, a, b, h, g, 0, wrongv L id at' 1⟩
def writev (L : List Spc) (a b : Nat) (h g id at' : Int) (x : Nat) : Out := if wrongv L id at' 1 = 0 then ⟨L.set id.toNat ((L.getD id.toNat (false, [])).1, (wds L id.toNat).set at'.toNat x), stepv 0 1 1 a, stepv 1 1 1 b, h, g, 0, 0⟩ else ⟨L, a, b, h, g, 0, wrongv L id at' 1⟩
def zerov (L : List Spc) (a b : Nat) (h g id at' n : Int) : Out := if wrongv L id at' n = 0 then ⟨L.set id.toNat ((L.getD id.toNat (false, [])).1, wset (wds L id.toNat) at'.toNat (fun _ => 0) n.toNat), stepv 0 1 n a, stepv 1 1 n b, h, g, 0, 0⟩ else ⟨L, a, b, h, g, 0, wrongv L id at' n⟩
def copyv (L : List Spc) (a b : Nat) (h g fr at' tt ds n : Int) : Out := if isv L fr = true ∧ isv L tt = true then (if wrongv L fr at' n = 0 ∧ wrongv L tt ds n = 0 then ⟨L.set tt.toNat ((L.getD tt.toNat (false, [])).1, wset (wds L tt.toNat) ds.toNat (fun j => wat L fr.toNat (at'.toNat + j)) n.toNat), stepv 0 1 n (stepv 0 0 n a), stepv 1 1 n (stepv 1 0 n b), h, g, 0, 0⟩ else ⟨L, a, b, h, g, 0, 11⟩) else ⟨L, a, b, h, g, 0, 10⟩

/-- behind a call of the program -/
def PGot (mb mm : Nat) (R : Nat → Nat) (w : World) (o : Out) (v : Value) (e : Ending) (w' : World) : Prop := ∃ R', e = .returned v ∧ MM w' R' mb mm o.L o.a o.b o.h o.g ∧ TR R R' w w'
/-- behind a call of the document's -/
def RGot (w : World) (v : Value) (L : List Spc) (o : Out) (f : Value → Value) (e : Ending) (w' : World) : Prop := ∃ v', e = .returned (f (ssv v' o.a o.b o.h o.g)) ∧ (SB w' w.heap.size v' o.L ∨ v' = v ∧ o.L = L) ∧ Below w.heap.size w w'
theorem PGot.same {mb mm : Nat} {R : Nat → Nat} {L : List Spc} {a b : Nat} {h g : Int} {w : World} (hm : MM w R mb mm L a b h g) {f : Nat} {args : Array Value} {i c : Int} {v : Value} (C : Calls Try.prog f args w fun e w' => e = .returned v ∧ w' = w) : Calls Try.prog f args w (PGot mb mm R w ⟨L, a, b, h, g, i, c⟩ v) :=
  C.mono fun e w' ⟨he, hw⟩ => ⟨R, he, by rw [hw]; exact hm, by rw [hw]; exact TR.refl _ _⟩
theorem RGot.same {L : List Spc} {a b : Nat} {h g : Int} {w : World} {v : Value} {f : Nat} {args : Array Value} {i c : Int} {F : Value → Value} (C : Calls Try.prog f args w fun e w' => e = .returned (F (ssv v a b h g)) ∧ Below w.heap.size w w') : Calls Try.prog f args w (RGot w v L ⟨L, a, b, h, g, i, c⟩ F) :=
  C.mono fun e w' ⟨he, hw⟩ => ⟨v, he, .inr ⟨rfl, rfl⟩, hw⟩
/-- what always holds of a Mem's plain numbers -/
theorem MM.plain {w : World} {R : Nat → Nat} {mb mm : Nat} {L : List Spc} {a b : Nat} {h g : Int} (m : MM w R mb mm L a b h g) : N128 a ∧ N128 b ∧ Fit h g ∧ (∀ i, i < L.length → (wds L i).length ≤ 4194304) ∧ (∀ j, R j ≠ 0 → j < w.heap.size) ∧ countv L ≤ L.length := by
  obtain ⟨sv, qv, U, Q, m⟩ := m
  exact ⟨m.na, m.nb, m.fit, m.lw, m.hi, by have := m.ln; omega⟩

section
variable (mb mm : Nat) (R : Nat → Nat) (L : List Spc) (a b : Nat) (h g : Int) (w : World) (hm : MM w R mb mm L a b h g)
include hm
theorem mopen_any (n : Int) (hl : L.length ≤ 200000) : Calls Try.prog 7 #[at0 mb, .int .i64 n] w (PGot mb mm R w (openv L a b h g n) (.tuple #[.int .i64 (openv L a b h g n).i, .int .i64 (openv L a b h g n).c])) := by
  by_cases h0 : n < 0
  · rw [show openv L a b h g n = ⟨L, a, b, h, g, 0, 1⟩ by unfold openv; rw [if_pos h0]]
    exact PGot.same hm (mopen_neg mb n h0 w)
  · by_cases h1 : 4194304 < n
    · rw [show openv L a b h g n = ⟨L, a, b, h, g, 0, 7⟩ by unfold openv; rw [if_neg h0, if_pos h1]]
      exact PGot.same hm (mopen_long mb n h1 w)
    · rw [show openv L a b h g n = ⟨opened L n.toNat, a, b, holdh h n, holdg h g n, (firstc L : Nat), 0⟩ by unfold openv; rw [if_neg h0, if_neg h1]]
      obtain ⟨t, rfl⟩ := Int.eq_ofNat_of_zero_le (show 0 ≤ n by omega)
      rw [Int.toNat_natCast]
      exact (mopen_ok mb mm R L a b h g w hm t (by omega) (by have := hm.plain.2.2.2.2.2; omega)).mono fun e w' ⟨R', he, M, T⟩ => ⟨R', he, M, T⟩
theorem mread_any (id at' : Int) (ha : at' ≤ 9223372036854775807) : Calls Try.prog 40 #[at0 mb, .int .i64 id, .int .i64 at'] w (PGot mb mm R w (readv L a b h g id at') (.tuple #[.int .u64 (readv L a b h g id at').i, .int .i64 (readv L a b h g id at').c])) := by
  by_cases hE : wrongv L id at' 1 = 0
  · obtain ⟨k, i, t, rfl, rfl, ht, hk, hI, hl⟩ := wrongv_0 hE
    rw [show readv L a b h g (k : Int) (i : Int) = ⟨L, stepv 0 0 1 a, stepv 1 0 1 b, h, g, (wat L k i : Nat), 0⟩ by unfold readv; rw [if_pos hE, Int.toNat_natCast, Int.toNat_natCast]]
    exact (mread_ok mb mm R L a b h g w hm k i hk (by omega) hI hE).mono fun e w' ⟨he, M, T⟩ => ⟨R, he, M, T⟩
  · rw [show readv L a b h g id at' = ⟨L, a, b, h, g, 0, wrongv L id at' 1⟩ by unfold readv; rw [if_neg hE]]
    exact PGot.same hm (mread_bad mb mm R L a b h g w hm id at' ha hE)
theorem mwrite_any (id at' : Int) (x : Nat) (ha : at' ≤ 9223372036854775807) : Calls Try.prog 15 #[at0 mb, .int .i64 id, .int .i64 at', .int .u64 (x : Int)] w (PGot mb mm R w (writev L a b h g id at' x) (.int .i64 (writev L a b h g id at' x).c)) := by
  by_cases hE : wrongv L id at' 1 = 0
  · obtain ⟨k, i, t, rfl, rfl, ht, hk, hI, hl⟩ := wrongv_0 hE
    rw [show writev L a b h g (k : Int) (i : Int) x = ⟨L.set k ((L.getD k (false, [])).1, (wds L k).set i x), stepv 0 1 1 a, stepv 1 1 1 b, h, g, 0, 0⟩ by unfold writev; rw [if_pos hE, Int.toNat_natCast, Int.toNat_natCast]]
    exact (mwrite_ok mb mm R L a b h g w hm k i x hk (by omega) hI hE).mono fun e w' ⟨he, M, T⟩ => ⟨R, he, M, T⟩
  · rw [show writev L a b h g id at' x = ⟨L, a, b, h, g, 0, wrongv L id at' 1⟩ by unfold writev; rw [if_neg hE]]
    exact PGot.same hm (mwrite_bad mb mm R L a b h g w hm id at' x ha hE)
end
attribute [irreducible] openv closev growv readv writev zerov copyv
end Go.Proofs.Ytibaloamgpcghaa
/-! ## What each call of the document's makes of a state in plain numbers. -/
namespace Go.Proofs.Ytibaloamgpcghaa
open Go.RowKit
set_option linter.unusedVariables false

section
variable (v : Value) (a b : Nat) (h g : Int) (L : List Spc) (w : World) (hv : SL w v L) (hl : L.length ≤ 200000) (hw : ∀ i, i < L.length → (wds L i).length ≤ 4194304)
include hv hl hw
end
/-- a call adds one space at most -/
theorem openv_len (L : List Spc) (a b : Nat) (h g n : Int) : (openv L a b h g n).L.length ≤ L.length + 1 := by
  unfold openv
  split
  · show L.length ≤ _; omega
  · split
    · show L.length ≤ _; omega
    · show (opened L n.toNat).length ≤ _
      unfold opened
      split
      · rw [List.length_set]; omega
      · rw [List.length_append]; simp
theorem closev_len (L : List Spc) (a b : Nat) (h g id : Int) : (closev L a b h g id).L.length = L.length := by
  unfold closev; split
  · show (L.set _ _).length = _; rw [List.length_set]
  · rfl
theorem growv_len (L : List Spc) (a b : Nat) (h g id n : Int) : (growv L a b h g id n).L.length = L.length := by
  unfold growv; split
  · split
    · rfl
    · split
      · rfl
      · show (L.set _ _).length = _; rw [List.length_set]
  · rfl
theorem readv_len (L : List Spc) (a b : Nat) (h g id at' : Int) : (readv L a b h g id at').L.length = L.length := by
  unfold readv; split <;> rfl
theorem writev_len (L : List Spc) (a b : Nat) (h g id at' : Int) (x : Nat) : (writev L a b h g id at' x).L.length = L.length := by
  unfold writev; split
  · show (L.set _ _).length = _; rw [List.length_set]
  · rfl
theorem zerov_len (L : List Spc) (a b : Nat) (h g id at' n : Int) : (zerov L a b h g id at' n).L.length = L.length := by
  unfold zerov; split
  · show (L.set _ _).length = _; rw [List.length_set]
  · rfl
theorem copyv_len (L : List Spc) (a b : Nat) (h g fr at' tt ds n : Int) : (copyv L a b h g fr at' tt ds n).L.length = L.length := by
  unfold copyv; split
  · split
    · show (L.set _ _).length = _; rw [List.length_set]
    · rfl
  · rfl
end Go.Proofs.Ytibaloamgpcghaa
