/-
  What each call of package mem makes of a Mem in plain numbers: the same at the program and at the document.
-/
import Derived.Test.YtgnpakpnocbhhaaMeters
import Derived.Test.YtgnpakpnocbhhaaCopyOk08
namespace Go.Proofs.Ytgnpakpnocbhhaa
open Go.RowKit
set_option linter.unusedVariables false

/-- what a call leaves: the spaces, the counters, a number, a code -/
structure Out where
  L : List Spc
  a : Nat
  b : Nat
  h : Int
  g : Int
  i : Int
  c : Int
def openv (L : List Spc) (a b : Nat) (h g n : Int) : Out := if n < 0 then ⟨L, a, b, h, g, 0, 1⟩ else if 4194304 < n then ⟨L, a, b, h, g, 0, 7⟩ else ⟨opened L n.toNat, a, b, holdh h n, holdg h g n, (firstc L : Nat), 0⟩
def closev (L : List Spc) (a b : Nat) (h g id : Int) : Out := if isv L id = true then ⟨L.set id.toNat (false, []), a, b, freeh h ((wds L id.toNat).length : Nat), g, 0, 0⟩ else ⟨L, a, b, h, g, 0, 10⟩
def growv (L : List Spc) (a b : Nat) (h g id n : Int) : Out := if isv L id = true then (if n < ((wds L id.toNat).length : Int) then ⟨L, a, b, h, g, 0, 1⟩ else if 4194304 < n then ⟨L, a, b, h, g, 0, 7⟩ else ⟨L.set id.toNat ((L.getD id.toNat (false, [])).1, wds L id.toNat ++ List.replicate (n - ((wds L id.toNat).length : Int)).toNat 0), a, b, holdh h (n - ((wds L id.toNat).length : Int)), holdg h g (n - ((wds L id.toNat).length : Int)), 0, 0⟩) else ⟨L, a, b, h, g, 0, 10⟩
def readv (L : List Spc) (a b : Nat) (h g id at' : Int) : Out := if wrongv L id at' 1 = 0 then ⟨L, stepv 0 0 1 a, stepv 1 0 1 b, h, g, (wat L id.toNat at'.toNat : Nat), 0⟩ else ⟨L, a, b, h, g, 0, wrongv L id at' 1⟩
def writev (L : List Spc) (a b : Nat) (h g id at' : Int) (x : Nat) : Out := if wrongv L id at' 1 = 0 then ⟨L.set id.toNat ((L.getD id.toNat (false, [])).1, (wds L id.toNat).set at'.toNat x), stepv 0 1 1 a, stepv 1 1 1 b, h, g, 0, 0⟩ else ⟨L, a, b, h, g, 0, wrongv L id at' 1⟩
def zerov (L : List Spc) (a b : Nat) (h g id at' n : Int) : Out := if wrongv L id at' n = 0 then ⟨L.set id.toNat ((L.getD id.toNat (false, [])).1, wset (wds L id.toNat) at'.toNat (fun _ => 0) n.toNat), stepv 0 1 n a, stepv 1 1 n b, h, g, 0, 0⟩ else ⟨L, a, b, h, g, 0, wrongv L id at' n⟩
def copyv (L : List Spc) (a b : Nat) (h g fr at' tt ds n : Int) : Out := if isv L fr = true ∧ isv L tt = true then (if wrongv L fr at' n = 0 ∧ wrongv L tt ds n = 0 then ⟨L.set tt.toNat ((L.getD tt.toNat (false, [])).1, wset (wds L tt.toNat) ds.toNat (fun j => wat L fr.toNat (at'.toNat + j)) n.toNat), stepv 0 1 n (stepv 0 0 n a), stepv 1 1 n (stepv 1 0 n b), h, g, 0, 0⟩ else ⟨L, a, b, h, g, 0, 11⟩) else ⟨L, a, b, h, g, 0, 10⟩

/-- behind a call of the program -/
def PGot (mb mm : Nat) (R : Nat → Nat) (w : World) (o : Out) (v : Value) (e : Ending) (w' : World) : Prop := ∃ R', e = .returned v ∧ MM w' R' mb mm o.L o.a o.b o.h o.g ∧ TR R R' w w'
/-- behind a call of the document's -/
def RGot (w : World) (v : Value) (L : List Spc) (o : Out) (f : Value → Value) (e : Ending) (w' : World) : Prop := ∃ v', e = .returned (f (ssv v' o.a o.b o.h o.g)) ∧ (SB w' w.heap.size v' o.L ∨ v' = v ∧ o.L = L) ∧ Below w.heap.size w w'
theorem PGot.same {mb mm : Nat} {R : Nat → Nat} {L : List Spc} {a b : Nat} {h g : Int} {w : World} (hm : MM w R mb mm L a b h g) {f : Nat} {args : Array Value} {i c : Int} {v : Value} (C : Calls Try.prog f args w fun e w' => e = .returned v ∧ w' = w) : Calls Try.prog f args w (PGot mb mm R w ⟨L, a, b, h, g, i, c⟩ v) :=
  C.mono fun e w' ⟨he, hw⟩ => ⟨R, he, by rw [hw]; exact hm, by rw [hw]; exact TR.refl _ _⟩
theorem RGot.same {L : List Spc} {a b : Nat} {h g : Int} {w : World} {v : Value} {f : Nat} {args : Array Value} {i c : Int} {F : Value → Value} (C : Calls Try.prog f args w fun e w' => e = .returned (F (ssv v a b h g)) ∧ Below w.heap.size w w') : Calls Try.prog f args w (RGot w v L ⟨L, a, b, h, g, i, c⟩ F) :=
  C.mono fun e w' ⟨he, hw⟩ => ⟨v, he, .inr ⟨rfl, rfl⟩, hw⟩
/-- what always holds of a Mem's plain numbers -/
theorem MM.plain {w : World} {R : Nat → Nat} {mb mm : Nat} {L : List Spc} {a b : Nat} {h g : Int} (m : MM w R mb mm L a b h g) : N128 a ∧ N128 b ∧ Fit h g ∧ (∀ i, i < L.length → (wds L i).length ≤ 4194304) ∧ (∀ j, R j ≠ 0 → j < w.heap.size) ∧ countv L ≤ L.length := by
  obtain ⟨sv, qv, U, Q, m⟩ := m
  exact ⟨m.na, m.nb, m.fit, m.lw, m.hi, by have := m.ln; omega⟩

section
variable (mb mm : Nat) (R : Nat → Nat) (L : List Spc) (a b : Nat) (h g : Int) (w : World) (hm : MM w R mb mm L a b h g)
include hm
theorem mopen_any (n : Int) (hl : L.length ≤ 200000) : Calls Try.prog 13 #[at0 mb, .int .i64 n] w (PGot mb mm R w (openv L a b h g n) (.tuple #[.int .i64 (openv L a b h g n).i, .int .i64 (openv L a b h g n).c])) := by
  by_cases h0 : n < 0
  · rw [show openv L a b h g n = ⟨L, a, b, h, g, 0, 1⟩ by unfold openv; rw [if_pos h0]]
    exact PGot.same hm (mopen_neg mb n h0 w)
  · by_cases h1 : 4194304 < n
    · rw [show openv L a b h g n = ⟨L, a, b, h, g, 0, 7⟩ by unfold openv; rw [if_neg h0, if_pos h1]]
      exact PGot.same hm (mopen_long mb n h1 w)
    · rw [show openv L a b h g n = ⟨opened L n.toNat, a, b, holdh h n, holdg h g n, (firstc L : Nat), 0⟩ by unfold openv; rw [if_neg h0, if_neg h1]]
      obtain ⟨t, rfl⟩ := Int.eq_ofNat_of_zero_le (show 0 ≤ n by omega)
      rw [Int.toNat_natCast]
      exact (mopen_ok mb mm R L a b h g w hm t (by omega) (by have := hm.plain.2.2.2.2.2; omega)).mono fun e w' ⟨R', he, M, T⟩ => ⟨R', he, M, T⟩
theorem mclose_any (id : Int) : Calls Try.prog 15 #[at0 mb, .int .i64 id] w (PGot mb mm R w (closev L a b h g id) (.int .i64 (closev L a b h g id).c)) := by
  by_cases hi : isv L id = true
  · obtain ⟨k, rfl, hk, ho⟩ := isv_of hi
    rw [show closev L a b h g (k : Int) = ⟨L.set k (false, []), a, b, freeh h ((wds L k).length : Nat), g, 0, 0⟩ by unfold closev; rw [if_pos hi, Int.toNat_natCast]]
    exact (mclose_ok mb mm R L a b h g w hm k hk ho).mono fun e w' ⟨R', he, M, T⟩ => ⟨R', he, M, T⟩
  · rw [show closev L a b h g id = ⟨L, a, b, h, g, 0, 10⟩ by unfold closev; rw [if_neg hi]]
    exact PGot.same hm (mclose_no mb mm R L a b h g w hm id (isv_f hi))
theorem mgrow_any (id n : Int) : Calls Try.prog 16 #[at0 mb, .int .i64 id, .int .i64 n] w (PGot mb mm R w (growv L a b h g id n) (.int .i64 (growv L a b h g id n).c)) := by
  by_cases hi : isv L id = true
  · obtain ⟨k, rfl, hk, ho⟩ := isv_of hi
    by_cases h0 : n < ((wds L k).length : Int)
    · rw [show growv L a b h g (k : Int) n = ⟨L, a, b, h, g, 0, 1⟩ by unfold growv; rw [if_pos hi, Int.toNat_natCast, if_pos h0]]
      exact PGot.same hm (mgrow_low mb mm R L a b h g w hm k n hk ho h0)
    · by_cases h1 : 4194304 < n
      · rw [show growv L a b h g (k : Int) n = ⟨L, a, b, h, g, 0, 7⟩ by unfold growv; rw [if_pos hi, Int.toNat_natCast, if_neg h0, if_pos h1]]
        exact PGot.same hm (mgrow_long mb mm R L a b h g w hm k n hk ho (by omega) h1)
      · obtain ⟨q, hq⟩ := Int.eq_ofNat_of_zero_le (show 0 ≤ n - ((wds L k).length : Int) by omega)
        obtain ⟨t, rfl⟩ := Int.eq_ofNat_of_zero_le (show 0 ≤ n by omega)
        rw [show growv L a b h g (k : Int) (t : Int) = ⟨L.set k ((L.getD k (false, [])).1, wds L k ++ List.replicate q 0), a, b, holdh h (q : Int), holdg h g (q : Int), 0, 0⟩ by unfold growv; rw [if_pos hi, Int.toNat_natCast, if_neg h0, if_neg h1, hq, Int.toNat_natCast]]
        exact (mgrow_ok mb mm R L a b h g w hm k t q hk ho (by omega) (by omega)).mono fun e w' ⟨R', he, M, T⟩ => ⟨R', he, M, T⟩
  · rw [show growv L a b h g id n = ⟨L, a, b, h, g, 0, 10⟩ by unfold growv; rw [if_neg hi]]
    exact PGot.same hm (mgrow_no mb mm R L a b h g w hm id n (isv_f hi))
theorem mread_any (id at' : Int) (ha : at' ≤ 9223372036854775807) : Calls Try.prog 19 #[at0 mb, .int .i64 id, .int .i64 at'] w (PGot mb mm R w (readv L a b h g id at') (.tuple #[.int .u64 (readv L a b h g id at').i, .int .i64 (readv L a b h g id at').c])) := by
  by_cases hE : wrongv L id at' 1 = 0
  · obtain ⟨k, i, t, rfl, rfl, ht, hk, hI, hl⟩ := wrongv_0 hE
    rw [show readv L a b h g (k : Int) (i : Int) = ⟨L, stepv 0 0 1 a, stepv 1 0 1 b, h, g, (wat L k i : Nat), 0⟩ by unfold readv; rw [if_pos hE, Int.toNat_natCast, Int.toNat_natCast]]
    exact (mread_ok mb mm R L a b h g w hm k i hk (by omega) hI hE).mono fun e w' ⟨he, M, T⟩ => ⟨R, he, M, T⟩
  · rw [show readv L a b h g id at' = ⟨L, a, b, h, g, 0, wrongv L id at' 1⟩ by unfold readv; rw [if_neg hE]]
    exact PGot.same hm (mread_bad mb mm R L a b h g w hm id at' ha hE)
theorem mwrite_any (id at' : Int) (x : Nat) (ha : at' ≤ 9223372036854775807) : Calls Try.prog 14 #[at0 mb, .int .i64 id, .int .i64 at', .int .u64 (x : Int)] w (PGot mb mm R w (writev L a b h g id at' x) (.int .i64 (writev L a b h g id at' x).c)) := by
  by_cases hE : wrongv L id at' 1 = 0
  · obtain ⟨k, i, t, rfl, rfl, ht, hk, hI, hl⟩ := wrongv_0 hE
    rw [show writev L a b h g (k : Int) (i : Int) x = ⟨L.set k ((L.getD k (false, [])).1, (wds L k).set i x), stepv 0 1 1 a, stepv 1 1 1 b, h, g, 0, 0⟩ by unfold writev; rw [if_pos hE, Int.toNat_natCast, Int.toNat_natCast]]
    exact (mwrite_ok mb mm R L a b h g w hm k i x hk (by omega) hI hE).mono fun e w' ⟨he, M, T⟩ => ⟨R, he, M, T⟩
  · rw [show writev L a b h g id at' x = ⟨L, a, b, h, g, 0, wrongv L id at' 1⟩ by unfold writev; rw [if_neg hE]]
    exact PGot.same hm (mwrite_bad mb mm R L a b h g w hm id at' x ha hE)
theorem mzero_any (id at' n : Int) (ha : at' ≤ 9223372036854775807) : Calls Try.prog 17 #[at0 mb, .int .i64 id, .int .i64 at', .int .i64 n] w (PGot mb mm R w (zerov L a b h g id at' n) (.int .i64 (zerov L a b h g id at' n).c)) := by
  by_cases hE : wrongv L id at' n = 0
  · obtain ⟨k, i, t, rfl, rfl, rfl, hk, hI, hl⟩ := wrongv_0 hE
    rw [show zerov L a b h g (k : Int) (i : Int) (t : Int) = ⟨L.set k ((L.getD k (false, [])).1, wset (wds L k) i (fun _ => 0) t), stepv 0 1 (t : Int) a, stepv 1 1 (t : Int) b, h, g, 0, 0⟩ by unfold zerov; rw [if_pos hE, Int.toNat_natCast, Int.toNat_natCast, Int.toNat_natCast]]
    exact (mzero_ok mb mm R L a b h g w hm k i t hk hl hI hE).mono fun e w' ⟨he, M, T⟩ => ⟨R, he, M, T⟩
  · rw [show zerov L a b h g id at' n = ⟨L, a, b, h, g, 0, wrongv L id at' n⟩ by unfold zerov; rw [if_neg hE]]
    exact PGot.same hm (mzero_bad mb mm R L a b h g w hm id at' n ha hE)
theorem mcopy_any (fr at' tt ds n : Int) (ha : at' ≤ 9223372036854775807) (hd : ds ≤ 9223372036854775807) : Calls Try.prog 18 #[at0 mb, .int .i64 fr, .int .i64 at', .int .i64 tt, .int .i64 ds, .int .i64 n] w (PGot mb mm R w (copyv L a b h g fr at' tt ds n) (.int .i64 (copyv L a b h g fr at' tt ds n).c)) := by
  by_cases hF : isv L fr = true
  · by_cases hT : isv L tt = true
    · by_cases hE : wrongv L fr at' n = 0
      · by_cases hD : wrongv L tt ds n = 0
        · obtain ⟨kf, i, t, rfl, rfl, rfl, hkf, _, hif⟩ := wrongv_0 hE
          obtain ⟨k, d, t', rfl, rfl, et, hk, _, hi'⟩ := wrongv_0 hD
          obtain rfl := Int.ofNat.inj et
          rw [show copyv L a b h g (kf : Int) (i : Int) (k : Int) (d : Int) (t : Int) = ⟨L.set k ((L.getD k (false, [])).1, wset (wds L k) d (fun j => wat L kf (i + j)) t), stepv 0 1 (t : Int) (stepv 0 0 (t : Int) a), stepv 1 1 (t : Int) (stepv 1 0 (t : Int) b), h, g, 0, 0⟩ by
            unfold copyv
            rw [if_pos ⟨hF, hT⟩, if_pos ⟨hE, hD⟩]; simp only [Int.toNat_natCast]]
          exact (mcopy_ok mb mm R L a b h g w hm kf i k d t hkf hk hif hi' hF hT hE hD).mono fun e w' ⟨he, M, T⟩ => ⟨R, he, M, T⟩
        · rw [show copyv L a b h g fr at' tt ds n = ⟨L, a, b, h, g, 0, 11⟩ by unfold copyv; rw [if_pos ⟨hF, hT⟩, if_neg (fun q => hD q.2)]]
          exact PGot.same hm (mcopy_bad2 mb mm R L a b h g w hm fr at' tt ds n hF hT ha hd hE hD)
      · rw [show copyv L a b h g fr at' tt ds n = ⟨L, a, b, h, g, 0, 11⟩ by unfold copyv; rw [if_pos ⟨hF, hT⟩, if_neg (fun q => hE q.1)]]
        exact PGot.same hm (mcopy_bad1 mb mm R L a b h g w hm fr at' tt ds n hF hT ha hE)
    · rw [show copyv L a b h g fr at' tt ds n = ⟨L, a, b, h, g, 0, 10⟩ by unfold copyv; rw [if_neg (fun q => hT q.2)]]
      exact PGot.same hm (mcopy_no2 mb mm R L a b h g w hm fr at' tt ds n hF (isv_f hT))
  · rw [show copyv L a b h g fr at' tt ds n = ⟨L, a, b, h, g, 0, 10⟩ by unfold copyv; rw [if_neg (fun q => hF q.1)]]
    exact PGot.same hm (mcopy_no1 mb mm R L a b h g w hm fr at' tt ds n (isv_f hF))
end
attribute [irreducible] openv closev growv readv writev zerov copyv
end Go.Proofs.Ytgnpakpnocbhhaa
