/-
  haymowlaw08.meters. And what follows from it.
-/
import Derived.Test.YtgnpakpnocbhhaaMemC
import Derived.Test.YtgnpakpnocbhhaaCopyOk08
/-! ## haymowlaw08.meters. -/
namespace Go.Proofs.Ytgnpakpnocbhhaa
open Go.RowKit
set_option linter.unusedVariables false

/-- a Mem's cells, its meter, a state beside it -/
structure Met (W : World) (mb mm sb : Nat) (sv qv : Value) (a b : Nat) (h g : Int) (w : World) : Prop where
  m : WRw w mb mm sv qv
  r : MRow w mm a b h g
  s : SRow w sb a b h g
  b : Below W.heap.size W w
theorem Met.below {W : World} {mb mm sb : Nat} {sv qv : Value} {a b : Nat} {h g : Int} {w w' : World} (A : Met W mb mm sb sv qv a b h g w) (k : Below w.heap.size w w') : Met W mb mm sb sv qv a b h g w' := ⟨A.m.below k, A.r.below k, A.s.below k, A.b.trans (k.mono A.b.size)⟩
theorem Met.drew {W : World} {mb mm sb : Nat} {sv qv : Value} {a b : Nat} {h g : Int} {w : World} (A : Met W mb mm sb sv qv a b h g w) : Met W mb mm sb sv qv a b h g w.drew := ⟨A.m.drew, A.r.drew, A.s.drew, A.b.drew⟩
theorem Met.keep {W : World} {mb mm sb : Nat} {sv qv : Value} {a b : Nat} {h g : Int} {w : World} (A : Met W mb mm sb sv qv a b h g w) :
    w.cell? ⟨mb, 0, none⟩ = some (.pointer (some ⟨mm, 0, none⟩)) ∧ w.cell? ⟨sb, 0, none⟩ = some (.int .u64 (hi a)) ∧ w.cell? ⟨sb, 1, none⟩ = some (.int .u64 (lo a)) ∧ w.cell? ⟨sb, 2, none⟩ = some (.int .u64 (hi b)) ∧ w.cell? ⟨sb, 3, none⟩ = some (.int .u64 (lo b)) ∧ w.cell? ⟨sb, 4, none⟩ = some (.int .i64 h) ∧ w.cell? ⟨sb, 5, none⟩ = some (.int .i64 g) :=
  ⟨A.m.all.1, A.s.all.1, A.s.all.2.1, A.s.all.2.2.1, A.s.all.2.2.2.1, A.s.all.2.2.2.2.1, A.s.all.2.2.2.2.2.1⟩
set_option maxRecDepth 100000 in
set_option maxHeartbeats 4000000 in
theorem meters_true (mb mm : Nat) (R : Nat → Nat) (L : List Spc) (a b : Nat) (h g : Int) (w : World) (hm : MM w R mb mm L a b h g) :
    Calls Try.prog 12 #[at0 mb, sv a b h g] w fun e w' => e = .returned (.bool true) ∧ Below w.heap.size w w' := by
  obtain ⟨svv, qv, U, Q, m⟩ := hm
  have BA := bAlloc (Below.refl w.heap.size w) (.cells #[.int .u64 (hi a), .int .u64 (lo a), .int .u64 (hi b), .int .u64 (lo b), .int .i64 h, .int .i64 g] 33)
  have A0 : Met w mb mm w.heap.size svv qv a b h g (w.alloc (.cells #[.int .u64 (hi a), .int .u64 (lo a), .int .u64 (hi b), .int .u64 (lo b), .int .i64 h, .int .i64 g] 33)) := ⟨m.row.below BA, m.met.below BA, Row.newAt w _ _ _ 6 _ rfl (sc_new a b h g), BA⟩
  have HE := Lib.hid (fun w' r => held_any mm a b h g w' r)
  have HI := Lib.hid (fun w' r => high_any mm a b h g w' r)
  have O0 := Lib.hid (fun w' r => of_reads mm a b h g w' r)
  have O1 := Lib.hid (fun w' r => of_writes mm a b h g w' r)
  clear m BA
  go_enter Try.func12, Try.ntmps12
  go_upto_region 1 with fail
  obtain ⟨sb, hsb⟩ : ∃ sb, sb = w.heap.size := ⟨_, rfl⟩
  rw [← hsb] at A0 ⊢
  generalize w.alloc (.cells #[.int .u64 (hi a), .int .u64 (lo a), .int .u64 (hi b), .int .u64 (lo b), .int .i64 h, .int .i64 g] 33) = w1 at *
  clear hsb
  obtain ⟨k0, k1, k2, k3, k4, k5, k6⟩ := A0.keep
  first
  | (
    go_region_held3 (fun w' => w'.cell? ⟨mb, 0, none⟩ = some (.pointer (some ⟨mm, 0, none⟩)) ∧ w'.cell? ⟨sb, 0, none⟩ = some (.int .u64 (hi a)) ∧ w'.cell? ⟨sb, 1, none⟩ = some (.int .u64 (lo a)) ∧ w'.cell? ⟨sb, 2, none⟩ = some (.int .u64 (hi b)) ∧ w'.cell? ⟨sb, 3, none⟩ = some (.int .u64 (lo b)) ∧ w'.cell? ⟨sb, 4, none⟩ = some (.int .i64 h) ∧ w'.cell? ⟨sb, 5, none⟩ = some (.int .i64 g))
      (first | (refine Met.keep (W := w) (mb := mb) (mm := mm) (sv := svv) (qv := qv) (a := a) (b := b) (h := h) (g := g) ?_; repeat (first | assumption | refine Met.drew ?_)))
      (first
        | (go_at_call 21; with_reducible refine (HE.out _ ?_).mono ?_
           · refine Met.r (W := w) (mb := mb) (sb := sb) (sv := svv) (qv := qv) ?_
             repeat (first | assumption | refine Met.drew ?_)
           rintro e w2 ⟨rfl, rfl⟩)
        | (go_at_call 22; with_reducible refine (HI.out _ ?_).mono ?_
           · refine Met.r (W := w) (mb := mb) (sb := sb) (sv := svv) (qv := qv) ?_
             repeat (first | assumption | refine Met.drew ?_)
           rintro e w2 ⟨rfl, rfl⟩)
        | (go_at_call 35; with_reducible refine (O0.out _ ?_).mono ?_
           · refine Met.r (W := w) (mb := mb) (sb := sb) (sv := svv) (qv := qv) ?_
             repeat (first | assumption | refine Met.drew ?_)
           rintro e w2 ⟨rfl, b2⟩
           have A2 : Met w mb mm sb svv qv a b h g w2 := Met.below (by repeat (first | assumption | refine Met.drew ?_)) b2)
        | (go_at_call 35; with_reducible refine (O1.out _ ?_).mono ?_
           · refine Met.r (W := w) (mb := mb) (sb := sb) (sv := svv) (qv := qv) ?_
             repeat (first | assumption | refine Met.drew ?_)
           rintro e w3 ⟨rfl, b3⟩
           have A3 : Met w mb mm sb svv qv a b h g w3 := Met.below (by repeat (first | assumption | refine Met.drew ?_)) b3))
    )
  | fail "held"
  all_goals
    go_wp2_with fail
    go_ret
    exact ⟨rfl, by first | exact A3.b | exact A3.b.drew⟩
end Go.Proofs.Ytgnpakpnocbhhaa
/-! ## What each call of package mem makes of a Mem in plain numbers: the same at the program and at the document. -/
namespace Go.Proofs.Ytgnpakpnocbhhaa
open Go.RowKit
set_option linter.unusedVariables false

/-- what a call leaves: the spaces, the counters, a number, a code -/
structure Out where
  L : List Spc
  a : Nat
  b : Nat
  h : Int
  g : Int
  i : Int
  c : Int
def openv (L : List Spc) (a b : Nat) (h g n : Int) : Out := if n < 0 then ⟨L, a, b, h, g, 0, 1⟩ else if 4194304 < n then ⟨L, a, b, h, g, 0, 7⟩ else ⟨opened L n.toNat, a, b, holdh h n, holdg h g n, (firstc L : Nat), 0⟩
def closev (L : List Spc) (a b : Nat) (h g id : Int) : Out := if isv L id = true then ⟨L.set id.toNat (false, []), a, b, freeh h ((wds L id.toNat).length : Nat), g, 0, 0⟩ else ⟨L, a, b, h, g, 0, 10⟩
def growv (L : List Spc) (a b : Nat) (h g id n : Int) : Out := if isv L id = true then (if n < ((wds L id.toNat).length : Int) then ⟨L, a, b, h, g, 0, 1⟩ else if 4194304 < n then ⟨L, a, b, h, g, 0, 7⟩ else ⟨L.set id.toNat ((L.getD id.toNat (false, [])).1, wds L id.toNat ++ List.replicate (n - ((wds L id.toNat).length : Int)).toNat 0), a, b, holdh h (n - ((wds L id.toNat).length : Int)), holdg h g (n - ((wds L id.toNat).length : Int)), 0, 0⟩) else ⟨L, a, b, h, g, 0, 10⟩
def readv (L : List Spc) (a b : Nat) (h g id at' : Int) : Out := if wrongv L id at' 1 = 0 then ⟨L, stepv 0 0 1 a, stepv 1 0 1 b, h, g, (wat L id.toNat at'.toNat : Nat), 0⟩ else ⟨L, a, b, h, g, 0, wrongv L id at' 1⟩
def writev (L : List Spc) (a b : Nat) (h g id at' : Int) (x : Nat) : Out := if wrongv L id at' 1 = 0 then ⟨L.set id.toNat ((L.getD id.toNat (false, [])).1, (wds L id.toNat).set at'.toNat x), stepv 0 1 1 a, stepv 1 1 1 b, h, g, 0, 0⟩ else ⟨L, a, b, h, g, 0, wrongv L id at' 1⟩
def zerov (L : List Spc) (a b : Nat) (h g id at' n : Int) : Out := if wrongv L id at' n = 0 then ⟨L.set id.toNat ((L.getD id.toNat (false, [])).1, wset (wds L id.toNat) at'.toNat (fun _ => 0) n.toNat), stepv 0 1 n a, stepv 1 1 n b, h, g, 0, 0⟩ else ⟨L, a, b, h, g, 0, wrongv L id at' n⟩
def copyv (L : List Spc) (a b : Nat) (h g fr at' tt ds n : Int) : Out := if isv L fr = true ∧ isv L tt = true then (if wrongv L fr at' n = 0 ∧ wrongv L tt ds n = 0 then ⟨L.set tt.toNat ((L.getD tt.toNat (false, [])).1, wset (wds L tt.toNat) ds.toNat (fun j => wat L fr.toNat (at'.toNat + j)) n.toNat), stepv 0 1 n (stepv 0 0 n a), stepv 1 1 n (stepv 1 0 n b), h, g, 0, 0⟩ else ⟨L, a, b, h, g, 0, 11⟩) else ⟨L, a, b, h, g, 0, 10⟩

/-- behind a call of the program -/
def PGot (mb mm : Nat) (R : Nat → Nat) (w : World) (o : Out) (v : Value) (e : Ending) (w' : World) : Prop := ∃ R', e = .returned v ∧ MM w' R' mb mm o.L o.a o.b o.h o.g ∧ TR R R' w w'
/-- behind a call of the document's -/
def RGot (w : World) (v : Value) (L : List Spc) (o : Out) (f : Value → Value) (e : Ending) (w' : World) : Prop := ∃ v', e = .returned (f (ssv v' o.a o.b o.h o.g)) ∧ (SB w' w.heap.size v' o.L ∨ v' = v ∧ o.L = L) ∧ Below w.heap.size w w'
theorem PGot.same {mb mm : Nat} {R : Nat → Nat} {L : List Spc} {a b : Nat} {h g : Int} {w : World} (hm : MM w R mb mm L a b h g) {f : Nat} {args : Array Value} {i c : Int} {v : Value} (C : Calls Try.prog f args w fun e w' => e = .returned v ∧ w' = w) : Calls Try.prog f args w (PGot mb mm R w ⟨L, a, b, h, g, i, c⟩ v) :=
  C.mono fun e w' ⟨he, hw⟩ => ⟨R, he, by rw [hw]; exact hm, by rw [hw]; exact TR.refl _ _⟩
theorem RGot.same {L : List Spc} {a b : Nat} {h g : Int} {w : World} {v : Value} {f : Nat} {args : Array Value} {i c : Int} {F : Value → Value} (C : Calls Try.prog f args w fun e w' => e = .returned (F (ssv v a b h g)) ∧ Below w.heap.size w w') : Calls Try.prog f args w (RGot w v L ⟨L, a, b, h, g, i, c⟩ F) :=
  C.mono fun e w' ⟨he, hw⟩ => ⟨v, he, .inr ⟨rfl, rfl⟩, hw⟩
/-- what always holds of a Mem's plain numbers -/
theorem MM.plain {w : World} {R : Nat → Nat} {mb mm : Nat} {L : List Spc} {a b : Nat} {h g : Int} (m : MM w R mb mm L a b h g) : N128 a ∧ N128 b ∧ Fit h g ∧ (∀ i, i < L.length → (wds L i).length ≤ 4194304) ∧ (∀ j, R j ≠ 0 → j < w.heap.size) ∧ countv L ≤ L.length := by
  obtain ⟨sv, qv, U, Q, m⟩ := m
  exact ⟨m.na, m.nb, m.fit, m.lw, m.hi, by have := m.ln; omega⟩

section
variable (mb mm : Nat) (R : Nat → Nat) (L : List Spc) (a b : Nat) (h g : Int) (w : World) (hm : MM w R mb mm L a b h g)
include hm
theorem mopen_any (n : Int) (hl : L.length ≤ 200000) : Calls Try.prog 13 #[at0 mb, .int .i64 n] w (PGot mb mm R w (openv L a b h g n) (.tuple #[.int .i64 (openv L a b h g n).i, .int .i64 (openv L a b h g n).c])) := by
  by_cases h0 : n < 0
  · rw [show openv L a b h g n = ⟨L, a, b, h, g, 0, 1⟩ by unfold openv; rw [if_pos h0]]
    exact PGot.same hm (mopen_neg mb n h0 w)
  · by_cases h1 : 4194304 < n
    · rw [show openv L a b h g n = ⟨L, a, b, h, g, 0, 7⟩ by unfold openv; rw [if_neg h0, if_pos h1]]
      exact PGot.same hm (mopen_long mb n h1 w)
    · rw [show openv L a b h g n = ⟨opened L n.toNat, a, b, holdh h n, holdg h g n, (firstc L : Nat), 0⟩ by unfold openv; rw [if_neg h0, if_neg h1]]
      obtain ⟨t, rfl⟩ := Int.eq_ofNat_of_zero_le (show 0 ≤ n by omega)
      rw [Int.toNat_natCast]
      exact (mopen_ok mb mm R L a b h g w hm t (by omega) (by have := hm.plain.2.2.2.2.2; omega)).mono fun e w' ⟨R', he, M, T⟩ => ⟨R', he, M, T⟩
theorem mclose_any (id : Int) : Calls Try.prog 15 #[at0 mb, .int .i64 id] w (PGot mb mm R w (closev L a b h g id) (.int .i64 (closev L a b h g id).c)) := by
  by_cases hi : isv L id = true
  · obtain ⟨k, rfl, hk, ho⟩ := isv_of hi
    rw [show closev L a b h g (k : Int) = ⟨L.set k (false, []), a, b, freeh h ((wds L k).length : Nat), g, 0, 0⟩ by unfold closev; rw [if_pos hi, Int.toNat_natCast]]
    exact (mclose_ok mb mm R L a b h g w hm k hk ho).mono fun e w' ⟨R', he, M, T⟩ => ⟨R', he, M, T⟩
  · rw [show closev L a b h g id = ⟨L, a, b, h, g, 0, 10⟩ by unfold closev; rw [if_neg hi]]
    exact PGot.same hm (mclose_no mb mm R L a b h g w hm id (isv_f hi))
theorem mgrow_any (id n : Int) : Calls Try.prog 16 #[at0 mb, .int .i64 id, .int .i64 n] w (PGot mb mm R w (growv L a b h g id n) (.int .i64 (growv L a b h g id n).c)) := by
  by_cases hi : isv L id = true
  · obtain ⟨k, rfl, hk, ho⟩ := isv_of hi
    by_cases h0 : n < ((wds L k).length : Int)
    · rw [show growv L a b h g (k : Int) n = ⟨L, a, b, h, g, 0, 1⟩ by unfold growv; rw [if_pos hi, Int.toNat_natCast, if_pos h0]]
      exact PGot.same hm (mgrow_low mb mm R L a b h g w hm k n hk ho h0)
    · by_cases h1 : 4194304 < n
      · rw [show growv L a b h g (k : Int) n = ⟨L, a, b, h, g, 0, 7⟩ by unfold growv; rw [if_pos hi, Int.toNat_natCast, if_neg h0, if_pos h1]]
        exact PGot.same hm (mgrow_long mb mm R L a b h g w hm k n hk ho (by omega) h1)
      · obtain ⟨q, hq⟩ := Int.eq_ofNat_of_zero_le (show 0 ≤ n - ((wds L k).length : Int) by omega)
        obtain ⟨t, rfl⟩ := Int.eq_ofNat_of_zero_le (show 0 ≤ n by omega)
        rw [show growv L a b h g (k : Int) (t : Int) = ⟨L.set k ((L.getD k (false, [])).1, wds L k ++ List.replicate q 0), a, b, holdh h (q : Int), holdg h g (q : Int), 0, 0⟩ by unfold growv; rw [if_pos hi, Int.toNat_natCast, if_neg h0, if_neg h1, hq, Int.toNat_natCast]]
        exact (mgrow_ok mb mm R L a b h g w hm k t q hk ho (by omega) (by omega)).mono fun e w' ⟨R', he, M, T⟩ => ⟨R', he, M, T⟩
  · rw [show growv L a b h g id n = ⟨L, a, b, h, g, 0, 10⟩ by unfold growv; rw [if_neg hi]]
    exact PGot.same hm (mgrow_no mb mm R L a b h g w hm id n (isv_f hi))
theorem mread_any (id at' : Int) (ha : at' ≤ 9223372036854775807) : Calls Try.prog 19 #[at0 mb, .int .i64 id, .int .i64 at'] w (PGot mb mm R w (readv L a b h g id at') (.tuple #[.int .u64 (readv L a b h g id at').i, .int .i64 (readv L a b h g id at').c])) := by
  by_cases hE : wrongv L id at' 1 = 0
  · obtain ⟨k, i, t, rfl, rfl, ht, hk, hI, hl⟩ := wrongv_0 hE
    rw [show readv L a b h g (k : Int) (i : Int) = ⟨L, stepv 0 0 1 a, stepv 1 0 1 b, h, g, (wat L k i : Nat), 0⟩ by unfold readv; rw [if_pos hE, Int.toNat_natCast, Int.toNat_natCast]]
    exact (mread_ok mb mm R L a b h g w hm k i hk (by omega) hI hE).mono fun e w' ⟨he, M, T⟩ => ⟨R, he, M, T⟩
  · rw [show readv L a b h g id at' = ⟨L, a, b, h, g, 0, wrongv L id at' 1⟩ by unfold readv; rw [if_neg hE]]
    exact PGot.same hm (mread_bad mb mm R L a b h g w hm id at' ha hE)
theorem mwrite_any (id at' : Int) (x : Nat) (ha : at' ≤ 9223372036854775807) : Calls Try.prog 14 #[at0 mb, .int .i64 id, .int .i64 at', .int .u64 (x : Int)] w (PGot mb mm R w (writev L a b h g id at' x) (.int .i64 (writev L a b h g id at' x).c)) := by
  by_cases hE : wrongv L id at' 1 = 0
  · obtain ⟨k, i, t, rfl, rfl, ht, hk, hI, hl⟩ := wrongv_0 hE
    rw [show writev L a b h g (k : Int) (i : Int) x = ⟨L.set k ((L.getD k (false, [])).1, (wds L k).set i x), stepv 0 1 1 a, stepv 1 1 1 b, h, g, 0, 0⟩ by unfold writev; rw [if_pos hE, Int.toNat_natCast, Int.toNat_natCast]]
    exact (mwrite_ok mb mm R L a b h g w hm k i x hk (by omega) hI hE).mono fun e w' ⟨he, M, T⟩ => ⟨R, he, M, T⟩
  · rw [show writev L a b h g id at' x = ⟨L, a, b, h, g, 0, wrongv L id at' 1⟩ by unfold writev; rw [if_neg hE]]
    exact PGot.same hm (mwrite_bad mb mm R L a b h g w hm id at' x ha hE)
theorem mzero_any (id at' n : Int) (ha : at' ≤ 9223372036854775807) : Calls Try.prog 17 #[at0 mb, .int .i64 id, .int .i64 at', .int .i64 n] w (PGot mb mm R w (zerov L a b h g id at' n) (.int .i64 (zerov L a b h g id at' n).c)) := by
  by_cases hE : wrongv L id at' n = 0
  · obtain ⟨k, i, t, rfl, rfl, rfl, hk, hI, hl⟩ := wrongv_0 hE
    rw [show zerov L a b h g (k : Int) (i : Int) (t : Int) = ⟨L.set k ((L.getD k (false, [])).1, wset (wds L k) i (fun _ => 0) t), stepv 0 1 (t : Int) a, stepv 1 1 (t : Int) b, h, g, 0, 0⟩ by unfold zerov; rw [if_pos hE, Int.toNat_natCast, Int.toNat_natCast, Int.toNat_natCast]]
    exact (mzero_ok mb mm R L a b h g w hm k i t hk hl hI hE).mono fun e w' ⟨he, M, T⟩ => ⟨R, he, M, T⟩
  · rw [show zerov L a b h g id at' n = ⟨L, a, b, h, g, 0, wrongv L id at' n⟩ by unfold zerov; rw [if_neg hE]]
    exact PGot.same hm (mzero_bad mb mm R L a b h g w hm id at' n ha hE)
theorem mcopy_any (fr at' tt ds n : Int) (ha : at' ≤ 9223372036854775807) (hd : ds ≤ 9223372036854775807) : Calls Try.prog 18 #[at0 mb, .int .i64 fr, .int .i64 at', .int .i64 tt, .int .i64 ds, .int .i64 n] w (PGot mb mm R w (copyv L a b h g fr at' tt ds n) (.int .i64 (copyv L a b h g fr at' tt ds n).c)) := by
  by_cases hF : isv L fr = true
  · by_cases hT : isv L tt = true
    · by_cases hE : wrongv L fr at' n = 0
      · by_cases hD : wrongv L tt ds n = 0
        · obtain ⟨kf, i, t, rfl, rfl, rfl, hkf, _, hif⟩ := wrongv_0 hE
          obtain ⟨k, d, t', rfl, rfl, et, hk, _, hi'⟩ := wrongv_0 hD
          obtain rfl := Int.ofNat.inj et
          rw [show copyv L a b h g (kf : Int) (i : Int) (k : Int) (d : Int) (t : Int) = ⟨L.set k ((L.getD k (false, [])).1, wset (wds L k) d (fun j => wat L kf (i + j)) t), stepv 0 1 (t : Int) (stepv 0 0 (t : Int) a), stepv 1 1 (t : Int) (stepv 1 0 (t : Int) b), h, g, 0, 0⟩ by
            unfold copyv
            rw [if_pos ⟨hF, hT⟩, if_pos ⟨hE, hD⟩]; simp only [Int.toNat_natCast]]
          exact (mcopy_ok mb mm R L a b h g w hm kf i k d t hkf hk hif hi' hF hT hE hD).mono fun e w' ⟨he, M, T⟩ => ⟨R, he, M, T⟩
        · rw [show copyv L a b h g fr at' tt ds n = ⟨L, a, b, h, g, 0, 11⟩ by unfold copyv; rw [if_pos ⟨hF, hT⟩, if_neg (fun q => hD q.2)]]
          exact PGot.same hm (mcopy_bad2 mb mm R L a b h g w hm fr at' tt ds n hF hT ha hd hE hD)
      · rw [show copyv L a b h g fr at' tt ds n = ⟨L, a, b, h, g, 0, 11⟩ by unfold copyv; rw [if_pos ⟨hF, hT⟩, if_neg (fun q => hE q.1)]]
        exact PGot.same hm (mcopy_bad1 mb mm R L a b h g w hm fr at' tt ds n hF hT ha hE)
    · rw [show copyv L a b h g fr at' tt ds n = ⟨L, a, b, h, g, 0, 10⟩ by unfold copyv; rw [if_neg (fun q => hT q.2)]]
      exact PGot.same hm (mcopy_no2 mb mm R L a b h g w hm fr at' tt ds n hF (isv_f hT))
  · rw [show copyv L a b h g fr at' tt ds n = ⟨L, a, b, h, g, 0, 10⟩ by unfold copyv; rw [if_neg (fun q => hF q.1)]]
    exact PGot.same hm (mcopy_no1 mb mm R L a b h g w hm fr at' tt ds n (isv_f hF))
end
attribute [irreducible] openv closev growv readv writev zerov copyv
end Go.Proofs.Ytgnpakpnocbhhaa
/-! ## What each call of the document's makes of a state in plain numbers. -/
namespace Go.Proofs.Ytgnpakpnocbhhaa
open Go.RowKit
set_option linter.unusedVariables false

section
variable (v : Value) (a b : Nat) (h g : Int) (L : List Spc) (w : World) (hv : SL w v L) (hl : L.length ≤ 200000) (hw : ∀ i, i < L.length → (wds L i).length ≤ 4194304)
include hv hl hw
theorem ropen_any (hf : Fit h g) (n : Int) : Calls Try.prog 24 #[ssv v a b h g, .int .i64 n] w (RGot w v L (openv L a b h g n) (fun s => .tuple #[s, .int .i64 (openv L a b h g n).i, .int .i64 (openv L a b h g n).c])) := by
  by_cases h0 : n < 0
  · rw [show openv L a b h g n = ⟨L, a, b, h, g, 0, 1⟩ by unfold openv; rw [if_pos h0]]
    exact RGot.same (F := fun s => .tuple #[s, .int .i64 0, .int .i64 1]) (open_neg v a b h g n L w hv h0)
  · by_cases h1 : 4194304 < n
    · rw [show openv L a b h g n = ⟨L, a, b, h, g, 0, 7⟩ by unfold openv; rw [if_neg h0, if_pos h1]]
      exact RGot.same (F := fun s => .tuple #[s, .int .i64 0, .int .i64 7]) (open_long v a b h g n L w hv h1)
    · rw [show openv L a b h g n = ⟨opened L n.toNat, a, b, holdh h n, holdg h g n, (firstc L : Nat), 0⟩ by unfold openv; rw [if_neg h0, if_neg h1]]
      obtain ⟨t, rfl⟩ := Int.eq_ofNat_of_zero_le (show 0 ≤ n by omega)
      rw [Int.toNat_natCast]
      exact (open_ok v a b h g t L w hv hl (fun i hi => by have := hw i hi; omega) hf (by omega)).mono fun e w' ⟨v', he, S, B⟩ => ⟨v', he, .inl S, B⟩
theorem rclose_any (hf : Fit h g) (id : Int) : Calls Try.prog 25 #[ssv v a b h g, .int .i64 id] w (RGot w v L (closev L a b h g id) (fun s => .tuple #[s, .int .i64 (closev L a b h g id).c])) := by
  by_cases hi : isv L id = true
  · obtain ⟨k, rfl, hk, ho⟩ := isv_of hi
    rw [show closev L a b h g (k : Int) = ⟨L.set k (false, []), a, b, freeh h ((wds L k).length : Nat), g, 0, 0⟩ by unfold closev; rw [if_pos hi, Int.toNat_natCast]]
    exact (close_ok v a b h g k L w hv (by omega) (fun i hi => by have := hw i hi; omega) hf hk hi).mono fun e w' ⟨v', he, S, B⟩ => ⟨v', he, .inl S, B⟩
  · rw [show closev L a b h g id = ⟨L, a, b, h, g, 0, 10⟩ by unfold closev; rw [if_neg hi]]
    exact RGot.same (F := fun s => .tuple #[s, .int .i64 10]) (close_no v a b h g id L w hv (by omega) (isv_f hi))
theorem rgrow_any (hf : Fit h g) (id n : Int) : Calls Try.prog 26 #[ssv v a b h g, .int .i64 id, .int .i64 n] w (RGot w v L (growv L a b h g id n) (fun s => .tuple #[s, .int .i64 (growv L a b h g id n).c])) := by
  have hw' : ∀ i, i < L.length → (wds L i).length ≤ 100000000 := fun i hi => by have := hw i hi; omega
  by_cases hi : isv L id = true
  · obtain ⟨k, rfl, hk, ho⟩ := isv_of hi
    by_cases h0 : n < ((wds L k).length : Int)
    · rw [show growv L a b h g (k : Int) n = ⟨L, a, b, h, g, 0, 1⟩ by unfold growv; rw [if_pos hi, Int.toNat_natCast, if_pos h0]]
      exact RGot.same (F := fun s => .tuple #[s, .int .i64 1]) (grow_low v a b h g n k L w hv (by omega) hw' hk hi h0)
    · by_cases h1 : 4194304 < n
      · rw [show growv L a b h g (k : Int) n = ⟨L, a, b, h, g, 0, 7⟩ by unfold growv; rw [if_pos hi, Int.toNat_natCast, if_neg h0, if_pos h1]]
        exact RGot.same (F := fun s => .tuple #[s, .int .i64 7]) (grow_long v a b h g n k L w hv (by omega) hw' hk hi (by omega) h1)
      · obtain ⟨q, hq⟩ := Int.eq_ofNat_of_zero_le (show 0 ≤ n - ((wds L k).length : Int) by omega)
        obtain ⟨t, rfl⟩ := Int.eq_ofNat_of_zero_le (show 0 ≤ n by omega)
        rw [show growv L a b h g (k : Int) (t : Int) = ⟨L.set k ((L.getD k (false, [])).1, wds L k ++ List.replicate q 0), a, b, holdh h (q : Int), holdg h g (q : Int), 0, 0⟩ by unfold growv; rw [if_pos hi, Int.toNat_natCast, if_neg h0, if_neg h1, hq, Int.toNat_natCast]]
        exact (grow_ok v a b h g k t q L w hv (by omega) hw' hf hk hi (by omega) (by omega)).mono fun e w' ⟨v', he, S, B⟩ => ⟨v', he, .inl S, B⟩
  · rw [show growv L a b h g id n = ⟨L, a, b, h, g, 0, 10⟩ by unfold growv; rw [if_neg hi]]
    exact RGot.same (F := fun s => .tuple #[s, .int .i64 10]) (grow_no v a b h g id n L w hv (by omega) hw' (isv_f hi))
theorem rread_any (ha : N128 a) (hb : N128 b) (id at' : Int) : Calls Try.prog 27 #[ssv v a b h g, .int .i64 id, .int .i64 at'] w (RGot w v L (readv L a b h g id at') (fun s => .tuple #[s, .int .u64 (readv L a b h g id at').i, .int .i64 (readv L a b h g id at').c])) := by
  have hw' : ∀ i, i < L.length → (wds L i).length ≤ 100000000 := fun i hi => by have := hw i hi; omega
  by_cases hE : wrongv L id at' 1 = 0
  · obtain ⟨k, i, t, rfl, rfl, ht, hk, hI, hl'⟩ := wrongv_0 hE
    rw [show readv L a b h g (k : Int) (i : Int) = ⟨L, stepv 0 0 1 a, stepv 1 0 1 b, h, g, (wat L k i : Nat), 0⟩ by unfold readv; rw [if_pos hE, Int.toNat_natCast, Int.toNat_natCast]]
    exact (read_ok v a b h g k i L w hv (by omega) hw' ha hb hk (by omega) hE).mono fun e w' ⟨he, B⟩ => ⟨v, he, .inr ⟨rfl, rfl⟩, B⟩
  · rw [show readv L a b h g id at' = ⟨L, a, b, h, g, 0, wrongv L id at' 1⟩ by unfold readv; rw [if_neg hE]]
    exact RGot.same (F := fun s => .tuple #[s, .int .u64 0, .int .i64 (wrongv L id at' 1)]) (read_bad v a b h g id at' L w hv (by omega) hw' hE)
theorem rwrite_any (ha : N128 a) (hb : N128 b) (id at' : Int) (x : Nat) : Calls Try.prog 28 #[ssv v a b h g, .int .i64 id, .int .i64 at', .int .u64 (x : Int)] w (RGot w v L (writev L a b h g id at' x) (fun s => .tuple #[s, .int .i64 (writev L a b h g id at' x).c])) := by
  have hw' : ∀ i, i < L.length → (wds L i).length ≤ 100000000 := fun i hi => by have := hw i hi; omega
  by_cases hE : wrongv L id at' 1 = 0
  · obtain ⟨k, i, t, rfl, rfl, ht, hk, hI, hl'⟩ := wrongv_0 hE
    rw [show writev L a b h g (k : Int) (i : Int) x = ⟨L.set k ((L.getD k (false, [])).1, (wds L k).set i x), stepv 0 1 1 a, stepv 1 1 1 b, h, g, 0, 0⟩ by unfold writev; rw [if_pos hE, Int.toNat_natCast, Int.toNat_natCast]]
    exact (write_ok v a b h g k i x L w hv (by omega) hw' ha hb hk (by omega) hE).mono fun e w' ⟨v', he, S, B⟩ => ⟨v', he, .inl S, B⟩
  · rw [show writev L a b h g id at' x = ⟨L, a, b, h, g, 0, wrongv L id at' 1⟩ by unfold writev; rw [if_neg hE]]
    exact RGot.same (F := fun s => .tuple #[s, .int .i64 (wrongv L id at' 1)]) (write_bad v a b h g id at' x L w hv (by omega) hw' hE)
theorem rzero_any (ha : N128 a) (hb : N128 b) (id at' n : Int) (hn : n ≤ 9223372036854775807) : Calls Try.prog 29 #[ssv v a b h g, .int .i64 id, .int .i64 at', .int .i64 n] w (RGot w v L (zerov L a b h g id at' n) (fun s => .tuple #[s, .int .i64 (zerov L a b h g id at' n).c])) := by
  have hw' : ∀ i, i < L.length → (wds L i).length ≤ 100000000 := fun i hi => by have := hw i hi; omega
  by_cases hE : wrongv L id at' n = 0
  · obtain ⟨k, i, t, rfl, rfl, rfl, hk, hI, hl'⟩ := wrongv_0 hE
    rw [show zerov L a b h g (k : Int) (i : Int) (t : Int) = ⟨L.set k ((L.getD k (false, [])).1, wset (wds L k) i (fun _ => 0) t), stepv 0 1 (t : Int) a, stepv 1 1 (t : Int) b, h, g, 0, 0⟩ by unfold zerov; rw [if_pos hE, Int.toNat_natCast, Int.toNat_natCast, Int.toNat_natCast]]
    exact (zero_ok v a b h g k i t L w hv (by omega) hw' ha hb hk hl' hE).mono fun e w' ⟨v', he, S, B⟩ => ⟨v', he, .inl S, B⟩
  · rw [show zerov L a b h g id at' n = ⟨L, a, b, h, g, 0, wrongv L id at' n⟩ by unfold zerov; rw [if_neg hE]]
    exact RGot.same (F := fun s => .tuple #[s, .int .i64 (wrongv L id at' n)]) (zero_bad v a b h g id at' n L w hv (by omega) hw' hn hE)
theorem rcopy_any (ha : N128 a) (hb : N128 b) (fr at' tt ds n : Int) (hn : n ≤ 9223372036854775807) : Calls Try.prog 30 #[ssv v a b h g, .int .i64 fr, .int .i64 at', .int .i64 tt, .int .i64 ds, .int .i64 n] w (RGot w v L (copyv L a b h g fr at' tt ds n) (fun s => .tuple #[s, .int .i64 (copyv L a b h g fr at' tt ds n).c])) := by
  have hw' : ∀ i, i < L.length → (wds L i).length ≤ 100000000 := fun i hi => by have := hw i hi; omega
  by_cases hF : isv L fr = true
  · by_cases hT : isv L tt = true
    · by_cases hE : wrongv L fr at' n = 0
      · by_cases hD : wrongv L tt ds n = 0
        · obtain ⟨kf, i, t, rfl, rfl, rfl, hkf, _, hif⟩ := wrongv_0 hE
          obtain ⟨k, d, t', rfl, rfl, et, hk, _, hi'⟩ := wrongv_0 hD
          obtain rfl := Int.ofNat.inj et
          rw [show copyv L a b h g (kf : Int) (i : Int) (k : Int) (d : Int) (t : Int) = ⟨L.set k ((L.getD k (false, [])).1, wset (wds L k) d (fun j => wat L kf (i + j)) t), stepv 0 1 (t : Int) (stepv 0 0 (t : Int) a), stepv 1 1 (t : Int) (stepv 1 0 (t : Int) b), h, g, 0, 0⟩ by
            unfold copyv
            rw [if_pos ⟨hF, hT⟩, if_pos ⟨hE, hD⟩]; simp only [Int.toNat_natCast]]
          exact (copy_ok v a b h g kf i k d t L w hv (by omega) hw' ha hb hkf hk hif hi' hF hT hE hD).mono fun e w' ⟨v', he, S, B⟩ => ⟨v', he, .inl S, B⟩
        · rw [show copyv L a b h g fr at' tt ds n = ⟨L, a, b, h, g, 0, 11⟩ by unfold copyv; rw [if_pos ⟨hF, hT⟩, if_neg (fun q => hD q.2)]]
          exact RGot.same (F := fun s => .tuple #[s, .int .i64 11]) (copy_bad2 v a b h g fr at' tt ds n L w hv (by omega) hw' hn hF hT hE hD)
      · rw [show copyv L a b h g fr at' tt ds n = ⟨L, a, b, h, g, 0, 11⟩ by unfold copyv; rw [if_pos ⟨hF, hT⟩, if_neg (fun q => hE q.1)]]
        exact RGot.same (F := fun s => .tuple #[s, .int .i64 11]) (copy_bad1 v a b h g fr at' tt ds n L w hv (by omega) hw' hn hF hT hE)
    · rw [show copyv L a b h g fr at' tt ds n = ⟨L, a, b, h, g, 0, 10⟩ by unfold copyv; rw [if_neg (fun q => hT q.2)]]
      exact RGot.same (F := fun s => .tuple #[s, .int .i64 10]) (copy_no2 v a b h g fr at' tt ds n L w hv (by omega) hw' hn hF (isv_f hT))
  · rw [show copyv L a b h g fr at' tt ds n = ⟨L, a, b, h, g, 0, 10⟩ by unfold copyv; rw [if_neg (fun q => hF q.1)]]
    exact RGot.same (F := fun s => .tuple #[s, .int .i64 10]) (copy_no1 v a b h g fr at' tt ds n L w hv (by omega) hw' hn (isv_f hF))
end
/-- a call adds one space at most -/
theorem openv_len (L : List Spc) (a b : Nat) (h g n : Int) : (openv L a b h g n).L.length ≤ L.length + 1 := by
  unfold openv
  split
  · show L.length ≤ _; omega
  · split
    · show L.length ≤ _; omega
    · show (opened L n.toNat).length ≤ _
      unfold opened
      split
      · rw [List.length_set]; omega
      · rw [List.length_append]; simp
theorem closev_len (L : List Spc) (a b : Nat) (h g id : Int) : (closev L a b h g id).L.length = L.length := by
  unfold closev; split
  · show (L.set _ _).length = _; rw [List.length_set]
  · rfl
theorem growv_len (L : List Spc) (a b : Nat) (h g id n : Int) : (growv L a b h g id n).L.length = L.length := by
  unfold growv; split
  · split
    · rfl
    · split
      · rfl
      · show (L.set _ _).length = _; rw [List.length_set]
  · rfl
theorem readv_len (L : List Spc) (a b : Nat) (h g id at' : Int) : (readv L a b h g id at').L.length = L.length := by
  unfold readv; split <;> rfl
theorem writev_len (L : List Spc) (a b : Nat) (h g id at' : Int) (x : Nat) : (writev L a b h g id at' x).L.length = L.length := by
  unfold writev; split
  · show (L.set _ _).length = _; rw [List.length_set]
  · rfl
theorem zerov_len (L : List Spc) (a b : Nat) (h g id at' n : Int) : (zerov L a b h g id at' n).L.length = L.length := by
  unfold zerov; split
  · show (L.set _ _).length = _; rw [List.length_set]
  · rfl
theorem copyv_len (L : List Spc) (a b : Nat) (h g fr at' tt ds n : Int) : (copyv L a b h g fr at' tt ds n).L.length = L.length := by
  unfold copyv; split
  · split
    · show (L.set _ _).length = _; rw [List.length_set]
    · rfl
  · rfl
end Go.Proofs.Ytgnpakpnocbhhaa
