/-
  Package mem's numbers: the methods that container/heap calls.
-/
import Derived.Test.YtgnpakpnocbhhaaHeapQ
import Derived.Test.YtgnpakpnocbhhaaMeter
import Derived.Test.YtgnpakpnocbhhaaNL
import Derived.Deep.AppendLies
namespace Go.Proofs.Ytgnpakpnocbhhaa
open Go.RowKit
set_option linter.unusedVariables false

theorem len_any (a : Option Addr) (n c : Nat) (hn : n ≤ 1000000) (w : World) : Calls Try.prog 78 #[.slice a n c] w fun e w' => e = .returned (.int .i64 (n : Int)) ∧ w' = w := by
  go_enter Try.func78, Try.ntmps78
  go_wp2
  go_ret
  exact ⟨rfl, rfl⟩
theorem meth_push (a : Addr) (w : World) : (method 233 87 (.pointer (some a)) "Push").run Try.prog w = .ok (82, .pointer (some a)) w := by kernel_rfl
theorem meth_pop (a : Addr) (w : World) : (method 233 87 (.pointer (some a)) "Pop").run Try.prog w = .ok (81, .pointer (some a)) w := by kernel_rfl
theorem meth_load (a : Addr) (v : Value) (w : World) (h : w.cell? a = some v) : (loadVar 58 a).run Try.prog w = .ok v w := by
  simp [loadVar, h]
theorem meth_len (a : Addr) (v : Value) (w : World) (h : w.cell? a = some v) : (method 233 87 (.pointer (some a)) "Len").run Try.prog w = .ok (78, v) w := by
  have e : (method 233 87 (.pointer (some a)) "Len").run Try.prog w = ((loadVar 58 a) >>= fun v => pure (78, v)).run Try.prog w := by kernel_rfl
  rw [e]
  simp [meth_load a v w h]
theorem meth_less (a : Addr) (v : Value) (w : World) (h : w.cell? a = some v) : (method 233 87 (.pointer (some a)) "Less").run Try.prog w = .ok (79, v) w := by
  have e : (method 233 87 (.pointer (some a)) "Less").run Try.prog w = ((loadVar 58 a) >>= fun v => pure (79, v)).run Try.prog w := by kernel_rfl
  rw [e]
  simp [meth_load a v w h]
theorem meth_swap (a : Addr) (v : Value) (w : World) (h : w.cell? a = some v) : (method 233 87 (.pointer (some a)) "Swap").run Try.prog w = .ok (80, v) w := by
  have e : (method 233 87 (.pointer (some a)) "Swap").run Try.prog w = ((loadVar 58 a) >>= fun v => pure (80, v)).run Try.prog w := by kernel_rfl
  rw [e]
  simp [meth_load a v w h]

/-- numbers as values -/
def nqv (Q : List Nat) (j : Nat) : Value := .int .i64 ((nq Q j : Nat) : Int)
theorem bar_cell {m : Nat} {w w' : World} {p : Addr} {v : Value} (h : w.cell? p = some v) (k : Bar m w.heap.size w w') (hp : p.block ≠ m) : w'.cell? p = some v := by
  rw [World.cell?_of_block (w := w) (k.block p.block (World.block_lt_of_cell? w _ h) hp)]; exact h
theorem nqv_swap (Q : List Nat) (i j n : Nat) (hn : Q.length = n) (hi : i < n) (hj : j < n) (k : Nat) : (if k = j then nqv Q i else if k = i then nqv Q j else nqv Q k) = nqv (swq Q i j) k := by
  unfold nqv
  rw [nq_swq _ _ _ _ (by omega) (by omega)]
  split
  · rfl
  · split <;> rfl
theorem less_any (g n c : Nat) (Q : List Nat) (i j : Nat) (w : World) (r : Row w g n (nqv Q)) (hi : i < n) (hj : j < n) (hn : n ≤ 1000000) :
    Calls Try.prog 79 #[.slice (some ⟨g, 0, none⟩) n c, .int .i64 (i : Int), .int .i64 (j : Int)] w fun e w' => e = .returned (.bool (decide (nq Q i < nq Q j))) ∧ Below w.heap.size w w' := by
  have c0 := r.cell i hi
  have c1 := r.cell j hj
  unfold nqv at c0 c1
  have i0 : (0 : Int) ≤ (i : Int) := by omega
  have i1 : (i : Int) < (n : Int) := by omega
  have i2 : (0 : Int) ≤ (j : Int) := by omega
  have i3 : (j : Int) < (n : Int) := by omega
  clear r hi hj
  generalize nq Q i = x at *
  generalize nq Q j = y at *
  go_enter Try.func79, Try.ntmps79
  go_wp2_with fail
  go_quiet (fail)
  go_wp2_with fail
  go_ret
  exact ⟨rfl, (by repeat (first | exact Below.refl _ _ | (with_reducible assumption) | refine bAlloc ?_ _ | refine below_drewN ?_ _ | refine Below.drew ?_ | (refine bSet ?_ (by first | (dsimp only; omega) | (simp; done) | (simp; omega)) _) | refine bTrans ?_ (by assumption)))⟩
theorem Bar.mono {m B B' : Nat} {w w' : World} (h : Bar m B w w') (hB : B' ≤ B) : Bar m B' w w' := ⟨h.os, h.tape, h.output, h.size, fun k hk hm => h.block k (Nat.lt_of_lt_of_le hk hB) hm⟩
/-- Block g is a row of as many cells of the same type as before. -/
def Kin (g : Nat) (w w' : World) : Prop := ∀ t n, Cells w g t n → Cells w' g t n
theorem Kin.refl (g : Nat) (w : World) : Kin g w w := fun _ _ h => h
theorem Kin.trans {g : Nat} {a b c : World} (h : Kin g a b) (k : Kin g b c) : Kin g a c := fun t n q => k t n (h t n q)
theorem Kin.of {g : Nat} {w w' : World} (h : Below w.heap.size w w') : Kin g w w' := fun _ _ q => q.below h
theorem swap_any (g n c : Nat) (Q : List Nat) (i j : Nat) (w : World) (r : Row w g n (nqv Q)) (hQ : Q.length = n) (hi : i < n) (hj : j < n) (hn : n ≤ 1000000) :
    Calls Try.prog 80 #[.slice (some ⟨g, 0, none⟩) n c, .int .i64 (i : Int), .int .i64 (j : Int)] w fun e w' => e = .returned (.tuple #[]) ∧ Row w' g n (nqv (swq Q i j)) ∧ Bar g w.heap.size w w' ∧ Kin g w w' := by
  have c0 := r.cell i hi
  have c1 := r.cell j hj
  have R1 := Lib.hid ((r.set i hi (nqv Q j)).set j hj (nqv Q i))
  have B1 := Lib.hid (((Bar.refl g w.heap.size w).set i (nqv Q j)).set j (nqv Q i))
  have K1 := Lib.hid (show Kin g w ((w.setCell ⟨g, i, none⟩ (nqv Q j)).setCell ⟨g, j, none⟩ (nqv Q i)) from fun t n q => (q.set g i _).set g j _)
  have NS := Lib.hid (nqv_swap Q i j n hQ hi hj)
  have rf := r.free
  have rs := (r.set i hi (nqv Q j)).free
  have cs : (w.setCell ⟨g, i, none⟩ (.int .i64 ((nq Q j : Nat) : Int))).cell? ⟨g, j, none⟩ = some (.int .i64 ((nq Q j : Nat) : Int)) := by
    have h := (r.set i hi (nqv Q j)).cell j hj
    rw [show (if j = i then nqv Q j else nqv Q j) = nqv Q j by split <;> rfl] at h
    exact h
  have i0 : (0 : Int) ≤ (i : Int) := by omega
  have i1 : (i : Int) < (n : Int) := by omega
  have i2 : (0 : Int) ≤ (j : Int) := by omega
  have i3 : (j : Int) < (n : Int) := by omega
  clear hi hj r
  unfold nqv at c0 c1
  go_enter Try.func80, Try.ntmps80
  go_wp2_with fail
  go_region
  go_wp2_with fail
  exact bodyPost_end (v := .tuple #[]) (by simp [results, Try.results80, go_sem]) rfl ⟨rfl, (R1.out.congr fun k _ => NS.out k).drew, B1.out.drew, K1.out⟩

/-! ### a Mem's own cells -/
def mcl (mm : Nat) (sv qv : Value) (j : Nat) : Value := if j = 0 then .pointer (some ⟨mm, 0, none⟩) else if j = 1 then sv else qv
theorem three {j : Nat} (h : j < 3) : j = 0 ∨ j = 1 ∨ j = 2 := by omega
def WRw (w : World) (mb mm : Nat) (sv qv : Value) : Prop := Row w mb 3 (mcl mm sv qv)
theorem WRw.all {w : World} {mb mm : Nat} {sv qv : Value} (r : WRw w mb mm sv qv) : w.cell? ⟨mb, 0, none⟩ = some (.pointer (some ⟨mm, 0, none⟩)) ∧ w.cell? ⟨mb, 1, none⟩ = some sv ∧ w.cell? ⟨mb, 2, none⟩ = some qv ∧ (∀ j, w.frozen? ⟨mb, j, none⟩ = false) ∧ mb < w.heap.size :=
  ⟨r.cell 0 (by omega), r.cell 1 (by omega), r.cell 2 (by omega), r.free, r.lt⟩
theorem WRw.below {w w' : World} {mb mm : Nat} {sv qv : Value} (r : WRw w mb mm sv qv) (k : Below w.heap.size w w') : WRw w' mb mm sv qv := Row.below r k
theorem WRw.drew {w : World} {mb mm : Nat} {sv qv : Value} (r : WRw w mb mm sv qv) : WRw w.drew mb mm sv qv := Row.drew r
theorem WRw.bar {w w' : World} {mb mm m : Nat} {sv qv : Value} (r : WRw w mb mm sv qv) (k : Bar m w.heap.size w w') (h : mb ≠ m) : WRw w' mb mm sv qv := Row.bar r k h
theorem WRw.setS {w : World} {mb mm : Nat} {sv qv : Value} (r : WRw w mb mm sv qv) (x : Value) : WRw (w.setCell ⟨mb, 1, none⟩ x) mb mm x qv :=
  (Row.set r 1 (by omega) _).congr fun j hj => by rcases three hj with rfl | rfl | rfl <;> rfl
theorem WRw.setQ {w : World} {mb mm : Nat} {sv qv : Value} (r : WRw w mb mm sv qv) (x : Value) : WRw (w.setCell ⟨mb, 2, none⟩ x) mb mm sv x :=
  (Row.set r 2 (by omega) _).congr fun j hj => by rcases three hj with rfl | rfl | rfl <;> rfl
attribute [irreducible] nqv

set_option maxRecDepth 100000 in
set_option maxHeartbeats 1000000 in
theorem up_any (mb mm g n c : Nat) (sv : Value) (Q : List Nat) (j : Nat) (w : World) (hm : WRw w mb mm sv (.slice (some ⟨g, 0, none⟩) n c)) (hg : mb ≠ g) (r : Row w g n (nqv Q)) (hQ : Q.length = n) (hn : n ≤ 1000000) (hj : j < n) (hu : UpI Q j) :
    Calls Try.prog 53 #[.iface 87 (.pointer (some ⟨mb, 2, none⟩)), .int .i64 (j : Int)] w fun e w' => e = .returned (.tuple #[]) ∧ ∃ Q', Q'.length = n ∧ Row w' g n (nqv Q') ∧ HeapN Q' n ∧ Q'.Perm Q ∧ Bar g w.heap.size w w' ∧ Kin g w w' := by
  have HM := Lib.hid hm
  clear hm
  go_enter Try.func53, Try.ntmps53
  go_wp2_with fail
  go_loopw [1, 4] (fun q _ wr => ∃ (j' : Nat) (Q' : List Nat), q = .int .i64 (j' : Int) ∧ j' < n ∧ Q'.length = n ∧ Row wr g n (nqv Q') ∧ UpI Q' j' ∧ Q'.Perm Q ∧ Bar g w.heap.size w wr ∧ Kin g w wr) (fun q _ _ => (intOf q).toNat)
  case atStart => exact ⟨j, Q, rfl, hj, hQ, r, hu, List.Perm.refl _, Bar.refl _ _ _, Kin.refl _ _⟩
  case round =>
    clear hj hQ r hu
    obtain ⟨j, Q', rfl, hj, hQ, r, hu, hp, hb, hk⟩ := hrel
    have MR := HM.out.bar hb hg
    obtain ⟨m0, m1, m2, mf, ml⟩ := MR.all
    have HJ := Lib.hid hj
    have HQ := Lib.hid hQ
    have HU := Lib.hid hu
    have HP := Lib.hid hp
    clear hj hQ hu hp
    by_cases h0 : j = 0
    · subst h0
      go_wp2_with fail
      exact bodyPost_end (v := .tuple #[]) (by simp [results, Try.results53, go_sem]) rfl ⟨rfl, Q', HQ.out, r, by have := UpI.done HU.out (.inl rfl); rw [HQ.out] at this; exact this, HP.out, hb, hk⟩
    · obtain ⟨t, ht⟩ : ∃ t, t + 1 = j := ⟨j - 1, by omega⟩
      obtain ⟨p, hpe⟩ : ∃ p, p = t / 2 := ⟨_, rfl⟩
      have HT := Lib.hid ht
      have HPE := Lib.hid hpe
      have hj := HJ.out
      have hp : p < n := by omega
      have HPJ := Lib.hid (show p = (j - 1) / 2 by omega)
      have hp0 : p < j := by omega
      have e0 : (j : Int) - 1 = (t : Int) := by omega
      have ew : wrap64 (t : Int) = (t : Int) := by unfold wrap64; omega
      have e1 : (t : Int) / 2 = (p : Int) := by omega
      have ep : wrap64 (p : Int) = (p : Int) := by unfold wrap64; omega
      have e2 : ((p : Int) == (j : Int)) = false := by simp; omega
      have LE := Lib.hid (fun w' r' => less_any g n c Q' j p w' r' hj hp hn)
      have SW := Lib.hid (fun w' r' => swap_any g n c Q' p j w' r' HQ.out hp hj hn)
      have ML := meth_less ⟨mb, 2, none⟩ _ wr m2
      have HP0 := Lib.hid hp0
      clear hj hp hp0 ht hpe
      go_wp2_with fail
      refine (LE.out _ r).mono ?_
      rintro e w1 ⟨rfl, b1⟩
      dsimp only
      have R1 := r.below b1
      have MR1 := MR.below b1
      have B1 := hb.then b1
      have K1 := hk.trans (Kin.of b1)
      obtain ⟨x0, x1, x2, xf, xl⟩ := MR1.all
      have MS := meth_swap ⟨mb, 2, none⟩ _ w1 x2
      clear m0 m1 m2 mf ml ML MR
      by_cases hlt : nq Q' j < nq Q' p
      · rw [decide_eq_true hlt]
        have HLT := Lib.hid hlt
        clear hlt
        go_wp2_with fail
        refine (SW.out _ R1).mono ?_
        rintro e w2 ⟨rfl, R2, b2, k2⟩
        dsimp only
        have B2 := B1.trans (Bar.mono b2 B1.size)
        have K2 := K1.trans k2
        go_wp2_with fail
        go_roundw
        case rel => exact ⟨p, swq Q' p j, by rw [ep], by have := HP0.out; have := HJ.out; omega, by rw [swq_len]; exact HQ.out, R2, by have := UpI.step HU.out (by rw [HQ.out]; exact HJ.out) (by have := HT.out; omega) (by rw [← HPJ.out]; exact HLT.out); rw [← HPJ.out] at this; exact this, (swq_perm Q' p j (by rw [HQ.out]; have := HP0.out; have := HJ.out; omega) (by rw [HQ.out]; exact HJ.out)).trans HP.out, B2, K2⟩
        case measure => have := HP0.out; rw [ep]; simp [intOf]; try omega
      · rw [decide_eq_false hlt]
        have HLT := Lib.hid hlt
        clear hlt
        go_wp2_with fail
        exact bodyPost_end (v := .tuple #[]) (by simp [results, Try.results53, go_sem]) rfl ⟨rfl, Q', HQ.out, R1, by have := UpI.done HU.out (.inr (by rw [← HPJ.out]; have := HLT.out; omega)); rw [HQ.out] at this; exact this, HP.out, B1, K1⟩

end Go.Proofs.Ytgnpakpnocbhhaa
