/-
  Package mem: New, Spaces, words, has, Size, Read.
-/
import Derived.Test.YtgnpakpnocbhhaaMem0
import Derived.Test.YtgnpakpnocbhhaaRead08
namespace Go.Proofs.Ytgnpakpnocbhhaa
open Go.RowKit
set_option linter.unusedVariables false

theorem mc_zero (j : Nat) (hj : j < 6) : (#[Value.int .i64 0, .int .i64 0, .int .u64 0, .int .u64 0, .int .u64 0, .int .u64 0] : Array Value)[j]? = some (mc 0 0 0 0 j) := by
  have h := mc_new 0 0 0 0 j hj
  rw [hi_0, lo_0] at h
  exact h
theorem mnew_any (w : World) : Calls Try.prog 8 #[] w fun e w' => ∃ mb mm R, e = .returned (at0 mb) ∧ MM w' R mb mm [] 0 0 0 0 ∧ (∀ j, R j ≠ 0 → w.heap.size ≤ j) ∧ Below w.heap.size w w' := by
  go_enter Try.func8, Try.ntmps8
  go_wp2_with fail
  with_reducible refine (new_any w).mono ?_
  rintro e w1 ⟨rfl, rfl⟩
  dsimp only
  go_wp2_with fail
  go_ret
  have MR : MRow (w.alloc (.cells #[.int .i64 0, .int .i64 0, .int .u64 0, .int .u64 0, .int .u64 0, .int .u64 0] 93)) w.heap.size 0 0 0 0 := Row.newAt w _ _ _ 6 _ rfl mc_zero
  refine ⟨w.heap.size + 1, w.heap.size, fun j => if j = w.heap.size + 1 then 1 else if j = w.heap.size then 2 else 0, by simp, ⟨.slice none 0 0, .slice none 0 0, fun _ => .slice none 0 0, [], ?_⟩, ?_, (by repeat (first | exact Below.refl _ _ | (with_reducible assumption) | refine bAlloc ?_ _ | refine below_drewN ?_ _ | refine Below.drew ?_ | (refine bSet ?_ (by first | (dsimp only; omega) | (simp; done) | (simp; omega)) _) | refine bTrans ?_ (by assumption)))⟩
  · refine ⟨fun j hj => ?_, by simp, by simp, ?_, MR.alloc _, .inl ⟨rfl, rfl⟩, .inl ⟨rfl, rfl⟩, fun i hi => by simp at hi, fun k _ hk => by simp at hk, fun x => by unfold clo; simp, by unfold countv; rfl, by simp, fun i hi => by simp at hi, N128_0, N128_0, by unfold Fit; omega⟩
    · have hj : (if j = w.heap.size + 1 then 1 else if j = w.heap.size then 2 else 0) ≠ 0 := hj
      by_cases e : j = w.heap.size + 1
      · subst e; simp
      · rw [if_neg e] at hj
        by_cases e2 : j = w.heap.size
        · subst e2; simp; omega
        · rw [if_neg e2] at hj; exact absurd rfl hj
    · exact Row.newAt _ _ _ (w.heap.size + 1) 3 _ (by simp) (fun j hj => by rcases three hj with rfl | rfl | rfl <;> rfl)
  · intro j hj
    have hj : (if j = w.heap.size + 1 then 1 else if j = w.heap.size then 2 else 0) ≠ 0 := hj
    by_cases e : j = w.heap.size + 1
    · omega
    · rw [if_neg e] at hj
      by_cases e2 : j = w.heap.size
      · omega
      · rw [if_neg e2] at hj; exact absurd rfl hj

theorem ZQ.slice {w : World} {B : Nat → Prop} {t : TypeId} {v : Value} {n : Nat} {f : Nat → Value} (h : ZQ w B t v n f) : ∃ a c, v = .slice a n c := by
  rcases h with ⟨e, rfl⟩ | ⟨g, c, e, _⟩
  · exact ⟨_, _, e⟩
  · exact ⟨_, _, e⟩
theorem mspaces_any (mb mm : Nat) (R : Nat → Nat) (L : List Spc) (a b : Nat) (h g : Int) (w : World) (hm : MM w R mb mm L a b h g) : Calls Try.prog 10 #[at0 mb] w fun e w' => e = .returned (.int .i64 ((countv L : Nat) : Int)) ∧ Below w.heap.size w w' := by
  obtain ⟨sv, qv, U, Q, m⟩ := hm
  obtain ⟨m0, m1, m2, mf, ml⟩ := m.row.all
  obtain ⟨sa, sc, rfl⟩ := m.sp.slice
  obtain ⟨qa, qc, rfl⟩ := m.cl.slice
  have ln := m.ln
  have lc := m.lc
  have e0 : (L.length : Int) - (Q.length : Int) = (countv L : Nat) := by omega
  have w0 : wrap64 ((countv L : Nat) : Int) = (countv L : Nat) := by unfold wrap64; omega
  clear m ln lc
  generalize countv L = n at *
  go_enter Try.func10, Try.ntmps10
  go_wp2_with fail
  go_quiet (fail)
  go_wp2_with fail
  go_ret
  exact ⟨by first | rfl | (rw [w0]; rfl), (by repeat (first | exact Below.refl _ _ | (with_reducible assumption) | refine bAlloc ?_ _ | refine below_drewN ?_ _ | refine Below.drew ?_ | (refine bSet ?_ (by first | (dsimp only; omega) | (simp; done) | (simp; omega)) _) | refine bTrans ?_ (by assumption)))⟩

theorem eql_nil (w : World) (a : Option Addr) (n c n' c' : Nat) : (binOp .eql 75 (.slice a n c) (.slice none n' c')).run Try.prog w = .ok (.bool a.isNone) w := Lib.run_eql_slice_nil w _ _ a n c n' c' Try.underlying75
set_option maxRecDepth 100000 in
theorem words_ok (mb mm : Nat) (R : Nat → Nat) (sv qv : Value) (U : Nat → Value) (Q : List Nat) (L : List Spc) (a b : Nat) (h g : Int) (w : World) (m : MO w R mb mm sv qv U Q L a b h g) (k : Nat) (hk : k < L.length) (ho : (L.getD k (false, [])).1 = true) :
    Calls Try.prog 38 #[at0 mb, .int .i64 (k : Int)] w fun e w' => e = .returned (.tuple #[U k, .int .i64 0]) ∧ w' = w := by
  obtain ⟨sg, sc, gk, ck, rfl, _, sr, _, _, _, eu, _, _, _, _, _⟩ := m.open_at hk ho
  obtain ⟨m0, m1, m2, mf, ml⟩ := m.row.all
  have c0 := sr.cell k hk
  rw [eu] at c0 ⊢
  have q0 := fun w a n c n' c' => eql_nil w a n c n' c'
  have i0 : (0 : Int) ≤ (k : Int) := by omega
  have i1 : (k : Int) < (L.length : Int) := by omega
  have i2 : ¬ L.length ≤ k := by omega
  clear m sr ho eu
  go_enter Try.func38, Try.ntmps38
  go_wp2_with fail
  exact bodyPost_ret (v := .tuple #[.slice (some ⟨gk, 0, none⟩) (wds L k).length ck, .int .i64 0]) (by simp [results, Try.results38, go_sem]) rfl ⟨rfl, rfl⟩
set_option maxRecDepth 100000 in
theorem words_no (mb mm : Nat) (R : Nat → Nat) (sv qv : Value) (U : Nat → Value) (Q : List Nat) (L : List Spc) (a b : Nat) (h g : Int) (w : World) (m : MO w R mb mm sv qv U Q L a b h g) (id : Int) (hE : isv L id = false) :
    Calls Try.prog 38 #[at0 mb, .int .i64 id] w fun e w' => e = .returned (.tuple #[.slice none 0 0, .int .i64 10]) ∧ w' = w := by
  obtain ⟨m0, m1, m2, mf, ml⟩ := m.row.all
  by_cases h0 : 0 ≤ id
  · obtain ⟨k, rfl⟩ := Int.eq_ofNat_of_zero_le h0
    by_cases h1 : k < L.length
    · have ho : (L.getD k (false, [])).1 = false := by
        cases q : (L.getD k (false, [])).1
        · rfl
        · rw [isv_t h1 q] at hE; cases hE
      have i2 : ¬ L.length ≤ k := by omega
      have i1 : (k : Int) < (L.length : Int) := by omega
      rcases m.sp with ⟨_, e⟩ | ⟨sg, sc, rfl, _, _, _, sr, _⟩
      · omega
      · rcases m.wd k h1 with ⟨_, _, eu⟩ | ⟨e, _⟩
        · have c0 := sr.cell k h1
          rw [eu] at c0
          have q0 := fun w a n c n' c' => eql_nil w a n c n' c'
          clear m sr ho eu hE
          go_enter Try.func38, Try.ntmps38
          go_wp2_with fail
          exact bodyPost_ret (v := .tuple #[.slice none 0 0, .int .i64 10]) (by simp [results, Try.results38, go_sem]) rfl ⟨rfl, rfl⟩
        · rw [ho] at e; cases e
    · have i2 : L.length ≤ k := by omega
      obtain ⟨sa, sc, rfl⟩ := m.sp.slice
      clear m hE
      go_enter Try.func38, Try.ntmps38
      go_wp2_with fail
      exact bodyPost_ret (v := .tuple #[.slice none 0 0, .int .i64 10]) (by simp [results, Try.results38, go_sem]) rfl ⟨rfl, rfl⟩
  · have h1 : id < 0 := by omega
    clear m hE h0
    go_enter Try.func38, Try.ntmps38
    go_wp2_with fail
    exact bodyPost_ret (v := .tuple #[.slice none 0 0, .int .i64 10]) (by simp [results, Try.results38, go_sem]) rfl ⟨rfl, rfl⟩

/-- are there n words from a on? -/
def hasv (l : Nat) (a n : Int) : Bool := decide (0 ≤ a ∧ 0 ≤ n ∧ n ≤ (l : Int) - a)
theorem has_any (u : Option Addr) (l c : Nat) (a n : Int) (hl : l ≤ 100000000) (ha : a ≤ 9223372036854775807) (w : World) : Calls Try.prog 39 #[.slice u l c, .int .i64 a, .int .i64 n] w fun e w' => e = .returned (.bool (hasv l a n)) ∧ w' = w := by
  unfold hasv
  by_cases h0 : 0 ≤ a
  · by_cases h1 : 0 ≤ n
    · have ew : wrap64 ((l : Int) - a) = (l : Int) - a := by unfold wrap64; omega
      have ed : decide (0 ≤ a ∧ 0 ≤ n ∧ n ≤ (l : Int) - a) = decide (n ≤ (l : Int) - a) := by simp [h0, h1]
      rw [ed]
      clear ed ha hl
      go_enter Try.func39, Try.ntmps39
      go_wp2_with fail
      go_ret
      exact ⟨rfl, rfl⟩
    · rw [decide_eq_false (fun q => h1 q.2.1)]
      clear ha hl
      go_enter Try.func39, Try.ntmps39
      go_wp2_with fail
      go_ret
      exact ⟨rfl, rfl⟩
  · rw [decide_eq_false (fun q => h0 q.1)]
    clear ha hl
    go_enter Try.func39, Try.ntmps39
    go_wp2_with fail
    go_ret
    exact ⟨rfl, rfl⟩
theorem hasv_t {L : List Spc} {k : Nat} {a n : Int} (hi : isv L (k : Int) = true) (h : wrongv L (k : Int) a n = 0) : hasv (wds L k).length a n = true := by
  unfold wrongv at h
  rw [if_neg (by rw [hi]; simp), Int.toNat_natCast] at h
  unfold hasv
  by_cases c : n < 0 ∨ a < 0 ∨ ((wds L k).length : Int) < n ∨ ((wds L k).length : Int) - n < a
  · rw [if_pos c] at h; omega
  · exact decide_eq_true ⟨by omega, by omega, by omega⟩
theorem hasv_f {L : List Spc} {k : Nat} {a n : Int} (hi : isv L (k : Int) = true) (h : ¬ wrongv L (k : Int) a n = 0) : hasv (wds L k).length a n = false ∧ wrongv L (k : Int) a n = 11 := by
  unfold wrongv at h ⊢
  rw [if_neg (by rw [hi]; simp), Int.toNat_natCast] at h ⊢
  unfold hasv
  by_cases c : n < 0 ∨ a < 0 ∨ ((wds L k).length : Int) < n ∨ ((wds L k).length : Int) - n < a
  · exact ⟨decide_eq_false (by omega), if_pos c⟩
  · rw [if_neg c] at h; exact absurd rfl h
theorem wrongv_no {L : List Spc} {id a n : Int} (hi : isv L id = false) : wrongv L id a n = 10 := by
  unfold wrongv; rw [if_pos hi]
attribute [irreducible] hasv
end Go.Proofs.Ytgnpakpnocbhhaa
