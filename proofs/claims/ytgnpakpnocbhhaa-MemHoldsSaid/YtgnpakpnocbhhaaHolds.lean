/-
  What MemHolds keeps: a word of space 0; what it counts. No walk. And what follows from it.
-/
import Derived.Test.YtgnpakpnocbhhaaAwake08
import Derived.Test.YtgnpakpnocbhhaaOut
import Derived.Test.YtgnpakpnocbhhaaCloses
import Derived.Test.YtgnpakpnocbhhaaDoKit
import Derived.Test.YtgnpakpnocbhhaaFew
/-! ## What MemHolds keeps: a word of space 0; what it counts. No walk. -/
namespace Go.Proofs.Ytgnpakpnocbhhaa
open Go.RowKit
set_option linter.unusedVariables false

/-- space 0 is open, its word k is x -/
def Hd (L : List Spc) (k x : Nat) : Prop := 0 < L.length ∧ (L.getD 0 (false, [])).1 = true ∧ k < (wds L 0).length ∧ wat L 0 k = x
theorem wat_def (L : List Spc) (k i : Nat) : wat L k i = (wds L k).getD i 0 := by unfold wat; rfl
/-- another space has turned -/
theorem Hd.other {L : List Spc} {k x j : Nat} (h : Hd L k x) (hj : j ≠ 0) (y : Spc) : Hd (L.set j y) k x := by
  obtain ⟨h0, h1, h2, h3⟩ := h
  by_cases hl : j < L.length
  · have g := getD_set L j 0 y hl
    rw [if_neg (Ne.symm hj)] at g
    have w0 : wds (L.set j y) 0 = wds L 0 := by unfold wds; rw [g]
    refine ⟨by rw [List.length_set]; exact h0, by rw [g]; exact h1, by rw [w0]; exact h2, by rw [wat_def, w0, ← wat_def]; exact h3⟩
  · rw [List.set_eq_of_length_le (by omega)]; exact ⟨h0, h1, h2, h3⟩
/-- its own words have turned, not word k -/
theorem Hd.own {L : List Spc} {k x : Nat} (h : Hd L k x) (ws : List Nat) (hl : (wds L 0).length ≤ ws.length) (e : ws.getD k 0 = (wds L 0).getD k 0) : Hd (L.set 0 ((L.getD 0 (false, [])).1, ws)) k x := by
  obtain ⟨h0, h1, h2, h3⟩ := h
  have g := getD_set L 0 0 ((L.getD 0 (false, [])).1, ws) h0
  rw [if_pos rfl] at g
  have w0 : wds (L.set 0 ((L.getD 0 (false, [])).1, ws)) 0 = ws := by unfold wds; rw [g]
  refine ⟨by rw [List.length_set]; exact h0, by rw [g]; exact h1, by rw [w0]; omega, by rw [wat_def, w0, e, ← wat_def]; exact h3⟩
theorem firstc_step (y : Spc) (l : List Spc) : firstc (y :: l) = if y.1 then firstc l + 1 else 0 := by with_unfolding_all rfl
theorem firstc_cons (y : Spc) (l : List Spc) (h : y.1 = true) : firstc (y :: l) ≠ 0 := by
  rw [firstc_step, h, if_pos rfl]; omega
theorem opened_hd {L : List Spc} {k x : Nat} (h : Hd L k x) (n : Nat) : Hd (opened L n) k x := by
  unfold opened
  split
  · rename_i q
    refine h.other (fun e => ?_) _
    have f0 : firstc L = 0 := e
    have h1 := h.2.1
    cases L with
    | nil => simp at q
    | cons y l =>
      have y1 : y.1 = true := h1
      have := firstc_cons y l y1
      omega
  · obtain ⟨h0, h1, h2, h3⟩ := h
    have g : (L ++ [((true, List.replicate n 0) : Spc)]).getD 0 (false, []) = L.getD 0 (false, []) := by rw [getD_snoc L _ 0 (by omega), if_pos h0]
    have w0 : wds (L ++ [((true, List.replicate n 0) : Spc)]) 0 = wds L 0 := by unfold wds; rw [g]
    exact ⟨by rw [List.length_append]; omega, by rw [g]; exact h1, by rw [w0]; exact h2, by rw [wat_def, w0, ← wat_def]; exact h3⟩
theorem openv_hd {L : List Spc} {a b : Nat} {h g n : Int} {k x : Nat} (hd : Hd L k x) : Hd (openv L a b h g n).L k x ∧ (openv L a b h g n).a = a ∧ (openv L a b h g n).b = b := by
  unfold openv
  split
  · exact ⟨hd, rfl, rfl⟩
  · split
    · exact ⟨hd, rfl, rfl⟩
    · exact ⟨opened_hd hd _, rfl, rfl⟩
theorem closev_hd {L : List Spc} {a b : Nat} {h g id : Int} {k x : Nat} (hd : Hd L k x) (hid : id ≠ 0) : Hd (closev L a b h g id).L k x ∧ (closev L a b h g id).a = a ∧ (closev L a b h g id).b = b := by
  unfold closev
  split
  · rename_i q
    obtain ⟨j, rfl, _, _⟩ := isv_of q
    exact ⟨hd.other (by rw [Int.toNat_natCast]; omega) _, rfl, rfl⟩
  · exact ⟨hd, rfl, rfl⟩
theorem growv_hd {L : List Spc} {a b : Nat} {h g id n : Int} {k x : Nat} (hd : Hd L k x) : Hd (growv L a b h g id n).L k x ∧ (growv L a b h g id n).a = a ∧ (growv L a b h g id n).b = b := by
  unfold growv
  split
  · rename_i q
    obtain ⟨j, rfl, _, _⟩ := isv_of q
    split
    · exact ⟨hd, rfl, rfl⟩
    · split
      · exact ⟨hd, rfl, rfl⟩
      · refine ⟨?_, rfl, rfl⟩
        show Hd (L.set (j : Int).toNat _) k x
        rw [Int.toNat_natCast]
        by_cases e : j = 0
        · subst e
          refine hd.own _ (by rw [List.length_append]; omega) ?_
          simp [List.getD, List.getElem?_append_left hd.2.2.1]
        · exact hd.other e _
  · exact ⟨hd, rfl, rfl⟩
theorem stepv_same {k n : Int} {y : Nat} (q : Int) (h : k ≠ q) : stepv q k n y = y := stepv_n y (fun e => h e.1)
theorem stepv_add {q : Int} {y t : Nat} (h : y + t ≤ 4000000000) : stepv q q (t : Int) y = y + t := by
  by_cases h0 : t = 0
  · subst h0; rw [stepv_n y (fun e => by simp at e)]; rfl
  · rw [stepv_y y rfl (by omega), Int.toNat_natCast, addv_t (by unfold N128; omega)]
theorem writev_hd {L : List Spc} {a b : Nat} {h g id at' : Int} {y k x : Nat} (hd : Hd L k x) (hid : id ≠ 0 ∨ at' ≠ (k : Int)) (hs : a + b ≤ 2000000000) : Hd (writev L a b h g id at' y).L k x ∧ ((writev L a b h g id at' y).c = 0 ∧ (writev L a b h g id at' y).a + (writev L a b h g id at' y).b = a + b + 1 ∨ (writev L a b h g id at' y).c ≠ 0 ∧ (writev L a b h g id at' y).a + (writev L a b h g id at' y).b = a + b) := by
  unfold writev
  split
  · rename_i q
    obtain ⟨j, i, t, rfl, rfl, _, hj, _, hl⟩ := wrongv_0 q
    refine ⟨?_, .inl ⟨rfl, ?_⟩⟩
    · show Hd (L.set (j : Int).toNat _) k x
      rw [Int.toNat_natCast, Int.toNat_natCast]
      by_cases e : j = 0
      · subst e
        refine hd.own _ (by rw [List.length_set]; omega) ?_
        have ne : i ≠ k := by omega
        simp [List.getD, List.getElem?_set_ne ne]
      · exact hd.other e _
    · show stepv 0 1 1 a + stepv 1 1 1 b = _
      have := stepv_add (q := 1) (y := b) (t := 1) (by omega)
      rw [stepv_same 0 (by decide), show ((1 : Nat) : Int) = 1 from rfl] at *
      rw [this]; omega
  · rename_i q
    exact ⟨hd, .inr ⟨q, rfl⟩⟩
theorem zerov_hd {L : List Spc} {a b : Nat} {h g id at' n : Int} {k x : Nat} (hd : Hd L k x) (hid : id ≠ 0) (hs : a + b ≤ 2000000000) (lw : ∀ i, i < L.length → (wds L i).length ≤ 4194304) : Hd (zerov L a b h g id at' n).L k x ∧ ((zerov L a b h g id at' n).c = 0 ∧ (∃ t : Nat, n = t ∧ t ≤ 4194304 ∧ (zerov L a b h g id at' n).a + (zerov L a b h g id at' n).b = a + b + t) ∨ (zerov L a b h g id at' n).c ≠ 0 ∧ (zerov L a b h g id at' n).a + (zerov L a b h g id at' n).b = a + b) := by
  unfold zerov
  split
  · rename_i q
    obtain ⟨j, i, t, rfl, rfl, rfl, hj, _, hl⟩ := wrongv_0 q
    have lt := lw j hj
    refine ⟨hd.other (by rw [Int.toNat_natCast]; omega) _, .inl ⟨rfl, t, rfl, by omega, ?_⟩⟩
    show stepv 0 1 (t : Int) a + stepv 1 1 (t : Int) b = _
    rw [stepv_same 0 (by decide), stepv_add (by omega)]; omega
  · rename_i q
    exact ⟨hd, .inr ⟨q, rfl⟩⟩
theorem copyv_hd {L : List Spc} {a b : Nat} {h g fr at' tt ds n : Int} {k x : Nat} (hd : Hd L k x) (hid : tt ≠ 0) (hs : a + b ≤ 2000000000) (lw : ∀ i, i < L.length → (wds L i).length ≤ 4194304) : Hd (copyv L a b h g fr at' tt ds n).L k x ∧ ((copyv L a b h g fr at' tt ds n).c = 0 ∧ (∃ t : Nat, n = t ∧ t ≤ 4194304 ∧ (copyv L a b h g fr at' tt ds n).a + (copyv L a b h g fr at' tt ds n).b = a + b + 2 * t) ∨ (copyv L a b h g fr at' tt ds n).c ≠ 0 ∧ (copyv L a b h g fr at' tt ds n).a + (copyv L a b h g fr at' tt ds n).b = a + b) := by
  unfold copyv
  split
  · split
    · rename_i q
      obtain ⟨j, i, t, rfl, rfl, rfl, hj, _, hl⟩ := wrongv_0 q.1
      obtain ⟨j2, i2, t2, rfl, rfl, _, _, _, _⟩ := wrongv_0 q.2
      have lt := lw j hj
      refine ⟨hd.other (by rw [Int.toNat_natCast]; omega) _, .inl ⟨rfl, t, rfl, by omega, ?_⟩⟩
      show stepv 0 1 (t : Int) (stepv 0 0 (t : Int) a) + stepv 1 1 (t : Int) (stepv 1 0 (t : Int) b) = _
      rw [stepv_same 0 (by decide), stepv_same (k := 0) 1 (by decide), stepv_add (by omega), stepv_add (by omega)]; omega
    · exact ⟨hd, .inr ⟨(show (11 : Int) ≠ 0 by decide), rfl⟩⟩
  · exact ⟨hd, .inr ⟨(show (10 : Int) ≠ 0 by decide), rfl⟩⟩
/-- what the loop of MemHolds keeps -/
def HI (W : World) (mb mm k x i want : Nat) (w : World) : Prop := ∃ L R a b h g, MM w R mb mm L a b h g ∧ Own W R w ∧ Hd L k x ∧ L.length ≤ 1 + i ∧ a + b = want ∧ want ≤ 1 + 8388608 * i
theorem HI.next {W w w' : World} {mb mm k x i want : Nat} {R R' : Nat → Nat} {o : Out} (M : MM w' R' mb mm o.L o.a o.b o.h o.g) (O : Own W R w) (T : TR R R' w w') (hd : Hd o.L k x) (len : o.L.length ≤ 1 + (i + 1)) (cnt : o.a + o.b = want) (bd : want ≤ 1 + 8388608 * (i + 1)) : HI W mb mm k x (i + 1) want w' :=
  ⟨o.L, R', o.a, o.b, o.h, o.g, M, O.step T, hd, len, cnt, bd⟩
end Go.Proofs.Ytgnpakpnocbhhaa
/-! ## haymowlaw08.MemHolds, walked. -/
namespace Go.Proofs.Ytgnpakpnocbhhaa
open Go.RowKit
set_option linter.unusedVariables false

theorem wrapu_le (t : Nat) (h : t ≤ 1000000000) : IntKind.u64.wrap (t : Int) = (t : Int) := by rw [IntKind.wrap_u64]; omega
theorem holds_bound {want i d : Nat} (h : want ≤ 1 + 8388608 * i) (hd : d ≤ 8388608) : want + d ≤ 1 + 8388608 * (i + 1) := by omega
theorem holds_small {want i : Nat} (h : want ≤ 1 + 8388608 * i) (hi : i ≤ 60) : want ≤ 600000000 := by omega
theorem mod_small {q n k : Nat} (h : k = q % n) : Int.tmod (q : Int) (n : Int) = (k : Int) ∧ (q : Int) % (n : Int) = (k : Int) := by
  have e : (q : Int) % (n : Int) = (k : Int) := by rw [h]; simp
  exact ⟨tmod_nn e, e⟩
theorem start_hd (n k x : Nat) (hk : k < n) : Hd ([((true, List.replicate n 0) : Spc)].set 0 (true, (List.replicate n 0).set k x)) k x := by
  refine ⟨by simp, rfl, by show k < ((List.replicate n 0).set k x).length; rw [List.length_set, List.length_replicate]; exact hk, ?_⟩
  rw [wat_def]
  show ((List.replicate n 0).set k x).getD k 0 = x
  simp [List.getD, hk]
theorem HI.below {W w w' : World} {mb mm k x i want : Nat} (h : HI W mb mm k x i want w) (b : Below w.heap.size w w') : HI W mb mm k x i want w' := by
  obtain ⟨L, R, a, b', h', g, M, O, q⟩ := h
  exact ⟨L, R, a, b', h', g, M.below b, O.below b, q⟩
theorem HI.more {W w : World} {mb mm k x i want : Nat} (h : HI W mb mm k x i want w) : HI W mb mm k x (i + 1) want w := by
  obtain ⟨L, R, a, b', h', g, M, O, q1, q2, q3, q4⟩ := h
  exact ⟨L, R, a, b', h', g, M, O, q1, by omega, q3, by omega⟩
theorem HI.own {W w : World} {mb mm k x i want : Nat} (h : HI W mb mm k x i want w) : Below W.heap.size W w := by
  obtain ⟨L, R, a, b', h', g, M, O, _⟩ := h
  exact O.b

/-- the same, all its blocks below block B -/
def HB (W : World) (mb mm k x i want B : Nat) (w : World) : Prop := ∃ L R a b h g, MM w R mb mm L a b h g ∧ Own W R w ∧ Hd L k x ∧ L.length ≤ 1 + i ∧ a + b = want ∧ want ≤ 1 + 8388608 * i ∧ ∀ j, R j ≠ 0 → j < B
theorem HI.hb {W w w' : World} {mb mm k x i want : Nat} (h : HI W mb mm k x i want w) (b : Below w.heap.size w w') : HB W mb mm k x i want w.heap.size w' := by
  obtain ⟨L, R, a, b', h', g, M, O, q1, q2, q3, q4⟩ := h
  exact ⟨L, R, a, b', h', g, M.below b, O.below b, q1, q2, q3, q4, M.plain.2.2.2.2.1⟩
theorem HB.hi {W w : World} {mb mm k x i want B : Nat} (h : HB W mb mm k x i want B w) : HI W mb mm k x i want w := by
  obtain ⟨L, R, a, b', h', g, M, O, q1, q2, q3, q4, _⟩ := h
  exact ⟨L, R, a, b', h', g, M, O, q1, q2, q3, q4⟩
/-- rows behind block B stay -/
def Stay (B : Nat) (w w' : World) : Prop := ∀ s m f, B ≤ s → Row w s m f → Row w' s m f
theorem TR.stay {R R' : Nat → Nat} {w w' : World} {B : Nat} (t : TR R R' w w') (h : ∀ j, R j ≠ 0 → j < B) : Stay B w w' := fun s m f hs r => r.keeps t.keeps (fun q => by have := h s q; omega)

/-! ### the calls of the loop -/
section
variable (W : World) (mb mm k x i want : Nat) (w : World) (B : Nat) (H : HB W mb mm k x i want B w) (hi : i ≤ 60)
include H hi
theorem h_open (n : Int) : Calls Try.prog 13 #[at0 mb, .int .i64 n] w fun e w' => (∃ p c : Int, e = .returned (.tuple #[.int .i64 p, .int .i64 c])) ∧ HI W mb mm k x (i + 1) want w' := by
  obtain ⟨L, R, a, b, h, g, M, O, hd, ln, cnt, bd, lo⟩ := H
  refine (mopen_any mb mm R L a b h g w M n (by omega)).mono fun e w' ⟨R', he, M', T⟩ => ⟨⟨_, _, he⟩, ?_⟩
  obtain ⟨q1, q2, q3⟩ := openv_hd (a := a) (b := b) (h := h) (g := g) (n := n) hd
  exact HI.next M' O T q1 (by have := openv_len L a b h g n; omega) (by rw [q2, q3]; exact cnt) (by omega)
omit hi in
theorem h_close (id : Int) (hid : id ≠ 0) : Calls Try.prog 15 #[at0 mb, .int .i64 id] w fun e w' => (∃ c : Int, e = .returned (.int .i64 c)) ∧ HI W mb mm k x (i + 1) want w' := by
  obtain ⟨L, R, a, b, h, g, M, O, hd, ln, cnt, bd, lo⟩ := H
  refine (mclose_any mb mm R L a b h g w M id).mono fun e w' ⟨R', he, M', T⟩ => ⟨⟨_, he⟩, ?_⟩
  obtain ⟨q1, q2, q3⟩ := closev_hd (a := a) (b := b) (h := h) (g := g) (id := id) hd hid
  exact HI.next M' O T q1 (by have := closev_len L a b h g id; omega) (by rw [q2, q3]; exact cnt) (by omega)
omit hi in
theorem h_grow (id n : Int) : Calls Try.prog 16 #[at0 mb, .int .i64 id, .int .i64 n] w fun e w' => (∃ c : Int, e = .returned (.int .i64 c)) ∧ HI W mb mm k x (i + 1) want w' := by
  obtain ⟨L, R, a, b, h, g, M, O, hd, ln, cnt, bd, lo⟩ := H
  refine (mgrow_any mb mm R L a b h g w M id n).mono fun e w' ⟨R', he, M', T⟩ => ⟨⟨_, he⟩, ?_⟩
  obtain ⟨q1, q2, q3⟩ := growv_hd (a := a) (b := b) (h := h) (g := g) (id := id) (n := n) hd
  exact HI.next M' O T q1 (by have := growv_len L a b h g id n; omega) (by rw [q2, q3]; exact cnt) (by omega)
theorem h_write (id at' : Int) (y : Nat) (ha : at' ≤ 9223372036854775807) (hid : id ≠ 0 ∨ at' ≠ (k : Int)) : Calls Try.prog 14 #[at0 mb, .int .i64 id, .int .i64 at', .int .u64 (y : Int)] w fun e w' => ∃ c : Int, e = .returned (.int .i64 c) ∧ ((c == 0) = true ∧ HI W mb mm k x (i + 1) (want + 1) w' ∨ (c == 0) = false ∧ HI W mb mm k x (i + 1) want w') := by
  obtain ⟨L, R, a, b, h, g, M, O, hd, ln, cnt, bd, lo⟩ := H
  refine (mwrite_any mb mm R L a b h g w M id at' y ha).mono fun e w' ⟨R', he, M', T⟩ => ⟨_, he, ?_⟩
  obtain ⟨q1, q2⟩ := writev_hd (a := a) (b := b) (h := h) (g := g) (id := id) (at' := at') (y := y) hd hid (by omega)
  have len := writev_len L a b h g id at' y
  rcases q2 with ⟨c0, q⟩ | ⟨c0, q⟩
  · exact .inl ⟨by simp [c0], HI.next M' O T q1 (by omega) (by omega) (by omega)⟩
  · exact .inr ⟨by simp [c0], HI.next M' O T q1 (by omega) (by omega) (by omega)⟩
theorem h_zero (id at' n : Int) (ha : at' ≤ 9223372036854775807) (hid : id ≠ 0) : Calls Try.prog 17 #[at0 mb, .int .i64 id, .int .i64 at', .int .i64 n] w fun e w' => ∃ c : Int, e = .returned (.int .i64 c) ∧ Stay B w w' ∧ ((c == 0) = true ∧ (∃ t : Nat, n = t ∧ t ≤ 4194304 ∧ HI W mb mm k x (i + 1) (want + t) w') ∨ (c == 0) = false ∧ HI W mb mm k x (i + 1) want w') := by
  obtain ⟨L, R, a, b, h, g, M, O, hd, ln, cnt, bd, lo⟩ := H
  refine (mzero_any mb mm R L a b h g w M id at' n ha).mono fun e w' ⟨R', he, M', T⟩ => ⟨_, he, T.stay lo, ?_⟩
  obtain ⟨q1, q2⟩ := zerov_hd (a := a) (b := b) (h := h) (g := g) (id := id) (at' := at') (n := n) hd hid (by omega) M.plain.2.2.2.1
  have len := zerov_len L a b h g id at' n
  rcases q2 with ⟨c0, t, hn, ht, q⟩ | ⟨c0, q⟩
  · exact .inl ⟨by simp [c0], t, hn, ht, HI.next M' O T q1 (by omega) (by omega) (by omega)⟩
  · exact .inr ⟨by simp [c0], HI.next M' O T q1 (by omega) (by omega) (by omega)⟩
theorem h_copy (fr at' tt ds n : Int) (ha : at' ≤ 9223372036854775807) (hds : ds ≤ 9223372036854775807) (hid : tt ≠ 0) : Calls Try.prog 18 #[at0 mb, .int .i64 fr, .int .i64 at', .int .i64 tt, .int .i64 ds, .int .i64 n] w fun e w' => ∃ c : Int, e = .returned (.int .i64 c) ∧ Stay B w w' ∧ ((c == 0) = true ∧ (∃ t : Nat, n = t ∧ t ≤ 4194304 ∧ HI W mb mm k x (i + 1) (want + 2 * t) w') ∨ (c == 0) = false ∧ HI W mb mm k x (i + 1) want w') := by
  obtain ⟨L, R, a, b, h, g, M, O, hd, ln, cnt, bd, lo⟩ := H
  refine (mcopy_any mb mm R L a b h g w M fr at' tt ds n ha hds).mono fun e w' ⟨R', he, M', T⟩ => ⟨_, he, T.stay lo, ?_⟩
  obtain ⟨q1, q2⟩ := copyv_hd (a := a) (b := b) (h := h) (g := g) (fr := fr) (at' := at') (tt := tt) (ds := ds) (n := n) hd hid (by omega) M.plain.2.2.2.1
  have len := copyv_len L a b h g fr at' tt ds n
  rcases q2 with ⟨c0, t, hn, ht, q⟩ | ⟨c0, q⟩
  · exact .inl ⟨by simp [c0], t, hn, ht, HI.next M' O T q1 (by omega) (by omega) (by omega)⟩
  · exact .inr ⟨by simp [c0], HI.next M' O T q1 (by omega) (by omega) (by omega)⟩
end
end Go.Proofs.Ytgnpakpnocbhhaa
/-! ## haymowlaw08.MemHolds, walked. -/
namespace Go.Proofs.Ytgnpakpnocbhhaa
open Go.RowKit
set_option linter.unusedVariables false

set_option maxRecDepth 100000 in
theorem holds_long (p q x : Nat) (a : Option Addr) (n c : Nat) (hn : n ≤ maxLen) (h : 60 < n) (w : World) :
    Calls Try.prog 4 #[.agg #[.int .u8 (p : Int), .int .u8 (q : Int)], .int .u64 (x : Int), .slice a n c] w fun e w' => e = .returned (.bool true) ∧ Below w.heap.size w w' := by
  have FL := Lib.hid (fun w' => few_long a n c hn h w')
  clear hn h
  go_enter Try.func4, Try.ntmps4
  go_wp2_with fail
  refine (awake_any _).mono ?_
  rintro e w1 ⟨rfl, b1⟩
  have HB1 := Lib.hid (bTrans (bAlloc (Below.refl w.heap.size w) (.cells #[.int .u8 (p : Int), .int .u8 (q : Int)] 43)) b1)
  clear b1
  dsimp only
  go_wp2_with fail
  with_reducible refine (FL.out _).mono ?_
  rintro e w2 ⟨rfl, rfl⟩
  dsimp only
  go_wp2_with fail
  go_ret
  exact ⟨rfl, HB1.out⟩
set_option maxRecDepth 100000 in
set_option maxHeartbeats 4000000 in
theorem holds_walk (p q x : Nat) (hp : p < 256) (hq : q < 256) (v : Value) (F : List Opn) (w : World) (hv : OL w v F) (hl : F.length ≤ 60) :
    Calls Try.prog 4 #[.agg #[.int .u8 (p : Int), .int .u8 (q : Int)], .int .u64 (x : Int), v] w fun e w' => e = .returned (.bool true) ∧ Below w.heap.size w w' := by
  have BA := bAlloc (Below.refl w.heap.size w) (.cells #[.int .u8 (p : Int), .int .u8 (q : Int)] 43)
  have RA : Row (w.alloc (.cells #[.int .u8 (p : Int), .int .u8 (q : Int)] 43)) w.heap.size 2 (fun j => if j = 0 then .int .u8 (p : Int) else .int .u8 (q : Int)) := Row.newAt w _ _ w.heap.size 2 _ rfl (fun j hj => by
    have : j = 0 ∨ j = 1 := by omega
    rcases this with rfl | rfl <;> rfl)
  have FW := Lib.hid (fun w' (b : Below w.heap.size w w') => few_any v F w' (hv.below b) hl)
  obtain ⟨a, cap, rfl, hn60, hm, hv'⟩ := hv
  have HV := Lib.hid hv'
  have HM := Lib.hid hm
  have HL := Lib.hid hl
  have HP := Lib.hid hp
  have HQ := Lib.hid hq
  clear hv' hm hn60 hl hp hq
  go_enter Try.func4, Try.ntmps4
  go_wp2_with fail
  refine (awake_any _).mono ?_
  rintro e w1 ⟨rfl, b1⟩
  have RA1 := RA.below b1
  have B1 := bTrans BA b1
  clear BA RA b1
  dsimp only
  go_wp2_with fail
  with_reducible refine (FW.out _ B1).mono ?_
  rintro e w2 ⟨rfl, rfl⟩
  dsimp only
  clear FW
  cases hf : fewv F
  · clear hf
    go_wp2_with fail
    go_ret
    exact ⟨rfl, B1⟩
  · clear hf
    go_wp2_with fail
    refine (mnew_any _).mono ?_
    rintro e w3 ⟨mb, mm, R3, rfl, M3, lo3, b3⟩
    have O3 := Own.new B1 lo3 b3
    have nz3 : ¬ R3 w.heap.size ≠ 0 := fun e => by
      have := lo3 _ e
      have := RA1.lt
      omega
    have RA3 := RA1.below b3
    have NZ := Lib.hid nz3
    clear RA1 B1 lo3 b3 nz3
    dsimp only
    obtain ⟨n, hn⟩ : ∃ n, n = p + 1 := ⟨_, rfl⟩
    have hp := HP.out
    have hq := HQ.out
    have np : 0 < n := by omega
    have nb : n ≤ 1000 := by omega
    obtain ⟨k, hk⟩ : ∃ k, k = q % n := ⟨_, rfl⟩
    have kn : k < n := by rw [hk]; exact Nat.mod_lt _ np
    have en : (1 : Int) + (p : Int) = (n : Int) := by omega
    have F0 : firstc [] = 0 := firstc_eq [] 0 (fun j hj => by omega) (.inl rfl)
    have cp := conv_u8 p hp
    have cq := conv_u8 q hq
    obtain ⟨mk, mk'⟩ := mod_small hk
    have n0 := ne_nought np
    have wn := wrap_small n (by omega)
    have OP := mopen_ok mb mm R3 [] 0 0 0 0 _ M3 n (by omega) (by unfold countv; omega)
    rw [F0, show opened [] n = [(true, List.replicate n 0)] by unfold opened; rw [F0]; rfl, show ((0 : Nat) : Int) = 0 from rfl] at OP
    have OPH := Lib.hid OP
    have lr : (wds [((true, List.replicate n 0) : Spc)] 0).length = n := List.length_replicate
    have WE : wrongv [((true, List.replicate n 0) : Spc)] ((0 : Nat) : Int) (k : Int) 1 = 0 := by
      unfold wrongv
      rw [if_neg (by rw [show isv [((true, List.replicate n 0) : Spc)] ((0 : Nat) : Int) = true from rfl]; simp)]
      rw [show (((0 : Nat) : Int)).toNat = 0 from rfl, lr, if_neg (by omega)]
    have WR := Lib.hid (fun R w' h g (m : MM w' R mb mm [((true, List.replicate n 0) : Spc)] 0 0 h g) => mwrite_ok mb mm R [((true, List.replicate n 0) : Spc)] 0 0 h g w' m 0 k x (by simp) (by rw [lr]; exact kn) rfl WE)
    have SH := Lib.hid (start_hd n k x kn)
    have s0 : stepv 0 1 1 0 = 0 := by unfold stepv; simp
    have s1 : stepv 1 1 1 0 = 1 := by unfold stepv addv; simp
    have HS0 := Lib.hid s0
    have HS1 := Lib.hid s1
    clear hn hp hq nb hk kn F0 OP lr WE M3 s0 s1
    generalize holdh 0 (n : Int) = h1 at *
    generalize holdg 0 0 (n : Int) = g1 at *
    have a0 := RA3.cell 0 (by omega)
    have a1 := RA3.cell 1 (by omega)
    have af := RA3.free
    change _ = some (Value.int .u8 (p : Int)) at a0
    change _ = some (Value.int .u8 (q : Int)) at a1
    go_wp2_with fail
    with_reducible refine OPH.out.mono ?_
    rintro e w4 ⟨R4, rfl, M4, T4⟩
    have RA4 := RA3.keeps T4.keeps NZ.out
    have O4 := Lib.hid (O3.step T4)
    have HM4 := Lib.hid M4
    clear a0 a1 af RA3 O3 M4 T4 OPH NZ
    dsimp only
    have a0 := RA4.cell 0 (by omega)
    have a1 := RA4.cell 1 (by omega)
    change _ = some (Value.int .u8 (p : Int)) at a0
    change _ = some (Value.int .u8 (q : Int)) at a1
    go_wp2_with fail
    refine (WR.out R4 _ _ _ HM4.out).mono ?_
    rintro e w5 ⟨rfl, M5, T5⟩
    have H5 : HI w mb mm k x 0 1 w5 := ⟨_, R4, _, _, h1, g1, M5, O4.out.step T5, SH.out, by rw [List.length_set]; simp, by rw [HS0.out, HS1.out], by omega⟩
    clear a0 a1 RA4 O4 HM4 M5 T5 WR SH HS0 HS1 en cp cq mk mk' n0 wn np HP HQ
    dsimp only
    go_wp2_with fail
    go_loopw [12, 13, 14] (fun c12 c13 _ wr => ∃ i want : Nat, i ≤ F.length ∧ c13 = .int .i64 (i : Int) ∧ c12 = .int .u64 (want : Int) ∧ HI w mb mm k x i want wr) (fun _ c13 _ _ => F.length - (intOf c13).toNat)
    case atStart => exact ⟨0, 1, by omega, rfl, rfl, H5⟩
    case round =>
      clear H5
      obtain ⟨i, want, hi, rfl, rfl, H⟩ := hrel
      have hl := HL.out
      have i60 : i ≤ 60 := by omega
      have bdw : want ≤ 600000000 := by
        obtain ⟨_, _, _, _, _, _, _, _, _, _, _, bd⟩ := H
        omega
      have HH := Lib.hid H
      clear H
      by_cases hlt : i < F.length
      · obtain ⟨gl, off, rfl, hg, hc⟩ := HV.out.resolve_left (by omega)
        obtain ⟨o, hx⟩ : ∃ o, F[i]? = some o := ⟨_, List.getElem?_eq_getElem hlt⟩
        have ok := HM.out o (List.mem_of_getElem? hx)
        obtain ⟨k0, a1, b1, c1, d1, n1, y⟩ := o
        have oba := ok.b.2
        have obd := ok.d.2
        obtain ⟨e0, e1, e2, e3, e4, e5, e6⟩ := (hc i _ hx).below HH.out.own hg
        have i0 : (0 : Int) ≤ (i : Int) := by omega
        have i1 : (i : Int) < (F.length : Int) := by omega
        have RO : Row (wr.alloc (.cells #[.int .i64 k0, .int .i64 a1, .int .i64 b1, .int .i64 c1, .int .i64 d1, .int .i64 n1, .int .u64 (y : Int)] 39)) wr.heap.size 7 (oc k0 a1 b1 c1 d1 n1 y) := Row.newAt wr _ _ wr.heap.size 7 _ rfl (oc_new k0 a1 b1 c1 d1 n1 y)
        have BO := bAlloc (Below.refl wr.heap.size wr) (.cells #[.int .i64 k0, .int .i64 a1, .int .i64 b1, .int .i64 c1, .int .i64 d1, .int .i64 n1, .int .u64 (y : Int)] 39)
        have HBo := Lib.hid (HH.out.hb BO)
        clear hc hx ok BO HH
        go_upto_region 16 with fail
        generalize wr.alloc (.cells #[.int .i64 k0, .int .i64 a1, .int .i64 b1, .int .i64 c1, .int .i64 d1, .int .i64 n1, .int .u64 (y : Int)] 39) = w5 at *
        clear e0 e1 e2 e3 e4 e5 e6
        obtain ⟨o0, o1, o2, o3, o4, o5, o6⟩ := oc_all RO
        by_cases q0 : k0 = 0
        · subst q0
          have CA := Lib.hid (h_open w mb mm k x i want w5 _ HBo.out i60 n1)
          go_wp2_with fail
          with_reducible refine CA.out.mono ?_
          rintro e w6 ⟨⟨p9, c9, rfl⟩, H6⟩
          dsimp only
          go_wp2_with fail
          go_roundw
          case rel => exact ⟨i + 1, want, by omega, by go_num, rfl, H6⟩
          case measure => simp [intOf]; try omega
        have g0 : (k0 == 0) = false := by simp [q0]
        by_cases q1 : k0 = 1
        · subst q1
          by_cases ha : a1 = 0
          · subst ha
            go_wp2_with fail
            go_roundw
            case rel => exact ⟨i + 1, want, by omega, by go_num, rfl, (HBo.out.hi).more⟩
            case measure => simp [intOf]; try omega
          · have ga : (a1 == 0) = false := by simp [ha]
            have CA := Lib.hid (h_close w mb mm k x i want w5 _ HBo.out a1 ha)
            go_wp2_with fail
            with_reducible refine CA.out.mono ?_
            rintro e w6 ⟨⟨c9, rfl⟩, H6⟩
            dsimp only
            go_wp2_with fail
            go_roundw
            case rel => exact ⟨i + 1, want, by omega, by go_num, rfl, H6⟩
            case measure => simp [intOf]; try omega
        have g1 : (k0 == 1) = false := by simp [q1]
        by_cases q2 : k0 = 2
        · subst q2
          have CA := Lib.hid (h_grow w mb mm k x i want w5 _ HBo.out a1 n1)
          go_wp2_with fail
          with_reducible refine CA.out.mono ?_
          rintro e w6 ⟨⟨c9, rfl⟩, H6⟩
          dsimp only
          go_wp2_with fail
          go_roundw
          case rel => exact ⟨i + 1, want, by omega, by go_num, rfl, H6⟩
          case measure => simp [intOf]; try omega
        have g2 : (k0 == 2) = false := by simp [q2]
        by_cases q4 : k0 = 4
        · subst q4
          obtain ⟨want', hw'⟩ : ∃ want', want' = want + 1 := ⟨_, rfl⟩
          have ew : (want : Int) + 1 = (want' : Int) := by omega
          have we := wrapu_le want' (by omega)
          have HW := Lib.hid hw'
          clear hw' bdw
          by_cases ha : a1 = 0
          · subst ha
            by_cases hb : b1 = (k : Int)
            · subst hb
              go_wp2_with fail
              go_roundw
              case rel => exact ⟨i + 1, want, by omega, by go_num, rfl, (HBo.out.hi).more⟩
              case measure => simp [intOf]; try omega
            · have gb : (b1 == (k : Int)) = false := by simp [hb]
              have CA := Lib.hid (h_write w mb mm k x i want w5 _ HBo.out i60 0 b1 y oba (.inr hb))
              go_wp2_with fail
              with_reducible refine CA.out.mono ?_
              rintro e w6 ⟨c9, rfl, H6⟩
              dsimp only
              rcases H6 with ⟨hc9, H6⟩ | ⟨hc9, H6⟩
              · have H7 := Lib.hid H6
                clear H6
                go_wp2_with fail
                go_roundw
                case rel => exact ⟨i + 1, want', by omega, by go_num, by first | rfl | (rw [we]), by rw [HW.out]; exact H7.out⟩
                case measure => simp [intOf]; try omega
              · have H7 := Lib.hid H6
                clear H6
                go_wp2_with fail
                go_roundw
                case rel => exact ⟨i + 1, want, by omega, by go_num, rfl, H7.out⟩
                case measure => simp [intOf]; try omega
          · have ga : (a1 == 0) = false := by simp [ha]
            have CA := Lib.hid (h_write w mb mm k x i want w5 _ HBo.out i60 a1 b1 y oba (.inl ha))
            go_wp2_with fail
            with_reducible refine CA.out.mono ?_
            rintro e w6 ⟨c9, rfl, H6⟩
            dsimp only
            rcases H6 with ⟨hc9, H6⟩ | ⟨hc9, H6⟩
            · have H7 := Lib.hid H6
              clear H6
              go_wp2_with fail
              go_roundw
              case rel => exact ⟨i + 1, want', by omega, by go_num, by first | rfl | (rw [we]), by rw [HW.out]; exact H7.out⟩
              case measure => simp [intOf]; try omega
            · have H7 := Lib.hid H6
              clear H6
              go_wp2_with fail
              go_roundw
              case rel => exact ⟨i + 1, want, by omega, by go_num, rfl, H7.out⟩
              case measure => simp [intOf]; try omega
        have g4 : (k0 == 4) = false := by simp [q4]
        by_cases q5 : k0 = 5
        · subst q5
          by_cases ha : a1 = 0
          · subst ha
            go_wp2_with fail
            go_roundw
            case rel => exact ⟨i + 1, want, by omega, by go_num, rfl, (HBo.out.hi).more⟩
            case measure => simp [intOf]; try omega
          · have ga : (a1 == 0) = false := by simp [ha]
            have CA := Lib.hid (h_zero w mb mm k x i want w5 _ HBo.out i60 a1 b1 n1 oba ha)
            go_wp2_with fail
            with_reducible refine CA.out.mono ?_
            rintro e w6 ⟨c9, rfl, ST6, H6⟩
            dsimp only
            rcases H6 with ⟨hc9, t, ht, ht2, H6⟩ | ⟨hc9, H6⟩
            · subst ht
              have H7 := Lib.hid H6
              obtain ⟨u0, u1, u2, u3, u4, u5, u6⟩ := oc_all (ST6 _ _ _ (Nat.le_refl _) RO)
              obtain ⟨want', hw'⟩ : ∃ want', want' = want + t := ⟨_, rfl⟩
              have ew : (want : Int) + (t : Int) = (want' : Int) := by omega
              have wt := wrapu_le t (by omega)
              have we := wrapu_le want' (by omega)
              have HW := Lib.hid hw'
              clear hw' bdw H6 ht2
              go_wp2_with fail
              go_roundw
              case rel => exact ⟨i + 1, want', by omega, by go_num, by first | rfl | (rw [we]), by rw [HW.out]; exact H7.out⟩
              case measure => simp [intOf]; try omega
            · have H7 := Lib.hid H6
              clear H6
              go_wp2_with fail
              go_roundw
              case rel => exact ⟨i + 1, want, by omega, by go_num, rfl, H7.out⟩
              case measure => simp [intOf]; try omega
        have g5 : (k0 == 5) = false := by simp [q5]
        by_cases q6 : k0 = 6
        · subst q6
          by_cases ha : c1 = 0
          · subst ha
            go_wp2_with fail
            go_roundw
            case rel => exact ⟨i + 1, want, by omega, by go_num, rfl, (HBo.out.hi).more⟩
            case measure => simp [intOf]; try omega
          · have ga : (c1 == 0) = false := by simp [ha]
            have CA := Lib.hid (h_copy w mb mm k x i want w5 _ HBo.out i60 a1 b1 c1 d1 n1 oba obd ha)
            go_wp2_with fail
            with_reducible refine CA.out.mono ?_
            rintro e w6 ⟨c9, rfl, ST6, H6⟩
            dsimp only
            rcases H6 with ⟨hc9, t, ht, ht2, H6⟩ | ⟨hc9, H6⟩
            · subst ht
              have H7 := Lib.hid H6
              obtain ⟨u0, u1, u2, u3, u4, u5, u6⟩ := oc_all (ST6 _ _ _ (Nat.le_refl _) RO)
              obtain ⟨want', hw'⟩ : ∃ want', want' = want + 2 * t := ⟨_, rfl⟩
              obtain ⟨t2, ht3⟩ : ∃ t2, t2 = 2 * t := ⟨_, rfl⟩
              have et : 2 * (t : Int) = (t2 : Int) := by omega
              have ew : (want : Int) + (t2 : Int) = (want' : Int) := by omega
              have wt2 := wrapu_le t2 (by omega)
              clear ht3
              have wt := wrapu_le t (by omega)
              have we := wrapu_le want' (by omega)
              have HW := Lib.hid hw'
              clear hw' bdw H6 ht2
              go_wp2_with fail
              go_roundw
              case rel => exact ⟨i + 1, want', by omega, by go_num, by first | rfl | (rw [we]), by rw [HW.out]; exact H7.out⟩
              case measure => simp [intOf]; try omega
            · have H7 := Lib.hid H6
              clear H6
              go_wp2_with fail
              go_roundw
              case rel => exact ⟨i + 1, want, by omega, by go_num, rfl, H7.out⟩
              case measure => simp [intOf]; try omega
        have g6 : (k0 == 6) = false := by simp [q6]
        go_wp2_with fail
        go_roundw
        case rel => exact ⟨i + 1, want, by omega, by go_num, rfl, (HBo.out.hi).more⟩
        case measure => simp [intOf]; try omega
      · have eil : i = F.length := by omega
        obtain ⟨L, R, a, b, h, g, M, O, hd, ln, cnt, bd⟩ := HH.out
        obtain ⟨h0, h1', h2, h3⟩ := hd
        have hI : isv L ((0 : Nat) : Int) = true := isv_t h0 h1'
        have WE : wrongv L ((0 : Nat) : Int) (k : Int) 1 = 0 := by
          unfold wrongv
          rw [if_neg (by rw [hI]; simp), Int.toNat_natCast, if_neg (by omega)]
        have sa : stepv 0 0 1 a = a + 1 := by
          have := stepv_add (q := 0) (y := a) (t := 1) (by omega)
          rw [show ((1 : Nat) : Int) = 1 from rfl] at this; exact this
        have sb : stepv 1 0 1 b = b := stepv_same 1 (by decide)
        have RD := mread_ok mb mm R L a b h g wr M 0 k h0 h2 hI WE
        rw [h3, sa, sb] at RD
        have RDH := Lib.hid RD
        obtain ⟨want', hw'⟩ : ∃ want', want' = want + 1 := ⟨_, rfl⟩
        have ew : (want : Int) + 1 = (want' : Int) := by omega
        have we := wrapu_le want' (by omega)
        have ST := fun w' r => steps_any mm (a + 1) b h g (by unfold N128; omega) (by unfold N128; omega) w' r
        rw [show addv (a + 1) b = want' by rw [addv_t (by unfold N128; omega)]; omega, show wv want' = .agg #[.int .u64 0, .int .u64 (want' : Int)] by simp only [wv]; rw [hi_of_lt (by omega), lo_of_lt (by omega)]] at ST
        have STH := Lib.hid ST
        have HO := Lib.hid O
        clear M O h0 h1' h2 h3 ln cnt bd hI WE sa sb RD ST hw' bdw HH
        go_wp2_with fail
        refine RDH.out.mono ?_
        rintro e w6 ⟨rfl, M6, T6⟩
        have HO6 := Lib.hid (HO.out.step T6)
        obtain ⟨c0, met⟩ := M6.all
        clear M6 T6 HO RDH
        dsimp only
        go_wp2_with fail
        with_reducible refine (STH.out _ met).mono ?_
        rintro e w7 ⟨rfl, b7⟩
        dsimp only
        go_wp2_with fail
        go_ret
        exact ⟨rfl, (HO6.out.below b7).b⟩
end Go.Proofs.Ytgnpakpnocbhhaa
