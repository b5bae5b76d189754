/-
  A Mem in plain numbers: its spaces, its counters; its blocks by their roles. And what follows from it.
-/
import Derived.Test.YtppmicepkjhfeaaGreatLibD
import Derived.Test.YtppmicepkjhfeaaGreatLibC
import Derived.Test.YtppmicepkjhfeaaGreatLibA
import Derived.Laws.CopyRow
import Derived.Deep.RegionLaw
/-! ## A Mem in plain numbers: its spaces, its counters; its blocks by their roles. -/
namespace Go.Proofs.YtppmicepkjhfeaaGreat
open Go.RowKit
set_option linter.unusedVariables false

/-- is the number i that of a closed space? -/
def clo (L : List Spc) (i : Nat) : Bool := decide (i < L.length) && !(L.getD i (false, [])).1
/-- a space's words in memory -/
def WD (w : World) (R : Nat → Nat) (r : Nat) (u : Value) (x : Spc) : Prop :=
  (x.1 = false ∧ x.2 = [] ∧ u = .slice none 0 0) ∨ (x.1 = true ∧ ∃ g c, u = .slice (some ⟨g, 0, none⟩) x.2.length c ∧ x.2.length ≤ c ∧ c ≤ maxLen ∧ R g = r ∧ Row w g x.2.length (fun j => pw (x.2.getD j 0)) ∧ Cells w g 40 c)
/-- A Mem in memory: R tells a block's role: 1 its own cells, 2 the meter, 3 the spaces, 4 the numbers of closed ones, 5 + i the words of space i; 0: none of its. -/
structure MO (w : World) (R : Nat → Nat) (mb mm : Nat) (sv qv : Value) (U : Nat → Value) (Q : List Nat) (L : List Spc) (a b : Nat) (h g : Int) : Prop where
  hi : ∀ j, R j ≠ 0 → j < w.heap.size
  r1 : R mb = 1
  r2 : R mm = 2
  row : WRw w mb mm sv qv
  met : MRow w mm a b h g
  sp : ZQ w (fun j => R j = 3) 95 sv L.length U
  cl : ZQ w (fun j => R j = 4) 3 qv Q.length (nqv Q)
  wd : ∀ i, i < L.length → WD w R (5 + i) (U i) (L.getD i (false, []))
  hp : HeapN Q Q.length
  cq : ∀ x, Q.count x = if clo L x then 1 else 0
  ln : Q.length + countv L = L.length
  lc : L.length ≤ 262144
  lw : ∀ i, i < L.length → (wds L i).length ≤ 4194304
  na : N128 a
  nb : N128 b
  fit : Fit h g
def MM (w : World) (R : Nat → Nat) (mb mm : Nat) (L : List Spc) (a b : Nat) (h g : Int) : Prop := ∃ sv qv U Q, MO w R mb mm sv qv U Q L a b h g
/-- what a call does to the blocks: those that had no role are as they were -/
structure TR (R R' : Nat → Nat) (w w' : World) : Prop where
  keeps : Keeps (fun j => R j ≠ 0) w w'
  old : ∀ j, j < w.heap.size → R' j ≠ 0 → R j ≠ 0
theorem TR.refl (R : Nat → Nat) (w : World) : TR R R w w := ⟨Keeps.refl _ _, fun _ _ h => h⟩
theorem TR.of {R : Nat → Nat} {w w' : World} (h : Below w.heap.size w w') : TR R R w w' := ⟨Keeps.of h, fun _ _ h => h⟩
theorem TR.trans {R R' R'' : Nat → Nat} {a b c : World} (h : TR R R' a b) (k : TR R' R'' b c) : TR R R'' a c :=
  ⟨h.keeps.trans k.keeps h.old, fun j hj hn => h.old j hj (k.old j (Nat.lt_of_lt_of_le hj h.keeps.size) hn)⟩
theorem TR.bar {R : Nat → Nat} {w w' : World} {m : Nat} (h : Bar m w.heap.size w w') (hm : R m ≠ 0) : TR R R w w' := ⟨Keeps.bar h hm, fun _ _ h => h⟩
/-- all of it lies in blocks from B on -/
theorem TR.below {R R' : Nat → Nat} {w w' : World} {B : Nat} (h : TR R R' w w') (hB : B ≤ w.heap.size) (lo : ∀ j, R j ≠ 0 → B ≤ j) : Below B w w' := h.keeps.below hB lo
theorem TR.lo {R R' : Nat → Nat} {w w' : World} {B : Nat} (h : TR R R' w w') (hB : B ≤ w.heap.size) (lo : ∀ j, R j ≠ 0 → B ≤ j) : ∀ j, R' j ≠ 0 → B ≤ j := fun j hj => by
  by_cases c : j < w.heap.size
  · exact lo j (h.old j c hj)
  · omega
theorem ZQ.bar {w w' : World} {B : Nat → Prop} {t : TypeId} {v : Value} {n m : Nat} {f : Nat → Value} (h : ZQ w B t v n f) (k : Bar m w.heap.size w w') (hm : ¬ B m) : ZQ w' B t v n f := by
  rcases h with h | ⟨g, c, e, hc, hcm, hB, r, ce⟩
  · exact .inl h
  · have hg : g ≠ m := fun e => hm (e ▸ hB)
    refine .inr ⟨g, c, e, hc, hcm, hB, r.bar k hg, ?_⟩
    obtain ⟨cur, h1, h2⟩ := ce
    exact ⟨cur, (k.block g (Array.getElem?_eq_some_iff.1 h1).1 hg).trans h1, h2⟩
theorem Cells.keeps {F : Nat → Prop} {w w' : World} {g n : Nat} {t : TypeId} (h : Cells w g t n) (k : Keeps F w w') (hg : ¬ F g) : Cells w' g t n := by
  obtain ⟨cur, h1, h2⟩ := h
  exact ⟨cur, (k.block g (Array.getElem?_eq_some_iff.1 h1).1 hg).trans h1, h2⟩
theorem ZQ.keeps {F : Nat → Prop} {w w' : World} {B B' : Nat → Prop} {t : TypeId} {v : Value} {n : Nat} {f : Nat → Value} (h : ZQ w B t v n f) (k : Keeps F w w') (hm : ∀ j, j < w.heap.size → B j → ¬ F j) (hB' : ∀ j, j < w.heap.size → B j → B' j) : ZQ w' B' t v n f := by
  rcases h with h | ⟨g, c, e, hc, hcm, hB, r, ce⟩
  · exact .inl h
  · exact .inr ⟨g, c, e, hc, hcm, hB' g r.lt hB, r.keeps k (hm g r.lt hB), ce.keeps k (hm g r.lt hB)⟩
theorem WD.keeps {F : Nat → Prop} {w w' : World} {R R' : Nat → Nat} {r : Nat} {u : Value} {x : Spc} (h : WD w R r u x) (k : Keeps F w w') (hm : ∀ j, j < w.heap.size → R j = r → ¬ F j) (hB' : ∀ j, j < w.heap.size → R j = r → R' j = r) : WD w' R' r u x := by
  rcases h with h | ⟨ho, g, c, e, hc, hcm, hr, rr, ce⟩
  · exact .inl h
  · exact .inr ⟨ho, g, c, e, hc, hcm, hB' g rr.lt hr, rr.keeps k (hm g rr.lt hr), ce.keeps k (hm g rr.lt hr)⟩
theorem MO.below {w w' : World} {R : Nat → Nat} {mb mm : Nat} {sv qv : Value} {U : Nat → Value} {Q : List Nat} {L : List Spc} {a b : Nat} {h g : Int} (m : MO w R mb mm sv qv U Q L a b h g) (k : Below w.heap.size w w') : MO w' R mb mm sv qv U Q L a b h g :=
  ⟨fun j hj => Nat.lt_of_lt_of_le (m.hi j hj) k.size, m.r1, m.r2, m.row.below k, m.met.below k, m.sp.below k, m.cl.below k, fun i hi => (m.wd i hi).keeps (Keeps.of (F := fun _ => False) k) (fun _ _ _ h => h) (fun _ _ h => h), m.hp, m.cq, m.ln, m.lc, m.lw, m.na, m.nb, m.fit⟩
theorem MM.below {w w' : World} {R : Nat → Nat} {mb mm : Nat} {L : List Spc} {a b : Nat} {h g : Int} (m : MM w R mb mm L a b h g) (k : Below w.heap.size w w') : MM w' R mb mm L a b h g := by
  obtain ⟨sv, qv, U, Q, m⟩ := m
  exact ⟨sv, qv, U, Q, m.below k⟩
/-- the meter alone has turned -/
theorem MO.meter {w w' : World} {R : Nat → Nat} {mb mm : Nat} {sv qv : Value} {U : Nat → Value} {Q : List Nat} {L : List Spc} {a b a' b' : Nat} {h g h' g' : Int} (m : MO w R mb mm sv qv U Q L a b h g) (k : Bar mm w.heap.size w w') (r : MRow w' mm a' b' h' g') (na : N128 a') (nb : N128 b') (fit : Fit h' g') : MO w' R mb mm sv qv U Q L a' b' h' g' := by
  have e := m.r2
  have kk : Keeps (fun j => j = mm) w w' := Keeps.bar k rfl
  have ne : ∀ (n j : Nat), n ≠ 2 → R j = n → ¬ j = mm := fun n j hn hj q => by subst q; omega
  exact ⟨fun j hj => Nat.lt_of_lt_of_le (m.hi j hj) k.size, m.r1, m.r2, m.row.bar k (ne 1 mb (by omega) m.r1), r, m.sp.keeps kk (fun j _ h => ne 3 j (by omega) h) (fun _ _ h => h), m.cl.keeps kk (fun j _ h => ne 4 j (by omega) h) (fun _ _ h => h), fun i hi => (m.wd i hi).keeps kk (fun j _ h => ne _ j (by omega) h) (fun _ _ h => h), m.hp, m.cq, m.ln, m.lc, m.lw, na, nb, fit⟩
theorem countv_set (L : List Spc) (k : Nat) (x : Spc) (hk : k < L.length) : countv (L.set k x) + (if (L.getD k (false, [])).1 then 1 else 0) = countv L + (if x.1 then 1 else 0) := by
  induction L generalizing k with
  | nil => simp at hk
  | cons y l ih =>
    cases k with
    | zero =>
      simp only [List.set_cons_zero, List.getD_cons_zero]
      unfold countv; omega
    | succ k =>
      have e := ih k (by simpa using hk)
      simp only [List.set_cons_succ, List.getD_cons_succ]
      unfold countv; omega
theorem wds_set (L : List Spc) (k i : Nat) (x : Spc) (hk : k < L.length) : wds (L.set k x) i = if i = k then x.2 else wds L i := by
  unfold wds
  rw [getD_set L k i x hk]
  split <;> rfl
theorem clo_set (L : List Spc) (k i : Nat) (x : Spc) (hk : k < L.length) : clo (L.set k x) i = if i = k then !x.1 else clo L i := by
  unfold clo
  rw [getD_set L k i x hk, List.length_set]
  by_cases e : i = k
  · subst e; rw [if_pos rfl, if_pos rfl, decide_eq_true hk]; rfl
  · rw [if_neg e, if_neg e]
/-- the words of one open space have turned -/
theorem MO.words {w w' : World} {R : Nat → Nat} {mb mm : Nat} {sv qv : Value} {U : Nat → Value} {Q : List Nat} {L : List Spc} {a b : Nat} {h g : Int} (m : MO w R mb mm sv qv U Q L a b h g) {k gk ck : Nat} {ws : List Nat} (hk : k < L.length) (ho : (L.getD k (false, [])).1 = true) (hu : U k = .slice (some ⟨gk, 0, none⟩) ws.length ck) (hg : R gk = 5 + k) (bar : Bar gk w.heap.size w w')
    (hc : ws.length ≤ ck) (hcm : ck ≤ maxLen) (r : Row w' gk ws.length (fun j => pw (ws.getD j 0))) (ce : Cells w' gk 40 ck) (hl : ws.length ≤ 4194304) : MO w' R mb mm sv qv U Q (L.set k (true, ws)) a b h g := by
  have kk : Keeps (fun j => j = gk) w w' := Keeps.bar bar rfl
  have ne : ∀ (n j : Nat), n ≠ 5 + k → R j = n → ¬ j = gk := fun n j hn hj q => by subst q; omega
  refine ⟨fun j hj => Nat.lt_of_lt_of_le (m.hi j hj) bar.size, m.r1, m.r2, m.row.bar bar (ne 1 mb (by omega) m.r1), m.met.bar bar (ne 2 mm (by omega) m.r2), ?_, m.cl.keeps kk (fun j _ h => ne 4 j (by omega) h) (fun _ _ h => h), fun i hi => ?_, m.hp, fun x => ?_, ?_, by rw [List.length_set]; exact m.lc, fun i hi => ?_, m.na, m.nb, m.fit⟩
  · rw [List.length_set]; exact m.sp.keeps kk (fun j _ h => ne 3 j (by omega) h) (fun _ _ h => h)
  · rw [List.length_set] at hi
    rw [getD_set L k i _ hk]
    by_cases e : i = k
    · subst e; rw [if_pos rfl]; exact .inr ⟨rfl, gk, ck, hu, hc, hcm, hg, r, ce⟩
    · rw [if_neg e]; exact (m.wd i hi).keeps kk (fun j _ h => ne _ j (by omega) h) (fun _ _ h => h)
  · rw [clo_set L k x _ hk, m.cq x]
    by_cases e : x = k
    · subst e; rw [if_pos rfl]; unfold clo; rw [ho]; simp
    · rw [if_neg e]
  · have := countv_set L k (true, ws) hk
    rw [ho] at this
    have e := m.ln
    rw [List.length_set]
    simp at this; omega
  · rw [List.length_set] at hi
    rw [wds_set L k i _ hk]
    split
    · exact hl
    · exact m.lw i hi
/-- an open space -/
theorem MO.open_at {w : World} {R : Nat → Nat} {mb mm : Nat} {sv qv : Value} {U : Nat → Value} {Q : List Nat} {L : List Spc} {a b : Nat} {h g : Int} (m : MO w R mb mm sv qv U Q L a b h g) {k : Nat} (hk : k < L.length) (ho : (L.getD k (false, [])).1 = true) :
    ∃ sg sc gk ck, sv = .slice (some ⟨sg, 0, none⟩) L.length sc ∧ R sg = 3 ∧ Row w sg L.length U ∧ L.length ≤ sc ∧ sc ≤ maxLen ∧ Cells w sg 95 sc ∧ U k = .slice (some ⟨gk, 0, none⟩) (wds L k).length ck ∧ R gk = 5 + k ∧ Row w gk (wds L k).length (fun j => pw ((wds L k).getD j 0)) ∧ (wds L k).length ≤ ck ∧ ck ≤ maxLen ∧ Cells w gk 40 ck := by
  rcases m.sp with ⟨_, e⟩ | ⟨sg, sc, e, h1, h2, h3, h4, h5⟩
  · omega
  · rcases m.wd k hk with ⟨e0, _⟩ | ⟨_, gk, ck, eu, hc, hcm, hr, r, ce⟩
    · rw [ho] at e0; cases e0
    · exact ⟨sg, sc, gk, ck, e, h3, h4, h1, h2, h5, eu, hr, r, hc, hcm, ce⟩
attribute [irreducible] clo
end Go.Proofs.YtppmicepkjhfeaaGreat
/-! ## Package mem: New, Spaces, words, has, Size, Read. -/
namespace Go.Proofs.YtppmicepkjhfeaaGreat
open Go.RowKit
set_option linter.unusedVariables false

theorem mc_zero (j : Nat) (hj : j < 6) : (#[Value.int .i64 0, .int .i64 0, .int .u64 0, .int .u64 0, .int .u64 0, .int .u64 0] : Array Value)[j]? = some (mc 0 0 0 0 j) := by
  have h := mc_new 0 0 0 0 j hj
  rw [hi_0, lo_0] at h
  exact h
theorem mnew_any (w : World) : Calls Tryz.prog 18 #[] w fun e w' => ∃ mb mm R, e = .returned (at0 mb) ∧ MM w' R mb mm [] 0 0 0 0 ∧ (∀ j, R j ≠ 0 → w.heap.size ≤ j) ∧ Below w.heap.size w w' := by
  go_enter Tryz.func18, Tryz.ntmps18
  go_wp2_with fail
  with_reducible refine (new_any w).mono ?_
  rintro e w1 ⟨rfl, rfl⟩
  dsimp only
  go_wp2_with fail
  go_ret
  have MR : MRow (w.alloc (.cells #[.int .i64 0, .int .i64 0, .int .u64 0, .int .u64 0, .int .u64 0, .int .u64 0] 135)) w.heap.size 0 0 0 0 := Row.newAt w _ _ _ 6 _ rfl mc_zero
  refine ⟨w.heap.size + 1, w.heap.size, fun j => if j = w.heap.size + 1 then 1 else if j = w.heap.size then 2 else 0, by simp, ⟨.slice none 0 0, .slice none 0 0, fun _ => .slice none 0 0, [], ?_⟩, ?_, (by repeat (first | exact Below.refl _ _ | (with_reducible assumption) | refine bAlloc ?_ _ | refine below_drewN ?_ _ | refine Below.drew ?_ | (refine bSet ?_ (by first | (dsimp only; omega) | (simp; done) | (simp; omega)) _) | refine bTrans ?_ (by assumption)))⟩
  · refine ⟨fun j hj => ?_, by simp, by simp, ?_, MR.alloc _, .inl ⟨rfl, rfl⟩, .inl ⟨rfl, rfl⟩, fun i hi => by simp at hi, fun k _ hk => by simp at hk, fun x => by unfold clo; simp, by unfold countv; rfl, by simp, fun i hi => by simp at hi, N128_0, N128_0, by unfold Fit; omega⟩
    · have hj : (if j = w.heap.size + 1 then 1 else if j = w.heap.size then 2 else 0) ≠ 0 := hj
      by_cases e : j = w.heap.size + 1
      · subst e; simp
      · rw [if_neg e] at hj
        by_cases e2 : j = w.heap.size
        · subst e2; simp; omega
        · rw [if_neg e2] at hj; exact absurd rfl hj
    · exact Row.newAt _ _ _ (w.heap.size + 1) 3 _ (by simp) (fun j hj => by rcases three hj with rfl | rfl | rfl <;> rfl)
  · intro j hj
    have hj : (if j = w.heap.size + 1 then 1 else if j = w.heap.size then 2 else 0) ≠ 0 := hj
    by_cases e : j = w.heap.size + 1
    · omega
    · rw [if_neg e] at hj
      by_cases e2 : j = w.heap.size
      · omega
      · rw [if_neg e2] at hj; exact absurd rfl hj

theorem ZQ.slice {w : World} {B : Nat → Prop} {t : TypeId} {v : Value} {n : Nat} {f : Nat → Value} (h : ZQ w B t v n f) : ∃ a c, v = .slice a n c := by
  rcases h with ⟨e, rfl⟩ | ⟨g, c, e, _⟩
  · exact ⟨_, _, e⟩
  · exact ⟨_, _, e⟩
theorem mspaces_any (mb mm : Nat) (R : Nat → Nat) (L : List Spc) (a b : Nat) (h g : Int) (w : World) (hm : MM w R mb mm L a b h g) : Calls Tryz.prog 43 #[at0 mb] w fun e w' => e = .returned (.int .i64 ((countv L : Nat) : Int)) ∧ Below w.heap.size w w' := by
  obtain ⟨sv, qv, U, Q, m⟩ := hm
  obtain ⟨m0, m1, m2, mf, ml⟩ := m.row.all
  obtain ⟨sa, sc, rfl⟩ := m.sp.slice
  obtain ⟨qa, qc, rfl⟩ := m.cl.slice
  have ln := m.ln
  have lc := m.lc
  have e0 : (L.length : Int) - (Q.length : Int) = (countv L : Nat) := by omega
  have w0 : wrap64 ((countv L : Nat) : Int) = (countv L : Nat) := by unfold wrap64; omega
  clear m ln lc
  generalize countv L = n at *
  go_enter Tryz.func43, Tryz.ntmps43
  go_wp2_with fail
  go_quiet (fail)
  go_wp2_with fail
  go_ret
  exact ⟨by first | rfl | (rw [w0]; rfl), (by repeat (first | exact Below.refl _ _ | (with_reducible assumption) | refine bAlloc ?_ _ | refine below_drewN ?_ _ | refine Below.drew ?_ | (refine bSet ?_ (by first | (dsimp only; omega) | (simp; done) | (simp; omega)) _) | refine bTrans ?_ (by assumption)))⟩

theorem eql_nil (w : World) (a : Option Addr) (n c n' c' : Nat) : (binOp .eql 95 (.slice a n c) (.slice none n' c')).run Tryz.prog w = .ok (.bool a.isNone) w := Lib.run_eql_slice_nil w _ _ a n c n' c' Tryz.underlying95
set_option maxRecDepth 100000 in
theorem words_ok (mb mm : Nat) (R : Nat → Nat) (sv qv : Value) (U : Nat → Value) (Q : List Nat) (L : List Spc) (a b : Nat) (h g : Int) (w : World) (m : MO w R mb mm sv qv U Q L a b h g) (k : Nat) (hk : k < L.length) (ho : (L.getD k (false, [])).1 = true) :
    Calls Tryz.prog 73 #[at0 mb, .int .i64 (k : Int)] w fun e w' => e = .returned (.tuple #[U k, .int .i64 0]) ∧ w' = w := by
  obtain ⟨sg, sc, gk, ck, rfl, _, sr, _, _, _, eu, _, _, _, _, _⟩ := m.open_at hk ho
  obtain ⟨m0, m1, m2, mf, ml⟩ := m.row.all
  have c0 := sr.cell k hk
  rw [eu] at c0 ⊢
  have q0 := fun w a n c n' c' => eql_nil w a n c n' c'
  have i0 : (0 : Int) ≤ (k : Int) := by omega
  have i1 : (k : Int) < (L.length : Int) := by omega
  have i2 : ¬ L.length ≤ k := by omega
  clear m sr ho eu
  go_enter Tryz.func73, Tryz.ntmps73
  go_wp2_with fail
  exact bodyPost_ret (v := .tuple #[.slice (some ⟨gk, 0, none⟩) (wds L k).length ck, .int .i64 0]) (by simp [results, Tryz.results73, go_sem]) rfl ⟨rfl, rfl⟩
set_option maxRecDepth 100000 in
theorem words_no (mb mm : Nat) (R : Nat → Nat) (sv qv : Value) (U : Nat → Value) (Q : List Nat) (L : List Spc) (a b : Nat) (h g : Int) (w : World) (m : MO w R mb mm sv qv U Q L a b h g) (id : Int) (hE : isv L id = false) :
    Calls Tryz.prog 73 #[at0 mb, .int .i64 id] w fun e w' => e = .returned (.tuple #[.slice none 0 0, .int .i64 10]) ∧ w' = w := by
  obtain ⟨m0, m1, m2, mf, ml⟩ := m.row.all
  by_cases h0 : 0 ≤ id
  · obtain ⟨k, rfl⟩ := Int.eq_ofNat_of_zero_le h0
    by_cases h1 : k < L.length
    · have ho : (L.getD k (false, [])).1 = false := by
        cases q : (L.getD k (false, [])).1
        · rfl
        · rw [isv_t h1 q] at hE; cases hE
      have i2 : ¬ L.length ≤ k := by omega
      have i1 : (k : Int) < (L.length : Int) := by omega
      rcases m.sp with ⟨_, e⟩ | ⟨sg, sc, rfl, _, _, _, sr, _⟩
      · omega
      · rcases m.wd k h1 with ⟨_, _, eu⟩ | ⟨e, _⟩
        · have c0 := sr.cell k h1
          rw [eu] at c0
          have q0 := fun w a n c n' c' => eql_nil w a n c n' c'
          clear m sr ho eu hE
          go_enter Tryz.func73, Tryz.ntmps73
          go_wp2_with fail
          exact bodyPost_ret (v := .tuple #[.slice none 0 0, .int .i64 10]) (by simp [results, Tryz.results73, go_sem]) rfl ⟨rfl, rfl⟩
        · rw [ho] at e; cases e
    · have i2 : L.length ≤ k := by omega
      obtain ⟨sa, sc, rfl⟩ := m.sp.slice
      clear m hE
      go_enter Tryz.func73, Tryz.ntmps73
      go_wp2_with fail
      exact bodyPost_ret (v := .tuple #[.slice none 0 0, .int .i64 10]) (by simp [results, Tryz.results73, go_sem]) rfl ⟨rfl, rfl⟩
  · have h1 : id < 0 := by omega
    clear m hE h0
    go_enter Tryz.func73, Tryz.ntmps73
    go_wp2_with fail
    exact bodyPost_ret (v := .tuple #[.slice none 0 0, .int .i64 10]) (by simp [results, Tryz.results73, go_sem]) rfl ⟨rfl, rfl⟩

/-- are there n words from a on? -/
def hasv (l : Nat) (a n : Int) : Bool := decide (0 ≤ a ∧ 0 ≤ n ∧ n ≤ (l : Int) - a)
theorem has_any (u : Option Addr) (l c : Nat) (a n : Int) (hl : l ≤ 100000000) (ha : a ≤ 9223372036854775807) (w : World) : Calls Tryz.prog 74 #[.slice u l c, .int .i64 a, .int .i64 n] w fun e w' => e = .returned (.bool (hasv l a n)) ∧ w' = w := by
  unfold hasv
  by_cases h0 : 0 ≤ a
  · by_cases h1 : 0 ≤ n
    · have ew : wrap64 ((l : Int) - a) = (l : Int) - a := by unfold wrap64; omega
      have ed : decide (0 ≤ a ∧ 0 ≤ n ∧ n ≤ (l : Int) - a) = decide (n ≤ (l : Int) - a) := by simp [h0, h1]
      rw [ed]
      clear ed ha hl
      go_enter Tryz.func74, Tryz.ntmps74
      go_wp2_with fail
      go_ret
      exact ⟨rfl, rfl⟩
    · rw [decide_eq_false (fun q => h1 q.2.1)]
      clear ha hl
      go_enter Tryz.func74, Tryz.ntmps74
      go_wp2_with fail
      go_ret
      exact ⟨rfl, rfl⟩
  · rw [decide_eq_false (fun q => h0 q.1)]
    clear ha hl
    go_enter Tryz.func74, Tryz.ntmps74
    go_wp2_with fail
    go_ret
    exact ⟨rfl, rfl⟩
theorem hasv_t {L : List Spc} {k : Nat} {a n : Int} (hi : isv L (k : Int) = true) (h : wrongv L (k : Int) a n = 0) : hasv (wds L k).length a n = true := by
  unfold wrongv at h
  rw [if_neg (by rw [hi]; simp), Int.toNat_natCast] at h
  unfold hasv
  by_cases c : n < 0 ∨ a < 0 ∨ ((wds L k).length : Int) < n ∨ ((wds L k).length : Int) - n < a
  · rw [if_pos c] at h; omega
  · exact decide_eq_true ⟨by omega, by omega, by omega⟩
theorem hasv_f {L : List Spc} {k : Nat} {a n : Int} (hi : isv L (k : Int) = true) (h : ¬ wrongv L (k : Int) a n = 0) : hasv (wds L k).length a n = false ∧ wrongv L (k : Int) a n = 11 := by
  unfold wrongv at h ⊢
  rw [if_neg (by rw [hi]; simp), Int.toNat_natCast] at h ⊢
  unfold hasv
  by_cases c : n < 0 ∨ a < 0 ∨ ((wds L k).length : Int) < n ∨ ((wds L k).length : Int) - n < a
  · exact ⟨decide_eq_false (by omega), if_pos c⟩
  · rw [if_neg c] at h; exact absurd rfl h
theorem wrongv_no {L : List Spc} {id a n : Int} (hi : isv L id = false) : wrongv L id a n = 10 := by
  unfold wrongv; rw [if_pos hi]
attribute [irreducible] hasv
end Go.Proofs.YtppmicepkjhfeaaGreat
/-! ## clear and copy on a row of words, by what they do. -/
namespace Go.Proofs.YtppmicepkjhfeaaGreat
open Go.RowKit
set_option linter.unusedVariables false

theorem row_splice (w : World) (g n c o : Nat) (t : TypeId) (f : Nat → Value) (vs : List Value) (cur : Array Value) (hg : w.heap[g]? = some (.cells cur t (0, 0))) (hs : cur.size = c) (r : Row w g n f) (hn : n ≤ c) (ho : o + vs.length ≤ n) :
    Row (w.setRow g (cur.toList.take o ++ vs ++ cur.toList.drop (o + vs.length)).toArray) g n (fun j => if o ≤ j ∧ j < o + vs.length then vs.getD (j - o) (.int .u64 0) else f j) ∧ Cells (w.setRow g (cur.toList.take o ++ vs ++ cur.toList.drop (o + vs.length)).toArray) g t c ∧ Bar g w.heap.size w (w.setRow g (cur.toList.take o ++ vs ++ cur.toList.drop (o + vs.length)).toArray) := by
  have hb := setRow_heap w g cur (cur.toList.take o ++ vs ++ cur.toList.drop (o + vs.length)).toArray t (0, 0) hg
  refine ⟨⟨by simpa using r.lt, fun j hj => ?_, fun j => frozen_of_row _ g j _ _ hb⟩, ⟨_, hb, ?_⟩, ⟨rfl, rfl, rfl, by simp, fun k _ hk => ?_⟩⟩
  · rw [cell_of_row _ g j _ _ _ hb]
    have e := r.cell j hj
    rw [cell_of_row w g j _ _ _ hg] at e
    have hjc : j < cur.size := by omega
    have ec : cur.toList[j]? = some (f j) := by simpa using e
    rw [List.getElem?_toArray, List.append_assoc]
    by_cases h1 : j < o
    · rw [List.getElem?_append_left (by simp; omega), List.getElem?_take_of_lt h1, if_neg (by omega)]; exact ec
    · rw [List.getElem?_append_right (by simp; omega)]
      have l1 : (cur.toList.take o).length = o := by simp; omega
      rw [l1]
      by_cases h2 : j < o + vs.length
      · rw [List.getElem?_append_left (by omega), if_pos (by omega)]
        simp [List.getD, List.getElem?_eq_getElem (show j - o < vs.length by omega)]
      · rw [List.getElem?_append_right (by omega), if_neg (by omega), List.getElem?_drop, show o + vs.length + (j - o - vs.length) = j by omega]; exact ec
  · simp; omega
  · unfold World.setRow
    simp only [Array.getElem?_modify]
    rw [if_neg (fun e => hk e.symm)]
theorem wset_getD (ws : List Nat) (d : Nat) (f : Nat → Nat) (t : Nat) (h : d + t ≤ ws.length) (j : Nat) : (wset ws d f t).getD j 0 = if d ≤ j ∧ j < d + t then f (j - d) else ws.getD j 0 := by
  induction t with
  | zero => rw [if_neg (by omega)]; rfl
  | succ t ih =>
    show ((wset ws d f t).set (d + t) (f t)).getD j 0 = _
    by_cases e : j = d + t
    · subst e
      rw [if_pos (by omega), show d + t - d = t by omega]
      simp [List.getD, wset_len, show d + t < ws.length by omega]
    · have : ((wset ws d f t).set (d + t) (f t)).getD j 0 = (wset ws d f t).getD j 0 := by
        simp [List.getD, List.getElem?_set_ne (Ne.symm e)]
      rw [this, ih (by omega)]
      by_cases q : d ≤ j ∧ j < d + t
      · rw [if_pos q, if_pos (by omega)]
      · rw [if_neg q, if_neg (by omega)]
theorem words_splice (w : World) (g c o t : Nat) (ws : List Nat) (F : Nat → Nat) (cur : Array Value) (hg : w.heap[g]? = some (.cells cur 40 (0, 0))) (hs : cur.size = c) (r : Row w g ws.length (fun j => pw (ws.getD j 0))) (hn : ws.length ≤ c) (ho : o + t ≤ ws.length) (vs : List Value) (hv : vs = (List.range t).map (fun j => pw (F j))) :
    ∃ w', w.setRow g (cur.toList.take o ++ vs ++ cur.toList.drop (o + vs.length)).toArray = w' ∧ Row w' g ws.length (fun j => pw ((wset ws o F t).getD j 0)) ∧ Cells w' g 40 c ∧ Bar g w.heap.size w w' := by
  subst hv
  have ln : ((List.range t).map (fun j => pw (F j))).length = t := by simp
  obtain ⟨R, C, B⟩ := row_splice w g ws.length c o 40 _ ((List.range t).map (fun j => pw (F j))) cur hg hs r hn (by rw [ln]; exact ho)
  refine ⟨_, rfl, R.congr fun j hj => ?_, C, B⟩
  rw [wset_getD ws o F t ho j, ln]
  by_cases q : o ≤ j ∧ j < o + t
  · rw [if_pos q, if_pos q]
    simp [List.getD, show j - o < t by omega]
  · rw [if_neg q, if_neg q]
theorem clear_run (w : World) (g c o t cc : Nat) (ty : TypeId) (ws : List Nat) (ce : Cells w g 40 c) (r : Row w g ws.length (fun j => pw (ws.getD j 0))) (hn : ws.length ≤ c) (ho : o + t ≤ ws.length) :
    ∃ w', (Builtin.clear_ #[95] ty #[.slice (some ⟨g, o, none⟩) t cc]).run Tryz.prog w = .ok (.tuple #[]) w' ∧ Row w' g ws.length (fun j => pw ((wset ws o (fun _ => 0) t).getD j 0)) ∧ Cells w' g 40 c ∧ Bar g w.heap.size w w' := by
  by_cases h0 : t = 0
  · subst h0
    exact ⟨w, by simp [Builtin.clear_, run_underlying Tryz.underlying95], r, ce, Bar.refl _ _ _⟩
  · obtain ⟨cur, hg, hs⟩ := ce
    have e : (Builtin.zeroCells #[Value.int .u64 0] t).toList = (List.range t).map (fun j => pw 0) := by
      simp [Builtin.zeroCells]
      intro j hj
      simp [Nat.mod_one, pw]
    have ln : ((List.range t).map (fun _ : Nat => pw 0)).length = t := by simp
    have st := run_storeCells_at Tryz.prog g o 40 ((List.range t).map (fun _ => pw 0)) 0 cur w hg (by rw [ln]; omega) (fun v hv => by simp at hv; rw [← hv.2]; rfl)
    obtain ⟨w', h1, R, C, B⟩ := words_splice w g c o t ws (fun _ => 0) cur hg hs r hn ho _ rfl
    refine ⟨w', ?_, R, C, B⟩
    rw [Nat.add_zero, h1] at st
    obtain ⟨m, rfl⟩ : ∃ m, t = m + 1 := ⟨t - 1, by omega⟩
    have hz : ∀ w, (zeroValue 40).run Tryz.prog w = .ok (.int .u64 0) w := fun w => by kernel_rfl
    simp [Builtin.clear_, run_underlying Tryz.underlying95, hz, Value.cells, e, st]
theorem copy_run (w : World) (g c o t cc sc : Nat) (gf i : Nat) (ty : TypeId) (ws : List Nat) (F : Nat → Nat) (ce : Cells w g 40 c) (r : Row w g ws.length (fun j => pw (ws.getD j 0))) (hn : ws.length ≤ c) (ho : o + t ≤ ws.length) (src : ∀ j, j < t → w.cell? ⟨gf, i + j, none⟩ = some (pw (F j))) :
    ∃ w', (Builtin.copy_ #[95, 95] ty #[.slice (some ⟨g, o, none⟩) t cc, .slice (some ⟨gf, i, none⟩) t sc]).run Tryz.prog w = .ok (goInt t) w' ∧ Row w' g ws.length (fun j => pw ((wset ws o F t).getD j 0)) ∧ Cells w' g 40 c ∧ Bar g w.heap.size w w' := by
  obtain ⟨cur, hg, hs⟩ := ce
  have ln : ((List.range t).map (fun j => pw (F j))).length = t := by simp
  have e := run_copy_row (P := Tryz.prog) w 95 95 ty 40 g o t cc ⟨gf, i, none⟩ t sc cur 40 ((List.range t).map (fun j => pw (F j))) Tryz.underlying95 (by kernel_rfl) hg (by rw [ln]; simp) (fun j v hv => by
    have hj : j < t := by
      rcases Nat.lt_or_ge j t with h | h
      · exact h
      · rw [List.getElem?_eq_none (by rw [ln]; exact h)] at hv; cases hv
    simp [hj] at hv
    subst hv
    rw [add_at]; exact src j hj) (by rw [ln]; omega) (fun v hv => by
    simp at hv
    obtain ⟨j, _, rfl⟩ := hv
    rfl)
  obtain ⟨w', h1, R, C, B⟩ := words_splice w g c o t ws F cur hg hs r hn ho _ rfl
  exact ⟨w', by rw [e, h1, ln], R, C, B⟩
end Go.Proofs.YtppmicepkjhfeaaGreat
/-! ## Package mem: Size, Look, Read, Write. -/
namespace Go.Proofs.YtppmicepkjhfeaaGreat
open Go.RowKit
set_option linter.unusedVariables false

theorem isv_f {L : List Spc} {id : Int} (h : ¬ isv L id = true) : isv L id = false := by
  cases q : isv L id
  · rfl
  · exact absurd q h
theorem msize_ok (mb mm : Nat) (R : Nat → Nat) (L : List Spc) (a b : Nat) (h g : Int) (w : World) (hm : MM w R mb mm L a b h g) (k : Nat) (hk : k < L.length) (ho : (L.getD k (false, [])).1 = true) :
    Calls Tryz.prog 71 #[at0 mb, .int .i64 (k : Int)] w fun e w' => e = .returned (.tuple #[.int .i64 ((wds L k).length : Nat), .int .i64 0]) ∧ w' = w := by
  obtain ⟨sv, qv, U, Q, m⟩ := hm
  have WO := words_ok mb mm R sv qv U Q L a b h g w m k hk ho
  obtain ⟨sg, sc, gk, ck, rfl, _, sr, _, _, _, eu, _, _, _, _, _⟩ := m.open_at hk ho
  rw [eu] at WO
  have WH := Lib.hid WO
  clear m sr ho eu WO hk
  go_enter Tryz.func71, Tryz.ntmps71
  go_wp2_with fail
  with_reducible refine WH.out.mono ?_
  rintro e w1 ⟨rfl, rfl⟩
  dsimp only
  go_wp2_with fail
  exact bodyPost_ret (v := .tuple #[.int .i64 ((wds L k).length : Nat), .int .i64 0]) (by simp [results, Tryz.results71, go_sem]) rfl ⟨rfl, rfl⟩
theorem msize_no (mb mm : Nat) (R : Nat → Nat) (L : List Spc) (a b : Nat) (h g : Int) (w : World) (hm : MM w R mb mm L a b h g) (id : Int) (hE : isv L id = false) :
    Calls Tryz.prog 71 #[at0 mb, .int .i64 id] w fun e w' => e = .returned (.tuple #[.int .i64 0, .int .i64 10]) ∧ w' = w := by
  obtain ⟨sv, qv, U, Q, m⟩ := hm
  have WH := Lib.hid (words_no mb mm R sv qv U Q L a b h g w m id hE)
  clear m hE
  go_enter Tryz.func71, Tryz.ntmps71
  go_wp2_with fail
  with_reducible refine WH.out.mono ?_
  rintro e w1 ⟨rfl, rfl⟩
  dsimp only
  go_wp2_with fail
  exact bodyPost_ret (v := .tuple #[.int .i64 0, .int .i64 10]) (by simp [results, Tryz.results71, go_sem]) rfl ⟨rfl, rfl⟩

theorem mread_no (mb mm : Nat) (R : Nat → Nat) (L : List Spc) (a b : Nat) (h g : Int) (w : World) (hm : MM w R mb mm L a b h g) (id at' : Int) (hE : isv L id = false) :
    Calls Tryz.prog 67 #[at0 mb, .int .i64 id, .int .i64 at'] w fun e w' => e = .returned (.tuple #[.int .u64 0, .int .i64 10]) ∧ w' = w := by
  obtain ⟨sv, qv, U, Q, m⟩ := hm
  have WH := Lib.hid (words_no mb mm R sv qv U Q L a b h g w m id hE)
  clear m hE
  go_enter Tryz.func67, Tryz.ntmps67
  go_wp2_with fail
  with_reducible refine WH.out.mono ?_
  rintro e w1 ⟨rfl, rfl⟩
  dsimp only
  go_wp2_with fail
  exact bodyPost_ret (v := .tuple #[.int .u64 0, .int .i64 10]) (by simp [results, Tryz.results67, go_sem]) rfl ⟨rfl, rfl⟩
theorem mread_bad (mb mm : Nat) (R : Nat → Nat) (L : List Spc) (a b : Nat) (h g : Int) (w : World) (hm : MM w R mb mm L a b h g) (id at' : Int) (ha : at' ≤ 9223372036854775807) (hE : ¬ wrongv L id at' 1 = 0) :
    Calls Tryz.prog 67 #[at0 mb, .int .i64 id, .int .i64 at'] w fun e w' => e = .returned (.tuple #[.int .u64 0, .int .i64 (wrongv L id at' 1)]) ∧ w' = w := by
  by_cases hi : isv L id = true
  · obtain ⟨k, rfl, hk, ho⟩ := isv_of hi
    obtain ⟨hf, h11⟩ := hasv_f hi hE
    rw [h11]
    obtain ⟨sv, qv, U, Q, m⟩ := hm
    have WO := words_ok mb mm R sv qv U Q L a b h g w m k hk ho
    obtain ⟨sg, sc, gk, ck, rfl, _, sr, _, _, _, eu, _, _, _, _, _⟩ := m.open_at hk ho
    rw [eu] at WO
    have HA := has_any (some ⟨gk, 0, none⟩) (wds L k).length ck at' 1 (by have := m.lw k hk; omega) ha
    rw [hf] at HA
    have WH := Lib.hid WO
    have HH := Lib.hid HA
    clear m sr ho eu WO hk HA hf h11 hE hi ha
    go_enter Tryz.func67, Tryz.ntmps67
    go_wp2_with fail
    with_reducible refine WH.out.mono ?_
    rintro e w1 ⟨rfl, rfl⟩
    dsimp only
    go_wp2_with fail
    with_reducible refine (HH.out _).mono ?_
    rintro e w1 ⟨rfl, rfl⟩
    dsimp only
    go_wp2_with fail
    exact bodyPost_ret (v := .tuple #[.int .u64 0, .int .i64 11]) (by simp [results, Tryz.results67, go_sem]) rfl ⟨rfl, rfl⟩
  · rw [wrongv_no (isv_f hi)]
    exact mread_no mb mm R L a b h g w hm id at' (isv_f hi)
theorem stepv_01 (k : Int) (x : Nat) (n : Int) (h : ¬ k = 0) : stepv 0 k n x = x := stepv_n x (fun q => h q.1)
set_option maxRecDepth 100000 in
theorem mread_ok (mb mm : Nat) (R : Nat → Nat) (L : List Spc) (a b : Nat) (h g : Int) (w : World) (hm : MM w R mb mm L a b h g) (k i : Nat) (hk : k < L.length) (hi : i < (wds L k).length) (hI : isv L (k : Int) = true) (hE : wrongv L (k : Int) (i : Int) 1 = 0) :
    Calls Tryz.prog 67 #[at0 mb, .int .i64 (k : Int), .int .i64 (i : Int)] w fun e w' => e = .returned (.tuple #[.int .u64 (wat L k i : Nat), .int .i64 0]) ∧ MM w' R mb mm L (stepv 0 0 1 a) (stepv 1 0 1 b) h g ∧ TR R R w w' := by
  obtain ⟨_, ek, _, ho⟩ := isv_of hI
  obtain rfl := Int.ofNat.inj ek
  obtain ⟨sv, qv, U, Q, m⟩ := hm
  have WO := words_ok mb mm R sv qv U Q L a b h g w m k hk ho
  obtain ⟨sg, sc, gk, ck, rfl, _, sr, _, _, _, eu, hgk, kr, _, _, _⟩ := m.open_at hk ho
  rw [eu] at WO
  have lk := m.lw k hk
  have HA := has_any (some ⟨gk, 0, none⟩) (wds L k).length ck (i : Int) 1 (by omega) (by omega)
  rw [hasv_t hI hE] at HA
  have WH := Lib.hid WO
  have HH := Lib.hid HA
  have ST := Lib.hid (fun w' r => step_any mm a b h g 0 1 m.na m.nb (by omega) w' r)
  have NA := Lib.hid (stepv_N (q := 0) (k := 0) (n := 1) m.na)
  have NB := Lib.hid (stepv_N (q := 1) (k := 0) (n := 1) m.nb)
  have c0 := kr.cell i hi
  have MET := Lib.hid m.met
  have M := Lib.hid m
  have KR := Lib.hid kr
  have gne : gk ≠ mm := fun e => by have := m.r2; subst e; omega
  have tr := Lib.hid (show R mm ≠ 0 by rw [m.r2]; decide)
  obtain ⟨m0, m1, m2, mf, ml⟩ := m.row.all
  have i0 : (0 : Int) ≤ (i : Int) := by omega
  have i1 : (i : Int) < ((wds L k).length : Int) := by omega
  unfold pw at c0
  have EW := Lib.hid (show ((wds L k).getD i 0) = wat L k i by unfold wat; rfl)
  rw [EW.out] at c0
  clear m sr ho eu WO hk HA hE hI lk hgk kr ek
  generalize wat L k i = x at *
  generalize stepv 0 0 1 a = a' at *
  generalize stepv 1 0 1 b = b' at *
  go_enter Tryz.func67, Tryz.ntmps67
  go_wp2_with fail
  with_reducible refine WH.out.mono ?_
  rintro e w1 ⟨rfl, rfl⟩
  dsimp only
  go_wp2_with fail
  with_reducible refine (HH.out _).mono ?_
  rintro e w1 ⟨rfl, rfl⟩
  dsimp only
  go_wp2_with fail
  with_reducible refine (ST.out _ MET.out).mono ?_
  rintro e w2 ⟨rfl, R2, B2⟩
  dsimp only
  have c1 := bar_cell c0 B2 gne
  clear c0 m0 m1 m2 mf ml
  go_wp2_with fail
  exact bodyPost_ret (v := .tuple #[.int .u64 (x : Int), .int .i64 0]) (by simp [results, Tryz.results67, go_sem]) rfl ⟨rfl, ⟨_, _, _, _, M.out.meter B2 R2 NA.out NB.out M.out.fit⟩, TR.bar B2 tr.out⟩
end Go.Proofs.YtppmicepkjhfeaaGreat
/-! ## Package mem: Write, Zero. -/
namespace Go.Proofs.YtppmicepkjhfeaaGreat
open Go.RowKit
set_option linter.unusedVariables false

theorem mwrite_no (mb mm : Nat) (R : Nat → Nat) (L : List Spc) (a b : Nat) (h g : Int) (w : World) (hm : MM w R mb mm L a b h g) (id at' x : Int) (hE : isv L id = false) :
    Calls Tryz.prog 37 #[at0 mb, .int .i64 id, .int .i64 at', .int .u64 x] w fun e w' => e = .returned (.int .i64 10) ∧ w' = w := by
  obtain ⟨sv, qv, U, Q, m⟩ := hm
  have WH := Lib.hid (words_no mb mm R sv qv U Q L a b h g w m id hE)
  clear m hE
  go_enter Tryz.func37, Tryz.ntmps37
  go_wp2_with fail
  with_reducible refine WH.out.mono ?_
  rintro e w1 ⟨rfl, rfl⟩
  dsimp only
  go_wp2_with fail
  exact bodyPost_ret (v := .int .i64 10) (by simp [results, Tryz.results37, go_sem]) rfl ⟨rfl, rfl⟩
theorem mwrite_bad (mb mm : Nat) (R : Nat → Nat) (L : List Spc) (a b : Nat) (h g : Int) (w : World) (hm : MM w R mb mm L a b h g) (id at' x : Int) (ha : at' ≤ 9223372036854775807) (hE : ¬ wrongv L id at' 1 = 0) :
    Calls Tryz.prog 37 #[at0 mb, .int .i64 id, .int .i64 at', .int .u64 x] w fun e w' => e = .returned (.int .i64 (wrongv L id at' 1)) ∧ w' = w := by
  by_cases hi : isv L id = true
  · obtain ⟨k, rfl, hk, ho⟩ := isv_of hi
    obtain ⟨hf, h11⟩ := hasv_f hi hE
    rw [h11]
    obtain ⟨sv, qv, U, Q, m⟩ := hm
    have WO := words_ok mb mm R sv qv U Q L a b h g w m k hk ho
    obtain ⟨sg, sc, gk, ck, rfl, _, sr, _, _, _, eu, _, _, _, _, _⟩ := m.open_at hk ho
    rw [eu] at WO
    have HA := has_any (some ⟨gk, 0, none⟩) (wds L k).length ck at' 1 (by have := m.lw k hk; omega) ha
    rw [hf] at HA
    have WH := Lib.hid WO
    have HH := Lib.hid HA
    clear m sr ho eu WO hk HA hf h11 hE hi ha
    go_enter Tryz.func37, Tryz.ntmps37
    go_wp2_with fail
    with_reducible refine WH.out.mono ?_
    rintro e w1 ⟨rfl, rfl⟩
    dsimp only
    go_wp2_with fail
    with_reducible refine (HH.out _).mono ?_
    rintro e w1 ⟨rfl, rfl⟩
    dsimp only
    go_wp2_with fail
    exact bodyPost_ret (v := .int .i64 11) (by simp [results, Tryz.results37, go_sem]) rfl ⟨rfl, rfl⟩
  · rw [wrongv_no (isv_f hi)]
    exact mwrite_no mb mm R L a b h g w hm id at' x (isv_f hi)
theorem mzero_no (mb mm : Nat) (R : Nat → Nat) (L : List Spc) (a b : Nat) (h g : Int) (w : World) (hm : MM w R mb mm L a b h g) (id at' n : Int) (hE : isv L id = false) :
    Calls Tryz.prog 38 #[at0 mb, .int .i64 id, .int .i64 at', .int .i64 n] w fun e w' => e = .returned (.int .i64 10) ∧ w' = w := by
  obtain ⟨sv, qv, U, Q, m⟩ := hm
  have WH := Lib.hid (words_no mb mm R sv qv U Q L a b h g w m id hE)
  clear m hE
  go_enter Tryz.func38, Tryz.ntmps38
  go_wp2_with fail
  with_reducible refine WH.out.mono ?_
  rintro e w1 ⟨rfl, rfl⟩
  dsimp only
  go_wp2_with fail
  exact bodyPost_ret (v := .int .i64 10) (by simp [results, Tryz.results38, go_sem]) rfl ⟨rfl, rfl⟩
theorem mzero_bad (mb mm : Nat) (R : Nat → Nat) (L : List Spc) (a b : Nat) (h g : Int) (w : World) (hm : MM w R mb mm L a b h g) (id at' n : Int) (ha : at' ≤ 9223372036854775807) (hE : ¬ wrongv L id at' n = 0) :
    Calls Tryz.prog 38 #[at0 mb, .int .i64 id, .int .i64 at', .int .i64 n] w fun e w' => e = .returned (.int .i64 (wrongv L id at' n)) ∧ w' = w := by
  by_cases hi : isv L id = true
  · obtain ⟨k, rfl, hk, ho⟩ := isv_of hi
    obtain ⟨hf, h11⟩ := hasv_f hi hE
    rw [h11]
    obtain ⟨sv, qv, U, Q, m⟩ := hm
    have WO := words_ok mb mm R sv qv U Q L a b h g w m k hk ho
    obtain ⟨sg, sc, gk, ck, rfl, _, sr, _, _, _, eu, _, _, _, _, _⟩ := m.open_at hk ho
    rw [eu] at WO
    have HA := has_any (some ⟨gk, 0, none⟩) (wds L k).length ck at' n (by have := m.lw k hk; omega) ha
    rw [hf] at HA
    have WH := Lib.hid WO
    have HH := Lib.hid HA
    clear m sr ho eu WO hk HA hf h11 hE hi ha
    go_enter Tryz.func38, Tryz.ntmps38
    go_wp2_with fail
    with_reducible refine WH.out.mono ?_
    rintro e w1 ⟨rfl, rfl⟩
    dsimp only
    go_wp2_with fail
    with_reducible refine (HH.out _).mono ?_
    rintro e w1 ⟨rfl, rfl⟩
    dsimp only
    go_wp2_with fail
    exact bodyPost_ret (v := .int .i64 11) (by simp [results, Tryz.results38, go_sem]) rfl ⟨rfl, rfl⟩
  · rw [wrongv_no (isv_f hi)]
    exact mzero_no mb mm R L a b h g w hm id at' n (isv_f hi)
theorem set_len (ws : List Nat) (i x : Nat) : (ws.set i x).length = ws.length := List.length_set
theorem words_set (w : World) (g c i x : Nat) (ws : List Nat) (r : Row w g ws.length (fun j => pw (ws.getD j 0))) (hi : i < ws.length) : Row (w.setCell ⟨g, i, none⟩ (.int .u64 (x : Int))) g ws.length (fun j => pw ((ws.set i x).getD j 0)) := by
  refine (r.set i hi _).congr fun j hj => ?_
  by_cases e : j = i
  · subst e; rw [if_pos rfl]; simp [List.getD, hj, pw]
  · rw [if_neg e]; simp [List.getD, List.getElem?_set_ne (Ne.symm e)]
set_option maxRecDepth 100000 in
theorem mwrite_ok (mb mm : Nat) (R : Nat → Nat) (L : List Spc) (a b : Nat) (h g : Int) (w : World) (hm : MM w R mb mm L a b h g) (k i x : Nat) (hk : k < L.length) (hi : i < (wds L k).length) (hI : isv L (k : Int) = true) (hE : wrongv L (k : Int) (i : Int) 1 = 0) :
    Calls Tryz.prog 37 #[at0 mb, .int .i64 (k : Int), .int .i64 (i : Int), .int .u64 (x : Int)] w fun e w' => e = .returned (.int .i64 0) ∧ MM w' R mb mm (L.set k ((L.getD k (false, [])).1, (wds L k).set i x)) (stepv 0 1 1 a) (stepv 1 1 1 b) h g ∧ TR R R w w' := by
  obtain ⟨_, ek, _, ho⟩ := isv_of hI
  obtain rfl := Int.ofNat.inj ek
  obtain ⟨sv, qv, U, Q, m⟩ := hm
  have WO := words_ok mb mm R sv qv U Q L a b h g w m k hk ho
  obtain ⟨sg, sc, gk, ck, rfl, _, sr, _, _, _, eu, hgk, kr, hc, hcm, ce⟩ := m.open_at hk ho
  rw [eu] at WO
  have lk := m.lw k hk
  have HA := has_any (some ⟨gk, 0, none⟩) (wds L k).length ck (i : Int) 1 (by omega) (by omega)
  rw [hasv_t hI hE] at HA
  have WH := Lib.hid WO
  have HH := Lib.hid HA
  have ST := Lib.hid (fun w' r => step_any mm a b h g 1 1 m.na m.nb (by omega) w' r)
  have NA := Lib.hid (stepv_N (q := 0) (k := 1) (n := 1) m.na)
  have NB := Lib.hid (stepv_N (q := 1) (k := 1) (n := 1) m.nb)
  have c0 := kr.cell i hi
  have cf := kr.free i
  have b1 : Bar gk w.heap.size w (w.setCell ⟨gk, i, none⟩ (.int .u64 (x : Int))) := (Bar.refl _ _ _).set i _
  have M1 := m.words (ws := (wds L k).set i x) hk ho (by rw [set_len]; exact eu) hgk b1 (by rw [set_len]; exact hc) hcm (by rw [set_len]; exact words_set w gk ck i x _ kr hi) (ce.set gk i _) (by rw [set_len]; exact lk)
  rw [← ho] at M1
  have tr1 : TR R R w (w.setCell ⟨gk, i, none⟩ (.int .u64 (x : Int))) := TR.bar b1 (by omega)
  have M := Lib.hid M1
  have T1 := Lib.hid tr1
  have tr := Lib.hid (show R mm ≠ 0 by rw [m.r2]; decide)
  obtain ⟨m0, m1, m2, mf, ml⟩ := M1.row.all
  have i0 : (0 : Int) ≤ (i : Int) := by omega
  have i1 : (i : Int) < ((wds L k).length : Int) := by omega
  unfold pw at c0
  clear m sr ho eu WO hk HA hE hI lk hgk kr ek ce M1 tr1 b1 hc hcm
  generalize stepv 0 1 1 a = a' at *
  generalize stepv 1 1 1 b = b' at *
  go_enter Tryz.func37, Tryz.ntmps37
  go_wp2_with fail
  with_reducible refine WH.out.mono ?_
  rintro e w1 ⟨rfl, rfl⟩
  dsimp only
  go_wp2_with fail
  with_reducible refine (HH.out _).mono ?_
  rintro e w1 ⟨rfl, rfl⟩
  dsimp only
  go_wp2_with fail
  with_reducible refine (ST.out _ M.out.met).mono ?_
  rintro e w2 ⟨rfl, R2, B2⟩
  dsimp only
  clear c0 m0 m1 m2 mf ml
  go_wp2_with fail
  exact bodyPost_ret (v := .int .i64 0) (by simp [results, Tryz.results37, go_sem]) rfl ⟨rfl, ⟨_, _, _, _, M.out.meter B2 R2 NA.out NB.out M.out.fit⟩, T1.out.trans (TR.bar B2 tr.out)⟩

/-! ### parts of a slice -/
theorem slice_lh (b n cap l t s : Nat) (hs : l + t = s) (h : s ≤ cap) (w : World) : (Instr.slice 95 (.slice (some ⟨b, 0, none⟩) n cap) (some (.int .i64 (l : Int))) (some (.int .i64 (s : Int))) none).run Tryz.prog w = .ok (.slice (some ⟨b, if cap = l then 0 else l, none⟩) t (cap - l)) w := by
  rw [run_slice_lh w 95 (some ⟨b, 0, none⟩) n cap (by kernel_rfl) .i64 .i64 (l : Int) (s : Int) (by omega) (by omega) (by omega)]
  have : (sizeOf (Tryz.prog.elem 95)).run Tryz.prog w = .ok 1 w := by kernel_rfl
  rw [this]
  by_cases c : cap = l
  · subst c; simp [Result.andThen, sliced]; omega
  · simp [Result.andThen, sliced, c, Addr.add]; omega
theorem slice_lh' (b n cap l t s : Nat) (hs : l + t = s) (h : s ≤ cap) (w : World) : (Instr.sliceAt 95 (.slice (some ⟨b, 0, none⟩) n cap) (some (.int .i64 (l : Int))) (some (.int .i64 (s : Int))) none).run Tryz.prog w = .ok (.slice (some ⟨b, if cap = l then 0 else l, none⟩) t (cap - l)) w := by
  rw [run_sliceAt_slice w 95 _ _ _ _ (by kernel_rfl), slice_lh b n cap l t s hs h w]
/-- clear on a part of a space's words -/
theorem clear_part (w : World) (g c o t cc : Nat) (ws : List Nat) (ce : Cells w g 40 c) (r : Row w g ws.length (fun j => pw (ws.getD j 0))) (hn : ws.length ≤ c) (ho : o + t ≤ ws.length) :
    ∃ w', (∀ ty, (Builtin.clear_ #[95] ty #[.slice (some ⟨g, if c = o then 0 else o, none⟩) t cc]).run Tryz.prog w = .ok (.tuple #[]) w') ∧ Row w' g ws.length (fun j => pw ((wset ws o (fun _ => 0) t).getD j 0)) ∧ Cells w' g 40 c ∧ Bar g w.heap.size w w' := by
  by_cases h0 : c = o
  · obtain rfl : t = 0 := by omega
    exact ⟨w, fun ty => by simp [Builtin.clear_, run_underlying Tryz.underlying95], r, ce, Bar.refl _ _ _⟩
  · rw [if_neg h0]
    obtain ⟨w', h, R, C, B⟩ := clear_run w g c o t cc 0 ws ce r hn ho
    exact ⟨w', fun ty => h, R, C, B⟩
/-- copy from a part of a space's words to a part of a space's -/
theorem copy_part (w : World) (g c o t cc sc : Nat) (gf cf i : Nat) (ws : List Nat) (F : Nat → Nat) (ce : Cells w g 40 c) (r : Row w g ws.length (fun j => pw (ws.getD j 0))) (hn : ws.length ≤ c) (ho : o + t ≤ ws.length) (hf : i + t ≤ cf) (src : ∀ j, j < t → w.cell? ⟨gf, i + j, none⟩ = some (pw (F j))) :
    ∃ w', (∀ ty, (Builtin.copy_ #[95, 95] ty #[.slice (some ⟨g, if c = o then 0 else o, none⟩) t cc, .slice (some ⟨gf, if cf = i then 0 else i, none⟩) t sc]).run Tryz.prog w = .ok (goInt t) w') ∧ Row w' g ws.length (fun j => pw ((wset ws o F t).getD j 0)) ∧ Cells w' g 40 c ∧ Bar g w.heap.size w w' := by
  by_cases h0 : t = 0
  · subst h0
    exact ⟨w, fun ty => run_copy_none (P := Tryz.prog) w 95 95 ty 40 _ _ _ _ _ _ Tryz.underlying95 (by kernel_rfl) (by simp), r, ce, Bar.refl _ _ _⟩
  · rw [if_neg (by omega), if_neg (by omega)]
    obtain ⟨w', h, R, C, B⟩ := copy_run w g c o t cc sc gf i 0 ws F ce r hn ho src
    exact ⟨w', fun ty => h, R, C, B⟩
end Go.Proofs.YtppmicepkjhfeaaGreat
/-! ## Package mem: Zero. -/
namespace Go.Proofs.YtppmicepkjhfeaaGreat
open Go.RowKit
set_option linter.unusedVariables false

set_option maxRecDepth 100000 in
set_option maxHeartbeats 1000000 in
theorem mzero_ok (mb mm : Nat) (R : Nat → Nat) (L : List Spc) (a b : Nat) (h g : Int) (w : World) (hm : MM w R mb mm L a b h g) (k i t : Nat) (hk : k < L.length) (hi : i + t ≤ (wds L k).length) (hI : isv L (k : Int) = true) (hE : wrongv L (k : Int) (i : Int) (t : Int) = 0) :
    Calls Tryz.prog 38 #[at0 mb, .int .i64 (k : Int), .int .i64 (i : Int), .int .i64 (t : Int)] w fun e w' => e = .returned (.int .i64 0) ∧ MM w' R mb mm (L.set k ((L.getD k (false, [])).1, wset (wds L k) i (fun _ => 0) t)) (stepv 0 1 (t : Int) a) (stepv 1 1 (t : Int) b) h g ∧ TR R R w w' := by
  obtain ⟨_, ek, _, ho⟩ := isv_of hI
  obtain rfl := Int.ofNat.inj ek
  obtain ⟨sv, qv, U, Q, m⟩ := hm
  have WO := words_ok mb mm R sv qv U Q L a b h g w m k hk ho
  obtain ⟨sg, sc, gk, ck, rfl, _, sr, _, _, _, eu, hgk, kr, hc, hcm, ce⟩ := m.open_at hk ho
  rw [eu] at WO
  have lk := m.lw k hk
  have HA := has_any (some ⟨gk, 0, none⟩) (wds L k).length ck (i : Int) (t : Int) (by omega) (by omega)
  rw [hasv_t hI hE] at HA
  have WH := Lib.hid WO
  have HH := Lib.hid HA
  have ST := Lib.hid (fun w' r => step_any mm a b h g 1 (t : Int) m.na m.nb (by omega) w' r)
  have NA := Lib.hid (stepv_N (q := 0) (k := 1) (n := (t : Int)) m.na)
  have NB := Lib.hid (stepv_N (q := 1) (k := 1) (n := (t : Int)) m.nb)
  obtain ⟨s, hs⟩ : ∃ s, i + t = s := ⟨_, rfl⟩
  have SC := fun w => slice_lh gk (wds L k).length ck i t s hs (by omega) w
  have SD := fun w => slice_lh' gk (wds L k).length ck i t s hs (by omega) w
  have is1 : (i : Int) + (t : Int) = (s : Int) := by omega
  have is2 : wrap64 (s : Int) = (s : Int) := by unfold wrap64; omega
  obtain ⟨wz, CL, RZ, CZ, BZ⟩ := clear_part w gk ck i t (ck - i) (wds L k) ce kr hc hi
  have M1 := m.words (ws := wset (wds L k) i (fun _ => 0) t) hk ho (by rw [wset_len]; exact eu) hgk BZ (by rw [wset_len]; exact hc) hcm (by rw [wset_len]; exact RZ) CZ (by rw [wset_len]; exact lk)
  rw [← ho] at M1
  have M := Lib.hid M1
  have T1 := Lib.hid (show TR R R w wz from TR.bar BZ (by omega))
  have tr := Lib.hid (show R mm ≠ 0 by rw [m.r2]; decide)
  obtain ⟨m0, m1, m2, mf, ml⟩ := M1.row.all
  clear m sr ho eu WO hk HA hE hI lk hgk kr ek ce M1 BZ hc hcm RZ CZ hs hi
  generalize stepv 0 1 (t : Int) a = a' at *
  generalize stepv 1 1 (t : Int) b = b' at *
  generalize (if ck = i then 0 else i) = z at *
  go_enter Tryz.func38, Tryz.ntmps38
  go_wp2_with fail
  with_reducible refine WH.out.mono ?_
  rintro e w1 ⟨rfl, rfl⟩
  dsimp only
  go_wp2_with fail
  with_reducible refine (HH.out _).mono ?_
  rintro e w1 ⟨rfl, rfl⟩
  dsimp only
  go_wp2_with fail
  with_reducible refine (ST.out _ M.out.met).mono ?_
  rintro e w2 ⟨rfl, R2, B2⟩
  dsimp only
  clear m0 m1 m2 mf ml
  go_wp2_with fail
  exact bodyPost_ret (v := .int .i64 0) (by simp [results, Tryz.results38, go_sem]) rfl ⟨rfl, ⟨_, _, _, _, M.out.meter B2 R2 NA.out NB.out M.out.fit⟩, T1.out.trans (TR.bar B2 tr.out)⟩
end Go.Proofs.YtppmicepkjhfeaaGreat
/-! ## Package mem: Copy. -/
namespace Go.Proofs.YtppmicepkjhfeaaGreat
open Go.RowKit
set_option linter.unusedVariables false

/-- copy as one step of a region that draws, by what it does -/
theorem step_copy_run {P : Program} {ops : Array Oper} {o : Oper} {a : Act} {w : World} {K : Act → World → Prop} {Q : Exit → Act → World → Prop} {E : Prop} (hgd : o.guard = none) (d s : Operand) (t t' : TypeId)
    (ho : o.op = .call { callee := .builtin .copy, args := #[d, s], argTypes := #[t, t'] }) (v u : Value) (hd : a.eval d = v) (hs : a.eval s = u)
    (v' : Value) (w' : World) (hr : (Builtin.copy_ #[t, t'] o.type #[v, u]).run P w = .ok v' w') (h : K (a.put o.dst v') w') : if Region.wanted o (yielded ops a.tmps) = true then Oper.wp P o a w K Q else E := by
  have hw : Region.wanted o (yielded ops a.tmps) = true := by simp [Region.wanted, hgd]
  rw [if_pos hw]
  unfold Oper.wp execOp
  simp only [ho, resolve, invoke, builtin, Sem.run_bind, Sem.run_pure, Result.andThen_ok, List.map_toArray, List.map_cons, List.map_nil, hd, hs, hr]
  exact h
theorem wat_nat (L : List Spc) (k i : Nat) : (wds L k).getD i 0 = wat L k i := by unfold wat; rfl
theorem wrapi_le (s : Nat) (h : s ≤ 4194304) : IntKind.i64.wrap (s : Int) = (s : Int) := by rw [IntKind.wrap_i64]; omega
end Go.Proofs.YtppmicepkjhfeaaGreat
