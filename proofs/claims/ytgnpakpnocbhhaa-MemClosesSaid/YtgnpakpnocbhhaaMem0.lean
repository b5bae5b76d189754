/-
  A Mem in plain numbers: its spaces, its counters; its blocks by their roles.
-/
import Derived.Test.YtgnpakpnocbhhaaNums3
import Derived.Test.YtgnpakpnocbhhaaIs
import Derived.Test.YtgnpakpnocbhhaaOpenMath
import Derived.Test.YtgnpakpnocbhhaaStep
namespace Go.Proofs.Ytgnpakpnocbhhaa
open Go.RowKit
set_option linter.unusedVariables false

/-- is the number i that of a closed space? -/
def clo (L : List Spc) (i : Nat) : Bool := decide (i < L.length) && !(L.getD i (false, [])).1
/-- a space's words in memory -/
def WD (w : World) (R : Nat → Nat) (r : Nat) (u : Value) (x : Spc) : Prop :=
  (x.1 = false ∧ x.2 = [] ∧ u = .slice none 0 0) ∨ (x.1 = true ∧ ∃ g c, u = .slice (some ⟨g, 0, none⟩) x.2.length c ∧ x.2.length ≤ c ∧ c ≤ maxLen ∧ R g = r ∧ Row w g x.2.length (fun j => pw (x.2.getD j 0)) ∧ Cells w g 28 c)
/-- A Mem in memory: R tells a block's role: 1 its own cells, 2 the meter, 3 the spaces, 4 the numbers of closed ones, 5 + i the words of space i; 0: none of its. -/
structure MO (w : World) (R : Nat → Nat) (mb mm : Nat) (sv qv : Value) (U : Nat → Value) (Q : List Nat) (L : List Spc) (a b : Nat) (h g : Int) : Prop where
  hi : ∀ j, R j ≠ 0 → j < w.heap.size
  r1 : R mb = 1
  r2 : R mm = 2
  row : WRw w mb mm sv qv
  met : MRow w mm a b h g
  sp : ZQ w (fun j => R j = 3) 75 sv L.length U
  cl : ZQ w (fun j => R j = 4) 3 qv Q.length (nqv Q)
  wd : ∀ i, i < L.length → WD w R (5 + i) (U i) (L.getD i (false, []))
  hp : HeapN Q Q.length
  cq : ∀ x, Q.count x = if clo L x then 1 else 0
  ln : Q.length + countv L = L.length
  lc : L.length ≤ 262144
  lw : ∀ i, i < L.length → (wds L i).length ≤ 4194304
  na : N128 a
  nb : N128 b
  fit : Fit h g
def MM (w : World) (R : Nat → Nat) (mb mm : Nat) (L : List Spc) (a b : Nat) (h g : Int) : Prop := ∃ sv qv U Q, MO w R mb mm sv qv U Q L a b h g
/-- what a call does to the blocks: those that had no role are as they were -/
structure TR (R R' : Nat → Nat) (w w' : World) : Prop where
  keeps : Keeps (fun j => R j ≠ 0) w w'
  old : ∀ j, j < w.heap.size → R' j ≠ 0 → R j ≠ 0
theorem TR.refl (R : Nat → Nat) (w : World) : TR R R w w := ⟨Keeps.refl _ _, fun _ _ h => h⟩
theorem TR.of {R : Nat → Nat} {w w' : World} (h : Below w.heap.size w w') : TR R R w w' := ⟨Keeps.of h, fun _ _ h => h⟩
theorem TR.trans {R R' R'' : Nat → Nat} {a b c : World} (h : TR R R' a b) (k : TR R' R'' b c) : TR R R'' a c :=
  ⟨h.keeps.trans k.keeps h.old, fun j hj hn => h.old j hj (k.old j (Nat.lt_of_lt_of_le hj h.keeps.size) hn)⟩
theorem TR.bar {R : Nat → Nat} {w w' : World} {m : Nat} (h : Bar m w.heap.size w w') (hm : R m ≠ 0) : TR R R w w' := ⟨Keeps.bar h hm, fun _ _ h => h⟩
/-- all of it lies in blocks from B on -/
theorem TR.below {R R' : Nat → Nat} {w w' : World} {B : Nat} (h : TR R R' w w') (hB : B ≤ w.heap.size) (lo : ∀ j, R j ≠ 0 → B ≤ j) : Below B w w' := h.keeps.below hB lo
theorem TR.lo {R R' : Nat → Nat} {w w' : World} {B : Nat} (h : TR R R' w w') (hB : B ≤ w.heap.size) (lo : ∀ j, R j ≠ 0 → B ≤ j) : ∀ j, R' j ≠ 0 → B ≤ j := fun j hj => by
  by_cases c : j < w.heap.size
  · exact lo j (h.old j c hj)
  · omega
theorem ZQ.bar {w w' : World} {B : Nat → Prop} {t : TypeId} {v : Value} {n m : Nat} {f : Nat → Value} (h : ZQ w B t v n f) (k : Bar m w.heap.size w w') (hm : ¬ B m) : ZQ w' B t v n f := by
  rcases h with h | ⟨g, c, e, hc, hcm, hB, r, ce⟩
  · exact .inl h
  · have hg : g ≠ m := fun e => hm (e ▸ hB)
    refine .inr ⟨g, c, e, hc, hcm, hB, r.bar k hg, ?_⟩
    obtain ⟨cur, h1, h2⟩ := ce
    exact ⟨cur, (k.block g (Array.getElem?_eq_some_iff.1 h1).1 hg).trans h1, h2⟩
theorem Cells.keeps {F : Nat → Prop} {w w' : World} {g n : Nat} {t : TypeId} (h : Cells w g t n) (k : Keeps F w w') (hg : ¬ F g) : Cells w' g t n := by
  obtain ⟨cur, h1, h2⟩ := h
  exact ⟨cur, (k.block g (Array.getElem?_eq_some_iff.1 h1).1 hg).trans h1, h2⟩
theorem ZQ.keeps {F : Nat → Prop} {w w' : World} {B B' : Nat → Prop} {t : TypeId} {v : Value} {n : Nat} {f : Nat → Value} (h : ZQ w B t v n f) (k : Keeps F w w') (hm : ∀ j, j < w.heap.size → B j → ¬ F j) (hB' : ∀ j, j < w.heap.size → B j → B' j) : ZQ w' B' t v n f := by
  rcases h with h | ⟨g, c, e, hc, hcm, hB, r, ce⟩
  · exact .inl h
  · exact .inr ⟨g, c, e, hc, hcm, hB' g r.lt hB, r.keeps k (hm g r.lt hB), ce.keeps k (hm g r.lt hB)⟩
theorem WD.keeps {F : Nat → Prop} {w w' : World} {R R' : Nat → Nat} {r : Nat} {u : Value} {x : Spc} (h : WD w R r u x) (k : Keeps F w w') (hm : ∀ j, j < w.heap.size → R j = r → ¬ F j) (hB' : ∀ j, j < w.heap.size → R j = r → R' j = r) : WD w' R' r u x := by
  rcases h with h | ⟨ho, g, c, e, hc, hcm, hr, rr, ce⟩
  · exact .inl h
  · exact .inr ⟨ho, g, c, e, hc, hcm, hB' g rr.lt hr, rr.keeps k (hm g rr.lt hr), ce.keeps k (hm g rr.lt hr)⟩
theorem MO.below {w w' : World} {R : Nat → Nat} {mb mm : Nat} {sv qv : Value} {U : Nat → Value} {Q : List Nat} {L : List Spc} {a b : Nat} {h g : Int} (m : MO w R mb mm sv qv U Q L a b h g) (k : Below w.heap.size w w') : MO w' R mb mm sv qv U Q L a b h g :=
  ⟨fun j hj => Nat.lt_of_lt_of_le (m.hi j hj) k.size, m.r1, m.r2, m.row.below k, m.met.below k, m.sp.below k, m.cl.below k, fun i hi => (m.wd i hi).keeps (Keeps.of (F := fun _ => False) k) (fun _ _ _ h => h) (fun _ _ h => h), m.hp, m.cq, m.ln, m.lc, m.lw, m.na, m.nb, m.fit⟩
theorem MM.below {w w' : World} {R : Nat → Nat} {mb mm : Nat} {L : List Spc} {a b : Nat} {h g : Int} (m : MM w R mb mm L a b h g) (k : Below w.heap.size w w') : MM w' R mb mm L a b h g := by
  obtain ⟨sv, qv, U, Q, m⟩ := m
  exact ⟨sv, qv, U, Q, m.below k⟩
/-- the meter alone has turned -/
theorem MO.meter {w w' : World} {R : Nat → Nat} {mb mm : Nat} {sv qv : Value} {U : Nat → Value} {Q : List Nat} {L : List Spc} {a b a' b' : Nat} {h g h' g' : Int} (m : MO w R mb mm sv qv U Q L a b h g) (k : Bar mm w.heap.size w w') (r : MRow w' mm a' b' h' g') (na : N128 a') (nb : N128 b') (fit : Fit h' g') : MO w' R mb mm sv qv U Q L a' b' h' g' := by
  have e := m.r2
  have kk : Keeps (fun j => j = mm) w w' := Keeps.bar k rfl
  have ne : ∀ (n j : Nat), n ≠ 2 → R j = n → ¬ j = mm := fun n j hn hj q => by subst q; omega
  exact ⟨fun j hj => Nat.lt_of_lt_of_le (m.hi j hj) k.size, m.r1, m.r2, m.row.bar k (ne 1 mb (by omega) m.r1), r, m.sp.keeps kk (fun j _ h => ne 3 j (by omega) h) (fun _ _ h => h), m.cl.keeps kk (fun j _ h => ne 4 j (by omega) h) (fun _ _ h => h), fun i hi => (m.wd i hi).keeps kk (fun j _ h => ne _ j (by omega) h) (fun _ _ h => h), m.hp, m.cq, m.ln, m.lc, m.lw, na, nb, fit⟩
theorem countv_set (L : List Spc) (k : Nat) (x : Spc) (hk : k < L.length) : countv (L.set k x) + (if (L.getD k (false, [])).1 then 1 else 0) = countv L + (if x.1 then 1 else 0) := by
  induction L generalizing k with
  | nil => simp at hk
  | cons y l ih =>
    cases k with
    | zero =>
      simp only [List.set_cons_zero, List.getD_cons_zero]
      unfold countv; omega
    | succ k =>
      have e := ih k (by simpa using hk)
      simp only [List.set_cons_succ, List.getD_cons_succ]
      unfold countv; omega
theorem wds_set (L : List Spc) (k i : Nat) (x : Spc) (hk : k < L.length) : wds (L.set k x) i = if i = k then x.2 else wds L i := by
  unfold wds
  rw [getD_set L k i x hk]
  split <;> rfl
theorem clo_set (L : List Spc) (k i : Nat) (x : Spc) (hk : k < L.length) : clo (L.set k x) i = if i = k then !x.1 else clo L i := by
  unfold clo
  rw [getD_set L k i x hk, List.length_set]
  by_cases e : i = k
  · subst e; rw [if_pos rfl, if_pos rfl, decide_eq_true hk]; rfl
  · rw [if_neg e, if_neg e]
/-- the words of one open space have turned -/
theorem MO.words {w w' : World} {R : Nat → Nat} {mb mm : Nat} {sv qv : Value} {U : Nat → Value} {Q : List Nat} {L : List Spc} {a b : Nat} {h g : Int} (m : MO w R mb mm sv qv U Q L a b h g) {k gk ck : Nat} {ws : List Nat} (hk : k < L.length) (ho : (L.getD k (false, [])).1 = true) (hu : U k = .slice (some ⟨gk, 0, none⟩) ws.length ck) (hg : R gk = 5 + k) (bar : Bar gk w.heap.size w w')
    (hc : ws.length ≤ ck) (hcm : ck ≤ maxLen) (r : Row w' gk ws.length (fun j => pw (ws.getD j 0))) (ce : Cells w' gk 28 ck) (hl : ws.length ≤ 4194304) : MO w' R mb mm sv qv U Q (L.set k (true, ws)) a b h g := by
  have kk : Keeps (fun j => j = gk) w w' := Keeps.bar bar rfl
  have ne : ∀ (n j : Nat), n ≠ 5 + k → R j = n → ¬ j = gk := fun n j hn hj q => by subst q; omega
  refine ⟨fun j hj => Nat.lt_of_lt_of_le (m.hi j hj) bar.size, m.r1, m.r2, m.row.bar bar (ne 1 mb (by omega) m.r1), m.met.bar bar (ne 2 mm (by omega) m.r2), ?_, m.cl.keeps kk (fun j _ h => ne 4 j (by omega) h) (fun _ _ h => h), fun i hi => ?_, m.hp, fun x => ?_, ?_, by rw [List.length_set]; exact m.lc, fun i hi => ?_, m.na, m.nb, m.fit⟩
  · rw [List.length_set]; exact m.sp.keeps kk (fun j _ h => ne 3 j (by omega) h) (fun _ _ h => h)
  · rw [List.length_set] at hi
    rw [getD_set L k i _ hk]
    by_cases e : i = k
    · subst e; rw [if_pos rfl]; exact .inr ⟨rfl, gk, ck, hu, hc, hcm, hg, r, ce⟩
    · rw [if_neg e]; exact (m.wd i hi).keeps kk (fun j _ h => ne _ j (by omega) h) (fun _ _ h => h)
  · rw [clo_set L k x _ hk, m.cq x]
    by_cases e : x = k
    · subst e; rw [if_pos rfl]; unfold clo; rw [ho]; simp
    · rw [if_neg e]
  · have := countv_set L k (true, ws) hk
    rw [ho] at this
    have e := m.ln
    rw [List.length_set]
    simp at this; omega
  · rw [List.length_set] at hi
    rw [wds_set L k i _ hk]
    split
    · exact hl
    · exact m.lw i hi
/-- an open space -/
theorem MO.open_at {w : World} {R : Nat → Nat} {mb mm : Nat} {sv qv : Value} {U : Nat → Value} {Q : List Nat} {L : List Spc} {a b : Nat} {h g : Int} (m : MO w R mb mm sv qv U Q L a b h g) {k : Nat} (hk : k < L.length) (ho : (L.getD k (false, [])).1 = true) :
    ∃ sg sc gk ck, sv = .slice (some ⟨sg, 0, none⟩) L.length sc ∧ R sg = 3 ∧ Row w sg L.length U ∧ L.length ≤ sc ∧ sc ≤ maxLen ∧ Cells w sg 75 sc ∧ U k = .slice (some ⟨gk, 0, none⟩) (wds L k).length ck ∧ R gk = 5 + k ∧ Row w gk (wds L k).length (fun j => pw ((wds L k).getD j 0)) ∧ (wds L k).length ≤ ck ∧ ck ≤ maxLen ∧ Cells w gk 28 ck := by
  rcases m.sp with ⟨_, e⟩ | ⟨sg, sc, e, h1, h2, h3, h4, h5⟩
  · omega
  · rcases m.wd k hk with ⟨e0, _⟩ | ⟨_, gk, ck, eu, hc, hcm, hr, r, ce⟩
    · rw [ho] at e0; cases e0
    · exact ⟨sg, sc, gk, ck, e, h3, h4, h1, h2, h5, eu, hr, r, hc, hcm, ce⟩
attribute [irreducible] clo
end Go.Proofs.Ytgnpakpnocbhhaa
