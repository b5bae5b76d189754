/-
  Package mem: number: a Mem with a place that waits for its words.
-/
import Derived.Test.YtgnpakpnocbhhaaMem7
namespace Go.Proofs.Ytgnpakpnocbhhaa
open Go.RowKit
set_option linter.unusedVariables false

/-- A Mem whose space k is closed and whose number k is not among the closed ones. -/
structure MH (w : World) (R : Nat → Nat) (mb mm : Nat) (sv qv : Value) (U : Nat → Value) (Q : List Nat) (L : List Spc) (k a b : Nat) (h g : Int) : Prop where
  hi : ∀ j, R j ≠ 0 → j < w.heap.size
  r1 : R mb = 1
  r2 : R mm = 2
  row : WRw w mb mm sv qv
  met : MRow w mm a b h g
  sp : ZQ w (fun j => R j = 3) 75 sv L.length U
  cl : ZQ w (fun j => R j = 4) 3 qv Q.length (nqv Q)
  wd : ∀ i, i < L.length → WD w R (5 + i) (U i) (L.getD i (false, []))
  hp : HeapN Q Q.length
  hk : k < L.length
  hole : L.getD k (false, []) = (false, [])
  cq : ∀ x, Q.count x = if x = k then 0 else if clo L x then 1 else 0
  ln : Q.length + countv L + 1 = L.length
  lc : L.length ≤ 262144
  lw : ∀ i, i < L.length → (wds L i).length ≤ 4194304
  na : N128 a
  nb : N128 b
  fit : Fit h g
theorem clo_of {L : List Spc} {k : Nat} (h : clo L k = true) : k < L.length ∧ (L.getD k (false, [])).1 = false := by
  unfold clo at h
  rw [Bool.and_eq_true, decide_eq_true_iff] at h
  exact ⟨h.1, by simpa using h.2⟩
theorem clo_t {L : List Spc} {k : Nat} (h : k < L.length) (o : (L.getD k (false, [])).1 = false) : clo L k = true := by
  unfold clo; rw [o, decide_eq_true h]; rfl
theorem mem_count {Q : List Nat} {x : Nat} (h : x ∈ Q) : 0 < Q.count x := List.count_pos_iff.2 h
theorem MO.closed_in {w : World} {R : Nat → Nat} {mb mm : Nat} {sv qv : Value} {U : Nat → Value} {Q : List Nat} {L : List Spc} {a b : Nat} {h g : Int} (m : MO w R mb mm sv qv U Q L a b h g) {x : Nat} : x ∈ Q ↔ clo L x = true := by
  have c := m.cq x
  constructor
  · intro hx
    have := mem_count hx
    by_cases e : clo L x = true
    · exact e
    · rw [if_neg e] at c; omega
  · intro e
    rw [if_pos e] at c
    exact List.count_pos_iff.1 (by omega)
/-- the least closed number is the first one that is free -/
theorem MO.first {w : World} {R : Nat → Nat} {mb mm : Nat} {sv qv : Value} {U : Nat → Value} {Q : List Nat} {L : List Spc} {a b : Nat} {h g : Int} (m : MO w R mb mm sv qv U Q L a b h g) (hQ : 0 < Q.length) : nq Q 0 < L.length ∧ (L.getD (nq Q 0) (false, [])).1 = false ∧ firstc L = nq Q 0 := by
  obtain ⟨h1, h2⟩ := clo_of (m.closed_in.1 (nq_mem Q 0 hQ))
  refine ⟨h1, h2, firstc_eq L _ (fun j hj => ?_) (.inr ⟨h1, h2⟩)⟩
  cases o : (L.getD j (false, [])).1
  · have hm := m.closed_in.2 (clo_t (show j < L.length by omega) o)
    obtain ⟨i, hi, e⟩ := List.getElem_of_mem hm
    have := HeapN.least m.hp i hi
    have e2 : nq Q i = j := by unfold nq; rw [List.getD_eq_getElem?_getD, List.getElem?_eq_getElem hi]; exact e
    omega
  · rfl
theorem MO.full {w : World} {R : Nat → Nat} {mb mm : Nat} {sv qv : Value} {U : Nat → Value} {Q : List Nat} {L : List Spc} {a b : Nat} {h g : Int} (m : MO w R mb mm sv qv U Q L a b h g) (hQ : Q.length = 0) : firstc L = L.length := by
  refine firstc_eq L _ (fun j hj => ?_) (.inl rfl)
  cases o : (L.getD j (false, [])).1
  · have hm := m.closed_in.2 (clo_t hj o)
    rw [List.length_eq_zero_iff.1 hQ] at hm
    cases hm
  · rfl
theorem MO.wd_closed {w : World} {R : Nat → Nat} {mb mm : Nat} {sv qv : Value} {U : Nat → Value} {Q : List Nat} {L : List Spc} {a b : Nat} {h g : Int} (m : MO w R mb mm sv qv U Q L a b h g) {k : Nat} (hk : k < L.length) (o : (L.getD k (false, [])).1 = false) : L.getD k (false, []) = (false, []) ∧ U k = .slice none 0 0 := by
  rcases m.wd k hk with ⟨e0, e1, e2⟩ | ⟨e0, _⟩
  · exact ⟨Prod.ext e0 e1, e2⟩
  · rw [o] at e0; cases e0
theorem opened_pop {L : List Spc} {k : Nat} (hk : k < L.length) (f : firstc L = k) (n : Nat) : L.set k (true, List.replicate n 0) = opened L n := by
  unfold opened; rw [f, if_pos hk]
theorem opened_app {L : List Spc} (f : firstc L = L.length) (n : Nat) : (L ++ [(false, [])]).set L.length (true, List.replicate n 0) = opened L n := by
  unfold opened; rw [f, if_neg (by omega), List.set_append_right _ _ (Nat.le_refl _)]; simp
theorem MH.of_pop {w w1 : World} {R : Nat → Nat} {mb mm : Nat} {sv qv : Value} {U : Nat → Value} {Q Q' : List Nat} {L : List Spc} {a b : Nat} {h g : Int} (m : MO w R mb mm sv qv U Q L a b h g) (hQ : 0 < Q.length) {gq c n : Nat} (hg : R gq = 4) (hn : Q'.length = n) (hc : n ≤ c) (hcm : c ≤ maxLen) (row : WRw w1 mb mm sv (.slice (some ⟨gq, 0, none⟩) n c)) (qr : Row w1 gq n (nqv Q')) (qce : Cells w1 gq 3 c) (hh : HeapN Q' n) (hp : (nq Q 0 :: Q').Perm Q) (K : Keeps (fun j => j = gq ∨ j = mb) w w1) :
    MH w1 R mb mm sv (.slice (some ⟨gq, 0, none⟩) n c) U Q' L (nq Q 0) a b h g ∧ TR R R w w1 := by
  obtain ⟨hk, ho, _⟩ := m.first hQ
  have e1 := m.r1
  have e2 := m.r2
  have nn : ∀ j, R j ≠ 4 → R j ≠ 1 → ¬ (j = gq ∨ j = mb) := fun j h4 h1 q => by
    rcases q with q | q
    · exact h4 (q ▸ hg)
    · exact h1 (q ▸ e1)
  have lnQ : Q.length = Q'.length + 1 := by have := hp.length_eq; simpa using this.symm
  refine ⟨⟨fun j hj => Nat.lt_of_lt_of_le (m.hi j hj) K.size, e1, e2, row, Row.keeps m.met K (nn mm (by omega) (by omega)), m.sp.keeps K (fun j _ h3 => nn j (by omega) (by omega)) (fun _ _ h => h), .inr ⟨gq, c, by rw [hn], by rw [hn]; exact hc, hcm, hg, by rw [hn]; exact qr, qce⟩, fun i hi => (m.wd i hi).keeps K (fun j _ h5 => nn j (by omega) (by omega)) (fun _ _ h => h), by rw [hn]; exact hh, hk, (m.wd_closed hk ho).1, fun x => ?_, by have := m.ln; omega, m.lc, m.lw, m.na, m.nb, m.fit⟩, ⟨K.mono (fun j _ q => by
    rcases q with q | q
    · subst q; omega
    · subst q; omega), fun _ _ q => q⟩⟩
  have c1 := hp.count_eq x
  rw [List.count_cons, m.cq x] at c1
  by_cases e : x = nq Q 0
  · rw [if_pos e]
    rw [e, clo_t hk ho] at c1
    rw [e]
    simp at c1; omega
  · rw [if_neg e]
    simp [Ne.symm e] at c1
    exact c1
theorem clo_app (L : List Spc) (x : Nat) : clo (L ++ [(false, [])]) x = if x = L.length then true else clo L x := by
  unfold clo
  by_cases e : x = L.length
  · subst e; rw [if_pos rfl]; simp [List.getD]
  · rw [if_neg e]
    by_cases h : x < L.length
    · simp [List.getD, List.getElem?_append_left h, h]; omega
    · rw [decide_eq_false (by simp; omega), decide_eq_false h]; rfl
theorem MH.of_app {w W w1 w2 : World} {R : Nat → Nat} {mb mm : Nat} {sv qv : Value} {U : Nat → Value} {Q : List Nat} {L : List Spc} {a b : Nat} {h g : Int} (m : MO w R mb mm sv qv U Q L a b h g) (hQ : Q.length = 0) (hl : L.length < 262144) (BW : Below w.heap.size w W) {gs c : Nat} (hg : R gs = 3 ∨ W.heap.size ≤ gs) (hc : L.length + 1 ≤ c) (hcm : c ≤ maxLen) (sr : Row w1 gs (L.length + 1) (fun j => if j < L.length then U j else .slice none 0 0)) (sce : Cells w1 gs 75 c) (K : Keeps (fun j => R j = 3) W w1) (hw2 : w2 = w1.setCell ⟨mb, 1, none⟩ (.slice (some ⟨gs, 0, none⟩) (L.length + 1) c)) :
    MH w2 (fun j => if j = gs then 3 else R j) mb mm (.slice (some ⟨gs, 0, none⟩) (L.length + 1) c) qv (fun j => if j < L.length then U j else .slice none 0 0) Q (L ++ [(false, [])]) L.length a b h g ∧ TR R (fun j => if j = gs then 3 else R j) w w2 := by
  have e1 := m.r1
  have e2 := m.r2
  have sW := BW.size
  have K1 : Keeps (fun j => R j = 3) w w1 := (Keeps.of (F := fun j => R j = 3) BW).trans K (fun _ _ q => q)
  have lt1 := m.row.lt
  have lt2 : mm < w.heap.size := m.met.lt
  have new : ∀ j, j < w.heap.size → R j ≠ 3 → j ≠ gs := fun j hj h3 e => by
    subst e
    rcases hg with q | q
    · exact h3 q
    · omega
  have Rn : ∀ j, j < w.heap.size → R j ≠ 3 → (if j = gs then 3 else R j) = R j := fun j hj h3 => if_neg (new j hj h3)
  have KS : Keeps (fun j => j = mb) w1 w2 := by rw [hw2]; exact Keeps.set _ mb 1 _ rfl
  have K2 : Keeps (fun j => R j = 3 ∨ j = mb) w w2 := (K1.mono (F' := fun j => R j = 3 ∨ j = mb) (fun _ _ q => .inl q)).trans KS (fun _ _ q => .inr q)
  have nn : ∀ j, R j ≠ 3 → R j ≠ 1 → ¬ (R j = 3 ∨ j = mb) := fun j h3 h1 q => by
    rcases q with q | q
    · exact h3 q
    · exact h1 (q ▸ e1)
  have gne : gs ≠ mb := fun e => new mb lt1 (by omega) e.symm
  have la : (L ++ [((false, []) : Spc)]).length = L.length + 1 := by simp
  have mrow1 : WRw w1 mb mm sv qv := Row.keeps m.row K1 (by show ¬ R mb = 3; omega)
  refine ⟨⟨fun j hj => ?_, ?_, ?_, by rw [hw2]; exact mrow1.setS _, Row.keeps m.met K2 (nn mm (by omega) (by omega)), ?_, m.cl.keeps K2 (fun j _ h4 => nn j (by omega) (by omega)) (fun j hlt h4 => ?_), fun i hi => ?_, m.hp, by rw [la]; omega, by simp [List.getD], fun x => ?_, ?_, by rw [la]; omega, fun i hi => ?_, m.na, m.nb, m.fit⟩, ⟨K2.mono (fun j _ q => by
    rcases q with q | q
    · omega
    · subst q; omega), fun j hj q => ?_⟩⟩
  · by_cases e : j = gs
    · subst e; exact Nat.lt_of_lt_of_le sr.lt KS.size
    · rw [if_neg e] at hj; exact Nat.lt_of_lt_of_le (m.hi j hj) K2.size
  · show (if mb = gs then 3 else R mb) = 1
    rw [Rn mb lt1 (by omega)]; exact e1
  · show (if mm = gs then 3 else R mm) = 2
    rw [Rn mm lt2 (by omega)]; exact e2
  · rw [la]
    exact .inr ⟨gs, c, rfl, hc, hcm, if_pos rfl, sr.keeps KS gne, sce.keeps KS gne⟩
  · show (if j = gs then 3 else R j) = 4
    rw [Rn j hlt (by omega)]; exact h4
  · rw [la] at hi
    show WD w2 _ (5 + i) (if i < L.length then U i else .slice none 0 0) _
    by_cases e : i < L.length
    · rw [if_pos e]
      have gd : (L ++ [((false, []) : Spc)]).getD i (false, []) = L.getD i (false, []) := by simp [List.getD, List.getElem?_append_left e]
      rw [gd]
      refine (m.wd i e).keeps K2 (fun j _ h5 => nn j (by omega) (by omega)) (fun j hlt h5 => ?_)
      show (if j = gs then 3 else R j) = 5 + i
      rw [Rn j hlt (by omega)]; exact h5
    · rw [if_neg e]
      have ei : i = L.length := by omega
      subst ei
      exact .inl (by simp [List.getD])
  · rw [m.cq x, clo_app]
    have := List.length_eq_zero_iff.1 hQ
    by_cases e : x = L.length
    · rw [if_pos e]
      have : ¬ clo L x = true := fun q => by have := (clo_of q).1; omega
      rw [if_neg this]
    · rw [if_neg e, if_neg e]
  · rw [countv_snoc, la]
    have := m.ln
    simp; omega
  · rw [la] at hi
    by_cases e : i < L.length
    · have := m.lw i e
      unfold wds at this ⊢
      simp only [List.getD, List.getElem?_append_left e]
      exact this
    · have ei : i = L.length := by omega
      subst ei
      unfold wds; simp [List.getD]
  · by_cases e : j = gs
    · subst e
      rcases hg with q' | q'
      · omega
      · omega
    · rw [if_neg e] at q; exact q
/-- the place is filled -/
theorem MH.put {w wa w2 : World} {R : Nat → Nat} {mb mm : Nat} {sv qv : Value} {U : Nat → Value} {Q : List Nat} {L : List Spc} {k a b : Nat} {h g : Int} (m : MH w R mb mm sv qv U Q L k a b h g) {n : Nat} (hn : n ≤ 4194304) (ew : wa = w.alloc (.cells (zrow n).toArray 28)) {sg sc : Nat} (esv : sv = .slice (some ⟨sg, 0, none⟩) L.length sc) (hsg : R sg = 3) (sr : Row w sg L.length U) (hsc : L.length ≤ sc) (hscm : sc ≤ maxLen) (sce : Cells w sg 75 sc)
    (e2w : w2 = wa.setCell ⟨sg, k, none⟩ (.slice (some ⟨w.heap.size, 0, none⟩) n n)) :
    MO w2 (fun j => if j = w.heap.size then 5 + k else R j) mb mm sv qv (fun j => if j = k then .slice (some ⟨w.heap.size, 0, none⟩) n n else U j) Q (L.set k (true, List.replicate n 0)) a b h g ∧ TR R (fun j => if j = w.heap.size then 5 + k else R j) w w2 := by
  have e1 := m.r1
  have e2 := m.r2
  have BA : Below w.heap.size w wa := by rw [ew]; exact bAlloc (Below.refl _ _) _
  have sa : wa.heap.size = w.heap.size + 1 := by rw [ew]; simp
  have KS : Keeps (fun j => j = sg) wa w2 := by rw [e2w]; exact Keeps.set _ sg k _ rfl
  have K2 : Keeps (fun j => R j = 3) w w2 := (Keeps.of (F := fun j => R j = 3) BA).trans KS (fun j _ q => by show R j = 3; rw [q]; exact hsg)
  have Rn : ∀ j, j < w.heap.size → (if j = w.heap.size then 5 + k else R j) = R j := fun j hj => if_neg (by omega)
  have lt1 := m.row.lt
  have lt2 : mm < w.heap.size := m.met.lt
  have nsg : w.heap.size ≠ sg := by have := sr.lt; omega
  have lr : (List.replicate n (0 : Nat)).length = n := List.length_replicate
  refine ⟨⟨fun j hj => ?_, ?_, ?_, Row.keeps m.row K2 (by show ¬ R mb = 3; omega), Row.keeps m.met K2 (by show ¬ R mm = 3; omega), ?_, m.cl.keeps K2 (fun j _ h4 => by show ¬ R j = 3; omega) (fun j hlt h4 => by show (if j = w.heap.size then 5 + k else R j) = 4; rw [Rn j hlt]; exact h4), fun i hi => ?_, m.hp, fun x => ?_, ?_, by rw [List.length_set]; exact m.lc, fun i hi => ?_, m.na, m.nb, m.fit⟩, ⟨K2.mono (fun j _ q => by show R j ≠ 0; have : R j = 3 := q; omega), fun j hj q => by rw [Rn j hj] at q; exact q⟩⟩
  · have s2 := KS.size
    by_cases e : j = w.heap.size
    · omega
    · rw [if_neg e] at hj; have := m.hi j hj; omega
  · show (if mb = w.heap.size then 5 + k else R mb) = 1
    rw [Rn mb lt1]; exact e1
  · show (if mm = w.heap.size then 5 + k else R mm) = 2
    rw [Rn mm lt2]; exact e2
  · rw [List.length_set]
    refine .inr ⟨sg, sc, esv, hsc, hscm, ?_, ?_, ?_⟩
    · show (if sg = w.heap.size then 5 + k else R sg) = 3
      rw [Rn sg sr.lt]; exact hsg
    · rw [e2w]; exact (sr.below BA).set k m.hk _
    · rw [e2w]; exact (sce.below BA).set sg k _
  · rw [List.length_set] at hi
    rw [getD_set L k i _ m.hk]
    show WD w2 _ (5 + i) (if i = k then .slice (some ⟨w.heap.size, 0, none⟩) n n else U i) _
    by_cases e : i = k
    · rw [if_pos e, if_pos e, e]
      refine .inr ⟨rfl, w.heap.size, n, by rw [lr], by rw [lr]; exact Nat.le_refl _, by unfold maxLen; omega, if_pos rfl, ?_, ?_⟩
      · rw [lr]
        refine Row.keeps (w := wa) ?_ KS nsg
        rw [ew]; exact zrow_new w n
      · refine Cells.keeps (w := wa) ?_ KS nsg
        rw [ew]; exact cells_new w n
    · rw [if_neg e, if_neg e]
      exact (m.wd i hi).keeps K2 (fun j _ h5 => by show ¬ R j = 3; omega) (fun j hlt h5 => by show (if j = w.heap.size then 5 + k else R j) = 5 + i; rw [Rn j hlt]; exact h5)
  · rw [m.cq x, clo_set L k x _ m.hk]
    by_cases e : x = k
    · rw [if_pos e, if_pos e]; rfl
    · rw [if_neg e, if_neg e]
  · have c := countv_set L k (true, List.replicate n 0) m.hk
    rw [m.hole] at c
    have := m.ln
    rw [List.length_set]
    simp at c; omega
  · rw [List.length_set] at hi
    rw [wds_set L k i _ m.hk]
    split
    · show (List.replicate n 0).length ≤ _
      rw [lr]; exact hn
    · exact m.lw i hi
theorem MO.drew {w : World} {R : Nat → Nat} {mb mm : Nat} {sv qv : Value} {U : Nat → Value} {Q : List Nat} {L : List Spc} {a b : Nat} {h g : Int} (m : MO w R mb mm sv qv U Q L a b h g) : MO w.drew R mb mm sv qv U Q L a b h g := m.below (Below.refl _ _).drew
theorem TR.drew {R R' : Nat → Nat} {w w' : World} (h : TR R R' w w') : TR R R' w w'.drew := h.trans (TR.of (Below.refl _ _).drew)
theorem MH.drew {w : World} {R : Nat → Nat} {mb mm : Nat} {sv qv : Value} {U : Nat → Value} {Q : List Nat} {L : List Spc} {k a b : Nat} {h g : Int} (m : MH w R mb mm sv qv U Q L k a b h g) : MH w.drew R mb mm sv qv U Q L k a b h g := by
  have B : Below w.heap.size w w.drew := (Below.refl _ _).drew
  exact ⟨m.hi, m.r1, m.r2, m.row.drew, m.met.drew, m.sp.below B, m.cl.below B, fun i hi => (m.wd i hi).keeps (Keeps.of (F := fun _ => False) B) (fun _ _ _ h => h) (fun _ _ h => h), m.hp, m.hk, m.hole, m.cq, m.ln, m.lc, m.lw, m.na, m.nb, m.fit⟩
end Go.Proofs.Ytgnpakpnocbhhaa
