/-
  The library of all later seats, LibE: MemB, MemX, MemC, Out, Awake08.
-/
import Derived.Test.YtppmicepkjhfeaaGreatMemA
import Derived.Test.YtppmicepkjhfeaaGreatLibC
/-! MemB: Package mem: Look. And what follows from it. -/
/-! ## Package mem: Look. -/
namespace Go.Proofs.YtppmicepkjhfeaaGreat
open Go.RowKit
set_option linter.unusedVariables false

theorem cells_new (w : World) (n : Nat) : Cells (w.alloc (.cells (zrow n).toArray 40)) w.heap.size 40 n := ⟨_, heap_alloc_new w _, by unfold zrow; simp⟩
theorem zrow_new (w : World) (n : Nat) : Row (w.alloc (.cells (zrow n).toArray 40)) w.heap.size n (fun j => pw ((List.replicate n 0).getD j 0)) := Row.newAt w _ _ _ _ _ rfl (fun j hj => zrow_at n j hj)
end Go.Proofs.YtppmicepkjhfeaaGreat
/-! ## Package mem: Close. -/
namespace Go.Proofs.YtppmicepkjhfeaaGreat
open Go.RowKit
set_option linter.unusedVariables false

theorem Keeps.mono {F F' : Nat → Prop} {w w' : World} (h : Keeps F w w') (hF : ∀ j, j < w.heap.size → F j → F' j) : Keeps F' w w' :=
  ⟨h.os, h.tape, h.output, h.size, fun k hk hn => h.block k hk (fun q => hn (hF k hk q))⟩
theorem clo_f {L : List Spc} {k : Nat} (hk : k < L.length) (ho : (L.getD k (false, [])).1 = true) : clo L k = false := by
  unfold clo; rw [ho]; simp
/-- a space has been closed: its words are gone, its number is among the closed ones -/
theorem MO.closed {w w2 : World} {R : Nat → Nat} {mb mm : Nat} {sv qv : Value} {U : Nat → Value} {Q : List Nat} {L : List Spc} {a b : Nat} {h g : Int} (m : MO w R mb mm sv qv U Q L a b h g) {k : Nat} (hk : k < L.length) (ho : (L.getD k (false, [])).1 = true) {sg sc : Nat} (esv : sv = .slice (some ⟨sg, 0, none⟩) L.length sc) (hsg : R sg = 3) (sr : Row w sg L.length U) (hsc : L.length ≤ sc) (hscm : sc ≤ maxLen) (sce : Cells w sg 95 sc)
    {gq cq : Nat} {Q' : List Nat} {n1 : Nat} (hn1 : Q'.length = n1) (hc : n1 ≤ cq) (hcm : cq ≤ maxLen) (hg : R gq = 4 ∨ (w.setCell ⟨sg, k, none⟩ (.slice none 0 0)).heap.size ≤ gq) (row : WRw w2 mb mm sv (.slice (some ⟨gq, 0, none⟩) n1 cq)) (qr : Row w2 gq n1 (nqv Q')) (qce : Cells w2 gq 3 cq) (hh : HeapN Q' n1) (hp : Q'.Perm (k :: Q)) (K : Keeps (fun j => R j = 4 ∨ j = mb) (w.setCell ⟨sg, k, none⟩ (.slice none 0 0)) w2) :
    MO w2 (fun j => if j = gq then 4 else R j) mb mm sv (.slice (some ⟨gq, 0, none⟩) n1 cq) (fun j => if j = k then .slice none 0 0 else U j) Q' (L.set k (false, [])) a b h g ∧ TR R (fun j => if j = gq then 4 else R j) w w2 := by
  have sz : (w.setCell ⟨sg, k, none⟩ (.slice none 0 0)).heap.size = w.heap.size := by simp
  rw [sz] at hg
  have K0 : Keeps (fun j => R j = 3 ∨ R j = 4 ∨ j = mb) w w2 :=
    (Keeps.set (F := fun j => R j = 3 ∨ R j = 4 ∨ j = mb) w sg k (.slice none 0 0) (.inl hsg)).trans K (fun j _ q => by
      rcases q with q | q
      · exact .inr (.inl q)
      · exact .inr (.inr q))
  have e1 := m.r1
  have e2 := m.r2
  have lt1 := m.row.lt
  have n34 : ∀ j, R j ≠ 3 → R j ≠ 4 → R j ≠ 1 → ¬ (R j = 3 ∨ R j = 4 ∨ j = mb) := fun j h3 h4 h1 q => by
    rcases q with q | q | q
    · exact h3 q
    · exact h4 q
    · exact h1 (q ▸ e1)
  have n4 : ∀ j, R j ≠ 4 → R j ≠ 1 → ¬ (R j = 4 ∨ j = mb) := fun j h4 h1 q => by
    rcases q with q | q
    · exact h4 q
    · exact h1 (q ▸ e1)
  have lt2 : mm < w.heap.size := m.met.lt
  have new : ∀ j, j < w.heap.size → R j ≠ 4 → j ≠ gq := fun j hj h4 e => by
    subst e
    rcases hg with q | q
    · exact h4 q
    · omega
  have Rn : ∀ j, j < w.heap.size → R j ≠ 4 → (if j = gq then 4 else R j) = R j := fun j hj h4 => if_neg (new j hj h4)
  have lnQ : Q'.length = Q.length + 1 := by have := hp.length_eq; simpa using this
  refine ⟨⟨fun j hj => ?_, ?_, ?_, row, Row.keeps m.met K0 (n34 mm (by omega) (by omega) (by omega)), ?_, ?_, fun i hi => ?_, by rw [hn1]; exact hh, fun x => ?_, ?_, by rw [List.length_set]; exact m.lc, fun i hi => ?_, m.na, m.nb, m.fit⟩, ⟨K0.mono (fun j _ q => by
    rcases q with q | q | q
    · omega
    · omega
    · subst q; omega), fun j hj q => ?_⟩⟩
  · by_cases e : j = gq
    · subst e; exact qr.lt
    · rw [if_neg e] at hj; exact Nat.lt_of_lt_of_le (m.hi j hj) K0.size
  · show (if mb = gq then 4 else R mb) = 1
    rw [Rn mb lt1 (by omega)]; exact e1
  · show (if mm = gq then 4 else R mm) = 2
    rw [Rn mm lt2 (by omega)]; exact e2
  · rw [List.length_set]
    refine .inr ⟨sg, sc, esv, hsc, hscm, ?_, ?_, ?_⟩
    · show (if sg = gq then 4 else R sg) = 3
      rw [Rn sg sr.lt (by omega)]; exact hsg
    · exact (sr.set k hk (.slice none 0 0)).keeps K (n4 sg (by omega) (by omega))
    · exact (sce.set sg k _).keeps K (n4 sg (by omega) (by omega))
  · exact .inr ⟨gq, cq, by rw [hn1], by rw [hn1]; exact hc, hcm, if_pos rfl, by rw [hn1]; exact qr, qce⟩
  · rw [List.length_set] at hi
    rw [getD_set L k i _ hk]
    show WD w2 _ (5 + i) (if i = k then .slice none 0 0 else U i) _
    by_cases e : i = k
    · rw [if_pos e, if_pos e]; exact .inl ⟨rfl, rfl, rfl⟩
    · rw [if_neg e, if_neg e]
      refine (m.wd i hi).keeps K0 (fun j _ hj => n34 j (by omega) (by omega) (by omega)) (fun j hlt hj => ?_)
      · show (if j = gq then 4 else R j) = 5 + i
        rw [Rn j hlt (by omega)]; exact hj
  · rw [hp.count_eq, List.count_cons, clo_set L k x _ hk, m.cq x]
    by_cases e : x = k
    · subst e; rw [clo_f hk ho]; simp
    · rw [if_neg e]; simp [Ne.symm e]
  · have c := countv_set L k (false, []) hk
    rw [ho] at c
    have := m.ln
    rw [List.length_set]
    simp at c; omega
  · rw [List.length_set] at hi
    rw [wds_set L k i _ hk]
    split
    · simp
    · exact m.lw i hi
  · by_cases e : j = gq
    · subst e
      rcases hg with q' | q'
      · omega
      · omega
    · rw [if_neg e] at q; exact q

end Go.Proofs.YtppmicepkjhfeaaGreat
/-! ## Package mem: number: a Mem with a place that waits for its words. -/
namespace Go.Proofs.YtppmicepkjhfeaaGreat
open Go.RowKit
set_option linter.unusedVariables false

/-- A Mem whose space k is closed and whose number k is not among the closed ones. -/
structure MH (w : World) (R : Nat → Nat) (mb mm : Nat) (sv qv : Value) (U : Nat → Value) (Q : List Nat) (L : List Spc) (k a b : Nat) (h g : Int) : Prop where
  hi : ∀ j, R j ≠ 0 → j < w.heap.size
  r1 : R mb = 1
  r2 : R mm = 2
  row : WRw w mb mm sv qv
  met : MRow w mm a b h g
  sp : ZQ w (fun j => R j = 3) 95 sv L.length U
  cl : ZQ w (fun j => R j = 4) 3 qv Q.length (nqv Q)
  wd : ∀ i, i < L.length → WD w R (5 + i) (U i) (L.getD i (false, []))
  hp : HeapN Q Q.length
  hk : k < L.length
  hole : L.getD k (false, []) = (false, [])
  cq : ∀ x, Q.count x = if x = k then 0 else if clo L x then 1 else 0
  ln : Q.length + countv L + 1 = L.length
  lc : L.length ≤ 262144
  lw : ∀ i, i < L.length → (wds L i).length ≤ 4194304
  na : N128 a
  nb : N128 b
  fit : Fit h g
theorem clo_of {L : List Spc} {k : Nat} (h : clo L k = true) : k < L.length ∧ (L.getD k (false, [])).1 = false := by
  unfold clo at h
  rw [Bool.and_eq_true, decide_eq_true_iff] at h
  exact ⟨h.1, by simpa using h.2⟩
theorem clo_t {L : List Spc} {k : Nat} (h : k < L.length) (o : (L.getD k (false, [])).1 = false) : clo L k = true := by
  unfold clo; rw [o, decide_eq_true h]; rfl
theorem mem_count {Q : List Nat} {x : Nat} (h : x ∈ Q) : 0 < Q.count x := List.count_pos_iff.2 h
theorem MO.closed_in {w : World} {R : Nat → Nat} {mb mm : Nat} {sv qv : Value} {U : Nat → Value} {Q : List Nat} {L : List Spc} {a b : Nat} {h g : Int} (m : MO w R mb mm sv qv U Q L a b h g) {x : Nat} : x ∈ Q ↔ clo L x = true := by
  have c := m.cq x
  constructor
  · intro hx
    have := mem_count hx
    by_cases e : clo L x = true
    · exact e
    · rw [if_neg e] at c; omega
  · intro e
    rw [if_pos e] at c
    exact List.count_pos_iff.1 (by omega)
/-- the least closed number is the first one that is free -/
theorem MO.first {w : World} {R : Nat → Nat} {mb mm : Nat} {sv qv : Value} {U : Nat → Value} {Q : List Nat} {L : List Spc} {a b : Nat} {h g : Int} (m : MO w R mb mm sv qv U Q L a b h g) (hQ : 0 < Q.length) : nq Q 0 < L.length ∧ (L.getD (nq Q 0) (false, [])).1 = false ∧ firstc L = nq Q 0 := by
  obtain ⟨h1, h2⟩ := clo_of (m.closed_in.1 (nq_mem Q 0 hQ))
  refine ⟨h1, h2, firstc_eq L _ (fun j hj => ?_) (.inr ⟨h1, h2⟩)⟩
  cases o : (L.getD j (false, [])).1
  · have hm := m.closed_in.2 (clo_t (show j < L.length by omega) o)
    obtain ⟨i, hi, e⟩ := List.getElem_of_mem hm
    have := HeapN.least m.hp i hi
    have e2 : nq Q i = j := by unfold nq; rw [List.getD_eq_getElem?_getD, List.getElem?_eq_getElem hi]; exact e
    omega
  · rfl
theorem MO.full {w : World} {R : Nat → Nat} {mb mm : Nat} {sv qv : Value} {U : Nat → Value} {Q : List Nat} {L : List Spc} {a b : Nat} {h g : Int} (m : MO w R mb mm sv qv U Q L a b h g) (hQ : Q.length = 0) : firstc L = L.length := by
  refine firstc_eq L _ (fun j hj => ?_) (.inl rfl)
  cases o : (L.getD j (false, [])).1
  · have hm := m.closed_in.2 (clo_t hj o)
    rw [List.length_eq_zero_iff.1 hQ] at hm
    cases hm
  · rfl
theorem MO.wd_closed {w : World} {R : Nat → Nat} {mb mm : Nat} {sv qv : Value} {U : Nat → Value} {Q : List Nat} {L : List Spc} {a b : Nat} {h g : Int} (m : MO w R mb mm sv qv U Q L a b h g) {k : Nat} (hk : k < L.length) (o : (L.getD k (false, [])).1 = false) : L.getD k (false, []) = (false, []) ∧ U k = .slice none 0 0 := by
  rcases m.wd k hk with ⟨e0, e1, e2⟩ | ⟨e0, _⟩
  · exact ⟨Prod.ext e0 e1, e2⟩
  · rw [o] at e0; cases e0
theorem opened_pop {L : List Spc} {k : Nat} (hk : k < L.length) (f : firstc L = k) (n : Nat) : L.set k (true, List.replicate n 0) = opened L n := by
  unfold opened; rw [f, if_pos hk]
theorem opened_app {L : List Spc} (f : firstc L = L.length) (n : Nat) : (L ++ [(false, [])]).set L.length (true, List.replicate n 0) = opened L n := by
  unfold opened; rw [f, if_neg (by omega), List.set_append_right _ _ (Nat.le_refl _)]; simp
theorem MH.of_pop {w w1 : World} {R : Nat → Nat} {mb mm : Nat} {sv qv : Value} {U : Nat → Value} {Q Q' : List Nat} {L : List Spc} {a b : Nat} {h g : Int} (m : MO w R mb mm sv qv U Q L a b h g) (hQ : 0 < Q.length) {gq c n : Nat} (hg : R gq = 4) (hn : Q'.length = n) (hc : n ≤ c) (hcm : c ≤ maxLen) (row : WRw w1 mb mm sv (.slice (some ⟨gq, 0, none⟩) n c)) (qr : Row w1 gq n (nqv Q')) (qce : Cells w1 gq 3 c) (hh : HeapN Q' n) (hp : (nq Q 0 :: Q').Perm Q) (K : Keeps (fun j => j = gq ∨ j = mb) w w1) :
    MH w1 R mb mm sv (.slice (some ⟨gq, 0, none⟩) n c) U Q' L (nq Q 0) a b h g ∧ TR R R w w1 := by
  obtain ⟨hk, ho, _⟩ := m.first hQ
  have e1 := m.r1
  have e2 := m.r2
  have nn : ∀ j, R j ≠ 4 → R j ≠ 1 → ¬ (j = gq ∨ j = mb) := fun j h4 h1 q => by
    rcases q with q | q
    · exact h4 (q ▸ hg)
    · exact h1 (q ▸ e1)
  have lnQ : Q.length = Q'.length + 1 := by have := hp.length_eq; simpa using this.symm
  refine ⟨⟨fun j hj => Nat.lt_of_lt_of_le (m.hi j hj) K.size, e1, e2, row, Row.keeps m.met K (nn mm (by omega) (by omega)), m.sp.keeps K (fun j _ h3 => nn j (by omega) (by omega)) (fun _ _ h => h), .inr ⟨gq, c, by rw [hn], by rw [hn]; exact hc, hcm, hg, by rw [hn]; exact qr, qce⟩, fun i hi => (m.wd i hi).keeps K (fun j _ h5 => nn j (by omega) (by omega)) (fun _ _ h => h), by rw [hn]; exact hh, hk, (m.wd_closed hk ho).1, fun x => ?_, by have := m.ln; omega, m.lc, m.lw, m.na, m.nb, m.fit⟩, ⟨K.mono (fun j _ q => by
    rcases q with q | q
    · subst q; omega
    · subst q; omega), fun _ _ q => q⟩⟩
  have c1 := hp.count_eq x
  rw [List.count_cons, m.cq x] at c1
  by_cases e : x = nq Q 0
  · rw [if_pos e]
    rw [e, clo_t hk ho] at c1
    rw [e]
    simp at c1; omega
  · rw [if_neg e]
    simp [Ne.symm e] at c1
    exact c1
theorem clo_app (L : List Spc) (x : Nat) : clo (L ++ [(false, [])]) x = if x = L.length then true else clo L x := by
  unfold clo
  by_cases e : x = L.length
  · subst e; rw [if_pos rfl]; simp [List.getD]
  · rw [if_neg e]
    by_cases h : x < L.length
    · simp [List.getD, List.getElem?_append_left h, h]; omega
    · rw [decide_eq_false (by simp; omega), decide_eq_false h]; rfl
theorem MH.of_app {w W w1 w2 : World} {R : Nat → Nat} {mb mm : Nat} {sv qv : Value} {U : Nat → Value} {Q : List Nat} {L : List Spc} {a b : Nat} {h g : Int} (m : MO w R mb mm sv qv U Q L a b h g) (hQ : Q.length = 0) (hl : L.length < 262144) (BW : Below w.heap.size w W) {gs c : Nat} (hg : R gs = 3 ∨ W.heap.size ≤ gs) (hc : L.length + 1 ≤ c) (hcm : c ≤ maxLen) (sr : Row w1 gs (L.length + 1) (fun j => if j < L.length then U j else .slice none 0 0)) (sce : Cells w1 gs 95 c) (K : Keeps (fun j => R j = 3) W w1) (hw2 : w2 = w1.setCell ⟨mb, 1, none⟩ (.slice (some ⟨gs, 0, none⟩) (L.length + 1) c)) :
    MH w2 (fun j => if j = gs then 3 else R j) mb mm (.slice (some ⟨gs, 0, none⟩) (L.length + 1) c) qv (fun j => if j < L.length then U j else .slice none 0 0) Q (L ++ [(false, [])]) L.length a b h g ∧ TR R (fun j => if j = gs then 3 else R j) w w2 := by
  have e1 := m.r1
  have e2 := m.r2
  have sW := BW.size
  have K1 : Keeps (fun j => R j = 3) w w1 := (Keeps.of (F := fun j => R j = 3) BW).trans K (fun _ _ q => q)
  have lt1 := m.row.lt
  have lt2 : mm < w.heap.size := m.met.lt
  have new : ∀ j, j < w.heap.size → R j ≠ 3 → j ≠ gs := fun j hj h3 e => by
    subst e
    rcases hg with q | q
    · exact h3 q
    · omega
  have Rn : ∀ j, j < w.heap.size → R j ≠ 3 → (if j = gs then 3 else R j) = R j := fun j hj h3 => if_neg (new j hj h3)
  have KS : Keeps (fun j => j = mb) w1 w2 := by rw [hw2]; exact Keeps.set _ mb 1 _ rfl
  have K2 : Keeps (fun j => R j = 3 ∨ j = mb) w w2 := (K1.mono (F' := fun j => R j = 3 ∨ j = mb) (fun _ _ q => .inl q)).trans KS (fun _ _ q => .inr q)
  have nn : ∀ j, R j ≠ 3 → R j ≠ 1 → ¬ (R j = 3 ∨ j = mb) := fun j h3 h1 q => by
    rcases q with q | q
    · exact h3 q
    · exact h1 (q ▸ e1)
  have gne : gs ≠ mb := fun e => new mb lt1 (by omega) e.symm
  have la : (L ++ [((false, []) : Spc)]).length = L.length + 1 := by simp
  have mrow1 : WRw w1 mb mm sv qv := Row.keeps m.row K1 (by show ¬ R mb = 3; omega)
  refine ⟨⟨fun j hj => ?_, ?_, ?_, by rw [hw2]; exact mrow1.setS _, Row.keeps m.met K2 (nn mm (by omega) (by omega)), ?_, m.cl.keeps K2 (fun j _ h4 => nn j (by omega) (by omega)) (fun j hlt h4 => ?_), fun i hi => ?_, m.hp, by rw [la]; omega, by simp [List.getD], fun x => ?_, ?_, by rw [la]; omega, fun i hi => ?_, m.na, m.nb, m.fit⟩, ⟨K2.mono (fun j _ q => by
    rcases q with q | q
    · omega
    · subst q; omega), fun j hj q => ?_⟩⟩
  · by_cases e : j = gs
    · subst e; exact Nat.lt_of_lt_of_le sr.lt KS.size
    · rw [if_neg e] at hj; exact Nat.lt_of_lt_of_le (m.hi j hj) K2.size
  · show (if mb = gs then 3 else R mb) = 1
    rw [Rn mb lt1 (by omega)]; exact e1
  · show (if mm = gs then 3 else R mm) = 2
    rw [Rn mm lt2 (by omega)]; exact e2
  · rw [la]
    exact .inr ⟨gs, c, rfl, hc, hcm, if_pos rfl, sr.keeps KS gne, sce.keeps KS gne⟩
  · show (if j = gs then 3 else R j) = 4
    rw [Rn j hlt (by omega)]; exact h4
  · rw [la] at hi
    show WD w2 _ (5 + i) (if i < L.length then U i else .slice none 0 0) _
    by_cases e : i < L.length
    · rw [if_pos e]
      have gd : (L ++ [((false, []) : Spc)]).getD i (false, []) = L.getD i (false, []) := by simp [List.getD, List.getElem?_append_left e]
      rw [gd]
      refine (m.wd i e).keeps K2 (fun j _ h5 => nn j (by omega) (by omega)) (fun j hlt h5 => ?_)
      show (if j = gs then 3 else R j) = 5 + i
      rw [Rn j hlt (by omega)]; exact h5
    · rw [if_neg e]
      have ei : i = L.length := by omega
      subst ei
      exact .inl (by simp [List.getD])
  · rw [m.cq x, clo_app]
    have := List.length_eq_zero_iff.1 hQ
    by_cases e : x = L.length
    · rw [if_pos e]
      have : ¬ clo L x = true := fun q => by have := (clo_of q).1; omega
      rw [if_neg this]
    · rw [if_neg e, if_neg e]
  · rw [countv_snoc, la]
    have := m.ln
    simp; omega
  · rw [la] at hi
    by_cases e : i < L.length
    · have := m.lw i e
      unfold wds at this ⊢
      simp only [List.getD, List.getElem?_append_left e]
      exact this
    · have ei : i = L.length := by omega
      subst ei
      unfold wds; simp [List.getD]
  · by_cases e : j = gs
    · subst e
      rcases hg with q' | q'
      · omega
      · omega
    · rw [if_neg e] at q; exact q
/-- the place is filled -/
theorem MH.put {w wa w2 : World} {R : Nat → Nat} {mb mm : Nat} {sv qv : Value} {U : Nat → Value} {Q : List Nat} {L : List Spc} {k a b : Nat} {h g : Int} (m : MH w R mb mm sv qv U Q L k a b h g) {n : Nat} (hn : n ≤ 4194304) (ew : wa = w.alloc (.cells (zrow n).toArray 40)) {sg sc : Nat} (esv : sv = .slice (some ⟨sg, 0, none⟩) L.length sc) (hsg : R sg = 3) (sr : Row w sg L.length U) (hsc : L.length ≤ sc) (hscm : sc ≤ maxLen) (sce : Cells w sg 95 sc)
    (e2w : w2 = wa.setCell ⟨sg, k, none⟩ (.slice (some ⟨w.heap.size, 0, none⟩) n n)) :
    MO w2 (fun j => if j = w.heap.size then 5 + k else R j) mb mm sv qv (fun j => if j = k then .slice (some ⟨w.heap.size, 0, none⟩) n n else U j) Q (L.set k (true, List.replicate n 0)) a b h g ∧ TR R (fun j => if j = w.heap.size then 5 + k else R j) w w2 := by
  have e1 := m.r1
  have e2 := m.r2
  have BA : Below w.heap.size w wa := by rw [ew]; exact bAlloc (Below.refl _ _) _
  have sa : wa.heap.size = w.heap.size + 1 := by rw [ew]; simp
  have KS : Keeps (fun j => j = sg) wa w2 := by rw [e2w]; exact Keeps.set _ sg k _ rfl
  have K2 : Keeps (fun j => R j = 3) w w2 := (Keeps.of (F := fun j => R j = 3) BA).trans KS (fun j _ q => by show R j = 3; rw [q]; exact hsg)
  have Rn : ∀ j, j < w.heap.size → (if j = w.heap.size then 5 + k else R j) = R j := fun j hj => if_neg (by omega)
  have lt1 := m.row.lt
  have lt2 : mm < w.heap.size := m.met.lt
  have nsg : w.heap.size ≠ sg := by have := sr.lt; omega
  have lr : (List.replicate n (0 : Nat)).length = n := List.length_replicate
  refine ⟨⟨fun j hj => ?_, ?_, ?_, Row.keeps m.row K2 (by show ¬ R mb = 3; omega), Row.keeps m.met K2 (by show ¬ R mm = 3; omega), ?_, m.cl.keeps K2 (fun j _ h4 => by show ¬ R j = 3; omega) (fun j hlt h4 => by show (if j = w.heap.size then 5 + k else R j) = 4; rw [Rn j hlt]; exact h4), fun i hi => ?_, m.hp, fun x => ?_, ?_, by rw [List.length_set]; exact m.lc, fun i hi => ?_, m.na, m.nb, m.fit⟩, ⟨K2.mono (fun j _ q => by show R j ≠ 0; have : R j = 3 := q; omega), fun j hj q => by rw [Rn j hj] at q; exact q⟩⟩
  · have s2 := KS.size
    by_cases e : j = w.heap.size
    · omega
    · rw [if_neg e] at hj; have := m.hi j hj; omega
  · show (if mb = w.heap.size then 5 + k else R mb) = 1
    rw [Rn mb lt1]; exact e1
  · show (if mm = w.heap.size then 5 + k else R mm) = 2
    rw [Rn mm lt2]; exact e2
  · rw [List.length_set]
    refine .inr ⟨sg, sc, esv, hsc, hscm, ?_, ?_, ?_⟩
    · show (if sg = w.heap.size then 5 + k else R sg) = 3
      rw [Rn sg sr.lt]; exact hsg
    · rw [e2w]; exact (sr.below BA).set k m.hk _
    · rw [e2w]; exact (sce.below BA).set sg k _
  · rw [List.length_set] at hi
    rw [getD_set L k i _ m.hk]
    show WD w2 _ (5 + i) (if i = k then .slice (some ⟨w.heap.size, 0, none⟩) n n else U i) _
    by_cases e : i = k
    · rw [if_pos e, if_pos e, e]
      refine .inr ⟨rfl, w.heap.size, n, by rw [lr], by rw [lr]; exact Nat.le_refl _, by unfold maxLen; omega, if_pos rfl, ?_, ?_⟩
      · rw [lr]
        refine Row.keeps (w := wa) ?_ KS nsg
        rw [ew]; exact zrow_new w n
      · refine Cells.keeps (w := wa) ?_ KS nsg
        rw [ew]; exact cells_new w n
    · rw [if_neg e, if_neg e]
      exact (m.wd i hi).keeps K2 (fun j _ h5 => by show ¬ R j = 3; omega) (fun j hlt h5 => by show (if j = w.heap.size then 5 + k else R j) = 5 + i; rw [Rn j hlt]; exact h5)
  · rw [m.cq x, clo_set L k x _ m.hk]
    by_cases e : x = k
    · rw [if_pos e, if_pos e]; rfl
    · rw [if_neg e, if_neg e]
  · have c := countv_set L k (true, List.replicate n 0) m.hk
    rw [m.hole] at c
    have := m.ln
    rw [List.length_set]
    simp at c; omega
  · rw [List.length_set] at hi
    rw [wds_set L k i _ m.hk]
    split
    · show (List.replicate n 0).length ≤ _
      rw [lr]; exact hn
    · exact m.lw i hi
theorem MO.drew {w : World} {R : Nat → Nat} {mb mm : Nat} {sv qv : Value} {U : Nat → Value} {Q : List Nat} {L : List Spc} {a b : Nat} {h g : Int} (m : MO w R mb mm sv qv U Q L a b h g) : MO w.drew R mb mm sv qv U Q L a b h g := m.below (Below.refl _ _).drew
theorem TR.drew {R R' : Nat → Nat} {w w' : World} (h : TR R R' w w') : TR R R' w w'.drew := h.trans (TR.of (Below.refl _ _).drew)
theorem MH.drew {w : World} {R : Nat → Nat} {mb mm : Nat} {sv qv : Value} {U : Nat → Value} {Q : List Nat} {L : List Spc} {k a b : Nat} {h g : Int} (m : MH w R mb mm sv qv U Q L k a b h g) : MH w.drew R mb mm sv qv U Q L k a b h g := by
  have B : Below w.heap.size w w.drew := (Below.refl _ _).drew
  exact ⟨m.hi, m.r1, m.r2, m.row.drew, m.met.drew, m.sp.below B, m.cl.below B, fun i hi => (m.wd i hi).keeps (Keeps.of (F := fun _ => False) B) (fun _ _ _ h => h) (fun _ _ h => h), m.hp, m.hk, m.hole, m.cq, m.ln, m.lc, m.lw, m.na, m.nb, m.fit⟩
end Go.Proofs.YtppmicepkjhfeaaGreat
/-! ## Package mem: number, Open. -/
namespace Go.Proofs.YtppmicepkjhfeaaGreat
open Go.RowKit
set_option linter.unusedVariables false

theorem infoU : (Tryz.prog.info? 95).map (fun i => (i.zero, i.size, i.bytes)) = some (some (.slice none 0 0), 1, 24) := by kernel_rfl
set_option maxRecDepth 100000 in
set_option maxHeartbeats 1000000 in
theorem number_pop (mb mm : Nat) (R : Nat → Nat) (sv qv : Value) (U : Nat → Value) (Q : List Nat) (L : List Spc) (a b : Nat) (h g : Int) (w : World) (m : MO w R mb mm sv qv U Q L a b h g) (hQ : 0 < Q.length) :
    Calls Tryz.prog 108 #[at0 mb] w fun e w' => ∃ qv' Q', e = .returned (.int .i64 ((nq Q 0 : Nat) : Int)) ∧ MH w' R mb mm sv qv' U Q' L (nq Q 0) a b h g ∧ TR R R w w' := by
  rcases m.cl with ⟨_, e⟩ | ⟨gq, c, rfl, hc, hcm, hg, qr, qce⟩
  · omega
  obtain ⟨n, hn⟩ : ∃ n, Q.length = n := ⟨_, rfl⟩
  obtain ⟨p, hp⟩ : ∃ p, n = p + 1 := ⟨n - 1, by omega⟩
  have gne : mb ≠ gq := fun e => by have := m.r1; have : R gq = 4 := hg; subst e; omega
  have lc := m.lc
  have ln := m.ln
  have hh := m.hp
  have PO := Lib.hid (hpop_any mb mm gq p c sv Q w n hp (by rw [← hn]; exact m.row) gne (by rw [← hn]; exact qr) qce hn (by omega) hcm (by omega) hh)
  have PP := Lib.hid (fun w1 Q' => MH.of_pop (w1 := w1) (gq := gq) (c := c) (n := p) (Q' := Q') m hQ hg)
  have HC := Lib.hid (show p ≤ c by omega)
  have HCM := Lib.hid hcm
  obtain ⟨m0, m1, m2, mf, ml⟩ := m.row.all
  rw [hn] at m2
  have i0 : 0 < n := by omega
  have RA := fun w => run_as ((nq Q 0 : Nat) : Int) w
  clear m qr qce hc hcm hg lc ln hh hn hp hQ gne
  generalize nq Q 0 = x at *
  go_enter Tryz.func108, Tryz.ntmps108
  go_wp2_with fail
  with_reducible refine PO.out.mono ?_
  rintro e w1 ⟨rfl, Q', ln', row1, qr1, ce1, h1, p1, K1⟩
  dsimp only
  go_wp2_with fail
  go_ret
  obtain ⟨M, T⟩ := PP.out w1 Q' ln' HC.out HCM.out row1 qr1 ce1 h1 p1 K1
  exact ⟨_, _, rfl, M, T⟩
set_option maxRecDepth 100000 in
set_option maxHeartbeats 1000000 in
theorem number_app (mb mm : Nat) (R : Nat → Nat) (sv qv : Value) (U : Nat → Value) (Q : List Nat) (L : List Spc) (a b : Nat) (h g : Int) (w : World) (m : MO w R mb mm sv qv U Q L a b h g) (hQ : Q.length = 0) (hl : L.length < 262144) :
    Calls Tryz.prog 108 #[at0 mb] w fun e w' => ∃ R' sv' U', e = .returned (.int .i64 ((L.length : Nat) : Int)) ∧ MH w' R' mb mm sv' qv U' Q (L ++ [(false, [])]) L.length a b h g ∧ TR R R' w w' := by
  obtain ⟨i0, hi, hz0, hz1, hz2⟩ := info_parts2 infoU
  obtain ⟨m0, m1, m2, mf, ml⟩ := m.row.all
  obtain ⟨qa, qc, rfl⟩ := m.cl.slice
  rw [hQ] at m2
  have BA := bAlloc (Below.refl w.heap.size w) (.cells #[.slice none 0 0] 95)
  obtain ⟨gs, c, w1, hr, hc, hcm, hg, sr, sce, K⟩ := push1 (P := Tryz.prog) (w.alloc (.cells #[.slice none 0 0] 95)) (fun j => R j = 3) 95 27 27 i0 _ 24 Tryz.underlying27 hi hz0 hz1 hz2 rfl (by decide) sv L.length U (m.sp.below BA) w.heap.size (.slice none 0 0) (by rw [World.cell?_alloc_new]; rfl) rfl (by omega)
  have M1 : WRw w1 mb mm sv (.slice qa Q.length qc) := Row.keeps (m.row.below BA) K (by show ¬ R mb = 3; have := m.r1; omega)
  obtain ⟨t0, t1, t2, tf, tl⟩ := M1.all
  obtain ⟨w2, hw2⟩ : ∃ w2, w2 = w1.setCell ⟨mb, 1, none⟩ (.slice (some ⟨gs, 0, none⟩) (L.length + 1) c) := ⟨_, rfl⟩
  obtain ⟨MH1, TR1⟩ := MH.of_app m hQ hl BA hg hc hcm sr sce K hw2
  have HM := Lib.hid MH1
  have HT := Lib.hid TR1
  have row2 := MH1.row
  obtain ⟨y0, y1, y2, yf, yl⟩ := row2.all
  have HW := Lib.hid hw2
  have HH := Lib.hid hr
  obtain ⟨n1, hn1⟩ : ∃ n1, L.length + 1 = n1 := ⟨_, rfl⟩
  rw [hn1] at y1 HH HW hc
  have e0 : (n1 : Int) - 1 = (L.length : Int) := by omega
  have wk : wrap64 (L.length : Int) = (L.length : Int) := by unfold wrap64; omega
  clear m hi hz0 hz1 hz2 BA hr hc hcm hg sr sce K M1 MH1 TR1 row2 hw2 hn1 hl
  go_enter Tryz.func108, Tryz.ntmps108
  go_wp2_with (at_builtin; refine Lib.wpList_append_run _ rfl _ _ _ _ rfl _ _ rfl rfl _ _ HH.out ?_)
  go_ret
  rw [← HW.out]
  exact ⟨_, _, _, by first | rfl | (rw [wk]; rfl), HM.out, HT.out⟩
theorem number_any (mb mm : Nat) (R : Nat → Nat) (sv qv : Value) (U : Nat → Value) (Q : List Nat) (L : List Spc) (a b : Nat) (h g : Int) (w : World) (m : MO w R mb mm sv qv U Q L a b h g) (hl : countv L < 262144) :
    Calls Tryz.prog 108 #[at0 mb] w fun e w' => ∃ k L' R' sv' qv' U' Q', e = .returned (.int .i64 ((k : Nat) : Int)) ∧ firstc L = k ∧ (∀ n, L'.set k (true, List.replicate n 0) = opened L n) ∧ MH w' R' mb mm sv' qv' U' Q' L' k a b h g ∧ TR R R' w w' := by
  by_cases hQ : Q.length = 0
  · have f := m.full hQ
    refine (number_app mb mm R sv qv U Q L a b h g w m hQ (by have := m.ln; omega)).mono fun e w' ⟨R', sv', U', he, M, T⟩ => ?_
    exact ⟨_, _, _, _, _, _, _, he, f, fun n => opened_app f n, M, T⟩
  · obtain ⟨hk, _, f⟩ := m.first (show 0 < Q.length by omega)
    refine (number_pop mb mm R sv qv U Q L a b h g w m (by omega)).mono fun e w' ⟨qv', Q', he, M, T⟩ => ?_
    exact ⟨_, _, _, _, _, _, _, he, f, fun n => opened_pop hk f n, M, T⟩

theorem mopen_neg (mb : Nat) (n : Int) (hn : n < 0) (w : World) :
    Calls Tryz.prog 81 #[at0 mb, .int .i64 n] w fun e w' => e = .returned (.tuple #[.int .i64 0, .int .i64 1]) ∧ w' = w := by
  go_enter Tryz.func81, Tryz.ntmps81
  go_wp2_with fail
  exact bodyPost_ret (v := .tuple #[.int .i64 0, .int .i64 1]) (by simp [results, Tryz.results81, go_sem]) rfl ⟨rfl, rfl⟩
theorem mopen_long (mb : Nat) (n : Int) (hn : 4194304 < n) (w : World) :
    Calls Tryz.prog 81 #[at0 mb, .int .i64 n] w fun e w' => e = .returned (.tuple #[.int .i64 0, .int .i64 7]) ∧ w' = w := by
  have n0 : decide (n < 0) = false := decide_eq_false (by omega)
  go_enter Tryz.func81, Tryz.ntmps81
  go_wp2_with fail
  exact bodyPost_ret (v := .tuple #[.int .i64 0, .int .i64 7]) (by simp [results, Tryz.results81, go_sem]) rfl ⟨rfl, rfl⟩
set_option maxRecDepth 100000 in
set_option maxHeartbeats 1000000 in
theorem mopen_ok (mb mm : Nat) (R : Nat → Nat) (L : List Spc) (a b : Nat) (h g : Int) (w : World) (hm : MM w R mb mm L a b h g) (n : Nat) (hn : n ≤ 4194304) (hl : countv L < 262144) :
    Calls Tryz.prog 81 #[at0 mb, .int .i64 (n : Int)] w fun e w' => ∃ R', e = .returned (.tuple #[.int .i64 ((firstc L : Nat) : Int), .int .i64 0]) ∧ MM w' R' mb mm (opened L n) a b (holdh h (n : Int)) (holdg h g (n : Int)) ∧ TR R R' w w' := by
  have SP := Lib.hid (mspaces_any mb mm R L a b h g w hm)
  obtain ⟨sv, qv, U, Q, m⟩ := hm
  have NU := Lib.hid (fun w' (bw : Below w.heap.size w w') => number_any mb mm R sv qv U Q L a b h g w' (m.below bw) hl)
  have FIT := m.fit
  have HO := Lib.hid (fun w' r => hold_any mm a b h g (n : Int) FIT (by omega) w' r)
  have FE := Lib.hid (FIT.hold (n := (n : Int)))
  have NA := Lib.hid m.na
  have NB := Lib.hid m.nb
  have HN := Lib.hid hn
  have MK := make_words n (by omega)
  have cl : ((countv L : Nat) : Int) ≠ 262144 := by omega
  have cl2 : (((countv L : Nat) : Int) == 262144) = false := by simp; omega
  have n1 : decide (4194304 < (n : Int)) = false := decide_eq_false (by omega)
  have n0 : decide ((n : Int) < 0) = false := decide_eq_false (by omega)
  clear m hl FIT hn cl
  generalize countv L = ct at *
  generalize holdh h (n : Int) = h' at *
  generalize holdg h g (n : Int) = g' at *
  generalize holde h (n : Int) = er at *
  go_enter Tryz.func81, Tryz.ntmps81
  go_wp2_with fail
  with_reducible refine SP.out.mono ?_
  rintro e w1 ⟨rfl, b1⟩
  dsimp only
  go_wp2_with fail
  with_reducible refine (NU.out _ b1).mono ?_
  rintro e w2 ⟨k, L', R', sv', qv', U', Q', rfl, fk, op, M, T⟩
  dsimp only
  obtain ⟨m0, m1, m2, mf, ml⟩ := M.row.all
  rcases M.sp with ⟨_, e⟩ | ⟨sg, sc, rfl, hsc, hscm, hsg, sr, sce⟩
  · exact absurd M.hk (by omega)
  have BA := bAlloc (Below.refl w2.heap.size w2) (.cells (zrow n).toArray 40)
  have hk := M.hk
  have c0 := sr.cell k hk
  have c1 := (sr.below BA).cell k hk
  have f0 := sr.free k
  have f1 := (sr.below BA).free k
  have i0 : (0 : Int) ≤ (k : Int) := by omega
  have i1 : (k : Int) < (L'.length : Int) := by omega
  obtain ⟨w3, hw3⟩ : ∃ w3, w3 = (w2.alloc (.cells (zrow n).toArray 40)).setCell ⟨sg, k, none⟩ (.slice (some ⟨w2.heap.size, 0, none⟩) n n) := ⟨_, rfl⟩
  obtain ⟨M3, T3⟩ := M.put HN.out rfl rfl hsg sr hsc hscm sce hw3
  have HM3 := Lib.hid M3
  have HT3 := Lib.hid T3
  have HW := Lib.hid hw3
  have HF := Lib.hid fk
  have HOP := Lib.hid (op n)
  have TT := Lib.hid ((TR.of b1 : TR R R w w1).trans T)
  clear M hsc hscm hsg sr sce BA hk hw3 M3 T3 fk op T b1 SP NU
  go_upto_region 8 with fail
  go_region
  all_goals
    rw [← HW.out]
    clear c0 c1 f0 f1 m0 m1 m2 mf ml
    have M4 := HM3.out
    first
      | (have M5 := M4
         have T5 := TT.out.trans HT3.out
         obtain ⟨m0, m1, m2, mf, ml⟩ := M5.row.all
         go_wp2_with fail
         with_reducible refine (HO.out _ M5.met).mono ?_
         rintro e w4 ⟨rfl, R4, B4⟩
         dsimp only
         go_wp2_with fail
         exact bodyPost_ret (v := .tuple #[.int .i64 (k : Int), .int .i64 0]) (by simp [results, Tryz.results81, go_sem]) rfl ⟨_, by rw [HF.out], by rw [← HOP.out]; exact ⟨_, _, _, _, M5.meter B4 R4 NA.out NB.out FE.out⟩, T5.trans (TR.bar B4 (by rw [M5.r2]; decide))⟩)
      | (have M5 := M4.drew
         have T5 := (TT.out.trans HT3.out).drew
         obtain ⟨m0, m1, m2, mf, ml⟩ := M5.row.all
         go_wp2_with fail
         with_reducible refine (HO.out _ M5.met).mono ?_
         rintro e w4 ⟨rfl, R4, B4⟩
         dsimp only
         go_wp2_with fail
         exact bodyPost_ret (v := .tuple #[.int .i64 (k : Int), .int .i64 0]) (by simp [results, Tryz.results81, go_sem]) rfl ⟨_, by rw [HF.out], by rw [← HOP.out]; exact ⟨_, _, _, _, M5.meter B4 R4 NA.out NB.out FE.out⟩, T5.trans (TR.bar B4 (by rw [M5.r2]; decide))⟩)
end Go.Proofs.YtppmicepkjhfeaaGreat

/-! MemX: A Mem in a caller's hands: one space's words turned, reads and writes where the place is known, stores aside. -/
namespace Go.Proofs.YtppmicepkjhfeaaGreat
open Go.RowKit
set_option linter.unusedVariables false

theorem MM.lens {w : World} {R : Nat → Nat} {mb mm : Nat} {L : List Spc} {a b : Nat} {h g : Int} (m : MM w R mb mm L a b h g) (k : Nat) (hk : k < L.length) : (wds L k).length ≤ 4194304 := by
  obtain ⟨sv, qv, U, Q, m⟩ := m
  exact m.lw k hk
theorem MM.hi {w : World} {R : Nat → Nat} {mb mm : Nat} {L : List Spc} {a b : Nat} {h g : Int} (m : MM w R mb mm L a b h g) : ∀ j, R j ≠ 0 → j < w.heap.size := by
  obtain ⟨sv, qv, U, Q, m⟩ := m
  exact m.hi
theorem MM.ns {w : World} {R : Nat → Nat} {mb mm : Nat} {L : List Spc} {a b : Nat} {h g : Int} (m : MM w R mb mm L a b h g) : N128 a ∧ N128 b := by
  obtain ⟨sv, qv, U, Q, m⟩ := m
  exact ⟨m.na, m.nb⟩
/-- stores aside leave a Mem as it was -/
theorem MM.aside {F : Nat → Prop} {w w' : World} {R : Nat → Nat} {mb mm : Nat} {L : List Spc} {a b : Nat} {h g : Int} (m : MM w R mb mm L a b h g) (k : Keeps F w w') (hF : ∀ j, R j ≠ 0 → ¬ F j) : MM w' R mb mm L a b h g := by
  obtain ⟨sv, qv, U, Q, m⟩ := m
  have nz : ∀ j n, n ≠ 0 → R j = n → ¬ F j := fun j n hn e => hF j (by omega)
  exact ⟨sv, qv, U, Q, fun j hj => Nat.lt_of_lt_of_le (m.hi j hj) k.size, m.r1, m.r2, Row.keeps m.row k (nz mb 1 (by omega) m.r1), Row.keeps m.met k (nz mm 2 (by omega) m.r2), m.sp.keeps k (fun j _ h3 => nz j 3 (by omega) h3) (fun _ _ h => h), m.cl.keeps k (fun j _ h4 => nz j 4 (by omega) h4) (fun _ _ h => h), fun i hi => (m.wd i hi).keeps k (fun j _ h5 => nz j _ (by omega) h5) (fun _ _ h => h), m.hp, m.cq, m.ln, m.lc, m.lw, m.na, m.nb, m.fit⟩
theorem MM.store {w : World} {R : Nat → Nat} {mb mm : Nat} {L : List Spc} {a b : Nat} {h g : Int} (m : MM w R mb mm L a b h g) {q : Nat} (hq : R q = 0) (i : Nat) (v : Value) : MM (w.setCell ⟨q, i, none⟩ v) R mb mm L a b h g :=
  m.aside (F := fun j => j = q) (Keeps.set w q i v rfl) (fun j hj e => hj (e ▸ hq))
theorem MM.alloc {w : World} {R : Nat → Nat} {mb mm : Nat} {L : List Spc} {a b : Nat} {h g : Int} (m : MM w R mb mm L a b h g) (o : Obj) : MM (w.alloc o) R mb mm L a b h g := m.below ((Below.refl _ _).alloc (Nat.le_refl _) o)
theorem MM.drew {w : World} {R : Nat → Nat} {mb mm : Nat} {L : List Spc} {a b : Nat} {h g : Int} (m : MM w R mb mm L a b h g) : MM w.drew R mb mm L a b h g := m.below (Below.refl _ _).drew
theorem TR.below' {R R' : Nat → Nat} {w w1 w2 : World} (t : TR R R' w w1) (b : Below w1.heap.size w1 w2) : TR R R' w w2 := t.trans (TR.of b)
theorem TR.alloc {R R' : Nat → Nat} {w w1 : World} (t : TR R R' w w1) (o : Obj) : TR R R' w (w1.alloc o) := t.below' ((Below.refl _ _).alloc (Nat.le_refl _) o)
theorem TR.store {R R' : Nat → Nat} {w w1 : World} (t : TR R R' w w1) {q : Nat} (hq : w.heap.size ≤ q) (i : Nat) (v : Value) : TR R R' w (w1.setCell ⟨q, i, none⟩ v) :=
  ⟨t.keeps.trans (F' := fun j => j = q) (Keeps.set w1 q i v rfl) (fun j hj e => by omega), t.old⟩
/-- a block that has no role stays -/
theorem Row.tr {R R' : Nat → Nat} {w w' : World} {g n : Nat} {f : Nat → Value} (r : Row w g n f) (t : TR R R' w w') (hg : R g = 0) : Row w' g n f := r.keeps t.keeps (fun q => q hg)

/-! ### the words of one space -/
def setw (L : List Spc) (k : Nat) (ws : List Nat) : List Spc := L.set k ((L.getD k (false, [])).1, ws)
theorem setw_len (L : List Spc) (k : Nat) (ws : List Nat) : (setw L k ws).length = L.length := by unfold setw; simp
theorem setw_wds {L : List Spc} {k : Nat} (hk : k < L.length) (ws : List Nat) : wds (setw L k ws) k = ws := by unfold setw; rw [wds_set L k k _ hk, if_pos rfl]
theorem setw_other {L : List Spc} {k i : Nat} (hk : k < L.length) (ws : List Nat) (h : i ≠ k) : wds (setw L k ws) i = wds L i := by unfold setw; rw [wds_set L k i _ hk, if_neg h]
theorem setw_open {L : List Spc} {k : Nat} (hk : k < L.length) (ws : List Nat) (i : Nat) : ((setw L k ws).getD i (false, [])).1 = (L.getD i (false, [])).1 := by
  unfold setw; rw [getD_set L k i _ hk]
  split
  · rename_i e; rw [e]
  · rfl
theorem setw_setw {L : List Spc} {k : Nat} (hk : k < L.length) (u v : List Nat) : setw (setw L k u) k v = setw L k v := by
  have e := setw_open hk u k
  unfold setw at *
  rw [e, List.set_set]
theorem setw_same {L : List Spc} {k : Nat} (hk : k < L.length) : setw L k (wds L k) = L := by
  unfold setw wds
  have e : ((L.getD k (false, [])).1, (L.getD k (false, [])).2) = L[k] := by simp [List.getD, hk]
  rw [e]; exact List.set_getElem_self hk
attribute [irreducible] setw
theorem wrongv_in {L : List Spc} {k i : Nat} (hk : k < L.length) (ho : (L.getD k (false, [])).1 = true) (hi : i < (wds L k).length) : wrongv L (k : Int) (i : Int) 1 = 0 := by
  unfold wrongv
  rw [if_neg (by rw [isv_t hk ho]; simp), Int.toNat_natCast, if_neg (by omega)]
theorem read_at (mb mm : Nat) (R : Nat → Nat) (L : List Spc) (a b : Nat) (h g : Int) (w : World) (hm : MM w R mb mm L a b h g) (k i : Nat) (hk : k < L.length) (ho : (L.getD k (false, [])).1 = true) (hi : i < (wds L k).length) :
    Calls Tryz.prog 67 #[at0 mb, .int .i64 (k : Int), .int .i64 (i : Int)] w fun e w' => e = .returned (.tuple #[.int .u64 (((wds L k).getD i 0 : Nat) : Int), .int .i64 0]) ∧ MM w' R mb mm L (addv a 1) b h g ∧ TR R R w w' := by
  have H := mread_ok mb mm R L a b h g w hm k i hk hi (isv_t hk ho) (wrongv_in hk ho hi)
  rw [stepv_y a rfl (by omega), stepv_n b (by omega), ← wat_nat] at H
  exact H
theorem write_at (mb mm : Nat) (R : Nat → Nat) (L : List Spc) (a b : Nat) (h g : Int) (w : World) (hm : MM w R mb mm L a b h g) (k i x : Nat) (hk : k < L.length) (ho : (L.getD k (false, [])).1 = true) (hi : i < (wds L k).length) :
    Calls Tryz.prog 37 #[at0 mb, .int .i64 (k : Int), .int .i64 (i : Int), .int .u64 (x : Int)] w fun e w' => e = .returned (.int .i64 0) ∧ MM w' R mb mm (setw L k ((wds L k).set i x)) a (addv b 1) h g ∧ TR R R w w' := by
  have H := mwrite_ok mb mm R L a b h g w hm k i x hk hi (isv_t hk ho) (wrongv_in hk ho hi)
  rw [stepv_y b rfl (by omega), stepv_n a (by omega)] at H
  unfold setw
  exact H
end Go.Proofs.YtppmicepkjhfeaaGreat

/-! MemC: append(l, make([]T, k)...) to a list of one's own: which block the longer list lies in. And what follows from it. -/
/-! ## append(l, make([]T, k)...) to a list of one's own: which block the longer list lies in. -/
namespace Go.Proofs.YtppmicepkjhfeaaGreat
open Go.RowKit
set_option linter.unusedVariables false

/-- append(l, make([]T, k)...) to a list of one's own, the elements of one cell: k noughts behind. -/
theorem run_append_own_zeros_at {P : Program} (w : World) (base : Nat) (t tn ty e : TypeId) (i : TypeInfo) (z : Value) (bytes : Nat) (kq kn : IntKind) (ht : P.underlying t = some (.slice e)) (htn : P.underlying tn = some (.int kn)) (hi : P.info? e = some i) (hz : i.zero = some z)
    (hsize : i.size = 1) (hby : i.bytes = bytes) (hzs : z.cells = #[z]) (h1 : z.oneCell' = true)
    (v : Value) (n : Nat) (xs : List Value) (hown : w.ownsRow base e 1 v n xs) (k : Nat) (hk : 0 < k)
    (h63 : n + k ≤ maxLen) (hbytes : (n + k) * bytes ≤ 140737488355328) (hkb : k * bytes ≤ 140737488355328) (hbase : base ≤ w.heap.size) :
    ∃ v' w', (Builtin.append_ #[t, tn] ty #[v, .int kq (k : Int)]).run P w = .ok v' w' ∧ w'.ownsRow base e 1 v' (n + k) (xs ++ List.replicate k z) ∧ w.grownBy w' v.ownBlock ∧ (v'.ownBlock = v.ownBlock ∨ v'.ownBlock = some w.heap.size) := by
  subst hby
  have hsmall : n + k ≤ 9223372036854775807 := by simp only [maxLen] at h63; omega
  have hlen : (xs ++ List.replicate k z).length = (n + k) * 1 := by rw [List.length_append, hown.1, List.length_replicate, Nat.mul_one, Nat.mul_one]
  have grown : ∀ (old : Nat), old < n + k → ∀ (row : Option Nat),
      (w.drew.alloc (.cells (xs.toArray ++ Builtin.zeroCells z.cells k ++ Builtin.zeroCells z.cells (grownCap w (n + k) old e - (n + k))) e)).ownsRow base e 1
        (.slice (some ⟨w.heap.size, 0, none⟩) (n + k) (grownCap w (n + k) old e)) (n + k) (xs ++ List.replicate k z) ∧
      w.grownBy (w.drew.alloc (.cells (xs.toArray ++ Builtin.zeroCells z.cells k ++ Builtin.zeroCells z.cells (grownCap w (n + k) old e - (n + k))) e)) row := by
    intro old ho row
    have hge := grownCap_ge w (n + k) old e
    have hcm : grownCap w (n + k) old e ≤ maxLen := grownCap_le_maxLen w (n + k) old e h63
    have hx := hown.1
    refine ⟨⟨hlen, .inr ⟨w.heap.size, _, _, rfl, hbase, heap_alloc_new w.drew _, hge, hcm, ?_, ?_⟩⟩, ⟨rfl, rfl, rfl, by simp, fun q hq _ => heap_alloc_old w.drew _ hq⟩⟩
    · simp only [Array.size_append, List.size_toArray, size_zeroCells, hzs, hx]
      simp; omega
    · simp only [Array.toList_append, List.append_assoc]
      rw [hzs, zeroCells_one, ← List.append_assoc, ← hlen]
      exact List.take_left
  rcases hown.2 with ⟨rfl, rfl⟩ | ⟨g, cap, cur, rfl, hbg, hg, hnc, hcm, hcs, htake⟩
  · have hx : xs = [] := List.eq_nil_of_length_eq_zero (by simpa using hown.1)
    subst hx
    have hr := Lib.run_append_nil_zeros (P := P) w t tn ty e i z kq kn ht htn hi hz k hk (by omega) (by omega) (by omega)
    have hgr := grown 0 (by omega) (Value.ownBlock (.slice none 0 0))
    simp only [Nat.zero_add, List.nil_append, Array.empty_append] at hgr ⊢
    exact ⟨_, _, hr, hgr.1, hgr.2, .inr rfl⟩
  · by_cases hroom : n + k ≤ cap
    · have hw : IntKind.i64.wrap (k : Int) = k := by rw [IntKind.wrap_i64]; omega
      have hneg : ¬ ((k : Int) < 0) := by omega
      have h48i : ¬ (281474976710656 < (k : Int) * (i.bytes : Int)) := by rw [← Int.natCast_mul]; omega
      have hk0 : k ≠ 0 := by omega
      have hst := run_storeCells_at P g n e (List.replicate k z) 0 cur w hg (by rw [List.length_replicate]; omega) (fun u hu => by rw [List.eq_of_mem_replicate hu]; exact h1)
      simp only [Nat.add_zero] at hst
      have hr : (Builtin.append_ #[t, tn] ty #[.slice (some ⟨g, 0, none⟩) n cap, .int kq (k : Int)]).run P w = .ok (.slice (some ⟨g, 0, none⟩) (n + k) cap) (w.setRow g (cur.toList.take n ++ List.replicate k z ++ cur.toList.drop (n + (List.replicate k z).length)).toArray) := by
        simp [Builtin.append_, run_underlying ht, run_underlying htn, sizeOf, typeInfo, zeroValue, hi, hz, asInt, asIntOf, hw, hneg, h48i, hk0, hsize, hroom, hzs, zeroCells_one, Addr.add_lit, hst]
      refine ⟨_, _, hr, ⟨hlen, .inr ⟨g, cap, _, rfl, hbg, setRow_heap w g cur _ e _ hg, hroom, hcm, ?_, ?_⟩⟩, ⟨rfl, rfl, rfl, by simp, fun j _ hj => setRow_other w g j _ (fun e => hj (by simp [Value.ownBlock, e]))⟩, .inl rfl⟩
      · simp only [List.size_toArray, List.length_append, List.length_take, List.length_drop, Array.length_toList, List.length_replicate]
        omega
      · rw [Nat.mul_one] at htake
        rw [htake, ← hlen]
        exact List.take_left
    · have hold : (Builtin.firstCells i.size n (.slice (some ⟨g, 0, none⟩) n cap)).run P w.drew = .ok xs.toArray w.drew :=
        run_firstCells_some w.drew i.size n ⟨g, 0, none⟩ n cap xs (by rw [hsize]; exact hown.1) (fun j u hj => by simpa using hown.cells (g := g) rfl j u hj)
      have hr := Lib.run_append_grow_zeros (P := P) w t tn ty e i z kq kn ht htn hi hz (some ⟨g, 0, none⟩) n cap xs hold k hk (by omega) (by omega) (by omega) (by omega) (growslice_fits (by omega) hbytes)
      have hgr := grown cap (by omega) (Value.ownBlock (.slice (some ⟨g, 0, none⟩) n cap))
      exact ⟨_, _, hr, hgr.1, hgr.2, .inr rfl⟩

theorem grown_at (w : World) (g m c q : Nat) (ws : List Nat) (hm : ws.length = m) (ce : Cells w g 40 c) (r : Row w g m (fun j => pw (ws.getD j 0))) (hc : m ≤ c) (hcm : c ≤ maxLen) (hq : m + q ≤ 10000000) :
    ∃ g7 c7 w7, (Builtin.append_ #[95, 3] 95 #[.slice (some ⟨g, 0, none⟩) m c, .int .i64 (q : Int)]).run Tryz.prog w = .ok (.slice (some ⟨g7, 0, none⟩) (m + q) c7) w7 ∧ m + q ≤ c7 ∧ c7 ≤ maxLen ∧ (g7 = g ∨ g7 = w.heap.size) ∧ Row w7 g7 (m + q) (fun j => pw ((ws ++ List.replicate q 0).getD j 0)) ∧ Cells w7 g7 40 c7 ∧ Keeps (fun j => j = g) w w7 := by
  obtain ⟨i0, hi, hz0, hz1, hz2⟩ := info_parts2 infoW
  by_cases h0 : q = 0
  · subst h0
    exact ⟨g, c, w, run_append_none_zeros (P := Tryz.prog) w 95 3 95 40 i0 _ .i64 .i64 Tryz.underlying95 Tryz.underlying3 hi hz0 ⟨g, 0, none⟩ m c hc, hc, hcm, .inl rfl, by simpa using r, ce, Keeps.refl _ _⟩
  · have own := own_of_row (size := 1) (n := m) (B := 0) (by rw [Nat.mul_one]; exact ce) (by rw [Nat.mul_one]; exact r) hc hcm (Nat.zero_le _)
    obtain ⟨v7, w7, hr, own7, grow7, lies⟩ := run_append_own_zeros_at (P := Tryz.prog) w 0 95 3 95 40 i0 (.int .u64 0) 8 .i64 .i64 Tryz.underlying95 Tryz.underlying3 hi hz0 hz1 hz2 rfl rfl _ m _ own q (by omega) (by unfold maxLen; omega) (by omega) (by omega) (Nat.zero_le _)
    have nn : v7 ≠ .slice none 0 0 := fun e => by
      rcases own7.2 with ⟨_, h1⟩ | ⟨g9, c9, cur, h1, _⟩
      · omega
      · rw [e] at h1; cases h1
    obtain ⟨g7, c7, rfl, h1, h2, R, hm7, ce7⟩ := Row.of_ownsG (f := fun j => pw ((ws ++ List.replicate q 0).getD j 0)) own7 nn (fun j hj => by
      by_cases hjm : j < m
      · rw [List.getElem?_append_left (by simpa using hjm)]
        simp [hjm, List.getD, List.getElem?_append_left (show j < ws.length by omega)]
      · rw [List.getElem?_append_right (by simp; omega)]
        have e1 : j - m < q := by omega
        simp [List.getD, List.getElem?_append_right (show ws.length ≤ j by omega), hm, e1, pw])
    rw [Nat.mul_one] at R ce7
    refine ⟨g7, c7, w7, hr, h1, hm7, ?_, R, ce7, ⟨grow7.os, grow7.tape, grow7.output, grow7.size, fun k hk hn => grow7.block k hk (fun e => hn (Option.some.inj e))⟩⟩
    rcases lies with e | e
    · exact .inl (Option.some.inj e)
    · exact .inr (Option.some.inj e)
end Go.Proofs.YtppmicepkjhfeaaGreat
/-! ## Package mem: Grow. -/
namespace Go.Proofs.YtppmicepkjhfeaaGreat
open Go.RowKit
set_option linter.unusedVariables false

/-- the words of an open space lie in another block, or in more of their own -/
theorem MO.grown {w W w7 w8 : World} {R : Nat → Nat} {mb mm : Nat} {sv qv : Value} {U : Nat → Value} {Q : List Nat} {L : List Spc} {a b : Nat} {h g : Int} (m : MO w R mb mm sv qv U Q L a b h g) {k : Nat} (hk : k < L.length) (ho : (L.getD k (false, [])).1 = true) (BW : Below w.heap.size w W) {sg sc : Nat} (esv : sv = .slice (some ⟨sg, 0, none⟩) L.length sc) (hsg : R sg = 3) (sr : Row w sg L.length U) (hsc : L.length ≤ sc) (hscm : sc ≤ maxLen) (sce : Cells w sg 95 sc)
    {gk g7 c7 : Nat} {ws : List Nat} (hgk : R gk = 5 + k) (hg : g7 = gk ∨ W.heap.size ≤ g7) (hc : ws.length ≤ c7) (hcm : c7 ≤ maxLen) (r7 : Row w7 g7 ws.length (fun j => pw (ws.getD j 0))) (ce7 : Cells w7 g7 40 c7) (hl : ws.length ≤ 4194304) (K : Keeps (fun j => j = gk) W w7) (hw8 : w8 = w7.setCell ⟨sg, k, none⟩ (.slice (some ⟨g7, 0, none⟩) ws.length c7)) :
    MO w8 (fun j => if j = g7 then 5 + k else R j) mb mm sv qv (fun j => if j = k then .slice (some ⟨g7, 0, none⟩) ws.length c7 else U j) Q (L.set k (true, ws)) a b h g ∧ TR R (fun j => if j = g7 then 5 + k else R j) w w8 := by
  have e1 := m.r1
  have e2 := m.r2
  have sW := BW.size
  have K1 : Keeps (fun j => j = gk) w w7 := (Keeps.of (F := fun j => j = gk) BW).trans K (fun _ _ q => q)
  have KS : Keeps (fun j => j = sg) w7 w8 := by rw [hw8]; exact Keeps.set _ sg k _ rfl
  have K2 : Keeps (fun j => j = gk ∨ j = sg) w w8 := (K1.mono (F' := fun j => j = gk ∨ j = sg) (fun _ _ q => .inl q)).trans KS (fun _ _ q => .inr q)
  have nn : ∀ j, R j ≠ 5 + k → R j ≠ 3 → ¬ (j = gk ∨ j = sg) := fun j h5 h3 q => by
    rcases q with q | q
    · exact h5 (q ▸ hgk)
    · exact h3 (q ▸ hsg)
  have new : ∀ j, j < w.heap.size → R j ≠ 5 + k → j ≠ g7 := fun j hj h5 e => by
    subst e
    rcases hg with q | q
    · exact h5 (q ▸ hgk)
    · omega
  have Rn : ∀ j, j < w.heap.size → R j ≠ 5 + k → (if j = g7 then 5 + k else R j) = R j := fun j hj h5 => if_neg (new j hj h5)
  have lt1 := m.row.lt
  have lt2 : mm < w.heap.size := m.met.lt
  have gsne : g7 ≠ sg := fun e => new sg sr.lt (by omega) e.symm
  refine ⟨⟨fun j hj => ?_, ?_, ?_, Row.keeps m.row K2 (nn mb (by omega) (by omega)), Row.keeps m.met K2 (nn mm (by omega) (by omega)), ?_, m.cl.keeps K2 (fun j _ h4 => nn j (by omega) (by omega)) (fun j hlt h4 => by show (if j = g7 then 5 + k else R j) = 4; rw [Rn j hlt (by omega)]; exact h4), fun i hi => ?_, m.hp, fun x => ?_, ?_, by rw [List.length_set]; exact m.lc, fun i hi => ?_, m.na, m.nb, m.fit⟩, ⟨K2.mono (fun j _ q => by
    rcases q with q | q
    · subst q; omega
    · subst q; omega), fun j hj q => ?_⟩⟩
  · by_cases e : j = g7
    · subst e; exact Nat.lt_of_lt_of_le r7.lt KS.size
    · rw [if_neg e] at hj; exact Nat.lt_of_lt_of_le (m.hi j hj) K2.size
  · show (if mb = g7 then 5 + k else R mb) = 1
    rw [Rn mb lt1 (by omega)]; exact e1
  · show (if mm = g7 then 5 + k else R mm) = 2
    rw [Rn mm lt2 (by omega)]; exact e2
  · rw [List.length_set]
    refine .inr ⟨sg, sc, esv, hsc, hscm, ?_, ?_, ?_⟩
    · show (if sg = g7 then 5 + k else R sg) = 3
      rw [Rn sg sr.lt (by omega)]; exact hsg
    · have sne : ¬ sg = gk := fun e => by subst e; omega
      rw [hw8]; exact (sr.keeps K1 sne).set k hk _
    · have sne : ¬ sg = gk := fun e => by subst e; omega
      rw [hw8]; exact (sce.keeps K1 sne).set sg k _
  · rw [List.length_set] at hi
    rw [getD_set L k i _ hk]
    show WD w8 _ (5 + i) (if i = k then .slice (some ⟨g7, 0, none⟩) ws.length c7 else U i) _
    by_cases e : i = k
    · rw [if_pos e, if_pos e, e]
      exact .inr ⟨rfl, g7, c7, rfl, hc, hcm, if_pos rfl, r7.keeps KS gsne, ce7.keeps KS gsne⟩
    · rw [if_neg e, if_neg e]
      exact (m.wd i hi).keeps K2 (fun j _ h5 => nn j (by omega) (by omega)) (fun j hlt h5 => by show (if j = g7 then 5 + k else R j) = 5 + i; rw [Rn j hlt (by omega)]; exact h5)
  · rw [m.cq x, clo_set L k x _ hk]
    by_cases e : x = k
    · rw [if_pos e, e, clo_f hk ho]; rfl
    · rw [if_neg e]
  · have c := countv_set L k (true, ws) hk
    rw [ho] at c
    have := m.ln
    rw [List.length_set]
    simp at c; omega
  · rw [List.length_set] at hi
    rw [wds_set L k i _ hk]
    split
    · exact hl
    · exact m.lw i hi
  · by_cases e : j = g7
    · subst e
      rcases hg with q' | q'
      · rw [q', hgk]; omega
      · omega
    · rw [if_neg e] at q; exact q

theorem wrap64_le (s : Nat) (h : s ≤ 4194304) : wrap64 (s : Int) = (s : Int) := by unfold wrap64; omega
theorem mgrow_no (mb mm : Nat) (R : Nat → Nat) (L : List Spc) (a b : Nat) (h g : Int) (w : World) (hm : MM w R mb mm L a b h g) (id n : Int) (hE : isv L id = false) :
    Calls Tryz.prog 72 #[at0 mb, .int .i64 id, .int .i64 n] w fun e w' => e = .returned (.int .i64 10) ∧ w' = w := by
  obtain ⟨sv, qv, U, Q, m⟩ := hm
  have WH := Lib.hid (words_no mb mm R sv qv U Q L a b h g w m id hE)
  clear m hE
  go_enter Tryz.func72, Tryz.ntmps72
  go_wp2_with fail
  with_reducible refine WH.out.mono ?_
  rintro e w1 ⟨rfl, rfl⟩
  dsimp only
  go_wp2_with fail
  exact bodyPost_ret (v := .int .i64 10) (by simp [results, Tryz.results72, go_sem]) rfl ⟨rfl, rfl⟩
theorem mgrow_low (mb mm : Nat) (R : Nat → Nat) (L : List Spc) (a b : Nat) (h g : Int) (w : World) (hm : MM w R mb mm L a b h g) (k : Nat) (n : Int) (hk : k < L.length) (ho : (L.getD k (false, [])).1 = true) (hn : n < ((wds L k).length : Int)) :
    Calls Tryz.prog 72 #[at0 mb, .int .i64 (k : Int), .int .i64 n] w fun e w' => e = .returned (.int .i64 1) ∧ w' = w := by
  obtain ⟨sv, qv, U, Q, m⟩ := hm
  have WO := words_ok mb mm R sv qv U Q L a b h g w m k hk ho
  obtain ⟨sg, sc, gk, ck, rfl, _, sr, _, _, _, eu, _, _, _, _, _⟩ := m.open_at hk ho
  rw [eu] at WO
  have WH := Lib.hid WO
  clear m sr ho eu WO hk
  go_enter Tryz.func72, Tryz.ntmps72
  go_wp2_with fail
  with_reducible refine WH.out.mono ?_
  rintro e w1 ⟨rfl, rfl⟩
  dsimp only
  go_wp2_with fail
  exact bodyPost_ret (v := .int .i64 1) (by simp [results, Tryz.results72, go_sem]) rfl ⟨rfl, rfl⟩
theorem mgrow_long (mb mm : Nat) (R : Nat → Nat) (L : List Spc) (a b : Nat) (h g : Int) (w : World) (hm : MM w R mb mm L a b h g) (k : Nat) (n : Int) (hk : k < L.length) (ho : (L.getD k (false, [])).1 = true) (hn : ((wds L k).length : Int) ≤ n) (hx : 4194304 < n) :
    Calls Tryz.prog 72 #[at0 mb, .int .i64 (k : Int), .int .i64 n] w fun e w' => e = .returned (.int .i64 7) ∧ w' = w := by
  obtain ⟨sv, qv, U, Q, m⟩ := hm
  have WO := words_ok mb mm R sv qv U Q L a b h g w m k hk ho
  obtain ⟨sg, sc, gk, ck, rfl, _, sr, _, _, _, eu, _, _, _, _, _⟩ := m.open_at hk ho
  rw [eu] at WO
  have WH := Lib.hid WO
  have d0 : decide (n < ((wds L k).length : Int)) = false := decide_eq_false (by omega)
  clear m sr ho eu WO hk hn
  go_enter Tryz.func72, Tryz.ntmps72
  go_wp2_with fail
  with_reducible refine WH.out.mono ?_
  rintro e w1 ⟨rfl, rfl⟩
  dsimp only
  go_wp2_with fail
  exact bodyPost_ret (v := .int .i64 7) (by simp [results, Tryz.results72, go_sem]) rfl ⟨rfl, rfl⟩
set_option maxRecDepth 100000 in
set_option maxHeartbeats 1000000 in
theorem mgrow_ok (mb mm : Nat) (R : Nat → Nat) (L : List Spc) (a b : Nat) (h g : Int) (w : World) (hm : MM w R mb mm L a b h g) (k n q : Nat) (hk : k < L.length) (ho : (L.getD k (false, [])).1 = true) (hq : (wds L k).length + q = n) (hn : n ≤ 4194304) :
    Calls Tryz.prog 72 #[at0 mb, .int .i64 (k : Int), .int .i64 (n : Int)] w fun e w' => ∃ R', e = .returned (.int .i64 0) ∧ MM w' R' mb mm (L.set k ((L.getD k (false, [])).1, wds L k ++ List.replicate q 0)) a b (holdh h (q : Int)) (holdg h g (q : Int)) ∧ TR R R' w w' := by
  obtain ⟨sv, qv, U, Q, m⟩ := hm
  have WO := words_ok mb mm R sv qv U Q L a b h g w m k hk ho
  obtain ⟨sg, sc, gk, ck, esv, hsg, sr, hsc, hscm, sce, eu, hgk, kr, hc, hcm, ce⟩ := m.open_at hk ho
  have esv' := esv
  subst esv'
  rw [eu] at WO
  have WH := Lib.hid WO
  obtain ⟨len, hlen⟩ : ∃ len, (wds L k).length = len := ⟨_, rfl⟩
  rw [hlen] at WH kr hc hq
  have BD : Below w.heap.size w w.drew := (Below.refl _ _).drew
  obtain ⟨g7, c7, w7, hr, h7c, h7m, h7g, r7, ce7, K7⟩ := grown_at w.drew gk len ck q (wds L k) hlen ce.drew kr.drew hc hcm (by omega)
  rw [hq] at hr h7c r7
  have ln7 : (wds L k ++ List.replicate q 0).length = n := by rw [List.length_append, List.length_replicate, hlen]; exact hq
  obtain ⟨w8, hw8⟩ : ∃ w8, w8 = w7.setCell ⟨sg, k, none⟩ (.slice (some ⟨g7, 0, none⟩) n c7) := ⟨_, rfl⟩
  obtain ⟨M8, T8⟩ := MO.grown (w8 := w8) (ws := wds L k ++ List.replicate q 0) m hk ho BD rfl hsg sr hsc hscm sce hgk (h7g.imp id (fun e => by rw [e]; exact Nat.le_refl _)) (by rw [ln7]; exact h7c) h7m (by rw [ln7]; exact r7) ce7 (by rw [ln7]; exact hn) K7 (by rw [ln7]; exact hw8)
  have sne : ¬ sg = gk := fun e => by subst e; omega
  have K1 : Keeps (fun j => j = gk) w w7 := (Keeps.of (F := fun j => j = gk) BD).trans K7 (fun _ _ q => q)
  have mne : ¬ mb = gk := fun e => by have := m.r1; subst e; omega
  obtain ⟨t0, t1, t2, tf, tl⟩ := (show WRw w7 mb mm _ qv from Row.keeps m.row K1 mne).all
  have s7 := sr.keeps K1 sne
  have c1 := s7.cell k hk
  have f1 := s7.free k
  obtain ⟨m0, m1, m2, mf, ml⟩ := m.row.all
  have HO := Lib.hid (fun w' r => hold_any mm a b h g (q : Int) m.fit (by omega) w' r)
  have FE := Lib.hid (m.fit.hold (n := (q : Int)))
  have NA := Lib.hid m.na
  have NB := Lib.hid m.nb
  have HM := Lib.hid M8
  have HT := Lib.hid T8
  have HW := Lib.hid hw8
  have HR := Lib.hid hr
  have HE := Lib.hid ho
  have row8 := M8.row
  obtain ⟨y0, y1, y2, yf, yl⟩ := row8.all
  have i0 : (0 : Int) ≤ (k : Int) := by omega
  have i1 : (k : Int) < (L.length : Int) := by omega
  have d0 : decide ((n : Int) < (len : Int)) = false := decide_eq_false (by omega)
  have d1 : decide (4194304 < (n : Int)) = false := decide_eq_false (by omega)
  have eq : (n : Int) - (len : Int) = (q : Int) := by omega
  have bq : q ≤ 4194304 := by omega
  have wq := wrap64_le q bq
  clear m sr ho WO hk hq hlen hsg hsc hscm sce eu esv hgk kr hc hcm ce BD hr h7c h7m h7g r7 ce7 K7 ln7 hw8 M8 T8 sne K1 mne s7 row8 bq hn
  generalize holdh h (q : Int) = h' at *
  generalize holdg h g (q : Int) = g' at *
  generalize holde h (q : Int) = er at *
  go_enter Tryz.func72, Tryz.ntmps72
  go_wp2_with fail
  with_reducible refine WH.out.mono ?_
  rintro e w1 ⟨rfl, rfl⟩
  dsimp only
  go_upto_region 9 with fail
  go_region_law ((refine step_append_run (by rfl) _ _ _ _ (by rfl) _ _ (by kernel_rfl) (by kernel_rfl) _ _ HR.out ?_))
  all_goals
    rw [← HW.out]
    clear t0 t1 t2 tf tl c1 f1 m0 m1 m2 mf ml
    go_wp2_with fail
    with_reducible refine (HO.out _ HM.out.met).mono ?_
    rintro e w4 ⟨rfl, R4, B4⟩
    dsimp only
    go_wp2_with fail
    exact bodyPost_ret (v := .int .i64 0) (by simp [results, Tryz.results72, go_sem]) rfl ⟨_, rfl, by rw [HE.out]; exact ⟨_, _, _, _, HM.out.meter B4 R4 NA.out NB.out FE.out⟩, HT.out.trans (TR.bar B4 (by rw [HM.out.r2]; decide))⟩
end Go.Proofs.YtppmicepkjhfeaaGreat

/-! Out: haymowlaw08.meters. And what follows from it. -/
/-! ## haymowlaw08.meters. -/
namespace Go.Proofs.YtppmicepkjhfeaaGreat
open Go.RowKit
set_option linter.unusedVariables false

/-- a Mem's cells, its meter, a state beside it -/
structure Met (W : World) (mb mm sb : Nat) (sv qv : Value) (a b : Nat) (h g : Int) (w : World) : Prop where
  m : WRw w mb mm sv qv
  r : MRow w mm a b h g
  s : SRow w sb a b h g
  b : Below W.heap.size W w
theorem Met.below {W : World} {mb mm sb : Nat} {sv qv : Value} {a b : Nat} {h g : Int} {w w' : World} (A : Met W mb mm sb sv qv a b h g w) (k : Below w.heap.size w w') : Met W mb mm sb sv qv a b h g w' := ⟨A.m.below k, A.r.below k, A.s.below k, A.b.trans (k.mono A.b.size)⟩
theorem Met.drew {W : World} {mb mm sb : Nat} {sv qv : Value} {a b : Nat} {h g : Int} {w : World} (A : Met W mb mm sb sv qv a b h g w) : Met W mb mm sb sv qv a b h g w.drew := ⟨A.m.drew, A.r.drew, A.s.drew, A.b.drew⟩
theorem Met.keep {W : World} {mb mm sb : Nat} {sv qv : Value} {a b : Nat} {h g : Int} {w : World} (A : Met W mb mm sb sv qv a b h g w) :
    w.cell? ⟨mb, 0, none⟩ = some (.pointer (some ⟨mm, 0, none⟩)) ∧ w.cell? ⟨sb, 0, none⟩ = some (.int .u64 (hi a)) ∧ w.cell? ⟨sb, 1, none⟩ = some (.int .u64 (lo a)) ∧ w.cell? ⟨sb, 2, none⟩ = some (.int .u64 (hi b)) ∧ w.cell? ⟨sb, 3, none⟩ = some (.int .u64 (lo b)) ∧ w.cell? ⟨sb, 4, none⟩ = some (.int .i64 h) ∧ w.cell? ⟨sb, 5, none⟩ = some (.int .i64 g) :=
  ⟨A.m.all.1, A.s.all.1, A.s.all.2.1, A.s.all.2.2.1, A.s.all.2.2.2.1, A.s.all.2.2.2.2.1, A.s.all.2.2.2.2.2.1⟩
end Go.Proofs.YtppmicepkjhfeaaGreat
/-! ## What each call of package mem makes of a Mem in plain numbers: the same at the program and at the document. -/
namespace Go.Proofs.YtppmicepkjhfeaaGreat
open Go.RowKit
set_option linter.unusedVariables false

/-- what a call leaves: the spaces, the counters, a number, a code -/
structure Out where
  L : List Spc
  a : Nat
  b : Nat
  h : Int
  g : Int
  i : Int
  c : Int
def openv (L : List Spc) (a b : Nat) (h g n : Int) : Out := if n < 0 then ⟨L, a, b, h, g, 0, 1⟩ else if 4194304 < n then ⟨L, a, b, h, g, 0, 7⟩ else ⟨opened L n.toNat, a, b, holdh h n, holdg h g n, (firstc L : Nat), 0⟩
def closev (L : List Spc) (a b : Nat) (h g id : Int) : Out := if isv L id = true then ⟨L.set id.toNat (false, []), a, b, freeh h ((wds L id.toNat).length : Nat), g, 0, 0⟩ else ⟨L, a, b, h, g, 0, 10⟩
def growv (L : List Spc) (a b : Nat) (h g id n : Int) : Out := if isv L id = true then (if n < ((wds L id.toNat).length : Int) then ⟨L, a, b, h, g, 0, 1⟩ else if 4194304 < n then ⟨L, a, b, h, g, 0, 7⟩ else ⟨L.set id.toNat ((L.getD id.toNat (false, [])).1, wds L id.toNat ++ List.replicate (n - ((wds L id.toNat).length : Int)).toNat 0), a, b, holdh h (n - ((wds L id.toNat).length : Int)), holdg h g (n - ((wds L id.toNat).length : Int)), 0, 0⟩) else ⟨L, a, b, h, g, 0, 10⟩
def readv (L : List Spc) (a b : Nat) (h g id at' : Int) : Out := if wrongv L id at' 1 = 0 then ⟨L, stepv 0 0 1 a, stepv 1 0 1 b, h, g, (wat L id.toNat at'.toNat : Nat), 0⟩ else ⟨L, a, b, h, g, 0, wrongv L id at' 1⟩
def writev (L : List Spc) (a b : Nat) (h g id at' : Int) (x : Nat) : Out := if wrongv L id at' 1 = 0 then ⟨L.set id.toNat ((L.getD id.toNat (false, [])).1, (wds L id.toNat).set at'.toNat x), stepv 0 1 1 a, stepv 1 1 1 b, h, g, 0, 0⟩ else ⟨L, a, b, h, g, 0, wrongv L id at' 1⟩
def zerov (L : List Spc) (a b : Nat) (h g id at' n : Int) : Out := if wrongv L id at' n = 0 then ⟨L.set id.toNat ((L.getD id.toNat (false, [])).1, wset (wds L id.toNat) at'.toNat (fun _ => 0) n.toNat), stepv 0 1 n a, stepv 1 1 n b, h, g, 0, 0⟩ else ⟨L, a, b, h, g, 0, wrongv L id at' n⟩
def copyv (L : List Spc) (a b : Nat) (h g fr at' tt ds n : Int) : Out := if isv L fr = true ∧ isv L tt = true then (if wrongv L fr at' n = 0 ∧ wrongv L tt ds n = 0 then ⟨L.set tt.toNat ((L.getD tt.toNat (false, [])).1, wset (wds L tt.toNat) ds.toNat (fun j => wat L fr.toNat (at'.toNat + j)) n.toNat), stepv 0 1 n (stepv 0 0 n a), stepv 1 1 n (stepv 1 0 n b), h, g, 0, 0⟩ else ⟨L, a, b, h, g, 0, 11⟩) else ⟨L, a, b, h, g, 0, 10⟩

/-- behind a call of the program -/
def PGot (mb mm : Nat) (R : Nat → Nat) (w : World) (o : Out) (v : Value) (e : Ending) (w' : World) : Prop := ∃ R', e = .returned v ∧ MM w' R' mb mm o.L o.a o.b o.h o.g ∧ TR R R' w w'
/-- behind a call of the document's -/
def RGot (w : World) (v : Value) (L : List Spc) (o : Out) (f : Value → Value) (e : Ending) (w' : World) : Prop := ∃ v', e = .returned (f (ssv v' o.a o.b o.h o.g)) ∧ (SB w' w.heap.size v' o.L ∨ v' = v ∧ o.L = L) ∧ Below w.heap.size w w'
theorem PGot.same {mb mm : Nat} {R : Nat → Nat} {L : List Spc} {a b : Nat} {h g : Int} {w : World} (hm : MM w R mb mm L a b h g) {f : Nat} {args : Array Value} {i c : Int} {v : Value} (C : Calls Tryz.prog f args w fun e w' => e = .returned v ∧ w' = w) : Calls Tryz.prog f args w (PGot mb mm R w ⟨L, a, b, h, g, i, c⟩ v) :=
  C.mono fun e w' ⟨he, hw⟩ => ⟨R, he, by rw [hw]; exact hm, by rw [hw]; exact TR.refl _ _⟩
theorem RGot.same {L : List Spc} {a b : Nat} {h g : Int} {w : World} {v : Value} {f : Nat} {args : Array Value} {i c : Int} {F : Value → Value} (C : Calls Tryz.prog f args w fun e w' => e = .returned (F (ssv v a b h g)) ∧ Below w.heap.size w w') : Calls Tryz.prog f args w (RGot w v L ⟨L, a, b, h, g, i, c⟩ F) :=
  C.mono fun e w' ⟨he, hw⟩ => ⟨v, he, .inr ⟨rfl, rfl⟩, hw⟩
/-- what always holds of a Mem's plain numbers -/
theorem MM.plain {w : World} {R : Nat → Nat} {mb mm : Nat} {L : List Spc} {a b : Nat} {h g : Int} (m : MM w R mb mm L a b h g) : N128 a ∧ N128 b ∧ Fit h g ∧ (∀ i, i < L.length → (wds L i).length ≤ 4194304) ∧ (∀ j, R j ≠ 0 → j < w.heap.size) ∧ countv L ≤ L.length := by
  obtain ⟨sv, qv, U, Q, m⟩ := m
  exact ⟨m.na, m.nb, m.fit, m.lw, m.hi, by have := m.ln; omega⟩

section
variable (mb mm : Nat) (R : Nat → Nat) (L : List Spc) (a b : Nat) (h g : Int) (w : World) (hm : MM w R mb mm L a b h g)
include hm
theorem mopen_any (n : Int) (hl : L.length ≤ 200000) : Calls Tryz.prog 81 #[at0 mb, .int .i64 n] w (PGot mb mm R w (openv L a b h g n) (.tuple #[.int .i64 (openv L a b h g n).i, .int .i64 (openv L a b h g n).c])) := by
  by_cases h0 : n < 0
  · rw [show openv L a b h g n = ⟨L, a, b, h, g, 0, 1⟩ by unfold openv; rw [if_pos h0]]
    exact PGot.same hm (mopen_neg mb n h0 w)
  · by_cases h1 : 4194304 < n
    · rw [show openv L a b h g n = ⟨L, a, b, h, g, 0, 7⟩ by unfold openv; rw [if_neg h0, if_pos h1]]
      exact PGot.same hm (mopen_long mb n h1 w)
    · rw [show openv L a b h g n = ⟨opened L n.toNat, a, b, holdh h n, holdg h g n, (firstc L : Nat), 0⟩ by unfold openv; rw [if_neg h0, if_neg h1]]
      obtain ⟨t, rfl⟩ := Int.eq_ofNat_of_zero_le (show 0 ≤ n by omega)
      rw [Int.toNat_natCast]
      exact (mopen_ok mb mm R L a b h g w hm t (by omega) (by have := hm.plain.2.2.2.2.2; omega)).mono fun e w' ⟨R', he, M, T⟩ => ⟨R', he, M, T⟩
theorem mgrow_any (id n : Int) : Calls Tryz.prog 72 #[at0 mb, .int .i64 id, .int .i64 n] w (PGot mb mm R w (growv L a b h g id n) (.int .i64 (growv L a b h g id n).c)) := by
  by_cases hi : isv L id = true
  · obtain ⟨k, rfl, hk, ho⟩ := isv_of hi
    by_cases h0 : n < ((wds L k).length : Int)
    · rw [show growv L a b h g (k : Int) n = ⟨L, a, b, h, g, 0, 1⟩ by unfold growv; rw [if_pos hi, Int.toNat_natCast, if_pos h0]]
      exact PGot.same hm (mgrow_low mb mm R L a b h g w hm k n hk ho h0)
    · by_cases h1 : 4194304 < n
      · rw [show growv L a b h g (k : Int) n = ⟨L, a, b, h, g, 0, 7⟩ by unfold growv; rw [if_pos hi, Int.toNat_natCast, if_neg h0, if_pos h1]]
        exact PGot.same hm (mgrow_long mb mm R L a b h g w hm k n hk ho (by omega) h1)
      · obtain ⟨q, hq⟩ := Int.eq_ofNat_of_zero_le (show 0 ≤ n - ((wds L k).length : Int) by omega)
        obtain ⟨t, rfl⟩ := Int.eq_ofNat_of_zero_le (show 0 ≤ n by omega)
        rw [show growv L a b h g (k : Int) (t : Int) = ⟨L.set k ((L.getD k (false, [])).1, wds L k ++ List.replicate q 0), a, b, holdh h (q : Int), holdg h g (q : Int), 0, 0⟩ by unfold growv; rw [if_pos hi, Int.toNat_natCast, if_neg h0, if_neg h1, hq, Int.toNat_natCast]]
        exact (mgrow_ok mb mm R L a b h g w hm k t q hk ho (by omega) (by omega)).mono fun e w' ⟨R', he, M, T⟩ => ⟨R', he, M, T⟩
  · rw [show growv L a b h g id n = ⟨L, a, b, h, g, 0, 10⟩ by unfold growv; rw [if_neg hi]]
    exact PGot.same hm (mgrow_no mb mm R L a b h g w hm id n (isv_f hi))
theorem mread_any (id at' : Int) (ha : at' ≤ 9223372036854775807) : Calls Tryz.prog 67 #[at0 mb, .int .i64 id, .int .i64 at'] w (PGot mb mm R w (readv L a b h g id at') (.tuple #[.int .u64 (readv L a b h g id at').i, .int .i64 (readv L a b h g id at').c])) := by
  by_cases hE : wrongv L id at' 1 = 0
  · obtain ⟨k, i, t, rfl, rfl, ht, hk, hI, hl⟩ := wrongv_0 hE
    rw [show readv L a b h g (k : Int) (i : Int) = ⟨L, stepv 0 0 1 a, stepv 1 0 1 b, h, g, (wat L k i : Nat), 0⟩ by unfold readv; rw [if_pos hE, Int.toNat_natCast, Int.toNat_natCast]]
    exact (mread_ok mb mm R L a b h g w hm k i hk (by omega) hI hE).mono fun e w' ⟨he, M, T⟩ => ⟨R, he, M, T⟩
  · rw [show readv L a b h g id at' = ⟨L, a, b, h, g, 0, wrongv L id at' 1⟩ by unfold readv; rw [if_neg hE]]
    exact PGot.same hm (mread_bad mb mm R L a b h g w hm id at' ha hE)
theorem mwrite_any (id at' : Int) (x : Nat) (ha : at' ≤ 9223372036854775807) : Calls Tryz.prog 37 #[at0 mb, .int .i64 id, .int .i64 at', .int .u64 (x : Int)] w (PGot mb mm R w (writev L a b h g id at' x) (.int .i64 (writev L a b h g id at' x).c)) := by
  by_cases hE : wrongv L id at' 1 = 0
  · obtain ⟨k, i, t, rfl, rfl, ht, hk, hI, hl⟩ := wrongv_0 hE
    rw [show writev L a b h g (k : Int) (i : Int) x = ⟨L.set k ((L.getD k (false, [])).1, (wds L k).set i x), stepv 0 1 1 a, stepv 1 1 1 b, h, g, 0, 0⟩ by unfold writev; rw [if_pos hE, Int.toNat_natCast, Int.toNat_natCast]]
    exact (mwrite_ok mb mm R L a b h g w hm k i x hk (by omega) hI hE).mono fun e w' ⟨he, M, T⟩ => ⟨R, he, M, T⟩
  · rw [show writev L a b h g id at' x = ⟨L, a, b, h, g, 0, wrongv L id at' 1⟩ by unfold writev; rw [if_neg hE]]
    exact PGot.same hm (mwrite_bad mb mm R L a b h g w hm id at' x ha hE)
theorem mzero_any (id at' n : Int) (ha : at' ≤ 9223372036854775807) : Calls Tryz.prog 38 #[at0 mb, .int .i64 id, .int .i64 at', .int .i64 n] w (PGot mb mm R w (zerov L a b h g id at' n) (.int .i64 (zerov L a b h g id at' n).c)) := by
  by_cases hE : wrongv L id at' n = 0
  · obtain ⟨k, i, t, rfl, rfl, rfl, hk, hI, hl⟩ := wrongv_0 hE
    rw [show zerov L a b h g (k : Int) (i : Int) (t : Int) = ⟨L.set k ((L.getD k (false, [])).1, wset (wds L k) i (fun _ => 0) t), stepv 0 1 (t : Int) a, stepv 1 1 (t : Int) b, h, g, 0, 0⟩ by unfold zerov; rw [if_pos hE, Int.toNat_natCast, Int.toNat_natCast, Int.toNat_natCast]]
    exact (mzero_ok mb mm R L a b h g w hm k i t hk hl hI hE).mono fun e w' ⟨he, M, T⟩ => ⟨R, he, M, T⟩
  · rw [show zerov L a b h g id at' n = ⟨L, a, b, h, g, 0, wrongv L id at' n⟩ by unfold zerov; rw [if_neg hE]]
    exact PGot.same hm (mzero_bad mb mm R L a b h g w hm id at' n ha hE)
end
attribute [irreducible] openv closev growv readv writev zerov copyv
end Go.Proofs.YtppmicepkjhfeaaGreat
/-! ## What each call of the document's makes of a state in plain numbers. -/
namespace Go.Proofs.YtppmicepkjhfeaaGreat
open Go.RowKit
set_option linter.unusedVariables false

section
variable (v : Value) (a b : Nat) (h g : Int) (L : List Spc) (w : World) (hv : SL w v L) (hl : L.length ≤ 200000) (hw : ∀ i, i < L.length → (wds L i).length ≤ 4194304)
include hv hl hw
end
/-- a call adds one space at most -/
theorem openv_len (L : List Spc) (a b : Nat) (h g n : Int) : (openv L a b h g n).L.length ≤ L.length + 1 := by
  unfold openv
  split
  · show L.length ≤ _; omega
  · split
    · show L.length ≤ _; omega
    · show (opened L n.toNat).length ≤ _
      unfold opened
      split
      · rw [List.length_set]; omega
      · rw [List.length_append]; simp
theorem closev_len (L : List Spc) (a b : Nat) (h g id : Int) : (closev L a b h g id).L.length = L.length := by
  unfold closev; split
  · show (L.set _ _).length = _; rw [List.length_set]
  · rfl
theorem growv_len (L : List Spc) (a b : Nat) (h g id n : Int) : (growv L a b h g id n).L.length = L.length := by
  unfold growv; split
  · split
    · rfl
    · split
      · rfl
      · show (L.set _ _).length = _; rw [List.length_set]
  · rfl
theorem readv_len (L : List Spc) (a b : Nat) (h g id at' : Int) : (readv L a b h g id at').L.length = L.length := by
  unfold readv; split <;> rfl
theorem writev_len (L : List Spc) (a b : Nat) (h g id at' : Int) (x : Nat) : (writev L a b h g id at' x).L.length = L.length := by
  unfold writev; split
  · show (L.set _ _).length = _; rw [List.length_set]
  · rfl
theorem zerov_len (L : List Spc) (a b : Nat) (h g id at' n : Int) : (zerov L a b h g id at' n).L.length = L.length := by
  unfold zerov; split
  · show (L.set _ _).length = _; rw [List.length_set]
  · rfl
theorem copyv_len (L : List Spc) (a b : Nat) (h g fr at' tt ds n : Int) : (copyv L a b h g fr at' tt ds n).L.length = L.length := by
  unfold copyv; split
  · split
    · show (L.set _ _).length = _; rw [List.length_set]
    · rfl
  · rfl
end Go.Proofs.YtppmicepkjhfeaaGreat

/-! Awake08: haymowlaw08.awake. And what follows from it. -/
/-! ## haymowlaw08.awake. -/
namespace Go.Proofs.YtppmicepkjhfeaaGreat
open Go.RowKit
set_option linter.unusedVariables false

/-- all of a Mem's blocks are the call's own -/
structure Own (W : World) (R : Nat → Nat) (w : World) : Prop where
  lo : ∀ j, R j ≠ 0 → W.heap.size ≤ j
  b : Below W.heap.size W w
theorem Own.step {W w w' : World} {R R' : Nat → Nat} (o : Own W R w) (t : TR R R' w w') : Own W R' w' := ⟨t.lo o.b.size o.lo, o.b.trans (t.below o.b.size o.lo)⟩
theorem Own.below {W w w' : World} {R : Nat → Nat} (o : Own W R w) (k : Below w.heap.size w w') : Own W R w' := ⟨o.lo, o.b.trans (k.mono o.b.size)⟩
theorem Own.new {W w w' : World} {R : Nat → Nat} (b : Below W.heap.size W w) (lo : ∀ j, R j ≠ 0 → w.heap.size ≤ j) (k : Below w.heap.size w w') : Own W R w' := ⟨fun j hj => Nat.le_trans b.size (lo j hj), b.trans (k.mono b.size)⟩
theorem MM.all {w : World} {R : Nat → Nat} {mb mm : Nat} {L : List Spc} {a b : Nat} {h g : Int} (m : MM w R mb mm L a b h g) : w.cell? ⟨mb, 0, none⟩ = some (.pointer (some ⟨mm, 0, none⟩)) ∧ MRow w mm a b h g := by
  obtain ⟨sv, qv, U, Q, m⟩ := m
  exact ⟨m.row.all.1, m.met⟩
theorem ptr_nil (a : Addr) (w : World) : (binOp .eql 61 (.pointer (some a)) (.pointer none)).run Tryz.prog w = .ok (.bool false) w := by kernel_rfl
end Go.Proofs.YtppmicepkjhfeaaGreat
/-! ## What MemCloses counts: the words of a list of spaces, numbers turned round. No walk. -/
namespace Go.Proofs.YtppmicepkjhfeaaGreat
open Go.RowKit
set_option linter.unusedVariables false

/-- the words of all spaces -/
def hsum : List Spc → Nat
  | [] => 0
  | x :: l => x.2.length + hsum l
theorem hsum_set (L : List Spc) (k : Nat) (x : Spc) (hk : k < L.length) : hsum (L.set k x) + (L.getD k (false, [])).2.length = hsum L + x.2.length := by
  induction L generalizing k with
  | nil => simp at hk
  | cons y l ih =>
    cases k with
    | zero => simp only [List.set_cons_zero, List.getD_cons_zero, hsum]; omega
    | succ k =>
      have e := ih k (by simpa using hk)
      simp only [List.set_cons_succ, List.getD_cons_succ, hsum]; omega
theorem hsum_snoc (L : List Spc) (x : Spc) : hsum (L ++ [x]) = hsum L + x.2.length := by
  induction L with
  | nil => simp [hsum]
  | cons y l ih => simp only [List.cons_append, hsum, ih]; omega
theorem hsum_zero (L : List Spc) (h : ∀ j, j < L.length → (L.getD j (false, [])).2 = []) : hsum L = 0 := by
  induction L with
  | nil => rfl
  | cons y l ih =>
    have h0 : y.2 = [] := h 0 (by simp)
    have e := ih (fun j hj => h (j + 1) (by simpa using hj))
    simp only [hsum, h0, e]; rfl
theorem hsum_at (L : List Spc) (k : Nat) (hk : k < L.length) : (L.getD k (false, [])).2.length ≤ hsum L := by
  induction L generalizing k with
  | nil => simp at hk
  | cons y l ih =>
    cases k with
    | zero => simp only [List.getD_cons_zero, hsum]; omega
    | succ k =>
      have e := ih k (by simpa using hk)
      simp only [List.getD_cons_succ, hsum]; omega
theorem countv_all (L : List Spc) (h : ∀ j, j < L.length → (L.getD j (false, [])).1 = true) : countv L = L.length := by
  induction L with
  | nil => unfold countv; rfl
  | cons y l ih =>
    have h0 : y.1 = true := h 0 (by simp)
    have e := ih (fun j hj => h (j + 1) (by simpa using hj))
    unfold countv; rw [h0, e]; simp; omega
theorem countv_none (L : List Spc) (h : ∀ j, j < L.length → (L.getD j (false, [])).1 = false) : countv L = 0 := by
  induction L with
  | nil => unfold countv; rfl
  | cons y l ih =>
    have h0 : y.1 = false := h 0 (by simp)
    have e := ih (fun j hj => h (j + 1) (by simpa using hj))
    unfold countv; rw [h0, e]; simp
theorem firstc_all (L : List Spc) (h : ∀ j, j < L.length → (L.getD j (false, [])).1 = true) : firstc L = L.length := firstc_eq L _ h (.inl rfl)
theorem firstc_none (L : List Spc) (h : ∀ j, j < L.length → (L.getD j (false, [])).1 = false) : firstc L = 0 := by
  by_cases h0 : L.length = 0
  · rw [firstc_eq L 0 (fun j hj => by omega) (.inl h0.symm)]
  · exact firstc_eq L 0 (fun j hj => by omega) (.inr ⟨by omega, h 0 (by omega)⟩)
theorem opened_all (L : List Spc) (h : ∀ j, j < L.length → (L.getD j (false, [])).1 = true) (n : Nat) : opened L n = L ++ [(true, List.replicate n 0)] := by
  unfold opened; rw [firstc_all L h, if_neg (by omega)]
theorem getD_snoc (L : List Spc) (x : Spc) (j : Nat) (hj : j < L.length + 1) : (L ++ [x]).getD j (false, []) = if j < L.length then L.getD j (false, []) else x := by
  by_cases h : j < L.length
  · rw [if_pos h]; simp [List.getD, List.getElem?_append_left h]
  · have e : j = L.length := by omega
    subst e
    rw [if_neg h]; simp [List.getD]
/-- a closed space of a Mem has no words -/
theorem MM.empty {w : World} {R : Nat → Nat} {mb mm : Nat} {L : List Spc} {a b : Nat} {h g : Int} (m : MM w R mb mm L a b h g) {k : Nat} (hk : k < L.length) (ho : (L.getD k (false, [])).1 = false) : (L.getD k (false, [])).2 = [] := by
  obtain ⟨sv, qv, U, Q, m⟩ := m
  rw [(m.wd_closed hk ho).1]
/-- numbers turned round -/
theorem turn_inj {n t k s : Nat} (hn : 0 < n) (ht : t < n) (hk : k < n) (e : (t + s) % n = (k + s) % n) : t = k := by
  have a := Nat.div_add_mod (t + s) n
  have b := Nat.div_add_mod (k + s) n
  rw [e] at a
  have la := Nat.mod_lt (k + s) hn
  generalize (t + s) / n = p at *
  generalize (k + s) / n = q at *
  generalize (k + s) % n = r at *
  rcases Nat.lt_trichotomy p q with h | h | h
  · have : n * (p + 1) ≤ n * q := Nat.mul_le_mul_left n h
    rw [Nat.mul_add] at this; omega
  · subst h; omega
  · have : n * (q + 1) ≤ n * p := Nat.mul_le_mul_left n h
    rw [Nat.mul_add] at this; omega
theorem turn_sur {n s j : Nat} (hj : j < n) : ∃ t, t < n ∧ (t + s) % n = j := by
  have hn : 0 < n := by omega
  have ls := Nat.mod_lt s hn
  refine ⟨(j + (n - s % n)) % n, Nat.mod_lt _ hn, ?_⟩
  rw [Nat.add_mod, Nat.mod_mod, ← Nat.add_mod]
  have a := Nat.div_add_mod s n
  have e : j + (n - s % n) + s = j + n * (s / n + 1) := by rw [Nat.mul_add]; omega
  rw [e, Nat.add_mul_mod_self_left, Nat.mod_eq_of_lt hj]
attribute [irreducible] hsum
end Go.Proofs.YtppmicepkjhfeaaGreat

