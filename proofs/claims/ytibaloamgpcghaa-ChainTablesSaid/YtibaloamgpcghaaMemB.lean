/-
  Package mem: Look. And what follows from it.
-/
import Derived.Test.YtibaloamgpcghaaMemA
import Derived.Test.YtibaloamgpcghaaOpen08
import Derived.Test.YtibaloamgpcghaaClose08
/-! ## Package mem: Look. -/
namespace Go.Proofs.Ytibaloamgpcghaa
open Go.RowKit
set_option linter.unusedVariables false

theorem mlook_no (mb mm : Nat) (R : Nat → Nat) (L : List Spc) (a b : Nat) (h g : Int) (w : World) (hm : MM w R mb mm L a b h g) (id : Int) (hE : isv L id = false) :
    Calls Try.prog 17 #[at0 mb, .int .i64 id] w fun e w' => e = .returned (.tuple #[.slice none 0 0, .int .i64 10]) ∧ w' = w := by
  obtain ⟨sv, qv, U, Q, m⟩ := hm
  have WH := Lib.hid (words_no mb mm R sv qv U Q L a b h g w m id hE)
  clear m hE
  go_enter Try.func17, Try.ntmps17
  go_wp2_with fail
  with_reducible refine WH.out.mono ?_
  rintro e w1 ⟨rfl, rfl⟩
  dsimp only
  go_wp2_with fail
  exact bodyPost_ret (v := .tuple #[.slice none 0 0, .int .i64 10]) (by simp [results, Try.results17, go_sem]) rfl ⟨rfl, rfl⟩
theorem cells_new (w : World) (n : Nat) : Cells (w.alloc (.cells (zrow n).toArray 44)) w.heap.size 44 n := ⟨_, heap_alloc_new w _, by unfold zrow; simp⟩
theorem zrow_new (w : World) (n : Nat) : Row (w.alloc (.cells (zrow n).toArray 44)) w.heap.size n (fun j => pw ((List.replicate n 0).getD j 0)) := Row.newAt w _ _ _ _ _ rfl (fun j hj => zrow_at n j hj)
set_option maxRecDepth 100000 in
theorem mlook_ok (mb mm : Nat) (R : Nat → Nat) (L : List Spc) (a b : Nat) (h g : Int) (w : World) (hm : MM w R mb mm L a b h g) (k : Nat) (hk : k < L.length) (ho : (L.getD k (false, [])).1 = true) :
    Calls Try.prog 17 #[at0 mb, .int .i64 (k : Int)] w fun e w' => ∃ a' c, e = .returned (.tuple #[.slice a' (wds L k).length c, .int .i64 0]) ∧ NL pw w' (.slice a' (wds L k).length c) (wds L k) ∧ Below w.heap.size w w' := by
  obtain ⟨sv, qv, U, Q, m⟩ := hm
  have WO := words_ok mb mm R sv qv U Q L a b h g w m k hk ho
  obtain ⟨sg, sc, gk, ck, rfl, _, sr, _, _, _, eu, _, kr, hc, hcm, ce⟩ := m.open_at hk ho
  rw [eu] at WO
  have WH := Lib.hid WO
  have lk := m.lw k hk
  obtain ⟨n, hn⟩ : ∃ n, (wds L k).length = n := ⟨_, rfl⟩
  rw [hn] at WH kr hc lk ⊢
  have MK := make_words n (by omega)
  have lr : (List.replicate n (0 : Nat)).length = n := List.length_replicate
  have BA : Below w.heap.size w (w.alloc (.cells (zrow n).toArray 44)) := bAlloc (Below.refl _ _) _
  have krA := kr.below BA
  obtain ⟨wz, CL, RZ, CZ, BZ⟩ := copy_run (w.alloc (.cells (zrow n).toArray 44)) w.heap.size n 0 n n ck gk 0 3 (List.replicate n 0) (fun j => wat L k j) (cells_new w n) (by rw [lr]; exact zrow_new w n) (by rw [lr]; exact Nat.le_refl _) (by rw [lr]; omega) (fun j hj => by rw [Nat.zero_add, krA.cell j hj, wat_nat])
  rw [lr] at RZ
  have RW := Lib.hid (show Row wz w.heap.size n (fun j => pw ((wds L k).getD j 0)) from RZ.congr fun j hj => by rw [wset_getD _ _ _ _ (by rw [lr]; omega), if_pos (by omega), Nat.sub_zero, wat_nat])
  have BB := Lib.hid (show Below w.heap.size w wz from BA.trans (BZ.below (Nat.le_refl _) BA.size))
  have HN := Lib.hid hn
  clear m sr ho eu WO hk kr hc hcm ce lk hn lr BA krA RZ CZ BZ
  go_enter Try.func17, Try.ntmps17
  go_wp2_with fail
  with_reducible refine WH.out.mono ?_
  rintro e w1 ⟨rfl, rfl⟩
  dsimp only
  go_wp2_with fail
  exact bodyPost_ret (v := .tuple #[.slice (some ⟨w1.heap.size, 0, none⟩) n n, .int .i64 0]) (by simp [results, Try.results17, go_sem]) rfl ⟨_, _, rfl, by
    have r := NL.of_row (p := pw) (L := wds L k) (c := n) (by rw [HN.out]; exact RW.out) (by rw [HN.out]; exact Nat.le_refl _)
    rw [HN.out] at r; exact r, BB.out⟩
end Go.Proofs.Ytibaloamgpcghaa
/-! ## Package mem: Close. -/
namespace Go.Proofs.Ytibaloamgpcghaa
open Go.RowKit
set_option linter.unusedVariables false

theorem Keeps.mono {F F' : Nat → Prop} {w w' : World} (h : Keeps F w w') (hF : ∀ j, j < w.heap.size → F j → F' j) : Keeps F' w w' :=
  ⟨h.os, h.tape, h.output, h.size, fun k hk hn => h.block k hk (fun q => hn (hF k hk q))⟩
theorem clo_f {L : List Spc} {k : Nat} (hk : k < L.length) (ho : (L.getD k (false, [])).1 = true) : clo L k = false := by
  unfold clo; rw [ho]; simp
/-- a space has been closed: its words are gone, its number is among the closed ones -/
theorem MO.closed {w w2 : World} {R : Nat → Nat} {mb mm : Nat} {sv qv : Value} {U : Nat → Value} {Q : List Nat} {L : List Spc} {a b : Nat} {h g : Int} (m : MO w R mb mm sv qv U Q L a b h g) {k : Nat} (hk : k < L.length) (ho : (L.getD k (false, [])).1 = true) {sg sc : Nat} (esv : sv = .slice (some ⟨sg, 0, none⟩) L.length sc) (hsg : R sg = 3) (sr : Row w sg L.length U) (hsc : L.length ≤ sc) (hscm : sc ≤ maxLen) (sce : Cells w sg 40 sc)
    {gq cq : Nat} {Q' : List Nat} {n1 : Nat} (hn1 : Q'.length = n1) (hc : n1 ≤ cq) (hcm : cq ≤ maxLen) (hg : R gq = 4 ∨ (w.setCell ⟨sg, k, none⟩ (.slice none 0 0)).heap.size ≤ gq) (row : WRw w2 mb mm sv (.slice (some ⟨gq, 0, none⟩) n1 cq)) (qr : Row w2 gq n1 (nqv Q')) (qce : Cells w2 gq 3 cq) (hh : HeapN Q' n1) (hp : Q'.Perm (k :: Q)) (K : Keeps (fun j => R j = 4 ∨ j = mb) (w.setCell ⟨sg, k, none⟩ (.slice none 0 0)) w2) :
    MO w2 (fun j => if j = gq then 4 else R j) mb mm sv (.slice (some ⟨gq, 0, none⟩) n1 cq) (fun j => if j = k then .slice none 0 0 else U j) Q' (L.set k (false, [])) a b h g ∧ TR R (fun j => if j = gq then 4 else R j) w w2 := by
  have sz : (w.setCell ⟨sg, k, none⟩ (.slice none 0 0)).heap.size = w.heap.size := by simp
  rw [sz] at hg
  have K0 : Keeps (fun j => R j = 3 ∨ R j = 4 ∨ j = mb) w w2 :=
    (Keeps.set (F := fun j => R j = 3 ∨ R j = 4 ∨ j = mb) w sg k (.slice none 0 0) (.inl hsg)).trans K (fun j _ q => by
      rcases q with q | q
      · exact .inr (.inl q)
      · exact .inr (.inr q))
  have e1 := m.r1
  have e2 := m.r2
  have lt1 := m.row.lt
  have n34 : ∀ j, R j ≠ 3 → R j ≠ 4 → R j ≠ 1 → ¬ (R j = 3 ∨ R j = 4 ∨ j = mb) := fun j h3 h4 h1 q => by
    rcases q with q | q | q
    · exact h3 q
    · exact h4 q
    · exact h1 (q ▸ e1)
  have n4 : ∀ j, R j ≠ 4 → R j ≠ 1 → ¬ (R j = 4 ∨ j = mb) := fun j h4 h1 q => by
    rcases q with q | q
    · exact h4 q
    · exact h1 (q ▸ e1)
  have lt2 : mm < w.heap.size := m.met.lt
  have new : ∀ j, j < w.heap.size → R j ≠ 4 → j ≠ gq := fun j hj h4 e => by
    subst e
    rcases hg with q | q
    · exact h4 q
    · omega
  have Rn : ∀ j, j < w.heap.size → R j ≠ 4 → (if j = gq then 4 else R j) = R j := fun j hj h4 => if_neg (new j hj h4)
  have lnQ : Q'.length = Q.length + 1 := by have := hp.length_eq; simpa using this
  refine ⟨⟨fun j hj => ?_, ?_, ?_, row, Row.keeps m.met K0 (n34 mm (by omega) (by omega) (by omega)), ?_, ?_, fun i hi => ?_, by rw [hn1]; exact hh, fun x => ?_, ?_, by rw [List.length_set]; exact m.lc, fun i hi => ?_, m.na, m.nb, m.fit⟩, ⟨K0.mono (fun j _ q => by
    rcases q with q | q | q
    · omega
    · omega
    · subst q; omega), fun j hj q => ?_⟩⟩
  · by_cases e : j = gq
    · subst e; exact qr.lt
    · rw [if_neg e] at hj; exact Nat.lt_of_lt_of_le (m.hi j hj) K0.size
  · show (if mb = gq then 4 else R mb) = 1
    rw [Rn mb lt1 (by omega)]; exact e1
  · show (if mm = gq then 4 else R mm) = 2
    rw [Rn mm lt2 (by omega)]; exact e2
  · rw [List.length_set]
    refine .inr ⟨sg, sc, esv, hsc, hscm, ?_, ?_, ?_⟩
    · show (if sg = gq then 4 else R sg) = 3
      rw [Rn sg sr.lt (by omega)]; exact hsg
    · exact (sr.set k hk (.slice none 0 0)).keeps K (n4 sg (by omega) (by omega))
    · exact (sce.set sg k _).keeps K (n4 sg (by omega) (by omega))
  · exact .inr ⟨gq, cq, by rw [hn1], by rw [hn1]; exact hc, hcm, if_pos rfl, by rw [hn1]; exact qr, qce⟩
  · rw [List.length_set] at hi
    rw [getD_set L k i _ hk]
    show WD w2 _ (5 + i) (if i = k then .slice none 0 0 else U i) _
    by_cases e : i = k
    · rw [if_pos e, if_pos e]; exact .inl ⟨rfl, rfl, rfl⟩
    · rw [if_neg e, if_neg e]
      refine (m.wd i hi).keeps K0 (fun j _ hj => n34 j (by omega) (by omega) (by omega)) (fun j hlt hj => ?_)
      · show (if j = gq then 4 else R j) = 5 + i
        rw [Rn j hlt (by omega)]; exact hj
  · rw [hp.count_eq, List.count_cons, clo_set L k x _ hk, m.cq x]
    by_cases e : x = k
    · subst e; rw [clo_f hk ho]; simp
    · rw [if_neg e]; simp [Ne.symm e]
  · have c := countv_set L k (false, []) hk
    rw [ho] at c
    have := m.ln
    rw [List.length_set]
    simp at c; omega
  · rw [List.length_set] at hi
    rw [wds_set L k i _ hk]
    split
    · simp
    · exact m.lw i hi
  · by_cases e : j = gq
    · subst e
      rcases hg with q' | q'
      · omega
      · omega
    · rw [if_neg e] at q; exact q

end Go.Proofs.Ytibaloamgpcghaa
/-! ## Package mem: number: a Mem with a place that waits for its words. -/
namespace Go.Proofs.Ytibaloamgpcghaa
open Go.RowKit
set_option linter.unusedVariables false

/-- A Mem whose space k is closed and whose number k is not among the closed ones. -/
structure MH (w : World) (R : Nat → Nat) (mb mm : Nat) (sv qv : Value) (U : Nat → Value) (Q : List Nat) (L : List Spc) (k a b : Nat) (h g : Int) : Prop where
  hi : ∀ j, R j ≠ 0 → j < w.heap.size
  r1 : R mb = 1
  r2 : R mm = 2
  row : WRw w mb mm sv qv
  met : MRow w mm a b h g
  sp : ZQ w (fun j => R j = 3) 40 sv L.length U
  cl : ZQ w (fun j => R j = 4) 3 qv Q.length (nqv Q)
  wd : ∀ i, i < L.length → WD w R (5 + i) (U i) (L.getD i (false, []))
  hp : HeapN Q Q.length
  hk : k < L.length
  hole : L.getD k (false, []) = (false, [])
  cq : ∀ x, Q.count x = if x = k then 0 else if clo L x then 1 else 0
  ln : Q.length + countv L + 1 = L.length
  lc : L.length ≤ 262144
  lw : ∀ i, i < L.length → (wds L i).length ≤ 4194304
  na : N128 a
  nb : N128 b
  fit : Fit h g
theorem clo_of {L : List Spc} {k : Nat} (h : clo L k = true) : k < L.length ∧ (L.getD k (false, [])).1 = false := by
  unfold clo at h
  rw [Bool.and_eq_true, decide_eq_true_iff] at h
  exact ⟨h.1, by simpa using h.2⟩
theorem clo_t {L : List Spc} {k : Nat} (h : k < L.length) (o : (L.getD k (false, [])).1 = false) : clo L k = true := by
  unfold clo; rw [o, decide_eq_true h]; rfl
theorem mem_count {Q : List Nat} {x : Nat} (h : x ∈ Q) : 0 < Q.count x := List.count_pos_iff.2 h
theorem MO.closed_in {w : World} {R : Nat → Nat} {mb mm : Nat} {sv qv : Value} {U : Nat → Value} {Q : List Nat} {L : List Spc} {a b : Nat} {h g : Int} (m : MO w R mb mm sv qv U Q L a b h g) {x : Nat} : x ∈ Q ↔ clo L x = true := by
  have c := m.cq x
  constructor
  · intro hx
    have := mem_count hx
    by_cases e : clo L x = true
    · exact e
    · rw [if_neg e] at c; omega
  · intro e
    rw [if_pos e] at c
    exact List.count_pos_iff.1 (by omega)
/-- the least closed number is the first one that is free -/
theorem MO.first {w : World} {R : Nat → Nat} {mb mm : Nat} {sv qv : Value} {U : Nat → Value} {Q : List Nat} {L : List Spc} {a b : Nat} {h g : Int} (m : MO w R mb mm sv qv U Q L a b h g) (hQ : 0 < Q.length) : nq Q 0 < L.length ∧ (L.getD (nq Q 0) (false, [])).1 = false ∧ firstc L = nq Q 0 := by
  obtain ⟨h1, h2⟩ := clo_of (m.closed_in.1 (nq_mem Q 0 hQ))
  refine ⟨h1, h2, firstc_eq L _ (fun j hj => ?_) (.inr ⟨h1, h2⟩)⟩
  cases o : (L.getD j (false, [])).1
  · have hm := m.closed_in.2 (clo_t (show j < L.length by omega) o)
    obtain ⟨i, hi, e⟩ := List.getElem_of_mem hm
    have := HeapN.least m.hp i hi
    have e2 : nq Q i = j := by unfold nq; rw [List.getD_eq_getElem?_getD, List.getElem?_eq_getElem hi]; exact e
    omega
  · rfl
theorem MO.full {w : World} {R : Nat → Nat} {mb mm : Nat} {sv qv : Value} {U : Nat → Value} {Q : List Nat} {L : List Spc} {a b : Nat} {h g : Int} (m : MO w R mb mm sv qv U Q L a b h g) (hQ : Q.length = 0) : firstc L = L.length := by
  refine firstc_eq L _ (fun j hj => ?_) (.inl rfl)
  cases o : (L.getD j (false, [])).1
  · have hm := m.closed_in.2 (clo_t hj o)
    rw [List.length_eq_zero_iff.1 hQ] at hm
    cases hm
  · rfl
theorem MO.wd_closed {w : World} {R : Nat → Nat} {mb mm : Nat} {sv qv : Value} {U : Nat → Value} {Q : List Nat} {L : List Spc} {a b : Nat} {h g : Int} (m : MO w R mb mm sv qv U Q L a b h g) {k : Nat} (hk : k < L.length) (o : (L.getD k (false, [])).1 = false) : L.getD k (false, []) = (false, []) ∧ U k = .slice none 0 0 := by
  rcases m.wd k hk with ⟨e0, e1, e2⟩ | ⟨e0, _⟩
  · exact ⟨Prod.ext e0 e1, e2⟩
  · rw [o] at e0; cases e0
theorem opened_pop {L : List Spc} {k : Nat} (hk : k < L.length) (f : firstc L = k) (n : Nat) : L.set k (true, List.replicate n 0) = opened L n := by
  unfold opened; rw [f, if_pos hk]
theorem opened_app {L : List Spc} (f : firstc L = L.length) (n : Nat) : (L ++ [(false, [])]).set L.length (true, List.replicate n 0) = opened L n := by
  unfold opened; rw [f, if_neg (by omega), List.set_append_right _ _ (Nat.le_refl _)]; simp
theorem MH.of_pop {w w1 : World} {R : Nat → Nat} {mb mm : Nat} {sv qv : Value} {U : Nat → Value} {Q Q' : List Nat} {L : List Spc} {a b : Nat} {h g : Int} (m : MO w R mb mm sv qv U Q L a b h g) (hQ : 0 < Q.length) {gq c n : Nat} (hg : R gq = 4) (hn : Q'.length = n) (hc : n ≤ c) (hcm : c ≤ maxLen) (row : WRw w1 mb mm sv (.slice (some ⟨gq, 0, none⟩) n c)) (qr : Row w1 gq n (nqv Q')) (qce : Cells w1 gq 3 c) (hh : HeapN Q' n) (hp : (nq Q 0 :: Q').Perm Q) (K : Keeps (fun j => j = gq ∨ j = mb) w w1) :
    MH w1 R mb mm sv (.slice (some ⟨gq, 0, none⟩) n c) U Q' L (nq Q 0) a b h g ∧ TR R R w w1 := by
  obtain ⟨hk, ho, _⟩ := m.first hQ
  have e1 := m.r1
  have e2 := m.r2
  have nn : ∀ j, R j ≠ 4 → R j ≠ 1 → ¬ (j = gq ∨ j = mb) := fun j h4 h1 q => by
    rcases q with q | q
    · exact h4 (q ▸ hg)
    · exact h1 (q ▸ e1)
  have lnQ : Q.length = Q'.length + 1 := by have := hp.length_eq; simpa using this.symm
  refine ⟨⟨fun j hj => Nat.lt_of_lt_of_le (m.hi j hj) K.size, e1, e2, row, Row.keeps m.met K (nn mm (by omega) (by omega)), m.sp.keeps K (fun j _ h3 => nn j (by omega) (by omega)) (fun _ _ h => h), .inr ⟨gq, c, by rw [hn], by rw [hn]; exact hc, hcm, hg, by rw [hn]; exact qr, qce⟩, fun i hi => (m.wd i hi).keeps K (fun j _ h5 => nn j (by omega) (by omega)) (fun _ _ h => h), by rw [hn]; exact hh, hk, (m.wd_closed hk ho).1, fun x => ?_, by have := m.ln; omega, m.lc, m.lw, m.na, m.nb, m.fit⟩, ⟨K.mono (fun j _ q => by
    rcases q with q | q
    · subst q; omega
    · subst q; omega), fun _ _ q => q⟩⟩
  have c1 := hp.count_eq x
  rw [List.count_cons, m.cq x] at c1
  by_cases e : x = nq Q 0
  · rw [if_pos e]
    rw [e, clo_t hk ho] at c1
    rw [e]
    simp at c1; omega
  · rw [if_neg e]
    simp [Ne.symm e] at c1
    exact c1
theorem clo_app (L : List Spc) (x : Nat) : clo (L ++ [(false, [])]) x = if x = L.length then true else clo L x := by
  unfold clo
  by_cases e : x = L.length
  · subst e; rw [if_pos rfl]; simp [List.getD]
  · rw [if_neg e]
    by_cases h : x < L.length
    · simp [List.getD, List.getElem?_append_left h, h]; omega
    · rw [decide_eq_false (by simp; omega), decide_eq_false h]; rfl
theorem MH.of_app {w W w1 w2 : World} {R : Nat → Nat} {mb mm : Nat} {sv qv : Value} {U : Nat → Value} {Q : List Nat} {L : List Spc} {a b : Nat} {h g : Int} (m : MO w R mb mm sv qv U Q L a b h g) (hQ : Q.length = 0) (hl : L.length < 262144) (BW : Below w.heap.size w W) {gs c : Nat} (hg : R gs = 3 ∨ W.heap.size ≤ gs) (hc : L.length + 1 ≤ c) (hcm : c ≤ maxLen) (sr : Row w1 gs (L.length + 1) (fun j => if j < L.length then U j else .slice none 0 0)) (sce : Cells w1 gs 40 c) (K : Keeps (fun j => R j = 3) W w1) (hw2 : w2 = w1.setCell ⟨mb, 1, none⟩ (.slice (some ⟨gs, 0, none⟩) (L.length + 1) c)) :
    MH w2 (fun j => if j = gs then 3 else R j) mb mm (.slice (some ⟨gs, 0, none⟩) (L.length + 1) c) qv (fun j => if j < L.length then U j else .slice none 0 0) Q (L ++ [(false, [])]) L.length a b h g ∧ TR R (fun j => if j = gs then 3 else R j) w w2 := by
  have e1 := m.r1
  have e2 := m.r2
  have sW := BW.size
  have K1 : Keeps (fun j => R j = 3) w w1 := (Keeps.of (F := fun j => R j = 3) BW).trans K (fun _ _ q => q)
  have lt1 := m.row.lt
  have lt2 : mm < w.heap.size := m.met.lt
  have new : ∀ j, j < w.heap.size → R j ≠ 3 → j ≠ gs := fun j hj h3 e => by
    subst e
    rcases hg with q | q
    · exact h3 q
    · omega
  have Rn : ∀ j, j < w.heap.size → R j ≠ 3 → (if j = gs then 3 else R j) = R j := fun j hj h3 => if_neg (new j hj h3)
  have KS : Keeps (fun j => j = mb) w1 w2 := by rw [hw2]; exact Keeps.set _ mb 1 _ rfl
  have K2 : Keeps (fun j => R j = 3 ∨ j = mb) w w2 := (K1.mono (F' := fun j => R j = 3 ∨ j = mb) (fun _ _ q => .inl q)).trans KS (fun _ _ q => .inr q)
  have nn : ∀ j, R j ≠ 3 → R j ≠ 1 → ¬ (R j = 3 ∨ j = mb) := fun j h3 h1 q => by
    rcases q with q | q
    · exact h3 q
    · exact h1 (q ▸ e1)
  have gne : gs ≠ mb := fun e => new mb lt1 (by omega) e.symm
  have la : (L ++ [((false, []) : Spc)]).length = L.length + 1 := by simp
  have mrow1 : WRw w1 mb mm sv qv := Row.keeps m.row K1 (by show ¬ R mb = 3; omega)
  refine ⟨⟨fun j hj => ?_, ?_, ?_, by rw [hw2]; exact mrow1.setS _, Row.keeps m.met K2 (nn mm (by omega) (by omega)), ?_, m.cl.keeps K2 (fun j _ h4 => nn j (by omega) (by omega)) (fun j hlt h4 => ?_), fun i hi => ?_, m.hp, by rw [la]; omega, by simp [List.getD], fun x => ?_, ?_, by rw [la]; omega, fun i hi => ?_, m.na, m.nb, m.fit⟩, ⟨K2.mono (fun j _ q => by
    rcases q with q | q
    · omega
    · subst q; omega), fun j hj q => ?_⟩⟩
  · by_cases e : j = gs
    · subst e; exact Nat.lt_of_lt_of_le sr.lt KS.size
    · rw [if_neg e] at hj; exact Nat.lt_of_lt_of_le (m.hi j hj) K2.size
  · show (if mb = gs then 3 else R mb) = 1
    rw [Rn mb lt1 (by omega)]; exact e1
  · show (if mm = gs then 3 else R mm) = 2
    rw [Rn mm lt2 (by omega)]; exact e2
  · rw [la]
    exact .inr ⟨gs, c, rfl, hc, hcm, if_pos rfl, sr.keeps KS gne, sce.keeps KS gne⟩
  · show (if j = gs then 3 else R j) = 4
    rw [Rn j hlt (by omega)]; exact h4
  · rw [la] at hi
    show WD w2 _ (5 + i) (if i < L.length then U i else .slice none 0 0) _
    by_cases e : i < L.length
    · rw [if_pos e]
      have gd : (L ++ [((false, []) : Spc)]).getD i (false, []) = L.getD i (false, []) := by simp [List.getD, List.getElem?_append_left e]
      rw [gd]
      refine (m.wd i e).keeps K2 (fun j _ h5 => nn j (by omega) (by omega)) (fun j hlt h5 => ?_)
      show (if j = gs then 3 else R j) = 5 + i
      rw [Rn j hlt (by omega)]; exact h5
    · rw [if_neg e]
      have ei : i = L.length := by omega
      subst ei
      exact .inl (by simp [List.getD])
  · rw [m.cq x, clo_app]
    have := List.length_eq_zero_iff.1 hQ
    by_cases e : x = L.length
    · rw [if_pos e]
      have : ¬ clo L x = true := fun q => by have := (clo_of q).1; omega
      rw [if_neg this]
    · rw [if_neg e, if_neg e]
  · rw [countv_snoc, la]
    have := m.ln
    simp; omega
  · rw [la] at hi
    by_cases e : i < L.length
    · have := m.lw i e
      unfold wds at this ⊢
      simp only [List.getD, List.getElem?_append_left e]
      exact this
    · have ei : i = L.length := by omega
      subst ei
      unfold wds; simp [List.getD]
  · by_cases e : j = gs
    · subst e
      rcases hg with q' | q'
      · omega
      · omega
    · rw [if_neg e] at q; exact q
/-- the place is filled -/
theorem MH.put {w wa w2 : World} {R : Nat → Nat} {mb mm : Nat} {sv qv : Value} {U : Nat → Value} {Q : List Nat} {L : List Spc} {k a b : Nat} {h g : Int} (m : MH w R mb mm sv qv U Q L k a b h g) {n : Nat} (hn : n ≤ 4194304) (ew : wa = w.alloc (.cells (zrow n).toArray 44)) {sg sc : Nat} (esv : sv = .slice (some ⟨sg, 0, none⟩) L.length sc) (hsg : R sg = 3) (sr : Row w sg L.length U) (hsc : L.length ≤ sc) (hscm : sc ≤ maxLen) (sce : Cells w sg 40 sc)
    (e2w : w2 = wa.setCell ⟨sg, k, none⟩ (.slice (some ⟨w.heap.size, 0, none⟩) n n)) :
    MO w2 (fun j => if j = w.heap.size then 5 + k else R j) mb mm sv qv (fun j => if j = k then .slice (some ⟨w.heap.size, 0, none⟩) n n else U j) Q (L.set k (true, List.replicate n 0)) a b h g ∧ TR R (fun j => if j = w.heap.size then 5 + k else R j) w w2 := by
  have e1 := m.r1
  have e2 := m.r2
  have BA : Below w.heap.size w wa := by rw [ew]; exact bAlloc (Below.refl _ _) _
  have sa : wa.heap.size = w.heap.size + 1 := by rw [ew]; simp
  have KS : Keeps (fun j => j = sg) wa w2 := by rw [e2w]; exact Keeps.set _ sg k _ rfl
  have K2 : Keeps (fun j => R j = 3) w w2 := (Keeps.of (F := fun j => R j = 3) BA).trans KS (fun j _ q => by show R j = 3; rw [q]; exact hsg)
  have Rn : ∀ j, j < w.heap.size → (if j = w.heap.size then 5 + k else R j) = R j := fun j hj => if_neg (by omega)
  have lt1 := m.row.lt
  have lt2 : mm < w.heap.size := m.met.lt
  have nsg : w.heap.size ≠ sg := by have := sr.lt; omega
  have lr : (List.replicate n (0 : Nat)).length = n := List.length_replicate
  refine ⟨⟨fun j hj => ?_, ?_, ?_, Row.keeps m.row K2 (by show ¬ R mb = 3; omega), Row.keeps m.met K2 (by show ¬ R mm = 3; omega), ?_, m.cl.keeps K2 (fun j _ h4 => by show ¬ R j = 3; omega) (fun j hlt h4 => by show (if j = w.heap.size then 5 + k else R j) = 4; rw [Rn j hlt]; exact h4), fun i hi => ?_, m.hp, fun x => ?_, ?_, by rw [List.length_set]; exact m.lc, fun i hi => ?_, m.na, m.nb, m.fit⟩, ⟨K2.mono (fun j _ q => by show R j ≠ 0; have : R j = 3 := q; omega), fun j hj q => by rw [Rn j hj] at q; exact q⟩⟩
  · have s2 := KS.size
    by_cases e : j = w.heap.size
    · omega
    · rw [if_neg e] at hj; have := m.hi j hj; omega
  · show (if mb = w.heap.size then 5 + k else R mb) = 1
    rw [Rn mb lt1]; exact e1
  · show (if mm = w.heap.size then 5 + k else R mm) = 2
    rw [Rn mm lt2]; exact e2
  · rw [List.length_set]
    refine .inr ⟨sg, sc, esv, hsc, hscm, ?_, ?_, ?_⟩
    · show (if sg = w.heap.size then 5 + k else R sg) = 3
      rw [Rn sg sr.lt]; exact hsg
    · rw [e2w]; exact (sr.below BA).set k m.hk _
    · rw [e2w]; exact (sce.below BA).set sg k _
  · rw [List.length_set] at hi
    rw [getD_set L k i _ m.hk]
    show WD w2 _ (5 + i) (if i = k then .slice (some ⟨w.heap.size, 0, none⟩) n n else U i) _
    by_cases e : i = k
    · rw [if_pos e, if_pos e, e]
      refine .inr ⟨rfl, w.heap.size, n, by rw [lr], by rw [lr]; exact Nat.le_refl _, by unfold maxLen; omega, if_pos rfl, ?_, ?_⟩
      · rw [lr]
        refine Row.keeps (w := wa) ?_ KS nsg
        rw [ew]; exact zrow_new w n
      · refine Cells.keeps (w := wa) ?_ KS nsg
        rw [ew]; exact cells_new w n
    · rw [if_neg e, if_neg e]
      exact (m.wd i hi).keeps K2 (fun j _ h5 => by show ¬ R j = 3; omega) (fun j hlt h5 => by show (if j = w.heap.size then 5 + k else R j) = 5 + i; rw [Rn j hlt]; exact h5)
  · rw [m.cq x, clo_set L k x _ m.hk]
    by_cases e : x = k
    · rw [if_pos e, if_pos e]; rfl
    · rw [if_neg e, if_neg e]
  · have c := countv_set L k (true, List.replicate n 0) m.hk
    rw [m.hole] at c
    have := m.ln
    rw [List.length_set]
    simp at c; omega
  · rw [List.length_set] at hi
    rw [wds_set L k i _ m.hk]
    split
    · show (List.replicate n 0).length ≤ _
      rw [lr]; exact hn
    · exact m.lw i hi
theorem MO.drew {w : World} {R : Nat → Nat} {mb mm : Nat} {sv qv : Value} {U : Nat → Value} {Q : List Nat} {L : List Spc} {a b : Nat} {h g : Int} (m : MO w R mb mm sv qv U Q L a b h g) : MO w.drew R mb mm sv qv U Q L a b h g := m.below (Below.refl _ _).drew
theorem TR.drew {R R' : Nat → Nat} {w w' : World} (h : TR R R' w w') : TR R R' w w'.drew := h.trans (TR.of (Below.refl _ _).drew)
theorem MH.drew {w : World} {R : Nat → Nat} {mb mm : Nat} {sv qv : Value} {U : Nat → Value} {Q : List Nat} {L : List Spc} {k a b : Nat} {h g : Int} (m : MH w R mb mm sv qv U Q L k a b h g) : MH w.drew R mb mm sv qv U Q L k a b h g := by
  have B : Below w.heap.size w w.drew := (Below.refl _ _).drew
  exact ⟨m.hi, m.r1, m.r2, m.row.drew, m.met.drew, m.sp.below B, m.cl.below B, fun i hi => (m.wd i hi).keeps (Keeps.of (F := fun _ => False) B) (fun _ _ _ h => h) (fun _ _ h => h), m.hp, m.hk, m.hole, m.cq, m.ln, m.lc, m.lw, m.na, m.nb, m.fit⟩
end Go.Proofs.Ytibaloamgpcghaa
/-! ## Package mem: number, Open. -/
namespace Go.Proofs.Ytibaloamgpcghaa
open Go.RowKit
set_option linter.unusedVariables false

theorem infoU : (Try.prog.info? 40).map (fun i => (i.zero, i.size, i.bytes)) = some (some (.slice none 0 0), 1, 24) := by kernel_rfl
set_option maxRecDepth 100000 in
set_option maxHeartbeats 1000000 in
theorem number_pop (mb mm : Nat) (R : Nat → Nat) (sv qv : Value) (U : Nat → Value) (Q : List Nat) (L : List Spc) (a b : Nat) (h g : Int) (w : World) (m : MO w R mb mm sv qv U Q L a b h g) (hQ : 0 < Q.length) :
    Calls Try.prog 23 #[at0 mb] w fun e w' => ∃ qv' Q', e = .returned (.int .i64 ((nq Q 0 : Nat) : Int)) ∧ MH w' R mb mm sv qv' U Q' L (nq Q 0) a b h g ∧ TR R R w w' := by
  rcases m.cl with ⟨_, e⟩ | ⟨gq, c, rfl, hc, hcm, hg, qr, qce⟩
  · omega
  obtain ⟨n, hn⟩ : ∃ n, Q.length = n := ⟨_, rfl⟩
  obtain ⟨p, hp⟩ : ∃ p, n = p + 1 := ⟨n - 1, by omega⟩
  have gne : mb ≠ gq := fun e => by have := m.r1; have : R gq = 4 := hg; subst e; omega
  have lc := m.lc
  have ln := m.ln
  have hh := m.hp
  have PO := Lib.hid (hpop_any mb mm gq p c sv Q w n hp (by rw [← hn]; exact m.row) gne (by rw [← hn]; exact qr) qce hn (by omega) hcm (by omega) hh)
  have PP := Lib.hid (fun w1 Q' => MH.of_pop (w1 := w1) (gq := gq) (c := c) (n := p) (Q' := Q') m hQ hg)
  have HC := Lib.hid (show p ≤ c by omega)
  have HCM := Lib.hid hcm
  obtain ⟨m0, m1, m2, mf, ml⟩ := m.row.all
  rw [hn] at m2
  have i0 : 0 < n := by omega
  have RA := fun w => run_as ((nq Q 0 : Nat) : Int) w
  clear m qr qce hc hcm hg lc ln hh hn hp hQ gne
  generalize nq Q 0 = x at *
  go_enter Try.func23, Try.ntmps23
  go_wp2_with fail
  with_reducible refine PO.out.mono ?_
  rintro e w1 ⟨rfl, Q', ln', row1, qr1, ce1, h1, p1, K1⟩
  dsimp only
  go_wp2_with fail
  go_ret
  obtain ⟨M, T⟩ := PP.out w1 Q' ln' HC.out HCM.out row1 qr1 ce1 h1 p1 K1
  exact ⟨_, _, rfl, M, T⟩
set_option maxRecDepth 100000 in
set_option maxHeartbeats 1000000 in
theorem number_app (mb mm : Nat) (R : Nat → Nat) (sv qv : Value) (U : Nat → Value) (Q : List Nat) (L : List Spc) (a b : Nat) (h g : Int) (w : World) (m : MO w R mb mm sv qv U Q L a b h g) (hQ : Q.length = 0) (hl : L.length < 262144) :
    Calls Try.prog 23 #[at0 mb] w fun e w' => ∃ R' sv' U', e = .returned (.int .i64 ((L.length : Nat) : Int)) ∧ MH w' R' mb mm sv' qv U' Q (L ++ [(false, [])]) L.length a b h g ∧ TR R R' w w' := by
  obtain ⟨i0, hi, hz0, hz1, hz2⟩ := info_parts2 infoU
  obtain ⟨m0, m1, m2, mf, ml⟩ := m.row.all
  obtain ⟨qa, qc, rfl⟩ := m.cl.slice
  rw [hQ] at m2
  have BA := bAlloc (Below.refl w.heap.size w) (.cells #[.slice none 0 0] 40)
  obtain ⟨gs, c, w1, hr, hc, hcm, hg, sr, sce, K⟩ := push1 (P := Try.prog) (w.alloc (.cells #[.slice none 0 0] 40)) (fun j => R j = 3) 40 62 62 i0 _ 24 Try.underlying62 hi hz0 hz1 hz2 rfl (by decide) sv L.length U (m.sp.below BA) w.heap.size (.slice none 0 0) (by rw [World.cell?_alloc_new]; rfl) rfl (by omega)
  have M1 : WRw w1 mb mm sv (.slice qa Q.length qc) := Row.keeps (m.row.below BA) K (by show ¬ R mb = 3; have := m.r1; omega)
  obtain ⟨t0, t1, t2, tf, tl⟩ := M1.all
  obtain ⟨w2, hw2⟩ : ∃ w2, w2 = w1.setCell ⟨mb, 1, none⟩ (.slice (some ⟨gs, 0, none⟩) (L.length + 1) c) := ⟨_, rfl⟩
  obtain ⟨MH1, TR1⟩ := MH.of_app m hQ hl BA hg hc hcm sr sce K hw2
  have HM := Lib.hid MH1
  have HT := Lib.hid TR1
  have row2 := MH1.row
  obtain ⟨y0, y1, y2, yf, yl⟩ := row2.all
  have HW := Lib.hid hw2
  have HH := Lib.hid hr
  obtain ⟨n1, hn1⟩ : ∃ n1, L.length + 1 = n1 := ⟨_, rfl⟩
  rw [hn1] at y1 HH HW hc
  have e0 : (n1 : Int) - 1 = (L.length : Int) := by omega
  have wk : wrap64 (L.length : Int) = (L.length : Int) := by unfold wrap64; omega
  clear m hi hz0 hz1 hz2 BA hr hc hcm hg sr sce K M1 MH1 TR1 row2 hw2 hn1 hl
  go_enter Try.func23, Try.ntmps23
  go_wp2_with (at_builtin; refine Lib.wpList_append_run _ rfl _ _ _ _ rfl _ _ rfl rfl _ _ HH.out ?_)
  go_ret
  rw [← HW.out]
  exact ⟨_, _, _, by first | rfl | (rw [wk]; rfl), HM.out, HT.out⟩
theorem number_any (mb mm : Nat) (R : Nat → Nat) (sv qv : Value) (U : Nat → Value) (Q : List Nat) (L : List Spc) (a b : Nat) (h g : Int) (w : World) (m : MO w R mb mm sv qv U Q L a b h g) (hl : countv L < 262144) :
    Calls Try.prog 23 #[at0 mb] w fun e w' => ∃ k L' R' sv' qv' U' Q', e = .returned (.int .i64 ((k : Nat) : Int)) ∧ firstc L = k ∧ (∀ n, L'.set k (true, List.replicate n 0) = opened L n) ∧ MH w' R' mb mm sv' qv' U' Q' L' k a b h g ∧ TR R R' w w' := by
  by_cases hQ : Q.length = 0
  · have f := m.full hQ
    refine (number_app mb mm R sv qv U Q L a b h g w m hQ (by have := m.ln; omega)).mono fun e w' ⟨R', sv', U', he, M, T⟩ => ?_
    exact ⟨_, _, _, _, _, _, _, he, f, fun n => opened_app f n, M, T⟩
  · obtain ⟨hk, _, f⟩ := m.first (show 0 < Q.length by omega)
    refine (number_pop mb mm R sv qv U Q L a b h g w m (by omega)).mono fun e w' ⟨qv', Q', he, M, T⟩ => ?_
    exact ⟨_, _, _, _, _, _, _, he, f, fun n => opened_pop hk f n, M, T⟩

theorem mopen_neg (mb : Nat) (n : Int) (hn : n < 0) (w : World) :
    Calls Try.prog 7 #[at0 mb, .int .i64 n] w fun e w' => e = .returned (.tuple #[.int .i64 0, .int .i64 1]) ∧ w' = w := by
  go_enter Try.func7, Try.ntmps7
  go_wp2_with fail
  exact bodyPost_ret (v := .tuple #[.int .i64 0, .int .i64 1]) (by simp [results, Try.results7, go_sem]) rfl ⟨rfl, rfl⟩
theorem mopen_long (mb : Nat) (n : Int) (hn : 4194304 < n) (w : World) :
    Calls Try.prog 7 #[at0 mb, .int .i64 n] w fun e w' => e = .returned (.tuple #[.int .i64 0, .int .i64 7]) ∧ w' = w := by
  have n0 : decide (n < 0) = false := decide_eq_false (by omega)
  go_enter Try.func7, Try.ntmps7
  go_wp2_with fail
  exact bodyPost_ret (v := .tuple #[.int .i64 0, .int .i64 7]) (by simp [results, Try.results7, go_sem]) rfl ⟨rfl, rfl⟩
set_option maxRecDepth 100000 in
set_option maxHeartbeats 1000000 in
theorem mopen_ok (mb mm : Nat) (R : Nat → Nat) (L : List Spc) (a b : Nat) (h g : Int) (w : World) (hm : MM w R mb mm L a b h g) (n : Nat) (hn : n ≤ 4194304) (hl : countv L < 262144) :
    Calls Try.prog 7 #[at0 mb, .int .i64 (n : Int)] w fun e w' => ∃ R', e = .returned (.tuple #[.int .i64 ((firstc L : Nat) : Int), .int .i64 0]) ∧ MM w' R' mb mm (opened L n) a b (holdh h (n : Int)) (holdg h g (n : Int)) ∧ TR R R' w w' := by
  have SP := Lib.hid (mspaces_any mb mm R L a b h g w hm)
  obtain ⟨sv, qv, U, Q, m⟩ := hm
  have NU := Lib.hid (fun w' (bw : Below w.heap.size w w') => number_any mb mm R sv qv U Q L a b h g w' (m.below bw) hl)
  have FIT := m.fit
  have HO := Lib.hid (fun w' r => hold_any mm a b h g (n : Int) FIT (by omega) w' r)
  have FE := Lib.hid (FIT.hold (n := (n : Int)))
  have NA := Lib.hid m.na
  have NB := Lib.hid m.nb
  have HN := Lib.hid hn
  have MK := make_words n (by omega)
  have cl : ((countv L : Nat) : Int) ≠ 262144 := by omega
  have cl2 : (((countv L : Nat) : Int) == 262144) = false := by simp; omega
  have n1 : decide (4194304 < (n : Int)) = false := decide_eq_false (by omega)
  have n0 : decide ((n : Int) < 0) = false := decide_eq_false (by omega)
  clear m hl FIT hn cl
  generalize countv L = ct at *
  generalize holdh h (n : Int) = h' at *
  generalize holdg h g (n : Int) = g' at *
  generalize holde h (n : Int) = er at *
  go_enter Try.func7, Try.ntmps7
  go_wp2_with fail
  with_reducible refine SP.out.mono ?_
  rintro e w1 ⟨rfl, b1⟩
  dsimp only
  go_wp2_with fail
  with_reducible refine (NU.out _ b1).mono ?_
  rintro e w2 ⟨k, L', R', sv', qv', U', Q', rfl, fk, op, M, T⟩
  dsimp only
  obtain ⟨m0, m1, m2, mf, ml⟩ := M.row.all
  rcases M.sp with ⟨_, e⟩ | ⟨sg, sc, rfl, hsc, hscm, hsg, sr, sce⟩
  · exact absurd M.hk (by omega)
  have BA := bAlloc (Below.refl w2.heap.size w2) (.cells (zrow n).toArray 44)
  have hk := M.hk
  have c0 := sr.cell k hk
  have c1 := (sr.below BA).cell k hk
  have f0 := sr.free k
  have f1 := (sr.below BA).free k
  have i0 : (0 : Int) ≤ (k : Int) := by omega
  have i1 : (k : Int) < (L'.length : Int) := by omega
  obtain ⟨w3, hw3⟩ : ∃ w3, w3 = (w2.alloc (.cells (zrow n).toArray 44)).setCell ⟨sg, k, none⟩ (.slice (some ⟨w2.heap.size, 0, none⟩) n n) := ⟨_, rfl⟩
  obtain ⟨M3, T3⟩ := M.put HN.out rfl rfl hsg sr hsc hscm sce hw3
  have HM3 := Lib.hid M3
  have HT3 := Lib.hid T3
  have HW := Lib.hid hw3
  have HF := Lib.hid fk
  have HOP := Lib.hid (op n)
  have TT := Lib.hid ((TR.of b1 : TR R R w w1).trans T)
  clear M hsc hscm hsg sr sce BA hk hw3 M3 T3 fk op T b1 SP NU
  go_upto_region 8 with fail
  go_region
  all_goals
    rw [← HW.out]
    clear c0 c1 f0 f1 m0 m1 m2 mf ml
    have M4 := HM3.out
    first
      | (have M5 := M4
         have T5 := TT.out.trans HT3.out
         obtain ⟨m0, m1, m2, mf, ml⟩ := M5.row.all
         go_wp2_with fail
         with_reducible refine (HO.out _ M5.met).mono ?_
         rintro e w4 ⟨rfl, R4, B4⟩
         dsimp only
         go_wp2_with fail
         exact bodyPost_ret (v := .tuple #[.int .i64 (k : Int), .int .i64 0]) (by simp [results, Try.results7, go_sem]) rfl ⟨_, by rw [HF.out], by rw [← HOP.out]; exact ⟨_, _, _, _, M5.meter B4 R4 NA.out NB.out FE.out⟩, T5.trans (TR.bar B4 (by rw [M5.r2]; decide))⟩)
      | (have M5 := M4.drew
         have T5 := (TT.out.trans HT3.out).drew
         obtain ⟨m0, m1, m2, mf, ml⟩ := M5.row.all
         go_wp2_with fail
         with_reducible refine (HO.out _ M5.met).mono ?_
         rintro e w4 ⟨rfl, R4, B4⟩
         dsimp only
         go_wp2_with fail
         exact bodyPost_ret (v := .tuple #[.int .i64 (k : Int), .int .i64 0]) (by simp [results, Try.results7, go_sem]) rfl ⟨_, by rw [HF.out], by rw [← HOP.out]; exact ⟨_, _, _, _, M5.meter B4 R4 NA.out NB.out FE.out⟩, T5.trans (TR.bar B4 (by rw [M5.r2]; decide))⟩)
end Go.Proofs.Ytibaloamgpcghaa
