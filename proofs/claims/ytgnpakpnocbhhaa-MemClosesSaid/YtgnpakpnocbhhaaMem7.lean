/-
  Package mem: Close.
-/
import Derived.Test.YtgnpakpnocbhhaaMem6
import Derived.Test.YtgnpakpnocbhhaaClose08
namespace Go.Proofs.Ytgnpakpnocbhhaa
open Go.RowKit
set_option linter.unusedVariables false

theorem Keeps.mono {F F' : Nat → Prop} {w w' : World} (h : Keeps F w w') (hF : ∀ j, j < w.heap.size → F j → F' j) : Keeps F' w w' :=
  ⟨h.os, h.tape, h.output, h.size, fun k hk hn => h.block k hk (fun q => hn (hF k hk q))⟩
theorem clo_f {L : List Spc} {k : Nat} (hk : k < L.length) (ho : (L.getD k (false, [])).1 = true) : clo L k = false := by
  unfold clo; rw [ho]; simp
/-- a space has been closed: its words are gone, its number is among the closed ones -/
theorem MO.closed {w w2 : World} {R : Nat → Nat} {mb mm : Nat} {sv qv : Value} {U : Nat → Value} {Q : List Nat} {L : List Spc} {a b : Nat} {h g : Int} (m : MO w R mb mm sv qv U Q L a b h g) {k : Nat} (hk : k < L.length) (ho : (L.getD k (false, [])).1 = true) {sg sc : Nat} (esv : sv = .slice (some ⟨sg, 0, none⟩) L.length sc) (hsg : R sg = 3) (sr : Row w sg L.length U) (hsc : L.length ≤ sc) (hscm : sc ≤ maxLen) (sce : Cells w sg 75 sc)
    {gq cq : Nat} {Q' : List Nat} {n1 : Nat} (hn1 : Q'.length = n1) (hc : n1 ≤ cq) (hcm : cq ≤ maxLen) (hg : R gq = 4 ∨ (w.setCell ⟨sg, k, none⟩ (.slice none 0 0)).heap.size ≤ gq) (row : WRw w2 mb mm sv (.slice (some ⟨gq, 0, none⟩) n1 cq)) (qr : Row w2 gq n1 (nqv Q')) (qce : Cells w2 gq 3 cq) (hh : HeapN Q' n1) (hp : Q'.Perm (k :: Q)) (K : Keeps (fun j => R j = 4 ∨ j = mb) (w.setCell ⟨sg, k, none⟩ (.slice none 0 0)) w2) :
    MO w2 (fun j => if j = gq then 4 else R j) mb mm sv (.slice (some ⟨gq, 0, none⟩) n1 cq) (fun j => if j = k then .slice none 0 0 else U j) Q' (L.set k (false, [])) a b h g ∧ TR R (fun j => if j = gq then 4 else R j) w w2 := by
  have sz : (w.setCell ⟨sg, k, none⟩ (.slice none 0 0)).heap.size = w.heap.size := by simp
  rw [sz] at hg
  have K0 : Keeps (fun j => R j = 3 ∨ R j = 4 ∨ j = mb) w w2 :=
    (Keeps.set (F := fun j => R j = 3 ∨ R j = 4 ∨ j = mb) w sg k (.slice none 0 0) (.inl hsg)).trans K (fun j _ q => by
      rcases q with q | q
      · exact .inr (.inl q)
      · exact .inr (.inr q))
  have e1 := m.r1
  have e2 := m.r2
  have lt1 := m.row.lt
  have n34 : ∀ j, R j ≠ 3 → R j ≠ 4 → R j ≠ 1 → ¬ (R j = 3 ∨ R j = 4 ∨ j = mb) := fun j h3 h4 h1 q => by
    rcases q with q | q | q
    · exact h3 q
    · exact h4 q
    · exact h1 (q ▸ e1)
  have n4 : ∀ j, R j ≠ 4 → R j ≠ 1 → ¬ (R j = 4 ∨ j = mb) := fun j h4 h1 q => by
    rcases q with q | q
    · exact h4 q
    · exact h1 (q ▸ e1)
  have lt2 : mm < w.heap.size := m.met.lt
  have new : ∀ j, j < w.heap.size → R j ≠ 4 → j ≠ gq := fun j hj h4 e => by
    subst e
    rcases hg with q | q
    · exact h4 q
    · omega
  have Rn : ∀ j, j < w.heap.size → R j ≠ 4 → (if j = gq then 4 else R j) = R j := fun j hj h4 => if_neg (new j hj h4)
  have lnQ : Q'.length = Q.length + 1 := by have := hp.length_eq; simpa using this
  refine ⟨⟨fun j hj => ?_, ?_, ?_, row, Row.keeps m.met K0 (n34 mm (by omega) (by omega) (by omega)), ?_, ?_, fun i hi => ?_, by rw [hn1]; exact hh, fun x => ?_, ?_, by rw [List.length_set]; exact m.lc, fun i hi => ?_, m.na, m.nb, m.fit⟩, ⟨K0.mono (fun j _ q => by
    rcases q with q | q | q
    · omega
    · omega
    · subst q; omega), fun j hj q => ?_⟩⟩
  · by_cases e : j = gq
    · subst e; exact qr.lt
    · rw [if_neg e] at hj; exact Nat.lt_of_lt_of_le (m.hi j hj) K0.size
  · show (if mb = gq then 4 else R mb) = 1
    rw [Rn mb lt1 (by omega)]; exact e1
  · show (if mm = gq then 4 else R mm) = 2
    rw [Rn mm lt2 (by omega)]; exact e2
  · rw [List.length_set]
    refine .inr ⟨sg, sc, esv, hsc, hscm, ?_, ?_, ?_⟩
    · show (if sg = gq then 4 else R sg) = 3
      rw [Rn sg sr.lt (by omega)]; exact hsg
    · exact (sr.set k hk (.slice none 0 0)).keeps K (n4 sg (by omega) (by omega))
    · exact (sce.set sg k _).keeps K (n4 sg (by omega) (by omega))
  · exact .inr ⟨gq, cq, by rw [hn1], by rw [hn1]; exact hc, hcm, if_pos rfl, by rw [hn1]; exact qr, qce⟩
  · rw [List.length_set] at hi
    rw [getD_set L k i _ hk]
    show WD w2 _ (5 + i) (if i = k then .slice none 0 0 else U i) _
    by_cases e : i = k
    · rw [if_pos e, if_pos e]; exact .inl ⟨rfl, rfl, rfl⟩
    · rw [if_neg e, if_neg e]
      refine (m.wd i hi).keeps K0 (fun j _ hj => n34 j (by omega) (by omega) (by omega)) (fun j hlt hj => ?_)
      · show (if j = gq then 4 else R j) = 5 + i
        rw [Rn j hlt (by omega)]; exact hj
  · rw [hp.count_eq, List.count_cons, clo_set L k x _ hk, m.cq x]
    by_cases e : x = k
    · subst e; rw [clo_f hk ho]; simp
    · rw [if_neg e]; simp [Ne.symm e]
  · have c := countv_set L k (false, []) hk
    rw [ho] at c
    have := m.ln
    rw [List.length_set]
    simp at c; omega
  · rw [List.length_set] at hi
    rw [wds_set L k i _ hk]
    split
    · simp
    · exact m.lw i hi
  · by_cases e : j = gq
    · subst e
      rcases hg with q' | q'
      · omega
      · omega
    · rw [if_neg e] at q; exact q

theorem mclose_no (mb mm : Nat) (R : Nat → Nat) (L : List Spc) (a b : Nat) (h g : Int) (w : World) (hm : MM w R mb mm L a b h g) (id : Int) (hE : isv L id = false) :
    Calls Try.prog 15 #[at0 mb, .int .i64 id] w fun e w' => e = .returned (.int .i64 10) ∧ w' = w := by
  obtain ⟨sv, qv, U, Q, m⟩ := hm
  have WH := Lib.hid (words_no mb mm R sv qv U Q L a b h g w m id hE)
  clear m hE
  go_enter Try.func15, Try.ntmps15
  go_wp2_with fail
  with_reducible refine WH.out.mono ?_
  rintro e w1 ⟨rfl, rfl⟩
  dsimp only
  go_wp2_with fail
  exact bodyPost_ret (v := .int .i64 10) (by simp [results, Try.results15, go_sem]) rfl ⟨rfl, rfl⟩
set_option maxRecDepth 100000 in
theorem mclose_ok (mb mm : Nat) (R : Nat → Nat) (L : List Spc) (a b : Nat) (h g : Int) (w : World) (hm : MM w R mb mm L a b h g) (k : Nat) (hk : k < L.length) (ho : (L.getD k (false, [])).1 = true) :
    Calls Try.prog 15 #[at0 mb, .int .i64 (k : Int)] w fun e w' => ∃ R', e = .returned (.int .i64 0) ∧ MM w' R' mb mm (L.set k (false, [])) a b (freeh h ((wds L k).length : Nat)) g ∧ TR R R' w w' := by
  obtain ⟨sv, qv, U, Q, m⟩ := hm
  have WO := words_ok mb mm R sv qv U Q L a b h g w m k hk ho
  obtain ⟨sg, sc, gk, ck, esv, hsg, sr, hsc, hscm, sce, eu, _, _, _, _, _⟩ := m.open_at hk ho
  have esv' := esv
  subst esv'
  rw [eu] at WO
  have WH := Lib.hid WO
  have lk := m.lw k hk
  have ln := m.ln
  have lc := m.lc
  have sgne : sg ≠ mb := fun e => by have := m.r1; subst e; omega
  have row1 : WRw (w.setCell ⟨sg, k, none⟩ (.slice none 0 0)) mb mm _ qv := Row.far m.row _ sgne
  have cl1 : ZQ (w.setCell ⟨sg, k, none⟩ (.slice none 0 0)) (fun j => R j = 4) 3 qv Q.length (nqv Q) := m.cl.keeps (Keeps.set (F := fun j => j = sg) w sg k _ rfl) (fun j _ h4 e => by subst e; omega) (fun _ _ h => h)
  have PU := Lib.hid (hpush_any mb mm k (.slice (some ⟨sg, 0, none⟩) L.length sc) qv (fun j => R j = 4) Q (w.setCell ⟨sg, k, none⟩ (.slice none 0 0)) row1 (by have := m.r1; omega) cl1 (by omega) m.hp (Q.length + 1) rfl)
  have CLO := Lib.hid (fun w2 gq cq Q' => MO.closed (w2 := w2) (gq := gq) (cq := cq) (Q' := Q') (n1 := Q.length + 1) m hk ho rfl hsg sr hsc hscm sce)
  have FIT := Lib.hid m.fit
  have NA := Lib.hid m.na
  have NB := Lib.hid m.nb
  have FR := Lib.hid (fun w' r => free_any mm a b h g ((wds L k).length : Nat) m.fit (by omega) w' r)
  have FE := Lib.hid (m.fit.free (n := ((wds L k).length : Nat)))
  obtain ⟨m0, m1, m2, mf, ml⟩ := m.row.all
  obtain ⟨x0, x1, x2, xf, xl⟩ := row1.all
  have c0 := sr.cell k hk
  have cf := sr.free k
  rw [eu] at c0
  have i0 : (0 : Int) ≤ (k : Int) := by omega
  have i1 : (k : Int) < (L.length : Int) := by omega
  clear m sr ho WO hk lk ln lc row1 cl1 sgne hsg hsc hscm sce eu esv
  generalize (wds L k).length = len at *
  generalize freeh h (len : Nat) = h' at *
  generalize Q.length + 1 = n1 at *
  go_enter Try.func15, Try.ntmps15
  go_wp2_with fail
  with_reducible refine WH.out.mono ?_
  rintro e w1 ⟨rfl, rfl⟩
  dsimp only
  go_wp2_with fail
  with_reducible refine PU.out.mono ?_
  rintro e w2 ⟨rfl, gq, cq, Q', ln', hc, hcm, hg, M2, R2', ce2, H2, P2, K2⟩
  dsimp only
  obtain ⟨M, T⟩ := CLO.out w2 gq cq Q' ln' hc hcm hg M2 R2' ce2 H2 P2 K2
  obtain ⟨y0, y1, y2, yf, yl⟩ := M2.all
  clear m0 m1 m2 mf ml x0 x1 x2 xf xl c0 cf
  go_wp2_with fail
  with_reducible refine (FR.out _ M.met).mono ?_
  rintro e w3 ⟨rfl, R3, B3⟩
  dsimp only
  go_wp2_with fail
  exact bodyPost_ret (v := .int .i64 0) (by simp [results, Try.results15, go_sem]) rfl ⟨_, rfl, ⟨_, _, _, _, M.meter B3 R3 NA.out NB.out (FE.out)⟩, T.trans (TR.bar B3 (by rw [M.r2]; decide))⟩
end Go.Proofs.Ytgnpakpnocbhhaa
