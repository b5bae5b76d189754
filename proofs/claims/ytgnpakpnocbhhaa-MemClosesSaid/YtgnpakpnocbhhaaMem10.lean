/-
  Package mem: Grow.
-/
import Derived.Test.YtgnpakpnocbhhaaZeros2
namespace Go.Proofs.Ytgnpakpnocbhhaa
open Go.RowKit
set_option linter.unusedVariables false

/-- the words of an open space lie in another block, or in more of their own -/
theorem MO.grown {w W w7 w8 : World} {R : Nat → Nat} {mb mm : Nat} {sv qv : Value} {U : Nat → Value} {Q : List Nat} {L : List Spc} {a b : Nat} {h g : Int} (m : MO w R mb mm sv qv U Q L a b h g) {k : Nat} (hk : k < L.length) (ho : (L.getD k (false, [])).1 = true) (BW : Below w.heap.size w W) {sg sc : Nat} (esv : sv = .slice (some ⟨sg, 0, none⟩) L.length sc) (hsg : R sg = 3) (sr : Row w sg L.length U) (hsc : L.length ≤ sc) (hscm : sc ≤ maxLen) (sce : Cells w sg 75 sc)
    {gk g7 c7 : Nat} {ws : List Nat} (hgk : R gk = 5 + k) (hg : g7 = gk ∨ W.heap.size ≤ g7) (hc : ws.length ≤ c7) (hcm : c7 ≤ maxLen) (r7 : Row w7 g7 ws.length (fun j => pw (ws.getD j 0))) (ce7 : Cells w7 g7 28 c7) (hl : ws.length ≤ 4194304) (K : Keeps (fun j => j = gk) W w7) (hw8 : w8 = w7.setCell ⟨sg, k, none⟩ (.slice (some ⟨g7, 0, none⟩) ws.length c7)) :
    MO w8 (fun j => if j = g7 then 5 + k else R j) mb mm sv qv (fun j => if j = k then .slice (some ⟨g7, 0, none⟩) ws.length c7 else U j) Q (L.set k (true, ws)) a b h g ∧ TR R (fun j => if j = g7 then 5 + k else R j) w w8 := by
  have e1 := m.r1
  have e2 := m.r2
  have sW := BW.size
  have K1 : Keeps (fun j => j = gk) w w7 := (Keeps.of (F := fun j => j = gk) BW).trans K (fun _ _ q => q)
  have KS : Keeps (fun j => j = sg) w7 w8 := by rw [hw8]; exact Keeps.set _ sg k _ rfl
  have K2 : Keeps (fun j => j = gk ∨ j = sg) w w8 := (K1.mono (F' := fun j => j = gk ∨ j = sg) (fun _ _ q => .inl q)).trans KS (fun _ _ q => .inr q)
  have nn : ∀ j, R j ≠ 5 + k → R j ≠ 3 → ¬ (j = gk ∨ j = sg) := fun j h5 h3 q => by
    rcases q with q | q
    · exact h5 (q ▸ hgk)
    · exact h3 (q ▸ hsg)
  have new : ∀ j, j < w.heap.size → R j ≠ 5 + k → j ≠ g7 := fun j hj h5 e => by
    subst e
    rcases hg with q | q
    · exact h5 (q ▸ hgk)
    · omega
  have Rn : ∀ j, j < w.heap.size → R j ≠ 5 + k → (if j = g7 then 5 + k else R j) = R j := fun j hj h5 => if_neg (new j hj h5)
  have lt1 := m.row.lt
  have lt2 : mm < w.heap.size := m.met.lt
  have gsne : g7 ≠ sg := fun e => new sg sr.lt (by omega) e.symm
  refine ⟨⟨fun j hj => ?_, ?_, ?_, Row.keeps m.row K2 (nn mb (by omega) (by omega)), Row.keeps m.met K2 (nn mm (by omega) (by omega)), ?_, m.cl.keeps K2 (fun j _ h4 => nn j (by omega) (by omega)) (fun j hlt h4 => by show (if j = g7 then 5 + k else R j) = 4; rw [Rn j hlt (by omega)]; exact h4), fun i hi => ?_, m.hp, fun x => ?_, ?_, by rw [List.length_set]; exact m.lc, fun i hi => ?_, m.na, m.nb, m.fit⟩, ⟨K2.mono (fun j _ q => by
    rcases q with q | q
    · subst q; omega
    · subst q; omega), fun j hj q => ?_⟩⟩
  · by_cases e : j = g7
    · subst e; exact Nat.lt_of_lt_of_le r7.lt KS.size
    · rw [if_neg e] at hj; exact Nat.lt_of_lt_of_le (m.hi j hj) K2.size
  · show (if mb = g7 then 5 + k else R mb) = 1
    rw [Rn mb lt1 (by omega)]; exact e1
  · show (if mm = g7 then 5 + k else R mm) = 2
    rw [Rn mm lt2 (by omega)]; exact e2
  · rw [List.length_set]
    refine .inr ⟨sg, sc, esv, hsc, hscm, ?_, ?_, ?_⟩
    · show (if sg = g7 then 5 + k else R sg) = 3
      rw [Rn sg sr.lt (by omega)]; exact hsg
    · have sne : ¬ sg = gk := fun e => by subst e; omega
      rw [hw8]; exact (sr.keeps K1 sne).set k hk _
    · have sne : ¬ sg = gk := fun e => by subst e; omega
      rw [hw8]; exact (sce.keeps K1 sne).set sg k _
  · rw [List.length_set] at hi
    rw [getD_set L k i _ hk]
    show WD w8 _ (5 + i) (if i = k then .slice (some ⟨g7, 0, none⟩) ws.length c7 else U i) _
    by_cases e : i = k
    · rw [if_pos e, if_pos e, e]
      exact .inr ⟨rfl, g7, c7, rfl, hc, hcm, if_pos rfl, r7.keeps KS gsne, ce7.keeps KS gsne⟩
    · rw [if_neg e, if_neg e]
      exact (m.wd i hi).keeps K2 (fun j _ h5 => nn j (by omega) (by omega)) (fun j hlt h5 => by show (if j = g7 then 5 + k else R j) = 5 + i; rw [Rn j hlt (by omega)]; exact h5)
  · rw [m.cq x, clo_set L k x _ hk]
    by_cases e : x = k
    · rw [if_pos e, e, clo_f hk ho]; rfl
    · rw [if_neg e]
  · have c := countv_set L k (true, ws) hk
    rw [ho] at c
    have := m.ln
    rw [List.length_set]
    simp at c; omega
  · rw [List.length_set] at hi
    rw [wds_set L k i _ hk]
    split
    · exact hl
    · exact m.lw i hi
  · by_cases e : j = g7
    · subst e
      rcases hg with q' | q'
      · rw [q', hgk]; omega
      · omega
    · rw [if_neg e] at q; exact q

theorem wrap64_le (s : Nat) (h : s ≤ 4194304) : wrap64 (s : Int) = (s : Int) := by unfold wrap64; omega
theorem mgrow_no (mb mm : Nat) (R : Nat → Nat) (L : List Spc) (a b : Nat) (h g : Int) (w : World) (hm : MM w R mb mm L a b h g) (id n : Int) (hE : isv L id = false) :
    Calls Try.prog 16 #[at0 mb, .int .i64 id, .int .i64 n] w fun e w' => e = .returned (.int .i64 10) ∧ w' = w := by
  obtain ⟨sv, qv, U, Q, m⟩ := hm
  have WH := Lib.hid (words_no mb mm R sv qv U Q L a b h g w m id hE)
  clear m hE
  go_enter Try.func16, Try.ntmps16
  go_wp2_with fail
  with_reducible refine WH.out.mono ?_
  rintro e w1 ⟨rfl, rfl⟩
  dsimp only
  go_wp2_with fail
  exact bodyPost_ret (v := .int .i64 10) (by simp [results, Try.results16, go_sem]) rfl ⟨rfl, rfl⟩
theorem mgrow_low (mb mm : Nat) (R : Nat → Nat) (L : List Spc) (a b : Nat) (h g : Int) (w : World) (hm : MM w R mb mm L a b h g) (k : Nat) (n : Int) (hk : k < L.length) (ho : (L.getD k (false, [])).1 = true) (hn : n < ((wds L k).length : Int)) :
    Calls Try.prog 16 #[at0 mb, .int .i64 (k : Int), .int .i64 n] w fun e w' => e = .returned (.int .i64 1) ∧ w' = w := by
  obtain ⟨sv, qv, U, Q, m⟩ := hm
  have WO := words_ok mb mm R sv qv U Q L a b h g w m k hk ho
  obtain ⟨sg, sc, gk, ck, rfl, _, sr, _, _, _, eu, _, _, _, _, _⟩ := m.open_at hk ho
  rw [eu] at WO
  have WH := Lib.hid WO
  clear m sr ho eu WO hk
  go_enter Try.func16, Try.ntmps16
  go_wp2_with fail
  with_reducible refine WH.out.mono ?_
  rintro e w1 ⟨rfl, rfl⟩
  dsimp only
  go_wp2_with fail
  exact bodyPost_ret (v := .int .i64 1) (by simp [results, Try.results16, go_sem]) rfl ⟨rfl, rfl⟩
theorem mgrow_long (mb mm : Nat) (R : Nat → Nat) (L : List Spc) (a b : Nat) (h g : Int) (w : World) (hm : MM w R mb mm L a b h g) (k : Nat) (n : Int) (hk : k < L.length) (ho : (L.getD k (false, [])).1 = true) (hn : ((wds L k).length : Int) ≤ n) (hx : 4194304 < n) :
    Calls Try.prog 16 #[at0 mb, .int .i64 (k : Int), .int .i64 n] w fun e w' => e = .returned (.int .i64 7) ∧ w' = w := by
  obtain ⟨sv, qv, U, Q, m⟩ := hm
  have WO := words_ok mb mm R sv qv U Q L a b h g w m k hk ho
  obtain ⟨sg, sc, gk, ck, rfl, _, sr, _, _, _, eu, _, _, _, _, _⟩ := m.open_at hk ho
  rw [eu] at WO
  have WH := Lib.hid WO
  have d0 : decide (n < ((wds L k).length : Int)) = false := decide_eq_false (by omega)
  clear m sr ho eu WO hk hn
  go_enter Try.func16, Try.ntmps16
  go_wp2_with fail
  with_reducible refine WH.out.mono ?_
  rintro e w1 ⟨rfl, rfl⟩
  dsimp only
  go_wp2_with fail
  exact bodyPost_ret (v := .int .i64 7) (by simp [results, Try.results16, go_sem]) rfl ⟨rfl, rfl⟩
set_option maxRecDepth 100000 in
set_option maxHeartbeats 1000000 in
theorem mgrow_ok (mb mm : Nat) (R : Nat → Nat) (L : List Spc) (a b : Nat) (h g : Int) (w : World) (hm : MM w R mb mm L a b h g) (k n q : Nat) (hk : k < L.length) (ho : (L.getD k (false, [])).1 = true) (hq : (wds L k).length + q = n) (hn : n ≤ 4194304) :
    Calls Try.prog 16 #[at0 mb, .int .i64 (k : Int), .int .i64 (n : Int)] w fun e w' => ∃ R', e = .returned (.int .i64 0) ∧ MM w' R' mb mm (L.set k ((L.getD k (false, [])).1, wds L k ++ List.replicate q 0)) a b (holdh h (q : Int)) (holdg h g (q : Int)) ∧ TR R R' w w' := by
  obtain ⟨sv, qv, U, Q, m⟩ := hm
  have WO := words_ok mb mm R sv qv U Q L a b h g w m k hk ho
  obtain ⟨sg, sc, gk, ck, esv, hsg, sr, hsc, hscm, sce, eu, hgk, kr, hc, hcm, ce⟩ := m.open_at hk ho
  have esv' := esv
  subst esv'
  rw [eu] at WO
  have WH := Lib.hid WO
  obtain ⟨len, hlen⟩ : ∃ len, (wds L k).length = len := ⟨_, rfl⟩
  rw [hlen] at WH kr hc hq
  have BD : Below w.heap.size w w.drew := (Below.refl _ _).drew
  obtain ⟨g7, c7, w7, hr, h7c, h7m, h7g, r7, ce7, K7⟩ := grown_at w.drew gk len ck q (wds L k) hlen ce.drew kr.drew hc hcm (by omega)
  rw [hq] at hr h7c r7
  have ln7 : (wds L k ++ List.replicate q 0).length = n := by rw [List.length_append, List.length_replicate, hlen]; exact hq
  obtain ⟨w8, hw8⟩ : ∃ w8, w8 = w7.setCell ⟨sg, k, none⟩ (.slice (some ⟨g7, 0, none⟩) n c7) := ⟨_, rfl⟩
  obtain ⟨M8, T8⟩ := MO.grown (w8 := w8) (ws := wds L k ++ List.replicate q 0) m hk ho BD rfl hsg sr hsc hscm sce hgk (h7g.imp id (fun e => by rw [e]; exact Nat.le_refl _)) (by rw [ln7]; exact h7c) h7m (by rw [ln7]; exact r7) ce7 (by rw [ln7]; exact hn) K7 (by rw [ln7]; exact hw8)
  have sne : ¬ sg = gk := fun e => by subst e; omega
  have K1 : Keeps (fun j => j = gk) w w7 := (Keeps.of (F := fun j => j = gk) BD).trans K7 (fun _ _ q => q)
  have mne : ¬ mb = gk := fun e => by have := m.r1; subst e; omega
  obtain ⟨t0, t1, t2, tf, tl⟩ := (show WRw w7 mb mm _ qv from Row.keeps m.row K1 mne).all
  have s7 := sr.keeps K1 sne
  have c1 := s7.cell k hk
  have f1 := s7.free k
  obtain ⟨m0, m1, m2, mf, ml⟩ := m.row.all
  have HO := Lib.hid (fun w' r => hold_any mm a b h g (q : Int) m.fit (by omega) w' r)
  have FE := Lib.hid (m.fit.hold (n := (q : Int)))
  have NA := Lib.hid m.na
  have NB := Lib.hid m.nb
  have HM := Lib.hid M8
  have HT := Lib.hid T8
  have HW := Lib.hid hw8
  have HR := Lib.hid hr
  have HE := Lib.hid ho
  have row8 := M8.row
  obtain ⟨y0, y1, y2, yf, yl⟩ := row8.all
  have i0 : (0 : Int) ≤ (k : Int) := by omega
  have i1 : (k : Int) < (L.length : Int) := by omega
  have d0 : decide ((n : Int) < (len : Int)) = false := decide_eq_false (by omega)
  have d1 : decide (4194304 < (n : Int)) = false := decide_eq_false (by omega)
  have eq : (n : Int) - (len : Int) = (q : Int) := by omega
  have bq : q ≤ 4194304 := by omega
  have wq := wrap64_le q bq
  clear m sr ho WO hk hq hlen hsg hsc hscm sce eu esv hgk kr hc hcm ce BD hr h7c h7m h7g r7 ce7 K7 ln7 hw8 M8 T8 sne K1 mne s7 row8 bq hn
  generalize holdh h (q : Int) = h' at *
  generalize holdg h g (q : Int) = g' at *
  generalize holde h (q : Int) = er at *
  go_enter Try.func16, Try.ntmps16
  go_wp2_with fail
  with_reducible refine WH.out.mono ?_
  rintro e w1 ⟨rfl, rfl⟩
  dsimp only
  go_upto_region 9 with fail
  go_region_law ((refine step_append_run (by rfl) _ _ _ _ (by rfl) _ _ (by kernel_rfl) (by kernel_rfl) _ _ HR.out ?_))
  all_goals
    rw [← HW.out]
    clear t0 t1 t2 tf tl c1 f1 m0 m1 m2 mf ml
    go_wp2_with fail
    with_reducible refine (HO.out _ HM.out.met).mono ?_
    rintro e w4 ⟨rfl, R4, B4⟩
    dsimp only
    go_wp2_with fail
    exact bodyPost_ret (v := .int .i64 0) (by simp [results, Try.results16, go_sem]) rfl ⟨_, rfl, by rw [HE.out]; exact ⟨_, _, _, _, HM.out.meter B4 R4 NA.out NB.out FE.out⟩, HT.out.trans (TR.bar B4 (by rw [HM.out.r2]; decide))⟩
end Go.Proofs.Ytgnpakpnocbhhaa
