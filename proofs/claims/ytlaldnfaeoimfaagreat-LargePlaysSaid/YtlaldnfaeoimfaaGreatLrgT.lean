/-
  Package large: remove, Sweep. · haymowref15.Has.
-/
import Derived.Test.YtlaldnfaeoimfaaGreatLrgM
import Derived.LoopTactic
namespace Go.Proofs.YtlaldnfaeoimfaaGreat
open Go.RowKit
set_option linter.unusedVariables false

section
variable {R : Nat → Nat} {lb pb mb mm : Nat} {L : List Spc} {rm cnt mad fre a b : Nat} {h g : Int} {M O : List Nat} {tot bg tl : Nat}
set_option maxRecDepth 100000 in
theorem lremove_ok {tk : Nat → Bool} {gn : Nat → Nat} {F K : List Nat} {ob : Nat → List Nat} (x n : Nat) (q : LQ L mad fre tk gn F M (x :: K) bg tot ob) (hx : (ob x).length = n) (hg : gn x < 1000000000) (hc1 : 1 ≤ cnt) (hc : cnt ≤ 1000000) (hh : (n : Int) ≤ h) (ht : tot ≤ 100000000000) (hL : L.length ≤ 200000) (w : World) (l : LM w R lb pb mb mm L rm cnt mad fre a b h g M O tot bg tl) :
    Calls Tryz.prog 53 #[at0 lb, .int .i64 (x : Int)] w fun e w' => ∃ R' a' b', e = .returned (.int .i64 (n : Int)) ∧ LM w' R' lb pb mb mm (rml L x fre (gn x)) rm (cnt - 1) mad x a' b' (h - (n : Int)) g M O (tot - n) bg tl ∧ a' + b' ≤ a + b + 7 ∧ TR (rl R pb lb) (rl R' pb lb) w w' := by
  obtain ⟨i1, i2, i3⟩ := q.us x (.inr (by simp))
  have B := q.sp x (.inr (by simp))
  have s1 := B.s1
  have s2 := B.s2
  have tkx := q.tkt (x := x) (.inr (by simp))
  have nle : n ≤ 4194304 := by rw [← hx, ← B.sw]; exact l.p.m.lens _ s2
  have nt := (q.remove l.p.hk).2
  rw [hx] at nt
  have e0 := close_wds s1 s2
  have SZ := Lib.hid (lsize_ok x n (by rw [B.sz, hx]) nle tkx w l)
  have GT0 := fun a w q => lget_ok (R := R) (lb := lb) (pb := pb) (mb := mb) (mm := mm) (L := L) (rm := rm) (cnt := cnt) (mad := mad) (fre := fre) (a := a) (b := b) (h := h) (g := g) (M := M) (O := O) (tot := tot) (bg := bg) (tl := tl) x 0 (by omega) tkx w q
  rw [show ((0 : Nat) : Int) = 0 from rfl] at GT0
  have GT := Lib.hid GT0
  have CL := Lib.hid (show ∀ a w, LM w R lb pb mb mm L rm cnt mad fre a b h g M O tot bg tl → Calls Tryz.prog 46 #[at0 mb, .int .i64 ((lw (wds L 0) 6 x 1 : Nat) : Int)] w fun e w' => ∃ R', e = .returned (.int .i64 0) ∧ LM w' R' lb pb mb mm (L.set (lw (wds L 0) 6 x 1) (false, [])) rm cnt mad fre a b (h - (n : Int)) g M O tot bg tl ∧ TR R R' w w' from fun a w l => by
    refine (mclose_ok mb mm R L a b h g w l.p.m _ s2 B.so).mono fun e w' ⟨R', e1, m', t⟩ => ⟨R', e1, ?_, t⟩
    rw [B.sw, hx, freeh_in (by omega) hh] at m'
    exact l.other m' t (by simp; exact l.p.hk) (by rw [close_open s1 s2]; exact l.p.ho) e0)
  have GV := Lib.hid (show ∀ R a w, LM w R lb pb mb mm (L.set (lw (wds L 0) 6 x 1) (false, [])) rm cnt mad fre a b (h - (n : Int)) g M O tot bg tl → Calls Tryz.prog 85 #[at0 pb, .int .i64 (x : Int)] w fun e w' => ∃ a' b', e = .returned (.int .i64 0) ∧ LM w' R lb pb mb mm (rml L x fre (gn x)) rm (cnt - 1) mad x a' b' (h - (n : Int)) g M O tot bg tl ∧ a' + b' ≤ a + b + 3 ∧ TR (rp R pb) (rp R pb) w w' from fun R a w l => by
    have C := lgive_ok (by rw [e0]; exact q.r) x i1 i2 i3 hg hc1 hc w l
    rw [e0] at C
    exact C)
  have e2 : IntKind.i64.wrap ((lw (wds L 0) 6 x 1 : Nat) : Int) = ((lw (wds L 0) 6 x 1 : Nat) : Int) := by
    rw [IntKind.wrap_i64]
    generalize lw (wds L 0) 6 x 1 = z at *
    omega
  have e3 : wrap64 ((tot : Int) - (n : Int)) = ((tot - n : Nat) : Int) := by unfold wrap64; omega
  obtain ⟨x0, x1, x2, x3, x4, x5, x6, x7, x8, x9, x10, xf, xl⟩ := lac_all l.row
  clear l q GT0 B s1 s2 tkx nle nt e0 hx hg hc1 hc hh ht hL i1 i2 i3
  generalize L.set (lw (wds L 0) 6 x 1) (false, []) = L1 at *
  generalize rml L x fre (gn x) = L2 at *
  generalize lw (wds L 0) 6 x 1 = s at *
  generalize h - (n : Int) = h1 at *
  generalize tot - n = t1 at *
  generalize cnt - 1 = c1 at *
  go_enter Tryz.func53, Tryz.ntmps53
  go_wp2_with fail
  with_reducible refine SZ.out.mono ?_
  rintro e w1 ⟨a1, rfl, l1, q1, T1⟩
  dsimp only
  clear x0 x1 x2 x3 x4 x5 x6 x7 x8 x9 x10 xf xl
  obtain ⟨x0, x1, x2, x3, x4, x5, x6, x7, x8, x9, x10, xf, xl⟩ := lac_all l1.row
  go_wp2_with fail
  with_reducible refine (GT.out _ _ l1).mono ?_
  rintro e w2 ⟨a2, rfl, l2, q2, T2⟩
  dsimp only
  clear x0 x1 x2 x3 x4 x5 x6 x7 x8 x9 x10 xf xl
  obtain ⟨x0, x1, x2, x3, x4, x5, x6, x7, x8, x9, x10, xf, xl⟩ := lac_all l2.row
  go_wp2_with fail
  with_reducible refine (CL.out _ _ l2).mono ?_
  rintro e w3 ⟨R3, rfl, l3, T3⟩
  dsimp only
  clear x0 x1 x2 x3 x4 x5 x6 x7 x8 x9 x10 xf xl
  obtain ⟨x0, x1, x2, x3, x4, x5, x6, x7, x8, x9, x10, xf, xl⟩ := lac_all l3.row
  go_wp2_with fail
  with_reducible refine (GV.out _ _ _ l3).mono ?_
  rintro e w4 ⟨a4, b4, rfl, l4, q4, T4⟩
  dsimp only
  clear x0 x1 x2 x3 x4 x5 x6 x7 x8 x9 x10 xf xl
  obtain ⟨x0, x1, x2, x3, x4, x5, x6, x7, x8, x9, x10, xf, xl⟩ := lac_all l4.row
  have l5 := l4.wd t1
  have T5 := Lib.hid (((((T1.wl pb lb).trans (T2.wl pb lb)).trans (T3.wl pb lb)).trans (T4.wq lb)).wips 8 (.int .i64 (t1 : Int)))
  have HS := Lib.hid (show a4 + b4 ≤ a + b + 7 by omega)
  clear q1 q2 q4 l1 l2 l3 l4 T1 T2 T3 T4
  go_wp2_with fail
  go_ret
  exact ⟨R3, a4, b4, rfl, l5, HS.out, T5.out⟩
end

/-! ### Sweep -/
/-- numbers given back one behind the other: who is in use, the generations, the returned numbers -/
def gvT (tk : Nat → Bool) (l : List Nat) : Nat → Bool := l.foldl (fun t x => upd t x false) tk
def gvG (gn : Nat → Nat) (l : List Nat) : Nat → Nat := l.foldl (fun t x => upd t x (t x + 1)) gn
def gvF (F : List Nat) (l : List Nat) : List Nat := l.foldl (fun t x => x :: t) F
theorem gvT_snoc (tk : Nat → Bool) (l : List Nat) (x : Nat) : gvT tk (l ++ [x]) = upd (gvT tk l) x false := by unfold gvT; simp
theorem gvG_snoc (gn : Nat → Nat) (l : List Nat) (x : Nat) : gvG gn (l ++ [x]) = upd (gvG gn l) x (gvG gn l x + 1) := by unfold gvG; simp
theorem gvF_snoc (F l : List Nat) (x : Nat) : gvF F (l ++ [x]) = x :: gvF F l := by unfold gvF; simp
theorem gvG_le (gn : Nat → Nat) (B : Nat) (h : ∀ x, gn x ≤ B) (l : List Nat) (x : Nat) : gvG gn l x ≤ B + l.length := by
  induction l generalizing gn B with
  | nil => exact h x
  | cons y l ih =>
    have e := ih (upd gn y (gn y + 1)) (B + 1) (fun z => by
      unfold upd; split
      · have := h y; omega
      · have := h z; omega)
    show gvG (upd gn y (gn y + 1)) l x ≤ _
    rw [List.length_cons]; omega
theorem take_snoc {l : List Nat} {i : Nat} (h : i < l.length) : l.take (i + 1) = l.take i ++ [l.getD i 0] := by
  rw [List.take_add_one, List.getElem?_eq_getElem h]; simp [List.getD, h]
theorem drop_cons {l : List Nat} {i : Nat} (h : i < l.length) : l.drop i = l.getD i 0 :: l.drop (i + 1) := by
  rw [List.drop_eq_getElem_cons h]; simp [List.getD, h]
theorem getD_drop0 (l : List Nat) (i : Nat) : (l.drop i).getD 0 0 = l.getD i 0 := by simp [List.getD]
/-- what Sweep's loop holds: so many objects are gone -/
structure SWI (w : World) (R : Nat → Nat) (lb pb mb mm : Nat) (rm cnt mad a b : Nat) (h : Int) (M O : List Nat) (tot bg tl : Nat) (tk : Nat → Bool) (gn : Nat → Nat) (F : List Nat) (ob : Nat → List Nat) (nL c : Nat) (wr : World) : Prop where
  x : ∃ R' L' fre' a' b' g', LM wr R' lb pb mb mm L' rm (cnt - c) mad fre' a' b' (h - (sumw ob (O.take c) : Nat)) g' M O (tot - sumw ob (O.take c)) bg tl ∧ LQ L' mad fre' (gvT tk (O.take c)) (gvG gn (O.take c)) (gvF F (O.take c)) M (O.drop c) bg (tot - sumw ob (O.take c)) ob ∧ a' + b' ≤ a + b + 16 * c ∧ TR (rl R pb lb) (rl R' pb lb) w wr ∧ L'.length = nL
theorem sumw_take (ob : Nat → List Nat) {O : List Nat} {c : Nat} (h : c < O.length) : sumw ob (O.take (c + 1)) = sumw ob (O.take c) + (ob (O.getD c 0)).length := by rw [take_snoc h, sumw_append, sumw_cons, sumw_nil]; omega
theorem sumw_take_le (ob : Nat → List Nat) (O : List Nat) (c : Nat) : sumw ob (O.take c) + sumw ob (O.drop c) = sumw ob O := by rw [← sumw_append, List.take_append_drop]
theorem rml_len {L : List Spc} {x fre g : Nat} : (rml L x fre g).length = L.length := by unfold rml; rw [setw_len]; simp
section
variable {R : Nat → Nat} {lb pb mb mm : Nat} {rm cnt mad a b : Nat} {h : Int} {M O : List Nat} {tot bg tl : Nat} {tk : Nat → Bool} {gn : Nat → Nat} {F : List Nat} {ob : Nat → List Nat} {nL c : Nat} {w wr : World}
/-- a round of Sweep: the next one's number; the removal -/
theorem SWI.next (s : SWI w R lb pb mb mm rm cnt mad a b h M O tot bg tl tk gn F ob nL c wr) (hc : c < O.length) (hn : cnt = M.length + O.length) (hh : h = (6 * rm + tot : Nat)) (ht : tot ≤ 100000000000) (hg : ∀ x, gn x ≤ 100000000) (hL : nL ≤ 200000) (hO : O.length ≤ 100000) (hT : sumw ob O ≤ tot) :
    ∃ R1 L1 fre1 a1 b1 g1, LM wr R1 lb pb mb mm L1 rm (cnt - c) mad fre1 a1 b1 (h - (sumw ob (O.take c) : Nat)) g1 M O (tot - sumw ob (O.take c)) bg tl ∧
    (∀ w2, LM w2 R1 lb pb mb mm L1 rm (cnt - c) mad fre1 a1 b1 (h - (sumw ob (O.take c) : Nat)) g1 M O (tot - sumw ob (O.take c)) bg tl → TR (rl R pb lb) (rl R1 pb lb) w w2 →
      Calls Tryz.prog 52 #[ltb mb, .int .i64 ((O.getD c 0 : Nat) : Int)] w2 fun e w' => ∃ a', e = .returned (.tuple #[.int .i64 ((O.getD (c + 1) 0 : Nat) : Int), .int .i64 0]) ∧ LM w' R1 lb pb mb mm L1 rm (cnt - c) mad fre1 a' b1 (h - (sumw ob (O.take c) : Nat)) g1 M O (tot - sumw ob (O.take c)) bg tl ∧ a' ≤ a1 + 1 ∧ TR (rl R pb lb) (rl R1 pb lb) w w') ∧
    TR (rl R pb lb) (rl R1 pb lb) w wr ∧
    (∀ a3 w3, a3 ≤ a1 + 1 → LM w3 R1 lb pb mb mm L1 rm (cnt - c) mad fre1 a3 b1 (h - (sumw ob (O.take c) : Nat)) g1 M O (tot - sumw ob (O.take c)) bg tl → TR (rl R pb lb) (rl R1 pb lb) w w3 →
      Calls Tryz.prog 53 #[at0 lb, .int .i64 ((O.getD c 0 : Nat) : Int)] w3 fun e w' => e = .returned (.int .i64 ((ob (O.getD c 0)).length : Nat)) ∧ SWI w R lb pb mb mm rm cnt mad a b h M O tot bg tl tk gn F ob nL (c + 1) w') := by
  obtain ⟨R1, L1, fre1, a1, b1, g1, l1, q1, s1, T1, n1⟩ := s
  have dc := drop_cons hc
  have q2 := q1
  rw [dc] at q2
  have mem : O.getD c 0 ∈ M ∨ O.getD c 0 ∈ O.getD c 0 :: O.drop (c + 1) := .inr (by simp)
  obtain ⟨i1, i2, i3⟩ := q2.us _ mem
  have nx : lw (wds L1 0) 6 (O.getD c 0) 4 = O.getD (c + 1) 0 := by
    have e := q2.oX 0 (by simp)
    have e2 : (O.getD c 0 :: O.drop (c + 1)).getD 0 0 = O.getD c 0 := rfl
    have e3 : (O.getD c 0 :: O.drop (c + 1)).getD (0 + 1) 0 = (O.drop (c + 1)).getD 0 0 := rfl
    rw [e2, e3, getD_drop0] at e
    exact e
  have nb : O.getD (c + 1) 0 ≤ 4194304 := by
    by_cases z : c + 1 < O.length
    · have mem2 : O.getD (c + 1) 0 ∈ M ∨ O.getD (c + 1) 0 ∈ O.drop c := .inr (by rw [dc, drop_cons z]; simp)
      have := (q1.us _ mem2).2.1
      have := q1.r.mb
      omega
    · rw [getD_beyond (by omega)]; omega
  have tt := q2.tt
  rw [sumw_cons] at tt
  have st := sumw_take ob hc
  have sd := sumw_take_le ob O c
  rw [dc, sumw_cons] at sd
  have cl := q2.cnt_le
  have mb1 := q2.r.mb
  have cd : (O.drop (c + 1)).length = O.length - (c + 1) := by simp
  rw [List.length_cons, cd] at cl
  have ht2 := (q2.remove l1.p.hk).2
  refine ⟨R1, L1, fre1, a1, b1, g1, l1, fun w2 l2 T2 => ?_, T1, fun a3 w3 ha l3 T3 => ?_⟩
  · exact (lchain_after w2 l2 _ _ i1 i2 nx nb).mono fun e w' ⟨a', e1, l', ha, t⟩ => ⟨a', e1, l', ha, T2.trans (t.wl pb lb)⟩
  · refine (lremove_ok (O := O) _ _ q2 rfl ?_ (by omega) (by omega) ?_ (by omega) (by omega) w3 l3).mono ?_
    rotate_left 2
    · rintro e w' ⟨R', a', b', e1, l', ha', t⟩
      refine ⟨e1, ⟨R', rml L1 (O.getD c 0) fre1 (gvG gn (O.take c) (O.getD c 0)), O.getD c 0, a', b', g1, ?_, ?_, by omega, T3.trans t, by rw [rml_len]; exact n1⟩⟩
      · have e4 : cnt - c - 1 = cnt - (c + 1) := by omega
        have e5 : h - (sumw ob (O.take c) : Nat) - ((ob (O.getD c 0)).length : Nat) = h - (sumw ob (O.take (c + 1)) : Nat) := by omega
        have e6 : tot - sumw ob (O.take c) - (ob (O.getD c 0)).length = tot - sumw ob (O.take (c + 1)) := by omega
        rw [e4, e5, e6] at l'
        exact l'
      · have q3 := (q2.remove l1.p.hk).1
        have e6 : tot - sumw ob (O.take c) - (ob (O.getD c 0)).length = tot - sumw ob (O.take (c + 1)) := by omega
        rw [e6] at q3
        rw [take_snoc hc, gvT_snoc, gvG_snoc, gvF_snoc, ← take_snoc hc]
        exact q3
    · have := gvG_le gn _ hg (O.take c) (O.getD c 0)
      have : (O.take c).length ≤ c := by rw [List.length_take]; omega
      omega
    · omega
end
section
variable {R : Nat → Nat} {lb pb mb mm : Nat} {L : List Spc} {rm cnt mad fre a b : Nat} {h g : Int} {M O : List Nat} {tot bg tl : Nat}
theorem up15 {i n : Nat} (h : i < n) (hn : n ≤ 100000) : (i : Int) + 1 = ((i + 1 : Nat) : Int) ∧ wrap64 ((i + 1 : Nat) : Int) = ((i + 1 : Nat) : Int) ∧ IntKind.i64.wrap ((i + 1 : Nat) : Int) = ((i + 1 : Nat) : Int) := ⟨by omega, by unfold wrap64; omega, by rw [IntKind.wrap_i64]; omega⟩
theorem lt15 {i n : Nat} (h : i < n) : (i : Int) < (n : Int) := by omega
theorem nlt15 {i n : Nat} (h : ¬ i < n) : ¬ (i : Int) < (n : Int) := by omega
theorem meas15 {i i1 n : Nat} (h : i + 1 = i1) (hn : i < n) : n - (intOf (.int .i64 (i1 : Int))).toNat < n - (intOf (.int .i64 (i : Int))).toNat := by
  subst h
  show n - (((i + 1 : Nat) : Int)).toNat < n - ((i : Int)).toNat
  rw [Int.toNat_natCast, Int.toNat_natCast]; omega
theorem add15 {t k s : Nat} (h : t + k = s) (hs : s ≤ 100000000000) : wrap64 ((t : Int) + (k : Int)) = (s : Int) := by unfold wrap64; omega
/-- what Sweep leaves -/
def SWR (w : World) (R : Nat → Nat) (lb pb mb mm : Nat) (rm cnt mad a b : Nat) (h : Int) (M O : List Nat) (tot bg tl : Nat) (tk : Nat → Bool) (gn : Nat → Nat) (F : List Nat) (ob : Nat → List Nat) (nL m so : Nat) (e : Ending) (w' : World) : Prop :=
  ∃ R' L' fre' a' b' g', e = .returned (.tuple #[.int .i64 (m : Int), .int .i64 (so : Int)]) ∧ LM w' R' lb pb mb mm L' rm (cnt - m) mad fre' a' b' (h - (so : Int)) g' M [] (tot - so) bg tl ∧ LQ L' mad fre' (gvT tk O) (gvG gn O) (gvF F O) M [] bg (tot - so) ob ∧ a' + b' ≤ a + b + 16 * m ∧ TR (rl R pb lb) (rl R' pb lb) w w' ∧ L'.length = nL
set_option maxRecDepth 100000 in
set_option maxHeartbeats 4000000 in
theorem lsweep_ok {tk : Nat → Bool} {gn : Nat → Nat} {F : List Nat} {ob : Nat → List Nat} (q : LQ L mad fre tk gn F M O bg tot ob) (hn : cnt = M.length + O.length) (hh : h = (6 * rm + tot : Nat)) (ht : tot ≤ 100000000000) (hg : ∀ x, gn x ≤ 100000000) (hL : L.length ≤ 200000) (w : World) (l : LM w R lb pb mb mm L rm cnt mad fre a b h g M O tot bg tl) :
    Calls Tryz.prog 22 #[at0 lb] w (SWR w R lb pb mb mm rm cnt mad a b h M O tot bg tl tk gn F ob L.length O.length (sumw ob O)) := by
  have S0 : SWI w R lb pb mb mm rm cnt mad a b h M O tot bg tl tk gn F ob L.length 0 w := ⟨R, L, fre, a, b, g, by rw [List.take_zero, sumw_nil]; simpa using l, by rw [List.take_zero, sumw_nil]; exact q, by omega, TR.refl _ _, rfl⟩
  have hl : O.length ≤ 100000 := by have := q.cnt_le; have := q.r.mb; omega
  have hT : sumw ob O ≤ tot := by have := q.tt; omega
  have NX := Lib.hid (fun c wr (s : SWI w R lb pb mb mm rm cnt mad a b h M O tot bg tl tk gn F ob L.length c wr) hc => s.next hc hn hh ht hg hL hl hT)
  have LK := Lib.hid (fun R L fre cnt a b h g tot w q => links_any (R := R) (lb := lb) (pb := pb) (mb := mb) (mm := mm) (L := L) (rm := rm) (cnt := cnt) (mad := mad) (fre := fre) (a := a) (b := b) (h := h) (g := g) (M := M) (O := O) (tot := tot) (bg := bg) (tl := tl) w q)
  have tt := q.tt
  have cl := q.cnt_le
  have mb1 := q.r.mb
  have ST := Lib.hid (show ∀ c, c < O.length → sumw ob (O.take c) + (ob (O.getD c 0)).length = sumw ob (O.take (c + 1)) ∧ sumw ob (O.take (c + 1)) ≤ 100000000000 from fun c hc => by
    have st := sumw_take ob hc
    have sd := sumw_take_le ob O (c + 1)
    omega)
  obtain ⟨x0, x1, x2, x3, x4, x5, x6, x7, x8, x9, x10, xf, xl⟩ := lac_all l.row
  have x5' : w.cell? ⟨lb, 5, none⟩ = some (.int .i64 ((O.getD 0 0 : Nat) : Int)) := x5
  have HLEN := Lib.hid hl
  clear q l hn hh ht hg hL hT tt cl mb1 x5
  obtain ⟨so, hso⟩ : ∃ so, sumw ob O = so := ⟨_, rfl⟩
  have HSO := Lib.hid hso
  rw [hso]
  clear hso
  generalize L.length = nL at *
  obtain ⟨m, hm⟩ : ∃ m, O.length = m := ⟨_, rfl⟩
  rw [hm] at x7 hl NX ST HLEN ⊢
  have HM := Lib.hid hm
  clear hm
  go_enter Tryz.func22, Tryz.ntmps22
  go_wp2_with fail
  clear x0 x1 x2 x3 x4 x5' x6 x7 x8 x9 x10 xf xl
  go_loopw [3, 4, 5, 6, 18] (fun t3 t4 t5 t6 t18 wr => ∃ c : Nat, c ≤ m ∧ t18 = .int .i64 (c : Int) ∧ t3 = .int .i64 ((sumw ob (O.take c) : Nat) : Int) ∧ t4 = .int .i64 ((O.getD c 0 : Nat) : Int) ∧ SWI w R lb pb mb mm rm cnt mad a b h M O tot bg tl tk gn F ob nL c wr) (fun _ _ _ _ t18 _ => m - (intOf t18).toNat)
  case atStart => exact ⟨0, Nat.zero_le _, rfl, by rw [List.take_zero, sumw_nil]; rfl, rfl, S0⟩
  case round =>
    clear S0
    obtain ⟨c, hc, rfl, rfl, rfl, S⟩ := hrel
    by_cases hlt : c < m
    · have clt := lt15 hlt
      have HC := Lib.hid hlt
      obtain ⟨e1, e2, e3⟩ := up15 hlt HLEN.out
      obtain ⟨f1, f2⟩ := ST.out c hlt
      have g1 := add15 f1 f2
      obtain ⟨R1, L1, fre1, a1, b1, g1', l1, AF, T1, RM⟩ := NX.out c wr S hlt
      have AF := Lib.hid AF
      have RM := Lib.hid RM
      clear S f1 f2
      generalize hc1 : c + 1 = c1 at *
      have HC1 := Lib.hid hc1
      clear hc1 hc hlt
      generalize sumw ob (O.take c) = s0 at *
      generalize (ob (O.getD c 0)).length = sz at *
      generalize hs1 : sumw ob (O.take c1) = s1 at *
      have HS1 := Lib.hid hs1
      clear hs1
      generalize O.getD c 0 = id at *
      generalize hid1 : O.getD c1 0 = id1 at *
      have HID := Lib.hid hid1
      clear hid1
      go_wp2_with fail
      with_reducible refine (LK.out _ _ _ _ _ _ _ _ _ _ l1).mono ?_
      rintro e w2 ⟨rfl, b2⟩
      dsimp only
      have l2 := l1.below b2
      have T2 := T1.below' b2
      clear l1 T1
      go_wp2_with fail
      with_reducible refine (AF.out _ l2 T2).mono ?_
      rintro e w3 ⟨a3, rfl, l3, q3, T3⟩
      dsimp only
      clear l2 T2
      go_wp2_with fail
      with_reducible refine (RM.out _ _ q3 l3 T3).mono ?_
      rintro e w4 ⟨rfl, S4⟩
      dsimp only
      clear l3 T3 q3
      have S4 := Lib.hid S4
      go_wp2_with fail
      go_roundw
      case rel => exact ⟨c1, by rw [← HC1.out]; exact HC.out, rfl, by rw [HS1.out, g1], by rw [HID.out], S4.out⟩
      case measure => exact meas15 HC1.out HC.out
    · obtain rfl : c = m := Nat.le_antisymm hc (Nat.le_of_not_lt hlt)
      have clt := nlt15 hlt
      obtain ⟨R1, L1, fre1, a1, b1, g1', l1, q1, q2, T1, n1⟩ := S
      have eO : O.take c = O := by rw [← HM.out, List.take_length]
      have eD : O.drop c = [] := by rw [← HM.out, List.drop_length]
      rw [eO, HSO.out] at l1 q1
      rw [eO]
      rw [eD] at q1
      have q1 := Lib.hid q1
      have q2 := Lib.hid q2
      have n1 := Lib.hid n1
      clear eO eD
      obtain ⟨x0, x1, x2, x3, x4, x5, x6, x7, x8, x9, x10, xf, xl⟩ := lac_all l1.row
      have l2 := Lib.hid l1.stO0
      have T2 := Lib.hid (((T1.wips 5 (.int .i64 0)).wips 6 (.int .i64 0)).wips 7 (.int .i64 0))
      clear l1 T1
      rw [HSO.out]
      go_wp2_with fail
      exact bodyPost_ret (v := .tuple #[.int .i64 (c : Int), .int .i64 (so : Int)]) (by simp [results, Tryz.results22, go_sem]) rfl ⟨R1, L1, fre1, a1, b1, g1', rfl, l2.out, q1.out, q2.out, T2.out, n1.out⟩
end
end Go.Proofs.YtlaldnfaeoimfaaGreat

namespace Go.Proofs.YtlaldnfaeoimfaaGreat
open Go.RowKit
set_option linter.unusedVariables false

set_option maxRecDepth 100000 in
theorem has15_any (v : Value) (L : List Nat) (z : Int) (w : World) (hv : NL pe w v L) (hl : L.length ≤ 100000) :
    Calls Tryz.prog 43 #[v, .int .i64 z] w fun e w' => e = .returned (.bool (decide (∃ x, x ∈ L ∧ z = (x : Int)))) ∧ Below w.heap.size w w' := by
  obtain ⟨a, cap, rfl, _, _, hva⟩ := hv
  obtain ⟨n, hn⟩ : ∃ n, L.length = n := ⟨_, rfl⟩
  rw [hn] at hva hl ⊢
  have HN := Lib.hid hn
  have HL := Lib.hid hl
  obtain ⟨d, hd⟩ : ∃ d, d = decide (∃ x, x ∈ L ∧ z = (x : Int)) := ⟨_, rfl⟩
  rw [← hd]
  have HD := Lib.hid hd
  clear hn hl hd
  go_enter Tryz.func43, Tryz.ntmps43
  go_wp2_with fail
  go_loopw [5] (fun i wr => ∃ k nq : Nat, k ≤ n ∧ i = .int .i64 (k : Int) ∧ w.drewN nq = wr ∧ ∀ j, j < k → ((L.getD j 0 : Nat) : Int) ≠ z) (fun i _ => n - (intOf i).toNat)
  case atStart => exact ⟨0, 0, by omega, rfl, rfl, fun j hj => by omega⟩
  case round =>
    obtain ⟨k, nq, hk, rfl, rfl, hno⟩ := hrel
    by_cases hlt : k < n
    · obtain ⟨g, off, rfl, hg, hc⟩ := hva.resolve_left (by omega)
      have q1 := hc k hlt
      have NO := Lib.hid hno
      have HLT := Lib.hid hlt
      obtain ⟨e1, e2, e3⟩ := up15 hlt HL.out
      have klt := lt15 hlt
      clear hva hc hno
      generalize hcc : L.getD k 0 = c at q1
      have HC := Lib.hid hcc
      clear hcc
      generalize hk1 : k + 1 = k1 at *
      have HK1 := Lib.hid hk1
      clear hk1 hk hlt
      by_cases hz : (c : Int) = z
      · have FIN := Lib.hid (show d = true from HD.out.trans (decide_eq_true ⟨c, by rw [← HC.out]; exact getD_mem (by rw [HN.out]; exact HLT.out), hz.symm⟩))
        go_wp2_with fail
        go_ret
        exact ⟨by first | (rw [FIN.out]; done) | (rw [FIN.out]; rfl) | (rw [FIN.out, hz]; rfl) | simp [FIN.out, hz], (by repeat (first | exact Below.refl _ _ | (with_reducible assumption) | refine bAlloc ?_ _ | refine below_drewN ?_ _ | refine Below.drew ?_ | (refine bSet ?_ (by first | (dsimp only; omega) | (simp; done) | (simp; omega)) _) | refine bTrans ?_ (by assumption)))⟩
      · have NO2 := Lib.hid (show ∀ j, j < k1 → ((L.getD j 0 : Nat) : Int) ≠ z from fun j hj => by
          rcases Nat.lt_or_ge j k with q | q
          · exact NO.out j q
          · rw [show j = k by have := HK1.out; omega, HC.out]; exact hz)
        go_wp2_with fail
        go_roundw
        case rel => exact ⟨k1, _, by rw [← HK1.out]; exact HLT.out, rfl, rfl, NO2.out⟩
        case measure => exact meas15 HK1.out HLT.out
    · obtain rfl : k = n := by omega
      have klt := nlt15 hlt
      have NO := Lib.hid (show ¬ ∃ x, x ∈ L ∧ z = (x : Int) from fun ⟨x, hx, e⟩ => by
        obtain ⟨i, hi, e2⟩ := List.getElem_of_mem hx
        exact hno i (by have := HN.out; omega) (by rw [e]; simp [List.getD, hi, e2]))
      clear hno hva
      go_wp2_with fail
      go_ret
      exact ⟨by first | (rw [HD.out, decide_eq_false NO.out]; done) | simp [HD.out, NO.out], (by repeat (first | exact Below.refl _ _ | (with_reducible assumption) | refine bAlloc ?_ _ | refine below_drewN ?_ _ | refine Below.drew ?_ | (refine bSet ?_ (by first | (dsimp only; omega) | (simp; done) | (simp; omega)) _) | refine bTrans ?_ (by assumption)))⟩
end Go.Proofs.YtlaldnfaeoimfaaGreat
