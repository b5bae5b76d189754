/-
  Package large: Add, remove.
-/
import Derived.Test.YtlaldnfaeoimfaaLrgR
namespace Go.Proofs.Ytlaldnfaeoimfaa
open Go.RowKit
set_option linter.unusedVariables false

section
variable {R : Nat → Nat} {lb pb mb mm : Nat} {L : List Spc} {rm cnt mad fre a b : Nat} {h g : Int} {M O : List Nat} {tot bg tl : Nat}
theorem ladd_lt (n : Int) (hn : n < 1) (w : World) (l : LM w R lb pb mb mm L rm cnt mad fre a b h g M O tot bg tl) :
    Calls Try.prog 7 #[at0 lb, .int .i64 n] w fun e w' => e = .returned (.tuple #[.int .i64 0, .int .i64 1]) ∧ w' = w := by
  clear l
  go_enter Try.func7, Try.ntmps7
  go_wp2_with fail
  exact bodyPost_ret (v := .tuple #[.int .i64 0, .int .i64 1]) (by simp [results, Try.results7, go_sem]) rfl ⟨rfl, rfl⟩
theorem ladd_long (n : Int) (hn : 4194304 < n) (w : World) (l : LM w R lb pb mb mm L rm cnt mad fre a b h g M O tot bg tl) :
    Calls Try.prog 7 #[at0 lb, .int .i64 n] w fun e w' => e = .returned (.tuple #[.int .i64 0, .int .i64 7]) ∧ w' = w := by
  have OP := Lib.hid (mopen_long mb n hn w)
  obtain ⟨x0, x1, x2, x3, x4, x5, x6, x7, x8, x9, x10, xf, xl⟩ := lac_all l.row
  have c1 : ¬ n < 1 := by omega
  clear l hn
  go_enter Try.func7, Try.ntmps7
  go_wp2_with fail
  with_reducible refine OP.out.mono ?_
  rintro e w1 ⟨rfl, rfl⟩
  dsimp only
  go_wp2_with fail
  exact bodyPost_ret (v := .tuple #[.int .i64 0, .int .i64 7]) (by simp [results, Try.results7, go_sem]) rfl ⟨rfl, rfl⟩
/-- Add behind Open and Take: the contracts of what it calls, in its own order -/
theorem ladd_walk (n s id : Nat) (L1 L2 L3 L4 L5 : List Spc) (h1 h2 : Int) (rm' cnt' mad' fre' : Nat) (hn1 : 1 ≤ n) (hn2 : n ≤ 4194304) (hs : s ≤ 1000000) (ht : tot + n ≤ 1000000000000)
    (OP : ∀ w, LM w R lb pb mb mm L rm cnt mad fre a b h g M O tot bg tl → Calls Try.prog 22 #[at0 mb, .int .i64 (n : Int)] w fun e w' => ∃ R' g', e = .returned (.tuple #[.int .i64 (s : Int), .int .i64 0]) ∧ LM w' R' lb pb mb mm L1 rm cnt mad fre a b h1 g' M O tot bg tl ∧ TR R R' w w')
    (TK : ∀ R w a b g, LM w R lb pb mb mm L1 rm cnt mad fre a b h1 g M O tot bg tl → Calls Try.prog 23 #[at0 pb] w fun e w' => ∃ R' a' b' g', e = .returned (.tuple #[.int .i64 (id : Int), .int .i64 0]) ∧ LM w' R' lb pb mb mm L2 rm' cnt' mad' fre' a' b' h2 g' M O tot bg tl ∧ a' + b' ≤ a + b + 7 ∧ TR (rp R pb) (rp R' pb) w w')
    (S1 : ∀ R w a b g, LM w R lb pb mb mm L2 rm' cnt' mad' fre' a b h2 g M O tot bg tl → Calls Try.prog 25 #[at0 pb, .int .i64 (id : Int), .int .i64 0, .int .u64 (s : Int)] w fun e w' => ∃ a' b', e = .returned (.int .i64 0) ∧ LM w' R lb pb mb mm L3 rm' cnt' mad' fre' a' b' h2 g M O tot bg tl ∧ a' + b' ≤ a + b + 2 ∧ TR R R w w')
    (S2 : ∀ R w a b g, LM w R lb pb mb mm L3 rm' cnt' mad' fre' a b h2 g M O tot bg tl → Calls Try.prog 25 #[at0 pb, .int .i64 (id : Int), .int .i64 1, .int .u64 (n : Int)] w fun e w' => ∃ a' b', e = .returned (.int .i64 0) ∧ LM w' R lb pb mb mm L4 rm' cnt' mad' fre' a' b' h2 g M O tot bg tl ∧ a' + b' ≤ a + b + 2 ∧ TR R R w w')
    (PU : ∀ R w a b g, LM w R lb pb mb mm L4 rm' cnt' mad' fre' a b h2 g M O (tot + n) bg tl → Calls Try.prog 26 #[at0 lb, .int .i64 (id : Int)] w fun e w' => ∃ a' b', e = .returned (.tuple #[]) ∧ LM w' R lb pb mb mm L5 rm' cnt' mad' fre' a' b' h2 g (M ++ [id]) O (tot + n) bg tl ∧ a' + b' ≤ a + b + 5 ∧ TR (rl R pb lb) (rl R pb lb) w w')
    (w : World) (l : LM w R lb pb mb mm L rm cnt mad fre a b h g M O tot bg tl) :
    Calls Try.prog 7 #[at0 lb, .int .i64 (n : Int)] w fun e w' => ∃ R' a' b' g', e = .returned (.tuple #[.int .i64 (id : Int), .int .i64 0]) ∧ LM w' R' lb pb mb mm L5 rm' cnt' mad' fre' a' b' h2 g' (M ++ [id]) O (tot + n) bg tl ∧ a' + b' ≤ a + b + 24 ∧ TR (rl R pb lb) (rl R' pb lb) w w' := by
  have OPH := Lib.hid (OP w l)
  have TKH := Lib.hid TK
  have S1H := Lib.hid S1
  have S2H := Lib.hid S2
  have PUH := Lib.hid PU
  have e1 : IntKind.u64.wrap (s : Int) = (s : Int) := by simp [IntKind.wrap, IntKind.signed, IntKind.bits]; omega
  have e2 : IntKind.u64.wrap (n : Int) = (n : Int) := by simp [IntKind.wrap, IntKind.signed, IntKind.bits]; omega
  have e3 : wrap64 ((tot : Int) + (n : Int)) = ((tot + n : Nat) : Int) := wrap_small (x := tot + n) (by omega)
  have c1 : ¬ (n : Int) < 1 := by omega
  obtain ⟨x0, x1, x2, x3, x4, x5, x6, x7, x8, x9, x10, xf, xl⟩ := lac_all l.row
  clear l OP TK S1 S2 PU hn1 hn2 hs ht
  generalize tot + n = tn at *
  generalize M ++ [id] = M1 at *
  go_enter Try.func7, Try.ntmps7
  go_wp2_with fail
  with_reducible refine OPH.out.mono ?_
  rintro e w1 ⟨R1, g1, rfl, l1, t1⟩
  dsimp only
  clear x0 x1 x2 x3 x4 x5 x6 x7 x8 x9 x10 xf xl
  obtain ⟨x0, x1, x2, x3, x4, x5, x6, x7, x8, x9, x10, xf, xl⟩ := lac_all l1.row
  go_wp2_with fail
  with_reducible refine (TKH.out _ _ _ _ _ l1).mono ?_
  rintro e w2 ⟨R2, a2, b2, g2, rfl, l2, q2, t2⟩
  dsimp only
  clear x0 x1 x2 x3 x4 x5 x6 x7 x8 x9 x10 xf xl
  obtain ⟨x0, x1, x2, x3, x4, x5, x6, x7, x8, x9, x10, xf, xl⟩ := lac_all l2.row
  go_wp2_with fail
  with_reducible refine (S1H.out _ _ _ _ _ l2).mono ?_
  rintro e w3 ⟨a3, b3, rfl, l3, q3, t3⟩
  dsimp only
  clear x0 x1 x2 x3 x4 x5 x6 x7 x8 x9 x10 xf xl
  obtain ⟨x0, x1, x2, x3, x4, x5, x6, x7, x8, x9, x10, xf, xl⟩ := lac_all l3.row
  go_wp2_with fail
  with_reducible refine (S2H.out _ _ _ _ _ l3).mono ?_
  rintro e w4 ⟨a4, b4, rfl, l4, q4, t4⟩
  dsimp only
  clear x0 x1 x2 x3 x4 x5 x6 x7 x8 x9 x10 xf xl
  obtain ⟨x0, x1, x2, x3, x4, x5, x6, x7, x8, x9, x10, xf, xl⟩ := lac_all l4.row
  have T4 := Lib.hid ((((t1.wl pb lb).trans (t2.wq lb)).trans (t3.wl pb lb)).trans (t4.wl pb lb))
  have l5 := l4.wd tn
  have T5 := Lib.hid (T4.out.wips 8 (.int .i64 (tn : Int)))
  have HS := Lib.hid (show a4 + b4 ≤ a + b + 11 by omega)
  clear q2 q3 q4 t1 t2 t3 t4 l1 l2 l3 l4 T4
  go_wp2_with fail
  with_reducible refine (PUH.out _ _ _ _ _ l5).mono ?_
  rintro e w6 ⟨a6, b6, rfl, l6, q6, t6⟩
  dsimp only
  have HS6 := Lib.hid (show a6 + b6 ≤ a + b + 24 by have := HS.out; omega)
  clear q6
  go_wp2_with fail
  exact bodyPost_ret (v := .tuple #[.int .i64 (id : Int), .int .i64 0]) (by simp [results, Try.results7, go_sem]) rfl ⟨_, _, _, _, rfl, l6, HS6.out, T5.out.trans t6⟩
/-- Add of an object -/
theorem ladd_ok {tk : Nat → Bool} {gn : Nat → Nat} {F : List Nat} {ob : Nat → List Nat} (q : LQ L mad fre tk gn F M O bg tot ob) (d : CH 6 4 5 (wds L 0) O) (n : Nat) (hn1 : 1 ≤ n) (hn2 : n ≤ 4194304) (hL : L.length ≤ 200000) (ht : tot ≤ 100000000000) (hb : bg ≤ 1000000000)
    (hm : mad < 10000) (hr : rm ≤ 10000) (hc : cnt ≤ 1000000) (hg : ∀ x, gn x ≤ 1000000000) (hk : 0 < L.length) (ho : (L.getD 0 (false, [])).1 = true) (ln : (wds L 0).length = rm * 6) (mr : mad ≤ rm) :
    ∃ id rm' mad' fre' ws' gn' F' h' L', Tk 5 rm mad fre (wds L 0) tk gn F id rm' mad' fre' ws' gn' F' ∧ (F = [] ∧ id = mad + 1 ∧ mad' = mad + 1 ∧ rm' = room2 rm mad ∧ h' = roomh (holdh h (n : Int)) 5 rm mad ∧ F' = [] ∨ F = id :: F' ∧ mad' = mad ∧ rm' = rm ∧ h' = holdh h (n : Int) ∧ gn' = gn) ∧
      LQ L' mad' fre' (upd tk id true) gn' F' (M ++ [id]) O bg (tot + n) (upd ob id (List.replicate n 0)) ∧ CH 6 4 5 (wds L' 0) O ∧ id ∉ M ∧ id ∉ O ∧ L'.length ≤ L.length + 1 ∧
      ∀ w, LM w R lb pb mb mm L rm cnt mad fre a b h g M O tot bg tl → Calls Try.prog 7 #[at0 lb, .int .i64 (n : Int)] w fun e w' => ∃ R' a' b' g', e = .returned (.tuple #[.int .i64 (id : Int), .int .i64 0]) ∧ LM w' R' lb pb mb mm L' rm' (cnt + 1) mad' fre' a' b' h' g' (M ++ [id]) O (tot + n) bg tl ∧ a' + b' ≤ a + b + 24 ∧ TR (rl R pb lb) (rl R' pb lb) w w' := by
  have fz : firstc L ≠ 0 := firstc_ne L 0 hk ho
  have e0 : wds (opened L n) 0 = wds L 0 := opened_wds L n 0 hk fz
  obtain ⟨ol, os⟩ := opened_le L n
  have hk2 : 0 < (opened L n).length := by omega
  have fl := firstc_le L
  obtain ⟨id, rm', mad', fre', ws', gn', F', h', T, alt, r', len', grow, mr', TKC⟩ := ltake_ok (lb := lb) (pb := pb) (mb := mb) (mm := mm) (L := opened L n) (rm := rm) (cnt := cnt) (mad := mad) (fre := fre) (h := holdh h (n : Int)) (M := M) (O := O) (tot := tot) (bg := bg) (tl := tl) (by rw [e0]; exact q.r) hm hr hc hg (by rw [e0]; exact ln) mr
  rw [e0] at T grow
  have hme : mad' ≤ ent 6 ws'.length := by unfold ent; rw [len', Nat.mul_div_cancel _ (by omega)]; exact mr'
  have hw : mad' = mad ∨ id = mad + 1 := alt.elim (fun z => .inr z.2.1) (fun z => .inl z.2.1)
  obtain ⟨cM, q', d', nM, nO⟩ := q.add d hk ho (n := n) T r' grow hme hw
  have i2 := Nat.le_trans T.i2 hme
  have tkin := r'.tk_in T.i1 T.i2 (upd_at _ _ _)
  have r1 : PR (ws'.set (lk 6 id 1) (firstc L)) 5 mad' fre' (upd tk id true) gn' F' := r'.word (j := 0) T.i1 (by omega) (lk_lt T.i1 i2 (by omega))
  have tk1 := r1.tk_in T.i1 T.i2 (upd_at _ _ _)
  have r2 : PR (adw ws' id (firstc L) n) 5 mad' fre' (upd tk id true) gn' F' := r1.word (j := 1) T.i1 (by omega) (by rw [List.length_set]; exact lk_lt T.i1 i2 (by omega))
  have tk2 := r2.tk_in T.i1 T.i2 (upd_at _ _ _)
  refine ⟨id, rm', mad', fre', ws', gn', F', h', _, T, alt, q', d', nM, nO, by rw [setw_len]; exact opened_len L n, fun w l => ?_⟩
  have TKg : ∀ R w a b g, LM w R lb pb mb mm (opened L n) rm cnt mad fre a b (holdh h (n : Int)) g M O tot bg tl → Calls Try.prog 23 #[at0 pb] w fun e w' => ∃ R' a' b' g', e = .returned (.tuple #[.int .i64 (id : Int), .int .i64 0]) ∧ LM w' R' lb pb mb mm (setw (opened L n) 0 ws') rm' (cnt + 1) mad' fre' a' b' h' g' M O tot bg tl ∧ a' + b' ≤ a + b + 7 ∧ TR (rp R pb) (rp R' pb) w w' := fun R w a b g l => TKC R w a b g l
  refine ladd_walk n (firstc L) id (opened L n) (setw (opened L n) 0 ws') (setw (opened L n) 0 (ws'.set (lk 6 id 1) (firstc L))) (setw (opened L n) 0 (adw ws' id (firstc L) n)) _ (holdh h (n : Int)) h' rm' (cnt + 1) mad' fre' hn1 hn2 (by omega) (by omega) (fun w l => ?_) TKg (fun R w a b g l => ?_) (fun R w a b g l => ?_) (fun R w a b g l => ?_) w l
  · have C := mopen_ok mb mm R L a b h g w l.p.m n hn2 (by have := l.p.m.plain.2.2.2.2.2; omega)
    exact C.mono fun e w' ⟨R', e1, m', t⟩ => ⟨R', _, e1, l.other m' t hk2 (by rw [opened_at L n 0 hk fz]; exact ho) e0, t⟩
  · have C := lset_ok id 0 (firstc L) (by omega) (by omega) (by rw [setw_wds hk2]; exact tkin.1) w l
    rw [setw_wds hk2, setw_setw hk2] at C
    exact C
  · have C := lset_ok id 1 n (by omega) (by omega) (by rw [setw_wds hk2]; exact tk1.1) w l
    rw [setw_wds hk2, setw_setw hk2] at C
    exact C
  · have C := lpush_ok id (by rw [setw_wds hk2]; exact tk2.1) hb (by rw [setw_wds hk2]; exact cM) w l
    rw [setw_wds hk2, setw_setw hk2] at C
    exact C
end
end Go.Proofs.Ytlaldnfaeoimfaa
