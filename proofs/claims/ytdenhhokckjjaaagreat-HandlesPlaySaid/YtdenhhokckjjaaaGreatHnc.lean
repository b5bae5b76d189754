/-
  Package handles: Add, Drop, New.
-/
import Derived.Test.YtdenhhokckjjaaaGreatHnb
namespace Go.Proofs.YtdenhhokckjjaaaGreat
open Go.RowKit
set_option linter.unusedVariables false

section
variable {R : Nat → Nat} {hb pb mb mm ps : Nat} {L : List Spc} {rm cnt mad fre a b : Nat} {h g : Int} {C : List Nat} {bz : Bool} {tk : Nat → Bool} {gn : Nat → Nat} {F : List Nat}
set_option maxRecDepth 100000 in
set_option maxHeartbeats 1000000 in
/-- Add, walked, whatever its callees leave -/
theorem hadd_walk (id r t : Nat) (C1 : List Nat) (L1 L2 L3 : List Spc) (rm' cnt' mad' fre' : Nat) (h' : Int)
    (TK : ∀ R w a b g, HM w R hb pb mb mm ps L rm cnt mad fre a b h g C bz → Calls Tryz.prog 24 #[at0 pb] w fun e w' => ∃ R' a' b' g', e = .returned (.tuple #[.int .i64 (id : Int), .int .i64 0]) ∧ HM w' R' hb pb mb mm ps L1 rm' cnt' mad' fre' a' b' h' g' C bz ∧ a' + b' ≤ a + b + 5 ∧ TR (rp R pb) (rp R' pb) w w')
    (ST : ∀ R w a b g, HM w R hb pb mb mm ps L1 rm' cnt' mad' fre' a b h' g C bz → Calls Tryz.prog 25 #[at0 pb, .int .i64 (id : Int), .int .i64 0, .int .u64 (r : Int)] w fun e w' => ∃ a' b', e = .returned (.int .i64 0) ∧ a' + b' ≤ a + b + 2 ∧ HM w' R hb pb mb mm ps L2 rm' cnt' mad' fre' a' b' h' g C bz ∧ TR R R w w')
    (PU : ∀ R w a b g, HM w R hb pb mb mm ps L2 rm' cnt' mad' fre' a b h' g C bz → Calls Tryz.prog 27 #[htb mb ps, cl C, .int .i64 (id : Int)] w fun e w' => ∃ b', e = .returned (.tuple #[cl C1, .int .i64 0]) ∧ HM w' R hb pb mb mm ps L3 rm' cnt' mad' fre' a b' h' g C bz ∧ b' ≤ b + 3 ∧ TR R R w w')
    (TN : ∀ R w a b g, HM w R hb pb mb mm ps L3 rm' cnt' mad' fre' a b h' g C1 bz → Calls Tryz.prog 28 #[at0 hb, .int .i64 (id : Int)] w fun e w' => ∃ a', e = .returned (.int .i64 (t : Int)) ∧ a' ≤ a + 1 ∧ HM w' R hb pb mb mm ps L3 rm' cnt' mad' fre' a' b h' g C1 bz ∧ TR R R w w')
    (w : World) (l : HM w R hb pb mb mm ps L rm cnt mad fre a b h g C bz) :
    Calls Tryz.prog 8 #[at0 hb, .int .u64 (r : Int)] w fun e w' => ∃ R' a' b' g', e = .returned (.tuple #[.int .i64 (t : Int), .int .i64 0]) ∧ a' + b' ≤ a + b + 11 ∧ HM w' R' hb pb mb mm ps L3 rm' cnt' mad' fre' a' b' h' g' C1 bz ∧ TR (rh R pb hb) (rh R' pb hb) w w' := by
  have TKh := Lib.hid (TK R w a b g l)
  have STh := Lib.hid ST
  have PUh := Lib.hid PU
  have TNh := Lib.hid TN
  have LK := Lib.hid (fun R a b g w q => hlinks_any (R := R) (hb := hb) (pb := pb) (mb := mb) (mm := mm) (ps := ps) (L := L2) (rm := rm') (cnt := cnt') (mad := mad') (fre := fre') (a := a) (b := b) (h := h') (g := g) (C := C) (bz := bz) w q)
  obtain ⟨c0, c1, c2, c3, c4, cf, cl'⟩ := hac_all l.row
  clear TK ST PU TN l
  go_enter Tryz.func8, Tryz.ntmps8
  go_wp2_with fail
  with_reducible refine TKh.out.mono ?_
  rintro e w1 ⟨R1, a1, b1, g1, rfl, l1, s1, t1⟩
  dsimp only
  clear c0 c1 c2 c3 c4 cf cl'
  obtain ⟨c0, c1, c2, c3, c4, cf, cl'⟩ := hac_all l1.row
  go_wp2_with fail
  with_reducible refine (STh.out _ _ _ _ _ l1).mono ?_
  rintro e w2 ⟨a2, b2, rfl, s2, l2, t2⟩
  dsimp only
  clear c0 c1 c2 c3 c4 cf cl' TKh STh l1
  have T2 := (t1.wg hb).trans (t2.wh pb hb)
  clear t1 t2
  go_upto_region 5 with fail
  have l2d := l2.drew
  have T2d := (TR.refl R1 w2).drew
  obtain ⟨c0, c1, c2, c3, c4, cf, cl'⟩ := hac_all l2.row
  apply wp_ends (fun w' => ∃ a' b', HM w' R1 hb pb mb mm ps L3 rm' cnt' mad' fre' a' b' h' g1 C1 bz ∧ a' + b' ≤ a2 + b2 + 3 ∧ TR (rh R1 pb hb) (rh R1 pb hb) w2 w')
  · go_region_law (first
      | (go_simp; go_at_call 26; with_reducible refine (LK.out _ _ _ _ _ l2d).mono ?_
         rintro e w4 ⟨rfl, b4⟩
         have l4 := l2d.below b4
         have T4 := T2d.below' b4
         obtain ⟨y0, y1, y2, y3, y4, yf, yl⟩ := hac_all l4.row)
      | (go_simp; go_at_call 27; with_reducible refine (PUh.out _ _ _ _ _ l4).mono ?_
         rintro e w5 ⟨b5, rfl, l5, hs5, t5⟩
         have T5 := T4.trans t5
         obtain ⟨z0, z1, z2, z3, z4, zf, zl⟩ := hac_all l5.row))
    all_goals exact ⟨rfl, _, _, l5.stC C1, by omega, (((T5.wh pb hb).wips 1 _).wips 2 _).wips 3 _⟩
  rintro w6 ⟨a6, b6, l6, hs6, T6⟩
  clear c0 c1 c2 c3 c4 cf cl' l2 l2d T2d
  go_wp2_with fail
  with_reducible refine (TNh.out _ _ _ _ _ l6).mono ?_
  rintro e w7 ⟨a7, rfl, hs7, l7, t7⟩
  dsimp only
  have LA := Lib.hid (show a7 + b6 ≤ a + b + 11 by omega)
  have l7 := Lib.hid l7
  have T7 := Lib.hid ((T2.trans T6).trans (t7.wh pb hb))
  clear s1 s2 hs6 hs7 T2 T6 t7 l6
  go_wp2_with fail
  exact bodyPost_ret (v := .tuple #[.int .i64 (t : Int), .int .i64 0]) (by simp [results, Tryz.results8, go_sem]) rfl ⟨_, _, _, _, rfl, LA.out, l7.out, T7.out⟩
/-- Add: the entry, the books behind it -/
theorem hadd_ok (q : HQ (wds L ps) mad fre tk gn F C) (r : Nat) (hr : r < 18446744073709551616) (hm : mad < 10000) (hb' : rm ≤ 10000) (hc : cnt ≤ 1000000) (hg : ∀ x, gn x ≤ 1000000000) (hk : ps < L.length) (ln : (wds L ps).length = rm * 4) (mr : mad ≤ rm) :
    ∃ id rm' mad' fre' ws' gn' F' h', Tk 3 rm mad fre (wds L ps) tk gn F id rm' mad' fre' ws' gn' F' ∧ (F = [] ∧ id = mad + 1 ∧ mad' = mad + 1 ∧ rm' = room2 rm mad ∧ h' = roomh h 3 rm mad ∧ F' = [] ∧ gn' = upd gn (mad + 1) 0 ∨ F = id :: F' ∧ mad' = mad ∧ rm' = rm ∧ h' = h ∧ gn' = gn) ∧
      HQ (pushw (ws'.set (lk 4 id 1) r) 4 2 3 (tlv C) C.length id) mad' fre' (upd tk id true) gn' F' (C ++ [id]) ∧ id ∉ C ∧ (∀ y, y ∈ C → lw (pushw (ws'.set (lk 4 id 1) r) 4 2 3 (tlv C) C.length id) 4 y 1 = lw (wds L ps) 4 y 1) ∧ lw (pushw (ws'.set (lk 4 id 1) r) 4 2 3 (tlv C) C.length id) 4 id 1 = r ∧ (pushw (ws'.set (lk 4 id 1) r) 4 2 3 (tlv C) C.length id).length = rm' * 4 ∧ mad' ≤ rm' ∧
      ∀ w, HM w R hb pb mb mm ps L rm cnt mad fre a b h g C bz → Calls Tryz.prog 8 #[at0 hb, .int .u64 (r : Int)] w fun e w' => ∃ R' a' b' g', e = .returned (.tuple #[.int .i64 ((tkn id (gn' id) : Nat) : Int), .int .i64 0]) ∧ a' + b' ≤ a + b + 11 ∧ HM w' R' hb pb mb mm ps (setw L ps (pushw (ws'.set (lk 4 id 1) r) 4 2 3 (tlv C) C.length id)) rm' (cnt + 1) mad' fre' a' b' h' g' (C ++ [id]) bz ∧ TR (rh R pb hb) (rh R' pb hb) w w' := by
  obtain ⟨id, rm', mad', fre', ws', gn', F', h', T, alt, r', len', grow, mr', TKC⟩ := htake_ok (hb := hb) (pb := pb) (mb := mb) (mm := mm) (ps := ps) (L := L) (rm := rm) (cnt := cnt) (h := h) (C := C) (bz := bz) q hm hb' hc hg ln mr
  have hme : mad' ≤ ent 4 ws'.length := by unfold ent; rw [len', Nat.mul_div_cancel _ (by omega)]; exact mr'
  have hw : mad' = mad ∨ id = mad + 1 := alt.elim (fun z => .inr z.2.1) (fun z => .inl z.2.1)
  obtain ⟨c1, q', nC, old, new⟩ := q.add (v := r) T r' grow hme hw
  have i2 := Nat.le_trans T.i2 hme
  have tkin := r'.tk_in T.i1 T.i2 (upd_at _ _ _)
  have mb2 := q'.r.mb
  have tk3 := q'.tkt (x := id) (by simp)
  refine ⟨id, rm', mad', fre', ws', gn', F', h', T, alt, q', nC, old, new, by rw [pushw_len, List.length_set]; exact len', mr', fun w l => ?_⟩
  refine hadd_walk id r (tkn id (gn' id)) (C ++ [id]) (setw L ps ws') (setw L ps (ws'.set (lk 4 id 1) r)) _ rm' (cnt + 1) mad' fre' h' (fun R w a b g l => TKC R w a b g l) (fun R w a b g l => ?_) (fun R w a b g l => ?_) (fun R w a b g l => ?_) w l
  · have C := hpset id r hr (by rw [setw_wds hk]; exact r'.chq_in (j := 0) T.i1 T.i2 (upd_at _ _ _) (by omega)) w l
    rw [setw_wds hk, setw_setw hk] at C
    exact C
  · have C := hchain_push w l (by rw [setw_wds hk]; exact c1) id T.i1 T.i2
    rw [setw_wds hk, setw_setw hk] at C
    exact C
  · exact htoken_any id (gn' id) T.i1 (by have := T.i2; omega) (by rw [setw_wds hk]; exact tk3.2) (T.gb _ hg id) w l

set_option maxRecDepth 100000 in
set_option maxHeartbeats 1000000 in
/-- Drop, walked, whatever its callees leave -/
theorem hdrop_walk (w : World) (t : Int) (id : Nat) (C1 : List Nat) (L1 L2 : List Spc) (cnt' fre' : Nat)
    (FD : Calls Tryz.prog 41 #[at0 hb, .int .i64 t] w fun e w' => ∃ a', e = .returned (.tuple #[.int .i64 (id : Int), .int .i64 0]) ∧ a' ≤ a + 2 ∧ HM w' R hb pb mb mm ps L rm cnt mad fre a' b h g C bz ∧ TR R R w w')
    (DR : ∀ w a b, HM w R hb pb mb mm ps L rm cnt mad fre a b h g C bz → Calls Tryz.prog 44 #[htb mb ps, cl C, .int .i64 (id : Int)] w fun e w' => ∃ a' b', e = .returned (.tuple #[cl C1, .int .i64 0]) ∧ HM w' R hb pb mb mm ps L1 rm cnt mad fre a' b' h g C bz ∧ a' + b' ≤ a + b + 4 ∧ TR R R w w')
    (GV : ∀ w a b, HM w R hb pb mb mm ps L1 rm cnt mad fre a b h g C1 bz → Calls Tryz.prog 45 #[at0 pb, .int .i64 (id : Int)] w fun e w' => ∃ a' b', e = .returned (.int .i64 0) ∧ HM w' R hb pb mb mm ps L2 rm cnt' mad fre' a' b' h g C1 bz ∧ a' + b' ≤ a + b + 3 ∧ TR (rp R pb) (rp R pb) w w') :
    Calls Tryz.prog 19 #[at0 hb, .int .i64 t] w fun e w' => ∃ a' b', e = .returned (.int .i64 0) ∧ a' + b' ≤ a + b + 9 ∧ HM w' R hb pb mb mm ps L2 rm cnt' mad fre' a' b' h g C1 bz ∧ TR (rh R pb hb) (rh R pb hb) w w' := by
  have FDh := Lib.hid FD
  have DRh := Lib.hid DR
  have GVh := Lib.hid GV
  have LK := Lib.hid (fun a b w q => hlinks_any (R := R) (hb := hb) (pb := pb) (mb := mb) (mm := mm) (ps := ps) (L := L) (rm := rm) (cnt := cnt) (mad := mad) (fre := fre) (a := a) (b := b) (h := h) (g := g) (C := C) (bz := bz) w q)
  clear FD DR GV
  go_enter Tryz.func19, Tryz.ntmps19
  go_wp2_with fail
  with_reducible refine FDh.out.mono ?_
  rintro e w1 ⟨a1, rfl, s1, l1, t1⟩
  dsimp only
  go_upto_region 4 with fail
  have l1d := l1.drew
  have T1d := (TR.refl R w1).drew
  obtain ⟨c0, c1, c2, c3, c4, cf, cl'⟩ := hac_all l1.row
  apply wp_ends (fun w' => ∃ a' b', HM w' R hb pb mb mm ps L1 rm cnt mad fre a' b' h g C1 bz ∧ a' + b' ≤ a1 + b + 4 ∧ TR (rh R pb hb) (rh R pb hb) w1 w')
  · go_region_law (first
      | (go_simp; go_at_call 26; with_reducible refine (LK.out _ _ _ l1d).mono ?_
         rintro e w4 ⟨rfl, b4⟩
         have l4 := l1d.below b4
         have T4 := T1d.below' b4
         obtain ⟨y0, y1, y2, y3, y4, yf, yl⟩ := hac_all l4.row)
      | (go_simp; go_at_call 44; with_reducible refine (DRh.out _ _ _ l4).mono ?_
         rintro e w5 ⟨a5, b5, rfl, l5, hs5, t5⟩
         have T5 := T4.trans t5
         obtain ⟨z0, z1, z2, z3, z4, zf, zl⟩ := hac_all l5.row))
    all_goals exact ⟨rfl, _, _, l5.stC C1, hs5, (((T5.wh pb hb).wips 1 _).wips 2 _).wips 3 _⟩
  rintro w6 ⟨a6, b6, l6, hs6, T6⟩
  clear c0 c1 c2 c3 c4 cf cl' l1 l1d T1d
  obtain ⟨c0, c1, c2, c3, c4, cf, cl'⟩ := hac_all l6.row
  go_wp2_with fail
  with_reducible refine (GVh.out _ _ _ l6).mono ?_
  rintro e w7 ⟨a7, b7, rfl, l7, hs7, t7⟩
  dsimp only
  have LA := Lib.hid (show a7 + b7 ≤ a + b + 9 by omega)
  have l7 := Lib.hid l7
  have T7 := Lib.hid (((t1.wh pb hb).trans T6).trans (t7.wg hb))
  clear s1 hs6 hs7 t1 T6 t7 l6 c0 c1 c2 c3 c4 cf cl'
  go_wp2_with fail
  go_ret
  exact ⟨_, _, rfl, LA.out, l7.out, T7.out⟩
theorem hdrop_ok (q : HQ (wds L ps) mad fre tk gn F C) (i : Nat) (hi : i < C.length) (hg : gn (C.getD i 0) < 1000000000) (hc1 : 1 ≤ cnt) (hc : cnt ≤ 1000000) (w : World) (l : HM w R hb pb mb mm ps L rm cnt mad fre a b h g C bz) :
    Calls Tryz.prog 19 #[at0 hb, .int .i64 ((tkn (C.getD i 0) (gn (C.getD i 0)) : Nat) : Int)] w fun e w' => ∃ a' b', e = .returned (.int .i64 0) ∧ a' + b' ≤ a + b + 9 ∧ HM w' R hb pb mb mm ps (setw L ps ((dropw (wds L ps) 4 2 3 (nxv C i) (pvv C i)).set (lk 4 (C.getD i 0) 0) (2 * fre + 4194304 * (gn (C.getD i 0) + 1)))) rm (cnt - 1) mad (C.getD i 0) a' b' h g (C.eraseIdx i) bz ∧ TR (rh R pb hb) (rh R pb hb) w w' := by
  have hk := l.p.hk
  have im := getD_mem hi
  obtain ⟨r1, q', _⟩ := q.drop hi
  obtain ⟨u, v, t⟩ := q.us _ im
  refine hdrop_walk w _ (C.getD i 0) (C.eraseIdx i) (setw L ps (dropw (wds L ps) 4 2 3 (nxv C i) (pvv C i))) _ (cnt - 1) (C.getD i 0) (hfind_ok q _ im (by omega) w l) (fun w a b l => hchain_drop w l q.ch i hi) (fun w a b l => ?_)
  have C := hgive_ok (by rw [setw_wds hk]; exact r1) (C.getD i 0) u v t hg hc1 hc w l
  rw [setw_wds hk, setw_setw hk] at C
  exact C
set_option maxRecDepth 100000 in
theorem hdrop_no (q : HQ (wds L ps) mad fre tk gn F C) (t : Int) (hno : ∀ x, x ∈ C → t ≠ ((tkn x (gn x) : Nat) : Int)) (hg9 : ∀ x, gn x ≤ 1000000000) (w : World) (l : HM w R hb pb mb mm ps L rm cnt mad fre a b h g C bz) :
    Calls Tryz.prog 19 #[at0 hb, .int .i64 t] w fun e w' => ∃ a', e = .returned (.int .i64 30) ∧ a' ≤ a + 2 ∧ HM w' R hb pb mb mm ps L rm cnt mad fre a' b h g C bz ∧ TR R R w w' := by
  have FD := Lib.hid (hfind_no q t hno hg9 w l)
  clear l hno hg9 q
  go_enter Tryz.func19, Tryz.ntmps19
  go_wp2_with fail
  with_reducible refine FD.out.mono ?_
  rintro e w1 ⟨a1, rfl, la, l1, t1⟩
  dsimp only
  have l1 := Lib.hid l1
  have T1 := Lib.hid t1
  have LA := Lib.hid la
  clear t1 la FD
  go_wp2_with fail
  go_ret
  exact ⟨a1, rfl, LA.out, l1.out, T1.out⟩
end

/-! ### New -/
theorem hnew_nil (w : World) : Calls Tryz.prog 21 #[.pointer none] w fun e w' => e = .returned (.tuple #[.pointer none, .int .i64 1]) ∧ w = w' := by
  have PN := Lib.hid (pnew_nil 3 w)
  go_enter Tryz.func21, Tryz.ntmps21
  go_wp2_with fail
  with_reducible refine PN.out.mono ?_
  rintro e w1 ⟨rfl, rfl⟩
  dsimp only
  go_wp2_with fail
  exact bodyPost_ret (v := .tuple #[.pointer none, .int .i64 1]) (by simp [results, Tryz.results21, go_sem]) rfl ⟨rfl, rfl⟩
theorem hholdh_none (h : Int) : holdh h 0 = h := by unfold holdh; split <;> omega
set_option maxRecDepth 100000 in
/-- pool.New on a Mem that holds spaces -/
theorem hpnew_at (mb mm : Nat) (R : Nat → Nat) (L : List Spc) (a b : Nat) (h g : Int) (W : Nat) (h1 : 1 ≤ W) (h2 : W ≤ 60) (hl : countv L < 262144) (w : World) (m : MM w R mb mm L a b h g) : Calls Tryz.prog 47 #[at0 mb, .int .i64 (W : Int)] w fun e w' => ∃ R' pb g', e = .returned (.tuple #[at0 pb, .int .i64 0]) ∧ PP w' R' pb mb mm (opened L 0) (firstc L) W 0 0 0 0 a b h g' ∧ w.heap.size ≤ pb ∧ TR R R' w w' := by
  have OP := mopen_ok mb mm R L a b h g w m 0 (by omega) hl
  rw [show ((0 : Nat) : Int) = 0 from rfl, hholdh_none] at OP
  have OPH := Lib.hid OP
  have q0 := fun w a => ptr_eql_nil a w
  have c1 : ¬ (W : Int) < 1 := by omega
  have c2 : ¬ 60 < (W : Int) := by omega
  have c1' : ¬ W < 1 := by omega
  have c2' : ¬ 60 < W := by omega
  have F1 := Lib.hid (opened_le L 0).2
  have F2 := Lib.hid (opened_new L 0)
  have F3 := Lib.hid (opened_wnew L 0)
  have H1 := Lib.hid h1
  have H2 := Lib.hid h2
  clear OP m h1 h2 hl
  generalize opened L 0 = L' at *
  generalize firstc L = k at *
  go_enter Tryz.func47, Tryz.ntmps47
  go_wp2_with fail
  with_reducible refine OPH.out.mono ?_
  rintro e w1 ⟨R', rfl, M1, T1⟩
  dsimp only
  have z1 : R' w1.heap.size = 0 := Decidable.byContradiction fun q => by have := M1.hi _ q; omega
  have RW := Row.newAt w1 (#[at0 mb, .int .i64 (k : Int), .int .i64 (W : Int), .int .i64 0, .int .i64 0, .int .i64 0] : Array Value) 123 w1.heap.size 6 _ rfl (pc_new (at0 mb) (k : Int) (W : Int) 0 0 0)
  have P2 := Lib.hid (show PP (w1.alloc (.cells #[at0 mb, .int .i64 (k : Int), .int .i64 (W : Int), .int .i64 0, .int .i64 0, .int .i64 0] 123)) R' w1.heap.size mb mm L' k W 0 0 0 0 a b h _ from
    ⟨RW, z1, M1.alloc _, H1.out, H2.out, F1.out, by rw [F2.out], by rw [F3.out]; simp, Nat.le_refl _, fun j => by rw [F3.out]; simp⟩)
  have T2 := Lib.hid (T1.alloc (.cells #[at0 mb, .int .i64 (k : Int), .int .i64 (W : Int), .int .i64 0, .int .i64 0, .int .i64 0] 123))
  have LE := Lib.hid T1.keeps.size
  clear RW M1 T1 z1
  go_wp2_with fail
  exact bodyPost_ret (v := .tuple #[at0 w1.heap.size, .int .i64 0]) (by simp [results, Tryz.results47, go_sem]) rfl ⟨R', w1.heap.size, _, rfl, P2.out, LE.out, T2.out⟩
set_option maxRecDepth 100000 in
theorem hnew_at (mb mm : Nat) (R : Nat → Nat) (L : List Spc) (a b : Nat) (h g : Int) (hl : countv L < 262144) (w : World) (m : MM w R mb mm L a b h g) : Calls Tryz.prog 21 #[at0 mb] w fun e w' => ∃ R' pb hb g', e = .returned (.tuple #[at0 hb, .int .i64 0]) ∧ HM w' R' hb pb mb mm (firstc L) (opened L 0) 0 0 0 0 a b h g' [] false ∧ w.heap.size ≤ pb ∧ w.heap.size ≤ hb ∧ TR R R' w w' := by
  have PN0 := hpnew_at mb mm R L a b h g 3 (by omega) (by omega) hl w m
  rw [show ((3 : Nat) : Int) = 3 from rfl] at PN0
  have PN := Lib.hid PN0
  clear PN0 m hl
  generalize opened L 0 = L' at *
  generalize firstc L = k at *
  go_enter Tryz.func21, Tryz.ntmps21
  go_wp2_with fail
  with_reducible refine PN.out.mono ?_
  rintro e w1 ⟨R', pb, g', rfl, P1, hp, T1⟩
  dsimp only
  have z1 : R' w1.heap.size = 0 := Decidable.byContradiction fun q => by have := P1.m.hi _ q; omega
  have n1 : w1.heap.size ≠ pb := by have := P1.row.lt; omega
  have RW := Row.newAt w1 (#[at0 pb, .int .i64 0, .int .i64 0, .int .i64 0, .bool false] : Array Value) 79 w1.heap.size 5 _ rfl (hac_new (at0 pb) 0 0 0 false)
  have L2 := Lib.hid (show HM (w1.alloc (.cells #[at0 pb, .int .i64 0, .int .i64 0, .int .i64 0, .bool false] 79)) R' w1.heap.size pb mb mm k L' 0 0 0 0 a b h g' [] false from
    ⟨RW, z1, n1, P1.below ((Below.refl _ _).alloc (Nat.le_refl _) _)⟩)
  have T2 := Lib.hid (T1.alloc (.cells #[at0 pb, .int .i64 0, .int .i64 0, .int .i64 0, .bool false] 79))
  have LE := Lib.hid T1.keeps.size
  clear RW P1 T1 z1 n1
  go_wp2_with fail
  exact bodyPost_ret (v := .tuple #[at0 w1.heap.size, .int .i64 0]) (by simp [results, Tryz.results21, go_sem]) rfl ⟨R', pb, w1.heap.size, g', rfl, L2.out, hp, LE.out, T2.out⟩
end Go.Proofs.YtdenhhokckjjaaaGreat
