/-
  Package roots: New; haymowlaw19.made, awake.
-/
import Derived.Test.YtppmicepkjhfeaaGreatRtc
namespace Go.Proofs.YtppmicepkjhfeaaGreat
open Go.RowKit
set_option linter.unusedVariables false

theorem firstc_closed (L : List Spc) (h : firstc L < L.length) : (L.getD (firstc L) (false, [])).1 = false := by
  obtain ⟨k, k1, k2, k3⟩ := firstc_is L
  have e := firstc_eq L k k2 k3
  rw [e] at h ⊢
  exact (k3.resolve_left (by omega)).2
theorem countv_opened (L : List Spc) (n : Nat) : countv (opened L n) = countv L + 1 := by
  unfold opened
  split
  · rename_i h
    have e := countv_set L (firstc L) (true, List.replicate n 0) h
    rw [firstc_closed L h] at e
    simpa using e
  · rw [countv_snoc]; rfl
theorem sm_opened (L : List Spc) (n i : Nat) (hi : i < L.length) (h : firstc L ≠ i) : Sm L (opened L n) i := ⟨Nat.lt_of_lt_of_le hi (opened_le L n).1, opened_at L n i hi h⟩
theorem hk_none {w : World} {R : Nat → Nat} {hb pb mb mm : Nat} {L : List Spc} {a b : Nat} {h g : Int} (l : HM w R hb pb mb mm (firstc L) (opened L 0) 0 0 0 0 a b h g [] false) : HK w R hb pb mb mm (opened L 0) (HS.none (firstc L)) a b h g :=
  ⟨⟨0, l, by
    show HQ (wds (opened L 0) (firstc L)) 0 0 (fun _ => false) (fun _ => 0) [] []
    rw [opened_wnew]; exact HQ.start _ _⟩, fun y hy => nomatch hy⟩
theorem new_gt {n : Nat} (h : n ≤ 262141) : ((n : Int) > 262141) = False := by simp; omega
/-- the three are there: all of it -/
theorem rs_new {w1 w2 w3 w4 : World} {R R1 R2 R3 : Nat → Nat} {mb mm fb gp gb hp hb : Nat} {L : List Spc} {a b : Nat} {h g1 g2 g3 : Int}
    (p : FR w2 R1 fb mb mm (firstc L) (opened L 0) [] false a b h g1) (lf : w1.heap.size ≤ fb) (t1 : TR R R1 w1 w2)
    (q : HM w3 R2 gb gp mb mm (firstc (opened L 0)) (opened (opened L 0) 0) 0 0 0 0 a b h g2 [] false) (lgp : w2.heap.size ≤ gp) (lgb : w2.heap.size ≤ gb) (t2 : TR R1 R2 w2 w3)
    (r : HM w4 R3 hb hp mb mm (firstc (opened (opened L 0) 0)) (opened (opened (opened L 0) 0) 0) 0 0 0 0 a b h g3 [] false) (lhp : w3.heap.size ≤ hp) (lhb : w3.heap.size ≤ hb) (t3 : TR R2 R3 w3 w4) :
    RS (w4.alloc (.cells #[at0 fb, at0 gb, at0 hb] 48)) R3 ⟨w4.heap.size, fb, gp, gb, hp, hb, mb, mm⟩ (firstc L) (opened (opened (opened L 0) 0) 0) [] false (HS.none (firstc (opened L 0))) (HS.none (firstc (opened (opened L 0) 0))) a b h g3 ∧
    (∀ j, BK.own ⟨w4.heap.size, fb, gp, gb, hp, hb, mb, mm⟩ j → w1.heap.size ≤ j) ∧ TR R R3 w1 (w4.alloc (.cells #[at0 fb, at0 gb, at0 hb] 48)) := by
  have s1 := t1.keeps.size
  have s2 := t2.keeps.size
  have s3 := t3.keeps.size
  have l1 := p.row.lt
  have l2 := q.row.lt
  have l3 := q.p.row.lt
  have l4 := r.row.lt
  have l5 := r.p.row.lt
  have n1 := q.ne
  have n2 := r.ne
  have f1 := (opened_le L 0).2
  have f2 := (opened_le (opened L 0) 0).2
  have f3 := (opened_le (opened L 0) 0).1
  have o1 : ((opened L 0).getD (firstc L) (false, [])).1 = true := by rw [opened_new]
  have o2 : ((opened (opened L 0) 0).getD (firstc (opened L 0)) (false, [])).1 = true := by rw [opened_new]
  have d1 : firstc (opened L 0) ≠ firstc L := firstc_ne _ _ f1 o1
  have e1 := sm_opened (opened L 0) 0 (firstc L) f1 d1
  have o3 : ((opened (opened L 0) 0).getD (firstc L) (false, [])).1 = true := by rw [e1.2]; exact o1
  have d2 : firstc (opened (opened L 0) 0) ≠ firstc L := firstc_ne _ _ e1.1 o3
  have d3 : firstc (opened (opened L 0) 0) ≠ firstc (opened L 0) := firstc_ne _ _ f2 o2
  have e2 := sm_opened (opened (opened L 0) 0) 0 (firstc L) e1.1 d2
  have e3 := sm_opened (opened (opened L 0) 0) 0 (firstc (opened L 0)) f2 d3
  have id0 : ∀ (R' : Nat → Nat) j, R' j = 0 → R' j = 0 := fun _ _ h => h
  have P := p.other (t2.trans t3) p.z (id0 R3) r.p.m (⟨e2.1, e2.2.trans e1.2⟩ : Sm (opened L 0) (opened (opened (opened L 0) 0) 0) (firstc L))
  have Q := (hk_none q).other t3 q.z q.p.z (id0 R3) r.p.m e3
  have H := hk_none r
  have BB : Below w4.heap.size w4 (w4.alloc (.cells #[at0 fb, at0 gb, at0 hb] 48)) := bAlloc (Below.refl _ _) _
  have TB : TR R3 R3 w4 (w4.alloc (.cells #[at0 fb, at0 gb, at0 hb] 48)) := TR.of BB
  have M := r.p.m.below BB
  have zr : R3 w4.heap.size = 0 := Decidable.byContradiction fun z => by have := r.p.m.hi _ z; omega
  refine ⟨⟨Row.newAt w4 _ _ w4.heap.size 3 _ rfl (rtc_new _ _ _), zr, P.below BB, Q.other TB Q.at.1 Q.at.2.1 (id0 R3) M ⟨Q.sp.1, rfl⟩, H.other TB H.at.1 H.at.2.1 (id0 R3) M ⟨H.sp.1, rfl⟩, ?_, d1.symm, d2.symm, d3.symm⟩, fun j hj => ?_, ((t1.trans t2).trans t3).trans TB⟩
  · unfold BK.apart
    dsimp only
    omega
  · unfold BK.own at hj
    dsimp only at hj
    omega
theorem rnew_nil (w : World) : Calls Tryz.prog 19 #[.pointer none] w fun e w' => e = .returned (.tuple #[.pointer none, .int .i64 1]) ∧ w = w' := by
  have q0 : ∀ w : World, (binOp .eql 61 (.pointer none) (.pointer none)).run Tryz.prog w = .ok (.bool true) w := fun w => by kernel_rfl
  go_enter Tryz.func19, Tryz.ntmps19
  go_wp2_with fail
  exact bodyPost_ret (v := .tuple #[.pointer none, .int .i64 1]) (by simp [results, Tryz.results19, go_sem]) rfl ⟨rfl, rfl⟩
set_option maxRecDepth 100000 in
theorem rnew_ok (mb mm : Nat) (R : Nat → Nat) (L : List Spc) (a b : Nat) (h g : Int) (hl : countv L ≤ 262141) (w : World) (m : MM w R mb mm L a b h g) : Calls Tryz.prog 19 #[at0 mb] w fun e w' => ∃ R' B fs gs hs L' h' g', e = .returned (.tuple #[at0 B.rb, .int .i64 0]) ∧ RS w' R' B fs L' [] false (HS.none gs) (HS.none hs) a b h' g' ∧ (∀ j, B.own j → w.heap.size ≤ j) ∧ TR R R' w w' := by
  have q0 := fun w a => ptr_nil a w
  have SP := Lib.hid (mspaces_any mb mm R L a b h g w m)
  have FN := Lib.hid (fun w' (k : Below w.heap.size w w') => fnew_ok mb mm R L a b h g (by omega) w' (m.below k))
  have HN := Lib.hid (fun R' L' h' g' w' (m : MM w' R' mb mm L' a b h' g') (k : countv L' < 262144) => hnew_at mb mm R' L' a b h' g' k w' m)
  have K1 := Lib.hid (show countv (opened L 0) < 262144 by rw [countv_opened]; omega)
  have K2 := Lib.hid (show countv (opened (opened L 0) 0) < 262144 by rw [countv_opened, countv_opened]; omega)
  have gt0 : ¬ (countv L : Int) > 262141 := by omega
  clear m hl
  go_enter Tryz.func19, Tryz.ntmps19
  go_wp2_with fail
  with_reducible refine SP.out.mono ?_
  rintro e w1 ⟨rfl, b1⟩
  dsimp only
  go_wp2_with fail
  with_reducible refine (FN.out _ b1).mono ?_
  rintro e w2 ⟨R1, fb, rfl, P1, lf, T1⟩
  dsimp only
  have P1h := Lib.hid P1
  have T1h := Lib.hid T1
  have LF := Lib.hid lf
  have B1 := Lib.hid b1
  have M1 := Lib.hid P1.m
  clear P1 T1 lf b1 gt0 SP FN
  go_wp2_with fail
  with_reducible refine (HN.out _ _ _ _ _ M1.out K1.out).mono ?_
  rintro e w3 ⟨R2, gp, gb, g2, rfl, P2, lgp, lgb, T2⟩
  dsimp only
  have P2h := Lib.hid P2
  have T2h := Lib.hid T2
  have LGP := Lib.hid lgp
  have LGB := Lib.hid lgb
  have M2 := Lib.hid P2.p.m
  clear P2 T2 lgp lgb M1
  go_wp2_with fail
  with_reducible refine (HN.out _ _ _ _ _ M2.out K2.out).mono ?_
  rintro e w4 ⟨R3, hp, hb, g3, rfl, P3, lhp, lhb, T3⟩
  dsimp only
  have RN := Lib.hid (rs_new P1h.out LF.out T1h.out P2h.out LGP.out LGB.out T2h.out P3 lhp lhb T3)
  clear P3 lhp lhb T3 M2 P1h T1h LF P2h T2h LGP LGB HN K1 K2
  go_wp2_with fail
  obtain ⟨r1, r2, r3⟩ := RN.out
  exact bodyPost_ret (v := .tuple #[at0 w4.heap.size, .int .i64 0]) (by simp [results, Tryz.results19, go_sem]) rfl ⟨R3, ⟨w4.heap.size, fb, gp, gb, hp, hb, mb, mm⟩, _, _, _, _, _, _, rfl, r1, fun j hj => Nat.le_trans B1.out.size (r2 j hj), (TR.of B1.out).trans r3⟩
/-! ### the law's own -/
theorem roots_neq_nil (a : Addr) (w : World) : (binOp .neq 24 (.pointer (some a)) (.pointer none)).run Tryz.prog w = .ok (.bool true) w := by kernel_rfl
theorem roots_neq_none (w : World) : (binOp .neq 24 (.pointer none) (.pointer none)).run Tryz.prog w = .ok (.bool false) w := by kernel_rfl
theorem frames_neq_nil19 (a : Addr) (w : World) : (binOp .neq 45 (.pointer (some a)) (.pointer none)).run Tryz.prog w = .ok (.bool true) w := by kernel_rfl
theorem hl_none (ps n : Nat) : HL (HS.none ps) n := ⟨fun _ => Nat.zero_le _, Nat.zero_le _, Nat.zero_le _⟩
set_option maxRecDepth 100000 in
theorem made19_ok (w : World) : Calls Tryz.prog 5 #[] w fun e w' => ∃ R B gs hs, e = .returned (.tuple #[at0 B.rb, .bool true]) ∧ RL w R B 0 [] false (HS.none gs) (HS.none hs) w' := by
  have NW := Lib.hid (fun w => mnew_any w)
  have PN := Lib.hid (fun mb mm R w m => rnew_ok mb mm R [] 0 0 0 0 (by unfold countv; omega) w m)
  have q0 := fun w a => ptr_nil a w
  have q1 := fun w a => roots_neq_nil a w
  have q2 := fun w a => frames_neq_nil19 a w
  go_enter Tryz.func5, Tryz.ntmps5
  go_wp2_with fail
  with_reducible refine (NW.out _).mono ?_
  rintro e w1 ⟨mb, mm, R, rfl, M1, lo1, b1⟩
  dsimp only
  go_wp2_with fail
  with_reducible refine (PN.out mb mm R _ M1).mono ?_
  rintro e w2 ⟨R2, B, fs, gs, hs, L', h', g', rfl, P2, lp, T2⟩
  dsimp only
  have S2 := Lib.hid (show RL w R2 B 0 [] false (HS.none gs) (HS.none hs) w2 from ⟨⟨_, _, _, _, _, _, P2⟩, fun j hj => by
    rcases rr_of hj with q | q
    · exact Nat.le_trans b1.size (lp j q)
    · by_cases c : j < w1.heap.size
      · exact lo1 j (T2.old j c q)
      · have := b1.size; omega, b1.trans (T2.below b1.size lo1), Nat.zero_le _, hl_none _ _, hl_none _ _, by omega⟩)
  obtain ⟨c0, c1, c2, cl⟩ := P2.cells
  clear M1 T2 P2 lo1 b1 lp
  go_upto_region 5 with fail
  go_quiet (fail)
  have S3 := Lib.hid (S2.out.below (below_drewN (Below.refl _ _) nq))
  go_wp2_with fail
  exact bodyPost_ret (v := .tuple #[at0 B.rb, .bool true]) (by simp [results, Tryz.results5, go_sem]) rfl ⟨R2, B, gs, hs, rfl, S3.out⟩
theorem tkn_first (gn : Nat → Nat) : tkn (0 + 1) (upd gn (0 + 1) 0 (0 + 1)) = 0 := by rw [upd_at]; unfold tkn; rfl
set_option maxRecDepth 100000 in
set_option maxHeartbeats 4000000 in
theorem awake19_any (w : World) : Calls Tryz.prog 4 #[] w fun e w' => e = .returned (.bool true) ∧ Below w.heap.size w w' := by
  have MD := Lib.hid (fun w => made19_ok w)
  have SL := Lib.hid (fun w => rslot_any 1 (-2) (by decide) (by decide) w)
  go_enter Tryz.func4, Tryz.ntmps4
  go_wp2_with fail
  refine (MD.out _).mono ?_
  rintro e w1 ⟨R, B, gs, hs, rfl, S1⟩
  dsimp only
  obtain ⟨c0, c1, c2, cl⟩ := S1.cells
  have C1 := Lib.hid (show Calls Tryz.prog 14 #[at0 B.fb, .int .i64 2] w1 _ from S1.push (by omega) (k := 2) (by omega))
  clear S1
  go_wp2_with fail
  with_reducible refine C1.out.mono ?_
  rintro e w2 ⟨R2, rfl, S2, _⟩
  dsimp only
  clear C1 c0 c1 c2 cl
  obtain ⟨id2, rm2, mad2, gn2, F2, T2, C2⟩ := S2.add (by omega)
  obtain ⟨_, rfl, rfl, rfl, rfl, rfl⟩ := T2.alt.resolve_right (fun q => nomatch q.1)
  have C2 := Lib.hid C2
  clear S2 T2
  go_wp2_with fail
  refine C2.out.mono ?_
  rintro e w3 ⟨_, _, rfl, rfl, rfl, R3, S3, _⟩
  dsimp only
  rw [show tkn ((HS.none gs).mad + 1) (upd (HS.none gs).gn ((HS.none gs).mad + 1) 0 ((HS.none gs).mad + 1)) = 0 from tkn_first _]
  have C3 := Lib.hid (show Calls Tryz.prog 16 #[at0 B.rb, .int .i64 (-2), .int .u64 5] w3 _ from S3.set_f (k := 1) (by decide) 5)
  clear S3 C2
  go_wp2_with fail
  with_reducible refine C3.out.mono ?_
  rintro e w4 ⟨_, rfl, rfl, S4, _⟩
  dsimp only
  have C4 := Lib.hid (show Calls Tryz.prog 13 #[at0 B.rb, .int .i64 (-2)] w4 _ from S4.get_f (k := 1) (by decide))
  clear S4 C3
  go_wp2_with fail
  refine C4.out.mono ?_
  rintro e w5 ⟨_, _, rfl, rfl, rfl, S5, _⟩
  dsimp only
  rw [show (((List.replicate 2 0).set 1 5).getD 1 0) = 5 from rfl]
  have C5 := Lib.hid (show Calls Tryz.prog 8 #[at0 B.rb] w5 (fun e w' => e = .returned (.int .i64 8) ∧ Below w5.heap.size w5 w') from S5.charge)
  have B5 := Lib.hid S5.o
  clear S5 C4
  go_wp2_with fail
  with_reducible refine C5.out.mono ?_
  rintro e w6 ⟨rfl, b6⟩
  dsimp only
  go_wp2_with fail
  with_reducible refine (SL.out _).mono ?_
  rintro e w7 ⟨rfl, rfl⟩
  dsimp only
  go_wp2_with fail
  go_ret
  exact ⟨rfl, B5.out.trans (b6.mono B5.out.size)⟩
end Go.Proofs.YtppmicepkjhfeaaGreat
