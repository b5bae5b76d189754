/-
  Contracts of package semi: Flip, Move, End.
-/
import Derived.Test.YtnpoiebhajjkbaaSmiR
namespace Go.Proofs.Ytnpoiebhajjkbaa
open Go.RowKit
set_option linter.unusedVariables false

theorem firstc_is (L : List Spc) : ∃ k, k ≤ L.length ∧ (∀ j, j < k → (L.getD j (false, [])).1 = true) ∧ (k = L.length ∨ k < L.length ∧ (L.getD k (false, [])).1 = false) := by
  induction L with
  | nil => exact ⟨0, Nat.le_refl _, (fun j hj => by omega), .inl rfl⟩
  | cons x l ih =>
    obtain ⟨k, k1, k2, k3⟩ := ih
    cases hx : x.1
    · exact ⟨0, Nat.zero_le _, (fun j hj => by omega), .inr ⟨by simp, by simpa using hx⟩⟩
    · refine ⟨k + 1, by simpa using k1, fun j hj => ?_, ?_⟩
      · cases j with
        | zero => simpa using hx
        | succ j => simpa using k2 j (by omega)
      · rcases k3 with e | ⟨e1, e2⟩
        · exact .inl (by simp [e])
        · exact .inr ⟨by simpa using e1, by simpa using e2⟩
theorem firstc_le (L : List Spc) : firstc L ≤ L.length := by
  obtain ⟨k, k1, k2, k3⟩ := firstc_is L
  rw [firstc_eq L k k2 k3]; exact k1
theorem firstc_ne (L : List Spc) (i : Nat) (hi : i < L.length) (h : (L.getD i (false, [])).1 = true) : firstc L ≠ i := by
  obtain ⟨k, k1, k2, k3⟩ := firstc_is L
  rw [firstc_eq L k k2 k3]
  intro e
  rcases k3 with e2 | ⟨_, e2⟩
  · omega
  · rw [e, h] at e2; cases e2
theorem opened_at (L : List Spc) (n i : Nat) (hi : i < L.length) (h : firstc L ≠ i) : (opened L n).getD i (false, []) = L.getD i (false, []) := by
  unfold opened
  split
  · rw [getD_set L _ _ _ (by omega), if_neg (fun e => h e.symm)]
  · rw [getD_snoc L _ _ (by omega), if_pos hi]
theorem opened_new (L : List Spc) (n : Nat) : (opened L n).getD (firstc L) (false, []) = (true, List.replicate n 0) := by
  have := firstc_le L
  unfold opened
  split
  · rw [getD_set L _ _ _ (by omega), if_pos rfl]
  · rw [getD_snoc L _ _ (by omega), if_neg (by omega)]
theorem opened_le (L : List Spc) (n : Nat) : L.length ≤ (opened L n).length ∧ firstc L < (opened L n).length := by
  have := firstc_le L
  unfold opened
  split <;> simp <;> omega
theorem copy_at (mb mm : Nat) (R : Nat → Nat) (L : List Spc) (a b : Nat) (h g : Int) (w : World) (hm : MM w R mb mm L a b h g) (kf i k d t : Nat) (hkf : kf < L.length) (hof : (L.getD kf (false, [])).1 = true) (hk : k < L.length) (ho : (L.getD k (false, [])).1 = true) (hif : i + t ≤ (wds L kf).length) (hid : d + t ≤ (wds L k).length) (ht : 1 ≤ t) :
    Calls Try.prog 24 #[at0 mb, .int .i64 (kf : Int), .int .i64 (i : Int), .int .i64 (k : Int), .int .i64 (d : Int), .int .i64 (t : Int)] w fun e w' => e = .returned (.int .i64 0) ∧ MM w' R mb mm (setw L k (wset (wds L k) d (fun j => (wds L kf).getD (i + j) 0) t)) (addv a t) (addv b t) h g ∧ TR R R w w' := by
  have wr : ∀ k i, k < L.length → (L.getD k (false, [])).1 = true → i + t ≤ (wds L k).length → wrongv L (k : Int) (i : Int) (t : Int) = 0 := fun k i hk ho hi => by
    unfold wrongv
    rw [if_neg (by rw [isv_t hk ho]; simp), Int.toNat_natCast, if_neg (by omega)]
  have H := mcopy_ok mb mm R L a b h g w hm kf i k d t hkf hk hif hid (isv_t hkf hof) (isv_t hk ho) (wr kf i hkf hof hif) (wr k d hk ho hid)
  have e : (fun j => (wds L kf).getD (i + j) 0) = fun j => wat L kf (i + j) := funext fun j => wat_nat L kf (i + j)
  rw [e]
  rw [stepv_y a rfl (by omega), stepv_n _ (by omega), stepv_n b (by omega), stepv_y _ rfl (by omega), Int.toNat_natCast] at H
  unfold setw
  exact H
section
variable {R : Nat → Nat} {sb mb mm : Nat} {L : List Spc} {cs ct os ot a b : Nat} {tn : Bool} {h g : Int}
/-! ### Flip -/
theorem sflip_turning (n : Int) (w : World) (p : SE w R sb mb mm L cs ct os ot true a b h g) : Calls Try.prog 13 #[at0 sb, .int .i64 n] w fun e w' => e = .returned (.int .i64 1) ∧ w = w' := by
  obtain ⟨x0, x1, x2, x3, x4, x5⟩ := p.cells
  clear p
  go_enter Try.func13, Try.ntmps13
  go_wp2_with fail
  exact bodyPost_ret (v := .int .i64 1) (by simp [results, Try.results13, go_sem]) rfl ⟨rfl, rfl⟩
theorem SE.flip {w w1 : World} {R' : Nat → Nat} {n : Nat} {h' g' : Int} (p : SE w R sb mb mm L cs ct os ot false a b h g) (m : MM w1 R' mb mm (opened L n) a b h' g') (t : TR R R' w w1) :
    SE (((((w1.setCell ⟨sb, 3, none⟩ (.int .i64 (cs : Int))).setCell ⟨sb, 4, none⟩ (.int .i64 (ct : Int))).setCell ⟨sb, 1, none⟩ (.int .i64 ((firstc L : Nat) : Int))).setCell ⟨sb, 2, none⟩ (.int .i64 0)).setCell ⟨sb, 5, none⟩ (.bool true)) R' sb mb mm (opened L n) (firstc L) 0 cs ct true a b h' g' := by
  have z : R' sb = 0 := Decidable.byContradiction fun q => (t.old _ p.row.lt q) p.z
  have ne := firstc_ne L cs p.hk p.ho
  obtain ⟨l1, l2⟩ := opened_le L n
  have e := opened_at L n cs p.hk ne
  exact ⟨(p.row.tr t p.z).smf _ _ _ _ _, z, ((((m.store z 3 _).store z 4 _).store z 1 _).store z 2 _).store z 5 _, l2, by rw [opened_new], Nat.zero_le _, fun _ => ⟨by have := p.hk; omega, by rw [e]; exact p.ho, fun q => ne q.symm, by unfold wds; rw [e]; exact p.ht⟩, (fun q => nomatch q)⟩
set_option maxRecDepth 100000 in
theorem sflip_ok (n : Nat) (hn : n ≤ 4194304) (hl : countv L < 262144) (w : World) (p : SE w R sb mb mm L cs ct os ot false a b h g) : Calls Try.prog 13 #[at0 sb, .int .i64 (n : Int)] w fun e w' => ∃ R', e = .returned (.int .i64 0) ∧ SE w' R' sb mb mm (opened L n) (firstc L) 0 cs ct true a b (holdh h (n : Int)) (holdg h g (n : Int)) ∧ TR (rp R sb) (rp R' sb) w w' := by
  have OPH := Lib.hid (mopen_ok mb mm R L a b h g w p.m n hn hl)
  have KF := Lib.hid (fun w1 R' m t => p.flip (w1 := w1) (R' := R') (n := n) (h' := holdh h (n : Int)) (g' := holdg h g (n : Int)) m t)
  have KC := Lib.hid (fun w1 R' (t : TR R R' w w1) => smc_all (p.row.tr t p.z))
  obtain ⟨x0, x1, x2, x3, x4, x5⟩ := p.cells
  clear p hn hl
  generalize opened L n = L' at *
  generalize firstc L = k at *
  go_enter Try.func13, Try.ntmps13
  go_wp2_with fail
  with_reducible refine OPH.out.mono ?_
  rintro e w1 ⟨R', rfl, M1, T1⟩
  dsimp only
  have P2 := Lib.hid (KF.out w1 R' M1 T1)
  clear x0 x1 x2 x3 x4 x5 M1
  obtain ⟨x0, x1, x2, x3, x4, x5, xf, xl⟩ := KC.out w1 R' T1
  have T2 := Lib.hid ((((((T1.wip sb).wips 3 (.int .i64 (cs : Int))).wips 4 (.int .i64 (ct : Int))).wips 1 (.int .i64 (k : Int))).wips 2 (.int .i64 0)).wips 5 (.bool true))
  clear T1
  go_wp2_with fail
  exact bodyPost_ret (v := .int .i64 0) (by simp [results, Try.results13, go_sem]) rfl ⟨R', rfl, P2.out, T2.out⟩

/-! ### End -/
theorem send_none (w : World) (p : SE w R sb mb mm L cs ct os ot false a b h g) : Calls Try.prog 15 #[at0 sb] w fun e w' => e = .returned (.int .i64 4) ∧ w = w' := by
  obtain ⟨x0, x1, x2, x3, x4, x5⟩ := p.cells
  clear p
  go_enter Try.func15, Try.ntmps15
  go_wp2_with fail
  exact bodyPost_ret (v := .int .i64 4) (by simp [results, Try.results15, go_sem]) rfl ⟨rfl, rfl⟩
theorem SE.endt {w w1 : World} {R' : Nat → Nat} {h' g' : Int} (p : SE w R sb mb mm L cs ct os ot true a b h g) (m : MM w1 R' mb mm (L.set os (false, [])) a b h' g') (t : TR R R' w w1) :
    SE (((w1.setCell ⟨sb, 3, none⟩ (.int .i64 0)).setCell ⟨sb, 4, none⟩ (.int .i64 0)).setCell ⟨sb, 5, none⟩ (.bool false)) R' sb mb mm (L.set os (false, [])) cs ct 0 0 false a b h' g' := by
  have z : R' sb = 0 := Decidable.byContradiction fun q => (t.old _ p.row.lt q) p.z
  obtain ⟨o1, o2, o3, o4⟩ := p.old rfl
  have e : (L.set os (false, [])).getD cs (false, []) = L.getD cs (false, []) := by rw [getD_set L _ _ _ o1, if_neg (fun q => o3 q.symm)]
  exact ⟨(p.row.tr t p.z).sme _ _ _, z, ((m.store z 3 _).store z 4 _).store z 5 _, by rw [List.length_set]; exact p.hk, by rw [e]; exact p.ho, by unfold wds; rw [e]; exact p.ht, (fun q => nomatch q), fun _ => rfl⟩
set_option maxRecDepth 100000 in
set_option maxHeartbeats 1000000 in
theorem send_ok (w : World) (p : SE w R sb mb mm L cs ct os ot true a b h g) : Calls Try.prog 15 #[at0 sb] w fun e w' => ∃ R', e = .returned (.int .i64 0) ∧ SE w' R' sb mb mm (L.set os (false, [])) cs ct 0 0 false a b (freeh h ((wds L os).length : Nat)) g ∧ TR (rp R sb) (rp R' sb) w w' := by
  obtain ⟨o1, o2, o3, o4⟩ := p.old rfl
  have CL := Lib.hid (fun w' (k : Below w.heap.size w w') => mclose_ok mb mm R L a b h g w' (p.m.below k) os o1 o2)
  have KF := Lib.hid (fun w1 R' m t => p.endt (w1 := w1) (R' := R') (h' := freeh h ((wds L os).length : Nat)) (g' := g) m t)
  have KC := Lib.hid (fun w1 R' (t : TR R R' w w1) => smc_all (p.row.tr t p.z))
  have KP := Lib.hid (show ∀ w' R', TR R R' w w' → w'.cell? ⟨sb, 0, none⟩ = some (at0 mb) ∧ w'.cell? ⟨sb, 3, none⟩ = some (.int .i64 (os : Int)) from fun w' R' k => by
    obtain ⟨x0, x1, x2, x3, _⟩ := smc_all (p.row.tr k p.z)
    exact ⟨x0, x3⟩)
  have TT0 : TR R R w w := TR.refl R w
  have BB0 : Below w.heap.size w w := Below.refl _ _
  obtain ⟨x0, x1, x2, x3, x4, x5⟩ := p.cells
  clear p o1 o2 o3 o4
  generalize L.set os (false, []) = L' at *
  generalize (wds L os).length = n at *
  go_enter Try.func15, Try.ntmps15
  go_upto_region 3 with fail
  go_region_held3 (fun w' => w'.cell? ⟨sb, 0, none⟩ = some (at0 mb) ∧ w'.cell? ⟨sb, 3, none⟩ = some (.int .i64 (os : Int)))
      (first | (apply KP.out; repeat (first | with_reducible assumption | with_reducible apply TR.drew)))
      (first
        | (go_at_call 25; with_reducible refine (CL.out _ ?_).mono ?_
           · repeat (first | with_reducible assumption | with_reducible refine Below.drew ?_)
           rintro e w2 ⟨R', rfl, M2, T2⟩
           have TT2 : TR R R' w w2 := TR.trans (TR.of (by repeat (first | with_reducible assumption | with_reducible refine Below.drew ?_))) T2))
  all_goals
    have P2 := Lib.hid (KF.out _ _ M2 TT2)
    have T3 := Lib.hid (((((TT2.wip sb).wips 3 (.int .i64 0)).wips 4 (.int .i64 0)).wips 5 (.bool false)))
    clear x0 x1 x2 x3 x4 x5
    obtain ⟨x0, x1, x2, x3, x4, x5, xf, xl⟩ := KC.out _ _ TT2
    go_wp2_with fail
    exact bodyPost_ret (v := .int .i64 0) (by simp [results, Try.results15, go_sem]) rfl ⟨_, rfl, P2.out, T3.out⟩

/-! ### Move -/
theorem smove_none (x n : Int) (w : World) (p : SE w R sb mb mm L cs ct os ot false a b h g) : Calls Try.prog 14 #[at0 sb, .int .i64 x, .int .i64 n] w fun e w' => e = .returned (.tuple #[.int .i64 0, .int .i64 4]) ∧ w = w' := by
  obtain ⟨x0, x1, x2, x3, x4, x5⟩ := p.cells
  clear p
  go_enter Try.func14, Try.ntmps14
  go_wp2_with fail
  exact bodyPost_ret (v := .tuple #[.int .i64 0, .int .i64 4]) (by simp [results, Try.results14, go_sem]) rfl ⟨rfl, rfl⟩
set_option maxRecDepth 100000 in
theorem smove_out (x n : Int) (hx : x ≤ 9223372036854775807) (hh : hasv ot x n = false) (w : World) (p : SE w R sb mb mm L cs ct os ot true a b h g) : Calls Try.prog 14 #[at0 sb, .int .i64 x, .int .i64 n] w fun e w' => e = .returned (.tuple #[.int .i64 0, .int .i64 11]) ∧ Below w.heap.size w w' := by
  obtain ⟨o1, o2, o3, o4⟩ := p.old rfl
  have HS0 := fun w => shas_any os ot x n (by have := p.m.lens os o1; omega) hx w
  rw [hh] at HS0
  have HS := Lib.hid HS0
  obtain ⟨x0, x1, x2, x3, x4, x5⟩ := p.cells
  clear p HS0 o1 o2 o3 o4 hh hx
  go_enter Try.func14, Try.ntmps14
  go_wp2_with fail
  with_reducible refine (HS.out _).mono ?_
  rintro e w1 ⟨rfl, b1⟩
  dsimp only
  clear x0 x1 x2 x3 x4 x5
  go_wp2_with fail
  exact bodyPost_ret (v := .tuple #[.int .i64 0, .int .i64 11]) (by simp [results, Try.results14, go_sem]) rfl ⟨rfl, b1⟩
set_option maxRecDepth 100000 in
/-- Take refuses: no word, or no room -/
theorem smove_full (x n : Int) (hx : x ≤ 9223372036854775807) (hh : hasv ot x n = true) (c : Int) (hc : n < 1 ∧ c = 1 ∨ 1 ≤ n ∧ (((wds L cs).length - ct : Nat) : Int) < n ∧ c = 3) (w : World) (p : SE w R sb mb mm L cs ct os ot true a b h g) : Calls Try.prog 14 #[at0 sb, .int .i64 x, .int .i64 n] w fun e w' => e = .returned (.tuple #[.int .i64 0, .int .i64 c]) ∧ Below w.heap.size w w' := by
  obtain ⟨o1, o2, o3, o4⟩ := p.old rfl
  have HS0 := fun w => shas_any os ot x n (by have := p.m.lens os o1; omega) hx w
  rw [hh] at HS0
  have HS := Lib.hid HS0
  have TK := Lib.hid (show ∀ w', Below w.heap.size w w' → Calls Try.prog 8 #[at0 sb, .int .i64 n] w' fun e w'' => e = .returned (.tuple #[.int .i64 0, .int .i64 c]) ∧ Below w'.heap.size w' w'' from fun w' k => by
    rcases hc with ⟨h1, rfl⟩ | ⟨h1, h2, rfl⟩
    · exact (stake_no n h1 w' (p.below k)).mono fun e v ⟨e1, e2⟩ => ⟨e1, e2 ▸ Below.refl _ _⟩
    · exact stake_full n h1 h2 w' (p.below k))
  have c0 : c ≠ 0 := by omega
  obtain ⟨x0, x1, x2, x3, x4, x5⟩ := p.cells
  clear p HS0 o1 o2 o3 o4 hh hx hc
  go_enter Try.func14, Try.ntmps14
  go_wp2_with fail
  with_reducible refine (HS.out _).mono ?_
  rintro e w1 ⟨rfl, b1⟩
  dsimp only
  clear x0 x1 x2 x3 x4 x5
  go_wp2_with fail
  with_reducible refine (TK.out _ b1).mono ?_
  rintro e w2 ⟨rfl, b2⟩
  dsimp only
  have B2 := b1.trans (b2.mono b1.size)
  go_wp2_with fail
  exact bodyPost_ret (v := .tuple #[.int .i64 0, .int .i64 c]) (by simp [results, Try.results14, go_sem]) rfl ⟨rfl, B2⟩
set_option maxRecDepth 100000 in
set_option maxHeartbeats 1000000 in
theorem smove_ok (x n : Nat) (h1 : 1 ≤ n) (hx : x + n ≤ ot) (hn : ct + n ≤ (wds L cs).length) (w : World) (p : SE w R sb mb mm L cs ct os ot true a b h g) : Calls Try.prog 14 #[at0 sb, .int .i64 (x : Int), .int .i64 (n : Int)] w fun e w' => e = .returned (.tuple #[.int .i64 (ct : Int), .int .i64 0]) ∧ SE w' R sb mb mm (setw L cs (wset (wds L cs) ct (fun j => (wds L os).getD (x + j) 0) n)) cs (ct + n) os ot true (addv a n) (addv b n) h g ∧ TR (rp R sb) (rp R sb) w w' := by
  obtain ⟨o1, o2, o3, o4⟩ := p.old rfl
  have lo := p.m.lens os o1
  have HS0 := fun w => shas_any os ot (x : Int) (n : Int) (by omega) (by omega) w
  rw [hasv_yes (t := ot) (a := (x : Int)) (n := (n : Int)) (by omega)] at HS0
  have HS := Lib.hid HS0
  have TK := Lib.hid (fun w' (k : Below w.heap.size w w') => stake_ok n h1 hn w' (p.below k))
  have CP := Lib.hid (fun w' q => copy_at mb mm R L a b h g w' q os x cs ct n o1 o2 p.hk p.ho (by omega) hn h1)
  have LE := Lib.hid (show (wset (wds L cs) ct (fun j => (wds L os).getD (x + j) 0) n).length = (wds L cs).length from wset_len _ _ _ _)
  have HK := Lib.hid p.hk
  obtain ⟨x0, x1, x2, x3, x4, x5⟩ := p.cells
  clear p HS0 o1 o2 o3 o4 lo h1 hx hn
  generalize wset (wds L cs) ct (fun j => (wds L os).getD (x + j) 0) n = ws at *
  go_enter Try.func14, Try.ntmps14
  go_wp2_with fail
  with_reducible refine (HS.out _).mono ?_
  rintro e w1 ⟨rfl, b1⟩
  dsimp only
  clear x0 x1 x2 x3 x4 x5
  have T1 := Lib.hid (show TR (rp R sb) (rp R sb) w w1 from TR.of b1)
  go_wp2_with fail
  with_reducible refine (TK.out _ b1).mono ?_
  rintro e w2 ⟨rfl, P2, T2⟩
  dsimp only
  have T2 := Lib.hid (T1.out.trans T2)
  have HM := Lib.hid P2.m
  have HP2 := Lib.hid P2
  have KP := Lib.hid (show ∀ w', TR R R w2 w' → w'.cell? ⟨sb, 0, none⟩ = some (at0 mb) ∧ w'.cell? ⟨sb, 1, none⟩ = some (.int .i64 (cs : Int)) ∧ w'.cell? ⟨sb, 3, none⟩ = some (.int .i64 (os : Int)) from fun w' t' => by
    obtain ⟨y0, y1, y2, y3, _⟩ := smc_all (P2.row.tr t' P2.z)
    exact ⟨y0, y1, y3⟩)
  have TT0 : TR R R w2 w2 := TR.refl R w2
  have BB0 : Below w2.heap.size w2 w2 := Below.refl _ _
  obtain ⟨k0, k1, k2⟩ := KP.out w2 TT0
  clear P2 b1
  go_upto_region 8 with fail
  go_region_held3 (fun w' => w'.cell? ⟨sb, 0, none⟩ = some (at0 mb) ∧ w'.cell? ⟨sb, 1, none⟩ = some (.int .i64 (cs : Int)) ∧ w'.cell? ⟨sb, 3, none⟩ = some (.int .i64 (os : Int)))
      (first | (refine KP.out _ ?_; repeat (first | with_reducible assumption | with_reducible refine TR.drew ?_)))
      (first
        | (go_at_call 24; with_reducible refine (CP.out _ ?_).mono ?_
           · refine HM.out.below ?_
             repeat (first | with_reducible assumption | with_reducible refine Below.drew ?_)
           rintro e w3 ⟨rfl, M3, T3⟩
           have TT3 : TR R R w2 w3 := TR.trans (by repeat (first | with_reducible assumption | with_reducible refine TR.drew ?_)) T3))
  all_goals
    go_wp2_with fail
    exact bodyPost_ret (v := .tuple #[.int .i64 (ct : Int), .int .i64 0]) (by simp [results, Try.results14, go_sem]) rfl ⟨rfl, HP2.out.write HK.out M3 TT3 LE.out, T2.out.wipt TT3⟩
end
end Go.Proofs.Ytnpoiebhajjkbaa
