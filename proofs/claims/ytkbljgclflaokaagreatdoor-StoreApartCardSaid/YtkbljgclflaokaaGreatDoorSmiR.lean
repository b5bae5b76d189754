/-
  Contracts of package semi: Read, Write; New.
-/
import Derived.Test.YtkbljgclflaokaaGreatDoorSmi
namespace Go.Proofs.YtkbljgclflaokaaGreatDoor
open Go.RowKit
set_option linter.unusedVariables false

theorem hasv_yes {t : Nat} {a n : Int} (h : 0 ≤ a ∧ 0 ≤ n ∧ n ≤ (t : Int) - a) : hasv t a n = true := by unfold hasv; exact decide_eq_true h
theorem hasv_no {t : Nat} {a n : Int} (h : ¬ (0 ≤ a ∧ 0 ≤ n ∧ n ≤ (t : Int) - a)) : hasv t a n = false := by unfold hasv; exact decide_eq_false h
section
variable {R : Nat → Nat} {sb mb mm : Nat} {L : List Spc} {cs ct os ot a b : Nat} {tn : Bool} {h g : Int}
/-- the box of a half that came as an argument -/
theorem hbox (w : World) (s t : Nat) : Row (w.alloc (.cells #[.int .i64 (s : Int), .int .i64 (t : Int)] 101)) w.heap.size 2 (fun j => if j = 0 then .int .i64 (s : Int) else .int .i64 (t : Int)) := Row.newAt w _ _ _ 2 _ rfl (fun j hj => by
  have e : j = 0 ∨ j = 1 := by omega
  rcases e with rfl | rfl <;> rfl)
set_option maxRecDepth 100000 in
theorem sread_no (s t : Nat) (at' : Int) (ht : t ≤ 100000000) (ha : at' ≤ 9223372036854775807) (hh : hasv t at' 1 = false) (sb : Nat) (w : World) : Calls Tryz.prog 56 #[at0 sb, hv s t, .int .i64 at'] w fun e w' => e = .returned (.tuple #[.int .u64 0, .int .i64 11]) ∧ Below w.heap.size w w' := by
  have HS0 := fun w => shas_any s t at' 1 ht ha w
  rw [hh] at HS0
  have HS := Lib.hid HS0
  have BX := hbox w s t
  have BW : Below w.heap.size w (w.alloc (.cells #[.int .i64 (s : Int), .int .i64 (t : Int)] 101)) := (Below.refl _ _).alloc (Nat.le_refl _) _
  have y0 := BX.cell 0 (by omega)
  have y1 := BX.cell 1 (by omega)
  have BWH := Lib.hid BW
  clear hh ht ha HS0 BX BW
  go_enter Tryz.func56, Tryz.ntmps56
  go_wp2_with fail
  with_reducible refine (HS.out _).mono ?_
  rintro e w1 ⟨rfl, b1⟩
  dsimp only
  have B1 := BWH.out.trans (b1.mono BWH.out.size)
  clear y0 y1 b1
  go_wp2_with fail
  exact bodyPost_ret (v := .tuple #[.int .u64 0, .int .i64 11]) (by simp [results, Tryz.results56, go_sem]) rfl ⟨rfl, B1⟩
set_option maxRecDepth 100000 in
set_option maxHeartbeats 1000000 in
/-- read of an allocated word of space k -/
theorem sread_ok (k t i : Nat) (hk : k < L.length) (ho : (L.getD k (false, [])).1 = true) (ht : t ≤ (wds L k).length) (hi : i < t) (w : World) (p : SE w R sb mb mm L cs ct os ot tn a b h g) : Calls Tryz.prog 56 #[at0 sb, hv k t, .int .i64 (i : Int)] w fun e w' => e = .returned (.tuple #[.int .u64 (((wds L k).getD i 0 : Nat) : Int), .int .i64 0]) ∧ SE w' R sb mb mm L cs ct os ot tn (addv a 1) b h g ∧ TR R R w w' := by
  have lk := p.m.lens k hk
  have HS0 := fun w => shas_any k t (i : Int) 1 (by omega) (by omega) w
  rw [hasv_yes (t := t) (a := (i : Int)) (n := 1) (by omega)] at HS0
  have HS := Lib.hid HS0
  have RD := Lib.hid (fun w q => read_at mb mm R L a b h g w q k i hk ho (by omega))
  have BX := hbox w k t
  have BW : Below w.heap.size w (w.alloc (.cells #[.int .i64 (k : Int), .int .i64 (t : Int)] 101)) := (Below.refl _ _).alloc (Nat.le_refl _) _
  have zB : R w.heap.size = 0 := Decidable.byContradiction fun q => by have := p.m.hi _ q; omega
  have y0 := BX.cell 0 (by omega)
  have y1 := BX.cell 1 (by omega)
  have BXH := Lib.hid BX
  have BWH := Lib.hid BW
  have HP := Lib.hid p
  have ZB := Lib.hid zB
  clear p lk HS0 BX BW hk ho ht hi zB
  generalize (wds L k).getD i 0 = x at *
  go_enter Tryz.func56, Tryz.ntmps56
  go_wp2_with fail
  with_reducible refine (HS.out _).mono ?_
  rintro e w1 ⟨rfl, b1⟩
  dsimp only
  have B1 := BWH.out.trans (b1.mono BWH.out.size)
  have P1 := HP.out.below B1
  have X1 := BXH.out.below b1
  have HM := Lib.hid P1.m
  have T1 := Lib.hid (show TR R R w w1 from TR.of B1)
  have KP := Lib.hid (show ∀ w', TR R R w1 w' → w'.cell? ⟨sb, 0, none⟩ = some (at0 mb) ∧ w'.cell? ⟨w.heap.size, 0, none⟩ = some (.int .i64 (k : Int)) from fun w' t' => ⟨(smc_all (P1.row.tr t' P1.z)).1, (X1.tr t' ZB.out).cell 0 (by omega)⟩)
  have HP1 := Lib.hid P1
  have TT0 : TR R R w1 w1 := TR.refl R w1
  have BB0 : Below w1.heap.size w1 w1 := Below.refl _ _
  obtain ⟨k0, k1⟩ := KP.out w1 TT0
  clear y0 y1 b1 B1 P1 X1
  go_upto_region 3 with fail
  go_region_held3 (fun w' => w'.cell? ⟨sb, 0, none⟩ = some (at0 mb) ∧ w'.cell? ⟨w.heap.size, 0, none⟩ = some (.int .i64 (k : Int)))
      (first | (refine KP.out _ ?_; repeat (first | with_reducible assumption | with_reducible refine TR.drew ?_)))
      (first
        | (go_at_call 59; with_reducible refine (RD.out _ ?_).mono ?_
           · refine HM.out.below ?_
             repeat (first | with_reducible assumption | with_reducible refine Below.drew ?_)
           rintro e w2 ⟨rfl, M2, T2⟩
           have TT2 : TR R R w1 w2 := TR.trans (by repeat (first | with_reducible assumption | with_reducible refine TR.drew ?_)) T2))
  all_goals
    go_wp2_with fail
    exact bodyPost_ret (v := .tuple #[.int .u64 (x : Int), .int .i64 0]) (by simp [results, Tryz.results56, go_sem]) rfl ⟨rfl, HP1.out.step M2 TT2, T1.out.trans TT2⟩
set_option maxRecDepth 100000 in
theorem swrite_no (s t : Nat) (at' : Int) (x : Nat) (ht : t ≤ 100000000) (ha : at' ≤ 9223372036854775807) (hh : hasv t at' 1 = false) (sb : Nat) (w : World) : Calls Tryz.prog 60 #[at0 sb, hv s t, .int .i64 at', .int .u64 (x : Int)] w fun e w' => e = .returned (.int .i64 11) ∧ Below w.heap.size w w' := by
  have HS0 := fun w => shas_any s t at' 1 ht ha w
  rw [hh] at HS0
  have HS := Lib.hid HS0
  have BX := hbox w s t
  have BW : Below w.heap.size w (w.alloc (.cells #[.int .i64 (s : Int), .int .i64 (t : Int)] 101)) := (Below.refl _ _).alloc (Nat.le_refl _) _
  have y0 := BX.cell 0 (by omega)
  have y1 := BX.cell 1 (by omega)
  have BWH := Lib.hid BW
  clear hh ht ha HS0 BX BW
  go_enter Tryz.func60, Tryz.ntmps60
  go_wp2_with fail
  with_reducible refine (HS.out _).mono ?_
  rintro e w1 ⟨rfl, b1⟩
  dsimp only
  have B1 := BWH.out.trans (b1.mono BWH.out.size)
  clear y0 y1 b1
  go_wp2_with fail
  exact bodyPost_ret (v := .int .i64 11) (by simp [results, Tryz.results60, go_sem]) rfl ⟨rfl, B1⟩
set_option maxRecDepth 100000 in
set_option maxHeartbeats 1000000 in
theorem swrite_ok (k t i x : Nat) (hk : k < L.length) (ho : (L.getD k (false, [])).1 = true) (ht : t ≤ (wds L k).length) (hi : i < t) (w : World) (p : SE w R sb mb mm L cs ct os ot tn a b h g) : Calls Tryz.prog 60 #[at0 sb, hv k t, .int .i64 (i : Int), .int .u64 (x : Int)] w fun e w' => e = .returned (.int .i64 0) ∧ SE w' R sb mb mm (setw L k ((wds L k).set i x)) cs ct os ot tn a (addv b 1) h g ∧ TR R R w w' := by
  have lk := p.m.lens k hk
  have HS0 := fun w => shas_any k t (i : Int) 1 (by omega) (by omega) w
  rw [hasv_yes (t := t) (a := (i : Int)) (n := 1) (by omega)] at HS0
  have HS := Lib.hid HS0
  have RD := Lib.hid (fun w q => write_at mb mm R L a b h g w q k i x hk ho (by omega))
  have BX := hbox w k t
  have BW : Below w.heap.size w (w.alloc (.cells #[.int .i64 (k : Int), .int .i64 (t : Int)] 101)) := (Below.refl _ _).alloc (Nat.le_refl _) _
  have zB : R w.heap.size = 0 := Decidable.byContradiction fun q => by have := p.m.hi _ q; omega
  have LE := Lib.hid (show ((wds L k).set i x).length = (wds L k).length from List.length_set)
  have y0 := BX.cell 0 (by omega)
  have y1 := BX.cell 1 (by omega)
  have BXH := Lib.hid BX
  have BWH := Lib.hid BW
  have HP := Lib.hid p
  have ZB := Lib.hid zB
  have HK := Lib.hid hk
  clear p lk HS0 BX BW hk ho ht hi zB
  generalize (wds L k).set i x = ws at *
  go_enter Tryz.func60, Tryz.ntmps60
  go_wp2_with fail
  with_reducible refine (HS.out _).mono ?_
  rintro e w1 ⟨rfl, b1⟩
  dsimp only
  have B1 := BWH.out.trans (b1.mono BWH.out.size)
  have P1 := HP.out.below B1
  have X1 := BXH.out.below b1
  have HM := Lib.hid P1.m
  have T1 := Lib.hid (show TR R R w w1 from TR.of B1)
  have KP := Lib.hid (show ∀ w', TR R R w1 w' → w'.cell? ⟨sb, 0, none⟩ = some (at0 mb) ∧ w'.cell? ⟨w.heap.size, 0, none⟩ = some (.int .i64 (k : Int)) from fun w' t' => ⟨(smc_all (P1.row.tr t' P1.z)).1, (X1.tr t' ZB.out).cell 0 (by omega)⟩)
  have HP1 := Lib.hid P1
  have TT0 : TR R R w1 w1 := TR.refl R w1
  have BB0 : Below w1.heap.size w1 w1 := Below.refl _ _
  obtain ⟨k0, k1⟩ := KP.out w1 TT0
  clear y0 y1 b1 B1 P1 X1
  go_upto_region 3 with fail
  go_region_held3 (fun w' => w'.cell? ⟨sb, 0, none⟩ = some (at0 mb) ∧ w'.cell? ⟨w.heap.size, 0, none⟩ = some (.int .i64 (k : Int)))
      (first | (refine KP.out _ ?_; repeat (first | with_reducible assumption | with_reducible refine TR.drew ?_)))
      (first
        | (go_at_call 61; with_reducible refine (RD.out _ ?_).mono ?_
           · refine HM.out.below ?_
             repeat (first | with_reducible assumption | with_reducible refine Below.drew ?_)
           rintro e w2 ⟨rfl, M2, T2⟩
           have TT2 : TR R R w1 w2 := TR.trans (by repeat (first | with_reducible assumption | with_reducible refine TR.drew ?_)) T2))
  all_goals
    go_wp2_with fail
    exact bodyPost_ret (v := .int .i64 0) (by simp [results, Tryz.results60, go_sem]) rfl ⟨rfl, HP1.out.write HK.out M2 TT2 LE.out, T1.out.trans TT2⟩

/-! ### Read, Write of the present space -/
theorem sRead_ok (i : Nat) (hi : i < ct) (w : World) (p : SE w R sb mb mm L cs ct os ot tn a b h g) : Calls Tryz.prog 29 #[at0 sb, .int .i64 (i : Int)] w fun e w' => e = .returned (.tuple #[.int .u64 (((wds L cs).getD i 0 : Nat) : Int), .int .i64 0]) ∧ SE w' R sb mb mm L cs ct os ot tn (addv a 1) b h g ∧ TR R R w w' := by
  have RD := Lib.hid (sread_ok cs ct i p.hk p.ho p.ht hi w p)
  obtain ⟨x0, x1, x2, x3, x4, x5⟩ := p.cells
  clear p hi
  generalize (wds L cs).getD i 0 = x at *
  go_enter Tryz.func29, Tryz.ntmps29
  go_wp2_with fail
  with_reducible refine RD.out.mono ?_
  rintro e w1 ⟨rfl, P1, T1⟩
  dsimp only
  go_wp2_with fail
  exact bodyPost_ret (v := .tuple #[.int .u64 (x : Int), .int .i64 0]) (by simp [results, Tryz.results29, go_sem]) rfl ⟨rfl, P1, T1⟩
theorem sWrite_ok (i x : Nat) (hi : i < ct) (w : World) (p : SE w R sb mb mm L cs ct os ot tn a b h g) : Calls Tryz.prog 34 #[at0 sb, .int .i64 (i : Int), .int .u64 (x : Int)] w fun e w' => e = .returned (.int .i64 0) ∧ SE w' R sb mb mm (setw L cs ((wds L cs).set i x)) cs ct os ot tn a (addv b 1) h g ∧ TR R R w w' := by
  have RD := Lib.hid (swrite_ok cs ct i x p.hk p.ho p.ht hi w p)
  obtain ⟨x0, x1, x2, x3, x4, x5⟩ := p.cells
  clear p hi
  generalize (wds L cs).set i x = ws at *
  go_enter Tryz.func34, Tryz.ntmps34
  go_wp2_with fail
  with_reducible refine RD.out.mono ?_
  rintro e w1 ⟨rfl, P1, T1⟩
  dsimp only
  go_wp2_with fail
  exact bodyPost_ret (v := .int .i64 0) (by simp [results, Tryz.results34, go_sem]) rfl ⟨rfl, P1, T1⟩
end

/-! ### New -/
theorem snew_nil (n : Int) (w : World) : Calls Tryz.prog 22 #[.pointer none, .int .i64 n] w fun e w' => e = .returned (.tuple #[.pointer none, .int .i64 1]) ∧ w = w' := by
  have q0 : ∀ w : World, (binOp .eql 43 (.pointer none) (.pointer none)).run Tryz.prog w = .ok (.bool true) w := fun w => by kernel_rfl
  go_enter Tryz.func22, Tryz.ntmps22
  go_wp2_with fail
  exact bodyPost_ret (v := .tuple #[.pointer none, .int .i64 1]) (by simp [results, Tryz.results22, go_sem]) rfl ⟨rfl, rfl⟩
set_option maxRecDepth 100000 in
theorem snew_no (mb : Nat) (n : Int) (hn : ¬ (0 ≤ n ∧ n ≤ 4194304)) (w : World) : ∃ c : Int, c ≠ 0 ∧ Calls Tryz.prog 22 #[at0 mb, .int .i64 n] w fun e w' => e = .returned (.tuple #[.pointer none, .int .i64 c]) ∧ w = w' := by
  have q0 := fun w a => ptr_nil a w
  obtain ⟨c, hc, OP⟩ : ∃ c : Int, c ≠ 0 ∧ Calls Tryz.prog 45 #[at0 mb, .int .i64 n] w fun e w' => e = .returned (.tuple #[.int .i64 0, .int .i64 c]) ∧ w' = w := by
    by_cases h : n < 0
    · exact ⟨1, by omega, mopen_neg mb n h w⟩
    · exact ⟨7, by omega, mopen_long mb n (by omega) w⟩
  refine ⟨c, hc, ?_⟩
  have OPH := Lib.hid OP
  clear OP hn
  go_enter Tryz.func22, Tryz.ntmps22
  go_wp2_with fail
  with_reducible refine OPH.out.mono ?_
  rintro e w1 ⟨rfl, rfl⟩
  dsimp only
  go_wp2_with fail
  exact bodyPost_ret (v := .tuple #[.pointer none, .int .i64 c]) (by simp [results, Tryz.results22, go_sem]) rfl ⟨rfl, rfl⟩
set_option maxRecDepth 100000 in
theorem snew_ok (mb mm : Nat) (R : Nat → Nat) (L : List Spc) (a b : Nat) (h g : Int) (n : Nat) (hn : n ≤ 4194304) (hl : countv L < 262144) (hf : firstc L ≤ L.length) (w : World) (m : MM w R mb mm L a b h g) : Calls Tryz.prog 22 #[at0 mb, .int .i64 (n : Int)] w fun e w' => ∃ R' sb, e = .returned (.tuple #[at0 sb, .int .i64 0]) ∧ SE w' R' sb mb mm (opened L n) (firstc L) 0 0 0 false a b (holdh h (n : Int)) (holdg h g (n : Int)) ∧ w.heap.size ≤ sb ∧ TR R R' w w' := by
  have OPH := Lib.hid (mopen_ok mb mm R L a b h g w m n hn hl)
  have q0 := fun w a => ptr_nil a w
  have F1 : firstc L < (opened L n).length := by unfold opened; split <;> simp <;> omega
  have F2 : ((opened L n).getD (firstc L) (false, [])).1 = true := by
    unfold opened
    split
    · rw [getD_set L _ _ _ (by omega), if_pos rfl]
    · have e : firstc L = L.length := by omega
      rw [e, getD_snoc L _ _ (by omega), if_neg (by omega)]
  have F1 := Lib.hid F1
  have F2 := Lib.hid F2
  clear m hn hl hf
  generalize opened L n = L' at *
  generalize firstc L = k at *
  go_enter Tryz.func22, Tryz.ntmps22
  go_wp2_with fail
  with_reducible refine OPH.out.mono ?_
  rintro e w1 ⟨R', rfl, M1, T1⟩
  dsimp only
  have z1 : R' w1.heap.size = 0 := Decidable.byContradiction fun q => by have := M1.hi _ q; omega
  have RW := Row.newAt w1 (#[at0 mb, .int .i64 (k : Int), .int .i64 0, .int .i64 0, .int .i64 0, .bool false] : Array Value) 103 w1.heap.size 6 _ rfl (smc_new (at0 mb) (k : Int) 0 0 0 false)
  have P2 := Lib.hid (show SE (w1.alloc (.cells #[at0 mb, .int .i64 (k : Int), .int .i64 0, .int .i64 0, .int .i64 0, .bool false] 103)) R' w1.heap.size mb mm L' k 0 0 0 false a b (holdh h (n : Int)) (holdg h g (n : Int)) from
    ⟨RW, z1, M1.alloc _, F1.out, F2.out, Nat.zero_le _, (fun q => nomatch q), fun _ => rfl⟩)
  have T2 := Lib.hid (T1.alloc (.cells #[at0 mb, .int .i64 (k : Int), .int .i64 0, .int .i64 0, .int .i64 0, .bool false] 103))
  have LE := Lib.hid T1.keeps.size
  clear RW M1 T1 z1
  go_wp2_with fail
  exact bodyPost_ret (v := .tuple #[at0 w1.heap.size, .int .i64 0]) (by simp [results, Tryz.results22, go_sem]) rfl ⟨R', w1.heap.size, rfl, P2.out, LE.out, T2.out⟩
end Go.Proofs.YtkbljgclflaokaaGreatDoor
