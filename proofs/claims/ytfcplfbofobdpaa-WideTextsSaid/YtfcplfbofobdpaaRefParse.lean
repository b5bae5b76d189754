/-
  Contracts of package haymowref01: Parse.
-/
import Derived.Test.YtfcplfbofobdpaaParse
import Derived.Test.YtfcplfbofobdpaaRefMul
import Derived.Test.YtfcplfbofobdpaaRef01b
namespace Go.Proofs.Ytfcplfbofobdpaa
open Go.RowKit
set_option linter.unusedVariables false

theorem refmul10_any (a : Nat) (ha : N128 a) (w : World) : Calls Try.prog 19 #[wv a, .int .u64 10] w fun e w' => e = .returned (.tuple #[wv (mulv a 10), .bool (mulok a 10)]) ∧ Below w.heap.size w w' :=
  refmul_any a 10 ha (by unfold Word; omega) w

set_option maxHeartbeats 600000 in
set_option maxRecDepth 100000 in
theorem refparse_nohead (s : ByteArray) (hs : s.size ≤ 200) (h : ¬ headOk s) (w : World) : Calls Try.prog 25 #[.string s] w fun e w' => e = .returned (.tuple #[.agg #[.int .u64 0, .int .u64 0], .int .i64 5]) ∧ Below w.heap.size w w' := by
  by_cases c : s.size = 0
  · have e1 : ((s.size : Int) == 0) = true := by simp [c]
    clear h
    go_enter Try.func25, Try.ntmps25
    go_wp2_with fail
    exact bodyPost_ret (v := .tuple #[.agg #[.int .u64 0, .int .u64 0], .int .i64 5]) (by simp [results, Try.results25, go_sem]) rfl ⟨rfl, (by repeat (first | exact Below.refl _ _ | (with_reducible assumption) | refine bAlloc ?_ _ | refine below_drewN ?_ _ | refine Below.drew ?_ | (refine bSet ?_ (by first | (dsimp only; omega) | (simp; done) | (simp; omega)) _) | refine bTrans ?_ (by assumption)))⟩
  · have e0 : 0 < s.size := by omega
    have e1 : ((s.size : Int) == 0) = false := by simp [c]
    have e3 : (s[0].toNat : Int) = 48 := by
      by_cases d : (s[0].toNat : Int) = 48
      · exact d
      · exact absurd ⟨e0, .inr d⟩ h
    have e4 : 1 < s.size := by
      by_cases d : s.size = 1
      · exact absurd ⟨e0, .inl d⟩ h
      · omega
    clear h c
    go_enter Try.func25, Try.ntmps25
    go_wp2_with fail
    exact bodyPost_ret (v := .tuple #[.agg #[.int .u64 0, .int .u64 0], .int .i64 5]) (by simp [results, Try.results25, go_sem]) rfl ⟨rfl, (by repeat (first | exact Below.refl _ _ | (with_reducible assumption) | refine bAlloc ?_ _ | refine below_drewN ?_ _ | refine Below.drew ?_ | (refine bSet ?_ (by first | (dsimp only; omega) | (simp; done) | (simp; omega)) _) | refine bTrans ?_ (by assumption)))⟩

set_option maxHeartbeats 600000 in
set_option maxRecDepth 100000 in
theorem refparse_no (s : ByteArray) (hs : s.size ≤ 200) (hh : headOk s) (h : ¬ decP s) (w : World) : Calls Try.prog 25 #[.string s] w fun e w' => e = .returned (.tuple #[.agg #[.int .u64 0, .int .u64 0], .int .i64 5]) ∧ Below w.heap.size w w' := by
  obtain ⟨i0, b1, b2, b3⟩ := bad_cases hh h
  obtain ⟨e0, hd⟩ := hh
  have HA := Lib.hid b3
  have HB := Lib.hid b2
  have e1 : ((s.size : Int) == 0) = false := beq_eq_false_iff_ne.2 (by omega)
  clear b3 b2 h
  have hc : ¬ (1 : Int) < (s.size : Int) ∨ ((1 : Int) < (s.size : Int) ∧ ¬ (s[0].toNat : Int) = 48) := by
    rcases hd with hd | hd
    · exact .inl (by omega)
    · by_cases c : (1 : Int) < (s.size : Int)
      · exact .inr ⟨c, hd⟩
      · exact .inl c
  clear hd
  rcases hc with e4 | ⟨e4, e5⟩
  all_goals
    go_enter Try.func25, Try.ntmps25
    go_wp2_with fail
    go_loop [4] (fun i => ∃ k : Nat, k ≤ i0 ∧ i = .int .i64 k) (fun i => s.size - (intOf i).toNat)
    case atStart => exact ⟨0, by omega, rfl⟩
    case round =>
      obtain ⟨k, hk, rfl⟩ := hrel
      have hlt : k < s.size := by omega
      by_cases hki : k < i0
      · obtain ⟨d0, d1⟩ := HA.out k hki hlt
        try (exfalso; omega)
        all_goals go_wp2
        all_goals go_round
        all_goals first | exact ⟨k + 1, by omega, by go_num⟩ | (simp [intOf]; omega)
      · obtain rfl : k = i0 := by omega
        have nb : (s[k].toNat : Int) < 48 ∨ 57 < (s[k].toNat : Int) := by
          have h := HB.out
          unfold isDig at h
          rcases Int.lt_or_le (s[k].toNat : Int) 48 with a | a
          · exact .inl a
          · rcases Int.lt_or_le 57 (s[k].toNat : Int) with b | b
            · exact .inr b
            · exact absurd (fun _ => ⟨a, b⟩) h
        rcases nb with nb | nb
        · go_wp2
          exact bodyPost_ret (v := .tuple #[.agg #[.int .u64 0, .int .u64 0], .int .i64 5]) (by simp [results, Try.results25, go_sem]) rfl ⟨rfl, (by repeat (first | exact Below.refl _ _ | (with_reducible assumption) | refine bAlloc ?_ _ | refine below_drewN ?_ _ | refine Below.drew ?_ | (refine bSet ?_ (by first | (dsimp only; omega) | (simp; done) | (simp; omega)) _) | refine bTrans ?_ (by assumption)))⟩
        · have nb2 : ¬ (s[k].toNat : Int) < 48 := by omega
          go_wp2
          exact bodyPost_ret (v := .tuple #[.agg #[.int .u64 0, .int .u64 0], .int .i64 5]) (by simp [results, Try.results25, go_sem]) rfl ⟨rfl, (by repeat (first | exact Below.refl _ _ | (with_reducible assumption) | refine bAlloc ?_ _ | refine below_drewN ?_ _ | refine Below.drew ?_ | (refine bSet ?_ (by first | (dsimp only; omega) | (simp; done) | (simp; omega)) _) | refine bTrans ?_ (by assumption)))⟩

set_option maxHeartbeats 600000 in
set_option maxRecDepth 100000 in
theorem refparse_run (s : ByteArray) (hs : s.size ≤ 200) (h : decP s) (w : World) : Calls Try.prog 25 #[.string s] w fun e w' => e = .returned (pres (prun 0 s.toList)) ∧ Below w.heap.size w w' := by
  obtain ⟨⟨e0, hd⟩, hall⟩ := h
  have HA := Lib.hid hall
  have e1 : ((s.size : Int) == 0) = false := beq_eq_false_iff_ne.2 (by omega)
  clear hall
  have hc : ¬ (1 : Int) < (s.size : Int) ∨ ((1 : Int) < (s.size : Int) ∧ ¬ (s[0].toNat : Int) = 48) := by
    rcases hd with hd | hd
    · exact .inl (by omega)
    · by_cases c : (1 : Int) < (s.size : Int)
      · exact .inr ⟨c, hd⟩
      · exact .inl c
  clear hd
  rcases hc with e4 | ⟨e4, e5⟩
  all_goals
    go_enter Try.func25, Try.ntmps25
    go_wp2_with fail
    go_loop [4] (fun i => ∃ k : Nat, k ≤ s.size ∧ i = .int .i64 k) (fun i => s.size - (intOf i).toNat)
    case atStart => exact ⟨0, by omega, rfl⟩
    case round =>
      obtain ⟨k, hk, rfl⟩ := hrel
      by_cases hlt : k < s.size
      · obtain ⟨d0, d1⟩ := HA.out k hlt
        go_wp2
        go_round
        case rel => exact ⟨k + 1, by omega, by go_num⟩
        case measure => simp [intOf]; try omega
      · obtain rfl : k = s.size := by omega
        clear hk
        go_wp2
        go_loopw [6, 7, 8, 9, 10] (fun i _ _ _ _ wr => ∃ k v : Nat, k ≤ s.size ∧ i = .int .i64 k ∧ N128 v ∧ prun 0 s.toList = prun v (s.toList.drop k) ∧ Row wr w.heap.size 2 (wrow 0) ∧ Row wr (w.heap.size + 1) 2 (wrow v) ∧ Below w.heap.size w wr) (fun i _ _ _ _ _ => s.size - (intOf i).toNat)
        case atStart =>
          exact ⟨0, 0, by omega, rfl, N128_0, rfl, (Row.newAt _ _ _ _ 2 _ (by simp) zero_new).alloc _, Row.newAt _ _ _ _ 2 _ (by simp) zero_new, (by repeat (first | exact Below.refl _ _ | (with_reducible assumption) | refine bAlloc ?_ _ | refine below_drewN ?_ _ | refine Below.drew ?_ | (refine bSet ?_ (by first | (dsimp only; omega) | (simp; done) | (simp; omega)) _) | refine bTrans ?_ (by assumption)))⟩
        case round =>
          obtain ⟨k, v, hk, rfl, hv, he, R1, R2, bel⟩ := hrel
          obtain ⟨v0, v1, v2⟩ := R2.two
          obtain ⟨z0, z1, z2⟩ := R1.two
          have HE := Lib.hid he
          clear he
          by_cases hlt : k < s.size
          · obtain ⟨d0, d1⟩ := HA.out k hlt
            have hc := drop_cons hlt
            have dn : ((s[k].toNat - 48 : Nat) : Int) = (s[k].toNat : Int) - 48 := by omega
            have MU := Lib.hid (fun w => refmul10_any v hv w)
            have AD := fun w => refadd_any (mulv v 10) (s[k].toNat - 48) (N128_mulv v 10) (by unfold N128; omega) w
            simp only [wv, hi_of_lt (show s[k].toNat - 48 < 18446744073709551616 by omega), lo_of_lt (show s[k].toNat - 48 < 18446744073709551616 by omega), dn] at AD
            have AH := Lib.hid AD
            have wq0 : IntKind.u64.wrap (s[k].toNat : Int) = (s[k].toNat : Int) := by rw [wrap_u64_mod]; omega
            have wq64 : IntKind.u64.wrap ((s[k].toNat : Int) - 48) = (s[k].toNat : Int) - 48 := by rw [wrap_u64_mod]; omega
            have HC := Lib.hid hc
            clear AD hc dn
            have RMf := fun w => Row.new w _ 24 2 _ (wrow_new (mulv v 10))
            go_upto_region 13 with (go_at_call 19; refine (MU.out _).mono ?_; rintro e w2 ⟨rfl, hb2⟩; have RM := RMf w2; have T1 := (R1.below hb2).alloc (.cells #[.int .u64 (hi (mulv v 10)), .int .u64 (lo (mulv v 10))] 24); have T2 := (R2.below hb2).alloc (.cells #[.int .u64 (hi (mulv v 10)), .int .u64 (lo (mulv v 10))] 24))
            have s2 : w.heap.size + 2 ≤ w2.heap.size := by have := (R2.below hb2).lt; omega
            have bw2 : Below w.heap.size w w2 := bTrans bel hb2
            clear RMf R1 R2 bel hb2 v0 v1 v2 z0 z1 z2
            go_cut [9, 10] from 54 to 63 (fun x y wx => Sum8 w v (addv (mulv v 10) (s[k].toNat - 48)) (addok (mulv v 10) (s[k].toNat - 48)) x y wx)
            case first =>
              go_region_held3 (fun w' => w'.cell? ⟨w2.heap.size, 0, none⟩ = some (.int .u64 (hi (mulv v 10))) ∧ w'.cell? ⟨w2.heap.size, 1, none⟩ = some (.int .u64 (lo (mulv v 10)))) (first | (simp [go_sem, World.cell?_alloc_past]; done) | (simp (disch := assumption) only [World.cell?_alloc_past, m70, m71, and_self]; done) | (simp (disch := (dsimp only; omega)) only [cell_far, m70, m71, and_self]; done))
                (first | (go_at_call 10; (with_reducible refine (AH.out _).mono ?_); rintro e w7 ⟨rfl, hb7⟩; have U1 : Row w7 w.heap.size 2 (wrow 0) := Row.below (by repeat (first | exact T1 | refine Row.alloc ?_ _ | refine Row.drewN ?_ _ | refine Row.drew ?_)) hb7; have U2 : Row w7 (w.heap.size + 1) 2 (wrow v) := Row.below (by repeat (first | exact T2 | refine Row.alloc ?_ _ | refine Row.drewN ?_ _ | refine Row.drew ?_)) hb7; have RM7 : Row w7 w2.heap.size 2 (wrow (mulv v 10)) := Row.below (by repeat (first | exact RM | refine Row.alloc ?_ _ | refine Row.drewN ?_ _ | refine Row.drew ?_)) hb7; obtain ⟨m70, m71, m72⟩ := RM7.two; obtain ⟨q1, q2⟩ := bcell hb7))
              all_goals
                go_wp2_with fail
                go_meet
                have z7 := hb7.size
                simp at z7
                have b7 : Below w.heap.size w w7 := bTrans (by repeat (first | exact Below.refl _ _ | (with_reducible assumption) | refine bAlloc ?_ _ | refine below_drewN ?_ _ | refine Below.drew ?_ | (refine bSet ?_ (by first | (dsimp only; omega) | (simp; done) | (simp; omega)) _) | refine bTrans ?_ (by assumption))) hb7
                refine ⟨_, rfl, rfl, ?_, ?_, ?_, ?_, (by repeat (first | exact Below.refl _ _ | (with_reducible assumption) | refine bAlloc ?_ _ | refine below_drewN ?_ _ | refine Below.drew ?_ | (refine bSet ?_ (by first | (dsimp only; omega) | (simp; done) | (simp; omega)) _) | refine bTrans ?_ (by assumption)))⟩
                · first | exact Row.new w7 _ _ 2 _ (wrow_new _) | exact wrow_set (x := 0) (Row.below (by repeat (first | (refine Row.newAt _ _ _ _ 2 _ ?_ zero_new; simp; done) | refine Row.alloc ?_ _ | refine Row.drewN ?_ _ | refine Row.drew ?_)) hb7)
                · omega
                · first | exact U1.alloc _ | exact (U1.far _ (by dsimp only; omega)).far _ (by dsimp only; omega)
                · first | exact U2.alloc _ | exact (U2.far _ (by dsimp only; omega)).far _ (by dsimp only; omega)
            case rest =>
              obtain ⟨g, rfl, rfl, SR, gl, T1, T2, bc⟩ := hcut
              obtain ⟨x0, x1, x2⟩ := SR.two
              obtain ⟨y0, y1, y2⟩ := T2.two
              obtain ⟨z0, z1, z2⟩ := T1.two
              have y3 := T2.free 0; have y4 := T2.free 1; have z3 := T1.free 0; have z4 := T1.free 1
              have nS := N128_addv (mulv v 10) (s[k].toNat - 48)
              have TB := wrow_set (y := addv (mulv v 10) (s[k].toNat - 48)) T2
              have ST := Lib.hid (@prun_stop v s[k] (s.toList.drop (k + 1)))
              have GO := Lib.hid (@prun_go v s[k] (s.toList.drop (k + 1)))
              generalize addv (mulv v 10) (s[k].toNat - 48) = S at *
              generalize addok (mulv v 10) (s[k].toNat - 48) = g2 at *
              generalize mulok v 10 = g1 at *
              cases g1 <;> cases g2
              case true.true =>
                go_wp2
                go_roundw
                case rel =>
                  exact ⟨k + 1, S, by omega, by go_num, nS, by rw [HE.out, HC.out]; exact GO.out rfl rfl, (T1.far _ (by dsimp only; omega)).far _ (by dsimp only; omega), TB, (by repeat (first | exact Below.refl _ _ | (with_reducible assumption) | refine bAlloc ?_ _ | refine below_drewN ?_ _ | refine Below.drew ?_ | (refine bSet ?_ (by first | (dsimp only; omega) | (simp; done) | (simp; omega)) _) | refine bTrans ?_ (by assumption)))⟩
                case measure => simp [intOf]; try omega
              all_goals
                have fin : prun 0 s.toList = none := by
                  rw [HE.out, HC.out]
                  exact ST.out (by simp)
                have FIN := Lib.hid fin
                clear fin
                go_wp2
                exact bodyPost_ret (v := .tuple #[.agg #[.int .u64 0, .int .u64 0], .int .i64 2]) (by simp [results, Try.results25, go_sem, z0, z1]) rfl ⟨by rw [FIN.out]; rfl, (by repeat (first | exact Below.refl _ _ | (with_reducible assumption) | refine bAlloc ?_ _ | refine below_drewN ?_ _ | refine Below.drew ?_ | (refine bSet ?_ (by first | (dsimp only; omega) | (simp; done) | (simp; omega)) _) | refine bTrans ?_ (by assumption)))⟩
          · obtain rfl : k = s.size := by omega
            have fin : prun 0 s.toList = some v := by rw [HE.out, drop_end]; rfl
            have FIN := Lib.hid fin
            have z3 := R1.free 0; have z4 := R1.free 1
            clear fin
            go_wp2
            exact bodyPost_ret (v := .tuple #[wv v, .int .i64 0]) (by simp [results, Try.results25, go_sem, z0, z1]) rfl ⟨by rw [FIN.out]; rfl, (by repeat (first | exact Below.refl _ _ | (with_reducible assumption) | refine bAlloc ?_ _ | refine below_drewN ?_ _ | refine Below.drew ?_ | (refine bSet ?_ (by first | (dsimp only; omega) | (simp; done) | (simp; omega)) _) | refine bTrans ?_ (by assumption)))⟩

end Go.Proofs.Ytfcplfbofobdpaa
