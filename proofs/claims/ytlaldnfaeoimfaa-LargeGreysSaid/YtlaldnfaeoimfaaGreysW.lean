/-
  haymowlaw15.LargeGreys, walked.
-/
import Derived.Test.YtlaldnfaeoimfaaGreysP
import Derived.LoopTactic
import Derived.Deep.RegionLaw
namespace Go.Proofs.Ytlaldnfaeoimfaa
open Go.RowKit
set_option linter.unusedVariables false

set_option maxRecDepth 100000 in
set_option maxHeartbeats 16000000 in
theorem greys_in (n : Nat) (hn : n < 256) (C0 : List Nat) (bt : Nat) (hbt : bt < 256) (w : World) (vl : Value) (hC : NL pb8 w vl C0) (lC : C0.length ≤ 60) (bC : ∀ c ∈ C0, c < 256) :
    Calls Try.prog 4 #[.int .u8 (n : Int), vl, .int .u8 (bt : Int)] w fun e w' => e = .returned (.bool true) ∧ Below w.heap.size w w' := by
  have AW := Lib.hid (fun w => awake15_any w)
  have MD := Lib.hid (fun w => made15_ok w)
  have NN := Lib.hid (fun w => lnew_nil w)
  have q1 := fun w => large_none w
  have HC := Lib.hid hC
  have HB := Lib.hid bC
  obtain ⟨la, lc, rfl⟩ := hC.slice
  obtain ⟨m, hm⟩ : ∃ m, C0.length = m := ⟨_, rfl⟩
  rw [hm] at lC ⊢
  have HM0 := Lib.hid hm
  have HLM := Lib.hid lC
  have l1 : ¬ (60 : Int) < (m : Int) := by omega
  have l2 : ¬ 60 < m := by omega
  have n1 := byte15 hn
  obtain ⟨r0, k, _, hr0, hk, n2, n3, k1, k2, k3⟩ := one_mod n 20 (by decide) (by decide)
  rw [show ((20 : Nat) : Int) = 20 from rfl] at n2 n3
  have hk1 : 1 ≤ k := hk ▸ Nat.le_add_right 1 r0
  have hk2 : k ≤ 20 := hk ▸ (Nat.add_comm 1 r0 ▸ hr0)
  obtain ⟨k4, k5, k6⟩ := nz15 hk1
  have HK1 := Lib.hid hk1
  have HK2 := Lib.hid hk2
  have b1 := byte15 hbt
  obtain ⟨r4, pm, _, hr4, hpm, b2, b3, p1, p2, p3⟩ := one_mod bt 4 (by decide) (by decide)
  rw [show ((4 : Nat) : Int) = 4 from rfl] at b2 b3
  obtain ⟨p4, p5, p6⟩ := nz15 (show 1 ≤ pm from hpm ▸ Nat.le_add_right 1 r4)
  clear hC bC hm lC hr0 hk hr4 hpm hn hbt hk1 hk2 b3 p2
  go_enter Try.func4, Try.ntmps4
  go_wp2_with fail
  with_reducible refine (AW.out _).mono ?_
  rintro e w1 ⟨rfl, b1'⟩
  dsimp only
  go_wp2_with fail
  with_reducible refine (NN.out _).mono ?_
  rintro e w2 ⟨rfl, rfl⟩
  dsimp only
  go_wp2_with fail
  refine (MD.out _).mono ?_
  rintro e w3 ⟨mb, mm, R, pb, lb, rfl, S0⟩
  dsimp only
  have S1 : GA w lb pb mb mm 0 w3 := ⟨R, 0, _, _, 0, 0, 0, _, by
    have e0 : up1 0 = [] := by unfold up1; rfl
    rw [e0]; exact S0.since b1'⟩
  clear S0 b1' AW MD NN
  go_wp2_with fail
  go_loopw [13] (fun c wr => ∃ j : Nat, j ≤ k ∧ c = .int .i64 (j : Int) ∧ GA w lb pb mb mm j wr) (fun c _ => k - (intOf c).toNat)
  case atStart => exact ⟨0, Nat.zero_le _, rfl, S1⟩
  case round =>
    clear S1
    obtain ⟨j, hj, rfl, S⟩ := hrel
    by_cases hlt : j < k
    · have jlt := lt15 hlt
      have HT := Lib.hid hlt
      have C := Lib.hid (S.add (Nat.lt_of_lt_of_le HT.out (Nat.le_trans HK2.out (by decide))))
      obtain ⟨e1, e2, e3⟩ := up15 hlt (Nat.le_trans HK2.out (by decide))
      clear S hlt hj
      generalize hj1 : j + 1 = j1 at *
      have HJ1 := Lib.hid hj1
      clear hj1
      go_wp2_with fail
      with_reducible refine C.out.mono ?_
      rintro e w4 ⟨rfl, S4⟩
      dsimp only
      have S4 := Lib.hid S4
      clear C
      go_wp2_with fail
      go_roundw
      case rel => exact ⟨j1, by rw [← HJ1.out]; exact HT.out, rfl, S4.out⟩
      case measure => exact meas15 HJ1.out HT.out
    · obtain rfl : j = k := Nat.le_antisymm hj (Nat.le_of_not_lt hlt)
      have jlt := nlt15 hlt
      have C := Lib.hid (S.begin (Nat.lt_of_le_of_lt HK2.out (by decide)))
      clear S hj hlt
      go_wp2_with fail
      with_reducible refine C.out.mono ?_
      rintro e w4 ⟨rfl, S4⟩
      dsimp only
      have S5 : GC w lb pb mb mm j (.slice none 0 0) (.slice none 0 0) [] 0 w4 := S4
      clear C S4
      generalize j = k at *
      go_wp2_with fail
      go_loopw [14, 15, 16] (fun v u c wr => ∃ (i : Nat) (M : List Nat) (td : Nat), i ≤ m ∧ c = .int .i64 (i : Int) ∧ GC w lb pb mb mm k v u M td wr) (fun _ _ c _ => m - (intOf c).toNat)
      case atStart => exact ⟨0, [], 0, Nat.zero_le _, rfl, S5⟩
      case round =>
        clear S5
        obtain ⟨i, M, td, hi, rfl, S⟩ := hrel
        by_cases hlt : i < m
        · have ilt := lt15 hlt
          have HT := Lib.hid hlt
          obtain ⟨xb, xo, rfl, o0⟩ := (HC.out.below S.o).at15 (i := i) (by rw [HM0.out]; exact hlt)
          have hc := HB.out (C0.getD i 0) (getD_mem (by rw [HM0.out]; exact hlt))
          obtain ⟨e1, e2, e3⟩ := up15 hlt (Nat.le_trans HLM.out (by decide))
          generalize C0.getD i 0 = cx at *
          have x1 := byte15 hc
          obtain ⟨rx, id, _, rk, hid, x2, x3, x4, x5, x6⟩ := one_mod cx k HK1.out (Nat.le_trans HK2.out (by decide))
          have C := Lib.hid (S.mark (id := id) (hid ▸ Nat.le_add_right 1 rx) (hid ▸ (Nat.add_comm 1 rx ▸ rk)))
          obtain ⟨⟨va, vc, rfl⟩, ua, uc, rfl⟩ := GC.sl S
          have LM := Lib.hid S.len
          clear S hlt hi hc rk hid
          generalize hi1 : i + 1 = i1 at *
          have HI1 := Lib.hid hi1
          clear hi1
          go_wp2_with fail
          with_reducible refine C.out.mono ?_
          rintro e w4 ⟨is, rfl, K4⟩
          dsimp only
          have EE := Lib.hid (And.intro e1 (And.intro e2 e3))
          clear C o0 e1 e2 e3 x2 x3 x4 x5 n2 n3
          rcases K4 with ⟨rfl, S4⟩ | ⟨rfl, S4⟩
          · obtain ⟨v', w5, hr5, S5⟩ := S4.push id 3 (len15 LM.out HK2.out).1
            have HR5 := Lib.hid hr5
            obtain ⟨M5, hM5⟩ : ∃ M5, M ++ [id] = M5 := ⟨_, rfl⟩
            have S5 : GC w lb pb mb mm k v' (.slice ua td uc) M5 td w5 := by
              unfold GC
              rw [← hM5, List.take_append_of_le_length LM.out.2]; exact S5
            have S5 := Lib.hid S5
            have K5 : ∃ a c, v' = .slice a M5.length c := (GC.sl S5.out).1
            obtain ⟨va', vc', rfl⟩ := K5
            clear S4 hr5 hM5
            go_upto_if 95 with (at_builtin; refine Lib.wpList_append_run _ rfl _ _ _ _ rfl _ _ rfl rfl _ _ HR5.out ?_)
            clear b2 p1
            generalize ((i : Int) % (1 + (r4 : Int)) == 0) = bb
            obtain ⟨e1, e2, e3⟩ := EE.out
            rcases Bool.eq_false_or_eq_true bb with rfl | rfl
            · have C := Lib.hid S5.out.grey
              have LN := Lib.hid S5.out.len
              by_cases hm : td < M5.length
              · rw [decide_eq_true hm, if_pos hm] at C
                have HM := Lib.hid hm
                clear hm
                go_wp2_with fail
                with_reducible refine C.out.mono ?_
                rintro e w6 ⟨rfl, S6⟩
                dsimp only
                obtain ⟨u', w7, hr7, S7⟩ := S6.push2 (M5.getD td 0) 3 (len15 LN.out HK2.out).2
                have HR7 := Lib.hid hr7
                have S8 := Lib.hid (show GC w lb pb mb mm k (.slice va' M5.length vc') u' M5 (td + 1) w7 by unfold GC; rw [take_snoc HM.out]; exact S7)
                clear S6 S7 hr7 C S5
                generalize M5.getD td 0 = gx at *
                go_wp2_with (at_builtin; refine Lib.wpList_append_run _ rfl _ _ _ _ rfl _ _ rfl rfl _ _ HR7.out ?_)
                go_roundw
                case rel => exact ⟨i1, M5, td + 1, by rw [← HI1.out]; exact HT.out, rfl, S8.out⟩
                case measure => exact meas15 HI1.out HT.out
              · rw [decide_eq_false hm, if_neg hm] at C
                clear hm
                go_wp2_with fail
                with_reducible refine C.out.mono ?_
                rintro e w6 ⟨rfl, S6⟩
                dsimp only
                have S8 := Lib.hid (show GC w lb pb mb mm k (.slice va' M5.length vc') (.slice ua td uc) M5 td w6 from S6)
                clear S6 C S5
                generalize M5.getD td 0 = gx at *
                go_wp2_with fail
                go_roundw
                case rel => exact ⟨i1, M5, td, by rw [← HI1.out]; exact HT.out, rfl, S8.out⟩
                case measure => exact meas15 HI1.out HT.out
            · have S8 := Lib.hid (show GC w lb pb mb mm k (.slice va' M5.length vc') (.slice ua td uc) M5 td w5 from S5.out)
              clear S5
              go_wp2_with fail
              go_roundw
              case rel => exact ⟨i1, M5, td, by rw [← HI1.out]; exact HT.out, rfl, S8.out⟩
              case measure => exact meas15 HI1.out HT.out
          · have S5 := Lib.hid (show GC w lb pb mb mm k (.slice va M.length vc) (.slice ua td uc) M td w4 from S4)
            clear S4
            go_upto_if 95 with fail
            clear b2 p1
            generalize ((i : Int) % (1 + (r4 : Int)) == 0) = bb
            obtain ⟨e1, e2, e3⟩ := EE.out
            rcases Bool.eq_false_or_eq_true bb with rfl | rfl
            · have C := Lib.hid S5.out.grey
              have LN := Lib.hid S5.out.len
              by_cases hm : td < M.length
              · rw [decide_eq_true hm, if_pos hm] at C
                have HM := Lib.hid hm
                clear hm
                go_wp2_with fail
                with_reducible refine C.out.mono ?_
                rintro e w6 ⟨rfl, S6⟩
                dsimp only
                obtain ⟨u', w7, hr7, S7⟩ := S6.push2 (M.getD td 0) 3 (len15 LN.out HK2.out).2
                have HR7 := Lib.hid hr7
                have S8 := Lib.hid (show GC w lb pb mb mm k (.slice va M.length vc) u' M (td + 1) w7 by unfold GC; rw [take_snoc HM.out]; exact S7)
                clear S6 S7 hr7 C S5
                generalize M.getD td 0 = gx at *
                go_wp2_with (at_builtin; refine Lib.wpList_append_run _ rfl _ _ _ _ rfl _ _ rfl rfl _ _ HR7.out ?_)
                go_roundw
                case rel => exact ⟨i1, M, td + 1, by rw [← HI1.out]; exact HT.out, rfl, S8.out⟩
                case measure => exact meas15 HI1.out HT.out
              · rw [decide_eq_false hm, if_neg hm] at C
                clear hm
                go_wp2_with fail
                with_reducible refine C.out.mono ?_
                rintro e w6 ⟨rfl, S6⟩
                dsimp only
                have S8 := Lib.hid (show GC w lb pb mb mm k (.slice va M.length vc) (.slice ua td uc) M td w6 from S6)
                clear S6 C S5
                generalize M.getD td 0 = gx at *
                go_wp2_with fail
                go_roundw
                case rel => exact ⟨i1, M, td, by rw [← HI1.out]; exact HT.out, rfl, S8.out⟩
                case measure => exact meas15 HI1.out HT.out
            · have S8 := Lib.hid (show GC w lb pb mb mm k (.slice va M.length vc) (.slice ua td uc) M td w4 from S5.out)
              clear S5
              go_wp2_with fail
              go_roundw
              case rel => exact ⟨i1, M, td, by rw [← HI1.out]; exact HT.out, rfl, S8.out⟩
              case measure => exact meas15 HI1.out HT.out
        · obtain rfl : i = m := Nat.le_antisymm hi (Nat.le_of_not_lt hlt)
          have ilt := nlt15 hlt
          clear hi hlt
          obtain ⟨⟨va, vc, rfl⟩, ua, uc, rfl⟩ := GC.sl S
          have MK := Lib.hid S.len
          have S := Lib.hid S
          obtain ⟨k9, hk9⟩ : ∃ k9, k + 1 = k9 := ⟨_, rfl⟩
          have HK9 := Lib.hid hk9
          clear hk9
          go_wp2_with fail
          go_loopw [15, 22] (fun u c wr => ∃ (i td : Nat), i ≤ k9 ∧ c = .int .i64 (i : Int) ∧ GC w lb pb mb mm k (.slice va M.length vc) u M td wr ∧ (i ≤ td ∨ td = M.length)) (fun _ c _ => k9 - (intOf c).toNat)
          case atStart => exact ⟨0, td, Nat.zero_le _, rfl, S.out, .inl (Nat.zero_le _)⟩
          case round =>
            clear S
            obtain ⟨i, td, hi, rfl, S, alt⟩ := hrel
            obtain ⟨_, ua, uc, rfl⟩ := GC.sl S
            have LN := Lib.hid S.len
            have ALT := Lib.hid alt
            clear alt
            by_cases hlt : i ≤ k
            · have ile : (i : Int) ≤ (k : Int) := Int.ofNat_le.2 hlt
              have HT := Lib.hid (show i < k9 from HK9.out ▸ Nat.lt_succ_of_le hlt)
              obtain ⟨e1, e2, e3⟩ := up15 HT.out (Nat.le_trans (HK9.out ▸ Nat.succ_le_succ HK2.out : k9 ≤ 21) (by decide))
              have C := Lib.hid S.grey
              have S := Lib.hid S
              clear hlt hi
              generalize hi1 : i + 1 = i1 at *
              have HI1 := Lib.hid hi1
              clear hi1
              by_cases hm : td < M.length
              · rw [decide_eq_true hm, if_pos hm] at C
                have HM := Lib.hid hm
                clear hm
                go_wp2_with fail
                with_reducible refine C.out.mono ?_
                rintro e w6 ⟨rfl, S6⟩
                dsimp only
                obtain ⟨u', w7, hr7, S7⟩ := S6.push2 (M.getD td 0) 3 (len15 LN.out HK2.out).2
                have HR7 := Lib.hid hr7
                have S8 := Lib.hid (show GC w lb pb mb mm k (.slice va M.length vc) u' M (td + 1) w7 by unfold GC; rw [take_snoc HM.out]; exact S7)
                clear S6 S7 hr7 C S
                generalize M.getD td 0 = gx at *
                go_wp2_with (at_builtin; refine Lib.wpList_append_run _ rfl _ _ _ _ rfl _ _ rfl rfl _ _ HR7.out ?_)
                go_roundw
                case rel => exact ⟨i1, td + 1, by rw [← HI1.out]; exact HT.out, rfl, S8.out, .inl (by rw [← HI1.out]; exact Nat.succ_le_succ (ALT.out.elim id (fun e => absurd HM.out (by rw [e]; exact Nat.lt_irrefl _))))⟩
                case measure => exact meas15 HI1.out HT.out
              · have TE := Lib.hid (show td = M.length from Nat.le_antisymm LN.out.2 (Nat.le_of_not_lt hm))
                rw [decide_eq_false hm, if_neg hm] at C
                clear hm
                go_wp2_with fail
                with_reducible refine C.out.mono ?_
                rintro e w6 ⟨rfl, S6⟩
                dsimp only
                have S8 := Lib.hid (show GC w lb pb mb mm k (.slice va M.length vc) (.slice ua td uc) M td w6 from S6)
                clear S6 C S
                generalize M.getD td 0 = gx at *
                go_wp2_with fail
                go_roundw
                case rel => exact ⟨i1, td, by rw [← HI1.out]; exact HT.out, rfl, S8.out, .inr TE.out⟩
                case measure => exact meas15 HI1.out HT.out
            · have ile : ¬ (i : Int) ≤ (k : Int) := fun q => hlt (Int.ofNat_le.1 q)
              have TE : td = M.length := ALT.out.elim (fun q => absurd (Nat.le_trans q (Nat.le_trans LN.out.2 LN.out.1)) hlt) id
              subst TE
              have C := S.grey
              rw [decide_eq_false (Nat.lt_irrefl _), if_neg (Nat.lt_irrefl _)] at C
              have C := Lib.hid C
              have S := Lib.hid S
              have SM := Lib.hid (fun v u w hv hu => same_true v u M w hv hu (Nat.le_trans (len15 LN.out HK2.out).1 (by decide)))
              clear hi hlt ALT
              go_wp2_with fail
              with_reducible refine C.out.mono ?_
              rintro e w6 ⟨rfl, S6⟩
              dsimp only
              clear C S
              have N6 := S6.nl
              rw [List.take_length] at N6
              have B6 := Lib.hid S6.o
              clear S6
              generalize M.getD M.length 0 = gx at *
              go_wp2_with fail
              refine (SM.out _ _ _ N6.2 N6.1).mono ?_
              rintro e w7 ⟨rfl, b7⟩
              dsimp only
              have B7 := Lib.hid (B6.out.trans (b7.mono B6.out.size))
              clear N6 b7
              go_wp2_with fail
              go_ret
              exact ⟨rfl, B7.out⟩
end Go.Proofs.Ytlaldnfaeoimfaa
