/-
  haymowlaw14.SemiTurns, walked.
-/
import Derived.Test.YtnpoiebhajjkbaaTurnsP
import Derived.LoopTactic
import Derived.Deep.DeepCutAuto
import Derived.Deep.CutBlock
import Derived.Deep.RegionLaw
namespace Go.Proofs.Ytnpoiebhajjkbaa
open Go.RowKit
set_option linter.unusedVariables false

set_option maxRecDepth 100000 in
set_option maxHeartbeats 16000000 in
theorem turns_in (L : List Nat) (F : List (Nat × Nat)) (more : Nat) (hmore : more < 256) (w : World) (vl vp : Value) (hL : NL pw w vl L) (lL : L.length ≤ 60) (hF : P8 w vp F) (lF : F.length ≤ 20) (bF : ∀ f ∈ F, f.1 < 256 ∧ f.2 < 256) :
    Calls Try.prog 4 #[vl, vp, .int .u8 (more : Int)] w fun e w' => e = .returned (.bool true) ∧ Below w.heap.size w w' := by
  have AW := Lib.hid (fun w => awake14_any w)
  have HL := Lib.hid hL
  have HF := Lib.hid hF
  have HB := Lib.hid bF
  obtain ⟨la, lc, rfl⟩ := hL.slice
  obtain ⟨pa, pc, rfl⟩ : ∃ a c, vp = .slice a F.length c := by obtain ⟨a, c, e, _⟩ := hF; exact ⟨a, c, e⟩
  obtain ⟨n, hn⟩ : ∃ n, L.length = n := ⟨_, rfl⟩
  obtain ⟨np, hnp⟩ : ∃ np, F.length = np := ⟨_, rfl⟩
  rw [hn] at lL ⊢
  rw [hnp] at lF ⊢
  have HN := Lib.hid hn
  have HNP := Lib.hid hnp
  have HLL := Lib.hid lL
  have HLF := Lib.hid lF
  have l1 : ¬ (60 : Int) < (n : Int) := by omega
  have l2 : ¬ 60 < n := by omega
  have l3 : ¬ (20 : Int) < (np : Int) := by omega
  have l4 : ¬ 20 < np := by omega
  have MD := Lib.hid (fun w => made14_ok n (by omega) w)
  have m1 : IntKind.i64.wrap (more : Int) = (more : Int) := by rw [IntKind.wrap_i64]; omega
  obtain ⟨room, hroom⟩ : ∃ room, n + more = room := ⟨_, rfl⟩
  obtain ⟨m2, m3, m4⟩ := add14 n more room hroom (by omega)
  have HR := Lib.hid (show room ≤ 400 by omega)
  clear hL hF bF hn hnp lL lF hroom hmore
  go_enter Try.func4, Try.ntmps4
  go_wp2_with fail
  with_reducible refine (AW.out _).mono ?_
  rintro e w1 ⟨rfl, b1⟩
  dsimp only
  go_wp2_with fail
  refine (MD.out _).mono ?_
  rintro e w2 ⟨mb, mm, R, sb, rfl, S0⟩
  dsimp only
  have S1 := Lib.hid (S0.since b1)
  clear S0 b1 AW MD l1 l2 l3 l4
  go_upto_if 42 with fail
  go_cut [] from 43 to 46 (fun wx => TF w R sb mb mm n L 0 wx)
  case first =>
    by_cases hn : 0 < n
    · have n1 : (0 : Int) < (n : Int) := by omega
      have C0 := S1.out.take (n := n) hn (by rw [one1_wds, List.length_replicate]; omega)
      rw [Nat.zero_add] at C0
      have C := Lib.hid C0
      clear S1 C0
      go_wp2_with fail
      refine C.out.mono ?_
      rintro e w3 ⟨rfl, S3, _⟩
      dsimp only
      have S3 := Lib.hid (TF.start (L := L) S3)
      clear C
      go_wp2_with fail
      go_meet
      exact S3.out
    · obtain rfl : n = 0 := by omega
      have S3 := Lib.hid (TF.start (n := 0) (L := L) S1.out)
      clear S1
      go_wp2_with fail
      go_meet
      exact S3.out
  case rest =>
  have S3 := hcut
  clear S1 hcut
  obtain ⟨w3, hw3⟩ : ∃ w3, w3 = wc := ⟨_, rfl⟩
  subst hw3
  generalize decide (0 < n) = b0
  go_wp2_with fail
  go_loopw [10] (fun c wr => ∃ j : Nat, j ≤ n ∧ c = .int .i64 (j : Int) ∧ TF w R sb mb mm n L j wr) (fun c _ => n - (intOf c).toNat)
  case atStart => exact ⟨0, Nat.zero_le _, rfl, S3⟩
  case round =>
    clear S3
    obtain ⟨j, hj, rfl, S⟩ := hrel
    by_cases hlt : j < n
    · have jlt := lt14 hlt
      have HT := Lib.hid hlt
      obtain ⟨lb, lo, rfl, _, _, o0⟩ := (HL.out.below S.o).at14 (i := j) (by rw [HN.out]; exact hlt)
      obtain ⟨e1, e2, e3⟩ := up14 hlt (Nat.le_trans HLL.out (by decide))
      have C := Lib.hid (S.write hlt)
      clear S
      generalize L.getD j 0 = x at *
      generalize hj1 : j + 1 = j1 at *
      go_wp2_with fail
      refine C.out.mono ?_
      rintro e w4 ⟨rfl, S4⟩
      dsimp only
      have S4 := Lib.hid S4
      clear C o0
      go_wp2_with fail
      go_roundw
      case rel => exact ⟨j1, by rw [← hj1]; exact HT.out, rfl, S4.out⟩
      case measure => exact meas14 hj1 HT.out
    · obtain rfl : j = n := by omega
      have jlt := nlt14 hlt
      have C := Lib.hid (S.flip (room := room) HN.out (by have := HR.out; omega) (by have := HLL.out; omega))
      clear S
      go_wp2_with fail
      refine C.out.mono ?_
      rintro e w4 ⟨R4, B, rfl, T4⟩
      dsimp only
      clear C jlt hlt hj
      go_wp2_with fail
      go_loopw [12, 13] (fun v c wr => ∃ (i : Nat) (M : List Nat), i ≤ np ∧ c = .int .i64 (i : Int) ∧ TW w R4 sb mb mm j room B L v M M wr) (fun _ c _ => np - (intOf c).toNat)
      case atStart => exact ⟨0, [], Nat.zero_le _, rfl, T4⟩
      case round =>
        clear T4
        obtain ⟨i, M, hi, rfl, T⟩ := hrel
        obtain ⟨va, vc, rfl⟩ := T.slice
        by_cases hc : i < np ∧ 0 < j
        · obtain ⟨hlt, hn0⟩ := hc
          have ilt := lt14 hlt
          have n1 := lt14 hn0
          have HT := Lib.hid hlt
          obtain ⟨e1, e2, e3⟩ := up14 hlt (Nat.le_trans HLF.out (by decide))
          obtain ⟨pb, po, rfl, o0, o1⟩ := (HF.out.below T.o).at (i := i) (by rw [HNP.out]; exact hlt)
          obtain ⟨p8, q8⟩ := HB.out (F.getD i (0, 0)) (by simp [List.getD, show i < F.length by rw [HNP.out]; exact hlt])
          generalize (F.getD i (0, 0)).1 = p at *
          generalize (F.getD i (0, 0)).2 = q at *
          obtain ⟨x, d, r, y, s, my, ⟨f1, f2, f3, f4, f5, f6, f7, f8, f9, f10, f11, f12, f13, f14⟩, ⟨g1, g2, g3⟩, ⟨h1, h2, h3⟩, y1, xy, hs, hmy, xs, xs', sn, big⟩ := round14 p q j M.length room hn0 HLL.out p8 q8 T.le HR.out
          have f15 : wrap64 (1 + (r : Int)) = (y : Int) := by rw [f13, f14]
          have f16 : wrap64 ((j : Int) - (x : Int)) = (d : Int) := by rw [f5, f6]
          have f17 : (0 : Int) < (d : Int) := Int.ofNat_lt.2 (Nat.pos_of_ne_zero f10)
          clear f13 f5
          generalize hi1 : i + 1 = i1 at *
          by_cases ht : room < my
          · have ht' := lt14 ht
            have C := Lib.hid (T.tight (x := x) (y := y) y1 xy (by rw [hmy]; exact ht))
            clear T hs hmy p8 q8 y1 xy xs xs' sn big
            generalize M.length = m at *
            go_wp2_with fail
            refine C.out.mono ?_
            rintro e w5 ⟨rfl, T5⟩
            dsimp only
            have T5 := Lib.hid T5
            clear C o0 o1
            go_wp2_with fail
            go_roundw
            case rel => exact ⟨i1, M, by rw [← hi1]; exact HT.out, rfl, T5.out⟩
            case measure => exact meas14 hi1 HT.out
          · have ht' := nlt14 ht
            have C := Lib.hid (T.move (x := x) (y := y) HN.out y1 xy (by rw [hmy]; exact Nat.le_of_not_lt ht))
            obtain ⟨lb, lo, rfl, lcap, _, _⟩ := (HL.out.below T.o).at14 (i := 0) (by rw [HN.out]; exact hn0)
            have sc : s ≤ lc := Nat.le_trans sn (HN.out ▸ lcap)
            have sc' : (s : Int) ≤ (lc : Int) := Int.ofNat_le.2 sc
            have s1 := fun w => wslice14 lb lo j lc x y s hs sc y1 w
            have s2 := fun w => wslice14' lb lo j lc x y s hs sc y1 w
            have ln : ((L.drop x).take y).length = y := part_len14 HN.out xy
            have RUN := Lib.hid (fun (w5 : World) (T5 : TW w R4 sb mb mm j room B L (.slice va M.length vc) M (M ++ (L.drop x).take y) w5) => run_append_words14 w5 B _ _ _ T5.own _ _ ((HL.out.below T5.o).part14 (x := x) (y := y) (by rw [HN.out]; exact xy) y1) (by rw [ln]; exact big) T5.hB)
            clear T hs hmy p8 q8 y1 xy ln lcap sn big
            generalize hM : M.length = m at *
            have HM := Lib.hid hM
            clear hM
            go_wp2_with fail
            refine C.out.mono ?_
            rintro e w5 ⟨rfl, T5⟩
            dsimp only
            clear C o0 o1
            obtain ⟨v7, w7, hr, own7, gr7⟩ := RUN.out w5 T5
            rw [← HM.out, ← List.length_append, ← List.map_append] at own7
            have T7 := Lib.hid (T5.app gr7 own7)
            have HR7 := Lib.hid hr
            clear RUN hr own7 gr7 T5
            generalize M ++ (L.drop x).take y = N at *
            go_wp2_with (at_builtin; refine Lib.wpList_append_run _ rfl _ _ _ _ rfl _ _ rfl rfl _ _ HR7.out ?_)
            go_roundw
            case rel => exact ⟨i1, N, by rw [← hi1]; exact HT.out, rfl, T7.out⟩
            case measure => exact meas14 hi1 HT.out
        · have HT := Lib.hid T
          have HI := Lib.hid hi
          have hme := T.le
          clear T hi
          generalize hM : M.length = m at *
          have HM := Lib.hid hM
          have HME := Lib.hid hme
          clear hM hme
          go_upto_region 19 with fail
          go_cut [77] from 69 to 76 (fun c wx => c = .bool false ∧ wr = wx)
          case first =>
            by_cases hlt : i < np
            · have ilt := lt14 hlt
              have n1 : ¬ 0 < j := fun q => hc ⟨hlt, q⟩
              have n2 := nlt14 n1
              go_wp2_with fail
              go_meet
              exact ⟨rfl, rfl⟩
            · have ilt := nlt14 hlt
              go_wp2_with fail
              go_meet
              exact ⟨rfl, rfl⟩
          case rest =>
          obtain ⟨rfl, rfl⟩ := hcut
          have C := Lib.hid (HT.out.endt HN.out)
          clear hc HT
          go_wp2_with fail
          refine C.out.mono ?_
          rintro e w5 ⟨R5, rfl, T5⟩
          dsimp only
          obtain ⟨c0, HE⟩ := T5.held
          have C1 := Lib.hid T5.nend
          have C2 := Lib.hid HE
          have C3 := T5.top
          rw [HM.out] at C3
          have C3 := Lib.hid C3
          have T5 := Lib.hid T5
          clear C HE
          go_wp2_with fail
          refine C1.out.mono ?_
          rintro e w6 ⟨rfl, rfl⟩
          dsimp only
          go_wp2_with fail
          refine C2.out.mono ?_
          rintro e w6 ⟨rfl, rfl⟩
          dsimp only
          go_wp2_with fail
          refine C3.out.mono ?_
          rintro e w6 ⟨rfl, rfl⟩
          dsimp only
          clear C1 C2 C3 c0
          go_wp2_with fail
          go_loopw [18] (fun c wr => ∃ k : Nat, k ≤ m ∧ c = .int .i64 (k : Int) ∧ TE w R5 sb mb mm room (.slice va m vc) M wr) (fun c _ => m - (intOf c).toNat)
          case atStart => exact ⟨0, Nat.zero_le _, rfl, T5.out⟩
          case round =>
            clear T5
            obtain ⟨k, hk, rfl, T⟩ := hrel
            by_cases hlt3 : k < m
            · have klt := lt14 hlt3
              have HT3 := Lib.hid hlt3
              rw [← HM.out] at T
              obtain ⟨vb, vo, rfl, q0⟩ := T.at (i := k) (by rw [HM.out]; exact hlt3)
              have CR := T.read (i := k) (by rw [HM.out]; exact hlt3)
              rw [HM.out] at CR
              have CR := Lib.hid CR
              have QH := Lib.hid (fun w' T' => TE.at (W0 := w) (R := R5) (sb := sb) (mb := mb) (mm := mm) (room := room) (a := some ⟨vb, vo, none⟩) (c := vc) (M := M) (w := w') T' (i := k) (by rw [HM.out]; exact hlt3))
              obtain ⟨e1, e2, e3⟩ := up14 hlt3 (by have := HR.out; have := HME.out; omega)
              generalize M.getD k 0 = x at *
              generalize hk1 : k + 1 = k1 at *
              clear T q0
              go_wp2_with fail
              refine CR.out.mono ?_
              rintro e w7 ⟨rfl, T7⟩
              dsimp only
              obtain ⟨vb', vo', e, q0⟩ := QH.out w7 (by rw [HM.out]; exact T7)
              injection e with e
              injection e with e4 e5
              subst e4 e5
              replace q0 : w7.cell? ⟨vb, vo + k, none⟩ = some (.int .u64 (x : Int)) := q0
              have T7 := Lib.hid T7
              clear CR QH
              go_wp2_with fail
              go_roundw
              case rel => exact ⟨k1, by rw [← hk1]; exact HT3.out, rfl, T7.out⟩
              case measure => exact meas14 hk1 HT3.out
            · obtain rfl : k = m := Nat.le_antisymm hk (Nat.le_of_not_lt hlt3)
              have klt := nlt14 hlt3
              have B9 := Lib.hid T.o
              clear T
              go_wp2_with fail
              go_ret
              exact ⟨rfl, B9.out⟩
end Go.Proofs.Ytnpoiebhajjkbaa
