/-
  haymowlaw15.LargeSweeps, walked.
-/
import Derived.Test.YtlaldnfaeoimfaaSweepsP
import Derived.LoopTactic
import Derived.Deep.RegionLaw
namespace Go.Proofs.Ytlaldnfaeoimfaa
open Go.RowKit
set_option linter.unusedVariables false

theorem wv_wrap (w0 i : Nat) (hw : w0 < 18446744073709551616) (hi : i ≤ 1000) : IntKind.u64.wrap ((w0 : Int) + (i : Int)) = ((wv15 w0 i : Nat) : Int) := by
  unfold wv15
  simp [IntKind.wrap, IntKind.signed, IntKind.bits]
theorem u64_small {i : Nat} (h : i ≤ 1000) : IntKind.u64.wrap (i : Int) = (i : Int) := by simp [IntKind.wrap, IntKind.signed, IntKind.bits]; omega
theorem one_z {z : Nat} (h : z < 256) : wrap64 (1 + (z : Int)) = ((1 + z : Nat) : Int) := by unfold wrap64; omega
theorem cell15 {p : Nat → Value} {w : World} {b off n c : Nat} {L : List Nat} (h : NL p w (.slice (some ⟨b, off, none⟩) n c) L) {i : Nat} (hi : i < L.length) : w.cell? ⟨b, off + i, none⟩ = some (p (L.getD i 0)) := by
  obtain ⟨b', off', e, h⟩ := h.at15 hi
  injection e with e; injection e with e1 e2
  subst e1; subst e2
  exact h
theorem cell15w {p : Nat → Value} {w : World} {a : Option Addr} {n c : Nat} {L : List Nat} (h : NL p w (.slice a n c) L) {i : Nat} (hi : i < L.length) : ∃ b off, a = some ⟨b, off, none⟩ ∧ w.cell? ⟨b, off + i, none⟩ = some (p (L.getD i 0)) := h.at15 hi
theorem mark15 {c k : Nat} (h : 1 ≤ c ∧ c ≤ k) : ¬ (c : Int) < 1 ∧ ¬ (k : Int) < (c : Int) := ⟨by omega, by omega⟩
theorem mark15l {c k : Nat} (h : 1 ≤ c ∧ c ≤ k) : c - 1 < k := by omega
theorem mark15r {c k : Nat} (h : ¬ (1 ≤ c ∧ c ≤ k)) (g : ¬ (c : Int) < 1) : (k : Int) < (c : Int) := by omega
theorem pred15 {c : Nat} (h : 1 ≤ c) (hb : c ≤ 100000) : wrap64 ((c : Int) - 1) = ((c - 1 : Nat) : Int) ∧ (c : Int) - 1 = ((c - 1 : Nat) : Int) := ⟨by unfold wrap64; omega, by omega⟩
theorem sum15 {ob : Nat → List Nat} {M : List Nat} {c z : Nat} (h : (ob c).length = 1 + z) (hz : z < 256) (hs : sumw ob M ≤ 20000) : ∃ s1, sumw ob (M ++ [c]) = s1 ∧ wrap64 ((sumw ob M : Nat) + 1 : Int) = ((sumw ob M + 1 : Nat) : Int) ∧ wrap64 (((sumw ob M + 1 : Nat) : Int) + (z : Int)) = (s1 : Int) ∧ s1 ≤ 30000 := by
  refine ⟨sumw ob M + (1 + z), by rw [sumw_append, sumw_cons, sumw_nil, h]; omega, wrap_small (x := sumw ob M + 1) (by omega), ?_, by omega⟩
  generalize sumw ob M = s at *
  unfold wrap64; omega
theorem sub15 {a k : Nat} (h : a ≤ k) (hk : k ≤ 40) : wrap64 ((k : Int) - (a : Int)) = ((k - a : Nat) : Int) := by unfold wrap64; omega
theorem addt15 {s t : Nat} (h : s ≤ t) (ht : t ≤ 20000) : wrap64 (((t - s : Nat) : Int) + (s : Int)) = (t : Int) := by unfold wrap64; omega
theorem held15 {rm tot : Nat} (h1 : rm ≤ 10000) (h2 : tot ≤ 100000000) : wrap64 (((6 * rm + tot : Nat) : Int) - (tot : Int)) = ((6 * rm : Nat) : Int) := by unfold wrap64; omega
set_option maxRecDepth 100000 in
set_option maxHeartbeats 16000000 in
theorem sweeps_in (Z C0 : List Nat) (w0 : Nat) (hw0 : w0 < 18446744073709551616) (w : World) (vz vl : Value) (hZ : NL pb8 w vz Z) (lZ : Z.length ≤ 40) (bZ : ∀ z ∈ Z, z < 256) (hC : NL pb8 w vl C0) (lC : C0.length ≤ 40) (bC : ∀ c ∈ C0, c < 256) :
    Calls Try.prog 3 #[vz, vl, .int .u64 (w0 : Int)] w fun e w' => e = .returned (.bool true) ∧ Below w.heap.size w w' := by
  have AW := Lib.hid (fun w => awake15_any w)
  have MD := Lib.hid (fun w => made15_ok w)
  have HC := Lib.hid hC
  have HZ := Lib.hid hZ
  have HB := Lib.hid bC
  have HY := Lib.hid bZ
  have HW := Lib.hid hw0
  have TA := Lib.hid (fun w hv => total_any vz Z w hv (by omega) bZ)
  have ZL := Lib.hid (fun i (h : i ≤ 40) => Nat.le_trans (zsum_le Z bZ i) (show 256 * i ≤ 20000 by omega))
  obtain ⟨la, lc, rfl⟩ := hC.slice
  obtain ⟨za, zc, rfl⟩ := hZ.slice
  obtain ⟨m, hm⟩ : ∃ m, C0.length = m := ⟨_, rfl⟩
  obtain ⟨k, hk⟩ : ∃ k, Z.length = k := ⟨_, rfl⟩
  rw [hm] at lC ⊢
  rw [hk] at lZ TA ⊢
  have HM0 := Lib.hid hm
  have HK0 := Lib.hid hk
  have HLM := Lib.hid lC
  have HLK := Lib.hid lZ
  have l1 : ¬ (40 : Int) < (m : Int) := by omega
  have l2 : ¬ 40 < m := by omega
  have l3 : ¬ (40 : Int) < (k : Int) := by omega
  have l4 : ¬ 40 < k := by omega
  clear hC bC hm lC hZ bZ hk lZ hw0
  go_enter Try.func3, Try.ntmps3
  go_wp2_with fail
  with_reducible refine (AW.out _).mono ?_
  rintro e w1 ⟨rfl, b1'⟩
  dsimp only
  go_wp2_with fail
  refine (MD.out _).mono ?_
  rintro e w3 ⟨mb, mm, R, pb, lb, rfl, S0⟩
  dsimp only
  have S1 : GS w lb pb mb mm Z w0 0 w3 := ⟨R, 0, _, _, 0, 0, _, by
    have e0 : up1 0 = [] := by unfold up1; rfl
    rw [e0]; exact S0.since b1', fun x h1 h2 => by omega⟩
  clear S0 b1' AW MD
  clear l1 l2 l3 l4
  go_wp2_with fail
  go_loopw [10] (fun c wr => ∃ j : Nat, j ≤ k ∧ c = .int .i64 (j : Int) ∧ GS w lb pb mb mm Z w0 j wr) (fun c _ => k - (intOf c).toNat)
  case atStart => exact ⟨0, Nat.zero_le _, rfl, S1⟩
  case round =>
    clear S1
    obtain ⟨j, hj, rfl, S⟩ := hrel
    by_cases hlt : j < k
    · have jlt := lt15 hlt
      have HT := Lib.hid hlt
      have hz := HY.out (Z.getD j 0) (getD_mem (by rw [HK0.out]; exact hlt))
      have C := Lib.hid (S.add (Nat.lt_of_lt_of_le HT.out (Nat.le_trans HLK.out (by decide))) hz)
      have CW := Lib.hid (fun w3 (h : GSm w lb pb mb mm Z w0 j w3) => h.write)
      obtain ⟨e1, e2, e3⟩ := up15 hlt (Nat.le_trans HLK.out (by decide))
      obtain ⟨xb, xo, e9, o0⟩ := (HZ.out.below S.o).at15 (i := j) (by rw [HK0.out]; exact hlt)
      subst e9
      have HZC := Lib.hid (fun w4 (b : Below w.heap.size w w4) => cell15 (HZ.out.below b) (i := j) (by rw [HK0.out]; exact HT.out))
      have x1 := byte15 hz
      have x2 := one_z hz
      have x3 := u64_small (Nat.le_trans (Nat.le_of_lt hlt) (Nat.le_trans HLK.out (by decide)))
      have x4 := wv_wrap w0 j HW.out (Nat.le_trans (Nat.le_of_lt hlt) (Nat.le_trans HLK.out (by decide)))
      clear S hlt hj hz
      generalize hj1 : j + 1 = j1 at *
      have HJ1 := Lib.hid hj1
      clear hj1
      generalize Z.getD j 0 = z at *
      generalize wv15 w0 j = x at *
      generalize hoz : 1 + z = oz at *
      clear hoz
      go_wp2_with fail
      with_reducible refine C.out.mono ?_
      rintro e w4 ⟨rfl, S4⟩
      dsimp only
      have C2 := Lib.hid (CW.out _ S4)
      have cz := HZC.out _ S4.o
      go_wp2_with fail
      with_reducible refine C2.out.mono ?_
      rintro e w5 ⟨rfl, S5⟩
      dsimp only
      have S5 := Lib.hid S5
      clear C C2 S4 CW o0 cz HZC
      go_wp2_with fail
      go_roundw
      case rel => exact ⟨j1, by rw [← HJ1.out]; exact HT.out, rfl, S5.out⟩
      case measure => exact meas15 HJ1.out HT.out
    · obtain rfl : j = k := Nat.le_antisymm hj (Nat.le_of_not_lt hlt)
      have jlt := nlt15 hlt
      obtain ⟨rm, ob, V, OZ1, hrm⟩ := S.fix
      have ht := ZL.out j HLK.out
      have f1 := held15 (rm := rm) (tot := zsum Z j) (by have := HLK.out; omega) (by omega)
      have HRM := Lib.hid (show rm ≤ 100 by have := HLK.out; omega)
      have HTT := Lib.hid ht
      have OZ := Lib.hid OZ1
      clear OZ1
      obtain ⟨c0, CH1, CW1⟩ := V.held
      have CH := Lib.hid CH1
      have CW := Lib.hid CW1
      clear CH1 CW1
      have CB := Lib.hid (V.begin (Nat.lt_of_le_of_lt HLK.out (by decide)))
      have H6 := Lib.hid (show ∀ s, s ≤ zsum Z j → wrap64 (((6 * rm : Nat) : Int) + (s : Int)) = ((6 * rm + s : Nat) : Int) from fun s hs => by have := HRM.out; have := HTT.out; unfold wrap64; omega)
      clear S V hj hlt hrm ht
      generalize 6 * rm + zsum Z j = hh at f1 CH
      generalize zsum Z j = tot at *
      obtain ⟨h6, hh6⟩ : ∃ h6, 6 * rm = h6 := ⟨_, rfl⟩
      rw [hh6] at f1
      have HH6 := Lib.hid hh6
      clear hh6
      go_wp2_with fail
      with_reducible refine CH.out.mono ?_
      rintro e w4 ⟨rfl, rfl⟩
      dsimp only
      go_wp2_with fail
      with_reducible refine CW.out.mono ?_
      rintro e w4 ⟨rfl, rfl⟩
      dsimp only
      go_wp2_with fail
      with_reducible refine CB.out.mono ?_
      rintro e w4 ⟨rfl, S4⟩
      dsimp only
      rw [f1]
      clear CH CW CB c0 f1
      generalize j = k at *
      go_wp2_with fail
      go_loopw [14, 15, 16] (fun v sm c wr => ∃ (i : Nat) (M : List Nat), i ≤ m ∧ c = .int .i64 (i : Int) ∧ sm = .int .i64 ((sumw ob M : Nat) : Int) ∧ GT w lb pb mb mm k rm tot ob v M M wr) (fun _ _ c _ => m - (intOf c).toNat)
      case atStart => exact ⟨0, [], Nat.zero_le _, rfl, by rw [sumw_nil]; rfl, S4⟩
      case round =>
        clear S4
        obtain ⟨i, M, hi, rfl, rfl, S⟩ := hrel
        obtain ⟨va, vc, rfl⟩ := S.sl
        have LN := Lib.hid S.len
        by_cases hlt : i < m
        · have ilt := lt15 hlt
          have HT := Lib.hid hlt
          obtain ⟨xb, xo, e9, o0⟩ := (HC.out.below S.o).at15 (i := i) (by rw [HM0.out]; exact hlt)
          subst e9
          have hc := HB.out (C0.getD i 0) (getD_mem (by rw [HM0.out]; exact hlt))
          obtain ⟨e1, e2, e3⟩ := up15 hlt (Nat.le_trans HLM.out (by decide))
          generalize C0.getD i 0 = cx at *
          have x1 := byte15 hc
          clear hlt hi hc
          generalize hi1 : i + 1 = i1 at *
          have HI1 := Lib.hid hi1
          clear hi1
          by_cases hin : 1 ≤ cx ∧ cx ≤ k
          · have g1 : ¬ (cx : Int) < 1 := (mark15 hin).1
            have g2 : ¬ (k : Int) < (cx : Int) := (mark15 hin).2
            have HIN := Lib.hid hin
            have C := Lib.hid (S.mark hin.1 hin.2)
            have HS := Lib.hid (fun w (h : NL pe w (.slice va M.length vc) M) => has15_any _ M (cx : Int) w h (Nat.le_trans LN.out.1 (Nat.le_trans HLK.out (by decide))))
            clear S hin
            go_wp2_with fail
            with_reducible refine C.out.mono ?_
            rintro e w4 ⟨is, rfl, K4⟩
            dsimp only
            clear C o0
            rcases K4 with ⟨rfl, hm, S4⟩ | ⟨rfl, hm, S4⟩
            · have H4 := HS.out w4 S4.nl
              rw [decide_eq_false (fun ⟨x, hx, e⟩ => hm (Int.ofNat_inj.1 e ▸ hx))] at H4
              have H4 := Lib.hid H4
              have S4 := Lib.hid S4
              clear hm HS
              go_wp2_with fail
              with_reducible refine H4.out.mono ?_
              rintro e w5 ⟨rfl, b5⟩
              dsimp only
              have S5 := S4.out.below b5
              clear S4 H4 b5
              obtain ⟨v', w6, hr6, S6⟩ := S5.push cx 3 (Nat.le_trans LN.out.1 (Nat.le_trans HLK.out (by decide)))
              obtain ⟨va', vc', rfl⟩ := S6.sl
              have e7 : (M ++ [cx]).length = M.length + 1 := by rw [List.length_append, List.length_singleton]
              rw [e7] at S6 hr6
              have HR6 := Lib.hid hr6
              clear e7
              have cz := cell15w (HZ.out.below S6.o) (i := cx - 1) (by rw [HK0.out]; exact mark15l HIN.out)
              have hz := HY.out (Z.getD (cx - 1) 0) (getD_mem (by rw [HK0.out]; exact mark15l HIN.out))
              obtain ⟨s1, h1, f1, f2, f3⟩ := sum15 (ob := ob) (M := M) (OZ.out cx HIN.out.1 HIN.out.2).1 hz (Nat.le_trans LN.out.2 HTT.out)
              obtain ⟨d1, d2⟩ := pred15 HIN.out.1 (Nat.le_trans HIN.out.2 (Nat.le_trans HLK.out (by decide)))
              have x2 := byte15 hz
              have S6 := Lib.hid S6
              have H1 := Lib.hid h1
              clear S5 hr6 h1 hz g1 g2
              obtain ⟨zb, zo, rfl, cz⟩ := cz
              generalize Z.getD (cx - 1) 0 = z at *
              generalize cx - 1 = cp at *
              generalize sumw ob M = s0 at *
              generalize s0 + 1 = s0' at *
              go_wp2_with (at_builtin; refine Lib.wpList_append_run _ rfl _ _ _ _ rfl _ _ rfl rfl _ _ HR6.out ?_)
              go_roundw
              case rel => exact ⟨i1, M ++ [cx], by rw [← HI1.out]; exact HT.out, rfl, by rw [H1.out, f2], S6.out⟩
              case measure => exact meas15 HI1.out HT.out
            · have H4 := HS.out w4 S4.nl
              rw [decide_eq_true ⟨cx, hm, rfl⟩] at H4
              have H4 := Lib.hid H4
              have S4 := Lib.hid S4
              clear hm HS
              go_wp2_with fail
              with_reducible refine H4.out.mono ?_
              rintro e w5 ⟨rfl, b5⟩
              dsimp only
              have S5 := Lib.hid (S4.out.below b5)
              clear S4 H4 b5
              go_wp2_with fail
              go_roundw
              case rel => exact ⟨i1, M, by rw [← HI1.out]; exact HT.out, rfl, rfl, S5.out⟩
              case measure => exact meas15 HI1.out HT.out
          · have C := Lib.hid (S.mark_no hin)
            by_cases g1 : (cx : Int) < 1
            · clear S hin
              go_wp2_with fail
              with_reducible refine C.out.mono ?_
              rintro e w4 ⟨rfl, S4⟩
              dsimp only
              have S4 := Lib.hid S4
              clear C o0
              go_wp2_with fail
              go_roundw
              case rel => exact ⟨i1, M, by rw [← HI1.out]; exact HT.out, rfl, rfl, S4.out⟩
              case measure => exact meas15 HI1.out HT.out
            · have g2 := mark15r hin g1
              clear S hin
              go_wp2_with fail
              with_reducible refine C.out.mono ?_
              rintro e w4 ⟨rfl, S4⟩
              dsimp only
              have S4 := Lib.hid S4
              clear C o0
              go_wp2_with fail
              go_roundw
              case rel => exact ⟨i1, M, by rw [← HI1.out]; exact HT.out, rfl, rfl, S4.out⟩
              case measure => exact meas15 HI1.out HT.out
        · obtain rfl : i = m := Nat.le_antisymm hi (Nat.le_of_not_lt hlt)
          have ilt := nlt15 hlt
          have C := Lib.hid (S.sweep (Nat.lt_of_le_of_lt HLK.out (by decide)))
          have HIN := Lib.hid (fun x (hx : x ∈ M) => S.in hx)
          have TD := Lib.hid (fun w' (h : GU w lb pb mb mm k rm ob (.slice va M.length vc) M w') => h.told (Nat.le_trans LN.out.1 (Nat.le_trans HLK.out (by decide))))
          have GH := Lib.hid (fun w' (h : GU w lb pb mb mm k rm ob (.slice va M.length vc) M w') => h.held)
          have SM := Lib.hid (fun v u w hv hu => same_true v u M w hv hu (Nat.le_trans LN.out.1 (Nat.le_trans HLK.out (by decide))))
          have f4 := H6.out _ LN.out.2
          have f5 := sub15 LN.out.1 HLK.out
          have f6 := addt15 LN.out.2 HTT.out
          clear S hi hlt
          obtain ⟨hx, hxe⟩ : ∃ hx, 6 * rm + sumw ob M = hx := ⟨_, rfl⟩
          rw [hxe] at f4 GH
          rw [HH6.out] at f4
          clear hxe
          generalize tot - sumw ob M = ts at f6 C
          generalize hss : sumw ob M = ss at f4 f6 GH
          generalize hkm : k - M.length = km at f5 C
          clear hkm
          go_wp2_with fail
          with_reducible refine C.out.mono ?_
          rintro e w4 ⟨rfl, U4⟩
          dsimp only
          have C4 := Lib.hid (TD.out w4 U4)
          clear C U4 TD
          go_wp2_with fail
          with_reducible refine C4.out.mono ?_
          rintro e w5 ⟨u5, rfl, N5, U5⟩
          dsimp only
          have C5 := Lib.hid (SM.out _ _ _ N5 U5.nl)
          have U5 := Lib.hid U5
          clear C4 N5 SM
          go_wp2_with fail
          with_reducible refine C5.out.mono ?_
          rintro e w6 ⟨rfl, b6⟩
          dsimp only
          have U6 := U5.out.below b6
          obtain ⟨c0, CH1, CW1⟩ := GH.out w6 U6
          have CH := Lib.hid CH1
          have CW := Lib.hid CW1
          clear CH1 CW1
          have CT := Lib.hid (TA.out w6 (by have := HZ.out.below U6.o; rw [HK0.out] at this; exact this))
          have U6 := Lib.hid U6
          clear C5 U5 b6 GH TA
          go_wp2_with fail
          with_reducible refine CW.out.mono ?_
          rintro e w7 ⟨rfl, rfl⟩
          dsimp only
          go_wp2_with fail
          with_reducible refine CH.out.mono ?_
          rintro e w7 ⟨rfl, rfl⟩
          dsimp only
          go_wp2_with fail
          with_reducible refine CT.out.mono ?_
          rintro e w8 ⟨rfl, b8⟩
          dsimp only
          have U8n := U6.out.below b8
          clear CW CH CT U6 b8 c0 f5 hss
          have U8 := Lib.hid U8n
          clear U8n
          go_wp2_with fail
          clear f4 f6
          go_loopw [24] (fun c wr => ∃ i : Nat, i ≤ M.length ∧ c = .int .i64 (i : Int) ∧ GU w lb pb mb mm k rm ob (.slice va M.length vc) M wr) (fun c _ => M.length - (intOf c).toNat)
          case atStart => exact ⟨0, Nat.zero_le _, rfl, U8.out⟩
          case round =>
            clear U8
            obtain ⟨i, hi, rfl, U⟩ := hrel
            by_cases hlt : i < M.length
            · have ilt := lt15 hlt
              have HT := Lib.hid hlt
              have hx := getD_mem hlt
              obtain ⟨y1, y2⟩ := HIN.out _ hx
              obtain ⟨e1, e2, e3⟩ := up15 hlt (Nat.le_trans LN.out.1 (Nat.le_trans HLK.out (by decide)))
              obtain ⟨wb, wo, e9, o0⟩ := U.nl.at15 hlt
              subst e9
              have hk1 : M.getD i 0 - 1 < Z.length := by rw [HK0.out]; exact mark15l ⟨y1, y2⟩
              obtain ⟨zb, zo, e8, cz⟩ := cell15w (HZ.out.below U.o) (i := M.getD i 0 - 1) hk1
              subst e8
              have hz := HY.out _ (getD_mem hk1)
              obtain ⟨o1, o2⟩ := OZ.out _ y1 y2
              have C := Lib.hid (U.read hx (o1 ▸ (Nat.add_comm 1 _ ▸ Nat.lt_succ_self _)) o2 hz)
              have W5 := Lib.hid (fun w5 (h : GU w lb pb mb mm k rm ob (.slice (some ⟨wb, wo, none⟩) M.length vc) M w5) => cell15 h.nl (i := i) HT.out)
              have kb := Nat.le_trans y2 HLK.out
              obtain ⟨d1, d2⟩ := pred15 y1 (Nat.le_trans kb (by decide))
              have x2 := byte15 hz
              have x3 := u64_small (i := M.getD i 0 - 1) (Nat.le_trans (Nat.sub_le _ _) (Nat.le_trans kb (by decide)))
              have x4 := wv_wrap w0 (M.getD i 0 - 1) HW.out (Nat.le_trans (Nat.sub_le _ _) (Nat.le_trans kb (by decide)))
              have ib1 : ((M.getD i 0 - 1 : Nat) : Int) < (k : Int) := by rw [HK0.out] at hk1; exact Int.ofNat_lt.2 hk1
              have ib0 : (0 : Int) ≤ ((M.getD i 0 - 1 : Nat) : Int) := Int.natCast_nonneg _
              clear U hlt hi hx y1 y2 hk1 hz o1 o2 kb
              generalize hi1 : i + 1 = i1 at *
              have HI1 := Lib.hid hi1
              clear hi1
              generalize Z.getD (M.getD i 0 - 1) 0 = z at *
              generalize wv15 w0 (M.getD i 0 - 1) = vv at *
              generalize M.getD i 0 - 1 = cp at *
              generalize M.getD i 0 = x at *
              go_wp2_with fail
              with_reducible refine C.out.mono ?_
              rintro e w5 ⟨rfl, U5⟩
              dsimp only
              have c5 := W5.out _ U5
              have U5 := Lib.hid U5
              clear C o0 cz W5
              go_wp2_with fail
              go_roundw
              case rel => exact ⟨i1, by rw [← HI1.out]; exact HT.out, rfl, U5.out⟩
              case measure => exact meas15 HI1.out HT.out
            · obtain rfl : i = M.length := Nat.le_antisymm hi (Nat.le_of_not_lt hlt)
              have ilt := nlt15 hlt
              have B9 := Lib.hid U.o
              clear U hi hlt
              go_wp2_with fail
              go_ret
              exact ⟨rfl, B9.out⟩
end Go.Proofs.Ytlaldnfaeoimfaa
