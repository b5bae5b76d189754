/-
  haymowlaw18.HandlesStale, walked.
-/
import Derived.Test.YtdenhhokckjjaaaStaleP
import Derived.LoopTactic
import Derived.Deep.RegionHeld3
import Derived.Deep.RegionLaw
namespace Go.Proofs.Ytdenhhokckjjaaa
open Go.RowKit
set_option linter.unusedVariables false

theorem lt60 {n : Nat} (h : n ≤ 60) : n ≤ 1000 := Nat.le_trans h (by decide)
theorem lt900 {j n : Nat} (h : j < n) (hn : n ≤ 60) : j < 900 := Nat.lt_of_lt_of_le h (Nat.le_trans hn (by decide))
theorem cut60 {n k : Nat} (hk : k < n) (hn : n ≤ 60) {L : List Nat} (e : L.length = n) : (L.take k).length + (L.drop (k + 1)).length ≤ 100000 := by rw [List.length_take, List.length_drop]; omega
theorem slt {n k : Nat} (h : n ≤ k) (hk : k ≤ 60) : n ≤ 80 := by omega
theorem wlt {o : Op18} (h : o.Ok) : o.w < 18446744073709551616 := by have := h.w; omega
theorem tfalse {t : Nat} : ((t : Int) < 0) = False := by simp
theorem hasno {t : Nat} {L : List Nat} (h : t ∉ L) : decide (∃ x, x ∈ L ∧ (t : Int) = (x : Int)) = false := decide_eq_false fun ⟨x, hx, e⟩ => h (Int.ofNat.inj e ▸ hx)
theorem bxf {kd : Int} {n : Nat} (h : ¬ (¬ kd = 0 ∧ 0 < n)) : kd = 0 ∨ (¬ kd = 0 ∧ n = 0) := by
  by_cases q : kd = 0
  · exact .inl q
  · refine .inr ⟨q, ?_⟩
    rcases Nat.eq_zero_or_pos n with z | z
    · exact z
    · exact absurd ⟨q, z⟩ h
set_option maxRecDepth 100000 in
set_option maxHeartbeats 16000000 in
theorem stale_in (F : List Op18) (w : World) (vl : Value) (hF : OL18 w vl F) (lF : F.length ≤ 60) :
    Calls Try.prog 3 #[vl] w fun e w' => e = .returned (.bool true) ∧ Below w.heap.size w w' := by
  have AW := Lib.hid (fun w => awake18_any w)
  have MD := Lib.hid (fun w => made18_ok w)
  have NN := Lib.hid (fun w => hnew_nil w)
  have q1 := fun w => handles_neq_none w
  have HF := Lib.hid hF
  obtain ⟨la, lc, rfl⟩ : ∃ a c, vl = .slice a F.length c := by obtain ⟨a, c, e, _⟩ := hF; exact ⟨a, c, e⟩
  obtain ⟨nf, hnf⟩ : ∃ nf, F.length = nf := ⟨_, rfl⟩
  rw [hnf] at lF ⊢
  have HNF := Lib.hid hnf
  have HLF := Lib.hid lF
  have l2 : ¬ (60 : Int) < (nf : Int) := by omega
  have l4 : ¬ 60 < nf := by omega
  clear hF hnf lF
  go_enter Try.func3, Try.ntmps3
  go_wp2_with fail
  with_reducible refine (AW.out _).mono ?_
  rintro e w1 ⟨rfl, b1⟩
  dsimp only
  go_wp2_with fail
  with_reducible refine (NN.out _).mono ?_
  rintro e w2 ⟨rfl, rfl⟩
  dsimp only
  go_wp2_with fail
  refine (MD.out _).mono ?_
  rintro e w2 ⟨mb, mm, R, hb, pb, rfl, S0⟩
  dsimp only
  have S1 := Lib.hid (show SG w hb mb mm 0 (.slice none 0 0) (.slice none 0 0) [] [] [] [] w2 from ⟨pb, _, _, _, _, _, _, _, _, _, _, S0.since b1, H2.nil _ _ _ _ _, rfl, fun t h => by simp at h, Nat.le_refl _, Nat.le_refl _⟩)
  clear S0 b1 AW MD NN
  go_wp2_with fail
  clear l2 l4 q1
  go_loopw [8, 9, 10] (fun vi vg c wr => ∃ (j : Nat) (In Go : List Nat), j ≤ nf ∧ c = .int .i64 (j : Int) ∧ SG w hb mb mm j vi vg In Go In Go wr) (fun _ _ c _ => nf - (intOf c).toNat)
  case atStart => exact ⟨0, [], [], Nat.zero_le _, rfl, S1.out⟩
  case round =>
    clear S1
    obtain ⟨j, In, Go, hj, rfl, S⟩ := hrel
    by_cases hlt : j < nf
    · obtain ⟨u1, u2, u3, u4, u5, u6⟩ := up18 hlt (lt60 HLF.out)
      have HT := Lib.hid hlt
      have j9 := Lib.hid (lt900 hlt HLF.out)
      have LN := Lib.hid S.len
      have j6 := Lib.hid (Nat.le_trans (Nat.le_of_lt hlt) HLF.out)
      have OC := Lib.hid (show ∃ lb lo, la = some ⟨lb, lo, none⟩ ∧ (F.getD j Op18.none).Ok ∧ ∀ w', Below w.heap.size w w' → (F.getD j Op18.none).at4 w' lb (lo + j * 4) from by
        obtain ⟨lb, lo, e, ok, _⟩ := HF.out.at (k := j) (by rw [HNF.out]; exact hlt)
        refine ⟨lb, lo, e, ok, fun w' q => ?_⟩
        obtain ⟨b', o', e', _, hc⟩ := (HF.out.below q).at (k := j) (by rw [HNF.out]; exact hlt)
        rw [e] at e'
        injection e' with e'; injection e' with e1 e2
        subst e1; subst e2
        exact hc)
      obtain ⟨lb, lo, rfl, ok, oc⟩ := OC.out
      have W9 := Lib.hid (wlt ok)
      generalize F.getD j Op18.none = o at *
      obtain ⟨kd, id, raw, u⟩ := o
      dsimp only [Op18.at4] at oc
      dsimp only at W9
      have OA := Lib.hid oc
      clear ok oc OC
      obtain ⟨o0, o1, o2, o3⟩ := OA.out _ S.o
      obtain ⟨⟨ia, ic, rfl⟩, ⟨ga, gc, rfl⟩⟩ := S.sl
      obtain ⟨n, hn⟩ : ∃ n, In.length = n := ⟨_, rfl⟩
      obtain ⟨m, hm⟩ : ∃ m, Go.length = m := ⟨_, rfl⟩
      rw [hn, hm] at S LN ⊢
      have HN := Lib.hid hn
      have HM := Lib.hid hm
      generalize hj1 : j + 1 = j1 at *
      have HJ1 := Lib.hid hj1
      have Sh := Lib.hid S
      clear S hn hm hj hlt hj1
      obtain ⟨bx, hbx⟩ : ∃ bx, bx = decide (¬ kd = 0 ∧ 0 < n) := ⟨_, rfl⟩
      have HBX := Lib.hid hbx
      clear hbx
      go_upto_region 13 with fail
      go_cut [57] from 47 to 57 (fun c wx => c = .bool bx ∧ wr = wx)
      case first =>
        by_cases hg : ¬ kd = 0 ∧ 0 < n
        · have k1 := kne18 hg.1
          obtain ⟨n1, n2, n3⟩ := pos18 hg.2
          have hn0 := hg.2
          have FIN := Lib.hid (show true = bx from (HBX.out.trans (decide_eq_true hg)).symm)
          clear hg
          go_wp2_with fail
          go_meet
          exact ⟨by first | exact FIN.out | (rw [← FIN.out]), rfl⟩
        · have FIN := Lib.hid (show false = bx from (HBX.out.trans (decide_eq_false hg)).symm)
          rcases bxf hg with q | ⟨q, rfl⟩
          · have k1 := keq18 q
            clear hg
            go_wp2_with fail
            go_meet
            exact ⟨by first | exact FIN.out | (rw [← FIN.out]), rfl⟩
          · have k1 := kne18 q
            clear hg
            go_wp2_with fail
            go_meet
            exact ⟨by first | exact FIN.out | (rw [← FIN.out]), rfl⟩
      case rest =>
        obtain ⟨rfl, rfl⟩ := hcut
        go_upto_if 57 with fail
        go_cut [8, 9, 11, 12, 13] from 58 to 125 (fun vi vg _k _t _e wx => ∃ (In' Go' : List Nat), SG w hb mb mm j1 vi vg In' Go' In' Go' wx)
        case first =>
          cases bx with
          | true =>
            obtain ⟨hk, hn0⟩ := of_decide_eq_true HBX.out.symm
            obtain ⟨n1, n2, n3⟩ := pos18 hn0
            have n6 := Lib.hid (Nat.le_trans LN.out.1 j6.out)
            obtain ⟨r1, kk, f1, f2, f3, f4, f5, hkk⟩ := rem18 id n hn0 (lt60 n6.out)
            obtain ⟨z1, z2, z3, f6⟩ := kk18 hkk (Nat.le_trans n6.out (by decide))
            have hkI : kk < In.length := by rw [HN.out]; exact hkk
            have hcap := (Sh.out.nl.1).cap18.1
            obtain ⟨ib, io, rfl, q0⟩ := (Sh.out.nl.1).at18 hkI
            have DR := Lib.hid (Sh.out.drop j9.out hkI)
            have AG := Lib.hid (show ∀ w' Ci Gi, SG w hb mb mm j1 (.slice (some ⟨ib, io, none⟩) n ic) (.slice ga m gc) In Go Ci Gi w' → w'.cell? ⟨ib, io + kk, none⟩ = some (pe (In.getD kk 0)) from fun w' Ci Gi s => by
              obtain ⟨b', o', e', hc⟩ := s.nl.1.at18 hkI
              injection e' with e'; injection e' with e1 e2
              subst e1; subst e2
              exact hc)
            have s1 := fun w => slice_to (some ⟨ib, io, none⟩) n ic kk (Nat.le_trans (Nat.le_of_lt hkk) hcap) w
            have s2 := fun w => slice_to' (some ⟨ib, io, none⟩) n ic kk (Nat.le_trans (Nat.le_of_lt hkk) hcap) w
            have s3 := fun w => slice_cut (some ⟨ib, io, none⟩) n ic (kk + 1) hkk w
            have s4 := fun w => slice_cut' (some ⟨ib, io, none⟩) n ic (kk + 1) hkk w
            rw [z1] at s3 s4
            have JN := Lib.hid (fun w' (q : NL pe w' (.slice (some ⟨ib, io, none⟩) n ic) In) => ijoined w' _ _ (In.take kk) (In.drop (kk + 1)) (q.take (Nat.le_of_lt hkk)) (q.drop (k := kk + 1) hkk (if ic = kk + 1 then some ⟨ib, io, none⟩ else (some (⟨ib, io, none⟩ : Addr)).map fun y => y.add (kk + 1)) (ic - (kk + 1)) (fun h => if_neg h) rfl) (cut60 hkk n6.out HN.out))
            generalize (if ic = kk + 1 then some ⟨ib, io, none⟩ else (some (⟨ib, io, none⟩ : Addr)).map fun y => y.add (kk + 1)) = a2 at *
            rw [HJ1.out] at DR
            have HKI := Lib.hid hkI
            have q00 : wr.cell? ⟨ib, io + kk, none⟩ = some (.int .i64 ((In.getD kk 0 : Nat) : Int)) := q0
            generalize hx : In.getD kk 0 = x at *
            have HX := Lib.hid hx
            have HK := Lib.hid hkk
            clear q0 hkI hkk hn0 hk hcap hx z1
            go_wp2_with fail
            with_reducible refine DR.out.mono ?_
            rintro e w5 ⟨rfl, S5⟩
            dsimp only
            have c5 : w5.cell? ⟨ib, io + kk, none⟩ = some (.int .i64 (x : Int)) := AG.out _ _ _ S5
            have PG := SG.pushg (j := j) (by rw [HJ1.out]; exact S5) x 3 (by rw [HM.out]; exact LN.out.2) (Nat.le_of_lt j9.out)
            rw [HJ1.out] at PG
            obtain ⟨vg, w6, hr6, S6⟩ := PG
            have HR6 := Lib.hid hr6
            clear S5 DR hr6 q00
            go_upto_region 18 with (at_builtin; refine Lib.wpList_append_run _ rfl _ _ _ _ rfl _ _ rfl rfl _ _ HR6.out ?_)
            obtain ⟨v1, w7, v2, w8, r1, b7, r2, own8, b8⟩ := JN.out w6.drew ((S6.below (Below.refl _ _).drew).nl.1)
            have S8 := Lib.hid (show SG w hb mb mm j1 v2 vg (In.eraseIdx kk) (Go ++ [x]) (In.eraseIdx kk) (Go ++ [x]) w8 from (S6.below (Below.refl _ _).drew).cut HKI.out b8 own8)
            have HR1 := Lib.hid r1
            have HR2 := Lib.hid r2
            clear r1 r2 own8 b7 b8 S6 JN AG c5 HR6
            go_region_law (first | (refine step_append_run (by rfl) _ _ _ _ (by rfl) _ _ (by rfl) (by rfl) _ _ HR1.out ?_) | (refine step_append_run (by rfl) _ _ _ _ (by rfl) _ _ (by rfl) (by rfl) _ _ HR2.out ?_))
            all_goals
              go_wp2_with fail
              go_meet
              exact ⟨_, _, S8.out⟩
          | false =>
            obtain ⟨t, tC, tG, AD⟩ := Sh.out.add j9.out W9.out
            rw [HJ1.out] at AD
            have ADh := Lib.hid AD
            have TC := Lib.hid (hasno tC)
            have TG := Lib.hid (hasno tG)
            have tn : ¬ (t : Int) < 0 := by omega
            have n6 := Lib.hid (Nat.le_trans LN.out.1 j6.out)
            have m6 := Lib.hid (Nat.le_trans LN.out.2 j6.out)
            clear AD tC tG
            go_wp2_with fail
            with_reducible refine ADh.out.mono ?_
            rintro e w5 ⟨rfl, S5⟩
            dsimp only
            have H1 := Lib.hid (fun w' (k : Below w5.heap.size w5 w') => has18_any _ In (t : Int) w' ((S5.below k).nl.1) (by rw [HN.out]; exact lt60 n6.out))
            have H2 := Lib.hid (fun w' (k : Below w5.heap.size w5 w') => has18_any _ Go (t : Int) w' ((S5.below k).nl.2) (by rw [HM.out]; exact lt60 m6.out))
            rw [TC.out] at H1
            rw [TG.out] at H2
            have S5h := Lib.hid S5
            clear S5 ADh
            go_wp2_with fail
            with_reducible refine (H1.out _ (Below.refl _ _)).mono ?_
            rintro e w6 ⟨rfl, b6⟩
            dsimp only
            go_wp2_with fail
            with_reducible refine (H2.out _ b6).mono ?_
            rintro e w7 ⟨rfl, b7⟩
            dsimp only
            have S7 := S5h.out.below (b6.trans (b7.mono b6.size))
            have PG := SG.push (j := j) (by rw [HJ1.out]; exact S7) t 3 (by rw [HN.out]; exact LN.out.1) (Nat.le_of_lt j9.out)
            rw [HJ1.out] at PG
            obtain ⟨v8, w8, hr8, S8⟩ := PG
            have HR8 := Lib.hid hr8
            have S8h := Lib.hid S8
            clear S7 S8 hr8 b6 b7 H1 H2 S5h
            go_wp2_with (at_builtin; refine Lib.wpList_append_run _ rfl _ _ _ _ rfl _ _ rfl rfl _ _ HR8.out ?_)
            go_meet
            exact ⟨_, _, S8h.out⟩
        case rest =>
          obtain ⟨In2, Go2, S2⟩ := hcut
          clear Sh LN HN HM
          obtain ⟨⟨ia2, ic2, rfl⟩, ⟨ga2, gc2, rfl⟩⟩ := S2.sl
          obtain ⟨n2, hn2⟩ : ∃ n2, In2.length = n2 := ⟨_, rfl⟩
          obtain ⟨m2, hm2⟩ : ∃ m2, Go2.length = m2 := ⟨_, rfl⟩
          have HL2 := Lib.hid (Nat.le_trans S2.len.2 (show j1 ≤ 1000 from HJ1.out ▸ Nat.le_trans (Nat.succ_le_of_lt HT.out) (lt60 HLF.out)))
          rw [hm2] at HL2
          rw [hn2, hm2] at S2 ⊢
          have HN := Lib.hid hn2
          have HM := Lib.hid hm2
          have S2h := Lib.hid S2
          clear S2 hn2 hm2 o0 o1 o2 o3
          go_wp2_with fail
          go_loopw [14] (fun c w9 => ∃ k : Nat, k ≤ m2 ∧ c = .int .i64 (k : Int) ∧ SG w hb mb mm j1 (.slice ia2 n2 ic2) (.slice ga2 m2 gc2) In2 Go2 In2 Go2 w9) (fun c _ => m2 - (intOf c).toNat)
          case atStart => exact ⟨0, Nat.zero_le _, rfl, S2h.out⟩
          case round =>
            clear S2h
            obtain ⟨k, hk, rfl, S⟩ := hrel
            by_cases hlk : k < m2
            · obtain ⟨y1, y2, y3, y4, y5, y6⟩ := up18 hlk HL2.out
              have hkG : k < Go2.length := by rw [HM.out]; exact hlk
              obtain ⟨gb, go, rfl, q0⟩ := (S.nl.2).at18 hkG
              have AG := Lib.hid (show ∀ w', SG w hb mb mm j1 (.slice ia2 n2 ic2) (.slice (some ⟨gb, go, none⟩) m2 gc2) In2 Go2 In2 Go2 w' → w'.cell? ⟨gb, go + k, none⟩ = some (pe (Go2.getD k 0)) from fun w' s => by
                obtain ⟨b', o', e', hc⟩ := s.nl.2.at18 hkG
                injection e' with e'; injection e' with e1 e2
                subst e1; subst e2
                exact hc)
              have tm : Go2.getD k 0 ∈ Go2 := getD_mem hkG
              have CG := Lib.hid (S.get_no tm)
              have CS := Lib.hid (fun w' (s : SG w hb mb mm j1 (.slice ia2 n2 ic2) (.slice (some ⟨gb, go, none⟩) m2 gc2) In2 Go2 In2 Go2 w') => s.set_no 3 tm)
              have CD := Lib.hid (fun w' (s : SG w hb mb mm j1 (.slice ia2 n2 ic2) (.slice (some ⟨gb, go, none⟩) m2 gc2) In2 Go2 In2 Go2 w') => s.drop_no tm)
              have q00 : wr.cell? ⟨gb, go + k, none⟩ = some (.int .i64 ((Go2.getD k 0 : Nat) : Int)) := q0
              generalize Go2.getD k 0 = t at *
              have HK := Lib.hid hlk
              obtain ⟨k1, hk1⟩ : ∃ k1, k + 1 = k1 := ⟨_, rfl⟩
              rw [hk1] at y2 y3 y4
              have HK1 := Lib.hid hk1
              clear q0 hkG hlk S tm hk hk1
              go_wp2_with fail
              with_reducible refine CG.out.mono ?_
              rintro e w10 ⟨rfl, S10⟩
              dsimp only
              have c10 : w10.cell? ⟨gb, go + k, none⟩ = some (.int .i64 (t : Int)) := AG.out _ S10
              clear CG q00
              go_wp2_with fail
              with_reducible refine (CS.out _ S10).mono ?_
              rintro e w11 ⟨rfl, S11⟩
              dsimp only
              have c11 : w11.cell? ⟨gb, go + k, none⟩ = some (.int .i64 (t : Int)) := AG.out _ S11
              clear CS c10 S10
              go_wp2_with fail
              with_reducible refine (CD.out _ S11).mono ?_
              rintro e w12 ⟨rfl, S12⟩
              dsimp only
              have S12h := Lib.hid S12
              clear CD c11 S11 S12
              go_wp2_with fail
              go_roundw
              case rel => exact ⟨k1, by rw [← HK1.out]; exact HK.out, rfl, S12h.out⟩
              case measure => exact meas18 HK1.out HK.out
            · obtain rfl : m2 = k := Nat.le_antisymm (Nat.le_of_not_lt hlk) hk
              have klt : ¬ (m2 : Int) < (m2 : Int) := Int.lt_irrefl _
              have S3h := Lib.hid S
              clear S hk hlk
              go_wp2_with fail
              go_roundw
              case rel => exact ⟨j1, In2, Go2, by rw [← HJ1.out]; exact HT.out, rfl, S3h.out⟩
              case measure => exact meas18 HJ1.out HT.out
    · obtain rfl : nf = j := Nat.le_antisymm (Nat.le_of_not_lt hlt) hj
      have klt : ¬ (nf : Int) < (nf : Int) := Int.lt_irrefl _
      obtain ⟨⟨ia, ic, rfl⟩, ⟨ga, gc, rfl⟩⟩ := S.sl
      have CT := Lib.hid S.count
      have B6 := Lib.hid S.o
      generalize In.length = n at *
      clear S hj hlt
      go_wp2_with fail
      with_reducible refine CT.out.mono ?_
      rintro e w6 ⟨rfl, rfl⟩
      dsimp only
      go_wp2_with fail
      go_ret
      exact ⟨by simp, B6.out⟩
end Go.Proofs.Ytdenhhokckjjaaa
