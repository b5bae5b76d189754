/-
  haymowlaw17.FramesPlay, its walk.
-/
import Derived.Test.YtgicgaogoeihpaaPlayV
import Derived.Deep.CutRange
namespace Go.Proofs.Ytgicgaogoeihpaa
open Go.RowKit
set_option linter.unusedVariables false

set_option maxRecDepth 100000 in
set_option maxHeartbeats 16000000 in
theorem fplay_in (F : List Op17) (w : World) (vl : Value) (hF : OL17 w vl F) :
    Calls Try.prog 3 #[vl] w fun e w' => e = .returned (.bool true) ∧ Below w.heap.size w w' := by
  have AW := Lib.hid (fun w => awake17_any w)
  have MD := Lib.hid (fun w => made17_ok w)
  have HF := Lib.hid hF
  obtain ⟨la, lc, rfl⟩ : ∃ a c, vl = .slice a F.length c := by obtain ⟨a, c, e, _⟩ := hF; exact ⟨a, c, e⟩
  obtain ⟨nf, hnf⟩ : ∃ nf, F.length = nf := ⟨_, rfl⟩
  rw [hnf]
  have HNF := Lib.hid hnf
  clear hF hnf
  by_cases big : 60 < nf
  · have b2 : (60 : Int) < (nf : Int) := by omega
    go_enter Try.func3, Try.ntmps3
    go_wp2_with fail
    with_reducible refine (AW.out _).mono ?_
    rintro e w1 ⟨rfl, b1⟩
    dsimp only
    go_wp2_with fail
    go_ret
    exact ⟨rfl, b1⟩
  · have sm : ¬ (60 : Int) < (nf : Int) := by omega
    have HLF := Lib.hid (show nf ≤ 60 by omega)
    go_enter Try.func3, Try.ntmps3
    go_wp2_with fail
    with_reducible refine (AW.out _).mono ?_
    rintro e w1 ⟨rfl, b1⟩
    dsimp only
    go_wp2_with fail
    refine (MD.out _).mono ?_
    rintro e w2 ⟨mb, mm, R, fb, rfl, S0⟩
    dsimp only
    have S1 := Lib.hid (show PInv w fb mb mm (.slice none 0 0) (.int .i64 0) 0 w2 from ⟨R, [], 0, 0, 0, rfl, ⟨S0.since b1, YW.nil _ _, by omega, .inl rfl⟩⟩)
    clear MD b1 S0 AW big sm
    go_wp2_with fail
    go_loopw [5, 6, 7, 8] (fun ok v r c wr => ∃ j : Nat, j ≤ nf ∧ ok = .bool true ∧ c = .int .i64 (j : Int) ∧ PInv w fb mb mm v r j wr) (fun _ _ _ c _ => nf - (intOf c).toNat)
    case atStart => exact ⟨0, Nat.zero_le _, rfl, rfl, S1.out⟩
    case round =>
      clear S1
      obtain ⟨j, hj, rfl, rfl, R, S, rm, a, b, rfl, Q⟩ := hrel
      by_cases hlt : j < nf
      · obtain ⟨lq, lo, rfl, ho, _⟩ := HF.out.at (k := j) (by rw [HNF.out]; exact hlt)
        have OC := Lib.hid (show ∀ w', Below w.heap.size w w' → (F.getD j Op17.none).at3 w' lq (lo + j * 3) from fun w' q => by
          obtain ⟨b', o', e, _, hc⟩ := (HF.out.below q).at (k := j) (by rw [HNF.out]; exact hlt)
          obtain ⟨rfl, rfl⟩ : b' = lq ∧ o' = lo := by injection e with e; injection e with e1 e2; exact ⟨e1.symm, e2.symm⟩
          exact hc)
        obtain ⟨jlt, e1, e2, e3, e4, e5⟩ := up17 hlt (Nat.le_trans HLF.out (by decide))
        obtain ⟨h59, h998⟩ := play_nums hlt HLF.out
        have HT := Lib.hid hlt
        have H59 := Lib.hid h59
        have H998 := Lib.hid h998
        generalize F.getD j Op17.none = o at *
        obtain ⟨c0, g0, mr0⟩ := Q.s.met
        have ST := Lib.hid (met_steps17 mr0 (ab17 Q.ab (Nat.le_trans H59.out (by decide))) wr (Below.refl _ _))
        have HAB := Lib.hid Q.ab
        obtain ⟨j1, hj1⟩ : ∃ j1, j + 1 = j1 := ⟨_, rfl⟩
        rw [hj1] at e1 e2 e3
        have HJ1 := Lib.hid hj1
        obtain ⟨va, vc, rfl⟩ := Q.d.slice
        rw [rev_len] at Q ⊢
        clear ho hlt hj mr0 hj1 h59 h998
        go_wp2_with fail
        refine ST.out.mono ?_
        rintro e w4 ⟨rfl, b4⟩
        dsimp only
        have Q4 := Q.below b4
        clear Q b4 ST c0
        go_upto_region 14 with fail
        have ZQ := Q4.s.beyond (Nat.le_refl w4.heap.size)
        obtain ⟨sab, hsab⟩ : ∃ sab, a + b = sab := ⟨_, rfl⟩
        rw [hsab] at HAB ⊢
        have HSAB := Lib.hid hsab
        have QS : WRow (w4.alloc (.cells #[.int .u64 (hi sab), .int .u64 (Go.Proofs.Ytgicgaogoeihpaa.lo sab)] 31)) w4.heap.size sab := Row.newAt w4 _ _ _ 2 _ rfl (wc2_new sab)
        have Q5 := Q4.below (w' := w4.alloc (.cells #[.int .u64 (hi sab), .int .u64 (Go.Proofs.Ytgicgaogoeihpaa.lo sab)] 31)) (bAlloc (Below.refl _ _) _)
        clear Q4 hsab
        generalize w4.alloc (.cells #[.int .u64 (hi sab), .int .u64 (Go.Proofs.Ytgicgaogoeihpaa.lo sab)] 31) = w5 at *
        generalize w4.heap.size = q at *
        have DC := Lib.hid (do17_any o w5 Q5 H998.out)
        obtain ⟨o0, o1, o2⟩ := OC.out _ Q5.s.bel
        have GE := Lib.hid Q5.ge
        obtain ⟨kd, on, ow⟩ := o
        dsimp only [opv17] at o0 o1 o2 DC
        clear Q5
        go_wp2_with fail
        refine DC.out.mono ?_
        rintro e w7 ⟨R', rm', S', a', b', v', m, rfl, Q7, T7, hab, hm, rr⟩
        dsimp only
        have W7 : WRow w7 q sab := QS.tr T7 ZQ
        obtain ⟨va', vc', rfl⟩ := Q7.d.slice
        have LS := Q7.lens.1
        obtain ⟨sl, hsl⟩ : ∃ sl, S'.length = sl := ⟨_, rfl⟩
        rw [rev_len, hsl] at Q7 ⊢
        rw [hsl] at LS
        have WO := Lib.hid (show ∀ w', Below w7.heap.size w7 w' → Calls Try.prog 10 #[.slice va' sl vc'] w' fun e w'' => e = .returned (.int .i64 (fwn S' : Int)) ∧ w' = w'' from fun w' k => by
          have C := ywords_any _ _ S'.reverse w' (Q7.d.below k) (by rw [List.reverse_reverse]; exact Nat.le_trans Q7.lens.2.2.2 (by decide))
          rw [List.reverse_reverse] at C; exact C)
        have RO := Lib.hid (fun w' => yroom_any (fwn S') rm rm' rr GE.out (Nat.le_trans Q7.lens.2.2.2 (by decide)) w')
        clear o0 o1 o2 DC OC QS ZQ T7 rr GE
        go_wp2_with fail
        with_reducible refine (WO.out _ (Below.refl _ _)).mono ?_
        rintro e w8 ⟨rfl, rfl⟩
        dsimp only
        go_wp2_with fail
        with_reducible refine (RO.out _).mono ?_
        rintro e w8 ⟨rfl, rfl⟩
        dsimp only
        clear RO
        have Q7h := Lib.hid Q7
        have HSL := Lib.hid hsl
        clear hsl
        go_upto_if 56 with fail
        go_cut [11] from 57 to 63 (fun t wx => t = .int .i64 (fsl S' : Int) ∧ wx = w7)
        case first =>
          clear W7
          cases S' with
          | nil =>
            obtain rfl : 0 = sl := HSL.out
            clear Q7 Q7h WO LS
            go_wp2_with fail
            go_meet
            exact ⟨rfl, rfl⟩
          | cons x T =>
            obtain ⟨hx1, bb, off, ua, uc, rfl, c0, hx2⟩ := Q7.q.last
            clear hx1 hx2
            obtain ⟨tl, etl, m1, m2, m3, m4, m5, m6, m7, m8, m9, m10, m11, m12⟩ := top17 HSL.out LS
            rw [etl] at c0
            clear Q7 Q7h WO LS HSL etl
            go_wp2_with fail
            go_meet
            exact ⟨rfl, rfl⟩
        case rest =>
          clear WO LS
          obtain ⟨rfl, rfl⟩ := hcut
          have Q8 := Q7h.out
          obtain ⟨c0, g1, mr1⟩ := Q8.s.met
          have HE := Lib.hid (met_held17 mr1)
          have SI := Lib.hid (met_since17 (s := sab) mr1 (ab17 Q8.ab (Nat.succ_le_succ H59.out)) (ab17 HAB.out (Nat.le_trans H59.out (by decide))))
          have CM := Lib.hid (cmp_most17 (subv_few17 (HSAB.out ▸ hab) hm) hm)
          generalize subv (a' + b') sab = dif at SI CM
          have KP := Lib.hid (keep17 Q8 W7)
          have WOr := Lib.hid (fun w' k => (Q8.s.below (w' := w') k).words)
          have DEp := Lib.hid (fun w' k => (Q8.s.below (w' := w') k).depth)
          have SLt := Lib.hid (fun w' k => (Q8.s.below (w' := w') k).slots)
          have WO2 := Lib.hid (show ∀ w', Below wc.heap.size wc w' → Calls Try.prog 10 #[.slice va' sl vc'] w' fun e w'' => e = .returned (.int .i64 (fwn S' : Int)) ∧ w' = w'' from fun w' k => by
            have C := ywords_any _ _ S'.reverse w' (Q8.d.below k) (by rw [List.reverse_reverse]; exact Nat.le_trans Q8.lens.2.2.2 (by decide))
            rw [List.reverse_reverse] at C; exact C)
          rw [HSL.out] at DEp
          have BB0 : Below wc.heap.size wc wc := Below.refl _ _
          generalize fwn S' = fz at *
          generalize fsl S' = tz at *
          have KP0 := KP.out _ BB0
          obtain ⟨k0, k1, k2⟩ := KP0
          have HJ60 := Lib.hid (Nat.succ_le_succ H59.out)
          clear Q8 Q7 W7 mr1 c0 hab hm HSAB HAB
          go_upto_region 19 with fail
          first
          | (
            go_region_held3 (fun w' => w'.cell? ⟨mb, 0, none⟩ = some (at0 mm) ∧ w'.cell? ⟨q, 0, none⟩ = some (.int .u64 (hi sab)) ∧ w'.cell? ⟨q, 1, none⟩ = some (.int .u64 (Go.Proofs.Ytgicgaogoeihpaa.lo sab)))
              (first | (refine KP.out _ ?_; repeat (first | with_reducible assumption | with_reducible refine Below.drew ?_)))
              (first
              | (go_at_call 12; with_reducible refine (SI.out _ ?_).mono ?_
                 · repeat (first | with_reducible assumption | with_reducible refine Below.drew ?_)
                 rintro y wa ⟨rfl, ba⟩
                 have BB1 : Below wc.heap.size wc wa := bTrans (by repeat (first | with_reducible assumption | with_reducible refine Below.drew ?_)) ba)
              | (go_at_call 11; with_reducible refine (CM.out _).mono ?_
                 rintro y wb ⟨cc, rfl, hcc, hcd, bb⟩
                 have BB2 : Below wc.heap.size wc wb := bTrans (by repeat (first | with_reducible assumption | with_reducible refine Below.drew ?_)) bb)
              | (go_at_call 13; with_reducible refine (HE.out _ ?_).mono ?_
                 · repeat (first | with_reducible assumption | with_reducible refine Below.drew ?_)
                 rintro y wd ⟨rfl, rfl⟩)
              | (go_at_call 14; with_reducible refine (WOr.out _ ?_).mono ?_
                 · repeat (first | with_reducible assumption | with_reducible refine Below.drew ?_)
                 rintro y we ⟨rfl, be⟩
                 have BB3 : Below wc.heap.size wc we := bTrans (by repeat (first | with_reducible assumption | with_reducible refine Below.drew ?_)) be)
              | (go_at_call 10; with_reducible refine (WO2.out _ ?_).mono ?_
                 · repeat (first | with_reducible assumption | with_reducible refine Below.drew ?_)
                 rintro y wf ⟨rfl, rfl⟩)
              | (go_at_call 15; with_reducible refine (DEp.out _ ?_).mono ?_
                 · repeat (first | with_reducible assumption | with_reducible refine Below.drew ?_)
                 rintro y wg ⟨rfl, rfl⟩)
              | (go_at_call 16; with_reducible refine (SLt.out _ ?_).mono ?_
                 · repeat (first | with_reducible assumption | with_reducible refine Below.drew ?_)
                 rintro y wh ⟨rfl, rfl⟩)))
          | fail "held"
          all_goals
            have QF := Lib.hid (Q7h.out.below BB3)
            clear Q7h KP HE SI CM WOr WO2 DEp SLt BB0 BB1 BB2 BB3 ba bb be hcc hcd k0 k1 k2
            go_wp2_with fail
            go_roundw
            case rel => exact ⟨j1, by rw [← HJ1.out]; exact HT.out, rfl, by first | rfl | rw [e2], _, S', rm', a', b', rfl, by rw [← HJ1.out]; exact QF.out⟩
            case measure => first | exact meas17 HJ1.out HT.out | (rw [e2]; exact meas17 HJ1.out HT.out)
      · obtain rfl : j = nf := Nat.le_antisymm hj (Nat.le_of_not_lt hlt)
        have jlt : ¬ (j : Int) < (j : Int) := Int.lt_irrefl _
        have Q9 := Lib.hid Q.q
        obtain ⟨va, vc, rfl⟩ := Q.q.slice
        clear Q hlt hj HF HLF HNF
        go_wp2_with fail
        go_loopw [6] (fun v wr => ∃ S, QInv w fb mb mm v S wr) (fun v _ => vl17 v)
        case atStart => exact ⟨S, Q9.out⟩
        case round =>
          clear Q9
          obtain ⟨S, Q⟩ := hrel
          obtain ⟨va, vc, rfl⟩ := Q.slice
          cases S with
          | nil =>
            replace Q : QInv w fb mb mm (.slice va 0 vc) [] wr := Q
            have PN := Lib.hid Q.pop_nil
            have BL := Lib.hid Q.bel
            clear Q
            rw [show ([] : List (List Nat)).length = 0 from rfl]
            go_wp2_with fail
            with_reducible refine PN.out.mono ?_
            rintro e w3 ⟨rfl, rfl⟩
            dsimp only
            go_wp2_with fail
            go_ret
            exact ⟨rfl, BL.out⟩
          | cons x T =>
            obtain ⟨sl, hsl⟩ : ∃ sl, (x :: T).length = sl := ⟨_, rfl⟩
            have LS := Q.lens.1
            have LX := Lib.hid (Q.lens.2 x (by simp))
            rw [hsl] at Q LS ⊢
            obtain ⟨hx1, bb, off, ua, uc, rfl, c0, TI⟩ := Q.last
            obtain ⟨tl, etl, m1, m2, m3, m4, m5, m6, m7, m8, m9, m10, m11, m12⟩ := top17 hsl LS
            have cp := cap17 m7 Q.cap
            have s1 := fun w => slice_to17 (some ⟨bb, off, none⟩) sl vc tl cp w
            have s2 := fun w => slice_to17' (some ⟨bb, off, none⟩) sl vc tl cp w
            rw [etl] at c0
            have TI0 := Lib.hid TI
            have ETL := Lib.hid etl
            have M7 := Lib.hid m7
            obtain ⟨xl, hxl⟩ : ∃ xl, x.length = xl := ⟨_, rfl⟩
            rw [hxl] at c0 LX
            have HX := Lib.hid hxl
            clear hx1 Q LS hsl TI etl cp hxl
            go_wp2_with fail
            go_loopw [13] (fun c wr => ∃ k : Nat, k ≤ xl ∧ c = .int .i64 (k : Int) ∧ TInv w fb mb mm (.slice (some ⟨bb, off, none⟩) sl vc) ua uc x T wr) (fun c _ => xl - (intOf c).toNat)
            case atStart => exact ⟨0, Nat.zero_le _, rfl, TI0.out⟩
            case round =>
              clear TI0 c0
              obtain ⟨k, hk, rfl, TI⟩ := hrel
              by_cases hlt : k < xl
              · obtain ⟨u1, u2, u3, u4, u5, u6⟩ := up17 hlt (Nat.le_trans LX.out (by decide))
                obtain ⟨b0, o0, rfl, CA⟩ := TI.at (i := k) (by rw [HX.out]; exact hlt)
                have C := Lib.hid (TI.get (k := k) (by rw [HX.out]; exact hlt))
                have CAh := Lib.hid CA
                have HT := Lib.hid hlt
                obtain ⟨k1, hk1⟩ : ∃ k1, k + 1 = k1 := ⟨_, rfl⟩
                rw [hk1] at u2 u3 u4
                have HK1 := Lib.hid hk1
                obtain ⟨y, hy⟩ : ∃ y, x.getD k 0 = y := ⟨_, rfl⟩
                rw [hy] at C CAh
                have yy : ((y : Int) != (y : Int)) = false := by simp
                clear TI hk hlt hk1 CA hy
                go_wp2_with fail
                with_reducible refine C.out.mono ?_
                rintro e w4 ⟨rfl, T4⟩
                dsimp only
                have cg := CAh.out w4 ⟨T4, trivial⟩
                have T4h := Lib.hid T4
                clear C CAh T4
                go_wp2_with fail
                go_roundw
                case rel => exact ⟨k1, by rw [← HK1.out]; exact HT.out, by first | rfl | rw [u3], T4h.out⟩
                case measure => first | exact meas17 HK1.out HT.out | (rw [u3]; exact meas17 HK1.out HT.out)
              · obtain rfl : k = xl := Nat.le_antisymm hk (Nat.le_of_not_lt hlt)
                have klt : ¬ (k : Int) < (k : Int) := Int.lt_irrefl _
                have C := Lib.hid TI.q.pop
                clear TI hk hlt
                go_wp2_with fail
                with_reducible refine C.out.mono ?_
                rintro e w4 ⟨rfl, Q4⟩
                dsimp only
                rw [ETL.out] at Q4
                have Q4h := Lib.hid Q4
                clear C Q4
                go_wp2_with fail
                go_roundw
                case rel => exact ⟨T, Q4h.out⟩
                case measure => exact vm17 M7.out
end Go.Proofs.Ytgicgaogoeihpaa
