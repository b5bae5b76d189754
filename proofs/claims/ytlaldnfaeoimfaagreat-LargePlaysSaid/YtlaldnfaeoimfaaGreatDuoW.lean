/-
  haymowlaw15.LargePlays, its walk.
-/
import Derived.Test.YtlaldnfaeoimfaaGreatDuoV
import Derived.Deep.CutRange
namespace Go.Proofs.YtlaldnfaeoimfaaGreat
open Go.RowKit
set_option linter.unusedVariables false

/-- at the head of a round -/
def LInv (w : World) (pb lb mb mm B j : Nat) (wr : World) : Prop := ∃ (R : Nat → Nat) (rm a b : Nat) (e f u h i : Value) (td : Nat) (L : List Ent) (Fr : List Nat) (Ws : List (List Nat)) (M O : List Nat), LB15 w R pb lb mb mm j rm a b e f u h i td L Fr Ws M O B wr
/-- behind do -/
def LMid (w : World) (pb lb mb mm B j sab q : Nat) (ok most : Value) (wx : World) : Prop := ∃ (R : Nat → Nat) (rm a b : Nat) (e f u h i : Value) (td : Nat) (L : List Ent) (Fr : List Nat) (Ws : List (List Nat)) (M O : List Nat) (m : Nat), ok = .bool true ∧ most = .int .u64 (m : Int) ∧ a + b ≤ sab + m ∧ m ≤ 1000 ∧ LB15 w R pb lb mb mm j rm a b e f u h i td L Fr Ws M O B wx ∧ WRow wx q sab
set_option maxRecDepth 100000 in
set_option maxHeartbeats 8000000 in
theorem lplays_in (F : List Op15) (w : World) (vl : Value) (hF : OL15 w vl F) :
    Calls Tryz.prog 3 #[vl] w fun e w' => e = .returned (.bool true) ∧ Below w.heap.size w w' := by
  have AW := Lib.hid (fun w => awake15_any w)
  have MD := Lib.hid (fun w => made15_ok w)
  have DN := Lib.hid (fun w => dnew_any w)
  have HF := Lib.hid hF
  obtain ⟨la, lc, rfl⟩ : ∃ a c, vl = .slice a F.length c := by obtain ⟨a, c, e, _⟩ := hF; exact ⟨a, c, e⟩
  obtain ⟨nf, hnf⟩ : ∃ nf, F.length = nf := ⟨_, rfl⟩
  have FW := Lib.hid (fun w' (k : Below w.heap.size w w') => few15_any la F.length lc F w' (hF.below k) rfl)
  rw [hnf] at FW ⊢
  have HNF := Lib.hid hnf
  clear hF hnf
  go_enter Tryz.func3, Tryz.ntmps3
  go_wp2_with fail
  with_reducible refine (AW.out _).mono ?_
  rintro e w1 ⟨rfl, b1⟩
  dsimp only
  go_wp2_with fail
  with_reducible refine (FW.out _ b1).mono ?_
  rintro e w1 ⟨bb, rfl, rfl, hb⟩
  dsimp only
  cases bb with
  | false =>
    go_wp2_with fail
    go_ret
    exact ⟨rfl, b1⟩
  | true =>
    have HLF := Lib.hid (hb rfl)
    clear hb FW AW
    go_wp2_with fail
    refine (MD.out _).mono ?_
    rintro e w2 ⟨mb, mm, R, pb, lb, rfl, S0⟩
    dsimp only
    have S0h := Lib.hid (S0.since b1)
    clear MD b1 S0
    go_wp2_with fail
    with_reducible refine (DN.out _).mono ?_
    rintro e w3 ⟨rfl, b3⟩
    dsimp only
    have S1 : LInv w pb lb mb mm w3.heap.size 0 _ := ⟨_, _, _, _, _, _, _, _, _, _, _, _, _, _, _, lb15_start S0h.out b3⟩
    clear S0h b3 DN
    go_upto_region 9 with fail
    generalize w3.alloc (.cells #[.int .i64 5, .slice none 0 0, .slice none 0 0, .int .i64 0, .slice none 0 0, .slice none 0 0, .slice none 0 0, .int .i64 0] 35) = w4 at *
    generalize w3.heap.size = B at *
    replace S1 := Lib.hid S1
    go_wp2_with fail
    go_loopw [5, 7] (fun ok c wr => ∃ j : Nat, j ≤ nf ∧ ok = .bool true ∧ c = .int .i64 (j : Int) ∧ LInv w pb lb mb mm B j wr) (fun _ c _ => nf - (intOf c).toNat)
    case atStart => exact ⟨0, Nat.zero_le _, rfl, rfl, S1.out⟩
    case round =>
      clear S1
      obtain ⟨j, hj, rfl, rfl, R, rm, a, b, e, f, u, h, i, td, L, Fr, Ws, M, O, S⟩ := hrel
      obtain ⟨ea, ec, fa, fc, ua, uc, ha, hc, ia, ic, rfl, rfl, rfl, rfl, rfl⟩ := S.s.d.forms
      by_cases hlt : j < nf
      · obtain ⟨lq, lo, rfl, ho, _⟩ := HF.out.at (k := j) (by rw [HNF.out]; exact hlt)
        have OC := Lib.hid (show ∀ w', Below w.heap.size w w' → (F.getD j Op15.none).at5 w' lq (lo + j * 5) from fun w' q => by
          obtain ⟨b', o', e, _, hc⟩ := (HF.out.below q).at (k := j) (by rw [HNF.out]; exact hlt)
          obtain ⟨rfl, rfl⟩ : b' = lq ∧ o' = lo := by injection e with e; injection e with e1 e2; exact ⟨e1.symm, e2.symm⟩
          exact hc)
        obtain ⟨jlt, e1, e2, e3, e4⟩ := plays_nums hlt HLF.out
        have HT := Lib.hid hlt
        have HO := Lib.hid ho
        have H59 := Lib.hid e4
        generalize F.getD j Op15.none = o at *
        have ab := S.s.ab
        obtain ⟨tot0, g0, _, _, _, _, _, _, c0, mr0, _⟩ := S.s.met (Nat.le_trans H59.out (by decide))
        have ST := Lib.hid (met_steps mr0 (Nat.le_trans ab (Nat.le_trans (Nat.mul_le_mul_left 1000 H59.out) (by decide))) wr (Below.refl _ _))
        have HAB := Lib.hid ab
        obtain ⟨j1, hj1⟩ : ∃ j1, j + 1 = j1 := ⟨_, rfl⟩
        rw [hj1] at e1 e2
        have HJ1 := Lib.hid hj1
        clear ho e4 hlt hj mr0 ab hj1
        go_wp2_with fail
        refine ST.out.mono ?_
        rintro e w4 ⟨rfl, b4⟩
        dsimp only
        have S4 := S.below b4
        clear S b4 ST c0
        go_upto_region 13 with fail
        have ZQ := S4.s.beyond (Nat.le_refl w4.heap.size)
        obtain ⟨sab, hsab⟩ : ∃ sab, a + b = sab := ⟨_, rfl⟩
        rw [hsab] at HAB ⊢
        have HSAB := Lib.hid hsab
        have QS : WRow (w4.alloc (.cells #[.int .u64 (hi sab), .int .u64 (Go.Proofs.YtlaldnfaeoimfaaGreat.lo sab)] 39)) w4.heap.size sab := Row.newAt w4 _ _ _ 2 _ rfl (wc2_new sab)
        have S5 := S4.below (w' := w4.alloc (.cells #[.int .u64 (hi sab), .int .u64 (Go.Proofs.YtlaldnfaeoimfaaGreat.lo sab)] 39)) (bAlloc (Below.refl _ _) _)
        have NB : w4.heap.size ≠ B := Nat.ne_of_gt S4.r.lt
        clear S4 hsab
        generalize w4.alloc (.cells #[.int .u64 (hi sab), .int .u64 (Go.Proofs.YtlaldnfaeoimfaaGreat.lo sab)] 39) = w5 at *
        generalize w4.heap.size = q at *
        have SD := S5.drew
        have QD1 : WRow w5.drew q sab := Row.drew QS
        have DC := Lib.hid (do15_any o HO.out w5.drew SD.s H59.out)
        obtain ⟨o0, o1, o2, o3, o4⟩ := OC.out _ S5.s.bel
        obtain ⟨kd, oa, ob, on, ow⟩ := o
        dsimp only [opv15] at o0 o1 o2 o3 o4 DC
        obtain ⟨s0, s1, s2, s3, s4, s5, s6, s7, sf, sl⟩ := dr_all S5.r
        replace SD := Lib.hid SD
        replace S5 := Lib.hid S5
        go_cut [5, 9] from 38 to 48 (fun ok most wx => LMid w pb lb mb mm B j1 sab q ok most wx)
        case first =>
          go_region_law (first | (go_simp; go_at_call 9; refine DC.out.mono ?_; rintro e w7 ⟨R', rm', a', b', e', f', u', h', i', td', L', Fr', Ws', M', O', most, rfl, S7, T7, hab, hmo⟩; obtain ⟨ea', ec', fa', fc', ua', uc', ha', hc', ia', ic', rfl, rfl, rfl, rfl, rfl⟩ := S7.d.forms; obtain ⟨r7, S8⟩ := SD.out.put S7 T7; have Q7 := QD1.tr T7 ZQ; obtain ⟨y0, y1, y2, y3, y4, y5, y6, y7, yf, yl⟩ := dr_all r7))
          all_goals
            go_wp2_with fail
            go_meet
            exact ⟨R', rm', a', b', _, _, _, _, _, td', L', Fr', Ws', M', O', most, rfl, rfl, HSAB.out ▸ hab, hmo, HJ1.out ▸ S8, Row.keeps Q7 (keeps8 w7 B _ _ _ _ _ _ _ _) NB⟩
        case rest =>
          clear s0 s1 s2 s3 s4 s5 s6 s7 sf sl o0 o1 o2 o3 o4 SD S5 QS QD1 DC ZQ NB OC
          obtain ⟨R', rm', a', b', e', f', u', h', i', td', L', Fr', Ws', M', O', m, rfl, rfl, hab, hm, S8, Q8⟩ := hcut
          obtain ⟨ea', ec', fa', fc', ua', uc', ha', hc', ia', ic', rfl, rfl, rfl, rfl, rfl⟩ := S8.s.d.forms
          generalize wc = w8 at *
          have hn1 : j1 ≤ 60 := by rw [← HJ1.out]; exact Nat.succ_le_succ H59.out
          obtain ⟨tot, g, ht, hr, hM, hO, hMO, hWs, c0, mr, SU, WO, CO⟩ := S8.s.met (Nat.le_trans hn1 (by decide))
          have ab := S8.s.ab
          have hab6 : a' + b' ≤ 1000000 := Nat.le_trans ab (Nat.le_trans (Nat.mul_le_mul_left 1000 hn1) (by decide))
          have hs6 : sab ≤ 1000000 := Nat.le_trans HAB.out (Nat.le_trans (Nat.mul_le_mul_left 1000 H59.out) (by decide))
          obtain ⟨h6, hh, hhe, n1, n2, n3, n4, n5, n6⟩ := six_nums hr ht
          obtain ⟨c, hc, n7, n8, n9⟩ := two_nums hM hO
          have HE := Lib.hid (met_held (w := w8) mr)
          rw [hhe] at HE
          have SI := Lib.hid (met_since (s := sab) mr hab6 hs6)
          have CM := Lib.hid (cmp_most15 (subv_few hab hm) hm)
          generalize subv (a' + b') sab = dif at SI CM
          have KP := Lib.hid (S8.keep (Nat.le_trans hn1 (by decide)) Q8)
          rw [hc] at CO
          have SUh := Lib.hid SU
          have WOh := Lib.hid WO
          have COh := Lib.hid CO
          have LE := Lib.hid S8
          have BB0 : Below w8.heap.size w8 w8 := Below.refl _ _
          clear hab hm S8 Q8 hn1 ht hr hM hO hMO hWs c0 mr SU WO CO ab hab6 hs6 hhe hc
          go_upto_region 14 with fail
          first
          | (
            go_region_held3 (fun w' => w'.cell? ⟨mb, 0, none⟩ = some (.pointer (some ⟨mm, 0, none⟩)) ∧ w'.cell? ⟨q, 0, none⟩ = some (.int .u64 (hi sab)) ∧ w'.cell? ⟨q, 1, none⟩ = some (.int .u64 (Go.Proofs.YtlaldnfaeoimfaaGreat.lo sab)) ∧ w'.cell? ⟨B, 0, none⟩ = some (.int .i64 5) ∧ w'.cell? ⟨B, 1, none⟩ = some (.slice ea' L'.length ec') ∧ w'.cell? ⟨B, 2, none⟩ = some (.slice fa' Fr'.length fc') ∧ w'.cell? ⟨B, 3, none⟩ = some (.int .i64 rm') ∧ w'.cell? ⟨B, 4, none⟩ = some (.slice ua' Ws'.length uc') ∧ w'.cell? ⟨B, 5, none⟩ = some (.slice ha' M'.length hc') ∧ w'.cell? ⟨B, 6, none⟩ = some (.slice ia' O'.length ic') ∧ w'.cell? ⟨B, 7, none⟩ = some (.int .i64 td'))
              (first | (refine KP.out _ ?_; repeat (first | with_reducible assumption | with_reducible refine Below.drew ?_)))
              (first
              | (go_at_call 11; with_reducible refine (SI.out _ ?_).mono ?_
                 · repeat (first | with_reducible assumption | with_reducible refine Below.drew ?_)
                 rintro y wa ⟨rfl, ba⟩
                 have BB1 : Below w8.heap.size w8 wa := bTrans (by repeat (first | with_reducible assumption | with_reducible refine Below.drew ?_)) ba)
              | (go_at_call 10; with_reducible refine (CM.out _).mono ?_
                 rintro y wb ⟨cc, rfl, hcc, hcd, bb⟩
                 have BB2 : Below w8.heap.size w8 wb := bTrans (by repeat (first | with_reducible assumption | with_reducible refine Below.drew ?_)) bb)
              | (go_at_call 12; with_reducible refine (HE.out _ ?_).mono ?_
                 · repeat (first | with_reducible assumption | with_reducible refine Below.drew ?_)
                 rintro y wd ⟨rfl, rfl⟩)
              | (go_at_call 13; with_reducible refine (SUh.out _ ?_).mono ?_
                 · repeat (first | with_reducible assumption | with_reducible refine Below.drew ?_)
                 rintro y we ⟨rfl, be⟩
                 have BB3 : Below w8.heap.size w8 we := bTrans (by repeat (first | with_reducible assumption | with_reducible refine Below.drew ?_)) be)
              | (go_at_call 14; with_reducible refine (WOh.out _ ?_).mono ?_
                 · repeat (first | with_reducible assumption | with_reducible refine Below.drew ?_)
                 rintro y wf ⟨rfl, rfl⟩)
              | (go_at_call 15; with_reducible refine (COh.out _ ?_).mono ?_
                 · repeat (first | with_reducible assumption | with_reducible refine Below.drew ?_)
                 rintro y wg ⟨rfl, bg⟩
                 have BB4 : Below w8.heap.size w8 wg := bTrans (by repeat (first | with_reducible assumption | with_reducible refine Below.drew ?_)) bg)))
          | fail "held"
          all_goals
            have LE2 := Lib.hid (LE.out.below BB4)
            clear LE KP SUh WOh COh HE SI CM BB0
            go_wp2_with fail
            go_roundw
            case rel => exact ⟨j1, by rw [← HJ1.out]; exact HT.out, rfl, by first | rfl | rw [e2], _, _, _, _, _, _, _, _, _, _, _, _, _, _, _, LE2.out⟩
            case measure => first | exact meas15 HJ1.out HT.out | (rw [e2]; exact meas15 HJ1.out HT.out)
      · obtain rfl : j = nf := Nat.le_antisymm hj (Nat.le_of_not_lt hlt)
        have jlt := irrefl_nat j
        have j60 := HLF.out
        have ab := S.s.ab
        obtain ⟨tot0, g0, _, _, hM, hO, _, hWs, c0, mr0, _⟩ := S.s.met (Nat.le_trans j60 (by decide))
        have hab6 : a + b ≤ 1000000 := Nat.le_trans ab (Nat.le_trans (Nat.mul_le_mul_left 1000 j60) (by decide))
        have ST := Lib.hid (met_steps mr0 hab6 wr (Below.refl _ _))
        have HAB := Lib.hid hab6
        have H60 := Lib.hid j60
        have HMO := Lib.hid (And.intro hM hO)
        have HWL := Lib.hid hWs
        clear hlt hj mr0 ab hab6 j60 hM hO hWs
        go_wp2_with fail
        refine ST.out.mono ?_
        rintro e w4 ⟨rfl, b4⟩
        dsimp only
        have S4 := S.below b4
        clear S b4 ST c0
        go_upto_region 17 with fail
        have ZQ := S4.s.beyond (Nat.le_refl w4.heap.size)
        obtain ⟨sab, hsab⟩ : ∃ sab, a + b = sab := ⟨_, rfl⟩
        rw [hsab] at HAB ⊢
        have HSAB := Lib.hid hsab
        have QS : WRow (w4.alloc (.cells #[.int .u64 (hi sab), .int .u64 (Go.Proofs.YtlaldnfaeoimfaaGreat.lo sab)] 39)) w4.heap.size sab := Row.newAt w4 _ _ _ 2 _ rfl (wc2_new sab)
        have S5 := S4.below (w' := w4.alloc (.cells #[.int .u64 (hi sab), .int .u64 (Go.Proofs.YtlaldnfaeoimfaaGreat.lo sab)] 39)) (bAlloc (Below.refl _ _) _)
        clear S4 hsab
        generalize w4.alloc (.cells #[.int .u64 (hi sab), .int .u64 (Go.Proofs.YtlaldnfaeoimfaaGreat.lo sab)] 39) = w5 at *
        generalize w4.heap.size = q at *
        have CT := Lib.hid (S5.s.told (Nat.le_trans H60.out (by decide)))
        go_wp2_with fail
        with_reducible refine CT.out.mono ?_
        rintro e w6 ⟨u6, a6, rfl, N6, ha6, T6, q6⟩
        dsimp only
        have S6 := S5.call T6 q6
        have Q6 : WRow w6 q sab := QS.tr T6 ZQ
        obtain ⟨nn, hnn⟩ : ∃ nn, (M ++ O).length = nn := ⟨_, rfl⟩
        obtain ⟨ta, tc, rfl⟩ : ∃ ta tc, u6 = .slice ta nn tc := by rw [← hnn]; exact N6.slice
        have nn2 : nn ≤ 200 := by rw [← hnn, List.length_append]; exact Nat.add_le_add HMO.out.1 HMO.out.2
        obtain ⟨m, hm, m1, m2, m3, m4, m5⟩ := len_nums nn2
        have hdif : a6 + b ≤ sab + m := by rw [← hm, ← hnn, ← HSAB.out, List.length_append]; omega
        have hs6 : sab ≤ 1000000 := HAB.out
        have ab6 := S6.s.ab
        have hab6 : a6 + b ≤ 1000000 := Nat.le_trans ab6 (Nat.le_trans (Nat.mul_le_mul_left 1000 (Nat.succ_le_succ H60.out)) (by decide))
        obtain ⟨tot1, g1, _, _, _, _, _, _, _, mr1, _⟩ := S6.s.met (Nat.le_trans (Nat.succ_le_succ H60.out) (by decide))
        have SI := Lib.hid (met_since (s := sab) mr1 hab6 hs6)
        have CM := Lib.hid (cmp_most15 (subv_few hdif m5) m5)
        generalize subv (a6 + b) sab = dif at SI CM
        have KP := Lib.hid (S6.keep (Nat.le_trans (Nat.succ_le_succ H60.out) (by decide)) Q6)
        have SM := Lib.hid (fun v w' (hu : NL pe w' v (M ++ O)) (k : Below w6.heap.size w6 w') => same_true (.slice ta nn tc) v (M ++ O) w' (N6.below k) hu (by rw [hnn]; exact Nat.le_trans nn2 (by decide)))
        have HNN := Lib.hid hnn
        have S6h := Lib.hid S6
        have BB0 : Below w6.heap.size w6 w6 := Below.refl _ _
        have OE := made_e w6
        have hM6 : 0 + M.length ≤ 1000000 := by rw [Nat.zero_add]; exact Nat.le_trans HMO.out.1 (by decide)
        have hO6 : M.length + O.length ≤ 1000000 := Nat.le_trans (Nat.add_le_add HMO.out.1 HMO.out.2) (by decide)
        clear S5 T6 q6 QS ZQ CT Q6 S6 N6 mr1 hab6 ab6 hs6 hdif m5 hm nn2 hnn ha6
        go_upto_region 18 with fail
        first
        | (
          go_region_held3 (fun w' => w'.cell? ⟨mb, 0, none⟩ = some (.pointer (some ⟨mm, 0, none⟩)) ∧ w'.cell? ⟨q, 0, none⟩ = some (.int .u64 (hi sab)) ∧ w'.cell? ⟨q, 1, none⟩ = some (.int .u64 (Go.Proofs.YtlaldnfaeoimfaaGreat.lo sab)) ∧ w'.cell? ⟨B, 0, none⟩ = some (.int .i64 5) ∧ w'.cell? ⟨B, 1, none⟩ = some (.slice ea L.length ec) ∧ w'.cell? ⟨B, 2, none⟩ = some (.slice fa Fr.length fc) ∧ w'.cell? ⟨B, 3, none⟩ = some (.int .i64 rm) ∧ w'.cell? ⟨B, 4, none⟩ = some (.slice ua Ws.length uc) ∧ w'.cell? ⟨B, 5, none⟩ = some (.slice ha M.length hc) ∧ w'.cell? ⟨B, 6, none⟩ = some (.slice ia O.length ic) ∧ w'.cell? ⟨B, 7, none⟩ = some (.int .i64 td))
            (first | (refine KP.out _ ?_; repeat (first | with_reducible assumption | with_reducible refine Below.drew ?_ | with_reducible refine bAlloc ?_ _)))
            (first
              | (refine step_append_ints_g (by rfl) _ _ (by rfl) (by rfl) w6.heap.size _ 0 [] (by rfl) ?_ _ M (by rfl) ?_ ?_ ?_ ?_
                 · first | with_reducible assumption | assumption
                 · refine WL.nl (DT.hr (B15.d (LB15.s (LB15.below S6h.out ?_))))
                   repeat (first | with_reducible assumption | with_reducible refine Below.drew ?_ | with_reducible refine bAlloc ?_ _)
                 · with_reducible assumption
                 · refine Below.size (show Below w6.heap.size w6 _ from ?_)
                   repeat (first | with_reducible assumption | with_reducible refine Below.drew ?_ | with_reducible refine bAlloc ?_ _)
                 intro v1 w7 own1 gr1 gx
                 obtain ⟨gb, gd, e1⟩ := owns_slice own1
                 rw [Nat.zero_add, List.nil_append] at own1
                 rw [Nat.zero_add] at e1
                 subst e1
                 have BB1 : Below w6.heap.size w6 w7 := by
                   refine Below.trans ?_ gr1
                   repeat (first | with_reducible assumption | with_reducible refine Below.drew ?_ | with_reducible refine bAlloc ?_ _))
              | (refine step_append_ints_g (by rfl) _ _ (by rfl) (by rfl) w6.heap.size _ M.length (M.map pe) (by rfl) ?_ _ O (by rfl) ?_ ?_ ?_ ?_
                 · exact own1
                 · refine WL.nl (DT.wh (B15.d (LB15.s (LB15.below S6h.out ?_))))
                   repeat (first | with_reducible assumption | with_reducible refine Below.drew ?_ | with_reducible refine bAlloc ?_ _)
                 · with_reducible assumption
                 · refine Below.size (show Below w6.heap.size w6 _ from ?_)
                   repeat (first | with_reducible assumption | with_reducible refine Below.drew ?_ | with_reducible refine bAlloc ?_ _)
                 intro v2 w8 own2 gr2 _
                 rw [← List.length_append, ← List.map_append] at own2
                 have NO2 := Lib.hid (nl_owns own2)
                 rw [HNN.out] at own2
                 obtain ⟨ga, gc, e2⟩ := owns_slice own2
                 subst e2
                 have BB2 : Below w6.heap.size w6 w8 := BB1.trans gr2)
              | (go_at_call 17; with_reducible refine (SM.out _ _ ?_ ?_).mono ?_
                 · exact NO2.out
                 · repeat (first | with_reducible assumption | with_reducible refine Below.drew ?_ | with_reducible refine bAlloc ?_ _)
                 rintro y w9 ⟨rfl, b9⟩
                 have BB3 : Below w6.heap.size w6 w9 := bTrans (by repeat (first | with_reducible assumption | with_reducible refine Below.drew ?_ | with_reducible refine bAlloc ?_ _)) b9)
              | (go_at_call 11; with_reducible refine (SI.out _ ?_).mono ?_
                 · repeat (first | with_reducible assumption | with_reducible refine Below.drew ?_ | with_reducible refine bAlloc ?_ _)
                 rintro y wa ⟨rfl, ba⟩
                 have BB4 : Below w6.heap.size w6 wa := bTrans (by repeat (first | with_reducible assumption | with_reducible refine Below.drew ?_ | with_reducible refine bAlloc ?_ _)) ba)
              | (go_at_call 10; with_reducible refine (CM.out _).mono ?_
                 rintro y wb ⟨cc, rfl, hcc, hcd, bb⟩
                 have BB5 : Below w6.heap.size w6 wb := bTrans (by repeat (first | with_reducible assumption | with_reducible refine Below.drew ?_ | with_reducible refine bAlloc ?_ _)) bb)))
        | fail "held"
        all_goals
          have S9 := S6h.out.below BB5
          have S9 : LB15 w R pb lb mb mm (j + 1 + 1) rm a6 b _ _ _ _ _ td L Fr Ws M O B _ := ⟨S9.s.up (Nat.le_trans (Nat.succ_le_succ H60.out) (by decide)), S9.r, S9.lo⟩
          have ab9 := Lib.hid S6h.out.s.ab
          have S9 := Lib.hid S9
          have A9 := Lib.hid (show a6 + b ≤ 1000 * (j + 1) + 4 * 0 from ab9.out)
          obtain ⟨n1, hn1⟩ : ∃ n1, Ws.length + 1 = n1 := ⟨_, rfl⟩
          have hw200 : Ws.length ≤ 200 := Nat.le_trans HWL.out (Nat.le_trans H60.out (by decide))
          obtain ⟨g1, g2⟩ := one_nums hw200
          rw [hn1] at g1 g2
          have HN1 := Lib.hid (show n1 ≤ 61 by rw [← hn1]; exact Nat.succ_le_succ (Nat.le_trans HWL.out H60.out))
          clear S6h KP SM SI CM BB0 OE BB1 BB2 BB3 BB4 BB5 ab9 hw200 hn1 gr1 own1 gr2 own2 gx NO2 b9 ba bb hcc hcd
          go_wp2_with fail
          go_loopw [13] (fun c wr => ∃ k a7 : Nat, k ≤ n1 + 1 ∧ c = .int .i64 (k : Int) ∧ LB15 w R pb lb mb mm (j + 1 + 1) rm a7 b (.slice ea L.length ec) (.slice fa Fr.length fc) (.slice ua Ws.length uc) (.slice ha M.length hc) (.slice ia O.length ic) td L Fr Ws M O B wr ∧ a7 + b ≤ 1000 * (j + 1) + 4 * k) (fun c _ => n1 + 1 - (intOf c).toNat)
          case atStart => exact ⟨0, a6, Nat.zero_le _, rfl, S9.out, A9.out⟩
          case round =>
            clear S9 A9
            obtain ⟨k, a7, hk, rfl, S, hab⟩ := hrel
            obtain ⟨s0, s1, s2, s3, s4, s5, s6, s7, sf, sl⟩ := dr_all S.r
            by_cases hlt : k ≤ n1
            · obtain ⟨p1, p2, p3⟩ := id_nums hlt (Nat.le_trans HN1.out (by decide))
              obtain ⟨k1, hk1⟩ : ∃ k1, k + 1 = k1 := ⟨_, rfl⟩
              rw [hk1] at p2 p3
              have CK := Lib.hid (known_any (k : Int) wr S.s (known_ab hab hlt HN1.out))
              have HT := Lib.hid hlt
              have HK1 := Lib.hid hk1
              have HA := Lib.hid hab
              have SH := Lib.hid S
              clear hk hlt hk1 hab S
              go_wp2_with fail
              with_reducible refine CK.out.mono ?_
              rintro y w10 ⟨a8, rfl, h8, T8, q8⟩
              dsimp only
              have S10 := Lib.hid (SH.out.call T8 q8)
              have HA8 := Lib.hid (known_up HA.out h8 HK1.out)
              clear s0 s1 s2 s3 s4 s5 s6 s7 sf sl CK SH T8 q8 h8
              go_wp2_with fail
              go_roundw
              case rel => exact ⟨k1, a8, by rw [← HK1.out]; exact Nat.succ_le_succ HT.out, by first | rfl | rw [p3], S10.out, HA8.out⟩
              case measure => first | exact id_meas HK1.out HT.out | (rw [p3]; exact id_meas HK1.out HT.out)
            · have klt : ¬ (k : Int) ≤ (n1 : Int) := fun q => hlt (Int.ofNat_le.1 q)
              have B9 := Lib.hid S.s.bel
              clear S hab hlt hk
              go_wp2_with fail
              go_ret
              exact ⟨rfl, B9.out⟩
end Go.Proofs.YtlaldnfaeoimfaaGreat
