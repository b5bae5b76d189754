/-
  haymowlaw07.MeterPlays, walked.
-/
import Derived.Test.YtogpojgikipkiaaRef01c
import Derived.Test.YtogpojgikipkiaaOps
namespace Go.Proofs.Ytogpojgikipkiaa
open Go.RowKit
set_option linter.unusedVariables false

theorem refsub_any (a b : Nat) (ha : N128 a) (hb : N128 b) (w : World) : Calls Try.prog 14 #[wv a, wv b] w fun e w' => e = .returned (.tuple #[wv (subv a b), .bool (subok a b)]) ∧ Below w.heap.size w w' := by
  rcases Nat.lt_or_ge a b with h | h
  · exact refsub_no a b ha hb h w
  · exact refsub_yes a b ha hb h w

theorem plays_long (a : Option Addr) (n c s : Nat) (hn : n ≤ maxLen) (h : 200 < n) (w : World) :
    Calls Try.prog 3 #[.slice a n c, wv s] w fun e w' => e = .returned (.bool true) ∧ Below w.heap.size w w' := by
  unfold maxLen at hn
  have hn' : (200 : Int) < (n : Int) := by omega
  clear h
  go_enter Try.func3, Try.ntmps3
  go_wp2_with (go_at_call 5; refine (awake_any _).mono ?_; rintro e w1 ⟨rfl, hb1⟩)
  go_ret
  exact ⟨rfl, bTrans (by repeat (first | exact Below.refl _ _ | (with_reducible assumption) | refine bAlloc ?_ _ | refine below_drewN ?_ _ | refine Below.drew ?_ | (refine bSet ?_ (by first | (dsimp only; omega) | (simp; done) | (simp; omega)) _) | refine bTrans ?_ (by assumption))) hb1⟩

set_option maxRecDepth 100000 in
set_option maxHeartbeats 20000000 in
theorem plays_walk (v : Value) (F : List (Int × Int)) (s : Nat) (hs : N128 s) (w : World) (hv : OList w v F) (hl : F.length ≤ 200) :
    Calls Try.prog 3 #[v, wv s] w fun e w' => e = .returned (.bool true) ∧ Below w.heap.size w w' := by
  obtain ⟨a, cap, rfl, hn, hm, hv'⟩ := hv
  have RV0 : WRow (w.alloc (.cells #[.int .u64 (hi s), .int .u64 (lo s)] 25)) w.heap.size s := Row.newAt w _ _ _ 2 _ rfl (wc2_new s)
  go_enter Try.func3, Try.ntmps3
  go_wp2_with fail
  refine (awake_any _).mono ?_
  rintro e w1 ⟨rfl, b1⟩
  have RV1 := RV0.below b1
  have B1 : Below w.heap.size w w1 := bTrans (by repeat (first | exact Below.refl _ _ | (with_reducible assumption) | refine bAlloc ?_ _ | refine below_drewN ?_ _ | refine Below.drew ?_ | (refine bSet ?_ (by first | (dsimp only; omega) | (simp; done) | (simp; omega)) _) | refine bTrans ?_ (by assumption))) b1
  clear RV0 b1
  dsimp only
  go_wp2_with fail
  refine (new_any w1).mono ?_
  rintro e w2 ⟨rfl, rfl⟩
  dsimp only
  have RV2 := RV1.alloc (.cells #[.int .i64 0, .int .i64 0, .int .u64 0, .int .u64 0, .int .u64 0, .int .u64 0] 55)
  have RM2 : MRow (w1.alloc (.cells #[.int .i64 0, .int .i64 0, .int .u64 0, .int .u64 0, .int .u64 0, .int .u64 0] 55)) w1.heap.size 0 0 0 0 := Row.newAt w1 _ _ _ 6 _ rfl mc_zero
  have B2 := bAlloc B1 (.cells #[.int .i64 0, .int .i64 0, .int .u64 0, .int .u64 0, .int .u64 0, .int .u64 0] 55)
  obtain ⟨m, hmm⟩ : ∃ m, m = w1.heap.size := ⟨_, rfl⟩
  have lm : w.heap.size ≤ m := by rw [hmm]; exact B1.size
  have lvm : w.heap.size < m := by rw [hmm]; exact RV1.lt
  rw [← hmm] at RM2
  rw [← hmm]
  generalize w1.alloc (.cells #[.int .i64 0, .int .i64 0, .int .u64 0, .int .u64 0, .int .u64 0, .int .u64 0] 55) = w2 at *
  clear hmm RV1 B1
  obtain ⟨vb, hvb⟩ : ∃ vb, vb = w.heap.size := ⟨_, rfl⟩
  have lv : w.heap.size ≤ vb := by omega
  rw [← hvb] at RV2 lvm
  rw [← hvb]
  clear hvb
  have RS3 : SRow (w2.alloc (.cells #[.int .u64 0, .int .u64 0, .int .u64 0, .int .u64 0, .int .i64 0, .int .i64 0] 31)) w2.heap.size 0 0 0 0 := Row.newAt w2 _ _ _ 6 _ rfl sc_zero
  have RV3 := RV2.alloc (.cells #[.int .u64 0, .int .u64 0, .int .u64 0, .int .u64 0, .int .i64 0, .int .i64 0] 31)
  have RM3 := RM2.alloc (.cells #[.int .u64 0, .int .u64 0, .int .u64 0, .int .u64 0, .int .i64 0, .int .i64 0] 31)
  have B3 := bAlloc B2 (.cells #[.int .u64 0, .int .u64 0, .int .u64 0, .int .u64 0, .int .i64 0, .int .i64 0] 31)
  obtain ⟨sb, hsb⟩ : ∃ sb, sb = w2.heap.size := ⟨_, rfl⟩
  have ls : w.heap.size ≤ sb := by rw [hsb]; exact B2.size
  have lms : m < sb := by rw [hsb]; exact RM2.lt
  have lvs : vb < sb := by rw [hsb]; exact RV2.lt
  rw [← hsb] at RS3
  go_upto_region 7 with fail
  rw [← hsb]
  generalize w2.alloc (.cells #[.int .u64 0, .int .u64 0, .int .u64 0, .int .u64 0, .int .i64 0, .int .i64 0] 31) = w3 at *
  clear hsb RM2 RV2 B2
  go_wp2_with fail
  go_loopw [7, 8, 9, 10, 11, 12] (fun i _ _ _ _ _ wr => ∃ (k a b : Nat) (h g : Int), k ≤ F.length ∧ i = .int .i64 (k : Int) ∧ N128 a ∧ N128 b ∧ Fit h g ∧ MRow wr m a b h g ∧ SRow wr sb a b h g ∧ WRow wr vb s ∧ Below w.heap.size w wr) (fun i _ _ _ _ _ _ => F.length - (intOf i).toNat)
  case atStart => exact ⟨0, 0, 0, 0, 0, by omega, rfl, N128_0, N128_0, by unfold Fit; omega, RM3, RS3, RV3, B3⟩
  case round =>
    obtain ⟨k, a, b, h, g, hk, rfl, ha, hb, hf, RM, RS, RV, BW⟩ := hrel
    by_cases hlt : k < F.length
    · obtain ⟨gl, off, rfl, hg, hc⟩ := hv'.resolve_left (by omega)
      obtain ⟨x, hx⟩ : ∃ x, F[k]? = some x := ⟨_, List.getElem?_eq_getElem hlt⟩
      obtain ⟨mk, mn⟩ := hm x (List.mem_of_getElem? hx)
      obtain ⟨kk, nn⟩ := x
      obtain ⟨c0, c1⟩ := hc k _ hx
      have e0 : wr.cell? ⟨gl, off + k * 2, none⟩ = some (.int .i64 kk) := (BW.cell (p := ⟨gl, off + k * 2, none⟩) hg).trans c0
      have e1 : wr.cell? ⟨gl, off + k * 2 + 1, none⟩ = some (.int .i64 nn) := (BW.cell (p := ⟨gl, off + k * 2 + 1, none⟩) hg).trans c1
      have i0 : (0 : Int) ≤ (k : Int) := by omega
      have i1 : (k : Int) < (F.length : Int) := by omega
      have mk' : kk ≤ 9223372036854775807 := mk
      have mn' : nn ≤ 9223372036854775807 := mn
      have C0 := Lib.hid (show w.cell? ⟨gl, off + k * 2, none⟩ = some (.int .i64 kk) from c0)
      have C1 := Lib.hid (show w.cell? ⟨gl, off + k * 2 + 1, none⟩ = some (.int .i64 nn) from c1)
      clear hc hx hv' c0 c1 mk mn
      go_upto_block 2 with fail
      go_cut [8, 9, 10] from 30 to 97 (fun _ _ _ wx => ∃ (a' b' : Nat) (h' g' : Int), N128 a' ∧ N128 b' ∧ Fit h' g' ∧ MRow wx m a' b' h' g' ∧ SRow wx sb a' b' h' g' ∧ WRow wx vb s ∧ Below w.heap.size w wx)
      case first =>
        obtain ⟨s0, s1, s2, s3, s4, s5, sf⟩ := RS.all
        by_cases h0 : kk = 0
        · subst h0
          have HO := Lib.hid (fun w' r => hold_any m a b h g nn hf mn' w' r)
          have RH := Lib.hid (fun w' => refhold_any a b h g nn hf mn' w')
          go_wp2_with fail
          refine (HO.out _ RM).mono ?_
          rintro e w4 ⟨rfl, RM4, b4⟩
          dsimp only
          have RS4 : SRow w4 sb a b h g := Row.bar RS b4 (by omega)
          have RV4 : WRow w4 vb s := Row.bar RV b4 (by omega)
          have BW4 := Bar.on BW b4 lm
          have e2 : w4.cell? ⟨gl, off + k * 2 + 1, none⟩ = some (.int .i64 nn) := ((BW4.cell (p := ⟨gl, off + k * 2 + 1, none⟩) hg).trans (BW.cell (p := ⟨gl, off + k * 2 + 1, none⟩) hg).symm).trans e1
          clear RM RS RV BW b4 s0 s1 s2 s3 s4 s5 sf e0 e1
          obtain ⟨s0, s1, s2, s3, s4, s5, sf⟩ := RS4.all
          go_wp2_with fail
          go_region_with (go_at_call 8; with_reducible refine (RH.out _).mono ?_; rintro e w5 ⟨rfl, b5⟩; have RS5 := SRow.below (by first | exact RS4 | exact RS4.drew) b5; obtain ⟨t0, t1, t2, t3, t4, t5, tf⟩ := RS5.all)
          all_goals
            go_wp2_with fail
            go_meet
            have RM5 := MRow.below (by first | exact RM4 | exact RM4.drew) b5
            have RV5 := WRow.below (by first | exact RV4 | exact RV4.drew) b5
            have BW5 := bTrans (by first | exact BW4 | exact BW4.drew) b5
            exact ⟨_, _, _, _, ha, hb, hf.hold, Row.far6 RM5 (Nat.ne_of_gt lms) _ _ _ _ _ _, RS5.setS _ _ _ _, Row.far6 RV5 (Nat.ne_of_gt lvs) _ _ _ _ _ _, bSix BW5 ls _ _ _ _ _ _⟩
        · by_cases h1 : kk = 1
          · subst h1
            have HO := Lib.hid (fun w' r => free_any m a b h g nn hf mn' w' r)
            have RH := Lib.hid (fun w' => reffree_any a b h g nn hf mn' w')
            go_wp2_with fail
            refine (HO.out _ RM).mono ?_
            rintro e w4 ⟨rfl, RM4, b4⟩
            dsimp only
            have RS4 : SRow w4 sb a b h g := Row.bar RS b4 (by omega)
            have RV4 : WRow w4 vb s := Row.bar RV b4 (by omega)
            have BW4 := Bar.on BW b4 lm
            have e2 : w4.cell? ⟨gl, off + k * 2 + 1, none⟩ = some (.int .i64 nn) := ((BW4.cell (p := ⟨gl, off + k * 2 + 1, none⟩) hg).trans (BW.cell (p := ⟨gl, off + k * 2 + 1, none⟩) hg).symm).trans e1
            clear RM RS RV BW b4 s0 s1 s2 s3 s4 s5 sf e0 e1
            obtain ⟨s0, s1, s2, s3, s4, s5, sf⟩ := RS4.all
            go_wp2_with fail
            go_region_with (go_at_call 10; with_reducible refine (RH.out _).mono ?_; rintro e w5 ⟨rfl, b5⟩; have RS5 := SRow.below (by first | exact RS4 | exact RS4.drew) b5; obtain ⟨t0, t1, t2, t3, t4, t5, tf⟩ := RS5.all)
            all_goals
              go_wp2_with fail
              go_meet
              have RM5 := MRow.below (by first | exact RM4 | exact RM4.drew) b5
              have RV5 := WRow.below (by first | exact RV4 | exact RV4.drew) b5
              have BW5 := bTrans (by first | exact BW4 | exact BW4.drew) b5
              exact ⟨_, _, _, _, ha, hb, hf.free, Row.far6 RM5 (Nat.ne_of_gt lms) _ _ _ _ _ _, RS5.setS _ _ _ _, Row.far6 RV5 (Nat.ne_of_gt lvs) _ _ _ _ _ _, bSix BW5 ls _ _ _ _ _ _⟩
          · skip
            have KI := Lib.hid (fun w' => (kind_any kk nn w' mk').mono (fun e w'' (h : _ ∧ _) => (show e = .returned (.int .i64 (kindv kk)) ∧ Below w'.heap.size w' w'' from ⟨h.1, h.2 ▸ bAlloc (Below.refl _ _) _⟩)))
            have SP := Lib.hid (fun q w' r => step_any m a b h g q nn ha hb mn' w' r)
            have RP := Lib.hid (fun q w' => refstep_any a b h g q nn ha hb mn' w')
            have k0 : (kk == 0) = false := by simp [h0]
            have k1 : (kk == 1) = false := by simp [h1]
            have na := Lib.hid (fun q n => stepv_N (q := 0) (k := q) (n := n) ha)
            have nb := Lib.hid (fun q n => stepv_N (q := 1) (k := q) (n := n) hb)
            generalize kindv kk = q at *
            go_wp2_with fail
            first
            | (
              go_region_held3 (fun w' => w'.cell? ⟨gl, off + k * 2, none⟩ = some (.int .i64 kk) ∧ w'.cell? ⟨gl, off + k * 2 + 1, none⟩ = some (.int .i64 nn))
                (first | (refine pairKeep C0.out C1.out hg ?_; repeat (first | assumption | refine Below.drew ?_ | refine bSix ?_ ls _ _ _ _ _ _)))
                (first
                  | (go_at_call 12; with_reducible refine (KI.out _).mono ?_; rintro e w4 ⟨rfl, b4⟩
                     have RM4 := MRow.below (by first | exact RM | exact RM.drew) b4
                     have RS4 := SRow.below (by first | exact RS | exact RS.drew) b4
                     have RV4 := WRow.below (by first | exact RV | exact RV.drew) b4
                     have BW4 := bTrans (by first | exact BW | exact BW.drew) b4)
                  | (go_at_call 11; with_reducible refine (SP.out q _ RM4).mono ?_; rintro e w5 ⟨rfl, RM5, b5⟩
                     have RS5 : SRow w5 sb a b h g := Row.bar RS4 b5 (Nat.ne_of_gt lms)
                     have RV5 : WRow w5 vb s := Row.bar RV4 b5 (Nat.ne_of_lt lvm)
                     have BW5 := Bar.on BW4 b5 lm))
              )
            | fail "held"
            have g0 : w5.cell? ⟨gl, off + k * 2, none⟩ = some (.int .i64 kk) := (pairKeep C0.out C1.out hg BW5).1
            have g1 : w5.cell? ⟨gl, off + k * 2 + 1, none⟩ = some (.int .i64 nn) := (pairKeep C0.out C1.out hg BW5).2
            obtain ⟨t0, t1, t2, t3, t4, t5, tf⟩ := RS5.all
            clear RM RS RV BW RM4 RS4 RV4 BW4 b4 b5 s0 s1 s2 s3 s4 s5 sf e0 e1
            go_wp2_with fail
            go_region_with (first
                | (go_at_call 12; with_reducible refine (KI.out _).mono ?_; rintro e w6 ⟨rfl, b6⟩
                   have RM6 := MRow.below (by first | exact RM5 | exact RM5.drew) b6
                   have RS6 := SRow.below (by first | exact RS5 | exact RS5.drew) b6
                   have RV6 := WRow.below (by first | exact RV5 | exact RV5.drew) b6
                   have BW6 := bTrans (by first | exact BW5 | exact BW5.drew) b6
                   have g2 := (pairKeep C0.out C1.out hg BW6).2
                   obtain ⟨x0, x1, x2, x3, x4, x5, xf⟩ := RS6.all)
                | (go_at_call 13; with_reducible refine (RP.out q _).mono ?_; rintro e w7 ⟨rfl, b7⟩
                   have RM7 := RM6.below b7
                   have RS7 := RS6.below b7
                   have RV7 := RV6.below b7
                   have BW7 := bTrans BW6 b7
                   obtain ⟨y0, y1, y2, y3, y4, y5, yf⟩ := RS7.all))
            all_goals
                go_wp2_with fail
                go_meet
                exact ⟨_, _, _, _, na.out _ _, nb.out _ _, hf, Row.far6 RM7 (Nat.ne_of_gt lms) _ _ _ _ _ _, RS7.setS _ _ _ _, Row.far6 RV7 (Nat.ne_of_gt lvs) _ _ _ _ _ _, bSix BW7 ls _ _ _ _ _ _⟩
      case rest =>
        clear RM RS RV BW e0 e1 ha hb hf
        obtain ⟨a, b, h, g, ha, hb, hf, RM, RS, RV, BW⟩ := hcut
        have T0 : Thr w m sb vb a b h g s wc := ⟨RM, RS, RV, BW⟩
        have RT := Lib.hid (fun w' => refsteps_any a b h g ha hb w')
        have SU := Lib.hid (fun w' => refsub_any (addv a b) s (N128_addv a b) hs w')
        have LT0 := Lib.hid T0.lt
        clear RM RS RV BW
        go_upto_region 24 with fail
        go_cut [11, 12] from 98 to 104 (fun v _ wx => ∃ lb : Nat, v = at0 lb ∧ All w m sb vb lb a b h g s (subv (addv a b) s) wx)
        case first =>
          first
          | (
            go_region_held3 (fun w' => w'.cell? ⟨sb, 0, none⟩ = some (.int .u64 (hi a)) ∧ w'.cell? ⟨sb, 1, none⟩ = some (.int .u64 (lo a)) ∧ w'.cell? ⟨sb, 2, none⟩ = some (.int .u64 (hi b)) ∧ w'.cell? ⟨sb, 3, none⟩ = some (.int .u64 (lo b)) ∧ w'.cell? ⟨sb, 4, none⟩ = some (.int .i64 h) ∧ w'.cell? ⟨sb, 5, none⟩ = some (.int .i64 g) ∧
                w'.cell? ⟨vb, 0, none⟩ = some (.int .u64 (hi s)) ∧ w'.cell? ⟨vb, 1, none⟩ = some (.int .u64 (lo s)))
              (first | (refine Thr.keep (W := w) (m := m) (a := a) (b := b) (h := h) (g := g) (s := s) ?_; repeat (first | assumption | refine Thr.drew ?_ | refine Thr.alloc ?_ _ | refine Thr.set2 ?_ ?_ ?_ ?_ ?_ _ _ | omega)))
              (first
                | (go_at_call 15; with_reducible refine (RT.out _).mono ?_; rintro e w1 ⟨rfl, b1⟩
                   have T1 : Thr w m sb vb a b h g s w1 := Thr.below (by repeat (first | assumption | refine Thr.drew ?_ | refine Thr.alloc ?_ _)) b1
                   obtain ⟨p1, p2, p3, p4⟩ := T1.lt
                   try (refine lay (p := Row w1 wc.heap.size 2 (fun _ => .int .u64 0)) ?_ (fun RN1 => ?_)
                        · refine Row.below ?_ b1
                          (try refine Row.drew ?_)
                          exact Row.newAt _ _ _ _ 2 _ rfl zero2))
                | (go_at_call 14; with_reducible refine (SU.out _).mono ?_; rintro e w2 ⟨rfl, b2⟩
                   have T2 : Thr w m sb vb a b h g s w2 := Thr.below (by repeat (first | assumption | refine Thr.drew ?_ | refine Thr.alloc ?_ _)) b2
                   obtain ⟨q1, q2, q3, q4⟩ := LT0.out
                   try (refine lay (p := Row w2 w1.heap.size 2 (fun _ => .int .u64 0)) ?_ (fun RN2 => ?_)
                        · refine Row.below ?_ b2
                          (try refine Row.drew ?_)
                          exact Row.newAt _ _ _ _ 2 _ rfl zero2)
                   try (refine lay (p := Row w2 wc.heap.size 2 (fun _ => .int .u64 0)) ?_ (fun RN2 => ?_)
                        · refine Row.below ?_ b2
                          first | exact RN1 | exact Row.drew RN1)
                   try (obtain ⟨e0, e1, e2, e3, e4⟩ := RN2.zz)))
            )
          | fail "held"
          all_goals
            go_wp2_with fail
            go_meet
            first
              | exact ⟨_, rfl, (T2.set2 (by assumption) (by assumption) (by assumption) (by assumption) _ _).and (RN2.setW _)⟩
              | exact ⟨_, rfl, (T2.alloc _).and (Row.newAt _ _ _ _ 2 _ rfl (wc2_new _))⟩
        case rest =>
          obtain ⟨lb, rfl, A0⟩ := hcut
          have HE := Lib.hid (fun w' r => held_any m a b h g w' r)
          have HI := Lib.hid (fun w' r => high_any m a b h g w' r)
          have O0 := Lib.hid (fun w' r => of_reads m a b h g w' r)
          have O1 := Lib.hid (fun w' r => of_writes m a b h g w' r)
          have O2 := fun w' => of_far m 2 (by omega) w'
          simp only [wv, hi_0, lo_0] at O2
          have O2' := Lib.hid O2
          have ST := Lib.hid (fun w' r => steps_any m a b h g ha hb w' r)
          have SI := Lib.hid (fun w' r => since_any m a b h g ha hb s hs w' r)
          clear O2 SU T0 LT0
          generalize hld : subv (addv a b) s = l at *
          clear hld
          generalize addv a b = t at *
          go_upto_region 25 with fail
          first
          | (
            go_region_held3 (fun w' => w'.cell? ⟨sb, 0, none⟩ = some (.int .u64 (hi a)) ∧ w'.cell? ⟨sb, 1, none⟩ = some (.int .u64 (lo a)) ∧ w'.cell? ⟨sb, 2, none⟩ = some (.int .u64 (hi b)) ∧ w'.cell? ⟨sb, 3, none⟩ = some (.int .u64 (lo b)) ∧ w'.cell? ⟨sb, 4, none⟩ = some (.int .i64 h) ∧ w'.cell? ⟨sb, 5, none⟩ = some (.int .i64 g) ∧
                w'.cell? ⟨vb, 0, none⟩ = some (.int .u64 (hi s)) ∧ w'.cell? ⟨vb, 1, none⟩ = some (.int .u64 (lo s)) ∧ w'.cell? ⟨lb, 0, none⟩ = some (.int .u64 (hi l)) ∧ w'.cell? ⟨lb, 1, none⟩ = some (.int .u64 (lo l)))
              (first | (refine All.keep (W := w) (m := m) (a := a) (b := b) (h := h) (g := g) (s := s) (l := l) ?_; repeat (first | assumption | refine All.drew ?_)))
              (first
                | (go_at_call 16; with_reducible refine (HE.out _ ?_).mono ?_
                   · refine All.rm (W := w) (sb := sb) (vb := vb) (lb := lb) (s := s) (l := l) ?_
                     repeat (first | assumption | refine All.drew ?_)
                   rintro e w1 ⟨rfl, rfl⟩)
                | (go_at_call 17; with_reducible refine (HI.out _ ?_).mono ?_
                   · refine All.rm (W := w) (sb := sb) (vb := vb) (lb := lb) (s := s) (l := l) ?_
                     repeat (first | assumption | refine All.drew ?_)
                   rintro e w1 ⟨rfl, rfl⟩)
                | (go_at_call 18; with_reducible refine (O0.out _ ?_).mono ?_
                   · refine All.rm (W := w) (sb := sb) (vb := vb) (lb := lb) (s := s) (l := l) ?_
                     repeat (first | assumption | refine All.drew ?_)
                   rintro e w1 ⟨rfl, b1⟩
                   have A1 : All w m sb vb lb a b h g s l w1 := All.below (by repeat (first | assumption | refine All.drew ?_)) b1)
                | (go_at_call 18; with_reducible refine (O1.out _ ?_).mono ?_
                   · refine All.rm (W := w) (sb := sb) (vb := vb) (lb := lb) (s := s) (l := l) ?_
                     repeat (first | assumption | refine All.drew ?_)
                   rintro e w2 ⟨rfl, b2⟩
                   have A2 : All w m sb vb lb a b h g s l w2 := All.below (by repeat (first | assumption | refine All.drew ?_)) b2)
                | (go_at_call 18; with_reducible refine (O2'.out _).mono ?_
                   rintro e w6 ⟨rfl, b6⟩
                   have A6 : All w m sb vb lb a b h g s l w6 := All.below (by repeat (first | assumption | refine All.drew ?_)) b6)
                | (go_at_call 19; with_reducible refine (ST.out _ ?_).mono ?_
                   · refine All.rm (W := w) (sb := sb) (vb := vb) (lb := lb) (s := s) (l := l) ?_
                     repeat (first | assumption | refine All.drew ?_)
                   rintro e w3 ⟨rfl, b3⟩
                   have A3 : All w m sb vb lb a b h g s l w3 := All.below (by repeat (first | assumption | refine All.drew ?_)) b3)
                | (go_at_call 15; with_reducible refine (RT.out _).mono ?_
                   rintro e w4 ⟨rfl, b4⟩
                   have A4 : All w m sb vb lb a b h g s l w4 := All.below (by repeat (first | assumption | refine All.drew ?_)) b4)
                | (go_at_call 20; with_reducible refine (SI.out _ ?_).mono ?_
                   · refine All.rm (W := w) (sb := sb) (vb := vb) (lb := lb) (s := s) (l := l) ?_
                     repeat (first | assumption | refine All.drew ?_)
                   rintro e w5 ⟨rfl, b5⟩
                   have A5 : All w m sb vb lb a b h g s l w5 := All.below (by repeat (first | assumption | refine All.drew ?_)) b5))
            )
          | fail "held"
          all_goals
            go_wp2_with fail
            go_roundw
            case rel => exact ⟨k + 1, a, b, h, g, by omega, by go_num, ha, hb, hf, All.rm (by assumption), All.rs (by assumption), All.rv (by assumption), All.rb (by assumption)⟩
            case measure => simp [intOf]; try omega
    · obtain rfl : k = F.length := by omega
      clear hv'
      go_wp2_with fail
      go_ret
      exact ⟨rfl, BW⟩

end Go.Proofs.Ytogpojgikipkiaa
